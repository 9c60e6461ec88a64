/-
  The document's filters: Filter.
-/
import Derived.Test.YtobdegmlijnogaaJ35
import Derived.Test.YtobdegmlijnogaaJ34
import Derived.Test.YtobdegmlijnogaaJ10
import Derived.Test.YtobdegmlijnogaaJ32
import Derived.Deep.CutRange
import Derived.Test.YtobdegmlijnogaaJ09
import Derived.Test.YtobdegmlijnogaaJ18
namespace Go.Proofs.Ytobdegmlijnogaa
open Go.ChangeShapes Go.WideShapes Go.ChangeAt Go.RowKit

theorem cell_fr' {S : List Nat} {w w' : World} (f : Fr S w w') {p : Addr} {v : Value} (hp : p.block ∉ S) (h : w.cell? p = some v) : w'.cell? p = some v := by
  rw [World.cell?_of_block (w := w) (f.block _ (World.block_lt_of_cell? w _ h) hp)]; exact h
theorem makeB_run (w : World) {n : Nat} (hc : n ≤ 1000000000) : (Instr.makeSlice 27 (.int .i64 (n : Int)) (.int .i64 (n : Int))).run Try.prog w = .ok (.slice (some ⟨w.heap.size, 0, none⟩) n n) (w.alloc (.cells (madeCells #[.int .u8 0] n) 5)) := by
  obtain ⟨i0, hi, hz0, hz1, hz2⟩ := info_parts infoB
  have h := run_make (P := Try.prog) w 27 5 i0 (.int .u8 0) Try.underlying27 hi hz0 .i64 .i64 (n : Int) (n : Int) (by omega) (by omega) (by rw [hz2]; omega) (by omega)
  simpa [hz1, Value.cells] using h
theorem wpList_append_by1 {w : World} {ops : Array Oper} {rest : List Oper} {o : Oper} {a : Act} {Q : Exit → Act → World → Prop} (hgd : o.guard = none) (s x : Operand)
    (ho : o.op = .call { callee := .builtin .append, args := #[s, x], argTypes := #[27, 27] }) (base : Nat) (hbase : base ≤ w.heap.size) (v : Value) (n : Nat) (xs : List Value) (hs : a.eval s = v) (hown : w.ownsRow base 5 1 v n xs) (G : Nat) (hx : a.eval x = .slice (some ⟨G, 0, none⟩) 1 1) {u : Value} {T : TypeId} (hG : w.heap[G]? = some (.cells #[u] T (0, 0)))
    (hu : u.oneCell' = true) (hl : n ≤ 100000000000)
    (h : ∀ v' w', w'.ownsRow base 5 1 v' (n + 1) (xs ++ [u]) → w.grownBy w' v.ownBlock → wpList Try.prog ops Q rest (a.put o.dst v') w') :
    wpList Try.prog ops Q (o :: rest) a w := by
  obtain ⟨i0, hi, hz0, hz1, hz2⟩ := info_parts infoB
  refine wpList_append_own_at w hgd s x 27 ho base 5 i0 _ 1 1 Try.underlying27 hi hz0 hz1 hz2 rfl (by decide) v n xs hs hown ⟨G, 0, none⟩ 1 1 [u] hx rfl ?_ ?_ (by unfold maxLen; omega) (by omega) hbase fun v' w' h1 h2 _ _ => h v' w' h1 h2
  · intro j u' hj
    rw [Addr.add_lit, Nat.zero_add, blk_cell hG, ← Array.getElem?_toList]
    exact hj
  · intro u' hu'
    simp at hu'
    subst hu'; exact hu
/-- The cells of a row of numbers that is not empty. -/
theorem own_at {w : World} {B : Nat} {v : Value} {t : Nat} {xs : List Value} (o : w.ownsRow B 37 1 v t xs) (h : 0 < t) : ∃ lb lc, v = .slice (some ⟨lb, 0, none⟩) t lc ∧ B ≤ lb ∧ t ≤ lc ∧ ∀ j u, xs[j]? = some u → w.cell? ⟨lb, j, none⟩ = some u := by
  rcases o.2 with ⟨_, h0⟩ | ⟨g, cap, cur, rfl, hB, h3, h4, h5⟩
  · omega
  · exact ⟨g, cap, rfl, hB, by omega, fun j u hj => by have := o.cells rfl j u hj; rwa [Addr.add_lit, Nat.zero_add] at this⟩
end Go.Proofs.Ytobdegmlijnogaa
namespace Go.Proofs.Ytobdegmlijnogaa
open Go.ChangeShapes Go.WideShapes Go.ChangeAt Go.RowKit

end Go.Proofs.Ytobdegmlijnogaa
namespace Go.Proofs.Ytobdegmlijnogaa
open Go.ChangeShapes Go.WideShapes Go.ChangeAt Go.RowKit

theorem usN_last (ps : Ps) : ∀ i, (usN ps (i + 1)).getLast? = some (userL (kA ps i))
  | i => by
    unfold usN
    split
    · assumption
    · simp
theorem usN_next (ps : Ps) (i : Nat) : usN ps (i + 1) = if i ≠ 0 ∧ userL (kA ps (i - 1)) = userL (kA ps i) then usN ps i else usN ps i ++ [userL (kA ps i)] := by
  conv => lhs; unfold usN
  rcases i with _ | i
  · rw [if_neg (by simp [usN]), if_neg (by simp)]
  · have := usN_last ps i
    rw [this, Nat.add_sub_cancel]
    by_cases h : userL (kA ps i) = userL (kA ps (i + 1))
    · rw [if_pos (by rw [h]), if_pos ⟨by omega, h⟩]
    · rw [if_neg (by simpa using h), if_neg (fun e => h e.2)]
/-- The file has grown. -/
theorem IdxC.file {w0 W W' : World} {B : Nat} {fv fv' iv : Value} {qs : Ps} {ys : List Value} {m : Nat} (h : IdxC w0 W B fv iv qs) (o : W.ownsRow B 5 1 fv m ys) (g : W.grownBy W' fv.ownBlock) (q : fv'.ownBlock = fv.ownBlock ∨ fv'.ownBlock = some W.heap.size) : IdxC w0 W' B fv' iv qs := by
  obtain ⟨cs, oi, h2⟩ := h
  refine ⟨cs, ownsRow_of_block oi fun k hk => g.block k (oi.lt k hk).2 (fun e => own_types oi o (by decide) k hk e.symm), fun j p hj => ?_⟩
  obtain ⟨kv, vv, c0, c1, r0, r1, d, b0⟩ := h2 j p hj
  refine ⟨kv, vv, c0, c1, r0, ownsRow_of_block r1 fun k hk => g.block k (r1.lt k hk).2 (fun e => d k hk e.symm), fun k hk e => ?_, b0⟩
  rcases q with q | q
  · rw [q] at e; exact d k hk e
  · rw [q, Option.some.injEq] at e
    have := (r1.lt k hk).2
    omega
/-- User keys as they came. -/
def UsC (w0 W : World) (B : Nat) (v : Value) (rs : List (List Nat)) : Prop := ∃ cs, W.ownsRow B 27 1 v rs.length cs ∧ ∀ (j : Nat) (r : List Nat), rs[j]? = some r → ∃ a c, cs[j]? = some (.slice a r.length c) ∧ Rd w0 (.slice a r.length c) (bv r) ∧ By r ∧ r.length ≤ 140737488355328
theorem UsC.nil (w0 W : World) (B : Nat) : UsC w0 W B (.slice none 0 0) [] := ⟨[], World.ownsRow_nil _ _ _ _, fun j p h => by simp at h⟩
theorem UsC.of {w0 W W' : World} {B : Nat} {v : Value} {rs : List (List Nat)} (h : UsC w0 W B v rs) (hb : ∀ k, v.ownBlock = some k → W'.heap[k]? = W.heap[k]?) : UsC w0 W' B v rs := by
  obtain ⟨cs, o, r⟩ := h
  exact ⟨cs, ownsRow_of_block o hb, r⟩
theorem UsC.fr {w0 W W' : World} {B : Nat} {v : Value} {rs : List (List Nat)} (h : UsC w0 W B v rs) (f : Fr [] W W') : UsC w0 W' B v rs := h.of fun k hk => by obtain ⟨cs, o, _⟩ := h; exact f.block k (o.lt k hk).2 (by simp)
theorem UsC.rd {w0 w : World} {B : Nat} {v : Value} {rs : List (List Nat)} (h : UsC w0 w B v rs) (f : Fr [] w0 w) : RdL w v rs := by
  obtain ⟨cs, o, l⟩ := h
  rcases o.2 with ⟨rfl, h0⟩ | ⟨g, cap, cur, rfl, _, h3, h4, h5⟩
  · have : rs = [] := List.eq_nil_of_length_eq_zero h0
    subst this
    exact ⟨none, 0, rfl, fun h => by simp at h⟩
  · refine ⟨_, cap, rfl, fun _ => ⟨g, 0, rfl, fun j r hj => ?_⟩⟩
    obtain ⟨a, c, k1, k2, k3⟩ := l j r hj
    have := o.cells rfl j _ k1
    rw [Addr.add_lit] at this
    exact ⟨a, c, this, k2.fr f, k3⟩
theorem UsC.app {w0 W W' : World} {B : Nat} {v v' : Value} {rs : List (List Nat)} {r : List Nat} {cs : List Value} {a : Option Addr} {c : Nat} (o : W.ownsRow B 27 1 v rs.length cs) (l : ∀ (j : Nat) (r : List Nat), rs[j]? = some r → ∃ a c, cs[j]? = some (.slice a r.length c) ∧ Rd w0 (.slice a r.length c) (bv r) ∧ By r ∧ r.length ≤ 140737488355328) (o' : W'.ownsRow B 27 1 v' (rs.length + 1) (cs ++ [.slice a r.length c])) (h1 : Rd w0 (.slice a r.length c) (bv r)) (h2 : By r) (h3 : r.length ≤ 140737488355328) : UsC w0 W' B v' (rs ++ [r]) := by
  refine ⟨_, by rw [List.length_append]; exact o', fun j r' hj => ?_⟩
  have hcl : cs.length = rs.length := by have := o.1; omega
  by_cases hjl : j < rs.length
  · rw [List.getElem?_append_left hjl] at hj
    obtain ⟨a', c', k⟩ := l j r' hj
    exact ⟨a', c', by rw [List.getElem?_append_left (by omega)]; exact k.1, k.2⟩
  · have hje : j = rs.length := by
      rcases Nat.lt_or_ge j (rs.length + 1) with h' | h'
      · omega
      · rw [List.getElem?_eq_none (by simp; omega)] at hj; cases hj
    subst hje
    rw [List.getElem?_append_right (Nat.le_refl _), Nat.sub_self] at hj
    simp at hj
    subst hj
    exact ⟨a, c, by rw [List.getElem?_append_right (by omega), hcl, Nat.sub_self]; rfl, h1, h2, h3⟩
theorem UsC.file {w0 W W' : World} {B B' : Nat} {v fv : Value} {rs : List (List Nat)} {ys : List Value} {m : Nat} (h : UsC w0 W B v rs) (o : W.ownsRow B' 5 1 fv m ys) (g : W.grownBy W' fv.ownBlock) : UsC w0 W' B v rs := h.of fun k hk => by
  obtain ⟨cs, o', _⟩ := h
  exact g.block k (o'.lt k hk).2 (fun e => own_types o' o (by decide) k hk e.symm)
theorem plan_file {W W' : World} {B p : Nat} {fv : Value} {ys : List Value} {m : Nat} {cs : Array Value} (h : W.heap[p]? = some (.cells cs 24 (0, 0))) (o : W.ownsRow B 5 1 fv m ys) (g : W.grownBy W' fv.ownBlock) : W'.heap[p]? = some (.cells cs 24 (0, 0)) := by
  rw [g.block _ (blk_lt h) (fun e => own_not o h (by decide) e.symm)]; exact h
theorem Gro.rd {w w1 : World} {B B' : Nat} {v v1 u : Value} {xs ys : List Nat} (h : Gro w w1 B v v1 xs) (o : w.ownsRow B' 5 1 u ys.length (bv ys)) (hd : ∀ k, u.ownBlock = some k → v.ownBlock ≠ some k) : Rd w1 u (bv ys) :=
  Rd.ownB (ownsRow_of_block o fun k hk => h.fr.block k (o.lt k hk).2 (fun e => hd k hk (by rw [Option.mem_toList] at e; exact e)))
/-- append of bytes to a row that grows. -/
theorem wpList_app_gro {w0 w : World} {ops : Array Oper} {rest : List Oper} {o : Oper} {a : Act} {Q : Exit → Act → World → Prop} (hgd : o.guard = none) (s x : Operand)
    (ho : o.op = .call { callee := .builtin .append, args := #[s, x], argTypes := #[27, 27] }) {B : Nat} {v0 v : Value} {cur ns : List Nat} (G : Gro w0 w B v0 v cur) (hB : B ≤ w.heap.size) (hs : a.eval s = v) (sx : Value) (hr : Rd w sx (bv ns)) (hx : a.eval x = sx) (hl : cur.length + ns.length ≤ 140737488355328) (Z : Nat) (hZ : Z = (cur ++ ns).length)
    (h : ∀ a' k' w', Gro w0 w' B v0 (.slice a' Z k') (cur ++ ns) → B ≤ w'.heap.size → wpList Try.prog ops Q rest (a.put o.dst (.slice a' Z k')) w') :
    wpList Try.prog ops Q (o :: rest) a w := by
  refine wpList_append_rd hgd s x ho B hB v cur.length (bv cur) hs G.own sx (bv ns) hx hr bv_one (by rw [bv_len]; exact hl) ?_
  intro v' w' o' g' q'
  rw [show cur.length + (bv ns).length = (cur ++ ns).length from by rw [bv_len, List.length_append], ← bv_append] at o'
  have G' := G.grow o' g' q'
  obtain ⟨a', k', rfl, _⟩ := ownsRow_slice o'
  subst hZ
  exact h a' k' w' G' (Nat.le_trans hB g'.size)
/-- What the document's Build holds ahead of a round. -/
structure RB (w wr : World) (most r : Nat) (bits : Int) (tab : Int) (ps : Ps) (D : List Ps) (fr i : Nat) (v6 v7 v8 : Value) : Prop where
  eq : D ++ chs most (ps.drop fr) = chs most ps
  fi : fr ≤ i
  nf : filF most (ps.drop fr) (ps.length - i) (i - fr) = fil most (ps.drop fr)
  en : i = ps.length → fr = ps.length
  ob : wr.ownsRow w.heap.size 5 1 v6 (datL r D).length (bv (datL r D))
  ix : IdxC w wr w.heap.size v6 v7 (idxF r 0 D)
  us : UsC w wr w.heap.size v8 (usN ps i)
  pb : wr.heap[w.heap.size]? = some (.cells #[.int .i64 (most : Int), .int .i64 (r : Int), .int .i64 bits, .int .i64 tab] 24 (0, 0))
  fw : Fr [] w wr
theorem RB.quiet {w wr W : World} {most r : Nat} {bits tab : Int} {ps : Ps} {D : List Ps} {fr i : Nat} {v6 v7 v8 : Value} (h : RB w wr most r bits tab ps D fr i v6 v7 v8) (f : Fr [] wr W) : RB w W most r bits tab ps D fr i v6 v7 v8 :=
  ⟨h.eq, h.fi, h.nf, h.en, ownsRow_fr h.ob f, h.ix.fr f, h.us.fr f, f.at h.pb (by simp), h.fw.trans f⟩
/-- What lies in memory. -/
structure RC (w W : World) (most r : Nat) (bits tab : Int) (D : List Ps) (v6 v7 v8 : Value) (rs : List (List Nat)) : Prop where
  ob : W.ownsRow w.heap.size 5 1 v6 (datL r D).length (bv (datL r D))
  ix : IdxC w W w.heap.size v6 v7 (idxF r 0 D)
  us : UsC w W w.heap.size v8 rs
  pb : W.heap[w.heap.size]? = some (.cells #[.int .i64 (most : Int), .int .i64 (r : Int), .int .i64 bits, .int .i64 tab] 24 (0, 0))
  fw : Fr [] w W
theorem RB.rc {w wr : World} {most r : Nat} {bits tab : Int} {ps : Ps} {D : List Ps} {fr i : Nat} {v6 v7 v8 : Value} (h : RB w wr most r bits tab ps D fr i v6 v7 v8) : RC w wr most r bits tab D v6 v7 v8 (usN ps i) := ⟨h.ob, h.ix, h.us, h.pb, h.fw⟩
theorem RC.fr {w W W' : World} {most r : Nat} {bits tab : Int} {D : List Ps} {v6 v7 v8 : Value} {rs : List (List Nat)} (h : RC w W most r bits tab D v6 v7 v8 rs) (f : Fr [] W W') : RC w W' most r bits tab D v6 v7 v8 rs := ⟨ownsRow_fr h.ob f, h.ix.fr f, h.us.fr f, f.at h.pb (by simp), h.fw.trans f⟩
/-- A user key more. -/
theorem RC.user {w W W' : World} {most r : Nat} {bits tab : Int} {D : List Ps} {v6 v7 v8 v8' : Value} {rs : List (List Nat)} (h : RC w W most r bits tab D v6 v7 v8 rs) {rs' : List (List Nat)} (u : UsC w W' w.heap.size v8' rs') (g : W.grownBy W' v8.ownBlock) : RC w W' most r bits tab D v6 v7 v8' rs' := by
  obtain ⟨cs, o, _⟩ := h.us
  have h6 : ∀ k, v6.ownBlock = some k → v8.ownBlock ≠ some k := own_types h.ob o (by decide)
  refine ⟨ownsRow_of_block h.ob fun k hk => g.block k (h.ob.lt k hk).2 (fun e => h6 k hk e.symm), ?_, u, ?_, h.fw.grown g (fun k hk => .inr (o.lt k hk).1)⟩
  · obtain ⟨ci, oi, hi⟩ := h.ix
    have h7 : ∀ k, v7.ownBlock = some k → v8.ownBlock ≠ some k := own_types oi o (by decide)
    refine ⟨ci, ownsRow_of_block oi fun k hk => g.block k (oi.lt k hk).2 (fun e => h7 k hk e.symm), fun j p hj => ?_⟩
    obtain ⟨kv, vv, c0, c1, r0, r1, d⟩ := hi j p hj
    have hv : ∀ k, vv.ownBlock = some k → v8.ownBlock ≠ some k := own_types r1 o (by decide)
    exact ⟨kv, vv, c0, c1, r0, ownsRow_of_block r1 fun k hk => g.block k (r1.lt k hk).2 (fun e => hv k hk e.symm), d⟩
  · rw [g.block _ (blk_lt h.pb) (fun e => own_not o h.pb (by decide) e.symm)]; exact h.pb
/-- An entry of the index more. -/
theorem RC.entry {w W W' : World} {most r : Nat} {bits tab : Int} {D : List Ps} {v6 v7 v8 : Value} {rs : List (List Nat)} (h : RC w W most r bits tab D v6 v7 v8 rs) (g : W.grownBy W' v7.ownBlock) {cs : List Value} {m : Nat} (o : W.ownsRow w.heap.size 41 2 v7 m cs) :
    W'.ownsRow w.heap.size 5 1 v6 (datL r D).length (bv (datL r D)) ∧ UsC w W' w.heap.size v8 rs ∧ W'.heap[w.heap.size]? = some (.cells #[.int .i64 (most : Int), .int .i64 (r : Int), .int .i64 bits, .int .i64 tab] 24 (0, 0)) ∧ Fr [] w W' := by
  have h6 : ∀ k, v6.ownBlock = some k → v7.ownBlock ≠ some k := own_types h.ob o (by decide)
  refine ⟨ownsRow_of_block h.ob fun k hk => g.block k (h.ob.lt k hk).2 (fun e => h6 k hk e.symm), h.us.of fun k hk => ?_, ?_, h.fw.grown g (fun k hk => .inr (o.lt k hk).1)⟩
  · obtain ⟨cs', o', _⟩ := h.us
    exact g.block k (o'.lt k hk).2 (fun e => own_types o' o (by decide) k hk e.symm)
  · rw [g.block _ (blk_lt h.pb) (fun e => own_not o h.pb (by decide) e.symm)]; exact h.pb
end Go.Proofs.Ytobdegmlijnogaa
namespace Go.Proofs.Ytobdegmlijnogaa
open Go.ChangeShapes Go.WideShapes Go.ChangeAt Go.RowKit

set_option maxRecDepth 20000 in
set_option maxHeartbeats 4000000 in
theorem kvs_c {w : World} {v1 v2 : Value} {ps : Ps} (h1 : RdK w v1 ps) (h2 : RdK w v2 ps) (hl : ps.length ≤ 1000000) :
    Calls Try.prog 12 #[v1, v2] w fun e w' => e = .returned (.bool true) ∧ Fr [] w w' := by
  obtain ⟨a1, c1, rfl, _, k1⟩ := h1
  obtain ⟨a2, c2, rfl, _, k2⟩ := h2
  have H1 := hid k1
  have H2 := hid k2
  clear k1 k2
  obtain ⟨n, hn⟩ : ∃ n, n = ps.length := ⟨_, rfl⟩
  have HN := hid hn
  rw [← hn] at hl ⊢
  clear hn
  go_enter Try.func12, Try.ntmps12
  go_wp2_with fail
  go_loopw [5] (fun v5 wr => ∃ k : Nat, k ≤ n ∧ v5 = .int .i64 (k : Int) ∧ Fr [] w wr) (fun v5 _ => n - (intOf v5).toNat)
  case atStart => exact ⟨0, Nat.zero_le _, rfl, Fr.refl _ _⟩
  case round =>
    obtain ⟨k, hk, rfl, hf⟩ := hrel
    have HF := hid hf
    clear hf
    by_cases hlt : k < n
    · obtain ⟨p, hp⟩ : ∃ p, ps[k]? = some p := ⟨_, List.getElem?_eq_getElem (by rw [← HN.out]; exact hlt)⟩
      obtain ⟨b1, o1, rfl, m1⟩ := H1.out (by have := HN.out; omega)
      obtain ⟨b2, o2, rfl, m2⟩ := H2.out (by have := HN.out; omega)
      obtain ⟨ka1, kc1, va1, vc1, P1⟩ := m1 k p hp
      obtain ⟨ka2, kc2, va2, vc2, P2⟩ := m2 k p hp
      have hs1 : ((strOf p.1).toList == (strOf p.1).toList) = true := (by simp)
      have hs2 : ((strOf p.2).toList == (strOf p.2).toList) = true := (by simp)
      have z1 := cell_fr HF.out P1.ck
      have z2 := cell_fr HF.out P1.cv
      have z3 := cell_fr HF.out P2.ck
      have z4 := cell_fr HF.out P2.cv
      have g1 := fun m : Nat => run_conv ((P1.rk.fr HF.out).fr ((Fr.refl [] wr).drewN m))
      have g2 := fun m : Nat => run_conv ((P1.rv.fr HF.out).fr ((Fr.refl [] wr).drewN m))
      have g3 := fun m : Nat => run_conv ((P2.rk.fr HF.out).fr ((Fr.refl [] wr).drewN m))
      have g4 := fun m : Nat => run_conv ((P2.rv.fr HF.out).fr ((Fr.refl [] wr).drewN m))
      have hlt' : (k : Int) < (n : Int) := by omega
      clear m1 m2 hp P1 P2
      generalize p.1.length = l1 at *
      generalize p.2.length = l2 at *
      generalize strOf p.1 = s1 at *
      generalize strOf p.2 = s2 at *
      go_upto_region 6 with fail
      go_quiet (fail)
      go_wp2
      go_roundw
      case rel => exact ⟨k + 1, by omega, by go_num, HF.out.drewN _⟩
      case measure => simp [intOf]; omega
    · have hk' : k = n := by omega
      subst hk'
      go_wp2
      go_ret
      exact ⟨rfl, HF.out⟩
theorem RdK.one {w : World} {b off n c : Nat} {ps : Ps} (h : RdK w (.slice (some ⟨b, off, none⟩) n c) ps) {i : Nat} (hi : i < ps.length) : RdK w (.slice (some ⟨b, off + i * 2, none⟩) 1 (c - i)) [(kA ps i, vA ps i)] := by
  obtain ⟨a, c', e, hc, k1⟩ := h
  obtain ⟨b', off', e', m1⟩ := k1 (by omega)
  subst e'
  simp only [Value.slice.injEq, Option.some.injEq, Addr.mk.injEq] at e
  obtain ⟨⟨rfl, rfl, _⟩, _, rfl⟩ := e
  refine ⟨_, _, rfl, by simp; omega, fun _ => ⟨_, _, rfl, fun j p hj => ?_⟩⟩
  have h0 : j = 0 := by
    rcases Nat.lt_or_ge j 1 with h | h
    · omega
    · rw [List.getElem?_eq_none (by simpa using h)] at hj; cases hj
  subst h0
  simp at hj
  subst hj
  have := m1 i _ (ps_at hi)
  simpa using this
theorem RdK.lit {w : World} {X : Nat} {ka va : Option Addr} {kc vc : Nat} {k v : List Nat} (hX : w.heap[X]? = some (.cells #[.slice ka k.length kc, .slice va v.length vc] 41 (0, 0))) (rk : Rd w (.slice ka k.length kc) (bv k)) (rv : Rd w (.slice va v.length vc) (bv v)) (bk : By k) (bv' : By v) (lk : k.length ≤ 140737488355328) (lv : v.length ≤ 140737488355328) : RdK w (.slice (some ⟨X, 0, none⟩) 1 1) [(k, v)] := by
  refine ⟨_, _, rfl, Nat.le_refl _, fun _ => ⟨_, _, rfl, fun j p hj => ?_⟩⟩
  have h0 : j = 0 := by
    rcases Nat.lt_or_ge j 1 with h | h
    · omega
    · rw [List.getElem?_eq_none (by simpa using h)] at hj; cases hj
  subst h0
  simp at hj
  subst hj
  exact ⟨ka, kc, va, vc, by rw [blk_cell hX]; rfl, by rw [blk_cell hX]; rfl, rk, rv, bk, bv', lk, lv⟩
end Go.Proofs.Ytobdegmlijnogaa
namespace Go.Proofs.Ytobdegmlijnogaa
open Go.ChangeShapes Go.WideShapes Go.ChangeAt Go.RowKit

set_option maxRecDepth 20000 in
set_option maxHeartbeats 1600000 in
theorem few8_c (w : World) {v : Value} {ps : Ps} (h : RdK w v ps) (hl : ps.length ≤ 140737488355328) :
    Calls Try.prog 8 #[v] w fun e w' => (e = .returned (.bool false) ∨ e = .returned (.bool true) ∧ Few ps) ∧ Fr [] w w' := by
  have HL := hid h.lens
  obtain ⟨a, c, rfl, hc, k1⟩ := h
  have H1 := hid k1
  clear k1
  obtain ⟨n, hn⟩ : ∃ n, n = ps.length := ⟨_, rfl⟩
  have HN := hid hn
  rw [← hn] at hl hc ⊢
  clear hn
  go_enter Try.func8, Try.ntmps8
  go_wp2_with fail
  go_loopw [3, 4] (fun v3 v4 wr => ∃ i : Nat, i ≤ n ∧ v4 = .int .i64 (i : Int) ∧ v3 = .int .i64 (tot ps i : Int) ∧ tot ps i ≤ 281474976715656 ∧ Fr [] w wr) (fun _ v4 _ => n - (intOf v4).toNat)
  case atStart => exact ⟨0, Nat.zero_le _, rfl, rfl, by simp [tot], Fr.refl _ _⟩
  case round =>
    obtain ⟨i, hi, rfl, rfl, ht, hf⟩ := hrel
    have HF := hid hf
    have htt1 : tot ps (i + 1) = tot ps i + (kA ps i).length + (vA ps i).length := rfl
    have HTT := hid htt1
    have HTN := hid (tot_le ps (i := i) (j := n) hi)
    clear hf htt1
    generalize htt : tot ps i = tt at *
    by_cases hgo : i < n ∧ tt ≤ 5000
    · obtain ⟨hlt, h5⟩ := hgo
      have hil : i < ps.length := by rw [← HN.out]; exact hlt
      obtain ⟨b, off, rfl, m1⟩ := H1.out (by omega)
      obtain ⟨ka, kc, va, vc, P⟩ := m1 i _ (ps_at hil)
      have z1 := cell_fr HF.out P.ck
      have z2 := cell_fr HF.out P.cv
      have hlk := P.lk
      have hlv := P.lv
      dsimp only at z1 z2 hlk hlv
      clear P m1 htt hil
      generalize (kA ps i).length = lk at *
      generalize (vA ps i).length = lv at *
      have hlt' : (i : Int) < (n : Int) := by omega
      have h5' : (tt : Int) ≤ 5000 := by omega
      have w1 : IntKind.i64.wrap ((tt : Int) + (lk : Int)) = (tt : Int) + (lk : Int) := by rw [IntKind.wrap_i64]; omega
      have w2 : IntKind.i64.wrap ((tt : Int) + (lk : Int) + (lv : Int)) = (tt : Int) + (lk : Int) + (lv : Int) := by rw [IntKind.wrap_i64]; omega
      go_upto_region 5 with fail
      go_quiet (fail)
      clear w1 w2
      go_wp2
      go_roundw
      case rel => exact ⟨i + 1, by omega, by go_num, by rw [HTT.out]; simp, by rw [HTT.out]; omega, HF.out.drewN _⟩
      case measure => simp [intOf]; omega
    · by_cases h60 : n ≤ 60
      · by_cases h5 : tt ≤ 5000
        · have hin : i = n := by omega
          subst hin
          go_wp2
          go_ret
          exact ⟨.inr ⟨by simp <;> omega, by rw [← HN.out]; omega, by rw [← HN.out, htt]; exact h5⟩, HF.out⟩
        · by_cases hlt : i < n
          all_goals
            go_wp2
            go_ret
            exact ⟨.inl (by simp <;> omega), HF.out⟩
      · by_cases hlt : i < n
        all_goals
          go_wp2
          all_goals
            go_ret
            exact ⟨.inl (by simp <;> omega), HF.out⟩
/-- What a table is built to, or why not. -/
def TbR (b r i t : Int) (ps : Ps) (x : Nat) (X : List Nat) : Prop :=
  (x = 82 ∧ ¬ PlanOk b r i t ∧ X = []) ∨ (x = 83 ∧ PlanOk b r i t ∧ ps = [] ∧ X = []) ∨ (x = 70 ∧ PlanOk b r i t ∧ ps ≠ [] ∧ ¬ Rises ps ∧ X = []) ∨ (x = 0 ∧ PlanOk b r i t ∧ ps ≠ [] ∧ Rises ps ∧ X = tblL r.toNat b.toNat i.toNat ps)
theorem tbr_ex (b r i t : Int) (ps : Ps) : ∃ x X, TbR b r i t ps x X := by
  by_cases h1 : PlanOk b r i t
  · by_cases h2 : ps = []
    · exact ⟨83, [], .inr (.inl ⟨rfl, h1, h2, rfl⟩)⟩
    · by_cases h3 : Rises ps
      · exact ⟨0, _, .inr (.inr (.inr ⟨rfl, h1, h2, h3, rfl⟩))⟩
      · exact ⟨70, [], .inr (.inr (.inl ⟨rfl, h1, h2, h3, rfl⟩))⟩
  · exact ⟨82, [], .inl ⟨rfl, h1, rfl⟩⟩
theorem nil_rd (w : World) : Rd w (.slice none 0 0) (bv []) := .inl ⟨rfl, rfl⟩
theorem tbuild_g (w : World) {v : Value} {ps : Ps} (h : RdK w v ps) (hl : Lim ps) {b r i t : Int} {x : Nat} {X : List Nat} (hT : TbR b r i t ps x X) :
    Calls Try.prog 9 #[v, .agg #[.int .i64 b, .int .i64 r, .int .i64 i, .int .i64 t]] w fun e w' => ∃ v', e = .returned (.tuple #[v', .int .i64 (x : Int)]) ∧ Rd w' v' (bv X) ∧ Fr [] w w' := by
  rcases hT with ⟨rfl, hp, rfl⟩ | ⟨rfl, hp, h0, rfl⟩ | ⟨rfl, hp, h0, hr, rfl⟩ | ⟨rfl, hp, h0, hr, rfl⟩
  · obtain ⟨a, c, rfl, _⟩ := h
    exact (tbuild_plan w b r i t hp).mono fun e w' ⟨e1, f⟩ => ⟨_, e1, nil_rd _, f⟩
  · obtain ⟨a, c, rfl, _⟩ := h
    subst h0
    exact (tbuild_none w b r i t hp).mono fun e w' ⟨e1, f⟩ => ⟨_, e1, nil_rd _, f⟩
  · exact (tbuild_order w h hl.n h0 b r i t hp hr).mono fun e w' ⟨e1, f⟩ => ⟨_, e1, nil_rd _, f⟩
  · have hb := hp.b0
    have hr0 := hp.r0
    have hi := hp.i0
    obtain ⟨b', rfl⟩ : ∃ b' : Nat, b = (b' : Int) := ⟨b.toNat, by omega⟩
    obtain ⟨r', rfl⟩ : ∃ r' : Nat, r = (r' : Int) := ⟨r.toNat, by omega⟩
    obtain ⟨i', rfl⟩ : ∃ i' : Nat, i = (i' : Int) := ⟨i.toNat, by omega⟩
    simp only [Int.toNat_natCast]
    exact (tbuild_ok w h hl h0 b' r' i' t hp hr).mono fun e w' ⟨v', e1, o, f⟩ => ⟨_, e1, Rd.ownB o, f⟩
theorem few_lim {ps : Ps} (h : Few ps) : Lim ps := ⟨by have := h.n; omega, by have := h.t; omega⟩
theorem TbR.by {b r i t : Int} {ps : Ps} {x : Nat} {X : List Nat} (h : TbR b r i t ps x X) (hb : ByP ps) : By X := by
  rcases h with ⟨_, _, rfl⟩ | ⟨_, _, _, rfl⟩ | ⟨_, _, _, _, rfl⟩ | ⟨_, _, _, _, rfl⟩
  · exact fun n hn => by cases hn
  · exact fun n hn => by cases hn
  · exact fun n hn => by cases hn
  · exact tblL_by hb
end Go.Proofs.Ytobdegmlijnogaa
