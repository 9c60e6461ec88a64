/-
  The document's table, built.
-/
import Derived.Test.YtnnookkcnmgbfaaGreatJ44
import Derived.Test.YtnnookkcnmgbfaaGreatJ07
import Derived.Test.YtnnookkcnmgbfaaGreatJ43
import Derived.Deep.CutRange
namespace Go.Proofs.YtnnookkcnmgbfaaGreat
open Go.ChangeShapes Go.WideShapes Go.ChangeAt Go.RowKit

theorem usN_last (ps : Ps) : ∀ i, (usN ps (i + 1)).getLast? = some (userL (kA ps i))
  | i => by
    unfold usN
    split
    · assumption
    · simp
theorem usN_next (ps : Ps) (i : Nat) : usN ps (i + 1) = if i ≠ 0 ∧ userL (kA ps (i - 1)) = userL (kA ps i) then usN ps i else usN ps i ++ [userL (kA ps i)] := by
  conv => lhs; unfold usN
  rcases i with _ | i
  · rw [if_neg (by simp [usN]), if_neg (by simp)]
  · have := usN_last ps i
    rw [this, Nat.add_sub_cancel]
    by_cases h : userL (kA ps i) = userL (kA ps (i + 1))
    · rw [if_pos (by rw [h]), if_pos ⟨by omega, h⟩]
    · rw [if_neg (by simpa using h), if_neg (fun e => h e.2)]
/-- The file has grown. -/
theorem IdxC.file {w0 W W' : World} {B : Nat} {fv fv' iv : Value} {qs : Ps} {ys : List Value} {m : Nat} (h : IdxC w0 W B fv iv qs) (o : W.ownsRow B 5 1 fv m ys) (g : W.grownBy W' fv.ownBlock) (q : fv'.ownBlock = fv.ownBlock ∨ fv'.ownBlock = some W.heap.size) : IdxC w0 W' B fv' iv qs := by
  obtain ⟨cs, oi, h2⟩ := h
  refine ⟨cs, ownsRow_of_block oi fun k hk => g.block k (oi.lt k hk).2 (fun e => own_types oi o (by decide) k hk e.symm), fun j p hj => ?_⟩
  obtain ⟨kv, vv, c0, c1, r0, r1, d, b0⟩ := h2 j p hj
  refine ⟨kv, vv, c0, c1, r0, ownsRow_of_block r1 fun k hk => g.block k (r1.lt k hk).2 (fun e => d k hk e.symm), fun k hk e => ?_, b0⟩
  rcases q with q | q
  · rw [q] at e; exact d k hk e
  · rw [q, Option.some.injEq] at e
    have := (r1.lt k hk).2
    omega
/-- User keys as they came. -/
def UsC (w0 W : World) (B : Nat) (v : Value) (rs : List (List Nat)) : Prop := ∃ cs, W.ownsRow B 22 1 v rs.length cs ∧ ∀ (j : Nat) (r : List Nat), rs[j]? = some r → ∃ a c, cs[j]? = some (.slice a r.length c) ∧ Rd w0 (.slice a r.length c) (bv r) ∧ By r ∧ r.length ≤ 140737488355328
theorem UsC.nil (w0 W : World) (B : Nat) : UsC w0 W B (.slice none 0 0) [] := ⟨[], World.ownsRow_nil _ _ _ _, fun j p h => by simp at h⟩
theorem UsC.of {w0 W W' : World} {B : Nat} {v : Value} {rs : List (List Nat)} (h : UsC w0 W B v rs) (hb : ∀ k, v.ownBlock = some k → W'.heap[k]? = W.heap[k]?) : UsC w0 W' B v rs := by
  obtain ⟨cs, o, r⟩ := h
  exact ⟨cs, ownsRow_of_block o hb, r⟩
theorem UsC.fr {w0 W W' : World} {B : Nat} {v : Value} {rs : List (List Nat)} (h : UsC w0 W B v rs) (f : Fr [] W W') : UsC w0 W' B v rs := h.of fun k hk => by obtain ⟨cs, o, _⟩ := h; exact f.block k (o.lt k hk).2 (by simp)
theorem UsC.rd {w0 w : World} {B : Nat} {v : Value} {rs : List (List Nat)} (h : UsC w0 w B v rs) (f : Fr [] w0 w) : RdL w v rs := by
  obtain ⟨cs, o, l⟩ := h
  rcases o.2 with ⟨rfl, h0⟩ | ⟨g, cap, cur, rfl, _, h3, h4, h5⟩
  · have : rs = [] := List.eq_nil_of_length_eq_zero h0
    subst this
    exact ⟨none, 0, rfl, fun h => by simp at h⟩
  · refine ⟨_, cap, rfl, fun _ => ⟨g, 0, rfl, fun j r hj => ?_⟩⟩
    obtain ⟨a, c, k1, k2, k3⟩ := l j r hj
    have := o.cells rfl j _ k1
    rw [Addr.add_lit] at this
    exact ⟨a, c, this, k2.fr f, k3⟩
theorem UsC.app {w0 W W' : World} {B : Nat} {v v' : Value} {rs : List (List Nat)} {r : List Nat} {cs : List Value} {a : Option Addr} {c : Nat} (o : W.ownsRow B 22 1 v rs.length cs) (l : ∀ (j : Nat) (r : List Nat), rs[j]? = some r → ∃ a c, cs[j]? = some (.slice a r.length c) ∧ Rd w0 (.slice a r.length c) (bv r) ∧ By r ∧ r.length ≤ 140737488355328) (o' : W'.ownsRow B 22 1 v' (rs.length + 1) (cs ++ [.slice a r.length c])) (h1 : Rd w0 (.slice a r.length c) (bv r)) (h2 : By r) (h3 : r.length ≤ 140737488355328) : UsC w0 W' B v' (rs ++ [r]) := by
  refine ⟨_, by rw [List.length_append]; exact o', fun j r' hj => ?_⟩
  have hcl : cs.length = rs.length := by have := o.1; omega
  by_cases hjl : j < rs.length
  · rw [List.getElem?_append_left hjl] at hj
    obtain ⟨a', c', k⟩ := l j r' hj
    exact ⟨a', c', by rw [List.getElem?_append_left (by omega)]; exact k.1, k.2⟩
  · have hje : j = rs.length := by
      rcases Nat.lt_or_ge j (rs.length + 1) with h' | h'
      · omega
      · rw [List.getElem?_eq_none (by simp; omega)] at hj; cases hj
    subst hje
    rw [List.getElem?_append_right (Nat.le_refl _), Nat.sub_self] at hj
    simp at hj
    subst hj
    exact ⟨a, c, by rw [List.getElem?_append_right (by omega), hcl, Nat.sub_self]; rfl, h1, h2, h3⟩
theorem UsC.file {w0 W W' : World} {B B' : Nat} {v fv : Value} {rs : List (List Nat)} {ys : List Value} {m : Nat} (h : UsC w0 W B v rs) (o : W.ownsRow B' 5 1 fv m ys) (g : W.grownBy W' fv.ownBlock) : UsC w0 W' B v rs := h.of fun k hk => by
  obtain ⟨cs, o', _⟩ := h
  exact g.block k (o'.lt k hk).2 (fun e => own_types o' o (by decide) k hk e.symm)
theorem plan_file {W W' : World} {B p : Nat} {fv : Value} {ys : List Value} {m : Nat} {cs : Array Value} (h : W.heap[p]? = some (.cells cs 38 (0, 0))) (o : W.ownsRow B 5 1 fv m ys) (g : W.grownBy W' fv.ownBlock) : W'.heap[p]? = some (.cells cs 38 (0, 0)) := by
  rw [g.block _ (blk_lt h) (fun e => own_not o h (by decide) e.symm)]; exact h
theorem Gro.rd {w w1 : World} {B B' : Nat} {v v1 u : Value} {xs ys : List Nat} (h : Gro w w1 B v v1 xs) (o : w.ownsRow B' 5 1 u ys.length (bv ys)) (hd : ∀ k, u.ownBlock = some k → v.ownBlock ≠ some k) : Rd w1 u (bv ys) :=
  Rd.ownB (ownsRow_of_block o fun k hk => h.fr.block k (o.lt k hk).2 (fun e => hd k hk (by rw [Option.mem_toList] at e; exact e)))
/-- append of bytes to a row that grows. -/
theorem wpList_app_gro {w0 w : World} {ops : Array Oper} {rest : List Oper} {o : Oper} {a : Act} {Q : Exit → Act → World → Prop} (hgd : o.guard = none) (s x : Operand)
    (ho : o.op = .call { callee := .builtin .append, args := #[s, x], argTypes := #[22, 22] }) {B : Nat} {v0 v : Value} {cur ns : List Nat} (G : Gro w0 w B v0 v cur) (hB : B ≤ w.heap.size) (hs : a.eval s = v) (sx : Value) (hr : Rd w sx (bv ns)) (hx : a.eval x = sx) (hl : cur.length + ns.length ≤ 140737488355328) (Z : Nat) (hZ : Z = (cur ++ ns).length)
    (h : ∀ a' k' w', Gro w0 w' B v0 (.slice a' Z k') (cur ++ ns) → B ≤ w'.heap.size → wpList Tryz.prog ops Q rest (a.put o.dst (.slice a' Z k')) w') :
    wpList Tryz.prog ops Q (o :: rest) a w := by
  refine wpList_append_rd hgd s x ho B hB v cur.length (bv cur) hs G.own sx (bv ns) hx hr bv_one (by rw [bv_len]; exact hl) ?_
  intro v' w' o' g' q'
  rw [show cur.length + (bv ns).length = (cur ++ ns).length from by rw [bv_len, List.length_append], ← bv_append] at o'
  have G' := G.grow o' g' q'
  obtain ⟨a', k', rfl, _⟩ := ownsRow_slice o'
  subst hZ
  exact h a' k' w' G' (Nat.le_trans hB g'.size)
/-- What the document's Build holds ahead of a round. -/
structure RB (w wr : World) (most r : Nat) (bits : Int) (tab : Int) (ps : Ps) (D : List Ps) (fr i : Nat) (v6 v7 v8 : Value) : Prop where
  eq : D ++ chs most (ps.drop fr) = chs most ps
  fi : fr ≤ i
  nf : filF most (ps.drop fr) (ps.length - i) (i - fr) = fil most (ps.drop fr)
  en : i = ps.length → fr = ps.length
  ob : wr.ownsRow w.heap.size 5 1 v6 (datL r D).length (bv (datL r D))
  ix : IdxC w wr w.heap.size v6 v7 (idxF r 0 D)
  us : UsC w wr w.heap.size v8 (usN ps i)
  pb : wr.heap[w.heap.size]? = some (.cells #[.int .i64 (most : Int), .int .i64 (r : Int), .int .i64 bits, .int .i64 tab] 38 (0, 0))
  fw : Fr [] w wr
theorem RB.quiet {w wr W : World} {most r : Nat} {bits tab : Int} {ps : Ps} {D : List Ps} {fr i : Nat} {v6 v7 v8 : Value} (h : RB w wr most r bits tab ps D fr i v6 v7 v8) (f : Fr [] wr W) : RB w W most r bits tab ps D fr i v6 v7 v8 :=
  ⟨h.eq, h.fi, h.nf, h.en, ownsRow_fr h.ob f, h.ix.fr f, h.us.fr f, f.at h.pb (by simp), h.fw.trans f⟩
/-- What lies in memory. -/
structure RC (w W : World) (most r : Nat) (bits tab : Int) (D : List Ps) (v6 v7 v8 : Value) (rs : List (List Nat)) : Prop where
  ob : W.ownsRow w.heap.size 5 1 v6 (datL r D).length (bv (datL r D))
  ix : IdxC w W w.heap.size v6 v7 (idxF r 0 D)
  us : UsC w W w.heap.size v8 rs
  pb : W.heap[w.heap.size]? = some (.cells #[.int .i64 (most : Int), .int .i64 (r : Int), .int .i64 bits, .int .i64 tab] 38 (0, 0))
  fw : Fr [] w W
theorem RB.rc {w wr : World} {most r : Nat} {bits tab : Int} {ps : Ps} {D : List Ps} {fr i : Nat} {v6 v7 v8 : Value} (h : RB w wr most r bits tab ps D fr i v6 v7 v8) : RC w wr most r bits tab D v6 v7 v8 (usN ps i) := ⟨h.ob, h.ix, h.us, h.pb, h.fw⟩
theorem RC.fr {w W W' : World} {most r : Nat} {bits tab : Int} {D : List Ps} {v6 v7 v8 : Value} {rs : List (List Nat)} (h : RC w W most r bits tab D v6 v7 v8 rs) (f : Fr [] W W') : RC w W' most r bits tab D v6 v7 v8 rs := ⟨ownsRow_fr h.ob f, h.ix.fr f, h.us.fr f, f.at h.pb (by simp), h.fw.trans f⟩
/-- A user key more. -/
theorem RC.user {w W W' : World} {most r : Nat} {bits tab : Int} {D : List Ps} {v6 v7 v8 v8' : Value} {rs : List (List Nat)} (h : RC w W most r bits tab D v6 v7 v8 rs) {rs' : List (List Nat)} (u : UsC w W' w.heap.size v8' rs') (g : W.grownBy W' v8.ownBlock) : RC w W' most r bits tab D v6 v7 v8' rs' := by
  obtain ⟨cs, o, _⟩ := h.us
  have h6 : ∀ k, v6.ownBlock = some k → v8.ownBlock ≠ some k := own_types h.ob o (by decide)
  refine ⟨ownsRow_of_block h.ob fun k hk => g.block k (h.ob.lt k hk).2 (fun e => h6 k hk e.symm), ?_, u, ?_, h.fw.grown g (fun k hk => .inr (o.lt k hk).1)⟩
  · obtain ⟨ci, oi, hi⟩ := h.ix
    have h7 : ∀ k, v7.ownBlock = some k → v8.ownBlock ≠ some k := own_types oi o (by decide)
    refine ⟨ci, ownsRow_of_block oi fun k hk => g.block k (oi.lt k hk).2 (fun e => h7 k hk e.symm), fun j p hj => ?_⟩
    obtain ⟨kv, vv, c0, c1, r0, r1, d⟩ := hi j p hj
    have hv : ∀ k, vv.ownBlock = some k → v8.ownBlock ≠ some k := own_types r1 o (by decide)
    exact ⟨kv, vv, c0, c1, r0, ownsRow_of_block r1 fun k hk => g.block k (r1.lt k hk).2 (fun e => hv k hk e.symm), d⟩
  · rw [g.block _ (blk_lt h.pb) (fun e => own_not o h.pb (by decide) e.symm)]; exact h.pb
/-- An entry of the index more. -/
theorem RC.entry {w W W' : World} {most r : Nat} {bits tab : Int} {D : List Ps} {v6 v7 v8 : Value} {rs : List (List Nat)} (h : RC w W most r bits tab D v6 v7 v8 rs) (g : W.grownBy W' v7.ownBlock) {cs : List Value} {m : Nat} (o : W.ownsRow w.heap.size 47 2 v7 m cs) :
    W'.ownsRow w.heap.size 5 1 v6 (datL r D).length (bv (datL r D)) ∧ UsC w W' w.heap.size v8 rs ∧ W'.heap[w.heap.size]? = some (.cells #[.int .i64 (most : Int), .int .i64 (r : Int), .int .i64 bits, .int .i64 tab] 38 (0, 0)) ∧ Fr [] w W' := by
  have h6 : ∀ k, v6.ownBlock = some k → v7.ownBlock ≠ some k := own_types h.ob o (by decide)
  refine ⟨ownsRow_of_block h.ob fun k hk => g.block k (h.ob.lt k hk).2 (fun e => h6 k hk e.symm), h.us.of fun k hk => ?_, ?_, h.fw.grown g (fun k hk => .inr (o.lt k hk).1)⟩
  · obtain ⟨cs', o', _⟩ := h.us
    exact g.block k (o'.lt k hk).2 (fun e => own_types o' o (by decide) k hk e.symm)
  · rw [g.block _ (blk_lt h.pb) (fun e => own_not o h.pb (by decide) e.symm)]; exact h.pb
set_option maxRecDepth 20000 in
set_option maxHeartbeats 12800000 in
theorem rtbuild_ok (w : World) {v : Value} {ps : Ps} (h : RdK w v ps) (hl : Lim ps) (h0 : ps ≠ []) (b r i : Nat) (t : Int) (hp : PlanOk b r i t) (hr : Rises ps) :
    Calls Tryz.prog 12 #[v, .agg #[.int .i64 (b : Int), .int .i64 (r : Int), .int .i64 (i : Int), .int .i64 t]] w fun e w' => ∃ v', e = .returned (.tuple #[v', .int .i64 0]) ∧ w'.ownsRow w.heap.size 5 1 v' (tblL r b i ps).length (bv (tblL r b i ps)) ∧ Fr [] w w' := by
  have HN := hid hp
  have HR := hid hr
  have HL := hid hl
  have hpos := List.length_pos_iff.2 h0
  have HK := hid h
  have hr1 := hp.r0
  have hr2 := hp.r1
  have hb2 := hp.b1
  have hi1 := hp.i0
  have hi2 := hp.i1
  have hn0 := hl.n
  obtain ⟨a, c, rfl, hc, k1⟩ := h
  obtain ⟨pb, po, rfl, m1⟩ := k1 hpos
  have M1 := hid m1
  clear hp hr h0 hl k1 m1
  obtain ⟨n, hn⟩ : ∃ n, n = ps.length := ⟨_, rfl⟩
  have HNN := hid hn
  rw [← hn] at hn0 hpos hc HK ⊢
  clear hn
  have hz : ((n : Int) == 0) = false := by rw [beq_eq_false_iff_ne]; omega
  obtain ⟨W0, hW0⟩ : ∃ W0, W0 = w.alloc (.cells #[.int .i64 (b : Int), .int .i64 (r : Int), .int .i64 (i : Int), .int .i64 t] 38) := ⟨_, rfl⟩
  have F0 : Hid (Fr [] w W0) := hid (by rw [hW0]; exact (Fr.refl _ _).alloc _)
  have B0 : Hid (W0.heap[w.heap.size]? = some (.cells #[.int .i64 (b : Int), .int .i64 (r : Int), .int .i64 (i : Int), .int .i64 t] 38 (0, 0))) := hid (by rw [hW0]; exact blk_new _ _)
  have CK : Hid (∀ W, Calls Tryz.prog 33 #[.agg #[.int .i64 (b : Int), .int .i64 (r : Int), .int .i64 (i : Int), .int .i64 t]] W fun e w' => e = .returned (.int .i64 0) ∧ Fr [] W w') := hid (fun W => (rcheck_c W b r i t).mono (fun e w' h => by
    rcases h with ⟨⟨e1, _⟩ | ⟨_, e1⟩, f⟩
    · exact ⟨e1, f⟩
    · exact absurd HN.out e1))
  have RI : Hid (∀ W, Fr [] w W → Calls Tryz.prog 34 #[.slice (some ⟨pb, po, none⟩) n c] W fun e w' => e = .returned (.bool true) ∧ Fr [] W w') := hid (fun W f => (rrises_c W (HK.out.fr f) (by rw [← HNN.out]; exact hn0)).mono (fun e w' h => by
    rcases h with ⟨⟨e1, _⟩ | ⟨_, e1⟩, f⟩
    · exact ⟨e1, f⟩
    · exact absurd HR.out e1))
  go_enter Tryz.func12, Tryz.ntmps12
  go_upto_region 7 with (first
    | (go_at_call 33; rw [← hW0]; clear hW0; refine (CK.out W0).mono ?_; rintro e w1 ⟨rfl, f1⟩; have F1 := hid f1; clear f1)
    | (go_at_call 34; refine (RI.out w1 (F0.out.trans F1.out)).mono ?_; rintro e w2 ⟨rfl, f2⟩; have F2 := hid (F1.out.trans f2); clear f2))
  have D0 : Hid (RB w w2 b r (i : Int) t ps [] 0 0 (.slice none 0 0) (.slice none 0 0) (.slice none 0 0)) := hid ⟨by simp, Nat.le_refl _, by simp [fil], fun e => e, World.ownsRow_nil _ _ _ _, IdxC.nil _ _ _ _, UsC.nil _ _ _, F2.out.at B0.out (by simp), F0.out.trans F2.out⟩
  clear CK RI F1 B0
  go_wp2_with fail
  go_loopw [6, 7, 8, 9, 10, 11] (fun v6 v7 v8 v9 v10 v11 wr => ∃ (D : List Ps) (fr j : Nat), j ≤ n ∧ v11 = .int .i64 (j : Int) ∧ v9 = .int .i64 (fr : Int) ∧ v10 = .int .i64 (tot (ps.drop fr) (j - fr) : Int) ∧ RB w wr b r (i : Int) t ps D fr j v6 v7 v8) (fun _ _ _ _ _ v11 _ => n - (intOf v11).toNat)
  case atStart => exact ⟨[], 0, 0, Nat.zero_le _, rfl, rfl, rfl, D0.out⟩
  case round =>
    obtain ⟨D, fr, j, hj, rfl, rfl, rfl, hrb⟩ := hrel
    have HB := hid hrb
    have hfj := hrb.fi
    clear hrb D0
    by_cases hlt : j < n
    · have hjl : j < ps.length := by rw [← HNN.out]; exact hlt
      obtain ⟨ka, kc, va, vc, P⟩ := M1.out j _ (ps_at hjl)
      have hK := rises_isK HR.out hjl
      have hkl := isK_len hK
      obtain ⟨q0, o0, kc', hka, hkc⟩ := P.rk.place (by dsimp only; omega)
      simp only [Value.slice.injEq, true_and] at hka
      obtain ⟨rfl, rfl⟩ := hka
      dsimp only at hkc
      have z1 := cell_fr HB.out.fw P.ck
      have z2 := cell_fr HB.out.fw P.cv
      have PJ := hid P
      have hlv := P.lv
      dsimp only at z1 z2 hlv
      have UJ : Hid (∀ W : World, Calls Tryz.prog 36 #[.slice (some ⟨q0, o0, none⟩) (kA ps j).length kc] W fun e w' => e = .returned (.slice (some ⟨q0, o0, none⟩) (userL (kA ps j)).length kc) ∧ w' = W) := hid (fun W => user8_c (by omega) (by omega) hkc)
      have hul : (userL (kA ps j)).length ≤ (kA ps j).length := by unfold userL; rw [List.length_take]; omega
      have RUJ : Hid (Rd w (.slice (some ⟨q0, o0, none⟩) (userL (kA ps j)).length kc) (bv (userL (kA ps j)))) := hid (by
        have := P.rk.front (q := (userL (kA ps j)).length) hul
        have e : (kA ps j).take (userL (kA ps j)).length = userL (kA ps j) := by unfold userL; rw [List.length_take, Nat.min_eq_left (by omega)]
        dsimp only at this
        rw [e] at this
        exact this)
      have BUJ := hid (show By (userL (kA ps j)) from P.bk.take _)
      have NXT := hid (usN_next ps j)
      clear P
      obtain ⟨xu, hxu⟩ : ∃ xu : Bool, xu = true ↔ (j ≠ 0 ∧ userL (kA ps (j - 1)) = userL (kA ps j)) := bool_of _
      have HXU := hid hxu
      clear hxu
      obtain ⟨kl, hkle⟩ : ∃ kl, kl = (kA ps j).length := ⟨_, rfl⟩
      obtain ⟨vl, hvle⟩ : ∃ vl, vl = (vA ps j).length := ⟨_, rfl⟩
      obtain ⟨ul, hule⟩ : ∃ ul, ul = (userL (kA ps j)).length := ⟨_, rfl⟩
      have HKL := hid hkle
      have HVL := hid hvle
      have HUL := hid hule
      rw [← hkle] at z1 UJ hkl hkc hul
      rw [← hvle] at z2 hlv
      rw [← hule] at UJ RUJ hul
      clear hkle hvle hule hK
      go_upto_region 14 with fail
      go_cut [53] from 35 to 52 (fun v53 W => v53 = .bool (!xu) ∧ Fr [] wr W)
      case first =>
        by_cases hj0 : j = 0
        · have hx : xu = false := by rcases xu with _ | _; rfl; exact absurd hj0 (HXU.out.1 rfl).1
          have hj0' : ((j : Int) == 0) = true := by rw [beq_iff_eq]; omega
          subst hx
          clear hj0
          go_quiet (fail)
          go_wp2
          go_meet
          case rel => exact ⟨rfl, (Fr.refl _ _).drewN _⟩
        · have hjl' : j - 1 < ps.length := by omega
          obtain ⟨ka1, kc1, va1, vc1, P1⟩ := M1.out (j - 1) _ (ps_at hjl')
          have hK1 := rises_isK HR.out hjl'
          have hkl1 := isK_len hK1
          obtain ⟨q1, o1, kc1', hka1, hkc1⟩ := P1.rk.place (by dsimp only; omega)
          simp only [Value.slice.injEq, true_and] at hka1
          obtain ⟨rfl, rfl⟩ := hka1
          dsimp only at hkc1
          have y1 := cell_fr HB.out.fw P1.ck
          dsimp only at y1
          have U1 : Hid (∀ W : World, Calls Tryz.prog 36 #[.slice (some ⟨q1, o1, none⟩) (kA ps (j - 1)).length kc1] W fun e w' => e = .returned (.slice (some ⟨q1, o1, none⟩) (userL (kA ps (j - 1))).length kc1) ∧ w' = W) := hid (fun W => user8_c (by omega) (by omega) hkc1)
          have hul1 : (userL (kA ps (j - 1))).length ≤ (kA ps (j - 1)).length := by unfold userL; rw [List.length_take]; omega
          have RU1 : Hid (Rd w (.slice (some ⟨q1, o1, none⟩) (userL (kA ps (j - 1))).length kc1) (bv (userL (kA ps (j - 1))))) := hid (by
            have := P1.rk.front (q := (userL (kA ps (j - 1))).length) hul1
            have e : (kA ps (j - 1)).take (userL (kA ps (j - 1))).length = userL (kA ps (j - 1)) := by unfold userL; rw [List.length_take, Nat.min_eq_left (by omega)]
            dsimp only at this
            rw [e] at this
            exact this)
          have BY : Hid (∀ m, Calls Tryz.prog 35 #[.slice (some ⟨q1, o1, none⟩) (userL (kA ps (j - 1))).length kc1, .slice (some ⟨q0, o0, none⟩) ul kc] (wr.drewN m) fun e w' => e = .returned (.int .i64 (cmpN (userL (kA ps (j - 1))) (userL (kA ps j)))) ∧ ∃ n, w' = (wr.drewN m).drewN n) := hid (fun m => refbytes_q ((RU1.out.fr HB.out.fw).fr ((Fr.refl [] wr).drewN m)) ((RUJ.out.fr HB.out.fw).fr ((Fr.refl [] wr).drewN m)) (P1.bk.take _) BUJ.out (by omega) (by rw [← HUL.out]; omega))
          have hcm : Hid ((cmpN (userL (kA ps (j - 1))) (userL (kA ps j)) = 0) = (xu = true)) := hid (propext ((cmpN_eq _ _).trans (Iff.intro (fun e => HXU.out.2 ⟨hj0, e⟩) (fun e => (HXU.out.1 e).2))))
          clear P1 hK1
          generalize cmpN (userL (kA ps (j - 1))) (userL (kA ps j)) = cc at *
          generalize (userL (kA ps (j - 1))).length = ul1 at *
          generalize (kA ps (j - 1)).length = kl1 at *
          have hcx : (cc == 0) = xu := by
            have h := hcm.out
            rcases xu with _ | _
            · rw [beq_eq_false_iff_ne]; intro e; rw [e] at h; simp at h
            · rw [beq_iff_eq]; exact h.mpr rfl
          have hj0' : ((j : Int) == 0) = false := by rw [beq_eq_false_iff_ne]; omega
          have g1 : ((j : Int) - 1).toNat = j - 1 := by omega
          have g2 : (0 : Int) ≤ (j : Int) - 1 := by omega
          have g3 : (j : Int) - 1 < (n : Int) := by omega
          have g4 : IntKind.i64.wrap ((j : Int) - 1) = (j : Int) - 1 := by rw [IntKind.wrap_i64]; omega
          have g5 : (j : Int) < (n : Int) := by omega
          go_quiet (first
            | (go_at_call_of 36 (Value.slice (some ⟨q1, o1, none⟩) kl1 kc1); exact Calls.quiet_of_same (U1.out _))
            | (go_at_call_of 36 (Value.slice (some ⟨q0, o0, none⟩) kl kc); exact Calls.quiet_of_same (UJ.out _))
            | (go_at_call 35; exact Calls.quiet_of (BY.out _)))
          go_wp2
          go_meet
          case rel => exact ⟨by rw [bne, hcx], (Fr.refl _ _).drewN _⟩
      case rest =>
        obtain ⟨rfl, fc⟩ := hcut
        have C1 := hid (HB.out.rc.fr fc)
        have z1 := cell_fr fc z1
        have z2 := cell_fr fc z2
        obtain ⟨W1, hW1⟩ : ∃ W1, W1 = wc := ⟨_, rfl⟩
        rw [← hW1] at z1 z2 C1 ⊢
        clear fc hW1
        go_upto_if 53 with fail
        go_cut [8] from 54 to 62 (fun v8 W => RC w W b r (i : Int) t D u6 u7 v8 (usN ps (j + 1)) ∧ W.cell? ⟨pb, po + j * 2, none⟩ = some (.slice (some ⟨q0, o0, none⟩) kl kc) ∧ W.cell? ⟨pb, po + j * 2 + 1, none⟩ = some (.slice va vl vc))
        case first =>
          rcases xu with _ | _
          · have e1 : Hid (usN ps (j + 1) = usN ps j ++ [userL (kA ps j)]) := hid (by rw [NXT.out, if_neg (fun h => by have := HXU.out.2 h; cases this)])
            obtain ⟨cs8, o8, l8⟩ := C1.out.us
            obtain ⟨a8, k8, h8, _⟩ := ownsRow_slice o8
            obtain ⟨m8, hm8⟩ : ∃ m8, m8 = (usN ps j).length := ⟨_, rfl⟩
            have hml := usN_len ps j
            have HM8 := hid hm8
            rw [← hm8] at h8 o8 hml
            clear hm8
            subst h8
            obtain ⟨W3, hW3⟩ : ∃ W3, W3 = W1.alloc (.cells #[.slice (some ⟨q0, o0, none⟩) ul kc] 22) := ⟨_, rfl⟩
            have F3 : Hid (Fr [] W1 W3) := hid (by rw [hW3]; exact (Fr.refl _ _).alloc _)
            have B3 : Hid (W3.heap[W1.heap.size]? = some (.cells #[.slice (some ⟨q0, o0, none⟩) ul kc] 22 (0, 0))) := hid (by rw [hW3]; exact blk_new _ _)
            have OW := hid (ownsRow_fr o8 F3.out)
            have L8 := hid l8
            have hb3 : w.heap.size ≤ W3.heap.size := Nat.le_trans C1.out.fw.size F3.out.size
            clear o8 l8
            go_wp2_with (first
              | (go_at_call 36; refine (UJ.out _).mono ?_; rintro e w3 ⟨rfl, h⟩; rw [h]; clear h)
              | (at_builtin; rw [← hW3]; clear hW3; refine wpList_append_row rfl _ _ rfl w.heap.size hb3 _ _ _ rfl OW.out W1.heap.size rfl B3.out rfl (by omega) ?_; intro v4 W4 o4 g4 q4; have O4 := hid o4; have G4 := hid g4; clear o4 g4 q4))
            go_meet
            case rel =>
              have ow := OW.out
              have o4 := O4.out
              rw [HM8.out] at ow o4
              have g4 := G4.out
              have ulen := HUL.out
              have hU : UsC w W4 w.heap.size v4 (usN ps j ++ [userL (kA ps j)]) := UsC.app (r := userL (kA ps j)) ow L8.out (by rw [← ulen]; exact o4) (by rw [← ulen]; exact RUJ.out) BUJ.out (by rw [← ulen]; omega)
              have C3 := (C1.out.fr F3.out).user hU g4
              rw [e1.out]
              have f14 := F3.out
              have keep : ∀ {p : Addr} {v : Value}, w.cell? p = some v → W4.cell? p = some v := fun h => cell_fr C3.fw h
              exact ⟨C3, by rw [HKL.out]; exact keep PJ.out.ck, by rw [HVL.out]; exact keep PJ.out.cv⟩
          · have e1 : Hid (usN ps (j + 1) = usN ps j) := hid (by rw [NXT.out, if_pos (HXU.out.1 rfl)])
            go_wp2
            go_meet
            case rel => rw [e1.out]; exact ⟨C1.out, z1, z2⟩
        case rest =>
          obtain ⟨C2, z1, z2⟩ := hcut
          have C2 := hid C2
          have hdk := kA_drop ps fr (j - fr)
          rw [show fr + (j - fr) = j from by omega] at hdk
          have htt : tot (ps.drop fr) (j + 1 - fr) = tot (ps.drop fr) (j - fr) + kl + vl := by
            rw [show j + 1 - fr = (j - fr) + 1 from by omega, tot, hdk.1, hdk.2, HKL.out, HVL.out]
          have hLd := HL.out.sub (List.drop_sublist fr ps)
          have hdl : (ps.drop fr).length = n - fr := by rw [List.length_drop, HNN.out]
          have hty : tot (ps.drop fr) (j + 1 - fr) ≤ 100000000 := Nat.le_trans (tot_le _ (by omega)) hLd.t
          have hrec : filF b (ps.drop fr) (n - j) (j - fr) = if b ≤ tot (ps.drop fr) (j + 1 - fr) then j + 1 - fr else filF b (ps.drop fr) (n - (j + 1)) (j + 1 - fr) := by
            rw [show n - j = (n - (j + 1)) + 1 from by omega, filF, show j - fr + 1 = j + 1 - fr from by omega]
          have HRC : Hid (fil b (ps.drop fr) = if b ≤ tot (ps.drop fr) (j + 1 - fr) then j + 1 - fr else filF b (ps.drop fr) (n - (j + 1)) (j + 1 - fr)) := hid (by rw [← HB.out.nf, ← HNN.out]; exact hrec)
          have HTT := hid htt
          rw [htt] at hty
          obtain ⟨tt, hte⟩ : ∃ tt, tt = tot (ps.drop fr) (j - fr) := ⟨_, rfl⟩
          have HTE := hid hte
          rw [← hte] at hty ⊢
          clear htt hdk hrec hte hLd
          have w1 : IntKind.i64.wrap ((tt : Int) + (kl : Int)) = (tt : Int) + (kl : Int) := by rw [IntKind.wrap_i64]; omega
          have w2 : IntKind.i64.wrap ((tt : Int) + (kl : Int) + (vl : Int)) = (tt : Int) + (kl : Int) + (vl : Int) := by rw [IntKind.wrap_i64]; omega
          have hjn : (j : Int) < (n : Int) := by omega
          obtain ⟨W2, hW2⟩ : ∃ W2, W2 = wc := ⟨_, rfl⟩
          rw [← hW2] at C2 z1 z2 ⊢
          clear hW2
          go_upto_region 16 with fail
          go_quiet (fail)
          have C2' := hid (C2.out.fr ((Fr.refl [] W2).drewN nq))
          generalize W2.drewN nq = W2' at *
          clear w1 w2 z1 z2 C2
          have p0 : W2'.cell? ⟨w.heap.size, 0, none⟩ = some (.int .i64 (b : Int)) := by rw [blk_cell C2'.out.pb]; rfl
          have p1 : W2'.cell? ⟨w.heap.size, 1, none⟩ = some (.int .i64 (r : Int)) := by rw [blk_cell C2'.out.pb]; rfl
          by_cases hfull : b ≤ tt + kl + vl ∨ j + 1 = n
          case neg =>
            have hf1 : ¬ b ≤ tt + kl + vl := fun h => hfull (.inl h)
            have hf2 : ¬ j + 1 = n := fun h => hfull (.inr h)
            have hf1' : ¬ (b : Int) ≤ (tt : Int) + (kl : Int) + (vl : Int) := by omega
            have hf2' : ((j : Int) == (n : Int) - 1) = false := by rw [beq_eq_false_iff_ne]; omega
            have RBN : Hid (RB w W2' b r (i : Int) t ps D fr (j + 1) u6 u7 u8) := hid ⟨HB.out.eq, by omega, by rw [← HNN.out, HRC.out, HTT.out, ← HTE.out, if_neg hf1], fun e => absurd (by rw [HNN.out]; exact e) hf2, C2'.out.ob, C2'.out.ix, C2'.out.us, C2'.out.pb, C2'.out.fw⟩
            clear hfull
            go_wp2
            go_roundw
            case rel => exact ⟨D, fr, j + 1, by omega, by go_num, rfl, by rw [HTT.out, ← HTE.out]; go_num, RBN.out⟩
            case measure => simp [intOf]; omega
          obtain ⟨xf, hxf⟩ : ∃ xf : Bool, xf = true ↔ (b ≤ tt + kl + vl) := bool_of _
          have hnf : fil b (ps.drop fr) = j + 1 - fr := by
            rw [HRC.out, HTT.out, ← HTE.out]
            split
            · rfl
            · rename_i hno
              rcases hfull with h | h
              · exact absurd h hno
              · rw [show n - (j + 1) = 0 from by omega]; rfl
          have hne : ps.drop fr ≠ [] := fun e => by have := congrArg List.length e; rw [hdl, List.length_nil] at this; omega
          have HCH : Hid (chs b (ps.drop fr) = (ps.drop fr).take (j + 1 - fr) :: chs b (ps.drop (j + 1))) := hid (by rw [chs_cons hne, hnf, List.drop_drop, show fr + (j + 1 - fr) = j + 1 from by omega])
          have RBN : Hid (∀ (W : World) (v6 v7 v8 : Value), RC w W b r (i : Int) t (D ++ [(ps.drop fr).take (j + 1 - fr)]) v6 v7 v8 (usN ps (j + 1)) → RB w W b r (i : Int) t ps (D ++ [(ps.drop fr).take (j + 1 - fr)]) (j + 1) (j + 1) v6 v7 v8) := hid (fun W v6 v7 v8 h => ⟨by rw [List.append_assoc, List.singleton_append, ← HCH.out]; exact HB.out.eq, Nat.le_refl _, by rw [Nat.sub_self, ← HNN.out]; unfold fil; rw [List.length_drop, ← HNN.out], fun e => e, h.ob, h.ix, h.us, h.pb, h.fw⟩)
          obtain ⟨C, hC⟩ : ∃ C, C = (ps.drop fr).take (j + 1 - fr) := ⟨_, rfl⟩
          have hsub : C.Sublist ps := by rw [hC]; exact (List.take_sublist _ _).trans (List.drop_sublist _ _)
          have hClen : C.length = j + 1 - fr := by rw [hC, List.length_take, hdl]; omega
          have RdC : Hid (RdK w (.slice (some ⟨pb, po + fr * 2, none⟩) (j + 1 - fr) (c - fr)) C) := hid (by
            have h1 := HK.out.back (k := fr) (by rw [← HNN.out]; omega)
            rw [hC]
            exact h1.front (by rw [hdl]; omega))
          have hlast : lastK C = kA ps j := by
            unfold lastK
            rw [hClen, hC, (kA_take _ (by omega)).1, (kA_drop _ _ _).1, show fr + (j + 1 - fr - 1) = j from by omega]
          have LC := HL.out.sub hsub
          have hcb := (blk_len_le (ps := C) (r := r) (by have := LC.t; omega))
          have hct := LC.t
          have hcn := LC.n
          have OFC := hid (fun (W : World) (f : Fr [] w W) => of_c W (RdC.out.fr f) hcn r (by omega) (by omega) (HR.out.sub hsub) (by omega))
          have BYC := hid (show By (blk r C) from blk_by (HK.out.by.sub hsub) r)
          have hdat : (datL r D).length + ((blk r C).length + 4) ≤ 142000000 := by
            refine Nat.le_trans ?_ (HL.out.dat r b).1
            rw [← HB.out.eq, HCH.out, ← hC, datL_append, datL_cons, List.length_append, List.length_append, sealL_len]
            omega
          have HLAST := hid hlast
          rw [← hC] at RBN
          clear hlast hC HCH hne hnf hxf xf HRC hcb hct
          have hsl1 : (j : Int) + 1 ≤ (c : Int) := by omega
          have hsl2 : (fr : Int) ≤ (j : Int) + 1 := by omega
          have hsl3 : ((j : Int) + 1).toNat = j + 1 := by omega
          have hsl4 : ¬ c = fr := by omega
          have hwj : IntKind.i64.wrap ((j : Int) + 1) = (j : Int) + 1 := by rw [IntKind.wrap_i64]; omega
          go_upto_region 17 with fail
          go_cut [88] from 78 to 87 (fun v88 W => v88 = .bool true ∧ W = W2')
          case first =>
            by_cases hf1 : b ≤ tt + kl + vl
            · have hf1' : (b : Int) ≤ (tt : Int) + (kl : Int) + (vl : Int) := by omega
              clear hfull
              go_wp2
              go_meet
              case rel => exact ⟨rfl, rfl⟩
            · have hf1' : ¬ (b : Int) ≤ (tt : Int) + (kl : Int) + (vl : Int) := by omega
              have hf2' : ((j : Int) == (n : Int) - 1) = true := by rw [beq_iff_eq]; omega
              clear hfull
              go_wp2
              go_meet
              case rel => exact ⟨rfl, rfl⟩
          case rest =>
            obtain ⟨rfl, rfl⟩ := hcut
            clear hfull
            go_upto_region 18 with fail
            have OF2 := hid (OFC.out wc.drew (C2'.out.fw.trans (Fr.refl _ _).drew))
            go_region_with (go_at_call 37; refine OF2.out.mono ?_; rintro e W4 ⟨dv, rfl, o4, f4⟩; have O4 := hid o4; have C4 := hid (C2'.out.fr ((Fr.refl [] wc).drew.trans f4)); have S4 := hid (show wc.heap.size ≤ W4.heap.size from f4.size); clear o4 f4)
            obtain ⟨DL, hDL⟩ : ∃ DL, DL = (datL r D).length := ⟨_, rfl⟩
            obtain ⟨BL, hBL⟩ : ∃ BL, BL = (blk r C).length := ⟨_, rfl⟩
            have HDL := hid hDL
            have HBL := hid hBL
            have ob4 := C4.out.ob
            rw [← hDL] at ob4 hdat
            rw [← hBL] at O4 hdat
            obtain ⟨a6, k6, h6, _⟩ := ownsRow_slice ob4
            obtain ⟨da, dc, hd4, _⟩ := ownsRow_slice O4.out
            obtain ⟨cs7, ow7, ix7⟩ := C4.out.ix
            obtain ⟨IL, hIL⟩ : ∃ IL, IL = (idxF r 0 D).length := ⟨_, rfl⟩
            have HIL := hid hIL
            rw [← hIL] at ow7
            obtain ⟨a7, k7, h7, _⟩ := ownsRow_slice ow7
            have hIl : IL ≤ 1000000 := by
              have h1 := (HL.out.dat r b).2
              have h2 := HL.out.n
              have h3 := congrArg List.length HB.out.eq
              have h4 := idxF_len r D 0
              rw [List.length_append] at h3; omega
            subst h6
            subst hd4
            subst h7
            have OW7 := hid ow7
            have IX7 := hid ix7
            have UB : Hid (∀ k, (Value.slice a6 DL k6).ownBlock = some k → k < wc.heap.size) := hid (fun k hk => (C2'.out.ob.lt k hk).2)
            clear hDL hBL hIL ow7 ix7 ob4 OF2 OFC RdC C2' p0 p1
            have P1 := hid (refput_c W4 DL (by omega))
            go_upto_region 20 with (first
              | (at_builtin; refine wpList_append_rd rfl _ _ rfl W4.heap.size F6.out.size _ _ _ rfl O56.out _ _ rfl (Rd.ownB O6.out) bv_one (by have := putL_len10 (n := DL) (by omega); have := putL_len10 (n := BL) (by omega); rw [bv_len]; omega) ?_; intro v9 W7 o7 g7 q7; have O7 := hid o7; have F7 := hid (F6.out.grown g7 (fun k hk => .inr (O56.out.lt k hk).1)); clear o7 g7 q7)
              | (go_at_call 38; have zz := F5.out; clear zz; refine (refput_c W5 BL (by omega)).mono ?_; rintro e W6 ⟨v6', rfl, o6, f6⟩; obtain ⟨a6', k6', rfl, _⟩ := ownsRow_slice o6; have O6 := hid o6; have F6 := hid (F5.out.trans f6); have O56 := hid (ownsRow_fr O5.out f6); clear o6 f6)
              | (go_at_call 38; refine P1.out.mono ?_; rintro e W5 ⟨v5', rfl, o5, f5⟩; obtain ⟨a5', k5', rfl, _⟩ := ownsRow_slice o5; have O5 := hid o5; have F5 := hid f5; clear o5 f5))
            obtain ⟨Z, hZ⟩ : ∃ Z, Z = (putL DL ++ putL BL).length := ⟨_, rfl⟩
            have HZ := hid hZ
            have o7 := O7.out
            rw [show (putL DL).length + (bv (putL BL)).length = Z from by rw [hZ, bv_len, List.length_append], ← bv_append] at o7
            obtain ⟨a9, k9, h9, _⟩ := ownsRow_slice o7
            subst h9
            have O7 := hid o7
            have hZl : Z ≤ 20 := by have h1 := putL_len10 (n := DL) (by omega); have h2 := putL_len10 (n := BL) (by omega); rw [hZ, List.length_append]; omega
            clear hZ o7
            have C7 := hid (C4.out.fr F7.out)
            have z1 : W7.cell? ⟨pb, po + j * 2, none⟩ = some (.slice (some ⟨q0, o0, none⟩) kl kc) := by rw [HKL.out]; exact cell_fr C7.out.fw PJ.out.ck
            obtain ⟨W8, hW8⟩ : ∃ W8, W8 = W7.alloc (.cells #[.slice (some ⟨q0, o0, none⟩) kl kc, .slice a9 Z k9] 47) := ⟨_, rfl⟩
            have F8 : Hid (Fr [] W7 W8) := hid (by rw [hW8]; exact (Fr.refl _ _).alloc _)
            have B8 : Hid (W8.heap[W7.heap.size]? = some (.cells #[.slice (some ⟨q0, o0, none⟩) kl kc, .slice a9 Z k9] 47 (0, 0))) := hid (by rw [hW8]; exact blk_new _ _)
            have OW8 := hid (ownsRow_fr (ownsRow_fr OW7.out F7.out) F8.out)
            have C8 := hid (C7.out.fr F8.out)
            have hb8 : w.heap.size ≤ W8.heap.size := C8.out.fw.size
            go_upto_region 21 with (at_builtin; rw [← hW8]; clear hW8; refine wpList_append_kv rfl _ _ rfl w.heap.size hb8 _ _ _ rfl OW8.out W7.heap.size rfl B8.out (by omega) ?_; intro v10 W9 o9 g9 q9; have O9 := hid o9; have G9 := hid g9; clear o9 g9 q9)
            have C9 := hid (C8.out.entry G9.out OW8.out)
            have F48 := hid (F7.out.trans F8.out)
            have D9 := hid (own_stays OW8.out G9.out (ownsRow_fr O4.out F48.out) (by decide))
            have IX9 : Hid (IdxC w W9 w.heap.size (Value.slice a6 DL k6) v10 (idxF r 0 (D ++ [C]))) := hid (by
              rw [idxF_snoc, Nat.zero_add, ← HDL.out, ← HBL.out, HLAST.out]
              have ow8 := OW8.out
              have ow9 := O9.out
              rw [HIL.out] at ow8 ow9
              refine IdxC.app (kv := .slice (some ⟨q0, o0, none⟩) kl kc) (vv := .slice a9 Z k9) (p := (kA ps j, putL DL ++ putL BL)) ow8 (fun jj q hj => ?_) (by have := PJ.out.rk; dsimp only at this; rw [HKL.out]; exact this) (by have h1 := O7.out; rw [HZ.out] at h1 ⊢; exact own_base (ownsRow_fr h1 F8.out) (by have := C4.out.fw.size; omega)) (fun k hk e => ?_) PJ.out.bk ((putL_by _).append (putL_by _)) PJ.out.lk (by show (putL DL ++ putL BL).length ≤ _; rw [← HZ.out]; omega) ow9 (by rw [← HIL.out]; exact G9.out)
              · obtain ⟨kv, vv, c0, c1, r0, r1, d, b0⟩ := IX7.out jj q hj
                exact ⟨kv, vv, c0, c1, r0, ownsRow_fr (ownsRow_fr r1 F7.out) F8.out, d, b0⟩
              · have h1 := (O7.out.lt k hk).1
                have h2 := (C4.out.ob.lt k e).2
                omega)
            obtain ⟨ob9, us9, pb9, fw9⟩ := C9.out
            have OB9 := hid ob9
            have US9 := hid us9
            have PB9 := hid pb9
            have FW9 := hid fw9
            rw [← HDL.out] at OB9
            clear ob9 us9 pb9 fw9 z1 C9
            have hs9 : w.heap.size ≤ W9.heap.size := FW9.out.size
            have NDB : Hid (∀ k, (Value.slice da BL dc).ownBlock = some k → (Value.slice a6 DL k6).ownBlock ≠ some k) := hid (fun k hk e => by
              have h1 := (O4.out.lt k hk).1
              have h2 := UB.out k e
              have h3 : wc.drew.heap.size = wc.heap.size := rfl
              omega)
            have HBV : Hid (DL + (bv (blk r C)).length = DL + BL) := hid (by rw [bv_len, ← HBL.out])
            go_upto_region 22 with (first
              | (at_builtin; have zz := S11.out; clear zz; refine wpList_append_rd rfl _ _ rfl w.heap.size hs11 _ _ _ rfl OB11.out _ _ rfl (Rd.ownN S11.out (fixL_len _ _).symm) bv_one (by rw [bv_len, fixL_len]; omega) ?_; intro v12 W12 o12 g12 q12; have O12 := hid o12; have G12 := hid g12; have Q12 := hid q12; clear o12 g12 q12)
              | (go_at_call 39; refine (summed_c W10 (RD10.out) BYC.out (by rw [← HBL.out]; omega)).mono ?_; rintro e W11 ⟨sv, rfl, o11, f11⟩; obtain ⟨sa, sc, rfl, _⟩ := ownsRow_slice o11; have S11 := hid o11; have F11 := hid f11; have OB11 := hid (ownsRow_fr O10.out f11); have hs11 := Nat.le_trans hs10 f11.size; clear o11 f11)
              | (at_builtin; refine wpList_append_rd rfl _ _ rfl w.heap.size hs9 _ _ _ rfl OB9.out _ _ rfl (Rd.ownN D9.out HBL.out) bv_one (by rw [bv_len, ← HBL.out]; omega) ?_; intro v11 W10 o10 g10 q10; rw [HBV.out] at o10; obtain ⟨a11, k11, rfl, _⟩ := ownsRow_slice o10; have O10 := hid o10; have G10 := hid g10; have Q10 := hid q10; have RD10 := hid (Rd.ownN (ownsRow_of_block D9.out (fun k hk => g10.block k (D9.out.lt k hk).2 (fun e => NDB.out k hk e.symm))) HBL.out); have hs10 := Nat.le_trans hs9 g10.size; clear o10 g10 q10))
            have FIN : Hid (RB w W12 b r (i : Int) t ps (D ++ [C]) (j + 1) (j + 1) v12 v10 u8) := hid (RBN.out W12 v12 v10 u8 (by
              have o12 := O12.out
              have e2 : bv (datL r D) ++ bv (blk r C) ++ bv (fixL (crc (blk r C)) 4) = bv (datL r (D ++ [C])) := by
                rw [datL_snoc]; unfold sealL; rw [bv_append, bv_append, List.append_assoc]
              have e3 : DL + BL + (bv (fixL (crc (blk r C)) 4)).length = (datL r (D ++ [C])).length := by
                rw [datL_snoc, List.length_append, sealL_len, ← HDL.out, ← HBL.out, bv_len, fixL_len]; omega
              rw [e2, e3] at o12
              exact ⟨o12, ((IX9.out.file OB9.out G10.out Q10.out).fr F11.out).file OB11.out G12.out Q12.out, ((US9.out.file OB9.out G10.out).fr F11.out).file OB11.out G12.out, plan_file (F11.out.at (plan_file PB9.out OB9.out G10.out) (by simp)) OB11.out G12.out, ((FW9.out.grown G10.out (fun k hk => .inr (OB9.out.lt k hk).1)).trans F11.out).grown G12.out (fun k hk => .inr (OB11.out.lt k hk).1)⟩))
            clear IX9 OB9 US9 PB9 FW9 G10 Q10 O10 RD10 S11 F11 OB11 O12 G12 Q12 NDB D9 C8 OW8 B8 F8 C7 O7 F7 C4 O4
            go_wp2
            go_roundw
            case rel => exact ⟨D ++ [C], j + 1, j + 1, by omega, by go_num, by go_num, by rw [Nat.sub_self]; rfl, FIN.out⟩
            case measure => simp [intOf]; omega
    · have hjn : j = n := by omega
      subst hjn
      have hfr : fr = ps.length := HB.out.en HNN.out
      have HD : Hid (D = chs b ps) := hid (by have := HB.out.eq; rw [hfr, List.drop_length, chs_nil, List.append_nil] at this; exact this)
      have C0 := hid HB.out.rc
      have p2 : wr.cell? ⟨w.heap.size, 2, none⟩ = some (.int .i64 (i : Int)) := by rw [blk_cell C0.out.pb]; rfl
      have LI := HL.out.idx HR.out r b
      have LD := (HL.out.dat r b).1
      have hri : Hid (Rises (idxF r 0 D)) := hid (by rw [HD.out]; exact idx_rises (chs_flat b ps).2 (by rw [(chs_flat b ps).1]; exact HR.out))
      have hbi : Hid (ByP (idxF r 0 D)) := hid (by rw [HD.out]; exact idx_by _ _ (by rw [(chs_flat b ps).1]; exact HK.out.by) (chs_flat b ps).2)
      rw [← HD.out] at LI LD
      have hunl := usN_len ps j
      have LF := fltL_bd (bits := i) (rs := usN ps j) (by omega) (by omega)
      have hib := (blk_len_le (ps := idxF r 0 D) (r := 1) (by omega))
      have FC := hid (rfilter_c wr (C0.out.us.rd C0.out.fw) (by omega) i (by omega) (by omega))
      have HE : Hid (tblL r b i ps = layL (datL r D) (fltL i (usN ps j)) (blk 1 (idxF r 0 D))) := hid (by unfold tblL; rw [← HD.out, ← HNN.out])
      have BYD := hid (show By (datL r D) by rw [HD.out]; exact datL_by (by rw [(chs_flat b ps).1]; exact HK.out.by))
      obtain ⟨cs8, o8, _⟩ := C0.out.us
      obtain ⟨a8, k8, h8, _⟩ := ownsRow_slice o8
      subst h8
      obtain ⟨cs7, o7, _⟩ := C0.out.ix
      obtain ⟨a7, k7, h7, _⟩ := ownsRow_slice o7
      subst h7
      obtain ⟨a6, k6, h6, _⟩ := ownsRow_slice C0.out.ob
      subst h6
      clear o8 o7
      go_upto_region 25 with (go_at_call 40; refine FC.out.mono ?_; rintro e W1 ⟨flv, rfl, o1, f1⟩; obtain ⟨a1, k1, rfl, _⟩ := ownsRow_slice o1; have O1 := hid o1; have F1 := hid f1; clear o1 f1)
      have C1 := hid (C0.out.fr F1.out)
      have OC := hid (of_c W1 (C1.out.ix.rd C1.out.fw) LI.1 1 (by omega) (by omega) hri.out (by omega))
      clear FC p2
      go_upto_region 26 with (go_at_call 37; refine OC.out.mono ?_; rintro e W2 ⟨xv, rfl, o2, f2⟩; obtain ⟨a2, k2, rfl, _⟩ := ownsRow_slice o2; have O2 := hid o2; have F2 := hid f2; clear o2 f2)
      have C2 := hid (C1.out.fr F2.out)
      have O12 := hid (ownsRow_fr O1.out F2.out)
      have hxl : (blk 1 (idxF r 0 D)).length ≤ 200000000 := by omega
      have BYF := hid (fltL_by i (usN ps j))
      have BYX := hid (blk_by hbi.out 1)
      have ND1 : Hid (∀ k, (Value.slice a1 (fltL i (usN ps j)).length k1).ownBlock = some k → (Value.slice a6 (datL r D).length k6).ownBlock ≠ some k) := hid (fun k hk e => by
        have h1 := (O1.out.lt k hk).1
        have h2 := (C0.out.ob.lt k e).2
        omega)
      have ND2 : Hid (∀ k, (Value.slice a2 (blk 1 (idxF r 0 D)).length k2).ownBlock = some k → (Value.slice a6 (datL r D).length k6).ownBlock ≠ some k) := hid (fun k hk e => by
        have h1 := (O2.out.lt k hk).1
        have h2 := (C1.out.ob.lt k e).2
        omega)
      have OB2 := hid C2.out.ob
      have FW2 := hid C2.out.fw
      clear OC hib LI C0 C1 HB
      generalize fltL i (usN ps j) = fl at *
      generalize hxx : blk 1 (idxF r 0 D) = xl at *
      generalize hdd : datL r D = dl at *
      clear hxx hdd
      obtain ⟨FL, hFL⟩ : ∃ FL, FL = fl.length := ⟨_, rfl⟩
      obtain ⟨XL, hXL⟩ : ∃ XL, XL = xl.length := ⟨_, rfl⟩
      obtain ⟨DL, hDL⟩ : ∃ DL, DL = dl.length := ⟨_, rfl⟩
      have HFL := hid hFL
      have HXL := hid hXL
      have HDL := hid hDL
      rw [← hFL] at LF O12 ND1 ⊢
      rw [← hXL] at hxl O2 ND2 ⊢
      rw [← hDL] at LD OB2 ND1 ND2 ⊢
      clear hFL hXL hDL
      obtain ⟨W3, hW3⟩ : ∃ W3, W3 = W2.alloc (.cells #[.int .i64 (DL : Int), .int .i64 (FL : Int), .int .i64 ((DL : Int) + (FL : Int) + 4), .int .i64 (XL : Int)] 65) := ⟨_, rfl⟩
      have F3 : Hid (Fr [] W2 W3) := hid (by rw [hW3]; exact (Fr.refl _ _).alloc _)
      have A3 : Hid (W3.heap[W2.heap.size]? = some (.cells #[.int .i64 (DL : Int), .int .i64 (FL : Int), .int .i64 ((DL : Int) + (FL : Int) + 4), .int .i64 (XL : Int)] 65 (0, 0))) := hid (by rw [hW3]; exact blk_new _ _)
      have q4b : ∀ k, q4 DL FL (DL + FL + 4) XL k ≤ 1000000000 := fun k => by unfold q4; split; omega; split; omega; split; omega; omega
      have HQ := hid q4b
      go_wp2_with fail
      rw [← hW3]
      clear hW3 q4b
      go_loopw [17, 19] (fun v17 v19 wq => ∃ k : Nat, k ≤ 4 ∧ v19 = .int .i64 (k : Int) ∧ wq.ownsRow W3.heap.size 5 1 v17 (8 * k) (bv (p4 DL FL (DL + FL + 4) XL k)) ∧ Fr [] W3 wq) (fun _ v19 _ => 4 - (intOf v19).toNat)
      case atStart => exact ⟨0, by omega, rfl, World.ownsRow_nil _ _ _ _, Fr.refl _ _⟩
      case round =>
        obtain ⟨k, hk4, rfl, ho, hf⟩ := hrel
        obtain ⟨W4, hW4⟩ : ∃ W4, W4 = wr := ⟨_, rfl⟩
        rw [← hW4] at ho hf ⊢
        clear hW4
        have HO := hid ho
        have HF := hid hf
        obtain ⟨a17, k17, h17, _⟩ := ownsRow_slice ho
        subst h17
        clear ho hf
        by_cases hlt4 : k < 4
        · have A4 := HF.out.at A3.out (by simp)
          have ci : W4.cell? ⟨W2.heap.size, k, none⟩ = some (.int .i64 (q4 DL FL (DL + FL + 4) XL k : Int)) := by
            rw [blk_cell A4]
            rcases (show k = 0 ∨ k = 1 ∨ k = 2 ∨ k = 3 from by omega) with e | e | e | e
            all_goals (subst e; rfl)
          have hqk := HQ.out k
          have HP : Hid (p4 DL FL (DL + FL + 4) XL (k + 1) = p4 DL FL (DL + FL + 4) XL k ++ fixL (q4 DL FL (DL + FL + 4) XL k) 8) := hid rfl
          generalize q4 DL FL (DL + FL + 4) XL k = nn at *
          have RX := hid (reffixed_c W4 nn 8 (by omega) (by omega))
          have hs4 : W3.heap.size ≤ W4.heap.size := HF.out.size
          clear A4
          go_wp2_with (first
            | (at_builtin; refine wpList_append_rd rfl _ _ rfl W3.heap.size (Nat.le_trans hs4 F5.out.size) _ _ _ rfl (ownsRow_fr HO.out F5.out) _ _ rfl (Rd.ownN O5.out (fixL_len _ _).symm) bv_one (by rw [bv_len, fixL_len]; omega) ?_; intro v6' W6 o6 g6 q6; have O6 := hid o6; have F6 := hid ((HF.out.trans F5.out).grown g6 (fun k hk => .inr (HO.out.lt k hk).1)); clear o6 g6 q6)
            | (go_at_call 41; refine RX.out.mono ?_; rintro e W5 ⟨v5, rfl, o5, f5⟩; obtain ⟨a5, k5, rfl, _⟩ := ownsRow_slice o5; have O5 := hid o5; have F5 := hid f5; clear o5 f5))
          go_roundw
          case rel => exact ⟨k + 1, by omega, by go_num, by have := O6.out; rw [bv_len, fixL_len, ← bv_append, ← HP.out] at this; exact this, F6.out⟩
          case measure => simp [intOf]; omega
        · have hk : k = 4 := by omega
          subst hk
          have ho := HO.out
          rw [p4_all] at ho
          obtain ⟨nm, hnm⟩ : ∃ nm, nm = numsL DL FL (DL + FL + 4) XL := ⟨_, rfl⟩
          have HNM := hid hnm
          rw [← hnm] at ho
          have hnl : nm.length = 32 := by rw [hnm, numsL_len]
          have BYN := hid (show By nm by rw [hnm]; exact numsL_by _ _ _ _)
          clear hnm
          have F24 := hid (F3.out.trans HF.out)
          have OF4 : Hid (W4.ownsRow W3.heap.size 5 1 (.slice a17 32 k17) nm.length (bv nm)) := hid (by rw [hnl]; exact ho)
          have O14 : Hid (W4.ownsRow 0 5 1 (.slice a1 FL k1) fl.length (bv fl)) := hid (by rw [← HFL.out]; exact own_base (ownsRow_fr O12.out F24.out) (Nat.zero_le _))
          have O24 : Hid (W4.ownsRow W1.heap.size 5 1 (.slice a2 XL k2) xl.length (bv xl)) := hid (by rw [← HXL.out]; exact ownsRow_fr O2.out F24.out)
          have G0 : Hid (Gro W4 W4 w.heap.size (.slice a6 DL k6) (.slice a6 DL k6) dl) := hid (Gro.refl (by rw [← HDL.out]; exact ownsRow_fr OB2.out F24.out))
          have FW4 := hid (FW2.out.trans F24.out)
          have ND3 : Hid (∀ k, (Value.slice a17 32 k17).ownBlock = some k → (Value.slice a6 DL k6).ownBlock ≠ some k) := hid (fun k hk e => by
            have h1 := (OF4.out.lt k hk).1
            have h2 := (OB2.out.lt k e).2
            have h3 := F3.out.size
            omega)
          have hsw : w.heap.size ≤ W4.heap.size := FW4.out.size
          have OB0 := hid (fun k (hk : (Value.slice a6 DL k6).ownBlock = some k) => (OB2.out.lt k hk).1)
          clear ho HO O12 O2 OB2 A3
          obtain ⟨Z1a, hz1_1⟩ : ∃ Z, Z = (dl ++ fl).length := ⟨_, rfl⟩
          obtain ⟨Z1b, hz2_1⟩ : ∃ Z, Z = ((dl ++ fl) ++ fixL (crc fl) 4).length := ⟨_, rfl⟩
          have HZ1 := hid (And.intro hz1_1 hz2_1)
          clear hz1_1 hz2_1
          have R1 : Hid (∀ W' v', Gro W4 W' w.heap.size (.slice a6 DL k6) v' (dl) → Rd W' (.slice a1 FL k1) (bv fl)) := hid (fun W' v' G => G.rd O14.out ND1.out)
          have Q1 : Hid (∀ W' v', Gro W4 W' w.heap.size (.slice a6 DL k6) v' (dl ++ fl) → Rd W' (.slice a1 FL k1) (bv fl)) := hid (fun W' v' G => G.rd O14.out ND1.out)
          have L1 : Hid ((dl).length + fl.length ≤ 140737488355328 ∧ (dl ++ fl).length + (fixL (crc fl) 4).length ≤ 140737488355328 ∧ fl.length ≤ 1000000000) := hid (by have h1 := HDL.out; have h2 := HFL.out; have h3 := HXL.out; simp only [List.length_append, fixL_len]; omega)
          go_upto_region 33 with (first
            | (at_builtin; have zz := T1.out; clear zz; refine wpList_app_gro rfl _ _ rfl GQ1.out hC1 rfl _ (Rd.ownN T1.out (fixL_len _ _).symm) rfl L1.out.2.1 Z1b HZ1.out.2 ?_; intro aB1 kB1 WC1 gC hD1; have GE1 := hid gC; clear gC)
            | (go_at_call 39; refine (summed_c _ (Q1.out _ _ GB1.out) BYF.out L1.out.2.2).mono ?_; rintro e WB1 ⟨sv, rfl, os, fs⟩; obtain ⟨aS1, kS1, rfl, _⟩ := ownsRow_slice os; have T1 := hid os; have GQ1 := hid (GB1.out.quiet fs); have hC1 := Nat.le_trans hB1 fs.size; clear os fs)
            | (at_builtin; refine wpList_app_gro rfl _ _ rfl G0.out hsw rfl _ (R1.out _ _ G0.out) rfl L1.out.1 Z1a HZ1.out.1 ?_; intro aA1 kA1 WA1 gA hB1; have GB1 := hid gA; clear gA))
          obtain ⟨Z2a, hz1_2⟩ : ∃ Z, Z = (((dl ++ fl) ++ fixL (crc fl) 4) ++ xl).length := ⟨_, rfl⟩
          obtain ⟨Z2b, hz2_2⟩ : ∃ Z, Z = ((((dl ++ fl) ++ fixL (crc fl) 4) ++ xl) ++ fixL (crc xl) 4).length := ⟨_, rfl⟩
          have HZ2 := hid (And.intro hz1_2 hz2_2)
          clear hz1_2 hz2_2
          have R2 : Hid (∀ W' v', Gro W4 W' w.heap.size (.slice a6 DL k6) v' (((dl ++ fl) ++ fixL (crc fl) 4)) → Rd W' (.slice a2 XL k2) (bv xl)) := hid (fun W' v' G => G.rd O24.out ND2.out)
          have Q2 : Hid (∀ W' v', Gro W4 W' w.heap.size (.slice a6 DL k6) v' (((dl ++ fl) ++ fixL (crc fl) 4) ++ xl) → Rd W' (.slice a2 XL k2) (bv xl)) := hid (fun W' v' G => G.rd O24.out ND2.out)
          have L2 : Hid ((((dl ++ fl) ++ fixL (crc fl) 4)).length + xl.length ≤ 140737488355328 ∧ (((dl ++ fl) ++ fixL (crc fl) 4) ++ xl).length + (fixL (crc xl) 4).length ≤ 140737488355328 ∧ xl.length ≤ 1000000000) := hid (by have h1 := HDL.out; have h2 := HFL.out; have h3 := HXL.out; simp only [List.length_append, fixL_len]; omega)
          go_upto_region 34 with (first
            | (at_builtin; have zz := T2.out; clear zz; refine wpList_app_gro rfl _ _ rfl GQ2.out hC2 rfl _ (Rd.ownN T2.out (fixL_len _ _).symm) rfl L2.out.2.1 Z2b HZ2.out.2 ?_; intro aB2 kB2 WC2 gC hD2; have GE2 := hid gC; clear gC)
            | (go_at_call 39; refine (summed_c _ (Q2.out _ _ GB2.out) BYX.out L2.out.2.2).mono ?_; rintro e WB2 ⟨sv, rfl, os, fs⟩; obtain ⟨aS2, kS2, rfl, _⟩ := ownsRow_slice os; have T2 := hid os; have GQ2 := hid (GB2.out.quiet fs); have hC2 := Nat.le_trans hB2 fs.size; clear os fs)
            | (at_builtin; refine wpList_app_gro rfl _ _ rfl GE1.out hD1 rfl _ (R2.out _ _ GE1.out) rfl L2.out.1 Z2a HZ2.out.1 ?_; intro aA2 kA2 WA2 gA hB2; have GB2 := hid gA; clear gA))
          obtain ⟨Z3a, hz1_3⟩ : ∃ Z, Z = (((((dl ++ fl) ++ fixL (crc fl) 4) ++ xl) ++ fixL (crc xl) 4) ++ nm).length := ⟨_, rfl⟩
          obtain ⟨Z3b, hz2_3⟩ : ∃ Z, Z = ((((((dl ++ fl) ++ fixL (crc fl) 4) ++ xl) ++ fixL (crc xl) 4) ++ nm) ++ fixL (crc nm) 4).length := ⟨_, rfl⟩
          have HZ3 := hid (And.intro hz1_3 hz2_3)
          clear hz1_3 hz2_3
          have R3 : Hid (∀ W' v', Gro W4 W' w.heap.size (.slice a6 DL k6) v' (((((dl ++ fl) ++ fixL (crc fl) 4) ++ xl) ++ fixL (crc xl) 4)) → Rd W' (.slice a17 32 k17) (bv nm)) := hid (fun W' v' G => G.rd OF4.out ND3.out)
          have Q3 : Hid (∀ W' v', Gro W4 W' w.heap.size (.slice a6 DL k6) v' (((((dl ++ fl) ++ fixL (crc fl) 4) ++ xl) ++ fixL (crc xl) 4) ++ nm) → Rd W' (.slice a17 32 k17) (bv nm)) := hid (fun W' v' G => G.rd OF4.out ND3.out)
          have L3 : Hid ((((((dl ++ fl) ++ fixL (crc fl) 4) ++ xl) ++ fixL (crc xl) 4)).length + nm.length ≤ 140737488355328 ∧ (((((dl ++ fl) ++ fixL (crc fl) 4) ++ xl) ++ fixL (crc xl) 4) ++ nm).length + (fixL (crc nm) 4).length ≤ 140737488355328 ∧ nm.length ≤ 1000000000) := hid (by have h1 := HDL.out; have h2 := HFL.out; have h3 := HXL.out; simp only [List.length_append, fixL_len]; omega)
          go_upto_region 35 with (first
            | (at_builtin; have zz := T3.out; clear zz; refine wpList_app_gro rfl _ _ rfl GQ3.out hC3 rfl _ (Rd.ownN T3.out (fixL_len _ _).symm) rfl L3.out.2.1 Z3b HZ3.out.2 ?_; intro aB3 kB3 WC3 gC hD3; have GE3 := hid gC; clear gC)
            | (go_at_call 39; refine (summed_c _ (Q3.out _ _ GB3.out) BYN.out L3.out.2.2).mono ?_; rintro e WB3 ⟨sv, rfl, os, fs⟩; obtain ⟨aS3, kS3, rfl, _⟩ := ownsRow_slice os; have T3 := hid os; have GQ3 := hid (GB3.out.quiet fs); have hC3 := Nat.le_trans hB3 fs.size; clear os fs)
            | (at_builtin; refine wpList_app_gro rfl _ _ rfl GE2.out hD2 rfl _ (R3.out _ _ GE2.out) rfl L3.out.1 Z3a HZ3.out.1 ?_; intro aA3 kA3 WA3 gA hB3; have GB3 := hid gA; clear gA))
          obtain ⟨CUR, hCUR⟩ : ∃ CUR, CUR = (((((dl ++ fl) ++ fixL (crc fl) 4) ++ xl) ++ fixL (crc xl) 4) ++ nm) ++ fixL (crc nm) 4 := ⟨_, rfl⟩
          have HCUR := hid hCUR
          have GE4 : Hid (Gro W4 WC3 w.heap.size (.slice a6 DL k6) (.slice aB3 Z3b kB3) CUR) := hid (by rw [hCUR]; exact GE3.out)
          have hCl : CUR.length ≤ 1000000000 := by have h1 := HDL.out; have h2 := HFL.out; have h3 := HXL.out; rw [hCUR]; simp only [List.length_append, fixL_len]; omega
          obtain ⟨ZZ, hZZ⟩ : ∃ ZZ, ZZ = (CUR ++ magicL).length := ⟨_, rfl⟩
          have HZZ := hid hZZ
          have hml : magicL.length = 8 := rfl
          clear hCUR hZZ
          go_wp2_with (first
            | (go_at_call 21; refine (magic8_c WC3).mono ?_; rintro e WD ⟨mv, rfl, om, fm⟩; obtain ⟨aM, kM, rfl, _⟩ := ownsRow_slice om; have TM := hid om; have GM := hid (GE4.out.quiet fm); have hM := Nat.le_trans hD3 fm.size; clear om fm)
            | (at_builtin; refine wpList_app_gro rfl _ _ rfl GM.out hM rfl _ (Rd.ownN TM.out hml.symm) rfl (by omega) ZZ HZZ.out ?_; intro aZ kZ WZ gZ hZ; have GZ := hid gZ; clear gZ hZ))
          go_ret2
          have eq : CUR ++ magicL = tblL r b i ps := by
            rw [HE.out, HCUR.out, HNM.out]
            unfold layL footL sealL
            rw [← HDL.out, ← HFL.out, ← HXL.out]
            simp only [List.append_assoc]
          have own := GZ.out.own
          rw [eq] at own
          refine ⟨_, rfl, own, ?_⟩
          refine ((FW4.out.mono (by simp)).trans GZ.out.fr).shed (fun k hk hlt => ?_)
          rw [Option.mem_toList] at hk
          have := OB0.out k hk
          omega
end Go.Proofs.YtnnookkcnmgbfaaGreat
