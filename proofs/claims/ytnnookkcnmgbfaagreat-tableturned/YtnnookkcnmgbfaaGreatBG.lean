/-
  Package block: what a taker takes: a line.
-/
import Derived.Test.YtnnookkcnmgbfaaGreatBF
import Derived.Deep.Upon
import Derived.ArgAppend
namespace Go.Proofs.YtnnookkcnmgbfaaGreat
open Go.ChangeShapes Go.WideShapes Go.ChangeAt Go.RowKit

theorem Fr.one {t : Nat} {w w' : World} (f : Fr [t] w w') {k : Nat} {o : Obj} (h : w.heap[k]? = some o) (hk : k ≠ t) : w'.heap[k]? = some o := f.at h (by simp [hk])
theorem Tk.no {w : World} {t p q o n c : Nat} {h : Bool} (T : Tk w t (.slice (some ⟨q, o, none⟩) n c) p h) : ¬ U8 w t := by
  refine noU8 (cs := [.slice (some ⟨q, o, none⟩) n c, .int .i64 (p : Int), .bool h]) T ?_
  intro c hc n e
  simp at hc
  rcases hc with rfl | rfl | rfl <;> simp at e
theorem Tk.keep {w w' : World} {t p q o n c : Nat} {h : Bool} (T : Tk w t (.slice (some ⟨q, o, none⟩) n c) p h) (f : Fr [t] w w') {v : Value} {ns : List Nat} (r : Rd w v (bv ns)) : Rd w' v (bv ns) :=
  r.keep fun k hk => f.block k hk.lt (by simp; intro e; subst e; exact T.no hk)
/-- A number is taken, or it isn't there. -/
theorem num_c (w : World) {t q o c p most : Nat} {h : Bool} {all : List Nat} (T : Tk w t (.slice (some ⟨q, o, none⟩) all.length c) p h) (hr : Rd w (.slice (some ⟨q, o, none⟩) all.length c) (bv all)) (hb : By all) (hc : all.length < c) (hl : all.length ≤ 1000000000) (hp : p ≤ all.length) (hm : most ≤ 1000000000) :
    Calls Tryz.prog 119 #[.pointer (some ⟨t, 0, none⟩), .int .i64 (most : Int)] w fun e w' => ∃ (n p' : Nat) (h' : Bool), e = .returned (.int .i64 (n : Int)) ∧ Tk w' t (.slice (some ⟨q, o, none⟩) all.length c) p' h' ∧ p ≤ p' ∧ p' ≤ all.length ∧ n ≤ most ∧ (numL all p most = some (n, p') ∧ h' = h ∨ numL all p most = none ∧ h' = true) ∧ Fr [t] w w' := by
  refine (number_c w T hr hb hc hl hp hm).mono ?_
  rintro e w' ⟨⟨n, p', h1, rfl, T'⟩ | ⟨h1, rfl, T'⟩, f⟩
  · obtain ⟨a1, a2, a3⟩ := numL_inv hb h1
    have := congrArg List.length a3
    rw [List.length_drop, List.length_append, List.length_drop] at this
    have hpos := putL_pos n
    exact ⟨n, p', h, rfl, T', by omega, by omega, a1, .inl ⟨h1, rfl⟩, f⟩
  · exact ⟨0, p, true, rfl, T', Nat.le_refl _, hp, Nat.zero_le _, .inr ⟨h1, rfl⟩, f⟩
/-- Bytes are taken, or they aren't there. -/
theorem byt_c (w : World) {t q o c p n : Nat} {h : Bool} {all : List Nat} (T : Tk w t (.slice (some ⟨q, o, none⟩) all.length c) p h) (hr : Rd w (.slice (some ⟨q, o, none⟩) all.length c) (bv all)) (hb : By all) (hc : all.length < c) (hl : all.length ≤ 1000000000) (hp : p ≤ all.length) :
    Calls Tryz.prog 120 #[.pointer (some ⟨t, 0, none⟩), .int .i64 (n : Int)] w fun e w' => ∃ (sa : Option Addr) (m : List Nat) (sc p' : Nat) (h' : Bool), e = .returned (.slice sa m.length sc) ∧ (∀ k, (Value.slice sa m.length sc).ownBlock = some k → k = q) ∧ Rd w' (.slice sa m.length sc) (bv m) ∧ By m ∧ m.length ≤ 1000000000 ∧ Tk w' t (.slice (some ⟨q, o, none⟩) all.length c) p' h' ∧ p' ≤ all.length ∧ (p + n ≤ all.length ∧ m = (all.drop p).take n ∧ p' = p + n ∧ h' = h ∨ all.length < p + n ∧ h' = true) ∧ Fr [t] w w' := by
  rcases Nat.lt_or_ge all.length (p + n) with hn | hn
  · refine (bytes_no w T hl hp hn).mono ?_
    rintro e w' ⟨rfl, T', f⟩
    exact ⟨none, [], 0, p, true, rfl, fun k hk => by simp [Value.ownBlock] at hk, .inl ⟨rfl, rfl⟩, fun n h => absurd h (by simp), by simp, T', hp, .inr ⟨hn, rfl⟩, f⟩
  · refine (bytes_ok w T hc hl hn).mono ?_
    rintro e w' ⟨rfl, T', f⟩
    have hm : ((all.drop p).take n).length = n := by rw [List.length_take, List.length_drop]; omega
    have hr2 := hr.mid (i := p) (n := n) hn
    refine ⟨some ⟨q, o + p, none⟩, (all.drop p).take n, c - p, p + n, h, by rw [hm], fun k hk => by simp [Value.ownBlock] at hk; exact hk.symm, by rw [hm]; exact T.keep f hr2, (hb.drop _).take _, by omega, T', hn, .inl ⟨hn, rfl, rfl, rfl⟩, f⟩

theorem own_len (a : Option Addr) (n c n' c' : Nat) : (Value.slice a n c).ownBlock = (Value.slice a n' c').ownBlock := by cases a <;> rfl
/-- Where a row of bytes lies: in a block that Q tells, or in one of bytes. -/
def T8 (W : World) (v : Value) (Q : Nat → Prop) : Prop := ∀ k, v.ownBlock = some k → Q k ∨ ∃ cs, W.heap[k]? = some (.cells cs 5 (0, 0))
theorem T8.fr {W W' : World} {v : Value} {Q : Nat → Prop} (h : T8 W v Q) (f : Fr [] W W') : T8 W' v Q := fun k hk => by
  rcases h k hk with h | ⟨cs, h⟩
  · exact .inl h
  · exact .inr ⟨cs, f.at h (by simp)⟩
theorem T8.one {W W' : World} {v : Value} {Q : Nat → Prop} (h : T8 W v Q) {t : Nat} (f : Fr [t] W W') {cs : Array Value} {T : TypeId} (ht : W.heap[t]? = some (.cells cs T (0, 0))) (hT : T ≠ 5) : T8 W' v Q := fun k hk => by
  rcases h k hk with h | ⟨cs', h⟩
  · exact .inl h
  · refine .inr ⟨cs', f.one h (fun e => ?_)⟩
    subst e
    rw [ht] at h
    simp at h
    exact hT h.2
theorem Fr.setc {W : World} {t : Nat} (j : Nat) (y : Value) : Fr [t] W (W.setCell ⟨t, j, none⟩ y) := (Fr.refl _ _).set _ _ (.inl (by simp))
/-- append(x[:n:n], y...): what is appended to has no room, and stays. -/
theorem step_append_full {ops : Array Oper} {o : Oper} {a : Act} {w : World} {K : Act → World → Prop} {Q : Exit → Act → World → Prop} {E : Prop} (hg : o.guard = none) (s x : Operand) (hop : o.op = Op.call { callee := Callee.builtin Builtin.append, args := #[s, x], argTypes := #[22, 22] }) {aa : Option Addr} {n : Nat} (hs : a.eval s = .slice aa n n) {sa : Option Addr} {ns : List Nat} {sc : Nat} (hx : a.eval x = .slice sa ns.length sc) {xs : List Nat} (hn : n = xs.length) (rx : Rd w (.slice aa n n) (bv xs)) (rn : Rd w (.slice sa ns.length sc) (bv ns)) (hl : n + ns.length ≤ 140737488355328)
    (hK : ∀ a' c' w', Rd w' (.slice a' (n + ns.length) c') (bv (xs ++ ns)) → T8 w' (.slice a' (n + ns.length) c') (fun k => (Value.slice aa n n).ownBlock = some k) → Fr [] w w' → K (a.put o.dst (.slice a' (n + ns.length) c')) w') :
    if Region.wanted o (yielded ops a.tmps) = true then Oper.wp Tryz.prog o a w K Q else E := by
  have hw : Region.wanted o (yielded ops a.tmps) = true := by simp [Region.wanted, hg]
  rw [if_pos hw]
  obtain ⟨i0, hi, hz0, hz1, hz2⟩ := info_parts infoB
  rcases Nat.eq_zero_or_pos ns.length with h0 | h0
  · have hns : ns = [] := List.eq_nil_of_length_eq_zero h0
    subst hns
    have hsrc : Src Tryz.prog i0.size 22 (.slice sa 0 sc) 0 [] w := by
      cases sa with
      | none => exact Src.ofNil w Tryz.underlying22 sc
      | some ad => exact Src.ofSlice w Tryz.underlying22 ad 0 sc [] (by simp) (by simp) (by simp)
    have hrun := run_append_nothing (P := Tryz.prog) w 22 22 o.type 5 i0 Tryz.underlying22 hi aa n n (Nat.le_refl _) (.slice sa 0 sc) hsrc
    unfold Oper.wp
    simp [execOp, hop, resolve, invoke, builtin, hs, hx, hrun, Result.andThen]
    have := hK aa n w (by simpa using rx) (fun k hk => .inl ((own_len _ _ _ _ _).trans hk)) (Fr.refl _ _)
    simp only [List.length_nil, Nat.add_zero] at this
    exact this
  · obtain ⟨b2, o2, c2, e2, _, _, g2⟩ : ∃ b off c, Value.slice sa ns.length sc = .slice (some ⟨b, off, none⟩) ns.length c ∧ ns.length ≤ c ∧ 0 < ns.length ∧ ∀ (j n : Nat), ns[j]? = some n → w.cell? ⟨b, off + j, none⟩ = some (.int .u8 (n : Int)) := by
      rcases rn.split with ⟨e, _⟩ | h
      · rw [e] at h0; simp at h0
      · exact h
    simp only [Value.slice.injEq, true_and] at e2
    obtain ⟨rfl, rfl⟩ := e2
    have hnews : ∀ j u, (bv ns)[j]? = some u → w.cell? ((⟨b2, o2, none⟩ : Addr).add j) = some u := by
      intro j u hj
      unfold bv at hj
      rw [List.getElem?_map, Option.map_eq_some_iff] at hj
      obtain ⟨m, hm, rfl⟩ := hj
      rw [Addr.add_lit]; exact g2 j m hm
    have key : ∃ v' w', (Builtin.append_ #[22, 22] o.type #[.slice aa n n, .slice (some ⟨b2, o2, none⟩) ns.length sc]).run Tryz.prog w = .ok v' w' ∧ w'.ownsRow w.heap.size 5 1 v' (n + ns.length) (bv xs ++ bv ns) ∧ w.grownBy w' none := by
      rcases rx with ⟨e, hx0⟩ | ⟨b, c, e, _, h5⟩
      · simp only [Value.slice.injEq] at e
        obtain ⟨rfl, rfl, _⟩ := e
        rw [hx0]
        obtain ⟨v', w', hrun, h2, h3, _, _⟩ := run_append_own_at (P := Tryz.prog) w w.heap.size 22 o.type 5 i0 (.int .u8 0) 1 1 Tryz.underlying22 hi hz0 hz1 hz2 rfl (by decide) (.slice none 0 0) 0 [] (World.ownsRow_nil _ _ _ _) ⟨b2, o2, none⟩ ns.length sc (bv ns) (by rw [bv_len]; simp) hnews bv_one (by unfold maxLen; omega) (by omega) (Nat.le_refl _)
        exact ⟨v', w', hrun, h2, h3⟩
      · rw [bv_len] at e
        simp only [Value.slice.injEq] at e
        obtain ⟨rfl, _, _⟩ := e
        exact run_append_arg_grows (P := Tryz.prog) w 22 o.type 5 i0 (.int .u8 0) 1 1 Tryz.underlying22 hi hz0 hz1 hz2 rfl (by decide) b n n (bv xs) (by rw [bv_len, hn]; simp) h5 ⟨b2, o2, none⟩ ns.length sc (bv ns) (by rw [bv_len]; simp) hnews (by omega) (by unfold maxLen; omega) (by omega)
    obtain ⟨v', w', hrun, h2, h3⟩ := key
    rw [← bv_append] at h2
    obtain ⟨a', c', rfl, _⟩ := ownsRow_slice h2
    unfold Oper.wp
    simp [execOp, hop, resolve, invoke, builtin, hs, hx, hrun, Result.andThen]
    refine hK _ _ _ (Rd.ownN h2 (by rw [List.length_append, ← hn])) (fun k hk => .inr ?_) ((Fr.refl _ _).grown h3 (by simp))
    rcases h2.2 with ⟨e, _⟩ | ⟨g, cap, cur, e, _, hg, _⟩
    · rw [e] at hk; simp [Value.ownBlock] at hk
    · rw [e] at hk; simp [Value.ownBlock] at hk; subst hk; exact ⟨cur, hg⟩

/-- What line holds: the taker, its answer, the entry that is being made. -/
structure LS (w W : World) (t q o c : Nat) (all ah : List Nat) (av : Value) (p : Nat) (s : Nat) (ka : Option Addr) (kn kc : Nat) (va : Option Addr) (vn vc : Nat) (p' : Nat) (h : Bool) : Prop where
  tk : Tk W t (.slice (some ⟨q, o, none⟩) all.length c) p' h
  rr : Rd W (.slice (some ⟨q, o, none⟩) all.length c) (bv all)
  ra : Rd W av (bv ah)
  res : W.heap[w.heap.size]? = some (.cells #[.int .i64 0, .int .i64 0, .slice none 0 0, .slice none 0 0] 161 (0, 0))
  x : W.heap[w.heap.size + 1]? = some (.cells #[.int .i64 (p : Int), .int .i64 (s : Int), .slice ka kn kc, .slice va vn vc] 161 (0, 0))
  fr : Fr [t] w W
  lt : t < w.heap.size
theorem LS.call {w W W' : World} {t q o c : Nat} {all ah : List Nat} {av : Value} {p s : Nat} {ka : Option Addr} {kn kc : Nat} {va : Option Addr} {vn vc p' : Nat} {h : Bool} (L : LS w W t q o c all ah av p s ka kn kc va vn vc p' h) (f : Fr [t] W W') {p'' : Nat} {h'' : Bool} (T : Tk W' t (.slice (some ⟨q, o, none⟩) all.length c) p'' h'') : LS w W' t q o c all ah av p s ka kn kc va vn vc p'' h'' := by
  have := L.lt
  exact ⟨T, L.tk.keep f L.rr, L.tk.keep f L.ra, f.one L.res (by omega), f.one L.x (by omega), L.fr.trans f, L.lt⟩
theorem LS.quiet {w W W' : World} {t q o c : Nat} {all ah : List Nat} {av : Value} {p s : Nat} {ka : Option Addr} {kn kc : Nat} {va : Option Addr} {vn vc p' : Nat} {h : Bool} (L : LS w W t q o c all ah av p s ka kn kc va vn vc p' h) (f : Fr [] W W') : LS w W' t q o c all ah av p s ka kn kc va vn vc p' h :=
  L.call (f.mono (by simp)) (f.at L.tk (by simp))
theorem LS.keepX {w W : World} {t q o c : Nat} {all ah : List Nat} {av : Value} {p s : Nat} {ka : Option Addr} {kn kc : Nat} {va : Option Addr} {vn vc p' : Nat} {h : Bool} (L : LS w W t q o c all ah av p s ka kn kc va vn vc p' h) (j : Nat) (y : Value) {v : Value} {ns : List Nat} (r : Rd W v (bv ns)) : Rd (W.setCell ⟨w.heap.size + 1, j, none⟩ y) v (bv ns) := by
  have hn : ¬ U8 W (w.heap.size + 1) := by
    refine noU8 (cs := [.int .i64 (p : Int), .int .i64 (s : Int), .slice ka kn kc, .slice va vn vc]) L.x ?_
    intro c hc n e
    simp at hc
    rcases hc with rfl | rfl | rfl | rfl <;> simp at e
  exact r.keep fun k hk => blk_setne _ _ _ (fun e => by subst e; exact hn hk)
theorem LS.set {w W : World} {t q o c : Nat} {all ah : List Nat} {av : Value} {p s : Nat} {ka : Option Addr} {kn kc : Nat} {va : Option Addr} {vn vc p' : Nat} {h : Bool} (L : LS w W t q o c all ah av p s ka kn kc va vn vc p' h) (j : Nat) (y : Value) {s2 : Nat} {ka2 : Option Addr} {kn2 kc2 : Nat} {va2 : Option Addr} {vn2 vc2 : Nat}
    (e : (#[.int .i64 (p : Int), .int .i64 (s : Int), .slice ka kn kc, .slice va vn vc] : Array Value).setIfInBounds j y = #[.int .i64 (p : Int), .int .i64 (s2 : Int), .slice ka2 kn2 kc2, .slice va2 vn2 vc2]) : LS w (W.setCell ⟨w.heap.size + 1, j, none⟩ y) t q o c all ah av p s2 ka2 kn2 kc2 va2 vn2 vc2 p' h := by
  have hl := L.lt
  refine ⟨by unfold Tk; rw [blk_setne _ _ _ (by omega)]; exact L.tk, L.keepX j y L.rr, L.keepX j y L.ra, by rw [blk_setne _ _ _ (by omega)]; exact L.res, ?_, L.fr.set _ _ (.inr (by omega)), hl⟩
  rw [blk_set L.x, e]

theorem sizeLn : (Tryz.prog.info? 161).map (·.size) = some 4 := by kernel_rfl
set_option maxRecDepth 20000 in
set_option maxHeartbeats 6400000 in
theorem line_c (w : World) {t q o c p : Nat} {all ah : List Nat} {av : Value} (T : Tk w t (.slice (some ⟨q, o, none⟩) all.length c) p false) (hr : Rd w (.slice (some ⟨q, o, none⟩) all.length c) (bv all)) (hb : By all) (hc : all.length < c) (hl : all.length ≤ 1000000000) (hp : p ≤ all.length) (ra : Rd w av (bv ah)) (hal : ah.length ≤ 1000000000) :
    Calls Tryz.prog 115 #[.pointer (some ⟨t, 0, none⟩), av] w fun e w' => ∃ (s : Nat) (ka : Option Addr) (k : List Nat) (kc : Nat) (va : Option Addr) (v : List Nat) (vc p' : Nat) (h' : Bool), e = .returned (.agg #[.int .i64 (p : Int), .int .i64 (s : Int), .slice ka k.length kc, .slice va v.length vc]) ∧ Rd w' (.slice ka k.length kc) (bv k) ∧ T8 w' (.slice ka k.length kc) (fun b => av.ownBlock = some b) ∧ Rd w' (.slice va v.length vc) (bv v) ∧ (∀ b, (Value.slice va v.length vc).ownBlock = some b → b = q) ∧ Tk w' t (.slice (some ⟨q, o, none⟩) all.length c) p' h' ∧ (h' = false ∧ lineL all ah p = some (s, k, v, p') ∨ h' = true ∧ lineL all ah p = none) ∧ Fr [t] w w' := by
  have hT := blk_lt T
  have HB := hid hb
  have hac : ∃ aa ac, av = .slice aa ah.length ac ∧ ah.length ≤ ac := by
    rcases ra with ⟨e, h0⟩ | ⟨b, c, e, hle, _⟩
    · have : ah = [] := by cases ah with | nil => rfl | cons => simp [bv] at h0
      subst this
      exact ⟨_, _, e, Nat.le_refl _⟩
    · rw [bv_len] at e hle
      exact ⟨_, _, e, hle⟩
  obtain ⟨aa, ac, rfl, hac⟩ := hac
  obtain ⟨W1, hW1⟩ : ∃ W, W = w.alloc (.cells #[.int .i64 0, .int .i64 0, .slice none 0 0, .slice none 0 0] 161) := ⟨_, rfl⟩
  have F1 : Fr [] w W1 := by rw [hW1]; exact (Fr.refl _ _).alloc _
  have R1 : W1.heap[w.heap.size]? = some (.cells #[.int .i64 0, .int .i64 0, .slice none 0 0, .slice none 0 0] 161 (0, 0)) := by rw [hW1]; exact blk_new _ _
  have T1 := F1.at T (by simp)
  have z1 : W1.cell? ⟨t, 1, none⟩ = some (.int .i64 (p : Int)) := by rw [blk_cell T1]; rfl
  have s1 : W1.heap.size = w.heap.size + 1 := by rw [hW1]; simp
  obtain ⟨W2, hW2⟩ : ∃ W, W = W1.alloc (.cells #[.int .i64 (p : Int), .int .i64 0, .slice none 0 0, .slice none 0 0] 161) := ⟨_, rfl⟩
  have F2 : Fr [] W1 W2 := by rw [hW2]; exact (Fr.refl _ _).alloc _
  have L2 : LS w W2 t q o c all ah (.slice aa ah.length ac) p 0 none 0 0 none 0 0 p false :=
    ⟨F2.at T1 (by simp), (hr.fr F1).fr F2, (ra.fr F1).fr F2, F2.at R1 (by simp), by rw [hW2]; exact new_at _ _ s1.symm, (F1.trans F2).mono (by simp), hT⟩
  have H2 := hid L2
  clear hr ra R1 T1 F1 hb T L2 F2
  go_enter Tryz.func115, Tryz.ntmps115
  go_upto_region 1 with fail
  rw [← hW1]
  clear hW1
  go_wp2_with fail
  rw [← hW2]
  clear hW2 z1 s1
  refine (num_c W2 H2.out.tk H2.out.rr HB.out hc hl hp hal).mono ?_
  rintro e W3 ⟨s, p1, h1, rfl, T3, hp1, hp1', hs, hn1, f3⟩
  have H3 := hid (H2.out.call f3 T3)
  have N1 := hid hn1
  have x1 : W3.cell? ⟨w.heap.size + 1, 1, none⟩ = some (.int .i64 0) := by rw [blk_cell H3.out.x]; rfl
  have xf := blk_frozen H3.out.x
  have H4 := hid (H3.out.set 1 (.int .i64 (s : Int)) rfl)
  have z0 : (W3.setCell ⟨w.heap.size + 1, 1, none⟩ (.int .i64 (s : Int))).cell? ⟨t, 0, none⟩ = some (.slice (some ⟨q, o, none⟩) all.length c) := by rw [blk_cell H4.out.tk]; rfl
  clear T3 f3 hn1 H2 H3
  obtain ⟨W4, hW4⟩ : ∃ W, W = W3.setCell ⟨w.heap.size + 1, 1, none⟩ (.int .i64 (s : Int)) := ⟨_, rfl⟩
  rw [← hW4] at z0 H4
  go_upto_region 3 with fail
  rw [← hW4]
  clear hW4 x1 xf
  go_wp2_with fail
  refine (num_c W4 H4.out.tk H4.out.rr HB.out hc hl hp1' hl).mono ?_
  rintro e W5 ⟨l, p2, h2, rfl, T5, hp2, hp2', hll, hn2, f5⟩
  have H5 := hid (H4.out.call f5 T5)
  have N2 := hid hn2
  have z0 : W5.cell? ⟨t, 0, none⟩ = some (.slice (some ⟨q, o, none⟩) all.length c) := by rw [blk_cell H5.out.tk]; rfl
  clear T5 f5 hn2 H4
  go_wp2_with fail
  refine (num_c W5 H5.out.tk H5.out.rr HB.out hc hl hp2' hl).mono ?_
  rintro e W6 ⟨z, p3, h3, rfl, T6, hp3, hp3', hz, hn3, f6⟩
  have H6 := hid (H5.out.call f6 T6)
  have N3 := hid hn3
  clear T6 f6 hn3 H5
  have hsa : ¬ (ac : Int) < (s : Int) := by omega
  have hsa2 : s ≤ ac := by omega
  have SK : Hid (∀ w', LS w w' t q o c all ah (.slice aa ah.length ac) p s none 0 0 none 0 0 p3 h3 → w'.cell? ⟨w.heap.size + 1, 1, none⟩ = some (.int .i64 (s : Int))) := hid fun w' L => by rw [blk_cell L.x]; rfl
  have H7 := hid (H6.out.quiet (Fr.refl [] W6).drew)
  go_upto_region 5 with fail
  have hS0 := SK.out _ H7.out
  refine wp_region_held_drew (S := fun w' => w'.cell? ⟨w.heap.size + 1, 1, none⟩ = some (.int .i64 (s : Int))) (by kernel_rfl) hS0 (fun hS => ?_)
  refine wpAnyH_take (i := 0) (v := .slice aa ah.length ac) rfl (by kernel_rfl) (by kernel_rfl) (by kernel_rfl) (fun _ _ _ h => h) (.inl ⟨by rfl, fun wx _ => by go_simp⟩) hS ?_
  simp only [Act.put]
  refine wpAnyH_take (i := 1) (v := .pointer (some ⟨w.heap.size + 1, 1, none⟩)) rfl (by kernel_rfl) (by kernel_rfl) (by kernel_rfl) (fun _ _ _ h => h) (.inl ⟨by rfl, fun wx _ => by go_simp⟩) hS ?_
  simp only [Act.put]
  refine wpAnyH_take (i := 2) (v := .int .i64 (s : Int)) rfl (by kernel_rfl) (by kernel_rfl) (by kernel_rfl) (fun _ _ _ h => h) (.inl ⟨by rfl, fun wx hX => by have x0 := hX; go_simp⟩) hS ?_
  simp only [Act.put]
  refine wpAnyH_take (i := 3) (v := .pointer (some ⟨w.heap.size + 1, 1, none⟩)) rfl (by kernel_rfl) (by kernel_rfl) (by kernel_rfl) (fun _ _ _ h => h) (.inl ⟨by rfl, fun wx _ => by go_simp⟩) hS ?_
  simp only [Act.put]
  refine wpAnyH_take (i := 4) (v := .int .i64 (s : Int)) rfl (by kernel_rfl) (by kernel_rfl) (by kernel_rfl) (fun _ _ _ h => h) (.inl ⟨by rfl, fun wx hX => by have x0 := hX; go_simp⟩) hS ?_
  simp only [Act.put]
  refine wpAnyH_take (i := 5) (v := .slice aa s s) rfl (by kernel_rfl) (by kernel_rfl) (by kernel_rfl) (fun _ _ _ h => h) (.inl ⟨by rfl, fun wx _ => by go_simp⟩) hS ?_
  simp only [Act.put]
  refine wpAnyH_take (i := 6) (v := .pointer (some ⟨t, 0, none⟩)) rfl (by kernel_rfl) (by kernel_rfl) (by kernel_rfl) (fun _ _ _ h => h) (.inl ⟨by rfl, fun wx _ => by go_simp⟩) hS ?_
  simp only [Act.put]
  refine wpAnyH_take (i := 7) (v := .int .i64 (l : Int)) rfl (by kernel_rfl) (by kernel_rfl) (by kernel_rfl) (fun _ _ _ h => h) (.inl ⟨by rfl, fun wx _ => by go_simp⟩) hS ?_
  simp only [Act.put]
  clear hS
  refine wpAnyH_ready (rs := [8]) (by kernel_rfl) (by simp) ?_
  refine AllReadyH.cons rfl (fun K hK => ?_) AllReadyH.nil
  go_simp
  refine (byt_c W6.drew (n := l) H7.out.tk H7.out.rr HB.out hc hl hp3').mono ?_
  rintro e W8 ⟨sa, m, sc, p4, h4, rfl, _, rm, bm, hml, TK8, hp4, hn4, f8⟩
  have H8 := hid (H7.out.call f8 TK8)
  have N4 := hid hn4
  have RM := hid rm
  have BM := hid bm
  have hS8 : W8.cell? ⟨w.heap.size + 1, 1, none⟩ = some (.int .i64 (s : Int)) := by rw [blk_cell H8.out.x]; rfl
  refine hK.out _ _ hS8 (fun _ => ?_)
  clear hK K rm bm TK8 hn4 f8 H7 hS0 SK
  refine wpAnyH_ready (rs := [9]) (by kernel_rfl) (by simp) ?_
  refine AllReadyH.cons rfl (fun K hK => ?_) AllReadyH.nil
  have hst : (ah.take s).length = s := by rw [List.length_take]; omega
  have RA : Rd W8 (.slice aa s s) (bv (ah.take s)) := by
    rcases H8.out.ra with ⟨e, h0⟩ | ⟨b, c', e, hle, h5⟩
    · simp only [Value.slice.injEq] at e
      obtain ⟨rfl, e1, _⟩ := e
      have hs0 : s = 0 := by omega
      subst hs0
      exact .inl ⟨rfl, rfl⟩
    · simp only [Value.slice.injEq] at e
      obtain ⟨rfl, _, _⟩ := e
      refine .inr ⟨b, s, by rw [bv_len, hst], by rw [bv_len, hst]; exact Nat.le_refl _, fun j u hj => h5 j u ?_⟩
      rw [bv_take, List.getElem?_take] at hj
      split at hj
      · exact hj
      · cases hj
  refine step_append_full rfl (.tmp 37) (.tmp 40) rfl (aa := aa) (n := s) (by simp [Act.eval]) (sa := sa) (ns := m) (sc := sc) (by simp [Act.eval]) hst.symm RA RM.out (by omega) ?_
  intro ka kc W9 rk kt9 f9
  have H9 := hid (H8.out.quiet f9)
  have RK := hid rk
  have hS9 : W9.cell? ⟨w.heap.size + 1, 1, none⟩ = some (.int .i64 (s : Int)) := by rw [blk_cell H9.out.x]; rfl
  have x2 : W9.cell? ⟨w.heap.size + 1, 2, none⟩ = some (.slice none 0 0) := by rw [blk_cell H9.out.x]; rfl
  have xf := blk_frozen H9.out.x
  have H10 := hid (H9.out.set 2 (.slice ka (s + m.length) kc) rfl)
  have KT10 := hid (kt9.one (Fr.setc (t := w.heap.size + 1) 2 (.slice ka (s + m.length) kc)) H9.out.x (by decide))
  have RK10 := hid (H9.out.keepX 2 (.slice ka (s + m.length) kc) rk)
  refine hK.out _ _ hS9 (fun _ => ?_)
  clear hK K rk f9 H8 RM RA kt9
  refine wpAnyH_ready (rs := [10]) (by kernel_rfl) (by simp) ?_
  refine AllReadyH.cons rfl (fun K hK => ?_) AllReadyH.nil
  go_simp
  refine hK.out _ _ hS9 (fun _ => ?_)
  clear hK K
  refine wpAnyH_ready (rs := [11]) (by kernel_rfl) (by simp) ?_
  refine AllReadyH.cons rfl (fun K hK => ?_) AllReadyH.nil
  go_simp
  refine hK.out _ _ (by rw [blk_cell H10.out.x]; rfl) (fun _ => ?_)
  clear hK K
  refine wpAnyH_done (by kernel_rfl) ?_ _
  clear hS9 x2 xf H9
  generalize W9.setCell ⟨w.heap.size + 1, 2, none⟩ (.slice ka (s + m.length) kc) = W10 at *
  go_wp2_with fail
  refine (byt_c W10 (n := z) H10.out.tk H10.out.rr HB.out hc hl hp4).mono ?_
  rintro e W11 ⟨va, m2, vc, p5, h5, rfl, vq, rm, bm, hml2, T11, hp5, hn5, f11⟩
  have H11 := hid (H10.out.call f11 T11)
  have N5 := hid hn5
  have RK11 := hid (H10.out.tk.keep f11 RK10.out)
  have VQ := hid vq
  have KT12 := hid ((KT10.out.one f11 H10.out.tk (by decide)).one (Fr.setc (t := w.heap.size + 1) 3 (.slice va m2.length vc)) H11.out.x (by decide))
  have RV12 := hid (H11.out.keepX 3 (.slice va m2.length vc) rm)
  have RK12 := hid (H11.out.keepX 3 (.slice va m2.length vc) RK11.out)
  have H12 := hid (H11.out.set 3 (.slice va m2.length vc) rfl)
  have x3 : W11.cell? ⟨w.heap.size + 1, 3, none⟩ = some (.slice none 0 0) := by rw [blk_cell H11.out.x]; rfl
  have xf := blk_frozen H11.out.x
  clear rm bm T11 hn5 f11 H10 RK10 RK11 KT10 vq
  obtain ⟨W12, hW12⟩ : ∃ W, W = W11.setCell ⟨w.heap.size + 1, 3, none⟩ (.slice va m2.length vc) := ⟨_, rfl⟩
  rw [← hW12] at RV12 RK12 H12 KT12
  go_upto_region 7 with fail
  rw [← hW12]
  clear hW12 x3 xf H11
  have y0 : W12.cell? ⟨w.heap.size + 1, 0, none⟩ = some (.int .i64 (p : Int)) := by rw [blk_cell H12.out.x]; rfl
  have y1 : W12.cell? ⟨w.heap.size + 1, 1, none⟩ = some (.int .i64 (s : Int)) := by rw [blk_cell H12.out.x]; rfl
  have y2 : W12.cell? ⟨w.heap.size + 1, 2, none⟩ = some (.slice ka (s + m.length) kc) := by rw [blk_cell H12.out.x]; rfl
  have y3 : W12.cell? ⟨w.heap.size + 1, 3, none⟩ = some (.slice va m2.length vc) := by rw [blk_cell H12.out.x]; rfl
  have u0 : W12.cell? ⟨w.heap.size, 0, none⟩ = some (.int .i64 0) := by rw [blk_cell H12.out.res]; rfl
  have u1 : W12.cell? ⟨w.heap.size, 1, none⟩ = some (.int .i64 0) := by rw [blk_cell H12.out.res]; rfl
  have u2 : W12.cell? ⟨w.heap.size, 2, none⟩ = some (.slice none 0 0) := by rw [blk_cell H12.out.res]; rfl
  have u3 : W12.cell? ⟨w.heap.size, 3, none⟩ = some (.slice none 0 0) := by rw [blk_cell H12.out.res]; rfl
  have uf := blk_frozen H12.out.res
  go_wp2
  have hkk : (ah.take s ++ m).length = s + m.length := by rw [List.length_append, hst]
  obtain ⟨WF, hWF⟩ : ∃ W, W = (((W12.setCell ⟨w.heap.size, 0, none⟩ (.int .i64 (p : Int))).setCell ⟨w.heap.size, 1, none⟩ (.int .i64 (s : Int))).setCell ⟨w.heap.size, 2, none⟩ (.slice ka (s + m.length) kc)).setCell ⟨w.heap.size, 3, none⟩ (.slice va m2.length vc) := ⟨_, rfl⟩
  have HRB : WF.heap[w.heap.size]? = some (.cells #[.int .i64 (p : Int), .int .i64 (s : Int), .slice ka (s + m.length) kc, .slice va m2.length vc] 161 (0, 0)) := by
    rw [hWF, blk_set (blk_set (blk_set (blk_set H12.out.res 0 _) 1 _) 2 _)]; rfl
  have kp : ∀ k, k ≠ w.heap.size → WF.heap[k]? = W12.heap[k]? := fun k hk => by
    rw [hWF, blk_setne _ _ _ hk, blk_setne _ _ _ hk, blk_setne _ _ _ hk, blk_setne _ _ _ hk]
  have hno : ¬ U8 W12 w.heap.size := by
    refine noU8 (cs := [.int .i64 0, .int .i64 0, .slice none 0 0, .slice none 0 0]) H12.out.res ?_
    intro c hc n e
    simp at hc
    rcases hc with rfl | rfl <;> simp at e
  have ku : ∀ k, U8 W12 k → WF.heap[k]? = W12.heap[k]? := fun k hk => kp k (fun e => by subst e; exact hno hk)
  have FF : Fr [t] w WF := by rw [hWF]; exact (((H12.out.fr.set _ _ (.inr (Nat.le_refl _))).set _ _ (.inr (Nat.le_refl _))).set _ _ (.inr (Nat.le_refl _))).set _ _ (.inr (Nat.le_refl _))
  have TT : Tk WF t (.slice (some ⟨q, o, none⟩) all.length c) p5 h5 := by unfold Tk; rw [kp t (by omega)]; exact H12.out.tk
  have KTF : T8 WF (.slice ka (s + m.length) kc) (fun b => (Value.slice aa ah.length ac).ownBlock = some b) := fun k hk => by
    rcases KT12.out k hk with e | ⟨cs, e⟩
    · exact .inl ((own_len _ _ _ _ _).trans e)
    · refine .inr ⟨cs, ?_⟩
      rw [kp k (fun e' => ?_)]
      · exact e
      · subst e'; rw [H12.out.res] at e; simp at e
  have fin : h5 = false ∧ lineL all ah p = some (s, ah.take s ++ m, m2, p5) ∨ h5 = true ∧ lineL all ah p = none := by
    have t4 : h3 = true → h5 = true := fun e3 => by
      have e4 : h4 = true := by
        rcases N4.out with ⟨_, _, _, e⟩ | ⟨_, e⟩
        · rw [e]; exact e3
        · exact e
      rcases N5.out with ⟨_, _, _, e⟩ | ⟨_, e⟩
      · rw [e]; exact e4
      · exact e
    have t3 : h2 = true → h5 = true := fun e2 => t4 (by
      rcases N3.out with ⟨_, e⟩ | ⟨_, e⟩
      · rw [e]; exact e2
      · exact e)
    have t2 : h1 = true → h5 = true := fun e1 => t3 (by
      rcases N2.out with ⟨_, e⟩ | ⟨_, e⟩
      · rw [e]; exact e1
      · exact e)
    rcases N1.out with ⟨a1, e1⟩ | ⟨a1, e1⟩
    case inr => exact .inr ⟨t2 e1, by unfold lineL; rw [a1]⟩
    rcases N2.out with ⟨a2, e2⟩ | ⟨a2, e2⟩
    case inr => exact .inr ⟨t3 e2, by unfold lineL; rw [a1]; dsimp only; rw [a2]⟩
    rcases N3.out with ⟨a3, e3⟩ | ⟨a3, e3⟩
    case inr => exact .inr ⟨t4 e3, by unfold lineL; rw [a1]; dsimp only; rw [a2]; dsimp only; rw [a3]⟩
    rcases N4.out with ⟨b1, b2, b3, e4⟩ | ⟨b1, e4⟩
    case inr =>
      refine .inr ⟨?_, by unfold lineL; rw [a1]; dsimp only; rw [a2]; dsimp only; rw [a3]; dsimp only; rw [if_neg (by omega)]⟩
      rcases N5.out with ⟨_, _, _, e⟩ | ⟨_, e⟩
      · rw [e]; exact e4
      · exact e
    rcases N5.out with ⟨d1, d2, d3, e5⟩ | ⟨d1, e5⟩
    · refine .inl ⟨by rw [e5, e4, e3, e2, e1], ?_⟩
      unfold lineL
      rw [a1]; dsimp only
      rw [a2]; dsimp only
      rw [a3]; dsimp only
      rw [if_pos (by omega), d2, b2, d3, b3]
    · exact .inr ⟨e5, by unfold lineL; rw [a1]; dsimp only; rw [a2]; dsimp only; rw [a3]; dsimp only; rw [if_neg (by omega)]⟩
  rw [← hWF]
  refine bodyPost_ret (v := .agg #[.int .i64 (p : Int), .int .i64 (s : Int), .slice ka (s + m.length) kc, .slice va m2.length vc]) (results_cell_row rfl _ WF w.heap.size 161 _ (0, 0) _ (by simp) HRB Tryz.underlying161 rfl sizeLn) rfl ?_
  refine ⟨s, ka, ah.take s ++ m, kc, va, m2, vc, p5, h5, by rw [hkk], ?_, ?_, RV12.out.keep ku, VQ.out, TT, fin, FF⟩
  · rw [hkk]
    exact RK12.out.keep ku
  · rw [hkk]
    exact KTF
end Go.Proofs.YtnnookkcnmgbfaaGreat
