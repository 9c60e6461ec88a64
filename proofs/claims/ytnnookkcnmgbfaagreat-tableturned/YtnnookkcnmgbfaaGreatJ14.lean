/-
  An entry of the index: its two numbers.
-/
import Derived.Test.YtnnookkcnmgbfaaGreatJ08
import Derived.Test.YtnnookkcnmgbfaaGreatJ01
import Derived.Test.YtnnookkcnmgbfaaGreatJ07
namespace Go.Proofs.YtnnookkcnmgbfaaGreat
open Go.ChangeShapes Go.WideShapes Go.ChangeAt Go.RowKit

theorem ret_ct {fn : Func} {p u : Tmp} {ty : TypeId} (h : fn.results = #[.cell p ty, .tmp u]) {tmps : Array Value} {w : World} {g : Nat} {cs : Array Value} (hp : tmps.getD p undef = .pointer (some ⟨g, 0, none⟩)) (hg : (loadVar ty ⟨g, 0, none⟩).run Tryz.prog w = .ok (.agg cs) w) :
    (results fn tmps).run Tryz.prog w = .ok (.tuple #[.agg cs, tmps.getD u undef]) w := by
  have hp' : tmps[p]?.getD undef = .pointer (some ⟨g, 0, none⟩) := by simpa using hp
  simp [results, h, hp', asAddr, hg]
theorem load_pc2 {w : World} {g : Nat} {a b : Value} {t : TypeId} (hg : w.heap[g]? = some (.cells #[a, b] t (0, 0))) : (loadVar 52 ⟨g, 0, none⟩).run Tryz.prog w = .ok (.agg #[a, b]) w :=
  run_loadVar_row w g t 52 #[a, b] (0, 0) _ hg Tryz.underlying52 rfl sizePc
theorem Rd.backc {w : World} {q o c : Nat} {b : List Nat} (h : Rd w (.slice (some ⟨q, o, none⟩) b.length c) (bv b)) {k : Nat} (hk : k ≤ b.length) : Rd w (.slice (if c = k then some ⟨q, o, none⟩ else some ⟨q, o + k, none⟩) (b.length - k) (c - k)) (bv (b.drop k)) := by
  have hc := h.cap
  split
  · have hl : b.length = k := by omega
    have e : b.drop k = [] := List.drop_eq_nil_of_le (by omega)
    refine .inr ⟨_, _, by rw [e, hl, Nat.sub_self]; rfl, by rw [e]; simp [bv], fun j u hj => by rw [e] at hj; simp [bv] at hj⟩
  · exact h.back hk
/-- The two numbers, read one after the other. -/
structure Pl (v : List Nat) (a k e1 n j e2 : Nat) : Prop where
  t1 : takeL v = (a, k, e1)
  t2 : takeL (v.drop k) = (n, j, e2)
  hk : k ≤ v.length
  hj : j ≤ v.length - k
  ha : a < 18446744073709551616
  hn : n < 18446744073709551616
theorem pl_ex {v : List Nat} (hb : By v) : ∃ a k e1 n j e2, Pl v a k e1 n j e2 := by
  have h1 := tk_bound v hb 0 0 (by omega) (by omega)
  have h2 := tk_bound (v.drop (takeL v).2.1) (hb.drop _) 0 0 (by omega) (by omega)
  rw [Nat.zero_add] at h1 h2
  rw [List.length_drop] at h2
  exact ⟨_, _, _, _, _, _, rfl, rfl, h1.2.1, h2.2.1, h1.1, h2.1⟩
theorem Pl.eq {v : List Nat} {a k e1 n j e2 : Nat} (h : Pl v a k e1 n j e2) : placeL v = if e1 = 0 ∧ e2 = 0 ∧ k + j = v.length then some (a, n) else none := by
  unfold placeL
  rw [h.t1]
  dsimp only
  rw [h.t2]
theorem takeL_err {v : List Nat} : ∀ (i x : Nat), (tk i x v).2.2 = 0 ∨ (tk i x v).2.2 = 20 ∨ (tk i x v).2.2 = 21 := by
  induction v with
  | nil => intro i x; right; left; rfl
  | cons y r ih =>
    intro i x
    by_cases h1 : i = 9 ∧ 1 < y ∨ 0 < i ∧ y = 0
    · rw [tk_bad h1]; right; right; rfl
    · by_cases h2 : y < 128
      · rw [tk_end h1 h2]; left; rfl
      · rw [tk_on h1 h2]; exact ih _ _
set_option maxRecDepth 20000 in
set_option maxHeartbeats 3200000 in
theorem placeOf_c (w : World) {q o c : Nat} {v : List Nat} (hr : Rd w (.slice (some ⟨q, o, none⟩) v.length c) (bv v)) (hb : By v) (hl : v.length ≤ 1000000000) :
    Calls Tryz.prog 65 #[.slice (some ⟨q, o, none⟩) v.length c] w fun e w' => ((∃ a n : Nat, e = .returned (.tuple #[.agg #[.int .u64 (a : Int), .int .u64 (n : Int)], .bool true]) ∧ placeL v = some (a, n)) ∨ (e = .returned (.tuple #[.agg #[.int .u64 0, .int .u64 0], .bool false]) ∧ placeL v = none)) ∧ Fr [] w w' := by
  obtain ⟨a, k, e1, n, j, e2, hp⟩ := pl_ex hb
  have HP := hid hp.eq
  have hk := hp.hk
  have hj := hp.hj
  have ha := hp.ha
  have hn := hp.hn
  have hcap := hr.cap
  obtain ⟨W0, hW0⟩ : ∃ W0, W0 = w.alloc (.cells #[.int .u64 0, .int .u64 0] 52) := ⟨_, rfl⟩
  have F0 : Hid (Fr [] w W0) := hid (by rw [hW0]; exact (Fr.refl _ _).alloc _)
  have N0 : Hid (W0.heap[w.heap.size]? = some (.cells #[.int .u64 0, .int .u64 0] 52 (0, 0))) := hid (by rw [hW0]; exact blk_new _ _)
  have T1 := hid (take_c (hr.fr F0.out) hb (by omega))
  have T2 := hid (take_c ((hr.fr F0.out).backc hk) (hb.drop _) (by rw [List.length_drop]; omega))
  have E1 := takeL_err (v := v) 0 0
  have E2 := takeL_err (v := v.drop k) 0 0
  have t1 := hp.t1
  have t2 := hp.t2
  unfold takeL at t1 t2
  rw [t1] at E1
  rw [t2] at E2
  rw [hp.t1] at T1
  rw [hp.t2] at T2
  unfold tkv at T1 T2
  clear hp t1 t2 hr hb
  obtain ⟨L, hL⟩ : ∃ L, v.length = L := ⟨_, rfl⟩
  rw [hL] at hl hk hj hcap T1 T2 HP ⊢
  clear hL
  by_cases h1 : e1 = 0
  · by_cases h2 : e2 = 0
    · by_cases h3 : k + j = L
      · have hpl : Hid (placeL v = some (a, n)) := hid (by rw [HP.out, if_pos ⟨h1, h2, h3⟩])
        have h3' : ((k : Int) + (j : Int) == (L : Int)) = true := by rw [beq_iff_eq]; omega
        subst h1 h2
        clear HP h3 E1 E2
        go_enter Tryz.func65, Tryz.ntmps65
        go_wp2_with (first
          | (go_at_call 101; have zz := Z1; clear zz; refine T2.out.mono ?_; rintro e w1 ⟨rfl, h⟩; rw [h]; clear h)
          | (go_at_call 101; rw [← hW0]; clear hW0; have Z1 := N0.out; have z0 := (show W0.cell? ⟨w.heap.size, 0, none⟩ = some (.int .u64 0) from (by rw [blk_cell Z1]; rfl)); have z1 := (show W0.cell? ⟨w.heap.size, 1, none⟩ = some (.int .u64 0) from (by rw [blk_cell Z1]; rfl)); have zf := blk_frozen Z1; refine T1.out.mono ?_; rintro e w1 ⟨rfl, h⟩; rw [h]; clear h))
        all_goals refine bodyPost_ret (ret_ct rfl (g := w.heap.size) (by simp) (load_pc2 (a := .int .u64 (a : Int)) (b := .int .u64 (n : Int)) (by rw [blk_set (blk_set N0.out 0 _) 1 _]; rfl))) rfl ?_
        all_goals exact ⟨.inl ⟨a, n, rfl, hpl.out⟩, (F0.out.set _ _ (.inr (Nat.le_refl _))).set _ _ (.inr (Nat.le_refl _))⟩
      · have hpl : Hid (placeL v = none) := hid (by rw [HP.out, if_neg (fun h => h3 h.2.2)])
        have h3' : ((k : Int) + (j : Int) == (L : Int)) = false := by rw [beq_eq_false_iff_ne]; omega
        subst h1 h2
        clear HP h3 E1 E2
        go_enter Tryz.func65, Tryz.ntmps65
        go_wp2_with (first
          | (go_at_call 101; have zz := Z1; clear zz; refine T2.out.mono ?_; rintro e w1 ⟨rfl, h⟩; rw [h]; clear h)
          | (go_at_call 101; rw [← hW0]; clear hW0; have Z1 := N0.out; have z0 := (show W0.cell? ⟨w.heap.size, 0, none⟩ = some (.int .u64 0) from (by rw [blk_cell Z1]; rfl)); have z1 := (show W0.cell? ⟨w.heap.size, 1, none⟩ = some (.int .u64 0) from (by rw [blk_cell Z1]; rfl)); have zf := blk_frozen Z1; refine T1.out.mono ?_; rintro e w1 ⟨rfl, h⟩; rw [h]; clear h))
        all_goals refine bodyPost_ret (ret_ct rfl (g := w.heap.size) (by simp) (load_pc2 (a := .int .u64 0) (b := .int .u64 0) (by rw [blk_set (blk_set N0.out 0 _) 1 _]; rfl))) rfl ?_
        all_goals exact ⟨.inr ⟨rfl, hpl.out⟩, (F0.out.set _ _ (.inr (Nat.le_refl _))).set _ _ (.inr (Nat.le_refl _))⟩
    · have hpl : Hid (placeL v = none) := hid (by rw [HP.out, if_neg (fun h => h2 h.2.1)])
      have h2' : ((e2 : Int) == 0) = false := by rw [beq_eq_false_iff_ne]; omega
      subst h1
      clear HP E1 E2
      go_enter Tryz.func65, Tryz.ntmps65
      go_wp2_with (first
        | (go_at_call 101; have zz := Z1; clear zz; refine T2.out.mono ?_; rintro e w1 ⟨rfl, h⟩; rw [h]; clear h)
        | (go_at_call 101; rw [← hW0]; clear hW0; have Z1 := N0.out; have z0 := (show W0.cell? ⟨w.heap.size, 0, none⟩ = some (.int .u64 0) from (by rw [blk_cell Z1]; rfl)); have z1 := (show W0.cell? ⟨w.heap.size, 1, none⟩ = some (.int .u64 0) from (by rw [blk_cell Z1]; rfl)); have zf := blk_frozen Z1; refine T1.out.mono ?_; rintro e w1 ⟨rfl, h⟩; rw [h]; clear h))
      all_goals refine bodyPost_ret (ret_ct rfl (g := w.heap.size) (by simp) (load_pc2 (a := .int .u64 0) (b := .int .u64 0) (by rw [blk_set (blk_set N0.out 0 _) 1 _]; rfl))) rfl ?_
      all_goals exact ⟨.inr ⟨rfl, hpl.out⟩, (F0.out.set _ _ (.inr (Nat.le_refl _))).set _ _ (.inr (Nat.le_refl _))⟩
  · have hpl : Hid (placeL v = none) := hid (by rw [HP.out, if_neg (fun h => h1 h.1)])
    have h1' : ((e1 : Int) == 0) = false := by rw [beq_eq_false_iff_ne]; omega
    clear HP E1 E2
    go_enter Tryz.func65, Tryz.ntmps65
    go_wp2_with (first
      | (go_at_call 101; have zz := Z1; clear zz; refine T2.out.mono ?_; rintro e w1 ⟨rfl, h⟩; rw [h]; clear h)
      | (go_at_call 101; rw [← hW0]; clear hW0; have Z1 := N0.out; have z0 := (show W0.cell? ⟨w.heap.size, 0, none⟩ = some (.int .u64 0) from (by rw [blk_cell Z1]; rfl)); have z1 := (show W0.cell? ⟨w.heap.size, 1, none⟩ = some (.int .u64 0) from (by rw [blk_cell Z1]; rfl)); have zf := blk_frozen Z1; refine T1.out.mono ?_; rintro e w1 ⟨rfl, h⟩; rw [h]; clear h))
    all_goals refine bodyPost_ret (ret_ct rfl (g := w.heap.size) (by simp) (load_pc2 (a := .int .u64 0) (b := .int .u64 0) (by rw [blk_set (blk_set N0.out 0 _) 1 _]; rfl))) rfl ?_
    all_goals exact ⟨.inr ⟨rfl, hpl.out⟩, (F0.out.set _ _ (.inr (Nat.le_refl _))).set _ _ (.inr (Nat.le_refl _))⟩
end Go.Proofs.YtnnookkcnmgbfaaGreat
namespace Go.Proofs.YtnnookkcnmgbfaaGreat
open Go.ChangeShapes Go.WideShapes Go.ChangeAt Go.RowKit

/-- append([]byte(nil), x...) within a region that draws. -/
theorem step_append_nilB {ops : Array Oper} {o : Oper} {a : Act} {w : World} {K : Act → World → Prop} {Q : Exit → Act → World → Prop} {E : Prop} (hg : o.guard = none) (s x : Operand) (hop : o.op = Op.call { callee := Callee.builtin Builtin.append, args := #[s, x], argTypes := #[22, 22] }) (hs : a.eval s = .slice none 0 0) {sx : Value} (hx : a.eval x = sx) {ns : List Nat} (hr : Rd w sx (bv ns)) (hl : ns.length ≤ 140737488355328)
    (hK : ∀ v' w', w'.ownsRow w.heap.size 5 1 v' ns.length (bv ns) → Fr [] w w' → K (a.put o.dst v') w') :
    if Region.wanted o (yielded ops a.tmps) = true then Oper.wp Tryz.prog o a w K Q else E := by
  have hw : Region.wanted o (yielded ops a.tmps) = true := by simp [Region.wanted, hg]
  rw [if_pos hw]
  obtain ⟨i0, hi, hz0, hz1, hz2⟩ := info_parts infoB
  rcases hr with ⟨rfl, h0⟩ | ⟨ad, c, rfl, h4, h5⟩
  · have hn0 : ns = [] := by cases ns with | nil => rfl | cons => simp [bv] at h0
    subst hn0
    have hrun : ∀ ty, (Builtin.append_ #[22, 22] ty #[.slice none 0 0, .slice none 0 0]).run Tryz.prog w = .ok (.slice none 0 0) w := fun ty => by
      simp [Builtin.append_, Builtin.firstCells, go_sem]
    unfold Oper.wp
    simp [execOp, hop, resolve, invoke, builtin, hs, hx, hrun, Result.andThen]
    exact hK _ _ (World.ownsRow_nil _ _ _ _) (Fr.refl _ _)
  · obtain ⟨v', w', hrun, h2, h3, _, h6⟩ := run_append_own_at (P := Tryz.prog) w w.heap.size 22 o.type 5 i0 (.int .u8 0) 1 1 Tryz.underlying22 hi hz0 hz1 hz2 rfl (by decide) (.slice none 0 0) 0 [] (World.ownsRow_nil _ _ _ _) ad (bv ns).length c (bv ns) (by simp) h5 bv_one (by rw [bv_len]; unfold maxLen; omega) (by rw [bv_len]; omega) (Nat.le_refl _)
    unfold Oper.wp
    simp [execOp, hop, resolve, invoke, builtin, hs, hx, hrun, Result.andThen]
    refine hK _ _ ?_ ((Fr.refl _ _).grown h3 (by simp [Value.ownBlock]))
    rw [bv_len, Nat.zero_add, List.nil_append] at h2
    exact h2
theorem step_append_nilS {ops : Array Oper} {o : Oper} {a : Act} {w : World} {K : Act → World → Prop} {Q : Exit → Act → World → Prop} {E : Prop} (hg : o.guard = none) (s x : Operand) (hop : o.op = Op.call { callee := Callee.builtin Builtin.append, args := #[s, x], argTypes := #[22, 22] }) (hs : a.eval s = .slice none 0 0) {sx : Value} (hx : a.eval x = sx) {ns : List Nat} (hr : Rd w sx (bv ns)) (hl : ns.length ≤ 140737488355328) {l : Nat} (hln : l = ns.length)
    (hK : ∀ a' c' w', w'.ownsRow w.heap.size 5 1 (.slice a' l c') ns.length (bv ns) → Fr [] w w' → K (a.put o.dst (.slice a' l c')) w') :
    if Region.wanted o (yielded ops a.tmps) = true then Oper.wp Tryz.prog o a w K Q else E := by
  subst hln
  refine step_append_nilB hg s x hop hs hx hr hl fun v' w' o' f' => ?_
  obtain ⟨a', c', rfl, _⟩ := ownsRow_slice o'
  exact hK a' c' w' o' f'
theorem step_build1 {ops : Array Oper} {o : Oper} {a : Act} {w : World} {K : Act → World → Prop} {Q : Exit → Act → World → Prop} {E : Prop} (hg : o.guard = none) (x : Operand) (hop : o.op = Op.buildSlice 36 1 #[(0, x)]) {a0 a1 : Option Addr} {n0 n1 c0 c1 : Nat} (hx : a.eval x = .agg #[.slice a0 n0 c0, .slice a1 n1 c1])
    (hK : K (a.put o.dst (.slice (some ⟨w.heap.size, 0, none⟩) 1 1)) (w.alloc (.cells #[.slice a0 n0 c0, .slice a1 n1 c1] 47))) :
    if Region.wanted o (yielded ops a.tmps) = true then Oper.wp Tryz.prog o a w K Q else E := by
  have hw : Region.wanted o (yielded ops a.tmps) = true := by simp [Region.wanted, hg]
  rw [if_pos hw]
  unfold Oper.wp
  simp [execOp, hop, hx]
  go_simp
  exact hK
theorem step_append_kv {ops : Array Oper} {o : Oper} {a : Act} {w : World} {K : Act → World → Prop} {Q : Exit → Act → World → Prop} {E : Prop} (hg : o.guard = none) (s x : Operand) (hop : o.op = Op.call { callee := Callee.builtin Builtin.append, args := #[s, x], argTypes := #[36, 36] }) (base : Nat) {v : Value} {n : Nat} {xs : List Value} (hs : a.eval s = v) (hown : w.ownsRow base 47 2 v n xs) {G : Nat} (hx : a.eval x = .slice (some ⟨G, 0, none⟩) 1 1) {u0 u1 : Value} {T : TypeId} (hG : w.heap[G]? = some (.cells #[u0, u1] T (0, 0)))
    (hu : ∀ u ∈ [u0, u1], u.oneCell' = true) (hl : n ≤ 1000000000) (hbase : base ≤ w.heap.size)
    (hK : ∀ v' w', w'.ownsRow base 47 2 v' (n + 1) (xs ++ [u0, u1]) → w.grownBy w' v.ownBlock → K (a.put o.dst v') w') :
    if Region.wanted o (yielded ops a.tmps) = true then Oper.wp Tryz.prog o a w K Q else E := by
  obtain ⟨i0, hi0, hz0, hz1, hz2⟩ := info_parts infoP
  exact step_append_own hg s x 36 hop base 47 i0 _ 2 48 Tryz.underlying36 hi0 hz0 hz1 hz2 rfl (by decide) v n xs hs hown ⟨G, 0, none⟩ 1 1 [u0, u1] hx rfl (fun j u hj => by rw [Addr.add_lit, Nat.zero_add, blk_cell hG, ← Array.getElem?_toList]; exact hj) hu (by unfold maxLen; omega) (by omega) hbase (fun v' w' o' g' _ => hK v' w' o' g')
/-- Pairs of the call's own, their bytes too. -/
def ColO (W : World) (B : Nat) (v : Value) (ps : Ps) : Prop := ∃ cs, W.ownsRow B 47 2 v ps.length cs ∧
  ∀ (j : Nat) (p : List Nat × List Nat), ps[j]? = some p → ∃ kv vv, cs[j * 2]? = some kv ∧ cs[j * 2 + 1]? = some vv ∧ W.ownsRow B 5 1 kv p.1.length (bv p.1) ∧ W.ownsRow B 5 1 vv p.2.length (bv p.2) ∧ By p.1 ∧ By p.2 ∧ p.1.length ≤ 140737488355328 ∧ p.2.length ≤ 140737488355328
theorem ColO.nil (W : World) (B : Nat) : ColO W B (.slice none 0 0) [] := ⟨[], World.ownsRow_nil _ _ _ _, fun j p h => by simp at h⟩
theorem ColO.fr {W W' : World} {B : Nat} {v : Value} {ps : Ps} (h : ColO W B v ps) (f : Fr [] W W') : ColO W' B v ps := by
  obtain ⟨cs, o, h2⟩ := h
  refine ⟨cs, ownsRow_fr o f, fun j p hj => ?_⟩
  obtain ⟨kv, vv, c0, c1, r0, r1, b0⟩ := h2 j p hj
  exact ⟨kv, vv, c0, c1, ownsRow_fr r0 f, ownsRow_fr r1 f, b0⟩
theorem ColO.rd {w : World} {B : Nat} {v : Value} {ps : Ps} (h : ColO w B v ps) : RdK w v ps := by
  obtain ⟨cs, o, h2⟩ := h
  rcases o.2 with ⟨rfl, h0⟩ | ⟨g, cap, cur, rfl, _, h3, h4, h5⟩
  · have : ps = [] := List.eq_nil_of_length_eq_zero h0
    subst this
    exact RdK.nil w
  · refine ⟨_, cap, rfl, h4, fun _ => ⟨g, 0, rfl, fun j p hj => ?_⟩⟩
    obtain ⟨kv, vv, c0, c1, q0, q1, b0, b1, l0, l1⟩ := h2 j p hj
    have r0 := Rd.ownB q0
    have r1 := Rd.ownB q1
    have d0 := o.cells rfl _ _ c0
    have d1 := o.cells rfl _ _ c1
    rw [Addr.add_lit] at d0 d1
    obtain ⟨a0, k0, e0⟩ := r0.form
    obtain ⟨a1, k1, e1⟩ := r1.form
    rw [bv_len] at e0 e1
    subst e0
    subst e1
    exact ⟨a0, k0, a1, k1, d0, by rw [show 0 + j * 2 + 1 = 0 + (j * 2 + 1) from by omega]; exact d1, r0, r1, b0, b1, l0, l1⟩
/-- A row of bytes stays while a row of another kind grows. -/
theorem own_stays {W W' : World} {B B' s n m : Nat} {e : TypeId} {v u : Value} {xs ys : List Value} (o : W.ownsRow B e s v n xs) (g : W.grownBy W' v.ownBlock) (q : W.ownsRow B' 5 1 u m ys) (hne : 5 ≠ e) : W'.ownsRow B' 5 1 u m ys := by
  refine ownsRow_of_block q fun k hk => ?_
  rcases q.2 with ⟨rfl, _⟩ | ⟨h, cap, cur, rfl, _, h3, _⟩
  · simp [Value.ownBlock] at hk
  · simp [Value.ownBlock] at hk
    subst hk
    exact g.block _ (blk_lt h3) (fun e' => own_not o h3 hne e'.symm)
theorem own_base {W : World} {B B' s n : Nat} {e : TypeId} {v : Value} {xs : List Value} (h : W.ownsRow B e s v n xs) (hb : B' ≤ B) : W.ownsRow B' e s v n xs := by
  refine ⟨h.1, ?_⟩
  rcases h.2 with h0 | ⟨g, cap, cur, h1, h2, h3⟩
  · exact .inl h0
  · exact .inr ⟨g, cap, cur, h1, by omega, h3⟩
theorem ColO.app {W W' : World} {B : Nat} {v v' kv vv : Value} {ps : Ps} {p : List Nat × List Nat} {cs : List Value} (o : W.ownsRow B 47 2 v ps.length cs)
    (h : ∀ (j : Nat) (p : List Nat × List Nat), ps[j]? = some p → ∃ kv vv, cs[j * 2]? = some kv ∧ cs[j * 2 + 1]? = some vv ∧ W.ownsRow B 5 1 kv p.1.length (bv p.1) ∧ W.ownsRow B 5 1 vv p.2.length (bv p.2) ∧ By p.1 ∧ By p.2 ∧ p.1.length ≤ 140737488355328 ∧ p.2.length ≤ 140737488355328)
    (ok : W.ownsRow B 5 1 kv p.1.length (bv p.1)) (ov : W.ownsRow B 5 1 vv p.2.length (bv p.2)) (bk : By p.1) (bw : By p.2) (lk : p.1.length ≤ 140737488355328) (lv : p.2.length ≤ 140737488355328)
    (o' : W'.ownsRow B 47 2 v' (ps.length + 1) (cs ++ [kv, vv])) (g : W.grownBy W' v.ownBlock) : ColO W' B v' (ps ++ [p]) := by
  refine ⟨cs ++ [kv, vv], by rw [List.length_append]; exact o', fun j p' hj => ?_⟩
  have hcl := o.1
  rcases Nat.lt_or_ge j ps.length with hlt | hge
  · rw [List.getElem?_append_left hlt] at hj
    obtain ⟨a, b, c0, c1, q0, q1, b0⟩ := h j p' hj
    exact ⟨a, b, by rw [List.getElem?_append_left (by omega)]; exact c0, by rw [List.getElem?_append_left (by omega)]; exact c1, own_stays o g q0 (by decide), own_stays o g q1 (by decide), b0⟩
  · rw [List.getElem?_append_right hge] at hj
    have hjj : j = ps.length := by
      rcases Nat.lt_or_ge (j - ps.length) 1 with h1 | h1
      · omega
      · rw [List.getElem?_eq_none (by simpa using h1)] at hj; cases hj
    subst hjj
    simp at hj
    subst hj
    exact ⟨kv, vv, by rw [List.getElem?_append_right (by omega), hcl, Nat.sub_self]; rfl, by rw [List.getElem?_append_right (by omega), hcl, show ps.length * 2 + 1 - ps.length * 2 = 1 from by omega]; rfl, own_stays o g ok (by decide), own_stays o g ov (by decide), bk, bw, lk, lv⟩
end Go.Proofs.YtnnookkcnmgbfaaGreat
