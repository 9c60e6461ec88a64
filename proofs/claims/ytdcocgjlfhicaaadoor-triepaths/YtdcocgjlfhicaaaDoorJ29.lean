/-
  New forks.
-/
import Derived.Test.YtdcocgjlfhicaaaDoorJ28
namespace Go.Proofs.YtdcocgjlfhicaaaDoor
open Go.ChangeShapes Go.WideShapes Go.ChangeAt Go.RowKit

theorem vf_set {W : World} {q : Nat} {T : TypeId} {V : Nat → Value} {x y z v a b c : Value} (h : W.heap[q]? = some (.cells #[x, y, z, V 0, V 1, V 2, V 3, V 4, V 5, V 6, V 7, V 8, V 9, V 10, V 11, V 12, V 13, V 14, V 15, v] T (0, 0))) : (((W.setCell ⟨q, 0, none⟩ a).setCell ⟨q, 1, none⟩ b).setCell ⟨q, 2, none⟩ c).heap[q]? = some (.cells #[a, b, c, V 0, V 1, V 2, V 3, V 4, V 5, V 6, V 7, V 8, V 9, V 10, V 11, V 12, V 13, V 14, V 15, v] T (0, 0)) := by
  have h1 := blk_set h 0 a
  have h2 := blk_set h1 1 b
  have h3 := blk_set h2 2 c
  simpa using h3
theorem flat_le (f : Nat → List Nat) (k : Nat) : ∀ (l : List Nat), (∀ j ∈ l, (f j).length ≤ k) → (l.flatMap f).length ≤ l.length * k
  | [], _ => by simp
  | j :: l, h => by
    have h1 := flat_le f k l (fun i hi => h i (by simp [hi]))
    have h2 := h j (by simp)
    simp only [List.flatMap_cons, List.length_append, List.length_cons]
    rw [Nat.add_mul, Nat.one_mul]
    omega
set_option maxRecDepth 20000 in
set_option maxHeartbeats 1600000 in
theorem makeFork_c (w : World) {S : Nat → Prop} (HT : Tabs w) (hi : InS S w) {V : Nat → Value} {vv : Value} {c : Nat → Nd} {x : List Nat} (hc : ∀ i, i < 16 → NdV S w (c i) (V i)) (hf : ∀ i, i < 16 → ∀ y, c i ≠ .far y) (hv : Un S w (fun w' => Rd w' vv (bv x))) (hx : By x) (hxl : x.length ≤ 1024) :
    Calls Tryd.prog 93 #[.agg #[V 0, V 1, V 2, V 3, V 4, V 5, V 6, V 7, V 8, V 9, V 10, V 11, V 12, V 13, V 14, V 15], vv] w fun e w' => ∃ r, e = .returned (.tuple #[r, .int .i64 0]) ∧ NdV (Up S w w') w' (.fork c x) r ∧ Fr [] w w' := by
  obtain ⟨va, vc, e2⟩ := hv.now.form
  subst e2
  obtain ⟨nv, hnv⟩ : ∃ nv, nv = (bv x).length := ⟨_, rfl⟩
  rw [← hnv] at hv ⊢
  clear hnv
  obtain ⟨W0, hW0⟩ : ∃ W, W = w.alloc (.cells #[V 0, V 1, V 2, V 3, V 4, V 5, V 6, V 7, V 8, V 9, V 10, V 11, V 12, V 13, V 14, V 15] 138) := ⟨_, rfl⟩
  obtain ⟨W, hW⟩ : ∃ W, W = W0.alloc (.cells #[.bool false, .slice none 0 0, .slice none 0 0, V 0, V 1, V 2, V 3, V 4, V 5, V 6, V 7, V 8, V 9, V 10, V 11, V 12, V 13, V 14, V 15, .slice va nv vc] 140) := ⟨_, rfl⟩
  have F0 : Hid (Fr [] w W0) := hid (by rw [hW0]; exact (Fr.refl _ w).alloc _)
  have F : Hid (Fr [] w W) := hid (by rw [hW]; exact F0.out.alloc _)
  have Y : Hid (W.heap[W0.heap.size]? = some (.cells #[.bool false, .slice none 0 0, .slice none 0 0, V 0, V 1, V 2, V 3, V 4, V 5, V 6, V 7, V 8, V 9, V 10, V 11, V 12, V 13, V 14, V 15, .slice va nv vc] 140 (0, 0))) := hid (by rw [hW]; exact blk_new _ _)
  have HS : Hid (W0.heap.size < W.heap.size) := hid (by rw [hW]; simp)
  have HS0 : Hid (W0.heap.size = w.heap.size + 1) := hid (by rw [hW0]; simp)
  have HI := hid hi
  have HC := hid hc
  have HV := hid hv
  have RC : Hid (Calls Tryd.prog 94 #[.iface 131 (.pointer (some ⟨W0.heap.size, 0, none⟩))] W fun e w' => ∃ l a1 n1 c1 a2 n2 c2, e = .returned (.tuple #[.agg #[.bool l, .slice a1 n1 c1, .slice a2 n2 c2], .int .i64 0]) ∧ RfS (Up S W w') w' (.agg #[.bool l, .slice a1 n1 c1, .slice a2 n2 c2]) (refE (.fork c x)) 7 ∧ Fr [] W w') := hid (by
    have hL := lstF_len ((List.range 16).flatMap (fun i => refE (c i)) ++ strL x)
    have h3 := strL_len x
    rw [List.length_append] at hL
    have h4 := flat_le (fun i => refE (c i)) 33 (List.range 16) (fun j hj => (refE_len _ (hf j (List.mem_range.1 hj))).2)
    rw [List.length_range] at h4
    have F2 : Fr [] W (W.alloc (.cells #[.bool false, .slice none 0 0, .slice none 0 0] 85)) := (Fr.refl _ _).alloc _
    have fw := F.out.trans F2
    refine refer_c W (S := S) (HT.fr F.out) (HI.out.fr F.out) (x := lstF ((List.range 16).flatMap (fun i => refE (c i)) ++ strL x)) (by omega) ?_
    refine (itemFork_c _ (HI.out.fr fw) (blk_frT Y.out F2) (fun i h => (HC.out i h).step (HI.out.agr fw)) hf (HV.out.step (HI.out.agr fw)) hx hxl).mono ?_
    rintro e w' ⟨iv, d, rfl, q0, q1, q5, q2, q3, q4⟩
    exact ⟨iv, d, rfl, q0, q1, by omega, q2, q3, q4⟩)
  clear hi hc hf hv HT hx hxl
  go_enter Tryd.func93, Tryd.ntmps93
  go_upto_region 1 with fail
  rw [← hW0]
  have Y0 := blk_new w (.cells #[V 0, V 1, V 2, V 3, V 4, V 5, V 6, V 7, V 8, V 9, V 10, V 11, V 12, V 13, V 14, V 15] 138)
  rw [← hW0] at Y0
  have y0 := blk_cell Y0 0
  have y1 := blk_cell Y0 1
  have y2 := blk_cell Y0 2
  have y3 := blk_cell Y0 3
  have y4 := blk_cell Y0 4
  have y5 := blk_cell Y0 5
  have y6 := blk_cell Y0 6
  have y7 := blk_cell Y0 7
  have y8 := blk_cell Y0 8
  have y9 := blk_cell Y0 9
  have y10 := blk_cell Y0 10
  have y11 := blk_cell Y0 11
  have y12 := blk_cell Y0 12
  have y13 := blk_cell Y0 13
  have y14 := blk_cell Y0 14
  have y15 := blk_cell Y0 15
  simp at y0 y1 y2 y3 y4 y5 y6 y7 y8 y9 y10 y11 y12 y13 y14 y15
  clear hW0 Y0
  go_upto_region 2 with fail
  rw [← hW]
  clear hW y0 y1 y2 y3 y4 y5 y6 y7 y8 y9 y10 y11 y12 y13 y14 y15
  go_upto_region 4 with (go_at_call 94; refine RC.out.mono ?_; rintro e w3 ⟨l, a1, n1, c1, a2, n2, c2, rfl, hR, f3⟩; have HR := hid hR; have F3 := hid (F.out.trans f3); have Y3 := hid (blk_frT Y.out f3); have y0 := blk_cell Y3.out 0; have y1 := blk_cell Y3.out 1; have y2 := blk_cell Y3.out 2; have z0 := blk_frozen Y3.out 0; have z1 := blk_frozen Y3.out 1; have z2 := blk_frozen Y3.out 2; simp at y0 y1 y2; clear hR f3)
  have T5 := hid (vf_set (a := .bool l) (b := .slice a1 n1 c1) (c := .slice a2 n2 c2) Y3.out)
  have FT := hid (((F3.out.set (p := W0.heap.size) 0 (.bool l) (.inr F0.out.size)).set (p := W0.heap.size) 1 (.slice a1 n1 c1) (.inr F0.out.size)).set (p := W0.heap.size) 2 (.slice a2 n2 c2) (.inr F0.out.size))
  go_wp2
  go_ret2
  refine ⟨_, rfl, ⟨W0.heap.size, _, _, _, V, _, rfl, .inr ⟨F0.out.size, (Array.getElem?_eq_some_iff.1 T5.out).1⟩, T5.out, fun i h => (HC.out i h).up HI.out FT.out, HV.out.up HI.out FT.out, ?_⟩, FT.out⟩
  exact (HR.out.set3 (HI.out.fr F0.out) HS.out _ _ _).sub (fun k hk => by
    rcases hk with hk | hk
    · exact .inl hk
    · exact .inr ⟨by have := HS0.out; omega, hk.2⟩)
end Go.Proofs.YtdcocgjlfhicaaaDoor
namespace Go.Proofs.YtdcocgjlfhicaaaDoor
open Go.ChangeShapes Go.WideShapes Go.ChangeAt Go.RowKit

theorem cpN_step : ∀ (a b : List Nat) (i x : Nat), i ≤ cpN a b → a[i]? = some x → b[i]? = some x → i + 1 ≤ cpN a b
  | [], _, _, _, _, h, _ => by simp at h
  | _ :: _, [], _, _, _, _, h => by simp at h
  | a :: l, b :: m, i, x, hi, h, g => by
    unfold cpN at hi ⊢
    cases i with
    | zero =>
      simp at h g
      rw [if_pos (h.trans g.symm)]
      omega
    | succ i =>
      by_cases e : a = b
      · rw [if_pos e] at hi ⊢
        simp only [List.getElem?_cons_succ] at h g
        have := cpN_step l m i x (by omega) h g
        omega
      · rw [if_neg e] at hi
        omega
theorem cpN_stop {a b : List Nat} {i : Nat} (hi : i ≤ cpN a b) (h : ¬ ∃ x, a[i]? = some x ∧ b[i]? = some x) : i = cpN a b := by
  rcases Nat.lt_or_ge i (cpN a b) with hl | hl
  · exfalso
    have h1 := cpN_le a b
    have h2 := cpN_take a b
    have ha : i < a.length := by omega
    have hb : i < b.length := by omega
    have e1 : (a.take (cpN a b))[i]? = a[i]? := by rw [List.getElem?_take, if_pos hl]
    have e2 : (b.take (cpN a b))[i]? = b[i]? := by rw [List.getElem?_take, if_pos hl]
    rw [h2, e2] at e1
    exact h ⟨a[i], List.getElem?_eq_getElem ha, by rw [e1]; exact List.getElem?_eq_getElem ha⟩
  · omega
set_option maxRecDepth 20000 in
set_option maxHeartbeats 1600000 in
theorem shared_c (w : World) {av bv' : Value} {a b : List Nat} (ha : Rd w av (bv a)) (hb : Rd w bv' (bv b)) (hla : a.length ≤ 1000) :
    Calls Tryd.prog 90 #[av, bv'] w fun e w' => e = .returned (.int .i64 (cpN a b : Int)) ∧ Fr [] w w' := by
  obtain ⟨aa, ac, e1⟩ := ha.form
  obtain ⟨ba, bc, e2⟩ := hb.form
  rw [bv_len] at e1 e2
  subst e1 e2
  obtain ⟨na, hna⟩ : ∃ n, n = a.length := ⟨_, rfl⟩
  obtain ⟨nb, hnb⟩ : ∃ n, n = b.length := ⟨_, rfl⟩
  rw [← hna] at ha hla ⊢
  rw [← hnb] at hb ⊢
  have HA := hid ha
  have HB := hid hb
  have HNA := hid hna
  have HNB := hid hnb
  clear ha hb hna hnb
  go_enter Tryd.func90, Tryd.ntmps90
  go_wp2_with fail
  go_loopw [5] (fun v5 wr => ∃ (i : Nat), i ≤ cpN a b ∧ v5 = .int .i64 (i : Int) ∧ Fr [] w wr) (fun v5 _ => 1001 - (intOf v5).toNat)
  case atStart => exact ⟨0, Nat.zero_le _, rfl, Fr.refl _ _⟩
  case round =>
    obtain ⟨i, hi, rfl, hf⟩ := hrel
    have HF := hid hf
    have HI := hid hi
    clear hf hi
    by_cases h1 : i < na
    · by_cases h2 : i < nb
      · obtain ⟨x, hx⟩ : ∃ x, a[i]? = some x := ⟨_, List.getElem?_eq_getElem (by rw [← HNA.out]; exact h1)⟩
        obtain ⟨y, hy⟩ : ∃ y, b[i]? = some y := ⟨_, List.getElem?_eq_getElem (by rw [← HNB.out]; exact h2)⟩
        have h1' : (i : Int) < (na : Int) := by omega
        have h2' : (i : Int) < (nb : Int) := by omega
        rcases HA.out.split with ⟨h0, _⟩ | ⟨q, o, c2, e, _, _, hc⟩
        · rw [h0] at hx; simp at hx
        rcases HB.out.split with ⟨h0, _⟩ | ⟨q', o', c2', e', _, _, hc'⟩
        · rw [h0] at hy; simp at hy
        simp only [Value.slice.injEq] at e e'
        obtain ⟨rfl, e2, rfl⟩ := e
        obtain ⟨rfl, e2', rfl⟩ := e'
        have zx := cell_fr (hc i x hx) HF.out
        have zy := cell_fr (hc' i y hy) HF.out
        have HX := hid hx
        have HY := hid hy
        clear hc hc' hx hy e2 e2'
        by_cases hxy : x = y
        · subst hxy
          have HS := hid (cpN_step a b i x HI.out HX.out HY.out)
          go_wp2_with fail
          go_region
          go_wp2
          go_roundw
          case rel => exact ⟨i + 1, HS.out, by go_num, HF.out.drew⟩
          case measure => simp [intOf]; omega
        · have hxy' : ((x : Int) == (y : Int)) = false := beq_eq_false_iff_ne.2 (by omega)
          have HS := hid (cpN_stop HI.out (fun ⟨z, g1, g2⟩ => by rw [HX.out] at g1; rw [HY.out] at g2; cases g1; cases g2; exact hxy rfl))
          go_wp2_with fail
          go_region
          go_wp2
          go_ret
          exact ⟨by rw [← HS.out]; rfl, HF.out.drew⟩
      · have h1' : (i : Int) < (na : Int) := by omega
        have h2' : ¬ (i : Int) < (nb : Int) := by omega
        have HS := hid (cpN_stop HI.out (fun ⟨z, _, g2⟩ => by rw [List.getElem?_eq_none (by rw [← HNB.out]; omega)] at g2; cases g2))
        go_wp2_with fail
        go_region
        go_wp2
        go_ret
        exact ⟨by rw [← HS.out]; rfl, HF.out.drew⟩
    · have h1' : ¬ (i : Int) < (na : Int) := by omega
      have HS := hid (cpN_stop HI.out (fun ⟨z, g1, _⟩ => by rw [List.getElem?_eq_none (by rw [← HNA.out]; omega)] at g1; cases g1))
      go_wp2_with fail
      go_region
      go_wp2
      go_ret
      exact ⟨by rw [← HS.out]; rfl, HF.out.drew⟩
end Go.Proofs.YtdcocgjlfhicaaaDoor
