/-
  The document's Open.
-/
import Derived.Test.YtnnookkcnmgbfaaGreatJ46
import Derived.Test.YtnnookkcnmgbfaaGreatJ27
namespace Go.Proofs.YtnnookkcnmgbfaaGreat
open Go.ChangeShapes Go.WideShapes Go.ChangeAt Go.RowKit

set_option maxRecDepth 20000 in
set_option maxHeartbeats 12800000 in
theorem ropen_short (w0 w : World) {a : Option Addr} {L c : Nat} {b : List Nat} (_h0 : Fr [] w0 w) (hL : b.length = L) (h44 : L < 44) :
    Calls Tryz.prog 7 #[.slice a L c] w fun e w' => ROut w0 w w' b a L c e ∧ Fr [] w w' := by
  have NO : Hid (NoOpn b 80) := hid (.inl ⟨rfl, fun h => by have := h.len; omega⟩)
  have hn : (L : Int) - 44 < 0 := by omega
  clear hL
  go_enter Tryz.func7, Tryz.ntmps7
  go_upto_region 2 with fail
  obtain ⟨D0, hD⟩ : ∃ W, W = w.drew := ⟨_, rfl⟩
  have DF : Hid (Fr [] w D0) := hid (by rw [hD]; exact (Fr.refl _ w).drew)
  refine wp_region_held_drew (S := fun _ => True) (by kernel_rfl) trivial (fun hS => ?_)
  rw [← hD]
  clear hD
  refine wpAnyH_take (i := 0) (v := .int .i64 ((L : Int) - 44)) rfl (by kernel_rfl) (by kernel_rfl) (by kernel_rfl) (fun _ _ _ h => h) (.inl ⟨by rfl, fun wx _ => by go_simp⟩) hS ?_
  simp only [Act.put, List.getElem_toArray, List.getElem_cons_zero, List.set_cons_succ, List.set_cons_zero, List.setIfInBounds_toArray]
  refine wpAnyH_take (i := 1) (v := .bool true) rfl (by kernel_rfl) (by kernel_rfl) (by kernel_rfl) (fun _ _ _ h => h) (.inl ⟨by rfl, fun wx _ => by go_simp⟩) hS ?_
  simp only [Act.put, List.getElem_toArray, List.getElem_cons_succ, List.getElem_cons_zero, List.set_cons_succ, List.set_cons_zero, List.setIfInBounds_toArray]
  refine wpAnyH_take (i := 2) (v := .bool true) rfl (by kernel_rfl) (by kernel_rfl) (by kernel_rfl) (fun _ _ _ h => h) (.inl ⟨by rfl, fun wx _ => by go_simp⟩) hS ?_
  simp only [Act.put, List.getElem_toArray, List.getElem_cons_succ, List.getElem_cons_zero, List.set_cons_succ, List.set_cons_zero, List.setIfInBounds_toArray]
  refine wpAnyH_take (i := 3) (v := undef) rfl (by kernel_rfl) (by kernel_rfl) (by kernel_rfl) (fun _ _ _ h => h) (.inr ⟨by kernel_rfl, rfl⟩) hS ?_
  simp only [Act.put, List.getElem_toArray, List.getElem_cons_succ, List.getElem_cons_zero, List.set_cons_succ, List.set_cons_zero, List.setIfInBounds_toArray]
  refine wpAnyH_take (i := 4) (v := undef) rfl (by kernel_rfl) (by kernel_rfl) (by kernel_rfl) (fun _ _ _ h => h) (.inr ⟨by kernel_rfl, rfl⟩) hS ?_
  simp only [Act.put, List.getElem_toArray, List.getElem_cons_succ, List.getElem_cons_zero, List.set_cons_succ, List.set_cons_zero, List.setIfInBounds_toArray]
  refine wpAnyH_take (i := 5) (v := undef) rfl (by kernel_rfl) (by kernel_rfl) (by kernel_rfl) (fun _ _ _ h => h) (.inr ⟨by kernel_rfl, rfl⟩) hS ?_
  simp only [Act.put, List.getElem_toArray, List.getElem_cons_succ, List.getElem_cons_zero, List.set_cons_succ, List.set_cons_zero, List.setIfInBounds_toArray]
  refine wpAnyH_take (i := 6) (v := undef) rfl (by kernel_rfl) (by kernel_rfl) (by kernel_rfl) (fun _ _ _ h => h) (.inr ⟨by kernel_rfl, rfl⟩) hS ?_
  simp only [Act.put, List.getElem_toArray, List.getElem_cons_succ, List.getElem_cons_zero, List.set_cons_succ, List.set_cons_zero, List.setIfInBounds_toArray]
  refine wpAnyH_take (i := 7) (v := undef) rfl (by kernel_rfl) (by kernel_rfl) (by kernel_rfl) (fun _ _ _ h => h) (.inr ⟨by kernel_rfl, rfl⟩) hS ?_
  simp only [Act.put, List.getElem_toArray, List.getElem_cons_succ, List.getElem_cons_zero, List.set_cons_succ, List.set_cons_zero, List.setIfInBounds_toArray]
  refine wpAnyH_take (i := 8) (v := undef) rfl (by kernel_rfl) (by kernel_rfl) (by kernel_rfl) (fun _ _ _ h => h) (.inr ⟨by kernel_rfl, rfl⟩) hS ?_
  simp only [Act.put, List.getElem_toArray, List.getElem_cons_succ, List.getElem_cons_zero, List.set_cons_succ, List.set_cons_zero, List.setIfInBounds_toArray]
  refine wpAnyH_take (i := 9) (v := undef) rfl (by kernel_rfl) (by kernel_rfl) (by kernel_rfl) (fun _ _ _ h => h) (.inr ⟨by kernel_rfl, rfl⟩) hS ?_
  simp only [Act.put, List.getElem_toArray, List.getElem_cons_succ, List.getElem_cons_zero, List.set_cons_succ, List.set_cons_zero, List.setIfInBounds_toArray]
  refine wpAnyH_take (i := 10) (v := undef) rfl (by kernel_rfl) (by kernel_rfl) (by kernel_rfl) (fun _ _ _ h => h) (.inr ⟨by kernel_rfl, rfl⟩) hS ?_
  simp only [Act.put, List.getElem_toArray, List.getElem_cons_succ, List.getElem_cons_zero, List.set_cons_succ, List.set_cons_zero, List.setIfInBounds_toArray]
  refine wpAnyH_take (i := 11) (v := undef) rfl (by kernel_rfl) (by kernel_rfl) (by kernel_rfl) (fun _ _ _ h => h) (.inr ⟨by kernel_rfl, rfl⟩) hS ?_
  simp only [Act.put, List.getElem_toArray, List.getElem_cons_succ, List.getElem_cons_zero, List.set_cons_succ, List.set_cons_zero, List.setIfInBounds_toArray]
  refine wpAnyH_take (i := 12) (v := .bool true) rfl (by kernel_rfl) (by kernel_rfl) (by kernel_rfl) (fun _ _ _ h => h) (.inl ⟨by rfl, fun wx _ => by go_simp⟩) hS ?_
  simp only [Act.put, List.getElem_toArray, List.getElem_cons_succ, List.getElem_cons_zero, List.set_cons_succ, List.set_cons_zero, List.setIfInBounds_toArray]
  clear hS
  refine wpAnyH_done (by kernel_rfl) ?_ _
  go_wp2
  go_ret2
  exact ⟨.inl ⟨80, NO.out, rfl⟩, DF.out⟩

theorem takeL_bound {b : List Nat} (hb : By b) {n k e : Nat} (h : takeL b = (n, k, e)) : n < 18446744073709551616 ∧ k ≤ b.length ∧ k ≤ 10 := by
  have := tk_bound b hb 0 0 (by omega) (by simp)
  unfold takeL at h
  rw [h] at this
  exact ⟨this.1, by simpa using this.2.1, this.2.2⟩
/-- The two numbers of an entry of the index, taken one behind the other. -/
theorem place_two {v : List Nat} {x0 k0 e0 x1 k1 e1 : Nat} (h0 : takeL v = (x0, k0, e0)) (h1 : takeL (v.drop k0) = (x1, k1, e1)) : (e0 = 0 ∧ e1 = 0 ∧ k0 + k1 = v.length → placeL v = some (x0, x1)) ∧ (¬ (e0 = 0 ∧ e1 = 0 ∧ k0 + k1 = v.length) → placeL v = none) := by
  unfold placeL
  rw [h0]
  dsimp only
  rw [h1]
  dsimp only
  exact ⟨fun h => if_pos h, fun h => if_neg h⟩
theorem ok_place {fin : Nat} {ips : Ps} {i x y : Nat} (h : OkSp fin ips i) (hp : placeL (vA ips i) = some (x, y)) : x = nxN ips i ∧ y = szA ips i := by
  have := h.pl
  rw [hp] at this
  simp only [Option.some.injEq, Prod.mk.injEq] at this
  exact this
theorem ok_take {fin : Nat} {ips : Ps} {i x0 k0 e0 x1 k1 e1 : Nat} (h : OkSp fin ips i) (h0 : takeL (vA ips i) = (x0, k0, e0)) (h1 : takeL ((vA ips i).drop k0) = (x1, k1, e1)) : e0 = 0 ∧ e1 = 0 ∧ k0 + k1 = (vA ips i).length := by
  by_cases hh : e0 = 0 ∧ e1 = 0 ∧ k0 + k1 = (vA ips i).length
  · exact hh
  · have := h.pl
    rw [(place_two h0 h1).2 hh] at this
    cases this
theorem beq_nat {x y : Nat} (h : x = y) : ((x : Int) == (y : Int)) = true := by rw [beq_iff_eq]; omega
theorem beq_nat' {x y : Nat} (h : x ≠ y) : ((x : Int) == (y : Int)) = false := by rw [beq_eq_false_iff_ne]; omega
theorem bne_nat {x y : Nat} (h : x = y) : ((x : Int) != (y : Int)) = false := by rw [bne, beq_nat h]; rfl
theorem bne_nat' {x y : Nat} (h : x ≠ y) : ((x : Int) != (y : Int)) = true := by rw [bne, beq_nat' h]; rfl

/-- Bytes that can be read, cut off in front. -/
theorem cutB {W : World} {a : Option Addr} {n c l : Nat} {b : List Nat} (hr : Rd W (.slice a n c) (bv b)) (hn : b.length = n) (hl : l ≤ n) :
    ∃ a', (∀ W', (Instr.sliceAt 22 (.slice a n c) (some (.int .i64 (l : Int))) none none).run Tryz.prog W' = .ok (.slice a' (n - l) (c - l)) W') ∧ Rd W (.slice a' (n - l) (c - l)) (bv (b.drop l)) := by
  refine ⟨if c = l then a else a.map (·.add l), fun W' => ?_, ?_⟩
  · rw [run_sliceAt_slice W' _ _ _ _ _ (by kernel_rfl), run_slice_l W' _ _ _ _ (by kernel_rfl) .i64 (l : Int) (by omega) (by omega), show (sizeOf (Tryz.prog.elem 22)).run Tryz.prog W' = .ok 1 W' by kernel_rfl]
    simp only [Result.andThen_ok, sliced, Int.toNat_natCast, Nat.mul_one]
  · rcases hr with ⟨h, h'⟩ | ⟨ad, c', h, h4, h5⟩
    · simp only [Value.slice.injEq] at h
      obtain ⟨rfl, rfl, rfl⟩ := h
      have : b = [] := List.eq_nil_of_length_eq_zero hn
      subst this
      obtain rfl : l = 0 := by omega
      exact .inl ⟨rfl, rfl⟩
    · simp only [Value.slice.injEq] at h
      obtain ⟨rfl, h1, rfl⟩ := h
      rw [bv_len] at h4 h1
      by_cases hc : c = l
      · subst hc
        rw [if_pos rfl]
        have hb0 : b.drop c = [] := List.drop_eq_nil_of_le (by omega)
        rw [hb0]
        exact .inr ⟨ad, c - c, by simp [bv]; omega, by simp [bv], fun j u hj => by simp [bv] at hj⟩
      · rw [if_neg hc]
        refine .inr ⟨ad.add l, c - l, by rw [bv_len, List.length_drop, hn]; rfl, by rw [bv_len, List.length_drop]; omega, fun j u hj => ?_⟩
        rw [bv_drop, List.getElem?_drop] at hj
        have := h5 _ _ hj
        have e : (ad.add l).add j = ad.add (l + j) := by
          unfold Addr.add
          by_cases h1 : l = 0 <;> by_cases h2 : j = 0 <;> simp [h1, h2] <;> omega
        rw [e]; exact this
set_option maxRecDepth 20000 in
set_option maxHeartbeats 25600000 in
theorem ropen_long (w0 w : World) {a : Option Addr} {L c : Nat} {b : List Nat} (hr : Rd w0 (.slice a L c) (bv b)) (h0 : Fr [] w0 w) (hL : b.length = L) (hb : By b) (hl : L ≤ 20000) (h44 : 44 ≤ L) :
    Calls Tryz.prog 7 #[.slice a L c] w fun e w' => ROut w0 w w' b a L c e ∧ Fr [] w w' := by
  have HR := hid hr
  have H0 := hid h0
  have HL := hid hL
  have HB := hid hb
  obtain ⟨F, hF⟩ : ∃ F, F = L - 44 := ⟨_, rfl⟩
  have hFL : F + 44 = L := by omega
  have hFi : (L : Int) - 44 = (F : Int) := by omega
  have HFE : Hid (b.length - 44 = F) := hid (by rw [hL]; exact hF.symm)
  obtain ⟨M, hM⟩ : ∃ M, M = L - 8 := ⟨_, rfl⟩
  have hMi : (L : Int) - 8 = (M : Int) := by omega
  have hML : M + 8 = L := by omega
  have hFn : ¬ (F : Int) < 0 := by omega
  obtain ⟨ad, hwin, rwin⟩ := cutB hr hL (l := M) (by omega)
  have HWIN := hid hwin
  have RWIN := hid rwin
  obtain ⟨z, hz⟩ : ∃ z : Bool, z = !decide (b.drop M = magicL) := ⟨_, rfl⟩
  have HZ := hid hz
  have MB : By magicL := by unfold magicL By; simp
  have hcmp : ((strOf (b.drop M)).toList == (strOf magicL).toList) = !z := by
    rw [beq_strB (hb.drop M) MB, hz, Bool.not_not]
  have hMw : IntKind.i64.wrap (M : Int) = (M : Int) := by rw [IntKind.wrap_i64]; omega
  have hbM : b.drop (b.length - 8) = b.drop M := by rw [hL, hM]
  have HBM := hid hbM
  obtain ⟨D0, hD⟩ : ∃ W, W = w.drew := ⟨_, rfl⟩
  have DF : Hid (Fr [] w D0) := hid (by rw [hD]; exact (Fr.refl _ w).drew)
  clear hr h0 hL hb hF hM hwin rwin hz MB hbM
  go_enter Tryz.func7, Tryz.ntmps7
  go_upto_region 2 with fail
  refine wp_region_held_drew (S := fun w' => Rd w' (.slice ad (L - M) (c - M)) (bv (b.drop M))) (by kernel_rfl) (by rw [← hD]; exact RWIN.out.fr (H0.out.trans DF.out)) (fun hS => ?_)
  rw [← hD] at hS ⊢
  clear hD
  refine wpAnyH_take (i := 0) (v := .int .i64 (F : Int)) rfl (by kernel_rfl) (by kernel_rfl) (by kernel_rfl) (fun _ _ _ h => h) (.inl ⟨by rfl, fun wx _ => by go_simp⟩) hS ?_
  simp only [Act.put, List.getElem_toArray, List.getElem_cons_zero, List.set_cons_succ, List.set_cons_zero, List.setIfInBounds_toArray]
  refine wpAnyH_take (i := 1) (v := .bool false) rfl (by kernel_rfl) (by kernel_rfl) (by kernel_rfl) (fun _ _ _ h => h) (.inl ⟨by rfl, fun wx _ => by go_simp⟩) hS ?_
  simp only [Act.put, List.getElem_toArray, List.getElem_cons_succ, List.getElem_cons_zero, List.set_cons_succ, List.set_cons_zero, List.setIfInBounds_toArray]
  refine wpAnyH_take (i := 2) (v := .bool false) rfl (by kernel_rfl) (by kernel_rfl) (by kernel_rfl) (fun _ _ _ h => h) (.inl ⟨by rfl, fun wx _ => by go_simp⟩) hS ?_
  simp only [Act.put, List.getElem_toArray, List.getElem_cons_succ, List.getElem_cons_zero, List.set_cons_succ, List.set_cons_zero, List.setIfInBounds_toArray]
  refine wpAnyH_take (i := 3) (v := .slice a L c) rfl (by kernel_rfl) (by kernel_rfl) (by kernel_rfl) (fun _ _ _ h => h) (.inl ⟨by rfl, fun wx _ => by go_simp⟩) hS ?_
  simp only [Act.put, List.getElem_toArray, List.getElem_cons_succ, List.getElem_cons_zero, List.set_cons_succ, List.set_cons_zero, List.setIfInBounds_toArray]
  refine wpAnyH_take (i := 4) (v := .slice a L c) rfl (by kernel_rfl) (by kernel_rfl) (by kernel_rfl) (fun _ _ _ h => h) (.inl ⟨by rfl, fun wx _ => by go_simp⟩) hS ?_
  simp only [Act.put, List.getElem_toArray, List.getElem_cons_succ, List.getElem_cons_zero, List.set_cons_succ, List.set_cons_zero, List.setIfInBounds_toArray]
  refine wpAnyH_take (i := 5) (v := .int .i64 (L : Int)) rfl (by kernel_rfl) (by kernel_rfl) (by kernel_rfl) (fun _ _ _ h => h) (.inl ⟨by rfl, fun wx _ => by go_simp⟩) hS ?_
  simp only [Act.put, List.getElem_toArray, List.getElem_cons_succ, List.getElem_cons_zero, List.set_cons_succ, List.set_cons_zero, List.setIfInBounds_toArray]
  refine wpAnyH_take (i := 6) (v := .int .i64 (M : Int)) rfl (by kernel_rfl) (by kernel_rfl) (by kernel_rfl) (fun _ _ _ h => h) (.inl ⟨by rfl, fun wx _ => by go_simp⟩) hS ?_
  simp only [Act.put, List.getElem_toArray, List.getElem_cons_succ, List.getElem_cons_zero, List.set_cons_succ, List.set_cons_zero, List.setIfInBounds_toArray]
  refine wpAnyH_take (i := 7) (v := .slice ad (L - M) (c - M)) rfl (by kernel_rfl) (by kernel_rfl) (by kernel_rfl) (fun _ _ _ h => h) (.inl ⟨by rfl, fun wx _ => by have := HWIN.out wx; go_simp⟩) hS ?_
  simp only [Act.put, List.getElem_toArray, List.getElem_cons_succ, List.getElem_cons_zero, List.set_cons_succ, List.set_cons_zero, List.setIfInBounds_toArray]
  refine wpAnyH_take (i := 8) (v := .string (strOf (b.drop M))) rfl (by kernel_rfl) (by kernel_rfl) (by kernel_rfl) (fun _ _ _ h => h) (.inl ⟨by rfl, fun wx hX => by have := run_conv hX; go_simp⟩) hS ?_
  simp only [Act.put, List.getElem_toArray, List.getElem_cons_succ, List.getElem_cons_zero, List.set_cons_succ, List.set_cons_zero, List.setIfInBounds_toArray]
  clear hS
  refine wpAnyH_ready (rs := [9]) (by kernel_rfl) (by simp) ?_
  refine AllReadyH.cons rfl (fun K hK => ?_) AllReadyH.nil
  go_simp
  refine (magic8_c D0).mono ?_
  rintro e D1 ⟨mv, rfl, om, f1⟩
  obtain ⟨ma, mc, rfl, _⟩ := ownsRow_slice om
  have F1 := hid (DF.out.trans f1)
  have hcv := run_conv (Rd.ownN om rfl)
  refine hK.out _ _ (RWIN.out.fr (H0.out.trans F1.out)) (fun _ => ?_)
  clear hK K f1 om
  refine wpAnyH_ready (rs := [10]) (by kernel_rfl) (by simp) ?_
  refine AllReadyH.cons rfl (fun K hK => ?_) AllReadyH.nil
  go_simp
  refine hK.out _ _ (RWIN.out.fr (H0.out.trans F1.out)) (fun hS => ?_)
  clear hK K hcv
  refine wpAnyH_take (i := 11) (v := .bool z) rfl (by kernel_rfl) (by kernel_rfl) (by kernel_rfl) (fun _ _ _ h => h) (.inl ⟨by rfl, fun wx _ => by have := hcmp; go_simp⟩) hS ?_
  simp only [Act.put, List.getElem_toArray, List.getElem_cons_succ, List.getElem_cons_zero, List.set_cons_succ, List.set_cons_zero, List.setIfInBounds_toArray]
  refine wpAnyH_take (i := 12) (v := .bool z) rfl (by kernel_rfl) (by kernel_rfl) (by kernel_rfl) (fun _ _ _ h => h) (.inl ⟨by rfl, fun wx _ => by go_simp⟩) hS ?_
  simp only [Act.put, List.getElem_toArray, List.getElem_cons_succ, List.getElem_cons_zero, List.set_cons_succ, List.set_cons_zero, List.setIfInBounds_toArray]
  clear hS
  refine wpAnyH_done (by kernel_rfl) ?_ _
  clear hcmp RWIN HWIN DF
  cases z
  case true =>
    have NO : Hid (NoOpn b 80) := hid (.inl ⟨rfl, fun h => by
      have h1 := HZ.out
      have h2 := h.mag
      rw [HBM.out] at h2
      rw [decide_eq_true h2] at h1
      cases h1⟩)
    go_wp2
    go_ret2
    exact ⟨.inl ⟨80, NO.out, rfl⟩, F1.out⟩
  have FT : Hid (Foot b) := hid ⟨by have := HL.out; omega, by
    have h1 := HZ.out
    rw [HBM.out]
    exact Classical.byContradiction fun h => by rw [decide_eq_false h] at h1; cases h1⟩
  clear HZ HBM hMw hMi hML hFn
  obtain ⟨q0, hq0⟩ := bool_of (SumAt b F 32)
  have SC0 : Hid (Calls Tryz.prog 22 #[.slice a L c, .int .i64 (F : Int), .int .i64 32] D1 fun e w' => e = .returned (.bool q0) ∧ Fr [] D1 w') := hid (rsumAt_c D1 (HR.out.fr (H0.out.trans F1.out)) HL.out HB.out (by omega) (t := F) (n := 32) (by omega) hq0)
  have HQ0 := hid hq0
  clear hq0
  cases q0
  case false =>
    have NO : Hid (NoOpn b 81) := hid (.inr (.inl ⟨rfl, FT.out, fun h => by rw [HFE.out] at h; have := HQ0.out.2 h; cases this⟩))
    go_wp2_with (go_at_call 22; refine SC0.out.mono ?_; rintro e D2 ⟨rfl, f2⟩; have F2 := hid (F1.out.trans f2); clear f2)
    go_ret2
    exact ⟨.inl ⟨81, NO.out, rfl⟩, F2.out⟩
  have SUM : Hid (SumAt b (b.length - 44) 32) := hid (by rw [HFE.out]; exact HQ0.out.1 rfl)
  clear HQ0
  go_upto_region 6 with (go_at_call 22; refine SC0.out.mono ?_; rintro e D2 ⟨rfl, f2⟩; have F2 := hid (F1.out.trans f2); clear f2)
  clear SC0 F1
  obtain ⟨n0, hn0⟩ : ∃ n, n = fAt b := ⟨_, rfl⟩
  obtain ⟨n1, hn1⟩ : ∃ n, n = fSz b := ⟨_, rfl⟩
  obtain ⟨n2, hn2⟩ : ∃ n, n = iAt b := ⟨_, rfl⟩
  obtain ⟨n3, hn3⟩ : ∃ n, n = iSz b := ⟨_, rfl⟩
  have NN : Hid (fAt b = n0 ∧ fSz b = n1 ∧ iAt b = n2 ∧ iSz b = n3) := hid ⟨hn0.symm, hn1.symm, hn2.symm, hn3.symm⟩
  have UNF : Hid (∀ W, Fr [] w W → Calls Tryz.prog 23 #[.slice a L c, .int .i64 (F : Int), .int .i64 8] W (fun e w' => e = .returned (.int .u64 (n0 : Int)) ∧ w' = W) ∧ Calls Tryz.prog 23 #[.slice a L c, .int .i64 ((F : Int) + 8), .int .i64 8] W (fun e w' => e = .returned (.int .u64 (n1 : Int)) ∧ w' = W) ∧ Calls Tryz.prog 23 #[.slice a L c, .int .i64 ((F : Int) + 16), .int .i64 8] W (fun e w' => e = .returned (.int .u64 (n2 : Int)) ∧ w' = W) ∧ Calls Tryz.prog 23 #[.slice a L c, .int .i64 ((F : Int) + 24), .int .i64 8] W (fun e w' => e = .returned (.int .u64 (n3 : Int)) ∧ w' = W)) := hid (fun W f => by
    have G := fun t (ht : t + 8 ≤ L) => refunfixed_c (HR.out.fr (H0.out.trans f)) HB.out t 8 (by omega) (by have := HL.out; omega) (by have := HL.out; omega)
    have e0 : fAt b = unf ((b.drop F).take 8) := by unfold fAt n8 wn; rw [HFE.out]
    have e1 : fSz b = unf ((b.drop (F + 8)).take 8) := by unfold fSz n8 wn; rw [show b.length - 36 = F + 8 from by have := HL.out; omega]
    have e2 : iAt b = unf ((b.drop (F + 16)).take 8) := by unfold iAt n8 wn; rw [show b.length - 28 = F + 16 from by have := HL.out; omega]
    have e3 : iSz b = unf ((b.drop (F + 24)).take 8) := by unfold iSz n8 wn; rw [show b.length - 20 = F + 24 from by have := HL.out; omega]
    rw [hn0, hn1, hn2, hn3, e0, e1, e2, e3]
    exact ⟨G F (by omega), G (F + 8) (by omega), G (F + 16) (by omega), G (F + 24) (by omega)⟩)
  clear hn0 hn1 hn2 hn3
  have huL : IntKind.u64.wrap (L : Int) = (L : Int) := by rw [IntKind.wrap_u64]; omega
  have NPL : Hid (n0 ≤ L ∧ n1 ≤ L ∧ n2 ≤ L ∧ n3 ≤ L ∨ NoOpn b 80) := hid (by
    by_cases h : Plc b
    · have h1 := h.hi
      have h2 := h.hf
      obtain ⟨a0, a1, a2, a3⟩ := NN.out
      rw [HFE.out, a2, a3] at h1
      rw [a0, a1, a2] at h2
      exact .inl ⟨by omega, by omega, by omega, by omega⟩
    · exact .inr (.inr (.inr (.inl ⟨rfl, FT.out, SUM.out, h⟩))))
  obtain ⟨A, hA⟩ : ∃ A, A = D2.heap.size := ⟨_, rfl⟩
  obtain ⟨W1, hW1⟩ : ∃ W, W = D2.alloc (.cells #[.int .i64 0, .int .i64 0, .int .i64 0, .int .i64 0] 65) := ⟨_, rfl⟩
  have HA1 : Hid (W1.heap[A]? = some (.cells #[.int .i64 0, .int .i64 0, .int .i64 0, .int .i64 0] 65 (0, 0))) := hid (by rw [hW1, hA]; exact blk_new _ _)
  have FW1 : Hid (Fr [] w W1) := hid (by rw [hW1]; exact F2.out.alloc _)
  have HAB : Hid (w.heap.size ≤ A) := hid (by rw [hA]; exact F2.out.size)
  go_upto_region 7 with fail
  rw [← hW1, ← hA]
  clear hW1 hA
  go_wp2_with fail
  refine wp_loop_rounds 5 ?_
  rw [rounds_succ]
  have TC := hid ((UNF.out W1 FW1.out).1)
  go_wp2_with fail
  refine TC.out.mono ?_
  rintro e w' ⟨rfl, hw'⟩
  have hw'' := hw'.symm
  clear hw'
  subst hw''
  clear TC
  by_cases hj0 : n0 ≤ L
  case neg =>
    have NO : Hid (NoOpn b 80) := hid (by rcases NPL.out with ⟨a0, a1, a2, a3⟩ | h; · omega
                                          · exact h)
    have hgt : (L : Int) < (n0 : Int) := by omega
    clear hj0
    go_wp2
    go_ret2
    exact ⟨.inl ⟨80, NO.out, rfl⟩, FW1.out⟩
  have hgt : ¬ (L : Int) < (n0 : Int) := by omega
  have hwr : IntKind.i64.wrap (n0 : Int) = (n0 : Int) := by rw [IntKind.wrap_i64]; omega
  have hcl : ∃ v, W1.cell? ⟨A, 0, none⟩ = some v := ⟨_, by rw [blk_cell HA1.out]; rfl⟩
  obtain ⟨cv, hcl⟩ := hcl
  have hfz := blk_frozen HA1.out
  obtain ⟨W2, hW2⟩ : ∃ W, W = W1.setCell ⟨A, 0, none⟩ (.int .i64 (n0 : Int)) := ⟨_, rfl⟩
  have HA2 : Hid (W2.heap[A]? = some (.cells #[.int .i64 (n0 : Int), .int .i64 0, .int .i64 0, .int .i64 0] 65 (0, 0))) := hid (by rw [hW2, blk_set HA1.out _ _]; rfl)
  have FW2 : Hid (Fr [] w W2) := hid (by rw [hW2]; exact FW1.out.set _ _ (.inr HAB.out))
  go_wp2
  rw [← hW2]
  clear hW2 hcl hfz hgt hwr HA1 FW1
  rw [rounds_succ]
  have TC := hid ((UNF.out W2 FW2.out).2.1)
  go_wp2_with fail
  refine TC.out.mono ?_
  rintro e w' ⟨rfl, hw'⟩
  have hw'' := hw'.symm
  clear hw'
  subst hw''
  clear TC
  by_cases hj1 : n1 ≤ L
  case neg =>
    have NO : Hid (NoOpn b 80) := hid (by rcases NPL.out with ⟨a0, a1, a2, a3⟩ | h; · omega
                                          · exact h)
    have hgt : (L : Int) < (n1 : Int) := by omega
    clear hj1
    go_wp2
    go_ret2
    exact ⟨.inl ⟨80, NO.out, rfl⟩, FW2.out⟩
  have hgt : ¬ (L : Int) < (n1 : Int) := by omega
  have hwr : IntKind.i64.wrap (n1 : Int) = (n1 : Int) := by rw [IntKind.wrap_i64]; omega
  have hcl : ∃ v, W2.cell? ⟨A, 1, none⟩ = some v := ⟨_, by rw [blk_cell HA2.out]; rfl⟩
  obtain ⟨cv, hcl⟩ := hcl
  have hfz := blk_frozen HA2.out
  obtain ⟨W3, hW3⟩ : ∃ W, W = W2.setCell ⟨A, 1, none⟩ (.int .i64 (n1 : Int)) := ⟨_, rfl⟩
  have HA3 : Hid (W3.heap[A]? = some (.cells #[.int .i64 (n0 : Int), .int .i64 (n1 : Int), .int .i64 0, .int .i64 0] 65 (0, 0))) := hid (by rw [hW3, blk_set HA2.out _ _]; rfl)
  have FW3 : Hid (Fr [] w W3) := hid (by rw [hW3]; exact FW2.out.set _ _ (.inr HAB.out))
  go_wp2
  rw [← hW3]
  clear hW3 hcl hfz hgt hwr HA2 FW2
  rw [rounds_succ]
  have TC := hid ((UNF.out W3 FW3.out).2.2.1)
  go_wp2_with fail
  refine TC.out.mono ?_
  rintro e w' ⟨rfl, hw'⟩
  have hw'' := hw'.symm
  clear hw'
  subst hw''
  clear TC
  by_cases hj2 : n2 ≤ L
  case neg =>
    have NO : Hid (NoOpn b 80) := hid (by rcases NPL.out with ⟨a0, a1, a2, a3⟩ | h; · omega
                                          · exact h)
    have hgt : (L : Int) < (n2 : Int) := by omega
    clear hj2
    go_wp2
    go_ret2
    exact ⟨.inl ⟨80, NO.out, rfl⟩, FW3.out⟩
  have hgt : ¬ (L : Int) < (n2 : Int) := by omega
  have hwr : IntKind.i64.wrap (n2 : Int) = (n2 : Int) := by rw [IntKind.wrap_i64]; omega
  have hcl : ∃ v, W3.cell? ⟨A, 2, none⟩ = some v := ⟨_, by rw [blk_cell HA3.out]; rfl⟩
  obtain ⟨cv, hcl⟩ := hcl
  have hfz := blk_frozen HA3.out
  obtain ⟨W4, hW4⟩ : ∃ W, W = W3.setCell ⟨A, 2, none⟩ (.int .i64 (n2 : Int)) := ⟨_, rfl⟩
  have HA4 : Hid (W4.heap[A]? = some (.cells #[.int .i64 (n0 : Int), .int .i64 (n1 : Int), .int .i64 (n2 : Int), .int .i64 0] 65 (0, 0))) := hid (by rw [hW4, blk_set HA3.out _ _]; rfl)
  have FW4 : Hid (Fr [] w W4) := hid (by rw [hW4]; exact FW3.out.set _ _ (.inr HAB.out))
  go_wp2
  rw [← hW4]
  clear hW4 hcl hfz hgt hwr HA3 FW3
  rw [rounds_succ]
  have TC := hid ((UNF.out W4 FW4.out).2.2.2)
  go_wp2_with fail
  refine TC.out.mono ?_
  rintro e w' ⟨rfl, hw'⟩
  have hw'' := hw'.symm
  clear hw'
  subst hw''
  clear TC
  by_cases hj3 : n3 ≤ L
  case neg =>
    have NO : Hid (NoOpn b 80) := hid (by rcases NPL.out with ⟨a0, a1, a2, a3⟩ | h; · omega
                                          · exact h)
    have hgt : (L : Int) < (n3 : Int) := by omega
    clear hj3
    go_wp2
    go_ret2
    exact ⟨.inl ⟨80, NO.out, rfl⟩, FW4.out⟩
  have hgt : ¬ (L : Int) < (n3 : Int) := by omega
  have hwr : IntKind.i64.wrap (n3 : Int) = (n3 : Int) := by rw [IntKind.wrap_i64]; omega
  have hcl : ∃ v, W4.cell? ⟨A, 3, none⟩ = some v := ⟨_, by rw [blk_cell HA4.out]; rfl⟩
  obtain ⟨cv, hcl⟩ := hcl
  have hfz := blk_frozen HA4.out
  obtain ⟨W5, hW5⟩ : ∃ W, W = W4.setCell ⟨A, 3, none⟩ (.int .i64 (n3 : Int)) := ⟨_, rfl⟩
  have HA5 : Hid (W5.heap[A]? = some (.cells #[.int .i64 (n0 : Int), .int .i64 (n1 : Int), .int .i64 (n2 : Int), .int .i64 (n3 : Int)] 65 (0, 0))) := hid (by rw [hW5, blk_set HA4.out _ _]; rfl)
  have FW5 : Hid (Fr [] w W5) := hid (by rw [hW5]; exact FW4.out.set _ _ (.inr HAB.out))
  go_wp2
  rw [← hW5]
  clear hW5 hcl hfz hgt hwr HA4 FW4
  rw [rounds_succ]
  clear UNF NPL huL
  obtain ⟨x0, x1, x2, x3⟩ : W5.cell? ⟨A, 0, none⟩ = some (.int .i64 (n0 : Int)) ∧ W5.cell? ⟨A, 1, none⟩ = some (.int .i64 (n1 : Int)) ∧ W5.cell? ⟨A, 2, none⟩ = some (.int .i64 (n2 : Int)) ∧ W5.cell? ⟨A, 3, none⟩ = some (.int .i64 (n3 : Int)) := ⟨by rw [blk_cell HA5.out]; rfl, by rw [blk_cell HA5.out]; rfl, by rw [blk_cell HA5.out]; rfl, by rw [blk_cell HA5.out]; rfl⟩
  by_cases hp1 : n2 + n3 + 4 = F
  case neg =>
    have hb1 : ¬ ((n2 : Int) + (n3 : Int) + 4 = (F : Int)) := by omega
    have NO : Hid (NoOpn b 80) := hid (.inr (.inr (.inl ⟨rfl, FT.out, SUM.out, fun h => by
      have h1 := h.hi
      obtain ⟨a0, a1, a2, a3⟩ := NN.out
      rw [HFE.out, a2, a3] at h1
      exact hp1 h1⟩)))
    clear hp1
    go_wp2
    go_ret2
    exact ⟨.inl ⟨80, NO.out, rfl⟩, FW5.out⟩
  have hb1 : (n2 : Int) + (n3 : Int) + 4 = (F : Int) := by omega
  have HP1 := hid hp1
  clear hp1
  by_cases hp2 : n0 + n1 + 4 = n2
  case neg =>
    have hb2 : ¬ ((n0 : Int) + (n1 : Int) + 4 = (n2 : Int)) := by omega
    have NO : Hid (NoOpn b 80) := hid (.inr (.inr (.inl ⟨rfl, FT.out, SUM.out, fun h => by
      have h1 := h.hf
      obtain ⟨a0, a1, a2, a3⟩ := NN.out
      rw [a0, a1, a2] at h1
      exact hp2 h1⟩)))
    clear hp2
    go_wp2
    go_ret2
    exact ⟨.inl ⟨80, NO.out, rfl⟩, FW5.out⟩
  have hb2 : (n0 : Int) + (n1 : Int) + 4 = (n2 : Int) := by omega
  have HP2 := hid hp2
  clear hp2
  have hle1 : n2 + n3 + 4 ≤ L := by have := HP1.out; omega
  have hle2 : n0 + n1 + 4 ≤ L := by have := HP2.out; omega
  have PL : Hid (Plc b) := hid ⟨by obtain ⟨a0, a1, a2, a3⟩ := NN.out; rw [HFE.out, a2, a3]; exact HP1.out, by obtain ⟨a0, a1, a2, a3⟩ := NN.out; rw [a0, a1, a2]; exact HP2.out⟩
  obtain ⟨q1, hq1⟩ := bool_of (SumAt b n2 n3)
  obtain ⟨q2, hq2⟩ := bool_of (SumAt b n0 n1)
  have SC1 : Hid (Calls Tryz.prog 22 #[.slice a L c, .int .i64 (n2 : Int), .int .i64 (n3 : Int)] W5 fun e w' => e = .returned (.bool q1) ∧ Fr [] W5 w') := hid (rsumAt_c W5 (HR.out.fr (H0.out.trans FW5.out)) HL.out HB.out (by omega) hle1 hq1)
  have SC2 : Hid (∀ W, Fr [] W5 W → Calls Tryz.prog 22 #[.slice a L c, .int .i64 (n0 : Int), .int .i64 (n1 : Int)] W fun e w' => e = .returned (.bool q2) ∧ Fr [] W w') := hid (fun W f => rsumAt_c W (HR.out.fr (H0.out.trans (FW5.out.trans f))) HL.out HB.out (by omega) hle2 hq2)
  have HQ1 := hid hq1
  have HQ2 := hid hq2
  clear hq1 hq2
  go_upto_region 16 with fail
  clear hb1 hb2
  have NO81 : Hid (q1 = false ∨ q2 = false → NoOpn b 81) := hid (fun hq => .inr (.inr (.inr (.inl ⟨rfl, FT.out, SUM.out, PL.out, fun h => by
    obtain ⟨a0, a1, a2, a3⟩ := NN.out
    rw [a0, a1, a2, a3] at h
    rcases hq with e | e
    · rw [HQ1.out.2 h.1] at e; cases e
    · rw [HQ2.out.2 h.2] at e; cases e⟩))))
  cases q1
  case false =>
    have NO := hid (NO81.out (.inl rfl))
    go_wp2_with (go_at_call 22; refine SC1.out.mono ?_; rintro e E1 ⟨rfl, f1⟩; have G1 := hid (FW5.out.trans f1); clear f1)
    go_ret2
    exact ⟨.inl ⟨81, NO.out, rfl⟩, G1.out⟩
  cases q2
  case false =>
    have NO := hid (NO81.out (.inr rfl))
    have SC3 : Hid (∀ W, Fr [] w W → Fr [] W5 W → W.cell? ⟨A, 0, none⟩ = some (.int .i64 (n0 : Int)) ∧ W.cell? ⟨A, 1, none⟩ = some (.int .i64 (n1 : Int))) := hid (fun W _ f => ⟨cell_fr f x0, cell_fr f x1⟩)
    go_wp2_with (first
      | (have zz := G1; clear zz; go_at_call 22; refine (SC2.out E1 G1.out).mono ?_; rintro e E2 ⟨rfl, f2⟩; have G2 := hid (G1.out.trans f2); clear f2)
      | (go_at_call 22; refine SC1.out.mono ?_; rintro e E1 ⟨rfl, f1⟩; have G1 := hid f1; obtain ⟨y0, y1⟩ := SC3.out E1 (FW5.out.trans f1) f1; clear f1))
    go_ret2
    exact ⟨.inl ⟨81, NO.out, rfl⟩, FW5.out.trans G2.out⟩
  have SC3 : Hid (∀ W, Fr [] w W → Fr [] W5 W → W.cell? ⟨A, 0, none⟩ = some (.int .i64 (n0 : Int)) ∧ W.cell? ⟨A, 1, none⟩ = some (.int .i64 (n1 : Int))) := hid (fun W _ f => ⟨cell_fr f x0, cell_fr f x1⟩)
  go_upto_region 18 with (first
    | (have zz := G1; clear zz; go_at_call 22; refine (SC2.out E1 G1.out).mono ?_; rintro e E2 ⟨rfl, f2⟩; have G2 := hid (G1.out.trans f2); clear f2)
    | (go_at_call 22; refine SC1.out.mono ?_; rintro e E1 ⟨rfl, f1⟩; have G1 := hid f1; obtain ⟨y0, y1⟩ := SC3.out E1 (FW5.out.trans f1) f1; clear f1))
  have ISUM : Hid (SumAt b (iAt b) (iSz b)) := hid (by obtain ⟨a0, a1, a2, a3⟩ := NN.out; rw [a2, a3]; exact HQ1.out.1 (by trivial))
  have FSUM : Hid (SumAt b (fAt b) (fSz b)) := hid (by obtain ⟨a0, a1, a2, a3⟩ := NN.out; rw [a0, a1]; exact HQ2.out.1 (by trivial))
  have FE2 := hid (FW5.out.trans G2.out)
  have HAE := hid (G2.out.at HA5.out (by simp))
  clear x0 x1 x2 x3 y0 y1 SC1 SC2 SC3 NO81 G1 G2 HQ1 HQ2 HA5 FW5
  obtain ⟨x0, x1, x2, x3⟩ : E2.cell? ⟨A, 0, none⟩ = some (.int .i64 (n0 : Int)) ∧ E2.cell? ⟨A, 1, none⟩ = some (.int .i64 (n1 : Int)) ∧ E2.cell? ⟨A, 2, none⟩ = some (.int .i64 (n2 : Int)) ∧ E2.cell? ⟨A, 3, none⟩ = some (.int .i64 (n3 : Int)) := ⟨by rw [blk_cell HAE.out]; rfl, by rw [blk_cell HAE.out]; rfl, by rw [blk_cell HAE.out]; rfl, by rw [blk_cell HAE.out]; rfl⟩
  obtain ⟨adi, hwi, rwi, _⟩ := winB (HR.out.fr (H0.out.trans FE2.out)) HL.out (i := n2) (m := n3) (by omega) (by omega)
  rw [show ((n2 + n3 : Nat) : Int) = (n2 : Int) + (n3 : Int) from by omega] at hwi
  have hwl : ((b.drop n2).take n3).length = n3 := by rw [List.length_take, List.length_drop]; have := HL.out; omega
  have PC := hid (rparse_c E2 rwi ((HB.out.drop n2).take n3) (by rw [hwl]; omega))
  have NO80 : Hid ((∀ ips r, Blk ((b.drop n2).take n3) ips r → ¬ Spans n0 ips) → NoOpn b 80) := hid (fun hh => .inr (.inr (.inr (.inr ⟨rfl, FT.out, SUM.out, PL.out, ISUM.out, FSUM.out, by obtain ⟨a0, a1, a2, a3⟩ := NN.out; rw [a0, a2, a3]; exact hh⟩))))
  have HUNI : Hid (∀ ps ps' r r', Blk ((b.drop n2).take n3) ps r → Blk ((b.drop n2).take n3) ps' r' → ps = ps') := hid (fun ps ps' r r' B B' => blk_one B B' (by rw [hwl]; omega))
  clear rwi hwl
  go_upto_region 19 with (go_at_call 24; refine PC.out.mono ?_; rintro e E3 ⟨hp, f3⟩; have F3 := hid f3; obtain ⟨ips, EE, hpf, la, lc, rfl, co⟩ : ∃ ips EE, PF1 ((b.drop n2).take n3) ips EE ∧ ∃ la lc, e = .returned (.tuple #[.slice la ips.length lc, .int .i64 (EE : Int)]) ∧ ColO E3 E2.heap.size (.slice la ips.length lc) ips := (by
      rcases hp with ⟨ps, r, v, B, rfl, co⟩ | ⟨hno, rfl⟩
      · obtain ⟨x, y, hv⟩ : ∃ la lc, v = .slice la ps.length lc := by
          obtain ⟨cs, o, _⟩ := co
          obtain ⟨x, y, e, _⟩ := ownsRow_slice o
          exact ⟨x, y, e⟩
        subst hv
        exact ⟨ps, 0, .inl ⟨⟨r, B⟩, rfl⟩, x, y, rfl, co⟩
      · exact ⟨[], 72, .inr ⟨hno, rfl, rfl⟩, none, 0, rfl, ColO.nil _ _⟩); have HPF := hid hpf; have CO := hid (co.baseD FE2.out.size); clear hp f3 hpf co)
  have HCNT0 : Hid (n3 ≤ 20000) := hid (by omega)
  clear PC hwi
  have FE3 := hid (FE2.out.trans F3.out)
  have HA3 := hid (F3.out.at HAE.out (by simp))
  clear x0 x1 x2 x3 FE2 F3 HAE
  obtain ⟨x0, x1⟩ : E3.cell? ⟨A, 0, none⟩ = some (.int .i64 (n0 : Int)) ∧ E3.cell? ⟨A, 1, none⟩ = some (.int .i64 (n1 : Int)) := ⟨by rw [blk_cell HA3.out]; rfl, by rw [blk_cell HA3.out]; rfl⟩
  obtain ⟨P, hP⟩ : ∃ P, P = ips.length := ⟨_, rfl⟩
  have HP := hid hP
  rw [← hP] at CO ⊢
  clear hP
  rcases HPF.out with ⟨⟨r, hB⟩, hE0⟩ | ⟨hno, hps, hE7⟩
  case inr =>
    have hne : ¬ ((EE : Int) = 0) := by omega
    have NO := hid (NO80.out (fun ps r B => absurd B (hno ps r)))
    clear hno hps hE7
    go_wp2
    go_ret2
    exact ⟨.inl ⟨80, NO.out, rfl⟩, FE3.out⟩
  subst hE0
  rw [show ((0 : Nat) : Int) = 0 from rfl]
  have HB1 := hid hB
  clear hB HPF
  have NOB : Hid (¬ Spans n0 ips → NoOpn b 80) := hid (fun h => NO80.out (fun ps r B => by rw [HUNI.out ps ips _ _ B HB1.out]; exact h))
  clear NO80
  have HCNT : Hid (P ≤ 20000) := hid (by
    have h1 := blk_count HB1.out
    rw [← HP.out, List.length_take] at h1
    have := HCNT0.out
    omega)
  by_cases hP0 : P = 0
  case pos =>
    have hp0 : (P : Int) = 0 := by omega
    have NO := hid (NOB.out (fun h => h.ne (List.eq_nil_of_length_eq_zero (by rw [← HP.out]; exact hP0))))
    clear hP0
    go_wp2
    go_ret2
    exact ⟨.inl ⟨80, NO.out, rfl⟩, FE3.out⟩
  have hp0 : ¬ ((P : Int) = 0) := by omega
  have HPN : Hid (P ≠ 0) := hid hP0
  clear hP0
  go_upto_region 21 with fail
  clear hp0
  obtain ⟨adf, hwf, rwf, _⟩ := winB HR.out HL.out (i := n0) (m := n1) (by omega) (by omega)
  rw [show ((n0 + n1 : Nat) : Int) = (n0 : Int) + (n1 : Int) from by omega] at hwf
  have RWF := hid rwf
  clear rwf
  obtain ⟨p, hp⟩ : ∃ p, p = E3.heap.size := ⟨_, rfl⟩
  obtain ⟨E4, hE4⟩ : ∃ W, W = E3.alloc (.cells #[.slice a L c, .slice none 0 0, .slice (some adf) n1 (c - n0)] 71) := ⟨_, rfl⟩
  have OI0 : Hid (OI w E4 p A (.slice a L c) (.slice (some adf) n1 (c - n0)) n0 n1 n2 n3 ips (.slice la P lc) 0 none 0) := hid (by
    rw [hE4, hp]
    exact ⟨blk_new _ _, by rw [blk_old _ _ (blk_lt HA3.out)]; exact HA3.out, FE3.out.size, ⟨[], World.ownsRow_nil _ _ _ _, fun j hj => by omega⟩, CO.out.fr ((Fr.refl _ _).alloc _), FE3.out.alloc _⟩)
  go_upto_region 22 with fail
  rw [← hE4, ← hp]
  clear hE4 hp hwf x0 x1 CO HA3 FE3
  go_cut [11] from 18 to 123 (fun v11 W' => v11 = .int .i64 0 ∧ E4 = W')
  case first =>
    go_wp2_with fail
    go_meet
    exact ⟨rfl, rfl⟩
  case rest =>
    obtain ⟨rfl, rfl⟩ := hcut
    go_wp2_with fail
    go_loopw [11, 12] (fun v11 v12 wr => ∃ (i : Nat) (pa : Option Addr) (pc : Nat), i ≤ P ∧ v11 = .int .i64 (nxN ips i : Int) ∧ v12 = .int .i64 (i : Int) ∧ nxN ips i ≤ n0 ∧ (∀ j, j < i → OkSp n0 ips j) ∧ OI w wr p A (.slice a L c) (.slice (some adf) n1 (c - n0)) n0 n1 n2 n3 ips (.slice la P lc) i pa pc) (fun _ v12 _ => P - (intOf v12).toNat)
    case atStart => exact ⟨0, none, 0, by omega, rfl, rfl, Nat.zero_le _, fun j hj => by omega, OI0.out⟩
    case round =>
      obtain ⟨i, pa, pc, hiP, rfl, rfl, hnx, hok, hoi⟩ := hrel
      have HOK := hid hok
      have HOI := hid hoi
      clear hok hoi OI0
      obtain ⟨N, hN⟩ : ∃ N, N = nxN ips i := ⟨_, rfl⟩
      have HNX := hid hN
      rw [← hN] at hnx ⊢
      clear hN
      have x0 : wr.cell? ⟨A, 0, none⟩ = some (.int .i64 (n0 : Int)) := by rw [blk_cell HOI.out.hA]; rfl
      by_cases hlt : i < P
      · have hlt' : (i : Int) < (P : Int) := by omega
        have HLT : Hid (i < ips.length) := hid (by rw [← HP.out]; exact hlt)
        obtain ⟨g, ka, kc, va, vc, hla, c0, c1, ok0, ok1, by0, by1, ln0, ln1⟩ := HOI.out.co.atD HLT.out
        subst hla
        have OK0 := hid ok0
        have RV := hid (Rd.ownN ok1 rfl)
        obtain ⟨vl, hvl⟩ : ∃ x, x = (vA ips i).length := ⟨_, rfl⟩
        obtain ⟨kl, hkl⟩ : ∃ x, x = (kA ips i).length := ⟨_, rfl⟩
        rw [← hkl] at c0
        rw [← hvl] at c1 RV ln1
        obtain ⟨X0, K0, e0, ht0⟩ : ∃ x k e, takeL (vA ips i) = (x, k, e) := ⟨_, _, _, rfl⟩
        obtain ⟨X1, K1, e1, ht1⟩ : ∃ x k e, takeL ((vA ips i).drop K0) = (x, k, e) := ⟨_, _, _, rfl⟩
        have bd0 := takeL_bound by1 ht0
        have bd1 := takeL_bound (by1.drop K0) ht1
        have T0 : Hid (Calls Tryz.prog 25 #[.slice va vl vc, .int .i64 0] wr fun e w' => e = .returned (.tuple #[.int .u64 (X0 : Int), .int .i64 (K0 : Int), .int .i64 (e0 : Int)]) ∧ w' = wr) := hid (by
          have := reftake_c RV.out by1 (by rw [← hvl]; exact ln1) 0 (by omega)
          rw [List.drop_zero, ht0] at this
          exact this)
        have T1 : Hid (Calls Tryz.prog 25 #[.slice va vl vc, .int .i64 (K0 : Int)] wr fun e w' => e = .returned (.tuple #[.int .u64 (X1 : Int), .int .i64 (K1 : Int), .int .i64 (e1 : Int)]) ∧ w' = wr) := hid (by
          have := reftake_c RV.out by1 (by rw [← hvl]; exact ln1) K0 (by omega)
          rw [ht1] at this
          exact this)
        have HBAD : Hid (¬ (e0 = 0 ∧ e1 = 0 ∧ K0 + K1 = vl ∧ X0 = N ∧ X1 ≤ n0 ∧ N + X1 + 4 ≤ n0) → NoOpn b 80) := hid (fun hh => NOB.out (fun sp => hh (by
          have o := sp.ok i HLT.out
          obtain ⟨h1, h2, h3⟩ := ok_take o ht0 ht1
          obtain ⟨h4, h5⟩ := ok_place o ((place_two ht0 ht1).1 ⟨h1, h2, h3⟩)
          have h6 := nx_le (ips := ips) ips.length HLT.out
          have h7 := sp.all
          rw [← HNX.out] at h4 h6
          refine ⟨h1, h2, by rw [hvl]; exact h3, h4, ?_, ?_⟩ <;> omega)))
        have HGOOD : Hid (e0 = 0 → e1 = 0 → K0 + K1 = vl → X0 = N → X1 ≤ n0 → OkSp n0 ips i ∧ szA ips i = X1) := hid (fun h1 h2 h3 h4 h5 => by
          have h6 := (place_two ht0 ht1).1 ⟨h1, h2, by rw [← hvl]; exact h3⟩
          have h7 : szA ips i = X1 := by unfold szA; rw [h6]; rfl
          exact ⟨⟨by rw [h6, h7, ← HNX.out, h4], by omega⟩, h7⟩)
        have HKL := hid hkl
        have hK0 : K0 ≤ 10 := bd0.2.2
        have hK1 : K1 ≤ 10 := bd1.2.2
        have hX0 : X0 < 18446744073709551616 := bd0.1
        have hX1 : X1 < 18446744073709551616 := bd1.1
        clear ok0 ok1 by0 by1 bd0 bd1 ht0 ht1 hvl hkl ln0 ln1 RV
        go_upto_region 27 with (go_at_call 25; refine T0.out.mono ?_; rintro e w1 ⟨rfl, hw1⟩; have hw2 := hw1.symm; clear hw1; subst hw2)
        clear T0
        by_cases he0 : e0 = 0
        case neg =>
          have hne : ¬ ((e0 : Int) = 0) := by omega
          have NO := hid (HBAD.out (fun h => he0 h.1))
          have FW := hid HOI.out.fr
          clear he0 T1
          go_wp2
          go_ret2
          exact ⟨.inl ⟨80, NO.out, rfl⟩, FW.out⟩
        have HE0 := hid he0
        have hz0 : (e0 : Int) = 0 := by omega
        clear he0
        go_upto_region 30 with (go_at_call 25; refine T1.out.mono ?_; rintro e w1 ⟨rfl, hw1⟩; have hw2 := hw1.symm; clear hw1; subst hw2)
        clear T1 hz0
        have FW := hid HOI.out.fr
        have huN : IntKind.u64.wrap (N : Int) = (N : Int) := by rw [IntKind.wrap_u64]; omega
        have hun0 : IntKind.u64.wrap (n0 : Int) = (n0 : Int) := by rw [IntKind.wrap_u64]; omega
        by_cases hc0 : e1 = 0
        case neg =>
          have hn0 : ¬ ((e1 : Int) = 0) := by omega
          have NO := hid (HBAD.out (fun h => hc0 h.2.1))
          clear hc0
          go_wp2
          go_ret2
          exact ⟨.inl ⟨80, NO.out, rfl⟩, FW.out⟩
        have HC0 := hid hc0
        have hp0 : (e1 : Int) = 0 := by omega
        clear hc0
        by_cases hc1 : K0 + K1 = vl
        case neg =>
          have hn1 : ¬ ((K0 : Int) + (K1 : Int) = (vl : Int)) := by omega
          have NO := hid (HBAD.out (fun h => hc1 h.2.2.1))
          clear hc1
          go_wp2
          go_ret2
          exact ⟨.inl ⟨80, NO.out, rfl⟩, FW.out⟩
        have HC1 := hid hc1
        have hp1 : (K0 : Int) + (K1 : Int) = (vl : Int) := by omega
        clear hc1
        by_cases hc2 : X0 = N
        case neg =>
          have hn2 : ¬ ((X0 : Int) = (N : Int)) := by omega
          have NO := hid (HBAD.out (fun h => hc2 h.2.2.2.1))
          clear hc2
          go_wp2
          go_ret2
          exact ⟨.inl ⟨80, NO.out, rfl⟩, FW.out⟩
        have HC2 := hid hc2
        have hp2 : (X0 : Int) = (N : Int) := by omega
        clear hc2
        by_cases hc3 : X1 ≤ n0
        case neg =>
          have hn3 : (n0 : Int) < (X1 : Int) := by omega
          have NO := hid (HBAD.out (fun h => hc3 h.2.2.2.2.1))
          clear hc3
          go_wp2
          go_ret2
          exact ⟨.inl ⟨80, NO.out, rfl⟩, FW.out⟩
        have HC3 := hid hc3
        have hp3 : ¬ (n0 : Int) < (X1 : Int) := by omega
        clear hc3
        have hiX : IntKind.i64.wrap (X1 : Int) = (X1 : Int) := by rw [IntKind.wrap_i64]; have := HC3.out; omega
        by_cases hc4 : N + X1 + 4 ≤ n0
        case neg =>
          have hn4 : (n0 : Int) < (N : Int) + (X1 : Int) + 4 := by omega
          have NO := hid (HBAD.out (fun h => hc4 h.2.2.2.2.2))
          clear hc4
          go_wp2
          go_ret2
          exact ⟨.inl ⟨80, NO.out, rfl⟩, FW.out⟩
        have HC4 := hid hc4
        have hp4 : ¬ (n0 : Int) < (N : Int) + (X1 : Int) + 4 := by omega
        clear hc4
        go_upto_region 32 with fail
        clear hp0 hp1 hp2 hp3 hp4 huN hun0 HBAD
        have hNX : N + X1 + 4 ≤ 20000 := by have := HC4.out; omega
        obtain ⟨OKI, hsz⟩ := HGOOD.out HE0.out HC0.out HC1.out HC2.out HC3.out
        have HOK1 : Hid (∀ j, j < i + 1 → OkSp n0 ips j) := hid (fun j hj => by
          by_cases h : j < i
          · exact HOK.out j h
          · rw [show j = i by omega]; exact OKI)
        have HN1 : Hid ((N : Int) + (X1 : Int) + 4 = (nxN ips (i + 1) : Int)) := hid (by
          have h1 : nxN ips (i + 1) = nxN ips i + szA ips i + 4 := rfl
          have h2 := HNX.out
          omega)
        have HN2 : Hid (nxN ips (i + 1) ≤ n0) := hid (by
          have h1 : nxN ips (i + 1) = nxN ips i + szA ips i + 4 := rfl
          have h2 := HNX.out
          have h3 := HC4.out
          omega)
        obtain ⟨D, hD⟩ : ∃ W, W = wr.drew := ⟨_, rfl⟩
        have DF : Hid (Fr [] wr D) := hid (by rw [hD]; exact (Fr.refl _ wr).drew)
        have OID := hid (HOI.out.quiet DF.out)
        have fA : Fr [] D (D.alloc (.cells #[.slice ka kl kc, .int .i64 (N : Int), .int .i64 (X1 : Int)] 75)) := (Fr.refl _ _).alloc _
        have OI1 := hid (OID.out.quiet fA)
        obtain ⟨cs, oc, qc⟩ := OI1.out.ps
        have ND : Hid (∀ a' c' D2, D2.ownsRow w.heap.size 75 3 (.slice a' (i + 1) c') (i + 1) (cs ++ [.slice ka kl kc, .int .i64 (N : Int), .int .i64 (X1 : Int)]) → (D.alloc (.cells #[.slice ka kl kc, .int .i64 (N : Int), .int .i64 (X1 : Int)] 75)).grownBy D2 (Value.slice pa i pc).ownBlock → OI w (D2.setCell ⟨p, 1, none⟩ (.slice a' (i + 1) c')) p A (.slice a L c) (.slice (some adf) n1 (c - n0)) n0 n1 n2 n3 ips (.slice (some ⟨g, 0, none⟩) P lc) (i + 1) a' c' ∧ D2.heap[p]? = some (.cells #[.slice a L c, .slice pa i pc, .slice (some adf) n1 (c - n0)] 71 (0, 0)) ∧ D2.cell? ⟨g, i * 2, none⟩ = some (.slice ka kl kc)) := hid (fun a' c' D2 o2 g2 => by
          have hcg : (D.alloc (.cells #[.slice ka kl kc, .int .i64 (N : Int), .int .i64 (X1 : Int)] 75)).cell? ⟨g, i * 2, none⟩ = some (.slice ka kl kc) := cell_fr fA (cell_fr DF.out c0)
          refine ⟨?_, ?_, ?_⟩
          · have o3 := o2
            rw [HKL.out, HNX.out, ← hsz] at o3
            rw [HKL.out, HNX.out, ← hsz] at oc qc g2
            have oi := OI1.out
            rw [HKL.out, HNX.out, ← hsz] at oi
            have ok := ownsRow_fr (ownsRow_fr OK0.out DF.out) fA
            rw [HKL.out, HNX.out, ← hsz] at ok
            exact oi.app oc qc ok o3 g2
          · rw [g2.block p (blk_lt OI1.out.hp) (fun e => own_not oc OI1.out.hp (by decide) e.symm)]; exact OI1.out.hp
          · obtain ⟨ds, od, _⟩ := OI1.out.co
            have od2 := own_staysG oc g2 od (by decide)
            have hb : D2.heap[g]? = (D.alloc (.cells #[.slice ka kl kc, .int .i64 (N : Int), .int .i64 (X1 : Int)] 75)).heap[g]? := g2.block g (od.lt g rfl).2 (fun e => by
              rcases od.2 with ⟨h, _⟩ | ⟨h, cap, cur, h1, _, h3, _⟩
              · cases h
              · simp only [Value.slice.injEq, Option.some.injEq, Addr.mk.injEq] at h1
                obtain ⟨⟨rfl, _⟩, _⟩ := h1
                exact own_not oc h3 (by decide) e.symm)
            rw [World.cell?_of_block hb]; exact hcg)
        have y1 : D.cell? ⟨p, 1, none⟩ = some (.slice pa i pc) := by rw [blk_cell OID.out.hp]; rfl
        have cd : D.cell? ⟨g, i * 2, none⟩ = some (.slice ka kl kc) := cell_fr DF.out c0
        have CD := hid cd
        have CA : Hid ((D.alloc (.cells #[.slice ka kl kc, .int .i64 (N : Int), .int .i64 (X1 : Int)] 75)).cell? ⟨g, i * 2, none⟩ = some (.slice ka kl kc)) := hid (cell_fr fA cd)
        have YA : Hid ((D.alloc (.cells #[.slice ka kl kc, .int .i64 (N : Int), .int .i64 (X1 : Int)] 75)).cell? ⟨p, 1, none⟩ = some (.slice pa i pc)) := hid (by rw [blk_cell OI1.out.hp]; rfl)
        have OC := hid oc
        have hws : w.heap.size ≤ D.heap.size := OID.out.fr.size
        have hi6 : i ≤ 1000000 := by have := HCNT.out; omega
        clear OKI hsz HOI OID OI1 oc qc fA HC0 HC1 HC2 HC3 HC4 HE0 HGOOD HOK OK0 HKL x0 c0 c1
        go_cut [] from 190 to 207 (fun W' => ∃ a' c' W3, W3 = W' ∧ OI w W3 p A (.slice a L c) (.slice (some adf) n1 (c - n0)) n0 n1 n2 n3 ips (.slice (some ⟨g, 0, none⟩) P lc) (i + 1) a' c')
        case first =>
          refine wp_region_held_drew (S := fun w' => w'.cell? ⟨g, i * 2, none⟩ = some (.slice ka kl kc)) (by kernel_rfl) (by rw [← hD]; exact cd) (fun hS => ?_)
          rw [← hD] at hS ⊢
          clear hD cd
          refine wpAnyH_take (i := 0) (v := .pointer (some ⟨p, 0, none⟩)) rfl (by kernel_rfl) (by kernel_rfl) (by kernel_rfl) (fun _ _ _ h => h) (.inl ⟨by rfl, fun wx _ => by go_simp⟩) hS ?_
          simp only [Act.put, List.getElem_toArray, List.getElem_cons_zero, List.set_cons_succ, List.set_cons_zero, List.setIfInBounds_toArray]
          refine wpAnyH_take (i := 1) (v := .pointer (some ⟨p, 0, none⟩)) rfl (by kernel_rfl) (by kernel_rfl) (by kernel_rfl) (fun _ _ _ h => h) (.inl ⟨by rfl, fun wx _ => by go_simp⟩) hS ?_
          simp only [Act.put, List.getElem_toArray, List.getElem_cons_succ, List.getElem_cons_zero, List.set_cons_succ, List.set_cons_zero, List.setIfInBounds_toArray]
          refine wpAnyH_take (i := 2) (v := .pointer (some ⟨p, 0, none⟩)) rfl (by kernel_rfl) (by kernel_rfl) (by kernel_rfl) (fun _ _ _ h => h) (.inl ⟨by rfl, fun wx _ => by go_simp⟩) hS ?_
          simp only [Act.put, List.getElem_toArray, List.getElem_cons_succ, List.getElem_cons_zero, List.set_cons_succ, List.set_cons_zero, List.setIfInBounds_toArray]
          refine wpAnyH_take (i := 3) (v := .pointer (some ⟨p, 1, none⟩)) rfl (by kernel_rfl) (by kernel_rfl) (by kernel_rfl) (fun _ _ _ h => h) (.inl ⟨by rfl, fun wx _ => by go_simp⟩) hS ?_
          simp only [Act.put, List.getElem_toArray, List.getElem_cons_succ, List.getElem_cons_zero, List.set_cons_succ, List.set_cons_zero, List.setIfInBounds_toArray]
          refine wpAnyH_take (i := 5) (v := .slice (some ⟨g, 0, none⟩) P lc) rfl (by kernel_rfl) (by kernel_rfl) (by kernel_rfl) (fun _ _ _ h => h) (.inl ⟨by rfl, fun wx _ => by go_simp⟩) hS ?_
          simp only [Act.put, List.getElem_toArray, List.getElem_cons_succ, List.getElem_cons_zero, List.set_cons_succ, List.set_cons_zero, List.setIfInBounds_toArray]
          refine wpAnyH_take (i := 6) (v := .int .i64 (i : Int)) rfl (by kernel_rfl) (by kernel_rfl) (by kernel_rfl) (fun _ _ _ h => h) (.inl ⟨by rfl, fun wx _ => by go_simp⟩) hS ?_
          simp only [Act.put, List.getElem_toArray, List.getElem_cons_succ, List.getElem_cons_zero, List.set_cons_succ, List.set_cons_zero, List.setIfInBounds_toArray]
          refine wpAnyH_take (i := 7) (v := .pointer (some ⟨g, i * 2, none⟩)) rfl (by kernel_rfl) (by kernel_rfl) (by kernel_rfl) (fun _ _ _ h => h) (.inl ⟨by rfl, fun wx _ => by have := hlt'; go_simp⟩) hS ?_
          simp only [Act.put, List.getElem_toArray, List.getElem_cons_succ, List.getElem_cons_zero, List.set_cons_succ, List.set_cons_zero, List.setIfInBounds_toArray]
          refine wpAnyH_take (i := 8) (v := .pointer (some ⟨g, i * 2, none⟩)) rfl (by kernel_rfl) (by kernel_rfl) (by kernel_rfl) (fun _ _ _ h => h) (.inl ⟨by rfl, fun wx _ => by go_simp⟩) hS ?_
          simp only [Act.put, List.getElem_toArray, List.getElem_cons_succ, List.getElem_cons_zero, List.set_cons_succ, List.set_cons_zero, List.setIfInBounds_toArray]
          refine wpAnyH_take (i := 9) (v := .slice ka kl kc) rfl (by kernel_rfl) (by kernel_rfl) (by kernel_rfl) (fun _ _ _ h => h) (.inl ⟨by rfl, fun wx hX => by have := hX; go_simp⟩) hS ?_
          simp only [Act.put, List.getElem_toArray, List.getElem_cons_succ, List.getElem_cons_zero, List.set_cons_succ, List.set_cons_zero, List.setIfInBounds_toArray]
          refine wpAnyH_take (i := 10) (v := .int .i64 (N : Int)) rfl (by kernel_rfl) (by kernel_rfl) (by kernel_rfl) (fun _ _ _ h => h) (.inl ⟨by rfl, fun wx _ => by go_simp⟩) hS ?_
          simp only [Act.put, List.getElem_toArray, List.getElem_cons_succ, List.getElem_cons_zero, List.set_cons_succ, List.set_cons_zero, List.setIfInBounds_toArray]
          refine wpAnyH_take (i := 11) (v := .int .u64 (X1 : Int)) rfl (by kernel_rfl) (by kernel_rfl) (by kernel_rfl) (fun _ _ _ h => h) (.inl ⟨by rfl, fun wx _ => by go_simp⟩) hS ?_
          simp only [Act.put, List.getElem_toArray, List.getElem_cons_succ, List.getElem_cons_zero, List.set_cons_succ, List.set_cons_zero, List.setIfInBounds_toArray]
          refine wpAnyH_take (i := 12) (v := .int .i64 (X1 : Int)) rfl (by kernel_rfl) (by kernel_rfl) (by kernel_rfl) (fun _ _ _ h => h) (.inl ⟨by rfl, fun wx _ => by have := hiX; go_simp⟩) hS ?_
          simp only [Act.put, List.getElem_toArray, List.getElem_cons_succ, List.getElem_cons_zero, List.set_cons_succ, List.set_cons_zero, List.setIfInBounds_toArray]
          refine wpAnyH_take (i := 13) (v := .agg #[.slice ka kl kc, .int .i64 (N : Int), .int .i64 (X1 : Int)]) rfl (by kernel_rfl) (by kernel_rfl) (by kernel_rfl) (fun _ _ _ h => h) (.inl ⟨by rfl, fun wx _ => by go_simp⟩) hS ?_
          simp only [Act.put, List.getElem_toArray, List.getElem_cons_succ, List.getElem_cons_zero, List.set_cons_succ, List.set_cons_zero, List.setIfInBounds_toArray]
          clear hS
          refine wpAnyH_ready (rs := [4, 14]) (by kernel_rfl) (by simp) ?_
          refine AllReadyH.cons rfl (fun K hK => ?_) (AllReadyH.cons rfl (fun K hK => ?_) AllReadyH.nil)
          · go_simp
            refine hK.out _ _ CD.out (fun _ => ?_)
            clear hK K
            refine wpAnyH_ready (rs := [14]) (by kernel_rfl) (by simp) ?_
            refine AllReadyH.cons rfl (fun K hK => ?_) AllReadyH.nil
            refine step_buildP rfl (.tmp 203) rfl (a0 := ka) (n0 := kl) (c0 := kc) (x1 := (N : Int)) (x2 := (X1 : Int)) (by first | (simp [Act.eval]; done) | simp [Act.eval, Act.put]) ?_
            refine hK.out _ _ CA.out (fun _ => ?_)
            clear hK K
            refine wpAnyH_ready (rs := [15]) (by kernel_rfl) (by simp) ?_
            refine AllReadyH.cons rfl (fun K hK => ?_) AllReadyH.nil
            refine step_appPt rfl (.tmp 194) (.tmp 204) rfl w.heap.size (by first | (simp [Act.eval]; done) | simp [Act.eval, Act.put]) OC.out (G := D.heap.size) (by first | (simp [Act.eval]; done) | simp [Act.eval, Act.put]) (a0 := ka) (n0 := kl) (c0 := kc) (x1 := (N : Int)) (x2 := (X1 : Int)) (blk_new _ _) hi6 (by simp; omega) ?_
            intro a' c' D2 o2 g2
            obtain ⟨oi2, hp2, hc2⟩ := ND.out a' c' D2 o2 g2
            have OI2 := hid oi2
            have y1 : D2.cell? ⟨p, 1, none⟩ = some (.slice pa i pc) := by rw [blk_cell hp2]; rfl
            have yf := blk_frozen hp2 1
            have C2 := hid hc2
            have C3 : Hid ((D2.setCell ⟨p, 1, none⟩ (.slice a' (i + 1) c')).cell? ⟨g, i * 2, none⟩ = some (.slice ka kl kc)) := hid (by
              have hgp : g ≠ p := fun e => by
                obtain ⟨ds, od, _⟩ := oi2.co
                exact own_not od oi2.hp (by decide) (by rw [e]; rfl)
              rw [World.cell?_of_block (w := D2) (blk_setne _ _ _ hgp)]; exact hc2)
            refine hK.out _ _ C2.out (fun _ => ?_)
            clear hK K o2 g2 oi2 hp2 hc2 OC ND
            refine wpAnyH_ready (rs := [16]) (by kernel_rfl) (by simp) ?_
            refine AllReadyH.cons rfl (fun K hK => ?_) AllReadyH.nil
            go_simp
            refine hK.out _ _ C2.out (fun _ => ?_)
            clear hK K
            refine wpAnyH_ready (rs := [17]) (by kernel_rfl) (by simp) ?_
            refine AllReadyH.cons rfl (fun K hK => ?_) AllReadyH.nil
            go_simp
            refine hK.out _ _ C2.out (fun _ => ?_)
            clear hK K
            refine wpAnyH_ready (rs := [18]) (by kernel_rfl) (by simp) ?_
            refine AllReadyH.cons rfl (fun K hK => ?_) AllReadyH.nil
            go_simp
            refine hK.out _ _ C3.out (fun _ => ?_)
            clear hK K y1 yf C2 C3 CA CD
            refine wpAnyH_done (by kernel_rfl) ?_ _
            go_wp2_with fail
            go_meet
            exact ⟨a', c', _, rfl, OI2.out⟩
          · refine step_buildP rfl (.tmp 203) rfl (a0 := ka) (n0 := kl) (c0 := kc) (x1 := (N : Int)) (x2 := (X1 : Int)) (by first | (simp [Act.eval]; done) | simp [Act.eval, Act.put]) ?_
            refine hK.out _ _ CA.out (fun _ => ?_)
            clear hK K
            have y1 := YA.out
            refine wpAnyH_ready (rs := [4]) (by kernel_rfl) (by simp) ?_
            refine AllReadyH.cons rfl (fun K hK => ?_) AllReadyH.nil
            go_simp
            refine hK.out _ _ CA.out (fun _ => ?_)
            clear hK K
            refine wpAnyH_ready (rs := [15]) (by kernel_rfl) (by simp) ?_
            refine AllReadyH.cons rfl (fun K hK => ?_) AllReadyH.nil
            refine step_appPt rfl (.tmp 194) (.tmp 204) rfl w.heap.size (by first | (simp [Act.eval]; done) | simp [Act.eval, Act.put]) OC.out (G := D.heap.size) (by first | (simp [Act.eval]; done) | simp [Act.eval, Act.put]) (a0 := ka) (n0 := kl) (c0 := kc) (x1 := (N : Int)) (x2 := (X1 : Int)) (blk_new _ _) hi6 (by simp; omega) ?_
            intro a' c' D2 o2 g2
            obtain ⟨oi2, hp2, hc2⟩ := ND.out a' c' D2 o2 g2
            have OI2 := hid oi2
            have y1 : D2.cell? ⟨p, 1, none⟩ = some (.slice pa i pc) := by rw [blk_cell hp2]; rfl
            have yf := blk_frozen hp2 1
            have C2 := hid hc2
            have C3 : Hid ((D2.setCell ⟨p, 1, none⟩ (.slice a' (i + 1) c')).cell? ⟨g, i * 2, none⟩ = some (.slice ka kl kc)) := hid (by
              have hgp : g ≠ p := fun e => by
                obtain ⟨ds, od, _⟩ := oi2.co
                exact own_not od oi2.hp (by decide) (by rw [e]; rfl)
              rw [World.cell?_of_block (w := D2) (blk_setne _ _ _ hgp)]; exact hc2)
            refine hK.out _ _ C2.out (fun _ => ?_)
            clear hK K o2 g2 oi2 hp2 hc2 OC ND
            refine wpAnyH_ready (rs := [16]) (by kernel_rfl) (by simp) ?_
            refine AllReadyH.cons rfl (fun K hK => ?_) AllReadyH.nil
            go_simp
            refine hK.out _ _ C2.out (fun _ => ?_)
            clear hK K
            refine wpAnyH_ready (rs := [17]) (by kernel_rfl) (by simp) ?_
            refine AllReadyH.cons rfl (fun K hK => ?_) AllReadyH.nil
            go_simp
            refine hK.out _ _ C2.out (fun _ => ?_)
            clear hK K
            refine wpAnyH_ready (rs := [18]) (by kernel_rfl) (by simp) ?_
            refine AllReadyH.cons rfl (fun K hK => ?_) AllReadyH.nil
            go_simp
            refine hK.out _ _ C3.out (fun _ => ?_)
            clear hK K y1 yf C2 C3 CA CD
            refine wpAnyH_done (by kernel_rfl) ?_ _
            go_wp2_with fail
            go_meet
            exact ⟨a', c', _, rfl, OI2.out⟩
        case rest =>
          obtain ⟨a', c', W3, rfl, OI2⟩ := hcut
          have OI2 := hid OI2
          clear hD cd y1 YA CD CA OC ND
          go_wp2_with fail
          go_roundw
          case rel => exact ⟨i + 1, a', c', by omega, by rw [← HN1.out], by go_num, HN2.out, HOK1.out, OI2.out⟩
          case measure => simp [intOf]; omega
      · have hge : ¬ ((i : Int) < (P : Int)) := by omega
        have HI : Hid (i = ips.length) := hid (by rw [← HP.out]; omega)
        clear hlt hiP
        have FW := hid HOI.out.fr
        by_cases hN0 : N = n0
        case neg =>
          have hne : ¬ ((N : Int) = (n0 : Int)) := by omega
          have NO := hid (NOB.out (fun sp => hN0 (by rw [HNX.out, HI.out]; exact sp.all)))
          clear hN0
          go_wp2
          go_ret2
          exact ⟨.inl ⟨80, NO.out, rfl⟩, FW.out⟩
        have hze : (N : Int) = (n0 : Int) := by omega
        have HNE := hid hN0
        clear hN0
        go_wp2
        go_ret2
        obtain ⟨a0, a1, a2, a3⟩ := NN.out
        have hne : ips ≠ [] := fun e => HPN.out (by rw [HP.out, e]; rfl)
        obtain ⟨q, hq, rto⟩ := HOI.out.rto H0.out HR.out (by unfold wn; rw [a0, a1]; exact RWF.out) a1.symm HI.out hne
        have hil := HI.out
        rw [hil] at rto
        refine ⟨.inr ⟨ips, r, p, q, pc, some adf, n1, c - n0, ⟨FT.out, SUM.out, PL.out, ISUM.out, FSUM.out, by unfold wn; rw [a2, a3]; exact HB1.out, ⟨hne, fun j hj => by rw [a0]; exact HOK.out j (by omega), by rw [a0, ← HNE.out, HNX.out, hil]⟩⟩, rfl, rto⟩, FW.out⟩
end Go.Proofs.YtnnookkcnmgbfaaGreat
