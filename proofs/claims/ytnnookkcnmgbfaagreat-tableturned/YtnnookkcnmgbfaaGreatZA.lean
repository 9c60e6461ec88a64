/-
  The document's sums of a table's pieces.
-/
import Derived.Test.YtnnookkcnmgbfaaGreatJ05
import Derived.Test.YtnnookkcnmgbfaaGreatBX7
namespace Go.Proofs.YtnnookkcnmgbfaaGreat
open Go.ChangeShapes Go.WideShapes Go.ChangeAt Go.RowKit

set_option maxRecDepth 20000 in
set_option maxHeartbeats 1600000 in
theorem rsumAt_c (w : World) {a : Option Addr} {L c t n : Nat} {b : List Nat} (hr : Rd w (.slice a L c) (bv b)) (hL : b.length = L) (hb : By b) (hl : L ≤ 1000000) (ht : t + n + 4 ≤ L) {q : Bool} (hq : q = true ↔ SumAt b t n) :
    Calls Tryz.prog 22 #[.slice a L c, .int .i64 (t : Int), .int .i64 (n : Int)] w fun e w' => e = .returned (.bool q) ∧ Fr [] w w' := by
  have HR := hid hr
  have HB := hid hb
  have HL := hid hL
  obtain ⟨ad, hwin, rwin, _⟩ := winB hr hL (i := t) (m := n) (by omega) (by omega)
  have HWIN := hid hwin
  have RWIN := hid rwin
  obtain ⟨u, hu⟩ : ∃ u, u = t + n := ⟨_, rfl⟩
  have hui : (t : Int) + (n : Int) = (u : Int) := by omega
  have huw : IntKind.i64.wrap (u : Int) = (u : Int) := by rw [IntKind.wrap_i64]; omega
  have HU := hid hu
  rw [← hu] at HWIN
  have hwl : ((b.drop t).take n).length = n := by rw [List.length_take, List.length_drop]; omega
  have hcr := crc_lt (hb.drop t |>.take n)
  obtain ⟨x, hx⟩ : ∃ x, x = unf ((b.drop u).take 4) := ⟨_, rfl⟩
  obtain ⟨y, hy⟩ : ∃ y, y = crc ((b.drop t).take n) := ⟨_, rfl⟩
  have HQ : q = decide (x = y) := by
    rw [Bool.eq_iff_iff, hq, decide_eq_true_iff]
    unfold SumAt wn
    rw [hx, hy, hu]
  clear hq
  rw [← hy] at hcr
  have hyw : IntKind.u64.wrap (y : Int) = (y : Int) := by rw [IntKind.wrap_u64]; omega
  have HX := hid hx
  have HY := hid hy
  have hxy : ((x : Int) == (y : Int)) = decide (x = y) := by
    by_cases h : x = y
    · subst h; simp
    · rw [decide_eq_false h]; exact beq_eq_false_iff_ne.2 (by omega)
  have UC := fun (W : World) (hW : Fr [] w W) => refunfixed_c (HR.out.fr hW) HB.out u 4 (by omega) (by have := HL.out; have := HU.out; omega) (by have := HL.out; omega)
  have SC := fun (W : World) (hW : Fr [] w W) => refsum_c (RWIN.out.fr hW) ((HB.out.drop t).take n) (by rw [hwl]; omega)
  rw [← HX.out] at UC
  rw [← HY.out] at SC
  have UC := hid UC
  have SC := hid SC
  rw [← HQ] at hxy
  clear hr hb hL hwin rwin hu hx hy HQ
  go_enter Tryz.func22, Tryz.ntmps22
  go_upto_region 1 with fail
  obtain ⟨D0, hD⟩ : ∃ W, W = w.drew := ⟨_, rfl⟩
  have DF : Hid (Fr [] w D0) := hid (by rw [hD]; exact (Fr.refl _ w).drew)
  refine wp_region_held_drew (S := fun _ => True) (by kernel_rfl) trivial (fun hS => ?_)
  rw [← hD]
  clear hD
  refine wpAnyH_take (i := 0) (v := .slice a L c) rfl (by kernel_rfl) (by kernel_rfl) (by kernel_rfl) (fun _ _ _ h => h) (.inl ⟨by rfl, fun wx _ => by go_simp⟩) hS ?_
  simp only [Act.put, List.getElem_toArray, List.getElem_cons_zero, List.set_cons_succ, List.set_cons_zero, List.setIfInBounds_toArray]
  refine wpAnyH_take (i := 1) (v := .int .i64 (t : Int)) rfl (by kernel_rfl) (by kernel_rfl) (by kernel_rfl) (fun _ _ _ h => h) (.inl ⟨by rfl, fun wx _ => by go_simp⟩) hS ?_
  simp only [Act.put, List.getElem_toArray, List.getElem_cons_succ, List.getElem_cons_zero, List.set_cons_succ, List.set_cons_zero, List.setIfInBounds_toArray]
  refine wpAnyH_take (i := 2) (v := .int .i64 (n : Int)) rfl (by kernel_rfl) (by kernel_rfl) (by kernel_rfl) (fun _ _ _ h => h) (.inl ⟨by rfl, fun wx _ => by go_simp⟩) hS ?_
  simp only [Act.put, List.getElem_toArray, List.getElem_cons_succ, List.getElem_cons_zero, List.set_cons_succ, List.set_cons_zero, List.setIfInBounds_toArray]
  refine wpAnyH_take (i := 3) (v := .int .i64 (u : Int)) rfl (by kernel_rfl) (by kernel_rfl) (by kernel_rfl) (fun _ _ _ h => h) (.inl ⟨by rfl, fun wx _ => by have := hui; have := huw; go_simp⟩) hS ?_
  simp only [Act.put, List.getElem_toArray, List.getElem_cons_succ, List.getElem_cons_zero, List.set_cons_succ, List.set_cons_zero, List.setIfInBounds_toArray]
  refine wpAnyH_take (i := 5) (v := .slice a L c) rfl (by kernel_rfl) (by kernel_rfl) (by kernel_rfl) (fun _ _ _ h => h) (.inl ⟨by rfl, fun wx _ => by go_simp⟩) hS ?_
  simp only [Act.put, List.getElem_toArray, List.getElem_cons_succ, List.getElem_cons_zero, List.set_cons_succ, List.set_cons_zero, List.setIfInBounds_toArray]
  refine wpAnyH_take (i := 6) (v := .int .i64 (t : Int)) rfl (by kernel_rfl) (by kernel_rfl) (by kernel_rfl) (fun _ _ _ h => h) (.inl ⟨by rfl, fun wx _ => by go_simp⟩) hS ?_
  simp only [Act.put, List.getElem_toArray, List.getElem_cons_succ, List.getElem_cons_zero, List.set_cons_succ, List.set_cons_zero, List.setIfInBounds_toArray]
  refine wpAnyH_take (i := 7) (v := .int .i64 (t : Int)) rfl (by kernel_rfl) (by kernel_rfl) (by kernel_rfl) (fun _ _ _ h => h) (.inl ⟨by rfl, fun wx _ => by go_simp⟩) hS ?_
  simp only [Act.put, List.getElem_toArray, List.getElem_cons_succ, List.getElem_cons_zero, List.set_cons_succ, List.set_cons_zero, List.setIfInBounds_toArray]
  refine wpAnyH_take (i := 8) (v := .int .i64 (n : Int)) rfl (by kernel_rfl) (by kernel_rfl) (by kernel_rfl) (fun _ _ _ h => h) (.inl ⟨by rfl, fun wx _ => by go_simp⟩) hS ?_
  simp only [Act.put, List.getElem_toArray, List.getElem_cons_succ, List.getElem_cons_zero, List.set_cons_succ, List.set_cons_zero, List.setIfInBounds_toArray]
  refine wpAnyH_take (i := 9) (v := .int .i64 (u : Int)) rfl (by kernel_rfl) (by kernel_rfl) (by kernel_rfl) (fun _ _ _ h => h) (.inl ⟨by rfl, fun wx _ => by have := hui; have := huw; go_simp⟩) hS ?_
  simp only [Act.put, List.getElem_toArray, List.getElem_cons_succ, List.getElem_cons_zero, List.set_cons_succ, List.set_cons_zero, List.setIfInBounds_toArray]
  refine wpAnyH_take (i := 10) (v := .slice (some ad) n (c - t)) rfl (by kernel_rfl) (by kernel_rfl) (by kernel_rfl) (fun _ _ _ h => h) (.inl ⟨by rfl, fun wx _ => by have := HWIN.out wx; go_simp⟩) hS ?_
  simp only [Act.put, List.getElem_toArray, List.getElem_cons_succ, List.getElem_cons_zero, List.set_cons_succ, List.set_cons_zero, List.setIfInBounds_toArray]
  clear hS
  refine wpAnyH_ready (rs := [4]) (by kernel_rfl) (by simp) ?_
  refine AllReadyH.cons rfl (fun K hK => ?_) AllReadyH.nil
  go_simp
  refine (UC.out D0 DF.out).mono ?_
  rintro e D1 ⟨rfl, h1⟩
  have h1' := h1.symm
  clear h1
  subst h1'
  refine hK.out _ _ trivial (fun _ => ?_)
  clear hK K
  refine wpAnyH_ready (rs := [11]) (by kernel_rfl) (by simp) ?_
  refine AllReadyH.cons rfl (fun K hK => ?_) AllReadyH.nil
  go_simp
  refine (SC.out D0 DF.out).mono ?_
  rintro e D1 ⟨rfl, h1⟩
  have h1' := h1.symm
  clear h1
  subst h1'
  refine hK.out _ _ trivial (fun hS => ?_)
  clear hK K
  refine wpAnyH_take (i := 12) (v := .int .u64 (y : Int)) rfl (by kernel_rfl) (by kernel_rfl) (by kernel_rfl) (fun _ _ _ h => h) (.inl ⟨by rfl, fun wx _ => by have := hyw; go_simp⟩) hS ?_
  simp only [Act.put, List.getElem_toArray, List.getElem_cons_succ, List.getElem_cons_zero, List.set_cons_succ, List.set_cons_zero, List.setIfInBounds_toArray]
  refine wpAnyH_take (i := 13) (v := .bool q) rfl (by kernel_rfl) (by kernel_rfl) (by kernel_rfl) (fun _ _ _ h => h) (.inl ⟨by rfl, fun wx _ => by have := hxy; go_simp⟩) hS ?_
  simp only [Act.put, List.getElem_toArray, List.getElem_cons_succ, List.getElem_cons_zero, List.set_cons_succ, List.set_cons_zero, List.setIfInBounds_toArray]
  clear hS
  refine wpAnyH_ready (rs := [14]) (by kernel_rfl) (by simp) ?_
  refine AllReadyH.cons rfl (fun K hK => ?_) AllReadyH.nil
  go_simp
  refine hK.out _ _ trivial (fun _ => ?_)
  clear hK K
  refine wpAnyH_done (by kernel_rfl) ?_ _
  go_wp2
  go_ret
  exact ⟨rfl, DF.out⟩
end Go.Proofs.YtnnookkcnmgbfaaGreat
