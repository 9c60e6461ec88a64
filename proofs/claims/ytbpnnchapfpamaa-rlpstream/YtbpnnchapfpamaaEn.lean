/-
  What Encode of package rlp answers.
-/
import Derived.Test.YtbpnnchapfpamaaWr2
import Derived.Deep.RegionHeld
namespace Go.Proofs.Ytbpnnchapfpamaa
open Go.ChangeShapes Go.WideShapes Go.ChangeAt Go.RowKit

/-- What Encode tells of an item: its bytes, or its first fault. -/
def encE {n : Nat} (t : Tr n) : Nat := if bad n 1 t ≠ 0 then bad n 1 t else if 65536 < (enc n t).length then 44 else 0
def encB {n : Nat} (t : Tr n) : List Nat := if encE t = 0 then enc n t else []

theorem make0 (w : World) (n : Nat) (hn : n ≤ 1000000) : (Instr.makeSlice 22 (.int .i64 0) (.int .i64 (n : Int))).run Try.prog w = .ok (.slice (some ⟨w.heap.size, 0, none⟩) 0 n) (w.alloc (.cells (madeCells #[.int .u8 0] n) 5)) := by
  obtain ⟨i0, hi, hz0, hz1, hz2⟩ := info_parts infoB
  have h := run_make (P := Try.prog) w 22 5 i0 (.int .u8 0) Try.underlying22 hi hz0 .i64 .i64 0 (n : Int) (by omega) (by omega) (by rw [hz2]; omega) (by omega)
  simpa [hz1, Value.cells] using h
theorem own_make (w : World) (n : Nat) (hn : n ≤ 1000000) : (w.alloc (.cells (madeCells #[.int .u8 0] n) 5)).ownsRow w.heap.size 5 1 (.slice (some ⟨w.heap.size, 0, none⟩) 0 n) 0 (bv []) :=
  ⟨rfl, .inr ⟨w.heap.size, n, _, rfl, Nat.le_refl _, blk_new _ _, Nat.zero_le _, by unfold maxLen; omega, by simp [madeCells], by simp [bv]⟩⟩

set_option maxRecDepth 20000 in
set_option maxHeartbeats 800000 in
theorem encode_c (w : World) {v : Value} {n : Nat} {t : Tr n} (hv : IsV w n v t) (hn : 16 ≤ n) (hc : cnt n t ≤ 4096) (he : (enc n t).length ≤ 1000000) :
    Calls Try.prog 9 #[v] w fun r w' => ∃ v', r = .returned (.tuple #[v', .int .i64 (encE t : Int)]) ∧ w'.ownsRow w.heap.size 5 1 v' (encB t).length (bv (encB t)) ∧ Fr [] w w' := by
  obtain ⟨l, a1, n1, c1, a2, n2, c2, rfl⟩ := hv.agg
  have HV := hid hv
  have HN := hid (blk_new w (.cells #[.bool l, .slice a1 n1 c1, .slice a2 n2 c2] 25))
  obtain ⟨E, hE⟩ : ∃ E, E = (enc n t).length := ⟨_, rfl⟩
  obtain ⟨B, hB⟩ : ∃ B, B = bad n 1 t := ⟨_, rfl⟩
  obtain ⟨R, hR⟩ : ∃ R, R = encE t := ⟨_, rfl⟩
  obtain ⟨O, hO⟩ : ∃ O, O = encB t := ⟨_, rfl⟩
  have hbl := bad_le n 1 t
  rw [← hB] at hbl
  rw [← hR, ← hO]
  have hr1 : R = if B ≠ 0 then B else if 65536 < E then 44 else 0 := by rw [hR, hB, hE]; rfl
  have ho1 : O = if R = 0 then enc n t else [] := by rw [hO, hR]; rfl
  have HE := hid hE
  have HB := hid hB
  have HR := hid hr1
  have HO := hid ho1
  rw [← hE] at he
  clear hv hE hB hR hO hr1 ho1
  have F0 := hid ((Fr.refl [] w).alloc (.cells #[.bool l, .slice a1 n1 c1, .slice a2 n2 c2] 25))
  go_enter Try.func9, Try.ntmps9
  go_wp2_with fail
  refine (measure_c _ (HV.out.fr F0.out) hn hc (by rw [← HE.out]; exact he)).mono ?_
  rintro r w1 ⟨hT, f1⟩
  rw [← HE.out, ← HB.out] at hT
  have F1 := hid (F0.out.trans f1)
  have hbk := f1.at HN.out (by simp)
  have hd0 := blk_cell hbk 0
  have hd1 := blk_cell hbk 1
  have hd2 := blk_cell hbk 2
  simp at hd0 hd1 hd2
  have V1 := hid (HV.out.fr F1.out)
  clear f1
  rcases hT with ⟨t1, rfl⟩ | ⟨t1, rfl⟩
  · have HT := hid t1
    by_cases hlong : 65536 < E
    · have hR : R = 44 := by rw [HR.out, if_neg (by rw [HT.out]; simp), if_pos hlong]
      have hO : O = [] := by rw [HO.out, if_neg (by omega)]
      subst hR
      subst hO
      clear t1 hbk
      go_wp2
      go_ret2
      exact ⟨_, rfl, World.ownsRow_nil _ _ _ _, F1.out⟩
    · have hR : R = 0 := by rw [HR.out, if_neg (by rw [HT.out]; simp), if_neg hlong]
      have hO : O = enc n t := by rw [HO.out, if_pos hR]
      subst hR
      have HOO := hid hO
      clear t1 hO
      go_wp2_with fail
      have HD := hid (And.intro hd0 (And.intro hd1 hd2))
      have hmk := make0 w1.drew E (by omega)
      clear hd0 hd1 hd2
      refine wp_region_held_drew (S := fun w' => Fr [] w1 w') (by kernel_rfl) (Fr.refl [] w1).drew (fun hH => ?_)
      refine wpAnyH_take (i := 0) (v := .int .i64 (E : Int)) rfl (by kernel_rfl) (by kernel_rfl) (by kernel_rfl) (fun _ _ _ h => h) (.inl ⟨by rfl, fun wx _ => by go_simp⟩) hH ?_
      simp only [Act.put]
      refine wpAnyH_take (i := 2) (v := .agg #[.bool l, .slice a1 n1 c1, .slice a2 n2 c2]) rfl (by kernel_rfl) (by kernel_rfl) (by kernel_rfl) (fun _ _ _ h => h) (.inl ⟨by rfl, fun wx h => by
        have g0 := cell_fr HD.out.1 h
        have g1 := cell_fr HD.out.2.1 h
        have g2 := cell_fr HD.out.2.2 h
        go_simp⟩) hH ?_
      simp only [Act.put]
      refine wpAnyH_ready (rs := [1]) (by kernel_rfl) (by simp) ?_
      refine AllReadyH.cons rfl (fun K hK => ?_) AllReadyH.nil
      have HH := hid hH
      clear hH
      go_simp
      have FM := hid (HH.out.alloc (.cells (madeCells #[.int .u8 0] E) 5))
      refine hK.out _ _ FM.out (fun _ => ?_)
      clear hK K
      refine wpAnyH_ready (rs := [3]) (by kernel_rfl) (by simp) ?_
      refine AllReadyH.cons rfl (fun K hK => ?_) AllReadyH.nil
      go_simp
      refine (write_c n w1 t 1 _ _ _ [] (by rw [← HB.out]; exact HT.out) (base := w1.heap.size) (Nat.le_refl _) V1.out FM.out (by simp) (own_make w1.drew E (by omega)) (by rw [← HE.out]; simp; omega)).mono ?_
      rintro r w2 ⟨v2, rfl, o2, f2, k2⟩
      rw [List.nil_append, ← HOO.out] at o2
      have O2 := hid (ownsRow_base (B' := w.heap.size) o2 F1.out.size)
      have F2 := hid f2
      refine hK.out _ _ f2 (fun _ => ?_)
      clear hK K o2 f2 k2
      refine wpAnyH_ready (rs := [4]) (by kernel_rfl) (by simp) ?_
      refine AllReadyH.cons rfl (fun K hK => ?_) AllReadyH.nil
      go_simp
      refine hK.out _ _ F2.out (fun _ => ?_)
      clear hK K
      refine wpAnyH_ready (rs := [5]) (by kernel_rfl) (by simp) ?_
      refine AllReadyH.cons rfl (fun K hK => ?_) AllReadyH.nil
      go_simp
      refine hK.out _ _ F2.out (fun _ => ?_)
      clear hK K
      refine wpAnyH_done (by kernel_rfl) ?_ _
      clear hmk
      go_wp2
      go_ret2
      exact ⟨v2, rfl, O2.out, F1.out.trans F2.out⟩
  · have HT := hid t1
    have hR : R = B := by rw [HR.out, if_pos HT.out]
    have hO : O = [] := by rw [HO.out, if_neg (by omega)]
    subst hR
    subst hO
    have hz : ((R : Int) == 0) = false := beq_eq_false_iff_ne.2 (by omega)
    clear t1 hbk
    go_wp2
    go_ret2
    exact ⟨_, rfl, World.ownsRow_nil _ _ _ _, F1.out⟩
end Go.Proofs.Ytbpnnchapfpamaa
