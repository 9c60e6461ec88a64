/-
  Keys of two hashes, of numbers; the keys' names.
-/
import Derived.Test.YtpacijcjcdigmaaRA
namespace Go.Proofs.Ytpacijcjcdigmaa
open Go.ChangeShapes Go.WideShapes Go.ChangeAt Go.RowKit

/-- A number's so many lower bytes, the highest first. -/
def be : Nat → Nat → List Nat
  | 0, _ => []
  | k + 1, n => n / 256 ^ k % 256 :: be k n
theorem be_len (k n : Nat) : (be k n).length = k := by induction k with
  | zero => rfl
  | succ k ih => simp [be, ih]
theorem be_by (k n : Nat) : By (be k n) := by induction k with
  | zero => intro x hx; cases hx
  | succ k ih =>
    intro x hx
    rcases List.mem_cons.1 hx with rfl | hx
    · omega
    · exact ih x hx
theorem be_step {c n i : Nat} (hi : i < 8) : (c :: (List.replicate (8 - i) 0 ++ be i n)).set (8 - i) (n / 256 ^ i % 256) = c :: (List.replicate (8 - (i + 1)) 0 ++ be (i + 1) n) := by
  obtain ⟨j, hj⟩ : ∃ j, 8 - i = j + 1 := ⟨7 - i, by omega⟩
  rw [hj, show 8 - (i + 1) = j by omega, List.set_cons_succ, List.replicate_succ', List.append_assoc, List.set_append_right _ _ (by simp), List.length_replicate, Nat.sub_self]
  rfl

theorem zero65 (w : World) : (zeroValue 48).run Try.prog w = .ok (.agg (bv (List.replicate 65 0)).toArray) w := by kernel_rfl

set_option maxRecDepth 20000 in
set_option maxHeartbeats 1600000 in
theorem slotKey_c (w : World) {l m : List Nat} (hl : l.length = 32) (hm : m.length = 32) :
    Calls Try.prog 10 #[.agg (bv l).toArray, .agg (bv m).toArray] w fun e w' => ∃ p, e = .returned (.slice (some ⟨p, 0, none⟩) 65 65) ∧ w.heap.size ≤ p ∧ w'.heap[p]? = some (.cells (bv (111 :: (l ++ m))).toArray 48 (0, 0)) ∧ Fr [] w w' := by
  obtain ⟨z, hz⟩ : ∃ z, z = List.replicate 65 0 := ⟨_, rfl⟩
  have hz65 : ∀ w, (zeroValue 48).run Try.prog w = .ok (.agg (bv z).toArray) w := by rw [hz]; exact zero65
  obtain ⟨W, hW⟩ : ∃ W, W = ((w.alloc (.cells (bv l).toArray 23)).alloc (.cells (bv m).toArray 23)).alloc (.cells (bv z).toArray 48) := ⟨_, rfl⟩
  have F : Hid (Fr [] w W) := hid (by rw [hW]; exact (((Fr.refl _ w).alloc _).alloc _).alloc _)
  have X : Hid (W.heap[w.heap.size]? = some (.cells (bv l).toArray 23 (0, 0))) := hid (by rw [hW, blk_old _ _ (by simp; omega), blk_old _ _ (by simp)]; exact blk_new _ _)
  have V : Hid (W.heap[w.heap.size + 1]? = some (.cells (bv m).toArray 23 (0, 0))) := hid (by rw [hW, blk_old _ _ (by simp)]; exact new_at _ _ (by simp))
  have Y : Hid (W.heap[w.heap.size + 2]? = some (.cells (bv (List.replicate 65 0)).toArray 48 (0, 0))) := hid (by rw [hW, ← hz]; exact new_at _ _ (by simp))
  clear hz
  have hcell : W.cell? ⟨w.heap.size + 2, 0, none⟩ = some (.int .u8 0) := by rw [blk_cell Y.out]; rfl
  have hfz := blk_frozen Y.out 0
  obtain ⟨W1, hW1⟩ : ∃ W1, W1 = W.setCell ⟨w.heap.size + 2, 0, none⟩ (.int .u8 111) := ⟨_, rfl⟩
  have F1 : Hid (Fr [] w W1) := hid (by rw [hW1]; exact F.out.set _ _ (.inr (by omega)))
  have X1 : Hid (W1.drew.heap[w.heap.size]? = some (.cells (bv l).toArray 23 (0, 0))) := hid (by rw [blk_drew, hW1, blk_setne _ _ _ (by omega)]; exact X.out)
  have V1 : Hid (W1.drew.heap[w.heap.size + 1]? = some (.cells (bv m).toArray 23 (0, 0))) := hid (by rw [blk_drew, hW1, blk_setne _ _ _ (by omega)]; exact V.out)
  have Y1 : Hid (W1.drew.heap[w.heap.size + 2]? = some (.cells (bv (111 :: List.replicate 64 0)).toArray 48 (0, 0))) := hid (by
    rw [blk_drew, hW1, blk_set Y.out]; exact congrArg (fun x => some (Obj.cells x 48 (0, 0))) (bv_set _ 0 111))
  have s1 : (Instr.sliceAt 48 (.pointer (some ⟨w.heap.size + 2, 0, none⟩)) (some (.int .i64 1)) none none).run Try.prog W1.drew = .ok (.slice (some ⟨w.heap.size + 2, 1, none⟩) 64 64) W1.drew := slice_from 48 65 alen65 elem65 (by kernel_rfl) W1.drew (w.heap.size + 2) 0 1 (by omega)
  have s2 := slice_all 23 32 alenH elemH (by kernel_rfl) W1.drew w.heap.size 0
  obtain ⟨w2, hcp, x2, f2⟩ := copyB (n := 64) (m := 64) (o := 1) (k := 32) Y1.out (by rw [hl]; exact hl ▸ Rd.blk X1.out (c := 32) (by omega)) (by rw [hl]; rfl) (by rw [bv_len]; simp)
  rw [hl] at hcp
  have G2 : Hid (w2.drew.heap[w.heap.size + 2]? = some (.cells (bv (111 :: (l ++ List.replicate 32 0))).toArray 48 (0, 0))) := hid (by
    rw [blk_drew, x2]
    have e1 : (bv (111 :: List.replicate 64 0)).take 1 = bv [111] := rfl
    have e2 : (bv (111 :: List.replicate 64 0)).drop (1 + 32) = bv (List.replicate 32 0) := rfl
    rw [e1, e2, List.take_of_length_le (by omega), ← bv_append, ← bv_append]; rfl)
  have F2 : Hid (Fr [] w w2) := hid (F1.out.drew.newer f2 (by omega))
  have V2 : Hid (w2.drew.heap[w.heap.size + 1]? = some (.cells (bv m).toArray 23 (0, 0))) := hid (by rw [blk_drew]; exact f2.at V1.out (by simp))
  have s3 : (Instr.sliceAt 48 (.pointer (some ⟨w.heap.size + 2, 0, none⟩)) (some (.int .i64 33)) none none).run Try.prog w2.drew = .ok (.slice (some ⟨w.heap.size + 2, 33, none⟩) 32 32) w2.drew := slice_from 48 65 alen65 elem65 (by kernel_rfl) w2.drew (w.heap.size + 2) 0 33 (by omega)
  have s4 := slice_all 23 32 alenH elemH (by kernel_rfl) w2.drew (w.heap.size + 1) 0
  obtain ⟨w3, hcp3, x3, f3⟩ := copyB (n := 32) (m := 32) (o := 33) (k := 32) G2.out (by rw [hm]; exact hm ▸ Rd.blk V2.out (c := 32) (by omega)) (by rw [hm]; rfl) (by rw [bv_len]; simp [hl])
  rw [hm] at hcp3
  have G3 : Hid (w3.heap[w.heap.size + 2]? = some (.cells (bv (111 :: (l ++ m))).toArray 48 (0, 0))) := hid (by
    rw [x3]
    have e1 : (bv (111 :: (l ++ List.replicate 32 0))).take 33 = bv (111 :: l) := by
      rw [← bv_take]; congr 1; rw [List.take_succ_cons, List.take_append_of_le_length (by omega), List.take_of_length_le (by omega)]
    have e2 : (bv (111 :: (l ++ List.replicate 32 0))).drop (33 + 32) = [] := List.drop_eq_nil_of_le (by rw [bv_len]; simp [hl])
    rw [e1, e2, List.append_nil, List.take_of_length_le (by omega), ← bv_append]; rfl)
  have F3 : Hid (Fr [] w w3) := hid (F2.out.drew.newer f3 (by omega))
  have s5 := slice_all 48 65 alen65 elem65 (by kernel_rfl) w3 (w.heap.size + 2) 0
  clear x2 f2 x3 f3
  go_enter Try.func10, Try.ntmps10
  go_upto_region 2 with fail
  rw [← hW]
  clear hW
  go_upto_region 3 with fail
  rw [← hW1]
  clear hW1
  go_wp2_with fail
  go_region
  go_wp2_with fail
  go_region
  go_wp2
  go_ret
  exact ⟨_, rfl, by omega, G3.out, F3.out⟩

set_option maxRecDepth 20000 in
set_option maxHeartbeats 1600000 in
theorem numberKey_c (w : World) {c n : Nat} (_hn : n < 18446744073709551616) :
    Calls Try.prog 21 #[.int .u8 (c : Int), .int .u64 (n : Int)] w fun e w' => ∃ p, e = .returned (.slice (some ⟨p, 0, none⟩) 9 9) ∧ w.heap.size ≤ p ∧ w'.heap[p]? = some (.cells (bv (c :: be 8 n)).toArray 52 (0, 0)) ∧ Fr [] w w' := by
  obtain ⟨W, hW⟩ : ∃ W, W = w.alloc (.cells #[.int .u8 0, .int .u8 0, .int .u8 0, .int .u8 0, .int .u8 0, .int .u8 0, .int .u8 0, .int .u8 0, .int .u8 0] 52) := ⟨_, rfl⟩
  have F : Hid (Fr [] w W) := hid (by rw [hW]; exact (Fr.refl _ w).alloc _)
  have Y : Hid (W.heap[w.heap.size]? = some (.cells (bv (List.replicate 9 0)).toArray 52 (0, 0))) := hid (by rw [hW]; exact blk_new _ _)
  have hcell : W.cell? ⟨w.heap.size, 0, none⟩ = some (.int .u8 0) := by rw [blk_cell Y.out]; rfl
  have hfz := blk_frozen Y.out 0
  obtain ⟨W1, hW1⟩ : ∃ W1, W1 = W.setCell ⟨w.heap.size, 0, none⟩ (.int .u8 (c : Int)) := ⟨_, rfl⟩
  have F1 : Hid (Fr [] w W1) := hid (by rw [hW1]; exact F.out.set _ _ (.inr (by omega)))
  have Y1 : Hid (W1.heap[w.heap.size]? = some (.cells (bv (c :: List.replicate 8 0)).toArray 52 (0, 0))) := hid (by
    rw [hW1, blk_set Y.out, bv_set]; rfl)
  go_enter Try.func21, Try.ntmps21
  go_upto_region 2 with fail
  rw [← hW]
  clear hW
  go_upto_region 3 with fail
  rw [← hW1]
  clear hW1
  go_wp2_with fail
  go_loopw [9] (fun v9 wr => ∃ i : Nat, i ≤ 8 ∧ v9 = .int .i64 (i : Int) ∧ wr.heap[w.heap.size]? = some (.cells (bv (c :: (List.replicate (8 - i) 0 ++ be i n))).toArray 52 (0, 0)) ∧ Fr [] w wr) (fun v9 _ => 8 - (intOf v9).toNat)
  case atStart => exact ⟨0, by omega, rfl, by simpa [be] using Y1.out, F1.out⟩
  case round =>
    obtain ⟨i, hi, rfl, hY, hF⟩ := hrel
    have HY := hid hY
    have HF := hid hF
    clear hY hF
    by_cases hlt : i < 8
    · have hlen : (c :: (List.replicate (8 - i) 0 ++ be i n)).length = 9 := by simp [be_len]; omega
      obtain ⟨x, hx⟩ : ∃ x, (c :: (List.replicate (8 - i) 0 ++ be i n))[8 - i]? = some x := ⟨_, List.getElem?_eq_getElem (by omega)⟩
      have hcl := blk_cell HY.out (8 - i)
      rw [List.getElem?_toArray, bv_at hx] at hcl
      have hfr := blk_frozen HY.out (8 - i)
      have HV : Hid ((n : Int) / 2 ^ (8 * i) % 256 = ((n / 256 ^ i % 256 : Nat) : Int)) := hid (by
        rw [show ((2 : Int) ^ (8 * i)) = ((256 ^ i : Nat) : Int) by rw [← pow8]; simp]; simp)
      clear hx hlen
      go_wp2
      go_roundw
      case rel =>
        refine ⟨i + 1, by omega, by go_num, ?_, HF.out.set _ _ (.inr (Nat.le_refl _))⟩
        rw [HV.out, blk_set HY.out, bv_set, be_step hlt]
      case measure => simp [intOf]; omega
    · have hi8 : i = 8 := by omega
      subst hi8
      have s5 := slice_all 52 9 alen9 elem9 (by kernel_rfl) wr w.heap.size 0
      go_wp2
      go_ret
      exact ⟨_, rfl, by omega, by simpa using HY.out, HF.out⟩

set_option maxRecDepth 20000 in
theorem rootKey_c (w : World) {n : Nat} (hn : n < 18446744073709551616) :
    Calls Try.prog 11 #[.int .u64 (n : Int)] w fun e w' => ∃ p, e = .returned (.slice (some ⟨p, 0, none⟩) 9 9) ∧ w.heap.size ≤ p ∧ w'.heap[p]? = some (.cells (bv (114 :: be 8 n)).toArray 52 (0, 0)) ∧ Fr [] w w' := by
  have NK := hid (numberKey_c w (c := 114) hn)
  go_enter Try.func11, Try.ntmps11
  go_wp2_with fail
  refine NK.out.mono ?_
  rintro e w1 ⟨p, rfl, h1, h2, h3⟩
  have H2 := hid h2
  have H3 := hid h3
  clear h2 h3
  go_wp2
  go_ret
  exact ⟨p, rfl, h1, H2.out, H3.out⟩
set_option maxRecDepth 20000 in
theorem blockKey_c (w : World) {n : Nat} (hn : n < 18446744073709551616) :
    Calls Try.prog 12 #[.int .u64 (n : Int)] w fun e w' => ∃ p, e = .returned (.slice (some ⟨p, 0, none⟩) 9 9) ∧ w.heap.size ≤ p ∧ w'.heap[p]? = some (.cells (bv (98 :: be 8 n)).toArray 52 (0, 0)) ∧ Fr [] w w' := by
  have NK := hid (numberKey_c w (c := 98) hn)
  go_enter Try.func12, Try.ntmps12
  go_wp2_with fail
  refine NK.out.mono ?_
  rintro e w1 ⟨p, rfl, h1, h2, h3⟩
  have H2 := hid h2
  have H3 := hid h3
  clear h2 h3
  go_wp2
  go_ret
  exact ⟨p, rfl, h1, H2.out, H3.out⟩

set_option maxRecDepth 20000 in
theorem nodeKey_c (w : World) {l : List Nat} (hl : l.length = 32) :
    Calls Try.prog 7 #[.agg (bv l).toArray] w fun e w' => ∃ p, e = .returned (.slice (some ⟨p, 0, none⟩) 33 33) ∧ w.heap.size ≤ p ∧ w'.heap[p]? = some (.cells (bv (110 :: l)).toArray 51 (0, 0)) ∧ Fr [] w w' := by
  obtain ⟨W, hW⟩ : ∃ W, W = w.alloc (.cells (bv l).toArray 23) := ⟨_, rfl⟩
  have F : Hid (Fr [] w W) := hid (by rw [hW]; exact (Fr.refl _ w).alloc _)
  have X : Hid (W.heap[w.heap.size]? = some (.cells (bv l).toArray 23 (0, 0))) := hid (by rw [hW]; exact blk_new _ _)
  have NK := hid (hashKey_c W (c := 110) hl)
  go_enter Try.func7, Try.ntmps7
  go_upto_region 1 with fail
  rw [← hW]
  clear hW
  go_wp2_with (with_reducible (show wpList Try.prog _ _ (_ :: _) _ _); refine wpList_ldH (by kernel_rfl) (.tmp 1) rfl hl X.out rfl ?_)
  refine NK.out.mono ?_
  rintro e w1 ⟨p, rfl, h1, h2, h3⟩
  have H2 := hid h2
  have H3 := hid (F.out.trans h3)
  have H1 := F.out.size
  clear h2 h3
  go_wp2
  go_ret
  exact ⟨p, rfl, by omega, H2.out, H3.out⟩

set_option maxRecDepth 20000 in
theorem codeKey_c (w : World) {l : List Nat} (hl : l.length = 32) :
    Calls Try.prog 8 #[.agg (bv l).toArray] w fun e w' => ∃ p, e = .returned (.slice (some ⟨p, 0, none⟩) 33 33) ∧ w.heap.size ≤ p ∧ w'.heap[p]? = some (.cells (bv (99 :: l)).toArray 51 (0, 0)) ∧ Fr [] w w' := by
  obtain ⟨W, hW⟩ : ∃ W, W = w.alloc (.cells (bv l).toArray 23) := ⟨_, rfl⟩
  have F : Hid (Fr [] w W) := hid (by rw [hW]; exact (Fr.refl _ w).alloc _)
  have X : Hid (W.heap[w.heap.size]? = some (.cells (bv l).toArray 23 (0, 0))) := hid (by rw [hW]; exact blk_new _ _)
  have NK := hid (hashKey_c W (c := 99) hl)
  go_enter Try.func8, Try.ntmps8
  go_upto_region 1 with fail
  rw [← hW]
  clear hW
  go_wp2_with (with_reducible (show wpList Try.prog _ _ (_ :: _) _ _); refine wpList_ldH (by kernel_rfl) (.tmp 1) rfl hl X.out rfl ?_)
  refine NK.out.mono ?_
  rintro e w1 ⟨p, rfl, h1, h2, h3⟩
  have H2 := hid h2
  have H3 := hid (F.out.trans h3)
  have H1 := F.out.size
  clear h2 h3
  go_wp2
  go_ret
  exact ⟨p, rfl, by omega, H2.out, H3.out⟩

set_option maxRecDepth 20000 in
theorem accountKey_c (w : World) {l : List Nat} (hl : l.length = 32) :
    Calls Try.prog 9 #[.agg (bv l).toArray] w fun e w' => ∃ p, e = .returned (.slice (some ⟨p, 0, none⟩) 33 33) ∧ w.heap.size ≤ p ∧ w'.heap[p]? = some (.cells (bv (97 :: l)).toArray 51 (0, 0)) ∧ Fr [] w w' := by
  obtain ⟨W, hW⟩ : ∃ W, W = w.alloc (.cells (bv l).toArray 23) := ⟨_, rfl⟩
  have F : Hid (Fr [] w W) := hid (by rw [hW]; exact (Fr.refl _ w).alloc _)
  have X : Hid (W.heap[w.heap.size]? = some (.cells (bv l).toArray 23 (0, 0))) := hid (by rw [hW]; exact blk_new _ _)
  have NK := hid (hashKey_c W (c := 97) hl)
  go_enter Try.func9, Try.ntmps9
  go_upto_region 1 with fail
  rw [← hW]
  clear hW
  go_wp2_with (with_reducible (show wpList Try.prog _ _ (_ :: _) _ _); refine wpList_ldH (by kernel_rfl) (.tmp 1) rfl hl X.out rfl ?_)
  refine NK.out.mono ?_
  rintro e w1 ⟨p, rfl, h1, h2, h3⟩
  have H2 := hid h2
  have H3 := hid (F.out.trans h3)
  have H1 := F.out.size
  clear h2 h3
  go_wp2
  go_ret
  exact ⟨p, rfl, by omega, H2.out, H3.out⟩
end Go.Proofs.Ytpacijcjcdigmaa
