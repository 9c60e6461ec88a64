/-
  The document's bytes of numbers and words.
-/
import Derived.Test.YtbbaaegfbbjnjaaDoorNc
import Derived.Test.YtbbaaegfbbjnjaaDoorNd
namespace Go.Proofs.YtbbaaegfbbjnjaaDoor
open Go.ChangeShapes Go.WideShapes Go.ChangeAt Go.RowKit

set_option maxRecDepth 20000 in
set_option maxHeartbeats 1600000 in
theorem rword_c (w : World) {l : List Nat} (hl : l.length = 32) (hb : By l) :
    Calls Tryd.prog 9 #[.agg (bv l).toArray] w fun e w' => ∃ v', e = .returned v' ∧ w'.ownsRow w.heap.size 5 1 v' (strL (dropZ l)).length (bv (strL (dropZ l))) ∧ Fr [] w w' := by
  obtain ⟨W, hW⟩ : ∃ W, W = w.alloc (.cells (bv l).toArray 24) := ⟨_, rfl⟩
  have F : Hid (Fr [] w W) := hid (by rw [hW]; exact (Fr.refl _ w).alloc _)
  have X : Hid (W.heap[w.heap.size]? = some (.cells (bv l).toArray 24 (0, 0))) := hid (by rw [hW]; exact blk_new _ _)
  have hsl := slice32 W w.heap.size
  have R0 : Hid (Rd W (.slice (some ⟨w.heap.size, 0, none⟩) 32 32) (bv l)) := hid (by have := Rd.blk X.out (c := 32) (by omega); rw [hl] at this; exact this)
  have HB := hid hb
  have hll : Hid (l.length ≤ 140737488355328) := hid (by omega)
  have HL := hid hl
  have hdl := dropZ_len l
  have HDB := hid (dropZ_by hb)
  clear hb
  go_enter Tryd.func9, Tryd.ntmps9
  go_upto_region 1 with fail
  rw [← hW]
  clear hW
  go_wp2_with (at_builtin; refine wpList_append_nil rfl _ _ rfl rfl (Fr.refl _ W) _ R0.out rfl hll.out ?_; intro v1 w1 o1 f1 _; have O1 := hid o1; have F1 := hid f1; clear o1 f1)
  refine (rdigits_c w1 (Rd.ownB O1.out) HB.out (by rw [HL.out]; omega)).mono ?_
  rintro e w2 ⟨⟨a2, c2, rfl, r2⟩, hw2⟩
  have hw2' := hw2.symm
  clear hw2
  subst hw2'
  have BC := hid (rbytes_c w1 r2 HDB.out (by omega))
  clear r2
  obtain ⟨D, hD⟩ : ∃ D, D = dropZ l := ⟨_, rfl⟩
  rw [← hD] at BC ⊢
  have HD := hid hD
  obtain ⟨L, hL⟩ : ∃ L, L = D.length := ⟨_, rfl⟩
  rw [← hL] at BC ⊢
  clear hL hD
  go_wp2_with fail
  refine BC.out.mono ?_
  rintro e w3 ⟨v3, rfl, o3, f3⟩
  have O3 : Hid (w3.ownsRow w.heap.size 5 1 v3 (strL D).length (bv (strL D))) := hid (ownsRow_base o3 (Nat.le_trans F.out.size F1.out.size))
  have F3 := hid (F.out.trans (F1.out.trans f3))
  clear o3 f3
  go_wp2
  go_ret
  rw [← HD.out]
  exact ⟨v3, rfl, O3.out, F3.out⟩
theorem beL_len : ∀ k n, (beL k n).length = k
  | 0, _ => rfl
  | k + 1, n => by unfold beL; rw [List.length_append, beL_len]; rfl
theorem beL_at : ∀ (k n j : Nat), j < k → (beL k n)[j]? = some (n / 256 ^ (k - 1 - j) % 256)
  | 0, _, _, h => by omega
  | k + 1, n, j, h => by
    unfold beL
    by_cases hj : j < k
    · rw [List.getElem?_append_left (by rw [beL_len]; exact hj), beL_at k (n / 256) j hj, Nat.div_div_eq_div_mul, Nat.mul_comm, ← Nat.pow_succ, show (k - 1 - j).succ = k + 1 - 1 - j by omega]
    · have : j = k := by omega
      subst this
      rw [List.getElem?_append_right (by rw [beL_len]; exact Nat.le_refl _), beL_len, Nat.sub_self, show j + 1 - 1 - j = 0 by omega, Nat.pow_zero, Nat.div_one]; rfl
theorem beL_by : ∀ k n, By (beL k n)
  | 0, _ => fun x hx => by cases hx
  | k + 1, n => (beL_by k _).append fun x hx => by simp at hx; omega

set_option maxRecDepth 20000 in
set_option maxHeartbeats 1600000 in
theorem ruint_c (w : World) (n : Nat) (hn : n < 18446744073709551616) :
    Calls Tryd.prog 8 #[.int .u64 (n : Int)] w fun e w' => ∃ v', e = .returned v' ∧ w'.ownsRow w.heap.size 5 1 v' (strL (digs n)).length (bv (strL (digs n))) ∧ Fr [] w w' := by
  have HDZ : Hid (dropZ (beL 8 n) = digs n) := hid (dropZ_be 8 n (by rw [show (256 : Nat) ^ 8 = 18446744073709551616 from rfl]; exact hn))
  have hdl := digF_len 8 n
  have hdb := digF_by 8 n
  obtain ⟨D, hD⟩ : ∃ D, D = digs n := ⟨_, rfl⟩
  rw [← hD]
  rw [← hD] at HDZ
  have hdl2 : D.length ≤ 8 := by rw [hD]; exact hdl
  have HDB : Hid (By D) := hid (by rw [hD]; exact hdb)
  clear hD hdl hdb
  go_enter Tryd.func8, Tryd.ntmps8
  go_wp2_with fail
  go_loopw [3, 4] (fun v3 v4 wr => ∃ k : Nat, k ≤ 8 ∧ v4 = .int .i64 (7 - (k : Int)) ∧ wr.ownsRow w.heap.size 5 1 v3 k (bv ((beL 8 n).take k)) ∧ Fr [] w wr) (fun _ v4 _ => (intOf v4 + 1).toNat)
  case atStart => exact ⟨0, by omega, rfl, World.ownsRow_nil _ _ _ _, Fr.refl _ _⟩
  case round =>
    obtain ⟨k, hk, rfl, ho, hf⟩ := hrel
    obtain ⟨a3, c3, rfl, _⟩ := ownsRow_slice ho
    have HO := hid ho
    have HF := hid hf
    clear ho hf
    by_cases hk8 : k < 8
    · have hx := beL_at 8 n k hk8
      obtain ⟨x, hxe⟩ : ∃ x, x = n / 256 ^ (8 - 1 - k) % 256 := ⟨_, rfl⟩
      rw [← hxe] at hx
      have hxv : (n : Int) / 2 ^ (8 * (7 - k)) % 256 = (x : Int) := by
        rw [hxe, show (256 : Nat) = 2 ^ 8 from rfl, ← Nat.pow_mul, show 8 - 1 - k = 7 - k by omega]
        push_cast
        rfl
      obtain ⟨W1, hW1⟩ : ∃ W, W = wr.alloc (.cells #[.int .u8 ((n : Int) / 2 ^ (8 * (7 - k)) % 256)] 5) := ⟨_, rfl⟩
      have F1 : Hid (Fr [] w W1) := hid (by rw [hW1]; exact HF.out.alloc _)
      have X1 : Hid (W1.heap[wr.heap.size]? = some (.cells (bv [x]).toArray 5 (0, 0))) := hid (by rw [hW1, hxv]; exact blk_new _ _)
      have hlk : Hid (((beL 8 n).take k).length = k) := hid (by rw [List.length_take, beL_len]; omega)
      have O1 : Hid (W1.ownsRow w.heap.size 5 1 (.slice a3 k c3) ((beL 8 n).take k).length (bv ((beL 8 n).take k))) := hid (by rw [hW1, hlk.out]; exact HO.out.alloc _)
      have R1 : Hid (Rd W1 (.slice (some ⟨wr.heap.size, 0, none⟩) 1 1) (bv [x])) := hid (Rd.blk X1.out (by simp))
      have HT : Hid ((beL 8 n).take k ++ [x] = (beL 8 n).take (k + 1)) := hid (by rw [List.take_add_one, hx]; rfl)
      have hll : Hid (((beL 8 n).take k).length + [x].length ≤ 140737488355328) := hid (by rw [hlk.out]; simp; omega)
      clear hx hxe hxv
      go_wp2_with (at_builtin; rw [← hW1]; refine wpList_append_bv rfl _ _ rfl O1.out rfl F1.out (Nat.le_refl _) F1.out.size _ R1.out rfl hll.out ?_; intro v8 w8 o8 f8; rw [HT.out, hlk.out] at o8; have O8 : Hid (w8.ownsRow w.heap.size 5 1 v8 (k + 1) (bv ((beL 8 n).take (k + 1)))) := hid o8; have F8 := hid f8; clear o8 f8)
      exact ⟨⟨k + 1, by omega, by congr 1; omega, O8.out, F8.out⟩, by simp only [intOf]; omega⟩
    · have hk2 : k = 8 := by omega
      subst hk2
      have RB : Hid (Rd wr (.slice a3 8 c3) (bv (beL 8 n))) := hid (by have := Rd.ownB HO.out; rw [List.take_of_length_le (by rw [beL_len]; exact Nat.le_refl _)] at this; exact this)
      have DC := hid (rdigits_c wr RB.out (beL_by 8 n) (by rw [beL_len]; omega))
      rw [HDZ.out] at DC
      go_wp2_with fail
      refine DC.out.mono ?_
      rintro e w2 ⟨⟨a2, c2, rfl, r2⟩, hw2⟩
      have hw2' := hw2.symm
      clear hw2
      subst hw2'
      have BC := hid (rbytes_c wr r2 HDB.out (by omega))
      clear r2
      obtain ⟨L, hL⟩ : ∃ L, L = D.length := ⟨_, rfl⟩
      rw [← hL] at BC ⊢
      clear hL
      go_wp2_with fail
      refine BC.out.mono ?_
      rintro e w3 ⟨v3, rfl, o3, f3⟩
      have O3 : Hid (w3.ownsRow w.heap.size 5 1 v3 (strL D).length (bv (strL D))) := hid (ownsRow_base o3 HF.out.size)
      have F3 := hid (HF.out.trans f3)
      clear o3 f3
      go_wp2
      go_ret
      exact ⟨v3, rfl, O3.out, F3.out⟩
end Go.Proofs.YtbbaaegfbbjnjaaDoor
