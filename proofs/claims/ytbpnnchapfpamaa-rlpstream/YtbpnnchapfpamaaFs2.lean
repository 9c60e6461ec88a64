/-
  What Decode of package rlp answers, once it is known what First does.
-/
import Derived.Test.YtbpnnchapfpamaaFs
namespace Go.Proofs.Ytbpnnchapfpamaa
open Go.ChangeShapes Go.WideShapes Go.ChangeAt Go.RowKit

/-- What Decode tells. -/
def DecT (B n : Nat) (res : Except Nat (Tr 19 × Nat × Nat)) (r : Ending) (w' : World) : Prop := match res with
  | .error e => r = .returned (.tuple #[.agg #[.bool false, .slice none 0 0, .slice none 0 0], .int .i64 (e : Int)])
  | .ok (t, k, _) => (k < n ∧ r = .returned (.tuple #[.agg #[.bool false, .slice none 0 0, .slice none 0 0], .int .i64 42])) ∨ (n ≤ k ∧ ∃ v, r = .returned (.tuple #[v, .int .i64 0]) ∧ IsF w' B w'.heap.size 19 v t)

theorem fin_zi {w W : World} {N M : Nat} {a b c : Value} {T : TypeId} {n : Nat} {v : Value} {t : Tr n} (hM : w.heap.size ≤ M) (hv : IsF W M W.heap.size n v t) (hN : N < M) (A : Obj) :
    IsF ((((W.setCell ⟨N, 0, none⟩ a).setCell ⟨N, 1, none⟩ b).setCell ⟨N, 2, none⟩ c).alloc A) w.heap.size ((((W.setCell ⟨N, 0, none⟩ a).setCell ⟨N, 1, none⟩ b).setCell ⟨N, 2, none⟩ c).alloc A).heap.size n v t ∧ T = T := by
  refine ⟨(hv.step (w' := ((((W.setCell ⟨N, 0, none⟩ a).setCell ⟨N, 1, none⟩ b).setCell ⟨N, 2, none⟩ c).alloc A)) fun k hk hk2 => ?_).wide (by omega) (by simp [World.setCell]), rfl⟩
  rw [blk_old _ _ (by simpa [World.setCell] using hk2), blk_setne _ _ _ (by omega), blk_setne _ _ _ (by omega), blk_setne _ _ _ (by omega)]

set_option maxRecDepth 20000 in
set_option maxHeartbeats 800000 in
theorem decode_at (w : World) {ao : Option Addr} {n c : Nat} {res : Except Nat (Tr 19 × Nat × Nat)} (h : ∀ w1, Fr [] w w1 → Calls Try.prog 15 #[.slice ao n c] w1 fun r w' => FirstT w1.heap.size res r w' ∧ Fr [] w1 w') (hk : ∀ t k c', res = .ok (t, k, c') → k ≤ 100000) (he : ∀ e, res = .error e → 0 < e ∧ e < 100) :
    Calls Try.prog 12 #[.slice ao n c] w fun r w' => DecT w.heap.size n res r w' ∧ Fr [] w w' := by
  have HH := hid h
  clear h
  have F0 := hid ((Fr.refl [] w).alloc (.cells #[.bool false, .slice none 0 0, .slice none 0 0] 25))
  have HN := hid (blk_new w (.cells #[.bool false, .slice none 0 0, .slice none 0 0] 25))
  rcases res with x | ⟨t, k, c'⟩
  · have hx := he x rfl
    have hz : ((x : Int) == 0) = false := beq_eq_false_iff_ne.2 (by omega)
    unfold DecT
    go_enter Try.func12, Try.ntmps12
    go_wp2_with fail
    refine (HH.out _ F0.out).mono ?_
    rintro r w1 ⟨hT, f1⟩
    obtain rfl : r = _ := hT
    have hbk := f1.at HN.out (by simp)
    have F1 := hid (F0.out.trans f1)
    have hd0 := blk_cell hbk 0
    have hd1 := blk_cell hbk 1
    have hd2 := blk_cell hbk 2
    have hf0 := blk_frozen hbk 0
    have hf1 := blk_frozen hbk 1
    have hf2 := blk_frozen hbk 2
    simp at hd0 hd1 hd2
    have hlt := blk_lt hbk
    have HBK := hid hbk
    clear f1 hbk
    go_wp2
    have K := fin_z (a := .bool false) (b := .slice none 0 0) (c := .slice none 0 0) HBK.out F1.out (Nat.le_refl _)
    exact bodyPost_ret (ret_ct rfl rfl (load_item (by rw [blk_old _ _ (blk_lt K.1)]; exact K.1))) rfl ⟨rfl, K.2.alloc _⟩
  · have hk1 := hk t k c' rfl
    unfold DecT
    by_cases hkn : k < n
    all_goals go_enter Try.func12, Try.ntmps12
    all_goals go_wp2_with fail
    all_goals refine (HH.out _ F0.out).mono ?_
    · rintro r w1 ⟨⟨v, rfl, hv⟩, f1⟩
      obtain ⟨l, a1, n1, c1, a2, n2, c2, rfl⟩ := hv.isV.agg
      have hbk := f1.at HN.out (by simp)
      have F1 := hid (F0.out.trans f1)
      have hd0 := blk_cell hbk 0
      have hd1 := blk_cell hbk 1
      have hd2 := blk_cell hbk 2
      have hf0 := blk_frozen hbk 0
      have hf1 := blk_frozen hbk 1
      have hf2 := blk_frozen hbk 2
      simp at hd0 hd1 hd2
      have hlt := blk_lt hbk
      have HBK := hid hbk
      clear f1 hbk hv
      go_wp2
      have K := fin_z (a := .bool false) (b := .slice none 0 0) (c := .slice none 0 0) HBK.out F1.out (Nat.le_refl _)
      exact bodyPost_ret (ret_ct rfl rfl (load_item (by rw [blk_old _ _ (blk_lt K.1)]; exact K.1))) rfl ⟨.inl ⟨hkn, rfl⟩, K.2.alloc _⟩
    · rintro r w1 ⟨⟨v, rfl, hv⟩, f1⟩
      obtain ⟨l, a1, n1, c1, a2, n2, c2, rfl⟩ := hv.isV.agg
      have hbk := f1.at HN.out (by simp)
      have F1 := hid (F0.out.trans f1)
      have hd0 := blk_cell hbk 0
      have hd1 := blk_cell hbk 1
      have hd2 := blk_cell hbk 2
      have hf0 := blk_frozen hbk 0
      have hf1 := blk_frozen hbk 1
      have hf2 := blk_frozen hbk 2
      simp at hd0 hd1 hd2
      have hlt := blk_lt hbk
      have HBK := hid hbk
      have HV := hid hv
      clear f1 hbk hv
      go_wp2
      have K := fin_z (a := .bool l) (b := .slice a1 n1 c1) (c := .slice a2 n2 c2) HBK.out F1.out (Nat.le_refl _)
      exact bodyPost_ret (ret_ct rfl rfl (load_item (by rw [blk_old _ _ (blk_lt K.1)]; exact K.1))) rfl ⟨.inr ⟨by omega, _, rfl, (fin_zi (w := w) (T := 0) (M := (w.alloc (.cells #[.bool false, .slice none 0 0, .slice none 0 0] 25)).heap.size) (by simp) HV.out (by simp) _).1⟩, K.2.alloc _⟩
end Go.Proofs.Ytbpnnchapfpamaa
