/-
  What the reference's Unframe answers for a right frame.
-/
import Derived.Test.YtkphfacodacpkaaO
namespace Go.Proofs.Ytkphfacodacpkaa
open Go.ChangeShapes Go.WideShapes Go.ChangeAt Go.RowKit

set_option maxRecDepth 20000 in
set_option maxHeartbeats 800000 in
theorem refunframe_ok (w : World) {v : Value} {b : List Nat} (hr : Rd w v (bv b)) (hb : By b) (hl : 4 ≤ b.length) (hl1 : b.length ≤ 140737488355328) {n k : Nat} (ht : takeL (b.drop 4) = (n, k, 0)) (hn : n ≤ 1048576) (hs0 : 4 + k + n ≤ b.length) (hc : crc ((b.drop (4 + k)).take n) = unf (b.take 4)) :
    Calls Try.prog 26 #[v] w fun e' w' => ∃ v', e' = .returned (.tuple #[v', .int .i64 ((4 + k + n : Nat) : Int), .int .i64 0]) ∧ Rd w' v' (bv ((b.drop (4 + k)).take n)) ∧ Fr [] w w' := by
  obtain ⟨q, off, c, rfl, h1⟩ := hr.place (by omega)
  have HR := hid hr
  have HB := hid hb
  have HT := hid (reftake_t hr hb hl1 4 (by omega) ht)
  have htb := takeL_bound (hb.drop 4) ht
  rw [List.length_drop] at htb
  obtain ⟨hn1, hk1, hk2⟩ := htb
  have hln : ((b.drop (4 + k)).take n).length ≤ 140737488355328 := by rw [List.length_take]; omega
  have hbm : By ((b.drop (4 + k)).take n) := (hb.drop _).take _
  have HU : Hid (∀ m, Calls Try.prog 20 #[.slice (some ⟨q, off, none⟩) b.length c, .int .i64 0, .int .i64 4] (w.drewN m) fun e w' => e = .returned (.int .u64 (unf (b.take 4) : Int)) ∧ w' = w.drewN m) := fun m => by
    have h := refunfixed_c (hr.fr ((Fr.refl _ _).drewN m)) hb 0 4 (by omega) (by omega) hl1
    rw [List.drop_zero] at h
    exact h
  have HM : Hid (∀ m, Calls Try.prog 24 #[.slice (some ⟨q, off + (4 + k), none⟩) n (c - (4 + k))] (w.drewN m) fun e w' => e = .returned (.int .u32 (crc ((b.drop (4 + k)).take n) : Int)) ∧ w' = w.drewN m) := fun m =>
    refsum_c ((hr.mid (i := 4 + k) (n := n) hs0).fr ((Fr.refl _ _).drewN m)) hbm hln
  have H0 : Hid (n = 0 → ∀ m, Calls Try.prog 24 #[.slice (some ⟨q, off, none⟩) n 0] (w.drewN m) fun e w' => e = .returned (.int .u32 (crc ((b.drop (4 + k)).take n) : Int)) ∧ w' = w.drewN m) := fun hn0 m =>
    refsum_c (Rd.none_ (by rw [List.length_take]; omega) hn0) hbm hln
  obtain ⟨s, hs⟩ : ∃ s, s = unf (b.take 4) := ⟨_, rfl⟩
  obtain ⟨y, hy⟩ : ∃ y, y = crc ((b.drop (4 + k)).take n) := ⟨_, rfl⟩
  have hy1 : y < 4294967296 := by rw [hy]; exact crc_lt hbm
  rw [← hs] at HU
  rw [← hy] at HM H0
  have hys : y = s := by rw [hy, hs, hc]
  have HN : Hid (n = 0 → ∀ m, Rd (w.drewN m) (.slice (some ⟨q, off, none⟩) (4 + k + n - (4 + k)) (4 + k - (4 + k))) (bv ((b.drop (4 + k)).take n))) := fun hn0 m => Rd.none_ (by rw [List.length_take]; omega) (by omega)
  have HX : Hid (∀ m, Rd (w.drewN m) (.slice (some ⟨q, off + (4 + k), none⟩) (4 + k + n - (4 + k)) (c - (4 + k))) (bv ((b.drop (4 + k)).take n))) := fun m => by rw [Nat.add_sub_cancel_left]; exact (hr.mid (i := 4 + k) (n := n) hs0).fr ((Fr.refl _ _).drewN m)
  have hcast : ((4 + k + n : Nat) : Int) = 4 + (k : Int) + (n : Int) := by omega
  rw [hcast]
  clear hr hb ht hs hy hc hln hbm hcast
  subst hys
  by_cases hck : c = 4 + k
  · have hn0 : n = 0 := by omega
    have HS0 := hid (H0.out hn0)
    have HN0 := hid (HN.out hn0)
    clear hn0
    subst hck
    go_enter Try.func26, Try.ntmps26
    go_wp2_with fail
    refine HT.out.mono ?_
    rintro e' w1 ⟨rfl, rfl⟩
    go_wp2_with fail
    go_quiet (first | (go_at_call 20; exact Calls.quiet_of_same (HU.out _)) | (go_at_call 24; exact Calls.quiet_of_same (HS0.out _)))
    go_wp2
    go_ret3
    exact ⟨_, rfl, HN0.out _, (Fr.refl _ _).drewN _⟩
  · have hck' : (c == 4 + k) = false := by simpa using hck
    go_enter Try.func26, Try.ntmps26
    go_wp2_with fail
    refine HT.out.mono ?_
    rintro e' w1 ⟨rfl, rfl⟩
    go_wp2_with fail
    go_quiet (first | (go_at_call 20; exact Calls.quiet_of_same (HU.out _)) | (go_at_call 24; exact Calls.quiet_of_same (HM.out _)))
    go_wp2
    go_ret3
    exact ⟨_, rfl, HX.out _, (Fr.refl _ _).drewN _⟩
end Go.Proofs.Ytkphfacodacpkaa
