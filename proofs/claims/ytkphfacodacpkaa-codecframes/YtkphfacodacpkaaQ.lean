/-
  What the reference's Frame and Unframe answer.
-/
import Derived.Test.YtkphfacodacpkaaO
namespace Go.Proofs.Ytkphfacodacpkaa
open Go.ChangeShapes Go.WideShapes Go.ChangeAt Go.RowKit

set_option maxHeartbeats 400000 in
theorem summed_c (w : World) {v : Value} {b : List Nat} (hr : Rd w v (bv b)) (hb : By b) (hl : b.length ≤ 140737488355328) :
    Calls Try.prog 36 #[v] w fun e w' => ∃ v', e = .returned v' ∧ w'.ownsRow w.heap.size 5 1 v' 4 (bv (fixL (crc b) 4)) ∧ Fr [] w w' := by
  obtain ⟨a, c, hv⟩ := hr.form
  rw [bv_len] at hv
  subst hv
  have HS := hid (refsum_c hr hb hl)
  have hc := crc_lt hb
  generalize crc b = s at HS hc ⊢
  clear hr hb
  go_enter Try.func36, Try.ntmps36
  go_wp2_with fail
  refine HS.out.mono ?_
  rintro e w1 ⟨rfl, rfl⟩
  go_wp2_with fail
  refine (reffixed_c _ s 4 (by omega) (by omega)).mono ?_
  rintro e w2 ⟨v2, rfl, o2, f2⟩
  go_wp2
  go_ret
  exact ⟨v2, rfl, o2, f2⟩

set_option maxRecDepth 20000 in
set_option maxHeartbeats 800000 in
theorem refframe_ok (w : World) {v : Value} {b : List Nat} (hr : Rd w v (bv b)) (hb : By b) (hl : b.length ≤ 1048576) :
    Calls Try.prog 22 #[v] w fun e w' => ∃ v', e = .returned (.tuple #[v', .int .i64 0]) ∧ w'.ownsRow w.heap.size 5 1 v' (frameL b).length (bv (frameL b)) ∧ Fr [] w w' := by
  obtain ⟨a, c, hv⟩ := hr.form
  rw [bv_len] at hv
  subst hv
  have HR := hid hr
  have HS := hid (summed_c w hr hb (by omega))
  obtain ⟨s, hs⟩ : ∃ s, s = crc b := ⟨_, rfl⟩
  rw [← hs] at HS
  have HC := hid hs
  have hpl := putL_len10 (n := b.length) (by omega)
  have h4 := fixL_len 4 s
  have hl1 : (fixL s 4).length + (putL b.length).length ≤ 140737488355328 := by rw [h4]; omega
  have hl2 : (fixL s 4 ++ putL b.length).length + b.length ≤ 140737488355328 := by rw [List.length_append, h4]; omega
  have H4 := hid h4
  clear hr hb hs h4
  go_enter Try.func22, Try.ntmps22
  go_wp2_with fail
  refine HS.out.mono ?_
  rintro e w1 ⟨v1, rfl, o1, f1⟩
  have O1 : Hid (w1.ownsRow w.heap.size 5 1 v1 (fixL s 4).length (bv (fixL s 4))) := by unfold Hid; rw [H4.out]; exact o1
  have F1 := hid f1
  clear o1 f1
  go_wp2_with fail
  refine (refput_c _ b.length (by omega)).mono ?_
  rintro e w2 ⟨v2, rfl, o2, f2⟩
  obtain ⟨a2, c2, rfl, _⟩ := ownsRow_slice o2
  have R2 := hid (Rd.ownB o2)
  have O2 := hid (ownsRow_fr O1.out f2)
  have F2 := hid (F1.out.trans f2)
  have Q2 := hid (HR.out.fr F2.out)
  clear o2 f2 O1 F1
  go_wp2_with (at_builtin; first | (refine wpList_append_bv rfl _ _ rfl O2.out rfl F2.out (Nat.le_refl _) F2.out.size _ R2.out rfl hl1 ?_; intro v3 w3 o3 f3; rw [← List.length_append] at o3; have O3 := hid o3; have F3 := hid f3; have Q3 := hid (HR.out.fr f3); clear o3 f3) | (refine wpList_append_bv rfl _ _ rfl O3.out rfl F3.out (Nat.le_refl _) F3.out.size _ Q3.out rfl hl2 ?_; intro v4 w4 o4 f4; have O4 := hid o4; have F4 := hid f4; clear o4 f4))
  go_ret2
  refine ⟨v4, rfl, ?_, F4.out⟩
  have := O4.out
  rw [← List.length_append] at this
  unfold frameL
  rw [← HC.out]
  exact this

set_option maxRecDepth 20000 in
set_option maxHeartbeats 800000 in
theorem refunframe_4 (w : World) {v : Value} {b : List Nat} (hr : Rd w v (bv b)) (hl : b.length < 4) :
    Calls Try.prog 26 #[v] w fun e w' => e = .returned (.tuple #[.slice none 0 0, .int .i64 0, .int .i64 20]) ∧ w' = w := by
  obtain ⟨a, c, hv⟩ := hr.form
  rw [bv_len] at hv
  subst hv
  clear hr
  go_enter Try.func26, Try.ntmps26
  go_wp2
  go_ret3
  exact ⟨rfl, rfl⟩

set_option maxRecDepth 20000 in
set_option maxHeartbeats 800000 in
theorem refunframe_e (w : World) {v : Value} {b : List Nat} (hr : Rd w v (bv b)) (hb : By b) (hl : 4 ≤ b.length) (hl1 : b.length ≤ 140737488355328) {n k e : Nat} (ht : takeL (b.drop 4) = (n, k, e)) (he : e ≠ 0) :
    Calls Try.prog 26 #[v] w fun e' w' => e' = .returned (.tuple #[.slice none 0 0, .int .i64 0, .int .i64 (e : Int)]) ∧ w' = w := by
  obtain ⟨q, off, c, rfl, h1⟩ := hr.place (by omega)
  have HR := hid hr
  have HB := hid hb
  have HT := hid (reftake_t hr hb hl1 4 (by omega) ht)
  have htb := takeL_bound (hb.drop 4) ht
  rw [List.length_drop] at htb
  obtain ⟨hn1, hk1, hk2⟩ := htb
  have he' : ((e : Int) == 0) = false := by simp; exact he
  clear hr hb ht he
  go_enter Try.func26, Try.ntmps26
  go_wp2_with fail
  refine HT.out.mono ?_
  rintro e' w1 ⟨rfl, rfl⟩
  go_wp2
  go_ret3
  exact ⟨rfl, rfl⟩

set_option maxRecDepth 20000 in
set_option maxHeartbeats 800000 in
theorem refunframe_big (w : World) {v : Value} {b : List Nat} (hr : Rd w v (bv b)) (hb : By b) (hl : 4 ≤ b.length) (hl1 : b.length ≤ 140737488355328) {n k : Nat} (ht : takeL (b.drop 4) = (n, k, 0)) (hn : 1048576 < n) :
    Calls Try.prog 26 #[v] w fun e' w' => e' = .returned (.tuple #[.slice none 0 0, .int .i64 0, .int .i64 21]) ∧ w' = w := by
  obtain ⟨q, off, c, rfl, h1⟩ := hr.place (by omega)
  have HR := hid hr
  have HB := hid hb
  have HT := hid (reftake_t hr hb hl1 4 (by omega) ht)
  have htb := takeL_bound (hb.drop 4) ht
  rw [List.length_drop] at htb
  obtain ⟨hn1, hk1, hk2⟩ := htb
  clear hr hb ht
  go_enter Try.func26, Try.ntmps26
  go_wp2_with fail
  refine HT.out.mono ?_
  rintro e' w1 ⟨rfl, rfl⟩
  go_wp2
  go_ret3
  exact ⟨rfl, rfl⟩

set_option maxRecDepth 20000 in
set_option maxHeartbeats 800000 in
theorem refunframe_short (w : World) {v : Value} {b : List Nat} (hr : Rd w v (bv b)) (hb : By b) (hl : 4 ≤ b.length) (hl1 : b.length ≤ 140737488355328) {n k : Nat} (ht : takeL (b.drop 4) = (n, k, 0)) (hn : n ≤ 1048576) (hs0 : b.length < 4 + k + n) :
    Calls Try.prog 26 #[v] w fun e' w' => e' = .returned (.tuple #[.slice none 0 0, .int .i64 0, .int .i64 20]) ∧ w' = w := by
  obtain ⟨q, off, c, rfl, h1⟩ := hr.place (by omega)
  have HR := hid hr
  have HB := hid hb
  have HT := hid (reftake_t hr hb hl1 4 (by omega) ht)
  have htb := takeL_bound (hb.drop 4) ht
  rw [List.length_drop] at htb
  obtain ⟨hn1, hk1, hk2⟩ := htb
  clear hr hb ht
  go_enter Try.func26, Try.ntmps26
  go_wp2_with fail
  refine HT.out.mono ?_
  rintro e' w1 ⟨rfl, rfl⟩
  go_wp2
  go_ret3
  exact ⟨rfl, rfl⟩

set_option maxRecDepth 20000 in
set_option maxHeartbeats 800000 in
theorem refunframe_sum (w : World) {v : Value} {b : List Nat} (hr : Rd w v (bv b)) (hb : By b) (hl : 4 ≤ b.length) (hl1 : b.length ≤ 140737488355328) {n k : Nat} (ht : takeL (b.drop 4) = (n, k, 0)) (hn : n ≤ 1048576) (hs0 : 4 + k + n ≤ b.length) (hc : crc ((b.drop (4 + k)).take n) ≠ unf (b.take 4)) :
    Calls Try.prog 26 #[v] w fun e' w' => e' = .returned (.tuple #[.slice none 0 0, .int .i64 0, .int .i64 22]) ∧ Fr [] w w' := by
  obtain ⟨q, off, c, rfl, h1⟩ := hr.place (by omega)
  have HR := hid hr
  have HB := hid hb
  have HT := hid (reftake_t hr hb hl1 4 (by omega) ht)
  have htb := takeL_bound (hb.drop 4) ht
  rw [List.length_drop] at htb
  obtain ⟨hn1, hk1, hk2⟩ := htb
  have hln : ((b.drop (4 + k)).take n).length ≤ 140737488355328 := by rw [List.length_take]; omega
  have hbm : By ((b.drop (4 + k)).take n) := (hb.drop _).take _
  have HU : Hid (∀ m, Calls Try.prog 20 #[.slice (some ⟨q, off, none⟩) b.length c, .int .i64 0, .int .i64 4] (w.drewN m) fun e w' => e = .returned (.int .u64 (unf (b.take 4) : Int)) ∧ w' = w.drewN m) := fun m => by
    have h := refunfixed_c (hr.fr ((Fr.refl _ _).drewN m)) hb 0 4 (by omega) (by omega) hl1
    rw [List.drop_zero] at h
    exact h
  have HM : Hid (∀ m, Calls Try.prog 24 #[.slice (some ⟨q, off + (4 + k), none⟩) n (c - (4 + k))] (w.drewN m) fun e w' => e = .returned (.int .u32 (crc ((b.drop (4 + k)).take n) : Int)) ∧ w' = w.drewN m) := fun m =>
    refsum_c ((hr.mid (i := 4 + k) (n := n) hs0).fr ((Fr.refl _ _).drewN m)) hbm hln
  have H0 : Hid (n = 0 → ∀ m, Calls Try.prog 24 #[.slice (some ⟨q, off, none⟩) n 0] (w.drewN m) fun e w' => e = .returned (.int .u32 (crc ((b.drop (4 + k)).take n) : Int)) ∧ w' = w.drewN m) := fun hn0 m =>
    refsum_c (Rd.none_ (by rw [List.length_take]; omega) hn0) hbm hln
  obtain ⟨s, hs⟩ : ∃ s, s = unf (b.take 4) := ⟨_, rfl⟩
  obtain ⟨y, hy⟩ : ∃ y, y = crc ((b.drop (4 + k)).take n) := ⟨_, rfl⟩
  have hy1 : y < 4294967296 := by rw [hy]; exact crc_lt hbm
  rw [← hs] at HU
  rw [← hy] at HM H0
  have hne : ((s : Int) == (y : Int)) = false := by
    rw [beq_eq_false_iff_ne]
    intro e
    exact hc (by rw [← hy, ← hs]; omega)
  clear hr hb ht hs hy hc hln hbm
  by_cases hck : c = 4 + k
  · have hn0 : n = 0 := by omega
    have HS0 := hid (H0.out hn0)
    clear hn0
    subst hck
    go_enter Try.func26, Try.ntmps26
    go_wp2_with fail
    refine HT.out.mono ?_
    rintro e' w1 ⟨rfl, rfl⟩
    go_wp2_with fail
    go_quiet (first | (go_at_call 20; exact Calls.quiet_of_same (HU.out _)) | (go_at_call 24; exact Calls.quiet_of_same (HS0.out _)))
    go_wp2
    go_ret3
    exact ⟨rfl, (Fr.refl _ _).drewN _⟩
  · have hck' : (c == 4 + k) = false := by simpa using hck
    go_enter Try.func26, Try.ntmps26
    go_wp2_with fail
    refine HT.out.mono ?_
    rintro e' w1 ⟨rfl, rfl⟩
    go_wp2_with fail
    go_quiet (first | (go_at_call 20; exact Calls.quiet_of_same (HU.out _)) | (go_at_call 24; exact Calls.quiet_of_same (HM.out _)))
    go_wp2
    go_ret3
    exact ⟨rfl, (Fr.refl _ _).drewN _⟩
end Go.Proofs.Ytkphfacodacpkaa
