/-
  What Unframe of package codec answers.
-/
import Derived.Test.YtkphfacodacpkabN
namespace Go.Proofs.Ytkphfacodacpkab
open Go.ChangeShapes Go.WideShapes Go.ChangeAt Go.RowKit

theorem Rd.none_ {w : World} {a : Addr} {n c : Nat} {ns : List Nat} (h : ns.length = 0) (hn : n = 0) : Rd w (.slice (some a) n c) (bv ns) := by
  have : ns = [] := List.eq_nil_of_length_eq_zero h
  subst this
  subst hn
  exact .inr ⟨a, c, rfl, Nat.zero_le _, fun j u hj => by simp [bv] at hj⟩
theorem Rd.mid {w : World} {b off c : Nat} {ns : List Nat} (h : Rd w (.slice (some ⟨b, off, none⟩) ns.length c) (bv ns)) {i n : Nat} (hq : i + n ≤ ns.length) : Rd w (.slice (some ⟨b, off + i, none⟩) n (c - i)) (bv ((ns.drop i).take n)) := by
  rcases h with ⟨h, _⟩ | ⟨a, c', h, h4, h5⟩
  · cases h
  · simp only [Value.slice.injEq, Option.some.injEq] at h
    obtain ⟨rfl, _, rfl⟩ := h
    have hl : ((ns.drop i).take n).length = n := by rw [List.length_take, List.length_drop]; omega
    refine .inr ⟨_, _, by rw [bv_len, hl], by rw [bv_len] at h4 ⊢; rw [hl]; omega, fun j u hj => ?_⟩
    rw [bv_take, List.getElem?_take] at hj
    split at hj
    · rw [bv_drop, List.getElem?_drop] at hj
      have := h5 _ _ hj
      rw [Addr.add_lit] at this ⊢
      rw [Nat.add_assoc]; exact this
    · cases hj
theorem takeL_bound {b : List Nat} (hb : By b) {n k e : Nat} (h : takeL b = (n, k, e)) : n < 18446744073709551616 ∧ k ≤ b.length ∧ k ≤ 10 := by
  have := tk_bound b hb 0 0 (by omega) (by simp)
  unfold takeL at h
  rw [h] at this
  exact ⟨this.1, by simpa using this.2.1, this.2.2⟩

set_option maxRecDepth 20000 in
set_option maxHeartbeats 800000 in
theorem unframe_4 (w : World) {v : Value} {b : List Nat} (hr : Rd w v (bv b)) (hl : b.length < 4) :
    Calls Try.prog 12 #[v] w fun e w' => e = .returned (.tuple #[.slice none 0 0, .int .i64 0, .int .i64 20]) ∧ w' = w := by
  obtain ⟨a, c, hv⟩ := hr.form
  rw [bv_len] at hv
  subst hv
  have HR := hid hr
  clear hr
  go_enter Try.func12, Try.ntmps12
  go_wp2_with fail
  refine (unfixed4_short HR.out hl).mono ?_
  rintro e w1 ⟨rfl, rfl⟩
  go_wp2
  go_ret3
  exact ⟨rfl, rfl⟩

set_option maxRecDepth 20000 in
set_option maxHeartbeats 800000 in
theorem unframe_e (w : World) {v : Value} {b : List Nat} (hr : Rd w v (bv b)) (hb : By b) (hl : 4 ≤ b.length) (hl1 : b.length ≤ 140737488355328) {n k e : Nat} (ht : takeL (b.drop 4) = (n, k, e)) (he : e ≠ 0) :
    Calls Try.prog 12 #[v] w fun e' w' => e' = .returned (.tuple #[.slice none 0 0, .int .i64 0, .int .i64 (e : Int)]) ∧ w' = w := by
  obtain ⟨q, off, c, rfl, h1⟩ := hr.place (by omega)
  have HR := hid hr
  have HB := hid hb
  have HT := hid ht
  have HR4 := hid (hr.back (q := 4) hl)
  have he' : ((e : Int) == 0) = false := by simp; exact he
  obtain ⟨s, hs⟩ : ∃ s, s = unf (b.take 4) := ⟨_, rfl⟩
  have HS := hid hs
  clear hr hb ht he hs
  go_enter Try.func12, Try.ntmps12
  go_wp2_with fail
  refine (unfixed4_c HR.out HB.out hl hl1).mono ?_
  rintro e w1 ⟨rfl, rfl⟩
  rw [← HS.out]
  go_wp2_with fail
  · have hz : b.length - 4 = 0 := by omega
    have R0 : Hid (Rd w1 (.slice (some ⟨q, off, none⟩) (b.length - 4) 0) (bv (b.drop 4))) := Rd.none_ (by rw [List.length_drop]; omega) hz
    refine (take_t R0.out (HB.out.drop 4) (by rw [List.length_drop]; omega) HT.out).mono ?_
    rintro e' w2 ⟨rfl, rfl⟩
    go_wp2
    go_ret3
    exact ⟨rfl, rfl⟩
  · refine (take_t HR4.out (HB.out.drop 4) (by rw [List.length_drop]; omega) HT.out).mono ?_
    rintro e' w2 ⟨rfl, rfl⟩
    go_wp2
    go_ret3
    exact ⟨rfl, rfl⟩

theorem tk_pos : ∀ (b : List Nat) (i v n k : Nat), tk i v b = (n, k, 0) → 0 < k
  | [], i, v, n, k, h => by simp [tk] at h
  | x :: r, i, v, n, k, h => by
    unfold tk at h
    split at h
    · simp at h
    · split at h
      · simp at h; omega
      · exact tk_pos r _ _ _ _ h
theorem takeL_pos {b : List Nat} {n k : Nat} (h : takeL b = (n, k, 0)) : 0 < k := tk_pos b 0 0 n k h

set_option maxRecDepth 20000 in
set_option maxHeartbeats 800000 in
theorem unframe_big (w : World) {v : Value} {b : List Nat} (hr : Rd w v (bv b)) (hb : By b) (hl : 4 ≤ b.length) (hl1 : b.length ≤ 140737488355328) {n k : Nat} (ht : takeL (b.drop 4) = (n, k, 0)) (hn : 1048576 < n) :
    Calls Try.prog 12 #[v] w fun e' w' => e' = .returned (.tuple #[.slice none 0 0, .int .i64 0, .int .i64 21]) ∧ w' = w := by
  obtain ⟨q, off, c, rfl, h1⟩ := hr.place (by omega)
  have HR := hid hr
  have HB := hid hb
  have HT := hid ht
  have HR4 := hid (hr.back (q := 4) hl)
  obtain ⟨s, hs⟩ : ∃ s, s = unf (b.take 4) := ⟨_, rfl⟩
  have HS := hid hs
  have htb := takeL_bound (hb.drop 4) ht
  rw [List.length_drop] at htb
  obtain ⟨hn1, hk1, hk2⟩ := htb
  have hk0 : 0 < k := takeL_pos ht
  have hc4 : (c == 4) = false := by simp; omega
  have hc4' : c ≠ 4 := by omega
  clear hr hb ht hs
  go_enter Try.func12, Try.ntmps12
  go_wp2_with fail
  refine (unfixed4_c HR.out HB.out hl hl1).mono ?_
  rintro e w1 ⟨rfl, rfl⟩
  rw [← HS.out]
  go_wp2_with fail
  refine (take_t HR4.out (HB.out.drop 4) (by rw [List.length_drop]; omega) HT.out).mono ?_
  rintro e' w2 ⟨rfl, rfl⟩
  go_wp2
  go_ret3
  exact ⟨rfl, rfl⟩

set_option maxRecDepth 20000 in
set_option maxHeartbeats 800000 in
theorem unframe_short (w : World) {v : Value} {b : List Nat} (hr : Rd w v (bv b)) (hb : By b) (hl : 4 ≤ b.length) (hl1 : b.length ≤ 140737488355328) {n k : Nat} (ht : takeL (b.drop 4) = (n, k, 0)) (hn : n ≤ 1048576) (hs0 : b.length < 4 + k + n) :
    Calls Try.prog 12 #[v] w fun e' w' => e' = .returned (.tuple #[.slice none 0 0, .int .i64 0, .int .i64 20]) ∧ w' = w := by
  obtain ⟨q, off, c, rfl, h1⟩ := hr.place (by omega)
  have HR := hid hr
  have HB := hid hb
  have HT := hid ht
  have HR4 := hid (hr.back (q := 4) hl)
  obtain ⟨s, hs⟩ : ∃ s, s = unf (b.take 4) := ⟨_, rfl⟩
  have HS := hid hs
  have htb := takeL_bound (hb.drop 4) ht
  rw [List.length_drop] at htb
  obtain ⟨hn1, hk1, hk2⟩ := htb
  have hk0 : 0 < k := takeL_pos ht
  have hc4 : (c == 4) = false := by simp; omega
  have hc4' : c ≠ 4 := by omega
  clear hr hb ht hs
  go_enter Try.func12, Try.ntmps12
  go_wp2_with fail
  refine (unfixed4_c HR.out HB.out hl hl1).mono ?_
  rintro e w1 ⟨rfl, rfl⟩
  rw [← HS.out]
  go_wp2_with fail
  refine (take_t HR4.out (HB.out.drop 4) (by rw [List.length_drop]; omega) HT.out).mono ?_
  rintro e' w2 ⟨rfl, rfl⟩
  go_wp2
  go_ret3
  exact ⟨rfl, rfl⟩

set_option maxRecDepth 20000 in
set_option maxHeartbeats 800000 in
theorem unframe_sum (w : World) {v : Value} {b : List Nat} (hr : Rd w v (bv b)) (hb : By b) (hl : 4 ≤ b.length) (hl1 : b.length ≤ 140737488355328) {n k : Nat} (ht : takeL (b.drop 4) = (n, k, 0)) (hn : n ≤ 1048576) (hs0 : 4 + k + n ≤ b.length) (hc : crc ((b.drop (4 + k)).take n) ≠ unf (b.take 4)) :
    Calls Try.prog 12 #[v] w fun e' w' => e' = .returned (.tuple #[.slice none 0 0, .int .i64 0, .int .i64 22]) ∧ w' = w := by
  obtain ⟨q, off, c, rfl, h1⟩ := hr.place (by omega)
  have HR := hid hr
  have HB := hid hb
  have HT := hid ht
  have HR4 := hid (hr.back (q := 4) hl)
  obtain ⟨s, hs⟩ : ∃ s, s = unf (b.take 4) := ⟨_, rfl⟩
  have HS := hid hs
  have htb := takeL_bound (hb.drop 4) ht
  rw [List.length_drop] at htb
  obtain ⟨hn1, hk1, hk2⟩ := htb
  have hk0 : 0 < k := takeL_pos ht
  have hc4 : (c == 4) = false := by simp; omega
  have hc4' : c ≠ 4 := by omega
  have HM := hid (hr.mid (i := 4 + k) (n := n) hs0)
  obtain ⟨y, hy⟩ : ∃ y, y = crc ((b.drop (4 + k)).take n) := ⟨_, rfl⟩
  have HY := hid hy
  have hne : ((y : Int) == (s : Int)) = false := by
    rw [beq_eq_false_iff_ne]
    intro e
    exact hc (by rw [← hy, ← hs]; omega)
  clear hr hb ht hs hy hc
  go_enter Try.func12, Try.ntmps12
  go_wp2_with fail
  refine (unfixed4_c HR.out HB.out hl hl1).mono ?_
  rintro e w1 ⟨rfl, rfl⟩
  rw [← HS.out]
  go_wp2_with fail
  refine (take_t HR4.out (HB.out.drop 4) (by rw [List.length_drop]; omega) HT.out).mono ?_
  rintro e' w2 ⟨rfl, rfl⟩
  go_wp2_with fail
  · have hn0 : n = 0 := by omega
    have R0 : Hid (Rd w2 (.slice (some ⟨q, off, none⟩) n 0) (bv ((b.drop (4 + k)).take n))) := Rd.none_ (by rw [List.length_take]; omega) hn0
    refine (sum_c R0.out ((HB.out.drop _).take _) (by rw [List.length_take]; omega)).mono ?_
    rintro e3 w3 ⟨rfl, rfl⟩
    rw [← HY.out]
    go_wp2
    go_ret3
    exact ⟨rfl, rfl⟩
  · refine (sum_c HM.out ((HB.out.drop _).take _) (by rw [List.length_take]; omega)).mono ?_
    rintro e3 w3 ⟨rfl, rfl⟩
    rw [← HY.out]
    go_wp2
    go_ret3
    exact ⟨rfl, rfl⟩

set_option maxRecDepth 20000 in
set_option maxHeartbeats 800000 in
theorem unframe_ok (w : World) {v : Value} {b : List Nat} (hr : Rd w v (bv b)) (hb : By b) (hl : 4 ≤ b.length) (hl1 : b.length ≤ 140737488355328) {n k : Nat} (ht : takeL (b.drop 4) = (n, k, 0)) (hn : n ≤ 1048576) (hs0 : 4 + k + n ≤ b.length) (hc : crc ((b.drop (4 + k)).take n) = unf (b.take 4)) :
    Calls Try.prog 12 #[v] w fun e' w' => ∃ v', e' = .returned (.tuple #[v', .int .i64 ((4 + k + n : Nat) : Int), .int .i64 0]) ∧ w'.ownsRow w.heap.size 5 1 v' n (bv ((b.drop (4 + k)).take n)) ∧ Fr [] w w' := by
  obtain ⟨q, off, c, rfl, h1⟩ := hr.place (by omega)
  have HR := hid hr
  have HB := hid hb
  have HT := hid ht
  have HR4 := hid (hr.back (q := 4) hl)
  obtain ⟨s, hs⟩ : ∃ s, s = unf (b.take 4) := ⟨_, rfl⟩
  have HS := hid hs
  have htb := takeL_bound (hb.drop 4) ht
  rw [List.length_drop] at htb
  obtain ⟨hn1, hk1, hk2⟩ := htb
  have hk0 : 0 < k := takeL_pos ht
  have hc4 : (c == 4) = false := by simp; omega
  have hc4' : c ≠ 4 := by omega
  have HM := hid (hr.mid (i := 4 + k) (n := n) hs0)
  obtain ⟨y, hy⟩ : ∃ y, y = crc ((b.drop (4 + k)).take n) := ⟨_, rfl⟩
  have HY := hid hy
  have hys : y = s := by rw [hy, hs, hc]
  have hln : ((b.drop (4 + k)).take n).length = n := by rw [List.length_take, List.length_drop]; omega
  have HLN := hid hln
  have hcast : ((4 + k + n : Nat) : Int) = 4 + (k : Int) + (n : Int) := by omega
  rw [hcast]
  clear hr hb ht hs hy hc hln hcast
  subst hys
  go_enter Try.func12, Try.ntmps12
  go_wp2_with fail
  refine (unfixed4_c HR.out HB.out hl hl1).mono ?_
  rintro e w1 ⟨rfl, rfl⟩
  rw [← HS.out]
  go_wp2_with fail
  refine (take_t HR4.out (HB.out.drop 4) (by rw [List.length_drop]; omega) HT.out).mono ?_
  rintro e' w2 ⟨rfl, rfl⟩
  go_wp2_with fail
  · have hn0 : n = 0 := by omega
    have R0 : Hid (Rd w2 (.slice (some ⟨q, off, none⟩) n 0) (bv ((b.drop (4 + k)).take n))) := Rd.none_ (by rw [List.length_take]; omega) hn0
    clear hn0
    refine (sum_c R0.out ((HB.out.drop _).take _) (by rw [List.length_take]; omega)).mono ?_
    rintro e3 w3 ⟨rfl, rfl⟩
    rw [← HY.out]
    go_wp2_with fail
    refine (clone_c R0.out (by rw [HLN.out]; omega)).mono ?_
    rintro e4 w4 ⟨v4, rfl, o4, f4⟩
    rw [HLN.out] at o4
    have O4 := hid o4
    have F4 := hid f4
    clear o4 f4
    go_wp2
    go_ret3
    exact ⟨v4, rfl, O4.out, F4.out⟩
  · refine (sum_c HM.out ((HB.out.drop _).take _) (by rw [List.length_take]; omega)).mono ?_
    rintro e3 w3 ⟨rfl, rfl⟩
    rw [← HY.out]
    go_wp2_with fail
    refine (clone_c HM.out (by rw [HLN.out]; omega)).mono ?_
    rintro e4 w4 ⟨v4, rfl, o4, f4⟩
    rw [HLN.out] at o4
    have O4 := hid o4
    have F4 := hid f4
    clear o4 f4
    go_wp2
    go_ret3
    exact ⟨v4, rfl, O4.out, F4.out⟩
end Go.Proofs.Ytkphfacodacpkab
