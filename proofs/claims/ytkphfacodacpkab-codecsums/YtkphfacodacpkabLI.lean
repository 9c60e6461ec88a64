/-
  The walk of CodecSums where one of the rows is empty.
-/
import Derived.Test.YtkphfacodacpkabLH
import Derived.Test.YtkphfacodacpkabJ
namespace Go.Proofs.Ytkphfacodacpkab
open Go.ChangeShapes Go.WideShapes Go.ChangeAt Go.RowKit

theorem crc_nil : crc [] = 0 := by decide +kernel

set_option maxRecDepth 20000 in
set_option maxHeartbeats 800000 in
theorem sums_zero (w : World) (a1 a2 a3 : Option Addr) (l1 l2 l3 c1 c2 c3 : Nat) (hn : min3 l1 l2 l3 = 0) (_g1 : l1 ≤ c1) (_g2 : l2 ≤ c2) (_g3 : l3 ≤ c3)
    (s1 : ∀ w : World, Rd w (.slice a1 0 c1) (bv [])) (s2 : ∀ w : World, Rd w (.slice a2 0 c2) (bv [])) (s3 : ∀ w : World, Rd w (.slice a3 0 c3) (bv [])) :
    Calls Try.prog 3 #[.slice a1 l1 c1, .slice a2 l2 c2, .slice a3 l3 c3] w fun e w' => e = .returned (.bool true) ∧ Fr [] w w' := by
  have hmn := fun (w' : World) ts t => run_min3n (P := Try.prog) w' ts t l1 l2 l3
  rw [hn] at hmn
  have S : Hid (∀ (w : World) (v : Value), Rd w v (bv []) → Calls Try.prog 7 #[v] w fun e w' => e = .returned (.int .u32 0) ∧ w' = w) := fun w v h => by
    have := sum_c h (fun _ h => by simp at h) (by simp)
    rw [crc_nil] at this
    exact this
  have S1 := hid s1
  have S2 := hid s2
  have S3 := hid s3
  clear s1 s2 s3 hn
  go_enter Try.func3, Try.ntmps3
  go_wp2_with fail
  refine (known_c w).mono ?_
  rintro e w1 ⟨rfl, f1⟩
  have F1 := hid f1
  clear f1
  go_wp2_with fail
  refine wp_loop_rounds 1 ?_
  rw [rounds_succ]
  go_wp2_with fail
  go_quiet (first | (go_at_call_of 7 (Value.slice none 0 0); exact Calls.quiet_of_same (S.out _ _ (.inl ⟨rfl, rfl⟩))) | (go_at_call_of 7 (Value.slice a1 0 c1); exact Calls.quiet_of_same (S.out _ _ (S1.out _))) | (go_at_call_of 7 (Value.slice a2 0 c2); exact Calls.quiet_of_same (S.out _ _ (S2.out _))) | (go_at_call_of 7 (Value.slice a3 0 c3); exact Calls.quiet_of_same (S.out _ _ (S3.out _))))
  go_wp2
  go_ret
  exact ⟨by simp [show bits .xor .u32 0 0 = 0 from by decide], F1.out.drewN _⟩

/-- What can be read has an empty beginning. -/
theorem Rd.shape {w : World} {v : Value} {a : List Nat} (h : Rd w v (bv a)) : ∃ ao c, v = .slice ao a.length c ∧ a.length ≤ c ∧ ∀ w' : World, Rd w' (.slice ao 0 c) (bv []) := by
  rcases h with ⟨rfl, h⟩ | ⟨ad, c, rfl, h4, _⟩
  · have : a = [] := by simpa [bv] using h
    subst this
    exact ⟨none, 0, rfl, Nat.le_refl _, fun w' => .inl ⟨rfl, rfl⟩⟩
  · rw [bv_len] at h4
    exact ⟨some ad, c, by rw [bv_len], h4, fun w' => .inr ⟨ad, c, rfl, Nat.zero_le _, fun j u hj => by simp [bv] at hj⟩⟩

theorem sums_c (w : World) {v1 v2 v3 : Value} {a b c : List Nat} (h1 : Rd w v1 (bv a)) (ha : By a) (hl1 : a.length ≤ 140737488355328) (h2 : Rd w v2 (bv b)) (hb : By b) (hl2 : b.length ≤ 140737488355328) (h3 : Rd w v3 (bv c)) (hc : By c) (hl3 : c.length ≤ 140737488355328) :
    Calls Try.prog 3 #[v1, v2, v3] w fun e w' => e = .returned (.bool true) ∧ Fr [] w w' := by
  by_cases hbig : 2000 < min3 a.length b.length c.length
  · obtain ⟨a1, c1, rfl, _, _⟩ := h1.shape
    obtain ⟨a2, c2, rfl, _, _⟩ := h2.shape
    obtain ⟨a3, c3, rfl, _, _⟩ := h3.shape
    exact sums_big w a1 a2 a3 _ _ _ c1 c2 c3 hbig
  by_cases hz : min3 a.length b.length c.length = 0
  · obtain ⟨a1, c1, rfl, g1, s1⟩ := h1.shape
    obtain ⟨a2, c2, rfl, g2, s2⟩ := h2.shape
    obtain ⟨a3, c3, rfl, g3, s3⟩ := h3.shape
    exact sums_zero w a1 a2 a3 _ _ _ c1 c2 c3 hz g1 g2 g3 s1 s2 s3
  · obtain ⟨n1, n2, n3⟩ := min3_le a.length b.length c.length
    obtain ⟨q1, o1, c1, rfl, g1⟩ := h1.place (by omega)
    obtain ⟨q2, o2, c2, rfl, g2⟩ := h2.place (by omega)
    obtain ⟨q3, o3, c3, rfl, g3⟩ := h3.place (by omega)
    exact sums_pos w h1 ha hl1 g1 h2 hb hl2 g2 h3 hc hl3 g3 (by omega)
end Go.Proofs.Ytkphfacodacpkab
