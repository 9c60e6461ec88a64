/-
  Pieces of a file: their sums, their places.
-/
import Derived.Test.YtobdegmlijnogaaJ12
import Derived.Test.YtobdegmlijnogaaJ02
namespace Go.Proofs.Ytobdegmlijnogaa
open Go.ChangeShapes Go.WideShapes Go.ChangeAt Go.RowKit

theorem Rd.win {w : World} {q o c : Nat} {b : List Nat} (h : Rd w (.slice (some ⟨q, o, none⟩) b.length c) (bv b)) {t n : Nat} (ht : t + n ≤ b.length) : Rd w (.slice (some ⟨q, o + t, none⟩) n (c - t)) (bv (wn b t n)) := by
  have h1 := h.back (q := t) (by omega)
  rw [← List.length_drop] at h1
  exact h1.front (q := n) (by rw [List.length_drop]; omega)
theorem Rd.cap {w : World} {q o c : Nat} {b : List Nat} (h : Rd w (.slice (some ⟨q, o, none⟩) b.length c) (bv b)) : b.length ≤ c := by
  rcases h with ⟨e, _⟩ | ⟨a, c', e, h4, _⟩
  · simp at e
  · simp only [Value.slice.injEq] at e
    rw [bv_len] at h4; omega
theorem bool_of (P : Prop) : ∃ x : Bool, x = true ↔ P := by
  by_cases h : P
  · exact ⟨true, fun _ => h, fun _ => rfl⟩
  · exact ⟨false, Iff.intro (fun e => Bool.noConfusion e) (fun e => absurd e h)⟩
set_option maxRecDepth 20000 in
set_option maxHeartbeats 1600000 in
theorem unsealed_c (w : World) {q o c : Nat} {b : List Nat} (hr : Rd w (.slice (some ⟨q, o, none⟩) b.length c) (bv b)) (hb : By b) (hl : b.length ≤ 1000000000) (t n : Nat) (ht : t + n + 4 ≤ b.length) (x : Bool) (hx : x = true ↔ SumAt b t n) :
    Calls Try.prog 29 #[.slice (some ⟨q, o, none⟩) b.length c, .agg #[.int .u64 (t : Int), .int .u64 (n : Int)]] w fun e w' => e = .returned (.tuple #[.slice (some ⟨q, o + t, none⟩) n (c - t), .bool x]) ∧ Fr [] w w' := by
  have HX := hid hx
  clear hx
  have hc := hr.cap
  have HR := hid hr
  have HB := hid hb
  clear hr hb
  obtain ⟨W0, hW0⟩ : ∃ W0, W0 = w.alloc (.cells #[.int .u64 (t : Int), .int .u64 (n : Int)] 64) := ⟨_, rfl⟩
  have F0 : Hid (Fr [] w W0) := hid (by rw [hW0]; exact (Fr.refl _ _).alloc _)
  have R1 := hid ((HR.out.fr F0.out).win (t := t) (n := n) (by omega))
  have R2 : Hid (Rd W0 (.slice (some ⟨q, o + (t + n), none⟩) (b.length - (t + n)) (c - (t + n))) (bv (b.drop (t + n)))) := hid ((HR.out.fr F0.out).back (by omega))
  have U4 := hid (unfixed4_c R2.out (HB.out.drop _) (by rw [List.length_drop]; omega) (by rw [List.length_drop]; omega))
  have S4 := hid (sum_c R1.out (wn_by HB.out t n) (by rw [wn_len (by omega)]; omega))
  have HS : Hid (unf ((b.drop (t + n)).take 4) = crc (wn b t n) ↔ SumAt b t n) := hid Iff.rfl
  rw [← HS.out] at HX
  clear HS
  generalize unf ((b.drop (t + n)).take 4) = x4 at *
  generalize crc (wn b t n) = y4 at *
  generalize b.length = L at *
  have h1 : ¬ c = t := by omega
  have h2 : ¬ c = t + n := by omega
  by_cases hxy : x4 = y4
  · have hx' : ((x4 : Int) == (y4 : Int)) = true := by rw [hxy]; simp
    have hxt : x = true := HX.out.2 hxy
    subst hxt
    clear hxy HX
    go_enter Try.func29, Try.ntmps29
    go_wp2_with (first
      | (go_at_call 60; rw [← hW0]; clear hW0; refine U4.out.mono ?_; rintro e w1 ⟨rfl, h⟩; rw [h]; clear h)
      | (go_at_call 56; refine S4.out.mono ?_; rintro e w1 ⟨rfl, h⟩; rw [h]; clear h))
    go_ret2
    exact ⟨rfl, F0.out⟩
  · have hx' : ((x4 : Int) == (y4 : Int)) = false := by rw [beq_eq_false_iff_ne]; omega
    have hxt : x = false := by rcases x with _ | _; rfl; exact absurd (HX.out.1 rfl) hxy
    subst hxt
    clear hxy HX
    go_enter Try.func29, Try.ntmps29
    go_wp2_with (first
      | (go_at_call 60; rw [← hW0]; clear hW0; refine U4.out.mono ?_; rintro e w1 ⟨rfl, h⟩; rw [h]; clear h)
      | (go_at_call 56; refine S4.out.mono ?_; rintro e w1 ⟨rfl, h⟩; rw [h]; clear h))
    go_ret2
    exact ⟨rfl, F0.out⟩

set_option maxRecDepth 20000 in
set_option maxHeartbeats 1600000 in
theorem pieceAt_c (w : World) {q o c : Nat} {b : List Nat} (hr : Rd w (.slice (some ⟨q, o, none⟩) b.length c) (bv b)) (hb : By b) (hl : b.length ≤ 1000000000) (h16 : 16 ≤ b.length) :
    Calls Try.prog 58 #[.slice (some ⟨q, o, none⟩) b.length c] w fun e w' => e = .returned (.agg #[.int .u64 (n8 b 0 : Int), .int .u64 (n8 b 8 : Int)]) ∧ Fr [] w w' := by
  have hc := hr.cap
  obtain ⟨W0, hW0⟩ : ∃ W0, W0 = w.alloc (.cells #[.int .u64 0, .int .u64 0] 64) := ⟨_, rfl⟩
  have F0 : Hid (Fr [] w W0) := hid (by rw [hW0]; exact (Fr.refl _ _).alloc _)
  have N0 : Hid (W0.heap[w.heap.size]? = some (.cells #[.int .u64 0, .int .u64 0] 64 (0, 0))) := hid (by rw [hW0]; exact blk_new _ _)
  have U1 := hid (unfixed8_c (hr.fr F0.out) hb (by omega) (by omega))
  have U2 := hid (unfixed8_c ((hr.fr F0.out).back (q := 8) (by omega)) (hb.drop _) (by rw [List.length_drop]; omega) (by rw [List.length_drop]; omega))
  have e0 : unf (b.take 8) = n8 b 0 := rfl
  have e8 : unf ((b.drop 8).take 8) = n8 b 8 := rfl
  rw [e0] at U1
  rw [e8] at U2
  clear hr hb e0 e8
  generalize n8 b 0 = x0 at *
  generalize n8 b 8 = x8 at *
  generalize b.length = L at *
  have h1 : ¬ c = 8 := by omega
  go_enter Try.func58, Try.ntmps58
  go_wp2_with (first
    | (go_at_call 77; have zz := Z1; clear zz; refine U2.out.mono ?_; rintro e w1 ⟨rfl, h⟩; rw [h]; clear h)
    | (go_at_call 77; rw [← hW0]; clear hW0; have Z1 := N0.out; have z0 := (show W0.cell? ⟨w.heap.size, 0, none⟩ = some (.int .u64 0) from (by rw [blk_cell Z1]; rfl)); have z1 := (show W0.cell? ⟨w.heap.size, 1, none⟩ = some (.int .u64 0) from (by rw [blk_cell Z1]; rfl)); have zf := blk_frozen Z1; refine U1.out.mono ?_; rintro e w1 ⟨rfl, h⟩; rw [h]; clear h))
  refine bodyPost_ret (v := .agg #[.int .u64 (x0 : Int), .int .u64 (x8 : Int)]) (results_cell_row rfl _ _ w.heap.size 64 _ (0, 0) _ (by simp) (by rw [blk_set (blk_set N0.out 0 _) 1 _]; rfl) Try.underlying64 rfl sizePc) rfl ?_
  exact ⟨rfl, (F0.out.set _ _ (.inr (Nat.le_refl _))).set _ _ (.inr (Nat.le_refl _))⟩
set_option maxRecDepth 20000 in
set_option maxHeartbeats 1600000 in
theorem reaches_c (w : World) (a n x : Nat) (ha : a < 18446744073709551616) (hn : n < 18446744073709551616) (hx : x < 18446744073709551616) (y : Bool) (hy : y = true ↔ a + n + 4 = x) :
    Calls Try.prog 59 #[.agg #[.int .u64 (a : Int), .int .u64 (n : Int)], .int .u64 (x : Int)] w fun e w' => e = .returned (.bool y) ∧ Fr [] w w' := by
  have w1 : a ≤ x → IntKind.u64.wrap ((x : Int) - (a : Int)) = (x : Int) - (a : Int) := fun h => by rw [IntKind.wrap_u64]; omega
  have w2 : a ≤ x → 4 ≤ x - a → IntKind.u64.wrap ((x : Int) - (a : Int) - 4) = (x : Int) - (a : Int) - 4 := fun h h' => by rw [IntKind.wrap_u64]; omega
  by_cases h1 : a ≤ x
  · have w1' := w1 h1
    have h1' : (a : Int) ≤ (x : Int) := by omega
    by_cases h2 : 4 ≤ x - a
    · have w2' := w2 h1 h2
      have h2' : (4 : Int) ≤ (x : Int) - (a : Int) := by omega
      by_cases h3 : n = x - a - 4
      · have h3' : ((n : Int) == (x : Int) - (a : Int) - 4) = true := by rw [beq_iff_eq]; omega
        have hyt : y = true := hy.2 (by omega)
        subst hyt
        clear h3 w1 w2 hy
        go_enter Try.func59, Try.ntmps59
        go_wp2
        go_ret
        exact ⟨rfl, (Fr.refl _ _).alloc _⟩
      · have h3' : ((n : Int) == (x : Int) - (a : Int) - 4) = false := by rw [beq_eq_false_iff_ne]; omega
        have hyt : y = false := by rcases y with _ | _; rfl; have := hy.1 rfl; omega
        subst hyt
        clear h3 w1 w2 hy
        go_enter Try.func59, Try.ntmps59
        go_wp2
        go_ret
        exact ⟨rfl, (Fr.refl _ _).alloc _⟩
    · have h2' : ¬ (4 : Int) ≤ (x : Int) - (a : Int) := by omega
      have hyt : y = false := by rcases y with _ | _; rfl; have := hy.1 rfl; omega
      subst hyt
      clear w1 w2 hy
      go_enter Try.func59, Try.ntmps59
      go_wp2
      go_ret
      exact ⟨rfl, (Fr.refl _ _).alloc _⟩
  · have h1' : ¬ (a : Int) ≤ (x : Int) := by omega
    have hyt : y = false := by rcases y with _ | _; rfl; have := hy.1 rfl; omega
    subst hyt
    clear w1 w2 hy
    go_enter Try.func59, Try.ntmps59
    go_wp2
    go_ret
    exact ⟨rfl, (Fr.refl _ _).alloc _⟩
end Go.Proofs.Ytobdegmlijnogaa
