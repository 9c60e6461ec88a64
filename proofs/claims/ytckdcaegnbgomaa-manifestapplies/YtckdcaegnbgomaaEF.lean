/-
  Tables and edits in memory; which may be.
-/
import Derived.Test.YtckdcaegnbgomaaJ03
import Derived.Deep.Light
namespace Go.Proofs.Ytckdcaegnbgomaa
open Go.ChangeShapes Go.WideShapes Go.ChangeAt Go.RowKit

theorem cell_fr {w w' : World} (f : Fr [] w w') {p : Addr} {v : Value} (h : w.cell? p = some v) : w'.cell? p = some v := by
  rw [World.cell?_of_block (w := w) (f.block _ (World.block_lt_of_cell? w _ h) (by simp))]; exact h
/-- A table's two keys. -/
structure FRd (w : World) (f : Fl) (la : Option Addr) (lc : Nat) (ma : Option Addr) (mc : Nat) : Prop where
  rl : Rd w (.slice la f.least.length lc) (bv f.least)
  rm : Rd w (.slice ma f.most.length mc) (bv f.most)
  bl : By f.least
  bm : By f.most
  ll : f.least.length ≤ 140737488355328
  lm : f.most.length ≤ 140737488355328
theorem FRd.fr {w w' : World} {f : Fl} {la ma : Option Addr} {lc mc : Nat} (h : FRd w f la lc ma mc) (g : Fr [] w w') : FRd w' f la lc ma mc := ⟨h.rl.fr g, h.rm.fr g, h.bl, h.bm, h.ll, h.lm⟩
/-- A table at a place. -/
structure FAt (w : World) (b o : Nat) (f : Fl) (la : Option Addr) (lc : Nat) (ma : Option Addr) (mc : Nat) : Prop where
  c0 : w.cell? ⟨b, o, none⟩ = some (.int .i64 f.num)
  c1 : w.cell? ⟨b, o + 1, none⟩ = some (.int .i64 f.size)
  c2 : w.cell? ⟨b, o + 2, none⟩ = some (.slice la f.least.length lc)
  c3 : w.cell? ⟨b, o + 3, none⟩ = some (.slice ma f.most.length mc)
  rd : FRd w f la lc ma mc
theorem FAt.fr {w w' : World} {b o : Nat} {f : Fl} {la ma : Option Addr} {lc mc : Nat} (h : FAt w b o f la lc ma mc) (g : Fr [] w w') : FAt w' b o f la lc ma mc := ⟨cell_fr g h.c0, cell_fr g h.c1, cell_fr g h.c2, cell_fr g h.c3, h.rd.fr g⟩
/-- A row of dropped tables. -/
def RdD (w : World) (v : Value) (gs : List (Int × Int)) : Prop := ∃ a c, v = .slice a gs.length c ∧ (0 < gs.length → ∃ b off, a = some ⟨b, off, none⟩ ∧ ∀ (j : Nat) (g : Int × Int), gs[j]? = some g → w.cell? ⟨b, off + j * 2, none⟩ = some (.int .i64 g.1) ∧ w.cell? ⟨b, off + j * 2 + 1, none⟩ = some (.int .i64 g.2))
theorem RdD.fr {w w' : World} {v : Value} {gs : List (Int × Int)} (h : RdD w v gs) (f : Fr [] w w') : RdD w' v gs := by
  obtain ⟨a, c, h1, h2⟩ := h
  refine ⟨a, c, h1, fun h0 => ?_⟩
  obtain ⟨b, off, h3, h4⟩ := h2 h0
  exact ⟨b, off, h3, fun j g hj => ⟨cell_fr f (h4 j g hj).1, cell_fr f (h4 j g hj).2⟩⟩
/-- A row of placed tables. -/
def RdA (w : World) (v : Value) (ps : List (Int × Fl)) : Prop := ∃ a c, v = .slice a ps.length c ∧ (0 < ps.length → ∃ b off, a = some ⟨b, off, none⟩ ∧ ∀ (j : Nat) (p : Int × Fl), ps[j]? = some p → w.cell? ⟨b, off + j * 5, none⟩ = some (.int .i64 p.1) ∧ ∃ la lc ma mc, FAt w b (off + j * 5 + 1) p.2 la lc ma mc)
theorem RdA.fr {w w' : World} {v : Value} {ps : List (Int × Fl)} (h : RdA w v ps) (f : Fr [] w w') : RdA w' v ps := by
  obtain ⟨a, c, h1, h2⟩ := h
  refine ⟨a, c, h1, fun h0 => ?_⟩
  obtain ⟨b, off, h3, h4⟩ := h2 h0
  refine ⟨b, off, h3, fun j p hj => ?_⟩
  obtain ⟨h5, la, lc, ma, mc, h6⟩ := h4 j p hj
  exact ⟨cell_fr f h5, la, lc, ma, mc, h6.fr f⟩
theorem isNumber_c (w : World) (n : Int) : Calls Try.prog 47 #[.int .i64 n] w fun e w' => e = .returned (.bool (okN n)) ∧ w' = w := by
  unfold okN
  by_cases h1 : 0 ≤ n
  · by_cases h2 : n ≤ 2147483647
    · rw [decide_eq_true h1, decide_eq_true h2]
      go_enter Try.func47, Try.ntmps47
      go_wp2
      go_ret
      exact ⟨rfl, rfl⟩
    · rw [decide_eq_true h1, decide_eq_false h2]
      go_enter Try.func47, Try.ntmps47
      go_wp2
      go_ret
      exact ⟨rfl, rfl⟩
  · rw [decide_eq_false h1, Bool.false_and]
    go_enter Try.func47, Try.ntmps47
    go_wp2
    go_ret
    exact ⟨rfl, rfl⟩
theorem isLevel_c (w : World) (n : Int) : Calls Try.prog 46 #[.int .i64 n] w fun e w' => e = .returned (.bool (okV n)) ∧ w' = w := by
  unfold okV
  by_cases h1 : 0 ≤ n
  · by_cases h2 : n < 5
    · rw [decide_eq_true h1, decide_eq_true h2]
      go_enter Try.func46, Try.ntmps46
      go_wp2
      go_ret
      exact ⟨rfl, rfl⟩
    · rw [decide_eq_true h1, decide_eq_false h2]
      go_enter Try.func46, Try.ntmps46
      go_wp2
      go_ret
      exact ⟨rfl, rfl⟩
  · rw [decide_eq_false h1, Bool.false_and]
    go_enter Try.func46, Try.ntmps46
    go_wp2
    go_ret
    exact ⟨rfl, rfl⟩
theorem head_c (w : World) (log next : Int) (seq : Nat) : Calls Try.prog 29 #[.int .i64 log, .int .i64 next, .int .u64 (seq : Int)] w fun e w' => e = .returned (.bool (okH log next seq)) ∧ w' = w := by
  unfold okH
  have N1 := hid (isNumber_c w log)
  have N2 := hid (isNumber_c w next)
  cases h1 : okN log with
  | false =>
    rw [h1] at N1
    rw [Bool.false_and]
    clear h1 N2
    go_enter Try.func29, Try.ntmps29
    go_wp2_with (go_at_call 47; refine N1.out.mono ?_; rintro e w1 ⟨rfl, h⟩; rw [h]; clear h)
    go_ret
    exact ⟨rfl, rfl⟩
  | true =>
    rw [h1] at N1
    rw [Bool.true_and]
    clear h1
    cases h2 : okN next with
    | false =>
      rw [h2] at N2
      rw [Bool.false_and]
      clear h2
      go_enter Try.func29, Try.ntmps29
      go_wp2_with (first | (go_at_call 47; have zz := N3.out; clear zz; refine N2.out.mono ?_; rintro e w1 ⟨rfl, h⟩; rw [h]; clear h) | (go_at_call 47; refine N1.out.mono ?_; rintro e w1 ⟨rfl, h⟩; rw [h]; clear h; have N3 := hid trivial))
      go_ret
      exact ⟨rfl, rfl⟩
    | true =>
      rw [h2] at N2
      rw [Bool.true_and]
      clear h2
      by_cases h3 : seq ≤ 72057594037927935
      · have h3' : (seq : Int) ≤ 72057594037927935 := by omega
        rw [decide_eq_true h3]
        go_enter Try.func29, Try.ntmps29
        go_wp2_with (first | (go_at_call 47; have zz := N3.out; clear zz; refine N2.out.mono ?_; rintro e w1 ⟨rfl, h⟩; rw [h]; clear h) | (go_at_call 47; refine N1.out.mono ?_; rintro e w1 ⟨rfl, h⟩; rw [h]; clear h; have N3 := hid trivial))
        go_ret
        exact ⟨rfl, rfl⟩
      · have h3' : (72057594037927935 : Int) < (seq : Int) := by omega
        rw [decide_eq_false h3]
        go_enter Try.func29, Try.ntmps29
        go_wp2_with (first | (go_at_call 47; have zz := N3.out; clear zz; refine N2.out.mono ?_; rintro e w1 ⟨rfl, h⟩; rw [h]; clear h) | (go_at_call 47; refine N1.out.mono ?_; rintro e w1 ⟨rfl, h⟩; rw [h]; clear h; have N3 := hid trivial))
        go_ret
        exact ⟨ret_bool (by simp; omega), rfl⟩
end Go.Proofs.Ytckdcaegnbgomaa
