/-
  The statements' own known example: it answers true, and turns nothing that was there.
-/
import Derived.Test.YtilgagmnifbdpaaL
import Derived.Laws.BytesString
namespace Go.Proofs.Ytilgagmnifbdpaa
open Go.ChangeShapes Go.WideShapes Go.ChangeAt Go.RowKit

theorem isNm_a : isNm ⟨#[97]⟩ = true := by decide
theorem lk_a (v : Value) (n : Nat) : lk [⟨.string ⟨#[97]⟩, v, n⟩] ⟨#[97]⟩ = some v := rfl
theorem SK_one (s : ByteArray) (v : Value) (n : Nat) : SK [⟨.string s, v, n⟩] := fun e he => by simp at he; subst he; exact ⟨s, rfl⟩
theorem SK_nil : SK [] := fun e he => by simp at he

/-- Where the example stands behind its first four calls. -/
theorem notin_types {w : World} {k b : Nat} {o : Obj} {cs : Array Value} {t : TypeId} (hk : w.heap[k]? = some o) (hb : w.heap[b]? = some (.cells cs t (0, 0))) (hno : ∀ c, o ≠ .cells c t (0, 0)) : k ≠ b := by
  intro e; subst e; rw [hk] at hb; cases hb; exact hno _ rfl

set_option maxRecDepth 100000 in
set_option maxHeartbeats 4000000 in
theorem known_c (w : World) : Calls Try.prog 4 #[] w fun e w' => e = .returned (.bool true) ∧ Fr [] w w' := by
  go_enter Try.func4, Try.ntmps4
  go_wp2_with fail
  refine (new_c 10 _ (by omega) (by omega)).mono ?_
  rintro e w1 ⟨b, m0, m1, rfl, d1, a1, a2, a3, a4, a5, a6, a7⟩
  have A1 := hid (And.intro d1 (And.intro a1 (And.intro a2 (And.intro a3 (And.intro a4 (And.intro a5 (And.intro a6 a7)))))))
  have P1 : Hid (w1.ownsRow 0 76 1 (.slice none 0 0) ([] : List Value).length []) := World.ownsRow_nil _ _ _ _
  clear d1 a1 a2 a3 a4 a5 a6 a7
  go_wp2_with fail
  refine (create_c A1.out.1 (by omega) (by omega) (by omega) (by omega) A1.out.2.1 SK_nil rfl isNm_a (by decide) P1.out (by simp)).mono ?_
  rintro e w2 ⟨rfl, c⟩
  obtain ⟨pv2, fb, d2, o2, n2, g2, s2, f2, _⟩ := c
  have mm2 : w2.heap[m1]? = some (.map #[] 0) := f2.at A1.out.2.2.1 (by
    simp only [Value.ownBlock, Option.toList_none, List.mem_cons, List.not_mem_nil, or_false, not_or]
    exact ⟨Ne.symm A1.out.2.2.2.1, notin_types A1.out.2.2.1 A1.out.1 (by simp)⟩)
  have F2 : Hid (Fr [] w w2) := A1.out.2.2.2.2.2.2.2.trans' f2 (by
    have h5 := A1.out.2.2.2.2.1; have h6 := A1.out.2.2.2.2.2.1
    intro x hx hlt
    simp only [Value.ownBlock, Option.toList_none, List.mem_cons, List.not_mem_nil, or_false] at hx
    omega)
  have hwb : w.heap.size ≤ b := A1.out.2.2.2.2.1
  have hwm : w.heap.size ≤ m1 := A1.out.2.2.2.2.2.2.1
  have hwf : w.heap.size ≤ fb := Nat.le_trans A1.out.2.2.2.2.2.2.2.size s2
  have C := hid (And.intro d2 (And.intro o2 (And.intro n2 (And.intro g2 mm2))))
  clear d2 o2 n2 g2 f2 mm2 s2 A1 P1
  go_wp2_with fail
  refine (syncDir_one C.out.1 (by omega) (by omega) C.out.2.2.2.2 SK_nil rfl C.out.2.1).mono ?_
  rintro e w3 ⟨rfl, d3, n3, f3⟩
  have hfbb : fb ≠ b := notin_types C.out.2.2.2.1 C.out.1 (by simp)
  have hfm1 : fb ≠ m1 := fun e => by
    have h1 := C.out.2.2.2.1; have h2 := C.out.2.2.2.2; unfold FB at h1; rw [← e] at h2; rw [h1] at h2; cases h2
  have g3 : FB w3 fb 0 (.slice none 0 0) (.slice none 0 0) (.slice none 0 0) := f3.at C.out.2.2.2.1 (by simp [hfbb, hfm1])
  have l3 : w3.heap[m0]? = some (.map #[⟨.string ⟨#[97]⟩, .pointer (some ⟨fb, 0, none⟩), 0⟩] 1) := by
    have hm0b : m0 ≠ b := notin_types C.out.2.2.1 C.out.1 (by simp)
    by_cases hmm : m0 = m1
    · subst hmm; exact n3
    · exact f3.at C.out.2.2.1 (by simp [hm0b, hmm])
  have F3 : Hid (Fr [] w w3) := F2.out.trans' f3 (by intro x hx hlt; simp at hx; omega)
  have D3 := hid (And.intro d3 (And.intro n3 (And.intro g3 l3)))
  clear d3 n3 f3 g3 l3 C F2
  have W3 : Hid (DB (w3.alloc (.cells #[.int .u8 1, .int .u8 2, .int .u8 3] 5)) b 10 m0 m1 (.slice none 0 0) 0 (0 + 1) (0 + 1 + 1) 0 (-1) false ∧
      (w3.alloc (.cells #[.int .u8 1, .int .u8 2, .int .u8 3] 5)).heap[m1]? = some (.map #[⟨.string ⟨#[97]⟩, .pointer (some ⟨fb, 0, none⟩), 0⟩] 1) ∧ FB (w3.alloc (.cells #[.int .u8 1, .int .u8 2, .int .u8 3] 5)) fb 0 (.slice none 0 0) (.slice none 0 0) (.slice none 0 0) ∧
      (w3.alloc (.cells #[.int .u8 1, .int .u8 2, .int .u8 3] 5)).heap[m0]? = some (.map #[⟨.string ⟨#[97]⟩, .pointer (some ⟨fb, 0, none⟩), 0⟩] 1)) := by
    refine ⟨?_, ?_, ?_, ?_⟩
    · unfold DB; rw [blk_old _ _ (blk_lt D3.out.1)]; exact D3.out.1
    · rw [blk_old _ _ (blk_lt D3.out.2.1)]; exact D3.out.2.1
    · unfold FB; rw [blk_old _ _ (blk_lt D3.out.2.2.1)]; exact D3.out.2.2.1
    · rw [blk_old _ _ (blk_lt D3.out.2.2.2)]; exact D3.out.2.2.2
  have R3 : Hid (Rd (w3.alloc (.cells #[.int .u8 1, .int .u8 2, .int .u8 3] 5)) (.slice (some ⟨w3.heap.size, 0, none⟩) 3 3) [.int .u8 1, .int .u8 2, .int .u8 3]) :=
    Rd.own (World.ownsRow_lit (base := 0) w3 #[.int .u8 1, .int .u8 2, .int .u8 3] 3 (Nat.zero_le _) (by unfold maxLen; omega) rfl)
  have hb3 := blk_lt D3.out.1
  have F3' : Hid (Fr [] w (w3.alloc (.cells #[.int .u8 1, .int .u8 2, .int .u8 3] 5))) := F3.out.alloc _
  clear D3 F3
  go_wp2_with fail
  refine (append_ok W3.out.1 (by omega) (by omega) W3.out.2.2.2 (SK_one _ _ _) (lk_a _ _) isNm_a (by decide) W3.out.2.2.1 (olds := []) (ps := []) (World.ownsRow_nil _ _ _ _) (World.ownsRow_nil _ _ _ _) R3.out
    (by intro u hu; simp at hu; rcases hu with rfl | rfl | rfl <;> exact ⟨_, rfl⟩) (by intro a n c e; cases e; simp; omega) (by simp) (by simp) (by simp) (by simp) (by omega) (by omega) (by simp)).mono ?_
  rintro e w4 ⟨rfl, v4, p4, bv4, g4, o4, q4, r4, d4, f4, _, _, _⟩
  have n4 := f4.at W3.out.2.1 (by
    simp only [Value.ownBlock, Option.toList_none, List.append_nil, List.mem_cons, List.not_mem_nil, or_false, not_or]
    exact ⟨notin_types W3.out.2.1 W3.out.1 (by simp), Ne.symm hfm1⟩)
  have F4 : Hid (Fr [] w w4) := F3'.out.trans' f4 (by
    intro x hx hlt
    simp only [Value.ownBlock, Option.toList_none, List.append_nil, List.mem_cons, List.not_mem_nil, or_false] at hx
    omega)
  have D4 := hid (And.intro d4 (And.intro n4 (And.intro g4 (And.intro o4 (And.intro q4 r4)))))
  clear d4 n4 g4 o4 q4 r4 f4 W3 R3 F3'
  go_wp2_with fail
  have W4 : Hid (DB (w4.alloc (.cells #[.int .i64 2] 3)) b 10 m0 m1 (.slice none 0 0) 3 (0 + 1) (0 + 1 + 1 + 1) 0 (-1) false ∧ (w4.alloc (.cells #[.int .i64 2] 3)).heap[m1]? = some (.map #[⟨.string ⟨#[97]⟩, .pointer (some ⟨fb, 0, none⟩), 0⟩] 1) ∧
      FB (w4.alloc (.cells #[.int .i64 2] 3)) fb 0 v4 (.slice none 0 0) p4 ∧ (w4.alloc (.cells #[.int .i64 2] 3)).ownsRow 0 76 1 p4 [wrt fb (0 : Nat) bv4].length [wrt fb (0 : Nat) bv4] ∧
      PW (w4.alloc (.cells #[.int .i64 2] 3)) none fb 0 [wrt fb (0 : Nat) bv4] [[.int .u8 1, .int .u8 2, .int .u8 3]] ∧ (w4.alloc (.cells #[.int .i64 2] 3)).cell? ⟨w4.heap.size, 0, none⟩ = some (.int .i64 2)) := by
    refine ⟨?_, ?_, ?_, D4.out.2.2.2.2.1.alloc _, ⟨⟨bv4, rfl, ownsRow_base (D4.out.2.2.2.2.2.alloc _) (Nat.zero_le _), by simp⟩, by simp, ?_, trivial⟩, ?_⟩
    · unfold DB; rw [blk_old _ _ (blk_lt D4.out.1)]; exact D4.out.1
    · rw [blk_old _ _ (blk_lt D4.out.2.1)]; exact D4.out.2.1
    · unfold FB; rw [blk_old _ _ (blk_lt D4.out.2.2.1)]; exact D4.out.2.2.1
    · intro u hu; simp at hu; rcases hu with rfl | rfl | rfl <;> exact ⟨_, rfl⟩
    · rw [blk_cell (blk_new _ _)]; rfl
  have F4' : Hid (Fr [] w (w4.alloc (.cells #[.int .i64 2] 3))) := F4.out.alloc _
  have hb4 := blk_lt D4.out.1
  clear D4 F4
  refine (restart_one W4.out.1 W4.out.2.1 W4.out.2.2.1 (sure := []) (xs := [[.int .u8 1, .int .u8 2, .int .u8 3]]) (World.ownsRow_nil _ _ _ _) W4.out.2.2.2.1 W4.out.2.2.2.2.1 (by simp) (by simp)
    (by intro u hu; simp at hu; rcases hu with rfl | rfl | rfl <;> exact ⟨_, rfl⟩) 2 w4.heap.size (by omega) W4.out.2.2.2.2.2 (by omega)).mono ?_
  rintro e w5 ⟨rfl, m5, v5, u5, d5, n5, g5, o5, _, f5⟩
  have F5 : Hid (Fr [] w w5) := F4'.out.trans' f5 (by
    intro x hx hlt
    simp only [Value.ownBlock, Option.toList_none, List.mem_cons, List.not_mem_nil, or_false] at hx
    omega)
  have D5 : Hid (DB w5 b 10 m5 m1 (.slice none 0 0) 2 (0 + 1) (0 + 1 + 1 + 1) 0 (-1) false ∧ w5.heap[m5]? = some (.map #[⟨.string ⟨#[97]⟩, .pointer (some ⟨fb, 0, none⟩), 0⟩] 1) ∧ FB w5 fb 0 v5 u5 (.slice none 0 0) ∧ w5.ownsRow 0 5 1 v5 [Value.int .u8 1, .int .u8 2].length [Value.int .u8 1, .int .u8 2]) := ⟨d5, n5, g5, o5⟩
  clear d5 n5 g5 o5 f5 W4 F4'
  go_wp2_with fail
  refine (read_c D5.out.1 D5.out.2.1 (SK_one _ _ _) (lk_a _ _) isNm_a (by decide) D5.out.2.2.1 D5.out.2.2.2 (by intro u hu; simp at hu; rcases hu with rfl | rfl <;> exact ⟨_, rfl⟩) (by simp)).mono ?_
  rintro e w6 ⟨v6, rfl, o6, f6⟩
  obtain ⟨g, c6, rfl⟩ : ∃ g c6, v6 = .slice (some ⟨g, 0, none⟩) 2 c6 := by
    rcases o6.2 with ⟨_, e3⟩ | ⟨g, cap, cu, e2, _⟩
    · simp at e3
    · exact ⟨g, cap, e2⟩
  have y0 : w6.cell? ⟨g, 0, none⟩ = some (.int .u8 1) := by rw [o6.cellAt 0 (by simp)]; rfl
  have y1 : w6.cell? ⟨g, 1, none⟩ = some (.int .u8 2) := by rw [o6.cellAt 1 (by simp)]; rfl
  have F6 : Hid (Fr [] w w6) := F5.out.trans f6
  have D6 : Hid (DB w6 b 10 m5 m1 (.slice none 0 0) 2 (0 + 1) (0 + 1 + 1 + 1) 0 (-1) false ∧ w6.heap[m5]? = some (.map #[⟨.string ⟨#[97]⟩, .pointer (some ⟨fb, 0, none⟩), 0⟩] 1) ∧ FB w6 fb 0 v5 u5 (.slice none 0 0) ∧ w6.ownsRow 0 5 1 v5 [Value.int .u8 1, .int .u8 2].length [Value.int .u8 1, .int .u8 2]) :=
    ⟨f6.at D5.out.1 (by simp), f6.at D5.out.2.1 (by simp), f6.at D5.out.2.2.1 (by simp), ownsRow_of_block D5.out.2.2.2 fun k hk => f6.block k (D5.out.2.2.2.lt k hk).2 (by simp)⟩
  have hld : (loadCells ⟨g, 0, none⟩ 2).run Try.prog w6 = .ok (([1, 2] : List Int).map (Value.int .u8)).toArray w6 := by
    have := run_loadCells_list (P := Try.prog) w6 ⟨g, 0, none⟩ [.int .u8 1, .int .u8 2] (o6.cells rfl)
    simpa using this
  have hcv : (convert 39 9 (.slice (some ⟨g, 0, none⟩) 2 c6)).run Try.prog w6 = .ok (.string ⟨#[1, 2]⟩) w6 := by
    rw [run_convert_bytes_string w6 39 9 5 _ _ _ Try.underlying39 Try.underlying5 Try.underlying9, run_bytesToString w6 _ _ _ _ hld]; rfl
  obtain ⟨i0, hi, hz0, hz1, hz2⟩ := info_parts infoB
  have hmk : (Instr.makeSlice 39 (.int .i64 9) (.int .i64 9)).run Try.prog w6 = .ok (.slice (some ⟨w6.heap.size, 0, none⟩) 9 9) (w6.alloc (.cells (madeCells #[.int .u8 0] 9) 5)) := by
    have h := run_make (P := Try.prog) w6 39 5 i0 (.int .u8 0) Try.underlying39 hi hz0 .i64 .i64 9 9 (by omega) (Int.le_refl _) (by rw [hz2]; omega) (by omega)
    simpa [hz1, Value.cells] using h
  clear o6 f6 D5 F5 hld hi hz0 hz1 hz2
  go_wp2_with fail
  have W6 : Hid (DB (w6.alloc (.cells (madeCells #[.int .u8 0] 9) 5)) b 10 m5 m1 (.slice none 0 0) 2 (0 + 1) (0 + 1 + 1 + 1) 0 (-1) false ∧ (w6.alloc (.cells (madeCells #[.int .u8 0] 9) 5)).heap[m5]? = some (.map #[⟨.string ⟨#[97]⟩, .pointer (some ⟨fb, 0, none⟩), 0⟩] 1) ∧ FB (w6.alloc (.cells (madeCells #[.int .u8 0] 9) 5)) fb 0 v5 u5 (.slice none 0 0)) := by
    refine ⟨?_, ?_, ?_⟩
    · unfold DB; rw [blk_old _ _ (blk_lt D6.out.1)]; exact D6.out.1
    · rw [blk_old _ _ (blk_lt D6.out.2.1)]; exact D6.out.2.1
    · unfold FB; rw [blk_old _ _ (blk_lt D6.out.2.2.1)]; exact D6.out.2.2.1
  obtain ⟨sa5, sc5, rfl, _⟩ := ownsRow_slice D6.out.2.2.2
  refine (append_full W6.out.1 (by omega) (by omega) W6.out.2.1 (SK_one _ _ _) (lk_a _ _) isNm_a (by decide) W6.out.2.2 (some ⟨w6.heap.size, 0, none⟩) 9 9 (by omega) (by omega) (by simp) (by omega) (by omega) (by omega)).mono ?_
  rintro e w7 ⟨rfl, d7, f7⟩
  have F7 : Hid (Fr [] w w7) := (F6.out.alloc _).trans' f7 (by intro x hx hlt; simp at hx; omega)
  clear d7 f7
  go_wp2
  go_ret
  exact ⟨rfl, F7.out⟩
end Go.Proofs.Ytilgagmnifbdpaa
