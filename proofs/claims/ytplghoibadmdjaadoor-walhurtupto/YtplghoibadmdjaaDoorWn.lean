/-
  What the statements' lengths answers: which bytes are those of a fragment's length.
-/
import Derived.Test.YtplghoibadmdjaaDoorWm
namespace Go.Proofs.YtplghoibadmdjaaDoor
open Go.ChangeShapes Go.WideShapes Go.ChangeAt Go.RowKit

theorem infoO : (Tryd.prog.info? 4).map (fun i => (i.zero, i.size, i.bytes)) = some (some (.bool false), 1, 1) := by kernel_rfl
/-- Bools as the program's values. -/
def ov (bs : List Bool) : List Value := bs.map Value.bool
theorem ov_len (bs : List Bool) : (ov bs).length = bs.length := List.length_map _
theorem ov_set (bs : List Bool) (k : Nat) (b : Bool) : (ov bs).set k (.bool b) = ov (bs.set k b) := by unfold ov; rw [List.map_set]
theorem ov_at {bs : List Bool} {k : Nat} {b : Bool} (h : bs[k]? = some b) : (ov bs)[k]? = some (.bool b) := by unfold ov; rw [List.getElem?_map, h]; rfl

theorem makeO_run (w : World) {n : Nat} (hc : n ≤ 100000000) : (Instr.makeSlice 43 (.int .i64 (n : Int)) (.int .i64 (n : Int))).run Tryd.prog w = .ok (.slice (some ⟨w.heap.size, 0, none⟩) n n) (w.alloc (.cells (madeCells #[.bool false] n) 4)) := by
  obtain ⟨i0, hi, hz0, hz1, hz2⟩ := info_parts infoO
  have h := run_make (P := Tryd.prog) w 43 4 i0 (.bool false) Tryd.underlying43 hi hz0 .i64 .i64 (n : Int) (n : Int) (by omega) (by omega) (by rw [hz2]; omega) (by omega)
  simpa [hz1, Value.cells] using h
theorem makeO_own (w : World) {n : Nat} (hc : n ≤ 100000000) : (w.alloc (.cells (madeCells #[.bool false] n) 4)).ownsRow w.heap.size 4 1 (.slice (some ⟨w.heap.size, 0, none⟩) n n) n (ov (List.replicate n false)) := by
  have := World.ownsRow_lit (base := w.heap.size) (e := 4) (size := 1) w (madeCells #[.bool false] n) n (Nat.le_refl _) (by unfold maxLen; omega) (by simp [madeCells])
  have e : (madeCells #[.bool false] n).toList = ov (List.replicate n false) := by
    simp [madeCells, ov]
    rw [List.eq_replicate_iff]
    simp [Nat.mod_one]
  rw [← e]; exact this

/-- What has been marked, and what is still to be. -/
def Mk (b : List Nat) (L : List Bool) (f t : Nat) : Prop := L.length = b.length ∧ b.length < t + f ∧ ∀ p, p < b.length → (L.getD p false || mks b f t p) = mks b (b.length + 1) 0 p
theorem Mk.start (b : List Nat) : Mk b (List.replicate b.length false) (b.length + 1) 0 := by
  refine ⟨by simp, by omega, fun p hp => ?_⟩
  rw [List.getD_eq_getElem?_getD, List.getElem?_replicate, if_pos hp]; simp
theorem Mk.fill {b : List Nat} {L : List Bool} {f t : Nat} (h : Mk b L (f + 1) t) (h7 : t + 7 ≤ b.length) (hr : 64 - t % 64 < 7) : Mk b L f (t + (64 - t % 64)) := by
  refine ⟨h.1, by have := h.2.1; omega, fun p hp => ?_⟩
  rw [← h.2.2 p hp, mks, if_pos h7, if_pos hr]
theorem Mk.frag {b : List Nat} {L : List Bool} {f t : Nat} (h : Mk b L (f + 1) t) (h7 : t + 7 ≤ b.length) (hr : ¬ 64 - t % 64 < 7) : Mk b ((L.set (t + 4) true).set (t + 5) true) f (t + 7 + (b.getD (t + 4) 0 + 256 * b.getD (t + 5) 0)) := by
  refine ⟨by simp [h.1], by have := h.2.1; omega, fun p hp => ?_⟩
  rw [← h.2.2 p hp, mks, if_pos h7, if_neg hr]
  have hl := h.1
  have hg : ((L.set (t + 4) true).set (t + 5) true).getD p false = (decide (p = t + 4) || decide (p = t + 5) || L.getD p false) := by
    simp only [List.getD_eq_getElem?_getD, List.getElem?_set, List.length_set]
    by_cases h5 : p = t + 5
    · subst h5
      rw [if_pos rfl, if_pos (by omega)]; simp
    · rw [if_neg (fun e => h5 e.symm)]
      by_cases h4 : p = t + 4
      · subst h4
        rw [if_pos rfl, if_pos (by omega)]; simp
      · rw [if_neg (fun e => h4 e.symm)]; simp [h4, h5]
  rw [hg]
  cases decide (p = t + 4) <;> cases decide (p = t + 5) <;> cases L.getD p false <;> rfl
theorem Mk.done {b : List Nat} {L : List Bool} {f t : Nat} (h : Mk b L f t) (h7 : ¬ t + 7 ≤ b.length) : ∀ p, p < b.length → L.getD p false = mks b (b.length + 1) 0 p := fun p hp => by
  rw [← h.2.2 p hp]
  cases f with
  | zero => simp [mks]
  | succ f => rw [mks, if_neg h7]; simp

set_option maxRecDepth 20000 in
set_option maxHeartbeats 1600000 in
theorem lengths_c (w : World) {v : Value} {b : List Nat} (hr : Rd w v (bv b)) (hb : By b) (hl : b.length ≤ 1000000) :
    Calls Tryd.prog 21 #[v] w fun e w' => ∃ v' L, e = .returned v' ∧ w'.ownsRow w.heap.size 4 1 v' b.length (ov L) ∧ L.length = b.length ∧ (∀ p, p < b.length → L.getD p false = mks b (b.length + 1) 0 p) ∧ Fr [] w w' := by
  obtain ⟨a, c, hv⟩ := hr.form
  rw [bv_len] at hv
  subst hv
  have MR := makeO_run w (n := b.length) (by omega)
  have MO := hid (makeO_own w (n := b.length) (by omega))
  have MF := hid ((Fr.refl [] w).alloc (.cells (madeCells #[.bool false] b.length) 4))
  have HR := hid hr
  have HB := hid hb
  clear hr hb
  go_enter Tryd.func21, Tryd.ntmps21
  go_wp2_with fail
  go_loopw [4] (fun v4 wr => ∃ (L : List Bool) (f t : Nat), v4 = .int .i64 (t : Int) ∧ t ≤ b.length + 100000 ∧ Mk b L f t ∧ wr.ownsRow w.heap.size 4 1 (.slice (some ⟨w.heap.size, 0, none⟩) b.length b.length) b.length (ov L) ∧ Fr [] w wr) (fun v4 _ => b.length - (intOf v4).toNat)
  case atStart => exact ⟨_, _, 0, rfl, by omega, Mk.start b, MO.out, MF.out⟩
  case round =>
    obtain ⟨L, f, t, rfl, ht, hm, ho, hf⟩ := hrel
    have HM := hid hm
    have RO := hid ho
    have RF := hid hf
    have hfl := hm.2.1
    have hLl := hm.1
    clear hm ho hf
    by_cases h7 : t + 7 ≤ b.length
    · obtain ⟨g, rfl⟩ : ∃ g, f = g + 1 := ⟨f - 1, by omega⟩
      by_cases hr7 : 64 - t % 64 < 7
      · have hr7' : (64 : Int) - (t : Int) % 64 < 7 := by omega
        have HN := hid (HM.out.fill h7 hr7)
        go_wp2
        exact ⟨⟨L, g, t + (64 - t % 64), by go_num, by omega, HN.out, RO.out, RF.out⟩, by simp [intOf]; omega⟩
      · have hr7' : (7 : Int) ≤ (64 : Int) - (t : Int) % 64 := by omega
        have HN := hid (HM.out.frag h7 hr7)
        obtain ⟨x4, hx4⟩ : ∃ x, b[t + 4]? = some x := ⟨_, List.getElem?_eq_getElem (by omega)⟩
        obtain ⟨x5, hx5⟩ : ∃ x, b[t + 5]? = some x := ⟨_, List.getElem?_eq_getElem (by omega)⟩
        have b4 := HB.out.at hx4
        have b5 := HB.out.at hx5
        have e4 : b.getD (t + 4) 0 = x4 := by simp [List.getD, hx4]
        have e5 : b.getD (t + 5) 0 = x5 := by simp [List.getD, hx5]
        rw [e4, e5] at HN
        have S1 := RO.out.stored (t + 4) (.bool true)
        rw [ov_set] at S1
        have S2 := S1.1.stored (t + 5) (.bool true)
        rw [ov_set] at S2
        have F2 := hid ((RF.out.grown S1.2 fun q hq => .inr (by cases hq; omega)).grown S2.2 fun q hq => .inr (by cases hq; omega))
        obtain ⟨u1, hc1⟩ : ∃ u, wr.cell? ⟨w.heap.size, t + 4, none⟩ = some u := by rw [RO.out.cellAt (t + 4) (by omega)]; exact ⟨_, List.getElem?_eq_getElem (by rw [ov_len]; omega)⟩
        have hz1 := RO.out.frozenAt (t + 4)
        obtain ⟨u2, hc2⟩ : ∃ u, (wr.setCell ⟨w.heap.size, t + 4, none⟩ (.bool true)).cell? ⟨w.heap.size, t + 5, none⟩ = some u := by rw [S1.1.cellAt (t + 5) (by omega)]; exact ⟨_, List.getElem?_eq_getElem (by rw [ov_len, List.length_set]; omega)⟩
        have hz2 := S1.1.frozenAt (t + 5)
        rcases HR.out.split with ⟨h, _⟩ | ⟨bq, off, c', hv, hc', _, hcell⟩
        · rw [h] at h7; simp at h7
        simp only [Value.slice.injEq, true_and] at hv
        obtain ⟨rfl, rfl⟩ := hv
        have F2d := F2.out.drew
        have d4 := cell_fr (hcell _ _ hx4) F2d
        have d5 := cell_fr (hcell _ _ hx5) F2d
        have O2 := hid S2.1
        clear S1 S2 hcell e4 e5 hx4 hx5 F2d
        have q1 : IntKind.i64.wrap ((t : Int) + 4) = (t : Int) + 4 := by rw [IntKind.wrap_i64]; omega
        have q2 : IntKind.i64.wrap ((t : Int) + 5) = (t : Int) + 5 := by rw [IntKind.wrap_i64]; omega
        have q3 : IntKind.i64.wrap ((t : Int) + 7) = (t : Int) + 7 := by rw [IntKind.wrap_i64]; omega
        have q4 : ((t : Int) + 4).toNat = t + 4 := by omega
        have q5 : ((t : Int) + 5).toNat = t + 5 := by omega
        have q6 : (0 : Int) ≤ (t : Int) + 4 := by omega
        have q7 : (0 : Int) ≤ (t : Int) + 5 := by omega
        have q8 : (t : Int) + 4 < (b.length : Int) := by omega
        have q9 : (t : Int) + 5 < (b.length : Int) := by omega
        have q10 : t + 4 < b.length := by omega
        have q11 : t + 5 < b.length := by omega
        go_wp2_with fail
        go_region
        go_wp2
        exact ⟨⟨_, g, t + 7 + (x4 + 256 * x5), by go_num, by omega, HN.out, O2.out, F2.out.drew⟩, by simp [intOf]; omega⟩
    · have HD := hid (HM.out.done h7)
      go_wp2
      go_ret
      exact ⟨_, L, rfl, RO.out, hLl, HD.out, RF.out⟩
end Go.Proofs.YtplghoibadmdjaaDoor
