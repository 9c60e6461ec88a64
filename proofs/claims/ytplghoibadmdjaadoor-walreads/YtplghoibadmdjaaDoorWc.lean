/-
  What Append of package wal answers.
-/
import Derived.Test.YtplghoibadmdjaaDoorWb
import Derived.Test.YtplghoibadmdjaaDoorRm
import Derived.Deep.Light
namespace Go.Proofs.YtplghoibadmdjaaDoor
open Go.ChangeShapes Go.WideShapes Go.ChangeAt Go.RowKit

theorem made_zero (c : Nat) : (madeCells #[.int .u8 0] c).toList = bv (List.replicate c 0) := by
  simp [madeCells, bv]
  rw [List.eq_replicate_iff]
  simp [Nat.mod_one]
theorem make_run (w : World) {n c : Nat} (h : n ≤ c) (hc : c ≤ 100000000) : (Instr.makeSlice 22 (.int .i64 (n : Int)) (.int .i64 (c : Int))).run Tryd.prog w = .ok (.slice (some ⟨w.heap.size, 0, none⟩) n c) (w.alloc (.cells (madeCells #[.int .u8 0] c) 5)) := by
  obtain ⟨i0, hi, hz0, hz1, hz2⟩ := info_parts infoB
  have h := run_make (P := Tryd.prog) w 22 5 i0 (.int .u8 0) Tryd.underlying22 hi hz0 .i64 .i64 (n : Int) (c : Int) (by omega) (by omega) (by rw [hz2]; omega) (by omega)
  simpa [hz1, Value.cells] using h
theorem make_own (w : World) {n c : Nat} (h : n ≤ c) (hc : c ≤ 100000000) : (w.alloc (.cells (madeCells #[.int .u8 0] c) 5)).ownsRow w.heap.size 5 1 (.slice (some ⟨w.heap.size, 0, none⟩) n c) n (bv (List.replicate n 0)) := by
  refine ⟨by rw [bv_len, List.length_replicate, Nat.mul_one], .inr ⟨w.heap.size, c, _, rfl, Nat.le_refl _, blk_new _ _, h, by unfold maxLen; omega, by simp [madeCells], ?_⟩⟩
  rw [made_zero, ← bv_take, List.take_replicate, Nat.mul_one, Nat.min_eq_left h]

def slLen : Value → Nat
  | .slice _ n _ => n
  | _ => 0

/-- The step of a record's fragments that leaves more. -/
theorem frs_more {f : Nat} {bg : Bool} {m : Nat} {r : List Nat} (h : m < r.length) : frs (f + 1) bg (m + 7) r = fragL (kd bg false) (r.take m) ++ frs f true 64 (r.drop m) := by
  rw [frs, Nat.add_sub_cancel, if_neg (by omega)]
theorem frs_last {f : Nat} {bg : Bool} {m : Nat} {r : List Nat} (h : r.length ≤ m) : frs (f + 1) bg (m + 7) r = fragL (kd bg true) r := by
  rw [frs, Nat.add_sub_cancel, if_pos h]

set_option maxRecDepth 20000 in
theorem append_long (w : World) (z : Int) {v : Value} {r : List Nat} (hr : Rd w v (bv r)) (hl : 4194304 < r.length) :
    Calls Tryd.prog 10 #[.int .i64 z, v] w fun e w' => e = .returned (.tuple #[.slice none 0 0, .int .i64 50]) ∧ w' = w := by
  obtain ⟨a, c, hv⟩ := hr.form
  rw [bv_len] at hv
  subst hv
  clear hr
  go_enter Tryd.func10, Tryd.ntmps10
  go_wp2
  go_ret2
  exact ⟨rfl, rfl⟩

set_option maxRecDepth 20000 in
set_option maxHeartbeats 1600000 in
theorem append_c (w : World) (z : Int) (hz : z ≤ 9223372036854775807) {v : Value} {r : List Nat} (hr : Rd w v (bv r)) (hb : By r) (hl : r.length ≤ 4194304) :
    Calls Tryd.prog 10 #[.int .i64 z, v] w fun e w' => ∃ v', e = .returned (.tuple #[v', .int .i64 0]) ∧ w'.ownsRow w.heap.size 5 1 v' (appL z.toNat r).length (bv (appL z.toNat r)) ∧ Fr [] w w' := by
  obtain ⟨a, c, hv⟩ := hr.form
  rw [bv_len] at hv
  subst hv
  have h1 := lf_ge z.toNat
  have h2 := lf_le z.toNat
  have h3 := zr_le z.toNat
  have hal : appL z.toNat r = List.replicate (zr z.toNat) 0 ++ frs (r.length + 2) false (lf z.toNat) r := rfl
  have hap := appL_len z.toNat r
  have RC := room_c w z hz
  have LC := length_c w z hz r.length hl
  have h4 : nfr (lf z.toNat) r.length ≤ 100000 := by unfold nfr; omega
  rw [← hap] at LC
  have hal2 : (appL z.toNat r).length ≤ 10000000 := by rw [hap]; omega
  have hal3 : zr z.toNat ≤ (appL z.toNat r).length := by rw [hap]; omega
  generalize hA : appL z.toNat r = A at *
  generalize zr z.toNat = q at *
  generalize lf z.toNat = l at *
  obtain ⟨m0, rfl⟩ : ∃ m, l = m + 7 := ⟨l - 7, by omega⟩
  have hm57 : m0 ≤ 57 := by omega
  have MR := make_run w hal3 (by omega)
  have MO := hid (make_own w hal3 (by omega))
  have MF := hid ((Fr.refl [] w).alloc (.cells (madeCells #[.int .u8 0] A.length) 5))
  have HAL := hid hal
  have HR := hid hr
  have HB := hid hb
  have RCH := hid RC
  have LCH := hid LC
  clear hr hb RC LC hap h4 hA hal h1 h2
  go_enter Tryd.func10, Tryd.ntmps10
  go_wp2_with (first | (go_at_call 23; refine RCH.out.mono ?_; rintro e w1 ⟨rfl, rfl⟩) | (go_at_call 13; refine LCH.out.mono ?_; rintro e w2 ⟨rfl, rfl⟩))
  go_loopw [1, 7, 8, 9] (fun v1 v7 v8 v9 wr => ∃ (rs xs : List Nat) (m : Nat) (bg : Bool) (f c : Nat) (a : Option Addr), v1 = .slice a rs.length c ∧ v7 = .int .i64 ((m + 7 : Nat) : Int) ∧ v9 = .bool bg ∧ Rd w2 (.slice a rs.length c) (bv rs) ∧ By rs ∧ rs.length ≤ r.length ∧ m ≤ 57 ∧ rs.length + (if m = 0 then 1 else 0) < f ∧ A = xs ++ frs f bg (m + 7) rs ∧ wr.ownsRow w2.heap.size 5 1 v8 xs.length (bv xs) ∧ Fr [] w2 wr) (fun v1 v7 _ _ _ => slLen v1 + (if intOf v7 = 7 then 1 else 0))
  case atStart => exact ⟨r, List.replicate q 0, m0, false, r.length + 2, c, a, rfl, rfl, rfl, HR.out, HB.out, Nat.le_refl _, hm57, by split <;> omega, HAL.out, by rw [List.length_replicate]; exact MO.out, MF.out⟩
  case round =>
    obtain ⟨rs, xs, m, bg, f, c, a, rfl, rfl, rfl, hr, hb, hrl, hm, hf, hA, ho, hfr⟩ := hrel
    obtain ⟨g, rfl⟩ : ∃ g, f = g + 1 := ⟨f - 1, by omega⟩
    have hxl : xs.length ≤ A.length := by rw [hA, List.length_append]; omega
    have RB := hid hb
    have RA := hid hA
    have RO := hid ho
    have RF := hid hfr
    have RSZ := hid hfr.size
    have h7 : ((m + 7 : Nat) : Int) - 7 = (m : Int) := by omega
    by_cases hlast : rs.length ≤ m
    · have RL : Hid (A = xs ++ fragL (kd bg true) rs) := by unfold Hid; rw [hA, frs_last hlast]
      have RO' : Hid (wr.drew.ownsRow w2.heap.size 5 1 u8 xs.length (bv xs)) := ownsRow_fr RO.out (Fr.refl _ _).drew
      have HR1 := hid hr
      have hcase : (a = none ∧ c = 0 ∧ rs = []) ∨ ∃ ad, a = some ad ∧ rs.length ≤ c := by
        rcases hr with ⟨h, h'⟩ | ⟨ad, c', h, h4, h5⟩
        · left
          simp only [Value.slice.injEq] at h
          exact ⟨h.1, h.2.2, List.eq_nil_of_length_eq_zero h.2.1⟩
        · right
          simp only [Value.slice.injEq, bv_len] at h h4
          exact ⟨ad, h.1, by omega⟩
      have HF := hid hf
      clear hr hb hA ho hfr hf RA
      have hmm : rs.length < m ∨ m = rs.length := by omega
      rcases hcase with ⟨rfl, rfl, rfl⟩ | ⟨ad, rfl, hcc⟩
      all_goals rcases hmm with hlt | rfl
      all_goals
        go_wp2_with fail
        go_region
        all_goals go_wp2_with (first
          | (go_at_call 25; refine (kindOf_c _ bg true).mono ?_; rintro e w3 ⟨rfl, rfl⟩)
          | (go_at_call 24
             refine (lay_c RO'.out RF.out.drew (Nat.le_refl _) RSZ.out HR1.out RB.out (kd_lt bg true) (by first | (simp; done) | omega) (by omega)).mono ?_
             rintro e w4 ⟨v4, rfl, o4, f4⟩
             have O4 := hid o4
             have F4 := hid f4
             clear o4 f4))
        all_goals go_ret2
        all_goals exact ⟨v4, rfl, by rw [RL.out, List.length_append, fragL_len]; exact O4.out, F4.out⟩
    · have hpos : 0 < rs.length := by omega
      obtain ⟨bk, off, c', hv, hc', hcell⟩ : ∃ b off c', Value.slice a rs.length c = .slice (some ⟨b, off, none⟩) rs.length c' ∧ rs.length ≤ c' ∧ True := by
        rcases hr.split with ⟨h, _⟩ | ⟨b, off, c', h1, h2, _, _⟩
        · rw [h] at hpos; simp at hpos
        · exact ⟨b, off, c', h1, h2, trivial⟩
      cases hv
      have D1 := hid (hr.front (q := m) (by omega))
      have D2 := hid (hr.back (q := m) (by omega))
      have HR1 := hid hr
      clear hr hb hA ho hfr
      have k1 : (m : Int) < (rs.length : Int) := by omega
      have k2 : m ≤ rs.length := by omega
      have k3 : ¬ (c = m) := by omega
      have k4 : (((rs.length - m : Nat) : Int) == 0) = false := beq_eq_false_iff_ne.2 (by omega)
      have hdl : (rs.take m).length = m := by rw [List.length_take]; omega
      have hdr : (rs.drop m).length = rs.length - m := List.length_drop
      have RO' : Hid (wr.drew.ownsRow w2.heap.size 5 1 u8 xs.length (bv xs)) := ownsRow_fr RO.out (Fr.refl _ _).drew
      go_wp2_with fail
      go_region
      go_wp2_with (first
        | (go_at_call 25; refine (kindOf_c _ bg false).mono ?_; rintro e w3 ⟨rfl, rfl⟩)
        | (go_at_call 24
           refine (lay_c RO'.out RF.out.drew (Nat.le_refl _) RSZ.out D1.out (RB.out.take m) (kd_lt bg false) (by rw [hdl]; omega) (by omega)).mono ?_
           rintro e w4 ⟨v4, rfl, o4, f4⟩
           rw [hdl] at o4
           have O4 := hid o4
           have F4 := hid f4
           clear o4 f4))
      go_roundw
      case rel =>
        go_light
        refine ⟨rs.drop m, xs ++ fragL (kd bg false) (rs.take m), 57, true, g, c - m, some ⟨bk, off + m, none⟩, by rw [hdr], rfl, rfl, by rw [hdr]; exact D2.out, RB.out.drop m, by omega, by omega, ?_, ?_, ?_, F4.out⟩
        · rw [hdr]; simp; split at hf <;> omega
        · rw [RA.out, frs_more (by omega), List.append_assoc]
        · rw [List.length_append, fragL_len, hdl]; exact O4.out
      case measure =>
        go_light
        show rs.length - m + (if (64 : Int) = 7 then 1 else 0) < rs.length + (if ((m + 7 : Nat) : Int) = 7 then 1 else 0)
        by_cases hm0 : m = 0
        · rw [if_neg (by omega), if_pos (by omega)]; omega
        · rw [if_neg (by omega)]; omega
end Go.Proofs.YtplghoibadmdjaaDoor
