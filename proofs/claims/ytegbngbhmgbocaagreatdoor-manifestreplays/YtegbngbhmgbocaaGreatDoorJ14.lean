/-
  The version without anything: checked.
-/
import Derived.Test.YtegbngbhmgbocaaGreatDoorEI
import Derived.ChangeMaps4
import Derived.MapKept
import Derived.Test.YtegbngbhmgbocaaGreatDoorJ10
import Derived.Test.YtegbngbhmgbocaaGreatDoorJ11
namespace Go.Proofs.YtegbngbhmgbocaaGreatDoor
open Go.ChangeShapes Go.WideShapes Go.ChangeAt Go.RowKit

/-- The cells of the version without anything. -/
theorem vz_cells {W : World} {k : Nat} (n : W.heap[k]? = some (.cells #[.int .i64 0, .int .i64 0, .int .u64 0, .slice none 0 0, .slice none 0 0, .slice none 0 0, .slice none 0 0, .slice none 0 0] 28 (0, 0))) : W.cell? ⟨k, 0, none⟩ = some (.int .i64 0) ∧ W.cell? ⟨k, 1, none⟩ = some (.int .i64 0) ∧ W.cell? ⟨k, 2, none⟩ = some (.int .u64 0) ∧ W.cell? ⟨k, 3, none⟩ = some (.slice none 0 0) ∧ W.cell? ⟨k, 4, none⟩ = some (.slice none 0 0) ∧ W.cell? ⟨k, 5, none⟩ = some (.slice none 0 0) ∧ W.cell? ⟨k, 6, none⟩ = some (.slice none 0 0) ∧ W.cell? ⟨k, 7, none⟩ = some (.slice none 0 0) :=
  ⟨by rw [blk_cell n]; rfl, by rw [blk_cell n]; rfl, by rw [blk_cell n]; rfl, by rw [blk_cell n]; rfl, by rw [blk_cell n]; rfl, by rw [blk_cell n]; rfl, by rw [blk_cell n]; rfl, by rw [blk_cell n]; rfl⟩
theorem ix5 {i : Nat} (hi : i < 5) (W : World) : (Instr.index 26 (.agg #[.slice none 0 0, .slice none 0 0, .slice none 0 0, .slice none 0 0, .slice none 0 0]) (.int .i64 (i : Int))).run Tryz.prog W = .ok (.slice none 0 0) W := by
  rcases (show i = 0 ∨ i = 1 ∨ i = 2 ∨ i = 3 ∨ i = 4 from by omega) with rfl | rfl | rfl | rfl | rfl <;> kernel_rfl
set_option maxRecDepth 20000 in
set_option maxHeartbeats 3200000 in
theorem each0_c (w : World) (h : Value) : Calls Tryz.prog 49 #[.agg #[.int .i64 0, .int .i64 0, .int .u64 0, .slice none 0 0, .slice none 0 0, .slice none 0 0, .slice none 0 0, .slice none 0 0], h] w fun r w' => r = .returned (.bool true) ∧ Fr [] w w' := by
  have hix : ∀ (i : Nat), i < 5 → ∀ W : World, (Instr.index 26 (.agg #[.slice none 0 0, .slice none 0 0, .slice none 0 0, .slice none 0 0, .slice none 0 0]) (.int .i64 (i : Int))).run Tryz.prog W = .ok (.slice none 0 0) W := fun i hi W => ix5 hi W
  obtain ⟨W0, hW0⟩ : ∃ W0, W0 = w.alloc (.cells #[.int .i64 0, .int .i64 0, .int .u64 0, .slice none 0 0, .slice none 0 0, .slice none 0 0, .slice none 0 0, .slice none 0 0] 28) := ⟨_, rfl⟩
  have F0 : Hid (Fr [] w W0) := hid (by rw [hW0]; exact (Fr.refl _ _).alloc _)
  have n0 : W0.heap[w.heap.size]? = some (.cells #[.int .i64 0, .int .i64 0, .int .u64 0, .slice none 0 0, .slice none 0 0, .slice none 0 0, .slice none 0 0, .slice none 0 0] 28 (0, 0)) := by rw [hW0]; exact blk_new _ _
  obtain ⟨z0, z1, z2, z3, z4, z5, z6, z7⟩ := vz_cells n0
  clear n0
  go_enter Tryz.func49, Tryz.ntmps49
  go_upto_region 1 with fail
  rw [← hW0]
  clear hW0
  go_wp2_with fail
  clear z0 z1 z2 z3 z4 z5 z6 z7
  go_loopw [11] (fun v11 wr => ∃ i : Nat, i ≤ 5 ∧ v11 = .int .i64 (i : Int) ∧ Fr [] w wr) (fun v11 _ => 5 - (intOf v11).toNat)
  case atStart => exact ⟨0, by omega, rfl, F0.out⟩
  case round =>
    obtain ⟨i, hi, rfl, hf⟩ := hrel
    have HF := hid hf
    clear hf
    by_cases hlt : i < 5
    · have hlt' : (i : Int) < 5 := by omega
      have ixi := hix i hlt
      clear hix
      obtain ⟨W1, h1⟩ : ∃ W, W = wr := ⟨_, rfl⟩
      subst h1
      go_wp2_with fail
      go_loopw [16] (fun v16 wr => v16 = .int .i64 0 ∧ Fr [] w wr) (fun _ _ => 0)
      case atStart => exact ⟨rfl, HF.out⟩
      case round =>
        obtain ⟨rfl, hf⟩ := hrel
        have HF2 := hid hf
        clear hf
        go_wp2_with fail
        go_roundw
        case rel => exact ⟨i + 1, by omega, by go_num, HF2.out⟩
        case measure => simp [intOf]; omega
    · have hin : i = 5 := by omega
      subst hin
      go_wp2
      go_ret
      exact ⟨rfl, HF.out⟩
theorem orderOf_c (w : World) (n : Int) : Calls Tryz.prog 33 #[.int .i64 n] w fun r w' => (∃ v, r = .returned v) ∧ w' = w := by
  by_cases h : n = 0
  · subst h
    go_enter Tryz.func33, Tryz.ntmps33
    go_wp2
    go_ret
    exact ⟨⟨_, rfl⟩, rfl⟩
  · go_enter Tryz.func33, Tryz.ntmps33
    go_wp2
    go_ret
    exact ⟨⟨_, rfl⟩, rfl⟩
set_option maxRecDepth 20000 in
set_option maxHeartbeats 3200000 in
theorem inOrder0_c (w : World) (n : Int) : Calls Tryz.prog 50 #[.int .i64 n, .slice none 0 0] w fun r w' => r = .returned (.bool true) ∧ Fr [] w w' := by
  have OC := hid (orderOf_c w n)
  go_enter Tryz.func50, Tryz.ntmps50
  go_wp2_with (go_at_call 33; refine OC.out.mono ?_; rintro r W1 ⟨⟨v, rfl⟩, h⟩; rw [h]; clear h)
  go_loopw [6] (fun v6 wr => v6 = .int .i64 1 ∧ Fr [] w wr) (fun _ _ => 0)
  case atStart => exact ⟨rfl, Fr.refl _ _⟩
  case round =>
    obtain ⟨rfl, hf⟩ := hrel
    have HF := hid hf
    clear hf
    go_wp2
    go_ret
    exact ⟨rfl, HF.out⟩
set_option maxRecDepth 20000 in
set_option maxHeartbeats 3200000 in
theorem check0_c (w : World) : Calls Tryz.prog 21 #[.agg #[.int .i64 0, .int .i64 0, .int .u64 0, .slice none 0 0, .slice none 0 0, .slice none 0 0, .slice none 0 0, .slice none 0 0]] w fun r w' => r = .returned (.int .i64 0) ∧ Fr [] w w' := by
  have hix : ∀ (i : Nat), i < 5 → ∀ W : World, (Instr.index 26 (.agg #[.slice none 0 0, .slice none 0 0, .slice none 0 0, .slice none 0 0, .slice none 0 0]) (.int .i64 (i : Int))).run Tryz.prog W = .ok (.slice none 0 0) W := fun i hi W => ix5 hi W
  have hmm : ∀ (t : TypeId) (w : World), (Instr.makeMap t none).run Tryz.prog w = .ok (.map (some w.heap.size)) (w.alloc (.map #[] 0)) := fun _ _ => rfl
  have hmf : ∀ (fn : Fn) (first cap : Array Value) (w : World), (Instr.makeFunc fn first cap).run Tryz.prog w = .ok (.func fn first cap) w := fun _ _ _ _ => rfl
  obtain ⟨W0, hW0⟩ : ∃ W0, W0 = w.alloc (.cells #[.int .i64 0, .int .i64 0, .int .u64 0, .slice none 0 0, .slice none 0 0, .slice none 0 0, .slice none 0 0, .slice none 0 0] 28) := ⟨_, rfl⟩
  have F0 : Hid (Fr [] w W0) := hid (by rw [hW0]; exact (Fr.refl _ _).alloc _)
  have n0 : Hid (W0.heap[w.heap.size]? = some (.cells #[.int .i64 0, .int .i64 0, .int .u64 0, .slice none 0 0, .slice none 0 0, .slice none 0 0, .slice none 0 0, .slice none 0 0] 28 (0, 0))) := hid (by rw [hW0]; exact blk_new _ _)
  have EA : Hid (∀ W h, _) := hid (fun W h => each0_c W h)
  have HH : Hid (∀ W, _) := hid (fun W => head_c W 0 0 0)
  have hk : okH 0 0 0 = true := by decide
  rw [hk] at HH
  simp only [Int.natCast_zero] at HH
  clear hk
  obtain ⟨W1, hW1⟩ : ∃ W1, W1 = (W0.alloc (.map #[] 0)).alloc (.cells #[.map (some W0.heap.size)] 100) := ⟨_, rfl⟩
  have F1 : Hid (Fr [] W0 W1) := hid (by rw [hW1]; exact ((Fr.refl _ _).alloc _).alloc _)
  go_enter Tryz.func21, Tryz.ntmps21
  go_upto_region 1 with fail
  rw [← hW0]
  clear hW0
  go_upto_region 2 with fail
  rw [← hW1]
  clear hW1
  obtain ⟨z0, z1, z2, z3, z4, z5, z6, z7⟩ := vz_cells (F1.out.at n0.out (by simp))
  have CK : Hid (∀ W : World, Fr [] W0 W → _) := hid (fun W fr => vz_cells (fr.at n0.out (by simp)))
  go_upto_region 6 with (first
    | (go_at_call 46; refine (HH.out _).mono ?_; rintro r W2 ⟨rfl, h⟩; rw [h]; clear h)
    | (go_at_call 49; refine (EA.out _ _).mono ?_; rintro r W3 ⟨rfl, f3⟩; have F3 := hid (F1.out.trans f3); clear f3))
  clear z0 z1 z2 z3 z4 z5 z6 z7
  obtain ⟨z0, z1, z2, z3, z4, z5, z6, z7⟩ := CK.out W3 F3.out
  go_upto_region 8 with (go_at_call 49; refine (EA.out _ _).mono ?_; rintro r W4 ⟨rfl, f4⟩; have F4 := hid (F3.out.trans f4); clear f4)
  clear z0 z1 z2 z3 z4 z5 z6 z7
  obtain ⟨z0, z1, z2, z3, z4, z5, z6, z7⟩ := CK.out W4 F4.out
  go_upto_region 10 with (go_at_call 49; refine (EA.out _ _).mono ?_; rintro r W5 ⟨rfl, f5⟩; have F5 := hid (F4.out.trans f5); clear f5)
  clear z0 z1 z2 z3 z4 z5 z6 z7
  obtain ⟨z0, z1, z2, z3, z4, z5, z6, z7⟩ := CK.out W5 F5.out
  go_wp2_with fail
  clear z0 z1 z2 z3 z4 z5 z6 z7 CK EA HH
  go_loopw [37] (fun v37 wr => ∃ i : Nat, i ≤ 5 ∧ v37 = .int .i64 (i : Int) ∧ Fr [] w wr) (fun v37 _ => 5 - (intOf v37).toNat)
  case atStart => exact ⟨0, by omega, rfl, F0.out.trans F5.out⟩
  case round =>
    obtain ⟨i, hi, rfl, hf⟩ := hrel
    have HF := hid hf
    clear hf
    by_cases hlt : i < 5
    · have hlt' : (i : Int) < 5 := by omega
      have ixi := hix i hlt
      clear hix
      have IO := hid (inOrder0_c wr (i : Int))
      go_wp2_with (go_at_call 50; refine IO.out.mono ?_; rintro r W6 ⟨rfl, f6⟩; have F6 := hid f6; clear f6)
      go_roundw
      case rel => exact ⟨i + 1, by omega, by go_num, HF.out.trans F6.out⟩
      case measure => simp [intOf]; omega
    · have hin : i = 5 := by omega
      subst hin
      go_wp2
      go_ret
      exact ⟨rfl, HF.out⟩
end Go.Proofs.YtegbngbhmgbocaaGreatDoor
namespace Go.Proofs.YtegbngbhmgbocaaGreatDoor
open Go.ChangeShapes Go.WideShapes Go.ChangeAt Go.RowKit

theorem upd0 {W : World} {r : Nat} (h : W.heap[r]? = some (.map #[] 0)) (v : Value) : (Instr.mapUpdate 117 (.map (some r)) (.agg #[.int .i64 0, .int .i64 1]) v).run Tryz.prog W = .ok () (ChangeMaps.setBlock W r (.map #[⟨.agg #[.int .i64 0, .int .i64 1], v, 0⟩] 1)) := by
  have hc : ∀ W, (Instr.checkKey false 10000 45 (.agg #[.int .i64 0, .int .i64 1])).run Tryz.prog W = .ok () W := fun W => by kernel_rfl
  have hk : ∀ W, (Instr.findKey 45 (.agg #[.int .i64 0, .int .i64 1]) []).run Tryz.prog W = .ok none W := fun W => by kernel_rfl
  simp [Instr.mapUpdate, run_underlying Tryz.underlying117, show (getObj r).run Tryz.prog W = .ok (.map #[] 0) W from by simp [getObj, Sem.run, h], hc, hk, setObj, Sem.run, h, ChangeMaps.setBlock]
theorem map_new (w : World) {k : Nat} (hk : w.heap.size = k) : (w.alloc (.map #[] 0)).heap[k]? = some (.map #[] 0) := by
  subst hk
  exact Array.getElem?_push_size
theorem sb_ne (w : World) {m k : Nat} (o : Obj) (h : k ≠ m) : (ChangeMaps.setBlock w m o).heap[k]? = w.heap[k]? := by
  simp [ChangeMaps.setBlock, Ne.symm h]
theorem sb_fr {a b : World} (h : Fr [] a b) {p : Nat} (o : Obj) (hp : a.heap.size ≤ p) : Fr [] a (ChangeMaps.setBlock b p o) :=
  ⟨h.os, h.tape, h.output, by simpa [ChangeMaps.setBlock] using h.size, fun k hk hn => by
    rw [sb_ne _ _ (by omega)]; exact h.block k hk hn⟩
theorem ret_ct9 {fn : Func} {p u : Tmp} {ty : TypeId} (h : fn.results = #[.cell p ty, .tmp u]) {tmps : Array Value} {w : World} {g : Nat} {cs : Array Value} (hp : tmps.getD p undef = .pointer (some ⟨g, 0, none⟩)) (hg : (loadVar ty ⟨g, 0, none⟩).run Tryz.prog w = .ok (.agg cs) w) :
    (results fn tmps).run Tryz.prog w = .ok (.tuple #[.agg cs, tmps.getD u undef]) w := by
  have hp' : tmps[p]?.getD undef = .pointer (some ⟨g, 0, none⟩) := by simpa using hp
  simp [results, h, hp', asAddr, hg]
theorem size5 : (Tryz.prog.info? 26).map (·.size) = some 5 := by kernel_rfl
theorem load5 {w : World} {g : Nat} {t : TypeId} (hg : w.heap[g]? = some (.cells #[.slice none 0 0, .slice none 0 0, .slice none 0 0, .slice none 0 0, .slice none 0 0] t (0, 0))) : (loadVar 26 ⟨g, 0, none⟩).run Tryz.prog w = .ok (.agg #[.slice none 0 0, .slice none 0 0, .slice none 0 0, .slice none 0 0, .slice none 0 0]) w :=
  run_loadVar_row w g t 26 #[.slice none 0 0, .slice none 0 0, .slice none 0 0, .slice none 0 0, .slice none 0 0] (0, 0) _ hg Tryz.underlying26 rfl size5
/-- Two rows of five lists beside the call's map. -/
structure Wi (w wr : World) : Prop where
  n0 : wr.heap[w.heap.size]? = some (.cells #[.slice none 0 0, .slice none 0 0, .slice none 0 0, .slice none 0 0, .slice none 0 0] 26 (0, 0))
  n1 : wr.heap[w.heap.size + 1]? = some (.cells #[.slice none 0 0, .slice none 0 0, .slice none 0 0, .slice none 0 0, .slice none 0 0] 26 (0, 0))
  fr : Fr [] w wr
theorem Wi.fr' {w wr W : World} (h : Wi w wr) (f : Fr [] wr W) : Wi w W := ⟨f.at h.n0 (by simp), f.at h.n1 (by simp), h.fr.trans f⟩
theorem Wi.sb {w wr : World} (h : Wi w wr) (o : Obj) : Wi w (ChangeMaps.setBlock wr (w.heap.size + 1 + 1) o) := ⟨by rw [sb_ne _ _ (by omega)]; exact h.n0, by rw [sb_ne _ _ (by omega)]; exact h.n1, sb_fr h.fr _ (by omega)⟩
set_option maxRecDepth 20000 in
set_option maxHeartbeats 3200000 in
theorem without0_c (w : World) (b : Nat) (hb : w.heap[b]? = some (.cells #[.int .i64 0, .int .i64 1] 45 (0, 0))) : Calls Tryz.prog 31 #[.agg #[.slice none 0 0, .slice none 0 0, .slice none 0 0, .slice none 0 0, .slice none 0 0], .slice (some ⟨b, 0, none⟩) 1 1] w fun r w' => r = .returned (.tuple #[.agg #[.slice none 0 0, .slice none 0 0, .slice none 0 0, .slice none 0 0, .slice none 0 0], .bool false]) ∧ Fr [] w w' := by
  have hix : ∀ (i : Nat), i < 5 → ∀ W : World, (Instr.index 26 (.agg #[.slice none 0 0, .slice none 0 0, .slice none 0 0, .slice none 0 0, .slice none 0 0]) (.int .i64 (i : Int))).run Tryz.prog W = .ok (.slice none 0 0) W := fun i hi W => ix5 hi W
  have hmm : ∀ (w : World), (Instr.makeMap 117 (some (.int .i64 1))).run Tryz.prog w = .ok (.map (some w.heap.size)) (w.alloc (.map #[] 0)) := fun _ => by kernel_rfl
  obtain ⟨W2, hW2⟩ : ∃ W2, W2 = ((w.alloc (.cells #[.slice none 0 0, .slice none 0 0, .slice none 0 0, .slice none 0 0, .slice none 0 0] 26)).alloc (.cells #[.slice none 0 0, .slice none 0 0, .slice none 0 0, .slice none 0 0, .slice none 0 0] 26)).alloc (.map #[] 0) := ⟨_, rfl⟩
  have n2 : Hid (Wi w W2) := hid (by
    rw [hW2]
    refine ⟨?_, ?_, (((Fr.refl _ _).alloc _).alloc _).alloc _⟩
    · exact (((Fr.refl [] _).alloc _).alloc _).at (blk_new _ _) (by simp)
    · exact ((Fr.refl [] _).alloc _).at (by have := blk_new (w.alloc (.cells #[.slice none 0 0, .slice none 0 0, .slice none 0 0, .slice none 0 0, .slice none 0 0] 26)) (.cells #[.slice none 0 0, .slice none 0 0, .slice none 0 0, .slice none 0 0, .slice none 0 0] 26); simpa using this) (by simp))
  have m2 : Hid (W2.heap[w.heap.size + 1 + 1]? = some (.map #[] 0)) := hid (by rw [hW2]; exact map_new _ (by simp))
  have HB := hid hb
  clear hb
  go_enter Tryz.func31, Tryz.ntmps31
  go_wp2_with fail
  rw [← hW2]
  clear hW2 hmm
  go_loopw [22] (fun v22 wr => ∃ i : Nat, i ≤ 1 ∧ v22 = .int .i64 (i : Int) ∧ (i = 0 → wr.heap[w.heap.size + 1 + 1]? = some (.map #[] 0)) ∧ Wi w wr) (fun v22 _ => 1 - (intOf v22).toNat)
  case atStart => exact ⟨0, by omega, rfl, fun _ => m2.out, n2.out⟩
  case round =>
    obtain ⟨i, hi, rfl, hm, hwi⟩ := hrel
    have HI := hid hwi
    clear hwi m2 n2
    rcases (show i = 0 ∨ i = 1 from by omega) with rfl | rfl
    · have x0 : wr.cell? ⟨b, 0, none⟩ = some (.int .i64 0) := by rw [blk_cell (HI.out.fr.at HB.out (by simp))]; rfl
      have x1 : wr.cell? ⟨b, 1, none⟩ = some (.int .i64 1) := by rw [blk_cell (HI.out.fr.at HB.out (by simp))]; rfl
      obtain ⟨W3, hW3⟩ : ∃ W3, W3 = wr.alloc (.cells #[.int .i64 0, .int .i64 1] 45) := ⟨_, rfl⟩
      have I3 := hid (HI.out.fr' (W := W3) (by rw [hW3]; exact (Fr.refl _ _).alloc _))
      have M3 : W3.heap[w.heap.size + 1 + 1]? = some (.map #[] 0) := by
        have h1 := hm rfl
        have hlt : w.heap.size + 1 + 1 < wr.heap.size := by
          rcases Nat.lt_or_ge (w.heap.size + 1 + 1) wr.heap.size with h | h
          · exact h
          · rw [Array.getElem?_eq_none h] at h1; cases h1
        have f3 : Fr [] wr W3 := by rw [hW3]; exact (Fr.refl _ _).alloc _
        rw [f3.block _ hlt (by simp)]; exact h1
      have y0 : W3.cell? ⟨wr.heap.size, 0, none⟩ = some (.int .i64 0) := by rw [hW3, blk_cell (blk_new _ _)]; rfl
      have y1 : W3.cell? ⟨wr.heap.size, 1, none⟩ = some (.int .i64 1) := by rw [hW3, blk_cell (blk_new _ _)]; rfl
      have hup := upd0 M3 (.agg #[])
      obtain ⟨W4, hW4⟩ : ∃ W4, W4 = ChangeMaps.setBlock W3 (w.heap.size + 1 + 1) (.map #[⟨.agg #[.int .i64 0, .int .i64 1], .agg #[], 0⟩] 1) := ⟨_, rfl⟩
      have I4 : Hid (Wi w W4) := hid (by rw [hW4]; exact I3.out.sb _)
      rw [← hW4] at hup
      clear hW4 M3 hm
      go_upto_region 5 with fail
      rw [← hW3]
      clear hW3
      go_wp2_with fail
      go_roundw
      case rel => exact ⟨1, by omega, by go_num, fun h => by omega, I4.out⟩
      case measure => simp [intOf]
    · clear hm
      have CA : Hid (∀ (W : World) (k : Nat), W.heap[k]? = some (.cells #[.slice none 0 0, .slice none 0 0, .slice none 0 0, .slice none 0 0, .slice none 0 0] 26 (0, 0)) → W.cell? ⟨k, 0, none⟩ = some (.slice none 0 0) ∧ W.cell? ⟨k, 1, none⟩ = some (.slice none 0 0) ∧ W.cell? ⟨k, 2, none⟩ = some (.slice none 0 0) ∧ W.cell? ⟨k, 3, none⟩ = some (.slice none 0 0) ∧ W.cell? ⟨k, 4, none⟩ = some (.slice none 0 0)) := hid (fun W k n => ⟨by rw [blk_cell n]; rfl, by rw [blk_cell n]; rfl, by rw [blk_cell n]; rfl, by rw [blk_cell n]; rfl, by rw [blk_cell n]; rfl⟩)
      obtain ⟨W5, hW5⟩ : ∃ W5, W5 = wr.alloc (.cells #[.slice none 0 0, .slice none 0 0, .slice none 0 0, .slice none 0 0, .slice none 0 0] 26) := ⟨_, rfl⟩
      obtain ⟨k5, hk5⟩ : ∃ k5, k5 = wr.heap.size := ⟨_, rfl⟩
      have I5 := hid (HI.out.fr' (W := W5) (by rw [hW5]; exact (Fr.refl _ _).alloc _))
      have n5 : Hid (W5.heap[k5]? = some (.cells #[.slice none 0 0, .slice none 0 0, .slice none 0 0, .slice none 0 0, .slice none 0 0] 26 (0, 0))) := hid (by rw [hW5, hk5]; exact blk_new _ _)
      have hk5' : k5 ≠ w.heap.size + 1 := by
        have := blk_lt HI.out.n1
        omega
      obtain ⟨z0, z1, z2, z3, z4⟩ := CA.out W5 _ I5.out.n0
      go_upto_region 8 with fail
      rw [← hW5, ← hk5]
      clear hW5 hk5 HI
      go_wp2_with fail
      clear z0 z1 z2 z3 z4
      go_loopw [10, 31] (fun v10 v31 wr => ∃ i : Nat, i ≤ 5 ∧ v10 = .int .i64 0 ∧ v31 = .int .i64 (i : Int) ∧ Wi w wr ∧ wr.heap[k5]? = some (.cells #[.slice none 0 0, .slice none 0 0, .slice none 0 0, .slice none 0 0, .slice none 0 0] 26 (0, 0))) (fun _ v31 _ => 5 - (intOf v31).toNat)
      case atStart => exact ⟨0, by omega, rfl, rfl, I5.out, n5.out⟩
      case round =>
        obtain ⟨i, hi, rfl, rfl, hwi, hk⟩ := hrel
        have HI := hid hwi
        have HK := hid hk
        clear hwi hk I5 n5
        by_cases hlt : i < 5
        · have hlt' : (i : Int) < 5 := by omega
          have ixi := hix i hlt
          clear hix
          obtain ⟨W6, h6⟩ : ∃ W, W = wr := ⟨_, rfl⟩
          subst h6
          go_wp2_with fail
          go_loopw [10, 37] (fun v10 v37 wr => v10 = .int .i64 0 ∧ v37 = .int .i64 0 ∧ Wi w wr ∧ wr.heap[k5]? = some (.cells #[.slice none 0 0, .slice none 0 0, .slice none 0 0, .slice none 0 0, .slice none 0 0] 26 (0, 0))) (fun _ _ _ => 0)
          case atStart => exact ⟨rfl, rfl, HI.out, HK.out⟩
          case round =>
            obtain ⟨rfl, rfl, hwi, hk⟩ := hrel
            have HI2 := hid hwi
            have HK2 := hid hk
            clear hwi hk HI HK
            go_wp2_with fail
            go_roundw
            case rel => exact ⟨i + 1, by omega, rfl, by go_num, HI2.out, HK2.out⟩
            case measure => simp [intOf]; omega
        · have hin : i = 5 := by omega
          subst hin
          obtain ⟨z0, z1, z2, z3, z4⟩ := CA.out wr _ HK.out
          obtain ⟨y0, y1, y2, y3, y4⟩ := CA.out wr _ HI.out.n1
          have qf0 := blk_frozen HI.out.n1 0
          have qf1 := blk_frozen HI.out.n1 1
          have qf2 := blk_frozen HI.out.n1 2
          have qf3 := blk_frozen HI.out.n1 3
          have qf4 := blk_frozen HI.out.n1 4
          go_wp2_with fail
          refine bodyPost_ret (ret_ct9 rfl (g := w.heap.size + 1) (by simp) (load5 (by rw [blk_set (blk_set (blk_set (blk_set (blk_set HI.out.n1 0 _) 1 _) 2 _) 3 _) 4 _]; rfl))) rfl ?_
          exact ⟨rfl, ((((HI.out.fr.set _ _ (.inr (by omega))).set _ _ (.inr (by omega))).set _ _ (.inr (by omega))).set _ _ (.inr (by omega))).set _ _ (.inr (by omega))⟩
end Go.Proofs.YtegbngbhmgbocaaGreatDoor
namespace Go.Proofs.YtegbngbhmgbocaaGreatDoor
open Go.ChangeShapes Go.WideShapes Go.ChangeAt Go.RowKit

set_option maxRecDepth 20000 in
set_option maxHeartbeats 1600000 in
theorem fresh_c (W : World) {q m : Nat} {ks : List Int} (x y : Int) (l1 l2 : Value) (qb : W.heap[q]? = some (.cells #[.map (some m)] 100 (0, 0))) (hs : SetB encN W m ks) :
    Calls Tryz.prog 47 #[.agg #[.int .i64 x, .int .i64 y, l1, l2], .pointer (some ⟨q, 0, none⟩)] W fun r W' => r = .returned (.bool (decide (x ∉ ks))) ∧ SetB encN W' m (ks ++ [x]) ∧ W'.heap[q]? = some (.cells #[.map (some m)] 100 (0, 0)) ∧ Fr [m] W W' := by
  obtain ⟨W0, hW0⟩ : ∃ W0, W0 = W.alloc (.cells #[.int .i64 x, .int .i64 y, l1, l2] 62) := ⟨_, rfl⟩
  have f0 : Fr [] W W0 := by rw [hW0]; exact (Fr.refl _ _).alloc _
  have n0 : W0.heap[W.heap.size]? = some (.cells #[.int .i64 x, .int .i64 y, l1, l2] 62 (0, 0)) := by rw [hW0]; exact blk_new _ _
  have q0 : W0.cell? ⟨q, 0, none⟩ = some (.map (some m)) := by rw [blk_cell (f0.at qb (by simp))]; rfl
  have y0 : W0.cell? ⟨W.heap.size, 0, none⟩ = some (.int .i64 x) := by rw [blk_cell n0]; rfl
  have hl : (Instr.lookup 100 (.map (some m)) (.int .i64 x) true).run Tryz.prog W0 = .ok (.tuple #[.agg #[], .bool (decide (x ∈ ks))]) W0 := (hs.fr f0).look int_ok Tryz.underlying100 zeroU x
  obtain ⟨W1, hW1⟩ : ∃ W1, W1 = W0.alloc (.cells #[] 101) := ⟨_, rfl⟩
  have f1 : Fr [] W0 W1 := by rw [hW1]; exact (Fr.refl _ _).alloc _
  obtain ⟨o, hu, hs2⟩ := ((hs.fr f0).fr f1).put int_ok Tryz.underlying100 x
  have hu' : (Instr.mapUpdate 100 (.map (some m)) (.int .i64 x) (.agg #[])).run Tryz.prog W1 = .ok () (ChangeMaps.setBlock W1 m o) := hu
  have q1 := cell_fr f1 q0
  have y1 := cell_fr f1 y0
  have hne : q ≠ m := by
    intro e
    subst e
    obtain ⟨es, cl, hb, _⟩ := hs
    rw [qb] at hb
    cases hb
  have QB : Hid ((ChangeMaps.setBlock W1 m o).heap[q]? = some (.cells #[.map (some m)] 100 (0, 0))) := hid (by rw [sb_ne _ _ hne]; exact (f0.trans f1).at qb (by simp))
  have FF : Hid (Fr [m] W (ChangeMaps.setBlock W1 m o)) := hid (by
    have f := f0.trans f1
    exact ⟨f.os, f.tape, f.output, by simpa [ChangeMaps.setBlock] using f.size, fun k hk hn => by rw [sb_ne _ _ (by simpa using hn)]; exact f.block k hk (by simp)⟩)
  have HS := hid hs2
  obtain ⟨W3, hW3⟩ : ∃ W3, W3 = ChangeMaps.setBlock W1 m o := ⟨_, rfl⟩
  rw [← hW3] at hu' QB FF HS
  have hdn : decide (x ∉ ks) = !decide (x ∈ ks) := by by_cases h : x ∈ ks <;> simp [h]
  rw [hdn]
  generalize decide (x ∈ ks) = d at *
  clear f0 n0 f1 hu hs hs2 qb hne hW3 hdn
  go_enter Tryz.func47, Tryz.ntmps47
  go_upto_region 1 with fail
  rw [← hW0]
  clear hW0
  go_upto_region 2 with fail
  rw [← hW1]
  clear hW1
  go_wp2
  go_ret
  exact ⟨rfl, HS.out, QB.out, FF.out⟩
set_option maxRecDepth 20000 in
theorem below_c (W : World) {q : Nat} (x y nx : Int) (l1 l2 : Value) (qc : W.cell? ⟨q, 1, none⟩ = some (.int .i64 nx)) :
    Calls Tryz.prog 48 #[.agg #[.int .i64 x, .int .i64 y, l1, l2], .pointer (some ⟨q, 0, none⟩)] W fun r W' => r = .returned (.bool (decide (x < nx))) ∧ Fr [] W W' := by
  obtain ⟨W0, hW0⟩ : ∃ W0, W0 = W.alloc (.cells #[.int .i64 x, .int .i64 y, l1, l2] 62) := ⟨_, rfl⟩
  have f0 : Fr [] W W0 := by rw [hW0]; exact (Fr.refl _ _).alloc _
  have n0 : W0.heap[W.heap.size]? = some (.cells #[.int .i64 x, .int .i64 y, l1, l2] 62 (0, 0)) := by rw [hW0]; exact blk_new _ _
  have q0 := cell_fr f0 qc
  have y0 : W0.cell? ⟨W.heap.size, 0, none⟩ = some (.int .i64 x) := by rw [blk_cell n0]; rfl
  have F0 := hid f0
  clear n0 f0 qc
  go_enter Tryz.func48, Tryz.ntmps48
  go_upto_region 1 with fail
  rw [← hW0]
  clear hW0
  go_wp2
  go_ret
  exact ⟨rfl, F0.out⟩
theorem orderOf_0 (w : World) : Calls Tryz.prog 33 #[.int .i64 0] w fun r w' => r = .returned (.func (.func 63) #[] #[]) ∧ w' = w := by
  go_enter Tryz.func33, Tryz.ntmps33
  go_wp2
  go_ret
  exact ⟨rfl, rfl⟩
theorem orderOf_1 (w : World) {n : Int} (h : n ≠ 0) : Calls Tryz.prog 33 #[.int .i64 n] w fun r w' => r = .returned (.func (.func 65) #[] #[]) ∧ w' = w := by
  go_enter Tryz.func33, Tryz.ntmps33
  go_wp2
  go_ret
  exact ⟨rfl, rfl⟩
set_option maxRecDepth 20000 in
theorem ord0_c (W : World) (x y x' y' : Int) (l1 l2 l1' l2' : Value) :
    Calls Tryz.prog 63 #[.agg #[.int .i64 x, .int .i64 y, l1, l2], .agg #[.int .i64 x', .int .i64 y', l1', l2']] W fun r W' => r = .returned (.int .i64 (cmpI x x')) ∧ Fr [] W W' ∧ W'.drawn = W.drawn := by
  have HC : Hid (∀ W, _) := hid (fun W => cmpi_c W x x')
  go_enter Tryz.func63, Tryz.ntmps63
  go_wp2_with (go_at_call 64; refine (HC.out _).mono ?_; rintro e w1 ⟨rfl, h⟩; rw [h]; clear h)
  go_ret
  exact ⟨rfl, ((Fr.refl _ _).alloc _).alloc _, rfl⟩
set_option maxRecDepth 20000 in
set_option maxHeartbeats 800000 in
theorem ord1_c (W : World) {f g : Fl} {la ma la' ma' : Option Addr} {lc mc lc' mc' : Nat} (hf : FRd W f la lc ma mc) (hg : FRd W g la' lc' ma' mc') (kf : isK f.least = true) (kg : isK g.least = true) :
    Calls Tryz.prog 65 #[.agg #[.int .i64 f.num, .int .i64 f.size, .slice la f.least.length lc, .slice ma f.most.length mc], .agg #[.int .i64 g.num, .int .i64 g.size, .slice la' g.least.length lc', .slice ma' g.most.length mc']] W fun r W' => r = .returned (.int .i64 (ordK f.least g.least)) ∧ Fr [] W W' ∧ W'.drawn = W.drawn := by
  obtain ⟨W0, hW0⟩ : ∃ W0, W0 = (W.alloc (.cells #[.int .i64 f.num, .int .i64 f.size, .slice la f.least.length lc, .slice ma f.most.length mc] 62)).alloc (.cells #[.int .i64 g.num, .int .i64 g.size, .slice la' g.least.length lc', .slice ma' g.most.length mc'] 62) := ⟨_, rfl⟩
  have f0 : Fr [] W W0 := by rw [hW0]; exact ((Fr.refl _ _).alloc _).alloc _
  have n0 : W0.heap[W.heap.size]? = some (.cells #[.int .i64 f.num, .int .i64 f.size, .slice la f.least.length lc, .slice ma f.most.length mc] 62 (0, 0)) := by rw [hW0, blk_old _ _ (by simp)]; exact blk_new _ _
  have n1 : W0.heap[W.heap.size + 1]? = some (.cells #[.int .i64 g.num, .int .i64 g.size, .slice la' g.least.length lc', .slice ma' g.most.length mc'] 62 (0, 0)) := by rw [hW0]; exact new_at _ _ (by simp)
  obtain ⟨y0, y1, y2, y3⟩ := fl_cells n0
  obtain ⟨x0, x1, x2, x3⟩ := fl_cells n1
  have HC := hid (compare_g W0 (hf.rl.fr f0) hf.bl kf (hg.rl.fr f0) hg.bl kg)
  have F0 := hid f0
  have D0 : Hid (W0.drawn = W.drawn) := hid (by rw [hW0]; rfl)
  clear n0 n1 f0 hf hg
  generalize f.least.length = ll at *
  generalize g.least.length = lg at *
  go_enter Tryz.func65, Tryz.ntmps65
  go_upto_region 1 with fail
  rw [← hW0]
  clear hW0
  go_wp2_with (go_at_call 66; refine HC.out.mono ?_; rintro e w1 ⟨rfl, f1, d1⟩; have F1 := hid f1; have D1 := hid d1; clear f1 d1)
  go_ret
  exact ⟨rfl, F0.out.trans F1.out, D1.out.trans D0.out⟩
set_option maxRecDepth 20000 in
set_option maxHeartbeats 1600000 in
theorem reaches_c (W : World) {f g : Fl} {la ma la' ma' : Option Addr} {lc mc lc' mc' : Nat} (hf : FRd W f la lc ma mc) (hg : FRd W g la' lc' ma' mc') (kf : isK f.most = true) (kg : isK g.least = true) :
    Calls Tryz.prog 78 #[.agg #[.int .i64 f.num, .int .i64 f.size, .slice la f.least.length lc, .slice ma f.most.length mc], .agg #[.int .i64 g.num, .int .i64 g.size, .slice la' g.least.length lc', .slice ma' g.most.length mc']] W fun r W' => r = .returned (.bool (reachF f g)) ∧ Fr [] W W' := by
  obtain ⟨W0, hW0⟩ : ∃ W0, W0 = (W.alloc (.cells #[.int .i64 f.num, .int .i64 f.size, .slice la f.least.length lc, .slice ma f.most.length mc] 62)).alloc (.cells #[.int .i64 g.num, .int .i64 g.size, .slice la' g.least.length lc', .slice ma' g.most.length mc'] 62) := ⟨_, rfl⟩
  have f0 : Fr [] W W0 := by rw [hW0]; exact ((Fr.refl _ _).alloc _).alloc _
  have n0 : W0.heap[W.heap.size]? = some (.cells #[.int .i64 f.num, .int .i64 f.size, .slice la f.least.length lc, .slice ma f.most.length mc] 62 (0, 0)) := by rw [hW0, blk_old _ _ (by simp)]; exact blk_new _ _
  have n1 : W0.heap[W.heap.size + 1]? = some (.cells #[.int .i64 g.num, .int .i64 g.size, .slice la' g.least.length lc', .slice ma' g.most.length mc'] 62 (0, 0)) := by rw [hW0]; exact new_at _ _ (by simp)
  obtain ⟨y0, y1, y2, y3⟩ := fl_cells n0
  obtain ⟨x0, x1, x2, x3⟩ := fl_cells n1
  have HC := hid (Split_yes W0 (hf.rm.fr f0) hf.bm kf)
  have HD : Hid (∀ W', Fr [] W0 W' → _) := hid (fun W' f => Split_yes W' ((hg.rl.fr f0).fr f) hg.bl kg)
  have HU : Hid (By (userL f.most)) := hid (hf.bm.take _)
  have HV : Hid (By (userL g.least)) := hid (hg.bl.take _)
  have F0 := hid f0
  obtain ⟨R, hR⟩ : ∃ R, R = cmpN (userL f.most) (userL g.least) := ⟨_, rfl⟩
  have HR := hid hR
  have hq : reachF f g = decide (0 ≤ R) := by unfold reachF; rw [hR]
  rw [hq]
  clear n0 n1 f0 hf hg hq hR
  generalize f.most.length = lm at *
  generalize g.least.length = lg at *
  go_enter Tryz.func78, Tryz.ntmps78
  go_upto_region 1 with fail
  rw [← hW0]
  clear hW0
  go_upto_region 2 with (go_at_call 102; refine HC.out.mono ?_; rintro e w1 ⟨v1, rfl, o1, f1⟩; obtain ⟨a1, c1, rfl, _⟩ := ownsRow_slice o1; have R1 := hid (Rd.ownB o1); have F1 := hid f1; clear o1)
  have x2 := cell_fr F1.out x2
  clear f1 HC y0 y1 y2 y3
  have HE := hid (HD.out w1 F1.out)
  clear HD
  go_upto_region 3 with (go_at_call 102; refine HE.out.mono ?_; rintro e w2 ⟨v2, rfl, o2, f2⟩; obtain ⟨a2, c2, rfl, _⟩ := ownsRow_slice o2; have R2 := hid (Rd.ownB o2); have F2 := hid f2; clear o2)
  clear f2
  have CP := hid (bcmp_c (R1.out.fr F2.out) R2.out HU.out HV.out)
  rw [← HR.out] at CP
  clear x2 HE R1 R2 HR
  go_wp2_with (go_at_call 103; refine CP.out.mono ?_; rintro e w3 ⟨rfl, h⟩; rw [h]; clear h)
  go_ret
  exact ⟨rfl, (F0.out.trans F1.out).trans F2.out⟩
end Go.Proofs.YtegbngbhmgbocaaGreatDoor
