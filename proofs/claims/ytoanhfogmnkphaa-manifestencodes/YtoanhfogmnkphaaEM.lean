/-
  The law of the bytes of an edit, walked behind known.
-/
import Derived.Test.YtoanhfogmnkphaaEK
import Derived.Test.YtoanhfogmnkphaaJ07
namespace Go.Proofs.Ytoanhfogmnkphaa
open Go.ChangeShapes Go.WideShapes Go.ChangeAt Go.RowKit

/-- Equal rows are told equal. -/
theorem bytes_same {w : World} {v1 v2 : Value} {a : List Nat} (h1 : Rd w v1 (bv a)) (h2 : Rd w v2 (bv a)) :
    Calls Try.prog 11 #[v1, v2] w fun e w' => e = .returned (.bool true) ∧ w' = w := by
  have e1 := run_conv h1
  have e2 := run_conv h2
  have e3 : ((strOf a).toList == (strOf a).toList) = true := by rw [beq_str]; simp
  obtain ⟨a1, c1, rfl⟩ := h1.form
  obtain ⟨a2, c2, rfl⟩ := h2.form
  clear h1 h2
  go_enter Try.func11, Try.ntmps11
  go_wp2
  go_ret
  exact ⟨rfl, rfl⟩
set_option maxRecDepth 20000 in
theorem few9_c (w : World) {lg nx sq : Int} {da aa : Option Addr} {dl al dc ac : Nat} :
    Calls Try.prog 8 #[.agg #[.int .i64 lg, .int .i64 nx, .int .u64 sq, .slice da dl dc, .slice aa al ac]] w fun r w' => r = .returned (.bool (decide (dl ≤ 30) && decide (al ≤ 30))) ∧ Fr [] w w' := by
  obtain ⟨W0, hW0⟩ : ∃ W0, W0 = w.alloc (.cells #[.int .i64 lg, .int .i64 nx, .int .u64 sq, .slice da dl dc, .slice aa al ac] 26) := ⟨_, rfl⟩
  have F0 : Hid (Fr [] w W0) := hid (by rw [hW0]; exact (Fr.refl _ _).alloc _)
  have n0 : W0.heap[w.heap.size]? = some (.cells #[.int .i64 lg, .int .i64 nx, .int .u64 sq, .slice da dl dc, .slice aa al ac] 26 (0, 0)) := by rw [hW0]; exact blk_new _ _
  have z3 : W0.cell? ⟨w.heap.size, 3, none⟩ = some (.slice da dl dc) := by rw [blk_cell n0]; rfl
  have z4 : W0.cell? ⟨w.heap.size, 4, none⟩ = some (.slice aa al ac) := by rw [blk_cell n0]; rfl
  clear n0
  by_cases h1 : dl ≤ 30
  · have h1' : (dl : Int) ≤ 30 := by omega
    by_cases h2 : al ≤ 30
    · have h2' : (al : Int) ≤ 30 := by omega
      rw [decide_eq_true h1, decide_eq_true h2]
      go_enter Try.func8, Try.ntmps8
      go_upto_region 1 with fail
      rw [← hW0]
      clear hW0
      go_wp2
      go_ret
      exact ⟨rfl, F0.out⟩
    · have h2' : ¬ (al : Int) ≤ 30 := by omega
      rw [decide_eq_true h1, decide_eq_false h2]
      go_enter Try.func8, Try.ntmps8
      go_upto_region 1 with fail
      rw [← hW0]
      clear hW0
      go_wp2
      go_ret
      exact ⟨rfl, F0.out⟩
  · have h1' : ¬ (dl : Int) ≤ 30 := by omega
    rw [decide_eq_false h1, Bool.false_and]
    go_enter Try.func8, Try.ntmps8
    go_upto_region 1 with fail
    rw [← hW0]
    clear hW0
    go_wp2
    go_ret
    exact ⟨rfl, F0.out⟩
set_option maxRecDepth 20000 in
set_option maxHeartbeats 3200000 in
theorem encodes_walk (w : World) {e : Ed} {da aa : Option Addr} {dc ac : Nat} (h : EAt w e da dc aa ac) (KN : Hid (∀ W, Calls Try.prog 7 #[] W fun r W' => r = .returned (.bool true) ∧ Fr [] W W')) :
    Calls Try.prog 3 #[.agg #[.int .i64 e.log, .int .i64 e.next, .int .u64 (e.seq : Int), .slice da e.drop.length dc, .slice aa e.add.length ac]] w fun r w' => r = .returned (.bool true) ∧ Fr [] w w' := by
  obtain ⟨W0, hW0⟩ : ∃ W0, W0 = w.alloc (.cells #[.int .i64 e.log, .int .i64 e.next, .int .u64 (e.seq : Int), .slice da e.drop.length dc, .slice aa e.add.length ac] 26) := ⟨_, rfl⟩
  have F0 : Hid (Fr [] w W0) := hid (by rw [hW0]; exact (Fr.refl _ _).alloc _)
  have n0 : Hid (W0.heap[w.heap.size]? = some (.cells #[.int .i64 e.log, .int .i64 e.next, .int .u64 (e.seq : Int), .slice da e.drop.length dc, .slice aa e.add.length ac] 26 (0, 0))) := hid (by rw [hW0]; exact blk_new _ _)
  have HE := hid h
  have CC : Hid (∀ W : World, Fr [] W0 W → W.cell? ⟨w.heap.size, 0, none⟩ = some (.int .i64 e.log) ∧ W.cell? ⟨w.heap.size, 1, none⟩ = some (.int .i64 e.next) ∧ W.cell? ⟨w.heap.size, 2, none⟩ = some (.int .u64 (e.seq : Int)) ∧ W.cell? ⟨w.heap.size, 3, none⟩ = some (.slice da e.drop.length dc) ∧ W.cell? ⟨w.heap.size, 4, none⟩ = some (.slice aa e.add.length ac)) := hid (fun W fr => by
    have k := fr.at n0.out (by simp)
    exact ⟨by rw [blk_cell k]; rfl, by rw [blk_cell k]; rfl, by rw [blk_cell k]; rfl, by rw [blk_cell k]; rfl, by rw [blk_cell k]; rfl⟩)
  have FEW : Hid (∀ W, _) := hid (fun W => few9_c W (lg := e.log) (nx := e.next) (sq := (e.seq : Int)) (da := da) (dl := e.drop.length) (dc := dc) (aa := aa) (al := e.add.length) (ac := ac))
  have EG : Hid (okE e = true → e.drop.length ≤ 30 → e.add.length ≤ 30 → ∀ W, Fr [] w W → _) := hid (fun hk h1 h2 W fr => enc_ok W (h.fr fr) hk (by omega) (by omega))
  have EB : Hid (okE e = false → ∀ W, Fr [] w W → _) := hid (fun hk W fr => enc_bad W (h.fr fr) hk)
  have ER : Hid (e.drop.length ≤ 30 → e.add.length ≤ 30 → ∀ W, Fr [] w W → _) := hid (fun h1 h2 W fr => renc_c W (h.fr fr) (by omega) (by omega))
  clear h
  obtain ⟨dl, hdl⟩ : ∃ dl, dl = e.drop.length := ⟨_, rfl⟩
  obtain ⟨al, hal⟩ : ∃ al, al = e.add.length := ⟨_, rfl⟩
  unfold EncR at ER
  rw [← hdl] at hW0 n0 CC FEW EG EB ER ⊢
  rw [← hal] at hW0 n0 CC FEW EG EB ER ⊢
  clear hdl hal HE
  generalize encE e = RES at *
  generalize okE e = OKE at *
  generalize e.log = lg at *
  generalize e.next = nx at *
  generalize e.seq = sq at *
  go_enter Try.func3, Try.ntmps3
  go_upto_region 1 with fail
  rw [← hW0]
  clear hW0 n0
  go_upto_region 3 with (go_at_call 7; refine (KN.out _).mono ?_; rintro r W1 ⟨rfl, f1⟩; have F1 := hid f1; clear f1)
  obtain ⟨z0, z1, z2, z3, z4⟩ := CC.out W1 F1.out
  by_cases hfw : dl ≤ 30 ∧ al ≤ 30
  rotate_left
  · have hd : (decide (dl ≤ 30) && decide (al ≤ 30)) = false := by
      by_cases h1 : dl ≤ 30
      · by_cases h2 : al ≤ 30
        · exact absurd ⟨h1, h2⟩ hfw
        · rw [decide_eq_false h2, Bool.and_false]
      · rw [decide_eq_false h1, Bool.false_and]
    rw [hd] at FEW
    clear hd hfw
    go_wp2_with (go_at_call 8; refine (FEW.out _).mono ?_; rintro r W2 ⟨rfl, f2⟩; have F2 := hid f2; clear f2)
    go_ret
    exact ⟨rfl, (F0.out.trans F1.out).trans F2.out⟩
  obtain ⟨h1, h2⟩ := hfw
  rw [decide_eq_true h1, decide_eq_true h2] at FEW
  rw [Bool.and_self] at FEW
  go_upto_region 5 with (go_at_call 8; refine (FEW.out _).mono ?_; rintro r W2 ⟨rfl, f2⟩; have F2 := hid (F1.out.trans f2); clear f2)
  clear z0 z1 z2 z3 z4 FEW F1
  obtain ⟨z0, z1, z2, z3, z4⟩ := CC.out W2 F2.out
  cases OKE with
  | false =>
    have EB2 := hid (EB.out rfl W2 (F0.out.trans F2.out))
    have ER2 := hid (ER.out h1 h2)
    clear EB ER EG
    go_upto_region 6 with (go_at_call 9; refine EB2.out.mono ?_; rintro r W3 ⟨rfl, f3⟩; have F3 := hid (F2.out.trans f3); clear f3)
    clear z0 z1 z2 z3 z4 EB2 F2
    obtain ⟨z0, z1, z2, z3, z4⟩ := CC.out W3 F3.out
    have ER3 := hid (ER2.out W3 (F0.out.trans F3.out))
    clear ER2
    go_upto_region 7 with (go_at_call 10; refine ER3.out.mono ?_; rintro r W4 ⟨h4, f4⟩; have F4 := hid (F3.out.trans f4); clear f4; rcases h4 with ⟨h4, _⟩ | ⟨_, rfl⟩; (cases h4))
    clear z0 z1 z2 z3 z4 ER3 F3 CC
    have BY := hid (bytes_same (w := W4) (v1 := .slice none 0 0) (v2 := .slice none 0 0) (a := []) (.inl ⟨rfl, rfl⟩) (.inl ⟨rfl, rfl⟩))
    go_wp2_with (go_at_call 11; refine BY.out.mono ?_; rintro r W5 ⟨rfl, h⟩; rw [h]; clear h)
    go_ret
    exact ⟨rfl, F0.out.trans F4.out⟩
  | true =>
    have EG2 := hid (EG.out rfl h1 h2 W2 (F0.out.trans F2.out))
    have ER2 := hid (ER.out h1 h2)
    clear EB ER EG
    go_upto_region 6 with (go_at_call 9; refine EG2.out.mono ?_; rintro r W3 ⟨v3, rfl, o3, f3⟩; obtain ⟨a3, c3, hv3, _⟩ := ownsRow_slice o3; subst hv3; have F3 := hid (F2.out.trans f3); have O3 := hid (Rd.ownB o3); clear f3 o3)
    clear z0 z1 z2 z3 z4 EG2 F2
    obtain ⟨z0, z1, z2, z3, z4⟩ := CC.out W3 F3.out
    have ER3 := hid (ER2.out W3 (F0.out.trans F3.out))
    clear ER2
    go_upto_region 7 with (go_at_call 10; refine ER3.out.mono ?_; rintro r W4 ⟨h4, f4⟩; have F4 := hid (F3.out.trans f4); have O3' := hid (O3.out.fr f4); clear f4; rcases h4 with ⟨_, v4, rfl, o4⟩ | ⟨h4, _⟩; rotate_left; (cases h4); obtain ⟨a4, c4, hv4, _⟩ := ownsRow_slice o4; subst hv4; have O4 := hid (Rd.ownB o4); clear o4)
    clear z0 z1 z2 z3 z4 ER3 F3 CC O3
    have BY := hid (bytes_same (w := W4) (v1 := .slice a3 RES.length c3) (v2 := .slice a4 RES.length c4) O3'.out O4.out)
    go_wp2_with (go_at_call 11; refine BY.out.mono ?_; rintro r W5 ⟨rfl, h⟩; rw [h]; clear h)
    go_ret
    exact ⟨rfl, F0.out.trans F4.out⟩
end Go.Proofs.Ytoanhfogmnkphaa
