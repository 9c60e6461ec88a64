/-
  A table built.
-/
import Derived.Test.YtnnookkcnmgbfaaGreatJ43
import Derived.Test.YtnnookkcnmgbfaaGreatJ15
import Derived.Test.YtnnookkcnmgbfaaGreatJ20
import Derived.Test.YtnnookkcnmgbfaaGreatJ24
import Derived.Test.YtnnookkcnmgbfaaGreatJ30
import Derived.Test.YtnnookkcnmgbfaaGreatJ36
namespace Go.Proofs.YtnnookkcnmgbfaaGreat
open Go.ChangeShapes Go.WideShapes Go.ChangeAt Go.RowKit

theorem check_ok (w : World) {b r i t : Int} (h : PlanOk b r i t) : Calls Tryz.prog 45 #[.agg #[.int .i64 b, .int .i64 r, .int .i64 i, .int .i64 t]] w fun e w' => e = .returned (.int .i64 0) ∧ Fr [] w w' := by
  refine (check_c w b r i t).mono ?_
  rintro e w' ⟨⟨rfl, _⟩ | ⟨_, hx⟩, f⟩
  · exact ⟨rfl, f⟩
  · exact absurd h hx
set_option maxRecDepth 20000 in
set_option maxHeartbeats 1600000 in
theorem tbuild_plan (w : World) {a : Option Addr} {n c : Nat} (b r i t : Int) (h : ¬ PlanOk b r i t) :
    Calls Tryz.prog 14 #[.slice a n c, .agg #[.int .i64 b, .int .i64 r, .int .i64 i, .int .i64 t]] w fun e w' => e = .returned (.tuple #[.slice none 0 0, .int .i64 82]) ∧ Fr [] w w' := by
  have HN := hid h
  clear h
  go_enter Tryz.func14, Tryz.ntmps14
  go_wp2_with (go_at_call 45; refine (check_c _ b r i t).mono ?_; rintro e w1 ⟨hq, f1⟩; rcases hq with ⟨rfl, hx⟩ | ⟨rfl, hx⟩; exact absurd hx HN.out; have F1 := hid f1; clear f1 hx)
  go_ret2
  exact ⟨rfl, ((Fr.refl _ _).alloc _).trans F1.out⟩
set_option maxRecDepth 20000 in
set_option maxHeartbeats 1600000 in
theorem tbuild_none (w : World) {a : Option Addr} {c : Nat} (b r i t : Int) (h : PlanOk b r i t) :
    Calls Tryz.prog 14 #[.slice a 0 c, .agg #[.int .i64 b, .int .i64 r, .int .i64 i, .int .i64 t]] w fun e w' => e = .returned (.tuple #[.slice none 0 0, .int .i64 83]) ∧ Fr [] w w' := by
  have HN := hid h
  clear h
  go_enter Tryz.func14, Tryz.ntmps14
  go_wp2_with (go_at_call 45; refine (check_ok _ HN.out).mono ?_; rintro e w1 ⟨rfl, f1⟩; have F1 := hid f1; clear f1)
  go_ret2
  exact ⟨rfl, ((Fr.refl _ _).alloc _).trans F1.out⟩
set_option maxRecDepth 20000 in
set_option maxHeartbeats 1600000 in
theorem tbuild_order (w : World) {v : Value} {ps : Ps} (h : RdK w v ps) (hl : ps.length ≤ 1000000) (h0 : ps ≠ []) (b r i t : Int) (hp : PlanOk b r i t) (hr : ¬ Rises ps) :
    Calls Tryz.prog 14 #[v, .agg #[.int .i64 b, .int .i64 r, .int .i64 i, .int .i64 t]] w fun e w' => e = .returned (.tuple #[.slice none 0 0, .int .i64 70]) ∧ Fr [] w w' := by
  have HN := hid hp
  have HR := hid hr
  have hpos := List.length_pos_iff.2 h0
  have HK := hid h
  obtain ⟨rn, rfl⟩ : ∃ rn : Nat, r = (rn : Int) := ⟨r.toNat, by have := hp.r0; omega⟩
  have hr1 := hp.r0
  have hr2 := hp.r1
  obtain ⟨a, c, rfl, hc, _⟩ := h
  clear hp hr h0
  obtain ⟨n, hn⟩ : ∃ n, n = ps.length := ⟨_, rfl⟩
  have HNN := hid hn
  rw [← hn] at hl hpos hc HK ⊢
  clear hn
  have hz : ((n : Int) == 0) = false := by rw [beq_eq_false_iff_ne]; omega
  go_enter Tryz.func14, Tryz.ntmps14
  have BX : Hid (∀ w1, Fr [] (w.alloc (.cells #[.int .i64 b, .int .i64 (rn : Int), .int .i64 i, .int .i64 t] 38)) w1 → w1.cell? ⟨w.heap.size, 1, none⟩ = some (.int .i64 (rn : Int))) := hid (fun w1 f => by rw [blk_cell (f.at (blk_new _ _) (by simp))]; rfl)
  go_wp2_with (first
    | (go_at_call 45; refine (check_ok _ HN.out).mono ?_; rintro e w1 ⟨rfl, f1⟩; have c1 := BX.out _ f1; have F1 := hid (((Fr.refl [] w).alloc _).trans f1); clear f1)
    | (go_at_call 46; refine (build_order w1 (HK.out.fr F1.out) (by rw [← HNN.out]; exact hl) rn (by omega) (by omega) HR.out).mono ?_; rintro e w2 ⟨rfl, f2⟩; have F2 := hid (F1.out.trans f2); clear f2))
  go_ret2
  exact ⟨rfl, F2.out⟩

theorem fltL_bd {bits : Nat} {rs : List (List Nat)} (hb : bits ≤ 64) (hn : rs.length ≤ 1000000) : (fltL bits rs).length ≤ 8000010 := by
  rw [fltL_len]; unfold fL
  have : bits * rs.length ≤ 64 * 1000000 := Nat.mul_le_mul hb hn
  omega
set_option maxRecDepth 20000 in
set_option maxHeartbeats 6400000 in
theorem tbuild_ok (w : World) {v : Value} {ps : Ps} (h : RdK w v ps) (hl : Lim ps) (h0 : ps ≠ []) (b r i : Nat) (t : Int) (hp : PlanOk b r i t) (hr : Rises ps) :
    Calls Tryz.prog 14 #[v, .agg #[.int .i64 (b : Int), .int .i64 (r : Int), .int .i64 (i : Int), .int .i64 t]] w fun e w' => ∃ v', e = .returned (.tuple #[v', .int .i64 0]) ∧ w'.ownsRow w.heap.size 5 1 v' (tblL r b i ps).length (bv (tblL r b i ps)) ∧ Fr [] w w' := by
  have HN := hid hp
  have HR := hid hr
  have HL := hid hl
  have hpos := List.length_pos_iff.2 h0
  have HK := hid h
  have hr1 := hp.r0
  have hr2 := hp.r1
  have hb2 := hp.b1
  have hi1 := hp.i0
  have hi2 := hp.i1
  have hn0 := hl.n
  obtain ⟨a, c, rfl, hc, _⟩ := h
  clear hp hr h0 hl
  obtain ⟨n, hn⟩ : ∃ n, n = ps.length := ⟨_, rfl⟩
  have HNN := hid hn
  rw [← hn] at hn0 hpos hc HK ⊢
  clear hn
  have hz : ((n : Int) == 0) = false := by rw [beq_eq_false_iff_ne]; omega
  obtain ⟨W0, hW0⟩ : ∃ W0, W0 = w.alloc (.cells #[.int .i64 (b : Int), .int .i64 (r : Int), .int .i64 (i : Int), .int .i64 t] 38) := ⟨_, rfl⟩
  have F0 : Hid (Fr [] w W0) := hid (by rw [hW0]; exact (Fr.refl _ _).alloc _)
  have B0 : Hid (W0.heap[w.heap.size]? = some (.cells #[.int .i64 (b : Int), .int .i64 (r : Int), .int .i64 (i : Int), .int .i64 t] 38 (0, 0))) := hid (by rw [hW0]; exact blk_new _ _)
  have hbd := (blk_len_le (ps := ps) (r := r) (by have := HL.out.t; omega)).1
  have htl := HL.out.t
  have hnl := HL.out.n
  go_enter Tryz.func14, Tryz.ntmps14
  go_upto_region 9 with (first
    | (go_at_call 45; rw [← hW0]; refine (check_ok _ HN.out).mono ?_; rintro e w1 ⟨rfl, f1⟩; have c1 := (show w1.cell? ⟨w.heap.size, 1, none⟩ = some (.int .i64 (r : Int)) from (by rw [blk_cell (f1.at B0.out (by simp))]; rfl)); have F1 := hid f1; clear f1)
    | (go_at_call 46; refine (build_ok w1 (HK.out.fr (F0.out.trans F1.out)) hnl r (by omega) (by omega) HR.out (by omega)).mono ?_; rintro e w2 ⟨v2, rfl, _, f2⟩; have F2 := hid (F1.out.trans f2); clear f2))
  have B2 := hid (F2.out.at B0.out (by simp))
  have FW2 := hid (F0.out.trans F2.out)
  have hs0 : w.heap.size ≤ w2.heap.size := FW2.out.size
  obtain ⟨W3, hW3⟩ : ∃ W3, W3 = w2.alloc (.cells #[.slice none 0 0] 99) := ⟨_, rfl⟩
  have F3 : Hid (Fr [] w2 W3) := hid (by rw [hW3]; exact (Fr.refl _ _).alloc _)
  have T3 : Hid (Wt W3 w2.heap.size w2.heap.size (.slice none 0 0) []) := hid ⟨by rw [hW3]; exact blk_new _ _, World.ownsRow_nil _ _ _ _⟩
  have B3 := F3.out.at B2.out (by simp)
  have p0 : W3.cell? ⟨w.heap.size, 0, none⟩ = some (.int .i64 (b : Int)) := by rw [blk_cell B3]; rfl
  have p1 : W3.cell? ⟨w.heap.size, 1, none⟩ = some (.int .i64 (r : Int)) := by rw [blk_cell B3]; rfl
  have p2 : W3.cell? ⟨w.heap.size, 2, none⟩ = some (.int .i64 (i : Int)) := by rw [blk_cell B3]; rfl
  have p3 : W3.cell? ⟨w.heap.size, 3, none⟩ = some (.int .i64 t) := by rw [blk_cell B3]; rfl
  have HB3 := hid B3
  have DC := hid (dataBlocks_c w2 W3 (HK.out.fr FW2.out) F3.out w2.heap.size (Nat.le_refl _) T3.out HL.out HR.out b r (by omega) (by omega) (by omega) (i : Int) t)
  obtain ⟨D, hD⟩ : ∃ D, D = chs b ps := ⟨_, rfl⟩
  have HD := hid hD
  rw [← hD] at DC
  clear B3 c1 F1 hW0 hD
  go_upto_region 10 with fail
  rw [← hW3]
  clear hW3
  go_upto_region 11 with (go_at_call 47; refine DC.out.mono ?_; rintro e W4 ⟨iv, fv, rfl, t4, x4, f4⟩; have T4 := hid t4; have X4 := hid x4; have F4 := hid f4; have y4 := hid (f4.at B2.out (by simp)); clear t4 x4 f4)
  have SK : Hid (∀ w', Fr [] W4 w' → w'.cell? ⟨w.heap.size, 2, none⟩ = some (.int .i64 (i : Int))) := hid fun w' f => by rw [blk_cell (f.at y4.out (by simp))]; rfl
  have UC := hid (usersOf_c W4.drew (((HK.out.fr FW2.out).fr F4.out).fr (Fr.refl _ _).drew) hnl HR.out)
  have hul := usN_len ps ps.length
  obtain ⟨ia, ic, hiv, _⟩ := ownsRow_slice X4.out.choose_spec.1
  subst hiv
  clear p0 p1 p2 p3 DC
  go_region_held_law (fun w' => w'.cell? ⟨w.heap.size, 2, none⟩ = some (.int .i64 (i : Int)))
    (first | exact SK.out _ (Fr.refl [] W4).drew | exact SK.out _ F6.out | exact SK.out _ F5.out)
    (first
      | (go_at_call 49; refine UC.out.mono ?_; rintro e W5 ⟨uv, rfl, o5, f5⟩; obtain ⟨ua, uc, hu, _⟩ := o5.rd; subst hu; have O5 := hid o5; have F5 := hid ((Fr.refl [] W4).drew.trans f5); clear o5 f5)
      | (go_at_call 48; refine (filter_c W5 O5.out.rd (by omega) i (by omega) (by omega)).mono ?_; rintro e W6 ⟨fl, rfl, o6, f6⟩; have O6 := hid o6; have F6 := hid (F5.out.trans f6); have S6 := hid (show W4.heap.size ≤ W5.heap.size from F5.out.size); clear o6 f6))
  obtain ⟨fla, flc, hfl, _⟩ := ownsRow_slice O6.out
  subst hfl
  have hD := HD.out
  have LI := HL.out.idx HR.out r b
  have LD := (HL.out.dat r b).1
  have RI : Hid (Rises (idxF r 0 D)) := hid (by rw [hD]; exact idx_rises (chs_flat b ps).2 (by rw [(chs_flat b ps).1]; exact HR.out))
  have BYI : Hid (ByP (idxF r 0 D)) := hid (by rw [hD]; exact idx_by _ _ (by rw [(chs_flat b ps).1]; exact HK.out.by) (chs_flat b ps).2)
  have LF := fltL_bd (bits := i) (rs := usN ps ps.length) (by omega) (by omega)
  rw [← hD] at LI LD
  clear hD
  have hib := (blk_len_le (ps := idxF r 0 D) (r := 1) (by omega))
  have BI := hid (build_ok W6 ((X4.out.rd F4.out).fr F6.out) LI.1 1 (by omega) (by omega) RI.out (by omega))
  have BYF := hid (fltL_by i (usN ps ps.length))
  have BYX := hid (blk_by BYI.out 1)
  have hxl : (blk 1 (idxF r 0 D)).length ≤ 200000000 := by omega
  have HE : Hid (tblL r b i ps = layL (datL r D) (fltL i (usN ps ps.length)) (blk 1 (idxF r 0 D))) := hid (by unfold tblL; rw [← HD.out])
  clear UC SK hul LI hib
  generalize fltL i (usN ps ps.length) = fl at *
  generalize hxx : blk 1 (idxF r 0 D) = xl at *
  generalize hdd : datL r D = dl at *
  clear hxx hdd
  have hs4 : w2.heap.size ≤ W4.heap.size := F4.out.size
  obtain ⟨FL, hFL⟩ : ∃ FL, FL = fl.length := ⟨_, rfl⟩
  obtain ⟨XL, hXL⟩ : ∃ XL, XL = xl.length := ⟨_, rfl⟩
  obtain ⟨DL, hDL⟩ : ∃ DL, DL = dl.length := ⟨_, rfl⟩
  have HFL := hid hFL
  have HXL := hid hXL
  have HDL := hid hDL
  rw [← hFL] at LF O6 ⊢
  rw [← hXL] at hxl BI
  rw [← hDL] at LD
  clear hFL hXL hDL
  go_upto_region 13 with (go_at_call 46; refine BI.out.mono ?_; rintro e W7 ⟨ixv, rfl, o7, f7⟩; obtain ⟨xa, xc, rfl, _⟩ := ownsRow_slice o7; have O7 := hid o7; have G7 := hid f7; have F7 := hid (F6.out.trans f7); clear o7 f7)
  have T7 := hid (T4.out.fr F7.out)
  have O67 := hid (ownsRow_fr O6.out G7.out)
  rw [HFL.out] at O67
  have hs7 : w2.heap.size ≤ W7.heap.size := Nat.le_trans hs4 F7.out.size
  have hs5 : W4.heap.size ≤ W5.heap.size := F5.out.size
  have hs6 : W4.heap.size ≤ W6.heap.size := F6.out.size
  have ND1 : Hid (∀ k, (Value.slice fla fl.length flc).ownBlock = some k → fv.ownBlock ≠ some k) := hid (fun k hk e => by
    have h1 := (O67.out.lt k hk).1
    have h2 := (T4.out.own.lt k e).2
    omega)
  have SC1 := hid (sealed_c W7 hs7 T7.out O67.out ND1.out BYF.out (by rw [← HFL.out, ← HDL.out]; omega))
  rw [← HFL.out, ← HDL.out] at SC1
  obtain ⟨IA, hIA⟩ : ∃ IA, IA = (dl ++ sealL fl).length := ⟨_, rfl⟩
  have HIA := hid hIA
  have hIA2 : IA = DL + (FL + 4) := by rw [hIA, List.length_append, sealL_len, ← HFL.out, ← HDL.out]
  clear hIA
  have NX : Hid (∀ W8 v8, WtG W7 W8 w2.heap.size w2.heap.size fv v8 (dl ++ sealL fl) → Calls Tryz.prog 51 #[.pointer (some ⟨w2.heap.size, 0, none⟩), .slice xa XL xc] W8 fun e w' => ∃ v', e = .returned (.agg #[.int .u64 (IA : Int), .int .u64 (XL : Int)]) ∧ WtG W8 w' w2.heap.size w2.heap.size v8 v' (dl ++ sealL fl ++ sealL xl)) := hid fun W8 v8 G8 => by
    have o7 := O7.out
    rw [HXL.out] at o7
    have O78 := G8.keep o7 (own_not o7 T7.out.at' (by decide)) (fun k hk e => by have h1 := (o7.lt k hk).1; have h2 := (T4.out.own.lt k e).2; omega)
    have ND2 : ∀ k, (Value.slice xa xl.length xc).ownBlock = some k → v8.ownBlock ≠ some k := fun k hk e => by
      rcases G8.blk with q | q
      · rw [q] at e; have h1 := (o7.lt k hk).1; have h2 := (T4.out.own.lt k e).2; omega
      · have h1 := (o7.lt k hk).2; have h2 := q k e; omega
    have SC2 := sealed_c W8 (Nat.le_trans hs7 G8.fr.size) G8.wt O78 ND2 BYX.out (by rw [← HIA.out, ← HXL.out]; omega)
    rw [← HIA.out, ← HXL.out] at SC2
    exact SC2
  have FX : Hid (∀ W9 v9, Wt W9 w2.heap.size w2.heap.size v9 (dl ++ sealL fl ++ sealL xl) → w2.heap.size ≤ W9.heap.size → Calls Tryz.prog 50 #[.pointer (some ⟨w2.heap.size, 0, none⟩), .agg #[.int .u64 (DL : Int), .int .u64 (FL : Int)], .agg #[.int .u64 (IA : Int), .int .u64 (XL : Int)]] W9 fun e w' => (∃ u, e = .returned u) ∧ ∃ v', Wt w' w2.heap.size w2.heap.size v' (dl ++ sealL fl ++ sealL xl ++ footL DL FL IA XL) ∧ Fr (w2.heap.size :: v9.ownBlock.toList) W9 w') := hid fun W9 v9 T9 hs9 =>
    footer_c W9 hs9 T9 (by rw [List.length_append, ← HIA.out, sealL_len, ← HXL.out]; omega) DL FL IA XL (by omega) (by omega) (by omega) (by omega)
  clear SC1 BI
  have SC1 := hid (sealed_c W7 hs7 T7.out O67.out ND1.out BYF.out (by rw [← HFL.out, ← HDL.out]; omega))
  rw [← HFL.out, ← HDL.out] at SC1
  clear hIA2 LF LD hxl
  go_wp2_with (first
    | (go_at_call 50; refine (FX.out _ _ G9.out.wt (Nat.le_trans hs7 (Nat.le_trans G8.out.fr.size G9.out.fr.size))).mono ?_; rintro e W10 ⟨⟨u10, rfl⟩, v10, t10, f10⟩; have T10 := hid t10; have F10 := hid f10; have c10 := (show W10.cell? ⟨w2.heap.size, 0, none⟩ = some v10 from (by rw [blk_cell t10.at']; rfl)); clear t10 f10)
    | (go_at_call 51; refine (NX.out _ _ G8.out).mono ?_; rintro e W9 ⟨v9, rfl, g9⟩; have G9 := hid g9; clear g9)
    | (go_at_call 51; refine SC1.out.mono ?_; rintro e W8 ⟨v8, rfl, g8⟩; have G8 := hid g8; clear g8))
  go_ret2
  have eq : dl ++ sealL fl ++ sealL xl ++ footL DL FL IA XL = tblL r b i ps := by
    rw [HE.out]; unfold layL
    have e1 : IA = dl.length + fl.length + 4 := by rw [HIA.out, List.length_append, sealL_len]; omega
    rw [← HDL.out, ← HFL.out] at e1
    rw [← HDL.out, ← HFL.out, ← HXL.out, ← e1]
    simp only [List.append_assoc]
  have t10 := T10.out
  rw [eq] at t10
  have shd : ∀ {W W' : World} {v : Value}, Fr [] w2 W → (∀ k, v.ownBlock = some k → w2.heap.size ≤ k) → Fr (w2.heap.size :: v.ownBlock.toList) W W' → Fr [] w2 W' := fun f hv g =>
    ((f.mono (by simp)).trans g).shed (fun k hk hlt => by
      simp only [List.mem_cons, Option.mem_toList] at hk
      rcases hk with e | e
      · omega
      · have := hv k e; omega)
  have g7 : Fr [] w2 W7 := F4.out.trans F7.out
  have g8 := shd g7 (fun k hk => (T4.out.own.lt k hk).1) G8.out.fr
  have g9 := shd g8 (fun k hk => (G8.out.wt.own.lt k hk).1) G9.out.fr
  have g10 := shd g9 (fun k hk => (G9.out.wt.own.lt k hk).1) F10.out
  exact ⟨_, rfl, own_base t10.own hs0, FW2.out.trans g10⟩
end Go.Proofs.YtnnookkcnmgbfaaGreat
namespace Go.Proofs.YtnnookkcnmgbfaaGreat
open Go.ChangeShapes Go.WideShapes Go.ChangeAt Go.RowKit

theorem chs_ne {most : Nat} {ps : Ps} (h : ps ≠ []) : chs most ps ≠ [] := by rw [chs_cons h]; simp
/-- What was built is opened as what it was built from. -/
structure TOp (r most bits : Nat) (ps : Ps) : Prop where
  op : Opn (tblL r most bits ps) (idxF r 0 (chs most ps)) 1
  dat : (tblL r most bits ps).take (fAt (tblL r most bits ps)) = datL r (chs most ps)
  flt : wn (tblL r most bits ps) (fAt (tblL r most bits ps)) (fSz (tblL r most bits ps)) = fltL bits (usN ps ps.length)
  len : (tblL r most bits ps).length ≤ 1000000000
  l44 : 44 ≤ (tblL r most bits ps).length
theorem tbl_open {r most bits : Nat} {ps : Ps} (hl : Lim ps) (hr : Rises ps) (hb : ByP ps) (h0 : ps ≠ []) (hbits : bits ≤ 64) : TOp r most bits ps := by
  have hf := chs_flat most ps
  have hD := hl.dat r most
  have hI := hl.idx hr r most
  have hn := hl.n
  have hri := idx_rises (r := r) (t := 0) hf.2 (by rw [hf.1]; exact hr)
  have hbi := idx_by (r := r) _ 0 (by rw [hf.1]; exact hb) hf.2
  have hF := fltL_bd (bits := bits) (rs := usN ps ps.length) hbits (by have := usN_len ps ps.length; omega)
  have hX := (blk_len_le (ps := idxF r 0 (chs most ps)) (r := 1) (by omega)).2
  have L := lay_open (d := datL r (chs most ps)) (f := fltL bits (usN ps ps.length)) (x := blk 1 (idxF r 0 (chs most ps))) (datL_by (by rw [hf.1]; exact hb)) (fltL_by _ _) (blk_by hbi 1) (by omega) (by omega) (by omega)
  have hlen := layL_len (datL r (chs most ps)) (fltL bits (usN ps ps.length)) (blk 1 (idxF r 0 (chs most ps)))
  refine ⟨⟨L.foot, L.sum, L.plc, L.isum, L.fsum, ?_, ?_⟩, L.dat, L.flt, ?_, ?_⟩
  · have e : Blk (blk 1 (idxF r 0 (chs most ps))) (idxF r 0 (chs most ps)) 1 := ⟨hri, by omega, by omega, rfl⟩
    have e2 := L.idx
    rw [← e2] at e
    have e3 : blk 1 (idxF r 0 (chs most ps)) = wn (tblL r most bits ps) (iAt (tblL r most bits ps)) (iSz (tblL r most bits ps)) := e2.symm
    rw [← e3]
    exact ⟨hri, by omega, by omega, rfl⟩
  · have e := L.fa
    have e3 : fAt (tblL r most bits ps) = (datL r (chs most ps)).length := e
    rw [e3]
    exact idx_spans (chs_ne h0) (by omega)
  · show (layL _ _ _).length ≤ _
    rw [hlen]; omega
  · show 44 ≤ (layL _ _ _).length
    rw [hlen]; omega
theorem lim0 : Lim ps0 := ⟨by simp [ps0], by simp [ps0, tot, kA, vA, keyL_len]⟩
theorem ps0_ne : ps0 ≠ [] := by simp [ps0]
theorem chs0 : chs 16 ps0 = [ps0] := by
  have h1 := fil_pos (most := 16) ps0_ne
  have h2 := fil_le 16 ps0
  have h3 : ps0.length = 1 := rfl
  have h4 : fil 16 ps0 = 1 := by omega
  rw [chs_cons ps0_ne, h4]; rfl
theorem idx0 : kA (idxF 1 0 [ps0]) 0 = keyL [97] 1 1 ∧ (idxF 1 0 [ps0]).length = 1 := ⟨rfl, rfl⟩
theorem us0 : usN ps0 1 = [[97]] := by
  show (if (usN ps0 0).getLast? = some (userL (kA ps0 0)) then usN ps0 0 else usN ps0 0 ++ [userL (kA ps0 0)]) = _
  rw [show usN ps0 0 = [] from rfl, if_neg (by simp), show kA ps0 0 = keyL [97] 1 1 from rfl, keyL_user]; rfl
theorem ord0 : ordK (keyL [97] 1 1) (keyL [97] 5 1) = 1 := by
  rw [ordK_key _ _ (by omega) (by omega) (by omega)]
  exact ordP_s2 (x := 0) (by decide) rfl (by omega)
theorem fnd0 : Fnd (datL 1 [ps0]) (fltL 10 (usN ps0 1)) (idxF 1 0 [ps0]) ps0 [97] 5 0 0 1 := by
  have hf := chs_flat 16 ps0
  rw [chs0] at hf
  have hby : ByP [ps0].flatten := by rw [hf.1]; exact by0
  have hri : Rises [ps0].flatten := by rw [hf.1]; exact ps0_rises
  have hld : (datL 1 [ps0]).length ≤ 142000000 := by have := (lim0.dat 1 16).1; rw [chs0] at this; exact this
  have h0 : [ps0][0]? = some ps0 := rfl
  have lk := idx_look (r := 1) (D := [ps0]) hby (by omega) h0
  have hnx := idx_nx (r := 1) (D := [ps0]) (by omega) 0 (by simp)
  have hsz := idx_sz (r := 1) (D := [ps0]) (by omega) h0
  have hle := dat_le (r := 1) (D := [ps0]) h0
  have one : ∀ (P : Nat → Bool), P 0 = true → ∀ k, k ≤ 1 → (k < 1 → P k = true) → (0 < k → P (k - 1) = false) → k = 0 := fun P h k hk _ h2 => by
    rcases Nat.lt_or_ge 0 k with h' | h'
    · have e : k = 1 := by omega
      have := h2 h'
      rw [e, show 1 - 1 = 0 from rfl, h] at this; cases this
    · omega
  have hp : (!decide (ordK (keyL [97] 1 1) (keyL [97] 5 1) < 0)) = true := by rw [ord0]; rfl
  refine ⟨datL_by hby, by omega, fltL_by _ _, ?_, idx_rises hf.2 hri, idx_by _ _ hby hf.2, by rw [idx0.2]; omega, by unfold By; decide, by simp, by omega, ?_, ?_, by rw [idx0.2]; omega, ?_, lk.1, ?_, ps0_ne, rfl, ?_, by simp [ps0], ?_⟩
  · have := fltL_bd (bits := 10) (rs := usN ps0 1) (by omega) (by rw [us0]; simp)
    omega
  · rw [us0]
    exact may_flt (bits := 10) (rs := [[97]]) (i := 0) (by simp)
  · exact one (fun k => !decide (ordK (kA (idxF 1 0 [ps0]) k) (keyL [97] 5 1) < 0)) hp
  · rw [hnx, hsz]; exact hle
  · rw [lk.2]; exact ⟨ps0_rises, by omega, by omega, rfl⟩
  · exact one (fun k => !decide (ordK (kA ps0 k) (keyL [97] 5 1) < 0)) hp
  · show userL (keyL [97] 1 1) = _
    exact keyL_user _ _ _
theorem rd_x (w : World) (x : Nat) : Rd (w.alloc (.cells #[.int .u8 (x : Int)] 5 (1, 2))) (.slice (some ⟨w.heap.size, 0, none⟩) 1 1) (bv [x]) := rd_mark w x
set_option maxRecDepth 20000 in
set_option maxHeartbeats 6400000 in
theorem known8_c (w : World) : Calls Tryz.prog 5 #[] w fun e w' => e = .returned (.bool true) ∧ Fr [] w w' := by
  have kc := fun (w : World) (C : Array Value) (n c : Nat) => Lib.run_convert_bytes_const (P := Tryz.prog) w 22 5 C n c Tryz.underlying22 Tryz.underlying5
  go_enter Tryz.func5, Tryz.ntmps5
  go_wp2_with fail
  refine (key_ok _ (rd_mark w 97) (by simp) 1 1 (by omega) (by omega)).mono ?_
  rintro e w1 ⟨kv, rfl, o1, f1⟩
  obtain ⟨ka, kcp, rfl, hkc⟩ := ownsRow_slice o1
  have O1 := hid o1
  have F1 := hid (((Fr.refl [] w).alloc (.cells #[.int .u8 97] 5 (1, 2))).trans f1)
  have hkl : (keyL [97] 1 1).length = 9 := keyL_len _ _ _
  rw [hkl] at hkc ⊢
  clear o1 f1
  obtain ⟨W2, hW2⟩ : ∃ W, W = (w1.alloc (.cells #[.int .u8 120] 5 (1, 2))).alloc (.cells #[.slice ka 9 kcp, .slice (some ⟨w1.heap.size, 0, none⟩) 1 1] 47) := ⟨_, rfl⟩
  have F12 : Fr [] w1 W2 := by rw [hW2]; exact ((Fr.refl _ _).alloc _).alloc _
  have X2 : W2.heap[w1.heap.size + 1]? = some (.cells #[.slice ka 9 kcp, .slice (some ⟨w1.heap.size, 0, none⟩) 1 1] 47 (0, 0)) := by rw [hW2]; exact new_at _ _ (by simp)
  have RX : Rd W2 (.slice (some ⟨w1.heap.size, 0, none⟩) 1 1) (bv [120]) := by rw [hW2]; exact (rd_mark w1 120).fr ((Fr.refl _ _).alloc _)
  have RKK : RdK W2 (.slice (some ⟨w1.heap.size + 1, 0, none⟩) 1 1) ps0 := by
    refine ⟨_, _, rfl, Nat.le_refl _, fun _ => ⟨_, _, rfl, fun j p hj => ?_⟩⟩
    have h0 : j = 0 := by
      rcases Nat.lt_or_ge j 1 with h | h
      · omega
      · rw [List.getElem?_eq_none (show ps0.length ≤ j from h)] at hj; cases hj
    subst h0
    have hp : (keyL [97] 1 1, [120]) = p := by simpa [ps0] using hj
    subst hp
    refine ⟨ka, kcp, some ⟨w1.heap.size, 0, none⟩, 1, ?_, ?_, ?_, RX, keyL_by (by unfold By; decide) 1 1, by unfold By; decide, by dsimp only; rw [hkl]; omega, by simp⟩
    · dsimp only; rw [blk_cell X2, hkl]; rfl
    · dsimp only; rw [blk_cell X2]; rfl
    · exact (Rd.ownB O1.out).fr F12
  have TO := tbl_open (r := 1) (most := 16) (bits := 10) lim0 ps0_rises by0 ps0_ne (by omega)
  have BO := hid (tbuild_ok W2 RKK lim0 ps0_ne 16 1 10 16 ⟨by omega, by omega, by omega, by omega, by omega, by omega, by omega, by omega⟩ ps0_rises)
  have hby := tblL_by (r := 1) (most := 16) (bits := 10) by0
  have F2 := hid (F1.out.trans F12)
  have HTO := hid TO
  have HBY := hid hby
  clear F12 X2 RX RKK O1 TO hby
  generalize htb : tblL 1 16 10 ps0 = tb at *
  have HTB := hid htb
  clear htb
  go_wp2_with fail
  rw [← hW2]
  clear hW2
  refine BO.out.mono ?_
  rintro e W3 ⟨bvv, rfl, o3, f3⟩
  rcases o3.2 with ⟨e, h0⟩ | ⟨g, cap, cur, e, _⟩
  · have := HTO.out.l44; rw [HTB.out] at this; omega
  subst e
  have F3 := hid (F2.out.trans f3)
  have OP : Hid _ := hid (open_ok W3 (Rd.ownB o3) HBY.out (by have := HTO.out.len; rw [HTB.out] at this; exact this) (by have := HTO.out.op; rw [HTB.out] at this; exact this))
  have OO := hid (Rd.ownB o3)
  clear o3 f3 BO
  go_wp2_with fail
  refine OP.out.mono ?_
  rintro e W4 ⟨p, da, dc, fa, fc, G, rfl, tab, f4⟩
  have hd := HTO.out.dat
  have hfl := HTO.out.flt
  rw [HTB.out] at hd hfl
  rw [hd, hfl, chs0, show ps0.length = 1 from rfl] at tab
  have F4 := hid (F3.out.trans f4)
  have TB := hid tab
  have RU : Hid (Rd (W4.alloc (.cells #[.int .u8 97] 5 (1, 2))) (.slice (some ⟨W4.heap.size, 0, none⟩) 1 1) (bv [97])) := hid (rd_mark W4 97)
  have FA : Hid (Fr [] W4 (W4.alloc (.cells #[.int .u8 97] 5 (1, 2)))) := hid ((Fr.refl _ _).alloc _)
  have GF := hid (get_found _ (TB.out.fr FA.out) fnd0 RU.out)
  have e1 : kA ps0 0 = keyL [97] 1 1 := rfl
  have e2 : vA ps0 0 = [120] := rfl
  rw [e1, e2, keyL_tail [97] (by omega) (by omega)] at GF
  clear tab f4 hd hfl OP OO e1 e2
  go_wp2_with fail
  refine GF.out.mono ?_
  rintro e W5 ⟨vv, rfl, rv, f5⟩
  have F5 := hid ((F4.out.trans FA.out).trans f5)
  have BC := hid (blocks_c W5 ((TB.out.fr FA.out).fr f5))
  rw [idx0.2] at BC
  have cv := run_conv rv
  have hs : strOf [120] = ⟨#[120]⟩ := by decide
  rw [hs] at cv
  obtain ⟨va, vc, hvv⟩ := rv.form
  subst hvv
  have hbeq := ba_beq (⟨#[120]⟩ : ByteArray)
  clear rv f5 GF
  go_wp2_with (go_at_call 16; refine BC.out.mono ?_; rintro e wb ⟨rfl, h⟩; rw [h]; clear h)
  go_ret
  exact ⟨rfl, F5.out⟩
end Go.Proofs.YtnnookkcnmgbfaaGreat
namespace Go.Proofs.YtnnookkcnmgbfaaGreat
open Go.ChangeShapes Go.WideShapes Go.ChangeAt Go.RowKit

set_option maxRecDepth 20000 in
set_option maxHeartbeats 3200000 in
theorem rcheck_c (w : World) (b r i t : Int) :
    Calls Tryz.prog 33 #[.agg #[.int .i64 b, .int .i64 r, .int .i64 i, .int .i64 t]] w fun e w' => (e = .returned (.int .i64 0) ∧ PlanOk b r i t ∨ e = .returned (.int .i64 82) ∧ ¬ PlanOk b r i t) ∧ Fr [] w w' := by
  by_cases c0 : b < 16
  case pos =>
    have NP := hid (show ¬ PlanOk b r i t from fun h => by have := h.b0; omega)
    go_enter Tryz.func33, Tryz.ntmps33
    go_wp2
    go_ret
    exact ⟨.inr ⟨rfl, NP.out⟩, (Fr.refl _ _).alloc _⟩
  by_cases c1 : 65536 < b
  case pos =>
    have NP := hid (show ¬ PlanOk b r i t from fun h => by have := h.b1; omega)
    go_enter Tryz.func33, Tryz.ntmps33
    go_wp2
    go_ret
    exact ⟨.inr ⟨rfl, NP.out⟩, (Fr.refl _ _).alloc _⟩
  by_cases c2 : r < 1
  case pos =>
    have NP := hid (show ¬ PlanOk b r i t from fun h => by have := h.r0; omega)
    go_enter Tryz.func33, Tryz.ntmps33
    go_wp2
    go_ret
    exact ⟨.inr ⟨rfl, NP.out⟩, (Fr.refl _ _).alloc _⟩
  by_cases c3 : 64 < r
  case pos =>
    have NP := hid (show ¬ PlanOk b r i t from fun h => by have := h.r1; omega)
    go_enter Tryz.func33, Tryz.ntmps33
    go_wp2
    go_ret
    exact ⟨.inr ⟨rfl, NP.out⟩, (Fr.refl _ _).alloc _⟩
  by_cases c4 : i < 1
  case pos =>
    have NP := hid (show ¬ PlanOk b r i t from fun h => by have := h.i0; omega)
    go_enter Tryz.func33, Tryz.ntmps33
    go_wp2
    go_ret
    exact ⟨.inr ⟨rfl, NP.out⟩, (Fr.refl _ _).alloc _⟩
  by_cases c5 : 64 < i
  case pos =>
    have NP := hid (show ¬ PlanOk b r i t from fun h => by have := h.i1; omega)
    go_enter Tryz.func33, Tryz.ntmps33
    go_wp2
    go_ret
    exact ⟨.inr ⟨rfl, NP.out⟩, (Fr.refl _ _).alloc _⟩
  by_cases c6 : t < 16
  case pos =>
    have NP := hid (show ¬ PlanOk b r i t from fun h => by have := h.t0; omega)
    go_enter Tryz.func33, Tryz.ntmps33
    go_wp2
    go_ret
    exact ⟨.inr ⟨rfl, NP.out⟩, (Fr.refl _ _).alloc _⟩
  by_cases c7 : 4194304 < t
  case pos =>
    have NP := hid (show ¬ PlanOk b r i t from fun h => by have := h.t1; omega)
    go_enter Tryz.func33, Tryz.ntmps33
    go_wp2
    go_ret
    exact ⟨.inr ⟨rfl, NP.out⟩, (Fr.refl _ _).alloc _⟩
  have OK := hid (show PlanOk b r i t from ⟨by omega, by omega, by omega, by omega, by omega, by omega, by omega, by omega⟩)
  go_enter Tryz.func33, Tryz.ntmps33
  go_wp2
  go_ret
  exact ⟨.inl ⟨rfl, OK.out⟩, (Fr.refl _ _).alloc _⟩
set_option maxRecDepth 20000 in
set_option maxHeartbeats 1600000 in
theorem user8_c {w : World} {q o c : Nat} {k : List Nat} (h8 : 8 ≤ k.length) (hl : k.length ≤ 1000000000) (hc : k.length ≤ c) :
    Calls Tryz.prog 36 #[.slice (some ⟨q, o, none⟩) k.length c] w fun e w' => e = .returned (.slice (some ⟨q, o, none⟩) (userL k).length c) ∧ w' = w := by
  have hu : (userL k).length = k.length - 8 := by unfold userL; rw [List.length_take]; omega
  rw [hu]
  generalize k.length = L at *
  have h1 : ((L : Int) - 8).toNat = L - 8 := by omega
  have h2 : (0 : Int) ≤ (L : Int) - 8 := by omega
  have h3 : (L : Int) - 8 ≤ (c : Int) := by omega
  have h4 : L - 8 ≤ c := by omega
  clear hu
  go_enter Tryz.func36, Tryz.ntmps36
  go_wp2
  go_ret
  exact ⟨rfl, rfl⟩
set_option maxRecDepth 20000 in
set_option maxHeartbeats 1600000 in
theorem summed_c (w : World) {v : Value} {b : List Nat} (hr : Rd w v (bv b)) (hb : By b) (hl : b.length ≤ 1000000000) :
    Calls Tryz.prog 39 #[v] w fun e w' => ∃ v', e = .returned v' ∧ w'.ownsRow w.heap.size 5 1 v' 4 (bv (fixL (crc b) 4)) ∧ Fr [] w w' := by
  have SC := hid (refsum_c hr hb (by omega))
  have hcr := crc_lt hb
  obtain ⟨a, c, rfl⟩ := hr.form
  clear hr hb
  generalize crc b = x at *
  have RF := hid (reffixed_c w x 4 (by omega) (by omega))
  go_enter Tryz.func39, Tryz.ntmps39
  go_wp2_with (first
    | (go_at_call 66; refine SC.out.mono ?_; rintro e w1 ⟨rfl, h⟩; rw [h]; clear h)
    | (go_at_call 41; refine RF.out.mono ?_; rintro e w1 ⟨v1, rfl, o1, f1⟩; have O1 := hid o1; have F1 := hid f1; clear o1 f1))
  go_ret
  exact ⟨_, rfl, O1.out, F1.out⟩
set_option maxRecDepth 20000 in
theorem magic8_c (w : World) : Calls Tryz.prog 21 #[] w fun e w' => ∃ v', e = .returned v' ∧ w'.ownsRow w.heap.size 5 1 v' 8 (bv magicL) ∧ Fr [] w w' := by
  go_enter Tryz.func21, Tryz.ntmps21
  go_wp2
  go_ret
  refine ⟨_, rfl, ?_, (Fr.refl _ _).alloc _⟩
  exact World.ownsRow_lit (base := w.heap.size) (e := 5) (size := 1) w #[.int .u8 109, .int .u8 111, .int .u8 114, .int .u8 97, .int .u8 105, .int .u8 110, .int .u8 101, .int .u8 49] 8 (Nat.le_refl _) (by unfold maxLen; omega) (by simp)
end Go.Proofs.YtnnookkcnmgbfaaGreat
