/-
  A table built.
-/
import Derived.Test.YtobdegmlijnogaaJ32
import Derived.Test.YtobdegmlijnogaaXD
import Derived.Test.YtobdegmlijnogaaJ25
namespace Go.Proofs.Ytobdegmlijnogaa
open Go.ChangeShapes Go.WideShapes Go.ChangeAt Go.RowKit

theorem check_ok (w : World) {b r i t : Int} (h : PlanOk b r i t) : Calls Try.prog 21 #[.agg #[.int .i64 b, .int .i64 r, .int .i64 i, .int .i64 t]] w fun e w' => e = .returned (.int .i64 0) ∧ Fr [] w w' := by
  refine (check_c w b r i t).mono ?_
  rintro e w' ⟨⟨rfl, _⟩ | ⟨_, hx⟩, f⟩
  · exact ⟨rfl, f⟩
  · exact absurd h hx
set_option maxRecDepth 20000 in
set_option maxHeartbeats 1600000 in
theorem tbuild_plan (w : World) {a : Option Addr} {n c : Nat} (b r i t : Int) (h : ¬ PlanOk b r i t) :
    Calls Try.prog 9 #[.slice a n c, .agg #[.int .i64 b, .int .i64 r, .int .i64 i, .int .i64 t]] w fun e w' => e = .returned (.tuple #[.slice none 0 0, .int .i64 82]) ∧ Fr [] w w' := by
  have HN := hid h
  clear h
  go_enter Try.func9, Try.ntmps9
  go_wp2_with (go_at_call 21; refine (check_c _ b r i t).mono ?_; rintro e w1 ⟨hq, f1⟩; rcases hq with ⟨rfl, hx⟩ | ⟨rfl, hx⟩; exact absurd hx HN.out; have F1 := hid f1; clear f1 hx)
  go_ret2
  exact ⟨rfl, ((Fr.refl _ _).alloc _).trans F1.out⟩
set_option maxRecDepth 20000 in
set_option maxHeartbeats 1600000 in
theorem tbuild_none (w : World) {a : Option Addr} {c : Nat} (b r i t : Int) (h : PlanOk b r i t) :
    Calls Try.prog 9 #[.slice a 0 c, .agg #[.int .i64 b, .int .i64 r, .int .i64 i, .int .i64 t]] w fun e w' => e = .returned (.tuple #[.slice none 0 0, .int .i64 83]) ∧ Fr [] w w' := by
  have HN := hid h
  clear h
  go_enter Try.func9, Try.ntmps9
  go_wp2_with (go_at_call 21; refine (check_ok _ HN.out).mono ?_; rintro e w1 ⟨rfl, f1⟩; have F1 := hid f1; clear f1)
  go_ret2
  exact ⟨rfl, ((Fr.refl _ _).alloc _).trans F1.out⟩
set_option maxRecDepth 20000 in
set_option maxHeartbeats 1600000 in
theorem tbuild_order (w : World) {v : Value} {ps : Ps} (h : RdK w v ps) (hl : ps.length ≤ 1000000) (h0 : ps ≠ []) (b r i t : Int) (hp : PlanOk b r i t) (hr : ¬ Rises ps) :
    Calls Try.prog 9 #[v, .agg #[.int .i64 b, .int .i64 r, .int .i64 i, .int .i64 t]] w fun e w' => e = .returned (.tuple #[.slice none 0 0, .int .i64 70]) ∧ Fr [] w w' := by
  have HN := hid hp
  have HR := hid hr
  have hpos := List.length_pos_iff.2 h0
  have HK := hid h
  obtain ⟨rn, rfl⟩ : ∃ rn : Nat, r = (rn : Int) := ⟨r.toNat, by have := hp.r0; omega⟩
  have hr1 := hp.r0
  have hr2 := hp.r1
  obtain ⟨a, c, rfl, hc, _⟩ := h
  clear hp hr h0
  obtain ⟨n, hn⟩ : ∃ n, n = ps.length := ⟨_, rfl⟩
  have HNN := hid hn
  rw [← hn] at hl hpos hc HK ⊢
  clear hn
  have hz : ((n : Int) == 0) = false := by rw [beq_eq_false_iff_ne]; omega
  go_enter Try.func9, Try.ntmps9
  have BX : Hid (∀ w1, Fr [] (w.alloc (.cells #[.int .i64 b, .int .i64 (rn : Int), .int .i64 i, .int .i64 t] 24)) w1 → w1.cell? ⟨w.heap.size, 1, none⟩ = some (.int .i64 (rn : Int))) := hid (fun w1 f => by rw [blk_cell (f.at (blk_new _ _) (by simp))]; rfl)
  go_wp2_with (first
    | (go_at_call 21; refine (check_ok _ HN.out).mono ?_; rintro e w1 ⟨rfl, f1⟩; have c1 := BX.out _ f1; have F1 := hid (((Fr.refl [] w).alloc _).trans f1); clear f1)
    | (go_at_call 22; refine (build_order w1 (HK.out.fr F1.out) (by rw [← HNN.out]; exact hl) rn (by omega) (by omega) HR.out).mono ?_; rintro e w2 ⟨rfl, f2⟩; have F2 := hid (F1.out.trans f2); clear f2))
  go_ret2
  exact ⟨rfl, F2.out⟩

theorem fltL_bd {bits : Nat} {rs : List (List Nat)} (hb : bits ≤ 64) (hn : rs.length ≤ 1000000) : (fltL bits rs).length ≤ 8000010 := by
  rw [fltL_len]; unfold fL
  have : bits * rs.length ≤ 64 * 1000000 := Nat.mul_le_mul hb hn
  omega
set_option maxRecDepth 20000 in
set_option maxHeartbeats 6400000 in
theorem tbuild_ok (w : World) {v : Value} {ps : Ps} (h : RdK w v ps) (hl : Lim ps) (h0 : ps ≠ []) (b r i : Nat) (t : Int) (hp : PlanOk b r i t) (hr : Rises ps) :
    Calls Try.prog 9 #[v, .agg #[.int .i64 (b : Int), .int .i64 (r : Int), .int .i64 (i : Int), .int .i64 t]] w fun e w' => ∃ v', e = .returned (.tuple #[v', .int .i64 0]) ∧ w'.ownsRow w.heap.size 5 1 v' (tblL r b i ps).length (bv (tblL r b i ps)) ∧ Fr [] w w' := by
  have HN := hid hp
  have HR := hid hr
  have HL := hid hl
  have hpos := List.length_pos_iff.2 h0
  have HK := hid h
  have hr1 := hp.r0
  have hr2 := hp.r1
  have hb2 := hp.b1
  have hi1 := hp.i0
  have hi2 := hp.i1
  have hn0 := hl.n
  obtain ⟨a, c, rfl, hc, _⟩ := h
  clear hp hr h0 hl
  obtain ⟨n, hn⟩ : ∃ n, n = ps.length := ⟨_, rfl⟩
  have HNN := hid hn
  rw [← hn] at hn0 hpos hc HK ⊢
  clear hn
  have hz : ((n : Int) == 0) = false := by rw [beq_eq_false_iff_ne]; omega
  obtain ⟨W0, hW0⟩ : ∃ W0, W0 = w.alloc (.cells #[.int .i64 (b : Int), .int .i64 (r : Int), .int .i64 (i : Int), .int .i64 t] 24) := ⟨_, rfl⟩
  have F0 : Hid (Fr [] w W0) := hid (by rw [hW0]; exact (Fr.refl _ _).alloc _)
  have B0 : Hid (W0.heap[w.heap.size]? = some (.cells #[.int .i64 (b : Int), .int .i64 (r : Int), .int .i64 (i : Int), .int .i64 t] 24 (0, 0))) := hid (by rw [hW0]; exact blk_new _ _)
  have hbd := (blk_len_le (ps := ps) (r := r) (by have := HL.out.t; omega)).1
  have htl := HL.out.t
  have hnl := HL.out.n
  go_enter Try.func9, Try.ntmps9
  go_upto_region 9 with (first
    | (go_at_call 21; rw [← hW0]; refine (check_ok _ HN.out).mono ?_; rintro e w1 ⟨rfl, f1⟩; have c1 := (show w1.cell? ⟨w.heap.size, 1, none⟩ = some (.int .i64 (r : Int)) from (by rw [blk_cell (f1.at B0.out (by simp))]; rfl)); have F1 := hid f1; clear f1)
    | (go_at_call 22; refine (build_ok w1 (HK.out.fr (F0.out.trans F1.out)) hnl r (by omega) (by omega) HR.out (by omega)).mono ?_; rintro e w2 ⟨v2, rfl, _, f2⟩; have F2 := hid (F1.out.trans f2); clear f2))
  have B2 := hid (F2.out.at B0.out (by simp))
  have FW2 := hid (F0.out.trans F2.out)
  have hs0 : w.heap.size ≤ w2.heap.size := FW2.out.size
  obtain ⟨W3, hW3⟩ : ∃ W3, W3 = w2.alloc (.cells #[.slice none 0 0] 58) := ⟨_, rfl⟩
  have F3 : Hid (Fr [] w2 W3) := hid (by rw [hW3]; exact (Fr.refl _ _).alloc _)
  have T3 : Hid (Wt W3 w2.heap.size w2.heap.size (.slice none 0 0) []) := hid ⟨by rw [hW3]; exact blk_new _ _, World.ownsRow_nil _ _ _ _⟩
  have B3 := F3.out.at B2.out (by simp)
  have p0 : W3.cell? ⟨w.heap.size, 0, none⟩ = some (.int .i64 (b : Int)) := by rw [blk_cell B3]; rfl
  have p1 : W3.cell? ⟨w.heap.size, 1, none⟩ = some (.int .i64 (r : Int)) := by rw [blk_cell B3]; rfl
  have p2 : W3.cell? ⟨w.heap.size, 2, none⟩ = some (.int .i64 (i : Int)) := by rw [blk_cell B3]; rfl
  have p3 : W3.cell? ⟨w.heap.size, 3, none⟩ = some (.int .i64 t) := by rw [blk_cell B3]; rfl
  have HB3 := hid B3
  have DC := hid (dataBlocks_c w2 W3 (HK.out.fr FW2.out) F3.out w2.heap.size (Nat.le_refl _) T3.out HL.out HR.out b r (by omega) (by omega) (by omega) (i : Int) t)
  obtain ⟨D, hD⟩ : ∃ D, D = chs b ps := ⟨_, rfl⟩
  have HD := hid hD
  rw [← hD] at DC
  clear B3 c1 F1 hW0 hD
  go_upto_region 10 with fail
  rw [← hW3]
  clear hW3
  go_upto_region 11 with (go_at_call 23; refine DC.out.mono ?_; rintro e W4 ⟨iv, fv, rfl, t4, x4, f4⟩; have T4 := hid t4; have X4 := hid x4; have F4 := hid f4; have y4 := hid (f4.at B2.out (by simp)); clear t4 x4 f4)
  have SK : Hid (∀ w', Fr [] W4 w' → w'.cell? ⟨w.heap.size, 2, none⟩ = some (.int .i64 (i : Int))) := hid fun w' f => by rw [blk_cell (f.at y4.out (by simp))]; rfl
  have UC := hid (usersOf_c W4.drew (((HK.out.fr FW2.out).fr F4.out).fr (Fr.refl _ _).drew) hnl HR.out)
  have hul := usN_len ps ps.length
  obtain ⟨ia, ic, hiv, _⟩ := ownsRow_slice X4.out.choose_spec.1
  subst hiv
  clear p0 p1 p2 p3 DC
  go_region_held_law (fun w' => w'.cell? ⟨w.heap.size, 2, none⟩ = some (.int .i64 (i : Int)))
    (first | exact SK.out _ (Fr.refl [] W4).drew | exact SK.out _ F6.out | exact SK.out _ F5.out)
    (first
      | (go_at_call 25; refine UC.out.mono ?_; rintro e W5 ⟨uv, rfl, o5, f5⟩; obtain ⟨ua, uc, hu, _⟩ := o5.rd; subst hu; have O5 := hid o5; have F5 := hid ((Fr.refl [] W4).drew.trans f5); clear o5 f5)
      | (go_at_call 24; refine (filter_c W5 O5.out.rd (by omega) i (by omega) (by omega)).mono ?_; rintro e W6 ⟨fl, rfl, o6, f6⟩; have O6 := hid o6; have F6 := hid (F5.out.trans f6); have S6 := hid (show W4.heap.size ≤ W5.heap.size from F5.out.size); clear o6 f6))
  obtain ⟨fla, flc, hfl, _⟩ := ownsRow_slice O6.out
  subst hfl
  have hD := HD.out
  have LI := HL.out.idx HR.out r b
  have LD := (HL.out.dat r b).1
  have RI : Hid (Rises (idxF r 0 D)) := hid (by rw [hD]; exact idx_rises (chs_flat b ps).2 (by rw [(chs_flat b ps).1]; exact HR.out))
  have BYI : Hid (ByP (idxF r 0 D)) := hid (by rw [hD]; exact idx_by _ _ (by rw [(chs_flat b ps).1]; exact HK.out.by) (chs_flat b ps).2)
  have LF := fltL_bd (bits := i) (rs := usN ps ps.length) (by omega) (by omega)
  rw [← hD] at LI LD
  clear hD
  have hib := (blk_len_le (ps := idxF r 0 D) (r := 1) (by omega))
  have BI := hid (build_ok W6 ((X4.out.rd F4.out).fr F6.out) LI.1 1 (by omega) (by omega) RI.out (by omega))
  have BYF := hid (fltL_by i (usN ps ps.length))
  have BYX := hid (blk_by BYI.out 1)
  have hxl : (blk 1 (idxF r 0 D)).length ≤ 200000000 := by omega
  have HE : Hid (tblL r b i ps = layL (datL r D) (fltL i (usN ps ps.length)) (blk 1 (idxF r 0 D))) := hid (by unfold tblL; rw [← HD.out])
  clear UC SK hul LI hib
  generalize fltL i (usN ps ps.length) = fl at *
  generalize hxx : blk 1 (idxF r 0 D) = xl at *
  generalize hdd : datL r D = dl at *
  clear hxx hdd
  have hs4 : w2.heap.size ≤ W4.heap.size := F4.out.size
  obtain ⟨FL, hFL⟩ : ∃ FL, FL = fl.length := ⟨_, rfl⟩
  obtain ⟨XL, hXL⟩ : ∃ XL, XL = xl.length := ⟨_, rfl⟩
  obtain ⟨DL, hDL⟩ : ∃ DL, DL = dl.length := ⟨_, rfl⟩
  have HFL := hid hFL
  have HXL := hid hXL
  have HDL := hid hDL
  rw [← hFL] at LF O6 ⊢
  rw [← hXL] at hxl BI
  rw [← hDL] at LD
  clear hFL hXL hDL
  go_upto_region 13 with (go_at_call 22; refine BI.out.mono ?_; rintro e W7 ⟨ixv, rfl, o7, f7⟩; obtain ⟨xa, xc, rfl, _⟩ := ownsRow_slice o7; have O7 := hid o7; have G7 := hid f7; have F7 := hid (F6.out.trans f7); clear o7 f7)
  have T7 := hid (T4.out.fr F7.out)
  have O67 := hid (ownsRow_fr O6.out G7.out)
  rw [HFL.out] at O67
  have hs7 : w2.heap.size ≤ W7.heap.size := Nat.le_trans hs4 F7.out.size
  have hs5 : W4.heap.size ≤ W5.heap.size := F5.out.size
  have hs6 : W4.heap.size ≤ W6.heap.size := F6.out.size
  have ND1 : Hid (∀ k, (Value.slice fla fl.length flc).ownBlock = some k → fv.ownBlock ≠ some k) := hid (fun k hk e => by
    have h1 := (O67.out.lt k hk).1
    have h2 := (T4.out.own.lt k e).2
    omega)
  have SC1 := hid (sealed_c W7 hs7 T7.out O67.out ND1.out BYF.out (by rw [← HFL.out, ← HDL.out]; omega))
  rw [← HFL.out, ← HDL.out] at SC1
  obtain ⟨IA, hIA⟩ : ∃ IA, IA = (dl ++ sealL fl).length := ⟨_, rfl⟩
  have HIA := hid hIA
  have hIA2 : IA = DL + (FL + 4) := by rw [hIA, List.length_append, sealL_len, ← HFL.out, ← HDL.out]
  clear hIA
  have NX : Hid (∀ W8 v8, WtG W7 W8 w2.heap.size w2.heap.size fv v8 (dl ++ sealL fl) → Calls Try.prog 27 #[.pointer (some ⟨w2.heap.size, 0, none⟩), .slice xa XL xc] W8 fun e w' => ∃ v', e = .returned (.agg #[.int .u64 (IA : Int), .int .u64 (XL : Int)]) ∧ WtG W8 w' w2.heap.size w2.heap.size v8 v' (dl ++ sealL fl ++ sealL xl)) := hid fun W8 v8 G8 => by
    have o7 := O7.out
    rw [HXL.out] at o7
    have O78 := G8.keep o7 (own_not o7 T7.out.at' (by decide)) (fun k hk e => by have h1 := (o7.lt k hk).1; have h2 := (T4.out.own.lt k e).2; omega)
    have ND2 : ∀ k, (Value.slice xa xl.length xc).ownBlock = some k → v8.ownBlock ≠ some k := fun k hk e => by
      rcases G8.blk with q | q
      · rw [q] at e; have h1 := (o7.lt k hk).1; have h2 := (T4.out.own.lt k e).2; omega
      · have h1 := (o7.lt k hk).2; have h2 := q k e; omega
    have SC2 := sealed_c W8 (Nat.le_trans hs7 G8.fr.size) G8.wt O78 ND2 BYX.out (by rw [← HIA.out, ← HXL.out]; omega)
    rw [← HIA.out, ← HXL.out] at SC2
    exact SC2
  have FX : Hid (∀ W9 v9, Wt W9 w2.heap.size w2.heap.size v9 (dl ++ sealL fl ++ sealL xl) → w2.heap.size ≤ W9.heap.size → Calls Try.prog 26 #[.pointer (some ⟨w2.heap.size, 0, none⟩), .agg #[.int .u64 (DL : Int), .int .u64 (FL : Int)], .agg #[.int .u64 (IA : Int), .int .u64 (XL : Int)]] W9 fun e w' => (∃ u, e = .returned u) ∧ ∃ v', Wt w' w2.heap.size w2.heap.size v' (dl ++ sealL fl ++ sealL xl ++ footL DL FL IA XL) ∧ Fr (w2.heap.size :: v9.ownBlock.toList) W9 w') := hid fun W9 v9 T9 hs9 =>
    footer_c W9 hs9 T9 (by rw [List.length_append, ← HIA.out, sealL_len, ← HXL.out]; omega) DL FL IA XL (by omega) (by omega) (by omega) (by omega)
  clear SC1 BI
  have SC1 := hid (sealed_c W7 hs7 T7.out O67.out ND1.out BYF.out (by rw [← HFL.out, ← HDL.out]; omega))
  rw [← HFL.out, ← HDL.out] at SC1
  clear hIA2 LF LD hxl
  go_wp2_with (first
    | (go_at_call 26; refine (FX.out _ _ G9.out.wt (Nat.le_trans hs7 (Nat.le_trans G8.out.fr.size G9.out.fr.size))).mono ?_; rintro e W10 ⟨⟨u10, rfl⟩, v10, t10, f10⟩; have T10 := hid t10; have F10 := hid f10; have c10 := (show W10.cell? ⟨w2.heap.size, 0, none⟩ = some v10 from (by rw [blk_cell t10.at']; rfl)); clear t10 f10)
    | (go_at_call 27; refine (NX.out _ _ G8.out).mono ?_; rintro e W9 ⟨v9, rfl, g9⟩; have G9 := hid g9; clear g9)
    | (go_at_call 27; refine SC1.out.mono ?_; rintro e W8 ⟨v8, rfl, g8⟩; have G8 := hid g8; clear g8))
  go_ret2
  have eq : dl ++ sealL fl ++ sealL xl ++ footL DL FL IA XL = tblL r b i ps := by
    rw [HE.out]; unfold layL
    have e1 : IA = dl.length + fl.length + 4 := by rw [HIA.out, List.length_append, sealL_len]; omega
    rw [← HDL.out, ← HFL.out] at e1
    rw [← HDL.out, ← HFL.out, ← HXL.out, ← e1]
    simp only [List.append_assoc]
  have t10 := T10.out
  rw [eq] at t10
  have shd : ∀ {W W' : World} {v : Value}, Fr [] w2 W → (∀ k, v.ownBlock = some k → w2.heap.size ≤ k) → Fr (w2.heap.size :: v.ownBlock.toList) W W' → Fr [] w2 W' := fun f hv g =>
    ((f.mono (by simp)).trans g).shed (fun k hk hlt => by
      simp only [List.mem_cons, Option.mem_toList] at hk
      rcases hk with e | e
      · omega
      · have := hv k e; omega)
  have g7 : Fr [] w2 W7 := F4.out.trans F7.out
  have g8 := shd g7 (fun k hk => (T4.out.own.lt k hk).1) G8.out.fr
  have g9 := shd g8 (fun k hk => (G8.out.wt.own.lt k hk).1) G9.out.fr
  have g10 := shd g9 (fun k hk => (G9.out.wt.own.lt k hk).1) F10.out
  exact ⟨_, rfl, own_base t10.own hs0, FW2.out.trans g10⟩
end Go.Proofs.Ytobdegmlijnogaa
