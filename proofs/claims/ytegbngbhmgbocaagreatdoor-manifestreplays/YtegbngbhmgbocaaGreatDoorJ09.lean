/-
  Tables and edits in memory; which may be.
-/
import Derived.Test.YtegbngbhmgbocaaGreatDoorJ08
import Derived.Test.YtegbngbhmgbocaaGreatDoorJ06
import Derived.Deep.Light
namespace Go.Proofs.YtegbngbhmgbocaaGreatDoor
open Go.ChangeShapes Go.WideShapes Go.ChangeAt Go.RowKit

theorem cell_fr {w w' : World} (f : Fr [] w w') {p : Addr} {v : Value} (h : w.cell? p = some v) : w'.cell? p = some v := by
  rw [World.cell?_of_block (w := w) (f.block _ (World.block_lt_of_cell? w _ h) (by simp))]; exact h
/-- A table's two keys. -/
structure FRd (w : World) (f : Fl) (la : Option Addr) (lc : Nat) (ma : Option Addr) (mc : Nat) : Prop where
  rl : Rd w (.slice la f.least.length lc) (bv f.least)
  rm : Rd w (.slice ma f.most.length mc) (bv f.most)
  bl : By f.least
  bm : By f.most
  ll : f.least.length ≤ 140737488355328
  lm : f.most.length ≤ 140737488355328
theorem FRd.fr {w w' : World} {f : Fl} {la ma : Option Addr} {lc mc : Nat} (h : FRd w f la lc ma mc) (g : Fr [] w w') : FRd w' f la lc ma mc := ⟨h.rl.fr g, h.rm.fr g, h.bl, h.bm, h.ll, h.lm⟩
/-- A table at a place. -/
structure FAt (w : World) (b o : Nat) (f : Fl) (la : Option Addr) (lc : Nat) (ma : Option Addr) (mc : Nat) : Prop where
  c0 : w.cell? ⟨b, o, none⟩ = some (.int .i64 f.num)
  c1 : w.cell? ⟨b, o + 1, none⟩ = some (.int .i64 f.size)
  c2 : w.cell? ⟨b, o + 2, none⟩ = some (.slice la f.least.length lc)
  c3 : w.cell? ⟨b, o + 3, none⟩ = some (.slice ma f.most.length mc)
  rd : FRd w f la lc ma mc
theorem FAt.fr {w w' : World} {b o : Nat} {f : Fl} {la ma : Option Addr} {lc mc : Nat} (h : FAt w b o f la lc ma mc) (g : Fr [] w w') : FAt w' b o f la lc ma mc := ⟨cell_fr g h.c0, cell_fr g h.c1, cell_fr g h.c2, cell_fr g h.c3, h.rd.fr g⟩
/-- A row of dropped tables. -/
def RdD (w : World) (v : Value) (gs : List (Int × Int)) : Prop := ∃ a c, v = .slice a gs.length c ∧ (0 < gs.length → ∃ b off, a = some ⟨b, off, none⟩ ∧ ∀ (j : Nat) (g : Int × Int), gs[j]? = some g → w.cell? ⟨b, off + j * 2, none⟩ = some (.int .i64 g.1) ∧ w.cell? ⟨b, off + j * 2 + 1, none⟩ = some (.int .i64 g.2))
theorem RdD.fr {w w' : World} {v : Value} {gs : List (Int × Int)} (h : RdD w v gs) (f : Fr [] w w') : RdD w' v gs := by
  obtain ⟨a, c, h1, h2⟩ := h
  refine ⟨a, c, h1, fun h0 => ?_⟩
  obtain ⟨b, off, h3, h4⟩ := h2 h0
  exact ⟨b, off, h3, fun j g hj => ⟨cell_fr f (h4 j g hj).1, cell_fr f (h4 j g hj).2⟩⟩
/-- A row of placed tables. -/
def RdA (w : World) (v : Value) (ps : List (Int × Fl)) : Prop := ∃ a c, v = .slice a ps.length c ∧ (0 < ps.length → ∃ b off, a = some ⟨b, off, none⟩ ∧ ∀ (j : Nat) (p : Int × Fl), ps[j]? = some p → w.cell? ⟨b, off + j * 5, none⟩ = some (.int .i64 p.1) ∧ ∃ la lc ma mc, FAt w b (off + j * 5 + 1) p.2 la lc ma mc)
theorem RdA.fr {w w' : World} {v : Value} {ps : List (Int × Fl)} (h : RdA w v ps) (f : Fr [] w w') : RdA w' v ps := by
  obtain ⟨a, c, h1, h2⟩ := h
  refine ⟨a, c, h1, fun h0 => ?_⟩
  obtain ⟨b, off, h3, h4⟩ := h2 h0
  refine ⟨b, off, h3, fun j p hj => ?_⟩
  obtain ⟨h5, la, lc, ma, mc, h6⟩ := h4 j p hj
  exact ⟨cell_fr f h5, la, lc, ma, mc, h6.fr f⟩
theorem isNumber_c (w : World) (n : Int) : Calls Tryz.prog 44 #[.int .i64 n] w fun e w' => e = .returned (.bool (okN n)) ∧ w' = w := by
  unfold okN
  by_cases h1 : 0 ≤ n
  · by_cases h2 : n ≤ 2147483647
    · rw [decide_eq_true h1, decide_eq_true h2]
      go_enter Tryz.func44, Tryz.ntmps44
      go_wp2
      go_ret
      exact ⟨rfl, rfl⟩
    · rw [decide_eq_true h1, decide_eq_false h2]
      go_enter Tryz.func44, Tryz.ntmps44
      go_wp2
      go_ret
      exact ⟨rfl, rfl⟩
  · rw [decide_eq_false h1, Bool.false_and]
    go_enter Tryz.func44, Tryz.ntmps44
    go_wp2
    go_ret
    exact ⟨rfl, rfl⟩
theorem isLevel_c (w : World) (n : Int) : Calls Tryz.prog 43 #[.int .i64 n] w fun e w' => e = .returned (.bool (okV n)) ∧ w' = w := by
  unfold okV
  by_cases h1 : 0 ≤ n
  · by_cases h2 : n < 5
    · rw [decide_eq_true h1, decide_eq_true h2]
      go_enter Tryz.func43, Tryz.ntmps43
      go_wp2
      go_ret
      exact ⟨rfl, rfl⟩
    · rw [decide_eq_true h1, decide_eq_false h2]
      go_enter Tryz.func43, Tryz.ntmps43
      go_wp2
      go_ret
      exact ⟨rfl, rfl⟩
  · rw [decide_eq_false h1, Bool.false_and]
    go_enter Tryz.func43, Tryz.ntmps43
    go_wp2
    go_ret
    exact ⟨rfl, rfl⟩
theorem head_c (w : World) (log next : Int) (seq : Nat) : Calls Tryz.prog 46 #[.int .i64 log, .int .i64 next, .int .u64 (seq : Int)] w fun e w' => e = .returned (.bool (okH log next seq)) ∧ w' = w := by
  unfold okH
  have N1 := hid (isNumber_c w log)
  have N2 := hid (isNumber_c w next)
  cases h1 : okN log with
  | false =>
    rw [h1] at N1
    rw [Bool.false_and]
    clear h1 N2
    go_enter Tryz.func46, Tryz.ntmps46
    go_wp2_with (go_at_call 44; refine N1.out.mono ?_; rintro e w1 ⟨rfl, h⟩; rw [h]; clear h)
    go_ret
    exact ⟨rfl, rfl⟩
  | true =>
    rw [h1] at N1
    rw [Bool.true_and]
    clear h1
    cases h2 : okN next with
    | false =>
      rw [h2] at N2
      rw [Bool.false_and]
      clear h2
      go_enter Tryz.func46, Tryz.ntmps46
      go_wp2_with (first | (go_at_call 44; have zz := N3.out; clear zz; refine N2.out.mono ?_; rintro e w1 ⟨rfl, h⟩; rw [h]; clear h) | (go_at_call 44; refine N1.out.mono ?_; rintro e w1 ⟨rfl, h⟩; rw [h]; clear h; have N3 := hid trivial))
      go_ret
      exact ⟨rfl, rfl⟩
    | true =>
      rw [h2] at N2
      rw [Bool.true_and]
      clear h2
      by_cases h3 : seq ≤ 72057594037927935
      · have h3' : (seq : Int) ≤ 72057594037927935 := by omega
        rw [decide_eq_true h3]
        go_enter Tryz.func46, Tryz.ntmps46
        go_wp2_with (first | (go_at_call 44; have zz := N3.out; clear zz; refine N2.out.mono ?_; rintro e w1 ⟨rfl, h⟩; rw [h]; clear h) | (go_at_call 44; refine N1.out.mono ?_; rintro e w1 ⟨rfl, h⟩; rw [h]; clear h; have N3 := hid trivial))
        go_ret
        exact ⟨rfl, rfl⟩
      · have h3' : (72057594037927935 : Int) < (seq : Int) := by omega
        rw [decide_eq_false h3]
        go_enter Tryz.func46, Tryz.ntmps46
        go_wp2_with (first | (go_at_call 44; have zz := N3.out; clear zz; refine N2.out.mono ?_; rintro e w1 ⟨rfl, h⟩; rw [h]; clear h) | (go_at_call 44; refine N1.out.mono ?_; rintro e w1 ⟨rfl, h⟩; rw [h]; clear h; have N3 := hid trivial))
        go_ret
        exact ⟨ret_bool (by simp; omega), rfl⟩
end Go.Proofs.YtegbngbhmgbocaaGreatDoor
namespace Go.Proofs.YtegbngbhmgbocaaGreatDoor
open Go.ChangeShapes Go.WideShapes Go.ChangeAt Go.RowKit

set_option maxRecDepth 20000 in
set_option maxHeartbeats 1600000 in
theorem file_c (w : World) {f : Fl} {la ma : Option Addr} {lc mc : Nat} (h : FRd w f la lc ma mc) :
    Calls Tryz.prog 45 #[.agg #[.int .i64 f.num, .int .i64 f.size, .slice la f.least.length lc, .slice ma f.most.length mc]] w fun e w' => e = .returned (.bool (okF f)) ∧ Fr [] w w' := by
  obtain ⟨W0, hW0⟩ : ∃ W0, W0 = w.alloc (.cells #[.int .i64 f.num, .int .i64 f.size, .slice la f.least.length lc, .slice ma f.most.length mc] 62) := ⟨_, rfl⟩
  have F0 : Hid (Fr [] w W0) := hid (by rw [hW0]; exact (Fr.refl _ _).alloc _)
  have n0 : W0.heap[w.heap.size]? = some (.cells #[.int .i64 f.num, .int .i64 f.size, .slice la f.least.length lc, .slice ma f.most.length mc] 62 (0, 0)) := by rw [hW0]; exact blk_new _ _
  have y0 : W0.cell? ⟨w.heap.size, 0, none⟩ = some (.int .i64 f.num) := by rw [blk_cell n0]; rfl
  have y1 : W0.cell? ⟨w.heap.size, 1, none⟩ = some (.int .i64 f.size) := by rw [blk_cell n0]; rfl
  have h0 := h.fr F0.out
  have NN : Hid (∀ W, _) := hid (fun W => isNumber_c W f.num)
  have NS : Hid (∀ W, _) := hid (fun W => isNumber_c W f.size)
  clear n0
  unfold okF
  cases hk1 : isK f.least with
  | false =>
    have CP := hid (compare_no1 W0 h0.rl h0.bl h0.ll hk1 (v2 := .slice ma f.most.length mc) rfl)
    rw [Bool.false_and]
    clear h h0 hk1
    generalize f.least.length = ll at *
    generalize f.most.length = lm at *
    generalize f.num = fn at *
    generalize f.size = fs at *
    go_enter Tryz.func45, Tryz.ntmps45
    go_upto_region 2 with (go_at_call 66; rw [← hW0]; refine CP.out.mono ?_; rintro e w1 ⟨rfl, f1⟩; have y0 := cell_fr f1 y0; have y1 := cell_fr f1 y1; have F1 := hid (F0.out.trans f1); clear f1)
    go_wp2
    go_ret
    exact ⟨rfl, F1.out⟩
  | true =>
    rw [Bool.true_and]
    cases hk2 : isK f.most with
    | false =>
      have CP := hid (compare_no2 W0 h0.rl h0.bl hk1 h0.rm h0.bm h0.lm hk2)
      rw [Bool.false_and]
      clear h h0 hk1 hk2
      generalize f.least.length = ll at *
      generalize f.most.length = lm at *
      generalize f.num = fn at *
      generalize f.size = fs at *
      go_enter Tryz.func45, Tryz.ntmps45
      go_upto_region 2 with (go_at_call 66; rw [← hW0]; refine CP.out.mono ?_; rintro e w1 ⟨rfl, f1⟩; have y0 := cell_fr f1 y0; have y1 := cell_fr f1 y1; have F1 := hid (F0.out.trans f1); clear f1)
      go_wp2
      go_ret
      exact ⟨rfl, F1.out⟩
    | true =>
      have CP := hid (compare_yes W0 h0.rl h0.bl hk1 h0.rm h0.bm hk2)
      rw [Bool.true_and]
      clear h h0 hk1 hk2
      generalize ordK f.least f.most = od at *
      generalize f.least.length = ll at *
      generalize f.most.length = lm at *
      generalize f.num = fn at *
      generalize f.size = fs at *
      by_cases ho : od ≤ 0
      · rw [decide_eq_true ho, Bool.true_and]
        cases hn1 : okN fn with
        | false =>
          rw [hn1] at NN
          rw [Bool.false_and]
          clear hn1
          go_enter Tryz.func45, Tryz.ntmps45
          go_upto_region 2 with (go_at_call 66; rw [← hW0]; refine CP.out.mono ?_; rintro e w1 ⟨rfl, f1⟩; have y0 := cell_fr f1 y0; have y1 := cell_fr f1 y1; have F1 := hid (F0.out.trans f1); clear f1)
          go_wp2_with (first | (go_at_call 44; have zz := N3.out; clear zz; refine (NS.out _).mono ?_; rintro e w2 ⟨rfl, h⟩; rw [h]; clear h) | (go_at_call 44; refine (NN.out _).mono ?_; rintro e w2 ⟨rfl, h⟩; rw [h]; clear h; have N3 := hid trivial))
          go_ret
          exact ⟨rfl, F1.out⟩
        | true =>
          rw [hn1] at NN
          rw [Bool.true_and]
          clear hn1
          cases hn2 : okN fs with
          | false =>
            rw [hn2] at NS
            clear hn2
            go_enter Tryz.func45, Tryz.ntmps45
            go_upto_region 2 with (go_at_call 66; rw [← hW0]; refine CP.out.mono ?_; rintro e w1 ⟨rfl, f1⟩; have y0 := cell_fr f1 y0; have y1 := cell_fr f1 y1; have F1 := hid (F0.out.trans f1); clear f1)
            go_wp2_with (first | (go_at_call 44; have zz := N3.out; clear zz; refine (NS.out _).mono ?_; rintro e w2 ⟨rfl, h⟩; rw [h]; clear h) | (go_at_call 44; refine (NN.out _).mono ?_; rintro e w2 ⟨rfl, h⟩; rw [h]; clear h; have N3 := hid trivial))
            go_ret
            exact ⟨rfl, F1.out⟩
          | true =>
            rw [hn2] at NS
            clear hn2
            go_enter Tryz.func45, Tryz.ntmps45
            go_upto_region 2 with (go_at_call 66; rw [← hW0]; refine CP.out.mono ?_; rintro e w1 ⟨rfl, f1⟩; have y0 := cell_fr f1 y0; have y1 := cell_fr f1 y1; have F1 := hid (F0.out.trans f1); clear f1)
            go_wp2_with (first | (go_at_call 44; have zz := N3.out; clear zz; refine (NS.out _).mono ?_; rintro e w2 ⟨rfl, h⟩; rw [h]; clear h) | (go_at_call 44; refine (NN.out _).mono ?_; rintro e w2 ⟨rfl, h⟩; rw [h]; clear h; have N3 := hid trivial))
            go_ret
            exact ⟨rfl, F1.out⟩
      · rw [decide_eq_false ho, Bool.false_and]
        have ho' : 0 < od := by omega
        go_enter Tryz.func45, Tryz.ntmps45
        go_upto_region 2 with (go_at_call 66; rw [← hW0]; refine CP.out.mono ?_; rintro e w1 ⟨rfl, f1⟩; have y0 := cell_fr f1 y0; have y1 := cell_fr f1 y1; have F1 := hid (F0.out.trans f1); clear f1)
        go_wp2
        go_ret
        exact ⟨rfl, F1.out⟩
/-- An edit handed over. -/
structure EAt (w : World) (e : Ed) (da : Option Addr) (dc : Nat) (aa : Option Addr) (ac : Nat) : Prop where
  rd : RdD w (.slice da e.drop.length dc) e.drop
  ra : RdA w (.slice aa e.add.length ac) e.add
  ld : e.drop.length ≤ 140737488355328
  la : e.add.length ≤ 140737488355328
theorem EAt.fr {w w' : World} {e : Ed} {da aa : Option Addr} {dc ac : Nat} (h : EAt w e da dc aa ac) (f : Fr [] w w') : EAt w' e da dc aa ac := ⟨h.rd.fr f, h.ra.fr f, h.ld, h.la⟩
theorem all_step {α : Type} {l : List α} {P : α → Bool} {i : Nat} {x : α} (hx : l[i]? = some x) : (l.take (i + 1)).all P = ((l.take i).all P && P x) := by
  rw [List.take_add_one, hx]; simp
theorem all_take {α : Type} {l : List α} {P : α → Bool} {i : Nat} {x : α} (hx : l[i]? = some x) (h : P x = false) : l.all P = false := by
  rw [Bool.eq_false_iff]
  intro h2
  have := List.all_eq_true.1 h2 x (List.mem_of_getElem? hx)
  rw [h] at this
  cases this
set_option maxRecDepth 20000 in
set_option maxHeartbeats 3200000 in
theorem edit_c (w : World) {e : Ed} {da aa : Option Addr} {dc ac : Nat} (h : EAt w e da dc aa ac) :
    Calls Tryz.prog 17 #[.agg #[.int .i64 e.log, .int .i64 e.next, .int .u64 (e.seq : Int), .slice da e.drop.length dc, .slice aa e.add.length ac]] w fun r w' => r = .returned (.bool (okE e)) ∧ Fr [] w w' := by
  obtain ⟨W0, hW0⟩ : ∃ W0, W0 = w.alloc (.cells #[.int .i64 e.log, .int .i64 e.next, .int .u64 (e.seq : Int), .slice da e.drop.length dc, .slice aa e.add.length ac] 41) := ⟨_, rfl⟩
  have F0 : Hid (Fr [] w W0) := hid (by rw [hW0]; exact (Fr.refl _ _).alloc _)
  have N0 : Hid (W0.heap[w.heap.size]? = some (.cells #[.int .i64 e.log, .int .i64 e.next, .int .u64 (e.seq : Int), .slice da e.drop.length dc, .slice aa e.add.length ac] 41 (0, 0))) := hid (by rw [hW0]; exact blk_new _ _)
  have HC := hid (fun W => head_c W e.log e.next e.seq)
  have HD := hid (h.rd.fr F0.out)
  have HA := hid (h.ra.fr F0.out)
  have hld := h.ld
  have hla := h.la
  obtain ⟨R, hR⟩ : ∃ R, R = okE e := ⟨_, rfl⟩
  rw [← hR]
  have HR : Hid (R = (e.drop.all okD && (e.add.all okA && okH e.log e.next e.seq))) := hid hR
  have CC : Hid (∀ W, Fr [] W0 W → W.cell? ⟨w.heap.size, 0, none⟩ = some (.int .i64 e.log) ∧ W.cell? ⟨w.heap.size, 1, none⟩ = some (.int .i64 e.next) ∧ W.cell? ⟨w.heap.size, 2, none⟩ = some (.int .u64 (e.seq : Int)) ∧ W.cell? ⟨w.heap.size, 3, none⟩ = some (.slice da e.drop.length dc) ∧ W.cell? ⟨w.heap.size, 4, none⟩ = some (.slice aa e.add.length ac)) := hid (fun W f => by
    have k := f.at N0.out (by simp)
    exact ⟨by rw [blk_cell k]; rfl, by rw [blk_cell k]; rfl, by rw [blk_cell k]; rfl, by rw [blk_cell k]; rfl, by rw [blk_cell k]; rfl⟩)
  clear h hR N0
  obtain ⟨dl, hdl⟩ : ∃ dl, dl = e.drop.length := ⟨_, rfl⟩
  obtain ⟨al, hal⟩ : ∃ al, al = e.add.length := ⟨_, rfl⟩
  have HDL := hid hdl
  have HAL := hid hal
  rw [← hdl] at HD CC hld hW0 ⊢
  rw [← hal] at HA CC hla hW0 ⊢
  clear hdl hal
  generalize okH e.log e.next e.seq = oh at *
  generalize e.log = lg at *
  generalize e.next = nx at *
  generalize e.seq = sq at *
  obtain ⟨z0, z1, z2, z3, z4⟩ := CC.out W0 (Fr.refl _ _)
  go_enter Tryz.func17, Tryz.ntmps17
  go_upto_region 1 with fail
  rw [← hW0]
  clear hW0
  go_wp2_with fail
  clear z0 z1 z2 z3 z4
  go_loopw [10] (fun v10 wr => ∃ i : Nat, i ≤ dl ∧ v10 = .int .i64 (i : Int) ∧ (e.drop.take i).all okD = true ∧ Fr [] W0 wr) (fun v10 _ => dl - (intOf v10).toNat)
  case atStart => exact ⟨0, Nat.zero_le _, rfl, rfl, Fr.refl _ _⟩
  case round =>
    obtain ⟨i, hi, rfl, ha, hf⟩ := hrel
    have HF := hid hf
    have HAL1 := hid ha
    clear hf ha
    by_cases hlt : i < dl
    · have hil : i < e.drop.length := by rw [← HDL.out]; exact hlt
      obtain ⟨g, hg⟩ : ∃ g, e.drop[i]? = some g := ⟨_, List.getElem?_eq_getElem hil⟩
      obtain ⟨a', c', e', k1⟩ := HD.out
      simp only [Value.slice.injEq] at e'
      obtain ⟨rfl, hx1, rfl⟩ := e'
      clear hx1
      obtain ⟨b, off, rfl, m1⟩ := k1 (by rw [← HDL.out]; omega)
      have z1 := cell_fr HF.out (m1 i g hg).1
      have z2 := cell_fr HF.out (m1 i g hg).2
      have HG := hid hg
      have hil' : (i : Int) < (dl : Int) := by omega
      clear m1 k1 hg
      obtain ⟨g1, g2⟩ := g
      dsimp only at z1 z2
      have LV : Hid (∀ W, _) := hid (fun W => isLevel_c W g1)
      have NM : Hid (∀ W, _) := hid (fun W => isNumber_c W g2)
      obtain ⟨W1, hW1⟩ : ∃ W1, W1 = wr.alloc (.cells #[.int .i64 g1, .int .i64 g2] 45) := ⟨_, rfl⟩
      have F1 : Hid (Fr [] wr W1) := hid (by rw [hW1]; exact (Fr.refl _ _).alloc _)
      have n1 : W1.heap[wr.heap.size]? = some (.cells #[.int .i64 g1, .int .i64 g2] 45 (0, 0)) := by rw [hW1]; exact blk_new _ _
      have y0 : W1.cell? ⟨wr.heap.size, 0, none⟩ = some (.int .i64 g1) := by rw [blk_cell n1]; rfl
      have y1 : W1.cell? ⟨wr.heap.size, 1, none⟩ = some (.int .i64 g2) := by rw [blk_cell n1]; rfl
      clear n1
      go_upto_region 4 with fail
      rw [← hW1]
      clear hW1 z1 z2
      cases hv : okV g1 with
      | false =>
        have HQ : Hid (R = false) := hid (by rw [HR.out, all_take HG.out (show okD (g1, g2) = false from by unfold okD; rw [hv]; rfl)]; rfl)
        rw [hv] at LV
        clear hv
        go_wp2_with (go_at_call 43; refine (LV.out _).mono ?_; rintro e w2 ⟨rfl, h⟩; rw [h]; clear h)
        go_ret
        exact ⟨ret_bool HQ.out.symm, (F0.out.trans HF.out).trans F1.out⟩
      | true =>
        rw [hv] at LV
        cases hm : okN g2 with
        | false =>
          have HQ : Hid (R = false) := hid (by rw [HR.out, all_take HG.out (show okD (g1, g2) = false from by unfold okD; rw [hm, Bool.and_false])]; rfl)
          rw [hm] at NM
          clear hv hm
          go_wp2_with (first | (go_at_call 43; refine (LV.out _).mono ?_; rintro e w2 ⟨rfl, h⟩; rw [h]; clear h) | (go_at_call 44; refine (NM.out _).mono ?_; rintro e w2 ⟨rfl, h⟩; rw [h]; clear h))
          go_ret
          exact ⟨ret_bool HQ.out.symm, (F0.out.trans HF.out).trans F1.out⟩
        | true =>
          have HQ : Hid ((e.drop.take (i + 1)).all okD = true) := hid (by rw [all_step HG.out, HAL1.out]; unfold okD; rw [hv, hm]; rfl)
          rw [hm] at NM
          clear hv hm
          go_wp2_with (first | (go_at_call 43; refine (LV.out _).mono ?_; rintro e w2 ⟨rfl, h⟩; rw [h]; clear h) | (go_at_call 44; refine (NM.out _).mono ?_; rintro e w2 ⟨rfl, h⟩; rw [h]; clear h))
          go_roundw
          case rel => exact ⟨i + 1, by omega, by go_num, HQ.out, HF.out.trans F1.out⟩
          case measure => simp [intOf]; omega
    · have hin : i = dl := by omega
      subst hin
      have HD1 : Hid (e.drop.all okD = true) := hid (by have := HAL1.out; rw [HDL.out, List.take_length] at this; exact this)
      clear HAL1 HD
      obtain ⟨w5, h5⟩ : ∃ W, W = wr := ⟨_, rfl⟩
      subst h5
      have F5 := HF
      clear HF
      obtain ⟨z0, z1, z2, z3, z4⟩ := CC.out w5 F5.out
      go_wp2_with fail
      clear z0 z1 z2 z3 z4
      go_loopw [28] (fun v28 wr => ∃ j : Nat, j ≤ al ∧ v28 = .int .i64 (j : Int) ∧ (e.add.take j).all okA = true ∧ Fr [] W0 wr) (fun v28 _ => al - (intOf v28).toNat)
      case atStart => exact ⟨0, Nat.zero_le _, rfl, rfl, F5.out⟩
      case round =>
        obtain ⟨j, hj, rfl, ha, hf⟩ := hrel
        have HF := hid hf
        have HAL1 := hid ha
        clear hf ha
        by_cases hlt : j < al
        · have hjl : j < e.add.length := by rw [← HAL.out]; exact hlt
          obtain ⟨p, hp⟩ : ∃ p, e.add[j]? = some p := ⟨_, List.getElem?_eq_getElem hjl⟩
          obtain ⟨a', c', e', k1⟩ := HA.out
          simp only [Value.slice.injEq] at e'
          obtain ⟨rfl, hx1, rfl⟩ := e'
          clear hx1
          obtain ⟨b, off, rfl, m1⟩ := k1 (by rw [← HAL.out]; omega)
          obtain ⟨m2, la, lc, ma, mc, m3⟩ := m1 j p hp
          have z1 := cell_fr HF.out m2
          have z2 := cell_fr HF.out m3.c0
          have z3 := cell_fr HF.out m3.c1
          have z4 := cell_fr HF.out m3.c2
          have z5 := cell_fr HF.out m3.c3
          rw [show off + j * 5 + 1 + 1 = off + j * 5 + 2 from rfl] at z3
          rw [show off + j * 5 + 1 + 2 = off + j * 5 + 3 from rfl] at z4
          rw [show off + j * 5 + 1 + 3 = off + j * 5 + 4 from rfl] at z5
          have FR := hid (m3.rd.fr HF.out)
          have HG := hid hp
          have hjl' : (j : Int) < (al : Int) := by omega
          clear m1 k1 hp m2 m3
          obtain ⟨g1, f⟩ := p
          dsimp only at z1 z2 z3 z4 z5 FR
          have LV : Hid (∀ W, _) := hid (fun W => isLevel_c W g1)
          obtain ⟨W1, hW1⟩ : ∃ W1, W1 = wr.alloc (.cells #[.int .i64 g1, .int .i64 f.num, .int .i64 f.size, .slice la f.least.length lc, .slice ma f.most.length mc] 64) := ⟨_, rfl⟩
          have F1 : Hid (Fr [] wr W1) := hid (by rw [hW1]; exact (Fr.refl _ _).alloc _)
          have n1 : W1.heap[wr.heap.size]? = some (.cells #[.int .i64 g1, .int .i64 f.num, .int .i64 f.size, .slice la f.least.length lc, .slice ma f.most.length mc] 64 (0, 0)) := by rw [hW1]; exact blk_new _ _
          have y0 : W1.cell? ⟨wr.heap.size, 0, none⟩ = some (.int .i64 g1) := by rw [blk_cell n1]; rfl
          have y1 : W1.cell? ⟨wr.heap.size, 1, none⟩ = some (.int .i64 f.num) := by rw [blk_cell n1]; rfl
          have y2 : W1.cell? ⟨wr.heap.size, 2, none⟩ = some (.int .i64 f.size) := by rw [blk_cell n1]; rfl
          have y3 : W1.cell? ⟨wr.heap.size, 3, none⟩ = some (.slice la f.least.length lc) := by rw [blk_cell n1]; rfl
          have y4 : W1.cell? ⟨wr.heap.size, 4, none⟩ = some (.slice ma f.most.length mc) := by rw [blk_cell n1]; rfl
          have FC := hid (file_c W1 (FR.out.fr F1.out))
          clear n1
          go_upto_region 10 with fail
          rw [← hW1]
          clear hW1 z1 z2 z3 z4 z5
          cases hv : okV g1 with
          | false =>
            have HQ : Hid (R = false) := hid (by rw [HR.out, all_take HG.out (show okA (g1, f) = false from by unfold okA; rw [hv]; rfl), Bool.false_and, Bool.and_false])
            rw [hv] at LV
            clear hv
            go_wp2_with (go_at_call 43; refine (LV.out _).mono ?_; rintro e w2 ⟨rfl, h⟩; rw [h]; clear h)
            go_ret
            exact ⟨ret_bool HQ.out.symm, (F0.out.trans HF.out).trans F1.out⟩
          | true =>
            rw [hv] at LV
            cases hm : okF f with
            | false =>
              have HQ : Hid (R = false) := hid (by rw [HR.out, all_take HG.out (show okA (g1, f) = false from by unfold okA; rw [hm, Bool.and_false]), Bool.false_and, Bool.and_false])
              rw [hm] at FC
              clear hv hm
              go_wp2_with (first | (go_at_call 43; refine (LV.out _).mono ?_; rintro e w2 ⟨rfl, h⟩; rw [h]; clear h) | (go_at_call 45; refine FC.out.mono ?_; rintro e w2 ⟨rfl, f2⟩; have F2 := hid f2; clear f2))
              go_ret
              exact ⟨ret_bool HQ.out.symm, ((F0.out.trans HF.out).trans F1.out).trans F2.out⟩
            | true =>
              have HQ : Hid ((e.add.take (j + 1)).all okA = true) := hid (by rw [all_step HG.out, HAL1.out]; unfold okA; rw [hv, hm]; rfl)
              rw [hm] at FC
              clear hv hm
              go_wp2_with (first | (go_at_call 43; refine (LV.out _).mono ?_; rintro e w2 ⟨rfl, h⟩; rw [h]; clear h) | (go_at_call 45; refine FC.out.mono ?_; rintro e w2 ⟨rfl, f2⟩; have F2 := hid f2; clear f2))
              go_roundw
              case rel => exact ⟨j + 1, by omega, by go_num, HQ.out, (HF.out.trans F1.out).trans F2.out⟩
              case measure => simp [intOf]; omega
        · have hjn : j = al := by omega
          subst hjn
          have HQ : Hid (R = oh) := hid (by
            have := HAL1.out
            rw [HAL.out, List.take_length] at this
            rw [HR.out, HD1.out, this]; rfl)
          obtain ⟨z0, z1, z2, z3, z4⟩ := CC.out wr HF.out
          go_wp2_with (go_at_call 46; refine (HC.out _).mono ?_; rintro e w2 ⟨rfl, h⟩; rw [h]; clear h)
          go_ret
          exact ⟨ret_bool HQ.out.symm, F0.out.trans HF.out⟩
end Go.Proofs.YtegbngbhmgbocaaGreatDoor
namespace Go.Proofs.YtegbngbhmgbocaaGreatDoor
open Go.ChangeShapes Go.WideShapes Go.ChangeAt Go.RowKit

/-- A version. -/
structure Vn where
  log : Int
  next : Int
  seq : Nat
  lv : Nat → List Fl
/-- The tables of the levels below i, and of those from i on. -/
def pfx (L : Nat → List Fl) (i : Nat) : List Fl := (List.range i).flatMap L
def sfx (L : Nat → List Fl) (i : Nat) : List Fl := (List.range' i (5 - i)).flatMap L
def Vn.all (v : Vn) : List Fl := pfx v.lv 5
theorem pfx_zero (L : Nat → List Fl) : pfx L 0 = [] := rfl
theorem pfx_succ (L : Nat → List Fl) (i : Nat) : pfx L (i + 1) = pfx L i ++ L i := by
  unfold pfx; rw [List.range_succ, List.flatMap_append]; simp
theorem sfx_five (L : Nat → List Fl) : sfx L 5 = [] := rfl
theorem sfx_succ (L : Nat → List Fl) {i : Nat} (h : i < 5) : sfx L i = L i ++ sfx L (i + 1) := by
  unfold sfx
  rw [show 5 - i = (5 - (i + 1)) + 1 from by omega, List.range'_succ, List.flatMap_cons]
theorem pfx_sfx (L : Nat → List Fl) : ∀ i, i ≤ 5 → pfx L i ++ sfx L i = pfx L 5
  | 0, _ => by
    show sfx L 0 = pfx L 5
    simp [sfx, pfx, List.range_succ]
    simp [List.range']
  | i + 1, h => by
    rw [pfx_succ, List.append_assoc, ← sfx_succ L (by omega)]
    exact pfx_sfx L i (by omega)
/-- What holds of each table, as of those ahead of it. -/
def runP (p : List Fl → Fl → Bool) : List Fl → List Fl → Bool
  | _, [] => true
  | pre, f :: r => p pre f && runP p (pre ++ [f]) r
theorem runP_all (q : Fl → Bool) : ∀ (l pre : List Fl), runP (fun _ f => q f) pre l = l.all q
  | [], _ => rfl
  | f :: r, pre => by unfold runP; rw [runP_all q r]; rfl
def freshP (pre : List Fl) (f : Fl) : Bool := decide (f.num ∉ pre.map Fl.num)
theorem runP_fresh : ∀ (l pre : List Fl), (pre.map Fl.num).Nodup → (runP freshP pre l = true ↔ ((pre ++ l).map Fl.num).Nodup)
  | [], pre, h => by simp [runP, h]
  | f :: r, pre, h => by
    unfold runP
    by_cases hf : f.num ∈ pre.map Fl.num
    · have e : freshP pre f = false := by unfold freshP; simp only [decide_eq_false_iff_not, Classical.not_not]; exact hf
      rw [e, Bool.false_and]
      constructor
      · intro h2; cases h2
      · intro h2
        exfalso
        rw [List.map_append, List.map_cons] at h2
        have := (List.nodup_append.1 h2).2.2
        exact this _ hf f.num (by simp) rfl
    · have e : freshP pre f = true := by unfold freshP; simp only [decide_eq_true_eq]; exact hf
      rw [e, Bool.true_and]
      have h2 : ((pre ++ [f]).map Fl.num).Nodup := by
        rw [List.map_append, List.nodup_append]
        refine ⟨h, by simp, ?_⟩
        intro a ha b hb
        simp at hb
        subst hb
        intro e2
        subst e2
        exact hf ha
      rw [runP_fresh r (pre ++ [f]) h2, List.append_assoc]
      rfl
/-- How tables of a level stand; whether one reaches the next. -/
def cmpF (i : Nat) (a b : Fl) : Int := if i = 0 then cmpI a.num b.num else ordK a.least b.least
def reachF (a b : Fl) : Bool := decide (0 ≤ cmpN (userL a.most) (userL b.least))
def apartF (i : Nat) (a b : Fl) : Bool := decide (cmpF i a b < 0) && !(decide (0 < i) && reachF a b)
/-- Neighbours that rise and are apart. -/
def risesF (i : Nat) : List Fl → Bool
  | a :: b :: r => apartF i a b && risesF i (b :: r)
  | _ => true
def chkV (v : Vn) : Int :=
  if (!(okH v.log v.next v.seq) || !(v.all.all okF)) = true then 90
  else if runP freshP [] v.all = false then 92
  else if v.all.all (fun f => decide (f.num < v.next)) = false then 94
  else if (List.range 5).all (fun i => risesF i (v.lv i)) = false then 93 else 0
/-- A version in memory: its five lists. -/
structure VAt (w : World) (L : Nat → List Fl) (ad : Nat → Option Addr) (ln cp : Nat → Nat) : Prop where
  len : ∀ i, i < 5 → ln i = (L i).length
  small : ∀ i, i < 5 → ln i ≤ 140737488355328
  rd : ∀ i, i < 5 → 0 < ln i → ∃ b off, ad i = some ⟨b, off, none⟩ ∧ ∀ (j : Nat) (f : Fl), (L i)[j]? = some f → ∃ la lc ma mc, FAt w b (off + j * 4) f la lc ma mc
theorem VAt.fr {w w' : World} {L : Nat → List Fl} {ad : Nat → Option Addr} {ln cp : Nat → Nat} (h : VAt w L ad ln cp) (f : Fr [] w w') : VAt w' L ad ln cp := by
  refine ⟨h.len, h.small, fun i hi h0 => ?_⟩
  obtain ⟨b, off, e, k⟩ := h.rd i hi h0
  refine ⟨b, off, e, fun j x hx => ?_⟩
  obtain ⟨la, lc, ma, mc, q⟩ := k j x hx
  exact ⟨la, lc, ma, mc, q.fr f⟩
/-- The cells of a version. -/
theorem vn_cells {W : World} {k : Nat} {t : TypeId} {c0 c1 c2 c3 c4 c5 c6 c7 : Value} (n : W.heap[k]? = some (.cells #[c0, c1, c2, c3, c4, c5, c6, c7] t (0, 0))) : W.cell? ⟨k, 0, none⟩ = some c0 ∧ W.cell? ⟨k, 1, none⟩ = some c1 ∧ W.cell? ⟨k, 2, none⟩ = some c2 ∧ W.cell? ⟨k, 3, none⟩ = some c3 ∧ W.cell? ⟨k, 4, none⟩ = some c4 ∧ W.cell? ⟨k, 5, none⟩ = some c5 ∧ W.cell? ⟨k, 6, none⟩ = some c6 ∧ W.cell? ⟨k, 7, none⟩ = some c7 :=
  ⟨by rw [blk_cell n]; rfl, by rw [blk_cell n]; rfl, by rw [blk_cell n]; rfl, by rw [blk_cell n]; rfl, by rw [blk_cell n]; rfl, by rw [blk_cell n]; rfl, by rw [blk_cell n]; rfl, by rw [blk_cell n]; rfl⟩
theorem fl_cells {W : World} {k : Nat} {t : TypeId} {c0 c1 c2 c3 : Value} (n : W.heap[k]? = some (.cells #[c0, c1, c2, c3] t (0, 0))) : W.cell? ⟨k, 0, none⟩ = some c0 ∧ W.cell? ⟨k, 1, none⟩ = some c1 ∧ W.cell? ⟨k, 2, none⟩ = some c2 ∧ W.cell? ⟨k, 3, none⟩ = some c3 :=
  ⟨by rw [blk_cell n]; rfl, by rw [blk_cell n]; rfl, by rw [blk_cell n]; rfl, by rw [blk_cell n]; rfl⟩
/-- An array of five lists, indexed. -/
theorem ixs {i : Nat} (hi : i < 5) (ad : Nat → Option Addr) (ln cp : Nat → Nat) (W : World) : (Instr.index 26 (.agg #[.slice (ad 0) (ln 0) (cp 0), .slice (ad 1) (ln 1) (cp 1), .slice (ad 2) (ln 2) (cp 2), .slice (ad 3) (ln 3) (cp 3), .slice (ad 4) (ln 4) (cp 4)]) (.int .i64 (i : Int))).run Tryz.prog W = .ok (.slice (ad i) (ln i) (cp i)) W := by
  rcases (show i = 0 ∨ i = 1 ∨ i = 2 ∨ i = 3 ∨ i = 4 from by omega) with rfl | rfl | rfl | rfl | rfl <;> kernel_rfl
end Go.Proofs.YtegbngbhmgbocaaGreatDoor
