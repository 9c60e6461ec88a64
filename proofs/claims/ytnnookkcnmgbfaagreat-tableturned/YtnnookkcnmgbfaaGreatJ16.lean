/-
  Package block: read.
-/
import Derived.Test.YtnnookkcnmgbfaaGreatJ15
namespace Go.Proofs.YtnnookkcnmgbfaaGreat
open Go.ChangeShapes Go.WideShapes Go.ChangeAt Go.RowKit

theorem half_short {b : List Nat} (h : b.length < 4) : halfL b = none := by unfold halfL; rw [if_neg (fun x => by omega)]
theorem ColN.rd_keep {W W' : World} {B : Nat} {v : Value} {ls : List Ln} (h : ColN W B v ls) (hb : ∀ k, v.ownBlock = some k → W'.heap[k]? = W.heap[k]?) (hu : ∀ k, U8 W k → W'.heap[k]? = W.heap[k]?) : RdN W' v ls := by
  obtain ⟨_, cs, o', h2⟩ := h
  have o := ownsRow_of_block o' hb
  rcases o.2 with ⟨rfl, h0⟩ | ⟨g, cap, cur, rfl, _, h3, h4, h5⟩
  · have : ls = [] := List.eq_nil_of_length_eq_zero h0
    subst this
    exact ⟨none, 0, rfl, fun h => by simp at h⟩
  · refine ⟨_, cap, rfl, fun _ => ⟨g, 0, rfl, fun j p hj => ?_⟩⟩
    obtain ⟨ka, kc, va, vc, ⟨c0, c1, c2, c3⟩, r0, r1, _⟩ := h2 j p hj
    have d0 := o.cells rfl _ _ c0
    have d1 := o.cells rfl _ _ c1
    have d2 := o.cells rfl _ _ c2
    have d3 := o.cells rfl _ _ c3
    rw [Addr.add_lit] at d0 d1 d2 d3
    refine ⟨ka, kc, va, vc, d0, ?_, ?_, ?_, r0.keep hu, r1.keep hu⟩
    · rw [show 0 + j * 4 + 1 = 0 + (j * 4 + 1) from by omega]; exact d1
    · rw [show 0 + j * 4 + 2 = 0 + (j * 4 + 2) from by omega]; exact d2
    · rw [show 0 + j * 4 + 3 = 0 + (j * 4 + 3) from by omega]; exact d3
/-- What is told of bytes that are a block. -/
structure RdB2 (w' : World) (b : List Nat) (lv : Value) (r : Nat) (ls : List Ln) : Prop where
  blk : Blk b (psL ls) r
  rd : RdN w' lv ls
  ok : ∀ x ∈ ls, OkLn x
  len : ls.length ≤ b.length
set_option maxRecDepth 20000 in
set_option maxHeartbeats 6400000 in
theorem read_c (w : World) {v : Value} {b : List Nat} (hr : Rd w v (bv b)) (hb : By b) (hl : b.length ≤ 1000000000) :
    Calls Tryz.prog 99 #[v] w fun e w' => ((∃ la ln lc r, e = .returned (.tuple #[.agg #[.slice la ln lc, .int .i64 r], .bool false]) ∧ ∀ ps r, ¬ Blk b ps r) ∨ ∃ ls la lc r, e = .returned (.tuple #[.agg #[.slice la ls.length lc, .int .i64 ((r : Nat) : Int)], .bool true]) ∧ RdB2 w' b (.slice la ls.length lc) r ls) ∧ Fr [] w w' := by
  obtain ⟨W1, hW1⟩ : ∃ W, W = w.alloc (.cells #[.slice none 0 0, .int .i64 0] 157) := ⟨_, rfl⟩
  have FW1 : Hid (Fr [] w W1) := by refine hid ?_; rw [hW1]; exact (Fr.refl _ _).alloc _
  have R1 : Hid (W1.heap[w.heap.size]? = some (.cells #[.slice none 0 0, .int .i64 0] 157 (0, 0))) := by refine hid ?_; rw [hW1]; exact blk_new _ _
  have HR := hid hr
  have HB := hid hb
  by_cases h4 : b.length < 4
  · have HC := hid (halves_short W1 (HR.out.fr FW1.out) h4)
    have HNO := hid (no_half hl (half_short h4))
    obtain ⟨a, c, hv⟩ := hr.form
    rw [bv_len] at hv
    subst hv
    clear hr hb
    generalize b.length = n at *
    go_enter Tryz.func99, Tryz.ntmps99
    go_wp2_with fail
    rw [← hW1]
    clear hW1
    refine HC.out.mono ?_
    rintro e W2 ⟨rfl, f2⟩
    have F2 := hid f2
    clear f2 HC
    have rr := F2.out.at R1.out (by simp)
    have q0 : W2.cell? ⟨w.heap.size, 0, none⟩ = some (.slice none 0 0) := by rw [blk_cell rr]; rfl
    have q1 : W2.cell? ⟨w.heap.size, 1, none⟩ = some (.int .i64 0) := by rw [blk_cell rr]; rfl
    have qf := blk_frozen rr
    have FRR := hid (FW1.out.trans F2.out)
    clear rr
    go_wp2
    refine bodyPost_ret (v := .tuple #[.agg #[.slice none 0 0, .int .i64 0], .bool false]) (by rw [results_cell_tmp rfl]; go_simp) rfl ⟨.inl ⟨none, 0, 0, 0, rfl, HNO.out⟩, ?_⟩
    exact (FRR.out.set _ _ (.inr (Nat.le_refl _))).set _ _ (.inr (Nat.le_refl _))
  · obtain ⟨q, o, c, hv, hbc⟩ := hr.place (by omega)
    subst hv
    have HC := hid (halves_c W1 (HR.out.fr FW1.out) hb (by omega) hl hbc)
    have hqw : q < w.heap.size := by
      rcases hr.split with ⟨e, _⟩ | ⟨b', o', c', e, _, _, g⟩
      · rw [e] at h4; simp at h4
      · simp only [Value.slice.injEq, Option.some.injEq, Addr.mk.injEq] at e
        obtain ⟨⟨rfl, _⟩, _⟩ := e
        obtain ⟨x, hx⟩ : ∃ x, b[0]? = some x := ⟨_, List.getElem?_eq_getElem (by omega)⟩
        exact World.block_lt_of_cell? w _ (g 0 x hx)
    clear hr hb
    generalize hbn : b.length = n at *
    have HBN := hid hbn
    clear hbn
    go_enter Tryz.func99, Tryz.ntmps99
    go_wp2_with fail
    rw [← hW1]
    clear hW1
    refine HC.out.mono ?_
    rintro e W2 ⟨hcase, f2⟩
    have F2 := hid f2
    clear f2 HC
    rcases hcase with ⟨hno, rfl⟩ | ⟨k, hk, hk4, rfl⟩
    · have HNO := hid (no_half (by rw [HBN.out]; exact hl) hno)
      clear hno
      have rr := F2.out.at R1.out (by simp)
      have q0 : W2.cell? ⟨w.heap.size, 0, none⟩ = some (.slice none 0 0) := by rw [blk_cell rr]; rfl
      have q1 : W2.cell? ⟨w.heap.size, 1, none⟩ = some (.int .i64 0) := by rw [blk_cell rr]; rfl
      have qf := blk_frozen rr
      have FRR := hid (FW1.out.trans F2.out)
      clear rr
      go_wp2
      refine bodyPost_ret (v := .tuple #[.agg #[.slice none 0 0, .int .i64 0], .bool false]) (by rw [results_cell_tmp rfl]; go_simp) rfl ⟨.inl ⟨none, 0, 0, 0, rfl, HNO.out⟩, ?_⟩
      exact (FRR.out.set _ _ (.inr (Nat.le_refl _))).set _ _ (.inr (Nat.le_refl _))
    · have HK := hid hk
      have hkl : (bodL b k).length = k := by unfold bodL; rw [List.length_take, HBN.out]; omega
      have hpl : (plcL b k).length = n - 4 - k := by unfold plcL; rw [List.length_take, List.length_drop, HBN.out]; omega
      have HKL := hid (And.intro hkl hpl)
      have RB : Hid (Rd w (.slice (some ⟨q, o, none⟩) k c) (bv (bodL b k))) := by
        refine hid ?_
        have h0 := HR.out
        rw [← HBN.out] at h0
        exact h0.front (q := k) (by rw [HBN.out]; omega)
      have RP : Hid (Rd w (.slice (some ⟨q, o + k, none⟩) (n - 4 - k) (c - k)) (bv (plcL b k))) := by
        refine hid ?_
        have h0 := HR.out
        rw [← HBN.out] at h0
        have := h0.mid (i := k) (n := b.length - 4 - k) (by rw [HBN.out]; omega)
        rw [HBN.out] at this
        unfold plcL
        rw [HBN.out]
        exact this
      have TL := takeLines_c W2 (q := q) (o := o) (c := c) (all := bodL b k) (by rw [hkl]; exact (RB.out.fr FW1.out).fr F2.out) (HB.out.take k) (by rw [hkl]; omega) (by rw [hkl]; omega) (by have := FW1.out.size; have := F2.out.size; omega)
      have hk1 := hkl
      rw [hkl] at TL
      have HTL := hid TL
      clear TL hk hkl hpl hk1
      generalize hpn : n - 4 - k = np at *
      go_wp2_with fail
      refine HTL.out.mono ?_
      rintro e W3 ⟨hcase, f3⟩
      have F3 := hid (F2.out.trans f3)
      clear f3 HTL
      rcases hcase with ⟨hno, rfl⟩ | ⟨ls, lv, hls, rfl, col, ok, hlen⟩
      · have HNO := hid (no_lines (by rw [HBN.out]; exact hl) HK.out (by rw [HBN.out]; exact hk4) (by rw [HKL.out.1]; exact hno))
        clear hno
        have rr := F3.out.at R1.out (by simp)
        have q0 : W3.cell? ⟨w.heap.size, 0, none⟩ = some (.slice none 0 0) := by rw [blk_cell rr]; rfl
        have q1 : W3.cell? ⟨w.heap.size, 1, none⟩ = some (.int .i64 0) := by rw [blk_cell rr]; rfl
        have qf := blk_frozen rr
        have FRR := hid (FW1.out.trans F3.out)
        clear rr
        go_wp2
        refine bodyPost_ret (v := .tuple #[.agg #[.slice none 0 0, .int .i64 0], .bool false]) (by rw [results_cell_tmp rfl]; go_simp) rfl ⟨.inl ⟨none, 0, 0, 0, rfl, HNO.out⟩, ?_⟩
        exact (FRR.out.set _ _ (.inr (Nat.le_refl _))).set _ _ (.inr (Nat.le_refl _))
      · have HLS := hid hls
        have RN := col.rd
        obtain ⟨la, lc, rfl, _⟩ := col.rd
        have HRN := hid RN
        have HOK := hid ok
        have hln : ls.length ≤ 1000000000 := by omega
        have RC := restartOf_c W3 (ls := ls) (pl := plcL b k) (q := q) (o := o + k) (c := c - k) RN hln (by rw [HKL.out.2]; exact (RP.out.fr FW1.out).fr F3.out) ((HB.out.drop _).take _) (by rw [HKL.out.2]; omega) (by rw [HKL.out.2]; omega)
        rw [HKL.out.2] at RC
        have HRC := hid RC
        have HCOL := hid col
        clear RC RN col hls ok
        generalize hnl : ls.length = nl at *
        have HNL := hid hnl
        clear hnl
        go_wp2_with fail
        refine HRC.out.mono ?_
        rintro e W4 ⟨r, rfl, hrs, hr9, f4⟩
        have HRS := hid hrs
        have F4 := hid (F3.out.trans f4)
        have F34 := hid f4
        clear hrs f4 HRC
        go_upto_region 8 with fail
        obtain ⟨W5, hW5⟩ : ∃ W, W = (W4.alloc (.cells #[.slice la nl lc, .int .i64 (r : Int)] 157)).drew := ⟨_, rfl⟩
        have F45 : Fr [] W4 W5 := by rw [hW5]; exact ((Fr.refl _ _).alloc _).drew
        have C5 : W5.heap[W4.heap.size]? = some (.cells #[.slice la nl lc, .int .i64 (r : Int)] 157 (0, 0)) := by rw [hW5, blk_drew]; exact blk_new _ _
        have hCR : w.heap.size ≠ W4.heap.size := by have := FW1.out.size; have := F4.out.size; have := blk_lt R1.out; omega
        have F5 := hid (F4.out.trans F45)
        have SK : Hid (∀ w', Fr [] W5 w' → w'.cell? ⟨W4.heap.size, 0, none⟩ = some (.slice la nl lc) ∧ w'.cell? ⟨W4.heap.size, 1, none⟩ = some (.int .i64 (r : Int))) := hid fun w' f => by
          have hx := f.at C5 (by simp)
          exact ⟨by rw [blk_cell hx]; rfl, by rw [blk_cell hx]; rfl⟩
        have SY : Hid (∀ w' j x j' x', Fr [] W5 w' → ((w'.setCell ⟨w.heap.size, j, none⟩ x).setCell ⟨w.heap.size, j', none⟩ x').cell? ⟨W4.heap.size, 0, none⟩ = some (.slice la nl lc) ∧ ((w'.setCell ⟨w.heap.size, j, none⟩ x).setCell ⟨w.heap.size, j', none⟩ x').cell? ⟨W4.heap.size, 1, none⟩ = some (.int .i64 (r : Int))) := hid fun w' j x j' x' f => by
          have hx : ((w'.setCell ⟨w.heap.size, j, none⟩ x).setCell ⟨w.heap.size, j', none⟩ x').heap[W4.heap.size]? = some (.cells #[.slice la nl lc, .int .i64 (r : Int)] 157 (0, 0)) := by rw [blk_setne _ _ _ (fun e => hCR e.symm), blk_setne _ _ _ (fun e => hCR e.symm)]; exact f.at C5 (by simp)
          exact ⟨by rw [blk_cell hx]; rfl, by rw [blk_cell hx]; rfl⟩
        have F35 := hid (F34.out.trans F45)
        have BC : Hid (Calls Tryz.prog 112 #[.agg #[.slice la nl lc, .int .i64 (r : Int)], .slice (some ⟨q, o + k, none⟩) np (c - k)] W5 fun e w' => ∃ b' : Bool, e = .returned (.bool b') ∧ (b' = true ↔ Good r ls (plcL b k)) ∧ Fr [] W5 w') := by
          refine hid ?_
          by_cases h : r < 1 ∨ 64 < r
          · refine (builds_no W5 r h hr9).mono ?_
            rintro e w' ⟨rfl, f⟩
            exact ⟨false, rfl, ⟨fun h => absurd h (by simp), fun g => by have := g.1; have := g.2.1; omega⟩, f⟩
          · have h2 := builds_yes W5 (v := .slice la nl lc) (q := q) (o := o + k) (c2 := c - k) (ls := ls) (pl := plcL b k) r (by omega) (by omega) (HRN.out.fr F35.out) (by rw [HNL.out]; omega) HOK.out (by rw [HKL.out.2]; exact (RP.out.fr FW1.out).fr F5.out) ((HB.out.drop _).take _)
            rw [HKL.out.2] at h2
            exact h2
        clear C5 F45
        refine wp_region_held_drew (S := fun w' => w'.cell? ⟨W4.heap.size, 0, none⟩ = some (.slice la nl lc) ∧ w'.cell? ⟨W4.heap.size, 1, none⟩ = some (.int .i64 (r : Int))) (by kernel_rfl) (by rw [← hW5]; exact SK.out _ (Fr.refl _ _)) (fun hS => ?_)
        rw [← hW5] at hS ⊢
        clear hW5
        refine wpAnyH_take (i := 0) (v := .agg #[.slice la nl lc, .int .i64 (r : Int)]) rfl (by kernel_rfl) (by kernel_rfl) (by kernel_rfl) (fun _ _ _ h => h) (.inl ⟨by rfl, fun wx hX => by obtain ⟨x0, x1⟩ := hX; go_simp⟩) hS ?_
        simp only [Act.put]
        refine wpAnyH_take (i := 1) (v := .agg #[.slice la nl lc, .int .i64 (r : Int)]) rfl (by kernel_rfl) (by kernel_rfl) (by kernel_rfl) (fun _ _ _ h => h) (.inl ⟨by rfl, fun wx hX => by obtain ⟨x0, x1⟩ := hX; go_simp⟩) hS ?_
        simp only [Act.put]
        refine wpAnyH_take (i := 2) (v := .slice (some ⟨q, o + k, none⟩) np (c - k)) rfl (by kernel_rfl) (by kernel_rfl) (by kernel_rfl) (fun _ _ _ h => h) (.inl ⟨by rfl, fun wx _ => by go_simp⟩) hS ?_
        simp only [Act.put]
        clear hS
        refine wpAnyH_ready (rs := [3]) (by kernel_rfl) (by simp) ?_
        refine AllReadyH.cons rfl (fun K hK => ?_) AllReadyH.nil
        go_simp
        refine BC.out.mono ?_
        rintro e' W6 ⟨b', rfl, hgood, f6⟩
        have HG := hid hgood
        have F6 := hid (F5.out.trans f6)
        have F36 := hid (F35.out.trans f6)
        have rr := F6.out.at R1.out (by simp)
        have q0 : W6.cell? ⟨w.heap.size, 0, none⟩ = some (.slice none 0 0) := by rw [blk_cell rr]; rfl
        have q1 : W6.cell? ⟨w.heap.size, 1, none⟩ = some (.int .i64 0) := by rw [blk_cell rr]; rfl
        have qf := blk_frozen rr
        have HRR := hid rr
        have S6 := hid (SK.out _ f6)
        have S7 := hid (SY.out W6 0 (.slice la nl lc) 1 (.int .i64 (r : Int)) f6)
        clear rr BC SK SY hgood f6
        refine hK.out _ _ S6.out (fun _ => ?_)
        clear hK K
        refine wpAnyH_ready (rs := [4]) (by kernel_rfl) (by simp) ?_
        refine AllReadyH.cons rfl (fun K hK => ?_) AllReadyH.nil
        go_simp
        refine hK.out _ _ S7.out (fun _ => ?_)
        clear hK K
        refine wpAnyH_ready (rs := [5]) (by kernel_rfl) (by simp) ?_
        refine AllReadyH.cons rfl (fun K hK => ?_) AllReadyH.nil
        go_simp
        refine hK.out _ _ S7.out (fun _ => ?_)
        clear hK K q0 q1 qf
        refine wpAnyH_done (by kernel_rfl) ?_ _
        obtain ⟨WF, hWF⟩ : ∃ W, W = (W6.setCell ⟨w.heap.size, 0, none⟩ (.slice la nl lc)).setCell ⟨w.heap.size, 1, none⟩ (.int .i64 (r : Int)) := ⟨_, rfl⟩
        have HRB : WF.heap[w.heap.size]? = some (.cells #[.slice la nl lc, .int .i64 (r : Int)] 157 (0, 0)) := by rw [hWF, blk_set (blk_set HRR.out 0 _)]; rfl
        have kp : ∀ j, j ≠ w.heap.size → WF.heap[j]? = W6.heap[j]? := fun j hj => by rw [hWF, blk_setne _ _ _ hj, blk_setne _ _ _ hj]
        have FF : Hid (Fr [] w WF) := by refine hid ?_; rw [hWF]; exact ((FW1.out.trans F6.out).set _ _ (.inr (Nat.le_refl _))).set _ _ (.inr (Nat.le_refl _))
        have hno : ¬ U8 W6 w.heap.size := by
          refine noU8 (cs := [.slice none 0 0, .int .i64 0]) HRR.out ?_
          intro c hc n e
          simp at hc
          rcases hc with rfl | rfl <;> simp at e
        have RF : Hid (RdN WF (.slice la nl lc) ls) := by
          refine hid ((HCOL.out.fr F36.out).rd_keep (fun j hj => kp j (fun e => ?_)) (fun j hj => kp j (fun e => ?_)))
          · subst e
            obtain ⟨_, cs, o6, _⟩ := HCOL.out.fr F36.out
            exact own_not o6 HRR.out (by decide) hj
          · subst e; exact hno hj
        have g0 : WF.cell? ⟨w.heap.size, 0, none⟩ = some (.slice la nl lc) := by rw [blk_cell HRB]; rfl
        have g1 : WF.cell? ⟨w.heap.size, 1, none⟩ = some (.int .i64 (r : Int)) := by rw [blk_cell HRB]; rfl
        rw [← hWF]
        clear hWF HRB kp hno S6 S7
        go_wp2
        refine bodyPost_ret (v := .tuple #[.agg #[.slice la nl lc, .int .i64 (r : Int)], .bool b']) (by rw [results_cell_tmp rfl]; go_simp) rfl ⟨?_, FF.out⟩
        rcases hb' : b' with _ | _
        · left
          refine ⟨la, nl, lc, (r : Int), rfl, no_good (by rw [HBN.out]; exact hl) HK.out (by rw [HBN.out]; exact hk4) (by rw [HKL.out.1]; exact HLS.out) HRS.out (fun g => ?_)⟩
          have := HG.out.2 g
          rw [hb'] at this
          cases this
        · right
          refine ⟨ls, la, lc, r, by rw [HNL.out], ?_⟩
          rw [HNL.out]
          exact ⟨blk_read HB.out HK.out HLS.out (HG.out.1 hb'), RF.out, HOK.out, by rw [HNL.out, HBN.out]; omega⟩
end Go.Proofs.YtnnookkcnmgbfaaGreat
namespace Go.Proofs.YtnnookkcnmgbfaaGreat
open Go.ChangeShapes Go.WideShapes Go.ChangeAt Go.RowKit

set_option maxRecDepth 20000 in
set_option maxHeartbeats 1600000 in
theorem parse_no (w : World) {v : Value} {b : List Nat} (hr : Rd w v (bv b)) (hb : By b) (hl : b.length ≤ 1000000000) (h : ∀ ps r, ¬ Blk b ps r) :
    Calls Tryz.prog 64 #[v] w fun e w' => e = .returned (.tuple #[.slice none 0 0, .int .i64 72]) ∧ Fr [] w w' := by
  have RC := hid (read_c w hr hb hl)
  have HN := hid h
  obtain ⟨a, c, hv⟩ := hr.form
  subst hv
  clear hr hb h
  go_enter Tryz.func64, Tryz.ntmps64
  go_wp2_with fail
  refine RC.out.mono ?_
  rintro e w1 ⟨⟨la, ln, lc, r, rfl, _⟩ | ⟨ls, la, lc, r, rfl, hB⟩, f1⟩
  · go_wp2
    go_ret2
    exact ⟨rfl, f1.alloc _⟩
  · exact absurd hB.blk (HN.out _ _)
theorem makeKV_run (w : World) {n : Nat} (hc : n ≤ 1000000000) : (Instr.makeSlice 36 (.int .i64 (n : Int)) (.int .i64 (n : Int))).run Tryz.prog w = .ok (.slice (some ⟨w.heap.size, 0, none⟩) n n) (w.alloc (.cells (madeCells #[.slice none 0 0, .slice none 0 0] (n * 2)) 47)) := by
  obtain ⟨i0, hi, hz0, hz1, hz2⟩ := info_parts infoP
  have h := run_make (P := Tryz.prog) w 36 47 i0 (.agg #[.slice none 0 0, .slice none 0 0]) Tryz.underlying36 hi hz0 .i64 .i64 (n : Int) (n : Int) (by omega) (by omega) (by rw [hz2]; omega) (by omega)
  simpa [hz1, Value.cells] using h
/-- What Parse holds ahead of its i-th line. -/
structure PI (w w2 wr : World) (ls : List Ln) (G : Nat) (cur : Array Value) (i : Nat) : Prop where
  hg : wr.heap[G]? = some (.cells cur 47 (0, 0))
  sz : cur.size = ls.length * 2
  sl : ∀ c ∈ cur.toList, ∃ a n k, c = Value.slice a n k
  dn : ∀ (j : Nat) (x : Ln), j < i → ls[j]? = some x → ∃ kv vv, cur[j * 2]? = some kv ∧ cur[j * 2 + 1]? = some vv ∧ Rd wr kv (bv x.key) ∧ Rd wr vv (bv x.val)
  f2 : Fr [] w2 wr
  fr : Fr [] w wr
theorem PI.no {w w2 wr : World} {ls : List Ln} {G : Nat} {cur : Array Value} {i : Nat} (h : PI w w2 wr ls G cur i) : ¬ U8 wr G := by
  refine noU8 (cs := cur.toList) (T := 47) (by rw [Array.toArray_toList]; exact h.hg) ?_
  intro c hc n e
  obtain ⟨a, m, k, rfl⟩ := h.sl c hc
  cases e
theorem PI.quiet {w w2 wr w' : World} {ls : List Ln} {G : Nat} {cur : Array Value} {i : Nat} (h : PI w w2 wr ls G cur i) (f : Fr [] wr w') : PI w w2 w' ls G cur i :=
  ⟨f.at h.hg (by simp), h.sz, h.sl, fun j x hj hx => by
    obtain ⟨kv, vv, c0, c1, r0, r1⟩ := h.dn j x hj hx
    exact ⟨kv, vv, c0, c1, r0.fr f, r1.fr f⟩, h.f2.trans f, h.fr.trans f⟩
theorem PI.put {w w2 wr : World} {ls : List Ln} {G : Nat} {cur : Array Value} {i : Nat} (h : PI w w2 wr ls G cur i) (hi : i < ls.length) (hG : w.heap.size ≤ G) (hG2 : w2.heap.size ≤ G) {x : Ln} (hx : ls[i]? = some x) {ka va : Option Addr} {kn kc vn vc : Nat} (r0 : Rd wr (.slice ka kn kc) (bv x.key)) (r1 : Rd wr (.slice va vn vc) (bv x.val)) :
    PI w w2 ((wr.setCell ⟨G, i * 2, none⟩ (.slice ka kn kc)).setCell ⟨G, i * 2 + 1, none⟩ (.slice va vn vc)) ls G ((cur.setIfInBounds (i * 2) (.slice ka kn kc)).setIfInBounds (i * 2 + 1) (.slice va vn vc)) (i + 1) := by
  have hu : ∀ k, U8 wr k → ((wr.setCell ⟨G, i * 2, none⟩ (.slice ka kn kc)).setCell ⟨G, i * 2 + 1, none⟩ (.slice va vn vc)).heap[k]? = wr.heap[k]? := fun k hk => by
    have : k ≠ G := fun e => by subst e; exact h.no hk
    rw [blk_setne _ _ _ this, blk_setne _ _ _ this]
  have hsz := h.sz
  refine ⟨by rw [blk_set (blk_set h.hg _ _)], by simp [hsz], ?_, ?_, (h.f2.set _ _ (.inr hG2)).set _ _ (.inr hG2), (h.fr.set _ _ (.inr hG)).set _ _ (.inr hG)⟩
  · intro c hc
    rw [Array.toList_setIfInBounds, Array.toList_setIfInBounds] at hc
    rcases List.mem_or_eq_of_mem_set hc with hc | hc
    · rcases List.mem_or_eq_of_mem_set hc with hc | hc
      · exact h.sl c hc
      · exact ⟨_, _, _, hc⟩
    · exact ⟨_, _, _, hc⟩
  · intro j y hj hy
    by_cases hji : j = i
    · subst hji
      rw [hx] at hy
      simp only [Option.some.injEq] at hy
      subst hy
      refine ⟨.slice ka kn kc, .slice va vn vc, ?_, ?_, r0.keep hu, r1.keep hu⟩
      · rw [Array.getElem?_setIfInBounds_ne (by omega), Array.getElem?_setIfInBounds_self_of_lt (by omega)]
      · rw [Array.getElem?_setIfInBounds_self_of_lt (by simp; omega)]
    · obtain ⟨kv, vv, c0, c1, s0, s1⟩ := h.dn j y (by omega) hy
      refine ⟨kv, vv, ?_, ?_, s0.keep hu, s1.keep hu⟩
      · rw [Array.getElem?_setIfInBounds_ne (by omega), Array.getElem?_setIfInBounds_ne (by omega)]; exact c0
      · rw [Array.getElem?_setIfInBounds_ne (by omega), Array.getElem?_setIfInBounds_ne (by omega)]; exact c1
set_option maxRecDepth 20000 in
set_option maxHeartbeats 3200000 in
theorem parse_ok (w : World) {v : Value} {b : List Nat} (hr : Rd w v (bv b)) (hb : By b) (hl : b.length ≤ 1000000000) {ps : Ps} {r : Nat} (h : Blk b ps r) :
    Calls Tryz.prog 64 #[v] w fun e w' => ∃ v', e = .returned (.tuple #[v', .int .i64 0]) ∧ ColK w' w.heap.size v' ps ∧ Fr [] w w' := by
  have RC := hid (read_c w hr hb hl)
  have HN := hid h
  obtain ⟨a, c, hv⟩ := hr.form
  subst hv
  clear hr hb h
  generalize (bv b).length = vn at *
  go_enter Tryz.func64, Tryz.ntmps64
  go_wp2_with fail
  refine RC.out.mono ?_
  rintro e w1 ⟨⟨la, ln, lc, r', rfl, hno⟩ | ⟨ls, la, lc, r', rfl, hB⟩, f1⟩
  · exact absurd HN.out (hno _ _)
  · have HB := hid hB
    have hps : ps = psL ls := blk_one HN.out hB.blk (by omega)
    have HPS := hid hps
    have hln : ls.length ≤ 1000000000 := by have := hB.len; omega
    have F1 := hid f1
    clear hB hps f1 RC
    obtain ⟨W2, hW2⟩ : ∃ W, W = w1.alloc (.cells #[.slice la ls.length lc, .int .i64 (r' : Int)] 157) := ⟨_, rfl⟩
    have F12 : Hid (Fr [] w1 W2) := by refine hid ?_; rw [hW2]; exact (Fr.refl _ _).alloc _
    have C2 : Hid (W2.heap[w1.heap.size]? = some (.cells #[.slice la ls.length lc, .int .i64 (r' : Int)] 157 (0, 0))) := by refine hid ?_; rw [hW2]; exact blk_new _ _
    have hmk := makeKV_run W2 hln
    obtain ⟨W3, hW3⟩ : ∃ W, W = W2.alloc (.cells (madeCells #[.slice none 0 0, .slice none 0 0] (ls.length * 2)) 47) := ⟨_, rfl⟩
    have F23 : Hid (Fr [] W2 W3) := by refine hid ?_; rw [hW3]; exact (Fr.refl _ _).alloc _
    have P3 : Hid (PI w W2 W3 ls W2.heap.size (madeCells #[.slice none 0 0, .slice none 0 0] (ls.length * 2)) 0) := by
      refine hid ⟨by rw [hW3]; exact blk_new _ _, size_madeCells _ _, ?_, fun j x hj => by omega, F23.out, F1.out.trans (F12.out.trans F23.out)⟩
      intro c hc
      simp only [madeCells, Array.toList_map, List.mem_map] at hc
      obtain ⟨k, _, rfl⟩ := hc
      have hk2 : k % 2 = 0 ∨ k % 2 = 1 := by omega
      simp only [List.size_toArray, List.length_cons, List.length_nil]
      rcases hk2 with e | e <;> (rw [show (0 + 1 + 1 : Nat) = 2 from rfl, e]; exact ⟨_, _, _, rfl⟩)
    have c3 : W3.cell? ⟨w1.heap.size, 0, none⟩ = some (.slice la ls.length lc) := by rw [blk_cell (F23.out.at C2.out (by simp))]; rfl
    have c2 : W2.cell? ⟨w1.heap.size, 0, none⟩ = some (.slice la ls.length lc) := by rw [blk_cell C2.out]; rfl
    rw [← hW3] at hmk
    have HRN := hid (HB.out.rd.fr F12.out)
    have HOK := hid HB.out.ok
    have hG : w.heap.size ≤ W2.heap.size := by have := F1.out.size; have := F12.out.size; omega
    clear hW3
    generalize hnl : ls.length = nl at *
    have HNL := hid hnl
    clear hnl
    go_upto_region 4 with fail
    rw [← hW2]
    clear hW2
    go_wp2_with fail
    clear hmk c2 c3
    go_loopw [23] (fun v23 wr => ∃ (i : Nat) (cur : Array Value), i ≤ nl ∧ v23 = .int .i64 (i : Int) ∧ PI w W2 wr ls W2.heap.size cur i) (fun v23 _ => nl - (intOf v23).toNat)
    case atStart => exact ⟨0, _, Nat.zero_le _, rfl, P3.out⟩
    case round =>
      obtain ⟨i, cur, hi, rfl, hpi⟩ := hrel
      have HP := hid hpi
      clear hpi
      by_cases hlt : i < nl
      · have hil : i < ls.length := by rw [HNL.out]; exact hlt
        obtain ⟨a', c', hv', k1⟩ := HRN.out
        simp only [Value.slice.injEq] at hv'
        obtain ⟨rfl, hq, rfl⟩ := hv'
        clear hq
        obtain ⟨b', off, rfl, m1⟩ := k1 (by omega)
        obtain ⟨ka, kc, va, vc, P⟩ := m1 i _ (lnA_at hil)
        have ok := HOK.out _ (List.mem_of_getElem? (lnA_at hil))
        have z0 := cell_fr HP.out.f2 P.c0
        have z1 := cell_fr HP.out.f2 P.c1
        have z2 := cell_fr HP.out.f2 P.c2
        have z3 := cell_fr HP.out.f2 P.c3
        have hlx := lnA_at hil
        have HLX := hid hlx
        obtain ⟨W4, hW4⟩ : ∃ W, W = wr.alloc (.cells #[.int .i64 ((lnA ls i).pos : Int), .int .i64 ((lnA ls i).sh : Int), .slice ka (lnA ls i).key.length kc, .slice va (lnA ls i).val.length vc] 161) := ⟨_, rfl⟩
        have F4 : Hid (Fr [] wr W4) := by refine hid ?_; rw [hW4]; exact (Fr.refl _ _).alloc _
        have EC := hid (entry_c W4 (p := ((lnA ls i).pos : Int)) (s := ((lnA ls i).sh : Int)) ((P.rk.fr HP.out.f2).fr F4.out) ((P.rv.fr HP.out.f2).fr F4.out) (by have := ok.lk; omega) ok.lv)
        clear m1 k1 P ok hlx
        generalize lnA ls i = x at *
        go_wp2_with fail
        rw [← hW4]
        clear hW4
        refine EC.out.mono ?_
        rintro e W5 ⟨kv, vv, rfl, ent⟩
        obtain ⟨kka, kkc, rfl, _⟩ := ownsRow_slice ent.ok
        obtain ⟨vva, vvc, rfl, _⟩ := ownsRow_slice ent.ov
        have P5 := HP.out.quiet (F4.out.trans ent.fr)
        have sz := P5.sz
        have y0 : ∃ u, W5.cell? ⟨W2.heap.size, i * 2, none⟩ = some u := ⟨cur[i * 2]'(by omega), by rw [blk_cell P5.hg, Array.getElem?_eq_getElem (by omega)]⟩
        have y1 : ∃ u, W5.cell? ⟨W2.heap.size, i * 2 + 1, none⟩ = some u := ⟨cur[i * 2 + 1]'(by omega), by rw [blk_cell P5.hg, Array.getElem?_eq_getElem (by omega)]⟩
        obtain ⟨u0, y0⟩ := y0
        obtain ⟨u1, y1⟩ := y1
        have yf := blk_frozen P5.hg
        have P6 := hid (P5.put hil hG (Nat.le_refl _) HLX.out (Rd.ownB ent.ok) (Rd.ownB ent.ov))
        clear P5 ent EC sz
        go_wp2
        go_roundw
        case rel => exact ⟨i + 1, _, by omega, by go_num, P6.out⟩
        case measure => simp [intOf]; omega
      · have hie : i = nl := by omega
        subst hie
        go_wp2
        go_ret2
        refine ⟨_, rfl, ?_, HP.out.fr⟩
        have sz := HP.out.sz
        refine ⟨cur.toList, ⟨by simp [sz, HPS.out, psL_len], .inr ⟨W2.heap.size, i, cur, ?_, hG, HP.out.hg, ?_, ?_, ?_, ?_⟩⟩, HP.out.sl, ?_⟩
        · rw [HPS.out, psL_len, HNL.out]; rfl
        · rw [HPS.out, psL_len, HNL.out]; exact Nat.le_refl _
        · unfold maxLen; omega
        · rw [sz, HNL.out]
        · rw [HPS.out, psL_len, ← sz, List.take_of_length_le (by simp)]
        · intro j p hj
          rw [HPS.out] at hj
          unfold psL at hj
          rw [List.getElem?_map, Option.map_eq_some_iff] at hj
          obtain ⟨x, hx, rfl⟩ := hj
          have hjl : j < i := by
            rcases Nat.lt_or_ge j ls.length with h | h
            · rw [← HNL.out]; exact h
            · rw [List.getElem?_eq_none h] at hx; cases hx
          obtain ⟨kv, vv, c0, c1, r0, r1⟩ := HP.out.dn j x hjl hx
          have ok := HOK.out _ (List.mem_of_getElem? hx)
          exact ⟨kv, vv, by rw [Array.getElem?_toList]; exact c0, by rw [Array.getElem?_toList]; exact c1, r0, r1, ok.bk, ok.bv', by dsimp only; have := ok.lk; omega, by dsimp only; have := ok.lv; omega⟩
end Go.Proofs.YtnnookkcnmgbfaaGreat
