/-
  The document's Whole.
-/
import Derived.Test.YtckdcaegnbgomaaVT
import Derived.Test.YtckdcaegnbgomaaVZ
import Derived.Test.YtckdcaegnbgomaaJ38
namespace Go.Proofs.Ytckdcaegnbgomaa
open Go.ChangeShapes Go.WideShapes Go.ChangeAt Go.RowKit

set_option maxRecDepth 20000 in
set_option maxHeartbeats 6400000 in
theorem rwhole_c (w : World) {v : Vn} {ad : Nat → Option Addr} {ln cp : Nat → Nat} (hv : VAt w v.lv ad ln cp) (hnil : ∀ i, i < 5 → ad i = none → ln i = 0 ∧ cp i = 0) (hsm : ∀ i, i < 5 → ln i ≤ 100) :
    Calls Try.prog 12 #[.agg #[.int .i64 v.log, .int .i64 v.next, .int .u64 (v.seq : Int), .slice (ad 0) (ln 0) (cp 0), .slice (ad 1) (ln 1) (cp 1), .slice (ad 2) (ln 2) (cp 2), .slice (ad 3) (ln 3) (cp 3), .slice (ad 4) (ln 4) (cp 4)]] w fun r w' => WhOut w w' v r := by
  obtain ⟨vl, hvl⟩ : ∃ x, x = v.log := ⟨_, rfl⟩
  obtain ⟨vn, hvn⟩ : ∃ x, x = v.next := ⟨_, rfl⟩
  obtain ⟨vs, hvs⟩ : ∃ x, x = v.seq := ⟨_, rfl⟩
  obtain ⟨W0, hW0⟩ : ∃ W0, W0 = (w.alloc (.cells #[.int .i64 vl, .int .i64 vn, .int .u64 (vs : Int), .slice (ad 0) (ln 0) (cp 0), .slice (ad 1) (ln 1) (cp 1), .slice (ad 2) (ln 2) (cp 2), .slice (ad 3) (ln 3) (cp 3), .slice (ad 4) (ln 4) (cp 4)] 26)).alloc (.cells #[.int .i64 0, .int .i64 0, .int .u64 0, .slice none 0 0, .slice none 0 0] 30) := ⟨_, rfl⟩
  have F0 : Hid (Fr [] w W0) := hid (by rw [hW0]; exact ((Fr.refl _ _).alloc _).alloc _)
  have N0 : Hid (W0.heap[w.heap.size]? = some (.cells #[.int .i64 vl, .int .i64 vn, .int .u64 (vs : Int), .slice (ad 0) (ln 0) (cp 0), .slice (ad 1) (ln 1) (cp 1), .slice (ad 2) (ln 2) (cp 2), .slice (ad 3) (ln 3) (cp 3), .slice (ad 4) (ln 4) (cp 4)] 26 (0, 0))) := hid (by rw [hW0, blk_old _ _ (by simp)]; exact blk_new _ _)
  have N1 : Hid (W0.heap[w.heap.size + 1]? = some (.cells #[.int .i64 0, .int .i64 0, .int .u64 0, .slice none 0 0, .slice none 0 0] 30 (0, 0))) := hid (by rw [hW0]; exact new_at _ _ (by simp))
  have CK := hid (rcheck_c W0 (hv.fr F0.out) hnil (fun i hi => by have := hsm i hi; omega))
  rw [← hvl, ← hvn, ← hvs] at CK ⊢
  have HVE := hid (And.intro hvl (And.intro hvn hvs))
  obtain ⟨C, hC⟩ : ∃ C, C = chkV v := ⟨_, rfl⟩
  rw [← hC] at CK
  have HC := hid hC
  have HV := hid (hv.fr F0.out)
  obtain ⟨X, hX1, hX2⟩ := HV.out.vx
  have HXM := hid hX1
  have VX0 := hid hX2
  have HSM := hid hsm
  have CV : Hid (∀ W, Fr [] W0 W → _) := hid (fun W f => vn_cells (f.at N0.out (by simp)))
  clear hv hvl hvn hvs hC hsm hX1 hX2 hnil
  obtain ⟨z0, z1, z2, z3, z4, z5, z6, z7⟩ := CV.out W0 (Fr.refl _ _)
  go_enter Try.func12, Try.ntmps12
  go_upto_region 1 with fail
  rw [← hW0]
  clear hW0
  go_upto_region 2 with (go_at_call 15; refine CK.out.mono ?_; rintro r W1 ⟨rfl, f1⟩; have F1 := hid f1; clear f1)
  clear z0 z1 z2 z3 z4 z5 z6 z7 CK
  have M1 := hid (F1.out.at N1.out (by simp))
  by_cases hC0 : C = 0
  · subst hC0
    have HC0 : Hid (chkV v = 0) := hid HC.out.symm
    clear HC
    obtain ⟨z0, z1, z2, z3, z4, z5, z6, z7⟩ := CV.out W1 F1.out
    obtain ⟨Q5, hQ5⟩ : ∃ Q5, Q5 = W1.heap.size := ⟨_, rfl⟩
    obtain ⟨W5, hW5⟩ : ∃ W5, W5 = W1.alloc (.cells #[.int .i64 vl, .int .i64 vn, .int .u64 (vs : Int), .slice none 0 0, .slice none 0 0] 30) := ⟨_, rfl⟩
    have D5 : Hid (WhS W0 W5 Q5 vl vn (vs : Int) (allA v.lv 0 ++ tagL 0 ((v.lv 0).take 0)) none 0 0) := hid (by
      have f5 : Fr [] W1 W5 := by rw [hW5]; exact (Fr.refl _ _).alloc _
      exact ⟨by rw [hW5, hQ5]; exact blk_new _ _, AO.nil _ _, rfl, F1.out.trans f5, by rw [hQ5]; exact F1.out.size⟩)
    go_upto_region 5 with fail
    rw [← hW5, ← hQ5]
    clear hW5 hQ5 z0 z1 z2 z3 z4 z5 z6 z7 M1 F1
    have HLL : Hid (∀ i, i < 5 → (v.lv i).length ≤ 100) := hid (fun i hi => by rw [← HV.out.len i hi]; exact HSM.out i hi)
    go_wp2_with fail
    go_loopw [6] (fun v6 wr => ∃ (i : Nat) (aa : Option Addr) (al ac : Nat), i ≤ 5 ∧ v6 = .int .i64 (i : Int) ∧ WhS W0 wr Q5 vl vn (vs : Int) (allA v.lv i) aa al ac) (fun v6 _ => 5 - (intOf v6).toNat)
    case atStart => exact ⟨0, none, 0, 0, by omega, rfl, D5.out⟩
    case round =>
      obtain ⟨i, aa, al, ac, hi, rfl, hds⟩ := hrel
      have DS0 := hid hds
      clear hds D5
      by_cases hlt : i < 5
      · have hlt' : (i : Int) < 5 := by omega
        have CI : Hid (∀ W : World, Fr [] W0 W → W.cell? ⟨w.heap.size, 3 + i, none⟩ = some (.slice (ad i) (ln i) (cp i))) := hid (fun W f => vn_cell (f.at N0.out (by simp)) hlt)
        have zc := CI.out wr DS0.out.fr
        have HXi : Hid ((X i).map Fx.f = v.lv i) := hid (HXM.out i hlt)
        have HXN : Hid (ln i = (X i).length) := hid (VX0.out.len i hlt)
        have HLN : Hid (ln i = (v.lv i).length) := hid (HV.out.len i hlt)
        have hsi := HSM.out i hlt
        have HRD := hid (VX0.out.rd i hlt)
        obtain ⟨li, hli⟩ : ∃ li, li = ln i := ⟨_, rfl⟩
        obtain ⟨ai, hai⟩ : ∃ ai, ai = ad i := ⟨_, rfl⟩
        obtain ⟨ci, hci⟩ : ∃ ci, ci = cp i := ⟨_, rfl⟩
        rw [← hli] at zc CI HXN HRD hsi HLN
        rw [← hai] at zc CI HRD
        rw [← hci] at zc CI
        clear hli hai hci
        go_wp2_with fail
        clear zc
        go_loopw [7] (fun v7 wr => ∃ (j : Nat) (aa : Option Addr) (al ac : Nat), j ≤ li ∧ v7 = .int .i64 (j : Int) ∧ WhS W0 wr Q5 vl vn (vs : Int) (allA v.lv i ++ tagL i ((v.lv i).take j)) aa al ac) (fun v7 _ => li - (intOf v7).toNat)
        case atStart => exact ⟨0, aa, al, ac, by omega, rfl, by have := DS0.out; simpa [tagL] using this⟩
        case round =>
          clear DS0
          obtain ⟨j, aa, al, ac, hj, rfl, hds⟩ := hrel
          have D1 := hid hds
          clear hds
          have zc := CI.out wr D1.out.fr
          by_cases hjl : j < li
          · have hjl' : (j : Int) < (li : Int) := by omega
            obtain ⟨x, hx⟩ : ∃ x, (X i)[j]? = some x := ⟨_, List.getElem?_eq_getElem (by rw [← HXN.out]; exact hjl)⟩
            obtain ⟨b, off, hab, m1⟩ := HRD.out (by omega)
            subst hab
            have k0 := m1 j x hx
            have HXF : Hid ((v.lv i)[j]? = some x.f) := hid (at_map HXi.out hx)
            clear m1 hx
            have SK : Hid (∀ W, Fr [] W0 W → W.cell? ⟨b, off + j * 4, none⟩ = some (.int .i64 x.f.num) ∧ W.cell? ⟨b, off + j * 4 + 1, none⟩ = some (.int .i64 x.f.size) ∧ W.cell? ⟨b, off + j * 4 + 2, none⟩ = some (.slice x.la x.f.least.length x.lc) ∧ W.cell? ⟨b, off + j * 4 + 3, none⟩ = some (.slice x.ma x.f.most.length x.mc)) := hid (fun W f => ⟨cell_fr f k0.c0, cell_fr f k0.c1, cell_fr f k0.c2, cell_fr f k0.c3⟩)
            have CP : Hid (∀ W, Fr [] wr W → Calls Try.prog 24 #[.agg #[.int .i64 x.f.num, .int .i64 x.f.size, .slice x.la x.f.least.length x.lc, .slice x.ma x.f.most.length x.mc]] W fun r w' => COut W w' x.f r) := hid (fun W f => rcopied_c W (k0.rd.fr (D1.out.fr.trans f)))
            clear k0
            have hal : al ≤ 1000 := by
              rw [D1.out.hl, List.length_append]
              have q1 := allA_len v.lv HLL.out i (by omega)
              have q2 := HLL.out i hlt
              unfold tagL
              rw [List.length_map, List.length_take]
              omega
            go_upto_region 11 with fail
            clear zc
            have za : wr.drew.cell? ⟨Q5, 4, none⟩ = some (.slice aa al ac) := (ed5_cells (D1.out.fr' (Fr.refl _ _).drew).blk).2.2.2.2
            have MK : Hid (∀ (w4 : World) (la' : Option Addr) (lc' : Nat) (ma' : Option Addr) (mc' : Nat), Fr [] wr.drew w4 → XO wr.drew.heap.size w4 x.f la' lc' ma' mc' → ∃ xs, (w4.alloc (.cells #[.int .i64 (i : Int), .int .i64 x.f.num, .int .i64 x.f.size, .slice la' x.f.least.length lc', .slice ma' x.f.most.length mc'] 57)).ownsRow W0.heap.size 57 5 (.slice aa al ac) al xs ∧
                (∀ a6 c6 w6, w6.ownsRow W0.heap.size 57 5 (.slice a6 (al + 1) c6) (al + 1) (xs ++ [.int .i64 (i : Int), .int .i64 x.f.num, .int .i64 x.f.size, .slice la' x.f.least.length lc', .slice ma' x.f.most.length mc']) → (w4.alloc (.cells #[.int .i64 (i : Int), .int .i64 x.f.num, .int .i64 x.f.size, .slice la' x.f.least.length lc', .slice ma' x.f.most.length mc'] 57)).grownBy w6 (Value.slice aa al ac).ownBlock → Fr [] W0 w6 ∧ w6.heap[Q5]? = some (.cells #[.int .i64 vl, .int .i64 vn, .int .u64 (vs : Int), .slice none 0 0, .slice aa al ac] 30 (0, 0)) ∧ WhS W0 (w6.setCell ⟨Q5, 4, none⟩ (.slice a6 (al + 1) c6)) Q5 vl vn (vs : Int) (allA v.lv i ++ tagL i ((v.lv i).take j) ++ [((i : Int), x.f)]) a6 (al + 1) c6) ∧
                W0.heap.size ≤ (w4.alloc (.cells #[.int .i64 (i : Int), .int .i64 x.f.num, .int .i64 x.f.size, .slice la' x.f.least.length lc', .slice ma' x.f.most.length mc'] 57)).heap.size ∧ Fr [] W0 w4 ∧ Fr [] W0 (w4.alloc (.cells #[.int .i64 (i : Int), .int .i64 x.f.num, .int .i64 x.f.size, .slice la' x.f.least.length lc', .slice ma' x.f.most.length mc'] 57)) ∧ w4.cell? ⟨Q5, 4, none⟩ = some (.slice aa al ac) ∧ (w4.alloc (.cells #[.int .i64 (i : Int), .int .i64 x.f.num, .int .i64 x.f.size, .slice la' x.f.least.length lc', .slice ma' x.f.most.length mc'] 57)).cell? ⟨Q5, 4, none⟩ = some (.slice aa al ac)) := hid (fun w4 la' lc' ma' mc' f4 xo => by
              have d4 := D1.out.fr' ((Fr.refl [] wr).drew.trans f4)
              have fa : Fr [] w4 (w4.alloc (.cells #[.int .i64 (i : Int), .int .i64 x.f.num, .int .i64 x.f.size, .slice la' x.f.least.length lc', .slice ma' x.f.most.length mc'] 57)) := (Fr.refl _ _).alloc _
              have d5 := d4.fr' fa
              obtain ⟨xs, o5, h5⟩ := d5.ao
              have hb : W0.heap.size ≤ wr.drew.heap.size := D1.out.fr.size
              refine ⟨xs, by have := o5; rw [← d5.hl] at this; exact this, fun a6 c6 w6 o6 g6 => ⟨?_, ?_⟩, d5.fr.size, d4.fr, d5.fr, (ed5_cells d4.blk).2.2.2.2, (ed5_cells d5.blk).2.2.2.2⟩
              · exact d5.fr.grown g6 (fun k e => by
                  rcases o5.2 with ⟨q1, _⟩ | ⟨g', cap, cur, q1, q2, q3, _⟩
                  · rw [q1] at e; simp [Value.ownBlock] at e
                  · rw [q1] at e; simp [Value.ownBlock] at e; subst e; exact .inr q2)
              · exact d5.app (p := ((i : Int), x.f)) o5 h5 ((⟨own_base9 xo.ol hb, own_base9 xo.om hb⟩ : XO W0.heap.size w4 x.f la' lc' ma' mc').fr fa) o6 g6)
            refine wp_region_held_drew (S := fun w' => Fr [] W0 w') (by kernel_rfl) D1.out.fr.drew (fun hS => ?_)
            refine wpAnyH_take (i := 0) (v := .pointer (some ⟨Q5, 4, none⟩)) rfl (by kernel_rfl) (by kernel_rfl) (by kernel_rfl) (fun _ _ _ h => h) (.inl ⟨by kernel_rfl, fun wx _ => by go_simp⟩) hS ?_
            simp only [Act.put, List.getElem_toArray, List.getElem_cons_zero, List.set_cons_succ, List.set_cons_zero, List.setIfInBounds_toArray]
            refine wpAnyH_take (i := 2) (v := .int .i64 (i : Int)) rfl (by kernel_rfl) (by kernel_rfl) (by kernel_rfl) (fun _ _ _ h => h) (.inl ⟨by kernel_rfl, fun wx _ => by go_simp⟩) hS ?_
            simp only [Act.put, List.getElem_toArray, List.getElem_cons_succ, List.getElem_cons_zero, List.set_cons_succ, List.set_cons_zero, List.setIfInBounds_toArray]
            refine wpAnyH_take (i := 3) (v := .int .i64 (i : Int)) rfl (by kernel_rfl) (by kernel_rfl) (by kernel_rfl) (fun _ _ _ h => h) (.inl ⟨by kernel_rfl, fun wx _ => by go_simp⟩) hS ?_
            simp only [Act.put, List.getElem_toArray, List.getElem_cons_succ, List.getElem_cons_zero, List.set_cons_succ, List.set_cons_zero, List.setIfInBounds_toArray]
            refine wpAnyH_take (i := 4) (v := .pointer (some ⟨w.heap.size, 3, none⟩)) rfl (by kernel_rfl) (by kernel_rfl) (by kernel_rfl) (fun _ _ _ h => h) (.inl ⟨by kernel_rfl, fun wx _ => by go_simp⟩) hS ?_
            simp only [Act.put, List.getElem_toArray, List.getElem_cons_succ, List.getElem_cons_zero, List.set_cons_succ, List.set_cons_zero, List.setIfInBounds_toArray]
            refine wpAnyH_take (i := 5) (v := .pointer (some ⟨w.heap.size, 3 + i, none⟩)) rfl (by kernel_rfl) (by kernel_rfl) (by kernel_rfl) (fun _ _ _ h => h) (.inl ⟨by kernel_rfl, fun wx _ => by go_simp⟩) hS ?_
            simp only [Act.put, List.getElem_toArray, List.getElem_cons_succ, List.getElem_cons_zero, List.set_cons_succ, List.set_cons_zero, List.setIfInBounds_toArray]
            refine wpAnyH_take (i := 6) (v := .slice (some ⟨b, off, none⟩) li ci) rfl (by kernel_rfl) (by kernel_rfl) (by kernel_rfl) (fun _ _ _ h => h) (.inl ⟨by kernel_rfl, fun wx hX => by have zc := CI.out wx hX; go_simp⟩) hS ?_
            simp only [Act.put, List.getElem_toArray, List.getElem_cons_succ, List.getElem_cons_zero, List.set_cons_succ, List.set_cons_zero, List.setIfInBounds_toArray]
            refine wpAnyH_take (i := 7) (v := .int .i64 (j : Int)) rfl (by kernel_rfl) (by kernel_rfl) (by kernel_rfl) (fun _ _ _ h => h) (.inl ⟨by kernel_rfl, fun wx _ => by go_simp⟩) hS ?_
            simp only [Act.put, List.getElem_toArray, List.getElem_cons_succ, List.getElem_cons_zero, List.set_cons_succ, List.set_cons_zero, List.setIfInBounds_toArray]
            refine wpAnyH_take (i := 8) (v := .pointer (some ⟨b, off + j * 4, none⟩)) rfl (by kernel_rfl) (by kernel_rfl) (by kernel_rfl) (fun _ _ _ h => h) (.inl ⟨by kernel_rfl, fun wx _ => by go_simp⟩) hS ?_
            simp only [Act.put, List.getElem_toArray, List.getElem_cons_succ, List.getElem_cons_zero, List.set_cons_succ, List.set_cons_zero, List.setIfInBounds_toArray]
            refine wpAnyH_take (i := 9) (v := .agg #[.int .i64 x.f.num, .int .i64 x.f.size, .slice x.la x.f.least.length x.lc, .slice x.ma x.f.most.length x.mc]) rfl (by kernel_rfl) (by kernel_rfl) (by kernel_rfl) (fun _ _ _ h => h) (.inl ⟨by kernel_rfl, fun wx hX => by obtain ⟨s0, s1, s2, s3⟩ := SK.out wx hX; go_simp⟩) hS ?_
            simp only [Act.put, List.getElem_toArray, List.getElem_cons_succ, List.getElem_cons_zero, List.set_cons_succ, List.set_cons_zero, List.setIfInBounds_toArray]
            clear hS
            refine wpAnyH_ready (rs := [1, 10]) (by kernel_rfl) (by simp) ?_
            refine AllReadyH.cons rfl (fun K hK => ?_) (AllReadyH.cons rfl (fun K hK => ?_) AllReadyH.nil)
            · go_simp
              refine hK.out _ _ D1.out.fr.drew (fun _ => ?_)
              clear hK K
              refine wpAnyH_ready (rs := [10]) (by kernel_rfl) (by simp) ?_
              refine AllReadyH.cons rfl (fun K hK => ?_) AllReadyH.nil
              go_simp
              refine (CP.out wr.drew (Fr.refl _ _).drew).mono ?_
              intro r w4 co
              obtain ⟨⟨la', lc', ma', mc', hr, xo⟩, f4⟩ := co
              subst hr
              have MM := hid (MK.out w4 la' lc' ma' mc' f4 xo)
              obtain ⟨xs, ow, aq, fs, s4, s5, z4, z5⟩ := MM.out
              have OW := hid ow
              have AQ := hid aq
              have FS := hid fs
              have S4 := hid s4
              have S5 := hid s5
              have NG : Hid ((w4.alloc (.cells #[.int .i64 (i : Int), .int .i64 x.f.num, .int .i64 x.f.size, .slice la' x.f.least.length lc', .slice ma' x.f.most.length mc'] 57)).heap[w4.heap.size]? = some (.cells #[.int .i64 (i : Int), .int .i64 x.f.num, .int .i64 x.f.size, .slice la' x.f.least.length lc', .slice ma' x.f.most.length mc'] 57 (0, 0))) := hid (blk_new _ _)
              refine hK.out _ _ S4.out (fun hS => ?_)
              clear hK K MM ow aq fs s4 s5 xo f4
              refine wpAnyH_take (i := 11) (v := .agg #[.int .i64 (i : Int), .int .i64 x.f.num, .int .i64 x.f.size, .slice la' x.f.least.length lc', .slice ma' x.f.most.length mc']) rfl (by kernel_rfl) (by kernel_rfl) (by kernel_rfl) (fun _ _ _ h => h) (.inl ⟨by kernel_rfl, fun wx _ => by go_simp⟩) hS ?_
              simp only [Act.put, List.getElem_toArray, List.getElem_cons_succ, List.getElem_cons_zero, List.set_cons_succ, List.set_cons_zero, List.setIfInBounds_toArray]
              clear hS
              refine wpAnyH_ready (rs := [12]) (by kernel_rfl) (by simp) ?_
              refine AllReadyH.cons rfl (fun K hK => ?_) AllReadyH.nil
              refine step_buildP rfl (.tmp 45) rfl (g0 := (i : Int)) (g1 := x.f.num) (g2 := x.f.size) (la := la') (ma := ma') (ll := x.f.least.length) (lc := lc') (lm := x.f.most.length) (mc := mc') (by first | (simp [Act.eval]; done) | simp [Act.eval, Act.put]) ?_
              refine hK.out _ _ S5.out (fun _ => ?_)
              clear hK K
              refine wpAnyH_ready (rs := [13]) (by kernel_rfl) (by simp) ?_
              refine AllReadyH.cons rfl (fun K hK => ?_) AllReadyH.nil
              refine step_appP rfl (.tmp 35) (.tmp 46) rfl W0.heap.size (ad := aa) (n := al) (c := ac) (xs := xs) (by first | (simp [Act.eval]; done) | simp [Act.eval, Act.put]) OW.out (G := w4.heap.size) (by first | (simp [Act.eval]; done) | simp [Act.eval, Act.put]) NG.out (by omega) FS.out ?_
              intro a6 c6 w6 o6 g6
              have AP := hid (AQ.out a6 c6 w6 o6 g6)
              refine hK.out _ _ AP.out.1 (fun _ => ?_)
              clear hK K o6 g6
              have kf := blk_frozen AP.out.2.1 4
              have kq := (ed5_cells AP.out.2.1).2.2.2.2
              refine wpAnyH_ready (rs := [14]) (by kernel_rfl) (by simp) ?_
              refine AllReadyH.cons rfl (fun K hK => ?_) AllReadyH.nil
              go_simp
              refine hK.out _ _ AP.out.1 (fun _ => ?_)
              clear hK K
              refine wpAnyH_ready (rs := [15]) (by kernel_rfl) (by simp) ?_
              refine AllReadyH.cons rfl (fun K hK => ?_) AllReadyH.nil
              go_simp
              refine hK.out _ _ AP.out.2.2.fr (fun _ => ?_)
              clear hK K
              refine wpAnyH_done (by kernel_rfl) ?_ _
              go_wp2_with fail
              go_roundw
              case rel => exact ⟨j + 1, _, _, _, by omega, by go_num, by rw [tag_take HXF.out, ← List.append_assoc]; exact AP.out.2.2⟩
              case measure => simp [intOf]; omega
            · go_simp
              refine (CP.out wr.drew (Fr.refl _ _).drew).mono ?_
              intro r w4 co
              obtain ⟨⟨la', lc', ma', mc', hr, xo⟩, f4⟩ := co
              subst hr
              have MM := hid (MK.out w4 la' lc' ma' mc' f4 xo)
              obtain ⟨xs, ow, aq, fs, s4, s5, z4, z5⟩ := MM.out
              have OW := hid ow
              have AQ := hid aq
              have FS := hid fs
              have S4 := hid s4
              have S5 := hid s5
              have NG : Hid ((w4.alloc (.cells #[.int .i64 (i : Int), .int .i64 x.f.num, .int .i64 x.f.size, .slice la' x.f.least.length lc', .slice ma' x.f.most.length mc'] 57)).heap[w4.heap.size]? = some (.cells #[.int .i64 (i : Int), .int .i64 x.f.num, .int .i64 x.f.size, .slice la' x.f.least.length lc', .slice ma' x.f.most.length mc'] 57 (0, 0))) := hid (blk_new _ _)
              refine hK.out _ _ S4.out (fun hS => ?_)
              clear hK K MM ow aq fs s4 s5 xo f4
              refine wpAnyH_take (i := 11) (v := .agg #[.int .i64 (i : Int), .int .i64 x.f.num, .int .i64 x.f.size, .slice la' x.f.least.length lc', .slice ma' x.f.most.length mc']) rfl (by kernel_rfl) (by kernel_rfl) (by kernel_rfl) (fun _ _ _ h => h) (.inl ⟨by kernel_rfl, fun wx _ => by go_simp⟩) hS ?_
              simp only [Act.put, List.getElem_toArray, List.getElem_cons_succ, List.getElem_cons_zero, List.set_cons_succ, List.set_cons_zero, List.setIfInBounds_toArray]
              clear hS
              refine wpAnyH_ready (rs := [1, 12]) (by kernel_rfl) (by simp) ?_
              refine AllReadyH.cons rfl (fun K hK => ?_) (AllReadyH.cons rfl (fun K hK => ?_) AllReadyH.nil)
              · go_simp
                refine hK.out _ _ S4.out (fun _ => ?_)
                clear hK K
                refine wpAnyH_ready (rs := [12]) (by kernel_rfl) (by simp) ?_
                refine AllReadyH.cons rfl (fun K hK => ?_) AllReadyH.nil
                refine step_buildP rfl (.tmp 45) rfl (g0 := (i : Int)) (g1 := x.f.num) (g2 := x.f.size) (la := la') (ma := ma') (ll := x.f.least.length) (lc := lc') (lm := x.f.most.length) (mc := mc') (by first | (simp [Act.eval]; done) | simp [Act.eval, Act.put]) ?_
                refine hK.out _ _ S5.out (fun _ => ?_)
                clear hK K
                refine wpAnyH_ready (rs := [13]) (by kernel_rfl) (by simp) ?_
                refine AllReadyH.cons rfl (fun K hK => ?_) AllReadyH.nil
                refine step_appP rfl (.tmp 35) (.tmp 46) rfl W0.heap.size (ad := aa) (n := al) (c := ac) (xs := xs) (by first | (simp [Act.eval]; done) | simp [Act.eval, Act.put]) OW.out (G := w4.heap.size) (by first | (simp [Act.eval]; done) | simp [Act.eval, Act.put]) NG.out (by omega) FS.out ?_
                intro a6 c6 w6 o6 g6
                have AP := hid (AQ.out a6 c6 w6 o6 g6)
                refine hK.out _ _ AP.out.1 (fun _ => ?_)
                clear hK K o6 g6
                have kf := blk_frozen AP.out.2.1 4
                have kq := (ed5_cells AP.out.2.1).2.2.2.2
                refine wpAnyH_ready (rs := [14]) (by kernel_rfl) (by simp) ?_
                refine AllReadyH.cons rfl (fun K hK => ?_) AllReadyH.nil
                go_simp
                refine hK.out _ _ AP.out.1 (fun _ => ?_)
                clear hK K
                refine wpAnyH_ready (rs := [15]) (by kernel_rfl) (by simp) ?_
                refine AllReadyH.cons rfl (fun K hK => ?_) AllReadyH.nil
                go_simp
                refine hK.out _ _ AP.out.2.2.fr (fun _ => ?_)
                clear hK K
                refine wpAnyH_done (by kernel_rfl) ?_ _
                go_wp2_with fail
                go_roundw
                case rel => exact ⟨j + 1, _, _, _, by omega, by go_num, by rw [tag_take HXF.out, ← List.append_assoc]; exact AP.out.2.2⟩
                case measure => simp [intOf]; omega
              · refine step_buildP rfl (.tmp 45) rfl (g0 := (i : Int)) (g1 := x.f.num) (g2 := x.f.size) (la := la') (ma := ma') (ll := x.f.least.length) (lc := lc') (lm := x.f.most.length) (mc := mc') (by first | (simp [Act.eval]; done) | simp [Act.eval, Act.put]) ?_
                refine hK.out _ _ S5.out (fun _ => ?_)
                clear hK K
                refine wpAnyH_ready (rs := [1]) (by kernel_rfl) (by simp) ?_
                refine AllReadyH.cons rfl (fun K hK => ?_) AllReadyH.nil
                go_simp
                refine hK.out _ _ S5.out (fun _ => ?_)
                clear hK K
                refine wpAnyH_ready (rs := [13]) (by kernel_rfl) (by simp) ?_
                refine AllReadyH.cons rfl (fun K hK => ?_) AllReadyH.nil
                refine step_appP rfl (.tmp 35) (.tmp 46) rfl W0.heap.size (ad := aa) (n := al) (c := ac) (xs := xs) (by first | (simp [Act.eval]; done) | simp [Act.eval, Act.put]) OW.out (G := w4.heap.size) (by first | (simp [Act.eval]; done) | simp [Act.eval, Act.put]) NG.out (by omega) FS.out ?_
                intro a6 c6 w6 o6 g6
                have AP := hid (AQ.out a6 c6 w6 o6 g6)
                refine hK.out _ _ AP.out.1 (fun _ => ?_)
                clear hK K o6 g6
                have kf := blk_frozen AP.out.2.1 4
                have kq := (ed5_cells AP.out.2.1).2.2.2.2
                refine wpAnyH_ready (rs := [14]) (by kernel_rfl) (by simp) ?_
                refine AllReadyH.cons rfl (fun K hK => ?_) AllReadyH.nil
                go_simp
                refine hK.out _ _ AP.out.1 (fun _ => ?_)
                clear hK K
                refine wpAnyH_ready (rs := [15]) (by kernel_rfl) (by simp) ?_
                refine AllReadyH.cons rfl (fun K hK => ?_) AllReadyH.nil
                go_simp
                refine hK.out _ _ AP.out.2.2.fr (fun _ => ?_)
                clear hK K
                refine wpAnyH_done (by kernel_rfl) ?_ _
                go_wp2_with fail
                go_roundw
                case rel => exact ⟨j + 1, _, _, _, by omega, by go_num, by rw [tag_take HXF.out, ← List.append_assoc]; exact AP.out.2.2⟩
                case measure => simp [intOf]; omega
          · have hjn : j = li := by omega
            subst hjn
            have D2 : Hid (WhS W0 wr Q5 vl vn (vs : Int) (allA v.lv (i + 1)) aa al ac) := hid (by rw [allA_succ]; have := D1.out; rw [HLN.out, List.take_length] at this; exact this)
            go_wp2_with fail
            go_roundw
            case rel => exact ⟨i + 1, aa, al, ac, by omega, by go_num, D2.out⟩
            case measure => simp [intOf]; omega
      · have hin : i = 5 := by omega
        subst hin
        have M5 := hid (DS0.out.fr.at N1.out (by simp))
        obtain ⟨z0, z1, z2, z3, z4⟩ := ed5_cells DS0.out.blk
        obtain ⟨q0, q1, q2, q3, q4⟩ := ed5_cells M5.out
        have qf0 := blk_frozen M5.out 0
        have qf1 := blk_frozen M5.out 1
        have qf2 := blk_frozen M5.out 2
        have qf3 := blk_frozen M5.out 3
        have qf4 := blk_frozen M5.out 4
        go_wp2_with fail
        refine bodyPost_ret (ret_ct9 rfl (g := w.heap.size + 1) (by simp) (load30k (by rw [blk_set (blk_set (blk_set (blk_set (blk_set M5.out 0 _) 1 _) 2 _) 3 _) 4 _]; rfl))) rfl ?_
        have ge5 := DS0.out.ge
        have hlt1 := blk_lt N1.out
        refine ⟨((((((F0.out.trans DS0.out.fr).set _ _ (.inr (by omega))).set _ _ (.inr (by omega))).set _ _ (.inr (by omega))).set _ _ (.inr (by omega))).set _ _ (.inr (by omega))), .inr ⟨HC0.out, aa, al, ac, by rw [← HVE.out.1, ← HVE.out.2.1, ← HVE.out.2.2]; rfl, DS0.out.hl, ?_⟩⟩
        have ao := ((((DS0.out.ao.setE M5.out 0 (.int .i64 vl)).setE (blk_set M5.out 0 _) 1 (.int .i64 vn)).setE (blk_set (blk_set M5.out 0 _) 1 _) 2 (.int .u64 (vs : Int))).setE (blk_set (blk_set (blk_set M5.out 0 _) 1 _) 2 _) 3 (.slice none 0 0)).setE (blk_set (blk_set (blk_set (blk_set M5.out 0 _) 1 _) 2 _) 3 _) 4 (.slice aa al ac)
        exact ao.rd (Nat.le_refl _) HV.out.bys
  · have hC1 : (C == 0) = false := by simpa using hC0
    have HC0 := hid hC0
    clear hC0
    obtain ⟨q0, q1, q2, q3, q4⟩ := ed5_cells M1.out
    have qf0 := blk_frozen M1.out 0
    have qf1 := blk_frozen M1.out 1
    have qf2 := blk_frozen M1.out 2
    have qf3 := blk_frozen M1.out 3
    have qf4 := blk_frozen M1.out 4
    go_wp2_with fail
    refine bodyPost_ret (ret_ct9 rfl (g := w.heap.size + 1) (by simp) (load30k (by rw [blk_set (blk_set (blk_set (blk_set (blk_set M1.out 0 _) 1 _) 2 _) 3 _) 4 _]; rfl))) rfl ?_
    exact ⟨((((((F0.out.trans F1.out).set _ _ (.inr (by omega))).set _ _ (.inr (by omega))).set _ _ (.inr (by omega))).set _ _ (.inr (by omega))).set _ _ (.inr (by omega))), .inl ⟨by rw [← HC.out]; exact HC0.out, by rw [← HC.out]; rfl⟩⟩
end Go.Proofs.Ytckdcaegnbgomaa
