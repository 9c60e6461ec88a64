/-
  The document's Encode of an edit.
-/
import Derived.Test.YtegbngbhmgbocaaGreatDoorJ29
import Derived.Test.YtegbngbhmgbocaaGreatDoorEI
namespace Go.Proofs.YtegbngbhmgbocaaGreatDoor
open Go.ChangeShapes Go.WideShapes Go.ChangeAt Go.RowKit

/-- What the document's Encode holds. -/
structure RS (w W : World) (bx : Array Value) (v : Value) (acc : List Nat) : Prop where
  ob : W.ownsRow w.heap.size 5 1 v acc.length (bv acc)
  ed : W.heap[w.heap.size]? = some (.cells bx 41 (0, 0))
  fr : Fr [] w W
theorem RS.fr' {w W W' : World} {bx : Array Value} {v : Value} {acc : List Nat} (h : RS w W bx v acc) (f : Fr [] W W') : RS w W' bx v acc := ⟨ownsRow_fr h.ob f, f.at h.ed (by simp), h.fr.trans f⟩
theorem RS.put {w W : World} {bx : Array Value} {v : Value} {acc : List Nat} (h : RS w W bx v acc) {n : Int} (hn : 0 ≤ n ∧ n ≤ 9223372036854775807) (hl : acc.length ≤ 1000000000) :
    Calls Tryz.prog 71 #[v, .int .i64 n] W fun r W' => ∃ a l c, r = .returned (.slice a l c) ∧ RS w W' bx (.slice a l c) (acc ++ nb n) ∧ Kq w.heap.size W W' :=
  (rput_c W h.ob h.fr.size hn hl).mono fun r W' ⟨v', e1, o1, k1⟩ => by
    obtain ⟨a, c, hv, _⟩ := ownsRow_slice o1
    subst hv
    exact ⟨a, _, c, e1, ⟨o1, k1.at h.ed (by decide), k1.fr rfl h.fr⟩, k1⟩
/-- Bytes appended. -/
theorem RS.app {w W W' : World} {bx : Array Value} {v v' : Value} {acc more : List Nat} (h : RS w W bx v acc) (o : W'.ownsRow w.heap.size 5 1 v' (acc.length + more.length) (bv acc ++ bv more)) (g : W.grownBy W' v.ownBlock) : RS w W' bx v' (acc ++ more) ∧ Kq w.heap.size W W' := by
  have k := Kq.grown h.ob g
  exact ⟨⟨by rw [List.length_append, bv_append]; exact o, k.at h.ed (by decide), k.fr rfl h.fr⟩, k⟩
theorem RS.putB {w W : World} {bx fx : Array Value} {v : Value} {acc : List Nat} (h : RS w W bx v acc) {B : Nat} (hb : W.heap[B]? = some (.cells fx 62 (0, 0))) {n : Int} (hn : 0 ≤ n ∧ n ≤ 9223372036854775807) (hl : acc.length ≤ 1000000000) :
    Calls Tryz.prog 71 #[v, .int .i64 n] W fun r W' => ∃ a l c, r = .returned (.slice a l c) ∧ RS w W' bx (.slice a l c) (acc ++ nb n) ∧ W'.heap[B]? = some (.cells fx 62 (0, 0)) :=
  (h.put hn hl).mono fun r W' ⟨a, l, c, e1, r1, k1⟩ => ⟨a, l, c, e1, r1, k1.at hb (by decide)⟩
/-- What the document's Encode answers. -/
def EncR (w : World) (e : Ed) (r : Ending) (w' : World) : Prop := (okE e = true ∧ ∃ v', r = .returned (.tuple #[v', .int .i64 0]) ∧ w'.ownsRow w.heap.size 5 1 v' (encE e).length (bv (encE e))) ∨ (okE e = false ∧ r = .returned (.tuple #[.slice none 0 0, .int .i64 90]))
set_option maxRecDepth 20000 in
set_option maxHeartbeats 6400000 in
theorem renc_c (w : World) {e : Ed} {da aa : Option Addr} {dc ac : Nat} (h : EAt w e da dc aa ac) (hd1 : e.drop.length ≤ 5000) (ha1 : e.add.length ≤ 5000) :
    Calls Tryz.prog 38 #[.agg #[.int .i64 e.log, .int .i64 e.next, .int .u64 (e.seq : Int), .slice da e.drop.length dc, .slice aa e.add.length ac]] w fun r w' => EncR w e r w' ∧ Fr [] w w' := by
  obtain ⟨W0, hW0⟩ : ∃ W0, W0 = w.alloc (.cells #[.int .i64 e.log, .int .i64 e.next, .int .u64 (e.seq : Int), .slice da e.drop.length dc, .slice aa e.add.length ac] 41) := ⟨_, rfl⟩
  have F0 : Hid (Fr [] w W0) := hid (by rw [hW0]; exact (Fr.refl _ _).alloc _)
  have n0 : Hid (W0.heap[w.heap.size]? = some (.cells #[.int .i64 e.log, .int .i64 e.next, .int .u64 (e.seq : Int), .slice da e.drop.length dc, .slice aa e.add.length ac] 41 (0, 0))) := hid (by rw [hW0]; exact blk_new _ _)
  have HE := hid h
  have CC : Hid (∀ W : World, W.heap[w.heap.size]? = some (.cells #[.int .i64 e.log, .int .i64 e.next, .int .u64 (e.seq : Int), .slice da e.drop.length dc, .slice aa e.add.length ac] 41 (0, 0)) → W.cell? ⟨w.heap.size, 0, none⟩ = some (.int .i64 e.log) ∧ W.cell? ⟨w.heap.size, 1, none⟩ = some (.int .i64 e.next) ∧ W.cell? ⟨w.heap.size, 2, none⟩ = some (.int .u64 (e.seq : Int)) ∧ W.cell? ⟨w.heap.size, 3, none⟩ = some (.slice da e.drop.length dc) ∧ W.cell? ⟨w.heap.size, 4, none⟩ = some (.slice aa e.add.length ac)) := hid (fun W k => ⟨by rw [blk_cell k]; rfl, by rw [blk_cell k]; rfl, by rw [blk_cell k]; rfl, by rw [blk_cell k]; rfl, by rw [blk_cell k]; rfl⟩)
  obtain ⟨z0, z1, z2, z3, z4⟩ := CC.out W0 n0.out
  have NL : Hid (∀ W, _) := hid (fun W => rnumber_c W e.log)
  have NX : Hid (∀ W, _) := hid (fun W => rnumber_c W e.next)
  obtain ⟨QQ, hQQ⟩ : ∃ QQ : Ending → World → Prop, QQ = EncR w e := ⟨_, rfl⟩
  rw [← hQQ]
  have BAD : Hid (okE e = false → ∀ W, QQ (.returned (.tuple #[.slice none 0 0, .int .i64 90])) W) := hid (fun hk W => by rw [hQQ]; exact .inr ⟨hk, rfl⟩)
  have GOOD : Hid (okE e = true → ∀ (W : World) (v' : Value), W.ownsRow w.heap.size 5 1 v' (encE e).length (bv (encE e)) → QQ (.returned (.tuple #[v', .int .i64 0])) W) := hid (fun hk W v' o => by rw [hQQ]; exact .inl ⟨hk, v', rfl, o⟩)
  have HOK : Hid (okE e = (e.drop.all okD && (e.add.all okA && okH e.log e.next e.seq))) := hid rfl
  clear h hQQ
  obtain ⟨dl, hdl⟩ : ∃ dl, dl = e.drop.length := ⟨_, rfl⟩
  obtain ⟨al, hal⟩ : ∃ al, al = e.add.length := ⟨_, rfl⟩
  have HDL := hid hdl
  have HAL := hid hal
  have HRES : Hid (encE e = nb e.log ++ (nb e.next ++ (putL e.seq ++ (putL dl ++ (e.drop.flatMap encD ++ (putL al ++ e.add.flatMap encA)))))) := hid (by rw [hdl, hal]; rfl)
  rw [← hdl] at hd1 n0 CC hW0 z3 ⊢
  rw [← hal] at ha1 n0 CC hW0 z4 ⊢
  clear hdl hal
  generalize encE e = RES at *
  generalize okE e = OKE at *
  generalize e.log = lg at *
  generalize e.next = nx at *
  generalize e.seq = sq at *
  go_enter Tryz.func38, Tryz.ntmps38
  go_upto_region 1 with fail
  rw [← hW0]
  clear hW0
  by_cases hh : okH lg nx sq = true
  rotate_left
  · have hbad : OKE = false := by rw [HOK.out]; simp only [Bool.not_eq_true] at hh; rw [hh, Bool.and_false, Bool.and_false]
    have HB := hid (BAD.out hbad)
    unfold okH at hh
    clear hbad
    cases h1 : okN lg with
    | false =>
      rw [h1] at NL
      go_wp2_with (go_at_call 70; refine (NL.out _).mono ?_; rintro e w2 ⟨rfl, h⟩; rw [h]; clear h)
      go_ret2
      exact ⟨HB.out _, F0.out⟩
    | true =>
      rw [h1] at NL hh
      rw [Bool.true_and] at hh
      clear h1
      cases h2 : okN nx with
      | false =>
        rw [h2] at NX
        go_wp2_with (first | (go_at_call 70; have zz := N3.out; clear zz; refine (NX.out _).mono ?_; rintro e w2 ⟨rfl, h⟩; rw [h]; clear h) | (go_at_call 70; refine (NL.out _).mono ?_; rintro e w2 ⟨rfl, h⟩; rw [h]; clear h; have N3 := hid trivial))
        go_ret2
        exact ⟨HB.out _, F0.out⟩
      | true =>
        rw [h2] at NX hh
        rw [Bool.true_and, decide_eq_true_eq] at hh
        clear h2
        have hs' : (72057594037927935 : Int) < (sq : Int) := by omega
        go_wp2_with (first | (go_at_call 70; have zz := N3.out; clear zz; refine (NX.out _).mono ?_; rintro e w2 ⟨rfl, h⟩; rw [h]; clear h) | (go_at_call 70; refine (NL.out _).mono ?_; rintro e w2 ⟨rfl, h⟩; rw [h]; clear h; have N3 := hid trivial))
        go_ret2
        exact ⟨HB.out _, F0.out⟩
  have HOK2 : Hid (OKE = (e.drop.all okD && e.add.all okA)) := hid (by rw [HOK.out, hh, Bool.and_true])
  unfold okH at hh
  simp only [Bool.and_eq_true, decide_eq_true_eq] at hh
  have hlg := okN_iff.1 hh.1
  have hnx := okN_iff.1 hh.2.1
  have hsq := hh.2.2
  have hs' : (sq : Int) ≤ 72057594037927935 := by omega
  rw [hh.1] at NL
  rw [hh.2.1] at NX
  clear hh HOK
  go_upto_region 3 with (first | (go_at_call 70; have zz := N3.out; clear zz; refine (NX.out _).mono ?_; rintro e w2 ⟨rfl, h⟩; rw [h]; clear h) | (go_at_call 70; refine (NL.out _).mono ?_; rintro e w2 ⟨rfl, h⟩; rw [h]; clear h; have N3 := hid trivial))
  have R0 : Hid (RS w W0.drew #[.int .i64 lg, .int .i64 nx, .int .u64 (sq : Int), .slice da dl dc, .slice aa al ac] (.slice none 0 0) []) := hid ⟨World.ownsRow_nil _ _ _ _, n0.out, F0.out.drew⟩
  have SK : Hid (∀ W : World, W.heap[w.heap.size]? = some (.cells #[.int .i64 lg, .int .i64 nx, .int .u64 (sq : Int), .slice da dl dc, .slice aa al ac] 41 (0, 0)) → W.cell? ⟨w.heap.size, 0, none⟩ = some (.int .i64 lg) ∧ W.cell? ⟨w.heap.size, 1, none⟩ = some (.int .i64 nx)) := hid (fun W k => ⟨(CC.out W k).1, (CC.out W k).2.1⟩)
  clear z0 z1 z2 z3 z4
  refine wp_region_held_drew (S := fun w' => w'.cell? ⟨w.heap.size, 0, none⟩ = some (.int .i64 lg) ∧ w'.cell? ⟨w.heap.size, 1, none⟩ = some (.int .i64 nx)) (by kernel_rfl) (SK.out _ R0.out.ed) (fun hS => ?_)
  refine wpAnyH_take (i := 0) (v := .pointer (some ⟨w.heap.size, 0, none⟩)) rfl (by kernel_rfl) (by kernel_rfl) (by kernel_rfl) (fun _ _ _ h => h) (.inl ⟨by rfl, fun wx _ => by go_simp⟩) hS ?_
  simp only [Act.put]
  refine wpAnyH_take (i := 1) (v := .int .i64 lg) rfl (by kernel_rfl) (by kernel_rfl) (by kernel_rfl) (fun _ _ _ h => h) (.inl ⟨by rfl, fun wx hX => by obtain ⟨x0, x1⟩ := hX; go_simp⟩) hS ?_
  simp only [Act.put]
  refine wpAnyH_take (i := 3) (v := .pointer (some ⟨w.heap.size, 1, none⟩)) rfl (by kernel_rfl) (by kernel_rfl) (by kernel_rfl) (fun _ _ _ h => h) (.inl ⟨by rfl, fun wx _ => by go_simp⟩) hS ?_
  simp only [Act.put]
  refine wpAnyH_take (i := 4) (v := .int .i64 nx) rfl (by kernel_rfl) (by kernel_rfl) (by kernel_rfl) (fun _ _ _ h => h) (.inl ⟨by rfl, fun wx hX => by obtain ⟨x0, x1⟩ := hX; go_simp⟩) hS ?_
  simp only [Act.put]
  clear hS
  refine wpAnyH_ready (rs := [2]) (by kernel_rfl) (by simp) ?_
  refine AllReadyH.cons rfl (fun K hK => ?_) AllReadyH.nil
  go_simp
  refine (R0.out.put (by omega) (by simp)).mono ?_
  rintro r Wp ⟨ap, lp, cp, rfl, hs⟩
  have Rp := hid hs
  refine hK.out _ _ (SK.out _ Rp.out.1.ed) (fun _ => ?_)
  clear hK K hs
  refine wpAnyH_ready (rs := [5]) (by kernel_rfl) (by simp) ?_
  refine AllReadyH.cons rfl (fun K hK => ?_) AllReadyH.nil
  go_simp
  refine (Rp.out.1.put (by omega) (by have := nb_len (n := lg) (by omega); simp only [List.nil_append]; omega)).mono ?_
  rintro r Wq ⟨aq, lq, cq, rfl, hs⟩
  have Rq := hid hs
  refine hK.out _ _ (SK.out _ Rq.out.1.ed) (fun _ => ?_)
  clear hK K hs
  have hSq := SK.out _ Rq.out.1.ed
  refine wpAnyH_take (i := 6) (v := .slice aq lq cq) rfl (by kernel_rfl) (by kernel_rfl) (by kernel_rfl) (fun _ _ _ h => h) (.inl ⟨by rfl, fun wx _ => by go_simp⟩) hSq ?_
  simp only [Act.put]
  refine wpAnyH_done (by kernel_rfl) ?_ _
  clear hSq SK
  obtain ⟨ac3, hac3⟩ : ∃ ac3, ac3 = [] ++ nb lg ++ nb nx := ⟨_, rfl⟩
  have R3 : Hid (RS w Wq #[.int .i64 lg, .int .i64 nx, .int .u64 (sq : Int), .slice da dl dc, .slice aa al ac] (.slice aq lq cq) ac3) := hid (by rw [hac3]; exact Rq.out.1)
  have HAC3 : Hid (ac3 = nb lg ++ nb nx) := hid (by rw [hac3, List.nil_append])
  clear hac3 Rp Rq R0
  have hac3l : ac3.length ≤ 20 := by
    have h1 := nb_len (n := lg) (by omega)
    have h2 := nb_len (n := nx) (by omega)
    rw [HAC3.out, List.length_append]; omega
  have PQ := hid (refput_c Wq sq (by omega))
  obtain ⟨z0, z1, z2, z3, z4⟩ := CC.out Wq R3.out.ed
  go_upto_region 5 with (first
    | (go_at_call 72; refine PQ.out.mono ?_; rintro e w4 ⟨pv, rfl, o1, f1⟩; obtain ⟨pa, pc, hpv, _⟩ := ownsRow_slice o1; subst hpv; have RP := hid (Rd.ownB o1); have R3a := hid (R3.out.fr' f1); clear o1 f1)
    | (at_builtin; refine wpList_append_rd rfl _ _ rfl w.heap.size R3a.out.fr.size (.slice aq lq cq) ac3.length (bv ac3) (by simp [Act.eval]) R3a.out.ob _ (bv (putL sq)) (by simp [Act.eval]) RP.out bv_one (by rw [bv_len]; have := putL_len10 (n := sq) (by omega); omega) ?_; intro v2 W4 o2 g2 _; obtain ⟨a4, l4, c4, hv2⟩ : ∃ a l c, v2 = .slice a l c := (by obtain ⟨a, c, h, _⟩ := ownsRow_slice o2; exact ⟨a, _, c, h⟩); subst hv2; have R4 := hid (R3a.out.app (more := putL sq) (by rw [bv_len] at o2; exact o2) g2).1; clear o2 g2))
  clear z0 z1 z2 z3 z4 PQ R3a R3 RP
  obtain ⟨ac4, hac4⟩ : ∃ ac4, ac4 = ac3 ++ putL sq := ⟨_, rfl⟩
  rw [← hac4] at R4
  have HAC4 := hid hac4
  clear hac4
  have hac4l : ac4.length ≤ 30 := by
    have h1 := putL_len10 (n := sq) (by omega)
    rw [HAC4.out, List.length_append]; omega
  obtain ⟨z0, z1, z2, z3, z4⟩ := CC.out W4 R4.out.ed
  have P5 := hid (R4.out.put (n := (dl : Int)) (by omega) (by omega))
  go_upto_region 6 with (go_at_call 71; refine P5.out.mono ?_; rintro r W5 ⟨a5, l5, c5, rfl, h5, _⟩; have R5 := hid h5; clear h5)
  clear z0 z1 z2 z3 z4 P5 R4
  obtain ⟨ac5, hac5⟩ : ∃ ac5, ac5 = ac4 ++ nb (dl : Int) := ⟨_, rfl⟩
  rw [← hac5] at R5
  have HAC5 : Hid (ac5 = ac4 ++ putL dl) := hid (by rw [hac5]; simp [nb])
  clear hac5
  have hac5l : ac5.length ≤ 40 := by
    have h1 := putL_len10 (n := dl) (by omega)
    rw [HAC5.out, List.length_append]; omega
  go_wp2_with fail
  go_loopw [4, 5] (fun v4 v5 wr => ∃ i : Nat, i ≤ dl ∧ v5 = .int .i64 (i : Int) ∧ (e.drop.take i).all okD = true ∧ RS w wr #[.int .i64 lg, .int .i64 nx, .int .u64 (sq : Int), .slice da dl dc, .slice aa al ac] v4 (ac5 ++ (e.drop.take i).flatMap encD)) (fun _ v5 _ => dl - (intOf v5).toNat)
  case atStart => exact ⟨0, Nat.zero_le _, rfl, rfl, by rw [List.take_zero, List.flatMap_nil, List.append_nil]; exact R5.out⟩
  case round =>
    obtain ⟨i, hi, rfl, hal1, he⟩ := hrel
    have RI := hid he
    have HAL1 := hid hal1
    clear R5
    have hfl : (ac5 ++ (e.drop.take i).flatMap encD).length ≤ 40 + 20 * dl := by
      have h1 := flatD_len hal1
      rw [List.length_take] at h1
      rw [List.length_append]
      have := Nat.min_le_left i e.drop.length
      omega
    obtain ⟨acI, hacI⟩ : ∃ acI, acI = ac5 ++ (e.drop.take i).flatMap encD := ⟨_, rfl⟩
    have HACI := hid hacI
    rw [← hacI] at RI hfl he
    obtain ⟨ab, cb, hv4, _⟩ := ownsRow_slice he.ob
    subst hv4
    obtain ⟨lb, hlb⟩ : ∃ lb, lb = acI.length := ⟨_, rfl⟩
    have HLB := hid hlb
    rw [← hlb] at RI ⊢
    clear he hal1 hacI hlb
    by_cases hlt : i < dl
    · have hil : i < e.drop.length := by rw [← HDL.out]; exact hlt
      obtain ⟨g, hg⟩ : ∃ g, e.drop[i]? = some g := ⟨_, List.getElem?_eq_getElem hil⟩
      obtain ⟨a', c', e', k1⟩ := HE.out.rd
      simp only [Value.slice.injEq] at e'
      obtain ⟨rfl, hx1, rfl⟩ := e'
      clear hx1
      obtain ⟨b, off, rfl, m1⟩ := k1 (by omega)
      have m2 := hid (m1 i g hg)
      have HG := hid hg
      have hil' : (i : Int) < (dl : Int) := by omega
      clear m1 k1 hg
      obtain ⟨g1, g2⟩ := g
      have SK : Hid (∀ W : World, W.heap[w.heap.size]? = some (.cells #[.int .i64 lg, .int .i64 nx, .int .u64 (sq : Int), .slice (some ⟨b, off, none⟩) dl dc, .slice aa al ac] 41 (0, 0)) → Fr [] w W → W.cell? ⟨w.heap.size, 3, none⟩ = some (.slice (some ⟨b, off, none⟩) dl dc) ∧ W.cell? ⟨b, off + i * 2, none⟩ = some (.int .i64 g1) ∧ W.cell? ⟨b, off + i * 2 + 1, none⟩ = some (.int .i64 g2)) := hid (fun W k f => ⟨(CC.out W k).2.2.2.1, cell_fr f m2.out.1, cell_fr f m2.out.2⟩)
      clear m2
      have LV : Hid (∀ W, _) := hid (fun W => rlevel_c W g1)
      have NM : Hid (∀ W, _) := hid (fun W => rnumber_c W g2)
      obtain ⟨z1, z2, z3⟩ := SK.out wr RI.out.ed RI.out.fr
      cases hv : okV g1 with
      | false =>
        have HB : Hid (OKE = false) := hid (by rw [HOK2.out, all_take HG.out (show okD (g1, g2) = false from by unfold okD; rw [hv]; rfl)]; rfl)
        rw [hv] at LV
        clear hv
        go_wp2_with (go_at_call 73; refine (LV.out _).mono ?_; rintro e w2 ⟨rfl, h⟩; rw [h]; clear h)
        go_ret2
        exact ⟨BAD.out HB.out _, RI.out.fr⟩
      | true =>
        rw [hv] at LV
        cases hm : okN g2 with
        | false =>
          have HB : Hid (OKE = false) := hid (by rw [HOK2.out, all_take HG.out (show okD (g1, g2) = false from by unfold okD; rw [hm, Bool.and_false])]; rfl)
          rw [hm] at NM
          clear hv hm
          go_wp2_with (first | (go_at_call 73; refine (LV.out _).mono ?_; rintro e w2 ⟨rfl, h⟩; rw [h]; clear h) | (go_at_call 70; refine (NM.out _).mono ?_; rintro e w2 ⟨rfl, h⟩; rw [h]; clear h))
          go_ret2
          exact ⟨BAD.out HB.out _, RI.out.fr⟩
        | true =>
          have HQ : Hid ((e.drop.take (i + 1)).all okD = true) := hid (by rw [all_step HG.out, HAL1.out]; unfold okD; rw [hv, hm]; rfl)
          have HFN := hid (flat_next (f := encD) HG.out)
          have hg1 := okV_iff.1 hv
          have hg2 := okN_iff.1 hm
          rw [hm] at NM
          clear hv hm
          go_upto_region 11 with (first | (go_at_call 73; refine (LV.out _).mono ?_; rintro e w2 ⟨rfl, h⟩; rw [h]; clear h) | (go_at_call 70; refine (NM.out _).mono ?_; rintro e w2 ⟨rfl, h⟩; rw [h]; clear h))
          clear z1 z2 z3
          have RJ : Hid (RS w wr.drew #[.int .i64 lg, .int .i64 nx, .int .u64 (sq : Int), .slice (some ⟨b, off, none⟩) dl dc, .slice aa al ac] (.slice ab lb cb) acI) := hid (RI.out.fr' (Fr.refl _ _).drew)
          refine wp_region_held_drew (S := fun w' => w'.cell? ⟨w.heap.size, 3, none⟩ = some (.slice (some ⟨b, off, none⟩) dl dc) ∧ w'.cell? ⟨b, off + i * 2, none⟩ = some (.int .i64 g1) ∧ w'.cell? ⟨b, off + i * 2 + 1, none⟩ = some (.int .i64 g2)) (by kernel_rfl) (SK.out _ RJ.out.ed RJ.out.fr) (fun hS => ?_)
          refine wpAnyH_take (i := 0) (v := .slice ab lb cb) rfl (by kernel_rfl) (by kernel_rfl) (by kernel_rfl) (fun _ _ _ h => h) (.inl ⟨by rfl, fun wx _ => by go_simp⟩) hS ?_
          simp only [Act.put]
          refine wpAnyH_take (i := 1) (v := .pointer (some ⟨w.heap.size, 3, none⟩)) rfl (by kernel_rfl) (by kernel_rfl) (by kernel_rfl) (fun _ _ _ h => h) (.inl ⟨by rfl, fun wx _ => by go_simp⟩) hS ?_
          simp only [Act.put]
          refine wpAnyH_take (i := 2) (v := .slice (some ⟨b, off, none⟩) dl dc) rfl (by kernel_rfl) (by kernel_rfl) (by kernel_rfl) (fun _ _ _ h => h) (.inl ⟨by rfl, fun wx hX => by obtain ⟨x0, x1, x2⟩ := hX; go_simp⟩) hS ?_
          simp only [Act.put]
          refine wpAnyH_take (i := 3) (v := .int .i64 (i : Int)) rfl (by kernel_rfl) (by kernel_rfl) (by kernel_rfl) (fun _ _ _ h => h) (.inl ⟨by rfl, fun wx _ => by go_simp⟩) hS ?_
          simp only [Act.put]
          refine wpAnyH_take (i := 4) (v := .pointer (some ⟨b, off + i * 2, none⟩)) rfl (by kernel_rfl) (by kernel_rfl) (by kernel_rfl) (fun _ _ _ h => h) (.inl ⟨by rfl, fun wx _ => by go_simp⟩) hS ?_
          simp only [Act.put]
          refine wpAnyH_take (i := 5) (v := .pointer (some ⟨b, off + i * 2, none⟩)) rfl (by kernel_rfl) (by kernel_rfl) (by kernel_rfl) (fun _ _ _ h => h) (.inl ⟨by rfl, fun wx _ => by go_simp⟩) hS ?_
          simp only [Act.put]
          refine wpAnyH_take (i := 6) (v := .int .i64 g1) rfl (by kernel_rfl) (by kernel_rfl) (by kernel_rfl) (fun _ _ _ h => h) (.inl ⟨by rfl, fun wx hX => by obtain ⟨x0, x1, x2⟩ := hX; go_simp⟩) hS ?_
          simp only [Act.put]
          refine wpAnyH_take (i := 8) (v := .pointer (some ⟨w.heap.size, 3, none⟩)) rfl (by kernel_rfl) (by kernel_rfl) (by kernel_rfl) (fun _ _ _ h => h) (.inl ⟨by rfl, fun wx _ => by go_simp⟩) hS ?_
          simp only [Act.put]
          refine wpAnyH_take (i := 9) (v := .slice (some ⟨b, off, none⟩) dl dc) rfl (by kernel_rfl) (by kernel_rfl) (by kernel_rfl) (fun _ _ _ h => h) (.inl ⟨by rfl, fun wx hX => by obtain ⟨x0, x1, x2⟩ := hX; go_simp⟩) hS ?_
          simp only [Act.put]
          refine wpAnyH_take (i := 10) (v := .int .i64 (i : Int)) rfl (by kernel_rfl) (by kernel_rfl) (by kernel_rfl) (fun _ _ _ h => h) (.inl ⟨by rfl, fun wx _ => by go_simp⟩) hS ?_
          simp only [Act.put]
          refine wpAnyH_take (i := 11) (v := .pointer (some ⟨b, off + i * 2, none⟩)) rfl (by kernel_rfl) (by kernel_rfl) (by kernel_rfl) (fun _ _ _ h => h) (.inl ⟨by rfl, fun wx _ => by go_simp⟩) hS ?_
          simp only [Act.put]
          refine wpAnyH_take (i := 12) (v := .pointer (some ⟨b, off + i * 2 + 1, none⟩)) rfl (by kernel_rfl) (by kernel_rfl) (by kernel_rfl) (fun _ _ _ h => h) (.inl ⟨by rfl, fun wx _ => by go_simp⟩) hS ?_
          simp only [Act.put]
          refine wpAnyH_take (i := 13) (v := .int .i64 g2) rfl (by kernel_rfl) (by kernel_rfl) (by kernel_rfl) (fun _ _ _ h => h) (.inl ⟨by rfl, fun wx hX => by obtain ⟨x0, x1, x2⟩ := hX; go_simp⟩) hS ?_
          simp only [Act.put]
          clear hS
          refine wpAnyH_ready (rs := [7]) (by kernel_rfl) (by simp) ?_
          refine AllReadyH.cons rfl (fun K hK => ?_) AllReadyH.nil
          go_simp
          refine (RJ.out.put (by omega) (by omega)).mono ?_
          rintro r Wp ⟨ap, lp, cp, rfl, hs⟩
          have Rp := hid hs
          refine hK.out _ _ (SK.out _ Rp.out.1.ed Rp.out.1.fr) (fun _ => ?_)
          clear hK K hs
          refine wpAnyH_ready (rs := [14]) (by kernel_rfl) (by simp) ?_
          refine AllReadyH.cons rfl (fun K hK => ?_) AllReadyH.nil
          go_simp
          refine (Rp.out.1.put (by omega) (by have := nb_len (n := g1) (by omega); rw [List.length_append]; omega)).mono ?_
          rintro r Wq ⟨aq, lq, cq, rfl, hs⟩
          have Rq := hid hs
          refine hK.out _ _ (SK.out _ Rq.out.1.ed Rq.out.1.fr) (fun _ => ?_)
          clear hK K hs
          have hSq := SK.out _ Rq.out.1.ed Rq.out.1.fr
          refine wpAnyH_take (i := 15) (v := .slice aq lq cq) rfl (by kernel_rfl) (by kernel_rfl) (by kernel_rfl) (fun _ _ _ h => h) (.inl ⟨by rfl, fun wx _ => by go_simp⟩) hSq ?_
          simp only [Act.put]
          refine wpAnyH_done (by kernel_rfl) ?_ _
          clear hSq SK Rp RJ RI
          go_wp2_with fail
          go_roundw
          case rel =>
            refine ⟨i + 1, by omega, by go_num, HQ.out, ?_⟩
            have h7 := Rq.out.1
            rw [HFN.out, ← List.append_assoc, ← HACI.out]
            rw [List.append_assoc, show nb g1 ++ nb g2 = encD (g1, g2) from by simp [encD]] at h7
            exact h7
          case measure => simp [intOf]; omega
    · have hin : dl = i := by omega
      subst hin
      have HD1 : Hid (e.drop.all okD = true) := hid (by have := HAL1.out; rw [HDL.out, List.take_length] at this; exact this)
      have HOK3 : Hid (OKE = e.add.all okA) := hid (by rw [HOK2.out, HD1.out, Bool.true_and])
      have HACJ : Hid (acI = ac5 ++ e.drop.flatMap encD) := hid (by rw [HACI.out, HDL.out, List.take_length])
      clear HAL1 HOK2 HACI HLB
      obtain ⟨W8, h8⟩ : ∃ W, W = wr := ⟨_, rfl⟩
      subst h8
      have P12 := hid (RI.out.put (n := (al : Int)) (by omega) (by omega))
      obtain ⟨z0, z1, z2, z3, z4⟩ := CC.out W8 RI.out.ed
      go_upto_region 13 with (go_at_call 71; refine P12.out.mono ?_; rintro r W9 ⟨a9, l9, c9, rfl, h9, _⟩; have R9 := hid h9; clear h9)
      clear z0 z1 z2 z3 z4 P12 RI
      obtain ⟨ac9, hac9⟩ : ∃ ac9, ac9 = acI ++ nb (al : Int) := ⟨_, rfl⟩
      rw [← hac9] at R9
      have HAC9 : Hid (ac9 = acI ++ putL al) := hid (by rw [hac9]; simp [nb])
      clear hac9
      have hac9l : ac9.length ≤ 50 + 20 * dl := by
        have h1 := putL_len10 (n := al) (by omega)
        rw [HAC9.out, List.length_append]; omega
      go_wp2_with fail
      go_loopw [4, 6] (fun v4 v6 wr => ∃ j : Nat, j ≤ al ∧ v6 = .int .i64 (j : Int) ∧ (e.add.take j).all okA = true ∧ RS w wr #[.int .i64 lg, .int .i64 nx, .int .u64 (sq : Int), .slice da dl dc, .slice aa al ac] v4 (ac9 ++ (e.add.take j).flatMap encA)) (fun _ v6 _ => al - (intOf v6).toNat)
      case atStart => exact ⟨0, Nat.zero_le _, rfl, rfl, by rw [List.take_zero, List.flatMap_nil, List.append_nil]; exact R9.out⟩
      case round =>
        obtain ⟨j, hj, rfl, hal1, he⟩ := hrel
        have RI := hid he
        have HAL1 := hid hal1
        clear R9
        have hfl2 : (ac9 ++ (e.add.take j).flatMap encA).length ≤ 50 + 20 * dl + 400 * al := by
          have h1 := flatA_len hal1
          rw [List.length_take] at h1
          rw [List.length_append]
          have := Nat.min_le_left j e.add.length
          omega
        obtain ⟨acA, hacA⟩ : ∃ acA, acA = ac9 ++ (e.add.take j).flatMap encA := ⟨_, rfl⟩
        have HACA := hid hacA
        rw [← hacA] at RI hfl2 he
        obtain ⟨ab2, cb2, hv4, _⟩ := ownsRow_slice he.ob
        subst hv4
        obtain ⟨lb2, hlb2⟩ : ∃ lb2, lb2 = acA.length := ⟨_, rfl⟩
        rw [← hlb2] at RI ⊢
        clear he hal1 hacA hlb2
        by_cases hlt2 : j < al
        · have hjl : j < e.add.length := by rw [← HAL.out]; exact hlt2
          obtain ⟨p, hp⟩ : ∃ p, e.add[j]? = some p := ⟨_, List.getElem?_eq_getElem hjl⟩
          obtain ⟨a', c', e', k1⟩ := HE.out.ra
          simp only [Value.slice.injEq] at e'
          obtain ⟨rfl, hx1, rfl⟩ := e'
          clear hx1
          obtain ⟨b, off, rfl, m1⟩ := k1 (by omega)
          obtain ⟨m2, la, lc, ma, mc, m3⟩ := m1 j p hp
          have HG := hid hp
          have hjl' : (j : Int) < (al : Int) := by omega
          have z1 := cell_fr RI.out.fr m2
          have z2 := cell_fr RI.out.fr m3.c0
          have z3 := cell_fr RI.out.fr m3.c1
          have z4 := cell_fr RI.out.fr m3.c2
          have z5 := cell_fr RI.out.fr m3.c3
          rw [show off + j * 5 + 1 + 1 = off + j * 5 + 2 from rfl] at z3
          rw [show off + j * 5 + 1 + 2 = off + j * 5 + 3 from rfl] at z4
          rw [show off + j * 5 + 1 + 3 = off + j * 5 + 4 from rfl] at z5
          have FR := hid m3.rd
          have M2 := hid m2
          clear m1 k1 hp m2 m3
          obtain ⟨g1, f⟩ := p
          dsimp only at z1 z2 z3 z4 z5 FR M2
          have LV : Hid (∀ W, _) := hid (fun W => rlevel_c W g1)
          obtain ⟨Wa, hWa⟩ : ∃ Wa, Wa = wr.alloc (.cells #[.int .i64 f.num, .int .i64 f.size, .slice la f.least.length lc, .slice ma f.most.length mc] 62) := ⟨_, rfl⟩
          have Fa : Hid (Fr [] wr Wa) := hid (by rw [hWa]; exact (Fr.refl _ _).alloc _)
          have na : Hid (Wa.heap[wr.heap.size]? = some (.cells #[.int .i64 f.num, .int .i64 f.size, .slice la f.least.length lc, .slice ma f.most.length mc] 62 (0, 0))) := hid (by rw [hWa]; exact blk_new _ _)
          have YY : Hid (∀ W : World, W.heap[wr.heap.size]? = some (.cells #[.int .i64 f.num, .int .i64 f.size, .slice la f.least.length lc, .slice ma f.most.length mc] 62 (0, 0)) → W.cell? ⟨wr.heap.size, 0, none⟩ = some (.int .i64 f.num) ∧ W.cell? ⟨wr.heap.size, 1, none⟩ = some (.int .i64 f.size) ∧ W.cell? ⟨wr.heap.size, 2, none⟩ = some (.slice la f.least.length lc) ∧ W.cell? ⟨wr.heap.size, 3, none⟩ = some (.slice ma f.most.length mc)) := hid (fun W k => ⟨by rw [blk_cell k]; rfl, by rw [blk_cell k]; rfl, by rw [blk_cell k]; rfl, by rw [blk_cell k]; rfl⟩)
          have Ra := hid (RI.out.fr' Fa.out)
          have SK : Hid (∀ W : World, W.heap[w.heap.size]? = some (.cells #[.int .i64 lg, .int .i64 nx, .int .u64 (sq : Int), .slice da dl dc, .slice (some ⟨b, off, none⟩) al ac] 41 (0, 0)) → W.heap[wr.heap.size]? = some (.cells #[.int .i64 f.num, .int .i64 f.size, .slice la f.least.length lc, .slice ma f.most.length mc] 62 (0, 0)) → Fr [] w W → W.cell? ⟨w.heap.size, 4, none⟩ = some (.slice (some ⟨b, off, none⟩) al ac) ∧ W.cell? ⟨b, off + j * 5, none⟩ = some (.int .i64 g1) ∧ W.cell? ⟨wr.heap.size, 0, none⟩ = some (.int .i64 f.num) ∧ W.cell? ⟨wr.heap.size, 1, none⟩ = some (.int .i64 f.size)) := hid (fun W k k2 fr => ⟨(CC.out W k).2.2.2.2, cell_fr fr M2.out, (YY.out W k2).1, (YY.out W k2).2.1⟩)
          have FC := hid (rmay_c Wa (FR.out.fr Ra.out.fr))
          obtain ⟨q0, q1, q2, q3, q4⟩ := CC.out wr RI.out.ed
          clear q0 q1 q2 q3
          go_upto_region 17 with fail
          rw [← hWa]
          clear hWa z1 z2 z3 z4 z5 q4
          obtain ⟨y4, y5, _, _⟩ := SK.out Wa Ra.out.ed na.out Ra.out.fr
          obtain ⟨y0, y1, y2, y3⟩ := YY.out Wa na.out
          cases hv : okV g1 with
          | false =>
            have HB : Hid (OKE = false) := hid (by rw [HOK3.out, all_take HG.out (show okA (g1, f) = false from by unfold okA; rw [hv]; rfl)])
            rw [hv] at LV
            clear hv
            go_wp2_with (go_at_call 73; refine (LV.out _).mono ?_; rintro e w2 ⟨rfl, h⟩; rw [h]; clear h)
            go_ret2
            exact ⟨BAD.out HB.out _, Ra.out.fr⟩
          | true =>
            rw [hv] at LV
            cases hm : okF f with
            | false =>
              have HB : Hid (OKE = false) := hid (by rw [HOK3.out, all_take HG.out (show okA (g1, f) = false from by unfold okA; rw [hm, Bool.and_false])])
              rw [hm] at FC
              clear hv hm
              go_wp2_with (first | (go_at_call 73; refine (LV.out _).mono ?_; rintro e w2 ⟨rfl, h⟩; rw [h]; clear h) | (go_at_call 74; refine FC.out.mono ?_; rintro e w2 ⟨rfl, f2⟩; have F2 := hid f2; clear f2))
              go_ret2
              exact ⟨BAD.out HB.out _, Ra.out.fr.trans F2.out⟩
            | true =>
              have HQ : Hid ((e.add.take (j + 1)).all okA = true) := hid (by rw [all_step HG.out, HAL1.out]; unfold okA; rw [hv, hm]; rfl)
              have HFN := hid (flat_next (f := encA) HG.out)
              have hg1 := okV_iff.1 hv
              have hfl := okF_len hm
              have hpf := hm
              unfold okF at hpf
              simp only [Bool.and_eq_true] at hpf
              have hg2 := okN_iff.1 hpf.2.2.2.1
              have hg3 := okN_iff.1 hpf.2.2.2.2
              rw [hm] at FC
              clear hv hm hpf
              go_upto_region 19 with (first | (go_at_call 73; refine (LV.out _).mono ?_; rintro e w2 ⟨rfl, h⟩; rw [h]; clear h) | (go_at_call 74; refine FC.out.mono ?_; rintro e Wb ⟨rfl, f2⟩; have F2 := hid f2; clear f2))
              clear y0 y1 y2 y3 y4 y5
              have RJ : Hid (RS w Wb.drew #[.int .i64 lg, .int .i64 nx, .int .u64 (sq : Int), .slice da dl dc, .slice (some ⟨b, off, none⟩) al ac] (.slice ab2 lb2 cb2) acA) := hid ((Ra.out.fr' F2.out).fr' (Fr.refl _ _).drew)
              have nj : Hid (Wb.drew.heap[wr.heap.size]? = some (.cells #[.int .i64 f.num, .int .i64 f.size, .slice la f.least.length lc, .slice ma f.most.length mc] 62 (0, 0))) := hid (F2.out.at na.out (by simp))
              clear FC F2 Ra na LV
              refine wp_region_held_drew (S := fun w' => w'.cell? ⟨w.heap.size, 4, none⟩ = some (.slice (some ⟨b, off, none⟩) al ac) ∧ w'.cell? ⟨b, off + j * 5, none⟩ = some (.int .i64 g1) ∧ w'.cell? ⟨wr.heap.size, 0, none⟩ = some (.int .i64 f.num) ∧ w'.cell? ⟨wr.heap.size, 1, none⟩ = some (.int .i64 f.size)) (by kernel_rfl) (SK.out _ RJ.out.ed nj.out RJ.out.fr) (fun hS => ?_)
              refine wpAnyH_take (i := 0) (v := .slice ab2 lb2 cb2) rfl (by kernel_rfl) (by kernel_rfl) (by kernel_rfl) (fun _ _ _ h => h) (.inl ⟨by rfl, fun wx _ => by go_simp⟩) hS ?_
              simp only [Act.put]
              refine wpAnyH_take (i := 1) (v := .pointer (some ⟨w.heap.size, 4, none⟩)) rfl (by kernel_rfl) (by kernel_rfl) (by kernel_rfl) (fun _ _ _ h => h) (.inl ⟨by rfl, fun wx _ => by go_simp⟩) hS ?_
              simp only [Act.put]
              refine wpAnyH_take (i := 2) (v := .slice (some ⟨b, off, none⟩) al ac) rfl (by kernel_rfl) (by kernel_rfl) (by kernel_rfl) (fun _ _ _ h => h) (.inl ⟨by rfl, fun wx hX => by obtain ⟨x0, x1, x2, x3⟩ := hX; go_simp⟩) hS ?_
              simp only [Act.put]
              refine wpAnyH_take (i := 3) (v := .int .i64 (j : Int)) rfl (by kernel_rfl) (by kernel_rfl) (by kernel_rfl) (fun _ _ _ h => h) (.inl ⟨by rfl, fun wx _ => by go_simp⟩) hS ?_
              simp only [Act.put]
              refine wpAnyH_take (i := 4) (v := .pointer (some ⟨b, off + j * 5, none⟩)) rfl (by kernel_rfl) (by kernel_rfl) (by kernel_rfl) (fun _ _ _ h => h) (.inl ⟨by rfl, fun wx _ => by go_simp⟩) hS ?_
              simp only [Act.put]
              refine wpAnyH_take (i := 5) (v := .pointer (some ⟨b, off + j * 5, none⟩)) rfl (by kernel_rfl) (by kernel_rfl) (by kernel_rfl) (fun _ _ _ h => h) (.inl ⟨by rfl, fun wx _ => by go_simp⟩) hS ?_
              simp only [Act.put]
              refine wpAnyH_take (i := 6) (v := .int .i64 g1) rfl (by kernel_rfl) (by kernel_rfl) (by kernel_rfl) (fun _ _ _ h => h) (.inl ⟨by rfl, fun wx hX => by obtain ⟨x0, x1, x2, x3⟩ := hX; go_simp⟩) hS ?_
              simp only [Act.put]
              refine wpAnyH_take (i := 8) (v := .pointer (some ⟨wr.heap.size, 0, none⟩)) rfl (by kernel_rfl) (by kernel_rfl) (by kernel_rfl) (fun _ _ _ h => h) (.inl ⟨by rfl, fun wx _ => by go_simp⟩) hS ?_
              simp only [Act.put]
              refine wpAnyH_take (i := 9) (v := .int .i64 f.num) rfl (by kernel_rfl) (by kernel_rfl) (by kernel_rfl) (fun _ _ _ h => h) (.inl ⟨by rfl, fun wx hX => by obtain ⟨x0, x1, x2, x3⟩ := hX; go_simp⟩) hS ?_
              simp only [Act.put]
              refine wpAnyH_take (i := 11) (v := .pointer (some ⟨wr.heap.size, 1, none⟩)) rfl (by kernel_rfl) (by kernel_rfl) (by kernel_rfl) (fun _ _ _ h => h) (.inl ⟨by rfl, fun wx _ => by go_simp⟩) hS ?_
              simp only [Act.put]
              refine wpAnyH_take (i := 12) (v := .int .i64 f.size) rfl (by kernel_rfl) (by kernel_rfl) (by kernel_rfl) (fun _ _ _ h => h) (.inl ⟨by rfl, fun wx hX => by obtain ⟨x0, x1, x2, x3⟩ := hX; go_simp⟩) hS ?_
              simp only [Act.put]
              clear hS
              refine wpAnyH_ready (rs := [7]) (by kernel_rfl) (by simp) ?_
              refine AllReadyH.cons rfl (fun K hK => ?_) AllReadyH.nil
              go_simp
              refine (RJ.out.putB nj.out (by omega) (by omega)).mono ?_
              rintro r Wk1 ⟨ak1, lk1, ck1, rfl, hs⟩
              have Rk1 := hid hs
              refine hK.out _ _ (SK.out _ Rk1.out.1.ed Rk1.out.2 Rk1.out.1.fr) (fun _ => ?_)
              clear hK K hs
              refine wpAnyH_ready (rs := [10]) (by kernel_rfl) (by simp) ?_
              refine AllReadyH.cons rfl (fun K hK => ?_) AllReadyH.nil
              go_simp
              refine (Rk1.out.1.putB Rk1.out.2 (by omega) (by have := nb_len (n := g1) (by omega); rw [List.length_append]; omega)).mono ?_
              rintro r Wk2 ⟨ak2, lk2, ck2, rfl, hs⟩
              have Rk2 := hid hs
              refine hK.out _ _ (SK.out _ Rk2.out.1.ed Rk2.out.2 Rk2.out.1.fr) (fun _ => ?_)
              clear hK K hs
              refine wpAnyH_ready (rs := [13]) (by kernel_rfl) (by simp) ?_
              refine AllReadyH.cons rfl (fun K hK => ?_) AllReadyH.nil
              go_simp
              refine (Rk2.out.1.putB Rk2.out.2 (by omega) (by have := nb_len (n := g1) (by omega); have := nb_len (n := f.num) (by omega); simp only [List.length_append]; omega)).mono ?_
              rintro r Wk3 ⟨ak3, lk3, ck3, rfl, hs⟩
              have Rk3 := hid hs
              refine hK.out _ _ (SK.out _ Rk3.out.1.ed Rk3.out.2 Rk3.out.1.fr) (fun _ => ?_)
              clear hK K hs
              have hSq := SK.out _ Rk3.out.1.ed Rk3.out.2 Rk3.out.1.fr
              refine wpAnyH_take (i := 14) (v := .slice ak3 lk3 ck3) rfl (by kernel_rfl) (by kernel_rfl) (by kernel_rfl) (fun _ _ _ h => h) (.inl ⟨by rfl, fun wx _ => by go_simp⟩) hSq ?_
              simp only [Act.put]
              refine wpAnyH_done (by kernel_rfl) ?_ _
              clear hSq SK Rk1 Rk2 RJ RI
              obtain ⟨acB, hacB⟩ : ∃ acB, acB = acA ++ nb g1 ++ nb f.num ++ nb f.size := ⟨_, rfl⟩
              have HACB := hid hacB
              rw [← hacB] at Rk3
              clear hacB
              have hacBl : acB.length ≤ 100 + 20 * dl + 400 * al := by
                have n1 := nb_len (n := g1) (by omega)
                have n2 := nb_len (n := f.num) (by omega)
                have n3 := nb_len (n := f.size) (by omega)
                rw [HACB.out]
                simp only [List.length_append]
                omega
              go_upto_region 20 with fail
              have RF : Hid (RS w Wk3.drew #[.int .i64 lg, .int .i64 nx, .int .u64 (sq : Int), .slice da dl dc, .slice (some ⟨b, off, none⟩) al ac] (.slice ak3 lk3 ck3) acB) := hid (Rk3.out.1.fr' (Fr.refl _ _).drew)
              have nf : Hid (Wk3.drew.heap[wr.heap.size]? = some (.cells #[.int .i64 f.num, .int .i64 f.size, .slice la f.least.length lc, .slice ma f.most.length mc] 62 (0, 0))) := hid Rk3.out.2
              clear Rk3
              refine wp_region_held_drew (S := fun w' => w'.cell? ⟨wr.heap.size, 2, none⟩ = some (.slice la f.least.length lc)) (by kernel_rfl) (YY.out _ nf.out).2.2.1 (fun hS => ?_)
              refine wpAnyH_take (i := 0) (v := .slice ak3 lk3 ck3) rfl (by kernel_rfl) (by kernel_rfl) (by kernel_rfl) (fun _ _ _ h => h) (.inl ⟨by rfl, fun wx _ => by go_simp⟩) hS ?_
              simp only [Act.put]
              refine wpAnyH_take (i := 1) (v := .pointer (some ⟨wr.heap.size, 2, none⟩)) rfl (by kernel_rfl) (by kernel_rfl) (by kernel_rfl) (fun _ _ _ h => h) (.inl ⟨by rfl, fun wx _ => by go_simp⟩) hS ?_
              simp only [Act.put]
              refine wpAnyH_take (i := 2) (v := .slice la f.least.length lc) rfl (by kernel_rfl) (by kernel_rfl) (by kernel_rfl) (fun _ _ _ h => h) (.inl ⟨by rfl, fun wx hX => by have x0 := hX; go_simp⟩) hS ?_
              simp only [Act.put]
              refine wpAnyH_take (i := 3) (v := .int .i64 (f.least.length : Int)) rfl (by kernel_rfl) (by kernel_rfl) (by kernel_rfl) (fun _ _ _ h => h) (.inl ⟨by rfl, fun wx _ => by go_simp⟩) hS ?_
              simp only [Act.put]
              refine wpAnyH_take (i := 5) (v := .pointer (some ⟨wr.heap.size, 2, none⟩)) rfl (by kernel_rfl) (by kernel_rfl) (by kernel_rfl) (fun _ _ _ h => h) (.inl ⟨by rfl, fun wx _ => by go_simp⟩) hS ?_
              simp only [Act.put]
              refine wpAnyH_take (i := 6) (v := .slice la f.least.length lc) rfl (by kernel_rfl) (by kernel_rfl) (by kernel_rfl) (fun _ _ _ h => h) (.inl ⟨by rfl, fun wx hX => by have x0 := hX; go_simp⟩) hS ?_
              simp only [Act.put]
              clear hS
              refine wpAnyH_ready (rs := [4]) (by kernel_rfl) (by simp) ?_
              refine AllReadyH.cons rfl (fun K hK => ?_) AllReadyH.nil
              go_simp
              refine (RF.out.putB nf.out (n := (f.least.length : Int)) (by omega) (by omega)).mono ?_
              rintro r Wg1 ⟨ag1, lg1, cg1, rfl, hs⟩
              have Rg1 := hid hs
              refine hK.out _ _ ((YY.out _ Rg1.out.2).2.2.1) (fun _ => ?_)
              clear hK K hs
              refine wpAnyH_ready (rs := [7]) (by kernel_rfl) (by simp) ?_
              refine AllReadyH.cons rfl (fun K hK => ?_) AllReadyH.nil
              refine step_append_rd rfl (.tmp 128) (.tmp 130) rfl w.heap.size (v := .slice ag1 lg1 cg1) (n := (acB ++ nb (f.least.length : Int)).length) (xs := bv (acB ++ nb (f.least.length : Int))) Rg1.out.1.ob (by first | (simp [Act.eval]; done) | simp [Act.eval, Act.put]) (FR.out.rl.fr Rg1.out.1.fr) (by first | (simp [Act.eval]; done) | simp [Act.eval, Act.put]) bv_one (by have := nb_len (n := (f.least.length : Int)) (by omega); rw [bv_len, List.length_append]; omega) Rg1.out.1.fr.size ?_
              intro v2 Wg2 o2 g2 _
              obtain ⟨ag2, lg2, cg2, hv2⟩ : ∃ a l c, v2 = .slice a l c := (by obtain ⟨a, c, h, _⟩ := ownsRow_slice o2; exact ⟨a, _, c, h⟩)
              subst hv2
              have hap := Rg1.out.1.app (more := f.least) (by rw [bv_len] at o2; exact o2) g2
              have Rg2 := hid (And.intro hap.1 (hap.2.at Rg1.out.2 (by decide)))
              refine hK.out _ _ ((YY.out _ Rg2.out.2).2.2.1) (fun _ => ?_)
              clear hK K hap o2 g2
              have hSq := (YY.out _ Rg2.out.2).2.2.1
              refine wpAnyH_take (i := 8) (v := .slice ag2 lg2 cg2) rfl (by kernel_rfl) (by kernel_rfl) (by kernel_rfl) (fun _ _ _ h => h) (.inl ⟨by rfl, fun wx _ => by go_simp⟩) hSq ?_
              simp only [Act.put]
              refine wpAnyH_done (by kernel_rfl) ?_ _
              clear hSq Rg1 RF nf
              obtain ⟨acC, hacC⟩ : ∃ acC, acC = acB ++ nb (f.least.length : Int) ++ f.least := ⟨_, rfl⟩
              have HACC := hid hacC
              rw [← hacC] at Rg2
              clear hacC
              have hacCl : acC.length ≤ 300 + 20 * dl + 400 * al := by
                have n1 := nb_len (n := (f.least.length : Int)) (by omega)
                rw [HACC.out]
                simp only [List.length_append]
                omega
              go_upto_region 21 with fail
              have RH : Hid (RS w Wg2.drew #[.int .i64 lg, .int .i64 nx, .int .u64 (sq : Int), .slice da dl dc, .slice (some ⟨b, off, none⟩) al ac] (.slice ag2 lg2 cg2) acC) := hid (Rg2.out.1.fr' (Fr.refl _ _).drew)
              have nh : Hid (Wg2.drew.heap[wr.heap.size]? = some (.cells #[.int .i64 f.num, .int .i64 f.size, .slice la f.least.length lc, .slice ma f.most.length mc] 62 (0, 0))) := hid Rg2.out.2
              clear Rg2
              refine wp_region_held_drew (S := fun w' => w'.cell? ⟨wr.heap.size, 3, none⟩ = some (.slice ma f.most.length mc)) (by kernel_rfl) (YY.out _ nh.out).2.2.2 (fun hS => ?_)
              refine wpAnyH_take (i := 0) (v := .slice ag2 lg2 cg2) rfl (by kernel_rfl) (by kernel_rfl) (by kernel_rfl) (fun _ _ _ h => h) (.inl ⟨by rfl, fun wx _ => by go_simp⟩) hS ?_
              simp only [Act.put]
              refine wpAnyH_take (i := 1) (v := .pointer (some ⟨wr.heap.size, 3, none⟩)) rfl (by kernel_rfl) (by kernel_rfl) (by kernel_rfl) (fun _ _ _ h => h) (.inl ⟨by rfl, fun wx _ => by go_simp⟩) hS ?_
              simp only [Act.put]
              refine wpAnyH_take (i := 2) (v := .slice ma f.most.length mc) rfl (by kernel_rfl) (by kernel_rfl) (by kernel_rfl) (fun _ _ _ h => h) (.inl ⟨by rfl, fun wx hX => by have x0 := hX; go_simp⟩) hS ?_
              simp only [Act.put]
              refine wpAnyH_take (i := 3) (v := .int .i64 (f.most.length : Int)) rfl (by kernel_rfl) (by kernel_rfl) (by kernel_rfl) (fun _ _ _ h => h) (.inl ⟨by rfl, fun wx _ => by go_simp⟩) hS ?_
              simp only [Act.put]
              refine wpAnyH_take (i := 5) (v := .pointer (some ⟨wr.heap.size, 3, none⟩)) rfl (by kernel_rfl) (by kernel_rfl) (by kernel_rfl) (fun _ _ _ h => h) (.inl ⟨by rfl, fun wx _ => by go_simp⟩) hS ?_
              simp only [Act.put]
              refine wpAnyH_take (i := 6) (v := .slice ma f.most.length mc) rfl (by kernel_rfl) (by kernel_rfl) (by kernel_rfl) (fun _ _ _ h => h) (.inl ⟨by rfl, fun wx hX => by have x0 := hX; go_simp⟩) hS ?_
              simp only [Act.put]
              clear hS
              refine wpAnyH_ready (rs := [4]) (by kernel_rfl) (by simp) ?_
              refine AllReadyH.cons rfl (fun K hK => ?_) AllReadyH.nil
              go_simp
              refine (RH.out.putB nh.out (n := (f.most.length : Int)) (by omega) (by omega)).mono ?_
              rintro r Wh1 ⟨ah1, lh1, ch1, rfl, hs⟩
              have Rh1 := hid hs
              refine hK.out _ _ ((YY.out _ Rh1.out.2).2.2.2) (fun _ => ?_)
              clear hK K hs
              refine wpAnyH_ready (rs := [7]) (by kernel_rfl) (by simp) ?_
              refine AllReadyH.cons rfl (fun K hK => ?_) AllReadyH.nil
              refine step_append_rd rfl (.tmp 136) (.tmp 138) rfl w.heap.size (v := .slice ah1 lh1 ch1) (n := (acC ++ nb (f.most.length : Int)).length) (xs := bv (acC ++ nb (f.most.length : Int))) Rh1.out.1.ob (by first | (simp [Act.eval]; done) | simp [Act.eval, Act.put]) (FR.out.rm.fr Rh1.out.1.fr) (by first | (simp [Act.eval]; done) | simp [Act.eval, Act.put]) bv_one (by have := nb_len (n := (f.most.length : Int)) (by omega); rw [bv_len, List.length_append]; omega) Rh1.out.1.fr.size ?_
              intro v2 Wh2 o2 g2 _
              obtain ⟨ah2, lh2, ch2, hv2⟩ : ∃ a l c, v2 = .slice a l c := (by obtain ⟨a, c, h, _⟩ := ownsRow_slice o2; exact ⟨a, _, c, h⟩)
              subst hv2
              have hap := Rh1.out.1.app (more := f.most) (by rw [bv_len] at o2; exact o2) g2
              have Rh2 := hid (And.intro hap.1 (hap.2.at Rh1.out.2 (by decide)))
              refine hK.out _ _ ((YY.out _ Rh2.out.2).2.2.2) (fun _ => ?_)
              clear hK K hap o2 g2
              have hSq := (YY.out _ Rh2.out.2).2.2.2
              refine wpAnyH_take (i := 8) (v := .slice ah2 lh2 ch2) rfl (by kernel_rfl) (by kernel_rfl) (by kernel_rfl) (fun _ _ _ h => h) (.inl ⟨by rfl, fun wx _ => by go_simp⟩) hSq ?_
              simp only [Act.put]
              refine wpAnyH_done (by kernel_rfl) ?_ _
              clear hSq Rh1 RH nh YY
              go_wp2_with fail
              go_roundw
              case rel =>
                refine ⟨j + 1, by omega, by go_num, HQ.out, ?_⟩
                have h7 := Rh2.out.1
                rw [HFN.out, ← List.append_assoc, ← HACA.out]
                rw [show acC ++ nb (f.most.length : Int) ++ f.most = acA ++ encA (g1, f) from by rw [HACC.out, HACB.out]; simp [encA, nb]] at h7
                exact h7
              case measure => simp [intOf]; omega
        · have hjn : al = j := by omega
          subst hjn
          have HGD : Hid (OKE = true) := hid (by have := HAL1.out; rw [HAL.out, List.take_length] at this; rw [HOK3.out, this])
          have hfin : acA = RES := by
            rw [HRES.out, HACA.out, HAC9.out, HACJ.out, HAC5.out, HAC4.out, HAC3.out, HAL.out, List.take_length]
            simp only [List.append_assoc]
          obtain ⟨z0, z1, z2, z3, z4⟩ := CC.out wr RI.out.ed
          go_wp2
          go_ret2
          exact ⟨GOOD.out HGD.out _ _ (by rw [← hfin]; exact RI.out.ob), RI.out.fr⟩
end Go.Proofs.YtegbngbhmgbocaaGreatDoor
