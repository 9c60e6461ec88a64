/-
  The document's Apply of any edit on any version.
-/
import Derived.Test.YtegbngbhmgbocaaGreatDoorWAH
import Derived.Test.YtegbngbhmgbocaaGreatDoorEK
namespace Go.Proofs.YtegbngbhmgbocaaGreatDoor
open Go.ChangeShapes Go.WideShapes Go.ChangeAt Go.RowKit

theorem pfx_sub {L : Nat → List Fl} : ∀ (m i : Nat), i < m → (L i).Sublist (pfx L m)
  | 0, i, h => by omega
  | m + 1, i, h => by
    rw [pfx_succ]
    by_cases e : i = m
    · subst e; exact List.sublist_append_right _ _
    · exact (pfx_sub m i (by omega)).trans (List.sublist_append_left _ _)
def lv5 (L : Nat → List Fl) (i : Nat) : List Fl := if i < 5 then L i else []
theorem kept5 (gs : List (Int × Int)) (L : Nat → List Fl) {i : Nat} (h : i < 5) : keptF gs (lv5 L) i = keptF gs L i := by
  unfold keptF lv5; rw [if_pos h]
theorem kept5_sort {v : Vn} (c : chkV v = 0) (gs : List (Int × Int)) (i : Nat) : (keptF gs (lv5 v.lv) i).Pairwise (fun a b => ¬ cmpF i b a < 0) := by
  unfold keptF
  refine List.Pairwise.sublist List.filter_sublist ?_
  unfold lv5
  split
  · next h =>
    refine (rises_pair i _ (((chk_iff _).1 c).rise i h)).imp ?_
    intro a b hab
    rw [cmpF_neg i a b]
    omega
  · exact List.Pairwise.nil
theorem kept5_len (gs : List (Int × Int)) (L : Nat → List Fl) (i : Nat) {B : Nat} (h : ∀ i, i < 5 → (L i).length ≤ B) : (keptF gs (lv5 L) i).length ≤ B := by
  unfold keptF
  refine Nat.le_trans (List.length_filter_le _ _) ?_
  unfold lv5
  split
  · next hh => exact h i hh
  · simp
theorem addF_len (ps : List (Int × Fl)) (i : Nat) : (addF ps i).length ≤ ps.length := by
  unfold addF
  rw [List.length_map]
  exact List.length_filter_le _ _
theorem dc_nil (L : Nat → List Fl) : ∀ n, dcF [] L n = 0
  | 0 => rfl
  | n + 1 => by
    show dcF [] L n + (L n).countP (drF [] n) = 0
    rw [dc_nil L n, List.countP_eq_zero.2 (fun f _ h => by simp [drF] at h)]
theorem cur4_size {cur : Array Value} {n p : Nat} (hp : p ≤ n) (h : (n + 1) * 4 ≤ cur.size) : (cur4 cur n p).size = cur.size := by
  unfold cur4
  simp
  omega
/-- The version's lists, whatever becomes of another block. -/
structure LvO (B : Nat) (W : World) (X : Nat → List Fx) (ad : Nat → Option Addr) (ln cp : Nat → Nat) : Prop where
  len : ∀ i, i < 5 → ln i = (X i).length
  own : ∀ i, i < 5 → OwnP W B (ad i) (ln i) (cp i) ((X i).flatMap encX)
  xo : ∀ i, i < 5 → ∀ x ∈ X i, XO B W x.f x.la x.lc x.ma x.mc
  bys : ∀ i, i < 5 → ∀ x ∈ X i, Bys x.f
theorem LvV.oth {wb W W' : World} {K : Nat} {a b c : Int} {X : Nat → List Fx} {ad : Nat → Option Addr} {ln cp : Nat → Nat} (h : LvV wb W K a b c X ad ln cp) {p : Nat} {cs : Array Value} (hp : W.heap[p]? = some (.cells cs 28 (0, 0))) (hk : ∀ k, k ≠ p → W'.heap[k]? = W.heap[k]?) : LvO wb.heap.size W' X ad ln cp :=
  ⟨h.len, fun i hi => (h.own i hi).block fun k hb => hk k (fun e => by subst e; exact (h.own i hi).not hp (by decide) hb), fun i hi x hx => ⟨ownsRow_of_block (h.xo i hi x hx).ol fun k hb => hk k (fun e => by subst e; exact own_not (h.xo i hi x hx).ol hp (by decide) hb), ownsRow_of_block (h.xo i hi x hx).om fun k hb => hk k (fun e => by subst e; exact own_not (h.xo i hi x hx).om hp (by decide) hb)⟩, h.bys⟩
theorem LvV.far {wb W W' : World} {K : Nat} {a b c : Int} {X : Nat → List Fx} {ad : Nat → Option Addr} {ln cp : Nat → Nat} (h : LvV wb W K a b c X ad ln cp) (hk : ∀ k, wb.heap.size ≤ k → k < W.heap.size → W'.heap[k]? = W.heap[k]?) : LvO wb.heap.size W' X ad ln cp :=
  ⟨h.len, fun i hi => (h.own i hi).block fun k hb => hk k ((h.own i hi).lt hb).2 ((h.own i hi).lt hb).1, fun i hi x hx => ⟨ownsRow_of_block (h.xo i hi x hx).ol fun k hb => hk k ((h.xo i hi x hx).ol.lt k hb).1 ((h.xo i hi x hx).ol.lt k hb).2, ownsRow_of_block (h.xo i hi x hx).om fun k hb => hk k ((h.xo i hi x hx).om.lt k hb).1 ((h.xo i hi x hx).om.lt k hb).2⟩, h.bys⟩
theorem LvO.vat {B : Nat} {W : World} {X : Nat → List Fx} {ad : Nat → Option Addr} {ln cp : Nat → Nat} (h : LvO B W X ad ln cp) {U : Nat → List Fl} (hU : ∀ i, i < 5 → (X i).map Fx.f = U i) (hl : ∀ i, i < 5 → ln i ≤ 1000000) : VAt W U ad ln cp := by
  refine ⟨fun i hi => by rw [h.len i hi, ← hU i hi, List.length_map], fun i hi => by have := hl i hi; omega, fun i hi h0 => ?_⟩
  obtain ⟨g, e⟩ : ∃ g, ad i = some ⟨g, 0, none⟩ := by
    rcases (h.own i hi).row with ⟨_, h2, _⟩ | ⟨g, cur, h1, _⟩
    · omega
    · exact ⟨g, h1⟩
  refine ⟨g, 0, e, fun j f hj => ?_⟩
  obtain ⟨x, hx, rfl⟩ := map_at (hU i hi) hj
  have o := h.own i hi
  rw [e] at o
  have cell : ∀ c, c < 4 → W.cell? ⟨g, 0 + j * 4 + c, none⟩ = (encX x)[c]? := fun c hc => by
    have e2 := flat4_at (X i) (j * 4 + c) x (by rw [show (j * 4 + c) / 4 = j from by omega]; exact hx)
    rw [show (j * 4 + c) % 4 = c from by omega] at e2
    have e3 : (encX x)[c]? = some ((encX x)[c]'hc) := List.getElem?_eq_getElem hc
    rw [e3] at e2 ⊢
    have := o.cells _ _ e2
    rw [Addr.add_lit, Nat.zero_add] at this
    rw [show 0 + j * 4 + c = j * 4 + c from by omega]
    exact this
  have hm := List.mem_of_getElem? hx
  obtain ⟨b1, b2, b3, b4⟩ := h.bys i hi x hm
  exact ⟨x.la, x.lc, x.ma, x.mc, by have := cell 0 (by omega); simpa [encX] using this, by have := cell 1 (by omega); simpa [encX] using this, by have := cell 2 (by omega); simpa [encX] using this, by have := cell 3 (by omega); simpa [encX] using this, (h.xo i hi x hm).frd b1 b2 b3 b4⟩
/-- What the document's Apply answers. -/
structure RAOut (w w' : World) (v : Vn) (e : Ed) (r : Ending) : Prop where
  fr : Fr [] w w'
  out : (chkV v ≠ 0 ∧ r = .returned (.tuple #[.agg #[.int .i64 0, .int .i64 0, .int .u64 0, .slice none 0 0, .slice none 0 0, .slice none 0 0, .slice none 0 0, .slice none 0 0], .int .i64 (chkV v)])) ∨ (chkV v = 0 ∧ okE e = false ∧ r = .returned (.tuple #[.agg #[.int .i64 0, .int .i64 0, .int .u64 0, .slice none 0 0, .slice none 0 0, .slice none 0 0, .slice none 0 0, .slice none 0 0], .int .i64 90])) ∨
    (chkV v = 0 ∧ okE e = true ∧ ((∃ c, errA v e c ∧ c ≠ 0 ∧ r = .returned (.tuple #[.agg #[.int .i64 0, .int .i64 0, .int .u64 0, .slice none 0 0, .slice none 0 0, .slice none 0 0, .slice none 0 0, .slice none 0 0], .int .i64 c])) ∨ ∃ U kd kl kc, okA9 v e U ∧ r = .returned (.tuple #[.agg #[.int .i64 e.log, .int .i64 e.next, .int .u64 (e.seq : Int), .slice (kd 0) (kl 0) (kc 0), .slice (kd 1) (kl 1) (kc 1), .slice (kd 2) (kl 2) (kc 2), .slice (kd 3) (kl 3) (kc 3), .slice (kd 4) (kl 4) (kc 4)], .int .i64 0]) ∧ VAt w' U kd kl kc ∧ (∀ i, i < 5 → kd i = none → kl i = 0 ∧ kc i = 0) ∧ ∀ W : World, (∀ k, w.heap.size ≤ k → k < w'.heap.size → W.heap[k]? = w'.heap[k]?) → VAt W U kd kl kc))
set_option maxRecDepth 20000 in
set_option maxHeartbeats 25600000 in
theorem rapply_c (w : World) {v : Vn} {ad : Nat → Option Addr} {ln cp : Nat → Nat} {e : Ed} {da aa : Option Addr} {dc ac : Nat} (hv : VAt w v.lv ad ln cp) (hnil : ∀ i, i < 5 → ad i = none → ln i = 0 ∧ cp i = 0) (he : EAt w e da dc aa ac) (hsm : ∀ i, i < 5 → ln i ≤ 500) (hgl : e.drop.length ≤ 4000) (hal : e.add.length ≤ 450) :
    Calls Tryz.prog 15 #[.agg #[.int .i64 v.log, .int .i64 v.next, .int .u64 (v.seq : Int), .slice (ad 0) (ln 0) (cp 0), .slice (ad 1) (ln 1) (cp 1), .slice (ad 2) (ln 2) (cp 2), .slice (ad 3) (ln 3) (cp 3), .slice (ad 4) (ln 4) (cp 4)], .agg #[.int .i64 e.log, .int .i64 e.next, .int .u64 (e.seq : Int), .slice da e.drop.length dc, .slice aa e.add.length ac]] w fun r w' => RAOut w w' v e r := by
  obtain ⟨W0, hW0⟩ : ∃ W0, W0 = ((w.alloc (.cells #[.int .i64 v.log, .int .i64 v.next, .int .u64 (v.seq : Int), .slice (ad 0) (ln 0) (cp 0), .slice (ad 1) (ln 1) (cp 1), .slice (ad 2) (ln 2) (cp 2), .slice (ad 3) (ln 3) (cp 3), .slice (ad 4) (ln 4) (cp 4)] 28)).alloc (.cells #[.int .i64 e.log, .int .i64 e.next, .int .u64 (e.seq : Int), .slice da e.drop.length dc, .slice aa e.add.length ac] 41)).alloc (.cells #[.int .i64 0, .int .i64 0, .int .u64 0, .slice none 0 0, .slice none 0 0, .slice none 0 0, .slice none 0 0, .slice none 0 0] 28) := ⟨_, rfl⟩
  have B0 : Hid (Bx w W0 #[.int .i64 v.log, .int .i64 v.next, .int .u64 (v.seq : Int), .slice (ad 0) (ln 0) (cp 0), .slice (ad 1) (ln 1) (cp 1), .slice (ad 2) (ln 2) (cp 2), .slice (ad 3) (ln 3) (cp 3), .slice (ad 4) (ln 4) (cp 4)] #[.int .i64 e.log, .int .i64 e.next, .int .u64 (e.seq : Int), .slice da e.drop.length dc, .slice aa e.add.length ac]) := hid (by rw [hW0]; exact Bx.new w _ _)
  have HV := hv.fr B0.out.fr
  have HW0S : Hid (w.heap.size + 1 + 1 < W0.heap.size) := hid (blk_lt B0.out.n2)
  have CK := hid (rcheck_c W0 HV hnil (fun i hi => by have := hsm i hi; omega))
  obtain ⟨X, hX1, hX2⟩ := HV.vx
  have HXM := hid hX1
  have VX0 := hid hX2
  have HSM := hid hsm
  have HSL : Hid (∀ i, i < 5 → (v.lv i).length ≤ 500) := hid (fun i hi => by rw [← hv.len i hi]; exact hsm i hi)
  have HE := hid (he.fr B0.out.fr)
  have EB : Hid (okE e = false → ∀ W, Fr [] W0 W → Calls Tryz.prog 38 #[.agg #[.int .i64 e.log, .int .i64 e.next, .int .u64 (e.seq : Int), .slice da e.drop.length dc, .slice aa e.add.length ac]] W fun r w' => r = .returned (.tuple #[.slice none 0 0, .int .i64 90]) ∧ Fr [] W w') := hid (fun h0 W f => (renc_c W (HE.out.fr f) (by omega) (by omega)).mono fun r w' h => by
    rcases h.1 with ⟨h3, _⟩ | ⟨_, h3⟩
    · rw [h0] at h3; cases h3
    · exact ⟨h3, h.2⟩)
  have EG : Hid (okE e = true → ∀ W, Fr [] W0 W → Calls Tryz.prog 38 #[.agg #[.int .i64 e.log, .int .i64 e.next, .int .u64 (e.seq : Int), .slice da e.drop.length dc, .slice aa e.add.length ac]] W fun r w' => (∃ a l c, r = .returned (.tuple #[.slice a l c, .int .i64 0])) ∧ Fr [] W w') := hid (fun h0 W f => (renc_c W (HE.out.fr f) (by omega) (by omega)).mono fun r w' h => by
    rcases h.1 with ⟨_, v', h3, o⟩ | ⟨h3, _⟩
    · obtain ⟨a9, c9, rfl, _⟩ := ownsRow_slice o
      exact ⟨⟨_, _, _, h3⟩, h.2⟩
    · rw [h0] at h3; cases h3)
  obtain ⟨C, hC⟩ : ∃ C, C = chkV v := ⟨_, rfl⟩
  rw [← hC] at CK
  have HC := hid hC
  clear hC
  obtain ⟨dl, hdl⟩ : ∃ dl, dl = e.drop.length := ⟨_, rfl⟩
  obtain ⟨al, hal'⟩ : ∃ al, al = e.add.length := ⟨_, rfl⟩
  have HDL := hid hdl
  have HAL := hid hal'
  have hdl5 : dl ≤ 4000 := by omega
  have hal5 : al ≤ 450 := by omega
  rw [← hdl, ← hal'] at EB EG B0 hW0 ⊢
  obtain ⟨vl, hvl⟩ : ∃ x, x = v.log := ⟨_, rfl⟩
  obtain ⟨vn, hvn⟩ : ∃ x, x = v.next := ⟨_, rfl⟩
  obtain ⟨vs, hvs⟩ : ∃ x, x = v.seq := ⟨_, rfl⟩
  obtain ⟨el, hel⟩ : ∃ x, x = e.log := ⟨_, rfl⟩
  obtain ⟨en, hen⟩ : ∃ x, x = e.next := ⟨_, rfl⟩
  obtain ⟨es, hes⟩ : ∃ x, x = e.seq := ⟨_, rfl⟩
  have HVE := hid (And.intro (And.intro hvl (And.intro hvn hvs)) (And.intro hel (And.intro hen hes)))
  rw [← hvl, ← hvn, ← hvs] at CK B0 hW0 ⊢
  rw [← hel, ← hen, ← hes] at EB EG B0 hW0 ⊢
  clear hvl hvn hvs hel hen hes hdl hal' hv he hsm hgl hal hnil HV hX1 hX2
  obtain ⟨z0, z1, z2, z3, z4, z5, z6, z7⟩ := vn_cells B0.out.n0
  go_enter Tryz.func15, Tryz.ntmps15
  go_upto_region 1 with fail
  rw [← hW0]
  clear hW0
  go_upto_region 2 with (go_at_call 39; refine CK.out.mono ?_; rintro r W1 ⟨rfl, f1⟩; have F1 := hid f1; clear f1)
  clear z0 z1 z2 z3 z4 z5 z6 z7 CK
  have B1 := hid (B0.out.fr' F1.out)
  by_cases hC0 : C = 0
  · subst hC0
    have HC0 : Hid (chkV v = 0) := hid HC.out.symm
    clear HC
    obtain ⟨x0, x1, x2, x3, x4⟩ := ed5_cells B1.out.n1
    go_upto_region 3 with fail
    cases hoe : okE e with
    | false =>
    have HO := hid hoe
    have E1 := hid (EB.out hoe W1 F1.out)
    clear hoe EB EG
    go_upto_region 4 with (go_at_call 38; refine E1.out.mono ?_; rintro r W2 ⟨rfl, f2⟩; have F2 := hid f2; clear f2)
    clear x0 x1 x2 x3 x4
    have B2 := hid (B1.out.fr' F2.out)
    obtain ⟨q0, q1, q2, q3, q4, q5, q6, q7⟩ := vn_cells B2.out.n2
    have qf0 := blk_frozen B2.out.n2 0
    have qf1 := blk_frozen B2.out.n2 1
    have qf2 := blk_frozen B2.out.n2 2
    have qf3 := blk_frozen B2.out.n2 3
    have qf4 := blk_frozen B2.out.n2 4
    have qf5 := blk_frozen B2.out.n2 5
    have qf6 := blk_frozen B2.out.n2 6
    have qf7 := blk_frozen B2.out.n2 7
    go_wp2_with fail
    refine bodyPost_ret (ret_ct9 rfl (g := w.heap.size + 1 + 1) (by simp) (load46k (by rw [blk_set (blk_set (blk_set (blk_set (blk_set (blk_set (blk_set (blk_set B2.out.n2 0 _) 1 _) 2 _) 3 _) 4 _) 5 _) 6 _) 7 _]; rfl))) rfl ?_
    exact ⟨(((((((B2.out.fr.set _ _ (.inr (by omega))).set _ _ (.inr (by omega))).set _ _ (.inr (by omega))).set _ _ (.inr (by omega))).set _ _ (.inr (by omega))).set _ _ (.inr (by omega))).set _ _ (.inr (by omega))).set _ _ (.inr (by omega)), .inr (.inl ⟨HC0.out, HO.out, rfl⟩)⟩
    | true =>
    have HO := hid hoe
    have E1 := hid (EG.out hoe W1 F1.out)
    clear hoe EB EG
    go_upto_region 4 with (go_at_call 38; refine E1.out.mono ?_; rintro r W2 ⟨⟨a9, l9, c9, rfl⟩, f2⟩; have F2 := hid f2; clear f2)
    clear x0 x1 x2 x3 x4 E1
    have B2 := hid (B1.out.fr' F2.out)
    obtain ⟨x0, x1, x2, x3, x4⟩ := ed5_cells B2.out.n1
    obtain ⟨K7, hK7⟩ : ∃ K7, K7 = W2.heap.size := ⟨_, rfl⟩
    obtain ⟨W5, hW5⟩ : ∃ W5, W5 = W2.alloc (.cells #[.int .i64 el, .int .i64 en, .int .u64 (es : Int), .slice none 0 0, .slice none 0 0, .slice none 0 0, .slice none 0 0, .slice none 0 0] 28) := ⟨_, rfl⟩
    have D5 : Hid (LvV W0 W5 K7 el en (es : Int) (fun _ => []) (fun _ => none) (fun _ => 0) (fun _ => 0)) := hid (by
      refine LvV.new (by rw [hW5, hK7]; exact blk_new _ _) (by rw [hW5]; exact (F1.out.trans F2.out).alloc _) ?_
      rw [hK7]
      exact (F1.out.trans F2.out).size)
    go_upto_region 7 with fail
    rw [← hW5, ← hK7]
    clear hW5 hK7 x0 x1 x2 x3 x4 B1 B2 F1 F2
    have HOD : Hid (∀ g ∈ e.drop, 0 ≤ g.1 ∧ g.1 < 5) := hid (fun g hg => by
      have h := HO.out
      unfold okE at h
      simp only [Bool.and_eq_true] at h
      have h2 := List.all_eq_true.1 h.1 g hg
      unfold okD at h2
      simp only [Bool.and_eq_true] at h2
      exact okV_iff.1 h2.1)
    have HND : Hid (∀ i, i < 5 → ((v.lv i).map Fl.num).Nodup) := hid (fun i hi => List.Nodup.sublist ((pfx_sub 5 i hi).map _) ((chk_iff _).1 HC0.out).once)
    have HOA : Hid (∀ p ∈ e.add, okA p = true) := hid (fun p hp => by
      have h := HO.out
      unfold okE at h
      simp only [Bool.and_eq_true] at h
      exact List.all_eq_true.1 h.2.1 p hp)
    go_wp2_with fail
    have HCP0 : Hid (∀ k, k < 5 → ((fun _ => [] : Nat → List Fx) k).map Fx.f = cpL v.lv 0 0 k) := hid (fun k hk => by unfold cpL; rw [if_neg (by omega)]; split <;> simp)
    go_loopw [8] (fun v8 wr => ∃ (i : Nat) (Y : Nat → List Fx) (kd : Nat → Option Addr) (kl kc : Nat → Nat), i ≤ 5 ∧ v8 = .int .i64 (i : Int) ∧ (∀ k, k < 5 → (Y k).map Fx.f = cpL v.lv i 0 k) ∧ LvV W0 wr K7 el en (es : Int) Y kd kl kc) (fun v8 _ => 5 - (intOf v8).toNat)
    case atStart => exact ⟨0, _, _, _, _, by omega, rfl, HCP0.out, D5.out⟩
    case round =>
      obtain ⟨i, Y, kd, kl, kc, hi, rfl, hm, hlv⟩ := hrel
      have LV := hid hlv
      have HM := hid hm
      clear hlv hm D5 HCP0
      by_cases hlt : i < 5
      · have hlt' : (i : Int) < 5 := by omega
        have CI : Hid (∀ W : World, Fr [] W0 W → W.cell? ⟨w.heap.size, 3 + i, none⟩ = some (.slice (ad i) (ln i) (cp i))) := hid (fun W f => vn_cell (f.at B0.out.n0 (by simp)) hlt)
        have zc := CI.out wr LV.out.fr
        have HXi : Hid ((X i).map Fx.f = v.lv i) := hid (HXM.out i hlt)
        have HXN : Hid (ln i = (X i).length) := hid (VX0.out.len i hlt)
        have hsi := HSM.out i hlt
        have HRD := hid (VX0.out.rd i hlt)
        obtain ⟨li, hli⟩ : ∃ li, li = ln i := ⟨_, rfl⟩
        obtain ⟨ai, hai⟩ : ∃ ai, ai = ad i := ⟨_, rfl⟩
        obtain ⟨ci, hci⟩ : ∃ ci, ci = cp i := ⟨_, rfl⟩
        rw [← hli] at zc CI HXN HRD hsi
        rw [← hai] at zc CI HRD
        rw [← hci] at zc CI
        clear hli hai hci
        go_wp2_with fail
        clear zc
        go_loopw [9] (fun v9 wr => ∃ (j : Nat) (Y : Nat → List Fx) (kd : Nat → Option Addr) (kl kc : Nat → Nat), j ≤ li ∧ v9 = .int .i64 (j : Int) ∧ (∀ k, k < 5 → (Y k).map Fx.f = cpL v.lv i j k) ∧ LvV W0 wr K7 el en (es : Int) Y kd kl kc) (fun v9 _ => li - (intOf v9).toNat)
        case atStart => exact ⟨0, _, _, _, _, by omega, rfl, HM.out, LV.out⟩
        case round =>
          clear LV HM
          obtain ⟨j, Y, kd, kl, kc, hj, rfl, hm, hlv⟩ := hrel
          have LV := hid hlv
          have HM := hid hm
          clear hlv hm
          have zc := CI.out wr LV.out.fr
          by_cases hjl : j < li
          · have hjl' : (j : Int) < (li : Int) := by omega
            obtain ⟨x, hx⟩ : ∃ x, (X i)[j]? = some x := ⟨_, List.getElem?_eq_getElem (by rw [← HXN.out]; exact hjl)⟩
            obtain ⟨b, off, hab, m1⟩ := HRD.out (by omega)
            subst hab
            have k0 := m1 j x hx
            have HXF : Hid ((v.lv i)[j]? = some x.f) := hid (at_map HXi.out hx)
            clear m1 hx
            have SK : Hid (∀ W, Fr [] W0 W → W.cell? ⟨b, off + j * 4, none⟩ = some (.int .i64 x.f.num) ∧ W.cell? ⟨b, off + j * 4 + 1, none⟩ = some (.int .i64 x.f.size) ∧ W.cell? ⟨b, off + j * 4 + 2, none⟩ = some (.slice x.la x.f.least.length x.lc) ∧ W.cell? ⟨b, off + j * 4 + 3, none⟩ = some (.slice x.ma x.f.most.length x.mc)) := hid (fun W f => ⟨cell_fr f k0.c0, cell_fr f k0.c1, cell_fr f k0.c2, cell_fr f k0.c3⟩)
            have CP : Hid (∀ W, Fr [] wr W → Calls Tryz.prog 40 #[.agg #[.int .i64 x.f.num, .int .i64 x.f.size, .slice x.la x.f.least.length x.lc, .slice x.ma x.f.most.length x.mc]] W fun r w' => COut W w' x.f r) := hid (fun W f => rcopied_c W (k0.rd.fr (LV.out.fr.trans f)))
            have HBY : Hid (Bys x.f) := hid ⟨k0.rd.bl, k0.rd.bm, k0.rd.ll, k0.rd.lm⟩
            clear k0
            have hkl0 : kl i ≤ 500 := by
              rw [LV.out.len i hlt, ← List.length_map (f := Fx.f), HM.out i hlt]
              unfold cpL
              rw [if_neg (by omega), if_pos rfl, List.length_take]
              omega
            go_upto_region 13 with fail
            clear zc
            obtain ⟨kdi, hkdi⟩ : ∃ kdi, kdi = kd i := ⟨_, rfl⟩
            obtain ⟨kli, hkli⟩ : ∃ kli, kli = kl i := ⟨_, rfl⟩
            obtain ⟨kci, hkci⟩ : ∃ kci, kci = kc i := ⟨_, rfl⟩
            have za : wr.drew.cell? ⟨K7, 3 + i, none⟩ = some (.slice kdi kli kci) := by rw [hkdi, hkli, hkci]; exact (LV.out.fr' (Fr.refl _ _).drew).cell hlt
            have MK : Hid (∀ (w4 : World) (la' : Option Addr) (lc' : Nat) (ma' : Option Addr) (mc' : Nat), Fr [] wr.drew w4 → XO wr.drew.heap.size w4 x.f la' lc' ma' mc' → ∃ a6 c6 w6, (Builtin.append_ #[25, 25] 25 #[.slice kdi kli kci, .slice (some ⟨w4.heap.size, 0, none⟩) 1 1]).run Tryz.prog (w4.alloc (.cells #[.int .i64 x.f.num, .int .i64 x.f.size, .slice la' x.f.least.length lc', .slice ma' x.f.most.length mc'] 62)) = .ok (.slice a6 (kli + 1) c6) w6 ∧ Fr [] W0 w4 ∧ Fr [] W0 (w4.alloc (.cells #[.int .i64 x.f.num, .int .i64 x.f.size, .slice la' x.f.least.length lc', .slice ma' x.f.most.length mc'] 62)) ∧ Fr [] W0 w6 ∧ w4.cell? ⟨K7, 3 + i, none⟩ = some (.slice kdi kli kci) ∧ (w4.alloc (.cells #[.int .i64 x.f.num, .int .i64 x.f.size, .slice la' x.f.least.length lc', .slice ma' x.f.most.length mc'] 62)).cell? ⟨K7, 3 + i, none⟩ = some (.slice kdi kli kci) ∧ w6.cell? ⟨K7, 3 + i, none⟩ = some (.slice kdi kli kci) ∧ w6.frozen? ⟨K7, 3 + i, none⟩ = false ∧ LvV W0 (w6.setCell ⟨K7, 3 + i, none⟩ (.slice a6 (kli + 1) c6)) K7 el en (es : Int) (upA Y i (Y i ++ [⟨x.f, la', lc', ma', mc'⟩])) (upA kd i a6) (upA kl i (kli + 1)) (upA kc i c6) ∧ ∀ k, k < 5 → ((upA Y i (Y i ++ [⟨x.f, la', lc', ma', mc'⟩])) k).map Fx.f = cpL v.lv i (j + 1) k) := hid (fun w4 la' lc' ma' mc' f4 xo => by
              have d4 := LV.out.fr' ((Fr.refl [] wr).drew.trans f4)
              have fa : Fr [] w4 (w4.alloc (.cells #[.int .i64 x.f.num, .int .i64 x.f.size, .slice la' x.f.least.length lc', .slice ma' x.f.most.length mc'] 62)) := (Fr.refl _ _).alloc _
              have d5 := d4.fr' fa
              have hb : W0.heap.size ≤ wr.drew.heap.size := LV.out.fr.size
              have xo' : XO W0.heap.size w4 x.f la' lc' ma' mc' := ⟨own_base9 xo.ol hb, own_base9 xo.om hb⟩
              obtain ⟨a6, c6, w6, q1, q2, q3, q4⟩ := d5.app1 hlt (x := ⟨x.f, la', lc', ma', mc'⟩) (xo'.fr fa) HBY.out (by omega) (blk_new _ _)
              rw [hkdi, hkli, hkci]
              refine ⟨a6, c6, w6, q1, d4.fr, d5.fr, q2, d4.cell hlt, d5.cell hlt, q3.1, q3.2, q4, fun k hk => ?_⟩
              rw [cpL_step HXF.out]
              by_cases ek : k = i
              · subst ek; rw [upA_same, upA_same, List.map_append, HM.out k hk]; rfl
              · rw [upA_ne _ _ ek, upA_ne _ _ ek]; exact HM.out k hk)
            clear hkdi hkli hkci
            refine wp_region_held_drew (S := fun w' => Fr [] W0 w') (by kernel_rfl) LV.out.fr.drew (fun hS => ?_)
            refine wpAnyH_take (i := 0) (v := .int .i64 (i : Int)) rfl (by kernel_rfl) (by kernel_rfl) (by kernel_rfl) (fun _ _ _ h => h) (.inl ⟨by kernel_rfl, fun wx _ => by go_simp⟩) hS ?_
            simp only [Act.put, List.getElem_toArray, List.getElem_cons_zero, List.set_cons_succ, List.set_cons_zero, List.setIfInBounds_toArray]
            refine wpAnyH_take (i := 1) (v := .int .i64 (i : Int)) rfl (by kernel_rfl) (by kernel_rfl) (by kernel_rfl) (fun _ _ _ h => h) (.inl ⟨by kernel_rfl, fun wx _ => by go_simp⟩) hS ?_
            simp only [Act.put, List.getElem_toArray, List.getElem_cons_succ, List.getElem_cons_zero, List.set_cons_succ, List.set_cons_zero, List.setIfInBounds_toArray]
            refine wpAnyH_take (i := 2) (v := .pointer (some ⟨K7, 3, none⟩)) rfl (by kernel_rfl) (by kernel_rfl) (by kernel_rfl) (fun _ _ _ h => h) (.inl ⟨by kernel_rfl, fun wx _ => by go_simp⟩) hS ?_
            simp only [Act.put, List.getElem_toArray, List.getElem_cons_succ, List.getElem_cons_zero, List.set_cons_succ, List.set_cons_zero, List.setIfInBounds_toArray]
            refine wpAnyH_take (i := 3) (v := .pointer (some ⟨K7, 3 + i, none⟩)) rfl (by kernel_rfl) (by kernel_rfl) (by kernel_rfl) (fun _ _ _ h => h) (.inl ⟨by kernel_rfl, fun wx _ => by go_simp⟩) hS ?_
            simp only [Act.put, List.getElem_toArray, List.getElem_cons_succ, List.getElem_cons_zero, List.set_cons_succ, List.set_cons_zero, List.setIfInBounds_toArray]
            refine wpAnyH_take (i := 5) (v := .int .i64 (i : Int)) rfl (by kernel_rfl) (by kernel_rfl) (by kernel_rfl) (fun _ _ _ h => h) (.inl ⟨by kernel_rfl, fun wx _ => by go_simp⟩) hS ?_
            simp only [Act.put, List.getElem_toArray, List.getElem_cons_succ, List.getElem_cons_zero, List.set_cons_succ, List.set_cons_zero, List.setIfInBounds_toArray]
            refine wpAnyH_take (i := 6) (v := .pointer (some ⟨w.heap.size, 3, none⟩)) rfl (by kernel_rfl) (by kernel_rfl) (by kernel_rfl) (fun _ _ _ h => h) (.inl ⟨by kernel_rfl, fun wx _ => by go_simp⟩) hS ?_
            simp only [Act.put, List.getElem_toArray, List.getElem_cons_succ, List.getElem_cons_zero, List.set_cons_succ, List.set_cons_zero, List.setIfInBounds_toArray]
            refine wpAnyH_take (i := 7) (v := .pointer (some ⟨w.heap.size, 3 + i, none⟩)) rfl (by kernel_rfl) (by kernel_rfl) (by kernel_rfl) (fun _ _ _ h => h) (.inl ⟨by kernel_rfl, fun wx _ => by go_simp⟩) hS ?_
            simp only [Act.put, List.getElem_toArray, List.getElem_cons_succ, List.getElem_cons_zero, List.set_cons_succ, List.set_cons_zero, List.setIfInBounds_toArray]
            refine wpAnyH_take (i := 8) (v := .slice (some ⟨b, off, none⟩) li ci) rfl (by kernel_rfl) (by kernel_rfl) (by kernel_rfl) (fun _ _ _ h => h) (.inl ⟨by kernel_rfl, fun wx hX => by have zc := CI.out wx hX; go_simp⟩) hS ?_
            simp only [Act.put, List.getElem_toArray, List.getElem_cons_succ, List.getElem_cons_zero, List.set_cons_succ, List.set_cons_zero, List.setIfInBounds_toArray]
            refine wpAnyH_take (i := 9) (v := .int .i64 (j : Int)) rfl (by kernel_rfl) (by kernel_rfl) (by kernel_rfl) (fun _ _ _ h => h) (.inl ⟨by kernel_rfl, fun wx _ => by go_simp⟩) hS ?_
            simp only [Act.put, List.getElem_toArray, List.getElem_cons_succ, List.getElem_cons_zero, List.set_cons_succ, List.set_cons_zero, List.setIfInBounds_toArray]
            refine wpAnyH_take (i := 10) (v := .pointer (some ⟨b, off + j * 4, none⟩)) rfl (by kernel_rfl) (by kernel_rfl) (by kernel_rfl) (fun _ _ _ h => h) (.inl ⟨by kernel_rfl, fun wx _ => by go_simp⟩) hS ?_
            simp only [Act.put, List.getElem_toArray, List.getElem_cons_succ, List.getElem_cons_zero, List.set_cons_succ, List.set_cons_zero, List.setIfInBounds_toArray]
            refine wpAnyH_take (i := 11) (v := .agg #[.int .i64 x.f.num, .int .i64 x.f.size, .slice x.la x.f.least.length x.lc, .slice x.ma x.f.most.length x.mc]) rfl (by kernel_rfl) (by kernel_rfl) (by kernel_rfl) (fun _ _ _ h => h) (.inl ⟨by kernel_rfl, fun wx hX => by obtain ⟨s0, s1, s2, s3⟩ := SK.out wx hX; go_simp⟩) hS ?_
            simp only [Act.put, List.getElem_toArray, List.getElem_cons_succ, List.getElem_cons_zero, List.set_cons_succ, List.set_cons_zero, List.setIfInBounds_toArray]
            refine wpAnyH_take (i := 15) (v := .pointer (some ⟨K7, 3, none⟩)) rfl (by kernel_rfl) (by kernel_rfl) (by kernel_rfl) (fun _ _ _ h => h) (.inl ⟨by kernel_rfl, fun wx _ => by go_simp⟩) hS ?_
            simp only [Act.put, List.getElem_toArray, List.getElem_cons_succ, List.getElem_cons_zero, List.set_cons_succ, List.set_cons_zero, List.setIfInBounds_toArray]
            clear hS
            refine wpAnyH_ready (rs := [4, 12]) (by kernel_rfl) (by simp) ?_
            refine AllReadyH.cons rfl (fun K hK => ?_) (AllReadyH.cons rfl (fun K hK => ?_) AllReadyH.nil)
            · go_simp
              refine hK.out _ _ LV.out.fr.drew (fun _ => ?_)
              clear hK K
              refine wpAnyH_ready (rs := [12]) (by kernel_rfl) (by simp) ?_
              refine AllReadyH.cons rfl (fun K hK => ?_) AllReadyH.nil
              go_simp
              refine (CP.out wr.drew (Fr.refl _ _).drew).mono ?_
              intro r w4 co
              obtain ⟨⟨la', lc', ma', mc', hr, xo⟩, f4⟩ := co
              subst hr
              have MM := hid (MK.out w4 la' lc' ma' mc' f4 xo)
              obtain ⟨a6, c6, w6, hrun, s4, s5, s6, z4, z5, z6, zf6, l6, hm6⟩ := MM.out
              have HR := hid hrun
              have S4 := hid s4
              have S5 := hid s5
              have S6 := hid s6
              have L6 := hid l6
              have HM6 := hid hm6
              refine hK.out _ _ S4.out (fun _ => ?_)
              clear hK K MM hrun s4 s5 s6 l6 hm6 xo f4
              refine wpAnyH_ready (rs := [13]) (by kernel_rfl) (by simp) ?_
              refine AllReadyH.cons rfl (fun K hK => ?_) AllReadyH.nil
              refine step_buildF rfl (.tmp 63) rfl (x := ⟨x.f, la', lc', ma', mc'⟩) (by first | (simp [Act.eval]; done) | simp [Act.eval, Act.put]) ?_
              refine hK.out _ _ S5.out (fun _ => ?_)
              clear hK K
              refine wpAnyH_ready (rs := [14]) (by kernel_rfl) (by simp) ?_
              refine AllReadyH.cons rfl (fun K hK => ?_) AllReadyH.nil
              refine step_appR rfl (.tmp 55) (.tmp 64) rfl (vs := .slice kdi kli kci) (vx := .slice (some ⟨w4.heap.size, 0, none⟩) 1 1) (by first | (simp [Act.eval]; done) | simp [Act.eval, Act.put]) (by first | (simp [Act.eval]; done) | simp [Act.eval, Act.put]) HR.out ?_
              refine hK.out _ _ S6.out (fun _ => ?_)
              clear hK K
              refine wpAnyH_ready (rs := [16]) (by kernel_rfl) (by simp) ?_
              refine AllReadyH.cons rfl (fun K hK => ?_) AllReadyH.nil
              go_simp
              refine hK.out _ _ S6.out (fun _ => ?_)
              clear hK K
              refine wpAnyH_ready (rs := [17]) (by kernel_rfl) (by simp) ?_
              refine AllReadyH.cons rfl (fun K hK => ?_) AllReadyH.nil
              go_simp
              refine hK.out _ _ L6.out.fr (fun _ => ?_)
              clear hK K
              refine wpAnyH_done (by kernel_rfl) ?_ _
              go_wp2_with fail
              go_roundw
              case rel => exact ⟨j + 1, _, _, _, _, by omega, by go_num, HM6.out, L6.out⟩
              case measure => simp [intOf]; omega
            · go_simp
              refine (CP.out wr.drew (Fr.refl _ _).drew).mono ?_
              intro r w4 co
              obtain ⟨⟨la', lc', ma', mc', hr, xo⟩, f4⟩ := co
              subst hr
              have MM := hid (MK.out w4 la' lc' ma' mc' f4 xo)
              obtain ⟨a6, c6, w6, hrun, s4, s5, s6, z4, z5, z6, zf6, l6, hm6⟩ := MM.out
              have HR := hid hrun
              have S4 := hid s4
              have S5 := hid s5
              have S6 := hid s6
              have L6 := hid l6
              have HM6 := hid hm6
              refine hK.out _ _ S4.out (fun _ => ?_)
              clear hK K MM hrun s4 s5 s6 l6 hm6 xo f4
              refine wpAnyH_ready (rs := [4, 13]) (by kernel_rfl) (by simp) ?_
              refine AllReadyH.cons rfl (fun K hK => ?_) (AllReadyH.cons rfl (fun K hK => ?_) AllReadyH.nil)
              · go_simp
                refine hK.out _ _ S4.out (fun _ => ?_)
                clear hK K
                refine wpAnyH_ready (rs := [13]) (by kernel_rfl) (by simp) ?_
                refine AllReadyH.cons rfl (fun K hK => ?_) AllReadyH.nil
                refine step_buildF rfl (.tmp 63) rfl (x := ⟨x.f, la', lc', ma', mc'⟩) (by first | (simp [Act.eval]; done) | simp [Act.eval, Act.put]) ?_
                refine hK.out _ _ S5.out (fun _ => ?_)
                clear hK K
                refine wpAnyH_ready (rs := [14]) (by kernel_rfl) (by simp) ?_
                refine AllReadyH.cons rfl (fun K hK => ?_) AllReadyH.nil
                refine step_appR rfl (.tmp 55) (.tmp 64) rfl (vs := .slice kdi kli kci) (vx := .slice (some ⟨w4.heap.size, 0, none⟩) 1 1) (by first | (simp [Act.eval]; done) | simp [Act.eval, Act.put]) (by first | (simp [Act.eval]; done) | simp [Act.eval, Act.put]) HR.out ?_
                refine hK.out _ _ S6.out (fun _ => ?_)
                clear hK K
                refine wpAnyH_ready (rs := [16]) (by kernel_rfl) (by simp) ?_
                refine AllReadyH.cons rfl (fun K hK => ?_) AllReadyH.nil
                go_simp
                refine hK.out _ _ S6.out (fun _ => ?_)
                clear hK K
                refine wpAnyH_ready (rs := [17]) (by kernel_rfl) (by simp) ?_
                refine AllReadyH.cons rfl (fun K hK => ?_) AllReadyH.nil
                go_simp
                refine hK.out _ _ L6.out.fr (fun _ => ?_)
                clear hK K
                refine wpAnyH_done (by kernel_rfl) ?_ _
                go_wp2_with fail
                go_roundw
                case rel => exact ⟨j + 1, _, _, _, _, by omega, by go_num, HM6.out, L6.out⟩
                case measure => simp [intOf]; omega
              · refine step_buildF rfl (.tmp 63) rfl (x := ⟨x.f, la', lc', ma', mc'⟩) (by first | (simp [Act.eval]; done) | simp [Act.eval, Act.put]) ?_
                refine hK.out _ _ S5.out (fun _ => ?_)
                clear hK K
                refine wpAnyH_ready (rs := [4]) (by kernel_rfl) (by simp) ?_
                refine AllReadyH.cons rfl (fun K hK => ?_) AllReadyH.nil
                go_simp
                refine hK.out _ _ S5.out (fun _ => ?_)
                clear hK K
                refine wpAnyH_ready (rs := [14]) (by kernel_rfl) (by simp) ?_
                refine AllReadyH.cons rfl (fun K hK => ?_) AllReadyH.nil
                refine step_appR rfl (.tmp 55) (.tmp 64) rfl (vs := .slice kdi kli kci) (vx := .slice (some ⟨w4.heap.size, 0, none⟩) 1 1) (by first | (simp [Act.eval]; done) | simp [Act.eval, Act.put]) (by first | (simp [Act.eval]; done) | simp [Act.eval, Act.put]) HR.out ?_
                refine hK.out _ _ S6.out (fun _ => ?_)
                clear hK K
                refine wpAnyH_ready (rs := [16]) (by kernel_rfl) (by simp) ?_
                refine AllReadyH.cons rfl (fun K hK => ?_) AllReadyH.nil
                go_simp
                refine hK.out _ _ S6.out (fun _ => ?_)
                clear hK K
                refine wpAnyH_ready (rs := [17]) (by kernel_rfl) (by simp) ?_
                refine AllReadyH.cons rfl (fun K hK => ?_) AllReadyH.nil
                go_simp
                refine hK.out _ _ L6.out.fr (fun _ => ?_)
                clear hK K
                refine wpAnyH_done (by kernel_rfl) ?_ _
                go_wp2_with fail
                go_roundw
                case rel => exact ⟨j + 1, _, _, _, _, by omega, by go_num, HM6.out, L6.out⟩
                case measure => simp [intOf]; omega
          · have hjn : j = li := by omega
            subst hjn
            have HM2 : Hid (∀ k, k < 5 → (Y k).map Fx.f = cpL v.lv (i + 1) 0 k) := hid (fun k hk => by rw [← cpL_end, ← HXi.out, List.length_map, ← HXN.out]; exact HM.out k hk)
            go_wp2_with fail
            go_roundw
            case rel => exact ⟨i + 1, Y, kd, kl, kc, by omega, by go_num, HM2.out, LV.out⟩
            case measure => simp [intOf]; omega
      · have hin : i = 5 := by omega
        have HM1 : Hid (∀ k, k < 5 → (Y k).map Fx.f = keptF (e.drop.take 0) v.lv k) := hid (fun k hk => by
          rw [HM.out k hk]
          unfold cpL keptF drF
          rw [if_pos (by omega)]
          refine (List.filter_eq_self.2 fun f _ => ?_).symm
          simp)
        clear HM
        go_wp2_with fail
        go_loopw [10] (fun v10 wr => ∃ (m : Nat) (Y : Nat → List Fx) (kd : Nat → Option Addr) (kl kc : Nat → Nat), m ≤ dl ∧ v10 = .int .i64 (m : Int) ∧ (∀ k, k < 5 → (Y k).map Fx.f = keptF (e.drop.take m) v.lv k) ∧ dcF (e.drop.take m) v.lv 5 = m ∧ LvV W0 wr K7 el en (es : Int) Y kd kl kc) (fun v10 _ => dl - (intOf v10).toNat)
        case atStart => exact ⟨0, _, _, _, _, by omega, rfl, HM1.out, by rw [List.take_zero]; exact dc_nil _ 5, LV.out⟩
        case round =>
          clear LV HM1 hin hlt hi
          obtain ⟨m, Y, kd, kl, kc, hm0, rfl, hm, hdc, hlv⟩ := hrel
          have LV := hid hlv
          have HM := hid hm
          have HDC := hid hdc
          clear hlv hm hdc
          obtain ⟨x0, x1, x2, x3, x4⟩ := ed5_cells (LV.out.fr.at B0.out.n1 (by simp))
          by_cases hml : m < dl
          · have hml' : (m : Int) < (dl : Int) := by omega
            obtain ⟨g, hg⟩ : ∃ g, e.drop[m]? = some g := ⟨_, List.getElem?_eq_getElem (by rw [← HDL.out]; exact hml)⟩
            have hg5 := HOD.out g (List.mem_of_getElem? hg)
            obtain ⟨da', dc', hda, hrd⟩ := HE.out.rd
            simp only [Value.slice.injEq] at hda
            obtain ⟨rfl, _, rfl⟩ := hda
            obtain ⟨b, off, hab, m1⟩ := hrd (by rw [← HDL.out]; omega)
            subst hab
            obtain ⟨c0, c1⟩ := m1 m g hg
            obtain ⟨g1, g2⟩ := g
            simp only at hg5 c0 c1
            obtain ⟨lv, hlv⟩ : ∃ lv : Nat, g1 = (lv : Int) := ⟨g1.toNat, by omega⟩
            subst hlv
            have HG := hid hg
            have lv5' : lv < 5 := by omega
            have y0 := cell_fr LV.out.fr c0
            have SK0 : Hid (∀ W, Fr [] W0 W → W.cell? ⟨w.heap.size + 1, 3, none⟩ = some (.slice (some ⟨b, off, none⟩) dl dc) ∧ W.cell? ⟨b, off + m * 2, none⟩ = some (.int .i64 (lv : Int)) ∧ W.cell? ⟨b, off + m * 2 + 1, none⟩ = some (.int .i64 g2)) := hid (fun W f => ⟨(ed5_cells (f.at B0.out.n1 (by simp))).2.2.2.1, cell_fr f c0, cell_fr f c1⟩)
            clear m1 hrd hg c0 c1
            have zk := LV.out.cell lv5'
            have HPL := hid (LV.out.place lv5')
            have hkl0 : kl lv ≤ 500 := by
              rw [LV.out.len lv lv5', ← List.length_map (f := Fx.f), HM.out lv lv5']
              unfold keptF
              exact Nat.le_trans (List.length_filter_le _ _) (HSL.out lv lv5')
            have HKL : Hid (kl lv = (Y lv).length) := hid (LV.out.len lv lv5')
            obtain ⟨ai, hai⟩ : ∃ ai, ai = kd lv := ⟨_, rfl⟩
            obtain ⟨li, hli⟩ : ∃ li, li = kl lv := ⟨_, rfl⟩
            obtain ⟨ci, hci⟩ : ∃ ci, ci = kc lv := ⟨_, rfl⟩
            have HAI := hid hai
            have HLI := hid hli
            have HCI := hid hci
            rw [← hai] at zk HPL
            rw [← hli] at zk HPL HKL hkl0
            rw [← hci] at zk
            clear hai hli hci
            go_upto_region 18 with fail
            go_wp2_with fail
            clear x0 x1 x2 x3 x4 y0 zk
            go_loopw [12, 13] (fun v12 v13 wr => ∃ (k : Nat) (q : Int), k ≤ li ∧ v12 = .int .i64 q ∧ v13 = .int .i64 (k : Int) ∧ ((q = -1 ∧ ∀ (j : Nat) (x : Fx), j < k → (Y lv)[j]? = some x → x.f.num ≠ g2) ∨ (∃ (j : Nat) (x : Fx), j < k ∧ q = (j : Int) ∧ (Y lv)[j]? = some x ∧ x.f.num = g2)) ∧ LvV W0 wr K7 el en (es : Int) Y kd kl kc) (fun _ v13 _ => li - (intOf v13).toNat)
            case atStart => exact ⟨0, -1, by omega, rfl, rfl, .inl ⟨rfl, fun j x hj => by omega⟩, LV.out⟩
            case round =>
              clear LV
              obtain ⟨k, q, hk, rfl, rfl, hq, hlv⟩ := hrel
              have LV := hid hlv
              have HQ := hid hq
              clear hlv hq
              by_cases hkl : k < li
              · have hkl' : (k : Int) < (li : Int) := by omega
                obtain ⟨gb, go, hga, h0⟩ := HPL.out (by omega)
                subst hga
                obtain ⟨x, hx⟩ : ∃ x, (Y lv)[k]? = some x := ⟨_, List.getElem?_eq_getElem (by rw [← HKL.out]; exact hkl)⟩
                have fa := LV.out.at4 lv5' h0 HAI.out.symm hx
                have HX := hid hx
                have SK : Hid (∀ W, Fr [] wr W → W.cell? ⟨gb, go + k * 4, none⟩ = some (.int .i64 x.f.num) ∧ W.cell? ⟨w.heap.size + 1, 3, none⟩ = some (.slice (some ⟨b, off, none⟩) dl dc) ∧ W.cell? ⟨b, off + m * 2, none⟩ = some (.int .i64 (lv : Int)) ∧ W.cell? ⟨b, off + m * 2 + 1, none⟩ = some (.int .i64 g2)) := hid (fun W f => ⟨cell_fr f fa.c0, SK0.out W (LV.out.fr.trans f)⟩)
                clear fa hx h0
                go_upto_region 22 with fail
                go_cut [101] from 90 to 100 (fun v101 W => v101 = .bool (x.f.num == g2) ∧ Fr [] wr W)
                case first =>
                  clear HM HDC HQ HX HC0 HO HOD HND HOA HXM VX0 HSM HSL HE HVE HDL HAL HG HPL HKL HAI HLI HCI SK0 LV B0
                  refine wp_region_held_drew (S := fun w' => Fr [] wr w') (by kernel_rfl) (Fr.refl [] wr).drew (fun hS => ?_)
                  refine wpAnyH_take (i := 0) (v := .slice (some ⟨gb, go, none⟩) li ci) rfl (by kernel_rfl) (by kernel_rfl) (by kernel_rfl) (fun _ _ _ h => h) (.inl ⟨by kernel_rfl, fun wx _ => by go_simp⟩) hS ?_
                  simp only [Act.put, List.getElem_toArray, List.getElem_cons_zero, List.set_cons_succ, List.set_cons_zero, List.setIfInBounds_toArray]
                  refine wpAnyH_take (i := 1) (v := .int .i64 (k : Int)) rfl (by kernel_rfl) (by kernel_rfl) (by kernel_rfl) (fun _ _ _ h => h) (.inl ⟨by kernel_rfl, fun wx _ => by go_simp⟩) hS ?_
                  simp only [Act.put, List.getElem_toArray, List.getElem_cons_succ, List.getElem_cons_zero, List.set_cons_succ, List.set_cons_zero, List.setIfInBounds_toArray]
                  refine wpAnyH_take (i := 2) (v := .pointer (some ⟨gb, go + k * 4, none⟩)) rfl (by kernel_rfl) (by kernel_rfl) (by kernel_rfl) (fun _ _ _ h => h) (.inl ⟨by kernel_rfl, fun wx _ => by go_simp⟩) hS ?_
                  simp only [Act.put, List.getElem_toArray, List.getElem_cons_succ, List.getElem_cons_zero, List.set_cons_succ, List.set_cons_zero, List.setIfInBounds_toArray]
                  refine wpAnyH_take (i := 3) (v := .pointer (some ⟨gb, go + k * 4, none⟩)) rfl (by kernel_rfl) (by kernel_rfl) (by kernel_rfl) (fun _ _ _ h => h) (.inl ⟨by kernel_rfl, fun wx _ => by go_simp⟩) hS ?_
                  simp only [Act.put, List.getElem_toArray, List.getElem_cons_succ, List.getElem_cons_zero, List.set_cons_succ, List.set_cons_zero, List.setIfInBounds_toArray]
                  refine wpAnyH_take (i := 4) (v := .int .i64 x.f.num) rfl (by kernel_rfl) (by kernel_rfl) (by kernel_rfl) (fun _ _ _ h => h) (.inl ⟨by kernel_rfl, fun wx hX => by obtain ⟨s0, s1, s2, s3⟩ := SK.out wx hX; go_simp⟩) hS ?_
                  simp only [Act.put, List.getElem_toArray, List.getElem_cons_succ, List.getElem_cons_zero, List.set_cons_succ, List.set_cons_zero, List.setIfInBounds_toArray]
                  refine wpAnyH_take (i := 5) (v := .pointer (some ⟨w.heap.size + 1, 3, none⟩)) rfl (by kernel_rfl) (by kernel_rfl) (by kernel_rfl) (fun _ _ _ h => h) (.inl ⟨by kernel_rfl, fun wx _ => by go_simp⟩) hS ?_
                  simp only [Act.put, List.getElem_toArray, List.getElem_cons_succ, List.getElem_cons_zero, List.set_cons_succ, List.set_cons_zero, List.setIfInBounds_toArray]
                  refine wpAnyH_take (i := 6) (v := .slice (some ⟨b, off, none⟩) dl dc) rfl (by kernel_rfl) (by kernel_rfl) (by kernel_rfl) (fun _ _ _ h => h) (.inl ⟨by kernel_rfl, fun wx hX => by obtain ⟨s0, s1, s2, s3⟩ := SK.out wx hX; go_simp⟩) hS ?_
                  simp only [Act.put, List.getElem_toArray, List.getElem_cons_succ, List.getElem_cons_zero, List.set_cons_succ, List.set_cons_zero, List.setIfInBounds_toArray]
                  refine wpAnyH_take (i := 7) (v := .int .i64 (m : Int)) rfl (by kernel_rfl) (by kernel_rfl) (by kernel_rfl) (fun _ _ _ h => h) (.inl ⟨by kernel_rfl, fun wx _ => by go_simp⟩) hS ?_
                  simp only [Act.put, List.getElem_toArray, List.getElem_cons_succ, List.getElem_cons_zero, List.set_cons_succ, List.set_cons_zero, List.setIfInBounds_toArray]
                  refine wpAnyH_take (i := 8) (v := .pointer (some ⟨b, off + m * 2, none⟩)) rfl (by kernel_rfl) (by kernel_rfl) (by kernel_rfl) (fun _ _ _ h => h) (.inl ⟨by kernel_rfl, fun wx _ => by go_simp⟩) hS ?_
                  simp only [Act.put, List.getElem_toArray, List.getElem_cons_succ, List.getElem_cons_zero, List.set_cons_succ, List.set_cons_zero, List.setIfInBounds_toArray]
                  refine wpAnyH_take (i := 9) (v := .pointer (some ⟨b, off + m * 2 + 1, none⟩)) rfl (by kernel_rfl) (by kernel_rfl) (by kernel_rfl) (fun _ _ _ h => h) (.inl ⟨by kernel_rfl, fun wx _ => by go_simp⟩) hS ?_
                  simp only [Act.put, List.getElem_toArray, List.getElem_cons_succ, List.getElem_cons_zero, List.set_cons_succ, List.set_cons_zero, List.setIfInBounds_toArray]
                  refine wpAnyH_take (i := 10) (v := .int .i64 g2) rfl (by kernel_rfl) (by kernel_rfl) (by kernel_rfl) (fun _ _ _ h => h) (.inl ⟨by kernel_rfl, fun wx hX => by obtain ⟨s0, s1, s2, s3⟩ := SK.out wx hX; go_simp⟩) hS ?_
                  simp only [Act.put, List.getElem_toArray, List.getElem_cons_succ, List.getElem_cons_zero, List.set_cons_succ, List.set_cons_zero, List.setIfInBounds_toArray]
                  refine wpAnyH_take (i := 11) (v := .bool (x.f.num == g2)) rfl (by kernel_rfl) (by kernel_rfl) (by kernel_rfl) (fun _ _ _ h => h) (.inl ⟨by kernel_rfl, fun wx _ => by go_simp⟩) hS ?_
                  simp only [Act.put, List.getElem_toArray, List.getElem_cons_succ, List.getElem_cons_zero, List.set_cons_succ, List.set_cons_zero, List.setIfInBounds_toArray]
                  clear hS
                  refine wpAnyH_done (by kernel_rfl) ?_ _
                  go_wp2
                  go_meet
                  case rel => exact ⟨rfl, (Fr.refl [] wr).drew⟩
                case rest =>
                obtain ⟨rfl, f22⟩ := hcut
                have L2 := hid (LV.out.fr' f22)
                clear f22 SK LV
                by_cases hxg : x.f.num = g2
                · have hxe : (x.f.num == g2) = true := by simpa using hxg
                  have HXG := hid hxg
                  rw [hxe]
                  clear hxg hxe
                  go_wp2_with fail
                  go_roundw
                  case rel => exact ⟨k + 1, (k : Int), by omega, rfl, by go_num, .inr ⟨k, x, by omega, rfl, HX.out, HXG.out⟩, L2.out⟩
                  case measure => simp [intOf]; omega
                · have hxe : (x.f.num == g2) = false := by simpa using hxg
                  have HXG := hid hxg
                  rw [hxe]
                  clear hxg hxe
                  go_wp2_with fail
                  go_roundw
                  case rel =>
                    refine ⟨k + 1, q, by omega, rfl, by go_num, ?_, L2.out⟩
                    rcases HQ.out with ⟨h1, h2⟩ | ⟨j, y, h1, h2, h3, h4⟩
                    · refine .inl ⟨h1, fun j y hj hy => ?_⟩
                      by_cases ej : j = k
                      · subst ej
                        have := HX.out
                        rw [hy] at this
                        cases this
                        exact HXG.out
                      · exact h2 j y (by omega) hy
                    · exact .inr ⟨j, y, by omega, h2, h3, h4⟩
                  case measure => simp [intOf]; omega
              · have hkn : k = li := by omega
                subst hkn
                rcases HQ.out with ⟨hq1, hq2⟩ | ⟨j, x, hj, hq1, hxj, hxn⟩
                · subst hq1
                  have HQ2 := hid hq2
                  clear hq2 HQ
                  have HERR : Hid (errA v e 91) := hid (.inl ⟨dc_short HND.out HOD.out HG.out HDC.out (by
                    have e1 : ((lv : Int), g2).1.toNat = lv := by simp
                    rw [e1]
                    intro f hf
                    rw [← HM.out lv lv5'] at hf
                    obtain ⟨y, hy, rfl⟩ := List.mem_map.1 hf
                    obtain ⟨j, hj⟩ := List.getElem?_of_mem hy
                    exact HQ2.out j y (by rw [HKL.out]; exact (List.getElem?_eq_some_iff.1 hj).1) hj), rfl⟩)
                  have B4 := hid (B0.out.fr' LV.out.fr)
                  clear HM HDC HOD HND HOA HPL HAI HLI HCI SK0
                  obtain ⟨q0, q1, q2, q3, q4, q5, q6, q7⟩ := vn_cells B4.out.n2
                  have qf0 := blk_frozen B4.out.n2 0
                  have qf1 := blk_frozen B4.out.n2 1
                  have qf2 := blk_frozen B4.out.n2 2
                  have qf3 := blk_frozen B4.out.n2 3
                  have qf4 := blk_frozen B4.out.n2 4
                  have qf5 := blk_frozen B4.out.n2 5
                  have qf6 := blk_frozen B4.out.n2 6
                  have qf7 := blk_frozen B4.out.n2 7
                  go_wp2_with fail
                  refine bodyPost_ret (ret_ct9 rfl (g := w.heap.size + 1 + 1) (by simp) (load46k (by rw [blk_set (blk_set (blk_set (blk_set (blk_set (blk_set (blk_set (blk_set B4.out.n2 0 _) 1 _) 2 _) 3 _) 4 _) 5 _) 6 _) 7 _]; rfl))) rfl ?_
                  exact ⟨(((((((B4.out.fr.set _ _ (.inr (by omega))).set _ _ (.inr (by omega))).set _ _ (.inr (by omega))).set _ _ (.inr (by omega))).set _ _ (.inr (by omega))).set _ _ (.inr (by omega))).set _ _ (.inr (by omega))).set _ _ (.inr (by omega)), .inr (.inr ⟨HC0.out, HO.out, .inl ⟨91, HERR.out, by omega, rfl⟩⟩)⟩
                · subst hq1
                  have HJ := hid hxj
                  have HN := hid hxn
                  clear hxj hxn HQ
                  obtain ⟨gb, go, hga, h0⟩ := HPL.out (by omega)
                  subst hga
                  obtain ⟨A, hA, hA2⟩ : ∃ A : Addr, (if ci = j + 1 then some (⟨gb, go, none⟩ : Addr) else some ⟨gb, go + (j + 1) * 4, none⟩) = some A ∧ (j + 1 < k → A = ⟨gb, (j + 1) * 4, none⟩) := by
                    have hle : k ≤ ci := by
                      rcases (LV.out.own lv lv5').row with ⟨q1, _⟩ | ⟨g', cur, q1, q2, q3, q4, _⟩
                      · rw [← HAI.out] at q1; cases q1
                      · rw [HLI.out, HCI.out]; exact q4
                    by_cases h : ci = j + 1
                    · exact ⟨_, if_pos h, fun h2 => by omega⟩
                    · exact ⟨_, if_neg h, fun _ => by rw [h0, Nat.zero_add]⟩
                  have hci1 : k ≤ ci := by
                    rcases (LV.out.own lv lv5').row with ⟨q1, _⟩ | ⟨g', cur, q1, q2, q3, q4, _⟩
                    · rw [← HAI.out] at q1; cases q1
                    · rw [HLI.out, HCI.out]; exact q4
                  have MK : Hid (∃ a6 c6 w6, (Builtin.append_ #[25, 25] 25 #[.slice (some ⟨gb, go, none⟩) j j, .slice (some A) (k - (j + 1)) (ci - (j + 1))]).run Tryz.prog wr.drew = .ok (.slice a6 (k - 1) c6) w6 ∧ Fr [] W0 w6 ∧ w6.cell? ⟨K7, 3 + lv, none⟩ = some (.slice (some ⟨gb, go, none⟩) k ci) ∧ w6.frozen? ⟨K7, 3 + lv, none⟩ = false ∧ LvV W0 (w6.setCell ⟨K7, 3 + lv, none⟩ (.slice a6 (k - 1) c6)) K7 el en (es : Int) (upA Y lv ((Y lv).take j ++ (Y lv).drop (j + 1))) (upA kd lv a6) (upA kl lv (k - 1)) (upA kc lv c6)) := hid (by
                    obtain ⟨a6, c6, w6, q1, q2, q3, q4⟩ := (LV.out.fr' (Fr.refl [] wr).drew).del1 lv5' HAI.out.symm (k := j) (by rw [← HLI.out]; exact hj) (A := A) (c2 := ci - (j + 1)) (by rw [← HLI.out]; exact hA2) (by rw [← HLI.out]; omega)
                    rw [← HLI.out, ← HCI.out, ← HAI.out] at q3
                    rw [← HLI.out] at q1 q4
                    exact ⟨a6, c6, w6, q1, q2, q3.1, q3.2, q4⟩)
                  obtain ⟨a6, c6, w6, hrun, s6, z6, zf6, l6⟩ := MK.out
                  have HR := hid hrun
                  have S6 := hid s6
                  have L6 := hid l6
                  have HM6 : Hid (∀ n, n < 5 → ((upA Y lv ((Y lv).take j ++ (Y lv).drop (j + 1))) n).map Fx.f = keptF (e.drop.take (m + 1)) v.lv n) := hid (fun n hn => by
                    have h3 : e.drop.take (m + 1) = e.drop.take m ++ [((lv : Int), g2)] := by rw [List.take_add_one, HG.out]; rfl
                    rw [h3]
                    by_cases en' : n = lv
                    · subst en'
                      rw [upA_same, kept_this (k := j) (f := x.f) rfl (HND.out n hn) (by rw [← HM.out n hn, List.getElem?_map, HJ.out]; rfl) HN.out, ← HM.out n hn, List.map_append, List.map_take, List.map_drop]
                    · rw [upA_ne _ _ en', kept_other (by show ((n : Nat) : Int) ≠ (lv : Int); omega)]
                      exact HM.out n hn)
                  have HDC6 : Hid (dcF (e.drop.take (m + 1)) v.lv 5 = m + 1) := hid (dc_step HND.out (g := ((lv : Int), g2)) (HOD.out _ (List.mem_of_getElem? HG.out)) HG.out HDC.out (f := x.f) (by
                    have e1 : ((lv : Int), g2).1.toNat = lv := by simp
                    rw [e1, ← HM.out lv lv5']
                    exact List.mem_map_of_mem (List.mem_of_getElem? HJ.out)) HN.out)
                  have SK : Hid (∀ W, Fr [] W0 W → W.cell? ⟨w.heap.size + 1, 3, none⟩ = some (.slice (some ⟨b, off, none⟩) dl dc) ∧ W.cell? ⟨b, off + m * 2, none⟩ = some (.int .i64 (lv : Int))) := hid (fun W f => ⟨(SK0.out W f).1, (SK0.out W f).2.1⟩)
                  have hj0 : ¬ (j : Int) < 0 := by omega
                  have hj1 : j ≤ k := by omega
                  have hj2 : (j : Int) + 1 ≤ (k : Int) := by omega
                  have hj3 : (j : Int) ≤ (ci : Int) := by omega
                  have hj4 : j ≤ ci := by omega
                  have hj5 : IntKind.i64.wrap ((j : Int) + 1) = (j : Int) + 1 := by rw [IntKind.wrap_i64]; omega
                  have hj6 : ¬ (j : Int) + 1 < 0 := by omega
                  have hj7 : j + 1 ≤ k := by omega
                  have hj8 : ¬ (k : Int) < (j : Int) + 1 := by omega
                  have hj9 : ¬ (ci : Int) < (j : Int) := by omega
                  clear hrun s6 l6 MK HM HDC HJ HN SK0 hA2 h0
                  go_upto_region 26 with fail
                  refine wp_region_held_drew (S := fun w' => Fr [] W0 w') (by kernel_rfl) LV.out.fr.drew (fun hS => ?_)
                  refine wpAnyH_take (i := 0) (v := .pointer (some ⟨w.heap.size + 1, 3, none⟩)) rfl (by kernel_rfl) (by kernel_rfl) (by kernel_rfl) (fun _ _ _ h => h) (.inl ⟨by kernel_rfl, fun wx _ => by go_simp⟩) hS ?_
                  simp only [Act.put, List.getElem_toArray, List.getElem_cons_zero, List.set_cons_succ, List.set_cons_zero, List.setIfInBounds_toArray]
                  refine wpAnyH_take (i := 1) (v := .slice (some ⟨b, off, none⟩) dl dc) rfl (by kernel_rfl) (by kernel_rfl) (by kernel_rfl) (fun _ _ _ h => h) (.inl ⟨by kernel_rfl, fun wx hX => by obtain ⟨s0, s1⟩ := SK.out wx hX; go_simp⟩) hS ?_
                  simp only [Act.put, List.getElem_toArray, List.getElem_cons_succ, List.getElem_cons_zero, List.set_cons_succ, List.set_cons_zero, List.setIfInBounds_toArray]
                  refine wpAnyH_take (i := 2) (v := .int .i64 (m : Int)) rfl (by kernel_rfl) (by kernel_rfl) (by kernel_rfl) (fun _ _ _ h => h) (.inl ⟨by kernel_rfl, fun wx _ => by go_simp⟩) hS ?_
                  simp only [Act.put, List.getElem_toArray, List.getElem_cons_succ, List.getElem_cons_zero, List.set_cons_succ, List.set_cons_zero, List.setIfInBounds_toArray]
                  refine wpAnyH_take (i := 3) (v := .pointer (some ⟨b, off + m * 2, none⟩)) rfl (by kernel_rfl) (by kernel_rfl) (by kernel_rfl) (fun _ _ _ h => h) (.inl ⟨by kernel_rfl, fun wx _ => by go_simp⟩) hS ?_
                  simp only [Act.put, List.getElem_toArray, List.getElem_cons_succ, List.getElem_cons_zero, List.set_cons_succ, List.set_cons_zero, List.setIfInBounds_toArray]
                  refine wpAnyH_take (i := 4) (v := .pointer (some ⟨b, off + m * 2, none⟩)) rfl (by kernel_rfl) (by kernel_rfl) (by kernel_rfl) (fun _ _ _ h => h) (.inl ⟨by kernel_rfl, fun wx _ => by go_simp⟩) hS ?_
                  simp only [Act.put, List.getElem_toArray, List.getElem_cons_succ, List.getElem_cons_zero, List.set_cons_succ, List.set_cons_zero, List.setIfInBounds_toArray]
                  refine wpAnyH_take (i := 5) (v := .int .i64 (lv : Int)) rfl (by kernel_rfl) (by kernel_rfl) (by kernel_rfl) (fun _ _ _ h => h) (.inl ⟨by kernel_rfl, fun wx hX => by obtain ⟨s0, s1⟩ := SK.out wx hX; go_simp⟩) hS ?_
                  simp only [Act.put, List.getElem_toArray, List.getElem_cons_succ, List.getElem_cons_zero, List.set_cons_succ, List.set_cons_zero, List.setIfInBounds_toArray]
                  refine wpAnyH_take (i := 6) (v := .slice (some ⟨gb, go, none⟩) k ci) rfl (by kernel_rfl) (by kernel_rfl) (by kernel_rfl) (fun _ _ _ h => h) (.inl ⟨by kernel_rfl, fun wx _ => by go_simp⟩) hS ?_
                  simp only [Act.put, List.getElem_toArray, List.getElem_cons_succ, List.getElem_cons_zero, List.set_cons_succ, List.set_cons_zero, List.setIfInBounds_toArray]
                  refine wpAnyH_take (i := 7) (v := .int .i64 (j : Int)) rfl (by kernel_rfl) (by kernel_rfl) (by kernel_rfl) (fun _ _ _ h => h) (.inl ⟨by kernel_rfl, fun wx _ => by go_simp⟩) hS ?_
                  simp only [Act.put, List.getElem_toArray, List.getElem_cons_succ, List.getElem_cons_zero, List.set_cons_succ, List.set_cons_zero, List.setIfInBounds_toArray]
                  refine wpAnyH_take (i := 8) (v := .int .i64 (j : Int)) rfl (by kernel_rfl) (by kernel_rfl) (by kernel_rfl) (fun _ _ _ h => h) (.inl ⟨by kernel_rfl, fun wx _ => by go_simp⟩) hS ?_
                  simp only [Act.put, List.getElem_toArray, List.getElem_cons_succ, List.getElem_cons_zero, List.set_cons_succ, List.set_cons_zero, List.setIfInBounds_toArray]
                  refine wpAnyH_take (i := 9) (v := .slice (some ⟨gb, go, none⟩) j j) rfl (by kernel_rfl) (by kernel_rfl) (by kernel_rfl) (fun _ _ _ h => h) (.inl ⟨by kernel_rfl, fun wx _ => by go_simp⟩) hS ?_
                  simp only [Act.put, List.getElem_toArray, List.getElem_cons_succ, List.getElem_cons_zero, List.set_cons_succ, List.set_cons_zero, List.setIfInBounds_toArray]
                  refine wpAnyH_take (i := 10) (v := .slice (some ⟨gb, go, none⟩) k ci) rfl (by kernel_rfl) (by kernel_rfl) (by kernel_rfl) (fun _ _ _ h => h) (.inl ⟨by kernel_rfl, fun wx _ => by go_simp⟩) hS ?_
                  simp only [Act.put, List.getElem_toArray, List.getElem_cons_succ, List.getElem_cons_zero, List.set_cons_succ, List.set_cons_zero, List.setIfInBounds_toArray]
                  refine wpAnyH_take (i := 11) (v := .int .i64 (j : Int)) rfl (by kernel_rfl) (by kernel_rfl) (by kernel_rfl) (fun _ _ _ h => h) (.inl ⟨by kernel_rfl, fun wx _ => by go_simp⟩) hS ?_
                  simp only [Act.put, List.getElem_toArray, List.getElem_cons_succ, List.getElem_cons_zero, List.set_cons_succ, List.set_cons_zero, List.setIfInBounds_toArray]
                  refine wpAnyH_take (i := 12) (v := .int .i64 ((j : Int) + 1)) rfl (by kernel_rfl) (by kernel_rfl) (by kernel_rfl) (fun _ _ _ h => h) (.inl ⟨by kernel_rfl, fun wx _ => by go_simp⟩) hS ?_
                  simp only [Act.put, List.getElem_toArray, List.getElem_cons_succ, List.getElem_cons_zero, List.set_cons_succ, List.set_cons_zero, List.setIfInBounds_toArray]
                  refine wpAnyH_take (i := 13) (v := .slice (some A) (k - (j + 1)) (ci - (j + 1))) rfl (by kernel_rfl) (by kernel_rfl) (by kernel_rfl) (fun _ _ _ h => h) (.inl ⟨by kernel_rfl, fun wx _ => by go_simp⟩) hS ?_
                  simp only [Act.put, List.getElem_toArray, List.getElem_cons_succ, List.getElem_cons_zero, List.set_cons_succ, List.set_cons_zero, List.setIfInBounds_toArray]
                  refine wpAnyH_take (i := 15) (v := .pointer (some ⟨K7, 3, none⟩)) rfl (by kernel_rfl) (by kernel_rfl) (by kernel_rfl) (fun _ _ _ h => h) (.inl ⟨by kernel_rfl, fun wx _ => by go_simp⟩) hS ?_
                  simp only [Act.put, List.getElem_toArray, List.getElem_cons_succ, List.getElem_cons_zero, List.set_cons_succ, List.set_cons_zero, List.setIfInBounds_toArray]
                  clear hS
                  refine wpAnyH_ready (rs := [14]) (by kernel_rfl) (by simp) ?_
                  refine AllReadyH.cons rfl (fun K hK => ?_) AllReadyH.nil
                  refine step_appR rfl (.tmp 115) (.tmp 119) rfl (vs := .slice (some ⟨gb, go, none⟩) j j) (vx := .slice (some A) (k - (j + 1)) (ci - (j + 1))) (by first | (simp [Act.eval]; done) | simp [Act.eval, Act.put]) (by first | (simp [Act.eval]; done) | simp [Act.eval, Act.put]) HR.out ?_
                  refine hK.out _ _ S6.out (fun _ => ?_)
                  clear hK K
                  refine wpAnyH_ready (rs := [16]) (by kernel_rfl) (by simp) ?_
                  refine AllReadyH.cons rfl (fun K hK => ?_) AllReadyH.nil
                  go_simp
                  refine hK.out _ _ S6.out (fun _ => ?_)
                  clear hK K
                  refine wpAnyH_ready (rs := [17]) (by kernel_rfl) (by simp) ?_
                  refine AllReadyH.cons rfl (fun K hK => ?_) AllReadyH.nil
                  go_simp
                  refine hK.out _ _ L6.out.fr (fun _ => ?_)
                  clear hK K
                  refine wpAnyH_done (by kernel_rfl) ?_ _
                  go_wp2_with fail
                  go_roundw
                  case rel => exact ⟨m + 1, _, _, _, _, by omega, by go_num, HM6.out, HDC6.out, L6.out⟩
                  case measure => simp [intOf]; omega
          · have hmn : m = dl := by omega
            subst hmn
            have HM2 : Hid (∀ k, k < 5 → (Y k).map Fx.f = keptF e.drop v.lv k) := hid (fun k hk => by have := HM.out k hk; rw [HDL.out, List.take_length] at this; exact this)
            have HDC2 : Hid (dcF e.drop v.lv 5 = e.drop.length) := hid (by have := HDC.out; rw [HDL.out, List.take_length] at this; exact this)
            clear HM HDC
            obtain ⟨z0, z1, z2, z3, z4, z5, z6, z7⟩ := vn_cells (LV.out.fr.at B0.out.n0 (by simp))
            have B4 := hid (B0.out.fr' LV.out.fr)
            by_cases hbk : el < vl ∨ en < vn ∨ es < vs
            · have HERR : Hid (errA v e 94) := hid (.inr (.inl ⟨HDC2.out, by obtain ⟨⟨q1, q2, q3⟩, q4, q5, q6⟩ := HVE.out; unfold backE; rw [← q1, ← q2, ← q3, ← q4, ← q5, ← q6]; exact hbk, rfl⟩))
              have hc : el < vl ∨ (vl ≤ el ∧ en < vn) ∨ (vl ≤ el ∧ vn ≤ en ∧ (es : Int) < (vs : Int)) := by omega
              clear hbk HM2 HDC2 HOD HND HOA HXM VX0 HSM HSL HE LV
              rcases hc with h1 | ⟨h1, h2⟩ | ⟨h1, h2, h3⟩
              · obtain ⟨q0, q1, q2, q3, q4, q5, q6, q7⟩ := vn_cells B4.out.n2
                have qf0 := blk_frozen B4.out.n2 0
                have qf1 := blk_frozen B4.out.n2 1
                have qf2 := blk_frozen B4.out.n2 2
                have qf3 := blk_frozen B4.out.n2 3
                have qf4 := blk_frozen B4.out.n2 4
                have qf5 := blk_frozen B4.out.n2 5
                have qf6 := blk_frozen B4.out.n2 6
                have qf7 := blk_frozen B4.out.n2 7
                go_wp2_with fail
                refine bodyPost_ret (ret_ct9 rfl (g := w.heap.size + 1 + 1) (by simp) (load46k (by rw [blk_set (blk_set (blk_set (blk_set (blk_set (blk_set (blk_set (blk_set B4.out.n2 0 _) 1 _) 2 _) 3 _) 4 _) 5 _) 6 _) 7 _]; rfl))) rfl ?_
                exact ⟨(((((((B4.out.fr.set _ _ (.inr (by omega))).set _ _ (.inr (by omega))).set _ _ (.inr (by omega))).set _ _ (.inr (by omega))).set _ _ (.inr (by omega))).set _ _ (.inr (by omega))).set _ _ (.inr (by omega))).set _ _ (.inr (by omega)), .inr (.inr ⟨HC0.out, HO.out, .inl ⟨94, HERR.out, by omega, rfl⟩⟩)⟩
              · obtain ⟨q0, q1, q2, q3, q4, q5, q6, q7⟩ := vn_cells B4.out.n2
                have qf0 := blk_frozen B4.out.n2 0
                have qf1 := blk_frozen B4.out.n2 1
                have qf2 := blk_frozen B4.out.n2 2
                have qf3 := blk_frozen B4.out.n2 3
                have qf4 := blk_frozen B4.out.n2 4
                have qf5 := blk_frozen B4.out.n2 5
                have qf6 := blk_frozen B4.out.n2 6
                have qf7 := blk_frozen B4.out.n2 7
                go_wp2_with fail
                refine bodyPost_ret (ret_ct9 rfl (g := w.heap.size + 1 + 1) (by simp) (load46k (by rw [blk_set (blk_set (blk_set (blk_set (blk_set (blk_set (blk_set (blk_set B4.out.n2 0 _) 1 _) 2 _) 3 _) 4 _) 5 _) 6 _) 7 _]; rfl))) rfl ?_
                exact ⟨(((((((B4.out.fr.set _ _ (.inr (by omega))).set _ _ (.inr (by omega))).set _ _ (.inr (by omega))).set _ _ (.inr (by omega))).set _ _ (.inr (by omega))).set _ _ (.inr (by omega))).set _ _ (.inr (by omega))).set _ _ (.inr (by omega)), .inr (.inr ⟨HC0.out, HO.out, .inl ⟨94, HERR.out, by omega, rfl⟩⟩)⟩
              · obtain ⟨q0, q1, q2, q3, q4, q5, q6, q7⟩ := vn_cells B4.out.n2
                have qf0 := blk_frozen B4.out.n2 0
                have qf1 := blk_frozen B4.out.n2 1
                have qf2 := blk_frozen B4.out.n2 2
                have qf3 := blk_frozen B4.out.n2 3
                have qf4 := blk_frozen B4.out.n2 4
                have qf5 := blk_frozen B4.out.n2 5
                have qf6 := blk_frozen B4.out.n2 6
                have qf7 := blk_frozen B4.out.n2 7
                go_wp2_with fail
                refine bodyPost_ret (ret_ct9 rfl (g := w.heap.size + 1 + 1) (by simp) (load46k (by rw [blk_set (blk_set (blk_set (blk_set (blk_set (blk_set (blk_set (blk_set B4.out.n2 0 _) 1 _) 2 _) 3 _) 4 _) 5 _) 6 _) 7 _]; rfl))) rfl ?_
                exact ⟨(((((((B4.out.fr.set _ _ (.inr (by omega))).set _ _ (.inr (by omega))).set _ _ (.inr (by omega))).set _ _ (.inr (by omega))).set _ _ (.inr (by omega))).set _ _ (.inr (by omega))).set _ _ (.inr (by omega))).set _ _ (.inr (by omega)), .inr (.inr ⟨HC0.out, HO.out, .inl ⟨94, HERR.out, by omega, rfl⟩⟩)⟩
            · have HBK : Hid (¬ backE v e) := hid (by obtain ⟨⟨q1, q2, q3⟩, q4, q5, q6⟩ := HVE.out; unfold backE; rw [← q1, ← q2, ← q3, ← q4, ← q5, ← q6]; exact hbk)
              have h1 : ¬ el < vl := by omega
              have h2 : ¬ en < vn := by omega
              have h3 : ¬ (es : Int) < (vs : Int) := by omega
              clear hbk
              obtain ⟨qs, hqs1, hqs2, hqs3⟩ := HE.out.ra.rx rfl (List.all_eq_true.2 HOA.out)
              rw [← HAL.out] at hqs2
              have HQ1 := hid hqs1
              have HQ2 := hid hqs2
              have HQ3 := hid hqs3
              have HP0 : Hid (∀ p ∈ e.add, 0 ≤ p.1) := hid (fun p hp => by
                have h := HOA.out p hp
                unfold okA at h
                simp only [Bool.and_eq_true] at h
                exact (okV_iff.1 h.1).1)
              have HINS : Hid (∀ m i, (insA (keptF e.drop (lv5 v.lv)) (e.add.take m) i).length ≤ 950) := hid (fun m i => by
                have h1 := (insA_comes (e.add.take m) (keptF e.drop (lv5 v.lv)) (fun p hp => HP0.out p (List.mem_of_mem_take hp)) (kept5_sort HC0.out e.drop) i).1.length_eq
                have h2 := kept5_len e.drop v.lv i HSL.out
                have h3 := addF_len (e.add.take m) i
                rw [List.length_append] at h1
                rw [List.length_take] at h3
                have := HAL.out
                omega)
              have HOKI : Hid (∀ m i, i < 5 → ∀ f ∈ insA (keptF e.drop (lv5 v.lv)) (e.add.take m) i, okF f = true) := hid (fun m i hi f hf => by
                have h1 := (insA_comes (e.add.take m) (keptF e.drop (lv5 v.lv)) (fun p hp => HP0.out p (List.mem_of_mem_take hp)) (kept5_sort HC0.out e.drop) i).1.mem_iff.1 hf
                rcases List.mem_append.1 h1 with h | h
                · rw [kept5 _ _ hi] at h
                  exact chk_okF HC0.out f (mem_all hi (List.mem_filter.1 h).1)
                · unfold addF at h
                  obtain ⟨p, hp, rfl⟩ := List.mem_map.1 h
                  have h2 := HOA.out p (List.mem_of_mem_take (List.mem_filter.1 hp).1)
                  unfold okA at h2
                  simp only [Bool.and_eq_true] at h2
                  exact h2.2)
              clear hqs1 hqs2 hqs3 B4
              go_upto_region 29 with fail
              go_wp2_with fail
              clear z0 z1 z2 z3 z4 z5 z6 z7 x0 x1 x2 x3 x4 h1 h2 h3
              go_loopw [14] (fun v14 wr => ∃ (m : Nat) (Y : Nat → List Fx) (kd : Nat → Option Addr) (kl kc : Nat → Nat), m ≤ al ∧ v14 = .int .i64 (m : Int) ∧ (∀ k, k < 5 → (Y k).map Fx.f = insA (keptF e.drop (lv5 v.lv)) (e.add.take m) k) ∧ LvV W0 wr K7 el en (es : Int) Y kd kl kc) (fun v14 _ => al - (intOf v14).toNat)
              case atStart => exact ⟨0, _, _, _, _, by omega, rfl, fun k hk => by rw [HM2.out k hk]; exact (kept5 _ _ hk).symm, LV.out⟩
              case round =>
                clear LV HM2
                obtain ⟨m, Y, kd, kl, kc, hm0', rfl, hm, hlv⟩ := hrel
                have LV := hid hlv
                have HM := hid hm
                clear hlv hm
                obtain ⟨x0, x1, x2, x3, x4⟩ := ed5_cells (LV.out.fr.at B0.out.n1 (by simp))
                by_cases hml : m < al
                · have hml' : (m : Int) < (al : Int) := by omega
                  obtain ⟨p, hp⟩ : ∃ p, qs[m]? = some p := ⟨_, List.getElem?_eq_getElem (by rw [← HQ2.out.1]; exact hml)⟩
                  have l5 := HQ3.out p (List.mem_of_getElem? hp)
                  obtain ⟨b, off, hab, m1⟩ := HQ2.out.2 (by omega)
                  subst hab
                  obtain ⟨c0, c1⟩ := m1 m p hp
                  have hpe : e.add[m]? = some ((p.1 : Int), p.2.f) := by rw [← HQ1.out, List.getElem?_map, hp]; rfl
                  obtain ⟨l, x⟩ := p
                  simp only at l5 c0 c1 hpe
                  have HPE := hid hpe
                  have y0 := cell_fr LV.out.fr c0
                  have XRD0 := hid c1.rd
                  have c2 := c1.fr LV.out.fr
                  obtain ⟨y1, y2, y3, y4, yr⟩ := c2
                  clear m1 hp c0 c1 hpe
                  have l5' : (l : Int) < 5 := by omega
                  obtain ⟨P, hP⟩ : ∃ P, P = wr.heap.size := ⟨_, rfl⟩
                  obtain ⟨W8, hW8⟩ : ∃ W8, W8 = wr.alloc (.cells #[.int .i64 (l : Int), .int .i64 x.f.num, .int .i64 x.f.size, .slice x.la x.f.least.length x.lc, .slice x.ma x.f.most.length x.mc] 64) := ⟨_, rfl⟩
                  have f8 : Fr [] wr W8 := by rw [hW8]; exact (Fr.refl _ _).alloc _
                  have NP8 : Hid (W8.heap[P]? = some (.cells #[.int .i64 (l : Int), .int .i64 x.f.num, .int .i64 x.f.size, .slice x.la x.f.least.length x.lc, .slice x.ma x.f.most.length x.mc] 64 (0, 0))) := hid (by rw [hW8, hP]; exact blk_new _ _)
                  have I8 := hid (LV.out.fr' f8)
                  have XRD := hid (yr.fr f8)
                  have HBY : Hid (Bys x.f) := hid ⟨yr.bl, yr.bm, yr.ll, yr.lm⟩
                  have OKX : Hid (isK x.f.least = true) := hid (by
                    have h2 := HOA.out _ (List.mem_of_getElem? HPE.out)
                    unfold okA at h2
                    simp only [Bool.and_eq_true] at h2
                    exact (okF_keys h2.2).1)
                  clear yr f8 LV
                  go_upto_region 33 with fail
                  rw [← hW8, ← hP]
                  clear hW8 hP x0 x1 x2 x3 x4 y0 y1 y2 y3 y4
                  have p0 : W8.cell? ⟨P, 0, none⟩ = some (.int .i64 (l : Int)) := (ed5_cells NP8.out).1
                  have zk := I8.out.cell l5
                  have HPL := hid (I8.out.place l5)
                  have hkl0 : kl l ≤ 950 := by rw [I8.out.len l l5, ← List.length_map (f := Fx.f), HM.out l l5]; exact HINS.out m l
                  have HKL : Hid (kl l = (Y l).length) := hid (I8.out.len l l5)
                  have HOK : Hid (∀ f ∈ insA (keptF e.drop (lv5 v.lv)) (e.add.take m) l, okF f = true) := hid (HOKI.out m l l5)
                  obtain ⟨ai, hai⟩ : ∃ ai, ai = kd l := ⟨_, rfl⟩
                  obtain ⟨li, hli⟩ : ∃ li, li = kl l := ⟨_, rfl⟩
                  obtain ⟨ci, hci⟩ : ∃ ci, ci = kc l := ⟨_, rfl⟩
                  have HAI := hid hai
                  have HLI := hid hli
                  have HCI := hid hci
                  rw [← hai] at zk HPL
                  rw [← hli] at zk HPL HKL hkl0
                  rw [← hci] at zk
                  clear hai hli hci
                  go_upto_region 34 with fail
                  go_wp2_with fail
                  clear p0 zk
                  go_loopw [17] (fun v17 wr => ∃ q : Nat, q ≤ li ∧ v17 = .int .i64 (q : Int) ∧ (∀ (j : Nat) (y : Fx), j < q → (Y l)[j]? = some y → cmpF l y.f x.f < 0) ∧ Fr [] W8 wr) (fun v17 _ => li + 1 - (intOf v17).toNat)
                  case atStart => exact ⟨0, by omega, rfl, fun j y hj => by omega, Fr.refl _ _⟩
                  case round =>
                    obtain ⟨q, hq0, rfl, hq, hfw⟩ := hrel
                    have HQ := hid hq
                    have FW := hid hfw
                    clear hq hfw
                    have SP : Hid (∀ W, Fr [] wr W → W.cell? ⟨P, 0, none⟩ = some (.int .i64 (l : Int)) ∧ W.cell? ⟨P, 1, none⟩ = some (.int .i64 x.f.num) ∧ W.cell? ⟨P, 3, none⟩ = some (.slice x.la x.f.least.length x.lc)) := hid (fun W f => by
                      have h := ed5_cells ((FW.out.trans f).at NP8.out (by simp))
                      exact ⟨h.1, h.2.1, h.2.2.2.1⟩)
                    go_upto_region 35 with fail
                    go_cut [196] from 160 to 195 (fun v196 W => ∃ (bb : Bool) (W9 : World), W9 = W ∧ v196 = .bool bb ∧ (bb = true → q < li ∧ ∀ y : Fx, (Y l)[q]? = some y → cmpF l y.f x.f < 0) ∧ (bb = false → ∀ y : Fx, (Y l)[q]? = some y → ¬ cmpF l y.f x.f < 0) ∧ Fr [] W8 W)
                    case first =>
                      clear HDC2 HC0 HO HOD HND HOA HXM VX0 HSM HSL HE HVE HDL HAL B0 HBK HQ1 HQ2 HQ3 HP0 HINS HOKI HPE HBY NP8 HLI HCI
                      by_cases hql : q < li
                      · have hql2 : (q : Int) < (li : Int) := by omega
                        obtain ⟨y, hy⟩ : ∃ y, (Y l)[q]? = some y := ⟨_, List.getElem?_eq_getElem (by rw [← HKL.out]; exact hql)⟩
                        obtain ⟨gb, go, hga, h0g⟩ := HPL.out (by omega)
                        subst hga
                        have fa := (I8.out.fr' FW.out).at4 l5 h0g HAI.out.symm hy
                        have SK : Hid (∀ W, Fr [] wr W → W.cell? ⟨gb, go + q * 4, none⟩ = some (.int .i64 y.f.num) ∧ W.cell? ⟨gb, go + q * 4 + 2, none⟩ = some (.slice y.la y.f.least.length y.lc) ∧ W.cell? ⟨P, 0, none⟩ = some (.int .i64 (l : Int)) ∧ W.cell? ⟨P, 1, none⟩ = some (.int .i64 x.f.num) ∧ W.cell? ⟨P, 3, none⟩ = some (.slice x.la x.f.least.length x.lc)) := hid (fun W f => ⟨cell_fr f fa.c0, cell_fr f fa.c2, SP.out W f⟩)
                        have OKY : isK y.f.least = true := (okF_keys (HOK.out y.f (by rw [← HM.out l l5]; exact List.mem_map_of_mem (List.mem_of_getElem? hy)))).1
                        have OR : Hid (∀ W', Fr [] wr W' → Calls Tryz.prog 41 #[.slice y.la y.f.least.length y.lc, .slice x.la x.f.least.length x.lc] W' fun r W'' => r = .returned (.int .i64 (ordK y.f.least x.f.least)) ∧ Fr [] W' W'') := hid (fun W' f => order_c W' (fa.rd.fr f).rl fa.rd.bl OKY ((XRD.out.fr FW.out).fr f).rl XRD.out.bl OKX.out)
                        have HQY : Hid (∀ y' : Fx, (Y l)[q]? = some y' → y' = y) := hid (fun y' hy' => by rw [hy] at hy'; exact (Option.some.inj hy').symm)
                        clear fa hy OKY HM I8 HOK HQ XRD OKX SP h0g HAI
                        rcases Nat.eq_zero_or_pos l with h0 | h0
                        · have h0e : ((l : Int) == 0) = true := by simp; omega
                          have h0f : decide ((0 : Int) < (l : Int)) = false := decide_eq_false (by omega)
                          have HCM : Hid (∀ y : Fx, cmpF l y.f x.f < 0 ↔ y.f.num < x.f.num) := hid (fun y => by unfold cmpF; rw [if_pos h0]; exact cmpI_lt _ _)
                          clear h0 OR
                          refine wp_region_held_drew (S := fun w' => Fr [] wr w') (by kernel_rfl) (Fr.refl [] wr).drew (fun hS => ?_)
                          refine wpAnyH_take (i := 0) (v := .int .i64 (q : Int)) rfl (by kernel_rfl) (by kernel_rfl) (by kernel_rfl) (fun _ _ _ h => h) (.inl ⟨by kernel_rfl, fun wx _ => by go_simp⟩) hS ?_
                          simp only [Act.put, List.getElem_toArray, List.getElem_cons_zero, List.set_cons_succ, List.set_cons_zero, List.setIfInBounds_toArray]
                          refine wpAnyH_take (i := 1) (v := .slice (some ⟨gb, go, none⟩) li ci) rfl (by kernel_rfl) (by kernel_rfl) (by kernel_rfl) (fun _ _ _ h => h) (.inl ⟨by kernel_rfl, fun wx _ => by go_simp⟩) hS ?_
                          simp only [Act.put, List.getElem_toArray, List.getElem_cons_succ, List.getElem_cons_zero, List.set_cons_succ, List.set_cons_zero, List.setIfInBounds_toArray]
                          refine wpAnyH_take (i := 2) (v := .int .i64 (li : Int)) rfl (by kernel_rfl) (by kernel_rfl) (by kernel_rfl) (fun _ _ _ h => h) (.inl ⟨by kernel_rfl, fun wx _ => by go_simp⟩) hS ?_
                          simp only [Act.put, List.getElem_toArray, List.getElem_cons_succ, List.getElem_cons_zero, List.set_cons_succ, List.set_cons_zero, List.setIfInBounds_toArray]
                          refine wpAnyH_take (i := 3) (v := .bool true) rfl (by kernel_rfl) (by kernel_rfl) (by kernel_rfl) (fun _ _ _ h => h) (.inl ⟨by kernel_rfl, fun wx _ => by go_simp⟩) hS ?_
                          simp only [Act.put, List.getElem_toArray, List.getElem_cons_succ, List.getElem_cons_zero, List.set_cons_succ, List.set_cons_zero, List.setIfInBounds_toArray]
                          refine wpAnyH_take (i := 4) (v := .bool true) rfl (by kernel_rfl) (by kernel_rfl) (by kernel_rfl) (fun _ _ _ h => h) (.inl ⟨by kernel_rfl, fun wx _ => by go_simp⟩) hS ?_
                          simp only [Act.put, List.getElem_toArray, List.getElem_cons_succ, List.getElem_cons_zero, List.set_cons_succ, List.set_cons_zero, List.setIfInBounds_toArray]
                          refine wpAnyH_take (i := 5) (v := .pointer (some ⟨P, 0, none⟩)) rfl (by kernel_rfl) (by kernel_rfl) (by kernel_rfl) (fun _ _ _ h => h) (.inl ⟨by kernel_rfl, fun wx _ => by go_simp⟩) hS ?_
                          simp only [Act.put, List.getElem_toArray, List.getElem_cons_succ, List.getElem_cons_zero, List.set_cons_succ, List.set_cons_zero, List.setIfInBounds_toArray]
                          refine wpAnyH_take (i := 6) (v := .int .i64 (l : Int)) rfl (by kernel_rfl) (by kernel_rfl) (by kernel_rfl) (fun _ _ _ h => h) (.inl ⟨by kernel_rfl, fun wx hX => by obtain ⟨s0, s2, t0, t1, t3⟩ := SK.out wx hX; go_simp⟩) hS ?_
                          simp only [Act.put, List.getElem_toArray, List.getElem_cons_succ, List.getElem_cons_zero, List.set_cons_succ, List.set_cons_zero, List.setIfInBounds_toArray]
                          refine wpAnyH_take (i := 7) (v := .bool ((l : Int) == 0)) rfl (by kernel_rfl) (by kernel_rfl) (by kernel_rfl) (fun _ _ _ h => h) (.inl ⟨by kernel_rfl, fun wx _ => by go_simp⟩) hS ?_
                          simp only [Act.put, List.getElem_toArray, List.getElem_cons_succ, List.getElem_cons_zero, List.set_cons_succ, List.set_cons_zero, List.setIfInBounds_toArray]
                          rw [h0e]
                          refine wpAnyH_take (i := 8) (v := .bool true) rfl (by kernel_rfl) (by kernel_rfl) (by kernel_rfl) (fun _ _ _ h => h) (.inl ⟨by kernel_rfl, fun wx _ => by go_simp⟩) hS ?_
                          simp only [Act.put, List.getElem_toArray, List.getElem_cons_succ, List.getElem_cons_zero, List.set_cons_succ, List.set_cons_zero, List.setIfInBounds_toArray]
                          refine wpAnyH_take (i := 9) (v := .slice (some ⟨gb, go, none⟩) li ci) rfl (by kernel_rfl) (by kernel_rfl) (by kernel_rfl) (fun _ _ _ h => h) (.inl ⟨by kernel_rfl, fun wx _ => by go_simp⟩) hS ?_
                          simp only [Act.put, List.getElem_toArray, List.getElem_cons_succ, List.getElem_cons_zero, List.set_cons_succ, List.set_cons_zero, List.setIfInBounds_toArray]
                          refine wpAnyH_take (i := 10) (v := .int .i64 (q : Int)) rfl (by kernel_rfl) (by kernel_rfl) (by kernel_rfl) (fun _ _ _ h => h) (.inl ⟨by kernel_rfl, fun wx _ => by go_simp⟩) hS ?_
                          simp only [Act.put, List.getElem_toArray, List.getElem_cons_succ, List.getElem_cons_zero, List.set_cons_succ, List.set_cons_zero, List.setIfInBounds_toArray]
                          refine wpAnyH_take (i := 11) (v := .pointer (some ⟨gb, go + q * 4, none⟩)) rfl (by kernel_rfl) (by kernel_rfl) (by kernel_rfl) (fun _ _ _ h => h) (.inl ⟨by kernel_rfl, fun wx _ => by go_simp⟩) hS ?_
                          simp only [Act.put, List.getElem_toArray, List.getElem_cons_succ, List.getElem_cons_zero, List.set_cons_succ, List.set_cons_zero, List.setIfInBounds_toArray]
                          refine wpAnyH_take (i := 12) (v := .pointer (some ⟨gb, go + q * 4, none⟩)) rfl (by kernel_rfl) (by kernel_rfl) (by kernel_rfl) (fun _ _ _ h => h) (.inl ⟨by kernel_rfl, fun wx _ => by go_simp⟩) hS ?_
                          simp only [Act.put, List.getElem_toArray, List.getElem_cons_succ, List.getElem_cons_zero, List.set_cons_succ, List.set_cons_zero, List.setIfInBounds_toArray]
                          refine wpAnyH_take (i := 13) (v := .int .i64 y.f.num) rfl (by kernel_rfl) (by kernel_rfl) (by kernel_rfl) (fun _ _ _ h => h) (.inl ⟨by kernel_rfl, fun wx hX => by obtain ⟨s0, s2, t0, t1, t3⟩ := SK.out wx hX; go_simp⟩) hS ?_
                          simp only [Act.put, List.getElem_toArray, List.getElem_cons_succ, List.getElem_cons_zero, List.set_cons_succ, List.set_cons_zero, List.setIfInBounds_toArray]
                          refine wpAnyH_take (i := 14) (v := .pointer (some ⟨P, 1, none⟩)) rfl (by kernel_rfl) (by kernel_rfl) (by kernel_rfl) (fun _ _ _ h => h) (.inl ⟨by kernel_rfl, fun wx _ => by go_simp⟩) hS ?_
                          simp only [Act.put, List.getElem_toArray, List.getElem_cons_succ, List.getElem_cons_zero, List.set_cons_succ, List.set_cons_zero, List.setIfInBounds_toArray]
                          refine wpAnyH_take (i := 15) (v := .pointer (some ⟨P, 1, none⟩)) rfl (by kernel_rfl) (by kernel_rfl) (by kernel_rfl) (fun _ _ _ h => h) (.inl ⟨by kernel_rfl, fun wx _ => by go_simp⟩) hS ?_
                          simp only [Act.put, List.getElem_toArray, List.getElem_cons_succ, List.getElem_cons_zero, List.set_cons_succ, List.set_cons_zero, List.setIfInBounds_toArray]
                          refine wpAnyH_take (i := 16) (v := .int .i64 x.f.num) rfl (by kernel_rfl) (by kernel_rfl) (by kernel_rfl) (fun _ _ _ h => h) (.inl ⟨by kernel_rfl, fun wx hX => by obtain ⟨s0, s2, t0, t1, t3⟩ := SK.out wx hX; go_simp⟩) hS ?_
                          simp only [Act.put, List.getElem_toArray, List.getElem_cons_succ, List.getElem_cons_zero, List.set_cons_succ, List.set_cons_zero, List.setIfInBounds_toArray]
                          refine wpAnyH_take (i := 17) (v := .bool (decide (y.f.num < x.f.num))) rfl (by kernel_rfl) (by kernel_rfl) (by kernel_rfl) (fun _ _ _ h => h) (.inl ⟨by kernel_rfl, fun wx _ => by go_simp⟩) hS ?_
                          simp only [Act.put, List.getElem_toArray, List.getElem_cons_succ, List.getElem_cons_zero, List.set_cons_succ, List.set_cons_zero, List.setIfInBounds_toArray]
                          by_cases hyx : y.f.num < x.f.num
                          · rw [decide_eq_true hyx]
                            refine wpAnyH_take (i := 18) (v := .bool true) rfl (by kernel_rfl) (by kernel_rfl) (by kernel_rfl) (fun _ _ _ h => h) (.inl ⟨by kernel_rfl, fun wx _ => by go_simp⟩) hS ?_
                            simp only [Act.put, List.getElem_toArray, List.getElem_cons_succ, List.getElem_cons_zero, List.set_cons_succ, List.set_cons_zero, List.setIfInBounds_toArray]
                            refine wpAnyH_take (i := 19) (v := .bool true) rfl (by kernel_rfl) (by kernel_rfl) (by kernel_rfl) (fun _ _ _ h => h) (.inl ⟨by kernel_rfl, fun wx _ => by go_simp⟩) hS ?_
                            simp only [Act.put, List.getElem_toArray, List.getElem_cons_succ, List.getElem_cons_zero, List.set_cons_succ, List.set_cons_zero, List.setIfInBounds_toArray]
                            refine wpAnyH_take (i := 20) (v := undef) rfl (by kernel_rfl) (by kernel_rfl) (by kernel_rfl) (fun _ _ _ h => h) (.inr ⟨by kernel_rfl, rfl⟩) hS ?_
                            simp only [Act.put, List.getElem_toArray, List.getElem_cons_succ, List.getElem_cons_zero, List.set_cons_succ, List.set_cons_zero, List.setIfInBounds_toArray]
                            refine wpAnyH_take (i := 21) (v := undef) rfl (by kernel_rfl) (by kernel_rfl) (by kernel_rfl) (fun _ _ _ h => h) (.inr ⟨by kernel_rfl, rfl⟩) hS ?_
                            simp only [Act.put, List.getElem_toArray, List.getElem_cons_succ, List.getElem_cons_zero, List.set_cons_succ, List.set_cons_zero, List.setIfInBounds_toArray]
                            refine wpAnyH_take (i := 22) (v := undef) rfl (by kernel_rfl) (by kernel_rfl) (by kernel_rfl) (fun _ _ _ h => h) (.inr ⟨by kernel_rfl, rfl⟩) hS ?_
                            simp only [Act.put, List.getElem_toArray, List.getElem_cons_succ, List.getElem_cons_zero, List.set_cons_succ, List.set_cons_zero, List.setIfInBounds_toArray]
                            refine wpAnyH_take (i := 23) (v := undef) rfl (by kernel_rfl) (by kernel_rfl) (by kernel_rfl) (fun _ _ _ h => h) (.inr ⟨by kernel_rfl, rfl⟩) hS ?_
                            simp only [Act.put, List.getElem_toArray, List.getElem_cons_succ, List.getElem_cons_zero, List.set_cons_succ, List.set_cons_zero, List.setIfInBounds_toArray]
                            refine wpAnyH_take (i := 24) (v := undef) rfl (by kernel_rfl) (by kernel_rfl) (by kernel_rfl) (fun _ _ _ h => h) (.inr ⟨by kernel_rfl, rfl⟩) hS ?_
                            simp only [Act.put, List.getElem_toArray, List.getElem_cons_succ, List.getElem_cons_zero, List.set_cons_succ, List.set_cons_zero, List.setIfInBounds_toArray]
                            refine wpAnyH_take (i := 25) (v := undef) rfl (by kernel_rfl) (by kernel_rfl) (by kernel_rfl) (fun _ _ _ h => h) (.inr ⟨by kernel_rfl, rfl⟩) hS ?_
                            simp only [Act.put, List.getElem_toArray, List.getElem_cons_succ, List.getElem_cons_zero, List.set_cons_succ, List.set_cons_zero, List.setIfInBounds_toArray]
                            refine wpAnyH_take (i := 26) (v := undef) rfl (by kernel_rfl) (by kernel_rfl) (by kernel_rfl) (fun _ _ _ h => h) (.inr ⟨by kernel_rfl, rfl⟩) hS ?_
                            simp only [Act.put, List.getElem_toArray, List.getElem_cons_succ, List.getElem_cons_zero, List.set_cons_succ, List.set_cons_zero, List.setIfInBounds_toArray]
                            refine wpAnyH_take (i := 27) (v := undef) rfl (by kernel_rfl) (by kernel_rfl) (by kernel_rfl) (fun _ _ _ h => h) (.inr ⟨by kernel_rfl, rfl⟩) hS ?_
                            simp only [Act.put, List.getElem_toArray, List.getElem_cons_succ, List.getElem_cons_zero, List.set_cons_succ, List.set_cons_zero, List.setIfInBounds_toArray]
                            refine wpAnyH_take (i := 28) (v := undef) rfl (by kernel_rfl) (by kernel_rfl) (by kernel_rfl) (fun _ _ _ h => h) (.inr ⟨by kernel_rfl, rfl⟩) hS ?_
                            simp only [Act.put, List.getElem_toArray, List.getElem_cons_succ, List.getElem_cons_zero, List.set_cons_succ, List.set_cons_zero, List.setIfInBounds_toArray]
                            refine wpAnyH_take (i := 29) (v := undef) rfl (by kernel_rfl) (by kernel_rfl) (by kernel_rfl) (fun _ _ _ h => h) (.inr ⟨by kernel_rfl, rfl⟩) hS ?_
                            simp only [Act.put, List.getElem_toArray, List.getElem_cons_succ, List.getElem_cons_zero, List.set_cons_succ, List.set_cons_zero, List.setIfInBounds_toArray]
                            refine wpAnyH_take (i := 30) (v := undef) rfl (by kernel_rfl) (by kernel_rfl) (by kernel_rfl) (fun _ _ _ h => h) (.inr ⟨by kernel_rfl, rfl⟩) hS ?_
                            simp only [Act.put, List.getElem_toArray, List.getElem_cons_succ, List.getElem_cons_zero, List.set_cons_succ, List.set_cons_zero, List.setIfInBounds_toArray]
                            refine wpAnyH_take (i := 31) (v := undef) rfl (by kernel_rfl) (by kernel_rfl) (by kernel_rfl) (fun _ _ _ h => h) (.inr ⟨by kernel_rfl, rfl⟩) hS ?_
                            simp only [Act.put, List.getElem_toArray, List.getElem_cons_succ, List.getElem_cons_zero, List.set_cons_succ, List.set_cons_zero, List.setIfInBounds_toArray]
                            refine wpAnyH_take (i := 32) (v := undef) rfl (by kernel_rfl) (by kernel_rfl) (by kernel_rfl) (fun _ _ _ h => h) (.inr ⟨by kernel_rfl, rfl⟩) hS ?_
                            simp only [Act.put, List.getElem_toArray, List.getElem_cons_succ, List.getElem_cons_zero, List.set_cons_succ, List.set_cons_zero, List.setIfInBounds_toArray]
                            refine wpAnyH_take (i := 33) (v := undef) rfl (by kernel_rfl) (by kernel_rfl) (by kernel_rfl) (fun _ _ _ h => h) (.inr ⟨by kernel_rfl, rfl⟩) hS ?_
                            simp only [Act.put, List.getElem_toArray, List.getElem_cons_succ, List.getElem_cons_zero, List.set_cons_succ, List.set_cons_zero, List.setIfInBounds_toArray]
                            refine wpAnyH_take (i := 34) (v := undef) rfl (by kernel_rfl) (by kernel_rfl) (by kernel_rfl) (fun _ _ _ h => h) (.inr ⟨by kernel_rfl, rfl⟩) hS ?_
                            simp only [Act.put, List.getElem_toArray, List.getElem_cons_succ, List.getElem_cons_zero, List.set_cons_succ, List.set_cons_zero, List.setIfInBounds_toArray]
                            refine wpAnyH_take (i := 35) (v := .bool true) rfl (by kernel_rfl) (by kernel_rfl) (by kernel_rfl) (fun _ _ _ h => h) (.inl ⟨by kernel_rfl, fun wx _ => by go_simp⟩) hS ?_
                            simp only [Act.put, List.getElem_toArray, List.getElem_cons_succ, List.getElem_cons_zero, List.set_cons_succ, List.set_cons_zero, List.setIfInBounds_toArray]
                            refine wpAnyH_take (i := 36) (v := .bool true) rfl (by kernel_rfl) (by kernel_rfl) (by kernel_rfl) (fun _ _ _ h => h) (.inl ⟨by kernel_rfl, fun wx _ => by go_simp⟩) hS ?_
                            simp only [Act.put, List.getElem_toArray, List.getElem_cons_succ, List.getElem_cons_zero, List.set_cons_succ, List.set_cons_zero, List.setIfInBounds_toArray]
                            clear hS
                            refine wpAnyH_done (by kernel_rfl) ?_ _
                            go_wp2
                            go_meet
                            case rel => exact ⟨true, _, rfl, rfl, fun _ => ⟨hql, fun y' hy' => by rw [HQY.out y' hy']; exact (HCM.out y).2 hyx⟩, (fun h => by cases h), FW.out.drew⟩
                          · rw [decide_eq_false hyx]
                            refine wpAnyH_take (i := 18) (v := .bool false) rfl (by kernel_rfl) (by kernel_rfl) (by kernel_rfl) (fun _ _ _ h => h) (.inl ⟨by kernel_rfl, fun wx _ => by go_simp⟩) hS ?_
                            simp only [Act.put, List.getElem_toArray, List.getElem_cons_succ, List.getElem_cons_zero, List.set_cons_succ, List.set_cons_zero, List.setIfInBounds_toArray]
                            refine wpAnyH_take (i := 19) (v := .bool false) rfl (by kernel_rfl) (by kernel_rfl) (by kernel_rfl) (fun _ _ _ h => h) (.inl ⟨by kernel_rfl, fun wx _ => by go_simp⟩) hS ?_
                            simp only [Act.put, List.getElem_toArray, List.getElem_cons_succ, List.getElem_cons_zero, List.set_cons_succ, List.set_cons_zero, List.setIfInBounds_toArray]
                            refine wpAnyH_take (i := 20) (v := .pointer (some ⟨P, 0, none⟩)) rfl (by kernel_rfl) (by kernel_rfl) (by kernel_rfl) (fun _ _ _ h => h) (.inl ⟨by kernel_rfl, fun wx _ => by go_simp⟩) hS ?_
                            simp only [Act.put, List.getElem_toArray, List.getElem_cons_succ, List.getElem_cons_zero, List.set_cons_succ, List.set_cons_zero, List.setIfInBounds_toArray]
                            refine wpAnyH_take (i := 21) (v := .int .i64 (l : Int)) rfl (by kernel_rfl) (by kernel_rfl) (by kernel_rfl) (fun _ _ _ h => h) (.inl ⟨by kernel_rfl, fun wx hX => by obtain ⟨s0, s2, t0, t1, t3⟩ := SK.out wx hX; go_simp⟩) hS ?_
                            simp only [Act.put, List.getElem_toArray, List.getElem_cons_succ, List.getElem_cons_zero, List.set_cons_succ, List.set_cons_zero, List.setIfInBounds_toArray]
                            refine wpAnyH_take (i := 22) (v := .bool (decide ((0 : Int) < (l : Int)))) rfl (by kernel_rfl) (by kernel_rfl) (by kernel_rfl) (fun _ _ _ h => h) (.inl ⟨by kernel_rfl, fun wx _ => by go_simp⟩) hS ?_
                            simp only [Act.put, List.getElem_toArray, List.getElem_cons_succ, List.getElem_cons_zero, List.set_cons_succ, List.set_cons_zero, List.setIfInBounds_toArray]
                            rw [h0f]
                            refine wpAnyH_take (i := 23) (v := .bool false) rfl (by kernel_rfl) (by kernel_rfl) (by kernel_rfl) (fun _ _ _ h => h) (.inl ⟨by kernel_rfl, fun wx _ => by go_simp⟩) hS ?_
                            simp only [Act.put, List.getElem_toArray, List.getElem_cons_succ, List.getElem_cons_zero, List.set_cons_succ, List.set_cons_zero, List.setIfInBounds_toArray]
                            refine wpAnyH_take (i := 24) (v := undef) rfl (by kernel_rfl) (by kernel_rfl) (by kernel_rfl) (fun _ _ _ h => h) (.inr ⟨by kernel_rfl, rfl⟩) hS ?_
                            simp only [Act.put, List.getElem_toArray, List.getElem_cons_succ, List.getElem_cons_zero, List.set_cons_succ, List.set_cons_zero, List.setIfInBounds_toArray]
                            refine wpAnyH_take (i := 25) (v := undef) rfl (by kernel_rfl) (by kernel_rfl) (by kernel_rfl) (fun _ _ _ h => h) (.inr ⟨by kernel_rfl, rfl⟩) hS ?_
                            simp only [Act.put, List.getElem_toArray, List.getElem_cons_succ, List.getElem_cons_zero, List.set_cons_succ, List.set_cons_zero, List.setIfInBounds_toArray]
                            refine wpAnyH_take (i := 26) (v := undef) rfl (by kernel_rfl) (by kernel_rfl) (by kernel_rfl) (fun _ _ _ h => h) (.inr ⟨by kernel_rfl, rfl⟩) hS ?_
                            simp only [Act.put, List.getElem_toArray, List.getElem_cons_succ, List.getElem_cons_zero, List.set_cons_succ, List.set_cons_zero, List.setIfInBounds_toArray]
                            refine wpAnyH_take (i := 27) (v := undef) rfl (by kernel_rfl) (by kernel_rfl) (by kernel_rfl) (fun _ _ _ h => h) (.inr ⟨by kernel_rfl, rfl⟩) hS ?_
                            simp only [Act.put, List.getElem_toArray, List.getElem_cons_succ, List.getElem_cons_zero, List.set_cons_succ, List.set_cons_zero, List.setIfInBounds_toArray]
                            refine wpAnyH_take (i := 28) (v := undef) rfl (by kernel_rfl) (by kernel_rfl) (by kernel_rfl) (fun _ _ _ h => h) (.inr ⟨by kernel_rfl, rfl⟩) hS ?_
                            simp only [Act.put, List.getElem_toArray, List.getElem_cons_succ, List.getElem_cons_zero, List.set_cons_succ, List.set_cons_zero, List.setIfInBounds_toArray]
                            refine wpAnyH_take (i := 29) (v := undef) rfl (by kernel_rfl) (by kernel_rfl) (by kernel_rfl) (fun _ _ _ h => h) (.inr ⟨by kernel_rfl, rfl⟩) hS ?_
                            simp only [Act.put, List.getElem_toArray, List.getElem_cons_succ, List.getElem_cons_zero, List.set_cons_succ, List.set_cons_zero, List.setIfInBounds_toArray]
                            refine wpAnyH_take (i := 30) (v := undef) rfl (by kernel_rfl) (by kernel_rfl) (by kernel_rfl) (fun _ _ _ h => h) (.inr ⟨by kernel_rfl, rfl⟩) hS ?_
                            simp only [Act.put, List.getElem_toArray, List.getElem_cons_succ, List.getElem_cons_zero, List.set_cons_succ, List.set_cons_zero, List.setIfInBounds_toArray]
                            refine wpAnyH_take (i := 31) (v := undef) rfl (by kernel_rfl) (by kernel_rfl) (by kernel_rfl) (fun _ _ _ h => h) (.inr ⟨by kernel_rfl, rfl⟩) hS ?_
                            simp only [Act.put, List.getElem_toArray, List.getElem_cons_succ, List.getElem_cons_zero, List.set_cons_succ, List.set_cons_zero, List.setIfInBounds_toArray]
                            refine wpAnyH_take (i := 32) (v := undef) rfl (by kernel_rfl) (by kernel_rfl) (by kernel_rfl) (fun _ _ _ h => h) (.inr ⟨by kernel_rfl, rfl⟩) hS ?_
                            simp only [Act.put, List.getElem_toArray, List.getElem_cons_succ, List.getElem_cons_zero, List.set_cons_succ, List.set_cons_zero, List.setIfInBounds_toArray]
                            refine wpAnyH_take (i := 33) (v := undef) rfl (by kernel_rfl) (by kernel_rfl) (by kernel_rfl) (fun _ _ _ h => h) (.inr ⟨by kernel_rfl, rfl⟩) hS ?_
                            simp only [Act.put, List.getElem_toArray, List.getElem_cons_succ, List.getElem_cons_zero, List.set_cons_succ, List.set_cons_zero, List.setIfInBounds_toArray]
                            refine wpAnyH_take (i := 34) (v := .bool false) rfl (by kernel_rfl) (by kernel_rfl) (by kernel_rfl) (fun _ _ _ h => h) (.inl ⟨by kernel_rfl, fun wx _ => by go_simp⟩) hS ?_
                            simp only [Act.put, List.getElem_toArray, List.getElem_cons_succ, List.getElem_cons_zero, List.set_cons_succ, List.set_cons_zero, List.setIfInBounds_toArray]
                            refine wpAnyH_take (i := 35) (v := .bool false) rfl (by kernel_rfl) (by kernel_rfl) (by kernel_rfl) (fun _ _ _ h => h) (.inl ⟨by kernel_rfl, fun wx _ => by go_simp⟩) hS ?_
                            simp only [Act.put, List.getElem_toArray, List.getElem_cons_succ, List.getElem_cons_zero, List.set_cons_succ, List.set_cons_zero, List.setIfInBounds_toArray]
                            refine wpAnyH_take (i := 36) (v := .bool false) rfl (by kernel_rfl) (by kernel_rfl) (by kernel_rfl) (fun _ _ _ h => h) (.inl ⟨by kernel_rfl, fun wx _ => by go_simp⟩) hS ?_
                            simp only [Act.put, List.getElem_toArray, List.getElem_cons_succ, List.getElem_cons_zero, List.set_cons_succ, List.set_cons_zero, List.setIfInBounds_toArray]
                            clear hS
                            refine wpAnyH_done (by kernel_rfl) ?_ _
                            go_wp2
                            go_meet
                            case rel => exact ⟨false, _, rfl, rfl, (fun h => by cases h), (fun _ y' hy' => by rw [HQY.out y' hy']; have h1 : ¬ cmpF l y.f x.f < 0 := fun h => (by have := (HCM.out y).1 h; omega); omega), FW.out.drew⟩
                        · have h0e : ((l : Int) == 0) = false := by simp; omega
                          have h0f : decide ((0 : Int) < (l : Int)) = true := decide_eq_true (by omega)
                          have HCM : Hid (∀ y : Fx, cmpF l y.f x.f = ordK y.f.least x.f.least) := hid (fun y => by unfold cmpF; rw [if_neg (by omega)])
                          clear h0
                          refine wp_region_held_drew (S := fun w' => Fr [] wr w') (by kernel_rfl) (Fr.refl [] wr).drew (fun hS => ?_)
                          refine wpAnyH_take (i := 0) (v := .int .i64 (q : Int)) rfl (by kernel_rfl) (by kernel_rfl) (by kernel_rfl) (fun _ _ _ h => h) (.inl ⟨by kernel_rfl, fun wx _ => by go_simp⟩) hS ?_
                          simp only [Act.put, List.getElem_toArray, List.getElem_cons_zero, List.set_cons_succ, List.set_cons_zero, List.setIfInBounds_toArray]
                          refine wpAnyH_take (i := 1) (v := .slice (some ⟨gb, go, none⟩) li ci) rfl (by kernel_rfl) (by kernel_rfl) (by kernel_rfl) (fun _ _ _ h => h) (.inl ⟨by kernel_rfl, fun wx _ => by go_simp⟩) hS ?_
                          simp only [Act.put, List.getElem_toArray, List.getElem_cons_succ, List.getElem_cons_zero, List.set_cons_succ, List.set_cons_zero, List.setIfInBounds_toArray]
                          refine wpAnyH_take (i := 2) (v := .int .i64 (li : Int)) rfl (by kernel_rfl) (by kernel_rfl) (by kernel_rfl) (fun _ _ _ h => h) (.inl ⟨by kernel_rfl, fun wx _ => by go_simp⟩) hS ?_
                          simp only [Act.put, List.getElem_toArray, List.getElem_cons_succ, List.getElem_cons_zero, List.set_cons_succ, List.set_cons_zero, List.setIfInBounds_toArray]
                          refine wpAnyH_take (i := 3) (v := .bool true) rfl (by kernel_rfl) (by kernel_rfl) (by kernel_rfl) (fun _ _ _ h => h) (.inl ⟨by kernel_rfl, fun wx _ => by go_simp⟩) hS ?_
                          simp only [Act.put, List.getElem_toArray, List.getElem_cons_succ, List.getElem_cons_zero, List.set_cons_succ, List.set_cons_zero, List.setIfInBounds_toArray]
                          refine wpAnyH_take (i := 4) (v := .bool true) rfl (by kernel_rfl) (by kernel_rfl) (by kernel_rfl) (fun _ _ _ h => h) (.inl ⟨by kernel_rfl, fun wx _ => by go_simp⟩) hS ?_
                          simp only [Act.put, List.getElem_toArray, List.getElem_cons_succ, List.getElem_cons_zero, List.set_cons_succ, List.set_cons_zero, List.setIfInBounds_toArray]
                          refine wpAnyH_take (i := 5) (v := .pointer (some ⟨P, 0, none⟩)) rfl (by kernel_rfl) (by kernel_rfl) (by kernel_rfl) (fun _ _ _ h => h) (.inl ⟨by kernel_rfl, fun wx _ => by go_simp⟩) hS ?_
                          simp only [Act.put, List.getElem_toArray, List.getElem_cons_succ, List.getElem_cons_zero, List.set_cons_succ, List.set_cons_zero, List.setIfInBounds_toArray]
                          refine wpAnyH_take (i := 6) (v := .int .i64 (l : Int)) rfl (by kernel_rfl) (by kernel_rfl) (by kernel_rfl) (fun _ _ _ h => h) (.inl ⟨by kernel_rfl, fun wx hX => by obtain ⟨s0, s2, t0, t1, t3⟩ := SK.out wx hX; go_simp⟩) hS ?_
                          simp only [Act.put, List.getElem_toArray, List.getElem_cons_succ, List.getElem_cons_zero, List.set_cons_succ, List.set_cons_zero, List.setIfInBounds_toArray]
                          refine wpAnyH_take (i := 7) (v := .bool ((l : Int) == 0)) rfl (by kernel_rfl) (by kernel_rfl) (by kernel_rfl) (fun _ _ _ h => h) (.inl ⟨by kernel_rfl, fun wx _ => by go_simp⟩) hS ?_
                          simp only [Act.put, List.getElem_toArray, List.getElem_cons_succ, List.getElem_cons_zero, List.set_cons_succ, List.set_cons_zero, List.setIfInBounds_toArray]
                          rw [h0e]
                          refine wpAnyH_take (i := 8) (v := .bool false) rfl (by kernel_rfl) (by kernel_rfl) (by kernel_rfl) (fun _ _ _ h => h) (.inl ⟨by kernel_rfl, fun wx _ => by go_simp⟩) hS ?_
                          simp only [Act.put, List.getElem_toArray, List.getElem_cons_succ, List.getElem_cons_zero, List.set_cons_succ, List.set_cons_zero, List.setIfInBounds_toArray]
                          refine wpAnyH_take (i := 9) (v := undef) rfl (by kernel_rfl) (by kernel_rfl) (by kernel_rfl) (fun _ _ _ h => h) (.inr ⟨by kernel_rfl, rfl⟩) hS ?_
                          simp only [Act.put, List.getElem_toArray, List.getElem_cons_succ, List.getElem_cons_zero, List.set_cons_succ, List.set_cons_zero, List.setIfInBounds_toArray]
                          refine wpAnyH_take (i := 10) (v := undef) rfl (by kernel_rfl) (by kernel_rfl) (by kernel_rfl) (fun _ _ _ h => h) (.inr ⟨by kernel_rfl, rfl⟩) hS ?_
                          simp only [Act.put, List.getElem_toArray, List.getElem_cons_succ, List.getElem_cons_zero, List.set_cons_succ, List.set_cons_zero, List.setIfInBounds_toArray]
                          refine wpAnyH_take (i := 11) (v := undef) rfl (by kernel_rfl) (by kernel_rfl) (by kernel_rfl) (fun _ _ _ h => h) (.inr ⟨by kernel_rfl, rfl⟩) hS ?_
                          simp only [Act.put, List.getElem_toArray, List.getElem_cons_succ, List.getElem_cons_zero, List.set_cons_succ, List.set_cons_zero, List.setIfInBounds_toArray]
                          refine wpAnyH_take (i := 12) (v := undef) rfl (by kernel_rfl) (by kernel_rfl) (by kernel_rfl) (fun _ _ _ h => h) (.inr ⟨by kernel_rfl, rfl⟩) hS ?_
                          simp only [Act.put, List.getElem_toArray, List.getElem_cons_succ, List.getElem_cons_zero, List.set_cons_succ, List.set_cons_zero, List.setIfInBounds_toArray]
                          refine wpAnyH_take (i := 13) (v := undef) rfl (by kernel_rfl) (by kernel_rfl) (by kernel_rfl) (fun _ _ _ h => h) (.inr ⟨by kernel_rfl, rfl⟩) hS ?_
                          simp only [Act.put, List.getElem_toArray, List.getElem_cons_succ, List.getElem_cons_zero, List.set_cons_succ, List.set_cons_zero, List.setIfInBounds_toArray]
                          refine wpAnyH_take (i := 14) (v := undef) rfl (by kernel_rfl) (by kernel_rfl) (by kernel_rfl) (fun _ _ _ h => h) (.inr ⟨by kernel_rfl, rfl⟩) hS ?_
                          simp only [Act.put, List.getElem_toArray, List.getElem_cons_succ, List.getElem_cons_zero, List.set_cons_succ, List.set_cons_zero, List.setIfInBounds_toArray]
                          refine wpAnyH_take (i := 15) (v := undef) rfl (by kernel_rfl) (by kernel_rfl) (by kernel_rfl) (fun _ _ _ h => h) (.inr ⟨by kernel_rfl, rfl⟩) hS ?_
                          simp only [Act.put, List.getElem_toArray, List.getElem_cons_succ, List.getElem_cons_zero, List.set_cons_succ, List.set_cons_zero, List.setIfInBounds_toArray]
                          refine wpAnyH_take (i := 16) (v := undef) rfl (by kernel_rfl) (by kernel_rfl) (by kernel_rfl) (fun _ _ _ h => h) (.inr ⟨by kernel_rfl, rfl⟩) hS ?_
                          simp only [Act.put, List.getElem_toArray, List.getElem_cons_succ, List.getElem_cons_zero, List.set_cons_succ, List.set_cons_zero, List.setIfInBounds_toArray]
                          refine wpAnyH_take (i := 17) (v := undef) rfl (by kernel_rfl) (by kernel_rfl) (by kernel_rfl) (fun _ _ _ h => h) (.inr ⟨by kernel_rfl, rfl⟩) hS ?_
                          simp only [Act.put, List.getElem_toArray, List.getElem_cons_succ, List.getElem_cons_zero, List.set_cons_succ, List.set_cons_zero, List.setIfInBounds_toArray]
                          refine wpAnyH_take (i := 18) (v := .bool false) rfl (by kernel_rfl) (by kernel_rfl) (by kernel_rfl) (fun _ _ _ h => h) (.inl ⟨by kernel_rfl, fun wx _ => by go_simp⟩) hS ?_
                          simp only [Act.put, List.getElem_toArray, List.getElem_cons_succ, List.getElem_cons_zero, List.set_cons_succ, List.set_cons_zero, List.setIfInBounds_toArray]
                          refine wpAnyH_take (i := 19) (v := .bool false) rfl (by kernel_rfl) (by kernel_rfl) (by kernel_rfl) (fun _ _ _ h => h) (.inl ⟨by kernel_rfl, fun wx _ => by go_simp⟩) hS ?_
                          simp only [Act.put, List.getElem_toArray, List.getElem_cons_succ, List.getElem_cons_zero, List.set_cons_succ, List.set_cons_zero, List.setIfInBounds_toArray]
                          refine wpAnyH_take (i := 20) (v := .pointer (some ⟨P, 0, none⟩)) rfl (by kernel_rfl) (by kernel_rfl) (by kernel_rfl) (fun _ _ _ h => h) (.inl ⟨by kernel_rfl, fun wx _ => by go_simp⟩) hS ?_
                          simp only [Act.put, List.getElem_toArray, List.getElem_cons_succ, List.getElem_cons_zero, List.set_cons_succ, List.set_cons_zero, List.setIfInBounds_toArray]
                          refine wpAnyH_take (i := 21) (v := .int .i64 (l : Int)) rfl (by kernel_rfl) (by kernel_rfl) (by kernel_rfl) (fun _ _ _ h => h) (.inl ⟨by kernel_rfl, fun wx hX => by obtain ⟨s0, s2, t0, t1, t3⟩ := SK.out wx hX; go_simp⟩) hS ?_
                          simp only [Act.put, List.getElem_toArray, List.getElem_cons_succ, List.getElem_cons_zero, List.set_cons_succ, List.set_cons_zero, List.setIfInBounds_toArray]
                          refine wpAnyH_take (i := 22) (v := .bool (decide ((0 : Int) < (l : Int)))) rfl (by kernel_rfl) (by kernel_rfl) (by kernel_rfl) (fun _ _ _ h => h) (.inl ⟨by kernel_rfl, fun wx _ => by go_simp⟩) hS ?_
                          simp only [Act.put, List.getElem_toArray, List.getElem_cons_succ, List.getElem_cons_zero, List.set_cons_succ, List.set_cons_zero, List.setIfInBounds_toArray]
                          rw [h0f]
                          refine wpAnyH_take (i := 23) (v := .bool true) rfl (by kernel_rfl) (by kernel_rfl) (by kernel_rfl) (fun _ _ _ h => h) (.inl ⟨by kernel_rfl, fun wx _ => by go_simp⟩) hS ?_
                          simp only [Act.put, List.getElem_toArray, List.getElem_cons_succ, List.getElem_cons_zero, List.set_cons_succ, List.set_cons_zero, List.setIfInBounds_toArray]
                          refine wpAnyH_take (i := 24) (v := .slice (some ⟨gb, go, none⟩) li ci) rfl (by kernel_rfl) (by kernel_rfl) (by kernel_rfl) (fun _ _ _ h => h) (.inl ⟨by kernel_rfl, fun wx _ => by go_simp⟩) hS ?_
                          simp only [Act.put, List.getElem_toArray, List.getElem_cons_succ, List.getElem_cons_zero, List.set_cons_succ, List.set_cons_zero, List.setIfInBounds_toArray]
                          refine wpAnyH_take (i := 25) (v := .int .i64 (q : Int)) rfl (by kernel_rfl) (by kernel_rfl) (by kernel_rfl) (fun _ _ _ h => h) (.inl ⟨by kernel_rfl, fun wx _ => by go_simp⟩) hS ?_
                          simp only [Act.put, List.getElem_toArray, List.getElem_cons_succ, List.getElem_cons_zero, List.set_cons_succ, List.set_cons_zero, List.setIfInBounds_toArray]
                          refine wpAnyH_take (i := 26) (v := .pointer (some ⟨gb, go + q * 4, none⟩)) rfl (by kernel_rfl) (by kernel_rfl) (by kernel_rfl) (fun _ _ _ h => h) (.inl ⟨by kernel_rfl, fun wx _ => by go_simp⟩) hS ?_
                          simp only [Act.put, List.getElem_toArray, List.getElem_cons_succ, List.getElem_cons_zero, List.set_cons_succ, List.set_cons_zero, List.setIfInBounds_toArray]
                          refine wpAnyH_take (i := 27) (v := .pointer (some ⟨gb, go + q * 4 + 2, none⟩)) rfl (by kernel_rfl) (by kernel_rfl) (by kernel_rfl) (fun _ _ _ h => h) (.inl ⟨by kernel_rfl, fun wx _ => by go_simp⟩) hS ?_
                          simp only [Act.put, List.getElem_toArray, List.getElem_cons_succ, List.getElem_cons_zero, List.set_cons_succ, List.set_cons_zero, List.setIfInBounds_toArray]
                          refine wpAnyH_take (i := 28) (v := .slice y.la y.f.least.length y.lc) rfl (by kernel_rfl) (by kernel_rfl) (by kernel_rfl) (fun _ _ _ h => h) (.inl ⟨by kernel_rfl, fun wx hX => by obtain ⟨s0, s2, t0, t1, t3⟩ := SK.out wx hX; go_simp⟩) hS ?_
                          simp only [Act.put, List.getElem_toArray, List.getElem_cons_succ, List.getElem_cons_zero, List.set_cons_succ, List.set_cons_zero, List.setIfInBounds_toArray]
                          refine wpAnyH_take (i := 29) (v := .pointer (some ⟨P, 1, none⟩)) rfl (by kernel_rfl) (by kernel_rfl) (by kernel_rfl) (fun _ _ _ h => h) (.inl ⟨by kernel_rfl, fun wx _ => by go_simp⟩) hS ?_
                          simp only [Act.put, List.getElem_toArray, List.getElem_cons_succ, List.getElem_cons_zero, List.set_cons_succ, List.set_cons_zero, List.setIfInBounds_toArray]
                          refine wpAnyH_take (i := 30) (v := .pointer (some ⟨P, 3, none⟩)) rfl (by kernel_rfl) (by kernel_rfl) (by kernel_rfl) (fun _ _ _ h => h) (.inl ⟨by kernel_rfl, fun wx _ => by go_simp⟩) hS ?_
                          simp only [Act.put, List.getElem_toArray, List.getElem_cons_succ, List.getElem_cons_zero, List.set_cons_succ, List.set_cons_zero, List.setIfInBounds_toArray]
                          refine wpAnyH_take (i := 31) (v := .slice x.la x.f.least.length x.lc) rfl (by kernel_rfl) (by kernel_rfl) (by kernel_rfl) (fun _ _ _ h => h) (.inl ⟨by kernel_rfl, fun wx hX => by obtain ⟨s0, s2, t0, t1, t3⟩ := SK.out wx hX; go_simp⟩) hS ?_
                          simp only [Act.put, List.getElem_toArray, List.getElem_cons_succ, List.getElem_cons_zero, List.set_cons_succ, List.set_cons_zero, List.setIfInBounds_toArray]
                          clear hS
                          refine wpAnyH_ready (rs := [32]) (by kernel_rfl) (by simp) ?_
                          refine AllReadyH.cons rfl (fun K hK => ?_) AllReadyH.nil
                          go_simp
                          refine (OR.out _ (Fr.refl [] wr).drew).mono ?_
                          rintro r w4 ⟨rfl, f4⟩
                          have F4 := hid ((Fr.refl [] wr).drew.trans f4)
                          clear f4
                          refine hK.out _ _ F4.out (fun hS => ?_)
                          clear hK K
                          refine wpAnyH_take (i := 33) (v := .bool (decide (ordK y.f.least x.f.least < 0))) rfl (by kernel_rfl) (by kernel_rfl) (by kernel_rfl) (fun _ _ _ h => h) (.inl ⟨by kernel_rfl, fun wx _ => by go_simp⟩) hS ?_
                          simp only [Act.put, List.getElem_toArray, List.getElem_cons_succ, List.getElem_cons_zero, List.set_cons_succ, List.set_cons_zero, List.setIfInBounds_toArray]
                          refine wpAnyH_take (i := 34) (v := .bool (decide (ordK y.f.least x.f.least < 0))) rfl (by kernel_rfl) (by kernel_rfl) (by kernel_rfl) (fun _ _ _ h => h) (.inl ⟨by kernel_rfl, fun wx _ => by go_simp⟩) hS ?_
                          simp only [Act.put, List.getElem_toArray, List.getElem_cons_succ, List.getElem_cons_zero, List.set_cons_succ, List.set_cons_zero, List.setIfInBounds_toArray]
                          refine wpAnyH_take (i := 35) (v := .bool (decide (ordK y.f.least x.f.least < 0))) rfl (by kernel_rfl) (by kernel_rfl) (by kernel_rfl) (fun _ _ _ h => h) (.inl ⟨by kernel_rfl, fun wx _ => by go_simp⟩) hS ?_
                          simp only [Act.put, List.getElem_toArray, List.getElem_cons_succ, List.getElem_cons_zero, List.set_cons_succ, List.set_cons_zero, List.setIfInBounds_toArray]
                          refine wpAnyH_take (i := 36) (v := .bool (decide (ordK y.f.least x.f.least < 0))) rfl (by kernel_rfl) (by kernel_rfl) (by kernel_rfl) (fun _ _ _ h => h) (.inl ⟨by kernel_rfl, fun wx _ => by go_simp⟩) hS ?_
                          simp only [Act.put, List.getElem_toArray, List.getElem_cons_succ, List.getElem_cons_zero, List.set_cons_succ, List.set_cons_zero, List.setIfInBounds_toArray]
                          clear hS
                          refine wpAnyH_done (by kernel_rfl) ?_ _
                          go_wp2
                          go_meet
                          case rel => exact ⟨_, _, rfl, rfl, fun h => ⟨hql, fun y' hy' => by rw [HQY.out y' hy', HCM.out]; exact of_decide_eq_true h⟩, (fun h y' hy' => by rw [HQY.out y' hy', HCM.out]; have h1 := of_decide_eq_false h; omega), FW.out.trans F4.out⟩
                      · have hql2 : ¬ (q : Int) < (li : Int) := by omega
                        have HNO : Hid (∀ y : Fx, (Y l)[q]? = some y → False) := hid (fun y hy => by have := (List.getElem?_eq_some_iff.1 hy).1; rw [← HKL.out] at this; omega)
                        refine wp_region_held_drew (S := fun w' => Fr [] wr w') (by kernel_rfl) (Fr.refl [] wr).drew (fun hS => ?_)
                        refine wpAnyH_take (i := 0) (v := .int .i64 (q : Int)) rfl (by kernel_rfl) (by kernel_rfl) (by kernel_rfl) (fun _ _ _ h => h) (.inl ⟨by kernel_rfl, fun wx _ => by go_simp⟩) hS ?_
                        simp only [Act.put, List.getElem_toArray, List.getElem_cons_zero, List.set_cons_succ, List.set_cons_zero, List.setIfInBounds_toArray]
                        refine wpAnyH_take (i := 1) (v := .slice ai li ci) rfl (by kernel_rfl) (by kernel_rfl) (by kernel_rfl) (fun _ _ _ h => h) (.inl ⟨by kernel_rfl, fun wx _ => by go_simp⟩) hS ?_
                        simp only [Act.put, List.getElem_toArray, List.getElem_cons_succ, List.getElem_cons_zero, List.set_cons_succ, List.set_cons_zero, List.setIfInBounds_toArray]
                        refine wpAnyH_take (i := 2) (v := .int .i64 (li : Int)) rfl (by kernel_rfl) (by kernel_rfl) (by kernel_rfl) (fun _ _ _ h => h) (.inl ⟨by kernel_rfl, fun wx _ => by go_simp⟩) hS ?_
                        simp only [Act.put, List.getElem_toArray, List.getElem_cons_succ, List.getElem_cons_zero, List.set_cons_succ, List.set_cons_zero, List.setIfInBounds_toArray]
                        refine wpAnyH_take (i := 3) (v := .bool false) rfl (by kernel_rfl) (by kernel_rfl) (by kernel_rfl) (fun _ _ _ h => h) (.inl ⟨by kernel_rfl, fun wx _ => by go_simp⟩) hS ?_
                        simp only [Act.put, List.getElem_toArray, List.getElem_cons_succ, List.getElem_cons_zero, List.set_cons_succ, List.set_cons_zero, List.setIfInBounds_toArray]
                        refine wpAnyH_take (i := 4) (v := .bool false) rfl (by kernel_rfl) (by kernel_rfl) (by kernel_rfl) (fun _ _ _ h => h) (.inl ⟨by kernel_rfl, fun wx _ => by go_simp⟩) hS ?_
                        simp only [Act.put, List.getElem_toArray, List.getElem_cons_succ, List.getElem_cons_zero, List.set_cons_succ, List.set_cons_zero, List.setIfInBounds_toArray]
                        refine wpAnyH_take (i := 5) (v := undef) rfl (by kernel_rfl) (by kernel_rfl) (by kernel_rfl) (fun _ _ _ h => h) (.inr ⟨by kernel_rfl, rfl⟩) hS ?_
                        simp only [Act.put, List.getElem_toArray, List.getElem_cons_succ, List.getElem_cons_zero, List.set_cons_succ, List.set_cons_zero, List.setIfInBounds_toArray]
                        refine wpAnyH_take (i := 6) (v := undef) rfl (by kernel_rfl) (by kernel_rfl) (by kernel_rfl) (fun _ _ _ h => h) (.inr ⟨by kernel_rfl, rfl⟩) hS ?_
                        simp only [Act.put, List.getElem_toArray, List.getElem_cons_succ, List.getElem_cons_zero, List.set_cons_succ, List.set_cons_zero, List.setIfInBounds_toArray]
                        refine wpAnyH_take (i := 7) (v := undef) rfl (by kernel_rfl) (by kernel_rfl) (by kernel_rfl) (fun _ _ _ h => h) (.inr ⟨by kernel_rfl, rfl⟩) hS ?_
                        simp only [Act.put, List.getElem_toArray, List.getElem_cons_succ, List.getElem_cons_zero, List.set_cons_succ, List.set_cons_zero, List.setIfInBounds_toArray]
                        refine wpAnyH_take (i := 8) (v := undef) rfl (by kernel_rfl) (by kernel_rfl) (by kernel_rfl) (fun _ _ _ h => h) (.inr ⟨by kernel_rfl, rfl⟩) hS ?_
                        simp only [Act.put, List.getElem_toArray, List.getElem_cons_succ, List.getElem_cons_zero, List.set_cons_succ, List.set_cons_zero, List.setIfInBounds_toArray]
                        refine wpAnyH_take (i := 9) (v := undef) rfl (by kernel_rfl) (by kernel_rfl) (by kernel_rfl) (fun _ _ _ h => h) (.inr ⟨by kernel_rfl, rfl⟩) hS ?_
                        simp only [Act.put, List.getElem_toArray, List.getElem_cons_succ, List.getElem_cons_zero, List.set_cons_succ, List.set_cons_zero, List.setIfInBounds_toArray]
                        refine wpAnyH_take (i := 10) (v := undef) rfl (by kernel_rfl) (by kernel_rfl) (by kernel_rfl) (fun _ _ _ h => h) (.inr ⟨by kernel_rfl, rfl⟩) hS ?_
                        simp only [Act.put, List.getElem_toArray, List.getElem_cons_succ, List.getElem_cons_zero, List.set_cons_succ, List.set_cons_zero, List.setIfInBounds_toArray]
                        refine wpAnyH_take (i := 11) (v := undef) rfl (by kernel_rfl) (by kernel_rfl) (by kernel_rfl) (fun _ _ _ h => h) (.inr ⟨by kernel_rfl, rfl⟩) hS ?_
                        simp only [Act.put, List.getElem_toArray, List.getElem_cons_succ, List.getElem_cons_zero, List.set_cons_succ, List.set_cons_zero, List.setIfInBounds_toArray]
                        refine wpAnyH_take (i := 12) (v := undef) rfl (by kernel_rfl) (by kernel_rfl) (by kernel_rfl) (fun _ _ _ h => h) (.inr ⟨by kernel_rfl, rfl⟩) hS ?_
                        simp only [Act.put, List.getElem_toArray, List.getElem_cons_succ, List.getElem_cons_zero, List.set_cons_succ, List.set_cons_zero, List.setIfInBounds_toArray]
                        refine wpAnyH_take (i := 13) (v := undef) rfl (by kernel_rfl) (by kernel_rfl) (by kernel_rfl) (fun _ _ _ h => h) (.inr ⟨by kernel_rfl, rfl⟩) hS ?_
                        simp only [Act.put, List.getElem_toArray, List.getElem_cons_succ, List.getElem_cons_zero, List.set_cons_succ, List.set_cons_zero, List.setIfInBounds_toArray]
                        refine wpAnyH_take (i := 14) (v := undef) rfl (by kernel_rfl) (by kernel_rfl) (by kernel_rfl) (fun _ _ _ h => h) (.inr ⟨by kernel_rfl, rfl⟩) hS ?_
                        simp only [Act.put, List.getElem_toArray, List.getElem_cons_succ, List.getElem_cons_zero, List.set_cons_succ, List.set_cons_zero, List.setIfInBounds_toArray]
                        refine wpAnyH_take (i := 15) (v := undef) rfl (by kernel_rfl) (by kernel_rfl) (by kernel_rfl) (fun _ _ _ h => h) (.inr ⟨by kernel_rfl, rfl⟩) hS ?_
                        simp only [Act.put, List.getElem_toArray, List.getElem_cons_succ, List.getElem_cons_zero, List.set_cons_succ, List.set_cons_zero, List.setIfInBounds_toArray]
                        refine wpAnyH_take (i := 16) (v := undef) rfl (by kernel_rfl) (by kernel_rfl) (by kernel_rfl) (fun _ _ _ h => h) (.inr ⟨by kernel_rfl, rfl⟩) hS ?_
                        simp only [Act.put, List.getElem_toArray, List.getElem_cons_succ, List.getElem_cons_zero, List.set_cons_succ, List.set_cons_zero, List.setIfInBounds_toArray]
                        refine wpAnyH_take (i := 17) (v := undef) rfl (by kernel_rfl) (by kernel_rfl) (by kernel_rfl) (fun _ _ _ h => h) (.inr ⟨by kernel_rfl, rfl⟩) hS ?_
                        simp only [Act.put, List.getElem_toArray, List.getElem_cons_succ, List.getElem_cons_zero, List.set_cons_succ, List.set_cons_zero, List.setIfInBounds_toArray]
                        refine wpAnyH_take (i := 18) (v := undef) rfl (by kernel_rfl) (by kernel_rfl) (by kernel_rfl) (fun _ _ _ h => h) (.inr ⟨by kernel_rfl, rfl⟩) hS ?_
                        simp only [Act.put, List.getElem_toArray, List.getElem_cons_succ, List.getElem_cons_zero, List.set_cons_succ, List.set_cons_zero, List.setIfInBounds_toArray]
                        refine wpAnyH_take (i := 19) (v := undef) rfl (by kernel_rfl) (by kernel_rfl) (by kernel_rfl) (fun _ _ _ h => h) (.inr ⟨by kernel_rfl, rfl⟩) hS ?_
                        simp only [Act.put, List.getElem_toArray, List.getElem_cons_succ, List.getElem_cons_zero, List.set_cons_succ, List.set_cons_zero, List.setIfInBounds_toArray]
                        refine wpAnyH_take (i := 20) (v := undef) rfl (by kernel_rfl) (by kernel_rfl) (by kernel_rfl) (fun _ _ _ h => h) (.inr ⟨by kernel_rfl, rfl⟩) hS ?_
                        simp only [Act.put, List.getElem_toArray, List.getElem_cons_succ, List.getElem_cons_zero, List.set_cons_succ, List.set_cons_zero, List.setIfInBounds_toArray]
                        refine wpAnyH_take (i := 21) (v := undef) rfl (by kernel_rfl) (by kernel_rfl) (by kernel_rfl) (fun _ _ _ h => h) (.inr ⟨by kernel_rfl, rfl⟩) hS ?_
                        simp only [Act.put, List.getElem_toArray, List.getElem_cons_succ, List.getElem_cons_zero, List.set_cons_succ, List.set_cons_zero, List.setIfInBounds_toArray]
                        refine wpAnyH_take (i := 22) (v := undef) rfl (by kernel_rfl) (by kernel_rfl) (by kernel_rfl) (fun _ _ _ h => h) (.inr ⟨by kernel_rfl, rfl⟩) hS ?_
                        simp only [Act.put, List.getElem_toArray, List.getElem_cons_succ, List.getElem_cons_zero, List.set_cons_succ, List.set_cons_zero, List.setIfInBounds_toArray]
                        refine wpAnyH_take (i := 23) (v := undef) rfl (by kernel_rfl) (by kernel_rfl) (by kernel_rfl) (fun _ _ _ h => h) (.inr ⟨by kernel_rfl, rfl⟩) hS ?_
                        simp only [Act.put, List.getElem_toArray, List.getElem_cons_succ, List.getElem_cons_zero, List.set_cons_succ, List.set_cons_zero, List.setIfInBounds_toArray]
                        refine wpAnyH_take (i := 24) (v := undef) rfl (by kernel_rfl) (by kernel_rfl) (by kernel_rfl) (fun _ _ _ h => h) (.inr ⟨by kernel_rfl, rfl⟩) hS ?_
                        simp only [Act.put, List.getElem_toArray, List.getElem_cons_succ, List.getElem_cons_zero, List.set_cons_succ, List.set_cons_zero, List.setIfInBounds_toArray]
                        refine wpAnyH_take (i := 25) (v := undef) rfl (by kernel_rfl) (by kernel_rfl) (by kernel_rfl) (fun _ _ _ h => h) (.inr ⟨by kernel_rfl, rfl⟩) hS ?_
                        simp only [Act.put, List.getElem_toArray, List.getElem_cons_succ, List.getElem_cons_zero, List.set_cons_succ, List.set_cons_zero, List.setIfInBounds_toArray]
                        refine wpAnyH_take (i := 26) (v := undef) rfl (by kernel_rfl) (by kernel_rfl) (by kernel_rfl) (fun _ _ _ h => h) (.inr ⟨by kernel_rfl, rfl⟩) hS ?_
                        simp only [Act.put, List.getElem_toArray, List.getElem_cons_succ, List.getElem_cons_zero, List.set_cons_succ, List.set_cons_zero, List.setIfInBounds_toArray]
                        refine wpAnyH_take (i := 27) (v := undef) rfl (by kernel_rfl) (by kernel_rfl) (by kernel_rfl) (fun _ _ _ h => h) (.inr ⟨by kernel_rfl, rfl⟩) hS ?_
                        simp only [Act.put, List.getElem_toArray, List.getElem_cons_succ, List.getElem_cons_zero, List.set_cons_succ, List.set_cons_zero, List.setIfInBounds_toArray]
                        refine wpAnyH_take (i := 28) (v := undef) rfl (by kernel_rfl) (by kernel_rfl) (by kernel_rfl) (fun _ _ _ h => h) (.inr ⟨by kernel_rfl, rfl⟩) hS ?_
                        simp only [Act.put, List.getElem_toArray, List.getElem_cons_succ, List.getElem_cons_zero, List.set_cons_succ, List.set_cons_zero, List.setIfInBounds_toArray]
                        refine wpAnyH_take (i := 29) (v := undef) rfl (by kernel_rfl) (by kernel_rfl) (by kernel_rfl) (fun _ _ _ h => h) (.inr ⟨by kernel_rfl, rfl⟩) hS ?_
                        simp only [Act.put, List.getElem_toArray, List.getElem_cons_succ, List.getElem_cons_zero, List.set_cons_succ, List.set_cons_zero, List.setIfInBounds_toArray]
                        refine wpAnyH_take (i := 30) (v := undef) rfl (by kernel_rfl) (by kernel_rfl) (by kernel_rfl) (fun _ _ _ h => h) (.inr ⟨by kernel_rfl, rfl⟩) hS ?_
                        simp only [Act.put, List.getElem_toArray, List.getElem_cons_succ, List.getElem_cons_zero, List.set_cons_succ, List.set_cons_zero, List.setIfInBounds_toArray]
                        refine wpAnyH_take (i := 31) (v := undef) rfl (by kernel_rfl) (by kernel_rfl) (by kernel_rfl) (fun _ _ _ h => h) (.inr ⟨by kernel_rfl, rfl⟩) hS ?_
                        simp only [Act.put, List.getElem_toArray, List.getElem_cons_succ, List.getElem_cons_zero, List.set_cons_succ, List.set_cons_zero, List.setIfInBounds_toArray]
                        refine wpAnyH_take (i := 32) (v := undef) rfl (by kernel_rfl) (by kernel_rfl) (by kernel_rfl) (fun _ _ _ h => h) (.inr ⟨by kernel_rfl, rfl⟩) hS ?_
                        simp only [Act.put, List.getElem_toArray, List.getElem_cons_succ, List.getElem_cons_zero, List.set_cons_succ, List.set_cons_zero, List.setIfInBounds_toArray]
                        refine wpAnyH_take (i := 33) (v := undef) rfl (by kernel_rfl) (by kernel_rfl) (by kernel_rfl) (fun _ _ _ h => h) (.inr ⟨by kernel_rfl, rfl⟩) hS ?_
                        simp only [Act.put, List.getElem_toArray, List.getElem_cons_succ, List.getElem_cons_zero, List.set_cons_succ, List.set_cons_zero, List.setIfInBounds_toArray]
                        refine wpAnyH_take (i := 34) (v := undef) rfl (by kernel_rfl) (by kernel_rfl) (by kernel_rfl) (fun _ _ _ h => h) (.inr ⟨by kernel_rfl, rfl⟩) hS ?_
                        simp only [Act.put, List.getElem_toArray, List.getElem_cons_succ, List.getElem_cons_zero, List.set_cons_succ, List.set_cons_zero, List.setIfInBounds_toArray]
                        refine wpAnyH_take (i := 35) (v := undef) rfl (by kernel_rfl) (by kernel_rfl) (by kernel_rfl) (fun _ _ _ h => h) (.inr ⟨by kernel_rfl, rfl⟩) hS ?_
                        simp only [Act.put, List.getElem_toArray, List.getElem_cons_succ, List.getElem_cons_zero, List.set_cons_succ, List.set_cons_zero, List.setIfInBounds_toArray]
                        refine wpAnyH_take (i := 36) (v := .bool false) rfl (by kernel_rfl) (by kernel_rfl) (by kernel_rfl) (fun _ _ _ h => h) (.inl ⟨by kernel_rfl, fun wx _ => by go_simp⟩) hS ?_
                        simp only [Act.put, List.getElem_toArray, List.getElem_cons_succ, List.getElem_cons_zero, List.set_cons_succ, List.set_cons_zero, List.setIfInBounds_toArray]
                        clear hS
                        refine wpAnyH_done (by kernel_rfl) ?_ _
                        go_wp2
                        go_meet
                        case rel => exact ⟨false, _, rfl, rfl, fun h => (by cases h), fun _ y hy => (HNO.out y hy).elim, FW.out.drew⟩
                    case rest =>
                    obtain ⟨bb, W9, hW9, rfl, hb1, hb2, f9⟩ := hcut
                    subst hW9
                    have HB1 := hid hb1
                    have HB2 := hid hb2
                    have F9 := hid f9
                    clear hb1 hb2 f9 SP
                    cases bb with
                    | true =>
                      go_wp2_with fail
                      go_roundw
                      case rel => exact ⟨q + 1, (HB1.out rfl).1, by go_num, fun j y hj hy => by
                        rcases Nat.lt_or_ge j q with h | h
                        · exact HQ.out j y h hy
                        · have e : j = q := by omega
                          subst e
                          exact (HB1.out rfl).2 y hy, F9.out⟩
                      case measure => have := (HB1.out rfl).1; simp [intOf]; omega
                    | false =>
                      have HB3 := hid (HB2.out rfl)
                      clear HB1 HB2
                      obtain ⟨W10, hW10⟩ : ∃ W10, W10 = W9.alloc (.cells #[.int .i64 0, .int .i64 0, .slice none 0 0, .slice none 0 0] 62) := ⟨_, rfl⟩
                      have f10 : Fr [] W9 W10 := by rw [hW10]; exact (Fr.refl _ _).alloc _
                      have I10 := hid (I8.out.fr' (F9.out.trans f10))
                      have NP10 := hid ((F9.out.trans f10).at NP8.out (by simp))
                      have XR10 := hid (XRD.out.fr (F9.out.trans f10))
                      have NE10 : Hid ((Value.slice (kd l) (kl l) (kc l)).ownBlock ≠ some P) := hid ((I10.out.own l l5).not NP10.out (by decide))
                      obtain ⟨g, cap, cur, w6, hrun, hap, ⟨hgb, hsz, hcap, hmx⟩, htk⟩ := I10.out.ins0 l5 (by rw [← HLI.out]; omega) (G := W9.heap.size) (by rw [hW10]; exact blk_new _ _)
                      rw [← HLI.out] at hrun hcap htk
                      rw [← HAI.out, ← HCI.out, hW10] at hrun
                      have HR := hid hrun
                      have AP := hid hap
                      have HGB := hid hgb
                      have HTK := hid htk
                      have HSZ := hid hsz
                      have HMX := hid hmx
                      clear hrun hap hgb htk hmx
                      go_upto_region 38 with (at_builtin; refine wpList_appR rfl _ _ rfl (vs := .slice ai li ci) (vx := .slice (some ⟨W9.heap.size, 0, none⟩) 1 1) (by simp [Act.eval]) (by simp [Act.eval]) HR.out ?_)
                      obtain ⟨A, hA, hA2⟩ : ∃ A : Addr, (if cap = q + 1 then some (⟨g, 0, none⟩ : Addr) else some ⟨g, (q + 1) * 4, none⟩) = some A ∧ (q < li → A = ⟨g, (q + 1) * 4, none⟩) := by
                        by_cases h : cap = q + 1
                        · exact ⟨_, if_pos h, fun h2 => by omega⟩
                        · exact ⟨_, if_neg h, fun _ => rfl⟩
                      obtain ⟨w7, hw7⟩ : ∃ w7, w7 = w6.drew.setRow g (cur4 cur li q) := ⟨_, rfl⟩
                      have HCY := hid (copy4 (w := w6.drew) (c1 := cap - (q + 1)) (c2 := cap - q) HGB.out (by have := HSZ.out; omega) (by omega : q ≤ li) A hA2 (by rw [HTK.out]; exact I10.out.one))
                      rw [← hw7] at HCY
                      have AP7 : Hid (Apt W0 W10 w7 (Value.slice (kd l) (kl l) (kc l)) g) := hid (by rw [hw7]; exact (AP.out.fr' (Fr.refl _ _).drew).row _)
                      have GB7 : Hid (w7.heap[g]? = some (.cells (cur4 cur li q) 62 (0, 0))) := hid (by rw [hw7]; exact setRow_heap _ _ _ _ _ _ HGB.out)
                      clear hw7 AP HGB HR
                      have hm1 : q + 1 ≤ li + 1 := by omega
                      have hm2 : ¬ (li : Int) + 1 < (q : Int) + 1 := by omega
                      have hm3 : ¬ (li : Int) + 1 < (q : Int) := by omega
                      have hm6 : (q : Int) + 1 ≤ (li : Int) + 1 := by omega
                      have hm7 : IntKind.i64.wrap ((q : Int) + 1) = (q : Int) + 1 := by rw [IntKind.wrap_i64]; omega
                      have hm8 : ¬ (q : Int) + 1 < 0 := by omega
                      have hm9 : ¬ cap = q := by omega
                      have hm10 : q ≤ li + 1 := by omega
                      have hm11 : (q : Int) ≤ (li : Int) + 1 := by omega
                      refine wp_region_held_drew (S := fun _ => True) (by kernel_rfl) trivial (fun hS => ?_)
                      refine wpAnyH_take (i := 0) (v := .slice (some ⟨g, 0, none⟩) (li + 1) cap) rfl (by kernel_rfl) (by kernel_rfl) (by kernel_rfl) (fun _ _ _ h => h) (.inl ⟨by kernel_rfl, fun wx _ => by go_simp⟩) hS ?_
                      simp only [Act.put, List.getElem_toArray, List.getElem_cons_zero, List.set_cons_succ, List.set_cons_zero, List.setIfInBounds_toArray]
                      refine wpAnyH_take (i := 1) (v := .int .i64 (q : Int)) rfl (by kernel_rfl) (by kernel_rfl) (by kernel_rfl) (fun _ _ _ h => h) (.inl ⟨by kernel_rfl, fun wx _ => by go_simp⟩) hS ?_
                      simp only [Act.put, List.getElem_toArray, List.getElem_cons_succ, List.getElem_cons_zero, List.set_cons_succ, List.set_cons_zero, List.setIfInBounds_toArray]
                      refine wpAnyH_take (i := 2) (v := .int .i64 ((q : Int) + 1)) rfl (by kernel_rfl) (by kernel_rfl) (by kernel_rfl) (fun _ _ _ h => h) (.inl ⟨by kernel_rfl, fun wx _ => by go_simp⟩) hS ?_
                      simp only [Act.put, List.getElem_toArray, List.getElem_cons_succ, List.getElem_cons_zero, List.set_cons_succ, List.set_cons_zero, List.setIfInBounds_toArray]
                      refine wpAnyH_take (i := 3) (v := .slice (some A) (li - q) (cap - (q + 1))) rfl (by kernel_rfl) (by kernel_rfl) (by kernel_rfl) (fun _ _ _ h => h) (.inl ⟨by kernel_rfl, fun wx _ => by go_simp⟩) hS ?_
                      simp only [Act.put, List.getElem_toArray, List.getElem_cons_succ, List.getElem_cons_zero, List.set_cons_succ, List.set_cons_zero, List.setIfInBounds_toArray]
                      refine wpAnyH_take (i := 4) (v := .slice (some ⟨g, 0, none⟩) (li + 1) cap) rfl (by kernel_rfl) (by kernel_rfl) (by kernel_rfl) (fun _ _ _ h => h) (.inl ⟨by kernel_rfl, fun wx _ => by go_simp⟩) hS ?_
                      simp only [Act.put, List.getElem_toArray, List.getElem_cons_succ, List.getElem_cons_zero, List.set_cons_succ, List.set_cons_zero, List.setIfInBounds_toArray]
                      refine wpAnyH_take (i := 5) (v := .int .i64 (q : Int)) rfl (by kernel_rfl) (by kernel_rfl) (by kernel_rfl) (fun _ _ _ h => h) (.inl ⟨by kernel_rfl, fun wx _ => by go_simp⟩) hS ?_
                      simp only [Act.put, List.getElem_toArray, List.getElem_cons_succ, List.getElem_cons_zero, List.set_cons_succ, List.set_cons_zero, List.setIfInBounds_toArray]
                      refine wpAnyH_take (i := 6) (v := .slice (some ⟨g, q * 4, none⟩) (li + 1 - q) (cap - q)) rfl (by kernel_rfl) (by kernel_rfl) (by kernel_rfl) (fun _ _ _ h => h) (.inl ⟨by kernel_rfl, fun wx _ => by go_simp⟩) hS ?_
                      simp only [Act.put, List.getElem_toArray, List.getElem_cons_succ, List.getElem_cons_zero, List.set_cons_succ, List.set_cons_zero, List.setIfInBounds_toArray]
                      clear hS
                      refine wpAnyH_ready (rs := [7]) (by kernel_rfl) (by simp) ?_
                      refine AllReadyH.cons rfl (fun K hK => ?_) AllReadyH.nil
                      refine step_copyF rfl (.tmp 206) (.tmp 209) rfl (vs := .slice (some A) (li - q) (cap - (q + 1))) (vx := .slice (some ⟨g, q * 4, none⟩) (li + 1 - q) (cap - q)) (by first | (simp [Act.eval]; done) | simp [Act.eval, Act.put]) (by first | (simp [Act.eval]; done) | simp [Act.eval, Act.put]) HCY.out ?_
                      refine hK.out _ w7 trivial (fun _ => ?_)
                      clear hK K
                      refine wpAnyH_done (by kernel_rfl) ?_ _
                      clear hA hm1 hm2 hm3 hm6 hm7 hm8 hm9 hm10
                      have NP7 : Hid (w7.heap[P]? = some (.cells #[.int .i64 (l : Int), .int .i64 x.f.num, .int .i64 x.f.size, .slice x.la x.f.least.length x.lc, .slice x.ma x.f.most.length x.mc] 64 (0, 0))) := hid (AP7.out.at NP10.out NE10.out)
                      have CP := hid (rcopied_c w7 (XRD0.out.fr AP7.out.fr))
                      have hcs : (cur4 cur li q).size = cap * 4 := by rw [cur4_size (by omega) (by have := HSZ.out; omega)]; exact HSZ.out
                      have INS : Hid (∀ (W11 : World) (la' : Option Addr) (lc' : Nat) (ma' : Option Addr) (mc' : Nat), Fr [] w7 W11 → XO w7.heap.size W11 x.f la' lc' ma' mc' → ((((W11.setCell ⟨g, q * 4, none⟩ (.int .i64 x.f.num)).setCell ⟨g, q * 4 + 1, none⟩ (.int .i64 x.f.size)).setCell ⟨g, q * 4 + 2, none⟩ (.slice la' x.f.least.length lc')).setCell ⟨g, q * 4 + 3, none⟩ (.slice ma' x.f.most.length mc')).heap[K7]? = some (.cells #[.int .i64 el, .int .i64 en, .int .u64 (es : Int), .slice (kd 0) (kl 0) (kc 0), .slice (kd 1) (kl 1) (kc 1), .slice (kd 2) (kl 2) (kc 2), .slice (kd 3) (kl 3) (kc 3), .slice (kd 4) (kl 4) (kc 4)] 28 (0, 0)) ∧ ((((W11.setCell ⟨g, q * 4, none⟩ (.int .i64 x.f.num)).setCell ⟨g, q * 4 + 1, none⟩ (.int .i64 x.f.size)).setCell ⟨g, q * 4 + 2, none⟩ (.slice la' x.f.least.length lc')).setCell ⟨g, q * 4 + 3, none⟩ (.slice ma' x.f.most.length mc')).heap[P]? = some (.cells #[.int .i64 (l : Int), .int .i64 x.f.num, .int .i64 x.f.size, .slice x.la x.f.least.length x.lc, .slice x.ma x.f.most.length x.mc] 64 (0, 0)) ∧ LvV W0 (((((W11.setCell ⟨g, q * 4, none⟩ (.int .i64 x.f.num)).setCell ⟨g, q * 4 + 1, none⟩ (.int .i64 x.f.size)).setCell ⟨g, q * 4 + 2, none⟩ (.slice la' x.f.least.length lc')).setCell ⟨g, q * 4 + 3, none⟩ (.slice ma' x.f.most.length mc')).setCell ⟨K7, 3 + l, none⟩ (.slice (some ⟨g, 0, none⟩) (li + 1) cap)) K7 el en (es : Int) (upA Y l ((Y l).take q ++ ⟨x.f, la', lc', ma', mc'⟩ :: (Y l).drop q)) (upA kd l (some ⟨g, 0, none⟩)) (upA kl l (li + 1)) (upA kc l cap)) := hid (fun W11 la' lc' ma' mc' f11 xo => by
                        have a11 := AP7.out.fr' f11
                        have hb : W0.heap.size ≤ w7.heap.size := AP7.out.fr.size
                        have g11 := f11.at GB7.out (by simp)
                        have r := I10.out.ins1 (p := q) (cap := cap) (cur := cur) l5 a11 (by rw [← HLI.out]; exact HTK.out) (by rw [← HLI.out]; omega) HSZ.out (by rw [← HLI.out]; exact hcap) HMX.out (by rw [← HLI.out]; exact g11) (x := ⟨x.f, la', lc', ma', mc'⟩) ⟨own_base9 xo.ol hb, own_base9 xo.om hb⟩ HBY.out
                        rw [← HLI.out] at r
                        refine ⟨r.1, ?_, r.2⟩
                        have hne := AP7.out.off (blk_lt NP10.out) NE10.out
                        rw [blk_setne _ _ _ hne, blk_setne _ _ _ hne, blk_setne _ _ _ hne, blk_setne _ _ _ hne]
                        exact f11.at NP7.out (by simp))
                      have CEL : Hid (∀ W11, Fr [] w7 W11 → (∃ u, W11.cell? ⟨g, q * 4, none⟩ = some u) ∧ (∃ u, W11.cell? ⟨g, q * 4 + 1, none⟩ = some u) ∧ (∃ u, W11.cell? ⟨g, q * 4 + 2, none⟩ = some u) ∧ (∃ u, W11.cell? ⟨g, q * 4 + 3, none⟩ = some u) ∧ ∀ k, W11.frozen? ⟨g, k, none⟩ = false) := hid (fun W11 f11 => by
                        have g11 := f11.at GB7.out (by simp)
                        have cl : ∀ k, k < cap * 4 → ∃ u, W11.cell? ⟨g, k, none⟩ = some u := fun k hk => ⟨_, by rw [blk_cell g11]; exact Array.getElem?_eq_getElem (by rw [hcs]; exact hk)⟩
                        exact ⟨cl _ (by omega), cl _ (by omega), cl _ (by omega), cl _ (by omega), fun k => blk_frozen g11 k⟩)
                      have HM13 : Hid (∀ (la' : Option Addr) (lc' : Nat) (ma' : Option Addr) (mc' : Nat) (k : Nat), k < 5 → ((upA Y l ((Y l).take q ++ ⟨x.f, la', lc', ma', mc'⟩ :: (Y l).drop q)) k).map Fx.f = insA (keptF e.drop (lv5 v.lv)) (e.add.take (m + 1)) k) := hid (fun la' lc' ma' mc' k hk => by
                        have e0 : ((l : Int), x.f).1.toNat = l := by simp
                        rw [insA_take (keptF e.drop (lv5 v.lv)) HPE.out, e0]
                        by_cases ek : k = l
                        · subst ek
                          rw [upA_same, upA_same, ← HM.out k hk, insF_at k x.f _ q (by rw [List.length_map, ← HKL.out]; exact hq0) (fun j a hj ha => by
                            rw [List.getElem?_map] at ha
                            cases hyj : (Y k)[j]? with
                            | none => rw [hyj] at ha; cases ha
                            | some y =>
                              rw [hyj] at ha
                              cases ha
                              exact HQ.out j y hj hyj) (fun a ha => by
                            rw [List.getElem?_map] at ha
                            cases hyj : (Y k)[q]? with
                            | none => rw [hyj] at ha; cases ha
                            | some y =>
                              rw [hyj] at ha
                              cases ha
                              exact HB3.out y hyj), List.map_append, List.map_cons, List.map_take, List.map_drop]
                        · rw [upA_ne _ _ ek, upA_ne _ _ ek]
                          exact HM.out k hk)
                      have hq1 : (q : Int) < (li : Int) + 1 := by omega
                      have KQ : Hid (∀ W : World, W.heap[K7]? = some (.cells #[.int .i64 el, .int .i64 en, .int .u64 (es : Int), .slice (kd 0) (kl 0) (kc 0), .slice (kd 1) (kl 1) (kc 1), .slice (kd 2) (kl 2) (kc 2), .slice (kd 3) (kl 3) (kc 3), .slice (kd 4) (kl 4) (kc 4)] 28 (0, 0)) → W.cell? ⟨K7, 3 + l, none⟩ = some (.slice ai li ci) ∧ W.frozen? ⟨K7, 3 + l, none⟩ = false) := hid (fun W h => ⟨by rw [HAI.out, HLI.out, HCI.out]; exact vn_cell h l5, blk_frozen h _⟩)
                      obtain ⟨p0, p1, p2, p3, p4⟩ := ed5_cells NP7.out
                      clear HDC2 HC0 HO HOD HND HOA HXM VX0 HSM HSL HE HVE HDL HAL B0 HBK HQ1 HQ2 HQ3 HP0 HINS HOKI HPE HBY NP8 HM HQ HB3 FW F9 I8 I10 XRD XRD0 OKX AP7 GB7 NP7 NP10 XR10 NE10 HTK HSZ HMX HPL HOK HCY f10
                      go_upto_region 40 with (go_at_call 40; refine CP.out.mono ?_; intro r W11 co; obtain ⟨⟨la', lc', ma', mc', hr, xo⟩, f11⟩ := co; subst hr; have IN := hid (INS.out W11 la' lc' ma' mc' f11 xo); obtain ⟨⟨u0, s0⟩, ⟨u1, s1⟩, ⟨u2, s2⟩, ⟨u3, s3⟩, sf⟩ := CEL.out W11 f11; have sf0 := sf (q * 4); have sf1 := sf (q * 4 + 1); have sf2 := sf (q * 4 + 2); have sf3 := sf (q * 4 + 3); clear xo f11 sf)
                      clear s0 s1 s2 s3 sf0 sf1 sf2 sf3 p0 p1 p2 p3 p4 CEL INS CP
                      obtain ⟨W12, hW12⟩ : ∃ W12, W12 = (((W11.setCell ⟨g, q * 4, none⟩ (.int .i64 x.f.num)).setCell ⟨g, q * 4 + 1, none⟩ (.int .i64 x.f.size)).setCell ⟨g, q * 4 + 2, none⟩ (.slice la' x.f.least.length lc')).setCell ⟨g, q * 4 + 3, none⟩ (.slice ma' x.f.most.length mc') := ⟨_, rfl⟩
                      rw [← hW12] at IN ⊢
                      clear hW12
                      obtain ⟨kq, kf⟩ := KQ.out W12 IN.out.1
                      have p0 := (ed5_cells IN.out.2.1).1
                      go_wp2_with fail
                      go_roundw
                      case rel => exact ⟨m + 1, _, _, _, _, by omega, by go_num, HM13.out la' lc' ma' mc', IN.out.2.2⟩
                      case measure => simp [intOf]; omega
                · have hmn : m = al := by omega
                  subst hmn
                  have HM9 : Hid (∀ k, k < 5 → (Y k).map Fx.f = insA (keptF e.drop (lv5 v.lv)) e.add k) := hid (fun k hk => by have := HM.out k hk; rw [HAL.out, List.take_length] at this; exact this)
                  clear HM
                  have B9 := hid (B0.out.fr' LV.out.fr)
                  have HU := hid (insA_comes e.add (keptF e.drop (lv5 v.lv)) HP0.out (kept5_sort HC0.out e.drop))
                  have HLE : Hid (∀ i, i < 5 → kl i ≤ 950) := hid (fun i hi => by
                    rw [LV.out.len i hi, ← List.length_map (f := Fx.f), HM9.out i hi]
                    have := HINS.out e.add.length i
                    rw [List.take_length] at this
                    exact this)
                  have HCOM : Hid (Comes v e (insA (keptF e.drop (lv5 v.lv)) e.add)) := hid ⟨fun i hi => by have := (HU.out i).1; rw [kept5 _ _ hi] at this; exact this, fun i _ => (HU.out i).2⟩
                  obtain ⟨U, hU⟩ : ∃ U, U = insA (keptF e.drop (lv5 v.lv)) e.add := ⟨_, rfl⟩
                  rw [← hU] at HM9 HCOM
                  clear hU HU HINS HOKI HQ1 HQ2 HQ3 HP0 HOA HND HOD HXM VX0 HSM HSL HE
                  have CK9 := hid (rcheck_c wr (v := ⟨el, en, es, U⟩) (LV.out.vat HM9.out (fun i hi => by have := HLE.out i hi; omega)) LV.out.nil (fun i hi => by have := HLE.out i hi; omega))
                  obtain ⟨C9, hC9⟩ : ∃ C9, C9 = chkV ⟨el, en, es, U⟩ := ⟨_, rfl⟩
                  rw [← hC9] at CK9
                  have HC9 : Hid (C9 = chkV ⟨e.log, e.next, e.seq, U⟩) := hid (by obtain ⟨_, q4, q5, q6⟩ := HVE.out; rw [← q4, ← q5, ← q6]; exact hC9)
                  clear hC9
                  obtain ⟨z0, z1, z2, z3, z4, z5, z6, z7⟩ := vn_cells LV.out.blk
                  go_upto_region 42 with (go_at_call 39; refine CK9.out.mono ?_; rintro r W9 ⟨rfl, f9⟩; have F9 := hid f9; clear f9)
                  clear z0 z1 z2 z3 z4 z5 z6 z7 x0 x1 x2 x3 x4 CK9
                  have B10 := hid (B9.out.fr' F9.out)
                  by_cases hc9 : C9 = 0
                  · subst hc9
                    have L9 := hid (LV.out.fr' F9.out)
                    obtain ⟨z0, z1, z2, z3, z4, z5, z6, z7⟩ := vn_cells L9.out.blk
                    obtain ⟨q0, q1, q2, q3, q4, q5, q6, q7⟩ := vn_cells B10.out.n2
                    have qf0 := blk_frozen B10.out.n2 0
                    have qf1 := blk_frozen B10.out.n2 1
                    have qf2 := blk_frozen B10.out.n2 2
                    have qf3 := blk_frozen B10.out.n2 3
                    have qf4 := blk_frozen B10.out.n2 4
                    have qf5 := blk_frozen B10.out.n2 5
                    have qf6 := blk_frozen B10.out.n2 6
                    have qf7 := blk_frozen B10.out.n2 7
                    have FAR9 : Hid (∀ W : World, (∀ k, W0.heap.size ≤ k → k < W9.heap.size → W.heap[k]? = W9.heap[k]?) → VAt W U kd kl kc) := hid (fun W hk => (L9.out.far hk).vat HM9.out (fun i hi => by have := HLE.out i hi; omega))
                    have VA9 : Hid (∀ W, W.heap.size = W9.heap.size → (∀ k, k ≠ w.heap.size + 1 + 1 → W.heap[k]? = W9.heap[k]?) → VAt W U kd kl kc) := hid (fun W _ hk => (L9.out.oth B10.out.n2 hk).vat HM9.out (fun i hi => by have := HLE.out i hi; omega))
                    go_wp2_with fail
                    refine bodyPost_ret (ret_ct9 rfl (g := w.heap.size + 1 + 1) (by simp) (load46k (by rw [blk_set (blk_set (blk_set (blk_set (blk_set (blk_set (blk_set (blk_set B10.out.n2 0 _) 1 _) 2 _) 3 _) 4 _) 5 _) 6 _) 7 _]; rfl))) rfl ?_
                    refine ⟨(((((((B10.out.fr.set _ _ (.inr (by omega))).set _ _ (.inr (by omega))).set _ _ (.inr (by omega))).set _ _ (.inr (by omega))).set _ _ (.inr (by omega))).set _ _ (.inr (by omega))).set _ _ (.inr (by omega))).set _ _ (.inr (by omega)), .inr (.inr ⟨HC0.out, HO.out, .inr ⟨U, kd, kl, kc, ⟨HDC2.out, HBK.out, HCOM.out, HC9.out.symm⟩, ?_, VA9.out _ (by simp [World.setCell]) (fun k hk => by rw [blk_setne _ _ _ hk, blk_setne _ _ _ hk, blk_setne _ _ _ hk, blk_setne _ _ _ hk, blk_setne _ _ _ hk, blk_setne _ _ _ hk, blk_setne _ _ _ hk, blk_setne _ _ _ hk]), L9.out.nil, fun W hk => FAR9.out W (fun k h1 h2 => (hk k (by have := HW0S.out; omega) (by simp [World.setCell]; exact h2)).trans (by have hk : k ≠ w.heap.size + 1 + 1 := (by have := HW0S.out; omega); rw [blk_setne _ _ _ hk, blk_setne _ _ _ hk, blk_setne _ _ _ hk, blk_setne _ _ _ hk, blk_setne _ _ _ hk, blk_setne _ _ _ hk, blk_setne _ _ _ hk, blk_setne _ _ _ hk]))⟩⟩)⟩
                    obtain ⟨_, q4, q5, q6⟩ := HVE.out
                    rw [← q4, ← q5, ← q6]
                    rfl
                  · have hc1 : (C9 == 0) = false := by simpa using hc9
                    have HN := hid hc9
                    have HERR : Hid (errA v e C9) := hid (.inr (.inr ⟨HDC2.out, HBK.out, U, HCOM.out, by rw [← HC9.out]; exact hc9, HC9.out⟩))
                    clear hc9 HLE LV
                    obtain ⟨q0, q1, q2, q3, q4, q5, q6, q7⟩ := vn_cells B10.out.n2
                    have qf0 := blk_frozen B10.out.n2 0
                    have qf1 := blk_frozen B10.out.n2 1
                    have qf2 := blk_frozen B10.out.n2 2
                    have qf3 := blk_frozen B10.out.n2 3
                    have qf4 := blk_frozen B10.out.n2 4
                    have qf5 := blk_frozen B10.out.n2 5
                    have qf6 := blk_frozen B10.out.n2 6
                    have qf7 := blk_frozen B10.out.n2 7
                    go_wp2_with fail
                    refine bodyPost_ret (ret_ct9 rfl (g := w.heap.size + 1 + 1) (by simp) (load46k (by rw [blk_set (blk_set (blk_set (blk_set (blk_set (blk_set (blk_set (blk_set B10.out.n2 0 _) 1 _) 2 _) 3 _) 4 _) 5 _) 6 _) 7 _]; rfl))) rfl ?_
                    exact ⟨(((((((B10.out.fr.set _ _ (.inr (by omega))).set _ _ (.inr (by omega))).set _ _ (.inr (by omega))).set _ _ (.inr (by omega))).set _ _ (.inr (by omega))).set _ _ (.inr (by omega))).set _ _ (.inr (by omega))).set _ _ (.inr (by omega)), .inr (.inr ⟨HC0.out, HO.out, .inl ⟨C9, HERR.out, HN.out, rfl⟩⟩)⟩
  · have hC1 : (C == 0) = false := by simpa using hC0
    have HC0 := hid hC0
    clear hC0
    obtain ⟨q0, q1, q2, q3, q4, q5, q6, q7⟩ := vn_cells B1.out.n2
    have qf0 := blk_frozen B1.out.n2 0
    have qf1 := blk_frozen B1.out.n2 1
    have qf2 := blk_frozen B1.out.n2 2
    have qf3 := blk_frozen B1.out.n2 3
    have qf4 := blk_frozen B1.out.n2 4
    have qf5 := blk_frozen B1.out.n2 5
    have qf6 := blk_frozen B1.out.n2 6
    have qf7 := blk_frozen B1.out.n2 7
    go_wp2_with fail
    refine bodyPost_ret (ret_ct9 rfl (g := w.heap.size + 1 + 1) (by simp) (load46k (by rw [blk_set (blk_set (blk_set (blk_set (blk_set (blk_set (blk_set (blk_set B1.out.n2 0 _) 1 _) 2 _) 3 _) 4 _) 5 _) 6 _) 7 _]; rfl))) rfl ?_
    exact ⟨(((((((B1.out.fr.set _ _ (.inr (by omega))).set _ _ (.inr (by omega))).set _ _ (.inr (by omega))).set _ _ (.inr (by omega))).set _ _ (.inr (by omega))).set _ _ (.inr (by omega))).set _ _ (.inr (by omega))).set _ _ (.inr (by omega)), .inl ⟨by rw [← HC.out]; exact HC0.out, by rw [← HC.out]; rfl⟩⟩
end Go.Proofs.YtegbngbhmgbocaaGreatDoor
