/-
  What comes of a version by an edit.
-/
import Derived.Test.YtegbngbhmgbocaaGreatDoorVJ
namespace Go.Proofs.YtegbngbhmgbocaaGreatDoor
open Go.ChangeShapes Go.WideShapes Go.ChangeAt Go.RowKit

theorem load46k {w : World} {g : Nat} {t : TypeId} {c0 c1 c2 c3 c4 c5 c6 c7 : Value} (hg : w.heap[g]? = some (.cells #[c0, c1, c2, c3, c4, c5, c6, c7] t (0, 0))) : (loadVar 28 ⟨g, 0, none⟩).run Tryz.prog w = .ok (.agg #[c0, c1, c2, c3, c4, c5, c6, c7]) w :=
  run_loadVar_row w g t 28 #[c0, c1, c2, c3, c4, c5, c6, c7] (0, 0) _ hg Tryz.underlying28 rfl (by kernel_rfl)
theorem ed5_cells {W : World} {k : Nat} {t : TypeId} {c0 c1 c2 c3 c4 : Value} (n : W.heap[k]? = some (.cells #[c0, c1, c2, c3, c4] t (0, 0))) : W.cell? ⟨k, 0, none⟩ = some c0 ∧ W.cell? ⟨k, 1, none⟩ = some c1 ∧ W.cell? ⟨k, 2, none⟩ = some c2 ∧ W.cell? ⟨k, 3, none⟩ = some c3 ∧ W.cell? ⟨k, 4, none⟩ = some c4 :=
  ⟨by rw [blk_cell n]; rfl, by rw [blk_cell n]; rfl, by rw [blk_cell n]; rfl, by rw [blk_cell n]; rfl, by rw [blk_cell n]; rfl⟩
theorem own_base9 {W : World} {B B' s n : Nat} {e : TypeId} {v : Value} {xs : List Value} (h : W.ownsRow B e s v n xs) (hb : B' ≤ B) : W.ownsRow B' e s v n xs := by
  refine ⟨h.1, ?_⟩
  rcases h.2 with h0 | ⟨g, cap, cur, h1, h2, h3⟩
  · exact .inl h0
  · exact .inr ⟨g, cap, cur, h1, by omega, h3⟩
theorem LvS.base {w wb W : World} {K : Nat} {X : Nat → List Fx} {ad : Nat → Option Addr} {ln cp : Nat → Nat} (h : LvS wb W K X ad ln cp) (f : Fr [] w wb) : LvS w W K X ad ln cp :=
  ⟨h.blk, h.len, fun i hi => own_base9 (h.own i hi) f.size, h.apart, f.trans h.fr, Nat.le_trans f.size h.ge⟩
/-- The boxes of a call with a version and an edit. -/
structure Bx (w W : World) (cv ce : Array Value) : Prop where
  n0 : W.heap[w.heap.size]? = some (.cells cv 28 (0, 0))
  n1 : W.heap[w.heap.size + 1]? = some (.cells ce 41 (0, 0))
  n2 : W.heap[w.heap.size + 1 + 1]? = some (.cells #[.int .i64 0, .int .i64 0, .int .u64 0, .slice none 0 0, .slice none 0 0, .slice none 0 0, .slice none 0 0, .slice none 0 0] 28 (0, 0))
  fr : Fr [] w W
theorem Bx.fr' {w W W' : World} {cv ce : Array Value} (h : Bx w W cv ce) (f : Fr [] W W') : Bx w W' cv ce := ⟨f.at h.n0 (by simp), f.at h.n1 (by simp), f.at h.n2 (by simp), h.fr.trans f⟩
theorem Bx.new (w : World) (cv ce : Array Value) : Bx w (((w.alloc (.cells cv 28)).alloc (.cells ce 41)).alloc (.cells #[.int .i64 0, .int .i64 0, .int .u64 0, .slice none 0 0, .slice none 0 0, .slice none 0 0, .slice none 0 0, .slice none 0 0] 28)) cv ce :=
  ⟨(((Fr.refl [] _).alloc _).alloc _).at (blk_new _ _) (by simp), ((Fr.refl [] _).alloc _).at (new_at _ _ (by simp)) (by simp), new_at _ _ (by simp), (((Fr.refl _ _).alloc _).alloc _).alloc _⟩
/-- A version of own lists, told as a whole. -/
def vnX (el en : Int) (es : Nat) (Y : Nat → List Fx) : Vn := ⟨el, en, es, fun i => (Y i).map Fx.f⟩
/-- What follow answers. -/
structure FOut (w w' : World) (vl vn : Int) (vs : Nat) (el en : Int) (es : Nat) (gs : List (Int × Int)) (X : Nat → List Fx) (qs : List (Nat × Fx)) (r : Ending) : Prop where
  fr : Fr [] w w'
  out : (dcnt gs X 5 ≠ gs.length ∧ r = .returned (.tuple #[.agg #[.int .i64 0, .int .i64 0, .int .u64 0, .slice none 0 0, .slice none 0 0, .slice none 0 0, .slice none 0 0, .slice none 0 0], .int .i64 91])) ∨ (dcnt gs X 5 = gs.length ∧ (el < vl ∨ en < vn ∨ es < vs) ∧ r = .returned (.tuple #[.agg #[.int .i64 0, .int .i64 0, .int .u64 0, .slice none 0 0, .slice none 0 0, .slice none 0 0, .slice none 0 0, .slice none 0 0], .int .i64 94])) ∨
    (dcnt gs X 5 = gs.length ∧ ¬ (el < vl ∨ en < vn ∨ es < vs) ∧ ∃ Y : Nat → List Fx, (∀ i, i < 5 → (Y i).Perm (addS (keptX gs X) qs i) ∧ SortX i (Y i)) ∧
      ((chkV (vnX el en es Y) ≠ 0 ∧ r = .returned (.tuple #[.agg #[.int .i64 0, .int .i64 0, .int .u64 0, .slice none 0 0, .slice none 0 0, .slice none 0 0, .slice none 0 0, .slice none 0 0], .int .i64 (chkV (vnX el en es Y))])) ∨ (chkV (vnX el en es Y) = 0 ∧ ∃ K kd kl kc, r = .returned (.tuple #[.agg #[.int .i64 el, .int .i64 en, .int .u64 (es : Int), .slice (kd 0) (kl 0) (kc 0), .slice (kd 1) (kl 1) (kc 1), .slice (kd 2) (kl 2) (kc 2), .slice (kd 3) (kl 3) (kc 3), .slice (kd 4) (kl 4) (kc 4)], .int .i64 0]) ∧ LvS w w' K Y kd kl kc)))
theorem keptX_len {gs : List (Int × Int)} {X : Nat → List Fx} (i : Nat) : (keptX gs X i).length ≤ (X i).length := List.length_filter_le _ _
theorem VXt.rx {w : World} {X : Nat → List Fx} {ad : Nat → Option Addr} {ln cp : Nat → Nat} (h : VXt w X ad ln cp) (ok : ∀ i, i < 5 → ∀ x ∈ X i, okF x.f = true) : ∀ i, i < 5 → ∀ x ∈ X i, RX w x := by
  intro i hi x hx
  obtain ⟨j, hj⟩ := List.getElem?_of_mem hx
  have hl := h.len i hi
  have hjl := (List.getElem?_eq_some_iff.1 hj).1
  obtain ⟨b, off, _, k⟩ := h.rd i hi (by omega)
  exact ⟨(k j x hj).rd, ok i hi x hx⟩
theorem RXA.rx {w : World} {aa : Option Addr} {al : Nat} {qs : List (Nat × Fx)} (h : RXA w aa al qs) (ok : ∀ p ∈ qs, okF p.2.f = true) : ∀ p ∈ qs, RX w p.2 := by
  intro p hp
  obtain ⟨j, hj⟩ := List.getElem?_of_mem hp
  have hl := h.1
  have hjl := (List.getElem?_eq_some_iff.1 hj).1
  obtain ⟨b, off, _, k⟩ := h.2 (by omega)
  exact ⟨(k j p hj).2.rd, ok p hp⟩
set_option maxRecDepth 20000 in
set_option maxHeartbeats 6400000 in
theorem follow_c (w : World) {X : Nat → List Fx} {ad : Nat → Option Addr} {ln cp : Nat → Nat} {gs : List (Int × Int)} {da aa : Option Addr} {dl dc al ac : Nat} {qs : List (Nat × Fx)} (vl vn : Int) (vs : Nat) (el en : Int) (es : Nat) (hdl : dl = gs.length) (hv : VXt w X ad ln cp) (ok : ∀ i, i < 5 → ∀ x ∈ X i, okF x.f = true) (hd : RdD w (.slice da dl dc) gs) (hq : RXA w aa al qs) (okq : ∀ p ∈ qs, okF p.2.f = true) (hq5 : ∀ p ∈ qs, p.1 < 5) (hsm : ∀ i, i < 5 → ln i ≤ 500) (hgl : dl ≤ 1000000) (hal : al ≤ 500) :
    Calls Tryz.prog 12 #[.agg #[.int .i64 vl, .int .i64 vn, .int .u64 (vs : Int), .slice (ad 0) (ln 0) (cp 0), .slice (ad 1) (ln 1) (cp 1), .slice (ad 2) (ln 2) (cp 2), .slice (ad 3) (ln 3) (cp 3), .slice (ad 4) (ln 4) (cp 4)], .agg #[.int .i64 el, .int .i64 en, .int .u64 (es : Int), .slice da dl dc, .slice aa al ac]] w fun r w' => FOut w w' vl vn vs el en es gs X qs r := by
  obtain ⟨W0, hW0⟩ : ∃ W0, W0 = ((w.alloc (.cells #[.int .i64 vl, .int .i64 vn, .int .u64 (vs : Int), .slice (ad 0) (ln 0) (cp 0), .slice (ad 1) (ln 1) (cp 1), .slice (ad 2) (ln 2) (cp 2), .slice (ad 3) (ln 3) (cp 3), .slice (ad 4) (ln 4) (cp 4)] 28)).alloc (.cells #[.int .i64 el, .int .i64 en, .int .u64 (es : Int), .slice da dl dc, .slice aa al ac] 41)).alloc (.cells #[.int .i64 0, .int .i64 0, .int .u64 0, .slice none 0 0, .slice none 0 0, .slice none 0 0, .slice none 0 0, .slice none 0 0] 28) := ⟨_, rfl⟩
  have B0 : Hid (Bx w W0 #[.int .i64 vl, .int .i64 vn, .int .u64 (vs : Int), .slice (ad 0) (ln 0) (cp 0), .slice (ad 1) (ln 1) (cp 1), .slice (ad 2) (ln 2) (cp 2), .slice (ad 3) (ln 3) (cp 3), .slice (ad 4) (ln 4) (cp 4)] #[.int .i64 el, .int .i64 en, .int .u64 (es : Int), .slice da dl dc, .slice aa al ac]) := hid (by rw [hW0]; exact Bx.new w _ _)
  have WO := hid (without_c W0 hdl (hv.fr B0.out.fr) (hd.fr B0.out.fr) (fun i hi => by have := hsm i hi; omega) hgl)
  have HQ := hid (hq.fr B0.out.fr)
  have HXR : Hid (∀ i, i < 5 → ∀ x ∈ X i, RX W0 x) := hid (fun i hi x hx => (hv.rx ok i hi x hx).fr B0.out.fr)
  have HQR : Hid (∀ p ∈ qs, RX W0 p.2) := hid (fun p hp => (hq.rx okq p hp).fr B0.out.fr)
  have HXL : Hid (∀ i, i < 5 → (X i).length ≤ 500) := hid (fun i hi => by rw [← hv.len i hi]; exact hsm i hi)
  have HQ5 := hid hq5
  have HQL : Hid (al = qs.length) := hid hq.1
  clear hv ok hd hq okq hq5 hsm hdl
  obtain ⟨z0, z1, z2, z3, z4, z5, z6, z7⟩ := vn_cells B0.out.n0
  obtain ⟨x0, x1, x2, x3, x4⟩ := ed5_cells B0.out.n1
  go_enter Tryz.func12, Tryz.ntmps12
  go_upto_region 1 with fail
  rw [← hW0]
  clear hW0
  go_upto_region 2 with (go_at_call 31; refine WO.out.mono ?_; rintro r W1 ⟨K1, kd, kl, kc, rfl, lv⟩; have LV1 := hid lv; clear lv)
  clear z0 z1 z2 z3 z4 z5 z6 z7 x0 x1 x2 x3 x4 WO
  obtain ⟨K6, hK6⟩ : ∃ K6, K6 = W1.heap.size := ⟨_, rfl⟩
  obtain ⟨W2, hW2⟩ : ∃ W2, W2 = W1.alloc (.cells #[.slice (kd 0) (kl 0) (kc 0), .slice (kd 1) (kl 1) (kc 1), .slice (kd 2) (kl 2) (kc 2), .slice (kd 3) (kl 3) (kc 3), .slice (kd 4) (kl 4) (kc 4)] 26) := ⟨_, rfl⟩
  have L2 : Hid (LvS W0 W2 K6 (keptX gs X) kd kl kc) := hid (LV1.out.moved (by rw [hW2]; exact (Fr.refl _ _).alloc _) (by rw [hW2, hK6]; exact blk_new _ _) (by rw [hK6]; exact LV1.out.fr.size))
  rw [← hW2, ← hK6]
  clear hW2 hK6 LV1
  have B2 := hid (B0.out.fr' L2.out.fr)
  cases hdd : decide (dcnt gs X 5 = gs.length) with
  | false =>
    have HD0 : Hid (dcnt gs X 5 ≠ gs.length) := hid (of_decide_eq_false hdd)
    clear hdd
    obtain ⟨q0, q1, q2, q3, q4, q5, q6, q7⟩ := vn_cells B2.out.n2
    have qf0 := blk_frozen B2.out.n2 0
    have qf1 := blk_frozen B2.out.n2 1
    have qf2 := blk_frozen B2.out.n2 2
    have qf3 := blk_frozen B2.out.n2 3
    have qf4 := blk_frozen B2.out.n2 4
    have qf5 := blk_frozen B2.out.n2 5
    have qf6 := blk_frozen B2.out.n2 6
    have qf7 := blk_frozen B2.out.n2 7
    go_wp2_with fail
    refine bodyPost_ret (ret_ct9 rfl (g := w.heap.size + 1 + 1) (by simp) (load46k (by rw [blk_set (blk_set (blk_set (blk_set (blk_set (blk_set (blk_set (blk_set B2.out.n2 0 _) 1 _) 2 _) 3 _) 4 _) 5 _) 6 _) 7 _]; rfl))) rfl ?_
    exact ⟨(((((((B2.out.fr.set _ _ (.inr (by omega))).set _ _ (.inr (by omega))).set _ _ (.inr (by omega))).set _ _ (.inr (by omega))).set _ _ (.inr (by omega))).set _ _ (.inr (by omega))).set _ _ (.inr (by omega))).set _ _ (.inr (by omega)), .inl ⟨HD0.out, rfl⟩⟩
  | true =>
    have HD1 : Hid (dcnt gs X 5 = gs.length) := hid (of_decide_eq_true hdd)
    clear hdd
    obtain ⟨z0, z1, z2, z3, z4, z5, z6, z7⟩ := vn_cells B2.out.n0
    obtain ⟨x0, x1, x2, x3, x4⟩ := ed5_cells B2.out.n1
    by_cases hbk : el < vl ∨ en < vn ∨ es < vs
    · have HB := hid hbk
      have hc : el < vl ∨ (vl ≤ el ∧ en < vn) ∨ (vl ≤ el ∧ vn ≤ en ∧ (es : Int) < (vs : Int)) := by omega
      clear hbk
      rcases hc with h1 | ⟨h1, h2⟩ | ⟨h1, h2, h3⟩
      · obtain ⟨q0, q1, q2, q3, q4, q5, q6, q7⟩ := vn_cells B2.out.n2
        have qf0 := blk_frozen B2.out.n2 0
        have qf1 := blk_frozen B2.out.n2 1
        have qf2 := blk_frozen B2.out.n2 2
        have qf3 := blk_frozen B2.out.n2 3
        have qf4 := blk_frozen B2.out.n2 4
        have qf5 := blk_frozen B2.out.n2 5
        have qf6 := blk_frozen B2.out.n2 6
        have qf7 := blk_frozen B2.out.n2 7
        go_wp2_with fail
        refine bodyPost_ret (ret_ct9 rfl (g := w.heap.size + 1 + 1) (by simp) (load46k (by rw [blk_set (blk_set (blk_set (blk_set (blk_set (blk_set (blk_set (blk_set B2.out.n2 0 _) 1 _) 2 _) 3 _) 4 _) 5 _) 6 _) 7 _]; rfl))) rfl ?_
        exact ⟨(((((((B2.out.fr.set _ _ (.inr (by omega))).set _ _ (.inr (by omega))).set _ _ (.inr (by omega))).set _ _ (.inr (by omega))).set _ _ (.inr (by omega))).set _ _ (.inr (by omega))).set _ _ (.inr (by omega))).set _ _ (.inr (by omega)), .inr (.inl ⟨HD1.out, HB.out, rfl⟩)⟩
      · obtain ⟨q0, q1, q2, q3, q4, q5, q6, q7⟩ := vn_cells B2.out.n2
        have qf0 := blk_frozen B2.out.n2 0
        have qf1 := blk_frozen B2.out.n2 1
        have qf2 := blk_frozen B2.out.n2 2
        have qf3 := blk_frozen B2.out.n2 3
        have qf4 := blk_frozen B2.out.n2 4
        have qf5 := blk_frozen B2.out.n2 5
        have qf6 := blk_frozen B2.out.n2 6
        have qf7 := blk_frozen B2.out.n2 7
        go_wp2_with fail
        refine bodyPost_ret (ret_ct9 rfl (g := w.heap.size + 1 + 1) (by simp) (load46k (by rw [blk_set (blk_set (blk_set (blk_set (blk_set (blk_set (blk_set (blk_set B2.out.n2 0 _) 1 _) 2 _) 3 _) 4 _) 5 _) 6 _) 7 _]; rfl))) rfl ?_
        exact ⟨(((((((B2.out.fr.set _ _ (.inr (by omega))).set _ _ (.inr (by omega))).set _ _ (.inr (by omega))).set _ _ (.inr (by omega))).set _ _ (.inr (by omega))).set _ _ (.inr (by omega))).set _ _ (.inr (by omega))).set _ _ (.inr (by omega)), .inr (.inl ⟨HD1.out, HB.out, rfl⟩)⟩
      · obtain ⟨q0, q1, q2, q3, q4, q5, q6, q7⟩ := vn_cells B2.out.n2
        have qf0 := blk_frozen B2.out.n2 0
        have qf1 := blk_frozen B2.out.n2 1
        have qf2 := blk_frozen B2.out.n2 2
        have qf3 := blk_frozen B2.out.n2 3
        have qf4 := blk_frozen B2.out.n2 4
        have qf5 := blk_frozen B2.out.n2 5
        have qf6 := blk_frozen B2.out.n2 6
        have qf7 := blk_frozen B2.out.n2 7
        go_wp2_with fail
        refine bodyPost_ret (ret_ct9 rfl (g := w.heap.size + 1 + 1) (by simp) (load46k (by rw [blk_set (blk_set (blk_set (blk_set (blk_set (blk_set (blk_set (blk_set B2.out.n2 0 _) 1 _) 2 _) 3 _) 4 _) 5 _) 6 _) 7 _]; rfl))) rfl ?_
        exact ⟨(((((((B2.out.fr.set _ _ (.inr (by omega))).set _ _ (.inr (by omega))).set _ _ (.inr (by omega))).set _ _ (.inr (by omega))).set _ _ (.inr (by omega))).set _ _ (.inr (by omega))).set _ _ (.inr (by omega))).set _ _ (.inr (by omega)), .inr (.inl ⟨HD1.out, HB.out, rfl⟩)⟩
    · have HB := hid hbk
      have h1 : ¬ el < vl := by omega
      have h2 : ¬ en < vn := by omega
      have h3 : ¬ es < vs := by omega
      clear hbk
      go_upto_region 6 with fail
      go_wp2_with fail
      clear z0 z1 z2 z3 z4 z5 z6 z7 x0 x1 x2 x3 x4 h1 h2 h3
      go_loopw [48] (fun v48 wr => ∃ (j : Nat) (kd : Nat → Option Addr) (kl kc : Nat → Nat), j ≤ al ∧ v48 = .int .i64 (j : Int) ∧ LvS W0 wr K6 (addS (keptX gs X) (qs.take j)) kd kl kc) (fun v48 _ => al - (intOf v48).toNat)
      case atStart => exact ⟨0, kd, kl, kc, by omega, rfl, L2.out⟩
      case round =>
        obtain ⟨j, kd, kl, kc, hj, rfl, hlv⟩ := hrel
        have LV := hid hlv
        clear hlv L2 B2
        by_cases hlt : j < al
        · have hlt' : (j : Int) < (al : Int) := by omega
          obtain ⟨p, hp⟩ : ∃ p, qs[j]? = some p := ⟨_, List.getElem?_eq_getElem (by rw [← HQL.out]; exact hlt)⟩
          have hl5 := HQ5.out p (List.mem_of_getElem? hp)
          obtain ⟨b, off, hab, m1⟩ := HQ.out.2 (by omega)
          subst hab
          obtain ⟨k1, k2⟩ := m1 j p hp
          have HPJ := hid hp
          obtain ⟨l, x⟩ := p
          dsimp only at hl5 k1 k2
          have x0 := cell_fr LV.out.fr k1
          have k3 := k2.fr LV.out.fr
          obtain ⟨x1, x2, x3, x4, xr⟩ := k3
          clear m1 hp k1 k2 xr
          have hl5' : (l : Int) < 5 := by omega
          obtain ⟨P, hP⟩ : ∃ P, P = wr.heap.size := ⟨_, rfl⟩
          obtain ⟨W8, hW8⟩ : ∃ W8, W8 = wr.alloc (.cells #[.int .i64 (l : Int), .int .i64 x.f.num, .int .i64 x.f.size, .slice x.la x.f.least.length x.lc, .slice x.ma x.f.most.length x.mc] 64) := ⟨_, rfl⟩
          have f8 : Fr [] wr W8 := by rw [hW8]; exact (Fr.refl _ _).alloc _
          have NP8 : Hid (W8.heap[P]? = some (.cells #[.int .i64 (l : Int), .int .i64 x.f.num, .int .i64 x.f.size, .slice x.la x.f.least.length x.lc, .slice x.ma x.f.most.length x.mc] 64 (0, 0))) := hid (by rw [hW8, hP]; exact blk_new _ _)
          obtain ⟨Y, hY⟩ : ∃ Y, Y = addS (keptX gs X) (qs.take j) := ⟨_, rfl⟩
          have HYL : Hid ((Y l).length ≤ 1000) := hid (by
            rw [hY]
            have a1 := addS_len (keptX gs X) (qs.take j) l
            have a2 := keptX_len (gs := gs) (X := X) l
            have a3 := HXL.out l hl5
            have a4 : (qs.take j).length ≤ qs.length := by simp [List.length_take]; omega
            have a5 := HQL.out
            omega)
          have HYE : Hid (addS (keptX gs X) (qs.take (j + 1)) = upA Y l (Y l ++ [x])) := hid (by rw [hY]; exact addS_take _ HPJ.out)
          have I8 := hid (LV.out.fr' f8)
          rw [← hY] at I8
          clear hY f8 LV
          go_upto_region 9 with fail
          rw [← hW8, ← hP]
          clear hW8 hP x0 x1 x2 x3 x4
          obtain ⟨kdi, hkdi⟩ : ∃ kdi, kdi = kd l := ⟨_, rfl⟩
          obtain ⟨kli, hkli⟩ : ∃ kli, kli = kl l := ⟨_, rfl⟩
          obtain ⟨kci, hkci⟩ : ∃ kci, kci = kc l := ⟨_, rfl⟩
          have hki1 : kli ≤ 1000000 := by rw [hkli, I8.out.len l hl5]; have := HYL.out; omega
          have NP : Hid (W8.drew.heap[P]? = some (.cells #[.int .i64 (l : Int), .int .i64 x.f.num, .int .i64 x.f.size, .slice x.la x.f.least.length x.lc, .slice x.ma x.f.most.length x.mc] 64 (0, 0))) := hid NP8.out
          obtain ⟨wa, hwa⟩ : ∃ wa, wa = W8.drew := ⟨_, rfl⟩
          have fa : Fr [] W8 wa := by rw [hwa]; exact (Fr.refl _ _).drew
          have IA := hid (I8.out.fr' fa)
          obtain ⟨wb, hwb⟩ : ∃ wb, wb = wa.alloc (.cells #[.int .i64 x.f.num, .int .i64 x.f.size, .slice x.la x.f.least.length x.lc, .slice x.ma x.f.most.length x.mc] 62) := ⟨_, rfl⟩
          have fb : Fr [] wa wb := by rw [hwb]; exact (Fr.refl _ _).alloc _
          have IB := hid (IA.out.fr' fb)
          have N2 : Hid (wb.heap[P]? = some (.cells #[.int .i64 (l : Int), .int .i64 x.f.num, .int .i64 x.f.size, .slice x.la x.f.least.length x.lc, .slice x.ma x.f.most.length x.mc] 64 (0, 0))) := hid (fb.at (fa.at NP8.out (by simp)) (by simp))
          have NG : Hid (wb.heap[W8.heap.size]? = some (.cells #[.int .i64 x.f.num, .int .i64 x.f.size, .slice x.la x.f.least.length x.lc, .slice x.ma x.f.most.length x.mc] 62 (0, 0))) := hid (by rw [hwb]; exact new_at _ _ (by rw [hwa]; rfl))
          have OW : Hid (wb.ownsRow W0.heap.size 62 4 (.slice kdi kli kci) kli ((Y l).flatMap encX)) := hid (by rw [hkdi, hkli, hkci]; have := IB.out.own l hl5; rw [← I8.out.len l hl5] at this; exact this)
          have FS : Hid (W0.heap.size ≤ wb.heap.size) := hid IB.out.fr.size
          have PA : Hid (∀ w6, wb.grownBy w6 (Value.slice kdi kli kci).ownBlock → w6.heap[P]? = some (.cells #[.int .i64 (l : Int), .int .i64 x.f.num, .int .i64 x.f.size, .slice x.la x.f.least.length x.lc, .slice x.ma x.f.most.length x.mc] 64 (0, 0))) := hid (fun w6 g6 => by
            rw [g6.block P (blk_lt N2.out) (fun e => own_not OW.out N2.out (by decide) e.symm)]; exact N2.out)
          have PS : Hid (∀ (w6 : World) (v : Value), w6.heap[P]? = some (.cells #[.int .i64 (l : Int), .int .i64 x.f.num, .int .i64 x.f.size, .slice x.la x.f.least.length x.lc, .slice x.ma x.f.most.length x.mc] 64 (0, 0)) → (w6.setCell ⟨K6, l, none⟩ v).heap[P]? = some (.cells #[.int .i64 (l : Int), .int .i64 x.f.num, .int .i64 x.f.size, .slice x.la x.f.least.length x.lc, .slice x.ma x.f.most.length x.mc] 64 (0, 0))) := hid (fun w6 v h => by
            rw [blk_setne _ _ _ (fun e => by
              subst e
              have h1 := IB.out.blk
              rw [N2.out] at h1
              simp at h1)]; exact h)
          have AF : Hid (∀ w6, wb.grownBy w6 (Value.slice kdi kli kci).ownBlock → w6.frozen? ⟨K6, l, none⟩ = false ∧ w6.cell? ⟨K6, l, none⟩ = some (.slice kdi kli kci)) := hid (fun w6 g6 => by
            have hb6 : w6.heap[K6]? = some (.cells (five kd kl kc) 26 (0, 0)) := by rw [g6.block K6 (blk_lt IB.out.blk) (fun e => own_not OW.out IB.out.blk (by decide) e.symm)]; exact IB.out.blk
            exact ⟨blk_frozen hb6 l, by rw [blk_cell hb6, hkdi, hkli, hkci]; exact five_at _ _ _ hl5⟩)
          have AP : Hid (∀ a6 c6 w6, w6.ownsRow W0.heap.size 62 4 (.slice a6 (kli + 1) c6) (kli + 1) ((Y l).flatMap encX ++ encX x) → wb.grownBy w6 (Value.slice kdi kli kci).ownBlock → ((Value.slice a6 (kli + 1) c6).ownBlock = (Value.slice kdi kli kci).ownBlock ∨ (Value.slice a6 (kli + 1) c6).ownBlock = some wb.heap.size) → LvS W0 (w6.setCell ⟨K6, l, none⟩ (.slice a6 (kli + 1) c6)) K6 (upA Y l (Y l ++ [x])) (upA kd l a6) (upA kl l (kli + 1)) (upA kc l c6)) := hid (fun a6 c6 w6 o6 g6 q6 => by
            rw [hkdi, hkli, hkci] at g6 q6
            rw [hkli] at o6 ⊢
            refine IB.out.app hl5 (by rw [I8.out.len l hl5]) ?_ g6 q6
            rw [I8.out.len l hl5] at o6 ⊢
            exact o6)
          have za : wa.cell? ⟨K6, l, none⟩ = some (.slice kdi kli kci) := by rw [hkdi, hkli, hkci]; exact IA.out.cell hl5
          have zb : wb.cell? ⟨K6, l, none⟩ = some (.slice kdi kli kci) := by rw [hkdi, hkli, hkci]; exact IB.out.cell hl5
          rw [hwa] at za
          clear hkdi hkli hkci fa fb
          subst hwb
          subst hwa
          have zb2 : (W8.alloc (.cells #[.int .i64 x.f.num, .int .i64 x.f.size, .slice x.la x.f.least.length x.lc, .slice x.ma x.f.most.length x.mc] 62)).drew.cell? ⟨K6, l, none⟩ = some (.slice kdi kli kci) := zb
          refine wp_region_held_drew (S := fun w' => w'.heap[P]? = some (.cells #[.int .i64 (l : Int), .int .i64 x.f.num, .int .i64 x.f.size, .slice x.la x.f.least.length x.lc, .slice x.ma x.f.most.length x.mc] 64 (0, 0))) (by kernel_rfl) NP.out (fun hS => ?_)
          refine wpAnyH_take (i := 0) (v := .pointer (some ⟨P, 0, none⟩)) rfl (by kernel_rfl) (by kernel_rfl) (by kernel_rfl) (fun _ _ _ h => h) (.inl ⟨by rfl, fun wx _ => by go_simp⟩) hS ?_
          simp only [Act.put]
          refine wpAnyH_take (i := 1) (v := .int .i64 (l : Int)) rfl (by kernel_rfl) (by kernel_rfl) (by kernel_rfl) (fun _ _ _ h => h) (.inl ⟨by rfl, fun wx hX => by obtain ⟨s0, s1, s2, s3, s4⟩ := ed5_cells hX; go_simp⟩) hS ?_
          simp only [Act.put]
          refine wpAnyH_take (i := 2) (v := .pointer (some ⟨P, 0, none⟩)) rfl (by kernel_rfl) (by kernel_rfl) (by kernel_rfl) (fun _ _ _ h => h) (.inl ⟨by rfl, fun wx _ => by go_simp⟩) hS ?_
          simp only [Act.put]
          refine wpAnyH_take (i := 3) (v := .int .i64 (l : Int)) rfl (by kernel_rfl) (by kernel_rfl) (by kernel_rfl) (fun _ _ _ h => h) (.inl ⟨by rfl, fun wx hX => by obtain ⟨s0, s1, s2, s3, s4⟩ := ed5_cells hX; go_simp⟩) hS ?_
          simp only [Act.put]
          refine wpAnyH_take (i := 4) (v := .pointer (some ⟨K6, l, none⟩)) rfl (by kernel_rfl) (by kernel_rfl) (by kernel_rfl) (fun _ _ _ h => h) (.inl ⟨by rfl, fun wx _ => by go_simp⟩) hS ?_
          simp only [Act.put]
          refine wpAnyH_take (i := 6) (v := .pointer (some ⟨P, 1, none⟩)) rfl (by kernel_rfl) (by kernel_rfl) (by kernel_rfl) (fun _ _ _ h => h) (.inl ⟨by rfl, fun wx _ => by go_simp⟩) hS ?_
          simp only [Act.put]
          refine wpAnyH_take (i := 7) (v := .agg #[.int .i64 x.f.num, .int .i64 x.f.size, .slice x.la x.f.least.length x.lc, .slice x.ma x.f.most.length x.mc]) rfl (by kernel_rfl) (by kernel_rfl) (by kernel_rfl) (fun _ _ _ h => h) (.inl ⟨by rfl, fun wx hX => by obtain ⟨s0, s1, s2, s3, s4⟩ := ed5_cells hX; go_simp⟩) hS ?_
          simp only [Act.put]
          clear hS
          refine wpAnyH_ready (rs := [5, 8]) (by kernel_rfl) (by simp) ?_
          refine AllReadyH.cons rfl (fun K hK => ?_) (AllReadyH.cons rfl (fun K hK => ?_) AllReadyH.nil)
          · go_simp
            refine hK.out _ _ NP.out (fun _ => ?_)
            clear hK K
            refine wpAnyH_ready (rs := [8]) (by kernel_rfl) (by simp) ?_
            refine AllReadyH.cons rfl (fun K hK => ?_) AllReadyH.nil
            refine step_buildF rfl (.tmp 59) rfl (x := x) (by first | (simp [Act.eval]; done) | simp [Act.eval, Act.put]) ?_
            refine hK.out _ _ N2.out (fun _ => ?_)
            clear hK K
            refine wpAnyH_ready (rs := [9]) (by kernel_rfl) (by simp) ?_
            refine AllReadyH.cons rfl (fun K hK => ?_) AllReadyH.nil
            refine step_appF rfl (.tmp 57) (.tmp 60) rfl W0.heap.size (ad := kdi) (n := kli) (c := kci) (xs := (Y l).flatMap encX) (by first | (simp [Act.eval]; done) | simp [Act.eval, Act.put]) OW.out (G := W8.heap.size) (by first | (simp [Act.eval]; done) | simp [Act.eval, Act.put]) (x := x) NG.out hki1 FS.out ?_
            intro a6 c6 w6 o6 g6 q6
            have P6 := hid (PA.out w6 g6)
            refine hK.out _ _ P6.out (fun _ => ?_)
            clear hK K
            have A6 := hid (AP.out a6 c6 w6 o6 g6 q6)
            have kf := (AF.out w6 g6).1
            have kq := (AF.out w6 g6).2
            clear o6 g6 q6
            refine wpAnyH_ready (rs := [10]) (by kernel_rfl) (by simp) ?_
            refine AllReadyH.cons rfl (fun K hK => ?_) AllReadyH.nil
            go_simp
            refine hK.out _ _ P6.out (fun _ => ?_)
            clear hK K
            refine wpAnyH_ready (rs := [11]) (by kernel_rfl) (by simp) ?_
            refine AllReadyH.cons rfl (fun K hK => ?_) AllReadyH.nil
            go_simp
            refine hK.out _ _ (PS.out _ _ P6.out) (fun _ => ?_)
            clear hK K
            refine wpAnyH_done (by kernel_rfl) ?_ _
            go_wp2_with fail
            go_roundw
            case rel => exact ⟨j + 1, _, _, _, by omega, by go_num, by rw [HYE.out]; exact A6.out⟩
            case measure => simp [intOf]; omega
          · refine step_buildF rfl (.tmp 59) rfl (x := x) (by first | (simp [Act.eval]; done) | simp [Act.eval, Act.put]) ?_
            refine hK.out _ _ N2.out (fun _ => ?_)
            clear hK K
            refine wpAnyH_ready (rs := [5]) (by kernel_rfl) (by simp) ?_
            refine AllReadyH.cons rfl (fun K hK => ?_) AllReadyH.nil
            go_simp
            refine hK.out _ _ N2.out (fun _ => ?_)
            clear hK K
            refine wpAnyH_ready (rs := [9]) (by kernel_rfl) (by simp) ?_
            refine AllReadyH.cons rfl (fun K hK => ?_) AllReadyH.nil
            refine step_appF rfl (.tmp 57) (.tmp 60) rfl W0.heap.size (ad := kdi) (n := kli) (c := kci) (xs := (Y l).flatMap encX) (by first | (simp [Act.eval]; done) | simp [Act.eval, Act.put]) OW.out (G := W8.heap.size) (by first | (simp [Act.eval]; done) | simp [Act.eval, Act.put]) (x := x) NG.out hki1 FS.out ?_
            intro a6 c6 w6 o6 g6 q6
            have P6 := hid (PA.out w6 g6)
            refine hK.out _ _ P6.out (fun _ => ?_)
            clear hK K
            have A6 := hid (AP.out a6 c6 w6 o6 g6 q6)
            have kf := (AF.out w6 g6).1
            have kq := (AF.out w6 g6).2
            clear o6 g6 q6
            refine wpAnyH_ready (rs := [10]) (by kernel_rfl) (by simp) ?_
            refine AllReadyH.cons rfl (fun K hK => ?_) AllReadyH.nil
            go_simp
            refine hK.out _ _ P6.out (fun _ => ?_)
            clear hK K
            refine wpAnyH_ready (rs := [11]) (by kernel_rfl) (by simp) ?_
            refine AllReadyH.cons rfl (fun K hK => ?_) AllReadyH.nil
            go_simp
            refine hK.out _ _ (PS.out _ _ P6.out) (fun _ => ?_)
            clear hK K
            refine wpAnyH_done (by kernel_rfl) ?_ _
            go_wp2_with fail
            go_roundw
            case rel => exact ⟨j + 1, _, _, _, by omega, by go_num, by rw [HYE.out]; exact A6.out⟩
            case measure => simp [intOf]; omega
        · have hjn : j = al := by omega
          subst hjn
          rw [HQL.out, List.take_length] at LV
          obtain ⟨A, hA⟩ : ∃ A, A = addS (keptX gs X) qs := ⟨_, rfl⟩
          have HAR : Hid (∀ i, i < 5 → ∀ x ∈ A i, RX W0 x) := hid (fun i hi x hx => by
            rw [hA] at hx
            rcases addS_mem hx with h | ⟨p, hp, rfl⟩
            · exact HXR.out i hi x (List.mem_filter.1 h).1
            · exact HQR.out p hp)
          have HAL : Hid (∀ i, i < 5 → (A i).length ≤ 1000) := hid (fun i hi => by
            rw [hA]
            have a1 := addS_len (keptX gs X) qs i
            have a2 := keptX_len (gs := gs) (X := X) i
            have a3 := HXL.out i hi
            have a5 := HQL.out
            omega)
          have HAE := hid hA
          rw [← hA] at LV
          clear hA
          have HIX : Hid (∀ i : Nat, i < 5 → ∀ W : World, (Instr.index 26 (.agg #[.slice (kd 0) (kl 0) (kc 0), .slice (kd 1) (kl 1) (kc 1), .slice (kd 2) (kl 2) (kc 2), .slice (kd 3) (kl 3) (kc 3), .slice (kd 4) (kl 4) (kc 4)]) (.int .i64 (i : Int))).run Tryz.prog W = .ok (.slice (kd i) (kl i) (kc i)) W) := hid (fun i hi W => ixs hi kd kl kc W)
          obtain ⟨z0, z1, z2, z3, z4⟩ : wr.cell? ⟨K6, 0, none⟩ = some (.slice (kd 0) (kl 0) (kc 0)) ∧ wr.cell? ⟨K6, 1, none⟩ = some (.slice (kd 1) (kl 1) (kc 1)) ∧ wr.cell? ⟨K6, 2, none⟩ = some (.slice (kd 2) (kl 2) (kc 2)) ∧ wr.cell? ⟨K6, 3, none⟩ = some (.slice (kd 3) (kl 3) (kc 3)) ∧ wr.cell? ⟨K6, 4, none⟩ = some (.slice (kd 4) (kl 4) (kc 4)) := ⟨LV.out.cell (by omega), LV.out.cell (by omega), LV.out.cell (by omega), LV.out.cell (by omega), LV.out.cell (by omega)⟩
          go_wp2_with fail
          clear z0 z1 z2 z3 z4
          go_loopw [65] (fun v65 wr => ∃ (i : Nat) (Y : Nat → List Fx), i ≤ 5 ∧ v65 = .int .i64 (i : Int) ∧ (∀ k, k < 5 → (Y k).Perm (A k)) ∧ (∀ k, k < i → SortX k (Y k)) ∧ LvS W0 wr K6 Y kd kl kc) (fun v65 _ => 5 - (intOf v65).toNat)
          case atStart => exact ⟨0, A, by omega, rfl, fun k _ => List.Perm.refl _, fun k hk => by omega, LV.out⟩
          case round =>
            obtain ⟨i, Y, hi, rfl, hp, hs, hlv⟩ := hrel
            have HP := hid hp
            have HS := hid hs
            have LY := hid hlv
            clear hp hs hlv LV
            have HYL : Hid (∀ k, k < 5 → (Y k).length ≤ 1000) := hid (fun k hk => by rw [(HP.out k hk).length_eq]; exact HAL.out k hk)
            have HYR : Hid (∀ k, k < 5 → ∀ x ∈ Y k, RX W0 x) := hid (fun k hk x hx => HAR.out k hk x ((HP.out k hk).mem_iff.1 hx))
            by_cases hlt5 : i < 5
            · have hlt' : (i : Int) < 5 := by omega
              have ixi := HIX.out i hlt5
              have OO : Hid (∀ W : World, Calls Tryz.prog 33 #[.int .i64 (i : Int)] W fun r w' => r = .returned (.func (.func (cmpG i)) #[] #[]) ∧ w' = W) := hid (fun W => by
                unfold cmpG
                by_cases h0 : i = 0
                · subst h0; exact orderOf_0 W
                · rw [if_neg h0]; exact orderOf_1 W (by omega))
              have SC := hid (sort_c W0 wr i (LY.out.len i hlt5) (LY.out.own i hlt5) LY.out.fr (HYR.out i hlt5) (by rw [LY.out.len i hlt5]; have := HYL.out i hlt5; omega))
              have SR : Hid (∀ (ys : List Fx) (W' : World), ys.length = (Y i).length → W'.ownsRow W0.heap.size 62 4 (.slice (kd i) (kl i) (kc i)) ys.length (ys.flatMap encX) → wr.grownBy W' (Value.slice (kd i) (kl i) (kc i)).ownBlock → Fr [] W0 W' → LvS W0 W' K6 (upA Y i ys) kd kl kc) := hid (fun ys W' h1 h2 h3 h4 => LY.out.sorted hlt5 h1 h2 h3 h4)
              obtain ⟨kdi, hkdi⟩ : ∃ kdi, kdi = kd i := ⟨_, rfl⟩
              obtain ⟨kli, hkli⟩ : ∃ kli, kli = kl i := ⟨_, rfl⟩
              obtain ⟨kci, hkci⟩ : ∃ kci, kci = kc i := ⟨_, rfl⟩
              rw [← hkdi, ← hkli, ← hkci] at ixi SC SR
              clear hkdi hkli hkci
              generalize cmpG i = gi at *
              go_wp2_with (first
                | (go_at_call 33; refine (OO.out _).mono ?_; rintro r W3 ⟨rfl, h⟩; rw [h]; clear h)
                | (go_at_call 32; refine SC.out.mono ?_; rintro r W4 ⟨rfl, ys, p4, s4, o4, g4, f4⟩; have L4 := hid (SR.out ys W4 p4.length_eq o4 g4 f4); have P4 := hid p4; have S4 := hid s4; clear p4 s4 o4 g4 f4))
              go_roundw
              case rel => exact ⟨i + 1, upA Y i ys, by omega, by go_num, fun k hk => by
                by_cases e : k = i
                · subst e; rw [upA_same]; exact P4.out.trans (HP.out k hk)
                · rw [upA_ne _ _ e]; exact HP.out k hk, fun k hk => by
                by_cases e : k = i
                · subst e; rw [upA_same]; exact S4.out
                · rw [upA_ne _ _ e]; exact HS.out k (by omega), L4.out⟩
              case measure => simp [intOf]; omega
            · have hin : i = 5 := by omega
              subst hin
              clear HIX
              have BY := hid (B0.out.fr' LY.out.fr)
              obtain ⟨z0, z1, z2, z3, z4⟩ : wr.cell? ⟨K6, 0, none⟩ = some (.slice (kd 0) (kl 0) (kc 0)) ∧ wr.cell? ⟨K6, 1, none⟩ = some (.slice (kd 1) (kl 1) (kc 1)) ∧ wr.cell? ⟨K6, 2, none⟩ = some (.slice (kd 2) (kl 2) (kc 2)) ∧ wr.cell? ⟨K6, 3, none⟩ = some (.slice (kd 3) (kl 3) (kc 3)) ∧ wr.cell? ⟨K6, 4, none⟩ = some (.slice (kd 4) (kl 4) (kc 4)) := ⟨LY.out.cell (by omega), LY.out.cell (by omega), LY.out.cell (by omega), LY.out.cell (by omega), LY.out.cell (by omega)⟩
              obtain ⟨x0, x1, x2, x3, x4⟩ := ed5_cells BY.out.n1
              obtain ⟨P7, hP7⟩ : ∃ P7, P7 = wr.heap.size := ⟨_, rfl⟩
              obtain ⟨W7, hW7⟩ : ∃ W7, W7 = wr.alloc (.cells #[.int .i64 el, .int .i64 en, .int .u64 (es : Int), .slice (kd 0) (kl 0) (kc 0), .slice (kd 1) (kl 1) (kc 1), .slice (kd 2) (kl 2) (kc 2), .slice (kd 3) (kl 3) (kc 3), .slice (kd 4) (kl 4) (kc 4)] 28) := ⟨_, rfl⟩
              have f7 : Fr [] wr W7 := by rw [hW7]; exact (Fr.refl _ _).alloc _
              have L7 := hid (LY.out.fr' f7)
              have N7 : Hid (W7.heap[P7]? = some (.cells #[.int .i64 el, .int .i64 en, .int .u64 (es : Int), .slice (kd 0) (kl 0) (kc 0), .slice (kd 1) (kl 1) (kc 1), .slice (kd 2) (kl 2) (kc 2), .slice (kd 3) (kl 3) (kc 3), .slice (kd 4) (kl 4) (kc 4)] 28 (0, 0))) := hid (by rw [hW7, hP7]; exact blk_new _ _)
              have hne7 : P7 ≠ w.heap.size + 1 + 1 := by have := blk_lt BY.out.n2; omega
              have CK := hid (check_c W7 (v := vnX el en es Y) (L7.out.vat HYR.out (fun k hk => by have := HYL.out k hk; omega)))
              have HOUT : Hid (∀ i, i < 5 → (Y i).Perm (addS (keptX gs X) qs i) ∧ SortX i (Y i)) := hid (fun i hi => ⟨by rw [← HAE.out]; exact HP.out i hi, HS.out i hi⟩)
              go_upto_region 17 with fail
              rw [← hW7, ← hP7]
              clear hW7 hP7 z0 z1 z2 z3 z4 x0 x1 x2 x3 x4 f7 BY LY
              obtain ⟨z0, z1, z2, z3, z4, z5, z6, z7⟩ := vn_cells N7.out
              obtain ⟨C, hC⟩ : ∃ C, C = chkV (vnX el en es Y) := ⟨_, rfl⟩
              have HC := hid hC
              rw [← hC] at CK
              clear hC
              go_upto_region 18 with (go_at_call 21; refine CK.out.mono ?_; rintro r W9 ⟨rfl, f9⟩; have F9 := hid f9; clear f9)
              clear z0 z1 z2 z3 z4 z5 z6 z7 CK
              have B9 := hid (B0.out.fr' (L7.out.fr.trans F9.out))
              by_cases hC0 : C = 0
              · subst hC0
                have L9 := hid (L7.out.fr' F9.out)
                have N9 := hid (F9.out.at N7.out (by simp))
                obtain ⟨z0, z1, z2, z3, z4, z5, z6, z7⟩ := vn_cells N9.out
                have qf0 := blk_frozen B9.out.n2 0
                have qf1 := blk_frozen B9.out.n2 1
                have qf2 := blk_frozen B9.out.n2 2
                have qf3 := blk_frozen B9.out.n2 3
                have qf4 := blk_frozen B9.out.n2 4
                have qf5 := blk_frozen B9.out.n2 5
                have qf6 := blk_frozen B9.out.n2 6
                have qf7 := blk_frozen B9.out.n2 7
                obtain ⟨q0, q1, q2, q3, q4, q5, q6, q7⟩ := vn_cells B9.out.n2
                go_wp2_with fail
                refine bodyPost_ret (ret_ct9 rfl (g := w.heap.size + 1 + 1) (by simp) (load46k (by rw [blk_set (blk_set (blk_set (blk_set (blk_set (blk_set (blk_set (blk_set B9.out.n2 0 _) 1 _) 2 _) 3 _) 4 _) 5 _) 6 _) 7 _]; rfl))) rfl ?_
                have hT : 28 ≠ 62 := by decide
                have LL := L9.out.base B0.out.fr
                have hkk : w.heap.size + 1 + 1 ≠ K6 := fun e => by have h1 := L9.out.blk; rw [← e, B9.out.n2] at h1; simp at h1
                have LZ := (((((((LL.setO 0 (.int .i64 el) hkk (by omega) B9.out.n2 hT).setO 1 (.int .i64 en) hkk (by omega) (blk_set B9.out.n2 0 _) hT).setO 2 (.int .u64 (es : Int)) hkk (by omega) (blk_set (blk_set B9.out.n2 0 _) 1 _) hT).setO 3 (.slice (kd 0) (kl 0) (kc 0)) hkk (by omega) (blk_set (blk_set (blk_set B9.out.n2 0 _) 1 _) 2 _) hT).setO 4 (.slice (kd 1) (kl 1) (kc 1)) hkk (by omega) (blk_set (blk_set (blk_set (blk_set B9.out.n2 0 _) 1 _) 2 _) 3 _) hT).setO 5 (.slice (kd 2) (kl 2) (kc 2)) hkk (by omega) (blk_set (blk_set (blk_set (blk_set (blk_set B9.out.n2 0 _) 1 _) 2 _) 3 _) 4 _) hT).setO 6 (.slice (kd 3) (kl 3) (kc 3)) hkk (by omega) (blk_set (blk_set (blk_set (blk_set (blk_set (blk_set B9.out.n2 0 _) 1 _) 2 _) 3 _) 4 _) 5 _) hT).setO 7 (.slice (kd 4) (kl 4) (kc 4)) hkk (by omega) (blk_set (blk_set (blk_set (blk_set (blk_set (blk_set (blk_set B9.out.n2 0 _) 1 _) 2 _) 3 _) 4 _) 5 _) 6 _) hT
                exact ⟨LZ.fr, .inr (.inr ⟨HD1.out, HB.out, Y, HOUT.out, .inr ⟨HC.out.symm, K6, kd, kl, kc, rfl, LZ⟩⟩)⟩
              · have hC1 : (C == 0) = false := by simpa using hC0
                have HC0 := hid hC0
                clear hC0
                obtain ⟨q0, q1, q2, q3, q4, q5, q6, q7⟩ := vn_cells B9.out.n2
                have qf0 := blk_frozen B9.out.n2 0
                have qf1 := blk_frozen B9.out.n2 1
                have qf2 := blk_frozen B9.out.n2 2
                have qf3 := blk_frozen B9.out.n2 3
                have qf4 := blk_frozen B9.out.n2 4
                have qf5 := blk_frozen B9.out.n2 5
                have qf6 := blk_frozen B9.out.n2 6
                have qf7 := blk_frozen B9.out.n2 7
                go_wp2_with fail
                refine bodyPost_ret (ret_ct9 rfl (g := w.heap.size + 1 + 1) (by simp) (load46k (by rw [blk_set (blk_set (blk_set (blk_set (blk_set (blk_set (blk_set (blk_set B9.out.n2 0 _) 1 _) 2 _) 3 _) 4 _) 5 _) 6 _) 7 _]; rfl))) rfl ?_
                exact ⟨(((((((B9.out.fr.set _ _ (.inr (by omega))).set _ _ (.inr (by omega))).set _ _ (.inr (by omega))).set _ _ (.inr (by omega))).set _ _ (.inr (by omega))).set _ _ (.inr (by omega))).set _ _ (.inr (by omega))).set _ _ (.inr (by omega)), .inr (.inr ⟨HD1.out, HB.out, Y, HOUT.out, .inl ⟨by rw [← HC.out]; exact HC0.out, by rw [← HC.out]; rfl⟩⟩)⟩
end Go.Proofs.YtegbngbhmgbocaaGreatDoor
