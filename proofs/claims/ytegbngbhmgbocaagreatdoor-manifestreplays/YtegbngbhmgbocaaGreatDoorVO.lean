/-
  Apply of any edit on any version.
-/
import Derived.Test.YtegbngbhmgbocaaGreatDoorVN
namespace Go.Proofs.YtegbngbhmgbocaaGreatDoor
open Go.ChangeShapes Go.WideShapes Go.ChangeAt Go.RowKit

/-- What is dropped and added, without the program. -/
def drF (gs : List (Int × Int)) (i : Nat) (f : Fl) : Bool := decide (((i : Int), f.num) ∈ gs)
def dcF (gs : List (Int × Int)) (L : Nat → List Fl) : Nat → Nat
  | 0 => 0
  | i + 1 => dcF gs L i + (L i).countP (drF gs i)
def keptF (gs : List (Int × Int)) (L : Nat → List Fl) (i : Nat) : List Fl := (L i).filter (fun f => !drF gs i f)
def addF (ps : List (Int × Fl)) (i : Nat) : List Fl := (ps.filter (fun p => p.1 == (i : Int))).map Prod.snd
theorem dc_eq {gs : List (Int × Int)} {X : Nat → List Fx} {L : Nat → List Fl} (h : ∀ i, i < 5 → (X i).map Fx.f = L i) : ∀ i, i ≤ 5 → dcnt gs X i = dcF gs L i
  | 0, _ => rfl
  | i + 1, hi => by
    show dcnt gs X i + _ = dcF gs L i + _
    rw [dc_eq h i (by omega), ← h i (by omega), List.countP_map]
    rfl
theorem kept_eq {gs : List (Int × Int)} {X : Nat → List Fx} {L : Nat → List Fl} {i : Nat} (h : (X i).map Fx.f = L i) : (keptX gs X i).map Fx.f = keptF gs L i := by
  unfold keptX keptF
  rw [← h, List.filter_map]
  rfl
theorem add_eq {qs : List (Nat × Fx)} {ps : List (Int × Fl)} (h : qs.map (fun p => ((p.1 : Int), p.2.f)) = ps) (i : Nat) : ((qs.filter (fun p => p.1 == i)).map Prod.snd).map Fx.f = addF ps i := by
  unfold addF
  rw [← h, List.filter_map, List.map_map, List.map_map]
  congr 1
  apply List.filter_congr
  intro p _
  simp only [Function.comp]
  rw [Bool.eq_iff_iff]
  simp
  omega
/-- A version that comes of v by e, but for its check. -/
structure Comes (v : Vn) (e : Ed) (U : Nat → List Fl) : Prop where
  perm : ∀ i, i < 5 → (U i).Perm (keptF e.drop v.lv i ++ addF e.add i)
  sort : ∀ i, i < 5 → (U i).Pairwise (fun a b => ¬ cmpF i b a < 0)
def backE (v : Vn) (e : Ed) : Prop := e.log < v.log ∨ e.next < v.next ∨ e.seq < v.seq
/-- The error of an edit that may be on a version that may be. -/
def errA (v : Vn) (e : Ed) (c : Int) : Prop := (dcF e.drop v.lv 5 ≠ e.drop.length ∧ c = 91) ∨ (dcF e.drop v.lv 5 = e.drop.length ∧ backE v e ∧ c = 94) ∨ (dcF e.drop v.lv 5 = e.drop.length ∧ ¬ backE v e ∧ ∃ U, Comes v e U ∧ chkV ⟨e.log, e.next, e.seq, U⟩ ≠ 0 ∧ c = chkV ⟨e.log, e.next, e.seq, U⟩)
/-- .. and none. -/
structure okA9 (v : Vn) (e : Ed) (U : Nat → List Fl) : Prop where
  cnt : dcF e.drop v.lv 5 = e.drop.length
  back : ¬ backE v e
  comes : Comes v e U
  chk : chkV ⟨e.log, e.next, e.seq, U⟩ = 0
/-- What Apply answers. -/
structure AOut (w w' : World) (v : Vn) (e : Ed) (r : Ending) : Prop where
  fr : Fr [] w w'
  out : (chkV v ≠ 0 ∧ r = .returned (.tuple #[.agg #[.int .i64 0, .int .i64 0, .int .u64 0, .slice none 0 0, .slice none 0 0, .slice none 0 0, .slice none 0 0, .slice none 0 0], .int .i64 (chkV v)])) ∨ (chkV v = 0 ∧ okE e = false ∧ r = .returned (.tuple #[.agg #[.int .i64 0, .int .i64 0, .int .u64 0, .slice none 0 0, .slice none 0 0, .slice none 0 0, .slice none 0 0, .slice none 0 0], .int .i64 90])) ∨
    (chkV v = 0 ∧ okE e = true ∧ ((∃ c, errA v e c ∧ c ≠ 0 ∧ r = .returned (.tuple #[.agg #[.int .i64 0, .int .i64 0, .int .u64 0, .slice none 0 0, .slice none 0 0, .slice none 0 0, .slice none 0 0, .slice none 0 0], .int .i64 c])) ∨ ∃ U kd kl kc, okA9 v e U ∧ r = .returned (.tuple #[.agg #[.int .i64 e.log, .int .i64 e.next, .int .u64 (e.seq : Int), .slice (kd 0) (kl 0) (kc 0), .slice (kd 1) (kl 1) (kc 1), .slice (kd 2) (kl 2) (kc 2), .slice (kd 3) (kl 3) (kc 3), .slice (kd 4) (kl 4) (kc 4)], .int .i64 0]) ∧ OwnV w.heap.size w' U kd kl kc))
/-- What follow answers to Apply. -/
structure GOut (w w' : World) (v : Vn) (e : Ed) (r : Ending) : Prop where
  fr : Fr [] w w'
  out : (∃ c, errA v e c ∧ c ≠ 0 ∧ r = .returned (.tuple #[.agg #[.int .i64 0, .int .i64 0, .int .u64 0, .slice none 0 0, .slice none 0 0, .slice none 0 0, .slice none 0 0, .slice none 0 0], .int .i64 c])) ∨ ∃ U K kd kl kc Z, okA9 v e U ∧ r = .returned (.tuple #[.agg #[.int .i64 e.log, .int .i64 e.next, .int .u64 (e.seq : Int), .slice (kd 0) (kl 0) (kc 0), .slice (kd 1) (kl 1) (kc 1), .slice (kd 2) (kl 2) (kc 2), .slice (kd 3) (kl 3) (kc 3), .slice (kd 4) (kl 4) (kc 4)], .int .i64 0]) ∧ ApZ w w' K U kd kl kc 0 0 Z ∧ ∀ i, i < 5 → kl i ≤ 1000
theorem OwnV.base {B B' : Nat} {W : World} {U : Nat → List Fl} {kd : Nat → Option Addr} {kl kc : Nat → Nat} (h : OwnV B W U kd kl kc) (hb : B' ≤ B) : OwnV B' W U kd kl kc := by
  obtain ⟨⟨Z, h1, h2, h3, h4⟩, h5, h6⟩ := h
  exact ⟨⟨Z, h1, h2, fun k hk => own_base9 (h3 k hk) hb, fun k hk x hx => ⟨own_base9 (h4 k hk x hx).ol hb, own_base9 (h4 k hk x hx).om hb⟩⟩, h5, h6⟩
theorem OwnV.fr' {B : Nat} {W W' : World} {U : Nat → List Fl} {kd : Nat → Option Addr} {kl kc : Nat → Nat} (h : OwnV B W U kd kl kc) (f : Fr [] W W') : OwnV B W' U kd kl kc := by
  obtain ⟨⟨Z, h1, h2, h3, h4⟩, h5, h6⟩ := h
  exact ⟨⟨Z, h1, h2, fun k hk => ownsRow_fr (h3 k hk) f, fun k hk x hx => (h4 k hk x hx).fr f⟩, h5, h6⟩
theorem FOut.gout {w w' : World} {v : Vn} {e : Ed} {X : Nat → List Fx} {qs : List (Nat × Fx)} {r : Ending} (h : FOut w w' v.log v.next v.seq e.log e.next e.seq e.drop X qs r) (hx : ∀ i, i < 5 → (X i).map Fx.f = v.lv i) (hq : qs.map (fun p : Nat × Fx => ((p.1 : Int), p.2.f)) = e.add) (rx : ∀ i, i < 5 → ∀ x ∈ X i, RX w x) (rq : ∀ p ∈ qs, RX w p.2) (sm : ∀ i, i < 5 → (X i).length ≤ 500) (sq : qs.length ≤ 500) : GOut w w' v e r := by
  have hd := dc_eq (gs := e.drop) hx 5 (by omega)
  have cm : ∀ Y : Nat → List Fx, (∀ i, i < 5 → (Y i).Perm (addS (keptX e.drop X) qs i) ∧ SortX i (Y i)) → Comes v e (fun i => (Y i).map Fx.f) := fun Y hY =>
    ⟨fun i hi => by
      have h1 := (hY i hi).1.map Fx.f
      rw [addS_eq, List.map_append, kept_eq (hx i hi), add_eq hq] at h1
      exact h1, fun i hi => by
      have h1 := (hY i hi).2
      unfold SortX at h1
      exact List.pairwise_map.2 h1⟩
  refine ⟨h.fr, ?_⟩
  rcases h.out with ⟨h1, rfl⟩ | ⟨h1, h2, rfl⟩ | ⟨h1, h2, Y, hY, ⟨h3, rfl⟩ | ⟨h3, K, kd, kl, kc, rfl, lv⟩⟩
  · exact .inl ⟨91, .inl ⟨by rw [← hd]; exact h1, rfl⟩, by omega, rfl⟩
  · exact .inl ⟨94, .inr (.inl ⟨by rw [← hd]; exact h1, h2, rfl⟩), by omega, rfl⟩
  · exact .inl ⟨_, .inr (.inr ⟨by rw [← hd]; exact h1, h2, _, cm Y hY, h3, rfl⟩), h3, rfl⟩
  · have hr : ∀ i, i < 5 → ∀ x ∈ Y i, RX w x := fun i hi x hxm => by
      rcases addS_mem ((hY i hi).1.mem_iff.1 hxm) with h4 | ⟨p, hp, rfl⟩
      · exact rx i hi x (List.mem_filter.1 h4).1
      · exact rq p hp
    refine .inr ⟨_, K, kd, kl, kc, Y, ⟨by rw [← hd]; exact h1, h2, cm Y hY, h3⟩, rfl, ⟨fun k hk => rfl, lv, fun k hk m x hm hdn => by unfold doneX at hdn; omega, fun k hk m x hm _ => hr k hk x (List.mem_of_getElem? hm), fun k hk f hf => by
      obtain ⟨x, hx1, rfl⟩ := List.mem_map.1 hf
      have := (hr k hk x hx1).1
      exact ⟨this.bl, this.bm, this.ll, this.lm⟩⟩, fun i hi => ?_⟩
    rw [lv.len i hi, (hY i hi).1.length_eq]
    have a1 := addS_len (keptX e.drop X) qs i
    have a2 := keptX_len (gs := e.drop) (X := X) i
    have a3 := sm i hi
    omega
/-- .. in one form. -/
structure GFm (w w' : World) (v : Vn) (e : Ed) (a0 a1 a2 : Int) (kd : Nat → Option Addr) (kl kc : Nat → Nat) (c : Int) : Prop where
  fr : Fr [] w w'
  out : (errA v e c ∧ c ≠ 0) ∨ (c = 0 ∧ ∃ U K Z, okA9 v e U ∧ (a0 = e.log ∧ a1 = e.next ∧ a2 = (e.seq : Int)) ∧ ApZ w w' K U kd kl kc 0 0 Z ∧ ∀ i, i < 5 → kl i ≤ 1000)
theorem GOut.form {w w' : World} {v : Vn} {e : Ed} {r : Ending} (h : GOut w w' v e r) : ∃ a0 a1 a2 kd kl kc c, r = .returned (.tuple #[.agg #[.int .i64 a0, .int .i64 a1, .int .u64 a2, .slice (kd 0) (kl 0) (kc 0), .slice (kd 1) (kl 1) (kc 1), .slice (kd 2) (kl 2) (kc 2), .slice (kd 3) (kl 3) (kc 3), .slice (kd 4) (kl 4) (kc 4)], .int .i64 c]) ∧ GFm w w' v e a0 a1 a2 kd kl kc c := by
  rcases h.out with ⟨c, h1, h2, rfl⟩ | ⟨U, K, kd, kl, kc, Z, h1, rfl, h2, h3⟩
  · exact ⟨0, 0, 0, fun _ => none, fun _ => 0, fun _ => 0, c, rfl, h.fr, .inl ⟨h1, h2⟩⟩
  · exact ⟨_, _, _, kd, kl, kc, 0, rfl, h.fr, .inr ⟨rfl, U, K, Z, h1, ⟨rfl, rfl, rfl⟩, h2, h3⟩⟩
theorem chk_okF {v : Vn} (h : chkV v = 0) : ∀ f ∈ v.all, okF f = true := by
  unfold chkV at h
  by_cases h1 : (!(okH v.log v.next v.seq) || !(v.all.all okF)) = true
  · rw [if_pos h1] at h; omega
  · simp only [Bool.or_eq_true, Bool.not_eq_true', not_or, Bool.not_eq_false] at h1
    exact List.all_eq_true.1 h1.2
theorem chk_lv {v v' : Vn} (h1 : v.log = v'.log) (h2 : v.next = v'.next) (h3 : v.seq = v'.seq) (h4 : ∀ i, i < 5 → v.lv i = v'.lv i) : chkV v = chkV v' := by
  have e0 : ∀ i, i ≤ 5 → pfx v.lv i = pfx v'.lv i := by
    intro i
    induction i with
    | zero => intro _; rfl
    | succ i ih => intro hi; rw [pfx_succ, pfx_succ, ih (by omega), h4 i (by omega)]
  have e1 : v.all = v'.all := e0 5 (by omega)
  have e2 : (List.range 5).all (fun i => risesF i (v.lv i)) = (List.range 5).all (fun i => risesF i (v'.lv i)) := by
    rw [Bool.eq_iff_iff, List.all_eq_true, List.all_eq_true]
    constructor
    · intro h i hi; rw [← h4 i (by simpa using hi)]; exact h i hi
    · intro h i hi; rw [h4 i (by simpa using hi)]; exact h i hi
  unfold chkV
  rw [e1, h1, h2, h3, e2]
set_option maxRecDepth 20000 in
set_option maxHeartbeats 6400000 in
theorem apply_c (w : World) {v : Vn} {ad : Nat → Option Addr} {ln cp : Nat → Nat} {e : Ed} {da aa : Option Addr} {dc ac : Nat} (hv : VAt w v.lv ad ln cp) (he : EAt w e da dc aa ac) (hsm : ∀ i, i < 5 → ln i ≤ 500) (hgl : e.drop.length ≤ 1000000) (hal : e.add.length ≤ 500) :
    Calls Tryz.prog 9 #[.agg #[.int .i64 v.log, .int .i64 v.next, .int .u64 (v.seq : Int), .slice (ad 0) (ln 0) (cp 0), .slice (ad 1) (ln 1) (cp 1), .slice (ad 2) (ln 2) (cp 2), .slice (ad 3) (ln 3) (cp 3), .slice (ad 4) (ln 4) (cp 4)], .agg #[.int .i64 e.log, .int .i64 e.next, .int .u64 (e.seq : Int), .slice da e.drop.length dc, .slice aa e.add.length ac]] w fun r w' => AOut w w' v e r := by
  obtain ⟨W0, hW0⟩ : ∃ W0, W0 = ((w.alloc (.cells #[.int .i64 v.log, .int .i64 v.next, .int .u64 (v.seq : Int), .slice (ad 0) (ln 0) (cp 0), .slice (ad 1) (ln 1) (cp 1), .slice (ad 2) (ln 2) (cp 2), .slice (ad 3) (ln 3) (cp 3), .slice (ad 4) (ln 4) (cp 4)] 28)).alloc (.cells #[.int .i64 e.log, .int .i64 e.next, .int .u64 (e.seq : Int), .slice da e.drop.length dc, .slice aa e.add.length ac] 41)).alloc (.cells #[.int .i64 0, .int .i64 0, .int .u64 0, .slice none 0 0, .slice none 0 0, .slice none 0 0, .slice none 0 0, .slice none 0 0] 28) := ⟨_, rfl⟩
  have B0 : Hid (Bx w W0 #[.int .i64 v.log, .int .i64 v.next, .int .u64 (v.seq : Int), .slice (ad 0) (ln 0) (cp 0), .slice (ad 1) (ln 1) (cp 1), .slice (ad 2) (ln 2) (cp 2), .slice (ad 3) (ln 3) (cp 3), .slice (ad 4) (ln 4) (cp 4)] #[.int .i64 e.log, .int .i64 e.next, .int .u64 (e.seq : Int), .slice da e.drop.length dc, .slice aa e.add.length ac]) := hid (by rw [hW0]; exact Bx.new w _ _)
  have CK := hid (check_c W0 (hv.fr B0.out.fr))
  have ED : Hid (∀ W, Fr [] W0 W → _) := hid (fun W f => edit_c W ((he.fr B0.out.fr).fr f))
  obtain ⟨C, hC⟩ : ∃ C, C = chkV v := ⟨_, rfl⟩
  obtain ⟨oe, hoe⟩ : ∃ oe, oe = okE e := ⟨_, rfl⟩
  rw [← hC] at CK
  rw [← hoe] at ED
  have HC := hid hC
  have HOE := hid hoe
  have FO : Hid (chkV v = 0 → okE e = true → ∀ W, Fr [] W0 W → Calls Tryz.prog 12 #[.agg #[.int .i64 v.log, .int .i64 v.next, .int .u64 (v.seq : Int), .slice (ad 0) (ln 0) (cp 0), .slice (ad 1) (ln 1) (cp 1), .slice (ad 2) (ln 2) (cp 2), .slice (ad 3) (ln 3) (cp 3), .slice (ad 4) (ln 4) (cp 4)], .agg #[.int .i64 e.log, .int .i64 e.next, .int .u64 (e.seq : Int), .slice da e.drop.length dc, .slice aa e.add.length ac]] W fun r w' => GOut W w' v e r) := hid (fun h1 h2 W f => by
    obtain ⟨X, a1, a2⟩ := ((hv.fr B0.out.fr).fr f).vx
    have hee := (he.fr B0.out.fr).fr f
    unfold okE at h2
    simp only [Bool.and_eq_true] at h2
    obtain ⟨qs, b1, b2, b3⟩ := hee.ra.rx rfl h2.2.1
    have okx : ∀ i, i < 5 → ∀ x ∈ X i, okF x.f = true := fun i hi x hx => chk_okF h1 _ (mem_all hi (by rw [← a1 i hi]; exact List.mem_map_of_mem hx))
    have okq : ∀ p ∈ qs, okF p.2.f = true := fun p hp => by
      have h3 : ((p.1 : Int), p.2.f) ∈ e.add := by rw [← b1]; exact List.mem_map.2 ⟨p, hp, rfl⟩
      have h4 := List.all_eq_true.1 h2.2.1 _ h3
      unfold okA at h4
      simp only [Bool.and_eq_true] at h4
      exact h4.2
    refine (follow_c W v.log v.next v.seq e.log e.next e.seq rfl a2 okx hee.rd b2 okq b3 hsm hgl hal).mono ?_
    intro r w' h5
    exact h5.gout a1 b1 (a2.rx okx) (b2.rx okq) (fun i hi => by rw [← a2.len i hi]; exact hsm i hi) (by rw [← b2.1]; exact hal))
  clear hC hoe
  obtain ⟨dl, hdl⟩ : ∃ dl, dl = e.drop.length := ⟨_, rfl⟩
  obtain ⟨al, hal'⟩ : ∃ al, al = e.add.length := ⟨_, rfl⟩
  have HDL := hid hdl
  rw [← hdl, ← hal'] at FO ED B0 hW0 ⊢
  obtain ⟨vl, hvl⟩ : ∃ x, x = v.log := ⟨_, rfl⟩
  obtain ⟨vn, hvn⟩ : ∃ x, x = v.next := ⟨_, rfl⟩
  obtain ⟨vs, hvs⟩ : ∃ x, x = v.seq := ⟨_, rfl⟩
  obtain ⟨el, hel⟩ : ∃ x, x = e.log := ⟨_, rfl⟩
  obtain ⟨en, hen⟩ : ∃ x, x = e.next := ⟨_, rfl⟩
  obtain ⟨es, hes⟩ : ∃ x, x = e.seq := ⟨_, rfl⟩
  have HVE := hid (And.intro (And.intro hvl (And.intro hvn hvs)) (And.intro hel (And.intro hen hes)))
  rw [← hvl, ← hvn, ← hvs] at CK FO B0 hW0 ⊢
  rw [← hel, ← hen, ← hes] at ED FO B0 hW0 ⊢
  clear hvl hvn hvs hel hen hes hdl hal' hv he hsm hgl hal
  obtain ⟨z0, z1, z2, z3, z4, z5, z6, z7⟩ := vn_cells B0.out.n0
  go_enter Tryz.func9, Tryz.ntmps9
  go_upto_region 1 with fail
  rw [← hW0]
  clear hW0
  go_upto_region 2 with (go_at_call 21; refine CK.out.mono ?_; rintro r W1 ⟨rfl, f1⟩; have F1 := hid f1; clear f1)
  clear z0 z1 z2 z3 z4 z5 z6 z7 CK
  have B1 := hid (B0.out.fr' F1.out)
  by_cases hC0 : C = 0
  · subst hC0
    have HC0 : Hid (chkV v = 0) := hid HC.out.symm
    clear HC
    obtain ⟨x0, x1, x2, x3, x4⟩ := ed5_cells B1.out.n1
    go_upto_region 4 with fail
    have E1 := hid (ED.out W1 F1.out)
    cases oe with
    | false =>
      have HO : Hid (okE e = false) := hid HOE.out.symm
      clear HOE
      go_upto_region 5 with (go_at_call 17; refine E1.out.mono ?_; rintro r W2 ⟨rfl, f2⟩; have F2 := hid f2; clear f2)
      clear x0 x1 x2 x3 x4
      have B2 := hid (B1.out.fr' F2.out)
      obtain ⟨q0, q1, q2, q3, q4, q5, q6, q7⟩ := vn_cells B2.out.n2
      have qf0 := blk_frozen B2.out.n2 0
      have qf1 := blk_frozen B2.out.n2 1
      have qf2 := blk_frozen B2.out.n2 2
      have qf3 := blk_frozen B2.out.n2 3
      have qf4 := blk_frozen B2.out.n2 4
      have qf5 := blk_frozen B2.out.n2 5
      have qf6 := blk_frozen B2.out.n2 6
      have qf7 := blk_frozen B2.out.n2 7
      go_wp2_with fail
      refine bodyPost_ret (ret_ct9 rfl (g := w.heap.size + 1 + 1) (by simp) (load46k (by rw [blk_set (blk_set (blk_set (blk_set (blk_set (blk_set (blk_set (blk_set B2.out.n2 0 _) 1 _) 2 _) 3 _) 4 _) 5 _) 6 _) 7 _]; rfl))) rfl ?_
      exact ⟨(((((((B2.out.fr.set _ _ (.inr (by omega))).set _ _ (.inr (by omega))).set _ _ (.inr (by omega))).set _ _ (.inr (by omega))).set _ _ (.inr (by omega))).set _ _ (.inr (by omega))).set _ _ (.inr (by omega))).set _ _ (.inr (by omega)), .inr (.inl ⟨HC0.out, HO.out, rfl⟩)⟩
    | true =>
      have HO : Hid (okE e = true) := hid HOE.out.symm
      clear HOE
      go_upto_region 6 with (go_at_call 17; refine E1.out.mono ?_; rintro r W2 ⟨rfl, f2⟩; have F2 := hid f2; clear f2)
      clear x0 x1 x2 x3 x4 E1 ED
      have B2 := hid (B1.out.fr' F2.out)
      have FF := hid (FO.out HC0.out HO.out W2 (F1.out.trans F2.out))
      clear FO B1
      obtain ⟨z0, z1, z2, z3, z4, z5, z6, z7⟩ := vn_cells B2.out.n0
      obtain ⟨x0, x1, x2, x3, x4⟩ := ed5_cells B2.out.n1
      go_upto_region 7 with (go_at_call 12; refine FF.out.mono ?_; intro r W3 hg; obtain ⟨a0, a1, a2, kd, kl, kc, c, rfl, gf⟩ := hg.form; have GF := hid gf; clear hg gf)
      clear x0 x1 x2 x3 x4 z0 z1 z2 z3 z4 z5 z6 z7 FF
      have HO := HO
      obtain ⟨P7, hP7⟩ : ∃ P7, P7 = W3.heap.size := ⟨_, rfl⟩
      obtain ⟨W4, hW4⟩ : ∃ W4, W4 = W3.alloc (.cells #[.int .i64 a0, .int .i64 a1, .int .u64 a2, .slice (kd 0) (kl 0) (kc 0), .slice (kd 1) (kl 1) (kc 1), .slice (kd 2) (kl 2) (kc 2), .slice (kd 3) (kl 3) (kc 3), .slice (kd 4) (kl 4) (kc 4)] 28) := ⟨_, rfl⟩
      have f4 : Fr [] W3 W4 := by rw [hW4]; exact (Fr.refl _ _).alloc _
      have N4 : Hid (W4.heap[P7]? = some (.cells #[.int .i64 a0, .int .i64 a1, .int .u64 a2, .slice (kd 0) (kl 0) (kc 0), .slice (kd 1) (kl 1) (kc 1), .slice (kd 2) (kl 2) (kc 2), .slice (kd 3) (kl 3) (kc 3), .slice (kd 4) (kl 4) (kc 4)] 28 (0, 0))) := hid (by rw [hW4, hP7]; exact blk_new _ _)
      have F4 := hid f4
      have hP7' : W2.heap.size ≤ P7 := by rw [hP7]; exact GF.out.fr.size
      rw [← hW4, ← hP7]
      clear hW4 hP7 f4
      have B4 := hid (B2.out.fr' (GF.out.fr.trans F4.out))
      rcases GF.out.out with ⟨he, hc0⟩ | ⟨hc0, U, K, Z, ho, ⟨rfl, rfl, rfl⟩, ha, hs⟩
      · have HE := hid he
        have HN := hid hc0
        have hc1 : (c == 0) = false := by simpa using hc0
        clear he hc0 GF
        obtain ⟨q0, q1, q2, q3, q4, q5, q6, q7⟩ := vn_cells B4.out.n2
        have qf0 := blk_frozen B4.out.n2 0
        have qf1 := blk_frozen B4.out.n2 1
        have qf2 := blk_frozen B4.out.n2 2
        have qf3 := blk_frozen B4.out.n2 3
        have qf4 := blk_frozen B4.out.n2 4
        have qf5 := blk_frozen B4.out.n2 5
        have qf6 := blk_frozen B4.out.n2 6
        have qf7 := blk_frozen B4.out.n2 7
        go_wp2_with fail
        refine bodyPost_ret (ret_ct9 rfl (g := w.heap.size + 1 + 1) (by simp) (load46k (by rw [blk_set (blk_set (blk_set (blk_set (blk_set (blk_set (blk_set (blk_set B4.out.n2 0 _) 1 _) 2 _) 3 _) 4 _) 5 _) 6 _) 7 _]; rfl))) rfl ?_
        exact ⟨(((((((B4.out.fr.set _ _ (.inr (by omega))).set _ _ (.inr (by omega))).set _ _ (.inr (by omega))).set _ _ (.inr (by omega))).set _ _ (.inr (by omega))).set _ _ (.inr (by omega))).set _ _ (.inr (by omega))).set _ _ (.inr (by omega)), .inr (.inr ⟨HC0.out, HO.out, .inl ⟨c, HE.out, HN.out, rfl⟩⟩)⟩
      · subst hc0
        have OK := hid ho
        have A4 := hid (ha.fr' F4.out)
        have SM := hid hs
        clear ho ha hs
        have HIX : Hid (∀ i : Nat, i < 5 → ∀ W : World, (Instr.index 26 (.agg #[.slice (kd 0) (kl 0) (kc 0), .slice (kd 1) (kl 1) (kc 1), .slice (kd 2) (kl 2) (kc 2), .slice (kd 3) (kl 3) (kc 3), .slice (kd 4) (kl 4) (kc 4)]) (.int .i64 (i : Int))).run Tryz.prog W = .ok (.slice (kd i) (kl i) (kc i)) W) := hid (fun i hi W => ixs hi kd kl kc W)
        obtain ⟨z0, z1, z2, z3, z4, z5, z6, z7⟩ := vn_cells N4.out
        go_upto_region 9 with fail
        go_wp2_with fail
        clear z0 z1 z2 z3 z4 z5 z6 z7 GF
        go_loopw [35] (fun v35 wr => ∃ (i : Nat) (Z : Nat → List Fx), i ≤ 5 ∧ v35 = .int .i64 (i : Int) ∧ ApZ W2 wr K U kd kl kc i 0 Z ∧ wr.heap[P7]? = some (.cells #[.int .i64 e.log, .int .i64 e.next, .int .u64 (e.seq : Int), .slice (kd 0) (kl 0) (kc 0), .slice (kd 1) (kl 1) (kc 1), .slice (kd 2) (kl 2) (kc 2), .slice (kd 3) (kl 3) (kc 3), .slice (kd 4) (kl 4) (kc 4)] 28 (0, 0))) (fun v35 _ => 5 - (intOf v35).toNat)
        case atStart => exact ⟨0, Z, by omega, rfl, A4.out, N4.out⟩
        case round =>
          obtain ⟨i, Z, hi, rfl, ha, hn⟩ := hrel
          have AZ := hid ha
          have NZ := hid hn
          clear ha hn A4 N4
          by_cases hlt : i < 5
          · have hlt' : (i : Int) < 5 := by omega
            have ixi := HIX.out i hlt
            have hli := SM.out i hlt
            have HPL := hid (AZ.out.lv.place hlt)
            obtain ⟨li, hli'⟩ : ∃ li, li = kl i := ⟨_, rfl⟩
            obtain ⟨ai, hai⟩ : ∃ ai, ai = kd i := ⟨_, rfl⟩
            obtain ⟨ci, hci⟩ : ∃ ci, ci = kc i := ⟨_, rfl⟩
            have HAI := hid hai
            have HUL : Hid (li = (U i).length) := hid (by rw [hli', AZ.out.lv.len i hlt, ← AZ.out.mp i hlt, List.length_map])
            rw [← hli'] at ixi hli HPL
            rw [← hai] at ixi HPL
            rw [← hci] at ixi
            clear hli' hai hci
            obtain ⟨W6, h6⟩ : ∃ W, W = wr := ⟨_, rfl⟩
            subst h6
            go_wp2_with fail
            clear ixi
            go_loopw [40] (fun v40 wr => ∃ (j : Nat) (Z : Nat → List Fx), j ≤ li ∧ v40 = .int .i64 (j : Int) ∧ ApZ W2 wr K U kd kl kc i j Z ∧ wr.heap[P7]? = some (.cells #[.int .i64 e.log, .int .i64 e.next, .int .u64 (e.seq : Int), .slice (kd 0) (kl 0) (kc 0), .slice (kd 1) (kl 1) (kc 1), .slice (kd 2) (kl 2) (kc 2), .slice (kd 3) (kl 3) (kc 3), .slice (kd 4) (kl 4) (kc 4)] 28 (0, 0))) (fun v40 _ => li - (intOf v40).toNat)
            case atStart => exact ⟨0, Z, by omega, rfl, AZ.out, NZ.out⟩
            case round =>
              obtain ⟨j, Z, hj, rfl, ha, hn⟩ := hrel
              have A2 := hid ha
              have N2 := hid hn
              clear ha hn AZ NZ
              have HZL : Hid (li = (Z i).length) := hid (by rw [HUL.out, ← A2.out.mp i hlt, List.length_map])
              by_cases hjl : j < li
              · have hjl' : (j : Int) < (li : Int) := by omega
                obtain ⟨g, off, hga, h0⟩ := HPL.out (by omega)
                subst hga
                obtain ⟨x, hx⟩ : ∃ x, (Z i)[j]? = some x := ⟨_, List.getElem?_eq_getElem (by rw [← HZL.out]; exact hjl)⟩
                obtain ⟨⟨x0, x1, x2, x3⟩, _⟩ := A2.out.lv.at4 hlt h0 HAI.out.symm hx
                obtain ⟨P8, hP8⟩ : ∃ P8, P8 = wr.heap.size := ⟨_, rfl⟩
                obtain ⟨W7, hW7⟩ : ∃ W7, W7 = wr.alloc (.cells #[.int .i64 x.f.num, .int .i64 x.f.size, .slice x.la x.f.least.length x.lc, .slice x.ma x.f.most.length x.mc] 62) := ⟨_, rfl⟩
                have f7 : Fr [] wr W7 := by rw [hW7]; exact (Fr.refl _ _).alloc _
                have N7 : Hid (W7.heap[P8]? = some (.cells #[.int .i64 x.f.num, .int .i64 x.f.size, .slice x.la x.f.least.length x.lc, .slice x.ma x.f.most.length x.mc] 62 (0, 0))) := hid (by rw [hW7, hP8]; exact blk_new _ _)
                have A7 := hid (A2.out.fr' f7)
                have NP7 := hid (f7.at N2.out (by simp))
                have RX7 := (A2.out.rd i hlt j x hx (by unfold doneX; omega)).1.fr (A2.out.lv.fr.trans f7)
                have CP := hid (copied_c W7 RX7)
                have HX := hid hx
                have H0 := hid h0
                clear RX7 hx h0 f7
                go_upto_region 15 with fail
                rw [← hW7, ← hP8]
                clear hW7 hP8 x0 x1 x2 x3 A2 N2
                obtain ⟨y0, y1, y2, y3⟩ := fl_cells N7.out
                have AT : Hid (∀ W8, Fr [] W7 W8 → (W8.cell? ⟨g, off + j * 4, none⟩ = some (.int .i64 x.f.num) ∧ W8.cell? ⟨g, off + j * 4 + 1, none⟩ = some (.int .i64 x.f.size) ∧ W8.cell? ⟨g, off + j * 4 + 2, none⟩ = some (.slice x.la x.f.least.length x.lc) ∧ W8.cell? ⟨g, off + j * 4 + 3, none⟩ = some (.slice x.ma x.f.most.length x.mc)) ∧ ∀ k, W8.frozen? ⟨g, k, none⟩ = false) := hid (fun W8 f8 => (A7.out.lv.fr' f8).at4 hlt H0.out HAI.out.symm HX.out)
                have ST : Hid (∀ (W8 : World) (la : Option Addr) (lc : Nat) (ma : Option Addr) (mc : Nat), Fr [] W7 W8 → XO W7.heap.size W8 x.f la lc ma mc → (∃ Z, ApZ W2 ((((W8.setCell ⟨g, off + j * 4, none⟩ (.int .i64 x.f.num)).setCell ⟨g, off + j * 4 + 1, none⟩ (.int .i64 x.f.size)).setCell ⟨g, off + j * 4 + 2, none⟩ (.slice la x.f.least.length lc)).setCell ⟨g, off + j * 4 + 3, none⟩ (.slice ma x.f.most.length mc)) K U kd kl kc i (j + 1) Z) ∧ ((((W8.setCell ⟨g, off + j * 4, none⟩ (.int .i64 x.f.num)).setCell ⟨g, off + j * 4 + 1, none⟩ (.int .i64 x.f.size)).setCell ⟨g, off + j * 4 + 2, none⟩ (.slice la x.f.least.length lc)).setCell ⟨g, off + j * 4 + 3, none⟩ (.slice ma x.f.most.length mc)).heap[P7]? = some (.cells #[.int .i64 e.log, .int .i64 e.next, .int .u64 (e.seq : Int), .slice (kd 0) (kl 0) (kc 0), .slice (kd 1) (kl 1) (kc 1), .slice (kd 2) (kl 2) (kc 2), .slice (kd 3) (kl 3) (kc 3), .slice (kd 4) (kl 4) (kc 4)] 28 (0, 0))) := hid (fun W8 la lc ma mc f8 xo => by
                  have a8 := A7.out.fr' f8
                  have hb : W2.heap.size ≤ W7.heap.size := A7.out.lv.fr.size
                  have s8 := a8.step (x' := ⟨x.f, la, lc, ma, mc⟩) hlt H0.out HAI.out.symm HX.out rfl ⟨own_base9 xo.ol hb, own_base9 xo.om hb⟩
                  refine ⟨⟨_, s8⟩, ?_⟩
                  obtain ⟨_, _, cur, hcur⟩ := a8.lv.put (x' := ⟨x.f, la, lc, ma, mc⟩) hlt H0.out HAI.out.symm HX.out
                  have n8 := f8.at NP7.out (by simp)
                  have hne : P7 ≠ g := fun e => by rw [e, hcur] at n8; simp at n8
                  rw [blk_setne _ _ _ hne, blk_setne _ _ _ hne, blk_setne _ _ _ hne, blk_setne _ _ _ hne]
                  exact n8)
                clear A7
                go_wp2_with (go_at_call 22; refine CP.out.mono ?_; intro r W8 co; obtain ⟨⟨la, lc, ma, mc, rfl, xo⟩, f8⟩ := co; obtain ⟨⟨s0, s1, s2, s3⟩, sf⟩ := AT.out W8 f8; have sf0 := sf (off + j * 4); have sf1 := sf (off + j * 4 + 1); have sf2 := sf (off + j * 4 + 2); have sf3 := sf (off + j * 4 + 3); have S8 := hid (ST.out W8 la lc ma mc f8 xo); clear xo f8 sf)
                go_roundw
                case rel =>
                  obtain ⟨⟨Z', hz⟩, hp⟩ := S8.out
                  exact ⟨j + 1, Z', by omega, by go_num, hz, hp⟩
                case measure => simp [intOf]; omega
              · have hjn : j = li := by omega
                subst hjn
                have A3 : Hid (ApZ W2 wr K U kd kl kc (i + 1) 0 Z) := hid (by have := A2.out; rw [HZL.out] at this; exact this.next)
                go_wp2_with fail
                go_roundw
                case rel => exact ⟨i + 1, Z, by omega, by go_num, A3.out, N2.out⟩
                case measure => simp [intOf]; omega
          · have hin : i = 5 := by omega
            subst hin
            have B5 := hid (B2.out.fr' AZ.out.lv.fr)
            obtain ⟨z0, z1, z2, z3, z4, z5, z6, z7⟩ := vn_cells NZ.out
            obtain ⟨q0, q1, q2, q3, q4, q5, q6, q7⟩ := vn_cells B5.out.n2
            have qf0 := blk_frozen B5.out.n2 0
            have qf1 := blk_frozen B5.out.n2 1
            have qf2 := blk_frozen B5.out.n2 2
            have qf3 := blk_frozen B5.out.n2 3
            have qf4 := blk_frozen B5.out.n2 4
            have qf5 := blk_frozen B5.out.n2 5
            have qf6 := blk_frozen B5.out.n2 6
            have qf7 := blk_frozen B5.out.n2 7
            go_wp2_with fail
            refine bodyPost_ret (ret_ct9 rfl (g := w.heap.size + 1 + 1) (by simp) (load46k (by rw [blk_set (blk_set (blk_set (blk_set (blk_set (blk_set (blk_set (blk_set B5.out.n2 0 _) 1 _) 2 _) 3 _) 4 _) 5 _) 6 _) 7 _]; rfl))) rfl ?_
            have OV := (AZ.out.ownv (fun k hk => by have := SM.out k hk; omega)).base (B' := w.heap.size) B2.out.fr.size
            have O8 := (((((((OV.setO B5.out.n2 0 (.int .i64 e.log)).setO (blk_set B5.out.n2 0 _) 1 (.int .i64 e.next)).setO (blk_set (blk_set B5.out.n2 0 _) 1 _) 2 (.int .u64 (e.seq : Int))).setO (blk_set (blk_set (blk_set B5.out.n2 0 _) 1 _) 2 _) 3 (.slice (kd 0) (kl 0) (kc 0))).setO (blk_set (blk_set (blk_set (blk_set B5.out.n2 0 _) 1 _) 2 _) 3 _) 4 (.slice (kd 1) (kl 1) (kc 1))).setO (blk_set (blk_set (blk_set (blk_set (blk_set B5.out.n2 0 _) 1 _) 2 _) 3 _) 4 _) 5 (.slice (kd 2) (kl 2) (kc 2))).setO (blk_set (blk_set (blk_set (blk_set (blk_set (blk_set B5.out.n2 0 _) 1 _) 2 _) 3 _) 4 _) 5 _) 6 (.slice (kd 3) (kl 3) (kc 3))).setO (blk_set (blk_set (blk_set (blk_set (blk_set (blk_set (blk_set B5.out.n2 0 _) 1 _) 2 _) 3 _) 4 _) 5 _) 6 _) 7 (.slice (kd 4) (kl 4) (kc 4))
            exact ⟨(((((((B5.out.fr.set _ _ (.inr (by omega))).set _ _ (.inr (by omega))).set _ _ (.inr (by omega))).set _ _ (.inr (by omega))).set _ _ (.inr (by omega))).set _ _ (.inr (by omega))).set _ _ (.inr (by omega))).set _ _ (.inr (by omega)), .inr (.inr ⟨HC0.out, HO.out, .inr ⟨U, kd, kl, kc, OK.out, rfl, O8⟩⟩)⟩
  · have hC1 : (C == 0) = false := by simpa using hC0
    have HC0 := hid hC0
    clear hC0
    obtain ⟨q0, q1, q2, q3, q4, q5, q6, q7⟩ := vn_cells B1.out.n2
    have qf0 := blk_frozen B1.out.n2 0
    have qf1 := blk_frozen B1.out.n2 1
    have qf2 := blk_frozen B1.out.n2 2
    have qf3 := blk_frozen B1.out.n2 3
    have qf4 := blk_frozen B1.out.n2 4
    have qf5 := blk_frozen B1.out.n2 5
    have qf6 := blk_frozen B1.out.n2 6
    have qf7 := blk_frozen B1.out.n2 7
    go_wp2_with fail
    refine bodyPost_ret (ret_ct9 rfl (g := w.heap.size + 1 + 1) (by simp) (load46k (by rw [blk_set (blk_set (blk_set (blk_set (blk_set (blk_set (blk_set (blk_set B1.out.n2 0 _) 1 _) 2 _) 3 _) 4 _) 5 _) 6 _) 7 _]; rfl))) rfl ?_
    exact ⟨(((((((B1.out.fr.set _ _ (.inr (by omega))).set _ _ (.inr (by omega))).set _ _ (.inr (by omega))).set _ _ (.inr (by omega))).set _ _ (.inr (by omega))).set _ _ (.inr (by omega))).set _ _ (.inr (by omega))).set _ _ (.inr (by omega)), .inl ⟨by rw [← HC.out]; exact HC0.out, by rw [← HC.out]; rfl⟩⟩
end Go.Proofs.YtegbngbhmgbocaaGreatDoor
