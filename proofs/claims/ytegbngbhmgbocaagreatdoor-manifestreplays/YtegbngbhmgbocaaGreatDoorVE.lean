/-
  Tables in order.
-/
import Derived.Test.YtegbngbhmgbocaaGreatDoorJ14
import Derived.Deep.CutRange
namespace Go.Proofs.YtegbngbhmgbocaaGreatDoor
open Go.ChangeShapes Go.WideShapes Go.ChangeAt Go.RowKit

theorem heap_drew1 (W : World) : W.drew.heap = W.heap := rfl
/-- A row of tables. -/
def RdF (w : World) (a : Option Addr) (n : Nat) (fs : List Fl) : Prop := 0 < n → ∃ b off, a = some ⟨b, off, none⟩ ∧ ∀ (j : Nat) (f : Fl), fs[j]? = some f → ∃ la lc ma mc, FAt w b (off + j * 4) f la lc ma mc
theorem RdF.fr {w w' : World} {a : Option Addr} {n : Nat} {fs : List Fl} (h : RdF w a n fs) (f : Fr [] w w') : RdF w' a n fs := by
  intro h0
  obtain ⟨b, off, e, k⟩ := h h0
  refine ⟨b, off, e, fun j x hx => ?_⟩
  obtain ⟨la, lc, ma, mc, q⟩ := k j x hx
  exact ⟨la, lc, ma, mc, q.fr f⟩
theorem risesF_iff (i : Nat) : ∀ (l : List Fl), risesF i l = true ↔ ∀ j a b, l[j]? = some a → l[j + 1]? = some b → apartF i a b = true
  | [] => by simp [risesF]
  | [a] => by simp [risesF]
  | a :: b :: r => by
    unfold risesF
    rw [Bool.and_eq_true, risesF_iff i (b :: r)]
    constructor
    · rintro ⟨h1, h2⟩ j x y hx hy
      cases j with
      | zero => simp at hx hy; subst hx; subst hy; exact h1
      | succ j => exact h2 j x y (by simpa using hx) (by simpa using hy)
    · intro h
      exact ⟨h 0 a b (by simp) (by simp), fun j x y hx hy => h (j + 1) x y (by simpa using hx) (by simpa using hy)⟩
theorem rises_all (i : Nat) (l : List Fl) (h : ∀ k, 1 ≤ k → k < l.length → ∀ a b, l[k - 1]? = some a → l[k]? = some b → apartF i a b = true) : risesF i l = true := by
  rw [risesF_iff]
  intro j a b ha hb
  exact h (j + 1) (by omega) (by obtain ⟨hl, _⟩ := List.getElem?_eq_some_iff.1 hb; exact hl) a b (by simpa using ha) hb
theorem rises_not {i : Nat} {l : List Fl} {k : Nat} {a b : Fl} (h1 : 1 ≤ k) (ha : l[k - 1]? = some a) (hb : l[k]? = some b) (h : apartF i a b = false) : risesF i l = false := by
  rw [Bool.eq_false_iff]
  intro h2
  have := (risesF_iff i l).1 h2 (k - 1) a b ha (by rw [show k - 1 + 1 = k from by omega]; exact hb)
  rw [h] at this
  cases this
theorem okF_keys {f : Fl} (h : okF f = true) : isK f.least = true ∧ isK f.most = true := by
  unfold okF at h
  simp only [Bool.and_eq_true] at h
  exact ⟨h.1, h.2.1⟩

set_option maxRecDepth 20000 in
set_option maxHeartbeats 3200000 in
theorem inOrder_0 (w : World) {fs : List Fl} {ad : Option Addr} {n c : Nat} (hn : n = fs.length) (hl : n ≤ 140737488355328) (hr : RdF w ad n fs) (ok : ∀ f ∈ fs, okF f = true) :
    Calls Tryz.prog 50 #[.int .i64 0, .slice ad n c] w fun r w' => r = .returned (.bool (risesF 0 fs)) ∧ Fr [] w w' := by
  obtain ⟨R, hR⟩ : ∃ R, R = risesF 0 fs := ⟨_, rfl⟩
  rw [← hR]
  have HR : Hid (R = risesF 0 fs) := hid hR
  have OC := hid (orderOf_0 w)
  have HRD := hid hr
  have HOK := hid ok
  have HN := hid hn
  clear hr ok hR hn
  go_enter Tryz.func50, Tryz.ntmps50
  go_wp2_with (go_at_call 33; refine OC.out.mono ?_; rintro r W1 ⟨rfl, h⟩; rw [h]; clear h)
  clear OC
  go_loopw [6] (fun v6 wr => ∃ k : Nat, 1 ≤ k ∧ (k ≤ n ∨ n = 0 ∧ k = 1) ∧ v6 = .int .i64 (k : Int) ∧ (∀ j, 1 ≤ j → j < k → ∀ a b, fs[j - 1]? = some a → fs[j]? = some b → apartF 0 a b = true) ∧ Fr [] w wr) (fun v6 _ => n + 1 - (intOf v6).toNat)
  case atStart => exact ⟨1, by omega, by omega, rfl, fun j h1 h2 => by omega, Fr.refl _ _⟩
  case round =>
    obtain ⟨k, hk1, hk2, rfl, hq, hf⟩ := hrel
    have HQ := hid hq
    have HF := hid hf
    clear hq hf
    by_cases hlt : k < n
    · have hlt' : (k : Int) < (n : Int) := by omega
      clear hk2
      obtain ⟨fa, hfa⟩ : ∃ fa, fs[k - 1]? = some fa := ⟨_, List.getElem?_eq_getElem (by have := HN.out; omega)⟩
      obtain ⟨fb, hfb⟩ : ∃ fb, fs[k]? = some fb := ⟨_, List.getElem?_eq_getElem (by have := HN.out; omega)⟩
      have HFA := hid hfa
      have HFB := hid hfb
      obtain ⟨kal, kam⟩ := okF_keys (HOK.out fa (List.mem_of_getElem? hfa))
      obtain ⟨kbl, kbm⟩ := okF_keys (HOK.out fb (List.mem_of_getElem? hfb))
      obtain ⟨b, off, hab, m1⟩ := HRD.out (by omega)
      subst hab
      obtain ⟨la, lc, ma, mc, k1⟩ := m1 (k - 1) fa hfa
      obtain ⟨la', lc', ma', mc', k2⟩ := m1 k fb hfb
      clear m1 hfa hfb
      have SK : Hid (∀ W', Fr [] wr W' → (W'.cell? ⟨b, off + (k - 1) * 4, none⟩ = some (.int .i64 fa.num) ∧ W'.cell? ⟨b, off + (k - 1) * 4 + 1, none⟩ = some (.int .i64 fa.size) ∧ W'.cell? ⟨b, off + (k - 1) * 4 + 2, none⟩ = some (.slice la fa.least.length lc) ∧ W'.cell? ⟨b, off + (k - 1) * 4 + 3, none⟩ = some (.slice ma fa.most.length mc)) ∧ W'.cell? ⟨b, off + k * 4, none⟩ = some (.int .i64 fb.num) ∧ W'.cell? ⟨b, off + k * 4 + 1, none⟩ = some (.int .i64 fb.size) ∧ W'.cell? ⟨b, off + k * 4 + 2, none⟩ = some (.slice la' fb.least.length lc') ∧ W'.cell? ⟨b, off + k * 4 + 3, none⟩ = some (.slice ma' fb.most.length mc')) := hid (fun W' f => by
        have ff := HF.out.trans f
        exact ⟨⟨cell_fr ff k1.c0, cell_fr ff k1.c1, cell_fr ff k1.c2, cell_fr ff k1.c3⟩, cell_fr ff k2.c0, cell_fr ff k2.c1, cell_fr ff k2.c2, cell_fr ff k2.c3⟩)
      have RA : Hid (∀ W', Fr [] wr W' → FRd W' fa la lc ma mc) := hid (fun W' f => k1.rd.fr (HF.out.trans f))
      have RB : Hid (∀ W', Fr [] wr W' → FRd W' fb la' lc' ma' mc') := hid (fun W' f => k2.rd.fr (HF.out.trans f))
      clear k1 k2
      have CM : Hid (∀ W', Fr [] wr W' → Calls Tryz.prog 63 #[.agg #[.int .i64 fa.num, .int .i64 fa.size, .slice la fa.least.length lc, .slice ma fa.most.length mc], .agg #[.int .i64 fb.num, .int .i64 fb.size, .slice la' fb.least.length lc', .slice ma' fb.most.length mc']] W' fun r W'' => r = .returned (.int .i64 (cmpF 0 fa fb)) ∧ Fr [] W' W'') := hid (fun W' f => (ord0_c W' _ _ _ _ _ _ _ _).mono fun r W'' h => ⟨h.1, h.2.1⟩)
      have RC : Hid (∀ W', Fr [] wr W' → _) := hid (fun W' f => reaches_c W' (RA.out W' f) (RB.out W' f) kam kbl)
      clear kal kam kbl kbm
      have HAP : Hid (apartF 0 fa fb = (decide (cmpF 0 fa fb < 0) && !(false))) := hid (by unfold apartF; simp)
      have hk3 : ((k : Int) - 1).toNat = k - 1 := by omega
      have hk4 : (k : Int) - 1 < (n : Int) := by omega
      have hk5 : 1 ≤ (k : Int) := by omega
      have hk6 : IntKind.i64.wrap ((k : Int) - 1) = (k : Int) - 1 := by simp [IntKind.wrap, IntKind.bits, IntKind.signed]; omega
      go_upto_region 5 with fail
      go_cut [7, 8] from 17 to 25 (fun v7 v8 W => ∃ pa pb : Nat, v7 = .pointer (some ⟨pa, 0, none⟩) ∧ v8 = .pointer (some ⟨pb, 0, none⟩) ∧ W.heap[pa]? = some (.cells #[.int .i64 fa.num, .int .i64 fa.size, .slice la fa.least.length lc, .slice ma fa.most.length mc] 62 (0, 0)) ∧ W.heap[pb]? = some (.cells #[.int .i64 fb.num, .int .i64 fb.size, .slice la' fb.least.length lc', .slice ma' fb.most.length mc'] 62 (0, 0)) ∧ Fr [] wr W)
      case first =>
        clear CM RC RA RB HAP HQ HR HOK HRD HFA HFB
        refine wp_region_held_drew (S := fun w' => Fr [] wr w') (by kernel_rfl) (Fr.refl [] wr).drew (fun hS => ?_)
        refine wpAnyH_take (i := 0) (v := .slice (some ⟨b, off, none⟩) n c) rfl (by kernel_rfl) (by kernel_rfl) (by kernel_rfl) (fun _ _ _ h => h) (.inl ⟨by rfl, fun wx _ => by go_simp⟩) hS ?_
        simp only [Act.put]
        refine wpAnyH_take (i := 1) (v := .int .i64 (k : Int)) rfl (by kernel_rfl) (by kernel_rfl) (by kernel_rfl) (fun _ _ _ h => h) (.inl ⟨by rfl, fun wx _ => by go_simp⟩) hS ?_
        simp only [Act.put]
        refine wpAnyH_take (i := 2) (v := .int .i64 ((k : Int) - 1)) rfl (by kernel_rfl) (by kernel_rfl) (by kernel_rfl) (fun _ _ _ h => h) (.inl ⟨by rfl, fun wx _ => by go_simp⟩) hS ?_
        simp only [Act.put]
        refine wpAnyH_take (i := 3) (v := .pointer (some ⟨b, off + (k - 1) * 4, none⟩)) rfl (by kernel_rfl) (by kernel_rfl) (by kernel_rfl) (fun _ _ _ h => h) (.inl ⟨by rfl, fun wx _ => by go_simp⟩) hS ?_
        simp only [Act.put]
        refine wpAnyH_take (i := 4) (v := .agg #[.int .i64 fa.num, .int .i64 fa.size, .slice la fa.least.length lc, .slice ma fa.most.length mc]) rfl (by kernel_rfl) (by kernel_rfl) (by kernel_rfl) (fun _ _ _ h => h) (.inl ⟨by rfl, fun wx hX => by obtain ⟨⟨s0, s1, s2, s3⟩, s4, s5, s6, s7⟩ := SK.out wx hX; go_simp⟩) hS ?_
        simp only [Act.put]
        refine wpAnyH_take (i := 5) (v := .slice (some ⟨b, off, none⟩) n c) rfl (by kernel_rfl) (by kernel_rfl) (by kernel_rfl) (fun _ _ _ h => h) (.inl ⟨by rfl, fun wx _ => by go_simp⟩) hS ?_
        simp only [Act.put]
        refine wpAnyH_take (i := 6) (v := .int .i64 (k : Int)) rfl (by kernel_rfl) (by kernel_rfl) (by kernel_rfl) (fun _ _ _ h => h) (.inl ⟨by rfl, fun wx _ => by go_simp⟩) hS ?_
        simp only [Act.put]
        refine wpAnyH_take (i := 7) (v := .pointer (some ⟨b, off + k * 4, none⟩)) rfl (by kernel_rfl) (by kernel_rfl) (by kernel_rfl) (fun _ _ _ h => h) (.inl ⟨by rfl, fun wx _ => by go_simp⟩) hS ?_
        simp only [Act.put]
        refine wpAnyH_take (i := 8) (v := .agg #[.int .i64 fb.num, .int .i64 fb.size, .slice la' fb.least.length lc', .slice ma' fb.most.length mc']) rfl (by kernel_rfl) (by kernel_rfl) (by kernel_rfl) (fun _ _ _ h => h) (.inl ⟨by rfl, fun wx hX => by obtain ⟨⟨s0, s1, s2, s3⟩, s4, s5, s6, s7⟩ := SK.out wx hX; go_simp⟩) hS ?_
        simp only [Act.put]
        clear hS
        refine wpAnyH_ready (rs := [9, 10]) (by kernel_rfl) (by simp) ?_
        refine AllReadyH.cons rfl (fun K hK => ?_) (AllReadyH.cons rfl (fun K hK => ?_) AllReadyH.nil)
        · go_simp
          refine hK.out _ _ ((Fr.refl [] wr).drew.alloc _) (fun _ => ?_)
          clear hK K
          refine wpAnyH_ready (rs := [10]) (by kernel_rfl) (by simp) ?_
          refine AllReadyH.cons rfl (fun K hK => ?_) AllReadyH.nil
          go_simp
          refine hK.out _ _ (((Fr.refl [] wr).alloc _).alloc _).drew (fun _ => ?_)
          clear hK K
          refine wpAnyH_ready (rs := [11]) (by kernel_rfl) (by simp) ?_
          refine AllReadyH.cons rfl (fun K hK => ?_) AllReadyH.nil
          go_simp
          refine hK.out _ _ (((Fr.refl [] wr).alloc _).alloc _).drew (fun _ => ?_)
          clear hK K
          refine wpAnyH_ready (rs := [12]) (by kernel_rfl) (by simp) ?_
          refine AllReadyH.cons rfl (fun K hK => ?_) AllReadyH.nil
          go_simp
          refine hK.out _ _ (((Fr.refl [] wr).alloc _).alloc _).drew (fun _ => ?_)
          clear hK K
          refine wpAnyH_done (by kernel_rfl) ?_ _
          go_wp2
          go_meet
          case rel => exact ⟨_, _, rfl, rfl, by rw [heap_drew1, blk_old _ _ (by simp)]; exact blk_new _ _, by rw [heap_drew1]; exact new_at _ _ (by simp), (((Fr.refl [] wr).alloc _).alloc _).drew⟩
        · go_simp
          refine hK.out _ _ ((Fr.refl [] wr).drew.alloc _) (fun _ => ?_)
          clear hK K
          refine wpAnyH_ready (rs := [9]) (by kernel_rfl) (by simp) ?_
          refine AllReadyH.cons rfl (fun K hK => ?_) AllReadyH.nil
          go_simp
          refine hK.out _ _ (((Fr.refl [] wr).alloc _).alloc _).drew (fun _ => ?_)
          clear hK K
          refine wpAnyH_ready (rs := [11]) (by kernel_rfl) (by simp) ?_
          refine AllReadyH.cons rfl (fun K hK => ?_) AllReadyH.nil
          go_simp
          refine hK.out _ _ (((Fr.refl [] wr).alloc _).alloc _).drew (fun _ => ?_)
          clear hK K
          refine wpAnyH_ready (rs := [12]) (by kernel_rfl) (by simp) ?_
          refine AllReadyH.cons rfl (fun K hK => ?_) AllReadyH.nil
          go_simp
          refine hK.out _ _ (((Fr.refl [] wr).alloc _).alloc _).drew (fun _ => ?_)
          clear hK K
          refine wpAnyH_done (by kernel_rfl) ?_ _
          go_wp2
          go_meet
          case rel => exact ⟨_, _, rfl, rfl, by rw [heap_drew1]; exact new_at _ _ (by simp), by rw [heap_drew1, blk_old _ _ (by simp)]; exact blk_new _ _, (((Fr.refl [] wr).alloc _).alloc _).drew⟩
      case rest =>
        obtain ⟨pa, pb, rfl, rfl, na, nb, fc⟩ := hcut
        obtain ⟨y0, y1, y2, y3⟩ := fl_cells na
        obtain ⟨x0, x1, x2, x3⟩ := fl_cells nb
        have CF := hid (CM.out wc fc)
        have RF : Hid (∀ W', Fr [] wc W' → _) := hid (fun W' f => RC.out W' (fc.trans f))
        have YF : Hid (∀ W', Fr [] wc W' → (W'.cell? ⟨pa, 0, none⟩ = some (.int .i64 fa.num) ∧ W'.cell? ⟨pa, 1, none⟩ = some (.int .i64 fa.size) ∧ W'.cell? ⟨pa, 2, none⟩ = some (.slice la fa.least.length lc) ∧ W'.cell? ⟨pa, 3, none⟩ = some (.slice ma fa.most.length mc)) ∧ W'.cell? ⟨pb, 0, none⟩ = some (.int .i64 fb.num) ∧ W'.cell? ⟨pb, 1, none⟩ = some (.int .i64 fb.size) ∧ W'.cell? ⟨pb, 2, none⟩ = some (.slice la' fb.least.length lc') ∧ W'.cell? ⟨pb, 3, none⟩ = some (.slice ma' fb.most.length mc')) := hid (fun W' f => ⟨⟨cell_fr f y0, cell_fr f y1, cell_fr f y2, cell_fr f y3⟩, cell_fr f x0, cell_fr f x1, cell_fr f x2, cell_fr f x3⟩)
        have FC := hid fc
        clear fc na nb CM RC RA RB SK
        generalize hcm : cmpF 0 fa fb = cm at *
        by_cases hc : cm < 0
        · have hc' : ¬ 0 ≤ cm := by omega
          have HE : Hid (apartF 0 fa fb = true) := hid (by rw [HAP.out, decide_eq_true hc]; rfl)
          clear hcm
          go_wp2_with (go_at_call 63; refine CF.out.mono ?_; rintro r w1 ⟨rfl, f1⟩; have F1 := hid f1; obtain ⟨⟨u0, u1, u2, u3⟩, v0, v1, v2, v3⟩ := YF.out w1 f1; have RG := hid (RF.out w1 f1); clear f1)
          go_roundw
          case rel => exact ⟨k + 1, by omega, by omega, by go_num, fun j h1 h2 a b ha hb => by
            by_cases hj : j < k
            · exact HQ.out j h1 hj a b ha hb
            · have hjk : j = k := by omega
              subst hjk
              rw [HFA.out] at ha
              rw [HFB.out] at hb
              cases ha
              cases hb
              exact HE.out, (HF.out.trans FC.out).trans F1.out⟩
          case measure => simp [intOf]; omega
        · have hc0 : 0 ≤ cm := by omega
          have HE : Hid (R = false) := hid (by rw [HR.out]; exact rises_not hk1 HFA.out HFB.out (by rw [HAP.out, decide_eq_false hc]; rfl))
          clear hcm
          go_wp2_with (go_at_call 63; refine CF.out.mono ?_; rintro r w1 ⟨rfl, f1⟩; have F1 := hid f1; obtain ⟨⟨u0, u1, u2, u3⟩, v0, v1, v2, v3⟩ := YF.out w1 f1; have RG := hid (RF.out w1 f1); clear f1)
          go_ret
          exact ⟨ret_bool HE.out.symm, (HF.out.trans FC.out).trans F1.out⟩
    · have HQ3 : Hid (R = true) := hid (by
        rw [HR.out]
        refine rises_all _ fs (fun j h1 h2 a b ha hb => HQ.out j h1 ?_ a b ha hb)
        have := HN.out
        omega)
      have hge : (n : Int) ≤ (k : Int) := by omega
      go_wp2_with fail
      go_ret
      exact ⟨ret_bool HQ3.out.symm, HF.out⟩

set_option maxRecDepth 20000 in
set_option maxHeartbeats 3200000 in
theorem inOrder_1 (w : World) {i : Nat} (hi : 0 < i) {fs : List Fl} {ad : Option Addr} {n c : Nat} (hn : n = fs.length) (hl : n ≤ 140737488355328) (hr : RdF w ad n fs) (ok : ∀ f ∈ fs, okF f = true) :
    Calls Tryz.prog 50 #[.int .i64 (i : Int), .slice ad n c] w fun r w' => r = .returned (.bool (risesF i fs)) ∧ Fr [] w w' := by
  obtain ⟨R, hR⟩ : ∃ R, R = risesF i fs := ⟨_, rfl⟩
  rw [← hR]
  have HR : Hid (R = risesF i fs) := hid hR
  have OC := hid (orderOf_1 w (n := (i : Int)) (by omega))
  have HRD := hid hr
  have HOK := hid ok
  have HN := hid hn
  clear hr ok hR hn
  go_enter Tryz.func50, Tryz.ntmps50
  go_wp2_with (go_at_call 33; refine OC.out.mono ?_; rintro r W1 ⟨rfl, h⟩; rw [h]; clear h)
  clear OC
  go_loopw [6] (fun v6 wr => ∃ k : Nat, 1 ≤ k ∧ (k ≤ n ∨ n = 0 ∧ k = 1) ∧ v6 = .int .i64 (k : Int) ∧ (∀ j, 1 ≤ j → j < k → ∀ a b, fs[j - 1]? = some a → fs[j]? = some b → apartF i a b = true) ∧ Fr [] w wr) (fun v6 _ => n + 1 - (intOf v6).toNat)
  case atStart => exact ⟨1, by omega, by omega, rfl, fun j h1 h2 => by omega, Fr.refl _ _⟩
  case round =>
    obtain ⟨k, hk1, hk2, rfl, hq, hf⟩ := hrel
    have HQ := hid hq
    have HF := hid hf
    clear hq hf
    by_cases hlt : k < n
    · have hlt' : (k : Int) < (n : Int) := by omega
      clear hk2
      obtain ⟨fa, hfa⟩ : ∃ fa, fs[k - 1]? = some fa := ⟨_, List.getElem?_eq_getElem (by have := HN.out; omega)⟩
      obtain ⟨fb, hfb⟩ : ∃ fb, fs[k]? = some fb := ⟨_, List.getElem?_eq_getElem (by have := HN.out; omega)⟩
      have HFA := hid hfa
      have HFB := hid hfb
      obtain ⟨kal, kam⟩ := okF_keys (HOK.out fa (List.mem_of_getElem? hfa))
      obtain ⟨kbl, kbm⟩ := okF_keys (HOK.out fb (List.mem_of_getElem? hfb))
      obtain ⟨b, off, hab, m1⟩ := HRD.out (by omega)
      subst hab
      obtain ⟨la, lc, ma, mc, k1⟩ := m1 (k - 1) fa hfa
      obtain ⟨la', lc', ma', mc', k2⟩ := m1 k fb hfb
      clear m1 hfa hfb
      have SK : Hid (∀ W', Fr [] wr W' → (W'.cell? ⟨b, off + (k - 1) * 4, none⟩ = some (.int .i64 fa.num) ∧ W'.cell? ⟨b, off + (k - 1) * 4 + 1, none⟩ = some (.int .i64 fa.size) ∧ W'.cell? ⟨b, off + (k - 1) * 4 + 2, none⟩ = some (.slice la fa.least.length lc) ∧ W'.cell? ⟨b, off + (k - 1) * 4 + 3, none⟩ = some (.slice ma fa.most.length mc)) ∧ W'.cell? ⟨b, off + k * 4, none⟩ = some (.int .i64 fb.num) ∧ W'.cell? ⟨b, off + k * 4 + 1, none⟩ = some (.int .i64 fb.size) ∧ W'.cell? ⟨b, off + k * 4 + 2, none⟩ = some (.slice la' fb.least.length lc') ∧ W'.cell? ⟨b, off + k * 4 + 3, none⟩ = some (.slice ma' fb.most.length mc')) := hid (fun W' f => by
        have ff := HF.out.trans f
        exact ⟨⟨cell_fr ff k1.c0, cell_fr ff k1.c1, cell_fr ff k1.c2, cell_fr ff k1.c3⟩, cell_fr ff k2.c0, cell_fr ff k2.c1, cell_fr ff k2.c2, cell_fr ff k2.c3⟩)
      have RA : Hid (∀ W', Fr [] wr W' → FRd W' fa la lc ma mc) := hid (fun W' f => k1.rd.fr (HF.out.trans f))
      have RB : Hid (∀ W', Fr [] wr W' → FRd W' fb la' lc' ma' mc') := hid (fun W' f => k2.rd.fr (HF.out.trans f))
      clear k1 k2
      have CM : Hid (∀ W', Fr [] wr W' → Calls Tryz.prog 65 #[.agg #[.int .i64 fa.num, .int .i64 fa.size, .slice la fa.least.length lc, .slice ma fa.most.length mc], .agg #[.int .i64 fb.num, .int .i64 fb.size, .slice la' fb.least.length lc', .slice ma' fb.most.length mc']] W' fun r W'' => r = .returned (.int .i64 (cmpF i fa fb)) ∧ Fr [] W' W'') := hid (fun W' f => by rw [show cmpF i fa fb = ordK fa.least fb.least from if_neg (by omega)]; exact (ord1_c W' (RA.out W' f) (RB.out W' f) kal kbl).mono fun r W'' h => ⟨h.1, h.2.1⟩)
      have RC : Hid (∀ W', Fr [] wr W' → _) := hid (fun W' f => reaches_c W' (RA.out W' f) (RB.out W' f) kam kbl)
      clear kal kam kbl kbm
      have HAP : Hid (apartF i fa fb = (decide (cmpF i fa fb < 0) && !(reachF fa fb))) := hid (by unfold apartF; rw [decide_eq_true hi, Bool.true_and])
      have hk3 : ((k : Int) - 1).toNat = k - 1 := by omega
      have hk4 : (k : Int) - 1 < (n : Int) := by omega
      have hk5 : 1 ≤ (k : Int) := by omega
      have hk6 : IntKind.i64.wrap ((k : Int) - 1) = (k : Int) - 1 := by simp [IntKind.wrap, IntKind.bits, IntKind.signed]; omega
      go_upto_region 5 with fail
      go_cut [7, 8] from 17 to 25 (fun v7 v8 W => ∃ pa pb : Nat, v7 = .pointer (some ⟨pa, 0, none⟩) ∧ v8 = .pointer (some ⟨pb, 0, none⟩) ∧ W.heap[pa]? = some (.cells #[.int .i64 fa.num, .int .i64 fa.size, .slice la fa.least.length lc, .slice ma fa.most.length mc] 62 (0, 0)) ∧ W.heap[pb]? = some (.cells #[.int .i64 fb.num, .int .i64 fb.size, .slice la' fb.least.length lc', .slice ma' fb.most.length mc'] 62 (0, 0)) ∧ Fr [] wr W)
      case first =>
        clear CM RC RA RB HAP HQ HR HOK HRD HFA HFB
        refine wp_region_held_drew (S := fun w' => Fr [] wr w') (by kernel_rfl) (Fr.refl [] wr).drew (fun hS => ?_)
        refine wpAnyH_take (i := 0) (v := .slice (some ⟨b, off, none⟩) n c) rfl (by kernel_rfl) (by kernel_rfl) (by kernel_rfl) (fun _ _ _ h => h) (.inl ⟨by rfl, fun wx _ => by go_simp⟩) hS ?_
        simp only [Act.put]
        refine wpAnyH_take (i := 1) (v := .int .i64 (k : Int)) rfl (by kernel_rfl) (by kernel_rfl) (by kernel_rfl) (fun _ _ _ h => h) (.inl ⟨by rfl, fun wx _ => by go_simp⟩) hS ?_
        simp only [Act.put]
        refine wpAnyH_take (i := 2) (v := .int .i64 ((k : Int) - 1)) rfl (by kernel_rfl) (by kernel_rfl) (by kernel_rfl) (fun _ _ _ h => h) (.inl ⟨by rfl, fun wx _ => by go_simp⟩) hS ?_
        simp only [Act.put]
        refine wpAnyH_take (i := 3) (v := .pointer (some ⟨b, off + (k - 1) * 4, none⟩)) rfl (by kernel_rfl) (by kernel_rfl) (by kernel_rfl) (fun _ _ _ h => h) (.inl ⟨by rfl, fun wx _ => by go_simp⟩) hS ?_
        simp only [Act.put]
        refine wpAnyH_take (i := 4) (v := .agg #[.int .i64 fa.num, .int .i64 fa.size, .slice la fa.least.length lc, .slice ma fa.most.length mc]) rfl (by kernel_rfl) (by kernel_rfl) (by kernel_rfl) (fun _ _ _ h => h) (.inl ⟨by rfl, fun wx hX => by obtain ⟨⟨s0, s1, s2, s3⟩, s4, s5, s6, s7⟩ := SK.out wx hX; go_simp⟩) hS ?_
        simp only [Act.put]
        refine wpAnyH_take (i := 5) (v := .slice (some ⟨b, off, none⟩) n c) rfl (by kernel_rfl) (by kernel_rfl) (by kernel_rfl) (fun _ _ _ h => h) (.inl ⟨by rfl, fun wx _ => by go_simp⟩) hS ?_
        simp only [Act.put]
        refine wpAnyH_take (i := 6) (v := .int .i64 (k : Int)) rfl (by kernel_rfl) (by kernel_rfl) (by kernel_rfl) (fun _ _ _ h => h) (.inl ⟨by rfl, fun wx _ => by go_simp⟩) hS ?_
        simp only [Act.put]
        refine wpAnyH_take (i := 7) (v := .pointer (some ⟨b, off + k * 4, none⟩)) rfl (by kernel_rfl) (by kernel_rfl) (by kernel_rfl) (fun _ _ _ h => h) (.inl ⟨by rfl, fun wx _ => by go_simp⟩) hS ?_
        simp only [Act.put]
        refine wpAnyH_take (i := 8) (v := .agg #[.int .i64 fb.num, .int .i64 fb.size, .slice la' fb.least.length lc', .slice ma' fb.most.length mc']) rfl (by kernel_rfl) (by kernel_rfl) (by kernel_rfl) (fun _ _ _ h => h) (.inl ⟨by rfl, fun wx hX => by obtain ⟨⟨s0, s1, s2, s3⟩, s4, s5, s6, s7⟩ := SK.out wx hX; go_simp⟩) hS ?_
        simp only [Act.put]
        clear hS
        refine wpAnyH_ready (rs := [9, 10]) (by kernel_rfl) (by simp) ?_
        refine AllReadyH.cons rfl (fun K hK => ?_) (AllReadyH.cons rfl (fun K hK => ?_) AllReadyH.nil)
        · go_simp
          refine hK.out _ _ ((Fr.refl [] wr).drew.alloc _) (fun _ => ?_)
          clear hK K
          refine wpAnyH_ready (rs := [10]) (by kernel_rfl) (by simp) ?_
          refine AllReadyH.cons rfl (fun K hK => ?_) AllReadyH.nil
          go_simp
          refine hK.out _ _ (((Fr.refl [] wr).alloc _).alloc _).drew (fun _ => ?_)
          clear hK K
          refine wpAnyH_ready (rs := [11]) (by kernel_rfl) (by simp) ?_
          refine AllReadyH.cons rfl (fun K hK => ?_) AllReadyH.nil
          go_simp
          refine hK.out _ _ (((Fr.refl [] wr).alloc _).alloc _).drew (fun _ => ?_)
          clear hK K
          refine wpAnyH_ready (rs := [12]) (by kernel_rfl) (by simp) ?_
          refine AllReadyH.cons rfl (fun K hK => ?_) AllReadyH.nil
          go_simp
          refine hK.out _ _ (((Fr.refl [] wr).alloc _).alloc _).drew (fun _ => ?_)
          clear hK K
          refine wpAnyH_done (by kernel_rfl) ?_ _
          go_wp2
          go_meet
          case rel => exact ⟨_, _, rfl, rfl, by rw [heap_drew1, blk_old _ _ (by simp)]; exact blk_new _ _, by rw [heap_drew1]; exact new_at _ _ (by simp), (((Fr.refl [] wr).alloc _).alloc _).drew⟩
        · go_simp
          refine hK.out _ _ ((Fr.refl [] wr).drew.alloc _) (fun _ => ?_)
          clear hK K
          refine wpAnyH_ready (rs := [9]) (by kernel_rfl) (by simp) ?_
          refine AllReadyH.cons rfl (fun K hK => ?_) AllReadyH.nil
          go_simp
          refine hK.out _ _ (((Fr.refl [] wr).alloc _).alloc _).drew (fun _ => ?_)
          clear hK K
          refine wpAnyH_ready (rs := [11]) (by kernel_rfl) (by simp) ?_
          refine AllReadyH.cons rfl (fun K hK => ?_) AllReadyH.nil
          go_simp
          refine hK.out _ _ (((Fr.refl [] wr).alloc _).alloc _).drew (fun _ => ?_)
          clear hK K
          refine wpAnyH_ready (rs := [12]) (by kernel_rfl) (by simp) ?_
          refine AllReadyH.cons rfl (fun K hK => ?_) AllReadyH.nil
          go_simp
          refine hK.out _ _ (((Fr.refl [] wr).alloc _).alloc _).drew (fun _ => ?_)
          clear hK K
          refine wpAnyH_done (by kernel_rfl) ?_ _
          go_wp2
          go_meet
          case rel => exact ⟨_, _, rfl, rfl, by rw [heap_drew1]; exact new_at _ _ (by simp), by rw [heap_drew1, blk_old _ _ (by simp)]; exact blk_new _ _, (((Fr.refl [] wr).alloc _).alloc _).drew⟩
      case rest =>
        obtain ⟨pa, pb, rfl, rfl, na, nb, fc⟩ := hcut
        obtain ⟨y0, y1, y2, y3⟩ := fl_cells na
        obtain ⟨x0, x1, x2, x3⟩ := fl_cells nb
        have CF := hid (CM.out wc fc)
        have RF : Hid (∀ W', Fr [] wc W' → _) := hid (fun W' f => RC.out W' (fc.trans f))
        have YF : Hid (∀ W', Fr [] wc W' → (W'.cell? ⟨pa, 0, none⟩ = some (.int .i64 fa.num) ∧ W'.cell? ⟨pa, 1, none⟩ = some (.int .i64 fa.size) ∧ W'.cell? ⟨pa, 2, none⟩ = some (.slice la fa.least.length lc) ∧ W'.cell? ⟨pa, 3, none⟩ = some (.slice ma fa.most.length mc)) ∧ W'.cell? ⟨pb, 0, none⟩ = some (.int .i64 fb.num) ∧ W'.cell? ⟨pb, 1, none⟩ = some (.int .i64 fb.size) ∧ W'.cell? ⟨pb, 2, none⟩ = some (.slice la' fb.least.length lc') ∧ W'.cell? ⟨pb, 3, none⟩ = some (.slice ma' fb.most.length mc')) := hid (fun W' f => ⟨⟨cell_fr f y0, cell_fr f y1, cell_fr f y2, cell_fr f y3⟩, cell_fr f x0, cell_fr f x1, cell_fr f x2, cell_fr f x3⟩)
        have FC := hid fc
        clear fc na nb CM RC RA RB SK
        generalize hcm : cmpF i fa fb = cm at *
        by_cases hc : cm < 0
        · have hc' : ¬ 0 ≤ cm := by omega
          generalize hrf : reachF fa fb = rf at *
          cases rf with
          | true =>
            have HE : Hid (R = false) := hid (by rw [HR.out]; exact rises_not hk1 HFA.out HFB.out (by rw [HAP.out, decide_eq_true hc]; rfl))
            clear hcm hrf
            go_wp2_with (first | (go_at_call 78; refine RG.out.mono ?_; rintro r w2 ⟨rfl, f2⟩; have F2 := hid f2; clear f2) | (go_at_call 65; refine CF.out.mono ?_; rintro r w1 ⟨rfl, f1⟩; have F1 := hid f1; obtain ⟨⟨u0, u1, u2, u3⟩, v0, v1, v2, v3⟩ := YF.out w1 f1; have RG := hid (RF.out w1 f1); clear f1))
            go_ret
            exact ⟨ret_bool HE.out.symm, ((HF.out.trans FC.out).trans F1.out).trans F2.out⟩
          | false =>
            have HE : Hid (apartF i fa fb = true) := hid (by rw [HAP.out, decide_eq_true hc]; rfl)
            clear hcm hrf
            go_wp2_with (first | (go_at_call 78; refine RG.out.mono ?_; rintro r w2 ⟨rfl, f2⟩; have F2 := hid f2; clear f2) | (go_at_call 65; refine CF.out.mono ?_; rintro r w1 ⟨rfl, f1⟩; have F1 := hid f1; obtain ⟨⟨u0, u1, u2, u3⟩, v0, v1, v2, v3⟩ := YF.out w1 f1; have RG := hid (RF.out w1 f1); clear f1))
            go_roundw
            case rel => exact ⟨k + 1, by omega, by omega, by go_num, fun j h1 h2 a b ha hb => by
              by_cases hj : j < k
              · exact HQ.out j h1 hj a b ha hb
              · have hjk : j = k := by omega
                subst hjk
                rw [HFA.out] at ha
                rw [HFB.out] at hb
                cases ha
                cases hb
                exact HE.out, ((HF.out.trans FC.out).trans F1.out).trans F2.out⟩
            case measure => simp [intOf]; omega
        · have hc0 : 0 ≤ cm := by omega
          have HE : Hid (R = false) := hid (by rw [HR.out]; exact rises_not hk1 HFA.out HFB.out (by rw [HAP.out, decide_eq_false hc]; rfl))
          clear hcm
          go_wp2_with (go_at_call 65; refine CF.out.mono ?_; rintro r w1 ⟨rfl, f1⟩; have F1 := hid f1; obtain ⟨⟨u0, u1, u2, u3⟩, v0, v1, v2, v3⟩ := YF.out w1 f1; have RG := hid (RF.out w1 f1); clear f1)
          go_ret
          exact ⟨ret_bool HE.out.symm, (HF.out.trans FC.out).trans F1.out⟩
    · have HQ3 : Hid (R = true) := hid (by
        rw [HR.out]
        refine rises_all _ fs (fun j h1 h2 a b ha hb => HQ.out j h1 ?_ a b ha hb)
        have := HN.out
        omega)
      have hge : (n : Int) ≤ (k : Int) := by omega
      go_wp2_with fail
      go_ret
      exact ⟨ret_bool HQ3.out.symm, HF.out⟩

end Go.Proofs.YtegbngbhmgbocaaGreatDoor
