/-
  How a new node is referred to.
-/
import Derived.Test.YtmpfnglcmaollaaDoorTrN
import Derived.Test.YtmpfnglcmaollaaDoorJ06
import Derived.Test.YtmpfnglcmaollaaDoorJ19
namespace Go.Proofs.YtmpfnglcmaollaaDoor
open Go.ChangeShapes Go.WideShapes Go.ChangeAt Go.RowKit

theorem hash_bv (x : List Nat) : bvals 32 (hashOf x) = (bv (hshF x)).toArray := by
  apply Array.ext_getElem?
  intro i
  by_cases hi : i < 32
  · rw [bvals_at _ hi, List.getElem?_toArray]
    unfold bv hshF
    rw [List.getElem?_map, List.getElem?_map, List.getElem?_range hi]
    rfl
  · rw [Array.getElem?_eq_none (by rw [bvals_size]; omega), Array.getElem?_eq_none (by rw [List.size_toArray, bv_len, hshF_len]; omega)]
theorem Rows2.oneT {w : World} {u : Value} {x : List Nat} (h : Rd w u (bv x)) (hb : ∀ n ∈ x, n < 256) (hl : x.length ≤ 140737488355328) : Rows2 (w.alloc (.cells #[u] 33)) (.slice (some ⟨w.heap.size, 0, none⟩) 1 1) [u] [x] :=
  ⟨.inr ⟨w.heap.size, 0, 1, rfl, Nat.le_refl _, fun j v hj => by
    cases j with
    | zero =>
      cases hj
      exact blk_cell (blk_new w _) 0
    | succ j => simp at hj⟩, rfl, fun j v y hv hy => by
    cases j with
    | zero =>
      cases hv; cases hy
      exact h.fr ((Fr.refl _ _).alloc _)
    | succ j => simp at hv, fun y hy => by
      rw [List.mem_singleton] at hy
      subst hy
      exact ⟨hb, hl⟩⟩
theorem RfS.fresh {S : Nat → Prop} {w w2 w' : World} {h : List Nat} {e g : Nat} (hl : h.length = 32) (hb : By h) (hg : w.heap.size ≤ g) (hr : Rd w2 (.slice (some ⟨g, 0, none⟩) 32 32) (bv h)) (hk : w'.heap[g]? = w2.heap[g]?) : RfS (Up S w w') w' (.agg #[.bool false, .slice (some ⟨g, 0, none⟩) 32 32, .slice none 0 0]) (strL h) e := by
  have hgl : g < w2.heap.size := by
    rcases hr with ⟨h0, _⟩ | ⟨a, c, h1, _, h3⟩
    · cases h0
    · obtain ⟨x, hx⟩ : ∃ x, (bv h)[0]? = some x := by
        rw [List.getElem?_eq_getElem (by rw [bv_len]; omega)]; exact ⟨_, rfl⟩
      have h4 := h3 0 x hx
      simp only [Value.slice.injEq, Option.some.injEq] at h1
      rw [← h1.1, Addr.add_lit] at h4
      exact World.block_lt_of_cell? _ _ h4
  have hgw : g < w'.heap.size := by
    rw [Array.getElem?_eq_getElem hgl] at hk
    exact (Array.getElem?_eq_some_iff.1 hk).1
  refine ⟨1, by rw [strL32 hl]; omega, Nat.le_refl _, fun w'' ha => (ItV.str (hr.stepT fun k h => ?_) hb (by omega)).len⟩
  simp only [Value.ownBlock, Option.some.injEq] at h
  subst h
  rw [ha g (.inr ⟨hg, hgw⟩), hk]
set_option maxRecDepth 20000 in
set_option maxHeartbeats 1600000 in
theorem refer_c (w : World) {S : Nat → Prop} (HT : Tabs w) (hi : InS S w) {nv : Value} {x : List Nat} {e0 : Nat} (hx : x.length ≤ 4000)
    (IC : Calls Tryd.prog 48 #[nv] (w.alloc (.cells #[.bool false, .slice none 0 0, .slice none 0 0] 77)) fun e w' => ∃ iv d, e = .returned (.tuple #[iv, .int .i64 0]) ∧ 9 * d ≤ x.length + e0 ∧ 1 ≤ d ∧ d ≤ 16 ∧ Un (Up S (w.alloc (.cells #[.bool false, .slice none 0 0, .slice none 0 0] 77)) w') w' (fun w'' => ItV 21 w'' iv x d x.length) ∧ (∃ l a1 n1 c1 a2 n2 c2, iv = .agg #[.bool l, .slice a1 n1 c1, .slice a2 n2 c2]) ∧ Fr [] (w.alloc (.cells #[.bool false, .slice none 0 0, .slice none 0 0] 77)) w') :
    Calls Tryd.prog 97 #[nv] w fun e w' => ∃ l a1 n1 c1 a2 n2 c2, e = .returned (.tuple #[.agg #[.bool l, .slice a1 n1 c1, .slice a2 n2 c2], .int .i64 0]) ∧ RfS (Up S w w') w' (.agg #[.bool l, .slice a1 n1 c1, .slice a2 n2 c2]) (shtF x) e0 ∧ Fr [] w w' := by
  obtain ⟨W, hW⟩ : ∃ W, W = w.alloc (.cells #[.bool false, .slice none 0 0, .slice none 0 0] 77) := ⟨_, rfl⟩
  rw [← hW] at IC
  have F : Hid (Fr [] w W) := hid (by rw [hW]; exact (Fr.refl _ w).alloc _)
  have Y : Hid (W.heap[w.heap.size]? = some (.cells #[.bool false, .slice none 0 0, .slice none 0 0] 77 (0, 0))) := hid (by rw [hW]; exact blk_new _ _)
  have HTH := hid HT
  have HI := hid hi
  have ICH := hid IC
  clear HT hi IC
  go_enter Tryd.func97, Tryd.ntmps97
  go_upto_region 1 with fail
  rw [← hW]
  have HW1 : Hid (W.heap.size = w.heap.size + 1) := hid (by rw [hW]; simp)
  clear hW
  go_upto_region 2 with (go_at_call 48; refine ICH.out.mono ?_; rintro e w1 ⟨iv, d, rfl, h1, h2, h3, h4, ⟨l, a1, n1, c1, a2, n2, c2, rfl⟩, f1⟩; have H4 := hid h4; have FW1 := hid f1; have F1 := hid (F.out.trans f1); have Y1 := hid (blk_frT Y.out f1); clear h4 f1 ICH)
  obtain ⟨W2, hW2⟩ : ∃ W2, W2 = w1.alloc (.cells #[.bool l, .slice a1 n1 c1, .slice a2 n2 c2] 77) := ⟨_, rfl⟩
  rw [← hW2]
  have F12 : Hid (Fr [] w1 W2) := hid (by rw [hW2]; exact (Fr.refl _ _).alloc _)
  have Z2 : Hid (W2.heap[w1.heap.size]? = some (.cells #[.bool l, .slice a1 n1 c1, .slice a2 n2 c2] 77 (0, 0))) := hid (by rw [hW2]; exact blk_new _ _)
  clear hW2
  have F2 := hid (F1.out.trans F12.out)
  have Y2 := hid (blk_frT Y1.out F12.out)
  have IU : Hid (InS (Up S W w1) w1) := hid ((HI.out.fr F.out).up (FW1.out))
  obtain ⟨t, t1, t2, t3, t4, t5, _⟩ := H4.out W2 (IU.out.agr F12.out)
  have hct := cnt_len 21 t t4
  rw [t2] at hct
  have hbd := bad_ok 21 t d 1 t4 t5 (by omega)
  have hE0 : encE t = 0 := by unfold encE; rw [if_neg (by omega), if_neg (by rw [t2]; omega)]
  have hEB : encB t = x := by unfold encB; rw [if_pos hE0]; exact t2
  have EC := hid (encode_c W2 t1 (by omega) (by omega) (by rw [t2]; omega))
  have HXB := hid (enc_by 21 t t3)
  rw [t2] at HXB
  rw [hE0, hEB] at EC
  clear t1 t2 t3 t4 t5 hct hbd hE0 hEB
  have x0 := blk_cell Z2.out 0
  have x1 := blk_cell Z2.out 1
  have x2 := blk_cell Z2.out 2
  simp at x0 x1 x2
  go_upto_region 3 with (go_at_call 40; refine EC.out.mono ?_; rintro e w3 ⟨v', rfl, O, f3⟩; have OO := hid O; have F3 := hid (F2.out.trans f3); have F13 := hid (F12.out.trans f3); have Y3 := hid (blk_frT Y2.out f3); have Z3 := hid (blk_frT Z2.out f3); clear O f3 EC)
  have RV : Hid (Rd w3 v' (bv x)) := hid (Rd.ownB OO.out)
  obtain ⟨a3, c3, e3⟩ := RV.out.form
  rw [bv_len] at e3
  subst e3
  obtain ⟨nx, hnx⟩ : ∃ nx, nx = x.length := ⟨_, rfl⟩
  rw [← hnx] at OO RV h1 hx ⊢
  have HNX := hid hnx
  clear hnx
  by_cases hlt : nx < 32
  · have hlt' : (nx : Int) < 32 := by omega
    have x0 := blk_cell Z3.out 0
    have x1 := blk_cell Z3.out 1
    have x2 := blk_cell Z3.out 2
    have y0 := blk_cell Y3.out 0
    have y1 := blk_cell Y3.out 1
    have y2 := blk_cell Y3.out 2
    have z0 := blk_frozen Y3.out 0
    have z1 := blk_frozen Y3.out 1
    have z2 := blk_frozen Y3.out 2
    simp at x0 x1 x2 y0 y1 y2
    have T3 := hid (three_set (u := .bool l) (v := .slice a1 n1 c1) (t := .slice a2 n2 c2) Y3.out)
    have FT := hid (((F3.out.set (p := w.heap.size) 0 (.bool l) (.inr (Nat.le_refl _))).set (p := w.heap.size) 1 (.slice a1 n1 c1) (.inr (Nat.le_refl _))).set (p := w.heap.size) 2 (.slice a2 n2 c2) (.inr (Nat.le_refl _)))
    go_wp2
    refine bodyPost_ret (v := .tuple #[.agg #[.bool l, .slice a1 n1 c1, .slice a2 n2 c2], .int .i64 0]) (ret_ctU (p := 2) (u := 3) rfl (by kernel_rfl) (by kernel_rfl) (load_it T3.out)) rfl ?_
    refine ⟨_, _, _, _, _, _, _, rfl, ?_, FT.out⟩
    rw [show shtF x = x from if_pos (by rw [← HNX.out]; exact hlt)]
    refine ⟨d, by rw [← HNX.out]; omega, h2, fun w'' ha => (H4.out w'' fun k hk => ?_).low (by omega)⟩
    have hne : k ≠ w.heap.size := by
      rcases hk with hk | hk
      · have := HI.out k hk; omega
      · have := HW1.out; omega
    have hk1 : k < w1.heap.size := IU.out k hk
    have hu : Up S w (((w3.setCell ⟨w.heap.size, 0, none⟩ (.bool l)).setCell ⟨w.heap.size, 1, none⟩ (.slice a1 n1 c1)).setCell ⟨w.heap.size, 2, none⟩ (.slice a2 n2 c2)) k := by
      rcases hk with hk | hk
      · exact .inl hk
      · have e : (((w3.setCell ⟨w.heap.size, 0, none⟩ (.bool l)).setCell ⟨w.heap.size, 1, none⟩ (.slice a1 n1 c1)).setCell ⟨w.heap.size, 2, none⟩ (.slice a2 n2 c2)).heap.size = w3.heap.size := by simp [World.setCell]
        exact .inr ⟨by have := HW1.out; omega, by rw [e]; exact Nat.lt_of_lt_of_le hk1 F13.out.size⟩
    rw [ha k hu, blk_setne _ _ _ hne, blk_setne _ _ _ hne, blk_setne _ _ _ hne, F13.out.block k hk1 (by simp)]
  · have hlt' : ¬ (nx : Int) < 32 := by omega
    have RO := hid (Rows2.oneT RV.out HXB.out (by have := HNX.out; omega))
    have FA : Hid (Fr [] w3 (w3.alloc (.cells #[.slice a3 nx c3] 33))) := hid ((Fr.refl _ _).alloc _)
    have SC := hid (sum_c _ (HTH.out.fr (F3.out.trans FA.out)) RO.out (by simp))
    rw [show ([x] : List (List Nat)).flatten = x by simp, hash_bv] at SC
    have Y4 := hid (blk_frT Y3.out FA.out)
    have F4 := hid (F3.out.trans FA.out)
    clear FA
    go_upto_region 7 with fail
    go_wp2_with (first
      | (go_at_call 41; refine SC.out.mono ?_; rintro e w5 ⟨rfl, f5⟩; have F5 := hid (F4.out.trans f5); have Y5 := hid (blk_frT Y4.out f5); clear f5)
      | (go_at_call 112; refine (farRef_c _ (hshF_len x)).mono ?_; rintro e w6 ⟨g, rfl, hg, hr, f6⟩; have HG := hid hg; have HR := hid hr; have F6 := hid (F5.out.trans f6); have Y6 := hid (blk_frT Y5.out f6); have y0 := blk_cell Y6.out 0; have y1 := blk_cell Y6.out 1; have y2 := blk_cell Y6.out 2; have z0 := blk_frozen Y6.out 0; have z1 := blk_frozen Y6.out 1; have z2 := blk_frozen Y6.out 2; simp at y0 y1 y2; have T3 := hid (three_set (u := .bool false) (v := .slice (some ⟨g, 0, none⟩) 32 32) (t := .slice none 0 0) Y6.out); have FT := hid (((F6.out.set (p := w.heap.size) 0 (.bool false) (.inr (Nat.le_refl _))).set (p := w.heap.size) 1 (.slice (some ⟨g, 0, none⟩) 32 32) (.inr (Nat.le_refl _))).set (p := w.heap.size) 2 (.slice none 0 0) (.inr (Nat.le_refl _))); clear hg hr f6))
    refine bodyPost_ret (v := .tuple #[.agg #[.bool false, .slice (some ⟨g, 0, none⟩) 32 32, .slice none 0 0], .int .i64 0]) (ret_ctU (p := 2) (u := 3) rfl (by kernel_rfl) (by kernel_rfl) (load_it T3.out)) rfl ?_
    refine ⟨_, _, _, _, _, _, _, rfl, ?_, FT.out⟩
    rw [show shtF x = strL (hshF x) from if_neg (by rw [← HNX.out]; exact hlt)]
    have hg1 : w.heap.size < g := by have := HG.out; have := F5.out.size; have := (Array.getElem?_eq_some_iff.1 Y5.out).1; omega
    exact RfS.fresh (hshF_len x) (hshF_by x) (by omega) HR.out (by rw [blk_setne _ _ _ (by omega), blk_setne _ _ _ (by omega), blk_setne _ _ _ (by omega)])
end Go.Proofs.YtmpfnglcmaollaaDoor
namespace Go.Proofs.YtmpfnglcmaollaaDoor
open Go.ChangeShapes Go.WideShapes Go.ChangeAt Go.RowKit

theorem Un.up {S : Nat → Prop} {w w' : World} {P : World → Prop} (h : Un S w P) (hi : InS S w) (f : Fr [] w w') : Un (Up S w w') w' P := fun w'' ha => h w'' ((hi.agr f).trans (ha.sub fun _ hk => Up.old hk))
theorem NdV.up {S : Nat → Prop} {w w' : World} {n : Nd} {v : Value} (h : NdV S w n v) (hi : InS S w) (f : Fr [] w w') : NdV (Up S w w') w' n v := (h.step (hi.agr f)).sub fun _ hk => Up.old hk
theorem five_set {W : World} {q : Nat} {T : TypeId} {x y z u v a b c : Value} (h : W.heap[q]? = some (.cells #[x, y, z, u, v] T (0, 0))) : (((W.setCell ⟨q, 0, none⟩ a).setCell ⟨q, 1, none⟩ b).setCell ⟨q, 2, none⟩ c).heap[q]? = some (.cells #[a, b, c, u, v] T (0, 0)) := by
  have h1 := blk_set h 0 a
  have h2 := blk_set h1 1 b
  have h3 := blk_set h2 2 c
  simpa using h3
theorem packF_le {p : List Nat} (h : p.length ≤ 128) (l : Bool) : (strL (packF p l)).length ≤ 74 := by
  have h1 := packF_len p l
  have h2 := (strL_len (packF p l)).2.1
  omega
/-- What a new node's block is. -/
theorem RfS.set3 {S : Nat → Prop} {w W1 w3 : World} {v : Value} {x : List Nat} {e : Nat} (h : RfS (Up S W1 w3) w3 v x e) (hi : InS S w) (hs : w.heap.size < W1.heap.size) (a b c : Value) :
    RfS (Up S w (((w3.setCell ⟨w.heap.size, 0, none⟩ a).setCell ⟨w.heap.size, 1, none⟩ b).setCell ⟨w.heap.size, 2, none⟩ c)) (((w3.setCell ⟨w.heap.size, 0, none⟩ a).setCell ⟨w.heap.size, 1, none⟩ b).setCell ⟨w.heap.size, 2, none⟩ c) v x e := by
  refine (h.step fun k hk => ?_).sub fun k hk => ?_
  · have hne : k ≠ w.heap.size := by
      rcases hk with hk | hk
      · have := hi k hk; omega
      · omega
    rw [blk_setne _ _ _ hne, blk_setne _ _ _ hne, blk_setne _ _ _ hne]
  · have e : (((w3.setCell ⟨w.heap.size, 0, none⟩ a).setCell ⟨w.heap.size, 1, none⟩ b).setCell ⟨w.heap.size, 2, none⟩ c).heap.size = w3.heap.size := by simp [World.setCell]
    rcases hk with hk | hk
    · exact .inl hk
    · exact .inr ⟨by omega, by rw [e]; exact hk.2⟩
set_option maxRecDepth 20000 in
set_option maxHeartbeats 1600000 in
theorem makeLeaf_c (w : World) {S : Nat → Prop} (HT : Tabs w) (hi : InS S w) {pv vv : Value} {p v : List Nat} (hp : Un S w (fun w' => Rd w' pv (bv p))) (hok : okP p = true) (hv : Un S w (fun w' => Rd w' vv (bv v))) (hvb : By v) (hv1 : 1 ≤ v.length) (hvl : v.length ≤ 1024) :
    Calls Tryd.prog 77 #[pv, vv] w fun e w' => ∃ r, e = .returned (.tuple #[r, .int .i64 0]) ∧ NdV (Up S w w') w' (.leaf p v) r ∧ Fr [] w w' := by
  obtain ⟨pa, pc, e1⟩ := hp.now.form
  obtain ⟨va, vc, e2⟩ := hv.now.form
  subst e1 e2
  obtain ⟨np, hnp⟩ : ∃ np, np = (bv p).length := ⟨_, rfl⟩
  obtain ⟨nv, hnv⟩ : ∃ nv, nv = (bv v).length := ⟨_, rfl⟩
  rw [← hnp] at hp
  rw [← hnv] at hv
  rw [← hnp, ← hnv]
  clear hnp hnv
  have hl := okP_len hok
  obtain ⟨W, hW⟩ : ∃ W, W = w.alloc (.cells #[.bool false, .slice none 0 0, .slice none 0 0, .slice pa np pc, .slice va nv vc] 133) := ⟨_, rfl⟩
  have F : Hid (Fr [] w W) := hid (by rw [hW]; exact (Fr.refl _ w).alloc _)
  have Y : Hid (W.heap[w.heap.size]? = some (.cells #[.bool false, .slice none 0 0, .slice none 0 0, .slice pa np pc, .slice va nv vc] 133 (0, 0))) := hid (by rw [hW]; exact blk_new _ _)
  have HS : Hid (w.heap.size < W.heap.size) := hid (by rw [hW]; simp)
  have HI := hid hi
  have HP := hid hp
  have HV := hid hv
  have RC : Hid (Calls Tryd.prog 97 #[.iface 130 (.pointer (some ⟨w.heap.size, 0, none⟩))] W fun e w' => ∃ l a1 n1 c1 a2 n2 c2, e = .returned (.tuple #[.agg #[.bool l, .slice a1 n1 c1, .slice a2 n2 c2], .int .i64 0]) ∧ RfS (Up S W w') w' (.agg #[.bool l, .slice a1 n1 c1, .slice a2 n2 c2]) (refE (.leaf p v)) 15 ∧ Fr [] W w') := hid (by
    have hL := lstF_len (strL (packF p true) ++ strL v)
    have h1 := packF_le hl true
    have h2 := strL_len (packF p true)
    have h3 := strL_len v
    rw [List.length_append] at hL
    have F2 : Fr [] W (W.alloc (.cells #[.bool false, .slice none 0 0, .slice none 0 0] 77)) := (Fr.refl _ _).alloc _
    have fw := F.out.trans F2
    refine refer_c W (S := S) (HT.fr F.out) (HI.out.fr F.out) (x := lstF (strL (packF p true) ++ strL v)) (by omega) ?_
    refine (itemLeaf_c _ (blk_frT Y.out F2) (HP.out _ (HI.out.agr fw)) hok (HV.out _ (HI.out.agr fw)) hvb (by omega) 19).mono ?_
    rintro e w' ⟨iv, rfl, q1, q2, q3⟩
    refine ⟨iv, 2, rfl, by omega, by omega, by omega, fun w'' ha => (q1 w'' (fun k k1 k2 => ha k (.inr ⟨k1, k2⟩)) (HV.out w'' ((HI.out.agr (fw.trans q3)).trans (ha.sub fun k hk => Up.old hk)))).len, q2, q3⟩)
  clear hi hp hv HT hok hvb hv1 hvl hl
  go_enter Tryd.func77, Tryd.ntmps77
  go_upto_region 2 with fail
  rw [← hW]
  clear hW
  go_upto_region 4 with (go_at_call 97; refine RC.out.mono ?_; rintro e w3 ⟨l, a1, n1, c1, a2, n2, c2, rfl, hR, f3⟩; have HR := hid hR; have F3 := hid (F.out.trans f3); have Y3 := hid (blk_frT Y.out f3); have y0 := blk_cell Y3.out 0; have y1 := blk_cell Y3.out 1; have y2 := blk_cell Y3.out 2; have z0 := blk_frozen Y3.out 0; have z1 := blk_frozen Y3.out 1; have z2 := blk_frozen Y3.out 2; simp at y0 y1 y2; clear hR f3)
  have T5 := hid (five_set (a := .bool l) (b := .slice a1 n1 c1) (c := .slice a2 n2 c2) Y3.out)
  have FT := hid (((F3.out.set (p := w.heap.size) 0 (.bool l) (.inr (Nat.le_refl _))).set (p := w.heap.size) 1 (.slice a1 n1 c1) (.inr (Nat.le_refl _))).set (p := w.heap.size) 2 (.slice a2 n2 c2) (.inr (Nat.le_refl _)))
  go_wp2
  go_ret2
  refine ⟨_, rfl, ⟨w.heap.size, _, _, _, _, _, rfl, .inr ⟨Nat.le_refl _, (Array.getElem?_eq_some_iff.1 T5.out).1⟩, T5.out, HP.out.up HI.out FT.out, HV.out.up HI.out FT.out, HR.out.set3 HI.out HS.out _ _ _⟩, FT.out⟩
set_option maxRecDepth 20000 in
set_option maxHeartbeats 1600000 in
theorem makeStem_c (w : World) {S : Nat → Prop} (HT : Tabs w) (hi : InS S w) {pv bl : Value} {p : List Nat} {t : Nd} (hp : Un S w (fun w' => Rd w' pv (bv p))) (hok : okP p = true) (hv : NdV S w t bl) (hn : isFk t) :
    Calls Tryd.prog 99 #[pv, bl] w fun e w' => ∃ r, e = .returned (.tuple #[r, .int .i64 0]) ∧ NdV (Up S w w') w' (.stem p t) r ∧ Fr [] w w' := by
  obtain ⟨pa, pc, e1⟩ := hp.now.form
  subst e1
  obtain ⟨np, hnp⟩ : ∃ np, np = (bv p).length := ⟨_, rfl⟩
  rw [← hnp] at hp
  rw [← hnp]
  clear hnp
  have ht0 : t ≠ .nil := fun e => by subst e; exact hn
  have ht1 : ∀ x, t ≠ .far x := fun x e => by subst e; exact hn
  have hsl : slN t = 7 := by cases t <;> first | rfl | exact hn.elim
  have hre : 1 ≤ (refE t).length ∧ (refE t).length ≤ 33 := refE_len t ht1
  obtain ⟨bT, bx, rfl⟩ : ∃ T x, bl = .iface T x := by
    obtain ⟨T, x, _, _, _, _, _, _, _, h, _⟩ := hv.meth ht0 ht1
    exact ⟨T, x, h⟩
  have hl := okP_len hok
  obtain ⟨W, hW⟩ : ∃ W, W = w.alloc (.cells #[.bool false, .slice none 0 0, .slice none 0 0, .slice pa np pc, .iface bT bx] 125) := ⟨_, rfl⟩
  have F : Hid (Fr [] w W) := hid (by rw [hW]; exact (Fr.refl _ w).alloc _)
  have Y : Hid (W.heap[w.heap.size]? = some (.cells #[.bool false, .slice none 0 0, .slice none 0 0, .slice pa np pc, .iface bT bx] 125 (0, 0))) := hid (by rw [hW]; exact blk_new _ _)
  have HS : Hid (w.heap.size < W.heap.size) := hid (by rw [hW]; simp)
  have HI := hid hi
  have HP := hid hp
  have HV := hid hv
  have RC : Hid (Calls Tryd.prog 97 #[.iface 121 (.pointer (some ⟨w.heap.size, 0, none⟩))] W fun e w' => ∃ l a1 n1 c1 a2 n2 c2, e = .returned (.tuple #[.agg #[.bool l, .slice a1 n1 c1, .slice a2 n2 c2], .int .i64 0]) ∧ RfS (Up S W w') w' (.agg #[.bool l, .slice a1 n1 c1, .slice a2 n2 c2]) (refE (.stem p t)) 15 ∧ Fr [] W w') := hid (by
    have hL := lstF_len (strL (packF p false) ++ refE t)
    have h1 := packF_le hl false
    have h2 := strL_len (packF p false)
    rw [List.length_append] at hL
    have F2 : Fr [] W (W.alloc (.cells #[.bool false, .slice none 0 0, .slice none 0 0] 77)) := (Fr.refl _ _).alloc _
    have fw := F.out.trans F2
    refine refer_c W (S := S) (HT.fr F.out) (HI.out.fr F.out) (x := lstF (strL (packF p false) ++ refE t)) (by omega) ?_
    refine (itemStem_c _ (HI.out.fr fw) (blk_frT Y.out F2) (HP.out.step (HI.out.agr fw)) hok (HV.out.step (HI.out.agr fw)) ht0 ht1).mono ?_
    rintro e w' ⟨iv, d, rfl, q0, q1, q2, q3, q4⟩
    exact ⟨iv, d + 1, rfl, by omega, by omega, by omega, q2.imp (fun _ h => h.len), q3, q4⟩)
  clear hi hp hv HT hok hl hn ht0 ht1 hsl hre
  go_enter Tryd.func99, Tryd.ntmps99
  go_upto_region 2 with fail
  rw [← hW]
  clear hW
  go_upto_region 4 with (go_at_call 97; refine RC.out.mono ?_; rintro e w3 ⟨l, a1, n1, c1, a2, n2, c2, rfl, hR, f3⟩; have HR := hid hR; have F3 := hid (F.out.trans f3); have Y3 := hid (blk_frT Y.out f3); have y0 := blk_cell Y3.out 0; have y1 := blk_cell Y3.out 1; have y2 := blk_cell Y3.out 2; have z0 := blk_frozen Y3.out 0; have z1 := blk_frozen Y3.out 1; have z2 := blk_frozen Y3.out 2; simp at y0 y1 y2; clear hR f3)
  have T5 := hid (five_set (a := .bool l) (b := .slice a1 n1 c1) (c := .slice a2 n2 c2) Y3.out)
  have FT := hid (((F3.out.set (p := w.heap.size) 0 (.bool l) (.inr (Nat.le_refl _))).set (p := w.heap.size) 1 (.slice a1 n1 c1) (.inr (Nat.le_refl _))).set (p := w.heap.size) 2 (.slice a2 n2 c2) (.inr (Nat.le_refl _)))
  go_wp2
  go_ret2
  refine ⟨_, rfl, ⟨w.heap.size, _, _, _, _, _, rfl, .inr ⟨Nat.le_refl _, (Array.getElem?_eq_some_iff.1 T5.out).1⟩, T5.out, HP.out.up HI.out FT.out, HV.out.up HI.out FT.out, HR.out.set3 HI.out HS.out _ _ _⟩, FT.out⟩
end Go.Proofs.YtmpfnglcmaollaaDoor
namespace Go.Proofs.YtmpfnglcmaollaaDoor
open Go.ChangeShapes Go.WideShapes Go.ChangeAt Go.RowKit

theorem vf_set {W : World} {q : Nat} {T : TypeId} {V : Nat → Value} {x y z v a b c : Value} (h : W.heap[q]? = some (.cells #[x, y, z, V 0, V 1, V 2, V 3, V 4, V 5, V 6, V 7, V 8, V 9, V 10, V 11, V 12, V 13, V 14, V 15, v] T (0, 0))) : (((W.setCell ⟨q, 0, none⟩ a).setCell ⟨q, 1, none⟩ b).setCell ⟨q, 2, none⟩ c).heap[q]? = some (.cells #[a, b, c, V 0, V 1, V 2, V 3, V 4, V 5, V 6, V 7, V 8, V 9, V 10, V 11, V 12, V 13, V 14, V 15, v] T (0, 0)) := by
  have h1 := blk_set h 0 a
  have h2 := blk_set h1 1 b
  have h3 := blk_set h2 2 c
  simpa using h3
theorem flat_le (f : Nat → List Nat) (k : Nat) : ∀ (l : List Nat), (∀ j ∈ l, (f j).length ≤ k) → (l.flatMap f).length ≤ l.length * k
  | [], _ => by simp
  | j :: l, h => by
    have h1 := flat_le f k l (fun i hi => h i (by simp [hi]))
    have h2 := h j (by simp)
    simp only [List.flatMap_cons, List.length_append, List.length_cons]
    rw [Nat.add_mul, Nat.one_mul]
    omega
set_option maxRecDepth 20000 in
set_option maxHeartbeats 1600000 in
theorem makeFork_c (w : World) {S : Nat → Prop} (HT : Tabs w) (hi : InS S w) {V : Nat → Value} {vv : Value} {c : Nat → Nd} {x : List Nat} (hc : ∀ i, i < 16 → NdV S w (c i) (V i)) (hf : ∀ i, i < 16 → ∀ y, c i ≠ .far y) (hv : Un S w (fun w' => Rd w' vv (bv x))) (hx : By x) (hxl : x.length ≤ 1024) :
    Calls Tryd.prog 96 #[.agg #[V 0, V 1, V 2, V 3, V 4, V 5, V 6, V 7, V 8, V 9, V 10, V 11, V 12, V 13, V 14, V 15], vv] w fun e w' => ∃ r, e = .returned (.tuple #[r, .int .i64 0]) ∧ NdV (Up S w w') w' (.fork c x) r ∧ Fr [] w w' := by
  obtain ⟨va, vc, e2⟩ := hv.now.form
  subst e2
  obtain ⟨nv, hnv⟩ : ∃ nv, nv = (bv x).length := ⟨_, rfl⟩
  rw [← hnv] at hv ⊢
  clear hnv
  obtain ⟨W0, hW0⟩ : ∃ W, W = w.alloc (.cells #[V 0, V 1, V 2, V 3, V 4, V 5, V 6, V 7, V 8, V 9, V 10, V 11, V 12, V 13, V 14, V 15] 127) := ⟨_, rfl⟩
  obtain ⟨W, hW⟩ : ∃ W, W = W0.alloc (.cells #[.bool false, .slice none 0 0, .slice none 0 0, V 0, V 1, V 2, V 3, V 4, V 5, V 6, V 7, V 8, V 9, V 10, V 11, V 12, V 13, V 14, V 15, .slice va nv vc] 129) := ⟨_, rfl⟩
  have F0 : Hid (Fr [] w W0) := hid (by rw [hW0]; exact (Fr.refl _ w).alloc _)
  have F : Hid (Fr [] w W) := hid (by rw [hW]; exact F0.out.alloc _)
  have Y : Hid (W.heap[W0.heap.size]? = some (.cells #[.bool false, .slice none 0 0, .slice none 0 0, V 0, V 1, V 2, V 3, V 4, V 5, V 6, V 7, V 8, V 9, V 10, V 11, V 12, V 13, V 14, V 15, .slice va nv vc] 129 (0, 0))) := hid (by rw [hW]; exact blk_new _ _)
  have HS : Hid (W0.heap.size < W.heap.size) := hid (by rw [hW]; simp)
  have HS0 : Hid (W0.heap.size = w.heap.size + 1) := hid (by rw [hW0]; simp)
  have HI := hid hi
  have HC := hid hc
  have HV := hid hv
  have RC : Hid (Calls Tryd.prog 97 #[.iface 126 (.pointer (some ⟨W0.heap.size, 0, none⟩))] W fun e w' => ∃ l a1 n1 c1 a2 n2 c2, e = .returned (.tuple #[.agg #[.bool l, .slice a1 n1 c1, .slice a2 n2 c2], .int .i64 0]) ∧ RfS (Up S W w') w' (.agg #[.bool l, .slice a1 n1 c1, .slice a2 n2 c2]) (refE (.fork c x)) 7 ∧ Fr [] W w') := hid (by
    have hL := lstF_len ((List.range 16).flatMap (fun i => refE (c i)) ++ strL x)
    have h3 := strL_len x
    rw [List.length_append] at hL
    have h4 := flat_le (fun i => refE (c i)) 33 (List.range 16) (fun j hj => (refE_len _ (hf j (List.mem_range.1 hj))).2)
    rw [List.length_range] at h4
    have F2 : Fr [] W (W.alloc (.cells #[.bool false, .slice none 0 0, .slice none 0 0] 77)) := (Fr.refl _ _).alloc _
    have fw := F.out.trans F2
    refine refer_c W (S := S) (HT.fr F.out) (HI.out.fr F.out) (x := lstF ((List.range 16).flatMap (fun i => refE (c i)) ++ strL x)) (by omega) ?_
    refine (itemFork_c _ (HI.out.fr fw) (blk_frT Y.out F2) (fun i h => (HC.out i h).step (HI.out.agr fw)) hf (HV.out.step (HI.out.agr fw)) hx hxl).mono ?_
    rintro e w' ⟨iv, d, rfl, q0, q1, q5, q2, q3, q4⟩
    exact ⟨iv, d, rfl, q0, q1, by omega, q2, q3, q4⟩)
  clear hi hc hf hv HT hx hxl
  go_enter Tryd.func96, Tryd.ntmps96
  go_upto_region 1 with fail
  rw [← hW0]
  have Y0 := blk_new w (.cells #[V 0, V 1, V 2, V 3, V 4, V 5, V 6, V 7, V 8, V 9, V 10, V 11, V 12, V 13, V 14, V 15] 127)
  rw [← hW0] at Y0
  have y0 := blk_cell Y0 0
  have y1 := blk_cell Y0 1
  have y2 := blk_cell Y0 2
  have y3 := blk_cell Y0 3
  have y4 := blk_cell Y0 4
  have y5 := blk_cell Y0 5
  have y6 := blk_cell Y0 6
  have y7 := blk_cell Y0 7
  have y8 := blk_cell Y0 8
  have y9 := blk_cell Y0 9
  have y10 := blk_cell Y0 10
  have y11 := blk_cell Y0 11
  have y12 := blk_cell Y0 12
  have y13 := blk_cell Y0 13
  have y14 := blk_cell Y0 14
  have y15 := blk_cell Y0 15
  simp at y0 y1 y2 y3 y4 y5 y6 y7 y8 y9 y10 y11 y12 y13 y14 y15
  clear hW0 Y0
  go_upto_region 2 with fail
  rw [← hW]
  clear hW y0 y1 y2 y3 y4 y5 y6 y7 y8 y9 y10 y11 y12 y13 y14 y15
  go_upto_region 4 with (go_at_call 97; refine RC.out.mono ?_; rintro e w3 ⟨l, a1, n1, c1, a2, n2, c2, rfl, hR, f3⟩; have HR := hid hR; have F3 := hid (F.out.trans f3); have Y3 := hid (blk_frT Y.out f3); have y0 := blk_cell Y3.out 0; have y1 := blk_cell Y3.out 1; have y2 := blk_cell Y3.out 2; have z0 := blk_frozen Y3.out 0; have z1 := blk_frozen Y3.out 1; have z2 := blk_frozen Y3.out 2; simp at y0 y1 y2; clear hR f3)
  have T5 := hid (vf_set (a := .bool l) (b := .slice a1 n1 c1) (c := .slice a2 n2 c2) Y3.out)
  have FT := hid (((F3.out.set (p := W0.heap.size) 0 (.bool l) (.inr F0.out.size)).set (p := W0.heap.size) 1 (.slice a1 n1 c1) (.inr F0.out.size)).set (p := W0.heap.size) 2 (.slice a2 n2 c2) (.inr F0.out.size))
  go_wp2
  go_ret2
  refine ⟨_, rfl, ⟨W0.heap.size, _, _, _, V, _, rfl, .inr ⟨F0.out.size, (Array.getElem?_eq_some_iff.1 T5.out).1⟩, T5.out, fun i h => (HC.out i h).up HI.out FT.out, HV.out.up HI.out FT.out, ?_⟩, FT.out⟩
  exact (HR.out.set3 (HI.out.fr F0.out) HS.out _ _ _).sub (fun k hk => by
    rcases hk with hk | hk
    · exact .inl hk
    · exact .inr ⟨by have := HS0.out; omega, hk.2⟩)
end Go.Proofs.YtmpfnglcmaollaaDoor
