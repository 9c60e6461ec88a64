/-
  The statements' own known examples.
-/
import Derived.Test.YtldhcdmoenoopaaJ25
import Derived.Test.YtldhcdmoenoopaaJ22
import Derived.Lib.SlBytesConst
import Derived.Test.YtldhcdmoenoopaaIt
import Derived.Deep.RegionHeld
namespace Go.Proofs.Ytldhcdmoenoopaa
open Go.ChangeShapes Go.WideShapes Go.ChangeAt Go.RowKit

theorem IsV.str {n : Nat} {w : World} {bs : Value} {b : List Nat} (h : Rd w bs (bv b)) (hb : By b) (hl : b.length ≤ 140737488355328) (l : Bool) : IsV w (n + 1) (.agg #[.bool l, bs, .slice none 0 0]) (mkT l b []) :=
  ⟨bs, none, 0, rfl, h, hb, hl, Nat.le_refl _, Nat.zero_le _, fun h => by cases h⟩
theorem Rd.lit (w : World) (ns : List Nat) {B : Nat} (hB : B = w.heap.size) {cs : Array Value} (hc : cs.toList = bv ns) {n c : Nat} (hn : n = ns.length) (hcc : n ≤ c) : Rd (w.alloc (.cells cs 5)) (.slice (some ⟨B, 0, none⟩) n c) (bv ns) := by
  subst hn
  refine .inr ⟨_, _, by rw [bv_len], by rw [bv_len]; exact hcc, fun j u hj => ?_⟩
  rw [Addr.add_lit, Nat.zero_add, blk_cell (new_at w _ hB), ← Array.getElem?_toList, hc]
  exact hj
theorem reads_bad {w : World} {v : Value} {b : List Nat} (hr : Rd w v (bv b)) (hb : By b) (h0 : b ≠ []) (hl : b.length ≤ 100000) {x : Nat} (hx : hdr b = .error x) (hx0 : x ≠ 0) : Reads w v (.error x) := by
  intro w1 T g e k C f hg
  refine (read_bad w1 C (hr.fr f) hb h0 hl (d := 1) (by omega) (by omega) hx hx0).mono ?_
  rintro r w' ⟨h1, h2⟩
  exact ⟨h1, h2⟩
theorem encE_dog : encE (n := 19) (mkT false [100, 111, 103] []) = 0 := by decide
theorem encB_dog : encB (n := 19) (mkT false [100, 111, 103] []) = [131, 100, 111, 103] := by decide
theorem hdr_bad : hdr [129, 5] = .error 40 := by rfl
theorem str_dog : strOf [131, 100, 111, 103] = ⟨#[131, 100, 111, 103]⟩ := by decide

set_option maxRecDepth 20000 in
set_option maxHeartbeats 800000 in
theorem known_c (w : World) : Calls Try.prog 6 #[] w fun e w' => e = .returned (.bool true) ∧ Fr [] w w' := by
  have kc := fun (w : World) (C : Array Value) (n c : Nat) => Lib.run_convert_bytes_const (P := Try.prog) w 22 5 C n c Try.underlying22 Try.underlying5
  have R0 : Hid (Rd (w.alloc (.cells #[.int .u8 100, .int .u8 111, .int .u8 103] 5 (3, 4))) (.slice (some ⟨w.heap.size, 0, none⟩) 3 3) (bv [100, 111, 103])) := by
    refine .inr ⟨_, _, rfl, by simp [bv], fun j u hj => ?_⟩
    rw [Addr.add_lit, Nat.zero_add, World.cell?_alloc_mark]
    rw [← Array.getElem?_toList]
    exact hj
  have F0 := hid ((Fr.refl [] w).alloc (.cells #[.int .u8 100, .int .u8 111, .int .u8 103] 5 (3, 4)))
  go_enter Try.func6, Try.ntmps6
  go_wp2_with fail
  refine (encode_c _ (n := 19) (IsV.str (n := 18) R0.out (by unfold By; decide) (by simp) false) (by omega) (by decide) (by decide)).mono ?_
  rintro e w1 ⟨v1, rfl, o1, f1⟩
  rw [encB_dog] at o1
  rw [encE_dog]
  replace o1 : w1.ownsRow _ 5 1 v1 4 (bv [131, 100, 111, 103]) := o1
  obtain ⟨a1, c1, rfl, _⟩ := ownsRow_slice o1
  have P1 := hid (Rd.ownB (ns := [131, 100, 111, 103]) o1)
  have F1 := hid (F0.out.trans f1)
  clear o1 f1
  have R2 := hid (Rd.lit w1 [129, 5] rfl (cs := #[.int .u8 129, .int .u8 5]) rfl (n := 2) (c := 2) rfl (Nat.le_refl _))
  have F2 := hid (F1.out.alloc (.cells #[.int .u8 129, .int .u8 5] 5))
  clear kc
  go_wp2_with fail
  refine (decode_at _ (res := .error 40) (fun w2 f2 => first_at w2 (reads_bad (R2.out.fr f2) (by unfold By; decide) (by simp) (by simp) hdr_bad (by omega)) (by omega) (by omega)) (fun _ _ _ h => by cases h) (fun e h => by cases h; omega)).mono ?_
  rintro e w2 ⟨hD, f2⟩
  obtain rfl : e = _ := hD
  have P2 := hid (P1.out.fr (((Fr.refl [] w1).alloc _).trans f2))
  have F3 := hid (F2.out.trans f2)
  clear f2
  have hcv := run_conv (P2.out.fr ((Fr.refl [] w2).alloc (.cells #[.bool false, .slice none 0 0, .slice none 0 0] 25)))
  rw [str_dog] at hcv
  go_wp2
  go_ret
  exact ⟨rfl, F3.out.alloc _⟩
end Go.Proofs.Ytldhcdmoenoopaa
namespace Go.Proofs.Ytldhcdmoenoopaa
open Go.ChangeShapes Go.WideShapes Go.ChangeAt Go.RowKit

set_option maxRecDepth 20000 in
set_option maxHeartbeats 1600000 in
theorem same_step (w : World) {n : Nat} {l : Bool} {b : List Nat} {ks : List (Tr n)} {bs bs2 : Value} {ka ka2 : Option Addr} {kc kc2 : Nat} (h1 : Rd w bs (bv b)) (h2 : Rd w bs2 (bv b)) (hkl : ks.length ≤ kc) (hkl2 : ks.length ≤ kc2) (hk : ks.length ≤ 140737488355328)
    (e1 : 0 < ks.length → ∃ kb ko, ka = some ⟨kb, ko, none⟩ ∧ ∀ (j : Nat) (x : Tr n), ks[j]? = some x → ∃ l bs' is', w.cell? ⟨kb, ko + j * 3, none⟩ = some (.bool l) ∧ w.cell? ⟨kb, ko + j * 3 + 1, none⟩ = some bs' ∧ w.cell? ⟨kb, ko + j * 3 + 2, none⟩ = some is' ∧ IsV w n (.agg #[.bool l, bs', is']) x)
    (e2 : 0 < ks.length → ∃ kb ko, ka2 = some ⟨kb, ko, none⟩ ∧ ∀ (j : Nat) (x : Tr n), ks[j]? = some x → ∃ l bs' is', w.cell? ⟨kb, ko + j * 3, none⟩ = some (.bool l) ∧ w.cell? ⟨kb, ko + j * 3 + 1, none⟩ = some bs' ∧ w.cell? ⟨kb, ko + j * 3 + 2, none⟩ = some is' ∧ IsV w n (.agg #[.bool l, bs', is']) x)
    (ih : ∀ x ∈ ks, ∀ (w1 : World) (v1 v2 : Value), IsV w1 n v1 x → IsV w1 n v2 x → Calls Try.prog 17 #[v1, v2] w1 fun r w' => r = .returned (.bool true) ∧ Fr [] w1 w') :
    Calls Try.prog 17 #[.agg #[.bool l, bs, .slice ka ks.length kc], .agg #[.bool l, bs2, .slice ka2 ks.length kc2]] w fun r w' => r = .returned (.bool true) ∧ Fr [] w w' := by
  obtain ⟨L, hL⟩ : ∃ L, L = ks.length := ⟨_, rfl⟩
  rw [← hL] at hkl hkl2 hk e1 e2 ⊢
  obtain ⟨a1, c1, hb1⟩ := h1.form
  obtain ⟨a2, c2, hb2⟩ := h2.form
  rw [bv_len] at hb1 hb2
  subst hb1
  subst hb2
  have FA := hid (((Fr.refl [] w).alloc (.cells #[.bool l, .slice a1 b.length c1, .slice ka L kc] 25)).alloc (.cells #[.bool l, .slice a2 b.length c2, .slice ka2 L kc2] 25))
  have hA := hid (show (((w.alloc (.cells #[.bool l, .slice a1 b.length c1, .slice ka L kc] 25)).alloc (.cells #[.bool l, .slice a2 b.length c2, .slice ka2 L kc2] 25)).heap[w.heap.size]? = some (.cells #[.bool l, .slice a1 b.length c1, .slice ka L kc] 25 (0, 0))) by
    rw [blk_old _ _ (by simp)]; exact blk_new _ _)
  have hB := hid (show (((w.alloc (.cells #[.bool l, .slice a1 b.length c1, .slice ka L kc] 25)).alloc (.cells #[.bool l, .slice a2 b.length c2, .slice ka2 L kc2] 25)).heap[w.heap.size + 1]? = some (.cells #[.bool l, .slice a2 b.length c2, .slice ka2 L kc2] 25 (0, 0))) from new_at _ _ (by simp))
  have cv1 := run_conv (h1.fr FA.out)
  have cv2 := run_conv (h2.fr FA.out)
  have hbb := ba_beq (strOf b)
  have HE1 := hid e1
  have HE2 := hid e2
  have IH := hid ih
  have HL := hid hL
  clear h1 h2 e1 e2 ih hL
  go_enter Try.func17, Try.ntmps17
  go_wp2
  clear cv1 cv2
  generalize ((w.alloc (.cells #[.bool l, .slice a1 b.length c1, .slice ka L kc] 25)).alloc (.cells #[.bool l, .slice a2 b.length c2, .slice ka2 L kc2] 25)) = wB at FA hA hB ⊢
  go_loopw [5] (fun v5 wr => ∃ j : Nat, j ≤ L ∧ v5 = .int .i64 (j : Int) ∧ Fr [] wB wr) (fun v5 _ => L - (intOf v5).toNat)
  case atStart => exact ⟨0, by omega, rfl, Fr.refl _ _⟩
  case round =>
    obtain ⟨j, hj, rfl, hf⟩ := hrel
    have HF := hid hf
    have m2 := blk_cell (hf.at hA.out (by simp)) 2
    simp at m2
    clear hf
    by_cases hjl : j < L
    · obtain ⟨x, hx⟩ : ∃ x, ks[j]? = some x := ⟨_, List.getElem?_eq_getElem (by rw [← HL.out]; exact hjl)⟩
      obtain ⟨kb, ko, hka, el1⟩ := HE1.out (by omega)
      obtain ⟨kb2, ko2, hka2, el2⟩ := HE2.out (by omega)
      subst hka
      subst hka2
      obtain ⟨l1, b1', i1', p1, p2, p3, p4⟩ := el1 j x hx
      obtain ⟨l2, b2', i2', q1, q2, q3, q4⟩ := el2 j x hx
      obtain ⟨x1, x2, x3, x4, x5, x6, rfl, rfl⟩ := p4.cells
      obtain ⟨y1, y2, y3, y4, y5, y6, rfl, rfl⟩ := q4.cells
      have HP := hid (And.intro p1 (And.intro p2 p3))
      have HQ := hid (And.intro q1 (And.intro q2 q3))
      have P4 := hid p4
      have Q4 := hid q4
      have hxm : Hid (x ∈ ks) := List.mem_of_getElem? hx
      clear p1 p2 p3 p4 q1 q2 q3 q4 el1 el2 hx
      go_wp2_with fail
      refine wp_region_held_drew (S := fun w' => Fr [] wB w') (by kernel_rfl) HF.out.drew (fun hH => ?_)
      refine wpAnyH_take (i := 0) (v := .pointer (some ⟨w.heap.size, 2, none⟩)) rfl (by kernel_rfl) (by kernel_rfl) (by kernel_rfl) (fun _ _ _ h => h) (.inl ⟨by rfl, fun wx _ => by go_simp⟩) hH ?_
      simp only [Act.put]
      refine wpAnyH_take (i := 1) (v := .slice (some ⟨kb, ko, none⟩) L kc) rfl (by kernel_rfl) (by kernel_rfl) (by kernel_rfl) (fun _ _ _ h => h) (.inl ⟨by rfl, fun wx h => by have z := blk_cell (h.at hA.out (by simp)) 2; simp at z; go_simp⟩) hH ?_
      simp only [Act.put]
      refine wpAnyH_take (i := 2) (v := .int .i64 (j : Int)) rfl (by kernel_rfl) (by kernel_rfl) (by kernel_rfl) (fun _ _ _ h => h) (.inl ⟨by rfl, fun wx _ => by go_simp⟩) hH ?_
      simp only [Act.put]
      refine wpAnyH_take (i := 3) (v := .pointer (some ⟨kb, ko + j * 3, none⟩)) rfl (by kernel_rfl) (by kernel_rfl) (by kernel_rfl) (fun _ _ _ h => h) (.inl ⟨by rfl, fun wx _ => by go_simp⟩) hH ?_
      simp only [Act.put]
      refine wpAnyH_take (i := 4) (v := .agg #[.bool l1, .slice x1 x2 x3, .slice x4 x5 x6]) rfl (by kernel_rfl) (by kernel_rfl) (by kernel_rfl) (fun _ _ _ h => h) (.inl ⟨by rfl, fun wx h => by
        have z1 := cell_fr HP.out.1 (FA.out.trans h)
        have z2 := cell_fr HP.out.2.1 (FA.out.trans h)
        have z3 := cell_fr HP.out.2.2 (FA.out.trans h)
        go_simp⟩) hH ?_
      simp only [Act.put]
      refine wpAnyH_take (i := 5) (v := .pointer (some ⟨w.heap.size + 1, 2, none⟩)) rfl (by kernel_rfl) (by kernel_rfl) (by kernel_rfl) (fun _ _ _ h => h) (.inl ⟨by rfl, fun wx _ => by go_simp⟩) hH ?_
      simp only [Act.put]
      refine wpAnyH_take (i := 6) (v := .slice (some ⟨kb2, ko2, none⟩) L kc2) rfl (by kernel_rfl) (by kernel_rfl) (by kernel_rfl) (fun _ _ _ h => h) (.inl ⟨by rfl, fun wx h => by have z := blk_cell (h.at hB.out (by simp)) 2; simp at z; go_simp⟩) hH ?_
      simp only [Act.put]
      refine wpAnyH_take (i := 7) (v := .int .i64 (j : Int)) rfl (by kernel_rfl) (by kernel_rfl) (by kernel_rfl) (fun _ _ _ h => h) (.inl ⟨by rfl, fun wx _ => by go_simp⟩) hH ?_
      simp only [Act.put]
      refine wpAnyH_take (i := 8) (v := .pointer (some ⟨kb2, ko2 + j * 3, none⟩)) rfl (by kernel_rfl) (by kernel_rfl) (by kernel_rfl) (fun _ _ _ h => h) (.inl ⟨by rfl, fun wx _ => by go_simp⟩) hH ?_
      simp only [Act.put]
      refine wpAnyH_take (i := 9) (v := .agg #[.bool l2, .slice y1 y2 y3, .slice y4 y5 y6]) rfl (by kernel_rfl) (by kernel_rfl) (by kernel_rfl) (fun _ _ _ h => h) (.inl ⟨by rfl, fun wx h => by
        have z1 := cell_fr HQ.out.1 (FA.out.trans h)
        have z2 := cell_fr HQ.out.2.1 (FA.out.trans h)
        have z3 := cell_fr HQ.out.2.2 (FA.out.trans h)
        go_simp⟩) hH ?_
      simp only [Act.put]
      refine wpAnyH_ready (rs := [10]) (by kernel_rfl) (by simp) ?_
      refine AllReadyH.cons rfl (fun K hK => ?_) AllReadyH.nil
      have HH := hid hH
      clear hH
      go_simp
      refine (IH.out x hxm.out _ _ _ (P4.out.fr (FA.out.trans HH.out)) (Q4.out.fr (FA.out.trans HH.out))).mono ?_
      rintro r w5 ⟨rfl, f5⟩
      have F5 := hid (HH.out.trans f5)
      refine hK.out _ _ F5.out (fun _ => ?_)
      clear hK K f5
      refine wpAnyH_take (i := 11) (v := .bool false) rfl (by kernel_rfl) (by kernel_rfl) (by kernel_rfl) (fun _ _ _ h => h) (.inl ⟨by rfl, fun wx _ => by go_simp⟩) F5.out ?_
      simp only [Act.put]
      refine wpAnyH_done (by kernel_rfl) ?_ _
      go_wp2_with fail
      go_roundw
      case rel => go_light; exact ⟨j + 1, by omega, by go_num, F5.out⟩
      case measure => go_light; simp [intOf]; omega
    · have hjL : j = L := by omega
      subst hjL
      go_wp2
      go_ret
      exact ⟨rfl, FA.out.trans HF.out⟩

theorem same_c : ∀ (n : Nat) (w : World) (v1 v2 : Value) (t : Tr n), full n t → IsV w n v1 t → IsV w n v2 t → Calls Try.prog 17 #[v1, v2] w fun r w' => r = .returned (.bool true) ∧ Fr [] w w'
  | 0, _, _, _, _, h, _, _ => h.elim
  | n + 1, w, v1, v2, t, hf, h1, h2 => by
    obtain ⟨bs, ka, kc, rfl, p2, _, _, p5, p5', p6⟩ := h1
    obtain ⟨bs2, ka2, kc2, rfl, q2, _, _, q5, _, q6⟩ := h2
    exact same_step w p2 q2 p5 q5 p5' p6 q6 fun x hx w1 u1 u2 i1 i2 => same_c n w1 u1 u2 x (hf x hx) i1 i2
end Go.Proofs.Ytldhcdmoenoopaa
