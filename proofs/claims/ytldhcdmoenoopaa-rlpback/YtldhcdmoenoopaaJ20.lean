/-
  What First and Decode of package rlp answer.
-/
import Derived.Test.YtldhcdmoenoopaaRe4
import Derived.Test.YtldhcdmoenoopaaJ16
import Derived.Test.YtldhcdmoenoopaaJ06
import Derived.Deep.RegionHeld
namespace Go.Proofs.Ytldhcdmoenoopaa
open Go.ChangeShapes Go.WideShapes Go.ChangeAt Go.RowKit

theorem read_c {T g e k : Nat} : ∀ (n d : Nat) (w : World) (v : Value) (b : List Nat) (c : Nat), d + n = 17 → 1 ≤ d → Rd w v (bv b) → By b → b ≠ [] → b.length ≤ 100000 → Clo w 25 T g e k c → c ≤ 4096 →
    Calls Try.prog 25 #[v, .int .i64 (d : Int), .pointer (some ⟨e, 0, none⟩), .pointer (some ⟨k, 0, none⟩)] w fun r w' => ReadT w.heap.size n (rdT n b c) g r w' ∧ Fr [g] w w'
  | 0, d, w, v, b, c, hd, hd1, hr, hb, h0, hl, C, hc => by
    refine (read_deep w C v (.inl (by omega)) (by omega)).mono ?_
    rintro r w' ⟨h1, h2⟩
    exact ⟨h1, h2⟩
  | n + 1, d, w, v, b, c, hd, hd1, hr, hb, h0, hl, C, hc => by
    by_cases hc4 : c = 4096
    · refine (read_deep w C v (.inr hc4) (by omega)).mono ?_
      rintro r w' ⟨h1, h2⟩
      have e1 : rdT (n + 1) b c = .error 43 := by unfold rdT; rw [if_pos hc4]
      rw [e1]
      exact ⟨h1, h2⟩
    · rcases hh : hdr b with x | ⟨l, s, en⟩
      · have e1 : rdT (n + 1) b c = .error x := by unfold rdT; rw [if_neg hc4, hh]
        have hx0 : x ≠ 0 := by
          rcases rdT_err (n + 1) b c x hb h0 hc (by omega) e1 with h | h | h <;> omega
        rw [e1]
        refine (read_bad w C hr hb h0 hl (by omega) (by omega) hh hx0).mono ?_
        rintro r w' ⟨h1, h2⟩
        exact ⟨h1, h2⟩
      · rcases l with _ | _
        · have e1 : rdT (n + 1) b c = .ok (mkT false ((b.take en).drop s) [], en, c + 1) := by unfold rdT; rw [if_neg hc4, hh]; rfl
          rw [e1]
          refine (read_str (n := n + 3) w C hr hb h0 hl (by omega) (by omega) hh).mono ?_
          rintro r w' ⟨h1, h2⟩
          exact ⟨h1, h2⟩
        · refine (read_list (d := d) (n := n) w C hr hb h0 hl (by omega) (by omega) hh (by omega) (fun w1 v1 b1 c1 r1 y1 z1 l1 C1 q1 => ?_)).mono ?_
          · have := read_c n (d + 1) w1 v1 b1 c1 (by omega) (by omega) r1 y1 z1 l1 C1 q1
            rwa [show ((d + 1 : Nat) : Int) = (d : Int) + 1 by omega] at this
          · rintro r w' ⟨h1, h2⟩
            refine ⟨?_, h2⟩
            rcases hR : itemsR (rdT n) (en - s) ((b.take en).drop s) (c + 1) with x | ⟨ks, c'⟩
            · have e1 : rdT (n + 1) b c = .error x := by unfold rdT; rw [if_neg hc4, hh]; simp only [if_true]; rw [hR]
              rw [hR] at h1
              rw [e1]; exact h1
            · have e1 : rdT (n + 1) b c = .ok (mkT true [] ks, en, c') := by unfold rdT; rw [if_neg hc4, hh]; simp only [if_true]; rw [hR]
              rw [hR] at h1
              rw [e1]; exact h1

theorem first_c (w : World) {v : Value} {b : List Nat} (hr : Rd w v (bv b)) (hb : By b) (hl : b.length ≤ 140737488355328) : Calls Try.prog 14 #[v] w fun r w' => FirstT w.heap.size (firstL b) r w' ∧ Fr [] w w' := by
  obtain ⟨a, c, hv⟩ := hr.form
  rw [bv_len] at hv
  subst hv
  by_cases h1 : 65536 < b.length
  · have e : firstL b = .error 44 := by unfold firstL; rw [if_pos h1]
    rw [e]; exact first_long w h1 hl
  · by_cases h2 : b = []
    · have e : firstL b = .error 41 := by unfold firstL; rw [if_neg h1, if_pos h2]
      rw [e]; subst h2; exact first_none w
    · have e : firstL b = rdT 16 b 0 := by unfold firstL; rw [if_neg h1, if_neg h2]
      rw [e]
      exact first_at w (fun w1 T g e k C f _ => read_c 16 1 w1 _ b 0 (by omega) (by omega) (hr.fr f) hb h2 (by omega) C (by omega)) (List.length_pos_iff.2 h2) (by omega)
theorem decode_c (w : World) {v : Value} {b : List Nat} (hr : Rd w v (bv b)) (hb : By b) (hl : b.length ≤ 140737488355328) : Calls Try.prog 11 #[v] w fun r w' => DecT w.heap.size b.length (firstL b) r w' ∧ Fr [] w w' := by
  obtain ⟨a, c, hv⟩ := hr.form
  rw [bv_len] at hv
  subst hv
  refine decode_at w (fun w1 f1 => first_c w1 (hr.fr f1) hb hl) ?_ ?_
  · intro t k c' h
    obtain ⟨⟨_, _, _, k4, _⟩, k5⟩ := firstL_inv hb h
    omega
  · intro x h
    unfold firstL at h
    split at h
    · cases h; omega
    · split at h
      · cases h; omega
      · rcases rdT_err 16 b 0 x hb (by assumption) (by omega) (by omega) h with h | h | h <;> omega
end Go.Proofs.Ytldhcdmoenoopaa
namespace Go.Proofs.Ytldhcdmoenoopaa
open Go.ChangeShapes Go.WideShapes Go.ChangeAt Go.RowKit

set_option maxRecDepth 20000 in
set_option maxHeartbeats 1600000 in
theorem same_step (w : World) {n : Nat} {l : Bool} {b : List Nat} {ks : List (Tr n)} {bs bs2 : Value} {ka ka2 : Option Addr} {kc kc2 : Nat} (h1 : Rd w bs (bv b)) (h2 : Rd w bs2 (bv b)) (hkl : ks.length ≤ kc) (hkl2 : ks.length ≤ kc2) (hk : ks.length ≤ 140737488355328)
    (e1 : 0 < ks.length → ∃ kb ko, ka = some ⟨kb, ko, none⟩ ∧ ∀ (j : Nat) (x : Tr n), ks[j]? = some x → ∃ l bs' is', w.cell? ⟨kb, ko + j * 3, none⟩ = some (.bool l) ∧ w.cell? ⟨kb, ko + j * 3 + 1, none⟩ = some bs' ∧ w.cell? ⟨kb, ko + j * 3 + 2, none⟩ = some is' ∧ IsV w n (.agg #[.bool l, bs', is']) x)
    (e2 : 0 < ks.length → ∃ kb ko, ka2 = some ⟨kb, ko, none⟩ ∧ ∀ (j : Nat) (x : Tr n), ks[j]? = some x → ∃ l bs' is', w.cell? ⟨kb, ko + j * 3, none⟩ = some (.bool l) ∧ w.cell? ⟨kb, ko + j * 3 + 1, none⟩ = some bs' ∧ w.cell? ⟨kb, ko + j * 3 + 2, none⟩ = some is' ∧ IsV w n (.agg #[.bool l, bs', is']) x)
    (ih : ∀ x ∈ ks, ∀ (w1 : World) (v1 v2 : Value), IsV w1 n v1 x → IsV w1 n v2 x → Calls Try.prog 17 #[v1, v2] w1 fun r w' => r = .returned (.bool true) ∧ Fr [] w1 w') :
    Calls Try.prog 17 #[.agg #[.bool l, bs, .slice ka ks.length kc], .agg #[.bool l, bs2, .slice ka2 ks.length kc2]] w fun r w' => r = .returned (.bool true) ∧ Fr [] w w' := by
  obtain ⟨L, hL⟩ : ∃ L, L = ks.length := ⟨_, rfl⟩
  rw [← hL] at hkl hkl2 hk e1 e2 ⊢
  obtain ⟨a1, c1, hb1⟩ := h1.form
  obtain ⟨a2, c2, hb2⟩ := h2.form
  rw [bv_len] at hb1 hb2
  subst hb1
  subst hb2
  have FA := hid (((Fr.refl [] w).alloc (.cells #[.bool l, .slice a1 b.length c1, .slice ka L kc] 25)).alloc (.cells #[.bool l, .slice a2 b.length c2, .slice ka2 L kc2] 25))
  have hA := hid (show (((w.alloc (.cells #[.bool l, .slice a1 b.length c1, .slice ka L kc] 25)).alloc (.cells #[.bool l, .slice a2 b.length c2, .slice ka2 L kc2] 25)).heap[w.heap.size]? = some (.cells #[.bool l, .slice a1 b.length c1, .slice ka L kc] 25 (0, 0))) by
    rw [blk_old _ _ (by simp)]; exact blk_new _ _)
  have hB := hid (show (((w.alloc (.cells #[.bool l, .slice a1 b.length c1, .slice ka L kc] 25)).alloc (.cells #[.bool l, .slice a2 b.length c2, .slice ka2 L kc2] 25)).heap[w.heap.size + 1]? = some (.cells #[.bool l, .slice a2 b.length c2, .slice ka2 L kc2] 25 (0, 0))) from new_at _ _ (by simp))
  have cv1 := run_conv (h1.fr FA.out)
  have cv2 := run_conv (h2.fr FA.out)
  have hbb := ba_beq (strOf b)
  have HE1 := hid e1
  have HE2 := hid e2
  have IH := hid ih
  have HL := hid hL
  clear h1 h2 e1 e2 ih hL
  go_enter Try.func17, Try.ntmps17
  go_wp2
  clear cv1 cv2
  generalize ((w.alloc (.cells #[.bool l, .slice a1 b.length c1, .slice ka L kc] 25)).alloc (.cells #[.bool l, .slice a2 b.length c2, .slice ka2 L kc2] 25)) = wB at FA hA hB ⊢
  go_loopw [5] (fun v5 wr => ∃ j : Nat, j ≤ L ∧ v5 = .int .i64 (j : Int) ∧ Fr [] wB wr) (fun v5 _ => L - (intOf v5).toNat)
  case atStart => exact ⟨0, by omega, rfl, Fr.refl _ _⟩
  case round =>
    obtain ⟨j, hj, rfl, hf⟩ := hrel
    have HF := hid hf
    have m2 := blk_cell (hf.at hA.out (by simp)) 2
    simp at m2
    clear hf
    by_cases hjl : j < L
    · obtain ⟨x, hx⟩ : ∃ x, ks[j]? = some x := ⟨_, List.getElem?_eq_getElem (by rw [← HL.out]; exact hjl)⟩
      obtain ⟨kb, ko, hka, el1⟩ := HE1.out (by omega)
      obtain ⟨kb2, ko2, hka2, el2⟩ := HE2.out (by omega)
      subst hka
      subst hka2
      obtain ⟨l1, b1', i1', p1, p2, p3, p4⟩ := el1 j x hx
      obtain ⟨l2, b2', i2', q1, q2, q3, q4⟩ := el2 j x hx
      obtain ⟨x1, x2, x3, x4, x5, x6, rfl, rfl⟩ := p4.cells
      obtain ⟨y1, y2, y3, y4, y5, y6, rfl, rfl⟩ := q4.cells
      have HP := hid (And.intro p1 (And.intro p2 p3))
      have HQ := hid (And.intro q1 (And.intro q2 q3))
      have P4 := hid p4
      have Q4 := hid q4
      have hxm : Hid (x ∈ ks) := List.mem_of_getElem? hx
      clear p1 p2 p3 p4 q1 q2 q3 q4 el1 el2 hx
      go_wp2_with fail
      refine wp_region_held_drew (S := fun w' => Fr [] wB w') (by kernel_rfl) HF.out.drew (fun hH => ?_)
      refine wpAnyH_take (i := 0) (v := .pointer (some ⟨w.heap.size, 2, none⟩)) rfl (by kernel_rfl) (by kernel_rfl) (by kernel_rfl) (fun _ _ _ h => h) (.inl ⟨by rfl, fun wx _ => by go_simp⟩) hH ?_
      simp only [Act.put]
      refine wpAnyH_take (i := 1) (v := .slice (some ⟨kb, ko, none⟩) L kc) rfl (by kernel_rfl) (by kernel_rfl) (by kernel_rfl) (fun _ _ _ h => h) (.inl ⟨by rfl, fun wx h => by have z := blk_cell (h.at hA.out (by simp)) 2; simp at z; go_simp⟩) hH ?_
      simp only [Act.put]
      refine wpAnyH_take (i := 2) (v := .int .i64 (j : Int)) rfl (by kernel_rfl) (by kernel_rfl) (by kernel_rfl) (fun _ _ _ h => h) (.inl ⟨by rfl, fun wx _ => by go_simp⟩) hH ?_
      simp only [Act.put]
      refine wpAnyH_take (i := 3) (v := .pointer (some ⟨kb, ko + j * 3, none⟩)) rfl (by kernel_rfl) (by kernel_rfl) (by kernel_rfl) (fun _ _ _ h => h) (.inl ⟨by rfl, fun wx _ => by go_simp⟩) hH ?_
      simp only [Act.put]
      refine wpAnyH_take (i := 4) (v := .agg #[.bool l1, .slice x1 x2 x3, .slice x4 x5 x6]) rfl (by kernel_rfl) (by kernel_rfl) (by kernel_rfl) (fun _ _ _ h => h) (.inl ⟨by rfl, fun wx h => by
        have z1 := cell_fr HP.out.1 (FA.out.trans h)
        have z2 := cell_fr HP.out.2.1 (FA.out.trans h)
        have z3 := cell_fr HP.out.2.2 (FA.out.trans h)
        go_simp⟩) hH ?_
      simp only [Act.put]
      refine wpAnyH_take (i := 5) (v := .pointer (some ⟨w.heap.size + 1, 2, none⟩)) rfl (by kernel_rfl) (by kernel_rfl) (by kernel_rfl) (fun _ _ _ h => h) (.inl ⟨by rfl, fun wx _ => by go_simp⟩) hH ?_
      simp only [Act.put]
      refine wpAnyH_take (i := 6) (v := .slice (some ⟨kb2, ko2, none⟩) L kc2) rfl (by kernel_rfl) (by kernel_rfl) (by kernel_rfl) (fun _ _ _ h => h) (.inl ⟨by rfl, fun wx h => by have z := blk_cell (h.at hB.out (by simp)) 2; simp at z; go_simp⟩) hH ?_
      simp only [Act.put]
      refine wpAnyH_take (i := 7) (v := .int .i64 (j : Int)) rfl (by kernel_rfl) (by kernel_rfl) (by kernel_rfl) (fun _ _ _ h => h) (.inl ⟨by rfl, fun wx _ => by go_simp⟩) hH ?_
      simp only [Act.put]
      refine wpAnyH_take (i := 8) (v := .pointer (some ⟨kb2, ko2 + j * 3, none⟩)) rfl (by kernel_rfl) (by kernel_rfl) (by kernel_rfl) (fun _ _ _ h => h) (.inl ⟨by rfl, fun wx _ => by go_simp⟩) hH ?_
      simp only [Act.put]
      refine wpAnyH_take (i := 9) (v := .agg #[.bool l2, .slice y1 y2 y3, .slice y4 y5 y6]) rfl (by kernel_rfl) (by kernel_rfl) (by kernel_rfl) (fun _ _ _ h => h) (.inl ⟨by rfl, fun wx h => by
        have z1 := cell_fr HQ.out.1 (FA.out.trans h)
        have z2 := cell_fr HQ.out.2.1 (FA.out.trans h)
        have z3 := cell_fr HQ.out.2.2 (FA.out.trans h)
        go_simp⟩) hH ?_
      simp only [Act.put]
      refine wpAnyH_ready (rs := [10]) (by kernel_rfl) (by simp) ?_
      refine AllReadyH.cons rfl (fun K hK => ?_) AllReadyH.nil
      have HH := hid hH
      clear hH
      go_simp
      refine (IH.out x hxm.out _ _ _ (P4.out.fr (FA.out.trans HH.out)) (Q4.out.fr (FA.out.trans HH.out))).mono ?_
      rintro r w5 ⟨rfl, f5⟩
      have F5 := hid (HH.out.trans f5)
      refine hK.out _ _ F5.out (fun _ => ?_)
      clear hK K f5
      refine wpAnyH_take (i := 11) (v := .bool false) rfl (by kernel_rfl) (by kernel_rfl) (by kernel_rfl) (fun _ _ _ h => h) (.inl ⟨by rfl, fun wx _ => by go_simp⟩) F5.out ?_
      simp only [Act.put]
      refine wpAnyH_done (by kernel_rfl) ?_ _
      go_wp2_with fail
      go_roundw
      case rel => go_light; exact ⟨j + 1, by omega, by go_num, F5.out⟩
      case measure => go_light; simp [intOf]; omega
    · have hjL : j = L := by omega
      subst hjL
      go_wp2
      go_ret
      exact ⟨rfl, FA.out.trans HF.out⟩

theorem same_c : ∀ (n : Nat) (w : World) (v1 v2 : Value) (t : Tr n), full n t → IsV w n v1 t → IsV w n v2 t → Calls Try.prog 17 #[v1, v2] w fun r w' => r = .returned (.bool true) ∧ Fr [] w w'
  | 0, _, _, _, _, h, _, _ => h.elim
  | n + 1, w, v1, v2, t, hf, h1, h2 => by
    obtain ⟨bs, ka, kc, rfl, p2, _, _, p5, p5', p6⟩ := h1
    obtain ⟨bs2, ka2, kc2, rfl, q2, _, _, q5, _, q6⟩ := h2
    exact same_step w p2 q2 p5 q5 p5' p6 q6 fun x hx w1 u1 u2 i1 i2 => same_c n w1 u1 u2 x (hf x hx) i1 i2
end Go.Proofs.Ytldhcdmoenoopaa
