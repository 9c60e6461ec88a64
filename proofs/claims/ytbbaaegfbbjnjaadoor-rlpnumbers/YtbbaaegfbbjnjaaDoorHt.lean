/-
  The document's First and Decode of items.
-/
import Derived.Test.YtbbaaegfbbjnjaaDoorHs
import Derived.Test.YtbbaaegfbbjnjaaDoorJ22
namespace Go.Proofs.YtbbaaegfbbjnjaaDoor
open Go.ChangeShapes Go.WideShapes Go.ChangeAt Go.RowKit

theorem rread_c : ∀ (n : Nat) (w : World) (p q off L cc : Nat) (b : List Nat) (c a en d : Nat), RS w p q off L cc b c 0 → By b → a < en → en ≤ L → b.length = L → L ≤ 100000 → L ≤ cc → d + n = 17 → n ≤ 16 → c ≤ 4096 →
    Calls Tryd.prog 49 #[.pointer (some ⟨p, 0, none⟩), .int .i64 (a : Int), .int .i64 (en : Int), .int .i64 (d : Int)] w fun r w' => RIT w w' p q off L cc b a (n + 3) (rdT n ((b.take en).drop a) c) r ∧ Fr [p] w w'
  | 0, w, p, q, off, L, cc, b, c, a, en, d, h, _, ha, _, _, _, _, hd, _, _ => rread_deep w h ha (.inl (by omega)) (by omega)
  | n + 1, w, p, q, off, L, cc, b, c, a, en, d, h, hB, ha, hen, hLb, hl, hLc, hd, hn, hc => by
    by_cases h4 : c = 4096
    · have e : rdT (n + 1) ((b.take en).drop a) c = .error 43 := by unfold rdT; rw [if_pos h4]
      rw [e]
      exact rread_deep w h ha (.inr h4) (by omega)
    · obtain ⟨x, hx⟩ : ∃ x, b[a]? = some x := ⟨_, List.getElem?_eq_getElem (by omega)⟩
      by_cases hx1 : x < 128
      · exact rread_one w h ha (by omega) hLb hl (by omega) (by omega) hx hx1
      · refine rread_big w h hB ha hen hLb hl hLc (by omega) (by omega) (by omega) hx hx1 fun w1 a1 e1 c1 h1 h2 h3 h5 => ?_
        have := rread_c n w1 p q off L cc b c1 a1 e1 (d + 1) h1 hB h2 h3 hLb hl hLc (by omega) (by omega) h5
        rw [show (((d + 1 : Nat)) : Int) = (d : Int) + 1 by omega] at this
        exact this

/-- A reader of whatever. -/
def R0 (w : World) (p : Nat) (v : Value) (c e : Nat) : Prop := w.heap[p]? = some (.cells #[v, .int .i64 (c : Int), .int .i64 (e : Int)] 92 (0, 0))
set_option maxRecDepth 20000 in
set_option maxHeartbeats 800000 in
theorem rfault_n (w : World) {p : Nat} {v : Value} {c : Nat} (h : R0 w p v c 0) (e : Nat) :
    Calls Tryd.prog 51 #[.pointer (some ⟨p, 0, none⟩), .int .i64 (e : Int)] w fun r w' => r = .returned (.tuple #[.agg #[.bool false, .slice none 0 0, .slice none 0 0], .int .i64 0]) ∧ R0 w' p v c e ∧ Fr [p] w w' := by
  have hlt := blk_lt h
  obtain ⟨W, hW⟩ : ∃ W, W = w.alloc (.cells #[.bool false, .slice none 0 0, .slice none 0 0] 44) := ⟨_, rfl⟩
  have S : Hid (R0 W p v c 0) := hid (by rw [hW]; unfold R0; rw [blk_old _ _ hlt]; exact h)
  have F : Hid (Fr [p] w W) := hid (by rw [hW]; exact (Fr.refl _ w).alloc _)
  have N : Hid (W.heap[w.heap.size]? = some (.cells #[.bool false, .slice none 0 0, .slice none 0 0] 44 (0, 0))) := hid (by rw [hW]; exact blk_new _ _)
  have hNp : w.heap.size ≠ p := by omega
  obtain ⟨W2, hW2⟩ : ∃ W2, W2 = W.setCell ⟨p, 2, none⟩ (.int .i64 (e : Int)) := ⟨_, rfl⟩
  have S2 : Hid (R0 W2 p v c e) := hid (by rw [hW2]; unfold R0; rw [blk_set S.out]; rfl)
  have F2 : Hid (Fr [p] w W2) := hid (by rw [hW2]; exact F.out.set _ _ (.inl (by simp)))
  have N2 : Hid (W2.heap[w.heap.size]? = some (.cells #[.bool false, .slice none 0 0, .slice none 0 0] 44 (0, 0))) := hid (by rw [hW2, blk_setne _ _ _ hNp]; exact N.out)
  have c2 := blk_cell S.out 2
  have z2 := blk_frozen S.out 2
  have d0 := blk_cell N2.out 0
  have d1 := blk_cell N2.out 1
  have d2 := blk_cell N2.out 2
  have f0 := blk_frozen N2.out 0
  have f1 := blk_frozen N2.out 1
  have f2 := blk_frozen N2.out 2
  simp at c2 d0 d1 d2
  have HNP := hid hNp
  clear h hNp
  go_enter Tryd.func51, Tryd.ntmps51
  go_upto_region 1 with fail
  rw [← hW]
  clear hW
  go_upto_region 3 with fail
  rw [← hW2]
  clear hW2
  go_wp2
  have K := fin_z (a := .bool false) (b := .slice none 0 0) (c := .slice none 0 0) N2.out F2.out (Nat.le_refl _)
  refine bodyPost_ret (ret_ct rfl rfl (load_item K.1)) rfl ⟨rfl, ?_, K.2⟩
  unfold R0
  rw [blk_setne _ _ _ HNP.out.symm, blk_setne _ _ _ HNP.out.symm, blk_setne _ _ _ HNP.out.symm]
  exact S2.out
set_option maxRecDepth 20000 in
set_option maxHeartbeats 800000 in
theorem rread_none (w : World) {p : Nat} {v : Value} {c a d : Nat} (h : R0 w p v c 0) :
    Calls Tryd.prog 49 #[.pointer (some ⟨p, 0, none⟩), .int .i64 (a : Int), .int .i64 (a : Int), .int .i64 (d : Int)] w fun r w' => r = .returned (.tuple #[.agg #[.bool false, .slice none 0 0, .slice none 0 0], .int .i64 0]) ∧ R0 w' p v c 41 ∧ Fr [p] w w' := by
  have hlt := blk_lt h
  obtain ⟨W, hW⟩ : ∃ W, W = w.alloc (.cells #[.bool false, .slice none 0 0, .slice none 0 0] 44) := ⟨_, rfl⟩
  have S : Hid (R0 W p v c 0) := hid (by rw [hW]; unfold R0; rw [blk_old _ _ hlt]; exact h)
  have F : Hid (Fr [p] w W) := hid (by rw [hW]; exact (Fr.refl _ w).alloc _)
  have N : Hid (W.heap[w.heap.size]? = some (.cells #[.bool false, .slice none 0 0, .slice none 0 0] 44 (0, 0))) := hid (by rw [hW]; exact blk_new _ _)
  have HNP : Hid (w.heap.size ≠ p) := hid (by omega)
  have FC := hid (rfault_n W S.out 41)
  clear h
  go_enter Tryd.func49, Tryd.ntmps49
  go_upto_region 1 with fail
  rw [← hW]
  clear hW
  go_wp2_with fail
  refine FC.out.mono ?_
  rintro r w3 ⟨rfl, s3, f3⟩
  have S3 := hid s3
  have F3 := hid (F.out.trans f3)
  have N3 := hid (f3.at N.out (by simp; exact HNP.out))
  have d0 := blk_cell N3.out 0
  have d1 := blk_cell N3.out 1
  have d2 := blk_cell N3.out 2
  have f0 := blk_frozen N3.out 0
  have f1 := blk_frozen N3.out 1
  have f2 := blk_frozen N3.out 2
  simp at d0 d1 d2
  clear s3 f3
  go_wp2
  have K := fin_z (a := .bool false) (b := .slice none 0 0) (c := .slice none 0 0) N3.out F3.out (Nat.le_refl _)
  refine bodyPost_ret (ret_ct rfl rfl (load_item K.1)) rfl ⟨rfl, ?_, K.2⟩
  unfold R0
  rw [blk_setne _ _ _ HNP.out.symm, blk_setne _ _ _ HNP.out.symm, blk_setne _ _ _ HNP.out.symm]
  exact S3.out

/-- What the reader of the whole tells. -/
def RFT (w1 w' : World) (p : Nat) (v : Value) (res : Except Nat (Tr 19 × Nat × Nat)) (r : Ending) : Prop := match res with
  | .error e => r = .returned (.tuple #[.agg #[.bool false, .slice none 0 0, .slice none 0 0], .int .i64 0]) ∧ ∃ c', R0 w' p v c' e
  | .ok (t, k, c') => (∃ u, r = .returned (.tuple #[u, .int .i64 (k : Int)]) ∧ IsF w' w1.heap.size w'.heap.size 19 u t) ∧ R0 w' p v c' 0
set_option maxRecDepth 20000 in
set_option maxHeartbeats 1600000 in
theorem rfirst_at (w : World) {ao : Option Addr} {L cc : Nat} {res : Except Nat (Tr 19 × Nat × Nat)} (hL : L ≤ 65536) (he : ∀ e, res = .error e → 0 < e ∧ e < 100)
    (h : ∀ w1, Fr [] w w1 → w1.heap.size = w.heap.size + 2 → R0 w1 (w.heap.size + 1) (.slice ao L cc) 0 0 → Calls Tryd.prog 49 #[.pointer (some ⟨w.heap.size + 1, 0, none⟩), .int .i64 0, .int .i64 (L : Int), .int .i64 1] w1 fun r w' => RFT w1 w' (w.heap.size + 1) (.slice ao L cc) res r ∧ Fr [w.heap.size + 1] w1 w') :
    Calls Tryd.prog 44 #[.slice ao L cc] w fun r w' => FirstT w.heap.size res r w' ∧ Fr [] w w' := by
  obtain ⟨W, hW⟩ : ∃ W, W = (w.alloc (.cells #[.bool false, .slice none 0 0, .slice none 0 0] 44)).alloc (.cells #[.slice ao L cc, .int .i64 0, .int .i64 0] 92) := ⟨_, rfl⟩
  have F : Hid (Fr [] w W) := hid (by rw [hW]; exact ((Fr.refl _ w).alloc _).alloc _)
  have HS : Hid (W.heap.size = w.heap.size + 2) := hid (by rw [hW]; simp)
  have B : Hid (R0 W (w.heap.size + 1) (.slice ao L cc) 0 0) := hid (by rw [hW]; exact new_at _ _ (by simp))
  have N : Hid (W.heap[w.heap.size]? = some (.cells #[.bool false, .slice none 0 0, .slice none 0 0] 44 (0, 0))) := hid (by rw [hW, blk_old _ _ (by simp)]; exact blk_new _ _)
  have HH := hid (h W F.out HS.out B.out)
  have hL' : ¬ (65536 : Int) < (L : Int) := by omega
  clear h
  rcases res with x | ⟨t, k, c'⟩
  · have hx := he x rfl
    have hz : ((x : Int) == 0) = false := beq_eq_false_iff_ne.2 (by omega)
    unfold FirstT
    go_enter Tryd.func44, Tryd.ntmps44
    go_upto_region 4 with fail
    rw [← hW]
    clear hW
    go_wp2_with fail
    refine HH.out.mono ?_
    rintro r w3 ⟨⟨rfl, c', b3⟩, f3⟩
    obtain ⟨w4, hw4⟩ : ∃ w4, w4 = w3.alloc (.cells #[.bool false, .slice none 0 0, .slice none 0 0] 44) := ⟨_, rfl⟩
    have F4 : Hid (Fr [] w w4) := hid (by rw [hw4]; exact (((F.out.mono (S' := [w.heap.size + 1]) (by simp)).trans f3).shed (fun j hj hlt => by simp at hj; omega)).alloc _)
    have B4 : Hid (R0 w4 (w.heap.size + 1) (.slice ao L cc) c' x) := hid (by rw [hw4]; unfold R0; rw [blk_old _ _ (blk_lt b3)]; exact b3)
    have N4 : Hid (w4.heap[w.heap.size]? = some (.cells #[.bool false, .slice none 0 0, .slice none 0 0] 44 (0, 0))) := hid (by have := f3.at N.out (by simp); rw [hw4, blk_old _ _ (blk_lt this)]; exact this)
    have c2 := blk_cell B4.out 2
    have d0 := blk_cell N4.out 0
    have d1 := blk_cell N4.out 1
    have d2 := blk_cell N4.out 2
    have f0 := blk_frozen N4.out 0
    have f1 := blk_frozen N4.out 1
    have f2 := blk_frozen N4.out 2
    simp at c2 d0 d1 d2
    clear b3 f3
    go_upto_region 5 with fail
    rw [← hw4]
    clear hw4
    go_upto_region 6 with fail
    go_region
    all_goals (try go_wp2)
    all_goals (
      have K := fin_z (W := w4.drew) (a := .bool false) (b := .slice none 0 0) (c := .slice none 0 0) N4.out F4.out.drew (Nat.le_refl _)
      exact bodyPost_ret (ret_ctt rfl rfl (load_item K.1)) rfl ⟨rfl, K.2⟩)
  · unfold FirstT
    go_enter Tryd.func44, Tryd.ntmps44
    go_upto_region 4 with fail
    rw [← hW]
    clear hW
    go_wp2_with fail
    refine HH.out.mono ?_
    rintro r w3 ⟨⟨⟨u, rfl, hF⟩, b3⟩, f3⟩
    obtain ⟨l, a1, n1, c1, a2, n2, c2, rfl⟩ := hF.isV.agg
    obtain ⟨w4, hw4⟩ : ∃ w4, w4 = w3.alloc (.cells #[.bool l, .slice a1 n1 c1, .slice a2 n2 c2] 44) := ⟨_, rfl⟩
    have F4 : Hid (Fr [] w w4) := hid (by rw [hw4]; exact (((F.out.mono (S' := [w.heap.size + 1]) (by simp)).trans f3).shed (fun j hj hlt => by simp at hj; omega)).alloc _)
    have B4 : Hid (R0 w4 (w.heap.size + 1) (.slice ao L cc) c' 0) := hid (by rw [hw4]; unfold R0; rw [blk_old _ _ (blk_lt b3)]; exact b3)
    have N4 : Hid (w4.heap[w.heap.size]? = some (.cells #[.bool false, .slice none 0 0, .slice none 0 0] 44 (0, 0))) := hid (by have := f3.at N.out (by simp); rw [hw4, blk_old _ _ (blk_lt this)]; exact this)
    have Y4 : Hid (w4.heap[w3.heap.size]? = some (.cells #[.bool l, .slice a1 n1 c1, .slice a2 n2 c2] 44 (0, 0))) := hid (by rw [hw4]; exact blk_new _ _)
    have I4 : Hid (IsF w4 (w.heap.size + 1) w4.heap.size 19 (.agg #[.bool l, .slice a1 n1 c1, .slice a2 n2 c2]) t) := hid (by
      rw [hw4]
      exact (hF.step (w' := w3.alloc (.cells #[.bool l, .slice a1 n1 c1, .slice a2 n2 c2] 44)) fun j _ hj => blk_old _ _ hj).wide (by have := HS.out; omega) (by simp))
    have k2 := blk_cell B4.out 2
    have y0 := blk_cell Y4.out 0
    have y1 := blk_cell Y4.out 1
    have y2 := blk_cell Y4.out 2
    have d0 := blk_cell N4.out 0
    have d1 := blk_cell N4.out 1
    have d2 := blk_cell N4.out 2
    have f0 := blk_frozen N4.out 0
    have f1 := blk_frozen N4.out 1
    have f2 := blk_frozen N4.out 2
    simp at k2 y0 y1 y2 d0 d1 d2
    clear b3 f3 hF
    go_upto_region 5 with fail
    rw [← hw4]
    clear hw4
    go_wp2
    have K := fin_z (a := .bool l) (b := .slice a1 n1 c1) (c := .slice a2 n2 c2) N4.out F4.out (Nat.le_refl _)
    exact bodyPost_ret (ret_ctt rfl rfl (load_item K.1)) rfl ⟨⟨_, rfl, isF_out I4.out _ _ _⟩, K.2⟩
end Go.Proofs.YtbbaaegfbbjnjaaDoor
