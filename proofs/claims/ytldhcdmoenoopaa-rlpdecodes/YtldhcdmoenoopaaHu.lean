/-
  The document's First and Decode in general; RlpDecodes walked.
-/
import Derived.Test.YtldhcdmoenoopaaHt
import Derived.Test.YtldhcdmoenoopaaJ26
import Derived.Test.YtldhcdmoenoopaaHd
namespace Go.Proofs.Ytldhcdmoenoopaa
open Go.ChangeShapes Go.WideShapes Go.ChangeAt Go.RowKit Go.Deep

set_option maxRecDepth 20000 in
set_option maxHeartbeats 800000 in
theorem rfirst_long (w : World) {ao : Option Addr} {n c : Nat} (hn : 65536 < n) : Calls Try.prog 15 #[.slice ao n c] w fun r w' => FirstT w.heap.size (.error 44) r w' ∧ Fr [] w w' := by
  have N := hid (blk_new w (.cells #[.bool false, .slice none 0 0, .slice none 0 0] 25))
  have F := hid ((Fr.refl [] w).alloc (.cells #[.bool false, .slice none 0 0, .slice none 0 0] 25))
  have hn' : (65536 : Int) < (n : Int) := by omega
  unfold FirstT
  go_enter Try.func15, Try.ntmps15
  go_wp2
  refine bodyPost_ret (ret_ctt rfl rfl (load_item (g := w.heap.size) (t := 25) ?_)) rfl ⟨rfl, ?_⟩
  · first | exact N.out | (exact (fin_z (a := .bool false) (b := .slice none 0 0) (c := .slice none 0 0) N.out F.out (Nat.le_refl _)).1)
  · first | exact F.out | (exact (fin_z (a := .bool false) (b := .slice none 0 0) (c := .slice none 0 0) N.out F.out (Nat.le_refl _)).2)
theorem firstL_err2 {b : List Nat} (hb : By b) {x : Nat} (h : firstL b = .error x) : 0 < x ∧ x < 100 := by
  unfold firstL at h
  split at h
  · cases h; omega
  · split at h
    · cases h; omega
    · rcases rdT_err 16 b 0 x hb (by assumption) (by omega) (by omega) h with h | h | h <;> omega
theorem rfirst_c (w : World) {v : Value} {b : List Nat} (hr : Rd w v (bv b)) (hb : By b) : Calls Try.prog 15 #[v] w fun r w' => FirstT w.heap.size (firstL b) r w' ∧ Fr [] w w' := by
  by_cases h1 : 65536 < b.length
  · obtain ⟨a, c, hv⟩ := hr.form
    rw [bv_len] at hv
    subst hv
    have e : firstL b = .error 44 := by unfold firstL; rw [if_pos h1]
    rw [e]; exact rfirst_long w h1
  · rcases hr.split with ⟨rfl, a, c, rfl⟩ | ⟨q, off, c, rfl, k1, k2, k3⟩
    · have e : firstL [] = .error 41 := rfl
      rw [e]
      refine rfirst_at w (by omega) (fun x hx => by cases hx; omega) fun w1 _ _ h0 => ?_
      refine (rread_none w1 (a := 0) (d := 1) h0).mono ?_
      rintro r w' ⟨rfl, h2, h3⟩
      exact ⟨⟨rfl, 0, h2⟩, h3⟩
    · have h2 : b ≠ [] := fun e => by subst e; simp at k2
      have e : firstL b = rdT 16 b 0 := by unfold firstL; rw [if_neg h1, if_neg h2]
      have hq : q < w.heap.size := by
        obtain ⟨x, hx⟩ : ∃ x, b[0]? = some x := ⟨_, List.getElem?_eq_getElem (List.length_pos_iff.2 h2)⟩
        exact World.block_lt_of_cell? w _ (k3 0 x hx)
      refine rfirst_at w (by omega) (fun x hx => firstL_err2 hb hx) fun w1 f1 s1 h0 => ?_
      have R : RS w1 (w.heap.size + 1) q off b.length c b 0 0 := ⟨hr.fr f1, h0, by omega, by omega⟩
      refine (rread_c 16 w1 (w.heap.size + 1) q off b.length c b 0 0 b.length 1 R hb (List.length_pos_iff.2 h2) (Nat.le_refl _) rfl (by omega) (by omega) (by omega) (by omega) (by omega)).mono ?_
      rintro r w' ⟨hT, f⟩
      refine ⟨?_, f⟩
      rw [List.take_length, List.drop_zero, ← e] at hT
      rcases hf : firstL b with x | ⟨t, k, c'⟩
      · rw [hf] at hT
        obtain ⟨t1, c', t2⟩ := hT
        exact ⟨t1, c', t2.rr⟩
      · rw [hf] at hT
        obtain ⟨⟨u, t1, t2⟩, t3⟩ := hT
        rw [Nat.zero_add] at t1
        exact ⟨⟨u, t1, t2⟩, t3.rr⟩

/-- What Decode tells of bytes, and First. -/
def decE (n : Nat) : Except Nat (Tr 19 × Nat × Nat) → Nat
  | .error e => e
  | .ok (_, k, _) => if k < n then 42 else 0
def fstE : Except Nat (Tr 19 × Nat × Nat) → Nat
  | .error e => e
  | .ok _ => 0
def fstN : Except Nat (Tr 19 × Nat × Nat) → Nat
  | .error _ => 0
  | .ok (_, k, _) => k
/-- An item that is told, or the item without anything. -/
def Tld (w : World) (B e : Nat) (l : Bool) (v1 v2 : Value) (res : Except Nat (Tr 19 × Nat × Nat)) : Prop := (e ≠ 0 → l = false ∧ v1 = .slice none 0 0 ∧ v2 = .slice none 0 0) ∧ (e = 0 → ∃ t k c, res = .ok (t, k, c) ∧ IsF w B w.heap.size 19 (.agg #[.bool l, v1, v2]) t)
theorem DecT.parts {B n : Nat} {res : Except Nat (Tr 19 × Nat × Nat)} {r : Ending} {w' : World} (h : DecT B n res r w') (he : ∀ e, res = .error e → 0 < e) : ∃ l a1 n1 c1 a2 n2 c2, r = .returned (.tuple #[.agg #[.bool l, .slice a1 n1 c1, .slice a2 n2 c2], .int .i64 (decE n res : Int)]) ∧ Tld w' B (decE n res) l (.slice a1 n1 c1) (.slice a2 n2 c2) res := by
  rcases res with x | ⟨t, k, c⟩
  · have := he x rfl
    exact ⟨_, _, _, _, _, _, _, h, fun _ => ⟨rfl, rfl, rfl⟩, fun h0 => by have h0' : x = 0 := h0; omega⟩
  · rcases h with ⟨h1, h2⟩ | ⟨h1, v, h2, h3⟩
    · have e : decE n (.ok (t, k, c)) = 42 := by show (if k < n then 42 else 0) = 42; rw [if_pos h1]
      rw [e]
      exact ⟨_, _, _, _, _, _, _, h2, fun _ => ⟨rfl, rfl, rfl⟩, fun h0 => by omega⟩
    · have e : decE n (.ok (t, k, c)) = 0 := by show (if k < n then 42 else 0) = 0; rw [if_neg (by omega)]
      rw [e]
      obtain ⟨l, a1, n1, c1, a2, n2, c2, rfl⟩ := h3.isV.agg
      exact ⟨l, a1, n1, c1, a2, n2, c2, h2, fun h0 => absurd rfl h0, fun _ => ⟨t, k, c, rfl, h3⟩⟩
theorem FirstT.parts {B : Nat} {res : Except Nat (Tr 19 × Nat × Nat)} {r : Ending} {w' : World} (h : FirstT B res r w') (he : ∀ e, res = .error e → 0 < e) : ∃ l a1 n1 c1 a2 n2 c2, r = .returned (.tuple #[.agg #[.bool l, .slice a1 n1 c1, .slice a2 n2 c2], .int .i64 (fstN res : Int), .int .i64 (fstE res : Int)]) ∧ Tld w' B (fstE res) l (.slice a1 n1 c1) (.slice a2 n2 c2) res := by
  rcases res with x | ⟨t, k, c⟩
  · have := he x rfl
    exact ⟨_, _, _, _, _, _, _, h, fun _ => ⟨rfl, rfl, rfl⟩, fun h0 => by have h0' : x = 0 := h0; omega⟩
  · obtain ⟨v, h2, h3⟩ := h
    obtain ⟨l, a1, n1, c1, a2, n2, c2, rfl⟩ := h3.isV.agg
    exact ⟨l, a1, n1, c1, a2, n2, c2, h2, fun h0 => absurd rfl h0, fun _ => ⟨t, k, c, rfl, h3⟩⟩
theorem Tld.step {w w' : World} {B e : Nat} {l : Bool} {v1 v2 : Value} {res : Except Nat (Tr 19 × Nat × Nat)} (h : Tld w B e l v1 v2 res) (hs : w.heap.size ≤ w'.heap.size) (f : ∀ k, B ≤ k → k < w.heap.size → w'.heap[k]? = w.heap[k]?) : Tld w' B e l v1 v2 res :=
  ⟨h.1, fun h0 => by
    obtain ⟨t, k, c, h1, h2⟩ := h.2 h0
    exact ⟨t, k, c, h1, (h2.step f).wide (Nat.le_refl _) hs⟩⟩
theorem Tld.fr {w w' : World} {B e : Nat} {l : Bool} {v1 v2 : Value} {res : Except Nat (Tr 19 × Nat × Nat)} (h : Tld w B e l v1 v2 res) (f : Fr [] w w') : Tld w' B e l v1 v2 res := h.step f.size fun k _ hk => f.block k hk (by simp)

set_option maxRecDepth 20000 in
set_option maxHeartbeats 1600000 in
theorem same_both (w : World) {B1 B2 e : Nat} {l1 l2 : Bool} {x1 x4 y1 y4 : Option Addr} {x2 x3 x5 x6 y2 y3 y5 y6 : Nat} {res : Except Nat (Tr 19 × Nat × Nat)} (he : e ≤ 100) (hfull : ∀ t k c, res = .ok (t, k, c) → full 19 t) (h1 : Tld w B1 e l1 (.slice x1 x2 x3) (.slice x4 x5 x6) res) (h2 : Tld w B2 e l2 (.slice y1 y2 y3) (.slice y4 y5 y6) res) :
    Calls Try.prog 13 #[.agg #[.bool l1, .slice x1 x2 x3, .slice x4 x5 x6], .agg #[.bool l2, .slice y1 y2 y3, .slice y4 y5 y6], .int .i64 (e : Int)] w fun r w' => r = .returned (.bool true) ∧ Fr [] w w' := by
  obtain ⟨W, hW⟩ : ∃ W, W = (w.alloc (.cells #[.bool l1, .slice x1 x2 x3, .slice x4 x5 x6] 25)).alloc (.cells #[.bool l2, .slice y1 y2 y3, .slice y4 y5 y6] 25) := ⟨_, rfl⟩
  have F : Hid (Fr [] w W) := hid (by rw [hW]; exact ((Fr.refl _ w).alloc _).alloc _)
  have A : Hid (W.heap[w.heap.size]? = some (.cells #[.bool l1, .slice x1 x2 x3, .slice x4 x5 x6] 25 (0, 0))) := hid (by rw [hW, blk_old _ _ (by simp)]; exact blk_new _ _)
  have B : Hid (W.heap[w.heap.size + 1]? = some (.cells #[.bool l2, .slice y1 y2 y3, .slice y4 y5 y6] 25 (0, 0))) := hid (by rw [hW]; exact new_at _ _ (by simp))
  by_cases h0 : e = 0
  · subst h0
    obtain ⟨t, k, c, e1, i1⟩ := h1.2 rfl
    obtain ⟨t', k', c', e2, i2⟩ := h2.2 rfl
    rw [e1] at e2
    cases e2
    have SM := hid (same_c 19 W _ _ t (hfull t k c e1) (i1.isV.fr F.out) (i2.isV.fr F.out))
    have a0 := blk_cell A.out 0
    have a1 := blk_cell A.out 1
    have a2 := blk_cell A.out 2
    have b0 := blk_cell B.out 0
    have b1 := blk_cell B.out 1
    have b2 := blk_cell B.out 2
    simp at a0 a1 a2 b0 b1 b2
    clear h1 h2 i1 i2 hfull
    go_enter Try.func13, Try.ntmps13
    go_upto_region 1 with fail
    rw [← hW]
    clear hW
    go_wp2_with fail
    refine SM.out.mono ?_
    rintro r w1 ⟨rfl, f1⟩
    have F1 := hid (F.out.trans f1)
    clear f1
    go_wp2
    go_ret
    exact ⟨rfl, F1.out⟩
  · obtain ⟨rfl, hv1, hv2⟩ := h1.1 h0
    simp only [Value.slice.injEq] at hv1 hv2
    obtain ⟨rfl, rfl, rfl⟩ := hv1
    obtain ⟨rfl, rfl, rfl⟩ := hv2
    have hz : ((e : Int) == 0) = false := beq_eq_false_iff_ne.2 (by omega)
    have a0 := blk_cell A.out 0
    have a1 := blk_cell A.out 1
    have a2 := blk_cell A.out 2
    simp at a0 a1 a2
    clear h1 h2 hfull
    go_enter Try.func13, Try.ntmps13
    go_upto_region 1 with fail
    rw [← hW]
    clear hW
    go_wp2
    go_ret
    exact ⟨rfl, F.out⟩

set_option maxRecDepth 20000 in
set_option maxHeartbeats 800000 in
theorem spoil_r (w : World) {B n : Nat} {v : Value} {xs : List Value} (o : w.ownsRow B 5 1 v n xs) (hn : n ≤ 9223372036854775807) :
    Calls Try.prog 16 #[v] w fun e w' => (∃ u, e = .returned u) ∧ Fr v.ownBlock.toList w w' := by
  rcases o.2 with ⟨rfl, h0⟩ | ⟨g, cap, cur, rfl, _, h3, h4, h5⟩
  · subst h0
    clear o
    go_enter Try.func16, Try.ntmps16
    go_wp2_with fail
    go_loopw [2] (fun v2 wr => v2 = .int .i64 0 ∧ wr = w) (fun _ _ => 0)
    case atStart => exact ⟨rfl, rfl⟩
    case round =>
      obtain ⟨rfl, rfl⟩ := hrel
      go_wp2
      go_end0
      exact ⟨⟨_, rfl⟩, Fr.refl _ _⟩
  · have hsz : n ≤ cur.size := by
      have hx := o.1
      have := o.cells (g := g) rfl
      by_cases h0 : n = 0
      · omega
      · obtain ⟨x, hx⟩ : ∃ x, xs[n - 1]? = some x := ⟨_, List.getElem?_eq_getElem (by omega)⟩
        have h6 := this _ _ hx
        rw [Addr.add_lit, blk_cell h3] at h6
        have := (Array.getElem?_eq_some_iff.1 h6).1
        omega
    have H3 := hid h3
    clear h5 o h3
    go_enter Try.func16, Try.ntmps16
    go_wp2_with fail
    go_loopw [2] (fun v2 wr => ∃ k : Nat, k ≤ n ∧ v2 = .int .i64 (k : Int) ∧ Fr [g] w wr ∧ ∃ cs, wr.heap[g]? = some (.cells cs 5 (0, 0)) ∧ n ≤ cs.size) (fun v2 _ => n - (intOf v2).toNat)
    case atStart => exact ⟨0, Nat.zero_le _, rfl, Fr.refl _ _, cur, H3.out, hsz⟩
    case round =>
      obtain ⟨k, hk, rfl, hf, cs, hc, hcs⟩ := hrel
      have HF := hid hf
      have HC := hid hc
      by_cases hlt : k < n
      · obtain ⟨x, hx⟩ : ∃ x, wr.cell? ⟨g, k, none⟩ = some x := ⟨cs[k]'(by omega), by rw [blk_cell hc]; exact Array.getElem?_eq_getElem (by omega)⟩
        have hz := blk_frozen hc k
        clear hf hc
        go_wp2
        go_roundw
        case rel => exact ⟨k + 1, by omega, by go_num, HF.out.set _ _ (.inl (by simp)), _, blk_set HC.out _ _, by simpa using hcs⟩
        case measure => simp [intOf]; omega
      · have hk' : k = n := by omega
        subst hk'
        clear hf hc
        go_wp2
        go_end0
        exact ⟨⟨_, rfl⟩, HF.out⟩

set_option maxRecDepth 20000 in
set_option maxHeartbeats 1600000 in
theorem rdecode_c (w : World) {v : Value} {b : List Nat} (hr : Rd w v (bv b)) (hb : By b) (hl : b.length ≤ 140737488355328) : Calls Try.prog 12 #[v] w fun r w' => DecT w.heap.size b.length (firstL b) r w' ∧ Fr [] w w' := by
  obtain ⟨ao, cc, hv⟩ := hr.form
  rw [bv_len] at hv
  subst hv
  obtain ⟨W, hW⟩ : ∃ W, W = w.alloc (.cells #[.bool false, .slice none 0 0, .slice none 0 0] 25) := ⟨_, rfl⟩
  have F : Hid (Fr [] w W) := hid (by rw [hW]; exact (Fr.refl _ w).alloc _)
  have HS : Hid (W.heap.size = w.heap.size + 1) := hid (by rw [hW]; simp)
  have N : Hid (W.heap[w.heap.size]? = some (.cells #[.bool false, .slice none 0 0, .slice none 0 0] 25 (0, 0))) := hid (by rw [hW]; exact blk_new _ _)
  have FC := hid (rfirst_c W (hr.fr F.out) hb)
  have HE : Hid (∀ e, firstL b = .error e → 0 < e ∧ e < 100) := hid (fun e h => firstL_err2 hb h)
  have HK : Hid (∀ t k c, firstL b = .ok (t, k, c) → k ≤ b.length ∧ k ≤ 100000) := hid (fun t k c h => by
    obtain ⟨⟨_, _, _, k4, _⟩, k5⟩ := firstL_inv hb h
    omega)
  obtain ⟨L, hL⟩ : ∃ L, L = b.length := ⟨_, rfl⟩
  rw [← hL] at FC hl HK ⊢
  generalize firstL b = res at *
  clear hr hb hL
  go_enter Try.func12, Try.ntmps12
  go_upto_region 1 with fail
  rw [← hW]
  clear hW
  go_wp2_with fail
  refine FC.out.mono ?_
  rintro r w3 ⟨hT, f3⟩
  obtain ⟨l, a1, n1, c1, a2, n2, c2, rfl, hTl⟩ := hT.parts (fun e h => (HE.out e h).1)
  obtain ⟨w4, hw4⟩ : ∃ w4, w4 = w3.alloc (.cells #[.bool l, .slice a1 n1 c1, .slice a2 n2 c2] 25) := ⟨_, rfl⟩
  have F4 : Hid (Fr [] w w4) := hid (by rw [hw4]; exact (F.out.trans f3).alloc _)
  have N4 : Hid (w4.heap[w.heap.size]? = some (.cells #[.bool false, .slice none 0 0, .slice none 0 0] 25 (0, 0))) := hid (by have := f3.at N.out (by simp); rw [hw4, blk_old _ _ (blk_lt this)]; exact this)
  have Y4 : Hid (w4.heap[w3.heap.size]? = some (.cells #[.bool l, .slice a1 n1 c1, .slice a2 n2 c2] 25 (0, 0))) := hid (by rw [hw4]; exact blk_new _ _)
  have T4 : Hid (Tld w4 W.heap.size (fstE res) l (.slice a1 n1 c1) (.slice a2 n2 c2) res) := hid (by rw [hw4]; exact hTl.fr ((Fr.refl _ w3).alloc _))
  have y0 := blk_cell Y4.out 0
  have y1 := blk_cell Y4.out 1
  have y2 := blk_cell Y4.out 2
  have d0 := blk_cell N4.out 0
  have d1 := blk_cell N4.out 1
  have d2 := blk_cell N4.out 2
  have f0 := blk_frozen N4.out 0
  have f1 := blk_frozen N4.out 1
  have f2 := blk_frozen N4.out 2
  simp at y0 y1 y2 d0 d1 d2
  clear hT hTl f3 FC
  go_upto_region 2 with fail
  rw [← hw4]
  clear hw4
  rcases res with x | ⟨t, k, c⟩
  · have hx := HE.out x rfl
    have hz : ((x : Int) == 0) = false := beq_eq_false_iff_ne.2 (by omega)
    have e1 : fstE (.error x) = x := rfl
    have e2 : fstN (.error x) = 0 := rfl
    rw [e1, e2]
    clear e1 e2
    go_wp2
    have K := fin_z (a := .bool false) (b := .slice none 0 0) (c := .slice none 0 0) N4.out F4.out (Nat.le_refl _)
    refine bodyPost_ret (ret_ct rfl rfl (load_item K.1)) rfl ⟨?_, K.2⟩
    unfold DecT
    rfl
  · have hk := HK.out t k c rfl
    have e1 : fstE (.ok (t, k, c)) = 0 := rfl
    have e2 : fstN (.ok (t, k, c)) = k := rfl
    rw [e1, e2]
    clear e1 e2
    by_cases hkl : k < L
    · have hkl' : (k : Int) < (L : Int) := by omega
      have HKL := hid hkl
      go_wp2
      have K := fin_z (a := .bool false) (b := .slice none 0 0) (c := .slice none 0 0) N4.out F4.out (Nat.le_refl _)
      exact bodyPost_ret (ret_ct rfl rfl (load_item K.1)) rfl ⟨.inl ⟨HKL.out, rfl⟩, K.2⟩
    · have hkl' : ¬ (k : Int) < (L : Int) := by omega
      obtain ⟨t', k', c', e, i⟩ := T4.out.2 rfl
      cases e
      have I4 := hid (i.wide (show w.heap.size + 1 ≤ W.heap.size by rw [HS.out]; exact Nat.le_refl _) (Nat.le_refl _))
      have HKL : Hid (L ≤ k) := hid (by omega)
      clear i
      go_wp2
      have K := fin_z (a := .bool l) (b := .slice a1 n1 c1) (c := .slice a2 n2 c2) N4.out F4.out (Nat.le_refl _)
      exact bodyPost_ret (ret_ct rfl rfl (load_item K.1)) rfl ⟨.inr ⟨HKL.out, _, rfl, isF_out I4.out _ _ _⟩, K.2⟩
end Go.Proofs.Ytldhcdmoenoopaa
