/-
  What Decode of package rlp answers, once it is known what First does.
-/
import Derived.Test.YtldhcdmoenoopaaJ19
import Derived.Test.YtldhcdmoenoopaaJ13
import Derived.Lib.SlBytesConst
namespace Go.Proofs.Ytldhcdmoenoopaa
open Go.ChangeShapes Go.WideShapes Go.ChangeAt Go.RowKit

/-- What Decode tells. -/
def DecT (B n : Nat) (res : Except Nat (Tr 19 × Nat × Nat)) (r : Ending) (w' : World) : Prop := match res with
  | .error e => r = .returned (.tuple #[.agg #[.bool false, .slice none 0 0, .slice none 0 0], .int .i64 (e : Int)])
  | .ok (t, k, _) => (k < n ∧ r = .returned (.tuple #[.agg #[.bool false, .slice none 0 0, .slice none 0 0], .int .i64 42])) ∨ (n ≤ k ∧ ∃ v, r = .returned (.tuple #[v, .int .i64 0]) ∧ IsF w' B w'.heap.size 19 v t)

theorem fin_zi {w W : World} {N M : Nat} {a b c : Value} {T : TypeId} {n : Nat} {v : Value} {t : Tr n} (hM : w.heap.size ≤ M) (hv : IsF W M W.heap.size n v t) (hN : N < M) (A : Obj) :
    IsF ((((W.setCell ⟨N, 0, none⟩ a).setCell ⟨N, 1, none⟩ b).setCell ⟨N, 2, none⟩ c).alloc A) w.heap.size ((((W.setCell ⟨N, 0, none⟩ a).setCell ⟨N, 1, none⟩ b).setCell ⟨N, 2, none⟩ c).alloc A).heap.size n v t ∧ T = T := by
  refine ⟨(hv.step (w' := ((((W.setCell ⟨N, 0, none⟩ a).setCell ⟨N, 1, none⟩ b).setCell ⟨N, 2, none⟩ c).alloc A)) fun k hk hk2 => ?_).wide (by omega) (by simp [World.setCell]), rfl⟩
  rw [blk_old _ _ (by simpa [World.setCell] using hk2), blk_setne _ _ _ (by omega), blk_setne _ _ _ (by omega), blk_setne _ _ _ (by omega)]

set_option maxRecDepth 20000 in
set_option maxHeartbeats 800000 in
theorem decode_at (w : World) {ao : Option Addr} {n c : Nat} {res : Except Nat (Tr 19 × Nat × Nat)} (h : ∀ w1, Fr [] w w1 → Calls Try.prog 14 #[.slice ao n c] w1 fun r w' => FirstT w1.heap.size res r w' ∧ Fr [] w1 w') (hk : ∀ t k c', res = .ok (t, k, c') → k ≤ 100000) (he : ∀ e, res = .error e → 0 < e ∧ e < 100) :
    Calls Try.prog 11 #[.slice ao n c] w fun r w' => DecT w.heap.size n res r w' ∧ Fr [] w w' := by
  have HH := hid h
  clear h
  have F0 := hid ((Fr.refl [] w).alloc (.cells #[.bool false, .slice none 0 0, .slice none 0 0] 25))
  have HN := hid (blk_new w (.cells #[.bool false, .slice none 0 0, .slice none 0 0] 25))
  rcases res with x | ⟨t, k, c'⟩
  · have hx := he x rfl
    have hz : ((x : Int) == 0) = false := beq_eq_false_iff_ne.2 (by omega)
    unfold DecT
    go_enter Try.func11, Try.ntmps11
    go_wp2_with fail
    refine (HH.out _ F0.out).mono ?_
    rintro r w1 ⟨hT, f1⟩
    obtain rfl : r = _ := hT
    have hbk := f1.at HN.out (by simp)
    have F1 := hid (F0.out.trans f1)
    have hd0 := blk_cell hbk 0
    have hd1 := blk_cell hbk 1
    have hd2 := blk_cell hbk 2
    have hf0 := blk_frozen hbk 0
    have hf1 := blk_frozen hbk 1
    have hf2 := blk_frozen hbk 2
    simp at hd0 hd1 hd2
    have hlt := blk_lt hbk
    have HBK := hid hbk
    clear f1 hbk
    go_wp2
    have K := fin_z (a := .bool false) (b := .slice none 0 0) (c := .slice none 0 0) HBK.out F1.out (Nat.le_refl _)
    exact bodyPost_ret (ret_ct rfl rfl (load_item (by rw [blk_old _ _ (blk_lt K.1)]; exact K.1))) rfl ⟨rfl, K.2.alloc _⟩
  · have hk1 := hk t k c' rfl
    unfold DecT
    by_cases hkn : k < n
    all_goals go_enter Try.func11, Try.ntmps11
    all_goals go_wp2_with fail
    all_goals refine (HH.out _ F0.out).mono ?_
    · rintro r w1 ⟨⟨v, rfl, hv⟩, f1⟩
      obtain ⟨l, a1, n1, c1, a2, n2, c2, rfl⟩ := hv.isV.agg
      have hbk := f1.at HN.out (by simp)
      have F1 := hid (F0.out.trans f1)
      have hd0 := blk_cell hbk 0
      have hd1 := blk_cell hbk 1
      have hd2 := blk_cell hbk 2
      have hf0 := blk_frozen hbk 0
      have hf1 := blk_frozen hbk 1
      have hf2 := blk_frozen hbk 2
      simp at hd0 hd1 hd2
      have hlt := blk_lt hbk
      have HBK := hid hbk
      clear f1 hbk hv
      go_wp2
      have K := fin_z (a := .bool false) (b := .slice none 0 0) (c := .slice none 0 0) HBK.out F1.out (Nat.le_refl _)
      exact bodyPost_ret (ret_ct rfl rfl (load_item (by rw [blk_old _ _ (blk_lt K.1)]; exact K.1))) rfl ⟨.inl ⟨hkn, rfl⟩, K.2.alloc _⟩
    · rintro r w1 ⟨⟨v, rfl, hv⟩, f1⟩
      obtain ⟨l, a1, n1, c1, a2, n2, c2, rfl⟩ := hv.isV.agg
      have hbk := f1.at HN.out (by simp)
      have F1 := hid (F0.out.trans f1)
      have hd0 := blk_cell hbk 0
      have hd1 := blk_cell hbk 1
      have hd2 := blk_cell hbk 2
      have hf0 := blk_frozen hbk 0
      have hf1 := blk_frozen hbk 1
      have hf2 := blk_frozen hbk 2
      simp at hd0 hd1 hd2
      have hlt := blk_lt hbk
      have HBK := hid hbk
      have HV := hid hv
      clear f1 hbk hv
      go_wp2
      have K := fin_z (a := .bool l) (b := .slice a1 n1 c1) (c := .slice a2 n2 c2) HBK.out F1.out (Nat.le_refl _)
      exact bodyPost_ret (ret_ct rfl rfl (load_item (by rw [blk_old _ _ (blk_lt K.1)]; exact K.1))) rfl ⟨.inr ⟨by omega, _, rfl, (fin_zi (w := w) (T := 0) (M := (w.alloc (.cells #[.bool false, .slice none 0 0, .slice none 0 0] 25)).heap.size) (by simp) HV.out (by simp) _).1⟩, K.2.alloc _⟩
end Go.Proofs.Ytldhcdmoenoopaa
namespace Go.Proofs.Ytldhcdmoenoopaa
open Go.ChangeShapes Go.WideShapes Go.ChangeAt Go.RowKit

theorem IsV.str {n : Nat} {w : World} {bs : Value} {b : List Nat} (h : Rd w bs (bv b)) (hb : By b) (hl : b.length ≤ 140737488355328) (l : Bool) : IsV w (n + 1) (.agg #[.bool l, bs, .slice none 0 0]) (mkT l b []) :=
  ⟨bs, none, 0, rfl, h, hb, hl, Nat.le_refl _, Nat.zero_le _, fun h => by cases h⟩
theorem Rd.lit (w : World) (ns : List Nat) {B : Nat} (hB : B = w.heap.size) {cs : Array Value} (hc : cs.toList = bv ns) {n c : Nat} (hn : n = ns.length) (hcc : n ≤ c) : Rd (w.alloc (.cells cs 5)) (.slice (some ⟨B, 0, none⟩) n c) (bv ns) := by
  subst hn
  refine .inr ⟨_, _, by rw [bv_len], by rw [bv_len]; exact hcc, fun j u hj => ?_⟩
  rw [Addr.add_lit, Nat.zero_add, blk_cell (new_at w _ hB), ← Array.getElem?_toList, hc]
  exact hj
theorem reads_bad {w : World} {v : Value} {b : List Nat} (hr : Rd w v (bv b)) (hb : By b) (h0 : b ≠ []) (hl : b.length ≤ 100000) {x : Nat} (hx : hdr b = .error x) (hx0 : x ≠ 0) : Reads w v (.error x) := by
  intro w1 T g e k C f hg
  refine (read_bad w1 C (hr.fr f) hb h0 hl (d := 1) (by omega) (by omega) hx hx0).mono ?_
  rintro r w' ⟨h1, h2⟩
  exact ⟨h1, h2⟩
theorem encE_dog : encE (n := 19) (mkT false [100, 111, 103] []) = 0 := by decide
theorem encB_dog : encB (n := 19) (mkT false [100, 111, 103] []) = [131, 100, 111, 103] := by decide
theorem hdr_bad : hdr [129, 5] = .error 40 := by rfl
theorem str_dog : strOf [131, 100, 111, 103] = ⟨#[131, 100, 111, 103]⟩ := by decide

set_option maxRecDepth 20000 in
set_option maxHeartbeats 800000 in
theorem known_c (w : World) : Calls Try.prog 6 #[] w fun e w' => e = .returned (.bool true) ∧ Fr [] w w' := by
  have kc := fun (w : World) (C : Array Value) (n c : Nat) => Lib.run_convert_bytes_const (P := Try.prog) w 22 5 C n c Try.underlying22 Try.underlying5
  have R0 : Hid (Rd (w.alloc (.cells #[.int .u8 100, .int .u8 111, .int .u8 103] 5 (3, 4))) (.slice (some ⟨w.heap.size, 0, none⟩) 3 3) (bv [100, 111, 103])) := by
    refine .inr ⟨_, _, rfl, by simp [bv], fun j u hj => ?_⟩
    rw [Addr.add_lit, Nat.zero_add, World.cell?_alloc_mark]
    rw [← Array.getElem?_toList]
    exact hj
  have F0 := hid ((Fr.refl [] w).alloc (.cells #[.int .u8 100, .int .u8 111, .int .u8 103] 5 (3, 4)))
  go_enter Try.func6, Try.ntmps6
  go_wp2_with fail
  refine (encode_c _ (n := 19) (IsV.str (n := 18) R0.out (by unfold By; decide) (by simp) false) (by omega) (by decide) (by decide)).mono ?_
  rintro e w1 ⟨v1, rfl, o1, f1⟩
  rw [encB_dog] at o1
  rw [encE_dog]
  replace o1 : w1.ownsRow _ 5 1 v1 4 (bv [131, 100, 111, 103]) := o1
  obtain ⟨a1, c1, rfl, _⟩ := ownsRow_slice o1
  have P1 := hid (Rd.ownB (ns := [131, 100, 111, 103]) o1)
  have F1 := hid (F0.out.trans f1)
  clear o1 f1
  have R2 := hid (Rd.lit w1 [129, 5] rfl (cs := #[.int .u8 129, .int .u8 5]) rfl (n := 2) (c := 2) rfl (Nat.le_refl _))
  have F2 := hid (F1.out.alloc (.cells #[.int .u8 129, .int .u8 5] 5))
  clear kc
  go_wp2_with fail
  refine (decode_at _ (res := .error 40) (fun w2 f2 => first_at w2 (reads_bad (R2.out.fr f2) (by unfold By; decide) (by simp) (by simp) hdr_bad (by omega)) (by omega) (by omega)) (fun _ _ _ h => by cases h) (fun e h => by cases h; omega)).mono ?_
  rintro e w2 ⟨hD, f2⟩
  obtain rfl : e = _ := hD
  have P2 := hid (P1.out.fr (((Fr.refl [] w1).alloc _).trans f2))
  have F3 := hid (F2.out.trans f2)
  clear f2
  have hcv := run_conv (P2.out.fr ((Fr.refl [] w2).alloc (.cells #[.bool false, .slice none 0 0, .slice none 0 0] 25)))
  rw [str_dog] at hcv
  go_wp2
  go_ret
  exact ⟨rfl, F3.out.alloc _⟩
end Go.Proofs.Ytldhcdmoenoopaa
namespace Go.Proofs.Ytldhcdmoenoopaa
open Go.ChangeShapes Go.WideShapes Go.ChangeAt Go.RowKit

set_option maxHeartbeats 400000 in
theorem bytesEqual_c {w : World} {v1 v2 : Value} {a b : List Nat} (h1 : Rd w v1 (bv a)) (h2 : Rd w v2 (bv b)) (ha : By a) (hb : By b) :
    Calls Try.prog 29 #[v1, v2] w fun e w' => e = .returned (.bool (decide (a = b))) ∧ w' = w := by
  have e1 := run_conv h1
  have e2 := run_conv h2
  obtain ⟨a1, c1, rfl⟩ := h1.form
  obtain ⟨a2, c2, rfl⟩ := h2.form
  by_cases hab : a = b
  · subst hab
    have e3 := ba_beq (strOf a)
    rw [decide_eq_true rfl]
    clear h1 h2
    go_enter Try.func29, Try.ntmps29
    go_wp2
    go_ret
    exact ⟨rfl, rfl⟩
  · have e3 : ((strOf a).toList == (strOf b).toList) = false := beq_eq_false_iff_ne.2 fun h => hab (strOf_inj ha hb (by
      rw [ByteArray.toList_eq, ByteArray.toList_eq] at h
      exact ByteArray.ext (Array.toList_inj.1 h)))
    rw [decide_eq_false hab]
    clear h1 h2 hab
    go_enter Try.func29, Try.ntmps29
    go_wp2
    go_ret
    exact ⟨by simp, rfl⟩

theorem encB_by {n : Nat} {t : Tr n} (h : byT n t) : By (encB t) := by
  unfold encB
  split
  · exact enc_by n t h
  · intro u hu; simp at hu
theorem encE_le {n : Nat} (t : Tr n) : encE t ≤ 100 := by
  have := bad_le n 1 t
  unfold encE; split <;> (try split) <;> omega

set_option maxRecDepth 20000 in
set_option maxHeartbeats 800000 in
theorem equal_c (w : World) {v1 v2 : Value} {t1 t2 : Tr 19} (h1 : IsV w 19 v1 t1) (h2 : IsV w 19 v2 t2) (hc1 : cnt 19 t1 ≤ 4096) (he1 : (enc 19 t1).length ≤ 1000000) (hc2 : cnt 19 t2 ≤ 4096) (he2 : (enc 19 t2).length ≤ 1000000) :
    Calls Try.prog 18 #[v1, v2] w fun r w' => r = .returned (.bool (decide (encE t1 = 0 ∧ encE t2 = 0 ∧ encB t1 = encB t2))) ∧ Fr [] w w' := by
  obtain ⟨l1, x1, x2, x3, x4, x5, x6, rfl⟩ := h1.agg
  obtain ⟨l2, y1, y2, y3, y4, y5, y6, rfl⟩ := h2.agg
  have F0 := hid (((Fr.refl [] w).alloc (.cells #[.bool l1, .slice x1 x2 x3, .slice x4 x5 x6] 25)).alloc (.cells #[.bool l2, .slice y1 y2 y3, .slice y4 y5 y6] 25))
  have hA := hid (show (((w.alloc (.cells #[.bool l1, .slice x1 x2 x3, .slice x4 x5 x6] 25)).alloc (.cells #[.bool l2, .slice y1 y2 y3, .slice y4 y5 y6] 25)).heap[w.heap.size + 1]? = some (.cells #[.bool l2, .slice y1 y2 y3, .slice y4 y5 y6] 25 (0, 0))) from new_at _ _ (by simp))
  have B1 := hid (encB_by h1.byT)
  have B2 := hid (encB_by h2.byT)
  have V1 := hid (h1.fr F0.out)
  have V2 := hid (h2.fr F0.out)
  have hN1 := encE_le t1
  have hN2 := encE_le t2
  obtain ⟨N1, e1⟩ : ∃ N, N = encE t1 := ⟨_, rfl⟩
  obtain ⟨N2, e2⟩ : ∃ N, N = encE t2 := ⟨_, rfl⟩
  have HE1 := hid e1
  have HE2 := hid e2
  rw [← e1] at hN1 ⊢
  rw [← e2] at hN2 ⊢
  obtain ⟨D, hD⟩ : ∃ D, D = decide (N1 = 0 ∧ N2 = 0 ∧ encB t1 = encB t2) := ⟨_, rfl⟩
  rw [← hD]
  have HD := hid hD
  have C1 := hid (And.intro hc1 he1)
  have C2 := hid (And.intro hc2 he2)
  clear h1 h2 hc1 he1 hc2 he2 e1 e2 hD
  go_enter Try.func18, Try.ntmps18
  go_wp2_with fail
  refine (encode_c _ V1.out (by omega) C1.out.1 C1.out.2).mono ?_
  rintro e w1 ⟨v1, rfl, o1, f1⟩
  rw [← HE1.out]
  obtain ⟨a1, c1, rfl, _⟩ := ownsRow_slice o1
  have F1 := hid (F0.out.trans f1)
  have hbk := f1.at hA.out (by simp)
  have m0 := blk_cell hbk 0
  have m1 := blk_cell hbk 1
  have m2 := blk_cell hbk 2
  simp at m0 m1 m2
  have W2 := hid (V2.out.fr f1)
  have R1 := hid (Rd.ownB o1)
  clear o1 f1 hbk
  go_wp2_with fail
  refine (encode_c _ W2.out (by omega) C2.out.1 C2.out.2).mono ?_
  rintro e w2 ⟨v2, rfl, o2, f2⟩
  rw [← HE2.out]
  obtain ⟨a2, c2, rfl, _⟩ := ownsRow_slice o2
  have F2 := hid (F1.out.trans f2)
  have R2 := hid (Rd.ownB o2)
  have R1' := hid (R1.out.fr f2)
  clear o2 f2 m0 m1 m2
  by_cases z1 : N1 = 0
  · subst z1
    by_cases z2 : N2 = 0
    · subst z2
      have hd : Hid (D = decide (encB t1 = encB t2)) := by unfold Hid; rw [HD.out]; simp
      go_wp2_with fail
      refine (bytesEqual_c R1'.out R2.out B1.out B2.out).mono ?_
      rintro e w3 ⟨rfl, rfl⟩
      rw [← hd.out]
      go_wp2
      go_ret
      exact ⟨by simp, F2.out⟩
    · have hd : Hid (D = false) := by unfold Hid; rw [HD.out]; exact decide_eq_false (by omega)
      go_wp2
      go_ret
      exact ⟨by rw [hd.out]; rfl, F2.out⟩
  · have hd : Hid (D = false) := by unfold Hid; rw [HD.out]; exact decide_eq_false (by omega)
    go_wp2
    go_ret
    exact ⟨by rw [hd.out]; rfl, F2.out⟩
end Go.Proofs.Ytldhcdmoenoopaa
