/-
  What write of package rlp answers for lists, and so for all items.
-/
import Derived.Test.YtbpnnchapfpamaaWr
namespace Go.Proofs.Ytbpnnchapfpamaa
open Go.ChangeShapes Go.WideShapes Go.ChangeAt Go.RowKit

theorem flatMap_snoc {α : Type} (f : α → List Nat) {ks : List α} {j : Nat} {k : α} (h : ks[j]? = some k) : (ks.take (j + 1)).flatMap f = (ks.take j).flatMap f ++ f k := by
  rw [List.take_add_one, h]; simp [List.flatMap_append]

set_option maxRecDepth 20000 in
set_option maxHeartbeats 800000 in
theorem write_list (w0 w : World) (hf : Fr [] w0 w) {base n : Nat} (hb0 : w0.heap.size ≤ base) (hbw : base ≤ w.heap.size) {vb : Value} {xs : List Nat} (hx : w.ownsRow base 5 1 vb xs.length (bv xs)) {bs : Value} (hr : Rd w0 bs (bv [])) {ks : List (Tr n)} {ka : Option Addr} {kc : Nat} (hkl : ks.length ≤ 140737488355328)
    (hks : 0 < ks.length → ∃ kb ko, ka = some ⟨kb, ko, none⟩ ∧ ∀ (j : Nat) (x : Tr n), ks[j]? = some x → ∃ l bs' is', w0.cell? ⟨kb, ko + j * 3, none⟩ = some (.bool l) ∧ w0.cell? ⟨kb, ko + j * 3 + 1, none⟩ = some bs' ∧ w0.cell? ⟨kb, ko + j * 3 + 2, none⟩ = some is' ∧ IsV w0 n (.agg #[.bool l, bs', is']) x)
    (ih : ∀ x ∈ ks, ∀ (w : World) (v vb : Value) (ys : List Nat), IsV w0 n v x → Fr [] w0 w → base ≤ w.heap.size → w.ownsRow base 5 1 vb ys.length (bv ys) → ys.length + (enc n x).length ≤ 1000000 → Calls Try.prog 22 #[vb, v] w fun r w' => ∃ v', r = .returned v' ∧ w'.ownsRow base 5 1 v' (ys ++ enc n x).length (bv (ys ++ enc n x)) ∧ Fr [] w0 w' ∧ Keeps w w')
    (hl : xs.length + (ks.flatMap (enc n)).length ≤ 1000000) :
    Calls Try.prog 22 #[vb, .agg #[.bool true, bs, .slice ka ks.length kc]] w fun r w' => ∃ v', r = .returned v' ∧ w'.ownsRow base 5 1 v' (xs ++ (headL 192 (ks.flatMap (enc n)).length ++ ks.flatMap (enc n))).length (bv (xs ++ (headL 192 (ks.flatMap (enc n)).length ++ ks.flatMap (enc n)))) ∧ Fr [] w0 w' ∧ Keeps w w' := by
  obtain ⟨ba, bc, hbs⟩ := hr.form
  rw [bv_len, List.length_nil] at hbs
  subst hbs
  obtain ⟨ao, c, hv, hc⟩ := ownsRow_slice hx
  subst hv
  obtain ⟨L, hL⟩ : ∃ L, L = ks.length := ⟨_, rfl⟩
  rw [← hL] at hkl hks ⊢
  have HX := hid (ownsRow_fr hx ((Fr.refl [] w).alloc (.cells #[.bool true, .slice ba 0 bc, .slice ka L kc] 25)))
  have HN := hid (blk_new w (.cells #[.bool true, .slice ba 0 bc, .slice ka L kc] 25))
  have F0 := hid (hf.alloc (.cells #[.bool true, .slice ba 0 bc, .slice ka L kc] 25))
  have K0 := hid (Keeps.alloc w (.cells #[.bool true, .slice ba 0 bc, .slice ka L kc] 25))
  have R0 := hid (hr.fr F0.out)
  have HK := hid hks
  have IH := hid ih
  have hbw1 : base ≤ (w.alloc (.cells #[.bool true, .slice ba 0 bc, .slice ka L kc] 25)).heap.size := by simp; omega
  obtain ⟨P, hP⟩ : ∃ P, P = ks.flatMap (enc n) := ⟨_, rfl⟩
  rw [← hP] at hl ⊢
  obtain ⟨S, hS⟩ : ∃ S, S = xs ++ (headL 192 P.length ++ P) := ⟨_, rfl⟩
  rw [← hS]
  have HS := hid hS
  have HP := hid hP
  have HL := hid hL
  clear hf hx hr hS hks ih hP hL
  go_enter Try.func22, Try.ntmps22
  go_wp2_with (
    at_builtin
    refine wpList_append_rd rfl _ _ rfl base hbw1 _ _ _ rfl HX.out _ _ rfl R0.out bv_one (by rw [bv_len, List.length_nil]; omega) ?_
    intro v1 w1 o1 g1 o3
    rw [bv_len, List.length_nil, Nat.add_zero, ← bv_append, List.append_nil] at o1
    have g1' : (w.alloc (.cells #[.bool true, .slice ba 0 bc, .slice ka L kc] 25)).grownBy w1 (Value.slice ao xs.length c).ownBlock := g1
    have O1 := hid o1
    have F1 := hid (F0.out.grew HX.out hb0 g1')
    have K1 := hid (Keeps.grown HX.out g1')
    have KK := hid (K0.out.trans K1.out)
    have hbk := K1.out.2 _ _ HN.out (fun cs e => by cases e)
    have hbw2 : base ≤ w1.heap.size := Nat.le_trans hbw1 g1'.size
    have HBK := hid hbk
    have hb2' := blk_cell hbk 2
    simp at hb2'
    clear o1 g1 g1' o3 hbk)
  go_loopw [0, 17] (fun v0 v17 wr => ∃ j : Nat, j ≤ L ∧ v17 = .int .i64 (j : Int) ∧ wr.ownsRow base 5 1 v0 (xs ++ (ks.take j).flatMap (enc n)).length (bv (xs ++ (ks.take j).flatMap (enc n))) ∧ Fr [] w0 wr ∧ Keeps w1 wr ∧ base ≤ wr.heap.size) (fun _ v17 _ => L - (intOf v17).toNat)
  case atStart => exact ⟨0, by omega, rfl, by rw [List.take_zero, List.flatMap_nil, List.append_nil]; exact O1.out, F1.out, Keeps.refl _, hbw2⟩
  case round =>
    obtain ⟨j, hj, rfl, ho, hfr, hkp, hbr⟩ := hrel
    have HO := hid ho
    have HFR := hid hfr
    have HKP := hid hkp
    clear ho hfr hkp
    by_cases hjl : j < L
    · obtain ⟨x, hx⟩ : ∃ x, ks[j]? = some x := ⟨_, List.getElem?_eq_getElem (by rw [← HL.out]; exact hjl)⟩
      have hxm : x ∈ ks := List.mem_of_getElem? hx
      obtain ⟨kb, ko, hka, hel⟩ := HK.out (by omega)
      subst hka
      obtain ⟨l, bs', is', e1, e2, e3, e4⟩ := hel j x hx
      obtain ⟨x1, x2, x3, x4, x5, x6, rfl, rfl⟩ := e4.cells
      have c1 := cell_fr e1 HFR.out
      have c2 := cell_fr e2 HFR.out
      have c3 := cell_fr e3 HFR.out
      have FA := hid (HFR.out.alloc (.cells #[.bool l, .slice x1 x2 x3, .slice x4 x5 x6] 25))
      have KA := hid (HKP.out.trans (Keeps.alloc _ (.cells #[.bool l, .slice x1 x2 x3, .slice x4 x5 x6] 25)))
      have OA := hid (ownsRow_fr HO.out ((Fr.refl [] wr).alloc (.cells #[.bool l, .slice x1 x2 x3, .slice x4 x5 x6] 25)))
      have hbr1 : base ≤ (wr.alloc (.cells #[.bool l, .slice x1 x2 x3, .slice x4 x5 x6] 25)).heap.size := by simp; omega
      have E4 := hid e4
      have hsn := flatMap_snoc (enc n) hx
      have hle := flatMap_take_le (enc n) ks (j + 1)
      have hlen : (xs ++ (ks.take j).flatMap (enc n)).length + (enc n x).length ≤ 1000000 := by
        rw [hsn, List.length_append, ← HP.out] at hle
        rw [List.length_append]; omega
      have HSN := hid hsn
      have HLEN := hid hlen
      clear e1 e2 e3 e4 hel hsn hle hlen
      go_wp2_with fail
      refine (IH.out x hxm _ _ _ _ E4.out FA.out hbr1 OA.out HLEN.out).mono ?_
      rintro r w2 ⟨v2, rfl, o2, f2, k2⟩
      rw [List.append_assoc, ← HSN.out] at o2
      have O2 := hid o2
      have F2 := hid f2
      have K2 := hid (KA.out.trans k2)
      have hbr2 : Hid (base ≤ w2.heap.size) := Nat.le_trans hbr1 k2.1
      clear o2 f2 k2
      go_wp2_with fail
      go_roundw
      case rel => go_light; exact ⟨j + 1, by omega, by go_num, O2.out, F2.out, K2.out, hbr2.out⟩
      case measure => go_light; simp [intOf]; omega
    · have hjL : j = L := by omega
      subst hjL
      have ho := HO.out
      rw [List.take_of_length_le (by rw [HL.out]; exact Nat.le_refl _), ← HP.out, List.length_append] at ho
      have O1' := hid ho
      have hbk := HKP.out.2 _ _ HBK.out (fun cs e => by cases e)
      have hd0 := blk_cell hbk 0
      have hd1 := blk_cell hbk 1
      have hd2 := blk_cell hbk 2
      simp at hd0 hd1 hd2
      have hh := headL_len 192 P.length
      have KK2 := hid (KK.out.trans HKP.out)
      obtain ⟨a1, c1, hv1, hc1⟩ := ownsRow_slice ho
      subst hv1
      clear ho hbk HO
      go_wp2_with fail
      rw [show (xs.length : Int) + (P.length : Int) - (xs.length : Int) = (P.length : Int) by omega]
      refine (head_list wr _ _ P.length (by omega)).mono ?_
      rintro r w2 ⟨v2, rfl, o2, f2⟩
      have O2 := hid o2
      have F2 := hid f2
      obtain ⟨a2, c2, hv2, _⟩ := ownsRow_slice o2
      subst hv2
      clear o2 f2
      go_wp2_with fail
      refine (insert_tail (w := w) hb0 hbr O1'.out rfl HFR.out KK2.out O2.out F2.out (by omega)).mono ?_
      rintro r w3 ⟨v3, rfl, o3, f3, k3⟩
      rw [← HS.out] at o3
      have O3 := hid o3
      have F3 := hid f3
      have K3 := hid k3
      clear o3 f3 k3
      go_wp2
      go_ret
      exact ⟨v3, rfl, O3.out, F3.out, K3.out⟩

/-- An item that may be encoded is written behind what there is. -/
theorem write_c {base : Nat} : ∀ (n : Nat) (w0 : World) (t : Tr n) (d : Nat) (w : World) (v vb : Value) (xs : List Nat), bad n d t = 0 → w0.heap.size ≤ base → IsV w0 n v t → Fr [] w0 w → base ≤ w.heap.size → w.ownsRow base 5 1 vb xs.length (bv xs) → xs.length + (enc n t).length ≤ 1000000 →
    Calls Try.prog 22 #[vb, v] w fun r w' => ∃ v', r = .returned v' ∧ w'.ownsRow base 5 1 v' (xs ++ enc n t).length (bv (xs ++ enc n t)) ∧ Fr [] w0 w' ∧ Keeps w w'
  | 0, w0, t, d, w, v, vb, xs, hbad, _, _, _, _, _, _ => by simp [bad] at hbad
  | n + 1, w0, t, d, w, v, vb, xs, hbad, hb0, hv, hf, hbw, hx, hl => by
    obtain ⟨bs, ka, kc, rfl, h2, h3, h4, h5, h5', h6⟩ := hv
    rcases (bad_cases hbad).2 with ⟨g1, g2, g3⟩ | ⟨g1, g2⟩
    · rw [g2] at h2
      rw [enc_list g1, List.length_append] at hl
      rw [enc_list g1, g1]
      refine write_list w0 w hf hb0 hbw hx h2 (by omega) h6 (fun x hxm w2 v2 vb2 ys hv2 hf2 hb2 hx2 hl2 => write_c n w0 x (d + 1) w2 v2 vb2 ys (g3 x hxm) hb0 hv2 hf2 hb2 hx2 hl2) (by omega)
    · rw [enc_str g1] at hl ⊢
      rw [g1, g2]
      have := strL_len (tB t)
      exact write_str w0 w hf hb0 hbw hx h2 h3 ka kc (by omega)
end Go.Proofs.Ytbpnnchapfpamaa
