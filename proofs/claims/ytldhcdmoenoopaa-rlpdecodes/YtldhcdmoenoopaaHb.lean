/-
  The document's bytes of an item.
-/
import Derived.Test.YtldhcdmoenoopaaHa
import Derived.Test.YtldhcdmoenoopaaCt
namespace Go.Proofs.Ytldhcdmoenoopaa
open Go.ChangeShapes Go.WideShapes Go.ChangeAt Go.RowKit

theorem flat_take {α : Type} (f : α → List Nat) {ks : List α} {j : Nat} {k : α} (h : ks[j]? = some k) : (ks.take (j + 1)).flatMap f = (ks.take j).flatMap f ++ f k := by
  rw [List.take_add_one, h]; simp
theorem flat_le {α : Type} (f : α → List Nat) (ks : List α) (j : Nat) : ((ks.take j).flatMap f).length ≤ (ks.flatMap f).length := by
  have := congrArg (fun l => (l.flatMap f).length) (List.take_append_drop j ks)
  simp only [List.flatMap_append, List.length_append] at this
  omega

theorem flat_mem {α : Type} (f : α → List Nat) {ks : List α} {x : α} (h : x ∈ ks) : (f x).length ≤ (ks.flatMap f).length := by
  obtain ⟨a, b, rfl⟩ := List.append_of_mem h
  simp only [List.flatMap_append, List.flatMap_cons, List.length_append]
  omega

set_option maxRecDepth 20000 in
set_option maxHeartbeats 800000 in
theorem rof_str (w : World) {bs is : Value} {b : List Nat} (hr : Rd w bs (bv b)) (hb : By b) (hl : b.length ≤ 1000000) :
    Calls Try.prog 23 #[.agg #[.bool false, bs, is]] w fun e w' => ∃ v', e = .returned v' ∧ w'.ownsRow w.heap.size 5 1 v' (strL b).length (bv (strL b)) ∧ Fr [] w w' := by
  have F0 := hid ((Fr.refl [] w).alloc (.cells #[.bool false, bs, is] 25))
  have BC := hid (rbytes_c (w.alloc (.cells #[.bool false, bs, is] 25)) (hr.fr F0.out) hb hl)
  obtain ⟨a, c, hv⟩ := hr.form
  rw [bv_len] at hv
  subst hv
  generalize b.length = L at *
  clear hr
  go_enter Try.func23, Try.ntmps23
  go_wp2_with fail
  refine BC.out.mono ?_
  rintro e w1 ⟨v1, rfl, o1, f1⟩
  have O1 := hid (ownsRow_base o1 F0.out.size)
  have F1 := hid (F0.out.trans f1)
  clear o1 f1
  go_wp2
  go_ret
  exact ⟨v1, rfl, O1.out, F1.out⟩

set_option maxRecDepth 20000 in
set_option maxHeartbeats 1600000 in
theorem rof_list (w : World) {n : Nat} {ba ka : Option Addr} {bl bc kc : Nat} {ks : List (Tr n)} (hkl : ks.length ≤ kc) (hk : ks.length ≤ 140737488355328) (he : (ks.flatMap (enc n)).length ≤ 65000)
    (hel : 0 < ks.length → ∃ kb ko, ka = some ⟨kb, ko, none⟩ ∧ ∀ (j : Nat) (x : Tr n), ks[j]? = some x → ∃ l bs' is', w.cell? ⟨kb, ko + j * 3, none⟩ = some (.bool l) ∧ w.cell? ⟨kb, ko + j * 3 + 1, none⟩ = some bs' ∧ w.cell? ⟨kb, ko + j * 3 + 2, none⟩ = some is' ∧ IsV w n (.agg #[.bool l, bs', is']) x)
    (ih : ∀ x ∈ ks, ∀ (w1 : World) (v1 : Value), IsV w1 n v1 x → Calls Try.prog 23 #[v1] w1 fun e w' => ∃ v', e = .returned v' ∧ w'.ownsRow w1.heap.size 5 1 v' (enc n x).length (bv (enc n x)) ∧ Fr [] w1 w') :
    Calls Try.prog 23 #[.agg #[.bool true, .slice ba bl bc, .slice ka ks.length kc]] w fun e w' => ∃ v', e = .returned v' ∧ w'.ownsRow w.heap.size 5 1 v' (headL 192 (ks.flatMap (enc n)).length ++ ks.flatMap (enc n)).length (bv (headL 192 (ks.flatMap (enc n)).length ++ ks.flatMap (enc n))) ∧ Fr [] w w' := by
  obtain ⟨L, hL⟩ : ∃ L, L = ks.length := ⟨_, rfl⟩
  rw [← hL] at hkl hk hel ⊢
  obtain ⟨wA, hwA⟩ : ∃ wA, wA = w.alloc (.cells #[.bool true, .slice ba bl bc, .slice ka L kc] 25) := ⟨_, rfl⟩
  have FA : Hid (Fr [] w wA) := hid (by rw [hwA]; exact (Fr.refl [] w).alloc _)
  have hA : Hid (wA.heap[w.heap.size]? = some (.cells #[.bool true, .slice ba bl bc, .slice ka L kc] 25 (0, 0))) := hid (by rw [hwA]; exact blk_new _ _)
  have HEL := hid hel
  have IH := hid ih
  have HL := hid hL
  have HE := hid (fun j => flat_le (enc n) ks j)
  obtain ⟨A, hA0⟩ : ∃ A, A = ks.flatMap (enc n) := ⟨_, rfl⟩
  have HA0 := hid hA0
  rw [← hA0] at he ⊢
  have HEA := hid he
  have POST : ∃ P : Value → World → Prop, P = fun v' w' => w'.ownsRow w.heap.size 5 1 v' (headL 192 A.length ++ A).length (bv (headL 192 A.length ++ A)) := ⟨_, rfl⟩
  obtain ⟨P, hP⟩ := POST
  have hPP : ∀ v' w', (w'.ownsRow w.heap.size 5 1 v' (headL 192 A.length ++ A).length (bv (headL 192 A.length ++ A))) ↔ P v' w' := fun v' w' => by rw [hP]
  have HP := hid hPP
  simp only [hPP]
  clear hel ih hL hA0 he hP hPP
  go_enter Try.func23, Try.ntmps23
  go_wp2_with fail
  rw [← hwA]
  clear hwA
  go_loopw [3, 4] (fun v3 v4 wr => ∃ i : Nat, i ≤ L ∧ v4 = .int .i64 (i : Int) ∧ wr.ownsRow wA.heap.size 5 1 v3 ((ks.take i).flatMap (enc n)).length (bv ((ks.take i).flatMap (enc n))) ∧ Fr [] wA wr) (fun _ v4 _ => L - (intOf v4).toNat)
  case atStart => exact ⟨0, by omega, rfl, World.ownsRow_nil _ _ _ _, Fr.refl _ _⟩
  case round =>
    obtain ⟨i, hi, rfl, ho, hf⟩ := hrel
    have HF := hid hf
    have m2 := blk_cell (hf.at hA.out (by simp)) 2
    simp at m2
    obtain ⟨p, hp⟩ : ∃ p, p = ((ks.take i).flatMap (enc n)).length := ⟨_, rfl⟩
    have OR := hid ho
    rw [← hp] at ho
    obtain ⟨a3, c3, rfl, _⟩ := ownsRow_slice ho
    have RR := hid (Rd.ownN ho hp)
    have hpl : p ≤ 65000 := by
      have := HE.out i
      rw [hp]
      have h2 := HEA.out
      rw [HA0.out] at h2
      omega
    have HPP := hid hp
    clear ho hf hp
    by_cases h1 : i < L
    · obtain ⟨x, hx⟩ : ∃ x, ks[i]? = some x := ⟨_, List.getElem?_eq_getElem (by rw [← HL.out]; exact h1)⟩
      have hxm : Hid (x ∈ ks) := List.mem_of_getElem? hx
      obtain ⟨kb, ko, hka, hl2⟩ := HEL.out (by omega)
      subst hka
      obtain ⟨l1, b1', i1', p1, p2, p3, p4⟩ := hl2 i x hx
      obtain ⟨x1, x2, x3, x4, x5, x6, rfl, rfl⟩ := p4.cells
      have q1 := cell_fr p1 (FA.out.trans HF.out)
      have q2 := cell_fr p2 (FA.out.trans HF.out)
      have q3 := cell_fr p3 (FA.out.trans HF.out)
      have P4 := hid (p4.fr (FA.out.trans HF.out))
      have HST := hid (flat_take (enc n) hx)
      have hle : Hid (((ks.take i).flatMap (enc n)).length + (enc n x).length ≤ 140737488355328) := by
        have a1 := HE.out (i + 1)
        have a2 := HEA.out
        rw [HA0.out] at a2
        rw [HST.out, List.length_append] at a1
        unfold Hid
        omega
      have hpz : (p : Int) ≤ 65536 := by omega
      have h1' : (i : Int) < (L : Int) := by omega
      clear p1 p2 p3 p4 hl2 hx
      go_wp2_with fail
      refine (IH.out x hxm.out _ _ P4.out).mono ?_
      rintro e w5 ⟨v5, rfl, o5, f5⟩
      have F5 := hid (HF.out.trans f5)
      have R5 := hid (Rd.ownB o5)
      have O5 := hid (ownsRow_fr OR.out f5)
      clear o5 f5
      go_wp2_with (at_builtin; refine wpList_append_bv rfl _ _ rfl O5.out rfl F5.out (Nat.le_refl _) F5.out.size _ R5.out rfl hle.out ?_; intro v8 w8 o8 f8; rw [← List.length_append, ← HST.out] at o8; have O8 := hid o8; have F8 := hid f8; clear o8 f8)
      go_roundw
      case rel => go_light; exact ⟨i + 1, by omega, by go_num, O8.out, F8.out⟩
      case measure => go_light; simp [intOf]; omega
    · have hiL : i = L := by omega
      subst hiL
      have hall : Hid ((ks.take i).flatMap (enc n) = A) := by unfold Hid; rw [HL.out, List.take_length, HA0.out]
      have hpA : Hid (p = A.length) := by unfold Hid; rw [HPP.out, hall.out]
      have hii : ¬ (i : Int) < (i : Int) := by omega
      have RA : Hid (Rd wr (.slice a3 p c3) (bv A)) := by unfold Hid; rw [← hall.out]; exact RR.out
      have LC := hid (rlist_c wr RA.out (by have := HEA.out; omega))
      clear RR OR
      go_wp2_with fail
      refine LC.out.mono ?_
      rintro e w6 ⟨v6, rfl, o6, f6⟩
      have O6 := hid (ownsRow_base o6 (Nat.le_trans FA.out.size HF.out.size))
      have F6 := hid (FA.out.trans (HF.out.trans f6))
      clear o6 f6
      go_wp2
      go_ret
      exact ⟨v6, rfl, (HP.out _ _).1 O6.out, F6.out⟩

theorem rof_c : ∀ (n : Nat) (w : World) (v : Value) (t : Tr n), full n t → (enc n t).length ≤ 65000 → IsV w n v t → Calls Try.prog 23 #[v] w fun e w' => ∃ v', e = .returned v' ∧ w'.ownsRow w.heap.size 5 1 v' (enc n t).length (bv (enc n t)) ∧ Fr [] w w'
  | 0, _, _, _, h, _, _ => h.elim
  | n + 1, w, v, t, hf, he, hv => by
    obtain ⟨bs, ka, kc, rfl, p2, p3, p4, p5, p5', p6⟩ := hv
    unfold enc at he ⊢
    rcases hl : tL t with _ | _
    · rw [hl] at he
      simp only [Bool.false_eq_true, if_false] at he ⊢
      have := strL_len (tB t)
      exact rof_str w p2 p3 (by omega)
    · rw [hl] at he
      simp only [if_true] at he ⊢
      rw [List.length_append] at he
      obtain ⟨a, c, hb⟩ := p2.form
      rw [bv_len] at hb
      subst hb
      refine rof_list w p5 p5' (by omega) p6 fun x hx w1 v1 i1 => rof_c n w1 v1 x (hf x hx) ?_ i1
      have := flat_mem (enc n) hx
      omega
end Go.Proofs.Ytldhcdmoenoopaa
