/-
  What measure of package rlp answers for lists, and so for all items.
-/
import Derived.Test.YtbbaaegfbbjnjaaDoorMe2
namespace Go.Proofs.YtbbaaegfbbjnjaaDoor
open Go.ChangeShapes Go.WideShapes Go.ChangeAt Go.RowKit

theorem firstBad_drop {α : Type} (f : α → Nat) {ks : List α} {j : Nat} {k : α} (h : ks[j]? = some k) : firstBad f (ks.drop j) = if f k = 0 then firstBad f (ks.drop (j + 1)) else f k := by
  have hj : j < ks.length := (List.getElem?_eq_some_iff.1 h).1
  rw [List.drop_eq_getElem_cons hj, (List.getElem?_eq_some_iff.1 h).2]; rfl
theorem flatMap_take {α : Type} (f : α → List Nat) {ks : List α} {j : Nat} {k : α} (h : ks[j]? = some k) : ((ks.take (j + 1)).flatMap f).length = ((ks.take j).flatMap f).length + (f k).length := by
  rw [List.take_add_one, h]; simp [List.flatMap_append]
theorem flatMap_take_le {α : Type} (f : α → List Nat) (ks : List α) (j : Nat) : ((ks.take j).flatMap f).length ≤ (ks.flatMap f).length := by
  have := congrArg (fun l => (l.flatMap f).length) (List.take_append_drop j ks)
  simp only [List.flatMap_append, List.length_append] at this
  omega
theorem sum_take {α : Type} (f : α → Nat) {ks : List α} {j : Nat} {k : α} (h : ks[j]? = some k) : ((ks.take (j + 1)).map f).sum = ((ks.take j).map f).sum + f k := by
  rw [List.take_add_one, h]; simp [List.map_append]
theorem sum_take_le {α : Type} (f : α → Nat) (ks : List α) (j : Nat) : ((ks.take j).map f).sum ≤ (ks.map f).sum := by
  have := congrArg (fun l => (l.map f).sum) (List.take_append_drop j ks)
  simp only [List.map_append, List.sum_append] at this
  omega

set_option maxRecDepth 20000 in
set_option maxHeartbeats 1600000 in
theorem walk_list (w0 w : World) {T g e k c d n : Nat} (C : Clo w 36 T g e k c) (hf : Fr [] w0 w) (hg0 : w0.heap.size ≤ g) (ba : Option Addr) (bc : Nat) {ks : List (Tr n)} {ka : Option Addr} {kc : Nat} (hkl : ks.length ≤ 140737488355328)
    (hks : 0 < ks.length → ∃ kb ko, ka = some ⟨kb, ko, none⟩ ∧ ∀ (j : Nat) (x : Tr n), ks[j]? = some x → ∃ l bs' is', w0.cell? ⟨kb, ko + j * 3, none⟩ = some (.bool l) ∧ w0.cell? ⟨kb, ko + j * 3 + 1, none⟩ = some bs' ∧ w0.cell? ⟨kb, ko + j * 3 + 2, none⟩ = some is' ∧ IsV w0 n (.agg #[.bool l, bs', is']) x)
    (ih : ∀ x ∈ ks, ∀ (w : World) (v : Value) (c : Nat), IsV w0 n v x → Fr [] w0 w → Clo w 36 T g e k c → c + cnt n x ≤ 4096 → Calls Tryd.prog 36 #[v, .int .i64 ((d + 1 : Nat) : Int), .pointer (some ⟨e, 0, none⟩), .pointer (some ⟨k, 0, none⟩)] w fun r w' => Told n (d + 1) x g c r w' ∧ Fr [g] w w')
    (hd : d ≤ 16) (hc : c + 1 + (ks.map (cnt n)).sum ≤ 4096) (hP : (ks.flatMap (enc n)).length ≤ 1000000) :
    Calls Tryd.prog 36 #[.agg #[.bool true, .slice ba 0 bc, .slice ka ks.length kc], .int .i64 (d : Int), .pointer (some ⟨e, 0, none⟩), .pointer (some ⟨k, 0, none⟩)] w fun r w' =>
      ((firstBad (bad n (d + 1)) ks = 0 ∧ r = .returned (.tuple #[.int .i64 ((headL 192 (ks.flatMap (enc n)).length).length + (ks.flatMap (enc n)).length : Int), .int .i64 0]) ∧ w'.heap[g]? = some (.cells #[.int .i64 ((c + 1 + (ks.map (cnt n)).sum : Nat) : Int)] 3 (0, 0))) ∨
       (firstBad (bad n (d + 1)) ks ≠ 0 ∧ r = .returned (.tuple #[.int .i64 0, .int .i64 (firstBad (bad n (d + 1)) ks : Int)]))) ∧ Fr [g] w w' := by
  have C1 := C.alloc (.cells #[.bool true, .slice ba 0 bc, .slice ka ks.length kc] 44)
  have hg := blk_lt C.cg
  have he := blk_cell C1.ce 0
  simp at he
  have HC := hid C1
  have HN := hid (blk_new w (.cells #[.bool true, .slice ba 0 bc, .slice ka ks.length kc] 44))
  have hne : ¬ w.heap.size = g := by omega
  have FA := hid ((Fr.refl [g] w).alloc (.cells #[.bool true, .slice ba 0 bc, .slice ka ks.length kc] 44))
  have HF := hid hf
  have HK := hid hks
  have IH := hid ih
  obtain ⟨B, hB⟩ : ∃ B, B = firstBad (bad n (d + 1)) ks := ⟨_, rfl⟩
  obtain ⟨P, hPP⟩ : ∃ P, P = (ks.flatMap (enc n)).length := ⟨_, rfl⟩
  obtain ⟨H, hH⟩ : ∃ H, H = headL 192 P := ⟨_, rfl⟩
  have hh := headL_len 192 P
  rw [← hH] at hh
  rw [← hB, ← hPP, ← hH]
  rw [← hPP] at hP
  have HB := hid hB
  have HPP := hid hPP
  have HH := hid hH
  have hcell := blk_cell C1.ck 0
  simp at hcell
  obtain ⟨L, hL⟩ : ∃ L, L = ks.length := ⟨_, rfl⟩
  rw [← hL] at HN HC hkl he ⊢
  rw [← hL] at FA HK
  have HL := hid hL
  clear C C1 hf hks ih hB hPP hH hL hcell
  have hc1 : c < 4096 := by omega
  go_enter Tryd.func36, Tryd.ntmps36
  go_wp2_with fail
  refine (gate_yes _ HC.out.cg hd hc1).mono ?_
  rintro r w1 ⟨rfl, h1, f1⟩
  have hbk := f1.at HN.out (by simpa using hne)
  have hb0 := blk_cell hbk 0
  have hb1 := blk_cell hbk 1
  have hb2 := blk_cell hbk 2
  simp at hb0 hb1 hb2
  have F1 := hid (FA.out.trans f1)
  have H1 := hid (HC.out.step f1 h1)
  have HBK := hid hbk
  clear hbk f1 h1
  go_wp2_with fail
  go_loopw [9, 45] (fun v9 v45 wr => ∃ (j p : Nat), j ≤ L ∧ v45 = .int .i64 (j : Int) ∧ v9 = .int .i64 (p : Int) ∧ p = ((ks.take j).flatMap (enc n)).length ∧ B = firstBad (bad n (d + 1)) (ks.drop j) ∧ Clo wr 36 T g e k (c + 1 + ((ks.take j).map (cnt n)).sum) ∧ Fr [g] w1 wr) (fun _ v45 _ => L - (intOf v45).toNat)
  case atStart => exact ⟨0, 0, by omega, rfl, rfl, rfl, HB.out, H1.out, Fr.refl _ _⟩
  case round =>
    obtain ⟨j, p, hj, rfl, rfl, hp, hbj, hclo, hfr⟩ := hrel
    have hpl : p ≤ P := by rw [hp, HPP.out]; exact flatMap_take_le _ _ _
    have HP2 := hid hp
    have HBJ := hid hbj
    have HCL := hid hclo
    have HFR := hid hfr
    clear hp hbj hclo hfr
    by_cases hjl : j < L
    · obtain ⟨x, hx⟩ : ∃ x, ks[j]? = some x := ⟨_, List.getElem?_eq_getElem (by rw [← HL.out]; exact hjl)⟩
      have hxm : x ∈ ks := List.mem_of_getElem? hx
      obtain ⟨kb, ko, hka, hel⟩ := HK.out (by omega)
      subst hka
      obtain ⟨l, bs', is', e1, e2, e3, e4⟩ := hel j x hx
      obtain ⟨x1, x2, x3, x4, x5, x6, rfl, rfl⟩ := e4.cells
      have f0 : Fr [] w0 wr := (((HF.out.mono (S' := [g]) (by simp)).trans F1.out).trans HFR.out).shed (fun y hy hlt => by simp at hy; omega)
      have c1 := cell_fr e1 f0
      have c2 := cell_fr e2 f0
      have c3 := cell_fr e3 f0
      have hfz : Hid (Fr [] w0 (wr.alloc (.cells #[.bool l, .slice x1 x2 x3, .slice x4 x5 x6] 44))) := f0.alloc _
      have HC2 := hid (HCL.out.alloc (.cells #[.bool l, .slice x1 x2 x3, .slice x4 x5 x6] 44))
      have hck := blk_cell HC2.out.ck 0
      simp at hck
      have hsum := sum_take (cnt n) hx
      have hsle := sum_take_le (cnt n) ks (j + 1)
      have hct : c + 1 + ((ks.take j).map (cnt n)).sum + cnt n x ≤ 4096 := by omega
      have E4 := hid e4
      have FR2 := hid (HFR.out.alloc (.cells #[.bool l, .slice x1 x2 x3, .slice x4 x5 x6] 44))
      have hxe := flatMap_take (enc n) hx
      have hxl := flatMap_take_le (enc n) ks (j + 1)
      have hfd := firstBad_drop (bad n (d + 1)) hx
      have hbl := bad_le n (d + 1) x
      obtain ⟨q, hq⟩ : ∃ q, q = (enc n x).length := ⟨_, rfl⟩
      obtain ⟨bx, hbx⟩ : ∃ bx, bx = bad n (d + 1) x := ⟨_, rfl⟩
      rw [← hq, ← HP2.out] at hxe
      rw [← HPP.out, hxe] at hxl
      rw [← hbx] at hbl hfd
      have HQ := hid hq
      have HBX := hid hbx
      have HXE := hid hxe
      have HFD := hid hfd
      have HSUM := hid hsum
      clear e1 e2 e3 e4 f0 hel hsum hsle hxe hfd hq hbx
      go_wp2_with fail
      refine (IH.out x hxm _ _ _ E4.out hfz.out HC2.out hct).mono ?_
      rintro r w2 ⟨hT, f2⟩
      have F2 := hid (FR2.out.trans f2)
      unfold Told at hT
      rw [← HQ.out, ← HBX.out] at hT
      rcases hT with ⟨t1, rfl, t3⟩ | ⟨t1, rfl⟩
      · have CL2 := hid (HC2.out.step f2 t3)
        rw [t1, if_pos rfl] at HFD
        clear f2 t3
        go_wp2_with fail
        go_roundw
        case rel => go_light; exact ⟨j + 1, p + q, by omega, by go_num, by go_num, HXE.out.symm, HBJ.out.trans HFD.out, by rw [HSUM.out, ← Nat.add_assoc]; exact CL2.out, F2.out⟩
        case measure => go_light; simp [intOf]; omega
      · have hz : ((bx : Int) == 0) = false := beq_eq_false_iff_ne.2 (by omega)
        have HT1 := hid t1
        rw [if_neg t1] at HFD
        have HBB := hid (HBJ.out.trans HFD.out)
        clear f2
        go_wp2_with fail
        go_ret2
        exact ⟨.inr ⟨by rw [HBB.out]; exact HT1.out, by rw [HBB.out]; rfl⟩, F1.out.trans F2.out⟩
    · have hjL : j = L := by omega
      subst hjL
      have hpP : p = P := by rw [HP2.out, HPP.out, List.take_of_length_le (by rw [HL.out]; exact Nat.le_refl _)]
      have hB0 : B = 0 := by rw [HBJ.out, List.drop_eq_nil_of_le (by rw [HL.out]; exact Nat.le_refl _)]; rfl
      have hcg := HCL.out.cg
      rw [List.take_of_length_le (by rw [HL.out]; exact Nat.le_refl _)] at hcg
      have HCG := hid hcg
      have HB0 := hid hB0
      have hbk := HFR.out.at HBK.out (by simpa using hne)
      have hd0 := blk_cell hbk 0
      have hd1 := blk_cell hbk 1
      have hd2 := blk_cell hbk 2
      simp at hd0 hd1 hd2
      clear hcg hB0 hbk
      subst hpP
      go_wp2_with fail
      refine (head_list wr _ _ p (by omega)).mono ?_
      rintro r w2 ⟨v2, rfl, o2, f2⟩
      rw [← HH.out] at o2
      obtain ⟨a2, c2, rfl, _⟩ := ownsRow_slice o2
      have F2 := hid f2
      clear f2 o2
      go_wp2_with fail
      go_ret2
      exact ⟨.inl ⟨HB0.out, rfl, F2.out.at HCG.out (by simp)⟩, (F1.out.trans HFR.out).trans (F2.out.mono (by simp))⟩
end Go.Proofs.YtbbaaegfbbjnjaaDoor
