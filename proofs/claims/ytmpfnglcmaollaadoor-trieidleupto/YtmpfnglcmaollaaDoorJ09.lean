/-
  What write of package rlp answers for lists, and so for all items.
-/
import Derived.Test.YtmpfnglcmaollaaDoorJ08
import Derived.Deep.RegionHeld
import Derived.Test.YtmpfnglcmaollaaDoorJ01
import Derived.Deep.RegionLaw
namespace Go.Proofs.YtmpfnglcmaollaaDoor
open Go.ChangeShapes Go.WideShapes Go.ChangeAt Go.RowKit

theorem flatMap_snoc {α : Type} (f : α → List Nat) {ks : List α} {j : Nat} {k : α} (h : ks[j]? = some k) : (ks.take (j + 1)).flatMap f = (ks.take j).flatMap f ++ f k := by
  rw [List.take_add_one, h]; simp [List.flatMap_append]

set_option maxRecDepth 20000 in
set_option maxHeartbeats 800000 in
theorem write_list (w0 w : World) (hf : Fr [] w0 w) {base n : Nat} (hb0 : w0.heap.size ≤ base) (hbw : base ≤ w.heap.size) {vb : Value} {xs : List Nat} (hx : w.ownsRow base 5 1 vb xs.length (bv xs)) {bs : Value} (hr : Rd w0 bs (bv [])) {ks : List (Tr n)} {ka : Option Addr} {kc : Nat} (hkl : ks.length ≤ 140737488355328)
    (hks : 0 < ks.length → ∃ kb ko, ka = some ⟨kb, ko, none⟩ ∧ ∀ (j : Nat) (x : Tr n), ks[j]? = some x → ∃ l bs' is', w0.cell? ⟨kb, ko + j * 3, none⟩ = some (.bool l) ∧ w0.cell? ⟨kb, ko + j * 3 + 1, none⟩ = some bs' ∧ w0.cell? ⟨kb, ko + j * 3 + 2, none⟩ = some is' ∧ IsV w0 n (.agg #[.bool l, bs', is']) x)
    (ih : ∀ x ∈ ks, ∀ (w : World) (v vb : Value) (ys : List Nat), IsV w0 n v x → Fr [] w0 w → base ≤ w.heap.size → w.ownsRow base 5 1 vb ys.length (bv ys) → ys.length + (enc n x).length ≤ 1000000 → Calls Tryd.prog 63 #[vb, v] w fun r w' => ∃ v', r = .returned v' ∧ w'.ownsRow base 5 1 v' (ys ++ enc n x).length (bv (ys ++ enc n x)) ∧ Fr [] w0 w' ∧ Keeps w w')
    (hl : xs.length + (ks.flatMap (enc n)).length ≤ 1000000) :
    Calls Tryd.prog 63 #[vb, .agg #[.bool true, bs, .slice ka ks.length kc]] w fun r w' => ∃ v', r = .returned v' ∧ w'.ownsRow base 5 1 v' (xs ++ (headL 192 (ks.flatMap (enc n)).length ++ ks.flatMap (enc n))).length (bv (xs ++ (headL 192 (ks.flatMap (enc n)).length ++ ks.flatMap (enc n)))) ∧ Fr [] w0 w' ∧ Keeps w w' := by
  obtain ⟨ba, bc, hbs⟩ := hr.form
  rw [bv_len, List.length_nil] at hbs
  subst hbs
  obtain ⟨ao, c, hv, hc⟩ := ownsRow_slice hx
  subst hv
  obtain ⟨L, hL⟩ : ∃ L, L = ks.length := ⟨_, rfl⟩
  rw [← hL] at hkl hks ⊢
  have HX := hid (ownsRow_fr hx ((Fr.refl [] w).alloc (.cells #[.bool true, .slice ba 0 bc, .slice ka L kc] 77)))
  have HN := hid (blk_new w (.cells #[.bool true, .slice ba 0 bc, .slice ka L kc] 77))
  have F0 := hid (hf.alloc (.cells #[.bool true, .slice ba 0 bc, .slice ka L kc] 77))
  have K0 := hid (Keeps.alloc w (.cells #[.bool true, .slice ba 0 bc, .slice ka L kc] 77))
  have R0 := hid (hr.fr F0.out)
  have HK := hid hks
  have IH := hid ih
  have hbw1 : base ≤ (w.alloc (.cells #[.bool true, .slice ba 0 bc, .slice ka L kc] 77)).heap.size := by simp; omega
  obtain ⟨P, hP⟩ : ∃ P, P = ks.flatMap (enc n) := ⟨_, rfl⟩
  rw [← hP] at hl ⊢
  obtain ⟨S, hS⟩ : ∃ S, S = xs ++ (headL 192 P.length ++ P) := ⟨_, rfl⟩
  rw [← hS]
  have HS := hid hS
  have HP := hid hP
  have HL := hid hL
  clear hf hx hr hS hks ih hP hL
  go_enter Tryd.func63, Tryd.ntmps63
  go_wp2_with (
    at_builtin
    refine wpList_append_rd rfl _ _ rfl base hbw1 _ _ _ rfl HX.out _ _ rfl R0.out bv_one (by rw [bv_len, List.length_nil]; omega) ?_
    intro v1 w1 o1 g1 o3
    rw [bv_len, List.length_nil, Nat.add_zero, ← bv_append, List.append_nil] at o1
    have g1' : (w.alloc (.cells #[.bool true, .slice ba 0 bc, .slice ka L kc] 77)).grownBy w1 (Value.slice ao xs.length c).ownBlock := g1
    have O1 := hid o1
    have F1 := hid (F0.out.grew HX.out hb0 g1')
    have K1 := hid (Keeps.grown HX.out g1')
    have KK := hid (K0.out.trans K1.out)
    have hbk := K1.out.2 _ _ HN.out (fun cs e => by cases e)
    have hbw2 : base ≤ w1.heap.size := Nat.le_trans hbw1 g1'.size
    have HBK := hid hbk
    have hb2' := blk_cell hbk 2
    simp at hb2'
    clear o1 g1 g1' o3 hbk)
  go_loopw [0, 17] (fun v0 v17 wr => ∃ j : Nat, j ≤ L ∧ v17 = .int .i64 (j : Int) ∧ wr.ownsRow base 5 1 v0 (xs ++ (ks.take j).flatMap (enc n)).length (bv (xs ++ (ks.take j).flatMap (enc n))) ∧ Fr [] w0 wr ∧ Keeps w1 wr ∧ base ≤ wr.heap.size) (fun _ v17 _ => L - (intOf v17).toNat)
  case atStart => exact ⟨0, by omega, rfl, by rw [List.take_zero, List.flatMap_nil, List.append_nil]; exact O1.out, F1.out, Keeps.refl _, hbw2⟩
  case round =>
    obtain ⟨j, hj, rfl, ho, hfr, hkp, hbr⟩ := hrel
    have HO := hid ho
    have HFR := hid hfr
    have HKP := hid hkp
    clear ho hfr hkp
    by_cases hjl : j < L
    · obtain ⟨x, hx⟩ : ∃ x, ks[j]? = some x := ⟨_, List.getElem?_eq_getElem (by rw [← HL.out]; exact hjl)⟩
      have hxm : x ∈ ks := List.mem_of_getElem? hx
      obtain ⟨kb, ko, hka, hel⟩ := HK.out (by omega)
      subst hka
      obtain ⟨l, bs', is', e1, e2, e3, e4⟩ := hel j x hx
      obtain ⟨x1, x2, x3, x4, x5, x6, rfl, rfl⟩ := e4.cells
      have c1 := cell_fr e1 HFR.out
      have c2 := cell_fr e2 HFR.out
      have c3 := cell_fr e3 HFR.out
      have FA := hid (HFR.out.alloc (.cells #[.bool l, .slice x1 x2 x3, .slice x4 x5 x6] 77))
      have KA := hid (HKP.out.trans (Keeps.alloc _ (.cells #[.bool l, .slice x1 x2 x3, .slice x4 x5 x6] 77)))
      have OA := hid (ownsRow_fr HO.out ((Fr.refl [] wr).alloc (.cells #[.bool l, .slice x1 x2 x3, .slice x4 x5 x6] 77)))
      have hbr1 : base ≤ (wr.alloc (.cells #[.bool l, .slice x1 x2 x3, .slice x4 x5 x6] 77)).heap.size := by simp; omega
      have E4 := hid e4
      have hsn := flatMap_snoc (enc n) hx
      have hle := flatMap_take_le (enc n) ks (j + 1)
      have hlen : (xs ++ (ks.take j).flatMap (enc n)).length + (enc n x).length ≤ 1000000 := by
        rw [hsn, List.length_append, ← HP.out] at hle
        rw [List.length_append]; omega
      have HSN := hid hsn
      have HLEN := hid hlen
      clear e1 e2 e3 e4 hel hsn hle hlen
      go_wp2_with fail
      refine (IH.out x hxm _ _ _ _ E4.out FA.out hbr1 OA.out HLEN.out).mono ?_
      rintro r w2 ⟨v2, rfl, o2, f2, k2⟩
      rw [List.append_assoc, ← HSN.out] at o2
      have O2 := hid o2
      have F2 := hid f2
      have K2 := hid (KA.out.trans k2)
      have hbr2 : Hid (base ≤ w2.heap.size) := Nat.le_trans hbr1 k2.1
      clear o2 f2 k2
      go_wp2_with fail
      go_roundw
      case rel => go_light; exact ⟨j + 1, by omega, by go_num, O2.out, F2.out, K2.out, hbr2.out⟩
      case measure => go_light; simp [intOf]; omega
    · have hjL : j = L := by omega
      subst hjL
      have ho := HO.out
      rw [List.take_of_length_le (by rw [HL.out]; exact Nat.le_refl _), ← HP.out, List.length_append] at ho
      have O1' := hid ho
      have hbk := HKP.out.2 _ _ HBK.out (fun cs e => by cases e)
      have hd0 := blk_cell hbk 0
      have hd1 := blk_cell hbk 1
      have hd2 := blk_cell hbk 2
      simp at hd0 hd1 hd2
      have hh := headL_len 192 P.length
      have KK2 := hid (KK.out.trans HKP.out)
      obtain ⟨a1, c1, hv1, hc1⟩ := ownsRow_slice ho
      subst hv1
      clear ho hbk HO
      go_wp2_with fail
      rw [show (xs.length : Int) + (P.length : Int) - (xs.length : Int) = (P.length : Int) by omega]
      refine (head_list wr _ _ P.length (by omega)).mono ?_
      rintro r w2 ⟨v2, rfl, o2, f2⟩
      have O2 := hid o2
      have F2 := hid f2
      obtain ⟨a2, c2, hv2, _⟩ := ownsRow_slice o2
      subst hv2
      clear o2 f2
      go_wp2_with fail
      refine (insert_tail (w := w) hb0 hbr O1'.out rfl HFR.out KK2.out O2.out F2.out (by omega)).mono ?_
      rintro r w3 ⟨v3, rfl, o3, f3, k3⟩
      rw [← HS.out] at o3
      have O3 := hid o3
      have F3 := hid f3
      have K3 := hid k3
      clear o3 f3 k3
      go_wp2
      go_ret
      exact ⟨v3, rfl, O3.out, F3.out, K3.out⟩

/-- An item that may be encoded is written behind what there is. -/
theorem writeI_c {base : Nat} : ∀ (n : Nat) (w0 : World) (t : Tr n) (d : Nat) (w : World) (v vb : Value) (xs : List Nat), bad n d t = 0 → w0.heap.size ≤ base → IsV w0 n v t → Fr [] w0 w → base ≤ w.heap.size → w.ownsRow base 5 1 vb xs.length (bv xs) → xs.length + (enc n t).length ≤ 1000000 →
    Calls Tryd.prog 63 #[vb, v] w fun r w' => ∃ v', r = .returned v' ∧ w'.ownsRow base 5 1 v' (xs ++ enc n t).length (bv (xs ++ enc n t)) ∧ Fr [] w0 w' ∧ Keeps w w'
  | 0, w0, t, d, w, v, vb, xs, hbad, _, _, _, _, _, _ => by simp [bad] at hbad
  | n + 1, w0, t, d, w, v, vb, xs, hbad, hb0, hv, hf, hbw, hx, hl => by
    obtain ⟨bs, ka, kc, rfl, h2, h3, h4, h5, h5', h6⟩ := hv
    rcases (bad_cases hbad).2 with ⟨g1, g2, g3⟩ | ⟨g1, g2⟩
    · rw [g2] at h2
      rw [enc_list g1, List.length_append] at hl
      rw [enc_list g1, g1]
      refine write_list w0 w hf hb0 hbw hx h2 (by omega) h6 (fun x hxm w2 v2 vb2 ys hv2 hf2 hb2 hx2 hl2 => writeI_c n w0 x (d + 1) w2 v2 vb2 ys (g3 x hxm) hb0 hv2 hf2 hb2 hx2 hl2) (by omega)
    · rw [enc_str g1] at hl ⊢
      rw [g1, g2]
      have := strL_len (tB t)
      exact write_str w0 w hf hb0 hbw hx h2 h3 ka kc (by omega)
end Go.Proofs.YtmpfnglcmaollaaDoor
namespace Go.Proofs.YtmpfnglcmaollaaDoor
open Go.ChangeShapes Go.WideShapes Go.ChangeAt Go.RowKit

/-- What Encode tells of an item: its bytes, or its first fault. -/
def encE {n : Nat} (t : Tr n) : Nat := if bad n 1 t ≠ 0 then bad n 1 t else if 65536 < (enc n t).length then 44 else 0
def encB {n : Nat} (t : Tr n) : List Nat := if encE t = 0 then enc n t else []

theorem make0 (w : World) (n : Nat) (hn : n ≤ 1000000) : (Instr.makeSlice 33 (.int .i64 0) (.int .i64 (n : Int))).run Tryd.prog w = .ok (.slice (some ⟨w.heap.size, 0, none⟩) 0 n) (w.alloc (.cells (madeCells #[.int .u8 0] n) 5)) := by
  obtain ⟨i0, hi, hz0, hz1, hz2⟩ := info_parts infoB
  have h := run_make (P := Tryd.prog) w 33 5 i0 (.int .u8 0) Tryd.underlying33 hi hz0 .i64 .i64 0 (n : Int) (by omega) (by omega) (by rw [hz2]; omega) (by omega)
  simpa [hz1, Value.cells] using h
theorem own_make (w : World) (n : Nat) (hn : n ≤ 1000000) : (w.alloc (.cells (madeCells #[.int .u8 0] n) 5)).ownsRow w.heap.size 5 1 (.slice (some ⟨w.heap.size, 0, none⟩) 0 n) 0 (bv []) :=
  ⟨rfl, .inr ⟨w.heap.size, n, _, rfl, Nat.le_refl _, blk_new _ _, Nat.zero_le _, by unfold maxLen; omega, by simp [madeCells], by simp [bv]⟩⟩

set_option maxRecDepth 20000 in
set_option maxHeartbeats 800000 in
theorem encode_c (w : World) {v : Value} {n : Nat} {t : Tr n} (hv : IsV w n v t) (hn : 16 ≤ n) (hc : cnt n t ≤ 4096) (he : (enc n t).length ≤ 1000000) :
    Calls Tryd.prog 40 #[v] w fun r w' => ∃ v', r = .returned (.tuple #[v', .int .i64 (encE t : Int)]) ∧ w'.ownsRow w.heap.size 5 1 v' (encB t).length (bv (encB t)) ∧ Fr [] w w' := by
  obtain ⟨l, a1, n1, c1, a2, n2, c2, rfl⟩ := hv.agg
  have HV := hid hv
  have HN := hid (blk_new w (.cells #[.bool l, .slice a1 n1 c1, .slice a2 n2 c2] 77))
  obtain ⟨E, hE⟩ : ∃ E, E = (enc n t).length := ⟨_, rfl⟩
  obtain ⟨B, hB⟩ : ∃ B, B = bad n 1 t := ⟨_, rfl⟩
  obtain ⟨R, hR⟩ : ∃ R, R = encE t := ⟨_, rfl⟩
  obtain ⟨O, hO⟩ : ∃ O, O = encB t := ⟨_, rfl⟩
  have hbl := bad_le n 1 t
  rw [← hB] at hbl
  rw [← hR, ← hO]
  have hr1 : R = if B ≠ 0 then B else if 65536 < E then 44 else 0 := by rw [hR, hB, hE]; rfl
  have ho1 : O = if R = 0 then enc n t else [] := by rw [hO, hR]; rfl
  have HE := hid hE
  have HB := hid hB
  have HR := hid hr1
  have HO := hid ho1
  rw [← hE] at he
  clear hv hE hB hR hO hr1 ho1
  have F0 := hid ((Fr.refl [] w).alloc (.cells #[.bool l, .slice a1 n1 c1, .slice a2 n2 c2] 77))
  go_enter Tryd.func40, Tryd.ntmps40
  go_wp2_with fail
  refine (measure_c _ (HV.out.fr F0.out) hn hc (by rw [← HE.out]; exact he)).mono ?_
  rintro r w1 ⟨hT, f1⟩
  rw [← HE.out, ← HB.out] at hT
  have F1 := hid (F0.out.trans f1)
  have hbk := f1.at HN.out (by simp)
  have hd0 := blk_cell hbk 0
  have hd1 := blk_cell hbk 1
  have hd2 := blk_cell hbk 2
  simp at hd0 hd1 hd2
  have V1 := hid (HV.out.fr F1.out)
  clear f1
  rcases hT with ⟨t1, rfl⟩ | ⟨t1, rfl⟩
  · have HT := hid t1
    by_cases hlong : 65536 < E
    · have hR : R = 44 := by rw [HR.out, if_neg (by rw [HT.out]; simp), if_pos hlong]
      have hO : O = [] := by rw [HO.out, if_neg (by omega)]
      subst hR
      subst hO
      clear t1 hbk
      go_wp2
      go_ret2
      exact ⟨_, rfl, World.ownsRow_nil _ _ _ _, F1.out⟩
    · have hR : R = 0 := by rw [HR.out, if_neg (by rw [HT.out]; simp), if_neg hlong]
      have hO : O = enc n t := by rw [HO.out, if_pos hR]
      subst hR
      have HOO := hid hO
      clear t1 hO
      go_wp2_with fail
      have HD := hid (And.intro hd0 (And.intro hd1 hd2))
      have hmk := make0 w1.drew E (by omega)
      clear hd0 hd1 hd2
      refine wp_region_held_drew (S := fun w' => Fr [] w1 w') (by kernel_rfl) (Fr.refl [] w1).drew (fun hH => ?_)
      refine wpAnyH_take (i := 0) (v := .int .i64 (E : Int)) rfl (by kernel_rfl) (by kernel_rfl) (by kernel_rfl) (fun _ _ _ h => h) (.inl ⟨by rfl, fun wx _ => by go_simp⟩) hH ?_
      simp only [Act.put]
      refine wpAnyH_take (i := 2) (v := .agg #[.bool l, .slice a1 n1 c1, .slice a2 n2 c2]) rfl (by kernel_rfl) (by kernel_rfl) (by kernel_rfl) (fun _ _ _ h => h) (.inl ⟨by rfl, fun wx h => by
        have g0 := cell_fr HD.out.1 h
        have g1 := cell_fr HD.out.2.1 h
        have g2 := cell_fr HD.out.2.2 h
        go_simp⟩) hH ?_
      simp only [Act.put]
      refine wpAnyH_ready (rs := [1]) (by kernel_rfl) (by simp) ?_
      refine AllReadyH.cons rfl (fun K hK => ?_) AllReadyH.nil
      have HH := hid hH
      clear hH
      go_simp
      have FM := hid (HH.out.alloc (.cells (madeCells #[.int .u8 0] E) 5))
      refine hK.out _ _ FM.out (fun _ => ?_)
      clear hK K
      refine wpAnyH_ready (rs := [3]) (by kernel_rfl) (by simp) ?_
      refine AllReadyH.cons rfl (fun K hK => ?_) AllReadyH.nil
      go_simp
      refine (writeI_c n w1 t 1 _ _ _ [] (by rw [← HB.out]; exact HT.out) (base := w1.heap.size) (Nat.le_refl _) V1.out FM.out (by simp) (own_make w1.drew E (by omega)) (by rw [← HE.out]; simp; omega)).mono ?_
      rintro r w2 ⟨v2, rfl, o2, f2, k2⟩
      rw [List.nil_append, ← HOO.out] at o2
      have O2 := hid (ownsRow_base (B' := w.heap.size) o2 F1.out.size)
      have F2 := hid f2
      refine hK.out _ _ f2 (fun _ => ?_)
      clear hK K o2 f2 k2
      refine wpAnyH_ready (rs := [4]) (by kernel_rfl) (by simp) ?_
      refine AllReadyH.cons rfl (fun K hK => ?_) AllReadyH.nil
      go_simp
      refine hK.out _ _ F2.out (fun _ => ?_)
      clear hK K
      refine wpAnyH_ready (rs := [5]) (by kernel_rfl) (by simp) ?_
      refine AllReadyH.cons rfl (fun K hK => ?_) AllReadyH.nil
      go_simp
      refine hK.out _ _ F2.out (fun _ => ?_)
      clear hK K
      refine wpAnyH_done (by kernel_rfl) ?_ _
      clear hmk
      go_wp2
      go_ret2
      exact ⟨v2, rfl, O2.out, F1.out.trans F2.out⟩
  · have HT := hid t1
    have hR : R = B := by rw [HR.out, if_pos HT.out]
    have hO : O = [] := by rw [HO.out, if_neg (by omega)]
    subst hR
    subst hO
    have hz : ((R : Int) == 0) = false := beq_eq_false_iff_ne.2 (by omega)
    clear t1 hbk
    go_wp2
    go_ret2
    exact ⟨_, rfl, World.ownsRow_nil _ _ _ _, F1.out⟩
end Go.Proofs.YtmpfnglcmaollaaDoor
namespace Go.Proofs.YtmpfnglcmaollaaDoor
open Go.ChangeShapes Go.WideShapes Go.ChangeAt Go.RowKit

theorem step_append_own {P : Program} {ops : Array Oper} {o : Oper} {a : Act} {w : World} {K : Act → World → Prop} {Q : Exit → Act → World → Prop} {E : Prop}
    (hg : o.guard = none) (s x : Operand) (t : TypeId) (hop : o.op = Op.call { callee := Callee.builtin Builtin.append, args := #[s, x], argTypes := #[t, t] })
    (base : Nat) (e : TypeId) (i : TypeInfo) (z : Value) (size bytes : Nat) (ht : P.underlying t = some (.slice e)) (hi : P.info? e = some i) (hz : i.zero = some z)
    (hsize : i.size = size) (hby : i.bytes = bytes) (hzs : z.cells.size = size) (hsz : 0 < size)
    (v : Value) (n : Nat) (xs : List Value) (hs : a.eval s = v) (hown : w.ownsRow base e size v n xs)
    (ad : Addr) (m c : Nat) (news : List Value) (hx : a.eval x = .slice (some ad) m c) (hl : news.length = m * size) (hnews : ∀ j u, news[j]? = some u → w.cell? (ad.add j) = some u) (h1 : ∀ u ∈ news, u.oneCell' = true)
    (h63 : n + m ≤ maxLen) (hbytes : (n + m) * bytes ≤ 140737488355328) (hbase : base ≤ w.heap.size)
    (hK : ∀ v' w', w'.ownsRow base e size v' (n + m) (xs ++ news) → w.grownBy w' v.ownBlock → (v'.ownBlock = v.ownBlock ∨ v'.ownBlock = some w.heap.size) → K (a.put o.dst v') w') :
    if Region.wanted o (yielded ops a.tmps) = true then Oper.wp P o a w K Q else E := by
  have hw : Region.wanted o (yielded ops a.tmps) = true := by simp [Region.wanted, hg]
  rw [if_pos hw]
  obtain ⟨v', w', hr, h2, h3, _, h5⟩ := run_append_own_at (P := P) w base t o.type e i z size bytes ht hi hz hsize hby hzs hsz v n xs hown ad m c news hl hnews h1 h63 hbytes hbase
  unfold Oper.wp
  simp [execOp, hop, resolve, invoke, builtin, hs, hx, hr, Result.andThen]
  exact hK v' w' h2 h3 h5

/-- One byte appended to a row of bytes of the call's own. -/
theorem step_append_one {ops : Array Oper} {o : Oper} {a : Act} {w : World} {K : Act → World → Prop} {Q : Exit → Act → World → Prop} {E : Prop} {z : Int}
    (hg : o.guard = none) (s x : Operand) (hop : o.op = Op.call { callee := Callee.builtin Builtin.append, args := #[s, x], argTypes := #[33, 33] })
    (base : Nat) {v : Value} {n : Nat} {xs : List Value} (hown : w.ownsRow base 5 1 v n xs) (hs : a.eval s = v)
    (g : Nat) (hx : a.eval x = .slice (some ⟨g, 0, none⟩) 1 1) (hc : w.cell? ⟨g, 0, none⟩ = some (.int .u8 z)) (hl : n + 1 ≤ 100000) (hbase : base ≤ w.heap.size)
    (hK : ∀ v' w', w'.ownsRow base 5 1 v' (n + 1) (xs ++ [.int .u8 z]) → w.grownBy w' v.ownBlock → K (a.put o.dst v') w') :
    if Region.wanted o (yielded ops a.tmps) = true then Oper.wp Tryd.prog o a w K Q else E := by
  obtain ⟨i0, hi, hz0, hz1, hz2⟩ := info_parts infoB
  refine step_append_own hg s x 33 hop base 5 i0 (.int .u8 0) 1 1 Tryd.underlying33 hi hz0 hz1 hz2 rfl (by decide) v n xs hs hown ⟨g, 0, none⟩ 1 1 [.int .u8 z] hx rfl ?_ (by simp [Value.oneCell']) (by unfold maxLen; omega) (by omega) hbase fun v' w' h1 h2 _ => hK v' w' h1 h2
  intro j u hj
  cases j with
  | zero => simp at hj; subst hj; rw [Addr.add_lit]; exact hc
  | succ j => simp at hj
end Go.Proofs.YtmpfnglcmaollaaDoor
