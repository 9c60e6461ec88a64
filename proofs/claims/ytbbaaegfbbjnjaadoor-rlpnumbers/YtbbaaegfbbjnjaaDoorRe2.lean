/-
  What the closure in First of package rlp answers for strings.
-/
import Derived.Test.YtbbaaegfbbjnjaaDoorRe1
namespace Go.Proofs.YtbbaaegfbbjnjaaDoor
open Go.ChangeShapes Go.WideShapes Go.ChangeAt Go.RowKit

theorem mid_eq {b : List Nat} {s e : Nat} : (b.take e).drop s = (b.drop s).take (e - s) := by
  rw [List.drop_take]

set_option maxRecDepth 20000 in
set_option maxHeartbeats 800000 in
theorem read_str (w : World) {T g e k c d n : Nat} (C : Clo w 37 T g e k c) {v : Value} {b : List Nat} (hr : Rd w v (bv b)) (hb : By b) (h0 : b ≠ []) (hl : b.length ≤ 100000) (hd : d ≤ 16) (hc : c < 4096) {s en : Nat} (hx : hdr b = .ok (false, s, en)) :
    Calls Tryd.prog 37 #[v, .int .i64 (d : Int), .pointer (some ⟨e, 0, none⟩), .pointer (some ⟨k, 0, none⟩)] w fun r w' => (∃ v, r = .returned (.tuple #[v, .int .i64 (en : Int), .int .i64 0]) ∧ IsF w' w.heap.size w'.heap.size (n + 1) v (mkT false ((b.take en).drop s) []) ∧ w'.heap[g]? = some (.cells #[.int .i64 ((c + 1 : Nat) : Int)] 3 (0, 0))) ∧ Fr [g] w w' := by
  obtain ⟨p1, p2, p3, p4, _⟩ := hdr_ok hb hx h0
  have C1 := C.alloc (.cells #[.bool false, .slice none 0 0, .slice none 0 0] 44)
  have hg := blk_lt C.cg
  have he := blk_cell C1.ce 0
  simp at he
  have HC := hid C1
  have F0 := hid ((Fr.refl [g] w).alloc (.cells #[.bool false, .slice none 0 0, .slice none 0 0] 44))
  have HN := hid (blk_new w (.cells #[.bool false, .slice none 0 0, .slice none 0 0] 44))
  have hne : ¬ w.heap.size = g := by omega
  have HG := hid C.cg
  have HB := hid hb
  have HX := hid hx
  obtain ⟨q, off, cc, hv, hcc, _⟩ := hr.spot (List.length_pos_iff.2 h0)
  subst hv
  obtain ⟨M, hM⟩ : ∃ M, M = (b.take en).drop s := ⟨_, rfl⟩
  have hMl : M.length = en - s := by rw [hM]; exact mid_len b p3
  have HMB := hid (show By M by rw [hM]; exact (hb.take en).drop s)
  obtain ⟨o', ho'⟩ : ∃ o', o' = if cc = s then off else off + s := ⟨_, rfl⟩
  have HOO := hid ho'
  have RM : Hid (∀ W : World, Rd W (.slice (some ⟨q, off, none⟩) b.length cc) (bv b) → Rd W (.slice (some ⟨q, o', none⟩) (en - s) (cc - s)) (bv M)) := by
    intro W hW
    rw [ho']
    by_cases h : cc = s
    · rw [if_pos h]; exact Rd.none_ (by omega) (by omega)
    · rw [if_neg h, hM, mid_eq]; exact hW.mid (by omega)
  have HR := hid hr
  have HML := hid hMl
  rw [← hM]
  clear C C1 hr hb hx hM ho'
  go_enter Tryd.func37, Tryd.ntmps37
  go_wp2_with fail
  refine (gate_yes _ HC.out.cg hd hc).mono ?_
  rintro r w1 ⟨rfl, h1, f1⟩
  have F1 := hid (F0.out.trans f1)
  have hbk := f1.at HN.out (by simpa using hne)
  have HBK := hid hbk
  have H1 := hid h1
  clear f1 h1 hbk
  go_wp2_with fail
  refine (find_c w1 (HR.out.frg F1.out HG.out) HB.out h0 hl).mono ?_
  rintro r w2 ⟨hF, f2⟩
  rw [HX.out] at hF
  obtain rfl : r = _ := hF
  have F2 := hid (F1.out.trans (f2.mono (S' := [g]) (by simp)))
  have HBK2 := hid (f2.at HBK.out (by simp))
  have H2 := hid (f2.at H1.out (by simp))
  have hlt : w.heap.size < w2.heap.size := blk_lt HBK2.out
  have hgt : g < w2.heap.size := blk_lt H2.out
  clear f2
  go_wp2_with fail
  have hP : (w2.alloc (.cells #[.bool false, .int .i64 (s : Int), .int .i64 (en : Int)] 77)).heap[w2.heap.size]? = some (.cells #[.bool false, .int .i64 (s : Int), .int .i64 (en : Int)] 77 (0, 0)) := blk_new _ _
  refine wp_region_held_drew (S := fun w' => w'.heap[w2.heap.size]? = some (.cells #[.bool false, .int .i64 (s : Int), .int .i64 (en : Int)] 77 (0, 0))) (by kernel_rfl) hP (fun hH => ?_)
  refine wpAnyH_take (i := 0) (v := .slice (some ⟨q, off, none⟩) b.length cc) rfl (by kernel_rfl) (by kernel_rfl) (by kernel_rfl) (fun _ _ _ h => h) (.inl ⟨by rfl, fun wx _ => by go_simp⟩) hH ?_
  simp only [Act.put]
  refine wpAnyH_take (i := 1) (v := .pointer (some ⟨w2.heap.size, 1, none⟩)) rfl (by kernel_rfl) (by kernel_rfl) (by kernel_rfl) (fun _ _ _ h => h) (.inl ⟨by rfl, fun wx _ => by go_simp⟩) hH ?_
  simp only [Act.put]
  refine wpAnyH_take (i := 2) (v := .int .i64 (s : Int)) rfl (by kernel_rfl) (by kernel_rfl) (by kernel_rfl) (fun _ _ _ h => h) (.inl ⟨by rfl, fun wx h => by have k1 := blk_cell h 1; simp at k1; go_simp⟩) hH ?_
  simp only [Act.put]
  refine wpAnyH_take (i := 3) (v := .pointer (some ⟨w2.heap.size, 2, none⟩)) rfl (by kernel_rfl) (by kernel_rfl) (by kernel_rfl) (fun _ _ _ h => h) (.inl ⟨by rfl, fun wx _ => by go_simp⟩) hH ?_
  simp only [Act.put]
  refine wpAnyH_take (i := 4) (v := .int .i64 (en : Int)) rfl (by kernel_rfl) (by kernel_rfl) (by kernel_rfl) (fun _ _ _ h => h) (.inl ⟨by rfl, fun wx h => by have k1 := blk_cell h 2; simp at k1; go_simp⟩) hH ?_
  simp only [Act.put]
  refine wpAnyH_take (i := 5) (v := .slice (some ⟨q, o', none⟩) (en - s) (cc - s)) rfl (by kernel_rfl) (by kernel_rfl) (by kernel_rfl) (fun _ _ _ h => h) (.inl ⟨by rfl, fun wx h => by
    rw [HOO.out]
    have z1 : (s : Int) ≤ (en : Int) := by omega
    have z2 : (en : Int) ≤ (cc : Int) := by omega
    have z3 : en ≤ cc := by omega
    by_cases hcs : cc = s
    · have hes : en = s := by omega
      subst hcs
      subst hes
      rw [if_pos rfl]
      go_simp
    · rw [if_neg hcs]
      go_simp⟩) hH ?_
  simp only [Act.put]
  refine wpAnyH_take (i := 8) (v := .pointer (some ⟨w2.heap.size, 2, none⟩)) rfl (by kernel_rfl) (by kernel_rfl) (by kernel_rfl) (fun _ _ _ h => h) (.inl ⟨by rfl, fun wx _ => by go_simp⟩) hH ?_
  simp only [Act.put]
  refine wpAnyH_take (i := 9) (v := .int .i64 (en : Int)) rfl (by kernel_rfl) (by kernel_rfl) (by kernel_rfl) (fun _ _ _ h => h) (.inl ⟨by rfl, fun wx h => by have k1 := blk_cell h 2; simp at k1; go_simp⟩) hH ?_
  simp only [Act.put]
  refine wpAnyH_ready (rs := [6]) (by kernel_rfl) (by simp) ?_
  refine AllReadyH.cons rfl (fun K hK => ?_) AllReadyH.nil
  have HH := hid hH
  have F3 := hid ((F2.out.alloc (.cells #[.bool false, .int .i64 (s : Int), .int .i64 (en : Int)] 77)).drew)
  clear hH hP
  go_simp
  refine (clone_c (RM.out _ (HR.out.frg F3.out HG.out)) (by rw [HML.out]; omega)).mono ?_
  rintro r w4 ⟨v4, rfl, o4, f4⟩
  rw [HML.out] at o4
  obtain ⟨a4, c4, hv4, hc4⟩ := ownsRow_slice o4
  subst hv4
  have HP4 := hid (f4.at HH.out (by simp))
  have hF4 : Fr [] w2 w4 := (((Fr.refl [] w2).alloc _).drew).trans f4
  have HBK4 := hid (hF4.at HBK2.out (by simp))
  have H4 := hid (hF4.at H2.out (by simp))
  have O4 := hid o4
  have F4 := hid (F3.out.trans (f4.mono (S' := [g]) (by simp)))
  have hlt4 : w.heap.size < w4.heap.size := blk_lt HBK4.out
  refine hK.out _ _ HP4.out (fun _ => ?_)
  clear hK K o4 f4 hF4
  refine wpAnyH_take (i := 7) (v := .agg #[.bool false, .slice a4 (en - s) c4, .slice none 0 0]) rfl (by kernel_rfl) (by kernel_rfl) (by kernel_rfl) (fun _ _ _ h => h) (.inl ⟨by rfl, fun wx _ => by go_simp⟩) HP4.out ?_
  simp only [Act.put]
  refine wpAnyH_ready (rs := [10]) (by kernel_rfl) (by simp) ?_
  refine AllReadyH.cons rfl (fun K hK => ?_) AllReadyH.nil
  have hd0 := blk_cell HBK4.out 0
  have hd1 := blk_cell HBK4.out 1
  have hd2 := blk_cell HBK4.out 2
  have hf0 := blk_frozen HBK4.out 0
  have hf1 := blk_frozen HBK4.out 1
  have hf2 := blk_frozen HBK4.out 2
  simp at hd0 hd1 hd2
  go_simp
  have KK := fin_z (a := .bool false) (b := .slice a4 (en - s) c4) (c := .slice none 0 0) HBK4.out F4.out (Nat.le_refl _)
  have HS5 := hid (show ((((w4.setCell ⟨w.heap.size, 0, none⟩ (.bool false)).setCell ⟨w.heap.size, 1, none⟩ (.slice a4 (en - s) c4)).setCell ⟨w.heap.size, 2, none⟩ (.slice none 0 0)).heap[w2.heap.size]? = some (.cells #[.bool false, .int .i64 (s : Int), .int .i64 (en : Int)] 77 (0, 0))) by
    rw [blk_setne _ _ _ (by omega), blk_setne _ _ _ (by omega), blk_setne _ _ _ (by omega)]; exact HP4.out)
  have HI := hid (show IsF (((w4.setCell ⟨w.heap.size, 0, none⟩ (.bool false)).setCell ⟨w.heap.size, 1, none⟩ (.slice a4 (en - s) c4)).setCell ⟨w.heap.size, 2, none⟩ (.slice none 0 0)) w.heap.size (((w4.setCell ⟨w.heap.size, 0, none⟩ (.bool false)).setCell ⟨w.heap.size, 1, none⟩ (.slice a4 (en - s) c4)).setCell ⟨w.heap.size, 2, none⟩ (.slice none 0 0)).heap.size (n + 1) (.agg #[.bool false, .slice a4 (en - s) c4, .slice none 0 0]) (mkT false M []) by
    have o5 : (((w4.setCell ⟨w.heap.size, 0, none⟩ (.bool false)).setCell ⟨w.heap.size, 1, none⟩ (.slice a4 (en - s) c4)).setCell ⟨w.heap.size, 2, none⟩ (.slice none 0 0)).ownsRow w2.heap.size 5 1 (.slice a4 (en - s) c4) (en - s) (bv M) := by
      refine ownsRow_of_block (ownsRow_base O4.out (by simp)) fun k hk => ?_
      have := ((ownsRow_base (B' := w2.heap.size) O4.out (by simp)).lt k hk).1
      rw [blk_setne _ _ _ (by omega), blk_setne _ _ _ (by omega), blk_setne _ _ _ (by omega)]
    refine ⟨_, none, 0, rfl, Rd.ownN o5 HML.out.symm, fun k hk => ?_, HMB.out, ?_, Nat.le_refl _, Nat.zero_le _, fun h => by cases h⟩
    · have := o5.lt k hk; omega
    · show M.length ≤ _
      rw [HML.out]; omega)
  have HG5 := hid (show ((((w4.setCell ⟨w.heap.size, 0, none⟩ (.bool false)).setCell ⟨w.heap.size, 1, none⟩ (.slice a4 (en - s) c4)).setCell ⟨w.heap.size, 2, none⟩ (.slice none 0 0)).heap[g]? = some (.cells #[.int .i64 ((c + 1 : Nat) : Int)] 3 (0, 0))) by
    rw [blk_setne _ _ _ (by omega), blk_setne _ _ _ (by omega), blk_setne _ _ _ (by omega)]; exact H4.out)
  generalize hW5 : (((w4.setCell ⟨w.heap.size, 0, none⟩ (.bool false)).setCell ⟨w.heap.size, 1, none⟩ (.slice a4 (en - s) c4)).setCell ⟨w.heap.size, 2, none⟩ (.slice none 0 0)) = w5 at KK HS5 HI HG5 ⊢
  refine hK.out _ _ HS5.out (fun _ => ?_)
  have HKK := hid KK
  clear hK K hd0 hd1 hd2 hf0 hf1 hf2 hW5 KK
  refine wpAnyH_ready (rs := [11]) (by kernel_rfl) (by simp) ?_
  refine AllReadyH.cons rfl (fun K hK => ?_) AllReadyH.nil
  go_simp
  refine hK.out _ _ HS5.out (fun _ => ?_)
  clear hK K
  refine wpAnyH_ready (rs := [12]) (by kernel_rfl) (by simp) ?_
  refine AllReadyH.cons rfl (fun K hK => ?_) AllReadyH.nil
  go_simp
  refine hK.out _ _ HS5.out (fun _ => ?_)
  clear hK K
  refine wpAnyH_done (by kernel_rfl) ?_ _
  go_wp2
  exact bodyPost_ret (ret_ctt rfl rfl (load_item HKK.out.1)) rfl ⟨⟨_, rfl, HI.out, HG5.out⟩, HKK.out.2⟩
end Go.Proofs.YtbbaaegfbbjnjaaDoor
