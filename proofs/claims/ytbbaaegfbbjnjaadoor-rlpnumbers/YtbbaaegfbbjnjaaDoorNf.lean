/-
  Words: read back by the program and by the document.
-/
import Derived.Test.YtbbaaegfbbjnjaaDoorNe2
import Derived.Laws.CopyOwn
namespace Go.Proofs.YtbbaaegfbbjnjaaDoor
open Go.ChangeShapes Go.WideShapes Go.ChangeAt Go.RowKit

theorem wpList_mvW {ops : Array Oper} {rest : List Oper} {op : Oper} {a : Act} {w : World} {Q : Exit → Act → World → Prop} (hgd : op.guard = none) (x : Operand) (ho : op.op = .move x) (h : wpList Tryd.prog ops Q rest (a.put op.dst (a.eval x)) w) : wpList Tryd.prog ops Q (op :: rest) a w :=
  wpList_plain hgd fun K hK => by
    unfold Oper.wp execOp
    simp only [ho, Sem.run_pure]
    exact hK _ _ h
theorem fr_belowB {w w1 w2 : World} {B : Nat} (f : Fr [] w w1) (h : Below B w1 w2) (hB : w.heap.size ≤ B) : Fr [] w w2 :=
  ⟨h.os.trans f.os, h.tape.trans f.tape, h.output.trans f.output, Nat.le_trans f.size h.size, fun k hk hn => (h.block k (by omega)).trans (f.block k hk hn)⟩
theorem bv_rep (n : Nat) (l : List Nat) : bv (List.replicate n 0 ++ l) = List.replicate n (.int .u8 0) ++ bv l := by
  rw [bv_append]; unfold bv; rw [List.map_replicate]; rfl
theorem copy32 {w : World} {p q n c : Nat} {l : List Nat} {a1 : Option Addr} {t : TypeId} (hX : w.heap[p]? = some (.cells (bv (List.replicate 32 0)).toArray t (0, 0))) (hn : n = l.length) (hle : n ≤ 32) (hq : 0 < n → q = 32 - n) (hr : Rd w (.slice a1 n c) (bv l)) :
    ∃ w', (Builtin.copy_ #[25, 25] 3 #[.slice (some ⟨p, q, none⟩) n n, .slice a1 n c]).run Tryd.prog w = .ok (.int .i64 (n : Int)) w' ∧ w'.heap[p]? = some (.cells (bv (padL 32 l)).toArray t (0, 0)) ∧ Below p w w' := by
  by_cases h0 : n = 0
  · subst h0
    have hl0 : l = [] := List.eq_nil_of_length_eq_zero hn.symm
    subst hl0
    exact ⟨w, run_copy_none (P := Tryd.prog) w 25 25 3 5 _ a1 0 0 0 c Tryd.underlying25 (by kernel_rfl) rfl, by rw [hX]; unfold padL; simp, Below.refl _ _⟩
  · have hq' := hq (by omega)
    rcases hr.split with ⟨e, _⟩ | ⟨b, o, c', e, _, _, hc⟩
    · rw [e] at hn; exact absurd hn h0
    simp only [Value.slice.injEq] at e
    obtain ⟨rfl, e4, rfl⟩ := e
    have hbl : (bv l).length = n := by rw [bv_len, hn]
    have := run_copy_row (P := Tryd.prog) w 25 25 3 5 p q n n ⟨b, o, none⟩ n c (bv (List.replicate 32 0)).toArray t (bv l) Tryd.underlying25 (by kernel_rfl) hX (by rw [hbl]; exact (Nat.min_self n).symm)
      (fun j v hj => by
        have hj' := hj
        unfold bv at hj'
        rw [List.getElem?_map] at hj'
        cases hm : l[j]? with
        | none => rw [hm] at hj'; cases hj'
        | some x => rw [hm] at hj'; cases hj'; rw [Addr.add_lit]; exact hc j x hm)
      (by rw [hbl, List.size_toArray, bv_len, List.length_replicate]; omega) bv_one
    rw [hbl] at this
    refine ⟨_, this, ?_, ?_⟩
    · rw [setRow_heap w p _ _ t _ hX]
      congr 2
      have e1 : (bv (List.replicate 32 0)).toArray.toList.take q = List.replicate (32 - n) (.int .u8 0) := by
        show List.take q (bv (List.replicate 32 0)) = _
        unfold bv
        rw [List.map_replicate, List.take_replicate, Nat.min_eq_left (by omega), hq']; rfl
      have e2 : (bv (List.replicate 32 0)).toArray.toList.drop (q + n) = [] := List.drop_eq_nil_of_le (by show (bv (List.replicate 32 0)).length ≤ _; rw [bv_len, List.length_replicate]; omega)
      rw [e1, e2, List.append_nil]
      unfold padL
      rw [bv_rep, ← hn]
    · exact below_setRow (Below.refl _ _) (Nat.le_refl _) _

set_option maxRecDepth 20000 in
set_option maxHeartbeats 3200000 in
theorem unword_c (w : World) {v : Value} {b : List Nat} (hr : Rd w v (bv b)) (hb : By b) (hl : b.length ≤ 140737488355328) :
    Calls Tryd.prog 11 #[v] w fun e w' => e = .returned (.tuple #[.agg (bv (padL 32 (unL b 32).1)).toArray, .int .i64 ((unL b 32).2 : Int)]) ∧ Fr [] w w' := by
  obtain ⟨W, hW⟩ : ∃ W, W = (w.alloc (.cells #[.int .u8 0, .int .u8 0, .int .u8 0, .int .u8 0, .int .u8 0, .int .u8 0, .int .u8 0, .int .u8 0, .int .u8 0, .int .u8 0, .int .u8 0, .int .u8 0, .int .u8 0, .int .u8 0, .int .u8 0, .int .u8 0, .int .u8 0, .int .u8 0, .int .u8 0, .int .u8 0, .int .u8 0, .int .u8 0, .int .u8 0, .int .u8 0, .int .u8 0, .int .u8 0, .int .u8 0, .int .u8 0, .int .u8 0, .int .u8 0, .int .u8 0, .int .u8 0] 24)).alloc (.cells #[.int .u8 0, .int .u8 0, .int .u8 0, .int .u8 0, .int .u8 0, .int .u8 0, .int .u8 0, .int .u8 0, .int .u8 0, .int .u8 0, .int .u8 0, .int .u8 0, .int .u8 0, .int .u8 0, .int .u8 0, .int .u8 0, .int .u8 0, .int .u8 0, .int .u8 0, .int .u8 0, .int .u8 0, .int .u8 0, .int .u8 0, .int .u8 0, .int .u8 0, .int .u8 0, .int .u8 0, .int .u8 0, .int .u8 0, .int .u8 0, .int .u8 0, .int .u8 0] 24) := ⟨_, rfl⟩
  have F : Hid (Fr [] w W) := hid (by rw [hW]; exact ((Fr.refl _ w).alloc _).alloc _)
  have N1 : Hid (W.heap[w.heap.size]? = some (.cells (bv (List.replicate 32 0)).toArray 24 (0, 0))) := hid (by rw [hW, blk_old _ _ (by simp)]; exact blk_new _ _)
  have N2 : Hid (W.heap[w.heap.size + 1]? = some (.cells (bv (List.replicate 32 0)).toArray 24 (0, 0))) := hid (by rw [hW]; exact new_at _ _ (by simp))
  have UC := hid (undig_c W (hr.fr F.out) hb hl (most := 32) (by omega))
  have hle := unL_le (b := b) (most := 32)
  obtain ⟨ao, cc, hv⟩ := hr.form
  rw [bv_len] at hv
  subst hv
  generalize unL b 32 = U at *
  generalize b.length = L at *
  obtain ⟨l, e⟩ := U
  dsimp only at UC hle ⊢
  obtain ⟨PP, hPP⟩ : ∃ P, P = padL 32 l := ⟨_, rfl⟩
  have HPP := hid hPP
  have HPL : Hid (PP.length = 32) := hid (by rw [hPP]; exact pad_len hle)
  rw [← hPP]
  clear hr hb hPP
  go_enter Tryd.func11, Tryd.ntmps11
  go_upto_region 2 with fail
  rw [← hW]
  clear hW
  go_wp2_with fail
  refine UC.out.mono ?_
  rintro r w1 ⟨⟨a1, c1, rfl, r1, b1⟩, f1⟩
  have F1 := hid (F.out.trans f1)
  have X1 := hid (f1.at N1.out (by simp))
  have X2 := hid (f1.at N2.out (by simp))
  have R1 := hid r1
  obtain ⟨n, hn⟩ : ∃ n, n = l.length := ⟨_, rfl⟩
  rw [← hn] at R1 hle ⊢
  have HN := hid hn
  clear r1 b1 f1 hn
  obtain ⟨m, hm⟩ : ∃ m, m = 32 - n := ⟨_, rfl⟩
  have hmi : (32 : Int) - (n : Int) = (m : Int) := by omega
  have hmw : IntKind.i64.wrap (m : Int) = (m : Int) := by rw [IntKind.wrap_i64]; omega
  obtain ⟨q, hq⟩ : ∃ q, q = if m = 32 then 0 else m := ⟨_, rfl⟩
  have hsl := slice32l w1 (w.heap.size + 1) m (by omega)
  rw [← hq, show 32 - m = n by omega] at hsl
  have HQ : Hid (0 < n → q = 32 - n) := hid (fun h => by rw [hq, if_neg (by omega)]; exact hm)
  obtain ⟨w2, hcp, x2, b2⟩ := copy32 X2.out HN.out hle HQ.out R1.out
  rw [← HPP.out] at x2
  have G2 := hid x2
  have G1 : Hid (w2.heap[w.heap.size]? = some (.cells (bv (List.replicate 32 0)).toArray 24 (0, 0))) := hid ((b2.block _ (Nat.lt_succ_self _)).trans X1.out)
  have F2 := hid (fr_belowB F1.out b2 (Nat.le_succ _))
  clear hm hq x2 b2
  go_upto_region 4 with fail
  apply wp_region_lit
  refine wpList_ldW rfl (.tmp 4) rfl HPL.out G2.out (by simp [Act.eval]) ?_
  refine wpList_mvW rfl (.tmp 6) rfl ?_
  refine wpList_stW (m := PP) rfl (.tmp 2) (.tmp 18) rfl (by simp) HPL.out G1.out (by simp [Act.eval, Act.put]) (by simp [Act.eval, Act.put]) ?_
  have RH := hid (row_heapW (m := PP) G1.out)
  have RF := hid (F2.out.rowW (bv PP).toArray (.inr (Nat.le_refl w.heap.size)))
  generalize World.setRow _ w.heap.size (bv PP).toArray = w3 at RH RF ⊢
  go_wp2
  exact bodyPost_ret (ret_ct rfl rfl (ldW HPL.out RH.out)) rfl ⟨rfl, RF.out⟩

def padTo (l : List Nat) (i : Nat) : List Nat := List.replicate (32 - l.length) 0 ++ (l.take i ++ List.replicate (l.length - i) 0)
theorem padTo_len {l : List Nat} {i : Nat} (h : l.length ≤ 32) (hi : i ≤ l.length) : (padTo l i).length = 32 := by unfold padTo; simp; omega
theorem padTo_zero {l : List Nat} (h : l.length ≤ 32) : padTo l 0 = List.replicate 32 0 := by
  unfold padTo; rw [List.take_zero, List.nil_append, List.replicate_append_replicate]; congr 1; omega
theorem padTo_all {l : List Nat} : padTo l l.length = padL 32 l := by
  unfold padTo padL; rw [List.take_length, Nat.sub_self]; simp
theorem padTo_step {l : List Nat} {i x : Nat} (hx : l[i]? = some x) : (padTo l i).set (32 - l.length + i) x = padTo l (i + 1) := by
  obtain ⟨hi, _⟩ := List.getElem?_eq_some_iff.1 hx
  have ht : (l.take i).length = i := by rw [List.length_take]; omega
  unfold padTo
  rw [List.set_append_right _ _ (by rw [List.length_replicate]; omega), List.length_replicate, Nat.add_sub_cancel_left, List.set_append_right _ _ (by rw [ht]; omega), ht, Nat.sub_self, List.take_add_one, hx, show l.length - i = (l.length - (i + 1)) + 1 by omega, List.replicate_succ, List.set_cons_zero]
  simp
theorem bv_set (l : List Nat) (i x : Nat) : (bv l).toArray.setIfInBounds i (.int .u8 (x : Int)) = (bv (l.set i x)).toArray := by
  unfold bv; rw [List.map_set]; simp

set_option maxRecDepth 20000 in
set_option maxHeartbeats 3200000 in
theorem runword_c (w : World) {v : Value} {b : List Nat} (hr : Rd w v (bv b)) (hb : By b) (hl : b.length ≤ 140737488355328) :
    Calls Tryd.prog 13 #[v] w fun e w' => e = .returned (.tuple #[.agg (bv (padL 32 (unL b 32).1)).toArray, .int .i64 ((unL b 32).2 : Int)]) ∧ Fr [] w w' := by
  obtain ⟨W, hW⟩ : ∃ W, W = w.alloc (.cells #[.int .u8 0, .int .u8 0, .int .u8 0, .int .u8 0, .int .u8 0, .int .u8 0, .int .u8 0, .int .u8 0, .int .u8 0, .int .u8 0, .int .u8 0, .int .u8 0, .int .u8 0, .int .u8 0, .int .u8 0, .int .u8 0, .int .u8 0, .int .u8 0, .int .u8 0, .int .u8 0, .int .u8 0, .int .u8 0, .int .u8 0, .int .u8 0, .int .u8 0, .int .u8 0, .int .u8 0, .int .u8 0, .int .u8 0, .int .u8 0, .int .u8 0, .int .u8 0] 24) := ⟨_, rfl⟩
  have F : Hid (Fr [] w W) := hid (by rw [hW]; exact (Fr.refl _ w).alloc _)
  have N1 : Hid (W.heap[w.heap.size]? = some (.cells (bv (List.replicate 32 0)).toArray 24 (0, 0))) := hid (by rw [hW]; exact blk_new _ _)
  have UC := hid (rnum_c W (hr.fr F.out) hb hl (most := 32) (by omega))
  have hle := unL_le (b := b) (most := 32)
  obtain ⟨ao, cc, hv⟩ := hr.form
  rw [bv_len] at hv
  subst hv
  generalize unL b 32 = U at *
  generalize b.length = L at *
  obtain ⟨l, e⟩ := U
  dsimp only at UC hle ⊢
  obtain ⟨PP, hPP⟩ : ∃ P, P = padL 32 l := ⟨_, rfl⟩
  have HPP := hid hPP
  have HPL : Hid (PP.length = 32) := hid (by rw [hPP]; exact pad_len hle)
  rw [← hPP]
  clear hr hb hPP
  have hws : W.heap.size = w.heap.size + 1 := by rw [hW]; show (w.heap.push _).size = _; rw [Array.size_push]
  go_enter Tryd.func13, Tryd.ntmps13
  go_wp2_with fail
  rw [← hW]
  clear hW
  refine UC.out.mono ?_
  rintro r w1 ⟨⟨a1, c1, rfl, r1, b1⟩, f1⟩
  obtain ⟨Z, hZ⟩ : ∃ Z, Z = w1.heap.size := ⟨_, rfl⟩
  have hZ1 : w.heap.size + 1 ≤ Z := by rw [hZ, ← hws]; exact f1.size
  obtain ⟨W1, hW1⟩ : ∃ W, W = w1.alloc (.cells #[.int .u8 0, .int .u8 0, .int .u8 0, .int .u8 0, .int .u8 0, .int .u8 0, .int .u8 0, .int .u8 0, .int .u8 0, .int .u8 0, .int .u8 0, .int .u8 0, .int .u8 0, .int .u8 0, .int .u8 0, .int .u8 0, .int .u8 0, .int .u8 0, .int .u8 0, .int .u8 0, .int .u8 0, .int .u8 0, .int .u8 0, .int .u8 0, .int .u8 0, .int .u8 0, .int .u8 0, .int .u8 0, .int .u8 0, .int .u8 0, .int .u8 0, .int .u8 0] 24) := ⟨_, rfl⟩
  have F0 : Hid (Fr [] w w1) := hid (F.out.trans f1)
  have F1 : Hid (Fr [] w1 W1) := hid (by rw [hW1]; exact (Fr.refl _ w1).alloc _)
  have X1 : Hid (W1.heap[w.heap.size]? = some (.cells (bv (List.replicate 32 0)).toArray 24 (0, 0))) := hid (by rw [hW1, blk_old _ _ (by omega)]; exact f1.at N1.out (by simp))
  have X2 : Hid (W1.heap[Z]? = some (.cells (bv (List.replicate 32 0)).toArray 24 (0, 0))) := hid (by rw [hW1, hZ]; exact blk_new _ _)
  have R1 := hid r1
  have B1 := hid b1
  have HZ := hid hZ
  obtain ⟨n, hn⟩ : ∃ n, n = l.length := ⟨_, rfl⟩
  rw [← hn] at R1 hle ⊢
  have HN := hid hn
  clear r1 b1 f1 hn hws UC N1
  go_upto_region 3 with fail
  rw [← hW1, ← hZ]
  clear hW1 hZ
  go_wp2_with fail
  go_loopw [7] (fun v7 wr => ∃ i : Nat, i ≤ n ∧ v7 = .int .i64 (i : Int) ∧ wr.heap[w.heap.size]? = some (.cells (bv (List.replicate 32 0)).toArray 24 (0, 0)) ∧ wr.heap[Z]? = some (.cells (bv (padTo l i)).toArray 24 (0, 0)) ∧ Fr [] w1 wr) (fun v7 _ => n - (intOf v7).toNat)
  case atStart => exact ⟨0, by omega, rfl, X1.out, by rw [padTo_zero (by rw [← HN.out]; exact hle)]; exact X2.out, F1.out⟩
  case round =>
    obtain ⟨i, hi, rfl, hx1, hx2, hf⟩ := hrel
    have HX1 := hid hx1
    have HX2 := hid hx2
    have HR := hid (R1.out.fr hf)
    have HF := hid hf
    clear hx1 hx2 hf
    by_cases hin : i < n
    · obtain ⟨x, hx⟩ : ∃ x, l[i]? = some x := ⟨_, List.getElem?_eq_getElem (by rw [← HN.out]; exact hin)⟩
      have hxb := B1.out.at hx
      rcases HR.out.split with ⟨e0, _⟩ | ⟨q, o, c, e0, _, _, hc⟩
      · rw [e0] at hx; simp at hx
      simp only [Value.slice.injEq] at e0
      obtain ⟨rfl, e1, rfl⟩ := e0
      have hcx := hc i x hx
      have HXX := hid hx
      have HST := hid (padTo_step hx)
      have hin' : (i : Int) < (n : Int) := by omega
      have hpl : (padTo l i).length = 32 := padTo_len (by rw [← HN.out]; exact hle) (by rw [← HN.out]; exact hi)
      have hcz : wr.cell? ⟨Z, 32 - n + i, none⟩ = some ((bv (padTo l i)).toArray[32 - n + i]'(by rw [List.size_toArray, bv_len, hpl]; omega)) := by rw [blk_cell HX2.out]; exact Array.getElem?_eq_getElem _
      generalize (bv (padTo l i)).toArray[32 - n + i]'(by rw [List.size_toArray, bv_len, hpl]; omega) = y at hcz
      have hfz : wr.frozen? ⟨Z, 32 - n + i, none⟩ = false := blk_frozen HX2.out _
      have HZ2 : Hid ((wr.setCell ⟨Z, 32 - n + i, none⟩ (.int .u8 (x : Int))).heap[Z]? = some (.cells (bv (padTo l (i + 1))).toArray 24 (0, 0))) := hid (by rw [blk_set HX2.out, bv_set, ← HST.out, HN.out])
      have HZ1 : Hid ((wr.setCell ⟨Z, 32 - n + i, none⟩ (.int .u8 (x : Int))).heap[w.heap.size]? = some (.cells (bv (List.replicate 32 0)).toArray 24 (0, 0))) := hid ((blk_setne _ _ _ (by omega)).trans HX1.out)
      have HZ3 : Hid (Fr [] w1 (wr.setCell ⟨Z, 32 - n + i, none⟩ (.int .u8 (x : Int)))) := hid (HF.out.set _ _ (.inr (by rw [HZ.out]; exact Nat.le_refl _)))
      clear hc e1 hx hpl
      go_wp2
      exact ⟨⟨i + 1, by omega, by go_num, HZ1.out, HZ2.out, HZ3.out⟩, by simp only [intOf]; omega⟩
    · have hi2 : i = n := by omega
      subst hi2
      have hin' : ¬ (i : Int) < (i : Int) := by omega
      have X3 : Hid (wr.heap[Z]? = some (.cells (bv PP).toArray 24 (0, 0))) := hid (by have := HX2.out; rw [HN.out, padTo_all, ← HPP.out] at this; exact this)
      go_upto_region 7 with fail
      apply wp_region_lit
      refine wpList_ldW rfl (.tmp 6) rfl HPL.out X3.out (by simp [Act.eval]) ?_
      refine wpList_mvW rfl (.tmp 5) rfl ?_
      refine wpList_stW (m := PP) rfl (.tmp 2) (.tmp 29) rfl (by simp) HPL.out HX1.out (by simp [Act.eval, Act.put]) (by simp [Act.eval, Act.put]) ?_
      have RH := hid (row_heapW (m := PP) HX1.out)
      have RF := hid ((F0.out.trans HF.out).rowW (bv PP).toArray (.inr (Nat.le_refl w.heap.size)))
      generalize World.setRow _ w.heap.size (bv PP).toArray = w3 at RH RF ⊢
      go_wp2
      exact bodyPost_ret (ret_ct rfl rfl (ldW HPL.out RH.out)) rfl ⟨rfl, RF.out⟩
end Go.Proofs.YtbbaaegfbbjnjaaDoor
