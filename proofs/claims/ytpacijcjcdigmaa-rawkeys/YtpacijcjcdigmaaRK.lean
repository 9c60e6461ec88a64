/-
  RawApart walked: first lists of six keys.
-/
import Derived.Test.YtpacijcjcdigmaaJ18
import Derived.Test.YtpacijcjcdigmaaRL
import Derived.OrdersHeld
namespace Go.Proofs.Ytpacijcjcdigmaa
open Go.ChangeShapes Go.WideShapes Go.ChangeAt Go.RowKit

/-- What all operations of a region keep may be said stronger on the way. -/
theorem wpAnyH_str {P : Program} {md : Region.Mode} {ops : Array Oper} {Q : Exit → Act → World → Prop} {S S' : World → Prop} (h : ∀ w, S' w → S w) : ∀ (fuel : Nat) (listed : Array Bool) (a : Act) (w : World), wpAnyH P md ops Q S' fuel listed a w → wpAnyH P md ops Q S fuel listed a w
  | 0, _, _, _, k => k
  | fuel + 1, _, _, _, k => ⟨k.1, fun i hi => wpOp_mono (fun a' w' h' => ⟨h _ h'.1, wpAnyH_str h fuel _ a' w' h'.2⟩) (k.2 i hi)⟩

theorem rdL6 {w : World} {L q1 q2 q3 q4 q5 q6 n : Nat} {a b : List Nat} (x : w.heap[L]? = some (.cells #[.slice (some ⟨q1, 0, none⟩) 33 33, .slice (some ⟨q2, 0, none⟩) 33 33, .slice (some ⟨q3, 0, none⟩) 33 33, .slice (some ⟨q4, 0, none⟩) 65 65, .slice (some ⟨q5, 0, none⟩) 9 9, .slice (some ⟨q6, 0, none⟩) 9 9] 26 (0, 0)))
    (ha : a.length = 32) (ba : By a) (hb : b.length = 32) (bb : By b)
    (h1 : w.heap[q1]? = some (.cells (bv (110 :: a)).toArray 51 (0, 0))) (h2 : w.heap[q2]? = some (.cells (bv (99 :: a)).toArray 51 (0, 0))) (h3 : w.heap[q3]? = some (.cells (bv (97 :: a)).toArray 51 (0, 0)))
    (h4 : w.heap[q4]? = some (.cells (bv (111 :: (a ++ b))).toArray 48 (0, 0))) (h5 : w.heap[q5]? = some (.cells (bv (114 :: be 8 n)).toArray 52 (0, 0))) (h6 : w.heap[q6]? = some (.cells (bv (98 :: be 8 n)).toArray 52 (0, 0))) :
    RdL w (.slice (some ⟨L, 0, none⟩) 6 6) [110 :: a, 99 :: a, 97 :: a, 111 :: (a ++ b), 114 :: be 8 n, 98 :: be 8 n] := by
  have bc : ∀ c l, c < 256 → By l → By (c :: l) := fun c l hc hl x hx => by
    rcases List.mem_cons.1 hx with rfl | hx
    · exact hc
    · exact hl x hx
  have key : ∀ {q m : Nat} {l : List Nat} {t : TypeId}, w.heap[q]? = some (.cells (bv l).toArray t (0, 0)) → l.length = m → Rd w (.slice (some ⟨q, 0, none⟩) m m) (bv l) := fun h e => by
    have := Rd.blk h (Nat.le_refl _); rwa [e] at this
  have hc : ∀ j, w.cell? ⟨L, 0 + j, none⟩ = #[Value.slice (some ⟨q1, 0, none⟩) 33 33, .slice (some ⟨q2, 0, none⟩) 33 33, .slice (some ⟨q3, 0, none⟩) 33 33, .slice (some ⟨q4, 0, none⟩) 65 65, .slice (some ⟨q5, 0, none⟩) 9 9, .slice (some ⟨q6, 0, none⟩) 9 9][j]? := fun j => by rw [Nat.zero_add]; exact blk_cell x j
  refine ⟨_, _, rfl, fun _ => ⟨L, 0, rfl, fun j r hj => ?_⟩⟩
  have l1 : (110 :: a).length = 33 := by simp [ha]
  have l2 : (99 :: a).length = 33 := by simp [ha]
  have l3 : (97 :: a).length = 33 := by simp [ha]
  have l4 : (111 :: (a ++ b)).length = 65 := by simp [ha, hb]
  have l5 : (114 :: be 8 n).length = 9 := by simp [be_len]
  have l6 : (98 :: be 8 n).length = 9 := by simp [be_len]
  match j, hj with
  | 0, hj => obtain rfl : _ = r := Option.some.inj hj; exact ⟨some ⟨q1, 0, none⟩, 33, by rw [hc, l1]; rfl, by rw [l1]; exact key h1 l1, bc _ _ (by omega) ba, by omega⟩
  | 1, hj => obtain rfl : _ = r := Option.some.inj hj; exact ⟨some ⟨q2, 0, none⟩, 33, by rw [hc, l2]; rfl, by rw [l2]; exact key h2 l2, bc _ _ (by omega) ba, by omega⟩
  | 2, hj => obtain rfl : _ = r := Option.some.inj hj; exact ⟨some ⟨q3, 0, none⟩, 33, by rw [hc, l3]; rfl, by rw [l3]; exact key h3 l3, bc _ _ (by omega) ba, by omega⟩
  | 3, hj => obtain rfl : _ = r := Option.some.inj hj; exact ⟨some ⟨q4, 0, none⟩, 65, by rw [hc, l4]; rfl, by rw [l4]; exact key h4 l4, bc _ _ (by omega) (ba.append bb), by omega⟩
  | 4, hj => obtain rfl : _ = r := Option.some.inj hj; exact ⟨some ⟨q5, 0, none⟩, 9, by rw [hc, l5]; rfl, by rw [l5]; exact key h5 l5, bc _ _ (by omega) (be_by _ _), by omega⟩
  | 5, hj => obtain rfl : _ = r := Option.some.inj hj; exact ⟨some ⟨q6, 0, none⟩, 9, by rw [hc, l6]; rfl, by rw [l6]; exact key h6 l6, bc _ _ (by omega) (be_by _ _), by omega⟩
  | k + 6, hj => cases hj

theorem nat_beq (n m : Nat) : ((n : Int) == (m : Int)) = decide (n = m) := by
  by_cases h : n = m
  · subst h; simp
  · rw [decide_eq_false h]; exact beq_eq_false_iff_ne.2 (by omega)
theorem guardH : Try.prog.eqGuardType Try.prog.depth 23 = false := by kernel_rfl
theorem eqlG (w : World) {l m : List Nat} (h : l.length = 32) (hm : m.length = 32) : (binOp .eql 23 (.agg (bv l).toArray) (.agg (bv m).toArray)).run Try.prog w = .ok (.bool (decide (l = m))) w := by
  rw [run_eql_struct, eqInG w 9998 h hm]; rfl
/-- What the loops keep. -/
structure ApI (w : World) (LL MM SB : Nat) (L K : List (List Nat)) (cs : Array Value) (wr : World) : Prop where
  rl : RdL wr (.slice (some ⟨LL, 0, none⟩) 6 6) L
  rk : RdL wr (.slice (some ⟨MM, 0, none⟩) 6 6) K
  sb : wr.heap[SB]? = some (.cells cs 31 (0, 0))
  fr : Fr [] w wr
theorem ApI.drew {w wr : World} {LL MM SB : Nat} {L K : List (List Nat)} {cs : Array Value} (h : ApI w LL MM SB L K cs wr) : ApI w LL MM SB L K cs wr.drew :=
  ⟨h.rl.fr (Fr.refl _ wr).drew, h.rk.fr (Fr.refl _ wr).drew, h.sb, h.fr.drew⟩
theorem same_cells {l : List Bool} {cs : Array Value} {i : Nat} {x : Bool} (h : cs = (l.map Value.bool).toArray) (hx : cs[i]? = some (.bool x)) : l[i]? = some x := by
  subst h
  rw [List.getElem?_toArray, List.getElem?_map] at hx
  cases hl : l[i]? with
  | none => rw [hl] at hx; cases hx
  | some y => rw [hl] at hx; simp at hx; rw [hx]

theorem convB {w : World} {p c n : Nat} {t : TypeId} (h : w.heap[p]? = some (.cells (bv (c :: be 8 n)).toArray t (0, 0))) : (convert 26 9 (.slice (some ⟨p, 0, none⟩) 9 9)).run Try.prog w = .ok (.string (strOf (c :: be 8 n))) w :=
  run_conv (by have := Rd.blk h (c := 9) (by simp [be_len]); simpa [be_len] using this)
theorem bool6 {x0 x1 x2 x3 x4 x5 : Bool} {i : Nat} (h : i < 6) : ∃ x, #[Value.bool x0, .bool x1, .bool x2, .bool x3, .bool x4, .bool x5][i]? = some (.bool x) := by
  match i, h with
  | 0, _ => exact ⟨_, rfl⟩
  | 1, _ => exact ⟨_, rfl⟩
  | 2, _ => exact ⟨_, rfl⟩
  | 3, _ => exact ⟨_, rfl⟩
  | 4, _ => exact ⟨_, rfl⟩
  | 5, _ => exact ⟨_, rfl⟩
theorem rdL_at {w : World} {L n : Nat} {rs : List (List Nat)} {j : Nat} {r : List Nat} (h : RdL w (.slice (some ⟨L, 0, none⟩) n n) rs) (hj : rs[j]? = some r) : ∃ a c, w.cell? ⟨L, j, none⟩ = some (.slice a r.length c) ∧ Rd w (.slice a r.length c) (bv r) ∧ By r := by
  obtain ⟨a, c, e, k⟩ := h
  have h0 : 0 < rs.length := by
    rcases Nat.lt_or_ge j rs.length with h | h
    · omega
    · rw [List.getElem?_eq_none h] at hj; cases hj
  obtain ⟨b, off, e2, k2⟩ := k h0
  simp only [Value.slice.injEq] at e
  obtain ⟨rfl, _, _⟩ := e
  simp only [Option.some.injEq, Addr.mk.injEq] at e2
  obtain ⟨rfl, rfl, _⟩ := e2
  obtain ⟨a', c', h1, h2, h3, _⟩ := k2 j r hj
  rw [Nat.zero_add] at h1
  exact ⟨a', c', h1, h2, h3⟩

set_option maxRecDepth 20000 in
set_option maxHeartbeats 6400000 in
theorem rawApart_c (w : World) {a b c d : List Nat} {n m : Nat} (hla : a.length = 32) (hlb : b.length = 32) (hlc : c.length = 32) (hld : d.length = 32) (hba : By a) (hbb : By b) (hbc : By c) (hbd : By d) (hn : n < 18446744073709551616) (hm : m < 18446744073709551616) :
    Calls Try.prog 3 #[.agg (bv a).toArray, .agg (bv b).toArray, .agg (bv c).toArray, .agg (bv d).toArray, .int .u64 (n : Int), .int .u64 (m : Int)] w fun e w' => e = .returned (.bool true) ∧ Fr [] w w' := by
  obtain ⟨W, hW⟩ : ∃ W, W = (((w.alloc (.cells (bv a).toArray 23)).alloc (.cells (bv b).toArray 23)).alloc (.cells (bv c).toArray 23)).alloc (.cells (bv d).toArray 23) := ⟨_, rfl⟩
  have F : Hid (Fr [] w W) := hid (by rw [hW]; exact ((((Fr.refl _ w).alloc _).alloc _).alloc _).alloc _)
  have XA : Hid (W.heap[w.heap.size]? = some (.cells (bv a).toArray 23 (0, 0))) := hid (by rw [hW, blk_old _ _ (by simp; omega), blk_old _ _ (by simp; omega), blk_old _ _ (by simp)]; exact blk_new _ _)
  have XB : Hid (W.heap[w.heap.size + 1]? = some (.cells (bv b).toArray 23 (0, 0))) := hid (by rw [hW, blk_old _ _ (by simp), blk_old _ _ (by simp)]; exact new_at _ _ (by simp))
  have XC : Hid (W.heap[w.heap.size + 1 + 1]? = some (.cells (bv c).toArray 23 (0, 0))) := hid (by rw [hW, blk_old _ _ (by simp)]; exact new_at _ _ (by simp))
  have XD : Hid (W.heap[w.heap.size + 1 + 1 + 1]? = some (.cells (bv d).toArray 23 (0, 0))) := hid (by rw [hW]; exact new_at _ _ (by simp))
  have KC := hid (known_c W)
  go_enter Try.func3, Try.ntmps3
  go_upto_region 1 with fail
  rw [← hW]
  clear hW
  go_wp2_with fail
  refine KC.out.mono ?_
  rintro e w1 ⟨rfl, f1⟩
  have F1 := hid (F.out.trans f1)
  have A1 := hid (f1.at XA.out (by simp))
  have B1 := hid (f1.at XB.out (by simp))
  have C1 := hid (f1.at XC.out (by simp))
  have D1 := hid (f1.at XD.out (by simp))
  clear f1 F XA XB XC XD KC
  go_upto_region 3 with fail
  obtain ⟨T0, hT⟩ : ∃ W, W = w1.drew := ⟨_, rfl⟩
  have TF0 : Hid (Fr [] w1 T0) := hid (by rw [hT]; exact (Fr.refl _ w1).drew)
  have TA0 : Hid (T0.heap[w.heap.size]? = some (.cells (bv a).toArray 23 (0, 0))) := hid (by rw [hT]; exact A1.out)
  have TB0 : Hid (T0.heap[w.heap.size + 1]? = some (.cells (bv b).toArray 23 (0, 0))) := hid (by rw [hT]; exact B1.out)
  refine wp_region_held_drew (S := fun w' => w'.heap[w.heap.size]? = some (.cells (bv a).toArray 23 (0, 0)) ∧ w'.heap[w.heap.size + 1]? = some (.cells (bv b).toArray 23 (0, 0))) (by kernel_rfl) (by rw [← hT]; exact ⟨TA0.out, TB0.out⟩) (fun hS => ?_)
  rw [← hT] at hS ⊢
  clear hT
  refine wpAnyH_take (i := 0) (v := .agg (bv a).toArray) rfl (by kernel_rfl) (by kernel_rfl) (by kernel_rfl) (fun _ _ _ h => h) (.inl ⟨by rfl, fun wx hX => by unfold execOp; simp only [Act.eval, Instr.loadAt, Instr.sureAddr, List.getElem_toArray]; simp [ldH hla hX.1]⟩) hS ?_
  simp only [Act.put, List.getElem_toArray, List.getElem_cons_zero, List.set_cons_succ, List.set_cons_zero, List.setIfInBounds_toArray]
  refine wpAnyH_take (i := 2) (v := .agg (bv a).toArray) rfl (by kernel_rfl) (by kernel_rfl) (by kernel_rfl) (fun _ _ _ h => h) (.inl ⟨by rfl, fun wx hX => by unfold execOp; simp only [Act.eval, Instr.loadAt, Instr.sureAddr, List.getElem_toArray]; simp [ldH hla hX.1]⟩) hS ?_
  simp only [Act.put, List.getElem_toArray, List.getElem_cons_succ, List.getElem_cons_zero, List.set_cons_succ, List.set_cons_zero, List.setIfInBounds_toArray]
  refine wpAnyH_take (i := 4) (v := .agg (bv a).toArray) rfl (by kernel_rfl) (by kernel_rfl) (by kernel_rfl) (fun _ _ _ h => h) (.inl ⟨by rfl, fun wx hX => by unfold execOp; simp only [Act.eval, Instr.loadAt, Instr.sureAddr, List.getElem_toArray]; simp [ldH hla hX.1]⟩) hS ?_
  simp only [Act.put, List.getElem_toArray, List.getElem_cons_succ, List.getElem_cons_zero, List.set_cons_succ, List.set_cons_zero, List.setIfInBounds_toArray]
  refine wpAnyH_take (i := 6) (v := .agg (bv a).toArray) rfl (by kernel_rfl) (by kernel_rfl) (by kernel_rfl) (fun _ _ _ h => h) (.inl ⟨by rfl, fun wx hX => by unfold execOp; simp only [Act.eval, Instr.loadAt, Instr.sureAddr, List.getElem_toArray]; simp [ldH hla hX.1]⟩) hS ?_
  simp only [Act.put, List.getElem_toArray, List.getElem_cons_succ, List.getElem_cons_zero, List.set_cons_succ, List.set_cons_zero, List.setIfInBounds_toArray]
  refine wpAnyH_take (i := 7) (v := .agg (bv b).toArray) rfl (by kernel_rfl) (by kernel_rfl) (by kernel_rfl) (fun _ _ _ h => h) (.inl ⟨by rfl, fun wx hX => by unfold execOp; simp only [Act.eval, Instr.loadAt, Instr.sureAddr, List.getElem_toArray]; simp [ldH hlb hX.2]⟩) hS ?_
  simp only [Act.put, List.getElem_toArray, List.getElem_cons_succ, List.getElem_cons_zero, List.set_cons_succ, List.set_cons_zero, List.setIfInBounds_toArray]
  refine wpAnyH_take (i := 9) (v := .int .u64 (n : Int)) rfl (by kernel_rfl) (by kernel_rfl) (by kernel_rfl) (fun _ _ _ h => h) (.inl ⟨by rfl, fun wx _ => by go_simp⟩) hS ?_
  simp only [Act.put, List.getElem_toArray, List.getElem_cons_succ, List.getElem_cons_zero, List.set_cons_succ, List.set_cons_zero, List.setIfInBounds_toArray]
  refine wpAnyH_take (i := 11) (v := .int .u64 (n : Int)) rfl (by kernel_rfl) (by kernel_rfl) (by kernel_rfl) (fun _ _ _ h => h) (.inl ⟨by rfl, fun wx _ => by go_simp⟩) hS ?_
  simp only [Act.put, List.getElem_toArray, List.getElem_cons_succ, List.getElem_cons_zero, List.set_cons_succ, List.set_cons_zero, List.setIfInBounds_toArray]
  clear hS
  refine wpAnyH_ready (rs := [1]) (by kernel_rfl) (by simp) ?_
  refine AllReadyH.cons rfl (fun K hK => ?_) AllReadyH.nil
  go_simp
  refine (nodeKey_c T0 hla).mono ?_
  rintro e T1 ⟨q1, rfl, g1, x1, f1⟩
  refine hK.out _ _ ⟨f1.at TA0.out (by simp), f1.at TB0.out (by simp)⟩ (fun hS => ?_)
  clear hK K hS
  have TA1 := hid (f1.at TA0.out (by simp))
  have TB1 := hid (f1.at TB0.out (by simp))
  have TF1 := hid (TF0.out.trans f1)
  have TX1_1 := hid x1
  clear TA0 TB0 TF0 f1 x1 g1
  refine wpAnyH_ready (rs := [3]) (by kernel_rfl) (by simp) ?_
  refine AllReadyH.cons rfl (fun K hK => ?_) AllReadyH.nil
  go_simp
  refine (codeKey_c T1 hla).mono ?_
  rintro e T2 ⟨q2, rfl, g2, x2, f2⟩
  refine hK.out _ _ ⟨f2.at TA1.out (by simp), f2.at TB1.out (by simp)⟩ (fun hS => ?_)
  clear hK K hS
  have TA2 := hid (f2.at TA1.out (by simp))
  have TB2 := hid (f2.at TB1.out (by simp))
  have TF2 := hid (TF1.out.trans f2)
  have TX1_2 := hid (f2.at TX1_1.out (by simp))
  clear TX1_1
  have TX2_2 := hid x2
  clear TA1 TB1 TF1 f2 x2 g2
  refine wpAnyH_ready (rs := [5]) (by kernel_rfl) (by simp) ?_
  refine AllReadyH.cons rfl (fun K hK => ?_) AllReadyH.nil
  go_simp
  refine (accountKey_c T2 hla).mono ?_
  rintro e T3 ⟨q3, rfl, g3, x3, f3⟩
  refine hK.out _ _ ⟨f3.at TA2.out (by simp), f3.at TB2.out (by simp)⟩ (fun hS => ?_)
  clear hK K hS
  have TA3 := hid (f3.at TA2.out (by simp))
  have TB3 := hid (f3.at TB2.out (by simp))
  have TF3 := hid (TF2.out.trans f3)
  have TX1_3 := hid (f3.at TX1_2.out (by simp))
  clear TX1_2
  have TX2_3 := hid (f3.at TX2_2.out (by simp))
  clear TX2_2
  have TX3_3 := hid x3
  clear TA2 TB2 TF2 f3 x3 g3
  refine wpAnyH_ready (rs := [8]) (by kernel_rfl) (by simp) ?_
  refine AllReadyH.cons rfl (fun K hK => ?_) AllReadyH.nil
  go_simp
  refine (slotKey_c T3 hla hlb).mono ?_
  rintro e T4 ⟨q4, rfl, g4, x4, f4⟩
  refine hK.out _ _ ⟨f4.at TA3.out (by simp), f4.at TB3.out (by simp)⟩ (fun hS => ?_)
  clear hK K hS
  have TA4 := hid (f4.at TA3.out (by simp))
  have TB4 := hid (f4.at TB3.out (by simp))
  have TF4 := hid (TF3.out.trans f4)
  have TX1_4 := hid (f4.at TX1_3.out (by simp))
  clear TX1_3
  have TX2_4 := hid (f4.at TX2_3.out (by simp))
  clear TX2_3
  have TX3_4 := hid (f4.at TX3_3.out (by simp))
  clear TX3_3
  have TX4_4 := hid x4
  clear TA3 TB3 TF3 f4 x4 g4
  refine wpAnyH_ready (rs := [10]) (by kernel_rfl) (by simp) ?_
  refine AllReadyH.cons rfl (fun K hK => ?_) AllReadyH.nil
  go_simp
  refine (rootKey_c T4 hn).mono ?_
  rintro e T5 ⟨q5, rfl, g5, x5, f5⟩
  refine hK.out _ _ ⟨f5.at TA4.out (by simp), f5.at TB4.out (by simp)⟩ (fun hS => ?_)
  clear hK K hS
  have TA5 := hid (f5.at TA4.out (by simp))
  have TB5 := hid (f5.at TB4.out (by simp))
  have TF5 := hid (TF4.out.trans f5)
  have TX1_5 := hid (f5.at TX1_4.out (by simp))
  clear TX1_4
  have TX2_5 := hid (f5.at TX2_4.out (by simp))
  clear TX2_4
  have TX3_5 := hid (f5.at TX3_4.out (by simp))
  clear TX3_4
  have TX4_5 := hid (f5.at TX4_4.out (by simp))
  clear TX4_4
  have TX5_5 := hid x5
  clear TA4 TB4 TF4 f5 x5 g5
  refine wpAnyH_ready (rs := [12]) (by kernel_rfl) (by simp) ?_
  refine AllReadyH.cons rfl (fun K hK => ?_) AllReadyH.nil
  go_simp
  refine (blockKey_c T5 hn).mono ?_
  rintro e T6 ⟨q6, rfl, g6, x6, f6⟩
  refine hK.out _ _ ⟨f6.at TA5.out (by simp), f6.at TB5.out (by simp)⟩ (fun hS => ?_)
  clear hK K hS
  have TA6 := hid (f6.at TA5.out (by simp))
  have TB6 := hid (f6.at TB5.out (by simp))
  have TF6 := hid (TF5.out.trans f6)
  have TX1_6 := hid (f6.at TX1_5.out (by simp))
  clear TX1_5
  have TX2_6 := hid (f6.at TX2_5.out (by simp))
  clear TX2_5
  have TX3_6 := hid (f6.at TX3_5.out (by simp))
  clear TX3_5
  have TX4_6 := hid (f6.at TX4_5.out (by simp))
  clear TX4_5
  have TX5_6 := hid (f6.at TX5_5.out (by simp))
  clear TX5_5
  have TX6_6 := hid x6
  clear TA5 TB5 TF5 f6 x6 g6
  refine wpAnyH_ready (rs := [13]) (by kernel_rfl) (by simp) ?_
  refine AllReadyH.cons rfl (fun K hK => ?_) AllReadyH.nil
  obtain ⟨T7, hT7⟩ : ∃ W, W = T6.alloc (.cells #[.slice (some ⟨q1, 0, none⟩) 33 33, .slice (some ⟨q2, 0, none⟩) 33 33, .slice (some ⟨q3, 0, none⟩) 33 33, .slice (some ⟨q4, 0, none⟩) 65 65, .slice (some ⟨q5, 0, none⟩) 9 9, .slice (some ⟨q6, 0, none⟩) 9 9] 26) := ⟨_, rfl⟩
  obtain ⟨LL, hLL⟩ : ∃ L, L = T6.heap.size := ⟨_, rfl⟩
  have f7 : Fr [] T6 T7 := by rw [hT7]; exact (Fr.refl _ T6).alloc _
  have x7 : T7.heap[LL]? = some (.cells #[.slice (some ⟨q1, 0, none⟩) 33 33, .slice (some ⟨q2, 0, none⟩) 33 33, .slice (some ⟨q3, 0, none⟩) 33 33, .slice (some ⟨q4, 0, none⟩) 65 65, .slice (some ⟨q5, 0, none⟩) 9 9, .slice (some ⟨q6, 0, none⟩) 9 9] 26 (0, 0)) := by rw [hT7, hLL]; exact blk_new _ _
  have RL : Hid (RdL T7 (.slice (some ⟨LL, 0, none⟩) 6 6) [110 :: a, 99 :: a, 97 :: a, 111 :: (a ++ b), 114 :: be 8 n, 98 :: be 8 n]) := hid (rdL6 x7 hla hba hlb hbb (f7.at TX1_6.out (by simp)) (f7.at TX2_6.out (by simp)) (f7.at TX3_6.out (by simp)) (f7.at TX4_6.out (by simp)) (f7.at TX5_6.out (by simp)) (f7.at TX6_6.out (by simp)))
  have TA7 := hid (f7.at TA6.out (by simp))
  have TB7 := hid (f7.at TB6.out (by simp))
  have TF7 := hid (TF6.out.trans f7)
  clear f7 x7 TA6 TB6 TF6 TX1_6 TX2_6 TX3_6 TX4_6 TX5_6 TX6_6
  go_simp
  rw [← hT7, ← hLL]
  clear hT7 hLL
  refine hK.out _ _ ⟨TA7.out, TB7.out⟩ (fun hS => ?_)
  clear hK K hS
  refine wpAnyH_ready (rs := [14]) (by kernel_rfl) (by simp) ?_
  refine AllReadyH.cons rfl (fun K hK => ?_) AllReadyH.nil
  go_simp
  refine hK.out _ _ ⟨TA7.out, TB7.out⟩ (fun hS => ?_)
  clear hK K hS
  refine wpAnyH_done (by kernel_rfl) ?_ _
  have F2 := hid (F1.out.trans TF7.out)
  have C2 := hid (TF7.out.at C1.out (by simp))
  have D2 := hid (TF7.out.at D1.out (by simp))
  have A2 := TA7
  have B2 := TB7
  clear TA7 TB7 TF7 A1 B1 C1 D1 F1
  go_upto_region 4 with fail
  obtain ⟨U0, hT⟩ : ∃ W, W = T7.drew := ⟨_, rfl⟩
  have UF0 : Hid (Fr [] T7 U0) := hid (by rw [hT]; exact (Fr.refl _ T7).drew)
  have UA0 : Hid (U0.heap[w.heap.size + 1 + 1]? = some (.cells (bv c).toArray 23 (0, 0))) := hid (by rw [hT]; exact C2.out)
  have UB0 : Hid (U0.heap[w.heap.size + 1 + 1 + 1]? = some (.cells (bv d).toArray 23 (0, 0))) := hid (by rw [hT]; exact D2.out)
  refine wp_region_held_drew (S := fun w' => w'.heap[w.heap.size + 1 + 1]? = some (.cells (bv c).toArray 23 (0, 0)) ∧ w'.heap[w.heap.size + 1 + 1 + 1]? = some (.cells (bv d).toArray 23 (0, 0))) (by kernel_rfl) (by rw [← hT]; exact ⟨UA0.out, UB0.out⟩) (fun hS => ?_)
  rw [← hT] at hS ⊢
  clear hT
  refine wpAnyH_take (i := 0) (v := .agg (bv c).toArray) rfl (by kernel_rfl) (by kernel_rfl) (by kernel_rfl) (fun _ _ _ h => h) (.inl ⟨by rfl, fun wx hX => by unfold execOp; simp only [Act.eval, Instr.loadAt, Instr.sureAddr, List.getElem_toArray]; simp [ldH hlc hX.1]⟩) hS ?_
  simp only [Act.put, List.getElem_toArray, List.getElem_cons_zero, List.set_cons_succ, List.set_cons_zero, List.setIfInBounds_toArray]
  refine wpAnyH_take (i := 2) (v := .agg (bv c).toArray) rfl (by kernel_rfl) (by kernel_rfl) (by kernel_rfl) (fun _ _ _ h => h) (.inl ⟨by rfl, fun wx hX => by unfold execOp; simp only [Act.eval, Instr.loadAt, Instr.sureAddr, List.getElem_toArray]; simp [ldH hlc hX.1]⟩) hS ?_
  simp only [Act.put, List.getElem_toArray, List.getElem_cons_succ, List.getElem_cons_zero, List.set_cons_succ, List.set_cons_zero, List.setIfInBounds_toArray]
  refine wpAnyH_take (i := 4) (v := .agg (bv c).toArray) rfl (by kernel_rfl) (by kernel_rfl) (by kernel_rfl) (fun _ _ _ h => h) (.inl ⟨by rfl, fun wx hX => by unfold execOp; simp only [Act.eval, Instr.loadAt, Instr.sureAddr, List.getElem_toArray]; simp [ldH hlc hX.1]⟩) hS ?_
  simp only [Act.put, List.getElem_toArray, List.getElem_cons_succ, List.getElem_cons_zero, List.set_cons_succ, List.set_cons_zero, List.setIfInBounds_toArray]
  refine wpAnyH_take (i := 6) (v := .agg (bv c).toArray) rfl (by kernel_rfl) (by kernel_rfl) (by kernel_rfl) (fun _ _ _ h => h) (.inl ⟨by rfl, fun wx hX => by unfold execOp; simp only [Act.eval, Instr.loadAt, Instr.sureAddr, List.getElem_toArray]; simp [ldH hlc hX.1]⟩) hS ?_
  simp only [Act.put, List.getElem_toArray, List.getElem_cons_succ, List.getElem_cons_zero, List.set_cons_succ, List.set_cons_zero, List.setIfInBounds_toArray]
  refine wpAnyH_take (i := 7) (v := .agg (bv d).toArray) rfl (by kernel_rfl) (by kernel_rfl) (by kernel_rfl) (fun _ _ _ h => h) (.inl ⟨by rfl, fun wx hX => by unfold execOp; simp only [Act.eval, Instr.loadAt, Instr.sureAddr, List.getElem_toArray]; simp [ldH hld hX.2]⟩) hS ?_
  simp only [Act.put, List.getElem_toArray, List.getElem_cons_succ, List.getElem_cons_zero, List.set_cons_succ, List.set_cons_zero, List.setIfInBounds_toArray]
  refine wpAnyH_take (i := 9) (v := .int .u64 (m : Int)) rfl (by kernel_rfl) (by kernel_rfl) (by kernel_rfl) (fun _ _ _ h => h) (.inl ⟨by rfl, fun wx _ => by go_simp⟩) hS ?_
  simp only [Act.put, List.getElem_toArray, List.getElem_cons_succ, List.getElem_cons_zero, List.set_cons_succ, List.set_cons_zero, List.setIfInBounds_toArray]
  refine wpAnyH_take (i := 11) (v := .int .u64 (m : Int)) rfl (by kernel_rfl) (by kernel_rfl) (by kernel_rfl) (fun _ _ _ h => h) (.inl ⟨by rfl, fun wx _ => by go_simp⟩) hS ?_
  simp only [Act.put, List.getElem_toArray, List.getElem_cons_succ, List.getElem_cons_zero, List.set_cons_succ, List.set_cons_zero, List.setIfInBounds_toArray]
  clear hS
  refine wpAnyH_ready (rs := [1]) (by kernel_rfl) (by simp) ?_
  refine AllReadyH.cons rfl (fun K hK => ?_) AllReadyH.nil
  go_simp
  refine (nodeKey_c U0 hlc).mono ?_
  rintro e U1 ⟨r1, rfl, g1, x1, f1⟩
  refine hK.out _ _ ⟨f1.at UA0.out (by simp), f1.at UB0.out (by simp)⟩ (fun hS => ?_)
  clear hK K hS
  have UA1 := hid (f1.at UA0.out (by simp))
  have UB1 := hid (f1.at UB0.out (by simp))
  have UF1 := hid (UF0.out.trans f1)
  have UX1_1 := hid x1
  clear UA0 UB0 UF0 f1 x1 g1
  refine wpAnyH_ready (rs := [3]) (by kernel_rfl) (by simp) ?_
  refine AllReadyH.cons rfl (fun K hK => ?_) AllReadyH.nil
  go_simp
  refine (codeKey_c U1 hlc).mono ?_
  rintro e U2 ⟨r2, rfl, g2, x2, f2⟩
  refine hK.out _ _ ⟨f2.at UA1.out (by simp), f2.at UB1.out (by simp)⟩ (fun hS => ?_)
  clear hK K hS
  have UA2 := hid (f2.at UA1.out (by simp))
  have UB2 := hid (f2.at UB1.out (by simp))
  have UF2 := hid (UF1.out.trans f2)
  have UX1_2 := hid (f2.at UX1_1.out (by simp))
  clear UX1_1
  have UX2_2 := hid x2
  clear UA1 UB1 UF1 f2 x2 g2
  refine wpAnyH_ready (rs := [5]) (by kernel_rfl) (by simp) ?_
  refine AllReadyH.cons rfl (fun K hK => ?_) AllReadyH.nil
  go_simp
  refine (accountKey_c U2 hlc).mono ?_
  rintro e U3 ⟨r3, rfl, g3, x3, f3⟩
  refine hK.out _ _ ⟨f3.at UA2.out (by simp), f3.at UB2.out (by simp)⟩ (fun hS => ?_)
  clear hK K hS
  have UA3 := hid (f3.at UA2.out (by simp))
  have UB3 := hid (f3.at UB2.out (by simp))
  have UF3 := hid (UF2.out.trans f3)
  have UX1_3 := hid (f3.at UX1_2.out (by simp))
  clear UX1_2
  have UX2_3 := hid (f3.at UX2_2.out (by simp))
  clear UX2_2
  have UX3_3 := hid x3
  clear UA2 UB2 UF2 f3 x3 g3
  refine wpAnyH_ready (rs := [8]) (by kernel_rfl) (by simp) ?_
  refine AllReadyH.cons rfl (fun K hK => ?_) AllReadyH.nil
  go_simp
  refine (slotKey_c U3 hlc hld).mono ?_
  rintro e U4 ⟨r4, rfl, g4, x4, f4⟩
  refine hK.out _ _ ⟨f4.at UA3.out (by simp), f4.at UB3.out (by simp)⟩ (fun hS => ?_)
  clear hK K hS
  have UA4 := hid (f4.at UA3.out (by simp))
  have UB4 := hid (f4.at UB3.out (by simp))
  have UF4 := hid (UF3.out.trans f4)
  have UX1_4 := hid (f4.at UX1_3.out (by simp))
  clear UX1_3
  have UX2_4 := hid (f4.at UX2_3.out (by simp))
  clear UX2_3
  have UX3_4 := hid (f4.at UX3_3.out (by simp))
  clear UX3_3
  have UX4_4 := hid x4
  clear UA3 UB3 UF3 f4 x4 g4
  refine wpAnyH_ready (rs := [10]) (by kernel_rfl) (by simp) ?_
  refine AllReadyH.cons rfl (fun K hK => ?_) AllReadyH.nil
  go_simp
  refine (rootKey_c U4 hm).mono ?_
  rintro e U5 ⟨r5, rfl, g5, x5, f5⟩
  refine hK.out _ _ ⟨f5.at UA4.out (by simp), f5.at UB4.out (by simp)⟩ (fun hS => ?_)
  clear hK K hS
  have UA5 := hid (f5.at UA4.out (by simp))
  have UB5 := hid (f5.at UB4.out (by simp))
  have UF5 := hid (UF4.out.trans f5)
  have UX1_5 := hid (f5.at UX1_4.out (by simp))
  clear UX1_4
  have UX2_5 := hid (f5.at UX2_4.out (by simp))
  clear UX2_4
  have UX3_5 := hid (f5.at UX3_4.out (by simp))
  clear UX3_4
  have UX4_5 := hid (f5.at UX4_4.out (by simp))
  clear UX4_4
  have UX5_5 := hid x5
  clear UA4 UB4 UF4 f5 x5 g5
  refine wpAnyH_ready (rs := [12]) (by kernel_rfl) (by simp) ?_
  refine AllReadyH.cons rfl (fun K hK => ?_) AllReadyH.nil
  go_simp
  refine (blockKey_c U5 hm).mono ?_
  rintro e U6 ⟨r6, rfl, g6, x6, f6⟩
  refine hK.out _ _ ⟨f6.at UA5.out (by simp), f6.at UB5.out (by simp)⟩ (fun hS => ?_)
  clear hK K hS
  have UA6 := hid (f6.at UA5.out (by simp))
  have UB6 := hid (f6.at UB5.out (by simp))
  have UF6 := hid (UF5.out.trans f6)
  have UX1_6 := hid (f6.at UX1_5.out (by simp))
  clear UX1_5
  have UX2_6 := hid (f6.at UX2_5.out (by simp))
  clear UX2_5
  have UX3_6 := hid (f6.at UX3_5.out (by simp))
  clear UX3_5
  have UX4_6 := hid (f6.at UX4_5.out (by simp))
  clear UX4_5
  have UX5_6 := hid (f6.at UX5_5.out (by simp))
  clear UX5_5
  have UX6_6 := hid x6
  clear UA5 UB5 UF5 f6 x6 g6
  refine wpAnyH_ready (rs := [13]) (by kernel_rfl) (by simp) ?_
  refine AllReadyH.cons rfl (fun K hK => ?_) AllReadyH.nil
  obtain ⟨U7, hT7⟩ : ∃ W, W = U6.alloc (.cells #[.slice (some ⟨r1, 0, none⟩) 33 33, .slice (some ⟨r2, 0, none⟩) 33 33, .slice (some ⟨r3, 0, none⟩) 33 33, .slice (some ⟨r4, 0, none⟩) 65 65, .slice (some ⟨r5, 0, none⟩) 9 9, .slice (some ⟨r6, 0, none⟩) 9 9] 26) := ⟨_, rfl⟩
  obtain ⟨MM, hLL⟩ : ∃ L, L = U6.heap.size := ⟨_, rfl⟩
  have f7 : Fr [] U6 U7 := by rw [hT7]; exact (Fr.refl _ U6).alloc _
  have x7 : U7.heap[MM]? = some (.cells #[.slice (some ⟨r1, 0, none⟩) 33 33, .slice (some ⟨r2, 0, none⟩) 33 33, .slice (some ⟨r3, 0, none⟩) 33 33, .slice (some ⟨r4, 0, none⟩) 65 65, .slice (some ⟨r5, 0, none⟩) 9 9, .slice (some ⟨r6, 0, none⟩) 9 9] 26 (0, 0)) := by rw [hT7, hLL]; exact blk_new _ _
  have RK : Hid (RdL U7 (.slice (some ⟨MM, 0, none⟩) 6 6) [110 :: c, 99 :: c, 97 :: c, 111 :: (c ++ d), 114 :: be 8 m, 98 :: be 8 m]) := hid (rdL6 x7 hlc hbc hld hbd (f7.at UX1_6.out (by simp)) (f7.at UX2_6.out (by simp)) (f7.at UX3_6.out (by simp)) (f7.at UX4_6.out (by simp)) (f7.at UX5_6.out (by simp)) (f7.at UX6_6.out (by simp)))
  have UA7 := hid (f7.at UA6.out (by simp))
  have UB7 := hid (f7.at UB6.out (by simp))
  have UF7 := hid (UF6.out.trans f7)
  clear f7 x7 UA6 UB6 UF6 UX1_6 UX2_6 UX3_6 UX4_6 UX5_6 UX6_6
  go_simp
  rw [← hT7, ← hLL]
  clear hT7 hLL
  refine hK.out _ _ ⟨UA7.out, UB7.out⟩ (fun hS => ?_)
  clear hK K hS
  refine wpAnyH_ready (rs := [14]) (by kernel_rfl) (by simp) ?_
  refine AllReadyH.cons rfl (fun K hK => ?_) AllReadyH.nil
  go_simp
  refine hK.out _ _ ⟨UA7.out, UB7.out⟩ (fun hS => ?_)
  clear hK K hS
  refine wpAnyH_done (by kernel_rfl) ?_ _
  have F3 := hid (F2.out.trans UF7.out)
  have A3 := hid (UF7.out.at A2.out (by simp))
  have B3 := hid (UF7.out.at B2.out (by simp))
  have C3 := UA7
  have D3 := UB7
  have RL3 := hid (RL.out.fr UF7.out)
  clear UA7 UB7 UF7 A2 B2 C2 D2 F2 RL
  go_upto_region 5 with fail
  obtain ⟨ac, hac⟩ : ∃ x : Bool, x = decide (a = c) := ⟨_, rfl⟩
  obtain ⟨bd, hbd'⟩ : ∃ x : Bool, x = decide (b = d) := ⟨_, rfl⟩
  obtain ⟨nm, hnm⟩ : ∃ x : Bool, x = decide (n = m) := ⟨_, rfl⟩
  have HR := hid hac
  have HB := hid hbd'
  have HNMd := hid hnm
  have HNM : Hid (((n : Int) == (m : Int)) = nm) := hid (by rw [hnm]; exact nat_beq n m)
  have HAC : Hid (∀ wx, (binOp .eql 23 (.agg (bv a).toArray) (.agg (bv c).toArray)).run Try.prog wx = .ok (.bool ac) wx) := hid (fun wx => by rw [hac]; exact eqlG wx hla hlc)
  have HBD : Hid (∀ wx, (binOp .eql 23 (.agg (bv b).toArray) (.agg (bv d).toArray)).run Try.prog wx = .ok (.bool bd) wx) := hid (fun wx => by rw [hbd']; exact eqlG wx hlb hld)
  clear hac hbd' hnm
  cases ac
  · obtain ⟨V0, hV⟩ : ∃ W, W = U7.drew := ⟨_, rfl⟩
    have VF : Hid (Fr [] U7 V0) := hid (by rw [hV]; exact (Fr.refl _ U7).drew)
    refine wp_region_held_drew (S := fun w' => w'.heap[w.heap.size]? = some (.cells (bv a).toArray 23 (0, 0)) ∧ w'.heap[w.heap.size + 1]? = some (.cells (bv b).toArray 23 (0, 0)) ∧ w'.heap[w.heap.size + 1 + 1]? = some (.cells (bv c).toArray 23 (0, 0)) ∧ w'.heap[w.heap.size + 1 + 1 + 1]? = some (.cells (bv d).toArray 23 (0, 0))) (by kernel_rfl) ⟨A3.out, B3.out, C3.out, D3.out⟩ (fun hS => ?_)
    rw [← hV] at hS ⊢
    clear hV
    refine wpAnyH_take (i := 0) (v := .agg (bv a).toArray) rfl (by kernel_rfl) (by kernel_rfl) (by kernel_rfl) (fun _ _ _ h => h) (.inl ⟨by rfl, fun wx hX => by unfold execOp; simp only [Act.eval, Instr.loadAt, Instr.sureAddr, List.getElem_toArray]; simp [ldH hla hX.1]⟩) hS ?_
    simp only [Act.put, List.getElem_toArray, List.getElem_cons_zero, List.set_cons_succ, List.set_cons_zero, List.setIfInBounds_toArray]
    refine wpAnyH_take (i := 1) (v := .agg (bv c).toArray) rfl (by kernel_rfl) (by kernel_rfl) (by kernel_rfl) (fun _ _ _ h => h) (.inl ⟨by rfl, fun wx hX => by unfold execOp; simp only [Act.eval, Instr.loadAt, Instr.sureAddr, List.getElem_toArray]; simp [ldH hlc hX.2.2.1]⟩) hS ?_
    simp only [Act.put, List.getElem_toArray, List.getElem_cons_succ, List.getElem_cons_zero, List.set_cons_succ, List.set_cons_zero, List.setIfInBounds_toArray]
    refine wpAnyH_take (i := 2) (v := .bool false) rfl (by kernel_rfl) (by kernel_rfl) (by kernel_rfl) (fun _ _ _ h => h) (.inl ⟨by rfl, fun wx _ => by unfold execOp; simp only [Act.eval, List.getElem_toArray]; simp [run_eqGuard_agg (P := Try.prog) wx _ _ _ _ _ _ guardH, HAC.out wx]⟩) hS ?_
    simp only [Act.put, List.getElem_toArray, List.getElem_cons_succ, List.getElem_cons_zero, List.set_cons_succ, List.set_cons_zero, List.setIfInBounds_toArray]
    refine wpAnyH_take (i := 3) (v := .agg (bv a).toArray) rfl (by kernel_rfl) (by kernel_rfl) (by kernel_rfl) (fun _ _ _ h => h) (.inl ⟨by rfl, fun wx hX => by unfold execOp; simp only [Act.eval, Instr.loadAt, Instr.sureAddr, List.getElem_toArray]; simp [ldH hla hX.1]⟩) hS ?_
    simp only [Act.put, List.getElem_toArray, List.getElem_cons_succ, List.getElem_cons_zero, List.set_cons_succ, List.set_cons_zero, List.setIfInBounds_toArray]
    refine wpAnyH_take (i := 4) (v := .agg (bv c).toArray) rfl (by kernel_rfl) (by kernel_rfl) (by kernel_rfl) (fun _ _ _ h => h) (.inl ⟨by rfl, fun wx hX => by unfold execOp; simp only [Act.eval, Instr.loadAt, Instr.sureAddr, List.getElem_toArray]; simp [ldH hlc hX.2.2.1]⟩) hS ?_
    simp only [Act.put, List.getElem_toArray, List.getElem_cons_succ, List.getElem_cons_zero, List.set_cons_succ, List.set_cons_zero, List.setIfInBounds_toArray]
    refine wpAnyH_take (i := 5) (v := .bool false) rfl (by kernel_rfl) (by kernel_rfl) (by kernel_rfl) (fun _ _ _ h => h) (.inl ⟨by rfl, fun wx _ => by unfold execOp; simp only [Act.eval, List.getElem_toArray]; simp [run_eqGuard_agg (P := Try.prog) wx _ _ _ _ _ _ guardH, HAC.out wx]⟩) hS ?_
    simp only [Act.put, List.getElem_toArray, List.getElem_cons_succ, List.getElem_cons_zero, List.set_cons_succ, List.set_cons_zero, List.setIfInBounds_toArray]
    refine wpAnyH_take (i := 6) (v := .agg (bv a).toArray) rfl (by kernel_rfl) (by kernel_rfl) (by kernel_rfl) (fun _ _ _ h => h) (.inl ⟨by rfl, fun wx hX => by unfold execOp; simp only [Act.eval, Instr.loadAt, Instr.sureAddr, List.getElem_toArray]; simp [ldH hla hX.1]⟩) hS ?_
    simp only [Act.put, List.getElem_toArray, List.getElem_cons_succ, List.getElem_cons_zero, List.set_cons_succ, List.set_cons_zero, List.setIfInBounds_toArray]
    refine wpAnyH_take (i := 7) (v := .agg (bv c).toArray) rfl (by kernel_rfl) (by kernel_rfl) (by kernel_rfl) (fun _ _ _ h => h) (.inl ⟨by rfl, fun wx hX => by unfold execOp; simp only [Act.eval, Instr.loadAt, Instr.sureAddr, List.getElem_toArray]; simp [ldH hlc hX.2.2.1]⟩) hS ?_
    simp only [Act.put, List.getElem_toArray, List.getElem_cons_succ, List.getElem_cons_zero, List.set_cons_succ, List.set_cons_zero, List.setIfInBounds_toArray]
    refine wpAnyH_take (i := 8) (v := .bool false) rfl (by kernel_rfl) (by kernel_rfl) (by kernel_rfl) (fun _ _ _ h => h) (.inl ⟨by rfl, fun wx _ => by unfold execOp; simp only [Act.eval, List.getElem_toArray]; simp [run_eqGuard_agg (P := Try.prog) wx _ _ _ _ _ _ guardH, HAC.out wx]⟩) hS ?_
    simp only [Act.put, List.getElem_toArray, List.getElem_cons_succ, List.getElem_cons_zero, List.set_cons_succ, List.set_cons_zero, List.setIfInBounds_toArray]
    refine wpAnyH_take (i := 9) (v := .agg (bv a).toArray) rfl (by kernel_rfl) (by kernel_rfl) (by kernel_rfl) (fun _ _ _ h => h) (.inl ⟨by rfl, fun wx hX => by unfold execOp; simp only [Act.eval, Instr.loadAt, Instr.sureAddr, List.getElem_toArray]; simp [ldH hla hX.1]⟩) hS ?_
    simp only [Act.put, List.getElem_toArray, List.getElem_cons_succ, List.getElem_cons_zero, List.set_cons_succ, List.set_cons_zero, List.setIfInBounds_toArray]
    refine wpAnyH_take (i := 10) (v := .agg (bv c).toArray) rfl (by kernel_rfl) (by kernel_rfl) (by kernel_rfl) (fun _ _ _ h => h) (.inl ⟨by rfl, fun wx hX => by unfold execOp; simp only [Act.eval, Instr.loadAt, Instr.sureAddr, List.getElem_toArray]; simp [ldH hlc hX.2.2.1]⟩) hS ?_
    simp only [Act.put, List.getElem_toArray, List.getElem_cons_succ, List.getElem_cons_zero, List.set_cons_succ, List.set_cons_zero, List.setIfInBounds_toArray]
    refine wpAnyH_take (i := 11) (v := .bool false) rfl (by kernel_rfl) (by kernel_rfl) (by kernel_rfl) (fun _ _ _ h => h) (.inl ⟨by rfl, fun wx _ => by unfold execOp; simp only [Act.eval, List.getElem_toArray]; simp [run_eqGuard_agg (P := Try.prog) wx _ _ _ _ _ _ guardH, HAC.out wx]⟩) hS ?_
    simp only [Act.put, List.getElem_toArray, List.getElem_cons_succ, List.getElem_cons_zero, List.set_cons_succ, List.set_cons_zero, List.setIfInBounds_toArray]
    refine wpAnyH_take (i := 12) (v := .bool false) rfl (by kernel_rfl) (by kernel_rfl) (by kernel_rfl) (fun _ _ _ h => h) (.inl ⟨by rfl, fun wx _ => by go_simp⟩) hS ?_
    simp only [Act.put, List.getElem_toArray, List.getElem_cons_succ, List.getElem_cons_zero, List.set_cons_succ, List.set_cons_zero, List.setIfInBounds_toArray]
    refine wpAnyH_take (i := 13) (v := undef) rfl (by kernel_rfl) (by kernel_rfl) (by kernel_rfl) (fun _ _ _ h => h) (.inr ⟨by kernel_rfl, rfl⟩) hS ?_
    simp only [Act.put, List.getElem_toArray, List.getElem_cons_succ, List.getElem_cons_zero, List.set_cons_succ, List.set_cons_zero, List.setIfInBounds_toArray]
    refine wpAnyH_take (i := 14) (v := undef) rfl (by kernel_rfl) (by kernel_rfl) (by kernel_rfl) (fun _ _ _ h => h) (.inr ⟨by kernel_rfl, rfl⟩) hS ?_
    simp only [Act.put, List.getElem_toArray, List.getElem_cons_succ, List.getElem_cons_zero, List.set_cons_succ, List.set_cons_zero, List.setIfInBounds_toArray]
    refine wpAnyH_take (i := 15) (v := undef) rfl (by kernel_rfl) (by kernel_rfl) (by kernel_rfl) (fun _ _ _ h => h) (.inr ⟨by kernel_rfl, rfl⟩) hS ?_
    simp only [Act.put, List.getElem_toArray, List.getElem_cons_succ, List.getElem_cons_zero, List.set_cons_succ, List.set_cons_zero, List.setIfInBounds_toArray]
    refine wpAnyH_take (i := 16) (v := .bool false) rfl (by kernel_rfl) (by kernel_rfl) (by kernel_rfl) (fun _ _ _ h => h) (.inl ⟨by rfl, fun wx _ => by go_simp⟩) hS ?_
    simp only [Act.put, List.getElem_toArray, List.getElem_cons_succ, List.getElem_cons_zero, List.set_cons_succ, List.set_cons_zero, List.setIfInBounds_toArray]
    refine wpAnyH_take (i := 17) (v := .int .u64 (n : Int)) rfl (by kernel_rfl) (by kernel_rfl) (by kernel_rfl) (fun _ _ _ h => h) (.inl ⟨by rfl, fun wx _ => by go_simp⟩) hS ?_
    simp only [Act.put, List.getElem_toArray, List.getElem_cons_succ, List.getElem_cons_zero, List.set_cons_succ, List.set_cons_zero, List.setIfInBounds_toArray]
    refine wpAnyH_take (i := 18) (v := .int .u64 (m : Int)) rfl (by kernel_rfl) (by kernel_rfl) (by kernel_rfl) (fun _ _ _ h => h) (.inl ⟨by rfl, fun wx _ => by go_simp⟩) hS ?_
    simp only [Act.put, List.getElem_toArray, List.getElem_cons_succ, List.getElem_cons_zero, List.set_cons_succ, List.set_cons_zero, List.setIfInBounds_toArray]
    refine wpAnyH_take (i := 19) (v := .bool nm) rfl (by kernel_rfl) (by kernel_rfl) (by kernel_rfl) (fun _ _ _ h => h) (.inl ⟨by rfl, fun wx _ => by have := HNM.out; go_simp⟩) hS ?_
    simp only [Act.put, List.getElem_toArray, List.getElem_cons_succ, List.getElem_cons_zero, List.set_cons_succ, List.set_cons_zero, List.setIfInBounds_toArray]
    refine wpAnyH_take (i := 20) (v := .int .u64 (n : Int)) rfl (by kernel_rfl) (by kernel_rfl) (by kernel_rfl) (fun _ _ _ h => h) (.inl ⟨by rfl, fun wx _ => by go_simp⟩) hS ?_
    simp only [Act.put, List.getElem_toArray, List.getElem_cons_succ, List.getElem_cons_zero, List.set_cons_succ, List.set_cons_zero, List.setIfInBounds_toArray]
    refine wpAnyH_take (i := 21) (v := .int .u64 (m : Int)) rfl (by kernel_rfl) (by kernel_rfl) (by kernel_rfl) (fun _ _ _ h => h) (.inl ⟨by rfl, fun wx _ => by go_simp⟩) hS ?_
    simp only [Act.put, List.getElem_toArray, List.getElem_cons_succ, List.getElem_cons_zero, List.set_cons_succ, List.set_cons_zero, List.setIfInBounds_toArray]
    refine wpAnyH_take (i := 22) (v := .bool nm) rfl (by kernel_rfl) (by kernel_rfl) (by kernel_rfl) (fun _ _ _ h => h) (.inl ⟨by rfl, fun wx _ => by have := HNM.out; go_simp⟩) hS ?_
    simp only [Act.put, List.getElem_toArray, List.getElem_cons_succ, List.getElem_cons_zero, List.set_cons_succ, List.set_cons_zero, List.setIfInBounds_toArray]
    refine wpAnyH_take (i := 23) (v := .agg #[.bool false, .bool false, .bool false, .bool false, .bool nm, .bool nm]) rfl (by kernel_rfl) (by kernel_rfl) (by kernel_rfl) (fun _ _ _ h => h) (.inl ⟨by rfl, fun wx _ => by go_simp⟩) hS ?_
    simp only [Act.put, List.getElem_toArray, List.getElem_cons_succ, List.getElem_cons_zero, List.set_cons_succ, List.set_cons_zero, List.setIfInBounds_toArray]
    clear hS
    refine wpAnyH_ready (rs := [24]) (by kernel_rfl) (by simp) ?_
    refine AllReadyH.cons rfl (fun K hK => ?_) AllReadyH.nil
    obtain ⟨V1, hV1⟩ : ∃ W, W = V0.alloc (.cells #[.bool false, .bool false, .bool false, .bool false, .bool false, .bool false] 31) := ⟨_, rfl⟩
    have f1 : Fr [] V0 V1 := by rw [hV1]; exact (Fr.refl _ V0).alloc _
    obtain ⟨SB, hSB⟩ : ∃ L, L = V0.heap.size := ⟨_, rfl⟩
    have x1 : V1.heap[SB]? = some (.cells #[.bool false, .bool false, .bool false, .bool false, .bool false, .bool false] 31 (0, 0)) := by rw [hV1, hSB]; exact blk_new _ _
    have hsb := VF.out.size
    go_simp
    rw [← hV1, ← hSB]
    refine hK.out _ _ ⟨f1.at (VF.out.at A3.out (by simp)) (by simp), f1.at (VF.out.at B3.out (by simp)) (by simp), f1.at (VF.out.at C3.out (by simp)) (by simp), f1.at (VF.out.at D3.out (by simp)) (by simp)⟩ (fun hS => ?_)
    clear hK K hS
    refine wpAnyH_ready (rs := [25]) (by kernel_rfl) (by simp) ?_
    refine AllReadyH.cons rfl (fun K hK => ?_) AllReadyH.nil
    obtain ⟨V2, hV2⟩ : ∃ W, W = V1.setRow SB #[.bool false, .bool false, .bool false, .bool false, .bool nm, .bool nm] := ⟨_, rfl⟩
    have x2 : V2.heap[SB]? = some (.cells #[.bool false, .bool false, .bool false, .bool false, .bool nm, .bool nm] 31 (0, 0)) := by rw [hV2]; exact setRow_heap _ _ _ _ _ _ x1
    have VF2 : Hid (Fr [] U7 V2) := hid (by rw [hV2]; exact (VF.out.trans f1).newer (p := SB) ⟨rfl, rfl, rfl, by simp [World.setRow], fun k hk hn => setRow_other _ _ _ _ (by simpa using hn)⟩ (by omega))
    have X2 := hid x2
    rw [if_pos (by kernel_rfl)]
    refine wp_store_row (P := Try.prog) 31 (.tmp 15) (.tmp 71) rfl SB #[.bool false, .bool false, .bool false, .bool false, .bool nm, .bool nm] (by rfl) (by rfl) 31 _ x1 (by kernel_rfl) rfl (by simp [Value.oneCell']) ?_
    rw [← hV2]
    clear hV2 x2 x1 f1 hV1 hSB hsb VF
    simp only [Act.put, List.getElem_toArray, List.getElem_cons_succ, List.getElem_cons_zero]
    refine hK.out _ _ ⟨VF2.out.at A3.out (by simp), VF2.out.at B3.out (by simp), VF2.out.at C3.out (by simp), VF2.out.at D3.out (by simp)⟩ (fun hS => ?_)
    clear hK K hS
    refine wpAnyH_done (by kernel_rfl) ?_ _
    have I0 : Hid (ApI w LL MM SB (keys6 a b n) (keys6 c d m) #[.bool false, .bool false, .bool false, .bool false, .bool nm, .bool nm] V2) := hid ⟨RL3.out.fr VF2.out, RK.out.fr VF2.out, X2.out, F3.out.trans VF2.out⟩
    have HSM : Hid (#[Value.bool false, Value.bool false, Value.bool false, Value.bool false, Value.bool nm, Value.bool nm] = ((same6 a b c d n m).map Value.bool).toArray) := hid (by have h1 := HR.out; have h2 := HB.out; have h3 := HNMd.out; simp [same6, ← h1, ← h2, ← h3])
    have HAP : Hid (∀ (i j : Nat) (r q : List Nat) (x : Bool), (keys6 a b n)[i]? = some r → (keys6 c d m)[j]? = some q → #[Value.bool false, Value.bool false, Value.bool false, Value.bool false, Value.bool nm, Value.bool nm][i]? = some (.bool x) → decide (r = q) = (decide (i = j) && x)) := hid (fun i j r q x h1 h2 h3 => apart6 hla hlc hn hm h1 h2 (same_cells HSM.out h3))
    clear X2 VF2 RL3 RK F3 A3 B3 C3 D3 HAC HBD
    go_wp2_with fail
    go_loopw [16] (fun v16 wr => ∃ i : Nat, i ≤ 6 ∧ v16 = .int .i64 (i : Int) ∧ ApI w LL MM SB (keys6 a b n) (keys6 c d m) #[.bool false, .bool false, .bool false, .bool false, .bool nm, .bool nm] wr) (fun v16 _ => 6 - (intOf v16).toNat)
    case atStart => exact ⟨0, by omega, rfl, I0.out⟩
    case round =>
      obtain ⟨i, hi, rfl, hI⟩ := hrel
      have HI := hid hI
      clear hI I0
      by_cases hlt : i < 6
      · have hlti : (i : Int) < 6 := by omega
        obtain ⟨r, hr⟩ : ∃ r, (keys6 a b n)[i]? = some r := ⟨_, List.getElem?_eq_getElem (by simp [keys6]; omega)⟩
        obtain ⟨x, hx⟩ : ∃ x, #[Value.bool false, Value.bool false, Value.bool false, Value.bool false, Value.bool nm, Value.bool nm][i]? = some (.bool x) := bool6 hlt
        have HRr := hid hr
        have HX := hid hx
        clear hr hx
        go_wp2_with fail
        go_loopw [17] (fun v17 wr => ∃ j : Nat, j ≤ 6 ∧ v17 = .int .i64 (j : Int) ∧ ApI w LL MM SB (keys6 a b n) (keys6 c d m) #[.bool false, .bool false, .bool false, .bool false, .bool nm, .bool nm] wr) (fun v17 _ => 6 - (intOf v17).toNat)
        case atStart => exact ⟨0, by omega, rfl, HI.out⟩
        case round =>
          obtain ⟨j, hj, rfl, hJ⟩ := hrel
          have HJ := hid hJ
          clear hJ HI
          by_cases hlj : j < 6
          · have hltj : (j : Int) < 6 := by omega
            obtain ⟨q, hq⟩ : ∃ q, (keys6 c d m)[j]? = some q := ⟨_, List.getElem?_eq_getElem (by simp [keys6]; omega)⟩
            have HE : Hid (decide (r = q) = (decide (i = j) && x)) := hid (HAP.out i j r q x HRr.out hq HX.out)
            obtain ⟨la, lc, c1, d1, b1⟩ := rdL_at HJ.out.drew.rl HRr.out
            obtain ⟨ma, mc, c2, d2, b2⟩ := rdL_at HJ.out.drew.rk hq
            have hcv1 := run_conv d1
            have hcv2 := run_conv d2
            have hbs := beq_str b1 b2
            rw [HE.out] at hbs
            have hcb : wr.drew.cell? ⟨SB, i, none⟩ = some (.bool x) := by rw [blk_cell (w := wr.drew) HJ.out.sb]; exact HX.out
            clear HE d1 d2 b1 b2 hq
            by_cases hij : i = j
            · subst hij
              rw [decide_eq_true rfl, Bool.true_and] at hbs
              cases x
              · go_wp2_with fail
                go_region
                go_wp2
                go_roundw
                case rel => exact ⟨i + 1, by omega, by go_num, HJ.out.drew⟩
                case measure => simp [intOf]; omega
              · go_wp2_with fail
                go_region
                go_wp2
                go_roundw
                case rel => exact ⟨i + 1, by omega, by go_num, HJ.out.drew⟩
                case measure => simp [intOf]; omega
            · have hij' : ((i : Int) == (j : Int)) = false := by rw [nat_beq, decide_eq_false hij]
              rw [decide_eq_false hij, Bool.false_and] at hbs
              clear hij
              go_wp2_with fail
              go_region
              go_wp2
              go_roundw
              case rel => exact ⟨j + 1, by omega, by go_num, HJ.out.drew⟩
              case measure => simp [intOf]; omega
          · have hltj : ¬ (j : Int) < 6 := by omega
            go_wp2
            go_roundw
            case rel => exact ⟨i + 1, by omega, by go_num, HJ.out⟩
            case measure => simp [intOf]; omega
      · have hlti : ¬ (i : Int) < 6 := by omega
        go_wp2_with fail
        obtain ⟨lt, hlt9⟩ : ∃ x : Bool, x = decide (n < m) := ⟨_, rfl⟩
        have HLT : Hid (decide (n < m) = lt) := hid hlt9.symm
        have HLS : Hid (Op.bytesLess (strOf (114 :: be 8 n)).toList (strOf (114 :: be 8 m)).toList = lt) := hid (by rw [hlt9]; exact root_less hn hm)
        clear hlt9
        obtain ⟨G0, hG⟩ : ∃ W, W = wr.drew := ⟨_, rfl⟩
        have GF0 : Hid (Fr [] w G0) := hid (by rw [hG]; exact HI.out.fr.drew)
        refine wp_region_held_drew (S := fun _ => True) (by kernel_rfl) trivial (fun hS => ?_)
        rw [← hG]
        clear hG
        refine wpAnyH_take (i := 0) (v := .int .u64 (n : Int)) rfl (by kernel_rfl) (by kernel_rfl) (by kernel_rfl) (fun _ _ _ h => h) (.inl ⟨by rfl, fun wx _ => by go_simp⟩) hS ?_
        simp only [Act.put, List.getElem_toArray, List.getElem_cons_zero, List.set_cons_succ, List.set_cons_zero, List.setIfInBounds_toArray]
        refine wpAnyH_take (i := 3) (v := .int .u64 (m : Int)) rfl (by kernel_rfl) (by kernel_rfl) (by kernel_rfl) (fun _ _ _ h => h) (.inl ⟨by rfl, fun wx _ => by go_simp⟩) hS ?_
        simp only [Act.put, List.getElem_toArray, List.getElem_cons_succ, List.getElem_cons_zero, List.set_cons_succ, List.set_cons_zero, List.setIfInBounds_toArray]
        refine wpAnyH_take (i := 7) (v := .int .u64 (n : Int)) rfl (by kernel_rfl) (by kernel_rfl) (by kernel_rfl) (fun _ _ _ h => h) (.inl ⟨by rfl, fun wx _ => by go_simp⟩) hS ?_
        simp only [Act.put, List.getElem_toArray, List.getElem_cons_succ, List.getElem_cons_zero, List.set_cons_succ, List.set_cons_zero, List.setIfInBounds_toArray]
        refine wpAnyH_take (i := 8) (v := .int .u64 (m : Int)) rfl (by kernel_rfl) (by kernel_rfl) (by kernel_rfl) (fun _ _ _ h => h) (.inl ⟨by rfl, fun wx _ => by go_simp⟩) hS ?_
        simp only [Act.put, List.getElem_toArray, List.getElem_cons_succ, List.getElem_cons_zero, List.set_cons_succ, List.set_cons_zero, List.setIfInBounds_toArray]
        refine wpAnyH_take (i := 9) (v := .bool lt) rfl (by kernel_rfl) (by kernel_rfl) (by kernel_rfl) (fun _ _ _ h => h) (.inl ⟨by rfl, fun wx _ => by go_simp; exact HLT.out⟩) hS ?_
        simp only [Act.put, List.getElem_toArray, List.getElem_cons_succ, List.getElem_cons_zero, List.set_cons_succ, List.set_cons_zero, List.setIfInBounds_toArray]
        clear hS
        refine wpAnyH_ready (rs := [1]) (by kernel_rfl) (by simp) ?_
        refine AllReadyH.cons rfl (fun K hK => ?_) AllReadyH.nil
        go_simp
        refine (rootKey_c G0 hn).mono ?_
        rintro e G1 ⟨p1, rfl, g1, x1, f1⟩
        refine hK.out _ _ trivial (fun _ => ?_)
        clear hK K
        refine wpAnyH_str (S' := fun w' => w'.heap[p1]? = some (.cells (bv (114 :: be 8 n)).toArray 52 (0, 0))) (fun _ _ => trivial) _ _ _ _ ?_
        have hS := x1
        refine wpAnyH_take (i := 2) (v := .string (strOf (114 :: be 8 n))) rfl (by kernel_rfl) (by kernel_rfl) (by kernel_rfl) (fun _ _ _ h => h) (.inl ⟨by rfl, fun wx hX => by unfold execOp; simp only [Act.eval, List.getElem_toArray]; simp [convB hX]⟩) hS ?_
        simp only [Act.put, List.getElem_toArray, List.getElem_cons_succ, List.getElem_cons_zero, List.set_cons_succ, List.set_cons_zero, List.setIfInBounds_toArray]
        clear hS
        refine wpAnyH_ready (rs := [4]) (by kernel_rfl) (by simp) ?_
        refine AllReadyH.cons rfl (fun K hK => ?_) AllReadyH.nil
        go_simp
        refine (rootKey_c G1 hm).mono ?_
        rintro e G2 ⟨p2, rfl, g2, x2, f2⟩
        refine hK.out _ _ (f2.at x1 (by simp)) (fun _ => ?_)
        clear hK K
        refine wpAnyH_str (S' := fun w' => w'.heap[p1]? = some (.cells (bv (114 :: be 8 n)).toArray 52 (0, 0)) ∧ w'.heap[p2]? = some (.cells (bv (114 :: be 8 m)).toArray 52 (0, 0))) (fun _ h => h.1) _ _ _ _ ?_
        have hS := And.intro (f2.at x1 (by simp)) x2
        refine wpAnyH_take (i := 5) (v := .string (strOf (114 :: be 8 m))) rfl (by kernel_rfl) (by kernel_rfl) (by kernel_rfl) (fun _ _ _ h => h) (.inl ⟨by rfl, fun wx hX => by unfold execOp; simp only [Act.eval, List.getElem_toArray]; simp [convB hX.2]⟩) hS ?_
        simp only [Act.put, List.getElem_toArray, List.getElem_cons_succ, List.getElem_cons_zero, List.set_cons_succ, List.set_cons_zero, List.setIfInBounds_toArray]
        refine wpAnyH_take (i := 6) (v := .bool lt) rfl (by kernel_rfl) (by kernel_rfl) (by kernel_rfl) (fun _ _ _ h => h) (.inl ⟨by rfl, fun wx _ => by have := HLS.out; go_simp⟩) hS ?_
        simp only [Act.put, List.getElem_toArray, List.getElem_cons_succ, List.getElem_cons_zero, List.set_cons_succ, List.set_cons_zero, List.setIfInBounds_toArray]
        refine wpAnyH_take (i := 10) (v := .bool true) rfl (by kernel_rfl) (by kernel_rfl) (by kernel_rfl) (fun _ _ _ h => h) (.inl ⟨by rfl, fun wx _ => by cases lt <;> go_simp⟩) hS ?_
        simp only [Act.put, List.getElem_toArray, List.getElem_cons_succ, List.getElem_cons_zero, List.set_cons_succ, List.set_cons_zero, List.setIfInBounds_toArray]
        have GF2 := hid ((GF0.out.trans f1).trans f2)
        clear g1 g2 x1 x2 f1 f2
        refine wpAnyH_ready (rs := [11]) (by kernel_rfl) (by simp) ?_
        refine AllReadyH.cons rfl (fun K hK => ?_) AllReadyH.nil
        go_simp
        refine hK.out _ _ hS (fun _ => ?_)
        clear hK K hS
        refine wpAnyH_done (by kernel_rfl) ?_ _
        go_wp2
        go_ret
        exact ⟨rfl, GF2.out⟩
  · obtain ⟨V0, hV⟩ : ∃ W, W = U7.drew := ⟨_, rfl⟩
    have VF : Hid (Fr [] U7 V0) := hid (by rw [hV]; exact (Fr.refl _ U7).drew)
    refine wp_region_held_drew (S := fun w' => w'.heap[w.heap.size]? = some (.cells (bv a).toArray 23 (0, 0)) ∧ w'.heap[w.heap.size + 1]? = some (.cells (bv b).toArray 23 (0, 0)) ∧ w'.heap[w.heap.size + 1 + 1]? = some (.cells (bv c).toArray 23 (0, 0)) ∧ w'.heap[w.heap.size + 1 + 1 + 1]? = some (.cells (bv d).toArray 23 (0, 0))) (by kernel_rfl) ⟨A3.out, B3.out, C3.out, D3.out⟩ (fun hS => ?_)
    rw [← hV] at hS ⊢
    clear hV
    refine wpAnyH_take (i := 0) (v := .agg (bv a).toArray) rfl (by kernel_rfl) (by kernel_rfl) (by kernel_rfl) (fun _ _ _ h => h) (.inl ⟨by rfl, fun wx hX => by unfold execOp; simp only [Act.eval, Instr.loadAt, Instr.sureAddr, List.getElem_toArray]; simp [ldH hla hX.1]⟩) hS ?_
    simp only [Act.put, List.getElem_toArray, List.getElem_cons_zero, List.set_cons_succ, List.set_cons_zero, List.setIfInBounds_toArray]
    refine wpAnyH_take (i := 1) (v := .agg (bv c).toArray) rfl (by kernel_rfl) (by kernel_rfl) (by kernel_rfl) (fun _ _ _ h => h) (.inl ⟨by rfl, fun wx hX => by unfold execOp; simp only [Act.eval, Instr.loadAt, Instr.sureAddr, List.getElem_toArray]; simp [ldH hlc hX.2.2.1]⟩) hS ?_
    simp only [Act.put, List.getElem_toArray, List.getElem_cons_succ, List.getElem_cons_zero, List.set_cons_succ, List.set_cons_zero, List.setIfInBounds_toArray]
    refine wpAnyH_take (i := 2) (v := .bool true) rfl (by kernel_rfl) (by kernel_rfl) (by kernel_rfl) (fun _ _ _ h => h) (.inl ⟨by rfl, fun wx _ => by unfold execOp; simp only [Act.eval, List.getElem_toArray]; simp [run_eqGuard_agg (P := Try.prog) wx _ _ _ _ _ _ guardH, HAC.out wx]⟩) hS ?_
    simp only [Act.put, List.getElem_toArray, List.getElem_cons_succ, List.getElem_cons_zero, List.set_cons_succ, List.set_cons_zero, List.setIfInBounds_toArray]
    refine wpAnyH_take (i := 3) (v := .agg (bv a).toArray) rfl (by kernel_rfl) (by kernel_rfl) (by kernel_rfl) (fun _ _ _ h => h) (.inl ⟨by rfl, fun wx hX => by unfold execOp; simp only [Act.eval, Instr.loadAt, Instr.sureAddr, List.getElem_toArray]; simp [ldH hla hX.1]⟩) hS ?_
    simp only [Act.put, List.getElem_toArray, List.getElem_cons_succ, List.getElem_cons_zero, List.set_cons_succ, List.set_cons_zero, List.setIfInBounds_toArray]
    refine wpAnyH_take (i := 4) (v := .agg (bv c).toArray) rfl (by kernel_rfl) (by kernel_rfl) (by kernel_rfl) (fun _ _ _ h => h) (.inl ⟨by rfl, fun wx hX => by unfold execOp; simp only [Act.eval, Instr.loadAt, Instr.sureAddr, List.getElem_toArray]; simp [ldH hlc hX.2.2.1]⟩) hS ?_
    simp only [Act.put, List.getElem_toArray, List.getElem_cons_succ, List.getElem_cons_zero, List.set_cons_succ, List.set_cons_zero, List.setIfInBounds_toArray]
    refine wpAnyH_take (i := 5) (v := .bool true) rfl (by kernel_rfl) (by kernel_rfl) (by kernel_rfl) (fun _ _ _ h => h) (.inl ⟨by rfl, fun wx _ => by unfold execOp; simp only [Act.eval, List.getElem_toArray]; simp [run_eqGuard_agg (P := Try.prog) wx _ _ _ _ _ _ guardH, HAC.out wx]⟩) hS ?_
    simp only [Act.put, List.getElem_toArray, List.getElem_cons_succ, List.getElem_cons_zero, List.set_cons_succ, List.set_cons_zero, List.setIfInBounds_toArray]
    refine wpAnyH_take (i := 6) (v := .agg (bv a).toArray) rfl (by kernel_rfl) (by kernel_rfl) (by kernel_rfl) (fun _ _ _ h => h) (.inl ⟨by rfl, fun wx hX => by unfold execOp; simp only [Act.eval, Instr.loadAt, Instr.sureAddr, List.getElem_toArray]; simp [ldH hla hX.1]⟩) hS ?_
    simp only [Act.put, List.getElem_toArray, List.getElem_cons_succ, List.getElem_cons_zero, List.set_cons_succ, List.set_cons_zero, List.setIfInBounds_toArray]
    refine wpAnyH_take (i := 7) (v := .agg (bv c).toArray) rfl (by kernel_rfl) (by kernel_rfl) (by kernel_rfl) (fun _ _ _ h => h) (.inl ⟨by rfl, fun wx hX => by unfold execOp; simp only [Act.eval, Instr.loadAt, Instr.sureAddr, List.getElem_toArray]; simp [ldH hlc hX.2.2.1]⟩) hS ?_
    simp only [Act.put, List.getElem_toArray, List.getElem_cons_succ, List.getElem_cons_zero, List.set_cons_succ, List.set_cons_zero, List.setIfInBounds_toArray]
    refine wpAnyH_take (i := 8) (v := .bool true) rfl (by kernel_rfl) (by kernel_rfl) (by kernel_rfl) (fun _ _ _ h => h) (.inl ⟨by rfl, fun wx _ => by unfold execOp; simp only [Act.eval, List.getElem_toArray]; simp [run_eqGuard_agg (P := Try.prog) wx _ _ _ _ _ _ guardH, HAC.out wx]⟩) hS ?_
    simp only [Act.put, List.getElem_toArray, List.getElem_cons_succ, List.getElem_cons_zero, List.set_cons_succ, List.set_cons_zero, List.setIfInBounds_toArray]
    refine wpAnyH_take (i := 9) (v := .agg (bv a).toArray) rfl (by kernel_rfl) (by kernel_rfl) (by kernel_rfl) (fun _ _ _ h => h) (.inl ⟨by rfl, fun wx hX => by unfold execOp; simp only [Act.eval, Instr.loadAt, Instr.sureAddr, List.getElem_toArray]; simp [ldH hla hX.1]⟩) hS ?_
    simp only [Act.put, List.getElem_toArray, List.getElem_cons_succ, List.getElem_cons_zero, List.set_cons_succ, List.set_cons_zero, List.setIfInBounds_toArray]
    refine wpAnyH_take (i := 10) (v := .agg (bv c).toArray) rfl (by kernel_rfl) (by kernel_rfl) (by kernel_rfl) (fun _ _ _ h => h) (.inl ⟨by rfl, fun wx hX => by unfold execOp; simp only [Act.eval, Instr.loadAt, Instr.sureAddr, List.getElem_toArray]; simp [ldH hlc hX.2.2.1]⟩) hS ?_
    simp only [Act.put, List.getElem_toArray, List.getElem_cons_succ, List.getElem_cons_zero, List.set_cons_succ, List.set_cons_zero, List.setIfInBounds_toArray]
    refine wpAnyH_take (i := 11) (v := .bool true) rfl (by kernel_rfl) (by kernel_rfl) (by kernel_rfl) (fun _ _ _ h => h) (.inl ⟨by rfl, fun wx _ => by unfold execOp; simp only [Act.eval, List.getElem_toArray]; simp [run_eqGuard_agg (P := Try.prog) wx _ _ _ _ _ _ guardH, HAC.out wx]⟩) hS ?_
    simp only [Act.put, List.getElem_toArray, List.getElem_cons_succ, List.getElem_cons_zero, List.set_cons_succ, List.set_cons_zero, List.setIfInBounds_toArray]
    refine wpAnyH_take (i := 12) (v := .bool true) rfl (by kernel_rfl) (by kernel_rfl) (by kernel_rfl) (fun _ _ _ h => h) (.inl ⟨by rfl, fun wx _ => by go_simp⟩) hS ?_
    simp only [Act.put, List.getElem_toArray, List.getElem_cons_succ, List.getElem_cons_zero, List.set_cons_succ, List.set_cons_zero, List.setIfInBounds_toArray]
    refine wpAnyH_take (i := 13) (v := .agg (bv b).toArray) rfl (by kernel_rfl) (by kernel_rfl) (by kernel_rfl) (fun _ _ _ h => h) (.inl ⟨by kernel_rfl, fun wx hX => by unfold execOp; simp only [Act.eval, Instr.loadAt, Instr.sureAddr, List.getElem_toArray]; simp [ldH hlb hX.2.1]⟩) hS ?_
    simp only [Act.put, List.getElem_toArray, List.getElem_cons_succ, List.getElem_cons_zero, List.set_cons_succ, List.set_cons_zero, List.setIfInBounds_toArray]
    refine wpAnyH_take (i := 14) (v := .agg (bv d).toArray) rfl (by kernel_rfl) (by kernel_rfl) (by kernel_rfl) (fun _ _ _ h => h) (.inl ⟨by kernel_rfl, fun wx hX => by unfold execOp; simp only [Act.eval, Instr.loadAt, Instr.sureAddr, List.getElem_toArray]; simp [ldH hld hX.2.2.2]⟩) hS ?_
    simp only [Act.put, List.getElem_toArray, List.getElem_cons_succ, List.getElem_cons_zero, List.set_cons_succ, List.set_cons_zero, List.setIfInBounds_toArray]
    refine wpAnyH_take (i := 15) (v := .bool bd) rfl (by kernel_rfl) (by kernel_rfl) (by kernel_rfl) (fun _ _ _ h => h) (.inl ⟨by kernel_rfl, fun wx _ => by unfold execOp; simp only [Act.eval, List.getElem_toArray]; simp [run_eqGuard_agg (P := Try.prog) wx _ _ _ _ _ _ guardH, HBD.out wx]⟩) hS ?_
    simp only [Act.put, List.getElem_toArray, List.getElem_cons_succ, List.getElem_cons_zero, List.set_cons_succ, List.set_cons_zero, List.setIfInBounds_toArray]
    refine wpAnyH_take (i := 16) (v := .bool bd) rfl (by kernel_rfl) (by kernel_rfl) (by kernel_rfl) (fun _ _ _ h => h) (.inl ⟨by rfl, fun wx _ => by go_simp⟩) hS ?_
    simp only [Act.put, List.getElem_toArray, List.getElem_cons_succ, List.getElem_cons_zero, List.set_cons_succ, List.set_cons_zero, List.setIfInBounds_toArray]
    refine wpAnyH_take (i := 17) (v := .int .u64 (n : Int)) rfl (by kernel_rfl) (by kernel_rfl) (by kernel_rfl) (fun _ _ _ h => h) (.inl ⟨by rfl, fun wx _ => by go_simp⟩) hS ?_
    simp only [Act.put, List.getElem_toArray, List.getElem_cons_succ, List.getElem_cons_zero, List.set_cons_succ, List.set_cons_zero, List.setIfInBounds_toArray]
    refine wpAnyH_take (i := 18) (v := .int .u64 (m : Int)) rfl (by kernel_rfl) (by kernel_rfl) (by kernel_rfl) (fun _ _ _ h => h) (.inl ⟨by rfl, fun wx _ => by go_simp⟩) hS ?_
    simp only [Act.put, List.getElem_toArray, List.getElem_cons_succ, List.getElem_cons_zero, List.set_cons_succ, List.set_cons_zero, List.setIfInBounds_toArray]
    refine wpAnyH_take (i := 19) (v := .bool nm) rfl (by kernel_rfl) (by kernel_rfl) (by kernel_rfl) (fun _ _ _ h => h) (.inl ⟨by rfl, fun wx _ => by have := HNM.out; go_simp⟩) hS ?_
    simp only [Act.put, List.getElem_toArray, List.getElem_cons_succ, List.getElem_cons_zero, List.set_cons_succ, List.set_cons_zero, List.setIfInBounds_toArray]
    refine wpAnyH_take (i := 20) (v := .int .u64 (n : Int)) rfl (by kernel_rfl) (by kernel_rfl) (by kernel_rfl) (fun _ _ _ h => h) (.inl ⟨by rfl, fun wx _ => by go_simp⟩) hS ?_
    simp only [Act.put, List.getElem_toArray, List.getElem_cons_succ, List.getElem_cons_zero, List.set_cons_succ, List.set_cons_zero, List.setIfInBounds_toArray]
    refine wpAnyH_take (i := 21) (v := .int .u64 (m : Int)) rfl (by kernel_rfl) (by kernel_rfl) (by kernel_rfl) (fun _ _ _ h => h) (.inl ⟨by rfl, fun wx _ => by go_simp⟩) hS ?_
    simp only [Act.put, List.getElem_toArray, List.getElem_cons_succ, List.getElem_cons_zero, List.set_cons_succ, List.set_cons_zero, List.setIfInBounds_toArray]
    refine wpAnyH_take (i := 22) (v := .bool nm) rfl (by kernel_rfl) (by kernel_rfl) (by kernel_rfl) (fun _ _ _ h => h) (.inl ⟨by rfl, fun wx _ => by have := HNM.out; go_simp⟩) hS ?_
    simp only [Act.put, List.getElem_toArray, List.getElem_cons_succ, List.getElem_cons_zero, List.set_cons_succ, List.set_cons_zero, List.setIfInBounds_toArray]
    refine wpAnyH_take (i := 23) (v := .agg #[.bool true, .bool true, .bool true, .bool bd, .bool nm, .bool nm]) rfl (by kernel_rfl) (by kernel_rfl) (by kernel_rfl) (fun _ _ _ h => h) (.inl ⟨by rfl, fun wx _ => by go_simp⟩) hS ?_
    simp only [Act.put, List.getElem_toArray, List.getElem_cons_succ, List.getElem_cons_zero, List.set_cons_succ, List.set_cons_zero, List.setIfInBounds_toArray]
    clear hS
    refine wpAnyH_ready (rs := [24]) (by kernel_rfl) (by simp) ?_
    refine AllReadyH.cons rfl (fun K hK => ?_) AllReadyH.nil
    obtain ⟨V1, hV1⟩ : ∃ W, W = V0.alloc (.cells #[.bool false, .bool false, .bool false, .bool false, .bool false, .bool false] 31) := ⟨_, rfl⟩
    have f1 : Fr [] V0 V1 := by rw [hV1]; exact (Fr.refl _ V0).alloc _
    obtain ⟨SB, hSB⟩ : ∃ L, L = V0.heap.size := ⟨_, rfl⟩
    have x1 : V1.heap[SB]? = some (.cells #[.bool false, .bool false, .bool false, .bool false, .bool false, .bool false] 31 (0, 0)) := by rw [hV1, hSB]; exact blk_new _ _
    have hsb := VF.out.size
    go_simp
    rw [← hV1, ← hSB]
    refine hK.out _ _ ⟨f1.at (VF.out.at A3.out (by simp)) (by simp), f1.at (VF.out.at B3.out (by simp)) (by simp), f1.at (VF.out.at C3.out (by simp)) (by simp), f1.at (VF.out.at D3.out (by simp)) (by simp)⟩ (fun hS => ?_)
    clear hK K hS
    refine wpAnyH_ready (rs := [25]) (by kernel_rfl) (by simp) ?_
    refine AllReadyH.cons rfl (fun K hK => ?_) AllReadyH.nil
    obtain ⟨V2, hV2⟩ : ∃ W, W = V1.setRow SB #[.bool true, .bool true, .bool true, .bool bd, .bool nm, .bool nm] := ⟨_, rfl⟩
    have x2 : V2.heap[SB]? = some (.cells #[.bool true, .bool true, .bool true, .bool bd, .bool nm, .bool nm] 31 (0, 0)) := by rw [hV2]; exact setRow_heap _ _ _ _ _ _ x1
    have VF2 : Hid (Fr [] U7 V2) := hid (by rw [hV2]; exact (VF.out.trans f1).newer (p := SB) ⟨rfl, rfl, rfl, by simp [World.setRow], fun k hk hn => setRow_other _ _ _ _ (by simpa using hn)⟩ (by omega))
    have X2 := hid x2
    rw [if_pos (by kernel_rfl)]
    refine wp_store_row (P := Try.prog) 31 (.tmp 15) (.tmp 71) rfl SB #[.bool true, .bool true, .bool true, .bool bd, .bool nm, .bool nm] (by rfl) (by rfl) 31 _ x1 (by kernel_rfl) rfl (by simp [Value.oneCell']) ?_
    rw [← hV2]
    clear hV2 x2 x1 f1 hV1 hSB hsb VF
    simp only [Act.put, List.getElem_toArray, List.getElem_cons_succ, List.getElem_cons_zero]
    refine hK.out _ _ ⟨VF2.out.at A3.out (by simp), VF2.out.at B3.out (by simp), VF2.out.at C3.out (by simp), VF2.out.at D3.out (by simp)⟩ (fun hS => ?_)
    clear hK K hS
    refine wpAnyH_done (by kernel_rfl) ?_ _
    have I0 : Hid (ApI w LL MM SB (keys6 a b n) (keys6 c d m) #[.bool true, .bool true, .bool true, .bool bd, .bool nm, .bool nm] V2) := hid ⟨RL3.out.fr VF2.out, RK.out.fr VF2.out, X2.out, F3.out.trans VF2.out⟩
    have HSM : Hid (#[Value.bool true, Value.bool true, Value.bool true, Value.bool bd, Value.bool nm, Value.bool nm] = ((same6 a b c d n m).map Value.bool).toArray) := hid (by have h1 := HR.out; have h2 := HB.out; have h3 := HNMd.out; simp [same6, ← h1, ← h2, ← h3])
    have HAP : Hid (∀ (i j : Nat) (r q : List Nat) (x : Bool), (keys6 a b n)[i]? = some r → (keys6 c d m)[j]? = some q → #[Value.bool true, Value.bool true, Value.bool true, Value.bool bd, Value.bool nm, Value.bool nm][i]? = some (.bool x) → decide (r = q) = (decide (i = j) && x)) := hid (fun i j r q x h1 h2 h3 => apart6 hla hlc hn hm h1 h2 (same_cells HSM.out h3))
    clear X2 VF2 RL3 RK F3 A3 B3 C3 D3 HAC HBD
    go_wp2_with fail
    go_loopw [16] (fun v16 wr => ∃ i : Nat, i ≤ 6 ∧ v16 = .int .i64 (i : Int) ∧ ApI w LL MM SB (keys6 a b n) (keys6 c d m) #[.bool true, .bool true, .bool true, .bool bd, .bool nm, .bool nm] wr) (fun v16 _ => 6 - (intOf v16).toNat)
    case atStart => exact ⟨0, by omega, rfl, I0.out⟩
    case round =>
      obtain ⟨i, hi, rfl, hI⟩ := hrel
      have HI := hid hI
      clear hI I0
      by_cases hlt : i < 6
      · have hlti : (i : Int) < 6 := by omega
        obtain ⟨r, hr⟩ : ∃ r, (keys6 a b n)[i]? = some r := ⟨_, List.getElem?_eq_getElem (by simp [keys6]; omega)⟩
        obtain ⟨x, hx⟩ : ∃ x, #[Value.bool true, Value.bool true, Value.bool true, Value.bool bd, Value.bool nm, Value.bool nm][i]? = some (.bool x) := bool6 hlt
        have HRr := hid hr
        have HX := hid hx
        clear hr hx
        go_wp2_with fail
        go_loopw [17] (fun v17 wr => ∃ j : Nat, j ≤ 6 ∧ v17 = .int .i64 (j : Int) ∧ ApI w LL MM SB (keys6 a b n) (keys6 c d m) #[.bool true, .bool true, .bool true, .bool bd, .bool nm, .bool nm] wr) (fun v17 _ => 6 - (intOf v17).toNat)
        case atStart => exact ⟨0, by omega, rfl, HI.out⟩
        case round =>
          obtain ⟨j, hj, rfl, hJ⟩ := hrel
          have HJ := hid hJ
          clear hJ HI
          by_cases hlj : j < 6
          · have hltj : (j : Int) < 6 := by omega
            obtain ⟨q, hq⟩ : ∃ q, (keys6 c d m)[j]? = some q := ⟨_, List.getElem?_eq_getElem (by simp [keys6]; omega)⟩
            have HE : Hid (decide (r = q) = (decide (i = j) && x)) := hid (HAP.out i j r q x HRr.out hq HX.out)
            obtain ⟨la, lc, c1, d1, b1⟩ := rdL_at HJ.out.drew.rl HRr.out
            obtain ⟨ma, mc, c2, d2, b2⟩ := rdL_at HJ.out.drew.rk hq
            have hcv1 := run_conv d1
            have hcv2 := run_conv d2
            have hbs := beq_str b1 b2
            rw [HE.out] at hbs
            have hcb : wr.drew.cell? ⟨SB, i, none⟩ = some (.bool x) := by rw [blk_cell (w := wr.drew) HJ.out.sb]; exact HX.out
            clear HE d1 d2 b1 b2 hq
            by_cases hij : i = j
            · subst hij
              rw [decide_eq_true rfl, Bool.true_and] at hbs
              cases x
              · go_wp2_with fail
                go_region
                go_wp2
                go_roundw
                case rel => exact ⟨i + 1, by omega, by go_num, HJ.out.drew⟩
                case measure => simp [intOf]; omega
              · go_wp2_with fail
                go_region
                go_wp2
                go_roundw
                case rel => exact ⟨i + 1, by omega, by go_num, HJ.out.drew⟩
                case measure => simp [intOf]; omega
            · have hij' : ((i : Int) == (j : Int)) = false := by rw [nat_beq, decide_eq_false hij]
              rw [decide_eq_false hij, Bool.false_and] at hbs
              clear hij
              go_wp2_with fail
              go_region
              go_wp2
              go_roundw
              case rel => exact ⟨j + 1, by omega, by go_num, HJ.out.drew⟩
              case measure => simp [intOf]; omega
          · have hltj : ¬ (j : Int) < 6 := by omega
            go_wp2
            go_roundw
            case rel => exact ⟨i + 1, by omega, by go_num, HJ.out⟩
            case measure => simp [intOf]; omega
      · have hlti : ¬ (i : Int) < 6 := by omega
        go_wp2_with fail
        obtain ⟨lt, hlt9⟩ : ∃ x : Bool, x = decide (n < m) := ⟨_, rfl⟩
        have HLT : Hid (decide (n < m) = lt) := hid hlt9.symm
        have HLS : Hid (Op.bytesLess (strOf (114 :: be 8 n)).toList (strOf (114 :: be 8 m)).toList = lt) := hid (by rw [hlt9]; exact root_less hn hm)
        clear hlt9
        obtain ⟨G0, hG⟩ : ∃ W, W = wr.drew := ⟨_, rfl⟩
        have GF0 : Hid (Fr [] w G0) := hid (by rw [hG]; exact HI.out.fr.drew)
        refine wp_region_held_drew (S := fun _ => True) (by kernel_rfl) trivial (fun hS => ?_)
        rw [← hG]
        clear hG
        refine wpAnyH_take (i := 0) (v := .int .u64 (n : Int)) rfl (by kernel_rfl) (by kernel_rfl) (by kernel_rfl) (fun _ _ _ h => h) (.inl ⟨by rfl, fun wx _ => by go_simp⟩) hS ?_
        simp only [Act.put, List.getElem_toArray, List.getElem_cons_zero, List.set_cons_succ, List.set_cons_zero, List.setIfInBounds_toArray]
        refine wpAnyH_take (i := 3) (v := .int .u64 (m : Int)) rfl (by kernel_rfl) (by kernel_rfl) (by kernel_rfl) (fun _ _ _ h => h) (.inl ⟨by rfl, fun wx _ => by go_simp⟩) hS ?_
        simp only [Act.put, List.getElem_toArray, List.getElem_cons_succ, List.getElem_cons_zero, List.set_cons_succ, List.set_cons_zero, List.setIfInBounds_toArray]
        refine wpAnyH_take (i := 7) (v := .int .u64 (n : Int)) rfl (by kernel_rfl) (by kernel_rfl) (by kernel_rfl) (fun _ _ _ h => h) (.inl ⟨by rfl, fun wx _ => by go_simp⟩) hS ?_
        simp only [Act.put, List.getElem_toArray, List.getElem_cons_succ, List.getElem_cons_zero, List.set_cons_succ, List.set_cons_zero, List.setIfInBounds_toArray]
        refine wpAnyH_take (i := 8) (v := .int .u64 (m : Int)) rfl (by kernel_rfl) (by kernel_rfl) (by kernel_rfl) (fun _ _ _ h => h) (.inl ⟨by rfl, fun wx _ => by go_simp⟩) hS ?_
        simp only [Act.put, List.getElem_toArray, List.getElem_cons_succ, List.getElem_cons_zero, List.set_cons_succ, List.set_cons_zero, List.setIfInBounds_toArray]
        refine wpAnyH_take (i := 9) (v := .bool lt) rfl (by kernel_rfl) (by kernel_rfl) (by kernel_rfl) (fun _ _ _ h => h) (.inl ⟨by rfl, fun wx _ => by go_simp; exact HLT.out⟩) hS ?_
        simp only [Act.put, List.getElem_toArray, List.getElem_cons_succ, List.getElem_cons_zero, List.set_cons_succ, List.set_cons_zero, List.setIfInBounds_toArray]
        clear hS
        refine wpAnyH_ready (rs := [1]) (by kernel_rfl) (by simp) ?_
        refine AllReadyH.cons rfl (fun K hK => ?_) AllReadyH.nil
        go_simp
        refine (rootKey_c G0 hn).mono ?_
        rintro e G1 ⟨p1, rfl, g1, x1, f1⟩
        refine hK.out _ _ trivial (fun _ => ?_)
        clear hK K
        refine wpAnyH_str (S' := fun w' => w'.heap[p1]? = some (.cells (bv (114 :: be 8 n)).toArray 52 (0, 0))) (fun _ _ => trivial) _ _ _ _ ?_
        have hS := x1
        refine wpAnyH_take (i := 2) (v := .string (strOf (114 :: be 8 n))) rfl (by kernel_rfl) (by kernel_rfl) (by kernel_rfl) (fun _ _ _ h => h) (.inl ⟨by rfl, fun wx hX => by unfold execOp; simp only [Act.eval, List.getElem_toArray]; simp [convB hX]⟩) hS ?_
        simp only [Act.put, List.getElem_toArray, List.getElem_cons_succ, List.getElem_cons_zero, List.set_cons_succ, List.set_cons_zero, List.setIfInBounds_toArray]
        clear hS
        refine wpAnyH_ready (rs := [4]) (by kernel_rfl) (by simp) ?_
        refine AllReadyH.cons rfl (fun K hK => ?_) AllReadyH.nil
        go_simp
        refine (rootKey_c G1 hm).mono ?_
        rintro e G2 ⟨p2, rfl, g2, x2, f2⟩
        refine hK.out _ _ (f2.at x1 (by simp)) (fun _ => ?_)
        clear hK K
        refine wpAnyH_str (S' := fun w' => w'.heap[p1]? = some (.cells (bv (114 :: be 8 n)).toArray 52 (0, 0)) ∧ w'.heap[p2]? = some (.cells (bv (114 :: be 8 m)).toArray 52 (0, 0))) (fun _ h => h.1) _ _ _ _ ?_
        have hS := And.intro (f2.at x1 (by simp)) x2
        refine wpAnyH_take (i := 5) (v := .string (strOf (114 :: be 8 m))) rfl (by kernel_rfl) (by kernel_rfl) (by kernel_rfl) (fun _ _ _ h => h) (.inl ⟨by rfl, fun wx hX => by unfold execOp; simp only [Act.eval, List.getElem_toArray]; simp [convB hX.2]⟩) hS ?_
        simp only [Act.put, List.getElem_toArray, List.getElem_cons_succ, List.getElem_cons_zero, List.set_cons_succ, List.set_cons_zero, List.setIfInBounds_toArray]
        refine wpAnyH_take (i := 6) (v := .bool lt) rfl (by kernel_rfl) (by kernel_rfl) (by kernel_rfl) (fun _ _ _ h => h) (.inl ⟨by rfl, fun wx _ => by have := HLS.out; go_simp⟩) hS ?_
        simp only [Act.put, List.getElem_toArray, List.getElem_cons_succ, List.getElem_cons_zero, List.set_cons_succ, List.set_cons_zero, List.setIfInBounds_toArray]
        refine wpAnyH_take (i := 10) (v := .bool true) rfl (by kernel_rfl) (by kernel_rfl) (by kernel_rfl) (fun _ _ _ h => h) (.inl ⟨by rfl, fun wx _ => by cases lt <;> go_simp⟩) hS ?_
        simp only [Act.put, List.getElem_toArray, List.getElem_cons_succ, List.getElem_cons_zero, List.set_cons_succ, List.set_cons_zero, List.setIfInBounds_toArray]
        have GF2 := hid ((GF0.out.trans f1).trans f2)
        clear g1 g2 x1 x2 f1 f2
        refine wpAnyH_ready (rs := [11]) (by kernel_rfl) (by simp) ?_
        refine AllReadyH.cons rfl (fun K hK => ?_) AllReadyH.nil
        go_simp
        refine hK.out _ _ hS (fun _ => ?_)
        clear hK K hS
        refine wpAnyH_done (by kernel_rfl) ?_ _
        go_wp2
        go_ret
        exact ⟨rfl, GF2.out⟩
end Go.Proofs.Ytpacijcjcdigmaa
