/-
  Equal of package rlp.
-/
import Derived.Test.YtldhcdmoenoopaaJ25
import Derived.Test.YtldhcdmoenoopaaJ02
import Derived.ShutString
import Derived.ChangeOld
import Derived.SizedLaws
import Derived.Deep.Matrix
namespace Go.Proofs.Ytldhcdmoenoopaa
open Go.ChangeShapes Go.WideShapes Go.ChangeAt Go.RowKit

set_option maxHeartbeats 400000 in
theorem bytesEqual_c {w : World} {v1 v2 : Value} {a b : List Nat} (h1 : Rd w v1 (bv a)) (h2 : Rd w v2 (bv b)) (ha : By a) (hb : By b) :
    Calls Try.prog 29 #[v1, v2] w fun e w' => e = .returned (.bool (decide (a = b))) ∧ w' = w := by
  have e1 := run_conv h1
  have e2 := run_conv h2
  obtain ⟨a1, c1, rfl⟩ := h1.form
  obtain ⟨a2, c2, rfl⟩ := h2.form
  by_cases hab : a = b
  · subst hab
    have e3 := ba_beq (strOf a)
    rw [decide_eq_true rfl]
    clear h1 h2
    go_enter Try.func29, Try.ntmps29
    go_wp2
    go_ret
    exact ⟨rfl, rfl⟩
  · have e3 : ((strOf a).toList == (strOf b).toList) = false := beq_eq_false_iff_ne.2 fun h => hab (strOf_inj ha hb (by
      rw [ByteArray.toList_eq, ByteArray.toList_eq] at h
      exact ByteArray.ext (Array.toList_inj.1 h)))
    rw [decide_eq_false hab]
    clear h1 h2 hab
    go_enter Try.func29, Try.ntmps29
    go_wp2
    go_ret
    exact ⟨by simp, rfl⟩

theorem encB_by {n : Nat} {t : Tr n} (h : byT n t) : By (encB t) := by
  unfold encB
  split
  · exact enc_by n t h
  · intro u hu; simp at hu
theorem encE_le {n : Nat} (t : Tr n) : encE t ≤ 100 := by
  have := bad_le n 1 t
  unfold encE; split <;> (try split) <;> omega

set_option maxRecDepth 20000 in
set_option maxHeartbeats 800000 in
theorem equal_c (w : World) {v1 v2 : Value} {t1 t2 : Tr 19} (h1 : IsV w 19 v1 t1) (h2 : IsV w 19 v2 t2) (hc1 : cnt 19 t1 ≤ 4096) (he1 : (enc 19 t1).length ≤ 1000000) (hc2 : cnt 19 t2 ≤ 4096) (he2 : (enc 19 t2).length ≤ 1000000) :
    Calls Try.prog 18 #[v1, v2] w fun r w' => r = .returned (.bool (decide (encE t1 = 0 ∧ encE t2 = 0 ∧ encB t1 = encB t2))) ∧ Fr [] w w' := by
  obtain ⟨l1, x1, x2, x3, x4, x5, x6, rfl⟩ := h1.agg
  obtain ⟨l2, y1, y2, y3, y4, y5, y6, rfl⟩ := h2.agg
  have F0 := hid (((Fr.refl [] w).alloc (.cells #[.bool l1, .slice x1 x2 x3, .slice x4 x5 x6] 25)).alloc (.cells #[.bool l2, .slice y1 y2 y3, .slice y4 y5 y6] 25))
  have hA := hid (show (((w.alloc (.cells #[.bool l1, .slice x1 x2 x3, .slice x4 x5 x6] 25)).alloc (.cells #[.bool l2, .slice y1 y2 y3, .slice y4 y5 y6] 25)).heap[w.heap.size + 1]? = some (.cells #[.bool l2, .slice y1 y2 y3, .slice y4 y5 y6] 25 (0, 0))) from new_at _ _ (by simp))
  have B1 := hid (encB_by h1.byT)
  have B2 := hid (encB_by h2.byT)
  have V1 := hid (h1.fr F0.out)
  have V2 := hid (h2.fr F0.out)
  have hN1 := encE_le t1
  have hN2 := encE_le t2
  obtain ⟨N1, e1⟩ : ∃ N, N = encE t1 := ⟨_, rfl⟩
  obtain ⟨N2, e2⟩ : ∃ N, N = encE t2 := ⟨_, rfl⟩
  have HE1 := hid e1
  have HE2 := hid e2
  rw [← e1] at hN1 ⊢
  rw [← e2] at hN2 ⊢
  obtain ⟨D, hD⟩ : ∃ D, D = decide (N1 = 0 ∧ N2 = 0 ∧ encB t1 = encB t2) := ⟨_, rfl⟩
  rw [← hD]
  have HD := hid hD
  have C1 := hid (And.intro hc1 he1)
  have C2 := hid (And.intro hc2 he2)
  clear h1 h2 hc1 he1 hc2 he2 e1 e2 hD
  go_enter Try.func18, Try.ntmps18
  go_wp2_with fail
  refine (encode_c _ V1.out (by omega) C1.out.1 C1.out.2).mono ?_
  rintro e w1 ⟨v1, rfl, o1, f1⟩
  rw [← HE1.out]
  obtain ⟨a1, c1, rfl, _⟩ := ownsRow_slice o1
  have F1 := hid (F0.out.trans f1)
  have hbk := f1.at hA.out (by simp)
  have m0 := blk_cell hbk 0
  have m1 := blk_cell hbk 1
  have m2 := blk_cell hbk 2
  simp at m0 m1 m2
  have W2 := hid (V2.out.fr f1)
  have R1 := hid (Rd.ownB o1)
  clear o1 f1 hbk
  go_wp2_with fail
  refine (encode_c _ W2.out (by omega) C2.out.1 C2.out.2).mono ?_
  rintro e w2 ⟨v2, rfl, o2, f2⟩
  rw [← HE2.out]
  obtain ⟨a2, c2, rfl, _⟩ := ownsRow_slice o2
  have F2 := hid (F1.out.trans f2)
  have R2 := hid (Rd.ownB o2)
  have R1' := hid (R1.out.fr f2)
  clear o2 f2 m0 m1 m2
  by_cases z1 : N1 = 0
  · subst z1
    by_cases z2 : N2 = 0
    · subst z2
      have hd : Hid (D = decide (encB t1 = encB t2)) := by unfold Hid; rw [HD.out]; simp
      go_wp2_with fail
      refine (bytesEqual_c R1'.out R2.out B1.out B2.out).mono ?_
      rintro e w3 ⟨rfl, rfl⟩
      rw [← hd.out]
      go_wp2
      go_ret
      exact ⟨by simp, F2.out⟩
    · have hd : Hid (D = false) := by unfold Hid; rw [HD.out]; exact decide_eq_false (by omega)
      go_wp2
      go_ret
      exact ⟨by rw [hd.out]; rfl, F2.out⟩
  · have hd : Hid (D = false) := by unfold Hid; rw [HD.out]; exact decide_eq_false (by omega)
    go_wp2
    go_ret
    exact ⟨by rw [hd.out]; rfl, F2.out⟩
end Go.Proofs.Ytldhcdmoenoopaa
namespace Go.Proofs.Ytldhcdmoenoopaa
open Go.ChangeShapes Go.WideShapes Go.ChangeAt Go.RowKit Go.Deep

theorem ownKnobs : ownKnob Try.prog.godebug = none := by kernel_rfl
theorem laidOut : laidOutB Try.prog = true := by kernel_rfl

theorem nat_of {n : Int} (h : 0 ≤ n) : ∃ m : Nat, n = (m : Int) := ⟨n.toNat, by omega⟩

/-- Bytes that came in. -/
theorem bytes_of {H : Type} {enc : TypeId × Value → H} {W : World} {ua : Option Addr} {len uc : Nat} {d : DataW H} {ps : List MemPlace} (h : DataW.Trod enc Try.prog W 0 (fun _ => true) true 22 (.slice ua len uc) d ps)
    (hw : ∀ n ∈ d.weights Try.prog 22, n ≤ reachBytes) : ∃ ns : List Nat, ns.length = len ∧ Rd W (.slice ua len uc) (bv ns) ∧ By ns ∧ len ≤ 140737488351232 := by
  obtain ⟨fuel, hf⟩ := h
  rcases open_ints Try.underlying22 Try.underlying5 (by kernel_rfl) hf with ⟨hcs, _⟩ | ⟨a, l, c, zs, hcs, _, hl, hm, hz, hx, hcell, hwf⟩
  · simp [Value.cells] at hcs
    obtain ⟨rfl, rfl, rfl⟩ := hcs
    exact ⟨[], rfl, .inl ⟨rfl, rfl⟩, fun u hu => by simp at hu, by omega⟩
  · simp [Value.cells] at hcs
    obtain ⟨rfl, rfl, rfl⟩ := hcs
    simp only [Prod.mk.injEq] at hx
    obtain ⟨rfl, _⟩ := hx
    simp only [if_true] at hz
    have hXl : ((zs.take len).map Int.toNat).length = len := by rw [List.length_map, List.length_take]; omega
    have hb : ∀ z ∈ zs, 0 ≤ z ∧ z ≤ 255 := fun z hz' => bounds_u8 (hwf z hz')
    refine ⟨(zs.take len).map Int.toNat, hXl, .inr ⟨a, uc, by rw [bv_len, hXl], by rw [bv_len, hXl]; exact hl, fun j u hj => ?_⟩, fun u hu => ?_, ?_⟩
    · have hjl : j < len := by
        rcases Nat.lt_or_ge j len with h | h
        · exact h
        · rw [List.getElem?_eq_none (by rw [bv_len, hXl]; omega)] at hj; cases hj
      have hjz : j < zs.length := by omega
      rw [hcell j hjz]
      unfold bv at hj
      rw [List.getElem?_map, List.getElem?_map, List.getElem?_take, if_pos hjl, List.getElem?_eq_getElem hjz] at hj
      simp only [Option.map_some, Option.some.injEq] at hj
      rw [← hj]
      have h0 := hb _ (List.getElem_mem hjz)
      simp only [List.getD, List.getElem?_eq_getElem hjz, Option.getD_some, Int.toNat_of_nonneg h0.1]
    · obtain ⟨n, hn, rfl⟩ := List.mem_map.1 hu
      have := hb n (List.mem_of_mem_take hn)
      omega
    · have h1 := hw (uc * Try.prog.bytesOf 5) (by
        simp only [DataW.weights, Try.underlying22]
        refine List.mem_cons.2 (.inl ?_)
        rw [lits, lits, List.length_map, List.length_map, List.length_take, List.length_drop, hz]
        congr 1; omega)
      rw [show Try.prog.bytesOf 5 = 1 from by kernel_rfl] at h1
      unfold reachBytes at h1
      omega
end Go.Proofs.Ytldhcdmoenoopaa
namespace Go.Proofs.Ytldhcdmoenoopaa
open Go.ChangeShapes Go.WideShapes Go.ChangeAt Go.RowKit Go.Deep

theorem weightsAll_mem {H : Type} {P : Program} {e : TypeId} : ∀ {ds : List (DataW H)} {d : DataW H}, d ∈ ds → ∀ n ∈ d.weights P e, n ∈ DataW.weightsAll P e ds
  | [], _, h, _, _ => by cases h
  | x :: r, d, h, n, hn => by
    simp only [DataW.weightsAll, List.mem_append]
    rcases List.mem_cons.1 h with rfl | h
    · exact .inl hn
    · exact .inr (weightsAll_mem h n hn)

/-- A list of lists of bytes that came in. -/
def Rows2 (w : World) (la : Option Addr) (len : Nat) (A : Nat → Option Addr) (C : Nat → Nat) (X : Nat → List Nat) : Prop :=
  0 < len → ∃ lb lo, la = some ⟨lb, lo, none⟩ ∧ ∀ r, r < len → w.cell? ⟨lb, lo + r, none⟩ = some (.slice (A r) (X r).length (C r)) ∧ Rd w (.slice (A r) (X r).length (C r)) (bv (X r)) ∧ By (X r) ∧ (X r).length ≤ 140737488355328
/-- A list of numbers that came in. -/
def Nums (w : World) (na : Option Addr) (ln : Nat) (Y : Nat → Nat) : Prop :=
  0 < ln → ∃ nb no, na = some ⟨nb, no, none⟩ ∧ ∀ r, r < ln → w.cell? ⟨nb, no + r, none⟩ = some (.int .u64 (Y r : Int)) ∧ Y r < 18446744073709551616

end Go.Proofs.Ytldhcdmoenoopaa
