/-
  RawKeys walked.
-/
import Derived.Test.YtpacijcjcdigmaaRK
import Derived.Test.YtpacijcjcdigmaaRM
import Derived.Deep.Light
namespace Go.Proofs.Ytpacijcjcdigmaa
open Go.ChangeShapes Go.WideShapes Go.ChangeAt Go.RowKit

theorem rdL1 {w : World} {xa : Option Addr} {n xc : Nat} {r : List Nat} (h : Rd w (.slice xa n xc) (bv r)) (hn : r.length = n) (hb : By r) (hl : n ≤ 100000) : RdL (w.alloc (.cells #[.slice xa n xc] 26)) (.slice (some ⟨w.heap.size, 0, none⟩) 1 1) [r] := by
  refine ⟨_, _, rfl, fun _ => ⟨w.heap.size, 0, rfl, fun j r' hj => ?_⟩⟩
  match j, hj with
  | 0, hj =>
    obtain rfl := Option.some.inj hj
    exact ⟨xa, xc, by rw [blk_cell (blk_new _ _), hn]; rfl, by rw [hn]; exact h.fr ((Fr.refl _ w).alloc _), hb, by omega⟩
  | k + 1, hj => cases hj
theorem rdL2 {w : World} {xa ya : Option Addr} {n m xc yc : Nat} {r q : List Nat} (h : Rd w (.slice xa n xc) (bv r)) (hn : r.length = n) (hb : By r) (hl : n ≤ 100000) (h2 : Rd w (.slice ya m yc) (bv q)) (hm : q.length = m) (hb2 : By q) (hl2 : m ≤ 100000) : RdL (w.alloc (.cells #[.slice xa n xc, .slice ya m yc] 26)) (.slice (some ⟨w.heap.size, 0, none⟩) 2 2) [r, q] := by
  refine ⟨_, _, rfl, fun _ => ⟨w.heap.size, 0, rfl, fun j r' hj => ?_⟩⟩
  match j, hj with
  | 0, hj =>
    obtain rfl := Option.some.inj hj
    exact ⟨xa, xc, by rw [blk_cell (blk_new _ _), hn]; rfl, by rw [hn]; exact h.fr ((Fr.refl _ w).alloc _), hb, by omega⟩
  | 1, hj =>
    obtain rfl := Option.some.inj hj
    exact ⟨ya, yc, by rw [blk_cell (blk_new _ _), hm]; rfl, by rw [hm]; exact h2.fr ((Fr.refl _ w).alloc _), hb2, by omega⟩
  | k + 2, hj => cases hj
/-- A list that is made of six slices. -/
theorem rdL6v {w : World} {a1 a2 a3 a4 a5 a6 : Option Addr} {c1 c2 c3 c4 c5 c6 n1 n2 n3 n4 n5 n6 : Nat} {r1 r2 r3 r4 r5 r6 : List Nat}
    (h1 : Rd w (.slice a1 n1 c1) (bv r1) ∧ r1.length = n1 ∧ By r1 ∧ n1 ≤ 100000) (h2 : Rd w (.slice a2 n2 c2) (bv r2) ∧ r2.length = n2 ∧ By r2 ∧ n2 ≤ 100000) (h3 : Rd w (.slice a3 n3 c3) (bv r3) ∧ r3.length = n3 ∧ By r3 ∧ n3 ≤ 100000)
    (h4 : Rd w (.slice a4 n4 c4) (bv r4) ∧ r4.length = n4 ∧ By r4 ∧ n4 ≤ 100000) (h5 : Rd w (.slice a5 n5 c5) (bv r5) ∧ r5.length = n5 ∧ By r5 ∧ n5 ≤ 100000) (h6 : Rd w (.slice a6 n6 c6) (bv r6) ∧ r6.length = n6 ∧ By r6 ∧ n6 ≤ 100000) :
    RdL (w.alloc (.cells #[.slice a1 n1 c1, .slice a2 n2 c2, .slice a3 n3 c3, .slice a4 n4 c4, .slice a5 n5 c5, .slice a6 n6 c6] 26)) (.slice (some ⟨w.heap.size, 0, none⟩) 6 6) [r1, r2, r3, r4, r5, r6] := by
  have key : ∀ {a : Option Addr} {n c : Nat} {r : List Nat} (j : Nat), Rd w (.slice a n c) (bv r) ∧ r.length = n ∧ By r ∧ n ≤ 100000 → #[Value.slice a1 n1 c1, .slice a2 n2 c2, .slice a3 n3 c3, .slice a4 n4 c4, .slice a5 n5 c5, .slice a6 n6 c6][j]? = some (.slice a n c) →
      ∃ a' c', (w.alloc (.cells #[.slice a1 n1 c1, .slice a2 n2 c2, .slice a3 n3 c3, .slice a4 n4 c4, .slice a5 n5 c5, .slice a6 n6 c6] 26)).cell? ⟨w.heap.size, 0 + j, none⟩ = some (.slice a' r.length c') ∧ Rd (w.alloc (.cells #[.slice a1 n1 c1, .slice a2 n2 c2, .slice a3 n3 c3, .slice a4 n4 c4, .slice a5 n5 c5, .slice a6 n6 c6] 26)) (.slice a' r.length c') (bv r) ∧ By r ∧ r.length ≤ 140737488355328 := fun {a n c r} j h hj =>
    ⟨a, c, by rw [Nat.zero_add, blk_cell (blk_new _ _), h.2.1]; exact hj, by rw [h.2.1]; exact h.1.fr ((Fr.refl _ w).alloc _), h.2.2.1, by have := h.2.1; have := h.2.2.2; omega⟩
  refine ⟨_, _, rfl, fun _ => ⟨w.heap.size, 0, rfl, fun j r' hj => ?_⟩⟩
  match j, hj with
  | 0, hj => obtain rfl := Option.some.inj hj; exact key 0 h1 rfl
  | 1, hj => obtain rfl := Option.some.inj hj; exact key 1 h2 rfl
  | 2, hj => obtain rfl := Option.some.inj hj; exact key 2 h3 rfl
  | 3, hj => obtain rfl := Option.some.inj hj; exact key 3 h4 rfl
  | 4, hj => obtain rfl := Option.some.inj hj; exact key 4 h5 rfl
  | 5, hj => obtain rfl := Option.some.inj hj; exact key 5 h6 rfl
  | k + 6, hj => cases hj
theorem by_cons {c : Nat} {l : List Nat} (hc : c < 256) (hl : By l) : By (c :: l) := fun x hx => by
  rcases List.mem_cons.1 hx with rfl | hx
  · exact hc
  · exact hl x hx
/-- Each of the six keys is one. -/
theorem keys6_prs {a b : List Nat} {n i : Nat} {r : List Nat} (ha : a.length = 32) (hb : b.length = 32) (h : (keys6 a b n)[i]? = some r) : (prs r).e = 0 ∧ r.length ≤ 65 := by
  match i, h with
  | 0, h => obtain rfl := Option.some.inj h; rw [prs_h (.inl rfl) ha]; exact ⟨rfl, by simp [ha]⟩
  | 1, h => obtain rfl := Option.some.inj h; rw [prs_h (.inr (.inl rfl)) ha]; exact ⟨rfl, by simp [ha]⟩
  | 2, h => obtain rfl := Option.some.inj h; rw [prs_h (.inr (.inr rfl)) ha]; exact ⟨rfl, by simp [ha]⟩
  | 3, h => obtain rfl := Option.some.inj h; rw [prs_o (by simp [ha, hb])]; exact ⟨rfl, by simp [ha, hb]⟩
  | 4, h => obtain rfl := Option.some.inj h; rw [prs_n (.inl rfl) (be_len _ _)]; exact ⟨rfl, by simp [be_len]⟩
  | 5, h => obtain rfl := Option.some.inj h; rw [prs_n (.inr rfl) (be_len _ _)]; exact ⟨rfl, by simp [be_len]⟩
  | k + 6, h => cases h
set_option maxRecDepth 20000 in
set_option maxHeartbeats 800000 in
theorem lists_c {w : World} {v1 v2 : Value} {rs qs : List (List Nat)} (h1 : RdL w v1 rs) (h2 : RdL w v2 qs) (hl : rs.length ≤ 9223372036854775807) :
    Calls Try.prog 15 #[v1, v2] w fun e w' => e = .returned (.bool (decide (rs = qs))) ∧ Fr [] w w' := by
  have B1 := hid h1.by
  have B2 := hid h2.by
  obtain ⟨a1, c1, rfl, k1⟩ := h1
  obtain ⟨a2, c2, rfl, k2⟩ := h2
  have H1 := hid k1
  have H2 := hid k2
  clear k1 k2
  by_cases hlen : rs.length = qs.length
  · have hlen' : ((rs.length : Int) == (qs.length : Int)) = true := by rw [hlen]; simp
    go_enter Try.func15, Try.ntmps15
    rw [← hlen]
    go_wp2_with fail
    go_loopw [5] (fun v5 wr => ∃ k : Nat, k ≤ rs.length ∧ v5 = .int .i64 (k : Int) ∧ (∀ j, j < k → rs[j]? = qs[j]?) ∧ Fr [] w wr) (fun v5 _ => rs.length - (intOf v5).toNat)
    case atStart => exact ⟨0, by omega, rfl, fun j hj => by omega, Fr.refl _ _⟩
    case round =>
      obtain ⟨k, hk, rfl, hj, hf⟩ := hrel
      have HJ := hid hj
      have HF := hid hf
      have HLEN := hid hlen
      clear hj hf
      by_cases hlt : k < rs.length
      · obtain ⟨r, hr⟩ : ∃ r, rs[k]? = some r := ⟨_, List.getElem?_eq_getElem hlt⟩
        obtain ⟨q, hq⟩ : ∃ q, qs[k]? = some q := ⟨_, List.getElem?_eq_getElem (by omega)⟩
        obtain ⟨b1, o1, rfl, m1⟩ := H1.out (by omega)
        obtain ⟨b2, o2, rfl, m2⟩ := H2.out (by omega)
        obtain ⟨x1, y1, e1, e2, _, _⟩ := m1 k r hr
        obtain ⟨x2, y2, f1, f2, _, _⟩ := m2 k q hq
        have hfd := HF.out.drew
        have d1 := cellM e1 hfd
        have d2 := cellM f1 hfd
        have g1 := run_conv (e2.fr hfd)
        have g2 := run_conv (f2.fr hfd)
        have hbr := B1.out r (List.mem_of_getElem? hr)
        have hbq := B2.out q (List.mem_of_getElem? hq)
        have HRQ : Hid (decide (strOf r = strOf q) = decide (r = q)) := by
          unfold Hid
          by_cases h : r = q
          · subst h; simp
          · have : strOf r ≠ strOf q := fun e => h (strOf_inj hbr hbq e)
            simp [this, h]
        have HR := hid hr
        have HQ := hid hq
        clear hr hq e1 e2 f1 f2 m1 m2 hlen hfd
        by_cases hrq : r = q
        · have hstr : ((strOf r).toList == (strOf q).toList) = true := by rw [beq_str hbr hbq]; exact decide_eq_true hrq
          have HE : Hid (∀ j, j < k + 1 → rs[j]? = qs[j]?) := fun j hj => by
            rcases Nat.lt_or_ge j k with h | h
            · exact HJ.out j h
            · have : j = k := by omega
              subst this; rw [HR.out, HQ.out, hrq]
          clear hrq
          go_wp2_with fail
          go_region
          go_wp2
          go_roundw
          case rel => go_light; exact ⟨k + 1, by omega, by go_num, HE.out, HF.out.drew⟩
          case measure => go_light; simp [intOf]; omega
        · have hstr : ((strOf r).toList == (strOf q).toList) = false := by rw [beq_str hbr hbq]; exact decide_eq_false hrq
          have HNE : Hid (decide (rs = qs) = false) := decide_eq_false fun e => hrq (by
            have := HR.out
            rw [e, HQ.out] at this
            simpa using this.symm)
          clear hrq
          go_wp2_with fail
          go_region
          go_wp2
          go_ret
          exact ⟨by rw [HNE.out]; rfl, HF.out.drew⟩
      · have hk' : k = rs.length := by omega
        have HEQ : Hid (decide (rs = qs) = true) := decide_eq_true (List.ext_getElem? fun j => by
          rcases Nat.lt_or_ge j k with h | h
          · exact HJ.out j h
          · rw [List.getElem?_eq_none (by omega), List.getElem?_eq_none (by omega)])
        clear hlen
        subst hk'
        go_wp2
        go_ret
        exact ⟨by rw [HEQ.out]; rfl, HF.out⟩
  · have hlen' : ((rs.length : Int) == (qs.length : Int)) = false := beq_eq_false_iff_ne.2 (by omega)
    go_enter Try.func15, Try.ntmps15
    go_wp2
    go_ret
    exact ⟨by rw [decide_eq_false (fun e => hlen (by rw [e]))]; rfl, Fr.refl _ _⟩
theorem mstr (s : ByteArray) : strOf (109 :: sb s) = ⟨#[109]⟩ ++ s := by
  apply ByteArray.ext
  apply Array.toList_inj.1
  rw [strOf_data, ByteArray.data_append, Array.toList_append]
  have h := congrArg (fun x : ByteArray => x.data.toList) (strOf_sb s)
  simp only [strOf_data] at h
  rw [List.map_cons, h]
  rfl
set_option maxRecDepth 20000 in
set_option maxHeartbeats 6400000 in
theorem rawKeys_c (w : World) {a b : List Nat} {n : Nat} {s : ByteArray} (hla : a.length = 32) (hlb : b.length = 32) (hba : By a) (hbb : By b) (hn : n < 18446744073709551616) (hs : s.size ≤ 140737488355328) :
    Calls Try.prog 4 #[.agg (bv a).toArray, .agg (bv b).toArray, .int .u64 (n : Int), .string s] w fun e w' => e = .returned (.bool true) ∧ Fr [] w w' := by
  obtain ⟨W, hW⟩ : ∃ W, W = (w.alloc (.cells (bv a).toArray 23)).alloc (.cells (bv b).toArray 23) := ⟨_, rfl⟩
  have F : Hid (Fr [] w W) := hid (by rw [hW]; exact ((Fr.refl _ w).alloc _).alloc _)
  have XA : Hid (W.heap[w.heap.size]? = some (.cells (bv a).toArray 23 (0, 0))) := hid (by rw [hW, blk_old _ _ (by simp)]; exact blk_new _ _)
  have XB : Hid (W.heap[w.heap.size + 1]? = some (.cells (bv b).toArray 23 (0, 0))) := hid (by rw [hW]; exact new_at _ _ (by simp))
  have KC := hid (known_c W)
  go_enter Try.func4, Try.ntmps4
  go_upto_region 1 with fail
  rw [← hW]
  clear hW
  go_wp2_with fail
  refine KC.out.mono ?_
  rintro e w1 ⟨rfl, f1⟩
  have F1 := hid (F.out.trans f1)
  have A1 := hid (f1.at XA.out (by simp))
  have B1 := hid (f1.at XB.out (by simp))
  clear f1 F XA XB KC
  have s1 := fun W => slice_all 23 32 alenH elemH (by kernel_rfl) W w.heap.size 0
  have s2 := fun W => slice_all 23 32 alenH elemH (by kernel_rfl) W (w.heap.size + 1) 0
  have RA1 : Hid (Rd w1 (.slice (some ⟨w.heap.size, 0, none⟩) 32 32) (bv a)) := hid (by have := Rd.blk A1.out (c := 32) (by omega); rwa [hla] at this)
  have RB1 : Hid (Rd w1 (.slice (some ⟨w.heap.size + 1, 0, none⟩) 32 32) (bv b)) := hid (by have := Rd.blk B1.out (c := 32) (by omega); rwa [hlb] at this)
  have hl1 : a.length ≤ 140737488355328 := by omega
  have hl2 : b.length ≤ 140737488355328 := by omega
  go_upto_region 4 with (at_builtin; refine wpList_append_nil rfl _ _ rfl rfl (Fr.refl _ w1) _ RA1.out rfl hl1 ?_; intro v2 w2 o2 f2 _; rw [hla] at o2; obtain ⟨xa, xc, rfl, _⟩ := ownsRow_slice o2; have O2 := hid (Rd.ownN o2 hla.symm); have F2 := hid f2; clear o2 f2)
  have RB2 := hid (RB1.out.fr F2.out)
  go_upto_region 5 with (at_builtin; refine wpList_append_nil rfl _ _ rfl rfl F2.out _ RB2.out rfl hl2 ?_; intro v3 w3 o3 f23 f3; rw [hlb] at o3; obtain ⟨ya, yc, rfl, _⟩ := ownsRow_slice o3; have P3 := hid (Rd.ownN o3 hlb.symm); have F3 := hid f3; have O3 := hid (O2.out.fr f23); clear o3 f3 f23)
  have A3 := hid (F3.out.at A1.out (by simp))
  have B3 := hid (F3.out.at B1.out (by simp))
  have FW3 := hid (F1.out.trans F3.out)
  clear RA1 RB1 RB2 O2 F2 A1 B1 F1 F3 hl1 hl2 s1 s2
  obtain ⟨T0, hT⟩ : ∃ W, W = w3.drew := ⟨_, rfl⟩
  have TF0 : Hid (Fr [] w3 T0) := hid (by rw [hT]; exact (Fr.refl _ w3).drew)
  have TA0 : Hid (T0.heap[w.heap.size]? = some (.cells (bv a).toArray 23 (0, 0))) := hid (by rw [hT]; exact A3.out)
  have TB0 : Hid (T0.heap[w.heap.size + 1]? = some (.cells (bv b).toArray 23 (0, 0))) := hid (by rw [hT]; exact B3.out)
  refine wp_region_held_drew (S := fun w' => w'.heap[w.heap.size]? = some (.cells (bv a).toArray 23 (0, 0)) ∧ w'.heap[w.heap.size + 1]? = some (.cells (bv b).toArray 23 (0, 0))) (by kernel_rfl) (by rw [← hT]; exact ⟨TA0.out, TB0.out⟩) (fun hS => ?_)
  rw [← hT] at hS ⊢
  clear hT
  refine wpAnyH_take (i := 0) (v := .agg (bv a).toArray) rfl (by kernel_rfl) (by kernel_rfl) (by kernel_rfl) (fun _ _ _ h => h) (.inl ⟨by rfl, fun wx hX => by unfold execOp; simp only [Act.eval, Instr.loadAt, Instr.sureAddr, List.getElem_toArray]; simp [ldH hla hX.1]⟩) hS ?_
  simp only [Act.put, List.getElem_toArray, List.getElem_cons_zero, List.set_cons_succ, List.set_cons_zero, List.setIfInBounds_toArray]
  refine wpAnyH_take (i := 2) (v := .agg (bv a).toArray) rfl (by kernel_rfl) (by kernel_rfl) (by kernel_rfl) (fun _ _ _ h => h) (.inl ⟨by rfl, fun wx hX => by unfold execOp; simp only [Act.eval, Instr.loadAt, Instr.sureAddr, List.getElem_toArray]; simp [ldH hla hX.1]⟩) hS ?_
  simp only [Act.put, List.getElem_toArray, List.getElem_cons_succ, List.getElem_cons_zero, List.set_cons_succ, List.set_cons_zero, List.setIfInBounds_toArray]
  refine wpAnyH_take (i := 4) (v := .agg (bv a).toArray) rfl (by kernel_rfl) (by kernel_rfl) (by kernel_rfl) (fun _ _ _ h => h) (.inl ⟨by rfl, fun wx hX => by unfold execOp; simp only [Act.eval, Instr.loadAt, Instr.sureAddr, List.getElem_toArray]; simp [ldH hla hX.1]⟩) hS ?_
  simp only [Act.put, List.getElem_toArray, List.getElem_cons_succ, List.getElem_cons_zero, List.set_cons_succ, List.set_cons_zero, List.setIfInBounds_toArray]
  refine wpAnyH_take (i := 6) (v := .agg (bv a).toArray) rfl (by kernel_rfl) (by kernel_rfl) (by kernel_rfl) (fun _ _ _ h => h) (.inl ⟨by rfl, fun wx hX => by unfold execOp; simp only [Act.eval, Instr.loadAt, Instr.sureAddr, List.getElem_toArray]; simp [ldH hla hX.1]⟩) hS ?_
  simp only [Act.put, List.getElem_toArray, List.getElem_cons_succ, List.getElem_cons_zero, List.set_cons_succ, List.set_cons_zero, List.setIfInBounds_toArray]
  refine wpAnyH_take (i := 7) (v := .agg (bv b).toArray) rfl (by kernel_rfl) (by kernel_rfl) (by kernel_rfl) (fun _ _ _ h => h) (.inl ⟨by rfl, fun wx hX => by unfold execOp; simp only [Act.eval, Instr.loadAt, Instr.sureAddr, List.getElem_toArray]; simp [ldH hlb hX.2]⟩) hS ?_
  simp only [Act.put, List.getElem_toArray, List.getElem_cons_succ, List.getElem_cons_zero, List.set_cons_succ, List.set_cons_zero, List.setIfInBounds_toArray]
  refine wpAnyH_take (i := 9) (v := .int .u64 (n : Int)) rfl (by kernel_rfl) (by kernel_rfl) (by kernel_rfl) (fun _ _ _ h => h) (.inl ⟨by rfl, fun wx _ => by go_simp⟩) hS ?_
  simp only [Act.put, List.getElem_toArray, List.getElem_cons_succ, List.getElem_cons_zero, List.set_cons_succ, List.set_cons_zero, List.setIfInBounds_toArray]
  refine wpAnyH_take (i := 11) (v := .int .u64 (n : Int)) rfl (by kernel_rfl) (by kernel_rfl) (by kernel_rfl) (fun _ _ _ h => h) (.inl ⟨by rfl, fun wx _ => by go_simp⟩) hS ?_
  simp only [Act.put, List.getElem_toArray, List.getElem_cons_succ, List.getElem_cons_zero, List.set_cons_succ, List.set_cons_zero, List.setIfInBounds_toArray]
  clear hS
  refine wpAnyH_ready (rs := [1]) (by kernel_rfl) (by simp) ?_
  refine AllReadyH.cons rfl (fun K hK => ?_) AllReadyH.nil
  go_simp
  refine (nodeKey_c T0 hla).mono ?_
  rintro e T1 ⟨q1, rfl, g1, x1, f1⟩
  refine hK.out _ _ ⟨f1.at TA0.out (by simp), f1.at TB0.out (by simp)⟩ (fun hS => ?_)
  clear hK K hS
  have TA1 := hid (f1.at TA0.out (by simp))
  have TB1 := hid (f1.at TB0.out (by simp))
  have TF1 := hid (TF0.out.trans f1)
  have TX1_1 := hid x1
  clear TA0 TB0 TF0 f1 x1 g1
  refine wpAnyH_ready (rs := [3]) (by kernel_rfl) (by simp) ?_
  refine AllReadyH.cons rfl (fun K hK => ?_) AllReadyH.nil
  go_simp
  refine (codeKey_c T1 hla).mono ?_
  rintro e T2 ⟨q2, rfl, g2, x2, f2⟩
  refine hK.out _ _ ⟨f2.at TA1.out (by simp), f2.at TB1.out (by simp)⟩ (fun hS => ?_)
  clear hK K hS
  have TA2 := hid (f2.at TA1.out (by simp))
  have TB2 := hid (f2.at TB1.out (by simp))
  have TF2 := hid (TF1.out.trans f2)
  have TX1_2 := hid (f2.at TX1_1.out (by simp))
  clear TX1_1
  have TX2_2 := hid x2
  clear TA1 TB1 TF1 f2 x2 g2
  refine wpAnyH_ready (rs := [5]) (by kernel_rfl) (by simp) ?_
  refine AllReadyH.cons rfl (fun K hK => ?_) AllReadyH.nil
  go_simp
  refine (accountKey_c T2 hla).mono ?_
  rintro e T3 ⟨q3, rfl, g3, x3, f3⟩
  refine hK.out _ _ ⟨f3.at TA2.out (by simp), f3.at TB2.out (by simp)⟩ (fun hS => ?_)
  clear hK K hS
  have TA3 := hid (f3.at TA2.out (by simp))
  have TB3 := hid (f3.at TB2.out (by simp))
  have TF3 := hid (TF2.out.trans f3)
  have TX1_3 := hid (f3.at TX1_2.out (by simp))
  clear TX1_2
  have TX2_3 := hid (f3.at TX2_2.out (by simp))
  clear TX2_2
  have TX3_3 := hid x3
  clear TA2 TB2 TF2 f3 x3 g3
  refine wpAnyH_ready (rs := [8]) (by kernel_rfl) (by simp) ?_
  refine AllReadyH.cons rfl (fun K hK => ?_) AllReadyH.nil
  go_simp
  refine (slotKey_c T3 hla hlb).mono ?_
  rintro e T4 ⟨q4, rfl, g4, x4, f4⟩
  refine hK.out _ _ ⟨f4.at TA3.out (by simp), f4.at TB3.out (by simp)⟩ (fun hS => ?_)
  clear hK K hS
  have TA4 := hid (f4.at TA3.out (by simp))
  have TB4 := hid (f4.at TB3.out (by simp))
  have TF4 := hid (TF3.out.trans f4)
  have TX1_4 := hid (f4.at TX1_3.out (by simp))
  clear TX1_3
  have TX2_4 := hid (f4.at TX2_3.out (by simp))
  clear TX2_3
  have TX3_4 := hid (f4.at TX3_3.out (by simp))
  clear TX3_3
  have TX4_4 := hid x4
  clear TA3 TB3 TF3 f4 x4 g4
  refine wpAnyH_ready (rs := [10]) (by kernel_rfl) (by simp) ?_
  refine AllReadyH.cons rfl (fun K hK => ?_) AllReadyH.nil
  go_simp
  refine (rootKey_c T4 hn).mono ?_
  rintro e T5 ⟨q5, rfl, g5, x5, f5⟩
  refine hK.out _ _ ⟨f5.at TA4.out (by simp), f5.at TB4.out (by simp)⟩ (fun hS => ?_)
  clear hK K hS
  have TA5 := hid (f5.at TA4.out (by simp))
  have TB5 := hid (f5.at TB4.out (by simp))
  have TF5 := hid (TF4.out.trans f5)
  have TX1_5 := hid (f5.at TX1_4.out (by simp))
  clear TX1_4
  have TX2_5 := hid (f5.at TX2_4.out (by simp))
  clear TX2_4
  have TX3_5 := hid (f5.at TX3_4.out (by simp))
  clear TX3_4
  have TX4_5 := hid (f5.at TX4_4.out (by simp))
  clear TX4_4
  have TX5_5 := hid x5
  clear TA4 TB4 TF4 f5 x5 g5
  refine wpAnyH_ready (rs := [12]) (by kernel_rfl) (by simp) ?_
  refine AllReadyH.cons rfl (fun K hK => ?_) AllReadyH.nil
  go_simp
  refine (blockKey_c T5 hn).mono ?_
  rintro e T6 ⟨q6, rfl, g6, x6, f6⟩
  refine hK.out _ _ ⟨f6.at TA5.out (by simp), f6.at TB5.out (by simp)⟩ (fun hS => ?_)
  clear hK K hS
  have TA6 := hid (f6.at TA5.out (by simp))
  have TB6 := hid (f6.at TB5.out (by simp))
  have TF6 := hid (TF5.out.trans f6)
  have TX1_6 := hid (f6.at TX1_5.out (by simp))
  clear TX1_5
  have TX2_6 := hid (f6.at TX2_5.out (by simp))
  clear TX2_5
  have TX3_6 := hid (f6.at TX3_5.out (by simp))
  clear TX3_5
  have TX4_6 := hid (f6.at TX4_5.out (by simp))
  clear TX4_5
  have TX5_6 := hid (f6.at TX5_5.out (by simp))
  clear TX5_5
  have TX6_6 := hid x6
  clear TA5 TB5 TF5 f6 x6 g6
  refine wpAnyH_ready (rs := [13]) (by kernel_rfl) (by simp) ?_
  refine AllReadyH.cons rfl (fun K hK => ?_) AllReadyH.nil
  obtain ⟨T7, hT7⟩ : ∃ W, W = T6.alloc (.cells #[.slice (some ⟨q1, 0, none⟩) 33 33, .slice (some ⟨q2, 0, none⟩) 33 33, .slice (some ⟨q3, 0, none⟩) 33 33, .slice (some ⟨q4, 0, none⟩) 65 65, .slice (some ⟨q5, 0, none⟩) 9 9, .slice (some ⟨q6, 0, none⟩) 9 9] 26) := ⟨_, rfl⟩
  obtain ⟨LL, hLL⟩ : ∃ L, L = T6.heap.size := ⟨_, rfl⟩
  have f7 : Fr [] T6 T7 := by rw [hT7]; exact (Fr.refl _ T6).alloc _
  have x7 : T7.heap[LL]? = some (.cells #[.slice (some ⟨q1, 0, none⟩) 33 33, .slice (some ⟨q2, 0, none⟩) 33 33, .slice (some ⟨q3, 0, none⟩) 33 33, .slice (some ⟨q4, 0, none⟩) 65 65, .slice (some ⟨q5, 0, none⟩) 9 9, .slice (some ⟨q6, 0, none⟩) 9 9] 26 (0, 0)) := by rw [hT7, hLL]; exact blk_new _ _
  have RL : Hid (RdL T7 (.slice (some ⟨LL, 0, none⟩) 6 6) [110 :: a, 99 :: a, 97 :: a, 111 :: (a ++ b), 114 :: be 8 n, 98 :: be 8 n]) := hid (rdL6 x7 hla hba hlb hbb (f7.at TX1_6.out (by simp)) (f7.at TX2_6.out (by simp)) (f7.at TX3_6.out (by simp)) (f7.at TX4_6.out (by simp)) (f7.at TX5_6.out (by simp)) (f7.at TX6_6.out (by simp)))
  have TA7 := hid (f7.at TA6.out (by simp))
  have TB7 := hid (f7.at TB6.out (by simp))
  have TF7 := hid (TF6.out.trans f7)
  clear f7 x7 TA6 TB6 TF6 TX1_6 TX2_6 TX3_6 TX4_6 TX5_6 TX6_6
  go_simp
  rw [← hT7, ← hLL]
  clear hT7 hLL
  refine hK.out _ _ ⟨TA7.out, TB7.out⟩ (fun hS => ?_)
  clear hK K hS
  refine wpAnyH_ready (rs := [14]) (by kernel_rfl) (by simp) ?_
  refine AllReadyH.cons rfl (fun K hK => ?_) AllReadyH.nil
  go_simp
  refine hK.out _ _ ⟨TA7.out, TB7.out⟩ (fun hS => ?_)
  clear hK K hS
  refine wpAnyH_done (by kernel_rfl) ?_ _
  have FW4 := hid (FW3.out.trans TF7.out)
  have X4 := hid (O3.out.fr TF7.out)
  have Y4 := hid (P3.out.fr TF7.out)
  clear TA7 TB7 TF7 A3 B3 FW3 O3 P3
  have Q0 := hid (of_c ((T7).alloc (.cells #[.slice xa 32 xc] 26)) (c := 110) (N := 33) (rs := [a]) (by simp [hla]) (rdL1 X4.out hla hba (by omega)) rfl (by omega) (fun i hi => by rcases (show i = 0 ∨ i = 1 by omega) with rfl | rfl <;> simp [hla]))
  go_wp2_with fail
  refine Q0.out.mono ?_
  rintro e y0 ⟨vo0, rfl, oo, fo⟩
  have fo' := ((Fr.refl [] (T7)).alloc _).trans fo
  obtain ⟨oa0, oc0, rfl, _⟩ := ownsRow_slice oo
  rw [show List.flatten [a] = a by simp] at oo
  have R0 := hid (Rd.ownN oo (by simp [hla]))
  have GG0 := hid (FW4.out.trans fo')
  clear FW4
  have FF0 := GG0
  clear GG0
  have X4 := hid (X4.out.fr fo')
  have Y4 := hid (Y4.out.fr fo')
  have RL := hid (RL.out.fr fo')
  clear oo fo fo' Q0
  have Q1 := hid (of_c ((y0).alloc (.cells #[.slice xa 32 xc] 26)) (c := 99) (N := 33) (rs := [a]) (by simp [hla]) (rdL1 X4.out hla hba (by omega)) rfl (by omega) (fun i hi => by rcases (show i = 0 ∨ i = 1 by omega) with rfl | rfl <;> simp [hla]))
  go_wp2_with fail
  refine Q1.out.mono ?_
  rintro e y1 ⟨vo1, rfl, oo, fo⟩
  have fo' := ((Fr.refl [] (y0)).alloc _).trans fo
  obtain ⟨oa1, oc1, rfl, _⟩ := ownsRow_slice oo
  rw [show List.flatten [a] = a by simp] at oo
  have R1 := hid (Rd.ownN oo (by simp [hla]))
  have GG1 := hid (FF0.out.trans fo')
  clear FF0
  have FF1 := GG1
  clear GG1
  have R0 := hid (R0.out.fr fo')
  have X4 := hid (X4.out.fr fo')
  have Y4 := hid (Y4.out.fr fo')
  have RL := hid (RL.out.fr fo')
  clear oo fo fo' Q1
  have Q2 := hid (of_c ((y1).alloc (.cells #[.slice xa 32 xc] 26)) (c := 97) (N := 33) (rs := [a]) (by simp [hla]) (rdL1 X4.out hla hba (by omega)) rfl (by omega) (fun i hi => by rcases (show i = 0 ∨ i = 1 by omega) with rfl | rfl <;> simp [hla]))
  go_wp2_with fail
  refine Q2.out.mono ?_
  rintro e y2 ⟨vo2, rfl, oo, fo⟩
  have fo' := ((Fr.refl [] (y1)).alloc _).trans fo
  obtain ⟨oa2, oc2, rfl, _⟩ := ownsRow_slice oo
  rw [show List.flatten [a] = a by simp] at oo
  have R2 := hid (Rd.ownN oo (by simp [hla]))
  have GG2 := hid (FF1.out.trans fo')
  clear FF1
  have FF2 := GG2
  clear GG2
  have R0 := hid (R0.out.fr fo')
  have R1 := hid (R1.out.fr fo')
  have X4 := hid (X4.out.fr fo')
  have Y4 := hid (Y4.out.fr fo')
  have RL := hid (RL.out.fr fo')
  clear oo fo fo' Q2
  have Q3 := hid (of_c ((y2).alloc (.cells #[.slice xa 32 xc, .slice ya 32 yc] 26)) (c := 111) (N := 65) (rs := [a, b]) (by simp [hla, hlb]) (rdL2 X4.out hla hba (by omega) Y4.out hlb hbb (by omega)) rfl (by omega) (fun i hi => by rcases (show i = 0 ∨ i = 1 ∨ i = 2 by omega) with rfl | rfl | rfl <;> simp [hla, hlb]))
  go_wp2_with fail
  refine Q3.out.mono ?_
  rintro e y3 ⟨vo3, rfl, oo, fo⟩
  have fo' := ((Fr.refl [] (y2)).alloc _).trans fo
  obtain ⟨oa3, oc3, rfl, _⟩ := ownsRow_slice oo
  rw [show List.flatten [a, b] = a ++ b by simp] at oo
  have R3 := hid (Rd.ownN oo (by simp [hla, hlb]))
  have GG3 := hid (FF2.out.trans fo')
  clear FF2
  have FF3 := GG3
  clear GG3
  have R0 := hid (R0.out.fr fo')
  have R1 := hid (R1.out.fr fo')
  have R2 := hid (R2.out.fr fo')
  have X4 := hid (X4.out.fr fo')
  have Y4 := hid (Y4.out.fr fo')
  have RL := hid (RL.out.fr fo')
  clear oo fo fo' Q3
  go_wp2_with fail
  refine (eight_c y3 hn).mono ?_
  rintro e z4 ⟨ve4, rfl, oe, fe⟩
  obtain ⟨ea4, ec4, rfl, _⟩ := ownsRow_slice oe
  have E4 := hid (Rd.ownN oe (be_len 8 n).symm)
  have FF4 := hid (FF3.out.trans fe)
  have R0 := hid (R0.out.fr fe)
  have R1 := hid (R1.out.fr fe)
  have R2 := hid (R2.out.fr fe)
  have R3 := hid (R3.out.fr fe)
  have X4 := hid (X4.out.fr fe)
  have Y4 := hid (Y4.out.fr fe)
  have RL := hid (RL.out.fr fe)
  clear oe fe
  have Q4 := hid (of_c ((z4).alloc (.cells #[.slice ea4 8 ec4] 26)) (c := 114) (N := 9) (rs := [be 8 n]) (by simp [be_len]) (rdL1 E4.out (be_len 8 n) (be_by 8 n) (by omega)) rfl (by omega) (fun i hi => by rcases (show i = 0 ∨ i = 1 by omega) with rfl | rfl <;> simp [be_len]))
  go_wp2_with fail
  refine Q4.out.mono ?_
  rintro e y4 ⟨vo4, rfl, oo, fo⟩
  have fo' := ((Fr.refl [] (z4)).alloc _).trans fo
  obtain ⟨oa4, oc4, rfl, _⟩ := ownsRow_slice oo
  rw [show List.flatten [be 8 n] = be 8 n by simp] at oo
  have R4 := hid (Rd.ownN oo (by simp [be_len]))
  have GG4 := hid (FF4.out.trans fo')
  clear FF4
  have FF4 := GG4
  clear GG4
  have R0 := hid (R0.out.fr fo')
  have R1 := hid (R1.out.fr fo')
  have R2 := hid (R2.out.fr fo')
  have R3 := hid (R3.out.fr fo')
  have X4 := hid (X4.out.fr fo')
  have Y4 := hid (Y4.out.fr fo')
  have RL := hid (RL.out.fr fo')
  clear oo fo fo' Q4
  go_wp2_with fail
  refine (eight_c y4 hn).mono ?_
  rintro e z5 ⟨ve5, rfl, oe, fe⟩
  obtain ⟨ea5, ec5, rfl, _⟩ := ownsRow_slice oe
  have E5 := hid (Rd.ownN oe (be_len 8 n).symm)
  have FF5 := hid (FF4.out.trans fe)
  have R0 := hid (R0.out.fr fe)
  have R1 := hid (R1.out.fr fe)
  have R2 := hid (R2.out.fr fe)
  have R3 := hid (R3.out.fr fe)
  have R4 := hid (R4.out.fr fe)
  have X4 := hid (X4.out.fr fe)
  have Y4 := hid (Y4.out.fr fe)
  have RL := hid (RL.out.fr fe)
  clear oe fe
  have Q5 := hid (of_c ((z5).alloc (.cells #[.slice ea5 8 ec5] 26)) (c := 98) (N := 9) (rs := [be 8 n]) (by simp [be_len]) (rdL1 E5.out (be_len 8 n) (be_by 8 n) (by omega)) rfl (by omega) (fun i hi => by rcases (show i = 0 ∨ i = 1 by omega) with rfl | rfl <;> simp [be_len]))
  go_wp2_with fail
  refine Q5.out.mono ?_
  rintro e y5 ⟨vo5, rfl, oo, fo⟩
  have fo' := ((Fr.refl [] (z5)).alloc _).trans fo
  obtain ⟨oa5, oc5, rfl, _⟩ := ownsRow_slice oo
  rw [show List.flatten [be 8 n] = be 8 n by simp] at oo
  have R5 := hid (Rd.ownN oo (by simp [be_len]))
  have GG5 := hid (FF5.out.trans fo')
  clear FF5
  have FF5 := GG5
  clear GG5
  have R0 := hid (R0.out.fr fo')
  have R1 := hid (R1.out.fr fo')
  have R2 := hid (R2.out.fr fo')
  have R3 := hid (R3.out.fr fo')
  have R4 := hid (R4.out.fr fo')
  have X4 := hid (X4.out.fr fo')
  have Y4 := hid (Y4.out.fr fo')
  have RL := hid (RL.out.fr fo')
  clear oo fo fo' Q5
  have WANT : Hid (RdL (y5.alloc (.cells #[.slice oa0 33 oc0, .slice oa1 33 oc1, .slice oa2 33 oc2, .slice oa3 65 oc3, .slice oa4 9 oc4, .slice oa5 9 oc5] 26)) (.slice (some ⟨y5.heap.size, 0, none⟩) 6 6) (keys6 a b n)) := hid (rdL6v ⟨R0.out, by simp [hla], by_cons (by omega) hba, by omega⟩ ⟨R1.out, by simp [hla], by_cons (by omega) hba, by omega⟩ ⟨R2.out, by simp [hla], by_cons (by omega) hba, by omega⟩ ⟨R3.out, by simp [hla, hlb], by_cons (by omega) (hba.append hbb), by omega⟩ ⟨R4.out, by simp [be_len], by_cons (by omega) (be_by 8 n), by omega⟩ ⟨R5.out, by simp [be_len], by_cons (by omega) (be_by 8 n), by omega⟩)
  have RL6 : Hid (RdL (y5.alloc (.cells #[.slice oa0 33 oc0, .slice oa1 33 oc1, .slice oa2 33 oc2, .slice oa3 65 oc3, .slice oa4 9 oc4, .slice oa5 9 oc5] 26)) (.slice (some ⟨LL, 0, none⟩) 6 6) (keys6 a b n)) := hid (RL.out.fr ((Fr.refl _ y5).alloc _))
  have FF6 := hid (FF5.out.alloc (.cells #[.slice oa0 33 oc0, .slice oa1 33 oc1, .slice oa2 33 oc2, .slice oa3 65 oc3, .slice oa4 9 oc4, .slice oa5 9 oc5] 26))
  have LC := lists_c RL6.out WANT.out (by simp [keys6])
  rw [decide_eq_true rfl] at LC
  have LC := hid LC
  clear R0 R1 R2 R3 R4 R5 X4 Y4 RL FF5 WANT
  go_wp2_with fail
  refine LC.out.mono ?_
  rintro e w8 ⟨rfl, f8⟩
  have F8 := hid (FF6.out.trans f8)
  have R8 := hid (RL6.out.fr f8)
  clear f8 FF6 RL6 LC
  have hz := zeroK
  have hlen0 : (rkc 0 z32 z32 0 es).length = 67 := rkc_len z32_len z32_len
  go_wp2_with fail
  go_loopw [13] (fun v13 wr => ∃ i : Nat, i ≤ 6 ∧ v13 = .int .i64 (i : Int) ∧ RdL wr (.slice (some ⟨LL, 0, none⟩) 6 6) (keys6 a b n) ∧ Fr [] w wr) (fun v13 _ => 6 - (intOf v13).toNat)
  case atStart => exact ⟨0, by omega, rfl, R8.out, F8.out⟩
  case round =>
    obtain ⟨i, hi, rfl, hR, hF⟩ := hrel
    have HR := hid hR
    have HF := hid hF
    clear hR hF R8 F8
    by_cases hlt : i < 6
    · have hlti : (i : Int) < 6 := by omega
      obtain ⟨r, hr⟩ : ∃ r, (keys6 a b n)[i]? = some r := ⟨_, List.getElem?_eq_getElem (by simp [keys6]; omega)⟩
      obtain ⟨la, lc, c1, d1, b1⟩ := rdL_at HR.out hr
      obtain ⟨he0, hlr⟩ := keys6_prs hla hlb hr
      have P1 := fun W (hF : Fr [] wr W) => parse_c W (d1.fr hF) b1 (by omega)
      have P2 := fun W (hF : Fr [] wr W) => rparse_c W (d1.fr hF) b1 (by omega)
      unfold Prsd at P1 P2
      rw [he0] at P1 P2
      have KO : Hid (prs r).Ok := hid (prs_ok r)
      have hlk : (prs r).cells.length = 67 := rkc_len KO.out.f KO.out.s
      have h1' : Hid ((prs r).cells.toArray.all (·.oneCell') = true) := hid rkc_one
      have HQ : Hid (∀ W, (binOp .neq 36 (.agg (prs r).cells.toArray) (.agg (prs r).cells.toArray)).run Try.prog W = .ok (.bool false) W) := hid (fun W => neqK W KO.out.f KO.out.s)
      have P1 := hid P1
      have P2 := hid P2
      have C1 : Hid (∀ W, Fr [] wr W → W.cell? ⟨LL, i, none⟩ = some (.slice la r.length lc)) := hid (fun W hF => cellM c1 hF)
      clear KO he0 d1 b1 hr hlr
      generalize (prs r).cells = C at *
      generalize r.length = rl at *
      go_wp2_with fail
      refine (P1.out wr (Fr.refl _ wr)).mono ?_
      rintro e w2 ⟨rfl, f2⟩
      have F2 := hid f2
      clear f2 c1
      have hst : (storeCells ⟨w2.heap.size, 0, none⟩ C).run Try.prog (w2.alloc (.cells (rkc 0 z32 z32 0 es).toArray 36)) = _ := stKc hlen0 hlk h1'.out (blk_new _ _)
      obtain ⟨w3, hw3⟩ : ∃ W, W = (w2.alloc (.cells (rkc 0 z32 z32 0 es).toArray 36)).setRow w2.heap.size C.toArray := ⟨_, rfl⟩
      have F3 : Hid (Fr [] wr w3) := hid (by rw [hw3]; exact F2.out.trans (((Fr.refl _ w2).alloc _).newer (p := w2.heap.size) ⟨rfl, rfl, rfl, by simp [World.setRow], fun k hk hn => setRow_other _ _ _ _ (by simpa using hn)⟩ (Nat.le_refl _)))
      have Y3 : Hid (w3.heap[w2.heap.size]? = some (.cells C.toArray 36 (0, 0))) := hid (by rw [hw3]; exact setRow_heap _ _ _ _ _ _ (blk_new _ _))
      have c3 := C1.out w3 F3.out
      rw [← hw3] at hst
      clear hw3
      go_wp2_with fail
      refine (P2.out w3 F3.out).mono ?_
      rintro e w4 ⟨rfl, f4⟩
      have F4 := hid (F3.out.trans f4)
      have Y4 := hid (f4.at Y3.out (by simp))
      clear f4 c3 hst
      have hst2 : (storeCells ⟨w4.heap.size, 0, none⟩ C).run Try.prog (w4.alloc (.cells (rkc 0 z32 z32 0 es).toArray 36)) = _ := stKc hlen0 hlk h1'.out (blk_new _ _)
      obtain ⟨w5, hw5⟩ : ∃ W, W = (w4.alloc (.cells (rkc 0 z32 z32 0 es).toArray 36)).setRow w4.heap.size C.toArray := ⟨_, rfl⟩
      have f5 : Fr [] w4 w5 := by rw [hw5]; exact ((Fr.refl _ w4).alloc _).newer (p := w4.heap.size) ⟨rfl, rfl, rfl, by simp [World.setRow], fun k hk hn => setRow_other _ _ _ _ (by simpa using hn)⟩ (Nat.le_refl _)
      have F5 : Hid (Fr [] wr w5) := hid (F4.out.trans f5)
      have Y5 : Hid (w5.heap[w4.heap.size]? = some (.cells C.toArray 36 (0, 0))) := hid (by rw [hw5]; exact setRow_heap _ _ _ _ _ _ (blk_new _ _))
      have X5 : Hid (w5.heap[w2.heap.size]? = some (.cells C.toArray 36 (0, 0))) := hid (f5.at Y4.out (by simp))
      rw [← hw5] at hst2
      clear hw5 f5
      go_wp2_with (with_reducible (show wpList Try.prog _ _ (_ :: _) _ _); first | refine wpList_ldK (by kernel_rfl) (.tmp 14) rfl hlk X5.out rfl ?_ | refine wpList_ldK (by kernel_rfl) (.tmp 16) rfl hlk Y5.out rfl ?_ | refine wpList_neK (by kernel_rfl) (.tmp 91) (.tmp 92) rfl (HQ.out _) rfl rfl ?_)
      go_roundw
      case rel => exact ⟨i + 1, by omega, by go_num, HR.out.fr F5.out, HF.out.trans F5.out⟩
      case measure => simp [intOf]; omega
    · have hlti : ¬ (i : Int) < 6 := by omega
      clear HR
      cases hok : nmOk s
      · have MC := hid (marker_no wr hs hok)
        have NC := rname_c s wr hs
        rw [hok] at NC
        have NC := hid NC
        clear hok
        go_wp2_with fail
        refine MC.out.mono ?_
        rintro e w9 ⟨rfl, hw9⟩
        have hw9' := hw9.symm
        clear hw9
        subst hw9'
        go_wp2_with fail
        refine NC.out.mono ?_
        rintro e w9 ⟨rfl, hw9⟩
        have hw9' := hw9.symm
        clear hw9
        subst hw9'
        go_wp2
        go_ret
        exact ⟨rfl, HF.out⟩
      · obtain ⟨sz, hsz⟩ : ∃ k, s.size = k := ⟨_, rfl⟩
        have MC := hid (marker_ok wr hsz hok)
        have NC := fun W => rname_c s W hs
        rw [hok] at NC
        have NC := hid NC
        clear hok
        go_wp2_with fail
        refine MC.out.mono ?_
        rintro e w9 ⟨p9, rfl, r9, f9⟩
        have hcv := run_conv r9
        have F9 := hid (HF.out.trans f9)
        clear r9 f9
        go_wp2_with fail
        refine (NC.out w9).mono ?_
        rintro e w10 ⟨rfl, hw9⟩
        have hw9' := hw9.symm
        clear hw9
        subst hw9'
        have hms : strOf (109 :: sb s) = ⟨#[109]⟩ ++ s := mstr s
        rw [hms] at hcv
        go_wp2
        go_ret
        exact ⟨rfl, F9.out⟩
end Go.Proofs.Ytpacijcjcdigmaa
