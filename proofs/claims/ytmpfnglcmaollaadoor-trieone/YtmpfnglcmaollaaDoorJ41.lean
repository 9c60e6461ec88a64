/-
  What the document's Sum answers.
-/
import Derived.Test.YtmpfnglcmaollaaDoorJ18
import Derived.Test.YtmpfnglcmaollaaDoorRB
import Derived.Test.YtmpfnglcmaollaaDoorJ01
import Derived.Test.YtmpfnglcmaollaaDoorJ39
namespace Go.Proofs.YtmpfnglcmaollaaDoor
open Go.ChangeShapes Go.WideShapes Go.ChangeAt Go.RowKit

theorem xb_val (f : Nat → BitVec 64) (g : Nat → BitVec 8) (k : Nat) {X : Int} (hX : X = ((g k).toNat : Int)) : bits .xor .u64 ((xb f g k (k / 8)).toNat : Int) (IntKind.u64.wrap (X * 2 ^ (8 * (k % 8)))) = ((xb f g k (k / 8) ^^^ (g k).setWidth 64 <<< (8 * (k % 8))).toNat : Int) := by
  have h : ((g k).toNat : Int) = (((g k).setWidth 64).toNat : Int) := by
    have := (g k).isLt
    rw [BitVec.toNat_setWidth]
    omega
  rw [hX, h, bits_shl, bits_xor]
theorem mb_in {ns : List Nat} {q i x : Nat} (h : ns[136 * q + i]? = some x) (hx : x < 256) : (mb ns q i).toNat = x := by
  have hl : 136 * q + i < ns.length := by
    rcases Nat.lt_or_ge (136 * q + i) ns.length with h' | h'
    · exact h'
    · rw [List.getElem?_eq_none h'] at h; cases h
  unfold mb
  rw [if_pos hl, List.getD_eq_getElem?_getD, h, Option.getD_some, BitVec.toNat_ofNat]
  omega
theorem mb_one {ns : List Nat} {q i : Nat} (h : 136 * q + i = ns.length) (hi : i ≠ 135) : (mb ns q i).toNat = 1 := by
  unfold mb; rw [if_neg (by omega), if_neg hi, if_pos h]; rfl
theorem mb_zero {ns : List Nat} {q i : Nat} (h : ns.length < 136 * q + i) (hi : i ≠ 135) : (mb ns q i).toNat = 0 := by
  unfold mb; rw [if_neg (by omega), if_neg hi, if_neg (by omega)]; rfl
theorem mb_129 {ns : List Nat} {q : Nat} (h : 136 * q + 135 = ns.length) : (mb ns q 135).toNat = 129 := by
  unfold mb; rw [if_neg (by omega), if_pos rfl, if_pos h]; rfl
theorem mb_128 {ns : List Nat} {q : Nat} (h : ns.length < 136 * q + 135) : (mb ns q 135).toNat = 128 := by
  unfold mb; rw [if_neg (by omega), if_pos rfl, if_neg (by omega)]; rfl

theorem zero32r : (#[.int .u8 0, .int .u8 0, .int .u8 0, .int .u8 0, .int .u8 0, .int .u8 0, .int .u8 0, .int .u8 0, .int .u8 0, .int .u8 0, .int .u8 0, .int .u8 0, .int .u8 0, .int .u8 0, .int .u8 0, .int .u8 0, .int .u8 0, .int .u8 0, .int .u8 0, .int .u8 0, .int .u8 0, .int .u8 0, .int .u8 0, .int .u8 0, .int .u8 0, .int .u8 0, .int .u8 0, .int .u8 0, .int .u8 0, .int .u8 0, .int .u8 0, .int .u8 0] : Array Value) = bvals 32 (fun _ => 0) := rfl
set_option maxRecDepth 20000 in
set_option maxHeartbeats 2000000 in
theorem refSum_c (w : World) {v : Value} {ns : List Nat} (hr : Rd w v (bv ns)) (hb : ∀ x ∈ ns, x < 256) (hl : ns.length ≤ 140737488355328) :
    Calls Tryd.prog 17 #[v] w fun e w' => e = .returned (.agg (bvals 32 (hashOf ns))) ∧ Fr [] w w' := by
  obtain ⟨a0, c0, rfl, hrow⟩ : ∃ a c, v = .slice a ns.length c ∧ ∀ (j n : Nat), ns[j]? = some n → ∃ b off, a = some ⟨b, off, none⟩ ∧ w.cell? ⟨b, off + j, none⟩ = some (.int .u8 (n : Int)) := by
    rcases hr.split with ⟨rfl, a, c, rfl⟩ | ⟨b, off, c, rfl, _, _, hc⟩
    · exact ⟨a, c, rfl, fun j u hj => by simp at hj⟩
    · exact ⟨_, c, rfl, fun j u hj => ⟨b, off, rfl, hc j u hj⟩⟩
  have HW := hid hrow
  have HBn := hid hb
  clear hr hrow hb
  go_enter Tryd.func17, Tryd.ntmps17
  go_wp2
  go_loopw [5] (fun v5 wr => ∃ q : Nat, 136 * q ≤ ns.length + 136 ∧ v5 = .int .i64 ((136 * q : Nat) : Int) ∧ wr.heap[w.heap.size]? = some (.cells (bvals 32 (fun _ => 0)) 28 (0, 0)) ∧ wr.heap[w.heap.size + 1]? = some (.cells (vals 25 (blocks ns q)) 96 (0, 0)) ∧ Fr [] w wr) (fun v5 _ => ns.length + 136 - (intOf v5).toNat)
  case atStart =>
    refine ⟨0, by omega, rfl, ?_, ?_, ((Fr.refl _ _).alloc _).alloc _⟩
    · rw [blk_old _ _ (by simp)]; exact new_at _ _ rfl
    · exact blk_as (f := fun _ => 0) (new_at _ _ (by simp)) fun _ _ => rfl
  case round =>
    obtain ⟨q, hq, rfl, h0, ha, hf⟩ := hrel
    have H0 := hid h0
    have HA := hid ha
    have HF := hid hf
    clear h0 hf
    obtain ⟨t, ht⟩ : ∃ t, t = 136 * q := ⟨_, rfl⟩
    rw [← ht]
    have HQ := hid ht
    have hq2 : t ≤ ns.length + 136 := by omega
    clear ht hq
    by_cases hlt : t ≤ ns.length
    · clear ha
      have hq' : t ≤ ns.length := hlt
      go_wp2
      go_loopw [6] (fun v6 wr => ∃ i : Nat, i ≤ 136 ∧ v6 = .int .i64 (i : Int) ∧ wr.heap[w.heap.size]? = some (.cells (bvals 32 (fun _ => 0)) 28 (0, 0)) ∧ wr.heap[w.heap.size + 1]? = some (.cells (vals 25 (xb (blocks ns q) (mb ns q) i)) 96 (0, 0)) ∧ Fr [] w wr) (fun v6 _ => 136 - (intOf v6).toNat)
      case atStart => exact ⟨0, by omega, rfl, H0.out, HA.out, HF.out⟩
      case round =>
        clear H0 HA HF
        rename_i wz hrel
        obtain ⟨i, hi, rfl, h0, ha, hf⟩ := hrel
        have H0 := hid h0
        have HA := hid ha
        have HF := hid hf
        by_cases hli : i < 136
        · have e0 := lane_at ha (i := i / 8) (by omega)
          have fz := blk_frozen ha
          have HV := hid (fun (X : Int) (hX : X = ((mb ns q i).toNat : Int)) => xb_val (blocks ns q) (mb ns q) i hX)
          have HS : Hid (xb (blocks ns q) (mb ns q) (i + 1) = up (xb (blocks ns q) (mb ns q) i) (i / 8) (xb (blocks ns q) (mb ns q) i (i / 8) ^^^ (mb ns q i).setWidth 64 <<< (8 * (i % 8)))) := rfl
          have hw8 : IntKind.i64.wrap (8 * ((i : Int) % 8)) = 8 * ((i : Int) % 8) := by rw [IntKind.wrap_i64]; omega
          clear h0 ha hf
          by_cases hin : t + i < ns.length
          · obtain ⟨x, hx⟩ : ∃ x, ns[136 * q + i]? = some x := ⟨_, List.getElem?_eq_getElem (by have := HQ.out; omega)⟩
            have hx256 := HBn.out x (List.mem_of_getElem? hx)
            obtain ⟨b, off, rfl, hcell⟩ := HW.out _ _ hx
            rw [← HQ.out] at hcell
            have e1 : wr.cell? ⟨b, off + (t + i), none⟩ = some (.int .u8 (x : Int)) := by
              rw [World.cell?_of_block (w := w) (HF.out.block _ (World.block_lt_of_cell? w _ hcell) (by simp))]; exact hcell
            have HM := hid (mb_in hx hx256)
            clear hx hcell
            by_cases h5 : i = 135
            · have h5' : ((i : Int) == 135) = true := by simp; omega
              have h136 : ¬ ((ns.length : Int) < (t : Int) + 136) := by omega
              clear h5
              go_wp2
              go_region
              go_wp2
              go_roundw
              case rel =>
                refine ⟨i + 1, by omega, by go_num, (blk_drew _ _).trans ((blk_setne _ _ _ (by omega)).trans H0.out), ?_, (HF.out.set _ _ (.inr (Nat.le_succ _))).drew⟩
                rw [HS.out]
                refine (blk_drew _ _).trans ?_
                rw [HV.out _ (show (x : Int) = ((mb ns q i).toNat : Int) by rw [HM.out])]
                exact blk_up HA.out _ _
              case measure => simp [intOf]; omega
            · have h5' : ((i : Int) == 135) = false := by simp; omega
              clear h5
              go_wp2
              go_region
              go_wp2
              go_roundw
              case rel =>
                refine ⟨i + 1, by omega, by go_num, (blk_drew _ _).trans ((blk_setne _ _ _ (by omega)).trans H0.out), ?_, (HF.out.set _ _ (.inr (Nat.le_succ _))).drew⟩
                rw [HS.out]
                refine (blk_drew _ _).trans ?_
                rw [HV.out _ (show (x : Int) = ((mb ns q i).toNat : Int) by rw [HM.out])]
                exact blk_up HA.out _ _
              case measure => simp [intOf]; omega
          · by_cases hat : t + i = ns.length
            · have hat1 : ¬ ((t : Int) + (i : Int) < (ns.length : Int)) := by omega
              have hat2 : (((t : Int) + (i : Int)) == (ns.length : Int)) = true := by simp; omega
              by_cases h5 : i = 135
              · have h5' : ((i : Int) == 135) = true := by simp; omega
                have h136 : (ns.length : Int) < (t : Int) + 136 := by omega
                have HM := hid (mb_129 (ns := ns) (q := q) (by have := HQ.out; omega))
                rw [← h5] at HM
                clear h5 hat hin
                go_wp2
                go_region
                go_wp2
                go_roundw
                case rel =>
                  refine ⟨i + 1, by omega, by go_num, (blk_drew _ _).trans ((blk_setne _ _ _ (by omega)).trans H0.out), ?_, (HF.out.set _ _ (.inr (Nat.le_succ _))).drew⟩
                  rw [HS.out]
                  refine (blk_drew _ _).trans ?_
                  rw [HV.out _ (show IntKind.u64.wrap (bits .or .u8 1 128) = ((mb ns q i).toNat : Int) by rw [HM.out]; decide)]
                  exact blk_up HA.out _ _
                case measure => simp [intOf]; omega
              · have h5' : ((i : Int) == 135) = false := by simp; omega
                have HM := hid (mb_one (ns := ns) (q := q) (i := i) (by have := HQ.out; omega) h5)
                clear h5 hat hin
                go_wp2
                go_region
                go_wp2
                go_roundw
                case rel =>
                  refine ⟨i + 1, by omega, by go_num, (blk_drew _ _).trans ((blk_setne _ _ _ (by omega)).trans H0.out), ?_, (HF.out.set _ _ (.inr (Nat.le_succ _))).drew⟩
                  rw [HS.out]
                  refine (blk_drew _ _).trans ?_
                  have hv := HV.out 1 (by rw [HM.out]; rfl)
                  rw [Int.one_mul] at hv
                  rw [hv]
                  exact blk_up HA.out _ _
                case measure => simp [intOf]; omega
            · have hat1 : ¬ ((t : Int) + (i : Int) < (ns.length : Int)) := by omega
              have hat2 : (((t : Int) + (i : Int)) == (ns.length : Int)) = false := by simp; omega
              have hgt : ns.length < 136 * q + i := by have := HQ.out; omega
              by_cases h5 : i = 135
              · have h5' : ((i : Int) == 135) = true := by simp; omega
                have h136 : (ns.length : Int) < (t : Int) + 136 := by omega
                have HM := hid (mb_128 (ns := ns) (q := q) (by omega))
                rw [← h5] at HM
                clear h5 hat hin hgt
                go_wp2
                go_region
                go_wp2
                go_roundw
                case rel =>
                  refine ⟨i + 1, by omega, by go_num, (blk_drew _ _).trans ((blk_setne _ _ _ (by omega)).trans H0.out), ?_, (HF.out.set _ _ (.inr (Nat.le_succ _))).drew⟩
                  rw [HS.out]
                  refine (blk_drew _ _).trans ?_
                  rw [HV.out _ (show IntKind.u64.wrap (bits .or .u8 0 128) = ((mb ns q i).toNat : Int) by rw [HM.out]; decide)]
                  exact blk_up HA.out _ _
                case measure => simp [intOf]; omega
              · have h5' : ((i : Int) == 135) = false := by simp; omega
                have HM := hid (mb_zero (ns := ns) (q := q) (i := i) hgt h5)
                clear h5 hat hin hgt
                go_wp2
                go_region
                go_wp2
                go_roundw
                case rel =>
                  refine ⟨i + 1, by omega, by go_num, (blk_drew _ _).trans ((blk_setne _ _ _ (by omega)).trans H0.out), ?_, (HF.out.set _ _ (.inr (Nat.le_succ _))).drew⟩
                  rw [HS.out]
                  refine (blk_drew _ _).trans ?_
                  have hv := HV.out 0 (by rw [HM.out]; rfl)
                  rw [Int.zero_mul, show IntKind.u64.wrap 0 = 0 from rfl] at hv
                  rw [hv]
                  exact blk_up HA.out _ _
                case measure => simp [intOf]; omega
        · have hi136 : i = 136 := by omega
          subst hi136
          have HX := hid (blk_as ha (xb_end (blocks ns q) (mb ns q)))
          clear h0 ha hf HA
          go_upto_region 17 with fail
          apply wp_region_lit
          refine wpList_ld rfl (.tmp 3) rfl HX.out (by simp [Act.eval]) ?_
          go_wp2_with fail
          refine (refPermute_c _ _).mono ?_
          rintro e wc ⟨rfl, fc⟩
          have hbc := fc.at HX.out (by simp)
          have H0c := hid (fc.at H0.out (by simp))
          have HFc := hid (HF.out.trans fc)
          rename_i hK
          refine hK _ _ ?_
          refine wpList_st (g := perm 24 (absorb (blocks ns q) (mb ns q))) rfl (.tmp 3) (.tmp 62) rfl hbc (by simp [Act.eval]) (by simp [Act.eval]) ?_
          have HR : Hid ((wc.setRow (w.heap.size + 1) (vals 25 (perm 24 (absorb (blocks ns q) (mb ns q))))).heap[w.heap.size + 1]? = some (.cells (vals 25 (blocks ns (q + 1))) 96 (0, 0))) := row_heap hbc
          have HR0 := hid ((row_ne wc (vals 25 (perm 24 (absorb (blocks ns q) (mb ns q)))) (show w.heap.size ≠ w.heap.size + 1 by omega)).trans H0c.out)
          have HRF := hid (HFc.out.row (p := w.heap.size + 1) (vals 25 (perm 24 (absorb (blocks ns q) (mb ns q)))) (.inr (Nat.le_succ _)))
          clear hK hbc H0c HFc fc HX H0 HF
          generalize World.setRow wc (w.heap.size + 1) (vals 25 (perm 24 (absorb (blocks ns q) (mb ns q)))) = w2 at HR HR0 HRF ⊢
          generalize perm 24 (absorb (blocks ns q) (mb ns q)) = pz
          generalize absorb (blocks ns q) (mb ns q) = az
          go_wp2
          go_roundw
          case rel => exact ⟨q + 1, by have := HQ.out; omega, by have := HQ.out; rw [show (136 * (q + 1)) = t + 136 by omega]; go_num, HR0.out, HR.out, HRF.out⟩
          case measure => simp [intOf]; omega
    · obtain ⟨r, hr⟩ : ∃ r, q = r + 1 := ⟨q - 1, by have := HQ.out; omega⟩
      have HH : Hid (hb (blocks ns q) = hashOf ns) := by
        rw [hr]
        exact blocks_end (by have := HQ.out; omega) (by have := HQ.out; omega)
      clear hr
      go_upto_region 19 with fail
      rw [zero32r]
      have hC := blk_lt HA.out
      have HN : Hid ((wr.alloc (.cells (bvals 32 (fun _ => 0)) 28)).heap[wr.heap.size]? = some (.cells (bvals 32 (fun _ => 0)) 28 (0, 0))) := blk_new _ _
      have HA1 := hid ((blk_old wr (.cells (bvals 32 (fun _ => 0)) 28) hC).trans HA.out)
      have H01 := hid ((blk_old wr (.cells (bvals 32 (fun _ => 0)) 28) (blk_lt H0.out)).trans H0.out)
      have HF1 := hid (HF.out.alloc (.cells (bvals 32 (fun _ => 0)) 28))
      clear H0 HA HF ha
      generalize wr.alloc (.cells (bvals 32 (fun _ => 0)) 28) = w3 at HN HA1 H01 HF1 ⊢
      generalize wr.heap.size = C at HN hC ⊢
      go_wp2
      go_loopw [9] (fun v9 wr => ∃ k : Nat, k ≤ 32 ∧ v9 = .int .i64 (k : Int) ∧ wr.heap[w.heap.size]? = some (.cells (bvals 32 (fun _ => 0)) 28 (0, 0)) ∧ wr.heap[w.heap.size + 1]? = some (.cells (vals 25 (blocks ns q)) 96 (0, 0)) ∧ wr.heap[C]? = some (.cells (bvals 32 (hbTo (blocks ns q) k)) 28 (0, 0)) ∧ Fr [] w wr) (fun v9 _ => 32 - (intOf v9).toNat)
      case atStart => exact ⟨0, by omega, rfl, H01.out, HA1.out, bblk_as HN.out fun i _ => by unfold hbTo; rw [if_neg (by omega)], HF1.out⟩
      case round =>
        clear HN HA1 H01 HF1
        rename_i wz hrel
        obtain ⟨k, hk, rfl, h0, ha, hh, hf⟩ := hrel
        have H0 := hid h0
        have HA := hid ha
        have HH2 := hid hh
        have HF := hid hf
        by_cases hlk : k < 32
        · have e0 := lane_at ha (i := k / 8) (by omega)
          have e1 := byte_at hh (i := k) hlk
          have fz := blk_frozen hh
          have hv := hb_val (blocks ns q) k
          have HST := hid (hbTo_step (blocks ns q) k)
          clear h0 ha hh hf
          go_wp2
          go_roundw
          case rel =>
            refine ⟨k + 1, by omega, by go_num, (blk_setne _ _ _ (by omega)).trans H0.out, (blk_setne _ _ _ (by omega)).trans HA.out, ?_, HF.out.set _ _ (.inr (by omega))⟩
            rw [← HST.out]
            exact bblk_up HH2.out k (hb (blocks ns q) k)
          case measure => simp [intOf]; omega
        · have hk32 : k = 32 := by omega
          subst hk32
          have HE := hid (bblk_as hh (g := hashOf ns) fun i hi => by unfold hbTo; rw [if_pos hi, HH.out])
          clear h0 ha hh hf
          go_upto_region 23 with fail
          apply wp_region_lit
          refine wpList_ldH rfl (.tmp 8) rfl HE.out (by simp [Act.eval]) ?_
          refine wpList_stH (g := hashOf ns) rfl (.tmp 2) (.tmp 78) rfl H0.out (by simp [Act.eval, Act.put]) (by simp [Act.eval, Act.put]) ?_
          have RH := hid (brow_heap (g := hashOf ns) H0.out)
          have RF := hid (HF.out.row (bvals 32 (hashOf ns)) (.inr (Nat.le_refl w.heap.size)))
          generalize World.setRow _ w.heap.size (bvals 32 (hashOf ns)) = w2 at RH RF ⊢
          go_wp2
          exact bodyPost_ret (v := .agg (bvals 32 (hashOf ns))) (retH rfl RH.out rfl) rfl ⟨rfl, RF.out⟩
end Go.Proofs.YtmpfnglcmaollaaDoor
namespace Go.Proofs.YtmpfnglcmaollaaDoor
open Go.ChangeShapes Go.WideShapes Go.ChangeAt Go.RowKit

theorem alloc32T (w : World) : (Instr.alloc 28 true (.tuple #[])).run Tryd.prog w = .ok (.pointer (some ⟨w.heap.size, 0, none⟩)) (w.alloc (.cells (bvals 32 (fun _ => 0)) 28)) := by kernel_rfl
/-- A hash is laid into a variable. -/
theorem wpList_made32T {ops : Array Oper} {rest : List Oper} {o1 o2 : Oper} {a : Act} {w : World} {Q : Exit → Act → World → Prop} {t1 t2 : Tmp} {g : Nat → Nat} (g1 : o1.guard = none) (g2 : o2.guard = none) (h1 : o1.op = .alloc 28) (h2 : o2.op = .store 28 (.tmp t1) (.tmp t2)) (d1 : o1.dst = some t1) (d2 : o2.dst = none)
    (hx : (a.put (some t1) (.pointer (some ⟨w.heap.size, 0, none⟩))).eval (.tmp t1) = .pointer (some ⟨w.heap.size, 0, none⟩)) (hy : (a.put (some t1) (.pointer (some ⟨w.heap.size, 0, none⟩))).eval (.tmp t2) = .agg (bvals 32 g))
    (h : wpList Tryd.prog ops Q rest ((a.put (some t1) (.pointer (some ⟨w.heap.size, 0, none⟩))).put none undef) (w.alloc (.cells (bvals 32 g) 28))) : wpList Tryd.prog ops Q (o1 :: o2 :: rest) a w := by
  refine wpList_plain g1 fun K hK => ?_
  unfold Oper.wp execOp
  simp only [h1, Sem.run_bind, alloc32T, Result.andThen_ok, Sem.run_pure]
  rw [Oper.upon_value, d1]
  refine hK _ _ ?_
  refine wpList_plain g2 fun K hK => ?_
  unfold Oper.wp execOp
  have hs := stVar32 (g := g) (heap_alloc_last w (.cells (bvals 32 (fun _ => 0)) 28))
  rw [World.setRow_alloc_new] at hs
  simp only [h2, hx, hy, Instr.storeAt, Instr.sureAddr, Sem.run_bind, Sem.run_pure, Result.andThen_ok, hs]
  rw [Oper.upon_skip, d2]
  exact hK _ _ h
set_option maxRecDepth 20000 in
set_option maxHeartbeats 1600000 in
theorem rempty_c (w : World) (f : Nat → Nat) (hf : f = hashOf [128]) :
    Calls Tryd.prog 16 #[] w fun e w' => e = .returned (.agg (bvals 32 f)) ∧ Fr [] w w' := by
  have HFH := hid hf
  clear hf
  go_enter Tryd.func16, Tryd.ntmps16
  go_upto_region 1 with fail
  rw [zero32]
  have HR : Hid ((w.alloc (.cells (bvals 32 (fun _ => 0)) 28)).heap[w.heap.size]? = some (.cells (bvals 32 (fun _ => 0)) 28 (0, 0))) := blk_new _ _
  have HF : Hid (Fr [] w (w.alloc (.cells (bvals 32 (fun _ => 0)) 28))) := (Fr.refl _ _).alloc _
  generalize w.alloc (.cells (bvals 32 (fun _ => 0)) 28) = w1 at HR HF ⊢
  have RV : Hid (Rd (w1.alloc (.cells #[.int .u8 128] 5)) (.slice (some ⟨w1.heap.size, 0, none⟩) 1 1) (bv [128])) := by
    refine .inr ⟨_, _, rfl, by simp [bv], fun j u hj => ?_⟩
    rw [Addr.add_lit, Nat.zero_add, blk_cell (blk_new _ _), ← Array.getElem?_toList]
    exact hj
  have F2 : Hid (Fr [] w (w1.alloc (.cells #[.int .u8 128] 5))) := HF.out.alloc _
  have HR2 : Hid ((w1.alloc (.cells #[.int .u8 128] 5)).heap[w.heap.size]? = some (.cells (bvals 32 (fun _ => 0)) 28 (0, 0))) := hid (blk_frT HR.out ((Fr.refl _ _).alloc _))
  have SC := hid (refSum_c _ RV.out (fun x hx => by simp at hx; omega) (by simp))
  rw [← HFH.out] at SC
  clear RV
  go_wp2_with fail
  refine SC.out.mono ?_
  rintro e w3 ⟨rfl, f3⟩
  have HR3 := hid (blk_frT HR2.out f3)
  have F3 := hid (F2.out.trans f3)
  clear f3 SC F2 HR2
  rename_i hK
  refine hK _ _ ?_
  refine wpList_stH (g := f) rfl (.tmp 0) (.tmp 2) rfl HR3.out (by simp [Act.eval]) (by simp [Act.eval]) ?_
  have RH := hid (brow_heap (g := f) HR3.out)
  have RF := hid (F3.out.rowT (bvals 32 f) (.inr (Nat.le_refl w.heap.size)))
  generalize World.setRow w3 w.heap.size (bvals 32 f) = w7 at RH RF ⊢
  clear HR3 F3 hK
  go_wp2
  exact bodyPost_ret (v := .agg (bvals 32 f)) (retH rfl RH.out rfl) rfl ⟨rfl, RF.out⟩
end Go.Proofs.YtmpfnglcmaollaaDoor
