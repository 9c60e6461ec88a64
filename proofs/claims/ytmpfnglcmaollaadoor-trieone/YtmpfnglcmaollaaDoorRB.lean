/-
  What the document's Permute answers.
-/
import Derived.Test.YtmpfnglcmaollaaDoorJ39
namespace Go.Proofs.YtmpfnglcmaollaaDoor
open Go.ChangeShapes Go.WideShapes Go.ChangeAt Go.RowKit

set_option maxRecDepth 20000 in
set_option maxHeartbeats 8000000 in
theorem refPermute_c (w : World) (f : Nat → BitVec 64) :
    Calls Tryd.prog 49 #[.agg (vals 25 f)] w fun e w' => e = .returned (.agg (vals 25 (perm 24 f))) ∧ Fr [] w w' := by
  go_enter Tryd.func49, Tryd.ntmps49
  go_upto_region 1 with fail
  obtain ⟨w1, hw1, hb, hz, hf, hs⟩ := start2 w f
  rw [zero25, hw1]
  have HB := hid hb
  have HZ := hid hz
  have HF := hid hf
  clear hw1 hb hz hf
  apply wp_region_lit
  refine wpList_made (t1 := 18) (t2 := 3) rfl rfl rfl rfl rfl rfl rfl rfl rfl (by simp [Act.eval, Act.put]) (by simp [Act.eval, Act.put]) ?_
  have HQ : Hid (RQ w f (tnA 0) (w1.alloc (.cells (ivals 25 (fun _ => 0)) 134))) :=
    ⟨by rw [blk_old _ _ (by omega)]; exact HB.out, by rw [blk_old _ _ (by omega)]; exact HZ.out, new_at _ _ (by omega), HF.out.alloc _⟩
  rw [hs]
  clear HB HZ HF hs
  generalize w1.alloc (.cells (ivals 25 (fun _ => 0)) 134) = w2 at HQ ⊢
  generalize ivals 25 (fun _ => 0) = i0
  go_wp2
  go_loopw [4, 5, 6] (fun v4 v5 v6 wr => ∃ t : Nat, t ≤ 24 ∧ v6 = .int .i64 (t : Int) ∧ v4 = .int .i64 ((plX t).1 : Int) ∧ v5 = .int .i64 ((plX t).2 : Int) ∧ RQ w f (tnA t) wr) (fun _ _ v6 _ => 24 - (intOf v6).toNat)
  case atStart => exact ⟨0, by omega, rfl, rfl, rfl, HQ.out⟩
  case round =>
    clear HQ
    obtain ⟨t, ht, rfl, rfl, rfl, hq⟩ := hrel
    have HQ := hid hq
    obtain ⟨hx, hy⟩ := plX_lt t
    by_cases hlt : t < 24
    · obtain ⟨q, hqd⟩ : ∃ q, q = (t + 1) * (t + 2) := ⟨_, rfl⟩
      have hq6 : q ≤ 25 * 26 := by rw [hqd]; exact Nat.mul_le_mul (by omega) (by omega)
      have hqm : ((t : Int) + 1) * ((t : Int) + 2) = (q : Int) := by rw [hqd]; push_cast; rfl
      have hpx : Hid ((plX (t + 1)).1 = (plX t).2 ∧ (plX (t + 1)).2 = (2 * (plX t).1 + 3 * (plX t).2) % 5) := ⟨rfl, rfl⟩
      have hta : Hid (tnA (t + 1) = up (tnA t) ((plX t).1 + 5 * (plX t).2) (q / 2 % 64)) := by subst hqd; exact rfl
      have e0 := int_at hq.t (i := (plX t).1 + 5 * (plX t).2) (by omega)
      have fz := blk_frozen hq.t
      clear hq hqd
      generalize (plX t).1 = x at *
      generalize (plX t).2 = y at *
      go_wp2
      go_roundw
      case rel =>
        refine ⟨t + 1, by omega, by go_num, by rw [hpx.out.1], by rw [hpx.out.2]; go_num, ?_⟩
        rw [hta.out, show ((q : Int) / 2 % 64) = ((q / 2 % 64 : Nat) : Int) from by omega]
        exact HQ.out.setT _ _
      case measure => simp [intOf]; omega
    · have ht24 : t = 24 := by omega
      subst ht24
      have HP : Hid (RQ w f tnF wr) := hq.asT fun i hi => tnA_end i hi
      clear hq HQ
      generalize (plX 24).1 = x at *
      generalize (plX 24).2 = y at *
      go_wp2
      have hd3 : ((24 : Nat) : Int) = 24 := rfl
      simp only [hd3]
      clear hd3
      go_loopw [7, 8] (fun v7 v8 wr => ∃ r : Nat, r ≤ 24 ∧ v8 = .int .i64 (r : Int) ∧ v7 = .int .i64 (reg (7 * r) : Int) ∧ RQ w (perm r f) tnF wr) (fun _ v8 _ => 24 - (intOf v8).toNat)
      case atStart => exact ⟨0, by omega, rfl, rfl, HP.out⟩
      case round =>
        clear HP
        rename_i wx hrel
        obtain ⟨r, hr, rfl, rfl, hq⟩ := hrel
        by_cases hlr : r < 24
        · have HQ := hid hq
          have hreg := reg_lt (7 * r)
          have HR : Hid (7 * r + 0 = 7 * r) := rfl
          generalize hA : perm r f = A at *
          have HA := hid hA
          clear hA hq
          go_upto_region 13 with fail
          have hsz : (wr.alloc (.cells #[.int .u64 0, .int .u64 0, .int .u64 0, .int .u64 0, .int .u64 0] 135)).heap.size = wr.heap.size + 1 := by simp
          have HC : Hid (RC w wr.heap.size A tnF (colUp A 0) (wr.alloc (.cells #[.int .u64 0, .int .u64 0, .int .u64 0, .int .u64 0, .int .u64 0] 135))) :=
            ⟨HQ.out.alloc _, HQ.out.lt, new_at _ _ rfl, hsz⟩
          clear hsz HQ
          generalize wr.alloc (.cells #[.int .u64 0, .int .u64 0, .int .u64 0, .int .u64 0, .int .u64 0] 135) = w3 at HC ⊢
          generalize wr.heap.size = C at HC ⊢
          have hC := HC.out.lt
          go_wp2
          go_loopw [10] (fun v10 wr => ∃ k : Nat, k ≤ 5 ∧ v10 = .int .i64 (k : Int) ∧ RC w C A tnF (colUp A k) wr) (fun v10 _ => 5 - (intOf v10).toNat)
          case atStart => exact ⟨0, by omega, rfl, HC.out⟩
          case round =>
            clear HC
            rename_i wy hrel
            obtain ⟨k, hk, rfl, hc⟩ := hrel
            have HC := hid hc
            by_cases hlt : k < 5
            · have e0 := lane_at hc.q.a (i := k) (by omega)
              have e1 := lane_at hc.q.a (i := k + 5) (by omega)
              have e2 := lane_at hc.q.a (i := k + 10) (by omega)
              have e3 := lane_at hc.q.a (i := k + 15) (by omega)
              have e4 := lane_at hc.q.a (i := k + 20) (by omega)
              have e5 := lane_at hc.c (i := k) (by omega)
              have fz := blk_frozen hc.c
              clear hc
              go_wp2
              go_region
              go_wp2
              go_roundw
              case rel =>
                simp only [bits_xor]
                exact ⟨k + 1, by omega, by go_num, ((HC.out.setC k _).asC (colUp_step A k)).drew⟩
              case measure => simp [intOf]; omega
            · have hk5 : k = 5 := by omega
              subst hk5
              have H5 := hid (HC.out.asC (c' := col A) fun i hi => by unfold colUp; rw [if_pos hi])
              have hsz := hc.size
              clear hc HC
              go_upto_region 18 with fail
              rw [zero25]
              have HD : Hid (RD w C A tnF (col A) (bsA A 0) (wr.alloc (.cells (vals 25 (fun _ => 0)) 96))) :=
                ⟨H5.out.q.alloc _, hC, (blk_old _ _ (by omega)).trans H5.out.c, new_at _ _ hsz.symm⟩
              clear H5 hsz
              generalize wr.alloc (.cells (vals 25 (fun _ => 0)) 96) = w4 at HD ⊢
              go_wp2
              have hd1 : decide ((r : Int) < 24) = true := by simp; omega
              have hd4 : ((5 : Nat) : Int) = 5 := rfl
              simp only [hd1, hd4]
              clear hd1 hd4
              go_loopw [12] (fun v12 wr => ∃ x : Nat, x ≤ 5 ∧ v12 = .int .i64 (x : Int) ∧ RD w C A tnF (col A) (bsA A (5 * x)) wr) (fun v12 _ => 5 - (intOf v12).toNat)
              case atStart => exact ⟨0, by omega, rfl, HD.out⟩
              case round =>
                clear HD
                rename_i wz hrel
                obtain ⟨x', hx', rfl, hd⟩ := hrel
                by_cases hlx : x' < 5
                · have HD := hid hd
                  clear hd
                  go_wp2
                  have hd2 : decide ((x' : Int) < 5) = true := by simp; omega
                  simp only [hd2]
                  clear hd2
                  go_loopw [13] (fun v13 wr => ∃ y : Nat, y ≤ 5 ∧ v13 = .int .i64 (y : Int) ∧ RD w C A tnF (col A) (bsA A (5 * x' + y)) wr) (fun v13 _ => 5 - (intOf v13).toNat)
                  case atStart => exact ⟨0, by omega, rfl, HD.out⟩
                  case round =>
                    clear HD
                    rename_i wq hrel
                    obtain ⟨y', hy', rfl, hd⟩ := hrel
                    have HD := hid hd
                    by_cases hly : y' < 5
                    · have e0 := lane_at hd.q.a (i := x' + 5 * y') (by omega)
                      have e1 := lane_at hd.c (i := (x' + 4) % 5) (by omega)
                      have e2 := lane_at hd.c (i := (x' + 1) % 5) (by omega)
                      have e3 := int_at hd.q.t (i := x' + 5 * y') (by omega)
                      have e4 := lane_at hd.b (i := y' + 5 * ((2 * x' + 3 * y') % 5)) (by omega)
                      have fz := blk_frozen hd.b
                      have hk := tn_lt (x' + 5 * y')
                      obtain ⟨vv, hvv⟩ : ∃ vv, vv = A (x' + 5 * y') ^^^ col A ((x' + 4) % 5) ^^^ rl (col A ((x' + 1) % 5)) 1 := ⟨_, rfl⟩
                      have hv : bits .xor .u64 (bits .xor .u64 ((A (x' + 5 * y')).toNat : Int) ((col A ((x' + 4) % 5)).toNat : Int)) ((rl (col A ((x' + 1) % 5)) 1).toNat : Int) = (vv.toNat : Int) := by rw [bits_xor, bits_xor, hvv]
                      have HS := hid (bsA_step A (x := x') hly)
                      rw [← hvv] at HS
                      clear hd hvv
                      generalize tnF (x' + 5 * y') = kk at *
                      go_wp2
                      go_quiet ((go_at_call 68; exact Calls.quiet_of (left1_c _ _)))
                      go_wp2_with (go_at_call 68; refine (leftN_c _ _ _ hk).mono ?_; rintro e w' ⟨rfl, n, rfl⟩)
                      go_roundw
                      case rel =>
                        refine ⟨y' + 1, by omega, by go_num, ?_⟩
                        rw [HS.out]
                        exact (HD.out.drewN _).setB _ _
                      case measure => simp [intOf]; omega
                    · have hy5 : y' = 5 := by omega
                      subst hy5
                      clear hd
                      go_wp2
                      go_roundw
                      case rel => exact ⟨x' + 1, by omega, by go_num, HD.out⟩
                      case measure => simp [intOf]; omega
                · have hx5 : x' = 5 := by omega
                  subst hx5
                  obtain ⟨B, hB⟩ : ∃ B, B = rho (theta A) := ⟨_, rfl⟩
                  have HB := hid hB
                  have HD : Hid (RD w C (csA B A 0) tnF (col A) B wr) := hd.asB (by rw [hB]; exact bsA_end A)
                  clear hd hB
                  go_wp2
                  go_loopw [15] (fun v15 wr => ∃ x : Nat, x ≤ 5 ∧ v15 = .int .i64 (x : Int) ∧ RD w C (csA B A (5 * x)) tnF (col A) B wr) (fun v15 _ => 5 - (intOf v15).toNat)
                  case atStart => exact ⟨0, by omega, rfl, HD.out⟩
                  case round =>
                    clear HD
                    rename_i wz2 hrel
                    obtain ⟨x', hx', rfl, hd⟩ := hrel
                    by_cases hlx : x' < 5
                    · have HD := hid hd
                      clear hd
                      go_wp2
                      go_loopw [16] (fun v16 wr => ∃ y : Nat, y ≤ 5 ∧ v16 = .int .i64 (y : Int) ∧ RD w C (csA B A (5 * x' + y)) tnF (col A) B wr) (fun v16 _ => 5 - (intOf v16).toNat)
                      case atStart => exact ⟨0, by omega, rfl, HD.out⟩
                      case round =>
                        clear HD
                        rename_i wq2 hrel
                        obtain ⟨y', hy', rfl, hd⟩ := hrel
                        have HD := hid hd
                        by_cases hly : y' < 5
                        · have e0 := lane_at hd.b (i := x' + 5 * y') (by omega)
                          have e1 := lane_at hd.b (i := (x' + 1) % 5 + 5 * y') (by omega)
                          have e2 := lane_at hd.b (i := (x' + 2) % 5 + 5 * y') (by omega)
                          have e3 := lane_at hd.q.a (i := x' + 5 * y') (by omega)
                          have fz := blk_frozen hd.q.a
                          have HS := hid (csA_step B A (x := x') hly)
                          clear hd
                          go_wp2
                          go_region
                          all_goals go_wp2
                          all_goals go_roundw
                          all_goals first
                            | (simp [intOf]; omega)
                            | (simp only [bits_not, bits_and, bits_xor]
                               refine ⟨y' + 1, by omega, by go_num, ?_⟩
                               rw [HS.out]
                               exact (HD.out.setA _ _).drew)
                        · have hy5 : y' = 5 := by omega
                          subst hy5
                          clear hd
                          go_wp2
                          go_roundw
                          case rel => exact ⟨x' + 1, by omega, by go_num, HD.out⟩
                          case measure => simp [intOf]; omega
                    · have hx5 : x' = 5 := by omega
                      subst hx5
                      obtain ⟨G, hG⟩ : ∃ G, G = chi B := ⟨_, rfl⟩
                      have HD : Hid (RD w C (rcUp G r 0) tnF (col A) B wr) := hd.asA fun i hi => by
                        rw [csA_end B A i hi, ← hG]
                        unfold rcUp up
                        split
                        · rename_i e; subst e; show G 0 = G 0 ^^^ 0; simp
                        · rfl
                      have HG : Hid (∀ i, i < 25 → rcUp G r 7 i = perm (r + 1) f i) := fun i hi => by
                        show _ = rnd r (perm r f) i
                        rw [HA.out]
                        unfold rcUp
                        rw [rcA_end r hlr]
                        exact rnd_of (fun i _ => by rw [hG, HB.out]) i hi
                      clear hd hG
                      go_wp2
                      go_loopw [7, 17] (fun v7 v17 wr => ∃ j : Nat, j ≤ 7 ∧ v17 = .int .i64 (j : Int) ∧ v7 = .int .i64 (reg (7 * r + j) : Int) ∧ RD w C (rcUp G r j) tnF (col A) B wr) (fun _ v17 _ => 7 - (intOf v17).toNat)
                      case atStart => exact ⟨0, by omega, rfl, rfl, HD.out⟩
                      case round =>
                        clear HD hreg HR
                        rename_i wj hrel
                        obtain ⟨j, hj, rfl, rfl, hd⟩ := hrel
                        have HD := hid hd
                        by_cases hlj : j < 7
                        · have hreg := reg_lt (7 * r + j)
                          have HN : Hid (reg (7 * r + (j + 1)) = rstep (reg (7 * r + j))) := rfl
                          have e0 := lane_at hd.q.a (i := 0) (by omega)
                          have fz := blk_frozen hd.q.a
                          have HO := hid (fun h i => rcUp_odd G (r := r) (j := j) h i)
                          have HE := hid (fun h => rcUp_even G (r := r) (j := j) h)
                          clear hd
                          generalize reg (7 * r + j) = g at *
                          by_cases ho : g % 2 = 1
                          · by_cases h8 : 128 ≤ g
                            · have hx := i64_xor113 hreg h8
                              rcases (show j = 0 ∨ j = 1 ∨ j = 2 ∨ j = 3 ∨ j = 4 ∨ j = 5 ∨ j = 6 by omega) with rfl | rfl | rfl | rfl | rfl | rfl | rfl
                              · have HQ := hid (odd_step (num := 1) HD.out (HO.out ho) (by decide))
                                clear HO HE HD
                                go_wp2
                                go_region
                                go_wp2
                                go_roundw
                                case rel => exact ⟨1, by omega, rfl, by rw [HN.out]; unfold rstep; rw [if_pos h8], HQ.out⟩
                                case measure => simp [intOf]
                              · have HQ := hid (odd_step (num := 2) HD.out (HO.out ho) (by decide))
                                clear HO HE HD
                                go_wp2
                                go_region
                                go_wp2
                                go_roundw
                                case rel => exact ⟨2, by omega, rfl, by rw [HN.out]; unfold rstep; rw [if_pos h8], HQ.out⟩
                                case measure => simp [intOf]
                              · have HQ := hid (odd_step (num := 8) HD.out (HO.out ho) (by decide))
                                clear HO HE HD
                                go_wp2
                                go_region
                                go_wp2
                                go_roundw
                                case rel => exact ⟨3, by omega, rfl, by rw [HN.out]; unfold rstep; rw [if_pos h8], HQ.out⟩
                                case measure => simp [intOf]
                              · have HQ := hid (odd_step (num := 128) HD.out (HO.out ho) (by decide))
                                clear HO HE HD
                                go_wp2
                                go_region
                                go_wp2
                                go_roundw
                                case rel => exact ⟨4, by omega, rfl, by rw [HN.out]; unfold rstep; rw [if_pos h8], HQ.out⟩
                                case measure => simp [intOf]
                              · have HQ := hid (odd_step (num := 32768) HD.out (HO.out ho) (by decide))
                                clear HO HE HD
                                go_wp2
                                go_region
                                go_wp2
                                go_roundw
                                case rel => exact ⟨5, by omega, rfl, by rw [HN.out]; unfold rstep; rw [if_pos h8], HQ.out⟩
                                case measure => simp [intOf]
                              · have HQ := hid (odd_step (num := 2147483648) HD.out (HO.out ho) (by decide))
                                clear HO HE HD
                                go_wp2
                                go_region
                                go_wp2
                                go_roundw
                                case rel => exact ⟨6, by omega, rfl, by rw [HN.out]; unfold rstep; rw [if_pos h8], HQ.out⟩
                                case measure => simp [intOf]
                              · have HQ := hid (odd_step (num := 9223372036854775808) HD.out (HO.out ho) (by decide))
                                clear HO HE HD
                                go_wp2
                                go_region
                                go_wp2
                                go_roundw
                                case rel => exact ⟨7, by omega, rfl, by rw [HN.out]; unfold rstep; rw [if_pos h8], HQ.out⟩
                                case measure => simp [intOf]
                            · rcases (show j = 0 ∨ j = 1 ∨ j = 2 ∨ j = 3 ∨ j = 4 ∨ j = 5 ∨ j = 6 by omega) with rfl | rfl | rfl | rfl | rfl | rfl | rfl
                              · have HQ := hid (odd_step (num := 1) HD.out (HO.out ho) (by decide))
                                clear HO HE HD
                                go_wp2
                                go_region
                                go_wp2
                                go_roundw
                                case rel => exact ⟨1, by omega, rfl, by rw [HN.out]; unfold rstep; rw [if_neg h8]; go_num, HQ.out⟩
                                case measure => simp [intOf]
                              · have HQ := hid (odd_step (num := 2) HD.out (HO.out ho) (by decide))
                                clear HO HE HD
                                go_wp2
                                go_region
                                go_wp2
                                go_roundw
                                case rel => exact ⟨2, by omega, rfl, by rw [HN.out]; unfold rstep; rw [if_neg h8]; go_num, HQ.out⟩
                                case measure => simp [intOf]
                              · have HQ := hid (odd_step (num := 8) HD.out (HO.out ho) (by decide))
                                clear HO HE HD
                                go_wp2
                                go_region
                                go_wp2
                                go_roundw
                                case rel => exact ⟨3, by omega, rfl, by rw [HN.out]; unfold rstep; rw [if_neg h8]; go_num, HQ.out⟩
                                case measure => simp [intOf]
                              · have HQ := hid (odd_step (num := 128) HD.out (HO.out ho) (by decide))
                                clear HO HE HD
                                go_wp2
                                go_region
                                go_wp2
                                go_roundw
                                case rel => exact ⟨4, by omega, rfl, by rw [HN.out]; unfold rstep; rw [if_neg h8]; go_num, HQ.out⟩
                                case measure => simp [intOf]
                              · have HQ := hid (odd_step (num := 32768) HD.out (HO.out ho) (by decide))
                                clear HO HE HD
                                go_wp2
                                go_region
                                go_wp2
                                go_roundw
                                case rel => exact ⟨5, by omega, rfl, by rw [HN.out]; unfold rstep; rw [if_neg h8]; go_num, HQ.out⟩
                                case measure => simp [intOf]
                              · have HQ := hid (odd_step (num := 2147483648) HD.out (HO.out ho) (by decide))
                                clear HO HE HD
                                go_wp2
                                go_region
                                go_wp2
                                go_roundw
                                case rel => exact ⟨6, by omega, rfl, by rw [HN.out]; unfold rstep; rw [if_neg h8]; go_num, HQ.out⟩
                                case measure => simp [intOf]
                              · have HQ := hid (odd_step (num := 9223372036854775808) HD.out (HO.out ho) (by decide))
                                clear HO HE HD
                                go_wp2
                                go_region
                                go_wp2
                                go_roundw
                                case rel => exact ⟨7, by omega, rfl, by rw [HN.out]; unfold rstep; rw [if_neg h8]; go_num, HQ.out⟩
                                case measure => simp [intOf]
                          · have ho' : g % 2 = 0 := by omega
                            by_cases h8 : 128 ≤ g
                            · have hx := i64_xor113 hreg h8
                              go_wp2
                              go_roundw
                              case rel =>
                                refine ⟨j + 1, by omega, by go_num, ?_, ?_⟩
                                · rw [HN.out]; unfold rstep; rw [if_pos h8]
                                · rw [HE.out ho']; exact HD.out
                              case measure => simp [intOf]; omega
                            · go_wp2
                              go_roundw
                              case rel =>
                                refine ⟨j + 1, by omega, by go_num, ?_, ?_⟩
                                · rw [HN.out]; unfold rstep; rw [if_neg h8]; go_num
                                · rw [HE.out ho']; exact HD.out
                              case measure => simp [intOf]; omega
                        · have hj7 : j = 7 := by omega
                          subst hj7
                          clear hd
                          go_wp2
                          go_roundw
                          case rel => exact ⟨r + 1, by omega, by go_num, rfl, HD.out.q.asA HG.out⟩
                          case measure => simp [intOf]; omega
        · have hr24 : r = 24 := by omega
          subst hr24
          have HQ := hid hq
          clear hq
          go_upto_region 41 with fail
          apply wp_region_lit
          refine wpList_ld rfl (.tmp 1) rfl HQ.out.a (by simp [Act.eval]) ?_
          refine wpList_st (g := perm 24 f) rfl (.tmp 2) (.tmp 180) rfl HQ.out.z (by simp [Act.eval, Act.put]) (by simp [Act.eval, Act.put]) ?_
          have RH := hid (row_heap (g := perm 24 f) HQ.out.z)
          have RF := hid (HQ.out.f.row (vals 25 (perm 24 f)) (.inr (Nat.le_succ w.heap.size)))
          generalize World.setRow _ (w.heap.size + 1) (vals 25 (perm 24 f)) = w2 at RH RF ⊢
          go_wp2
          exact bodyPost_ret (v := .agg (vals 25 (perm 24 f))) (ret25 rfl RH.out rfl) rfl ⟨rfl, RF.out⟩
end Go.Proofs.YtmpfnglcmaollaaDoor
