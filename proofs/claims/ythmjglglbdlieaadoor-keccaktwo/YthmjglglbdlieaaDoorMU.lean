/-
  The walk of KeccakTwo.
-/
import Derived.Test.YthmjglglbdlieaaDoorMT
import Derived.Deep.RegionHeldLaw
namespace Go.Proofs.YthmjglglbdlieaaDoor
open Go.ChangeShapes Go.WideShapes Go.ChangeAt Go.RowKit

set_option maxRecDepth 20000 in
set_option maxHeartbeats 4000000 in
theorem two_small (w : World) (T : Tabs w) {la : Option Addr} {cap : Nat} {L : List Value} {X : List (List Nat)} (h : Rows2 w (.slice la L.length cap) L X) (hl : L.length ≤ 12) :
    Calls Tryd.prog 5 #[.slice la L.length cap] w fun e w' => e = .returned (.bool true) ∧ Fr [] w w' := by
  have h3 := T.lt
  have HT := hid T
  have HH := hid h
  have HW : Hid (∀ (j : Nat) u, L[j]? = some u → ∃ b off, la = some ⟨b, off, none⟩ ∧ w.cell? ⟨b, off + j, none⟩ = some u) := by
    rcases h.head with ⟨h0, _⟩ | ⟨b, off, c, e, _, hc⟩
    · intro j u hj; rw [h0] at hj; simp at hj
    · simp only [Value.slice.injEq] at e
      exact fun j u hj => ⟨b, off, e.1, hc j u hj⟩
  clear T h
  go_enter Tryd.func5, Tryd.ntmps5
  go_wp2_with fail
  refine (known_c w HT.out).mono ?_
  rintro e w1 ⟨rfl, f1⟩
  have F1 := hid f1
  clear f1
  go_wp2_with fail
  refine (new_c w1).mono ?_
  rintro e w2 ⟨rfl, hs0, f2, hz2⟩
  have S0 := hid hs0
  have F2 := hid f2
  clear hs0 f2
  go_wp2_with fail
  refine (new_c w2).mono ?_
  rintro e w3 ⟨rfl, hs1, f3, hz3⟩
  rw [hz2] at hs1
  have S1 := hid hs1
  have S0' := hid (S0.out.fr f3 (by simp))
  have F3 := hid ((F1.out.trans F2.out).trans f3)
  have hz : Hid (w3.heap.size = w1.heap.size + 2) := by rw [hz3, hz2]; exact rfl
  have hlo := F1.out.size
  rw [hz2]
  clear hs1 f3 hz2 hz3 S0 F1 F2
  generalize w1.heap.size = P0 at *
  go_upto_region 7 with fail
  have HQ0 : Hid (TQ w (fun p => P0 + p) w3.heap.size (w3.heap.size + 1) (fun _ => sp0) (fun _ => []) (fun _ => .slice none 0 0) ((w3.alloc (.cells #[.pointer (some ⟨P0, 0, none⟩), .pointer (some ⟨P0 + 1, 0, none⟩)] 39)).alloc (.cells #[.slice none 0 0, .slice none 0 0] 40))) := by
    have ff : Fr [] w3 ((w3.alloc (.cells #[.pointer (some ⟨P0, 0, none⟩), .pointer (some ⟨P0 + 1, 0, none⟩)] 39)).alloc (.cells #[.slice none 0 0, .slice none 0 0] 40)) := ((Fr.refl _ _).alloc _).alloc _
    refine ⟨fun p hp => ?_, by show P0 + 0 ≠ P0 + 1; omega, fun p hp => by show w.heap.size ≤ P0 + p; omega, ?_, ?_, by have := F3.out.size; omega, fun p hp => World.ownsRow_nil _ _ _ _, fun p hp n hn => by simp at hn, fun k hk => by simp [Value.ownBlock] at hk, F3.out.trans ff⟩
    · rcases two hp with rfl | rfl
      · exact S0'.out.fr ff (by simp)
      · exact S1.out.fr ff (by simp)
    · rw [blk_old _ _ (by simp)]; exact blk_new _ _
    · exact new_at _ _ (by simp)
  have hSB : P0 + 1 < w3.heap.size := by rw [hz.out]; omega
  clear S0' S1 F3 hz
  generalize (w3.alloc (.cells #[.pointer (some ⟨P0, 0, none⟩), .pointer (some ⟨P0 + 1, 0, none⟩)] 39)).alloc (.cells #[.slice none 0 0, .slice none 0 0] 40) = w4 at HQ0 ⊢
  generalize w3.heap.size = SB at HQ0 hSB ⊢
  go_wp2
  have hd1 : decide (12 < (L.length : Int)) = false := by simp; omega
  simp only [hd1]
  clear hd1
  go_loopw [5] (fun v5 wr => ∃ (i : Nat) (M : Nat → List Nat) (v : Nat → Value), i ≤ L.length ∧ v5 = .int .i64 (i : Int) ∧ TQ w (fun p => P0 + p) SB (SB + 1) (fun p => pushes sp0 (M p)) M v wr ∧ ∀ p, p < 2 → (M p).length ≤ 200 * i) (fun v5 _ => L.length - (intOf v5).toNat)
  case atStart => exact ⟨0, fun _ => [], fun _ => .slice none 0 0, by omega, rfl, HQ0.out, fun p hp => by simp⟩
  case round =>
    clear HQ0
    rename_i wz hrel
    obtain ⟨i, M, v, hi, rfl, hq, hM⟩ := hrel
    have HQ := hid hq
    have HM := hid hM
    clear hq hM
    by_cases hlt : i < L.length
    · obtain ⟨u, hu⟩ : ∃ u, L[i]? = some u := ⟨_, List.getElem?_eq_getElem hlt⟩
      obtain ⟨x, hx⟩ : ∃ x, X[i]? = some x := ⟨_, List.getElem?_eq_getElem (by rw [HH.out.len]; exact hlt)⟩
      obtain ⟨b, off, rfl, hcell⟩ := HW.out i u hu
      have HRu := hid (HH.out.rd i u x hu hx)
      have HBx := hid (HH.out.bd x (List.mem_of_getElem? hx))
      obtain ⟨ua, uc, hux⟩ := HRu.out.form
      rw [bv_len] at hux
      subst hux
      have HL : Hid (∀ wx, Fr [] w wx → wx.cell? ⟨b, off + i, none⟩ = some (.slice ua x.length uc)) := fun wx f => by
        rw [World.cell?_of_block (w := w) (f.block _ (World.block_lt_of_cell? w _ hcell) (by simp))]; exact hcell
      have e0 := HL.out wr HQ.out.fr
      have hxl := HBx.out.2
      clear hx hu hcell
      by_cases hbig : 200 < x.length
      · go_wp2
        go_ret
        exact ⟨rfl, HQ.out.fr⟩
      · have hsm : x.length ≤ 200 := by omega
        clear hbig hxl
        go_upto_region 12 with fail
        clear e0
        have hp : i % 2 < 2 := by omega
        have HA : Hid (∀ wp, wr.drew.grownBy wp (Value.slice none 0 0).ownBlock → TQ w (fun p => P0 + p) SB (SB + 1) (fun p => pushes sp0 (M p)) M v wp) := fun wp g => HQ.out.grow ((Fr.refl [] wr).drew.grown g (by simp [Value.ownBlock]))
        have HWr : Hid (∀ wp wm, TQ w (fun p => P0 + p) SB (SB + 1) (fun p => pushes sp0 (M p)) M v wp → IsSp wm (P0 + i % 2) (pushes (pushes sp0 (M (i % 2))) x) → Fr [P0 + i % 2] wp wm → TQ w (fun p => P0 + p) SB (SB + 1) (up (fun p => pushes sp0 (M p)) (i % 2) (pushes (pushes sp0 (M (i % 2))) x)) M v wm) := fun wp wm h hs f => h.wrote hp f hs
        have HRd := hid (HRu.out.fr HQ.out.fr.drew)
        have m0 : (i : Int).tmod 2 = (i : Int) % 2 := Int.tmod_eq_emod_of_nonneg (by omega)
        have m1 : (0 : Int) ≤ (i : Int) % 2 := by omega
        have m2 : (i : Int) % 2 < 2 := by omega
        have m3 : ((i : Int) % 2).toNat = i % 2 := by omega
        have hszw := HQ.out.fr.size
        go_region_held_law (fun w' => w'.cell? ⟨SB, i % 2, none⟩ = some (.pointer (some ⟨P0 + i % 2, 0, none⟩)) ∧ w'.cell? ⟨b, off + i, none⟩ = some (.slice ua x.length uc))
          (first | exact ⟨HQ.out.scell hp, HL.out _ HQ.out.fr.drew⟩ | exact ⟨(HWr.out _ _ (HA.out _ g1) hsm fm).scell hp, HL.out _ (HWr.out _ _ (HA.out _ g1) hsm fm).fr⟩ | exact ⟨(HA.out _ g1).scell hp, HL.out _ (HA.out _ g1).fr⟩)
          (first
            | (refine step_append_rd rfl _ _ rfl w.heap.size (World.ownsRow_nil _ _ _ _) rfl HRd.out rfl bv_one (by rw [bv_len]; omega) hszw ?_; intro p1 wp o1 g1 b1)
            | (go_at_call 11; refine (write_c _ (HT.out.fr (HA.out _ g1).fr) (by omega) ((HA.out _ g1).sp (i % 2) hp) (pushes_n _ _ (by show 0 < 136; omega)) (own_p (by have := o1; rw [bv_len, Nat.zero_add, List.nil_append] at this; exact this) ((HA.out _ g1).sp (i % 2) hp) (by decide)) HBx.out.1 (by omega)).mono ?_; rintro e wm ⟨rfl, hsm, fm⟩))
        have HQ2 := hid (HWr.out _ _ (HA.out _ g1) hsm fm)
        clear HA HWr HRd o1 g1 b1 hsm fm
        go_upto_region 13 with fail
        have HQ3 := hid (HQ2.out.grow (Fr.refl [] wm).drew)
        have HRd := hid (HRu.out.fr HQ3.out.fr)
        refine wp_region_held_drew (S := fun w' => w'.cell? ⟨b, off + i, none⟩ = some (.slice ua x.length uc)) (by kernel_rfl) (HL.out _ HQ3.out.fr) (fun hH => ?_)
        refine wpAnyH_take (i := 0) (v := .int .i64 (i : Int)) rfl (by kernel_rfl) (by kernel_rfl) (by kernel_rfl) (fun _ _ _ h => h) (.inl ⟨by rfl, fun wx hS => by go_simp⟩) hH ?_
        simp only [Act.put]
        refine wpAnyH_take (i := 1) (v := .int .i64 ((i : Int) % 2)) rfl (by kernel_rfl) (by kernel_rfl) (by kernel_rfl) (fun _ _ _ h => h) (.inl ⟨by rfl, fun wx hS => by go_simp⟩) hH ?_
        simp only [Act.put]
        refine wpAnyH_take (i := 2) (v := .int .i64 (i : Int)) rfl (by kernel_rfl) (by kernel_rfl) (by kernel_rfl) (fun _ _ _ h => h) (.inl ⟨by rfl, fun wx hS => by go_simp⟩) hH ?_
        simp only [Act.put]
        refine wpAnyH_take (i := 3) (v := .int .i64 ((i : Int) % 2)) rfl (by kernel_rfl) (by kernel_rfl) (by kernel_rfl) (fun _ _ _ h => h) (.inl ⟨by rfl, fun wx hS => by go_simp⟩) hH ?_
        simp only [Act.put]
        refine wpAnyH_take (i := 4) (v := .pointer (some ⟨SB + 1, i % 2, none⟩)) rfl (by kernel_rfl) (by kernel_rfl) (by kernel_rfl) (fun _ _ _ h => h) (.inl ⟨by rfl, fun wx hS => by go_simp⟩) hH ?_
        simp only [Act.put]
        refine wpAnyH_take (i := 6) (v := .slice (some ⟨b, off, none⟩) L.length cap) rfl (by kernel_rfl) (by kernel_rfl) (by kernel_rfl) (fun _ _ _ h => h) (.inl ⟨by rfl, fun wx hS => by go_simp⟩) hH ?_
        simp only [Act.put]
        refine wpAnyH_take (i := 7) (v := .int .i64 (i : Int)) rfl (by kernel_rfl) (by kernel_rfl) (by kernel_rfl) (fun _ _ _ h => h) (.inl ⟨by rfl, fun wx hS => by go_simp⟩) hH ?_
        simp only [Act.put]
        refine wpAnyH_take (i := 8) (v := .pointer (some ⟨b, off + i, none⟩)) rfl (by kernel_rfl) (by kernel_rfl) (by kernel_rfl) (fun _ _ _ h => h) (.inl ⟨by rfl, fun wx hS => by go_simp⟩) hH ?_
        simp only [Act.put]
        refine wpAnyH_take (i := 9) (v := .slice ua x.length uc) rfl (by kernel_rfl) (by kernel_rfl) (by kernel_rfl) (fun _ _ _ h => h) (.inl ⟨by rfl, fun wx hS => by go_simp⟩) hH ?_
        simp only [Act.put]
        have e5 := HQ3.out.mcell hp
        have hS0 := HL.out _ HQ3.out.fr
        have HS0 := hid hS0
        clear hH hS0
        refine wpAnyH_ready (rs := [5]) (by kernel_rfl) (by simp) ?_
        refine AllReadyH.cons rfl (fun K hK => ?_) AllReadyH.nil
        go_simp
        refine hK.out _ _ HS0.out (fun _ => ?_)
        clear hK K e5
        refine wpAnyH_ready (rs := [10]) (by kernel_rfl) (by simp) ?_
        refine AllReadyH.cons rfl (fun K hK => ?_) AllReadyH.nil
        refine step_append_rd rfl (.tmp 43) (.tmp 47) rfl w.heap.size (HQ3.out.own (i % 2) hp) (by simp [Act.eval]) HRd.out (by simp [Act.eval]) bv_one (by rw [bv_len]; have := HM.out (i % 2) hp; omega) HQ3.out.fr.size ?_
        intro v' wq o g b'
        rw [bv_len] at o
        obtain ⟨va', vc', rfl, _⟩ := ownsRow_slice o
        have HS1 := hid (HL.out wq (HQ3.out.fr.grown g fun k hk => .inr ((HQ3.out.own (i % 2) hp).lt k hk).1))
        refine hK.out _ _ HS1.out (fun _ => ?_)
        have HQ4 := hid (HQ3.out.app hp HBx.out.1 o g b')
        have hmb := HQ3.out.mb1 hp g
        have e12 := mcell1 hmb hp
        have fz12 := blk_frozen hmb
        clear hK K o g b' hmb
        simp only [Act.put]
        refine wpAnyH_ready (rs := [11]) (by kernel_rfl) (by simp) ?_
        refine AllReadyH.cons rfl (fun K hK => ?_) AllReadyH.nil
        go_simp
        refine hK.out _ _ HS1.out (fun _ => ?_)
        clear hK K
        refine wpAnyH_ready (rs := [12]) (by kernel_rfl) (by simp) ?_
        refine AllReadyH.cons rfl (fun K hK => ?_) AllReadyH.nil
        go_simp
        refine hK.out _ _ (HL.out _ HQ4.out.fr) (fun _ => ?_)
        clear hK K
        refine wpAnyH_done (by kernel_rfl) ?_ _
        clear e12 fz12 HS0 HS1 HRd HQ3 HQ2
        have HQ5 := hid (HQ4.out.asS (s' := fun p => pushes sp0 (up M (i % 2) (M (i % 2) ++ x) p)) fun p _ => by
          by_cases e : p = i % 2
          · subst e; rw [up_same, up_same, pushes_append]
          · rw [up_ne _ _ e, up_ne _ _ e])
        have HM2 : Hid (∀ p, p < 2 → (up M (i % 2) (M (i % 2) ++ x) p).length ≤ 200 * (i + 1)) := fun p hp' => by
          have h1 := HM.out p hp'
          by_cases e : p = i % 2
          · subst e; rw [up_same, List.length_append]; omega
          · rw [up_ne _ _ e]; omega
        clear HQ4 m0 m1 m2 m3
        go_wp2_with fail
        go_roundw
        case rel => exact ⟨i + 1, _, _, by omega, by go_num, HQ5.out, HM2.out⟩
        case measure => simp [intOf]; omega
    · have hlt2 : L.length ≤ i := by omega
      clear hlt
      go_upto_region 15 with fail
      rw [zero64 M]
      have HBk0 : Hid ((wr.alloc (.cells (bvals 64 (hv2 M 0)) 41)).heap[wr.heap.size]? = some (.cells (bvals 64 (hv2 M 0)) 41 (0, 0))) := blk_new _ _
      have HQ1 := hid (HQ.out.grow ((Fr.refl [] wr).alloc (.cells (bvals 64 (hv2 M 0)) 41)))
      have hHB := HQ.out.fr.size
      clear HQ
      generalize wr.alloc (.cells (bvals 64 (hv2 M 0)) 41) = w5 at HBk0 HQ1 ⊢
      generalize wr.heap.size = HB at HBk0 hHB ⊢
      go_wp2
      have hd3 : decide (i < L.length) = false := by simp; omega
      simp only [hd3]
      clear hd3
      go_loopw [7] (fun v7 wr => ∃ k : Nat, k ≤ 2 ∧ v7 = .int .i64 (k : Int) ∧ TQ w (fun p => P0 + p) SB (SB + 1) (fun p => pushes sp0 (M p)) M v wr ∧ wr.heap[HB]? = some (.cells (bvals 64 (hv2 M k)) 41 (0, 0))) (fun v7 _ => 2 - (intOf v7).toNat)
      case atStart => exact ⟨0, by omega, rfl, HQ1.out, HBk0.out⟩
      case round =>
        clear HQ1 HBk0
        rename_i wk hrel
        obtain ⟨k, hk, rfl, hq, hbk0⟩ := hrel
        have HQ2 := hid hq
        have HBk := hid hbk0
        clear hq hbk0
        by_cases hlk : k < 2
        · rcases two hlk with rfl | rfl
          · have HRv := hid (Rd.ownB (HQ2.out.own 0 (by omega)))
            have e0 := HQ2.out.mcell (p := 0) (by omega)
            go_wp2_with fail
            refine (refSum_c wr HRv.out (HQ2.out.bd 0 (by omega)) (by have := HM.out 0 (by omega); omega)).mono ?_
            rintro e wa ⟨rfl, fa⟩
            have HQ3 := hid (HQ2.out.grow fa)
            have hbk := fa.at HBk.out (by simp)
            have HBk3 := hid hbk
            rename_i hK
            refine hK _ _ ?_
            refine wpList_val (v := .pointer (some ⟨HB, 0, none⟩)) (w' := wa) rfl (by go_simp) ?_
            refine wpList_store_mid (P := Tryd.prog) rfl 26 (.tmp 59) (.tmp 58) rfl HB 0 (bvals 32 (hashOf (M 0))) (by simp [Act.eval, Act.put]) (by simp [Act.eval, Act.put]) (there64 hbk (by rw [bvals_size]; omega)) (by rw [bvals_size]; exact info32) (bvals_one _ _) ?_
            have HQ4 := hid (HQ3.out.beside (Fr.cells (S := [HB]) (b := HB) (.inl (by simp)) (bvals 32 (hashOf (M 0))).toList 0 wa (Fr.refl _ _)) hbk hHB)
            have HBk4 : Hid ((wa.setCells HB 0 (bvals 32 (hashOf (M 0))).toList).heap[HB]? = some (.cells (bvals 64 (hv2 M 1)) 41 (0, 0))) := hv2_blk (k := 0) hbk
            clear hK hbk HBk3 HQ3 fa HRv e0 HQ2 HBk
            generalize wa.setCells HB 0 (bvals 32 (hashOf (M 0))).toList = wb at HQ4 HBk4 ⊢
            go_wp2
            go_roundw
            case rel => exact ⟨1, by omega, rfl, HQ4.out, HBk4.out⟩
            case measure => simp [intOf]
          · have HRv := hid (Rd.ownB (HQ2.out.own 1 (by omega)))
            have e0 := HQ2.out.mcell (p := 1) (by omega)
            go_wp2_with fail
            refine (refSum_c wr HRv.out (HQ2.out.bd 1 (by omega)) (by have := HM.out 1 (by omega); omega)).mono ?_
            rintro e wa ⟨rfl, fa⟩
            have HQ3 := hid (HQ2.out.grow fa)
            have hbk := fa.at HBk.out (by simp)
            have HBk3 := hid hbk
            rename_i hK
            refine hK _ _ ?_
            refine wpList_val (v := .pointer (some ⟨HB, 32, none⟩)) (w' := wa) rfl (by go_simp) ?_
            refine wpList_store_mid (P := Tryd.prog) rfl 26 (.tmp 59) (.tmp 58) rfl HB 32 (bvals 32 (hashOf (M 1))) (by simp [Act.eval, Act.put]) (by simp [Act.eval, Act.put]) (there64 hbk (by rw [bvals_size]; omega)) (by rw [bvals_size]; exact info32) (bvals_one _ _) ?_
            have HQ4 := hid (HQ3.out.beside (Fr.cells (S := [HB]) (b := HB) (.inl (by simp)) (bvals 32 (hashOf (M 1))).toList 32 wa (Fr.refl _ _)) hbk hHB)
            have HBk4 : Hid ((wa.setCells HB 32 (bvals 32 (hashOf (M 1))).toList).heap[HB]? = some (.cells (bvals 64 (hv2 M 2)) 41 (0, 0))) := hv2_blk (k := 1) hbk
            clear hK hbk HBk3 HQ3 fa HRv e0 HQ2 HBk
            generalize wa.setCells HB 32 (bvals 32 (hashOf (M 1))).toList = wb at HQ4 HBk4 ⊢
            go_wp2
            go_roundw
            case rel => exact ⟨2, by omega, rfl, HQ4.out, HBk4.out⟩
            case measure => simp [intOf]
        · have hk2 : k = 2 := by omega
          subst hk2
          have hgd := guard32
          have hu := hUnd
          obtain ⟨c0, hc0⟩ : ∃ c0, c0 = (bvals 32 (hashOf (M 0))).toList := ⟨_, rfl⟩
          obtain ⟨c1, hc1⟩ : ∃ c1, c1 = (bvals 32 (hashOf (M 1))).toList := ⟨_, rfl⟩
          have A0 := hid (show c0.toArray = bvals 32 (hashOf (M 0)) by rw [hc0, Array.toArray_toList])
          have A1 := hid (show c1.toArray = bvals 32 (hashOf (M 1)) by rw [hc1, Array.toArray_toList])
          have hi0 : (Tryd.prog.info? 26).map (·.size) = some c0.length := by rw [hc0, Array.length_toList, bvals_size]; exact info32
          have hi1 : (Tryd.prog.info? 26).map (·.size) = some c1.length := by rw [hc1, Array.length_toList, bvals_size]; exact info32
          have HR0 : Hid (∀ wx : World, wx.heap[HB]? = some (.cells (bvals 64 (hv2 M 2)) 41 (0, 0)) → wx.rangeAt HB 0 c0) := fun wx h => by rw [hc0]; exact hv2_range h (p := 0) (by omega)
          have HR1 : Hid (∀ wx : World, wx.heap[HB]? = some (.cells (bvals 64 (hv2 M 2)) 41 (0, 0)) → wx.rangeAt HB 32 c1) := fun wx h => by rw [hc1]; exact hv2_range h (p := 1) (by omega)
          have hcm0 : ∀ wx : World, (Op.equalIn 10000 26 (.agg (bvals 32 (hb (fin (pushes sp0 (M 0)))))) (.agg c0.toArray)).run Tryd.prog wx = .ok true wx := fun wx => by rw [A0.out]; exact eqIn32 wx _ _ fun _ _ => rfl
          have hcm1 : ∀ wx : World, (Op.equalIn 10000 26 (.agg (bvals 32 (hb (fin (pushes sp0 (M 1)))))) (.agg c1.toArray)).run Tryd.prog wx = .ok true wx := fun wx => by rw [A1.out]; exact eqIn32 wx _ _ fun _ _ => rfl
          clear hc0 hc1 A0 A1
          go_upto_region 19 with fail
          refine wp_region_held_drew (S := fun w' => TQ w (fun p => P0 + p) SB (SB + 1) (fun p => pushes sp0 (M p)) M v w' ∧ w'.heap[HB]? = some (.cells (bvals 64 (hv2 M 2)) 41 (0, 0))) (by kernel_rfl) ⟨HQ2.out.grow (Fr.refl [] _).drew, HBk.out⟩ (fun hH => ?_)
          have HS0 := hid hH
          refine wpAnyH_take (i := 0) (v := .pointer (some ⟨SB, 0, none⟩)) rfl (by kernel_rfl) (by kernel_rfl) (by kernel_rfl) (fun _ _ _ h => h) (.inl ⟨by rfl, fun wx _ => by go_simp⟩) hH ?_
          simp only [Act.put]
          refine wpAnyH_take (i := 1) (v := .pointer (some ⟨P0, 0, none⟩)) rfl (by kernel_rfl) (by kernel_rfl) (by kernel_rfl) (fun _ _ _ h => h) (.inl ⟨by rfl, fun wx hS => by have e : wx.cell? ⟨SB, 0, none⟩ = some (.pointer (some ⟨P0, 0, none⟩)) := hS.1.scell (p := 0) (by omega); go_simp⟩) hH ?_
          simp only [Act.put]
          refine wpAnyH_take (i := 3) (v := .pointer (some ⟨HB, 0, none⟩)) rfl (by kernel_rfl) (by kernel_rfl) (by kernel_rfl) (fun _ _ _ h => h) (.inl ⟨by rfl, fun wx _ => by go_simp⟩) hH ?_
          simp only [Act.put]
          refine wpAnyH_take (i := 4) (v := .agg c0.toArray) rfl (by kernel_rfl) (by kernel_rfl) (by kernel_rfl) (fun _ _ _ h => h) (yieldsIf_load_mid (by rfl) 26 (.tmp 63) rfl HB 0 rfl c0 _ (fun wx h => HR0.out wx h.2) hu rfl hi0) hH ?_
          simp only [Act.put]
          clear hH
          refine wpAnyH_ready (rs := [2]) (by kernel_rfl) (by simp) ?_
          refine AllReadyH.cons rfl (fun K hK => ?_) AllReadyH.nil
          go_simp
          refine (spsum_c _ (HT.out.fr HS0.out.1.fr) (HS0.out.1.sp 0 (by omega)) (pushes_n _ _ (by show 0 < 136; omega))).mono ?_
          rintro e wa ⟨rfl, f⟩
          refine hK.out _ _ ⟨HS0.out.1.grow f, f.at HS0.out.2 (by simp)⟩ (fun hH => ?_)
          have HS1 := hid hH
          clear hH f
          clear hK K
          refine wpAnyH_ready (rs := [5]) (by kernel_rfl) (by simp) ?_
          refine AllReadyH.cons rfl (fun K hK => ?_) AllReadyH.nil
          go_simp
          refine hK.out _ _ HS1.out (fun _ => ?_)
          clear hK K
          refine wpAnyH_ready (rs := [6]) (by kernel_rfl) (by simp) ?_
          refine AllReadyH.cons rfl (fun K hK => ?_) AllReadyH.nil
          go_simp
          refine hK.out _ _ HS1.out (fun hH => ?_)
          clear hK K
          refine wpAnyH_take (i := 7) (v := .pointer (some ⟨SB, 1, none⟩)) rfl (by kernel_rfl) (by kernel_rfl) (by kernel_rfl) (fun _ _ _ h => h) (.inl ⟨by rfl, fun wx _ => by go_simp⟩) hH ?_
          simp only [Act.put]
          refine wpAnyH_take (i := 8) (v := .pointer (some ⟨P0 + 1, 0, none⟩)) rfl (by kernel_rfl) (by kernel_rfl) (by kernel_rfl) (fun _ _ _ h => h) (.inl ⟨by rfl, fun wx hS => by have e : wx.cell? ⟨SB, 1, none⟩ = some (.pointer (some ⟨P0 + 1, 0, none⟩)) := hS.1.scell (p := 1) (by omega); go_simp⟩) hH ?_
          simp only [Act.put]
          refine wpAnyH_take (i := 10) (v := .pointer (some ⟨HB, 32, none⟩)) rfl (by kernel_rfl) (by kernel_rfl) (by kernel_rfl) (fun _ _ _ h => h) (.inl ⟨by rfl, fun wx _ => by go_simp⟩) hH ?_
          simp only [Act.put]
          refine wpAnyH_take (i := 11) (v := .agg c1.toArray) rfl (by kernel_rfl) (by kernel_rfl) (by kernel_rfl) (fun _ _ _ h => h) (yieldsIf_load_mid (by rfl) 26 (.tmp 70) rfl HB 32 rfl c1 _ (fun wx h => HR1.out wx h.2) hu rfl hi1) hH ?_
          simp only [Act.put]
          clear hH
          refine wpAnyH_ready (rs := [9]) (by kernel_rfl) (by simp) ?_
          refine AllReadyH.cons rfl (fun K hK => ?_) AllReadyH.nil
          go_simp
          refine (spsum_c _ (HT.out.fr HS1.out.1.fr) (HS1.out.1.sp 1 (by omega)) (pushes_n _ _ (by show 0 < 136; omega))).mono ?_
          rintro e wb ⟨rfl, f⟩
          refine hK.out _ _ ⟨HS1.out.1.grow f, f.at HS1.out.2 (by simp)⟩ (fun hH => ?_)
          have HS2 := hid hH
          clear hH f
          clear hK K
          refine wpAnyH_ready (rs := [12]) (by kernel_rfl) (by simp) ?_
          refine AllReadyH.cons rfl (fun K hK => ?_) AllReadyH.nil
          go_simp
          refine hK.out _ _ HS2.out (fun _ => ?_)
          clear hK K
          refine wpAnyH_ready (rs := [13]) (by kernel_rfl) (by simp) ?_
          refine AllReadyH.cons rfl (fun K hK => ?_) AllReadyH.nil
          go_simp
          refine hK.out _ _ HS2.out (fun _ => ?_)
          clear hK K
          refine wpAnyH_ready (rs := [14]) (by kernel_rfl) (by simp) ?_
          refine AllReadyH.cons rfl (fun K hK => ?_) AllReadyH.nil
          go_simp
          refine hK.out _ _ HS2.out (fun hH => ?_)
          clear hK K
          refine wpAnyH_take (i := 15) (v := .pointer (some ⟨SB, 0, none⟩)) rfl (by kernel_rfl) (by kernel_rfl) (by kernel_rfl) (fun _ _ _ h => h) (.inl ⟨by rfl, fun wx _ => by go_simp⟩) hH ?_
          simp only [Act.put]
          refine wpAnyH_take (i := 16) (v := .pointer (some ⟨P0, 0, none⟩)) rfl (by kernel_rfl) (by kernel_rfl) (by kernel_rfl) (fun _ _ _ h => h) (.inl ⟨by rfl, fun wx hS => by have e : wx.cell? ⟨SB, 0, none⟩ = some (.pointer (some ⟨P0, 0, none⟩)) := hS.1.scell (p := 0) (by omega); go_simp⟩) hH ?_
          simp only [Act.put]
          refine wpAnyH_take (i := 18) (v := .pointer (some ⟨HB, 0, none⟩)) rfl (by kernel_rfl) (by kernel_rfl) (by kernel_rfl) (fun _ _ _ h => h) (.inl ⟨by rfl, fun wx _ => by go_simp⟩) hH ?_
          simp only [Act.put]
          refine wpAnyH_take (i := 19) (v := .agg c0.toArray) rfl (by kernel_rfl) (by kernel_rfl) (by kernel_rfl) (fun _ _ _ h => h) (yieldsIf_load_mid (by rfl) 26 (.tmp 78) rfl HB 0 rfl c0 _ (fun wx h => HR0.out wx h.2) hu rfl hi0) hH ?_
          simp only [Act.put]
          clear hH
          refine wpAnyH_ready (rs := [17]) (by kernel_rfl) (by simp) ?_
          refine AllReadyH.cons rfl (fun K hK => ?_) AllReadyH.nil
          go_simp
          refine (spsum_c _ (HT.out.fr HS2.out.1.fr) (HS2.out.1.sp 0 (by omega)) (pushes_n _ _ (by show 0 < 136; omega))).mono ?_
          rintro e wc ⟨rfl, f⟩
          refine hK.out _ _ ⟨HS2.out.1.grow f, f.at HS2.out.2 (by simp)⟩ (fun hH => ?_)
          have HS3 := hid hH
          clear hH f
          clear hK K
          refine wpAnyH_ready (rs := [20]) (by kernel_rfl) (by simp) ?_
          refine AllReadyH.cons rfl (fun K hK => ?_) AllReadyH.nil
          go_simp
          refine hK.out _ _ HS3.out (fun _ => ?_)
          clear hK K
          refine wpAnyH_ready (rs := [21]) (by kernel_rfl) (by simp) ?_
          refine AllReadyH.cons rfl (fun K hK => ?_) AllReadyH.nil
          go_simp
          refine hK.out _ _ HS3.out (fun _ => ?_)
          clear hK K
          refine wpAnyH_ready (rs := [22]) (by kernel_rfl) (by simp) ?_
          refine AllReadyH.cons rfl (fun K hK => ?_) AllReadyH.nil
          go_simp
          refine hK.out _ _ HS3.out (fun _ => ?_)
          clear hK K
          refine wpAnyH_done (by kernel_rfl) ?_ _
          clear hcm0 hcm1 hu hi0 hi1 hgd
          go_wp2
          go_ret
          exact ⟨rfl, HS3.out.1.fr⟩
end Go.Proofs.YthmjglglbdlieaaDoor
