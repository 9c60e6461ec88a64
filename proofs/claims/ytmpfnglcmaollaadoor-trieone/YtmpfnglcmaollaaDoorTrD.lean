/-
  The document's Pack, walked.
-/
import Derived.Test.YtmpfnglcmaollaaDoorTrC
namespace Go.Proofs.YtmpfnglcmaollaaDoor
open Go.ChangeShapes Go.WideShapes Go.ChangeAt Go.RowKit

theorem own_baseT {w : World} {B B' s n : Nat} {e : TypeId} {v : Value} {xs : List Value} (h : w.ownsRow B e s v n xs) (hb : B' ≤ B) : w.ownsRow B' e s v n xs := by
  refine ⟨h.1, ?_⟩
  rcases h.2 with h0 | ⟨g, cap, cur, h1, h2, h3⟩
  · exact .inl h0
  · exact .inr ⟨g, cap, cur, h1, by omega, h3⟩
set_option maxRecDepth 20000 in
set_option maxHeartbeats 3200000 in
theorem rpack_c (w : World) {v : Value} {p : List Nat} (hr : Rd w v (bv p)) (hb : By p) (leaf : Bool) (hl : p.length ≤ 100000) :
    Calls Tryd.prog 21 #[v, .bool leaf] w fun e w' => ((okP p = true ∧ ∃ v', e = .returned (.tuple #[v', .int .i64 0]) ∧ w'.ownsRow w.heap.size 5 1 v' (packF p leaf).length (bv (packF p leaf))) ∨ (okP p = false ∧ e = .returned (.tuple #[.slice none 0 0, .int .i64 140]))) ∧ Fr [] w w' := by
  obtain ⟨a, c, hv⟩ := hr.form
  rw [bv_len] at hv
  subst hv
  have HR := hid hr
  have HB := hid hb
  obtain ⟨n, hn⟩ : ∃ n, n = p.length := ⟨_, rfl⟩
  have HN := hid hn
  have OA := hid (okP_any p)
  rw [← hn] at hl HR OA ⊢
  clear hr hb hn
  go_enter Tryd.func21, Tryd.ntmps21
  by_cases h128 : n ≤ 128
  · have h128' : ¬ (128 : Int) < (n : Int) := by omega
    go_wp2_with fail
    go_loopw [6] (fun v6 wr => ∃ (i : Nat), i ≤ n ∧ v6 = .int .i64 (i : Int) ∧ anyBad (p.take i) = false ∧ wr = w) (fun v6 _ => n - (intOf v6).toNat)
    case atStart => exact ⟨0, Nat.zero_le _, rfl, rfl, rfl⟩
    case round =>
      obtain ⟨i, hi, rfl, ha, hw⟩ := hrel
      have hw' := hw.symm
      clear hw
      subst hw'
      have HA := hid ha
      clear ha
      by_cases hlt : i < n
      · have hlt' : (i : Int) < (n : Int) := by omega
        obtain ⟨x, hx⟩ : ∃ x, p[i]? = some x := ⟨_, List.getElem?_eq_getElem (by rw [← HN.out]; exact hlt)⟩
        rcases HR.out.split with ⟨h0, _⟩ | ⟨q, o, c2, e, hc2, h0, hc⟩
        · rw [h0] at hx; simp at hx
        simp only [Value.slice.injEq] at e
        obtain ⟨rfl, e2, rfl⟩ := e
        have z := hc i x hx
        have NT := hid (anyBad_take hx)
        have HX := hid hx
        clear e2 hc hx
        by_cases hb : 15 < x
        · have hb' : (15 : Int) < (x : Int) := by omega
          have OK : Hid (okP p = false) := hid (by rw [OA.out, anyBad_at HX.out hb]; simp)
          go_wp2
          go_ret2
          exact ⟨.inr ⟨OK.out, rfl⟩, Fr.refl _ _⟩
        · have hb' : ¬ (15 : Int) < (x : Int) := by omega
          have N2 : Hid (anyBad (p.take (i + 1)) = false) := hid (by rw [NT.out, HA.out]; simp [hb])
          clear hb
          go_wp2
          go_roundw
          case rel => exact ⟨i + 1, by omega, by go_num, N2.out, by simp⟩
          case measure => simp [intOf]; omega
      · have hie : i = n := by omega
        have hlt' : ¬ (i : Int) < (n : Int) := by omega
        have TK : Hid (anyBad p = false) := hid (by have h1 := HA.out; rwa [List.take_of_length_le (by rw [← HN.out]; omega)] at h1)
        have OK : Hid (okP p = true) := hid (by rw [OA.out, TK.out]; simp [h128])
        clear hie HA
        rcases leaf with _ | _
        · by_cases hp : n % 2 = 1
          · have hp' : (n : Int) % 2 = 1 := by omega
            have hp2 : (n : Int).tmod 2 = 1 := by rw [Int.tmod_eq_emod_of_nonneg (by omega)]; omega
            have AH : Hid (aheadF p false = [1]) := hid (by unfold aheadF; rw [if_pos (by rw [← HN.out]; exact hp)]; rfl)
            obtain ⟨W1, hW1⟩ : ∃ W, W = ((w.alloc (.cells #[.int .u8 0, .int .u8 0] 5)).alloc (.cells #[.int .u8 1] 5)) := ⟨_, rfl⟩
            have FA : Hid (Fr [] w W1) := hid (by rw [hW1]; exact ((Fr.refl _ _).alloc _).alloc _)
            have OA1 : Hid (W1.ownsRow w.heap.size 5 1 (.slice (some ⟨(w.heap.size + 1), 0, none⟩) 1 1) ([1] : List Nat).length (bv [1])) := hid (by rw [hW1]; rw [show w.heap.size + 1 = ((w.alloc (.cells #[.int .u8 0, .int .u8 0] 5))).heap.size from by simp]; exact World.ownsRow_lit (base := w.heap.size) ((w.alloc (.cells #[.int .u8 0, .int .u8 0] 5))) #[.int .u8 1] 1 (by simp) (by unfold maxLen; omega) rfl)
            go_upto_region 14 with fail
            rw [← hW1]
            clear hW1
            go_upto_region 15 with (at_builtin; refine wpList_append_bv rfl _ _ rfl (base := w.heap.size) OA1.out rfl FA.out (Nat.le_refl _) FA.out.size _ (HR.out.fr FA.out) rfl (by rw [← HN.out]; simp; omega) ?_; intro v8 w3 o8 f8; have O8 := hid o8; have F3 := hid f8; clear o8 f8)
            obtain ⟨l, hl0⟩ : ∃ l, l = aheadF p false ++ p := ⟨_, rfl⟩
            have HLL := hid hl0
            have O3 : Hid (w3.ownsRow w.heap.size 5 1 v8 l.length (bv l)) := hid (by rw [hl0, AH.out, List.length_append]; exact O8.out)
            have LNB : Hid (Nb l) := hid (by
              rw [hl0]
              intro x hx
              rcases List.mem_append.1 hx with hx | hx
              · exact ahead_nb p _ x hx
              · exact okP_nb OK.out x hx)
            have LL2 := (ahead_len p false).1
            rw [← hl0] at LL2
            have LLE : l.length ≤ 130 := by rw [hl0, List.length_append]; have := (ahead_len p false).2.1; have := HN.out; omega
            clear hl0 AH O8 OA1
            obtain ⟨L, hL⟩ : ∃ L, L = l.length := ⟨_, rfl⟩
            have HL := hid hL
            rw [← hL] at LL2 LLE O3
            obtain ⟨a3, c3, e8, _⟩ := ownsRow_slice O3.out
            subst e8
            obtain ⟨h, hh⟩ : ∃ h, h = L / 2 := ⟨_, rfl⟩
            have hLh : L = 2 * h := by omega
            have HLH := hid hLh
            have hLb : h ≤ 65 := by omega
            have RL := hid (Rd.ownN O3.out HL.out)
            clear hL hh hLh LL2
            go_wp2_with fail
            go_loopw [9, 10] (fun v9 v10 wr => ∃ (k i : Nat), k ≤ h ∧ i = 2 * k ∧ v10 = .int .i64 (i : Int) ∧ wr.ownsRow w3.heap.size 5 1 v9 ((prsF l).take k).length (bv ((prsF l).take k)) ∧ Fr [] w3 wr) (fun _ v10 _ => L - (intOf v10).toNat)
            case atStart => exact ⟨0, 0, Nat.zero_le _, rfl, rfl, World.ownsRow_nil _ _ _ _, Fr.refl _ _⟩
            case round =>
              obtain ⟨k, i, hk, hik, rfl, ho, hf⟩ := hrel
              have HO := hid ho
              have HF := hid hf
              have HIK := hid hik
              clear ho hf
              by_cases hlt : k < h
              · have hlt' : (i : Int) < (L : Int) := by have := HLH.out; omega
                obtain ⟨j3, hj3⟩ : ∃ j, j = i + 1 := ⟨_, rfl⟩
                obtain ⟨x, hx⟩ : ∃ x, l[i]? = some x := ⟨_, List.getElem?_eq_getElem (by rw [← HL.out, HLH.out]; omega)⟩
                obtain ⟨y, hy⟩ : ∃ x, l[j3]? = some x := ⟨_, List.getElem?_eq_getElem (by rw [← HL.out, HLH.out]; omega)⟩
                have hx16 : x < 16 := LNB.out x (List.mem_of_getElem? hx)
                have hy16 : y < 16 := LNB.out y (List.mem_of_getElem? hy)
                have PA := prsF_at l k x y (by rw [← hik]; exact hx) (by rw [← hik, ← hj3]; exact hy)
                have NT : Hid ((prsF l).take (k + 1) = (prsF l).take k ++ [16 * x + y]) := hid (by
                  obtain ⟨h1, h2⟩ := List.getElem?_eq_some_iff.1 PA
                  rw [List.take_succ_eq_append_getElem h1, h2])
                rcases RL.out.split with ⟨h0, _⟩ | ⟨q3, o3, c3', e, hc3, h0, hc⟩
                · rw [h0] at hx; simp at hx
                simp only [Value.slice.injEq] at e
                obtain ⟨rfl, e2, rfl⟩ := e
                have SK : Hid (∀ wx, Fr [] w3 wx → wx.cell? ⟨q3, o3 + i, none⟩ = some (.int .u8 (x : Int)) ∧ wx.cell? ⟨q3, o3 + j3, none⟩ = some (.int .u8 (y : Int))) := hid (fun wx f => ⟨cell_fr (hc i x hx) f, cell_fr (hc j3 y hy) f⟩)
                have e3i : (i : Int) + 1 = (j3 : Int) := by omega
                have hj3L : (j3 : Int) < (L : Int) := by have := HLH.out; omega
                have wj3 : IntKind.i64.wrap (j3 : Int) = (j3 : Int) := by rw [IntKind.wrap_i64]; have := HLH.out; omega
                obtain ⟨X, hX⟩ : ∃ X, X = 16 * x := ⟨_, rfl⟩
                obtain ⟨Z, hZ⟩ : ∃ Z, Z = 16 * x + y := ⟨_, rfl⟩
                rw [← hZ] at NT
                have eX : 16 * (x : Int) = (X : Int) := by omega
                have eZ : (X : Int) + (y : Int) = (Z : Int) := by omega
                have wX : IntKind.u8.wrap (X : Int) = (X : Int) := by rw [IntKind.wrap_u8]; omega
                have wZ : IntKind.u8.wrap (Z : Int) = (Z : Int) := by rw [IntKind.wrap_u8]; omega
                obtain ⟨a9, c9, e9, _⟩ := ownsRow_slice HO.out
                obtain ⟨l9, hl9⟩ : ∃ q, q = ((prsF l).take k).length := ⟨_, rfl⟩
                have HL9 := hid hl9
                rw [← hl9] at e9
                subst e9
                have hl9b : ((prsF l).take k).length ≤ 100 := by rw [List.length_take]; omega
                obtain ⟨XA, hXA⟩ : ∃ X, X = wr.alloc (.cells (bv [Z]).toArray 5) := ⟨_, rfl⟩
                have FXA : Hid (Fr [] wr XA.drew) := hid (by rw [hXA]; exact ((Fr.refl _ _).alloc _).drew)
                have HXA : Hid (XA.drew.heap[wr.heap.size]? = some (.cells (bv [Z]).toArray 5 (0, 0))) := hid (by rw [hXA]; exact blk_new _ _)
                have HO2 := hid (ownsRow_fr HO.out FXA.out)
                have HF2 := hid (HF.out.trans FXA.out)
                clear hx hy hc e2 hj3 hX hZ PA hl9 hik
                go_upto_region 19 with fail
                refine wp_region_held_drew (S := fun wx => wx.cell? ⟨q3, o3 + i, none⟩ = some (.int .u8 (x : Int)) ∧ wx.cell? ⟨q3, o3 + j3, none⟩ = some (.int .u8 (y : Int))) (by kernel_rfl) (SK.out _ HF.out.drew) (fun hS => ?_)
                refine wpAnyH_take (i := 0) (v := (.slice a9 l9 c9)) rfl (by kernel_rfl) (by kernel_rfl) (by kernel_rfl) (fun _ _ _ h => h) (.inl ⟨by rfl, fun wx hX => by go_simp⟩) hS ?_
                simp only [Act.put]
                refine wpAnyH_take (i := 1) (v := (.slice (some ⟨q3, o3, none⟩) L c3)) rfl (by kernel_rfl) (by kernel_rfl) (by kernel_rfl) (fun _ _ _ h => h) (.inl ⟨by rfl, fun wx hX => by go_simp⟩) hS ?_
                simp only [Act.put]
                refine wpAnyH_take (i := 2) (v := (.int .i64 (i : Int))) rfl (by kernel_rfl) (by kernel_rfl) (by kernel_rfl) (fun _ _ _ h => h) (.inl ⟨by rfl, fun wx hX => by go_simp⟩) hS ?_
                simp only [Act.put]
                refine wpAnyH_take (i := 3) (v := (.pointer (some ⟨q3, o3 + i, none⟩))) rfl (by kernel_rfl) (by kernel_rfl) (by kernel_rfl) (fun _ _ _ h => h) (.inl ⟨by rfl, fun wx hX => by go_simp⟩) hS ?_
                simp only [Act.put]
                refine wpAnyH_take (i := 4) (v := (.int .u8 (x : Int))) rfl (by kernel_rfl) (by kernel_rfl) (by kernel_rfl) (fun _ _ _ h => h) (.inl ⟨by rfl, fun wx hX => by obtain ⟨q0, q1⟩ := hX; go_simp⟩) hS ?_
                simp only [Act.put]
                refine wpAnyH_take (i := 5) (v := (.int .u8 (X : Int))) rfl (by kernel_rfl) (by kernel_rfl) (by kernel_rfl) (fun _ _ _ h => h) (.inl ⟨by rfl, fun wx hX => by go_simp⟩) hS ?_
                simp only [Act.put]
                refine wpAnyH_take (i := 6) (v := (.slice (some ⟨q3, o3, none⟩) L c3)) rfl (by kernel_rfl) (by kernel_rfl) (by kernel_rfl) (fun _ _ _ h => h) (.inl ⟨by rfl, fun wx hX => by go_simp⟩) hS ?_
                simp only [Act.put]
                refine wpAnyH_take (i := 7) (v := (.int .i64 (i : Int))) rfl (by kernel_rfl) (by kernel_rfl) (by kernel_rfl) (fun _ _ _ h => h) (.inl ⟨by rfl, fun wx hX => by go_simp⟩) hS ?_
                simp only [Act.put]
                refine wpAnyH_take (i := 8) (v := (.int .i64 (j3 : Int))) rfl (by kernel_rfl) (by kernel_rfl) (by kernel_rfl) (fun _ _ _ h => h) (.inl ⟨by rfl, fun wx hX => by go_simp⟩) hS ?_
                simp only [Act.put]
                refine wpAnyH_take (i := 9) (v := (.pointer (some ⟨q3, o3 + j3, none⟩))) rfl (by kernel_rfl) (by kernel_rfl) (by kernel_rfl) (fun _ _ _ h => h) (.inl ⟨by rfl, fun wx hX => by go_simp⟩) hS ?_
                simp only [Act.put]
                refine wpAnyH_take (i := 10) (v := (.int .u8 (y : Int))) rfl (by kernel_rfl) (by kernel_rfl) (by kernel_rfl) (fun _ _ _ h => h) (.inl ⟨by rfl, fun wx hX => by obtain ⟨q0, q1⟩ := hX; go_simp⟩) hS ?_
                simp only [Act.put]
                refine wpAnyH_take (i := 11) (v := (.int .u8 (Z : Int))) rfl (by kernel_rfl) (by kernel_rfl) (by kernel_rfl) (fun _ _ _ h => h) (.inl ⟨by rfl, fun wx hX => by go_simp⟩) hS ?_
                simp only [Act.put]
                clear hS
                refine wpAnyH_ready (rs := [12]) (by kernel_rfl) (by simp) ?_
                refine AllReadyH.cons rfl (fun K hK => ?_) AllReadyH.nil
                go_simp
                have eX9 : wr.alloc (.cells #[.int .u8 (Z : Int)] 5) = XA := hXA.symm
                rw [eX9]
                clear hXA eX9
                refine hK.out _ _ (SK.out _ HF2.out) (fun hS => ?_)
                clear hK K
                refine wpAnyH_ready (rs := [13]) (by kernel_rfl) (by simp) ?_
                refine AllReadyH.cons rfl (fun K hK => ?_) AllReadyH.nil
                refine step_append_lit rfl (.tmp 44) (.tmp 56) rfl w3.heap.size HO2.out (by first | (simp [Act.eval, HL9.out]; done) | simp [Act.eval, Act.put, HL9.out]) wr.heap.size 1 1 (ns := [Z]) rfl (by first | (simp [Act.eval]; done) | simp [Act.eval, Act.put]) HXA.out (by simp; omega) HF2.out.size ?_
                intro v8 w8 o8 g8
                have F8 := hid (HF2.out.grew HO2.out (Nat.le_refl _) g8)
                have O8 := hid o8
                clear o8 g8
                refine hK.out _ _ (SK.out _ F8.out) (fun hS => ?_)
                clear hK K
                obtain ⟨a8, c8, e8, _⟩ := ownsRow_slice O8.out
                obtain ⟨l8, hl8⟩ : ∃ q, q = ((prsF l).take k ++ [Z]).length := ⟨_, rfl⟩
                have HL8 := hid hl8
                rw [← hl8] at e8
                subst e8
                rw [← hl8] at O8
                clear hl8
                refine wpAnyH_ready (rs := [14]) (by kernel_rfl) (by simp) ?_
                refine AllReadyH.cons rfl (fun K hK => ?_) AllReadyH.nil
                go_simp
                refine hK.out _ _ (SK.out _ F8.out) (fun hS => ?_)
                clear hK K
                refine wpAnyH_done (by kernel_rfl) ?_ _
                go_wp2
                go_roundw
                case rel => exact ⟨k + 1, i + 2, by omega, by have := HIK.out; omega, by go_num, by rw [NT.out, ← HL8.out]; exact O8.out, F8.out⟩
                case measure => have := HIK.out; have := HLH.out; simp [intOf]; omega
              · have hke : k = h := by omega
                have hlt' : ¬ (i : Int) < (L : Int) := by have := HLH.out; omega
                have PK : Hid ((prsF l).take k = packF p false) := hid (by
                  unfold packF
                  rw [List.take_of_length_le (by rw [prsF_len, ← HL.out, HLH.out]; omega), HLL.out])
                rw [PK.out] at HO
                clear hke
                go_wp2
                go_ret2
                exact ⟨.inl ⟨OK.out, _, rfl, ownsRow_base HO.out F3.out.size⟩, F3.out.trans HF.out⟩
          · have hp' : (n : Int) % 2 = 0 := by omega
            have hp2 : (n : Int).tmod 2 = 0 := by rw [Int.tmod_eq_emod_of_nonneg (by omega)]; omega
            have AH : Hid (aheadF p false = [0, 0]) := hid (by unfold aheadF; rw [if_neg (by rw [← HN.out]; exact hp)]; rfl)
            obtain ⟨W1, hW1⟩ : ∃ W, W = (w.alloc (.cells #[.int .u8 0, .int .u8 0] 5)) := ⟨_, rfl⟩
            have FA : Hid (Fr [] w W1) := hid (by rw [hW1]; exact (Fr.refl _ _).alloc _)
            have OA1 : Hid (W1.ownsRow w.heap.size 5 1 (.slice (some ⟨w.heap.size, 0, none⟩) 2 2) ([0, 0] : List Nat).length (bv [0, 0])) := hid (by rw [hW1]; exact World.ownsRow_lit w #[.int .u8 0, .int .u8 0] 2 (Nat.le_refl _) (by unfold maxLen; omega) rfl)
            go_upto_region 14 with fail
            rw [← hW1]
            clear hW1
            go_upto_region 15 with (at_builtin; refine wpList_append_bv rfl _ _ rfl (base := w.heap.size) OA1.out rfl FA.out (Nat.le_refl _) FA.out.size _ (HR.out.fr FA.out) rfl (by rw [← HN.out]; simp; omega) ?_; intro v8 w3 o8 f8; have O8 := hid o8; have F3 := hid f8; clear o8 f8)
            obtain ⟨l, hl0⟩ : ∃ l, l = aheadF p false ++ p := ⟨_, rfl⟩
            have HLL := hid hl0
            have O3 : Hid (w3.ownsRow w.heap.size 5 1 v8 l.length (bv l)) := hid (by rw [hl0, AH.out, List.length_append]; exact O8.out)
            have LNB : Hid (Nb l) := hid (by
              rw [hl0]
              intro x hx
              rcases List.mem_append.1 hx with hx | hx
              · exact ahead_nb p _ x hx
              · exact okP_nb OK.out x hx)
            have LL2 := (ahead_len p false).1
            rw [← hl0] at LL2
            have LLE : l.length ≤ 130 := by rw [hl0, List.length_append]; have := (ahead_len p false).2.1; have := HN.out; omega
            clear hl0 AH O8 OA1
            obtain ⟨L, hL⟩ : ∃ L, L = l.length := ⟨_, rfl⟩
            have HL := hid hL
            rw [← hL] at LL2 LLE O3
            obtain ⟨a3, c3, e8, _⟩ := ownsRow_slice O3.out
            subst e8
            obtain ⟨h, hh⟩ : ∃ h, h = L / 2 := ⟨_, rfl⟩
            have hLh : L = 2 * h := by omega
            have HLH := hid hLh
            have hLb : h ≤ 65 := by omega
            have RL := hid (Rd.ownN O3.out HL.out)
            clear hL hh hLh LL2
            go_wp2_with fail
            go_loopw [9, 10] (fun v9 v10 wr => ∃ (k i : Nat), k ≤ h ∧ i = 2 * k ∧ v10 = .int .i64 (i : Int) ∧ wr.ownsRow w3.heap.size 5 1 v9 ((prsF l).take k).length (bv ((prsF l).take k)) ∧ Fr [] w3 wr) (fun _ v10 _ => L - (intOf v10).toNat)
            case atStart => exact ⟨0, 0, Nat.zero_le _, rfl, rfl, World.ownsRow_nil _ _ _ _, Fr.refl _ _⟩
            case round =>
              obtain ⟨k, i, hk, hik, rfl, ho, hf⟩ := hrel
              have HO := hid ho
              have HF := hid hf
              have HIK := hid hik
              clear ho hf
              by_cases hlt : k < h
              · have hlt' : (i : Int) < (L : Int) := by have := HLH.out; omega
                obtain ⟨j3, hj3⟩ : ∃ j, j = i + 1 := ⟨_, rfl⟩
                obtain ⟨x, hx⟩ : ∃ x, l[i]? = some x := ⟨_, List.getElem?_eq_getElem (by rw [← HL.out, HLH.out]; omega)⟩
                obtain ⟨y, hy⟩ : ∃ x, l[j3]? = some x := ⟨_, List.getElem?_eq_getElem (by rw [← HL.out, HLH.out]; omega)⟩
                have hx16 : x < 16 := LNB.out x (List.mem_of_getElem? hx)
                have hy16 : y < 16 := LNB.out y (List.mem_of_getElem? hy)
                have PA := prsF_at l k x y (by rw [← hik]; exact hx) (by rw [← hik, ← hj3]; exact hy)
                have NT : Hid ((prsF l).take (k + 1) = (prsF l).take k ++ [16 * x + y]) := hid (by
                  obtain ⟨h1, h2⟩ := List.getElem?_eq_some_iff.1 PA
                  rw [List.take_succ_eq_append_getElem h1, h2])
                rcases RL.out.split with ⟨h0, _⟩ | ⟨q3, o3, c3', e, hc3, h0, hc⟩
                · rw [h0] at hx; simp at hx
                simp only [Value.slice.injEq] at e
                obtain ⟨rfl, e2, rfl⟩ := e
                have SK : Hid (∀ wx, Fr [] w3 wx → wx.cell? ⟨q3, o3 + i, none⟩ = some (.int .u8 (x : Int)) ∧ wx.cell? ⟨q3, o3 + j3, none⟩ = some (.int .u8 (y : Int))) := hid (fun wx f => ⟨cell_fr (hc i x hx) f, cell_fr (hc j3 y hy) f⟩)
                have e3i : (i : Int) + 1 = (j3 : Int) := by omega
                have hj3L : (j3 : Int) < (L : Int) := by have := HLH.out; omega
                have wj3 : IntKind.i64.wrap (j3 : Int) = (j3 : Int) := by rw [IntKind.wrap_i64]; have := HLH.out; omega
                obtain ⟨X, hX⟩ : ∃ X, X = 16 * x := ⟨_, rfl⟩
                obtain ⟨Z, hZ⟩ : ∃ Z, Z = 16 * x + y := ⟨_, rfl⟩
                rw [← hZ] at NT
                have eX : 16 * (x : Int) = (X : Int) := by omega
                have eZ : (X : Int) + (y : Int) = (Z : Int) := by omega
                have wX : IntKind.u8.wrap (X : Int) = (X : Int) := by rw [IntKind.wrap_u8]; omega
                have wZ : IntKind.u8.wrap (Z : Int) = (Z : Int) := by rw [IntKind.wrap_u8]; omega
                obtain ⟨a9, c9, e9, _⟩ := ownsRow_slice HO.out
                obtain ⟨l9, hl9⟩ : ∃ q, q = ((prsF l).take k).length := ⟨_, rfl⟩
                have HL9 := hid hl9
                rw [← hl9] at e9
                subst e9
                have hl9b : ((prsF l).take k).length ≤ 100 := by rw [List.length_take]; omega
                obtain ⟨XA, hXA⟩ : ∃ X, X = wr.alloc (.cells (bv [Z]).toArray 5) := ⟨_, rfl⟩
                have FXA : Hid (Fr [] wr XA.drew) := hid (by rw [hXA]; exact ((Fr.refl _ _).alloc _).drew)
                have HXA : Hid (XA.drew.heap[wr.heap.size]? = some (.cells (bv [Z]).toArray 5 (0, 0))) := hid (by rw [hXA]; exact blk_new _ _)
                have HO2 := hid (ownsRow_fr HO.out FXA.out)
                have HF2 := hid (HF.out.trans FXA.out)
                clear hx hy hc e2 hj3 hX hZ PA hl9 hik
                go_upto_region 19 with fail
                refine wp_region_held_drew (S := fun wx => wx.cell? ⟨q3, o3 + i, none⟩ = some (.int .u8 (x : Int)) ∧ wx.cell? ⟨q3, o3 + j3, none⟩ = some (.int .u8 (y : Int))) (by kernel_rfl) (SK.out _ HF.out.drew) (fun hS => ?_)
                refine wpAnyH_take (i := 0) (v := (.slice a9 l9 c9)) rfl (by kernel_rfl) (by kernel_rfl) (by kernel_rfl) (fun _ _ _ h => h) (.inl ⟨by rfl, fun wx hX => by go_simp⟩) hS ?_
                simp only [Act.put]
                refine wpAnyH_take (i := 1) (v := (.slice (some ⟨q3, o3, none⟩) L c3)) rfl (by kernel_rfl) (by kernel_rfl) (by kernel_rfl) (fun _ _ _ h => h) (.inl ⟨by rfl, fun wx hX => by go_simp⟩) hS ?_
                simp only [Act.put]
                refine wpAnyH_take (i := 2) (v := (.int .i64 (i : Int))) rfl (by kernel_rfl) (by kernel_rfl) (by kernel_rfl) (fun _ _ _ h => h) (.inl ⟨by rfl, fun wx hX => by go_simp⟩) hS ?_
                simp only [Act.put]
                refine wpAnyH_take (i := 3) (v := (.pointer (some ⟨q3, o3 + i, none⟩))) rfl (by kernel_rfl) (by kernel_rfl) (by kernel_rfl) (fun _ _ _ h => h) (.inl ⟨by rfl, fun wx hX => by go_simp⟩) hS ?_
                simp only [Act.put]
                refine wpAnyH_take (i := 4) (v := (.int .u8 (x : Int))) rfl (by kernel_rfl) (by kernel_rfl) (by kernel_rfl) (fun _ _ _ h => h) (.inl ⟨by rfl, fun wx hX => by obtain ⟨q0, q1⟩ := hX; go_simp⟩) hS ?_
                simp only [Act.put]
                refine wpAnyH_take (i := 5) (v := (.int .u8 (X : Int))) rfl (by kernel_rfl) (by kernel_rfl) (by kernel_rfl) (fun _ _ _ h => h) (.inl ⟨by rfl, fun wx hX => by go_simp⟩) hS ?_
                simp only [Act.put]
                refine wpAnyH_take (i := 6) (v := (.slice (some ⟨q3, o3, none⟩) L c3)) rfl (by kernel_rfl) (by kernel_rfl) (by kernel_rfl) (fun _ _ _ h => h) (.inl ⟨by rfl, fun wx hX => by go_simp⟩) hS ?_
                simp only [Act.put]
                refine wpAnyH_take (i := 7) (v := (.int .i64 (i : Int))) rfl (by kernel_rfl) (by kernel_rfl) (by kernel_rfl) (fun _ _ _ h => h) (.inl ⟨by rfl, fun wx hX => by go_simp⟩) hS ?_
                simp only [Act.put]
                refine wpAnyH_take (i := 8) (v := (.int .i64 (j3 : Int))) rfl (by kernel_rfl) (by kernel_rfl) (by kernel_rfl) (fun _ _ _ h => h) (.inl ⟨by rfl, fun wx hX => by go_simp⟩) hS ?_
                simp only [Act.put]
                refine wpAnyH_take (i := 9) (v := (.pointer (some ⟨q3, o3 + j3, none⟩))) rfl (by kernel_rfl) (by kernel_rfl) (by kernel_rfl) (fun _ _ _ h => h) (.inl ⟨by rfl, fun wx hX => by go_simp⟩) hS ?_
                simp only [Act.put]
                refine wpAnyH_take (i := 10) (v := (.int .u8 (y : Int))) rfl (by kernel_rfl) (by kernel_rfl) (by kernel_rfl) (fun _ _ _ h => h) (.inl ⟨by rfl, fun wx hX => by obtain ⟨q0, q1⟩ := hX; go_simp⟩) hS ?_
                simp only [Act.put]
                refine wpAnyH_take (i := 11) (v := (.int .u8 (Z : Int))) rfl (by kernel_rfl) (by kernel_rfl) (by kernel_rfl) (fun _ _ _ h => h) (.inl ⟨by rfl, fun wx hX => by go_simp⟩) hS ?_
                simp only [Act.put]
                clear hS
                refine wpAnyH_ready (rs := [12]) (by kernel_rfl) (by simp) ?_
                refine AllReadyH.cons rfl (fun K hK => ?_) AllReadyH.nil
                go_simp
                have eX9 : wr.alloc (.cells #[.int .u8 (Z : Int)] 5) = XA := hXA.symm
                rw [eX9]
                clear hXA eX9
                refine hK.out _ _ (SK.out _ HF2.out) (fun hS => ?_)
                clear hK K
                refine wpAnyH_ready (rs := [13]) (by kernel_rfl) (by simp) ?_
                refine AllReadyH.cons rfl (fun K hK => ?_) AllReadyH.nil
                refine step_append_lit rfl (.tmp 44) (.tmp 56) rfl w3.heap.size HO2.out (by first | (simp [Act.eval, HL9.out]; done) | simp [Act.eval, Act.put, HL9.out]) wr.heap.size 1 1 (ns := [Z]) rfl (by first | (simp [Act.eval]; done) | simp [Act.eval, Act.put]) HXA.out (by simp; omega) HF2.out.size ?_
                intro v8 w8 o8 g8
                have F8 := hid (HF2.out.grew HO2.out (Nat.le_refl _) g8)
                have O8 := hid o8
                clear o8 g8
                refine hK.out _ _ (SK.out _ F8.out) (fun hS => ?_)
                clear hK K
                obtain ⟨a8, c8, e8, _⟩ := ownsRow_slice O8.out
                obtain ⟨l8, hl8⟩ : ∃ q, q = ((prsF l).take k ++ [Z]).length := ⟨_, rfl⟩
                have HL8 := hid hl8
                rw [← hl8] at e8
                subst e8
                rw [← hl8] at O8
                clear hl8
                refine wpAnyH_ready (rs := [14]) (by kernel_rfl) (by simp) ?_
                refine AllReadyH.cons rfl (fun K hK => ?_) AllReadyH.nil
                go_simp
                refine hK.out _ _ (SK.out _ F8.out) (fun hS => ?_)
                clear hK K
                refine wpAnyH_done (by kernel_rfl) ?_ _
                go_wp2
                go_roundw
                case rel => exact ⟨k + 1, i + 2, by omega, by have := HIK.out; omega, by go_num, by rw [NT.out, ← HL8.out]; exact O8.out, F8.out⟩
                case measure => have := HIK.out; have := HLH.out; simp [intOf]; omega
              · have hke : k = h := by omega
                have hlt' : ¬ (i : Int) < (L : Int) := by have := HLH.out; omega
                have PK : Hid ((prsF l).take k = packF p false) := hid (by
                  unfold packF
                  rw [List.take_of_length_le (by rw [prsF_len, ← HL.out, HLH.out]; omega), HLL.out])
                rw [PK.out] at HO
                clear hke
                go_wp2
                go_ret2
                exact ⟨.inl ⟨OK.out, _, rfl, ownsRow_base HO.out F3.out.size⟩, F3.out.trans HF.out⟩
        · by_cases hp : n % 2 = 1
          · have hp' : (n : Int) % 2 = 1 := by omega
            have hp2 : (n : Int).tmod 2 = 1 := by rw [Int.tmod_eq_emod_of_nonneg (by omega)]; omega
            have AH : Hid (aheadF p true = [3]) := hid (by unfold aheadF; rw [if_pos (by rw [← HN.out]; exact hp)]; rfl)
            obtain ⟨W1, hW1⟩ : ∃ W, W = ((w.alloc (.cells #[.int .u8 2, .int .u8 0] 5)).alloc (.cells #[.int .u8 3] 5)) := ⟨_, rfl⟩
            have FA : Hid (Fr [] w W1) := hid (by rw [hW1]; exact ((Fr.refl _ _).alloc _).alloc _)
            have OA1 : Hid (W1.ownsRow w.heap.size 5 1 (.slice (some ⟨(w.heap.size + 1), 0, none⟩) 1 1) ([3] : List Nat).length (bv [3])) := hid (by rw [hW1]; rw [show w.heap.size + 1 = ((w.alloc (.cells #[.int .u8 2, .int .u8 0] 5))).heap.size from by simp]; exact World.ownsRow_lit (base := w.heap.size) ((w.alloc (.cells #[.int .u8 2, .int .u8 0] 5))) #[.int .u8 3] 1 (by simp) (by unfold maxLen; omega) rfl)
            go_upto_region 14 with fail
            rw [← hW1]
            clear hW1
            go_upto_region 15 with (at_builtin; refine wpList_append_bv rfl _ _ rfl (base := w.heap.size) OA1.out rfl FA.out (Nat.le_refl _) FA.out.size _ (HR.out.fr FA.out) rfl (by rw [← HN.out]; simp; omega) ?_; intro v8 w3 o8 f8; have O8 := hid o8; have F3 := hid f8; clear o8 f8)
            obtain ⟨l, hl0⟩ : ∃ l, l = aheadF p true ++ p := ⟨_, rfl⟩
            have HLL := hid hl0
            have O3 : Hid (w3.ownsRow w.heap.size 5 1 v8 l.length (bv l)) := hid (by rw [hl0, AH.out, List.length_append]; exact O8.out)
            have LNB : Hid (Nb l) := hid (by
              rw [hl0]
              intro x hx
              rcases List.mem_append.1 hx with hx | hx
              · exact ahead_nb p _ x hx
              · exact okP_nb OK.out x hx)
            have LL2 := (ahead_len p true).1
            rw [← hl0] at LL2
            have LLE : l.length ≤ 130 := by rw [hl0, List.length_append]; have := (ahead_len p true).2.1; have := HN.out; omega
            clear hl0 AH O8 OA1
            obtain ⟨L, hL⟩ : ∃ L, L = l.length := ⟨_, rfl⟩
            have HL := hid hL
            rw [← hL] at LL2 LLE O3
            obtain ⟨a3, c3, e8, _⟩ := ownsRow_slice O3.out
            subst e8
            obtain ⟨h, hh⟩ : ∃ h, h = L / 2 := ⟨_, rfl⟩
            have hLh : L = 2 * h := by omega
            have HLH := hid hLh
            have hLb : h ≤ 65 := by omega
            have RL := hid (Rd.ownN O3.out HL.out)
            clear hL hh hLh LL2
            go_wp2_with fail
            go_loopw [9, 10] (fun v9 v10 wr => ∃ (k i : Nat), k ≤ h ∧ i = 2 * k ∧ v10 = .int .i64 (i : Int) ∧ wr.ownsRow w3.heap.size 5 1 v9 ((prsF l).take k).length (bv ((prsF l).take k)) ∧ Fr [] w3 wr) (fun _ v10 _ => L - (intOf v10).toNat)
            case atStart => exact ⟨0, 0, Nat.zero_le _, rfl, rfl, World.ownsRow_nil _ _ _ _, Fr.refl _ _⟩
            case round =>
              obtain ⟨k, i, hk, hik, rfl, ho, hf⟩ := hrel
              have HO := hid ho
              have HF := hid hf
              have HIK := hid hik
              clear ho hf
              by_cases hlt : k < h
              · have hlt' : (i : Int) < (L : Int) := by have := HLH.out; omega
                obtain ⟨j3, hj3⟩ : ∃ j, j = i + 1 := ⟨_, rfl⟩
                obtain ⟨x, hx⟩ : ∃ x, l[i]? = some x := ⟨_, List.getElem?_eq_getElem (by rw [← HL.out, HLH.out]; omega)⟩
                obtain ⟨y, hy⟩ : ∃ x, l[j3]? = some x := ⟨_, List.getElem?_eq_getElem (by rw [← HL.out, HLH.out]; omega)⟩
                have hx16 : x < 16 := LNB.out x (List.mem_of_getElem? hx)
                have hy16 : y < 16 := LNB.out y (List.mem_of_getElem? hy)
                have PA := prsF_at l k x y (by rw [← hik]; exact hx) (by rw [← hik, ← hj3]; exact hy)
                have NT : Hid ((prsF l).take (k + 1) = (prsF l).take k ++ [16 * x + y]) := hid (by
                  obtain ⟨h1, h2⟩ := List.getElem?_eq_some_iff.1 PA
                  rw [List.take_succ_eq_append_getElem h1, h2])
                rcases RL.out.split with ⟨h0, _⟩ | ⟨q3, o3, c3', e, hc3, h0, hc⟩
                · rw [h0] at hx; simp at hx
                simp only [Value.slice.injEq] at e
                obtain ⟨rfl, e2, rfl⟩ := e
                have SK : Hid (∀ wx, Fr [] w3 wx → wx.cell? ⟨q3, o3 + i, none⟩ = some (.int .u8 (x : Int)) ∧ wx.cell? ⟨q3, o3 + j3, none⟩ = some (.int .u8 (y : Int))) := hid (fun wx f => ⟨cell_fr (hc i x hx) f, cell_fr (hc j3 y hy) f⟩)
                have e3i : (i : Int) + 1 = (j3 : Int) := by omega
                have hj3L : (j3 : Int) < (L : Int) := by have := HLH.out; omega
                have wj3 : IntKind.i64.wrap (j3 : Int) = (j3 : Int) := by rw [IntKind.wrap_i64]; have := HLH.out; omega
                obtain ⟨X, hX⟩ : ∃ X, X = 16 * x := ⟨_, rfl⟩
                obtain ⟨Z, hZ⟩ : ∃ Z, Z = 16 * x + y := ⟨_, rfl⟩
                rw [← hZ] at NT
                have eX : 16 * (x : Int) = (X : Int) := by omega
                have eZ : (X : Int) + (y : Int) = (Z : Int) := by omega
                have wX : IntKind.u8.wrap (X : Int) = (X : Int) := by rw [IntKind.wrap_u8]; omega
                have wZ : IntKind.u8.wrap (Z : Int) = (Z : Int) := by rw [IntKind.wrap_u8]; omega
                obtain ⟨a9, c9, e9, _⟩ := ownsRow_slice HO.out
                obtain ⟨l9, hl9⟩ : ∃ q, q = ((prsF l).take k).length := ⟨_, rfl⟩
                have HL9 := hid hl9
                rw [← hl9] at e9
                subst e9
                have hl9b : ((prsF l).take k).length ≤ 100 := by rw [List.length_take]; omega
                obtain ⟨XA, hXA⟩ : ∃ X, X = wr.alloc (.cells (bv [Z]).toArray 5) := ⟨_, rfl⟩
                have FXA : Hid (Fr [] wr XA.drew) := hid (by rw [hXA]; exact ((Fr.refl _ _).alloc _).drew)
                have HXA : Hid (XA.drew.heap[wr.heap.size]? = some (.cells (bv [Z]).toArray 5 (0, 0))) := hid (by rw [hXA]; exact blk_new _ _)
                have HO2 := hid (ownsRow_fr HO.out FXA.out)
                have HF2 := hid (HF.out.trans FXA.out)
                clear hx hy hc e2 hj3 hX hZ PA hl9 hik
                go_upto_region 19 with fail
                refine wp_region_held_drew (S := fun wx => wx.cell? ⟨q3, o3 + i, none⟩ = some (.int .u8 (x : Int)) ∧ wx.cell? ⟨q3, o3 + j3, none⟩ = some (.int .u8 (y : Int))) (by kernel_rfl) (SK.out _ HF.out.drew) (fun hS => ?_)
                refine wpAnyH_take (i := 0) (v := (.slice a9 l9 c9)) rfl (by kernel_rfl) (by kernel_rfl) (by kernel_rfl) (fun _ _ _ h => h) (.inl ⟨by rfl, fun wx hX => by go_simp⟩) hS ?_
                simp only [Act.put]
                refine wpAnyH_take (i := 1) (v := (.slice (some ⟨q3, o3, none⟩) L c3)) rfl (by kernel_rfl) (by kernel_rfl) (by kernel_rfl) (fun _ _ _ h => h) (.inl ⟨by rfl, fun wx hX => by go_simp⟩) hS ?_
                simp only [Act.put]
                refine wpAnyH_take (i := 2) (v := (.int .i64 (i : Int))) rfl (by kernel_rfl) (by kernel_rfl) (by kernel_rfl) (fun _ _ _ h => h) (.inl ⟨by rfl, fun wx hX => by go_simp⟩) hS ?_
                simp only [Act.put]
                refine wpAnyH_take (i := 3) (v := (.pointer (some ⟨q3, o3 + i, none⟩))) rfl (by kernel_rfl) (by kernel_rfl) (by kernel_rfl) (fun _ _ _ h => h) (.inl ⟨by rfl, fun wx hX => by go_simp⟩) hS ?_
                simp only [Act.put]
                refine wpAnyH_take (i := 4) (v := (.int .u8 (x : Int))) rfl (by kernel_rfl) (by kernel_rfl) (by kernel_rfl) (fun _ _ _ h => h) (.inl ⟨by rfl, fun wx hX => by obtain ⟨q0, q1⟩ := hX; go_simp⟩) hS ?_
                simp only [Act.put]
                refine wpAnyH_take (i := 5) (v := (.int .u8 (X : Int))) rfl (by kernel_rfl) (by kernel_rfl) (by kernel_rfl) (fun _ _ _ h => h) (.inl ⟨by rfl, fun wx hX => by go_simp⟩) hS ?_
                simp only [Act.put]
                refine wpAnyH_take (i := 6) (v := (.slice (some ⟨q3, o3, none⟩) L c3)) rfl (by kernel_rfl) (by kernel_rfl) (by kernel_rfl) (fun _ _ _ h => h) (.inl ⟨by rfl, fun wx hX => by go_simp⟩) hS ?_
                simp only [Act.put]
                refine wpAnyH_take (i := 7) (v := (.int .i64 (i : Int))) rfl (by kernel_rfl) (by kernel_rfl) (by kernel_rfl) (fun _ _ _ h => h) (.inl ⟨by rfl, fun wx hX => by go_simp⟩) hS ?_
                simp only [Act.put]
                refine wpAnyH_take (i := 8) (v := (.int .i64 (j3 : Int))) rfl (by kernel_rfl) (by kernel_rfl) (by kernel_rfl) (fun _ _ _ h => h) (.inl ⟨by rfl, fun wx hX => by go_simp⟩) hS ?_
                simp only [Act.put]
                refine wpAnyH_take (i := 9) (v := (.pointer (some ⟨q3, o3 + j3, none⟩))) rfl (by kernel_rfl) (by kernel_rfl) (by kernel_rfl) (fun _ _ _ h => h) (.inl ⟨by rfl, fun wx hX => by go_simp⟩) hS ?_
                simp only [Act.put]
                refine wpAnyH_take (i := 10) (v := (.int .u8 (y : Int))) rfl (by kernel_rfl) (by kernel_rfl) (by kernel_rfl) (fun _ _ _ h => h) (.inl ⟨by rfl, fun wx hX => by obtain ⟨q0, q1⟩ := hX; go_simp⟩) hS ?_
                simp only [Act.put]
                refine wpAnyH_take (i := 11) (v := (.int .u8 (Z : Int))) rfl (by kernel_rfl) (by kernel_rfl) (by kernel_rfl) (fun _ _ _ h => h) (.inl ⟨by rfl, fun wx hX => by go_simp⟩) hS ?_
                simp only [Act.put]
                clear hS
                refine wpAnyH_ready (rs := [12]) (by kernel_rfl) (by simp) ?_
                refine AllReadyH.cons rfl (fun K hK => ?_) AllReadyH.nil
                go_simp
                have eX9 : wr.alloc (.cells #[.int .u8 (Z : Int)] 5) = XA := hXA.symm
                rw [eX9]
                clear hXA eX9
                refine hK.out _ _ (SK.out _ HF2.out) (fun hS => ?_)
                clear hK K
                refine wpAnyH_ready (rs := [13]) (by kernel_rfl) (by simp) ?_
                refine AllReadyH.cons rfl (fun K hK => ?_) AllReadyH.nil
                refine step_append_lit rfl (.tmp 44) (.tmp 56) rfl w3.heap.size HO2.out (by first | (simp [Act.eval, HL9.out]; done) | simp [Act.eval, Act.put, HL9.out]) wr.heap.size 1 1 (ns := [Z]) rfl (by first | (simp [Act.eval]; done) | simp [Act.eval, Act.put]) HXA.out (by simp; omega) HF2.out.size ?_
                intro v8 w8 o8 g8
                have F8 := hid (HF2.out.grew HO2.out (Nat.le_refl _) g8)
                have O8 := hid o8
                clear o8 g8
                refine hK.out _ _ (SK.out _ F8.out) (fun hS => ?_)
                clear hK K
                obtain ⟨a8, c8, e8, _⟩ := ownsRow_slice O8.out
                obtain ⟨l8, hl8⟩ : ∃ q, q = ((prsF l).take k ++ [Z]).length := ⟨_, rfl⟩
                have HL8 := hid hl8
                rw [← hl8] at e8
                subst e8
                rw [← hl8] at O8
                clear hl8
                refine wpAnyH_ready (rs := [14]) (by kernel_rfl) (by simp) ?_
                refine AllReadyH.cons rfl (fun K hK => ?_) AllReadyH.nil
                go_simp
                refine hK.out _ _ (SK.out _ F8.out) (fun hS => ?_)
                clear hK K
                refine wpAnyH_done (by kernel_rfl) ?_ _
                go_wp2
                go_roundw
                case rel => exact ⟨k + 1, i + 2, by omega, by have := HIK.out; omega, by go_num, by rw [NT.out, ← HL8.out]; exact O8.out, F8.out⟩
                case measure => have := HIK.out; have := HLH.out; simp [intOf]; omega
              · have hke : k = h := by omega
                have hlt' : ¬ (i : Int) < (L : Int) := by have := HLH.out; omega
                have PK : Hid ((prsF l).take k = packF p true) := hid (by
                  unfold packF
                  rw [List.take_of_length_le (by rw [prsF_len, ← HL.out, HLH.out]; omega), HLL.out])
                rw [PK.out] at HO
                clear hke
                go_wp2
                go_ret2
                exact ⟨.inl ⟨OK.out, _, rfl, ownsRow_base HO.out F3.out.size⟩, F3.out.trans HF.out⟩
          · have hp' : (n : Int) % 2 = 0 := by omega
            have hp2 : (n : Int).tmod 2 = 0 := by rw [Int.tmod_eq_emod_of_nonneg (by omega)]; omega
            have AH : Hid (aheadF p true = [2, 0]) := hid (by unfold aheadF; rw [if_neg (by rw [← HN.out]; exact hp)]; rfl)
            obtain ⟨W1, hW1⟩ : ∃ W, W = (w.alloc (.cells #[.int .u8 2, .int .u8 0] 5)) := ⟨_, rfl⟩
            have FA : Hid (Fr [] w W1) := hid (by rw [hW1]; exact (Fr.refl _ _).alloc _)
            have OA1 : Hid (W1.ownsRow w.heap.size 5 1 (.slice (some ⟨w.heap.size, 0, none⟩) 2 2) ([2, 0] : List Nat).length (bv [2, 0])) := hid (by rw [hW1]; exact World.ownsRow_lit w #[.int .u8 2, .int .u8 0] 2 (Nat.le_refl _) (by unfold maxLen; omega) rfl)
            go_upto_region 14 with fail
            rw [← hW1]
            clear hW1
            go_upto_region 15 with (at_builtin; refine wpList_append_bv rfl _ _ rfl (base := w.heap.size) OA1.out rfl FA.out (Nat.le_refl _) FA.out.size _ (HR.out.fr FA.out) rfl (by rw [← HN.out]; simp; omega) ?_; intro v8 w3 o8 f8; have O8 := hid o8; have F3 := hid f8; clear o8 f8)
            obtain ⟨l, hl0⟩ : ∃ l, l = aheadF p true ++ p := ⟨_, rfl⟩
            have HLL := hid hl0
            have O3 : Hid (w3.ownsRow w.heap.size 5 1 v8 l.length (bv l)) := hid (by rw [hl0, AH.out, List.length_append]; exact O8.out)
            have LNB : Hid (Nb l) := hid (by
              rw [hl0]
              intro x hx
              rcases List.mem_append.1 hx with hx | hx
              · exact ahead_nb p _ x hx
              · exact okP_nb OK.out x hx)
            have LL2 := (ahead_len p true).1
            rw [← hl0] at LL2
            have LLE : l.length ≤ 130 := by rw [hl0, List.length_append]; have := (ahead_len p true).2.1; have := HN.out; omega
            clear hl0 AH O8 OA1
            obtain ⟨L, hL⟩ : ∃ L, L = l.length := ⟨_, rfl⟩
            have HL := hid hL
            rw [← hL] at LL2 LLE O3
            obtain ⟨a3, c3, e8, _⟩ := ownsRow_slice O3.out
            subst e8
            obtain ⟨h, hh⟩ : ∃ h, h = L / 2 := ⟨_, rfl⟩
            have hLh : L = 2 * h := by omega
            have HLH := hid hLh
            have hLb : h ≤ 65 := by omega
            have RL := hid (Rd.ownN O3.out HL.out)
            clear hL hh hLh LL2
            go_wp2_with fail
            go_loopw [9, 10] (fun v9 v10 wr => ∃ (k i : Nat), k ≤ h ∧ i = 2 * k ∧ v10 = .int .i64 (i : Int) ∧ wr.ownsRow w3.heap.size 5 1 v9 ((prsF l).take k).length (bv ((prsF l).take k)) ∧ Fr [] w3 wr) (fun _ v10 _ => L - (intOf v10).toNat)
            case atStart => exact ⟨0, 0, Nat.zero_le _, rfl, rfl, World.ownsRow_nil _ _ _ _, Fr.refl _ _⟩
            case round =>
              obtain ⟨k, i, hk, hik, rfl, ho, hf⟩ := hrel
              have HO := hid ho
              have HF := hid hf
              have HIK := hid hik
              clear ho hf
              by_cases hlt : k < h
              · have hlt' : (i : Int) < (L : Int) := by have := HLH.out; omega
                obtain ⟨j3, hj3⟩ : ∃ j, j = i + 1 := ⟨_, rfl⟩
                obtain ⟨x, hx⟩ : ∃ x, l[i]? = some x := ⟨_, List.getElem?_eq_getElem (by rw [← HL.out, HLH.out]; omega)⟩
                obtain ⟨y, hy⟩ : ∃ x, l[j3]? = some x := ⟨_, List.getElem?_eq_getElem (by rw [← HL.out, HLH.out]; omega)⟩
                have hx16 : x < 16 := LNB.out x (List.mem_of_getElem? hx)
                have hy16 : y < 16 := LNB.out y (List.mem_of_getElem? hy)
                have PA := prsF_at l k x y (by rw [← hik]; exact hx) (by rw [← hik, ← hj3]; exact hy)
                have NT : Hid ((prsF l).take (k + 1) = (prsF l).take k ++ [16 * x + y]) := hid (by
                  obtain ⟨h1, h2⟩ := List.getElem?_eq_some_iff.1 PA
                  rw [List.take_succ_eq_append_getElem h1, h2])
                rcases RL.out.split with ⟨h0, _⟩ | ⟨q3, o3, c3', e, hc3, h0, hc⟩
                · rw [h0] at hx; simp at hx
                simp only [Value.slice.injEq] at e
                obtain ⟨rfl, e2, rfl⟩ := e
                have SK : Hid (∀ wx, Fr [] w3 wx → wx.cell? ⟨q3, o3 + i, none⟩ = some (.int .u8 (x : Int)) ∧ wx.cell? ⟨q3, o3 + j3, none⟩ = some (.int .u8 (y : Int))) := hid (fun wx f => ⟨cell_fr (hc i x hx) f, cell_fr (hc j3 y hy) f⟩)
                have e3i : (i : Int) + 1 = (j3 : Int) := by omega
                have hj3L : (j3 : Int) < (L : Int) := by have := HLH.out; omega
                have wj3 : IntKind.i64.wrap (j3 : Int) = (j3 : Int) := by rw [IntKind.wrap_i64]; have := HLH.out; omega
                obtain ⟨X, hX⟩ : ∃ X, X = 16 * x := ⟨_, rfl⟩
                obtain ⟨Z, hZ⟩ : ∃ Z, Z = 16 * x + y := ⟨_, rfl⟩
                rw [← hZ] at NT
                have eX : 16 * (x : Int) = (X : Int) := by omega
                have eZ : (X : Int) + (y : Int) = (Z : Int) := by omega
                have wX : IntKind.u8.wrap (X : Int) = (X : Int) := by rw [IntKind.wrap_u8]; omega
                have wZ : IntKind.u8.wrap (Z : Int) = (Z : Int) := by rw [IntKind.wrap_u8]; omega
                obtain ⟨a9, c9, e9, _⟩ := ownsRow_slice HO.out
                obtain ⟨l9, hl9⟩ : ∃ q, q = ((prsF l).take k).length := ⟨_, rfl⟩
                have HL9 := hid hl9
                rw [← hl9] at e9
                subst e9
                have hl9b : ((prsF l).take k).length ≤ 100 := by rw [List.length_take]; omega
                obtain ⟨XA, hXA⟩ : ∃ X, X = wr.alloc (.cells (bv [Z]).toArray 5) := ⟨_, rfl⟩
                have FXA : Hid (Fr [] wr XA.drew) := hid (by rw [hXA]; exact ((Fr.refl _ _).alloc _).drew)
                have HXA : Hid (XA.drew.heap[wr.heap.size]? = some (.cells (bv [Z]).toArray 5 (0, 0))) := hid (by rw [hXA]; exact blk_new _ _)
                have HO2 := hid (ownsRow_fr HO.out FXA.out)
                have HF2 := hid (HF.out.trans FXA.out)
                clear hx hy hc e2 hj3 hX hZ PA hl9 hik
                go_upto_region 19 with fail
                refine wp_region_held_drew (S := fun wx => wx.cell? ⟨q3, o3 + i, none⟩ = some (.int .u8 (x : Int)) ∧ wx.cell? ⟨q3, o3 + j3, none⟩ = some (.int .u8 (y : Int))) (by kernel_rfl) (SK.out _ HF.out.drew) (fun hS => ?_)
                refine wpAnyH_take (i := 0) (v := (.slice a9 l9 c9)) rfl (by kernel_rfl) (by kernel_rfl) (by kernel_rfl) (fun _ _ _ h => h) (.inl ⟨by rfl, fun wx hX => by go_simp⟩) hS ?_
                simp only [Act.put]
                refine wpAnyH_take (i := 1) (v := (.slice (some ⟨q3, o3, none⟩) L c3)) rfl (by kernel_rfl) (by kernel_rfl) (by kernel_rfl) (fun _ _ _ h => h) (.inl ⟨by rfl, fun wx hX => by go_simp⟩) hS ?_
                simp only [Act.put]
                refine wpAnyH_take (i := 2) (v := (.int .i64 (i : Int))) rfl (by kernel_rfl) (by kernel_rfl) (by kernel_rfl) (fun _ _ _ h => h) (.inl ⟨by rfl, fun wx hX => by go_simp⟩) hS ?_
                simp only [Act.put]
                refine wpAnyH_take (i := 3) (v := (.pointer (some ⟨q3, o3 + i, none⟩))) rfl (by kernel_rfl) (by kernel_rfl) (by kernel_rfl) (fun _ _ _ h => h) (.inl ⟨by rfl, fun wx hX => by go_simp⟩) hS ?_
                simp only [Act.put]
                refine wpAnyH_take (i := 4) (v := (.int .u8 (x : Int))) rfl (by kernel_rfl) (by kernel_rfl) (by kernel_rfl) (fun _ _ _ h => h) (.inl ⟨by rfl, fun wx hX => by obtain ⟨q0, q1⟩ := hX; go_simp⟩) hS ?_
                simp only [Act.put]
                refine wpAnyH_take (i := 5) (v := (.int .u8 (X : Int))) rfl (by kernel_rfl) (by kernel_rfl) (by kernel_rfl) (fun _ _ _ h => h) (.inl ⟨by rfl, fun wx hX => by go_simp⟩) hS ?_
                simp only [Act.put]
                refine wpAnyH_take (i := 6) (v := (.slice (some ⟨q3, o3, none⟩) L c3)) rfl (by kernel_rfl) (by kernel_rfl) (by kernel_rfl) (fun _ _ _ h => h) (.inl ⟨by rfl, fun wx hX => by go_simp⟩) hS ?_
                simp only [Act.put]
                refine wpAnyH_take (i := 7) (v := (.int .i64 (i : Int))) rfl (by kernel_rfl) (by kernel_rfl) (by kernel_rfl) (fun _ _ _ h => h) (.inl ⟨by rfl, fun wx hX => by go_simp⟩) hS ?_
                simp only [Act.put]
                refine wpAnyH_take (i := 8) (v := (.int .i64 (j3 : Int))) rfl (by kernel_rfl) (by kernel_rfl) (by kernel_rfl) (fun _ _ _ h => h) (.inl ⟨by rfl, fun wx hX => by go_simp⟩) hS ?_
                simp only [Act.put]
                refine wpAnyH_take (i := 9) (v := (.pointer (some ⟨q3, o3 + j3, none⟩))) rfl (by kernel_rfl) (by kernel_rfl) (by kernel_rfl) (fun _ _ _ h => h) (.inl ⟨by rfl, fun wx hX => by go_simp⟩) hS ?_
                simp only [Act.put]
                refine wpAnyH_take (i := 10) (v := (.int .u8 (y : Int))) rfl (by kernel_rfl) (by kernel_rfl) (by kernel_rfl) (fun _ _ _ h => h) (.inl ⟨by rfl, fun wx hX => by obtain ⟨q0, q1⟩ := hX; go_simp⟩) hS ?_
                simp only [Act.put]
                refine wpAnyH_take (i := 11) (v := (.int .u8 (Z : Int))) rfl (by kernel_rfl) (by kernel_rfl) (by kernel_rfl) (fun _ _ _ h => h) (.inl ⟨by rfl, fun wx hX => by go_simp⟩) hS ?_
                simp only [Act.put]
                clear hS
                refine wpAnyH_ready (rs := [12]) (by kernel_rfl) (by simp) ?_
                refine AllReadyH.cons rfl (fun K hK => ?_) AllReadyH.nil
                go_simp
                have eX9 : wr.alloc (.cells #[.int .u8 (Z : Int)] 5) = XA := hXA.symm
                rw [eX9]
                clear hXA eX9
                refine hK.out _ _ (SK.out _ HF2.out) (fun hS => ?_)
                clear hK K
                refine wpAnyH_ready (rs := [13]) (by kernel_rfl) (by simp) ?_
                refine AllReadyH.cons rfl (fun K hK => ?_) AllReadyH.nil
                refine step_append_lit rfl (.tmp 44) (.tmp 56) rfl w3.heap.size HO2.out (by first | (simp [Act.eval, HL9.out]; done) | simp [Act.eval, Act.put, HL9.out]) wr.heap.size 1 1 (ns := [Z]) rfl (by first | (simp [Act.eval]; done) | simp [Act.eval, Act.put]) HXA.out (by simp; omega) HF2.out.size ?_
                intro v8 w8 o8 g8
                have F8 := hid (HF2.out.grew HO2.out (Nat.le_refl _) g8)
                have O8 := hid o8
                clear o8 g8
                refine hK.out _ _ (SK.out _ F8.out) (fun hS => ?_)
                clear hK K
                obtain ⟨a8, c8, e8, _⟩ := ownsRow_slice O8.out
                obtain ⟨l8, hl8⟩ : ∃ q, q = ((prsF l).take k ++ [Z]).length := ⟨_, rfl⟩
                have HL8 := hid hl8
                rw [← hl8] at e8
                subst e8
                rw [← hl8] at O8
                clear hl8
                refine wpAnyH_ready (rs := [14]) (by kernel_rfl) (by simp) ?_
                refine AllReadyH.cons rfl (fun K hK => ?_) AllReadyH.nil
                go_simp
                refine hK.out _ _ (SK.out _ F8.out) (fun hS => ?_)
                clear hK K
                refine wpAnyH_done (by kernel_rfl) ?_ _
                go_wp2
                go_roundw
                case rel => exact ⟨k + 1, i + 2, by omega, by have := HIK.out; omega, by go_num, by rw [NT.out, ← HL8.out]; exact O8.out, F8.out⟩
                case measure => have := HIK.out; have := HLH.out; simp [intOf]; omega
              · have hke : k = h := by omega
                have hlt' : ¬ (i : Int) < (L : Int) := by have := HLH.out; omega
                have PK : Hid ((prsF l).take k = packF p true) := hid (by
                  unfold packF
                  rw [List.take_of_length_le (by rw [prsF_len, ← HL.out, HLH.out]; omega), HLL.out])
                rw [PK.out] at HO
                clear hke
                go_wp2
                go_ret2
                exact ⟨.inl ⟨OK.out, _, rfl, ownsRow_base HO.out F3.out.size⟩, F3.out.trans HF.out⟩
  · have h128' : (128 : Int) < (n : Int) := by omega
    have OK : Hid (okP p = false) := hid (by rw [OA.out]; simp; omega)
    go_wp2
    go_ret2
    exact ⟨.inr ⟨OK.out, rfl⟩, Fr.refl _ _⟩
end Go.Proofs.YtmpfnglcmaollaaDoor
