/-
  The document's Cut, walked.
-/
import Derived.Test.YthmlpjogbdpgiaaCXC
import Derived.Test.YthmlpjogbdpgiaaCXD
namespace Go.Proofs.Ythmlpjogbdpgiaa
open Go.ChangeShapes Go.WideShapes Go.ChangeAt Go.RowKit

/-- Where the loop stands: nothing yet, or a piece under way. -/
def RcS (w wr : World) (v6 : Value) (sz : Nat) (ps : Ps) (i : Nat) : Prop := (i = 0 ∧ v6 = .slice none 0 0 ∧ Fr [] w wr) ∨ (0 < i ∧ ∃ Wk vs cv, RcI w Wk wr v6 vs cv (cutAt sz ps i).1 (cutAt sz ps i).2.1)
theorem RcS.fr {w wr : World} {v6 : Value} {sz : Nat} {ps : Ps} {i : Nat} (h : RcS w wr v6 sz ps i) : Fr [] w wr := by
  rcases h with ⟨_, _, h⟩ | ⟨_, _, _, _, h⟩
  · exact h
  · exact h.fr
set_option maxRecDepth 20000 in
set_option maxHeartbeats 6400000 in
theorem rcut_c (w : World) {v : Value} {ps : Ps} (h : RdK w v ps) (hn : ps.length ≤ 10000) (size : Int) (sz : Nat) (hsz : (sz : Int) = if size < 1 then 1 else size) :
    Calls Try.prog 14 #[v, .int .i64 size] w fun e w' => CutO w' ps sz e ∧ Fr [] w w' := by
  have RI := hid (rrises_c w h (by omega))
  have LN := hid h.lens
  have BYP := hid h.by
  obtain ⟨a, c, rfl, hc, k1⟩ := h
  have H1 := hid k1
  have HSZ := hid hsz
  have SZ1 : Hid (0 < sz) := hid (by split at hsz <;> omega)
  clear k1 hsz
  obtain ⟨n, hnn⟩ : ∃ n, n = ps.length := ⟨_, rfl⟩
  have HN := hid hnn
  rw [← hnn] at hn hc RI ⊢
  clear hnn
  go_enter Try.func14, Try.ntmps14
  go_upto_if 11 with (go_at_call 23; refine RI.out.mono ?_; rintro e w2 ⟨hq, f2⟩; rcases hq with ⟨rfl, hr⟩ | ⟨rfl, hr⟩)
  · have HR := hid hr
    have F2 := hid f2
    clear hr f2 RI
    go_wp2_with fail
    go_loopw [6, 7, 8] (fun v6 v7 v8 wr => ∃ (i : Nat) (hv : Nat), i ≤ n ∧ v8 = .int .i64 (i : Int) ∧ v7 = .int .i64 (hv : Int) ∧ hv = (cutAt sz ps i).2.2 ∧ RcS w wr v6 sz ps i) (fun _ _ v8 _ => n - (intOf v8).toNat)
    case atStart => exact ⟨0, 0, Nat.zero_le _, rfl, rfl, rfl, .inl ⟨rfl, rfl, F2.out⟩⟩
    case round =>
      obtain ⟨i, hv, hi, rfl, rfl, hvv, hs⟩ := hrel
      have RS := hid hs
      have FR := hid hs.fr
      have HV := hid hvv
      clear hvv hs
      by_cases hlt : i < n
      · have hil : i < ps.length := by rw [← HN.out]; exact hlt
        obtain ⟨b, off, rfl, m1⟩ := H1.out (by omega)
        obtain ⟨ka, kc, va, vc, P⟩ := m1 i _ (ps_at hil)
        have PH := hid P
        have hki : isK (kA ps i) = true := rises_isK HR.out hil
        have hkl := isK_len hki
        obtain ⟨qk, ok, ck, hp0, hc0⟩ := P.rk.place (by dsimp only; omega)
        simp only [Value.slice.injEq] at hp0
        obtain ⟨rfl, hx0, rfl⟩ := hp0
        clear hx0
        have HVB : Hid (hv ≤ i * 281474976710656) := hid (by rw [HV.out]; exact cutAt_have LN.out i (by omega))
        have CE : Hid (cutAt sz ps (i + 1) = if sz ≤ hv ∧ userL (kA ps i) ≠ userL (kA ps (i - 1)) then ((cutAt sz ps i).1 ++ [(cutAt sz ps i).2.1], [(kA ps i, vA ps i)], (kA ps i).length + (vA ps i).length) else ((cutAt sz ps i).1, (cutAt sz ps i).2.1 ++ [(kA ps i, vA ps i)], hv + ((kA ps i).length + (vA ps i).length))) := hid (by rw [HV.out, cutAt])
        have LL0 := hid (cutAt_len (sz := sz) (ps := ps) i)
        have HM := hid m1
        have hlt' : (i : Int) < (n : Int) := by omega
        have HMAX : max size 1 = (sz : Int) := by have h9 := HSZ.out; split at h9 <;> omega
        clear P m1
        by_cases h0 : i = 0
        · have h0' : ((i : Int) == 0) = true := by rw [h0]; rfl
          have E6 : u6 = .slice none 0 0 := by
            rcases RS.out with ⟨_, e, _⟩ | ⟨h, _⟩
            · exact e
            · omega
          subst E6
          have hv0 : hv = 0 := by have h1 := HV.out; rw [h0] at h1; simpa [cutAt] using h1
          have NX : Hid (cutAt sz ps (i + 1) = ([], [] ++ [(kA ps i, vA ps i)], (kA ps i).length + (vA ps i).length)) := hid (by rw [CE.out, if_neg (fun h => h.2 (by rw [h0])), hv0, h0]; simp [cutAt])
          have HI0 := hid h0
          clear h0 CE
          go_upto_region 8 with fail
          go_quiet (fail)
          obtain ⟨W8, hW8⟩ : ∃ W, W = wr.drewN nq := ⟨_, rfl⟩
          rw [← hW8]
          have F8 : Hid (Fr [] wr W8) := hid (by rw [hW8]; exact (Fr.refl _ _).drewN _)
          clear hW8
          obtain ⟨vs8, o8, h8⟩ := (PcR.nil _ _ _ : PcR w wr w.heap.size (.slice none 0 0) (([] : List Ps)))
          have O8 := hid (ownsRow_fr o8 (F8.out.alloc (.cells #[.slice none 0 0] 27)))
          have H8 : Hid (∀ (j : Nat) (p : Ps), (([] : List Ps))[j]? = some p → ∃ u, vs8[j]? = some u ∧ ColR w (W8.alloc (.cells #[.slice none 0 0] 27)) w.heap.size u p) := hid (fun j p hj => by
            obtain ⟨u, e, k⟩ := h8 j p hj
            exact ⟨u, e, k.keep (F8.out.alloc _) (fun _ _ h => by cases h)⟩)
          have FR8 := hid (FR.out.trans (F8.out.alloc (.cells #[.slice none 0 0] 27)))
          have QL : Hid ((([] : List Ps)).length ≤ 10001) := hid (by simp)
          clear o8 h8
          go_upto_region 11 with (at_builtin; refine wpList_appLL rfl _ _ rfl w.heap.size FR8.out.size (.slice none 0 0) _ vs8 rfl O8.out W8.heap.size rfl (blk_new _ _) rfl (by have := QL.out; omega) ?_; intro v9 w9 o9 g9; have O9 := hid o9; have G9 := hid g9; clear o9 g9)
          have RI9 := hid (PcR.begin FR8.out O8.out H8.out O9.out G9.out)
          obtain ⟨G, cp, cur, e6, hcp, hG, hcv⟩ := RI9.out.blk
          obtain ⟨ac, cc, ecv⟩ := RI9.out.co.form
          have E6 := hid e6
          have ECV := hid ecv
          subst e6
          rw [ecv] at hcv
          have PLN := hid (show (([] : List Ps)).length ≤ 10001 from by simp)
          have CLN := hid (show (([] : Ps)).length ≤ 10000 from by simp)
          obtain ⟨PL, hPL⟩ : ∃ q, q = (([] : List Ps)).length := ⟨_, rfl⟩
          obtain ⟨CL, hCL⟩ : ∃ q, q = (([] : Ps)).length := ⟨_, rfl⟩
          have HPL := hid hPL
          have HCL := hid hCL
          rw [← hPL] at hcv hcp E6 PLN ⊢
          rw [← hCL] at hcv CLN ECV
          have z1 := cell_fr RI9.out.fr PH.out.ck
          have z2 := cell_fr RI9.out.fr PH.out.cv
          dsimp only at z1 z2
          obtain ⟨kl, hkl2⟩ : ∃ q, q = (kA ps i).length := ⟨_, rfl⟩
          obtain ⟨vl, hvl2⟩ : ∃ q, q = (vA ps i).length := ⟨_, rfl⟩
          have HKL := hid hkl2
          have HVL := hid hvl2
          rw [← hkl2] at z1
          rw [← hvl2] at z2
          have Z0 := hid hcv
          have Z1 := hid z1
          have Z2 := hid z2
          have SK : Hid (∀ wx, Fr [] w wx → wx.cell? ⟨b, off + i * 2, none⟩ = some (.slice (some ⟨qk, ok, none⟩) kl kc) ∧ wx.cell? ⟨b, off + i * 2 + 1, none⟩ = some (.slice va vl vc)) := hid (fun wx f => by
            have z1 := cell_fr f PH.out.ck
            have z2 := cell_fr f PH.out.cv
            dsimp only at z1 z2
            rw [← HKL.out] at z1
            rw [← HVL.out] at z2
            exact ⟨z1, z2⟩)
          have hPI : (i : Int) < (n : Int) := hlt'
          have hP1 : (PL : Int) < (PL : Int) + 1 := by omega
          have hP2 : ¬ ((PL : Int) + 1 ≤ (PL : Int)) := by omega
          have hP3 : IntKind.i64.wrap (PL : Int) = (PL : Int) := by rw [IntKind.wrap_i64]; have := PLN.out; omega
          clear hcv hPL hCL hkl2 hvl2 z1 z2
          obtain ⟨X, hX⟩ : ∃ X, X = w9.alloc (.cells #[.slice (some ⟨qk, ok, none⟩) kl kc, .slice va vl vc] 50) := ⟨_, rfl⟩
          have FXD : Hid (Fr [] w9 X.drew) := hid (by rw [hX]; exact ((Fr.refl _ _).alloc _).drew)
          have HX : Hid (X.drew.heap[w9.heap.size]? = some (.cells #[.slice (some ⟨qk, ok, none⟩) kl kc, .slice va vl vc] 50 (0, 0))) := hid (by rw [hX]; exact blk_new _ _)
          have rx := RI9.out
          rw [ecv] at rx
          clear ecv
          have RX := hid (rx.quiet FXD.out)
          have SZ5 : Hid (w9.heap.size ≤ X.drew.heap.size) := hid (by
            have h1 := RX.out.fk.size
            exact h1)
          obtain ⟨cs5, o5, h5⟩ := RX.out.co
          have ND : Hid (∀ v6 w6, w6.ownsRow w9.heap.size 50 2 v6 (CL + 1) (cs5 ++ [.slice (some ⟨qk, ok, none⟩) kl kc, .slice va vl vc]) → X.drew.grownBy w6 (Value.slice ac CL cc).ownBlock → (RcI w w9 (w6.setCell ⟨G, PL, none⟩ v6) (.slice (some ⟨G, 0, none⟩) (PL + 1) cp) vs8 v6 (([] : List Ps)) (([] : Ps) ++ [(kA ps i, vA ps i)]) ∧ w6.cell? ⟨G, PL, none⟩ = some (.slice ac CL cc) ∧ w6.frozen? ⟨G, PL, none⟩ = false) ∧ Fr [] w w6) := hid (fun v6 w6 o6 g6 => by
            rw [HCL.out] at o6 g6
            rw [HKL.out, HVL.out] at o6
            have h1 := RcI.add (x := (kA ps i, vA ps i)) RX.out rfl (by have := o5.1; omega) h5 PH.out.rk PH.out.rv PH.out.bk PH.out.bv' PH.out.lk PH.out.lv o6 g6
            rw [← HPL.out, ← HCL.out] at h1
            exact ⟨h1, RX.out.fr.grown g6 (fun k hk => .inr (Nat.le_trans RX.out.sz (o5.lt k hk).1))⟩)
          rw [← HCL.out] at o5
          have O5 := hid o5
          clear o5 h5 rx
          refine wp_region_held_drew (S := fun wx => wx.cell? ⟨b, off + i * 2, none⟩ = some (.slice (some ⟨qk, ok, none⟩) kl kc) ∧ wx.cell? ⟨b, off + i * 2 + 1, none⟩ = some (.slice va vl vc)) (by kernel_rfl) (SK.out _ (RI9.out.fr.drew)) (fun hS => ?_)
          refine wpAnyH_take (i := 0) (v := (.slice (some ⟨G, 0, none⟩) (PL + 1) cp)) rfl (by kernel_rfl) (by kernel_rfl) (by kernel_rfl) (fun _ _ _ h => h) (.inl ⟨by rfl, fun wx hX => by go_simp⟩) hS ?_
          simp only [Act.put]
          refine wpAnyH_take (i := 1) (v := (.slice (some ⟨G, 0, none⟩) (PL + 1) cp)) rfl (by kernel_rfl) (by kernel_rfl) (by kernel_rfl) (fun _ _ _ h => h) (.inl ⟨by rfl, fun wx hX => by go_simp⟩) hS ?_
          simp only [Act.put]
          refine wpAnyH_take (i := 2) (v := (.int .i64 ((PL + 1 : Nat) : Int))) rfl (by kernel_rfl) (by kernel_rfl) (by kernel_rfl) (fun _ _ _ h => h) (.inl ⟨by rfl, fun wx hX => by go_simp⟩) hS ?_
          simp only [Act.put]
          refine wpAnyH_take (i := 3) (v := (.int .i64 (PL : Int))) rfl (by kernel_rfl) (by kernel_rfl) (by kernel_rfl) (fun _ _ _ h => h) (.inl ⟨by rfl, fun wx hX => by go_simp⟩) hS ?_
          simp only [Act.put]
          refine wpAnyH_take (i := 4) (v := (.slice (some ⟨G, 0, none⟩) (PL + 1) cp)) rfl (by kernel_rfl) (by kernel_rfl) (by kernel_rfl) (fun _ _ _ h => h) (.inl ⟨by rfl, fun wx hX => by go_simp⟩) hS ?_
          simp only [Act.put]
          refine wpAnyH_take (i := 5) (v := (.slice (some ⟨G, 0, none⟩) (PL + 1) cp)) rfl (by kernel_rfl) (by kernel_rfl) (by kernel_rfl) (fun _ _ _ h => h) (.inl ⟨by rfl, fun wx hX => by go_simp⟩) hS ?_
          simp only [Act.put]
          refine wpAnyH_take (i := 6) (v := (.int .i64 ((PL + 1 : Nat) : Int))) rfl (by kernel_rfl) (by kernel_rfl) (by kernel_rfl) (fun _ _ _ h => h) (.inl ⟨by rfl, fun wx hX => by go_simp⟩) hS ?_
          simp only [Act.put]
          refine wpAnyH_take (i := 7) (v := (.int .i64 (PL : Int))) rfl (by kernel_rfl) (by kernel_rfl) (by kernel_rfl) (fun _ _ _ h => h) (.inl ⟨by rfl, fun wx hX => by go_simp⟩) hS ?_
          simp only [Act.put]
          refine wpAnyH_take (i := 8) (v := (.pointer (some ⟨G, PL, none⟩))) rfl (by kernel_rfl) (by kernel_rfl) (by kernel_rfl) (fun _ _ _ h => h) (.inl ⟨by rfl, fun wx hX => by go_simp⟩) hS ?_
          simp only [Act.put]
          refine wpAnyH_take (i := 10) (v := (.slice (some ⟨b, off, none⟩) n c)) rfl (by kernel_rfl) (by kernel_rfl) (by kernel_rfl) (fun _ _ _ h => h) (.inl ⟨by rfl, fun wx hX => by go_simp⟩) hS ?_
          simp only [Act.put]
          refine wpAnyH_take (i := 11) (v := (.int .i64 (i : Int))) rfl (by kernel_rfl) (by kernel_rfl) (by kernel_rfl) (fun _ _ _ h => h) (.inl ⟨by rfl, fun wx hX => by go_simp⟩) hS ?_
          simp only [Act.put]
          refine wpAnyH_take (i := 12) (v := (.pointer (some ⟨b, off + i * 2, none⟩))) rfl (by kernel_rfl) (by kernel_rfl) (by kernel_rfl) (fun _ _ _ h => h) (.inl ⟨by rfl, fun wx hX => by go_simp⟩) hS ?_
          simp only [Act.put]
          refine wpAnyH_take (i := 13) (v := (.agg #[.slice (some ⟨qk, ok, none⟩) kl kc, .slice va vl vc])) rfl (by kernel_rfl) (by kernel_rfl) (by kernel_rfl) (fun _ _ _ h => h) (.inl ⟨by rfl, fun wx hX => by obtain ⟨x0, x1⟩ := hX; go_simp⟩) hS ?_
          simp only [Act.put]
          clear hS
          refine wpAnyH_ready (rs := [9, 14]) (by kernel_rfl) (by simp) ?_
          refine AllReadyH.cons rfl (fun K hK => ?_) (AllReadyH.cons rfl (fun K hK => ?_) AllReadyH.nil)
          · have q1 := Z0.out
            go_simp
            refine hK.out _ _ (SK.out _ RI9.out.fr.drew) (fun hS => ?_)
            clear hK K q1
            refine wpAnyH_ready (rs := [14]) (by kernel_rfl) (by simp) ?_
            refine AllReadyH.cons rfl (fun K hK => ?_) AllReadyH.nil
            go_simp
            rw [← hX]
            clear hX
            refine hK.out _ _ (SK.out _ (RI9.out.fr.trans FXD.out)) (fun hS => ?_)
            clear hK K
            refine wpAnyH_ready (rs := [15]) (by kernel_rfl) (by simp) ?_
            refine AllReadyH.cons rfl (fun K hK => ?_) AllReadyH.nil
            refine step_append_kv rfl (.tmp 55) (.tmp 60) rfl w9.heap.size (v := .slice ac CL cc) (by first | (simp [Act.eval]; done) | simp [Act.eval, Act.put]) O5.out (G := w9.heap.size) (by first | (simp [Act.eval]; done) | simp [Act.eval, Act.put]) HX.out (by intro u hu; simp at hu; rcases hu with rfl | rfl <;> rfl) (by have := CLN.out; omega) SZ5.out ?_
            intro v6 w6 o6 g6
            obtain ⟨⟨r6, q1, q2⟩, f6⟩ := ND.out v6 w6 o6 g6
            obtain ⟨a6, c6, rfl, _⟩ := ownsRow_slice o6
            have RI6 := hid r6
            have SK6 := hid (SK.out _ f6)
            clear r6 f6
            clear o6 g6
            refine hK.out _ _ SK6.out (fun hS => ?_)
            clear hK K
            refine wpAnyH_ready (rs := [16]) (by kernel_rfl) (by simp) ?_
            refine AllReadyH.cons rfl (fun K hK => ?_) AllReadyH.nil
            go_simp
            refine hK.out _ _ SK6.out (fun hS => ?_)
            clear hK K
            refine wpAnyH_ready (rs := [17]) (by kernel_rfl) (by simp) ?_
            refine AllReadyH.cons rfl (fun K hK => ?_) AllReadyH.nil
            go_simp
            refine hK.out _ _ (SK.out _ RI6.out.fr) (fun hS => ?_)
            clear hK K
            refine wpAnyH_done (by kernel_rfl) ?_ _
            obtain ⟨W9, hW9⟩ : ∃ W, W = w6.setCell ⟨G, PL, none⟩ (.slice a6 (CL + 1) c6) := ⟨_, rfl⟩
            rw [← hW9] at RI6 ⊢
            clear hW9
            obtain ⟨y0, y1⟩ := SK.out _ RI6.out.fr
            have hvb := HVB.out
            have HLK := PH.out.lk
            have HLV := PH.out.lv
            dsimp only at HLK HLV
            rw [← HKL.out] at HLK
            rw [← HVL.out] at HLV
            clear q1 q2
            go_upto_region 12 with fail
            go_quiet (fail)
            go_wp2
            go_roundw
            case rel => exact ⟨i + 1, kl + vl, by omega, by go_num, by go_num, by rw [NX.out, HKL.out, HVL.out], .inr ⟨by omega, w9, vs8, _, by rw [NX.out]; have h9 := RI6.out; exact h9.quiet ((Fr.refl _ _).drewN _)⟩⟩
            case measure => simp [intOf]; omega
          · go_simp
            rw [← hX]
            clear hX
            refine hK.out _ _ (SK.out _ (RI9.out.fr.trans FXD.out)) (fun hS => ?_)
            clear hK K
            have q1 := cell_fr FXD.out Z0.out
            refine wpAnyH_ready (rs := [9]) (by kernel_rfl) (by simp) ?_
            refine AllReadyH.cons rfl (fun K hK => ?_) AllReadyH.nil
            go_simp
            refine hK.out _ _ (SK.out _ (RI9.out.fr.trans FXD.out)) (fun hS => ?_)
            clear hK K q1
            refine wpAnyH_ready (rs := [15]) (by kernel_rfl) (by simp) ?_
            refine AllReadyH.cons rfl (fun K hK => ?_) AllReadyH.nil
            refine step_append_kv rfl (.tmp 55) (.tmp 60) rfl w9.heap.size (v := .slice ac CL cc) (by first | (simp [Act.eval]; done) | simp [Act.eval, Act.put]) O5.out (G := w9.heap.size) (by first | (simp [Act.eval]; done) | simp [Act.eval, Act.put]) HX.out (by intro u hu; simp at hu; rcases hu with rfl | rfl <;> rfl) (by have := CLN.out; omega) SZ5.out ?_
            intro v6 w6 o6 g6
            obtain ⟨⟨r6, q1, q2⟩, f6⟩ := ND.out v6 w6 o6 g6
            obtain ⟨a6, c6, rfl, _⟩ := ownsRow_slice o6
            have RI6 := hid r6
            have SK6 := hid (SK.out _ f6)
            clear r6 f6
            clear o6 g6
            refine hK.out _ _ SK6.out (fun hS => ?_)
            clear hK K
            refine wpAnyH_ready (rs := [16]) (by kernel_rfl) (by simp) ?_
            refine AllReadyH.cons rfl (fun K hK => ?_) AllReadyH.nil
            go_simp
            refine hK.out _ _ SK6.out (fun hS => ?_)
            clear hK K
            refine wpAnyH_ready (rs := [17]) (by kernel_rfl) (by simp) ?_
            refine AllReadyH.cons rfl (fun K hK => ?_) AllReadyH.nil
            go_simp
            refine hK.out _ _ (SK.out _ RI6.out.fr) (fun hS => ?_)
            clear hK K
            refine wpAnyH_done (by kernel_rfl) ?_ _
            obtain ⟨W9, hW9⟩ : ∃ W, W = w6.setCell ⟨G, PL, none⟩ (.slice a6 (CL + 1) c6) := ⟨_, rfl⟩
            rw [← hW9] at RI6 ⊢
            clear hW9
            obtain ⟨y0, y1⟩ := SK.out _ RI6.out.fr
            have hvb := HVB.out
            have HLK := PH.out.lk
            have HLV := PH.out.lv
            dsimp only at HLK HLV
            rw [← HKL.out] at HLK
            rw [← HVL.out] at HLV
            clear q1 q2
            go_upto_region 12 with fail
            go_quiet (fail)
            go_wp2
            go_roundw
            case rel => exact ⟨i + 1, kl + vl, by omega, by go_num, by go_num, by rw [NX.out, HKL.out, HVL.out], .inr ⟨by omega, w9, vs8, _, by rw [NX.out]; have h9 := RI6.out; exact h9.quiet ((Fr.refl _ _).drewN _)⟩⟩
            case measure => simp [intOf]; omega
        · have h0' : ((i : Int) == 0) = false := beq_eq_false_iff_ne.2 (by omega)
          obtain ⟨Wk, vs, cv, ri⟩ : ∃ Wk vs cv, RcI w Wk wr u6 vs cv (cutAt sz ps i).1 (cutAt sz ps i).2.1 := by
            rcases RS.out with ⟨h, _⟩ | ⟨_, h⟩
            · exact absurd h h0
            · exact h
          have RI0 := hid ri
          clear ri
          by_cases hge : sz ≤ hv
          · have hge' : (sz : Int) ≤ (hv : Int) := by omega
            have hil1 : i - 1 < ps.length := by omega
            have him : (i : Int) - 1 = ((i - 1 : Nat) : Int) := by omega
            have hlt1 : ((i - 1 : Nat) : Int) < (n : Int) := by omega
            obtain ⟨kb, kcb, vb, vcb, P1⟩ := HM.out (i - 1) _ (ps_at hil1)
            have hki1 : isK (kA ps (i - 1)) = true := rises_isK HR.out hil1
            have hkl1 := isK_len hki1
            obtain ⟨qj, oj, cj, hp1, hc1⟩ := P1.rk.place (by dsimp only; omega)
            simp only [Value.slice.injEq] at hp1
            obtain ⟨rfl, hx1, rfl⟩ := hp1
            clear hx1
            have z1 := cell_fr FR.out PH.out.ck
            have z3 := cell_fr FR.out P1.ck
            dsimp only at z1 z3 hc0 hc1
            have RB := hid (fun m : Nat => refbytes_q (w := wr.drewN m) (((P1.rk.fr FR.out).fr ((Fr.refl [] wr).drewN m)).front (q := (kA ps (i - 1)).length - 8) (by dsimp only; omega)) (((PH.out.rk.fr FR.out).fr ((Fr.refl [] wr).drewN m)).front (q := (kA ps i).length - 8) (by dsimp only; omega)) (P1.bk.take _) (PH.out.bk.take _) (by rw [List.length_take]; have := P1.lk; dsimp only at this; omega) (by rw [List.length_take]; have := PH.out.lk; dsimp only at this; omega))
            have hus1 : Hid ((kA ps (i - 1)).take ((kA ps (i - 1)).length - 8) = userL (kA ps (i - 1))) := hid rfl
            have hus2 : Hid ((kA ps i).take ((kA ps i).length - 8) = userL (kA ps i)) := hid rfl
            rw [hus1.out, hus2.out] at RB
            have U1 := hid (fun m : Nat => ruser10_q (wr.drewN m) (q := qj) (off := oj) (n := (kA ps (i - 1)).length) (c := kcb) hkl1.1 hc1 (by omega))
            have U2 := hid (fun m : Nat => ruser10_q (wr.drewN m) (q := qk) (off := ok) (n := (kA ps i).length) (c := kc) hkl.1 hc0 (by omega))
            obtain ⟨j1, hj1⟩ : ∃ q, q = i - 1 := ⟨_, rfl⟩
            rw [← hj1] at z3 RB U1 him hlt1
            have HJ1 := hid hj1
            clear P1 hki1 hkl1 hil1 hc1 hj1 h0
            by_cases hu : userL (kA ps i) = userL (kA ps j1)
            · have NX : Hid (cutAt sz ps (i + 1) = ((cutAt sz ps i).1, (cutAt sz ps i).2.1 ++ [(kA ps i, vA ps i)], hv + ((kA ps i).length + (vA ps i).length))) := hid (by rw [CE.out, if_neg (fun h => h.2 (by rw [← HJ1.out]; exact hu))])
              rw [show cmpN (userL (kA ps j1)) (userL (kA ps i)) = 0 from (cmpN_eq _ _).2 hu.symm] at RB
              obtain ⟨kl1, hkl1⟩ : ∃ q, q = (kA ps j1).length := ⟨_, rfl⟩
              rw [← hkl1] at z3 U1 RB
              clear hu CE hkl1
              go_upto_region 8 with fail
              go_quiet ((first | (go_at_call_of 32 (Value.slice (some ⟨qj, oj, none⟩) kl1 kcb); exact Calls.quiet_of_same (U1.out _)) | (go_at_call_of 32 (Value.slice (some ⟨qk, ok, none⟩) (kA ps i).length kc); exact Calls.quiet_of_same (U2.out _)) | (go_at_call 21; exact Calls.quiet_of (RB.out _))))
              obtain ⟨W8, hW8⟩ : ∃ W, W = wr.drewN nq := ⟨_, rfl⟩
              rw [← hW8]
              have RI8 := hid (RI0.out.quiet (show Fr [] wr W8 by rw [hW8]; exact (Fr.refl _ _).drewN _))
              clear hW8 z1 z3
              go_upto_region 11 with fail
              obtain ⟨G, cp, cur, e6, hcp, hG, hcv⟩ := RI8.out.blk
              obtain ⟨ac, cc, ecv⟩ := RI8.out.co.form
              have E6 := hid e6
              have ECV := hid ecv
              subst e6
              rw [ecv] at hcv
              have PLN := hid (show (((cutAt sz ps i).1 : List Ps)).length ≤ 10001 from by have := LL0.out.1; omega)
              have CLN := hid (show (((cutAt sz ps i).2.1 : Ps)).length ≤ 10000 from by have := LL0.out.2; omega)
              obtain ⟨PL, hPL⟩ : ∃ q, q = (((cutAt sz ps i).1 : List Ps)).length := ⟨_, rfl⟩
              obtain ⟨CL, hCL⟩ : ∃ q, q = (((cutAt sz ps i).2.1 : Ps)).length := ⟨_, rfl⟩
              have HPL := hid hPL
              have HCL := hid hCL
              rw [← hPL] at hcv hcp E6 PLN ⊢
              rw [← hCL] at hcv CLN ECV
              have z1 := cell_fr RI8.out.fr PH.out.ck
              have z2 := cell_fr RI8.out.fr PH.out.cv
              dsimp only at z1 z2
              obtain ⟨kl, hkl2⟩ : ∃ q, q = (kA ps i).length := ⟨_, rfl⟩
              obtain ⟨vl, hvl2⟩ : ∃ q, q = (vA ps i).length := ⟨_, rfl⟩
              have HKL := hid hkl2
              have HVL := hid hvl2
              rw [← hkl2] at z1
              rw [← hvl2] at z2
              have Z0 := hid hcv
              have Z1 := hid z1
              have Z2 := hid z2
              have SK : Hid (∀ wx, Fr [] w wx → wx.cell? ⟨b, off + i * 2, none⟩ = some (.slice (some ⟨qk, ok, none⟩) kl kc) ∧ wx.cell? ⟨b, off + i * 2 + 1, none⟩ = some (.slice va vl vc)) := hid (fun wx f => by
                have z1 := cell_fr f PH.out.ck
                have z2 := cell_fr f PH.out.cv
                dsimp only at z1 z2
                rw [← HKL.out] at z1
                rw [← HVL.out] at z2
                exact ⟨z1, z2⟩)
              have hPI : (i : Int) < (n : Int) := hlt'
              have hP1 : (PL : Int) < (PL : Int) + 1 := by omega
              have hP2 : ¬ ((PL : Int) + 1 ≤ (PL : Int)) := by omega
              have hP3 : IntKind.i64.wrap (PL : Int) = (PL : Int) := by rw [IntKind.wrap_i64]; have := PLN.out; omega
              clear hcv hPL hCL hkl2 hvl2 z1 z2
              obtain ⟨X, hX⟩ : ∃ X, X = W8.alloc (.cells #[.slice (some ⟨qk, ok, none⟩) kl kc, .slice va vl vc] 50) := ⟨_, rfl⟩
              have FXD : Hid (Fr [] W8 X.drew) := hid (by rw [hX]; exact ((Fr.refl _ _).alloc _).drew)
              have HX : Hid (X.drew.heap[W8.heap.size]? = some (.cells #[.slice (some ⟨qk, ok, none⟩) kl kc, .slice va vl vc] 50 (0, 0))) := hid (by rw [hX]; exact blk_new _ _)
              have rx := RI8.out
              rw [ecv] at rx
              clear ecv
              have RX := hid (rx.quiet FXD.out)
              have SZ5 : Hid (Wk.heap.size ≤ X.drew.heap.size) := hid (by
                have h1 := RX.out.fk.size
                exact h1)
              obtain ⟨cs5, o5, h5⟩ := RX.out.co
              have ND : Hid (∀ v6 w6, w6.ownsRow Wk.heap.size 50 2 v6 (CL + 1) (cs5 ++ [.slice (some ⟨qk, ok, none⟩) kl kc, .slice va vl vc]) → X.drew.grownBy w6 (Value.slice ac CL cc).ownBlock → (RcI w Wk (w6.setCell ⟨G, PL, none⟩ v6) (.slice (some ⟨G, 0, none⟩) (PL + 1) cp) vs v6 (((cutAt sz ps i).1 : List Ps)) (((cutAt sz ps i).2.1 : Ps) ++ [(kA ps i, vA ps i)]) ∧ w6.cell? ⟨G, PL, none⟩ = some (.slice ac CL cc) ∧ w6.frozen? ⟨G, PL, none⟩ = false) ∧ Fr [] w w6) := hid (fun v6 w6 o6 g6 => by
                rw [HCL.out] at o6 g6
                rw [HKL.out, HVL.out] at o6
                have h1 := RcI.add (x := (kA ps i, vA ps i)) RX.out rfl (by have := o5.1; omega) h5 PH.out.rk PH.out.rv PH.out.bk PH.out.bv' PH.out.lk PH.out.lv o6 g6
                rw [← HPL.out, ← HCL.out] at h1
                exact ⟨h1, RX.out.fr.grown g6 (fun k hk => .inr (Nat.le_trans RX.out.sz (o5.lt k hk).1))⟩)
              rw [← HCL.out] at o5
              have O5 := hid o5
              clear o5 h5 rx
              refine wp_region_held_drew (S := fun wx => wx.cell? ⟨b, off + i * 2, none⟩ = some (.slice (some ⟨qk, ok, none⟩) kl kc) ∧ wx.cell? ⟨b, off + i * 2 + 1, none⟩ = some (.slice va vl vc)) (by kernel_rfl) (SK.out _ (RI8.out.fr.drew)) (fun hS => ?_)
              refine wpAnyH_take (i := 0) (v := (.slice (some ⟨G, 0, none⟩) (PL + 1) cp)) rfl (by kernel_rfl) (by kernel_rfl) (by kernel_rfl) (fun _ _ _ h => h) (.inl ⟨by rfl, fun wx hX => by go_simp⟩) hS ?_
              simp only [Act.put]
              refine wpAnyH_take (i := 1) (v := (.slice (some ⟨G, 0, none⟩) (PL + 1) cp)) rfl (by kernel_rfl) (by kernel_rfl) (by kernel_rfl) (fun _ _ _ h => h) (.inl ⟨by rfl, fun wx hX => by go_simp⟩) hS ?_
              simp only [Act.put]
              refine wpAnyH_take (i := 2) (v := (.int .i64 ((PL + 1 : Nat) : Int))) rfl (by kernel_rfl) (by kernel_rfl) (by kernel_rfl) (fun _ _ _ h => h) (.inl ⟨by rfl, fun wx hX => by go_simp⟩) hS ?_
              simp only [Act.put]
              refine wpAnyH_take (i := 3) (v := (.int .i64 (PL : Int))) rfl (by kernel_rfl) (by kernel_rfl) (by kernel_rfl) (fun _ _ _ h => h) (.inl ⟨by rfl, fun wx hX => by go_simp⟩) hS ?_
              simp only [Act.put]
              refine wpAnyH_take (i := 4) (v := (.slice (some ⟨G, 0, none⟩) (PL + 1) cp)) rfl (by kernel_rfl) (by kernel_rfl) (by kernel_rfl) (fun _ _ _ h => h) (.inl ⟨by rfl, fun wx hX => by go_simp⟩) hS ?_
              simp only [Act.put]
              refine wpAnyH_take (i := 5) (v := (.slice (some ⟨G, 0, none⟩) (PL + 1) cp)) rfl (by kernel_rfl) (by kernel_rfl) (by kernel_rfl) (fun _ _ _ h => h) (.inl ⟨by rfl, fun wx hX => by go_simp⟩) hS ?_
              simp only [Act.put]
              refine wpAnyH_take (i := 6) (v := (.int .i64 ((PL + 1 : Nat) : Int))) rfl (by kernel_rfl) (by kernel_rfl) (by kernel_rfl) (fun _ _ _ h => h) (.inl ⟨by rfl, fun wx hX => by go_simp⟩) hS ?_
              simp only [Act.put]
              refine wpAnyH_take (i := 7) (v := (.int .i64 (PL : Int))) rfl (by kernel_rfl) (by kernel_rfl) (by kernel_rfl) (fun _ _ _ h => h) (.inl ⟨by rfl, fun wx hX => by go_simp⟩) hS ?_
              simp only [Act.put]
              refine wpAnyH_take (i := 8) (v := (.pointer (some ⟨G, PL, none⟩))) rfl (by kernel_rfl) (by kernel_rfl) (by kernel_rfl) (fun _ _ _ h => h) (.inl ⟨by rfl, fun wx hX => by go_simp⟩) hS ?_
              simp only [Act.put]
              refine wpAnyH_take (i := 10) (v := (.slice (some ⟨b, off, none⟩) n c)) rfl (by kernel_rfl) (by kernel_rfl) (by kernel_rfl) (fun _ _ _ h => h) (.inl ⟨by rfl, fun wx hX => by go_simp⟩) hS ?_
              simp only [Act.put]
              refine wpAnyH_take (i := 11) (v := (.int .i64 (i : Int))) rfl (by kernel_rfl) (by kernel_rfl) (by kernel_rfl) (fun _ _ _ h => h) (.inl ⟨by rfl, fun wx hX => by go_simp⟩) hS ?_
              simp only [Act.put]
              refine wpAnyH_take (i := 12) (v := (.pointer (some ⟨b, off + i * 2, none⟩))) rfl (by kernel_rfl) (by kernel_rfl) (by kernel_rfl) (fun _ _ _ h => h) (.inl ⟨by rfl, fun wx hX => by go_simp⟩) hS ?_
              simp only [Act.put]
              refine wpAnyH_take (i := 13) (v := (.agg #[.slice (some ⟨qk, ok, none⟩) kl kc, .slice va vl vc])) rfl (by kernel_rfl) (by kernel_rfl) (by kernel_rfl) (fun _ _ _ h => h) (.inl ⟨by rfl, fun wx hX => by obtain ⟨x0, x1⟩ := hX; go_simp⟩) hS ?_
              simp only [Act.put]
              clear hS
              refine wpAnyH_ready (rs := [9, 14]) (by kernel_rfl) (by simp) ?_
              refine AllReadyH.cons rfl (fun K hK => ?_) (AllReadyH.cons rfl (fun K hK => ?_) AllReadyH.nil)
              · have q1 := Z0.out
                go_simp
                refine hK.out _ _ (SK.out _ RI8.out.fr.drew) (fun hS => ?_)
                clear hK K q1
                refine wpAnyH_ready (rs := [14]) (by kernel_rfl) (by simp) ?_
                refine AllReadyH.cons rfl (fun K hK => ?_) AllReadyH.nil
                go_simp
                rw [← hX]
                clear hX
                refine hK.out _ _ (SK.out _ (RI8.out.fr.trans FXD.out)) (fun hS => ?_)
                clear hK K
                refine wpAnyH_ready (rs := [15]) (by kernel_rfl) (by simp) ?_
                refine AllReadyH.cons rfl (fun K hK => ?_) AllReadyH.nil
                refine step_append_kv rfl (.tmp 55) (.tmp 60) rfl Wk.heap.size (v := .slice ac CL cc) (by first | (simp [Act.eval]; done) | simp [Act.eval, Act.put]) O5.out (G := W8.heap.size) (by first | (simp [Act.eval]; done) | simp [Act.eval, Act.put]) HX.out (by intro u hu; simp at hu; rcases hu with rfl | rfl <;> rfl) (by have := CLN.out; omega) SZ5.out ?_
                intro v6 w6 o6 g6
                obtain ⟨⟨r6, q1, q2⟩, f6⟩ := ND.out v6 w6 o6 g6
                obtain ⟨a6, c6, rfl, _⟩ := ownsRow_slice o6
                have RI6 := hid r6
                have SK6 := hid (SK.out _ f6)
                clear r6 f6
                clear o6 g6
                refine hK.out _ _ SK6.out (fun hS => ?_)
                clear hK K
                refine wpAnyH_ready (rs := [16]) (by kernel_rfl) (by simp) ?_
                refine AllReadyH.cons rfl (fun K hK => ?_) AllReadyH.nil
                go_simp
                refine hK.out _ _ SK6.out (fun hS => ?_)
                clear hK K
                refine wpAnyH_ready (rs := [17]) (by kernel_rfl) (by simp) ?_
                refine AllReadyH.cons rfl (fun K hK => ?_) AllReadyH.nil
                go_simp
                refine hK.out _ _ (SK.out _ RI6.out.fr) (fun hS => ?_)
                clear hK K
                refine wpAnyH_done (by kernel_rfl) ?_ _
                obtain ⟨W9, hW9⟩ : ∃ W, W = w6.setCell ⟨G, PL, none⟩ (.slice a6 (CL + 1) c6) := ⟨_, rfl⟩
                rw [← hW9] at RI6 ⊢
                clear hW9
                obtain ⟨y0, y1⟩ := SK.out _ RI6.out.fr
                have hvb := HVB.out
                have HLK := PH.out.lk
                have HLV := PH.out.lv
                dsimp only at HLK HLV
                rw [← HKL.out] at HLK
                rw [← HVL.out] at HLV
                clear q1 q2
                go_upto_region 12 with fail
                go_quiet (fail)
                go_wp2
                go_roundw
                case rel => exact ⟨i + 1, hv + (kl + vl), by omega, by go_num, by go_num, by rw [NX.out, HKL.out, HVL.out], .inr ⟨by omega, Wk, vs, _, by rw [NX.out]; have h9 := RI6.out; exact h9.quiet ((Fr.refl _ _).drewN _)⟩⟩
                case measure => simp [intOf]; omega
              · go_simp
                rw [← hX]
                clear hX
                refine hK.out _ _ (SK.out _ (RI8.out.fr.trans FXD.out)) (fun hS => ?_)
                clear hK K
                have q1 := cell_fr FXD.out Z0.out
                refine wpAnyH_ready (rs := [9]) (by kernel_rfl) (by simp) ?_
                refine AllReadyH.cons rfl (fun K hK => ?_) AllReadyH.nil
                go_simp
                refine hK.out _ _ (SK.out _ (RI8.out.fr.trans FXD.out)) (fun hS => ?_)
                clear hK K q1
                refine wpAnyH_ready (rs := [15]) (by kernel_rfl) (by simp) ?_
                refine AllReadyH.cons rfl (fun K hK => ?_) AllReadyH.nil
                refine step_append_kv rfl (.tmp 55) (.tmp 60) rfl Wk.heap.size (v := .slice ac CL cc) (by first | (simp [Act.eval]; done) | simp [Act.eval, Act.put]) O5.out (G := W8.heap.size) (by first | (simp [Act.eval]; done) | simp [Act.eval, Act.put]) HX.out (by intro u hu; simp at hu; rcases hu with rfl | rfl <;> rfl) (by have := CLN.out; omega) SZ5.out ?_
                intro v6 w6 o6 g6
                obtain ⟨⟨r6, q1, q2⟩, f6⟩ := ND.out v6 w6 o6 g6
                obtain ⟨a6, c6, rfl, _⟩ := ownsRow_slice o6
                have RI6 := hid r6
                have SK6 := hid (SK.out _ f6)
                clear r6 f6
                clear o6 g6
                refine hK.out _ _ SK6.out (fun hS => ?_)
                clear hK K
                refine wpAnyH_ready (rs := [16]) (by kernel_rfl) (by simp) ?_
                refine AllReadyH.cons rfl (fun K hK => ?_) AllReadyH.nil
                go_simp
                refine hK.out _ _ SK6.out (fun hS => ?_)
                clear hK K
                refine wpAnyH_ready (rs := [17]) (by kernel_rfl) (by simp) ?_
                refine AllReadyH.cons rfl (fun K hK => ?_) AllReadyH.nil
                go_simp
                refine hK.out _ _ (SK.out _ RI6.out.fr) (fun hS => ?_)
                clear hK K
                refine wpAnyH_done (by kernel_rfl) ?_ _
                obtain ⟨W9, hW9⟩ : ∃ W, W = w6.setCell ⟨G, PL, none⟩ (.slice a6 (CL + 1) c6) := ⟨_, rfl⟩
                rw [← hW9] at RI6 ⊢
                clear hW9
                obtain ⟨y0, y1⟩ := SK.out _ RI6.out.fr
                have hvb := HVB.out
                have HLK := PH.out.lk
                have HLV := PH.out.lv
                dsimp only at HLK HLV
                rw [← HKL.out] at HLK
                rw [← HVL.out] at HLV
                clear q1 q2
                go_upto_region 12 with fail
                go_quiet (fail)
                go_wp2
                go_roundw
                case rel => exact ⟨i + 1, hv + (kl + vl), by omega, by go_num, by go_num, by rw [NX.out, HKL.out, HVL.out], .inr ⟨by omega, Wk, vs, _, by rw [NX.out]; have h9 := RI6.out; exact h9.quiet ((Fr.refl _ _).drewN _)⟩⟩
                case measure => simp [intOf]; omega
            · have NX : Hid (cutAt sz ps (i + 1) = ((cutAt sz ps i).1 ++ [(cutAt sz ps i).2.1], [] ++ [(kA ps i, vA ps i)], (kA ps i).length + (vA ps i).length)) := hid (by rw [CE.out, if_pos ⟨hge, fun h => hu (by rw [HJ1.out]; exact h)⟩]; rfl)
              obtain ⟨cm, hcm⟩ : ∃ q, q = cmpN (userL (kA ps j1)) (userL (kA ps i)) := ⟨_, rfl⟩
              have hcm0 : ¬ cm = 0 := fun h => hu ((cmpN_eq _ _).1 (by rw [← hcm]; exact h)).symm
              have hcm1 : (cm == 0) = false := beq_eq_false_iff_ne.2 hcm0
              rw [← hcm] at RB
              obtain ⟨kl1, hkl1⟩ : ∃ q, q = (kA ps j1).length := ⟨_, rfl⟩
              rw [← hkl1] at z3 U1 RB
              clear hu CE hkl1 hcm
              go_upto_region 8 with fail
              go_quiet ((first | (go_at_call_of 32 (Value.slice (some ⟨qj, oj, none⟩) kl1 kcb); exact Calls.quiet_of_same (U1.out _)) | (go_at_call_of 32 (Value.slice (some ⟨qk, ok, none⟩) (kA ps i).length kc); exact Calls.quiet_of_same (U2.out _)) | (go_at_call 21; exact Calls.quiet_of (RB.out _))))
              clear z1 z3
              obtain ⟨W8, hW8⟩ : ∃ W, W = wr.drewN nq := ⟨_, rfl⟩
              rw [← hW8]
              have F8 : Hid (Fr [] wr W8) := hid (by rw [hW8]; exact (Fr.refl _ _).drewN _)
              clear hW8
              obtain ⟨vs8, o8, h8⟩ := (RI0.out.rows : PcR w wr w.heap.size (u6) (((cutAt sz ps i).1 ++ [(cutAt sz ps i).2.1] : List Ps)))
              have O8 := hid (ownsRow_fr o8 (F8.out.alloc (.cells #[.slice none 0 0] 27)))
              have H8 : Hid (∀ (j : Nat) (p : Ps), (((cutAt sz ps i).1 ++ [(cutAt sz ps i).2.1] : List Ps))[j]? = some p → ∃ u, vs8[j]? = some u ∧ ColR w (W8.alloc (.cells #[.slice none 0 0] 27)) w.heap.size u p) := hid (fun j p hj => by
                obtain ⟨u, e, k⟩ := h8 j p hj
                exact ⟨u, e, k.keep (F8.out.alloc _) (fun _ _ h => by cases h)⟩)
              have FR8 := hid (FR.out.trans (F8.out.alloc (.cells #[.slice none 0 0] 27)))
              have QL : Hid ((((cutAt sz ps i).1 ++ [(cutAt sz ps i).2.1] : List Ps)).length ≤ 10001) := hid (by rw [List.length_append]; have := LL0.out.1; simp; omega)
              clear o8 h8
              go_upto_region 11 with (at_builtin; refine wpList_appLL rfl _ _ rfl w.heap.size FR8.out.size (u6) _ vs8 rfl O8.out W8.heap.size rfl (blk_new _ _) rfl (by have := QL.out; omega) ?_; intro v9 w9 o9 g9; have O9 := hid o9; have G9 := hid g9; clear o9 g9)
              have RI9 := hid (PcR.begin FR8.out O8.out H8.out O9.out G9.out)
              obtain ⟨G, cp, cur, e6, hcp, hG, hcv⟩ := RI9.out.blk
              obtain ⟨ac, cc, ecv⟩ := RI9.out.co.form
              have E6 := hid e6
              have ECV := hid ecv
              subst e6
              rw [ecv] at hcv
              have PLN := hid (show (((cutAt sz ps i).1 ++ [(cutAt sz ps i).2.1] : List Ps)).length ≤ 10001 from by rw [List.length_append]; have := LL0.out.1; simp; omega)
              have CLN := hid (show (([] : Ps)).length ≤ 10000 from by simp)
              obtain ⟨PL, hPL⟩ : ∃ q, q = (((cutAt sz ps i).1 ++ [(cutAt sz ps i).2.1] : List Ps)).length := ⟨_, rfl⟩
              obtain ⟨CL, hCL⟩ : ∃ q, q = (([] : Ps)).length := ⟨_, rfl⟩
              have HPL := hid hPL
              have HCL := hid hCL
              rw [← hPL] at hcv hcp E6 PLN ⊢
              rw [← hCL] at hcv CLN ECV
              have z1 := cell_fr RI9.out.fr PH.out.ck
              have z2 := cell_fr RI9.out.fr PH.out.cv
              dsimp only at z1 z2
              obtain ⟨kl, hkl2⟩ : ∃ q, q = (kA ps i).length := ⟨_, rfl⟩
              obtain ⟨vl, hvl2⟩ : ∃ q, q = (vA ps i).length := ⟨_, rfl⟩
              have HKL := hid hkl2
              have HVL := hid hvl2
              rw [← hkl2] at z1
              rw [← hvl2] at z2
              have Z0 := hid hcv
              have Z1 := hid z1
              have Z2 := hid z2
              have SK : Hid (∀ wx, Fr [] w wx → wx.cell? ⟨b, off + i * 2, none⟩ = some (.slice (some ⟨qk, ok, none⟩) kl kc) ∧ wx.cell? ⟨b, off + i * 2 + 1, none⟩ = some (.slice va vl vc)) := hid (fun wx f => by
                have z1 := cell_fr f PH.out.ck
                have z2 := cell_fr f PH.out.cv
                dsimp only at z1 z2
                rw [← HKL.out] at z1
                rw [← HVL.out] at z2
                exact ⟨z1, z2⟩)
              have hPI : (i : Int) < (n : Int) := hlt'
              have hP1 : (PL : Int) < (PL : Int) + 1 := by omega
              have hP2 : ¬ ((PL : Int) + 1 ≤ (PL : Int)) := by omega
              have hP3 : IntKind.i64.wrap (PL : Int) = (PL : Int) := by rw [IntKind.wrap_i64]; have := PLN.out; omega
              clear hcv hPL hCL hkl2 hvl2 z1 z2
              obtain ⟨X, hX⟩ : ∃ X, X = w9.alloc (.cells #[.slice (some ⟨qk, ok, none⟩) kl kc, .slice va vl vc] 50) := ⟨_, rfl⟩
              have FXD : Hid (Fr [] w9 X.drew) := hid (by rw [hX]; exact ((Fr.refl _ _).alloc _).drew)
              have HX : Hid (X.drew.heap[w9.heap.size]? = some (.cells #[.slice (some ⟨qk, ok, none⟩) kl kc, .slice va vl vc] 50 (0, 0))) := hid (by rw [hX]; exact blk_new _ _)
              have rx := RI9.out
              rw [ecv] at rx
              clear ecv
              have RX := hid (rx.quiet FXD.out)
              have SZ5 : Hid (w9.heap.size ≤ X.drew.heap.size) := hid (by
                have h1 := RX.out.fk.size
                exact h1)
              obtain ⟨cs5, o5, h5⟩ := RX.out.co
              have ND : Hid (∀ v6 w6, w6.ownsRow w9.heap.size 50 2 v6 (CL + 1) (cs5 ++ [.slice (some ⟨qk, ok, none⟩) kl kc, .slice va vl vc]) → X.drew.grownBy w6 (Value.slice ac CL cc).ownBlock → (RcI w w9 (w6.setCell ⟨G, PL, none⟩ v6) (.slice (some ⟨G, 0, none⟩) (PL + 1) cp) vs8 v6 (((cutAt sz ps i).1 ++ [(cutAt sz ps i).2.1] : List Ps)) (([] : Ps) ++ [(kA ps i, vA ps i)]) ∧ w6.cell? ⟨G, PL, none⟩ = some (.slice ac CL cc) ∧ w6.frozen? ⟨G, PL, none⟩ = false) ∧ Fr [] w w6) := hid (fun v6 w6 o6 g6 => by
                rw [HCL.out] at o6 g6
                rw [HKL.out, HVL.out] at o6
                have h1 := RcI.add (x := (kA ps i, vA ps i)) RX.out rfl (by have := o5.1; omega) h5 PH.out.rk PH.out.rv PH.out.bk PH.out.bv' PH.out.lk PH.out.lv o6 g6
                rw [← HPL.out, ← HCL.out] at h1
                exact ⟨h1, RX.out.fr.grown g6 (fun k hk => .inr (Nat.le_trans RX.out.sz (o5.lt k hk).1))⟩)
              rw [← HCL.out] at o5
              have O5 := hid o5
              clear o5 h5 rx
              refine wp_region_held_drew (S := fun wx => wx.cell? ⟨b, off + i * 2, none⟩ = some (.slice (some ⟨qk, ok, none⟩) kl kc) ∧ wx.cell? ⟨b, off + i * 2 + 1, none⟩ = some (.slice va vl vc)) (by kernel_rfl) (SK.out _ (RI9.out.fr.drew)) (fun hS => ?_)
              refine wpAnyH_take (i := 0) (v := (.slice (some ⟨G, 0, none⟩) (PL + 1) cp)) rfl (by kernel_rfl) (by kernel_rfl) (by kernel_rfl) (fun _ _ _ h => h) (.inl ⟨by rfl, fun wx hX => by go_simp⟩) hS ?_
              simp only [Act.put]
              refine wpAnyH_take (i := 1) (v := (.slice (some ⟨G, 0, none⟩) (PL + 1) cp)) rfl (by kernel_rfl) (by kernel_rfl) (by kernel_rfl) (fun _ _ _ h => h) (.inl ⟨by rfl, fun wx hX => by go_simp⟩) hS ?_
              simp only [Act.put]
              refine wpAnyH_take (i := 2) (v := (.int .i64 ((PL + 1 : Nat) : Int))) rfl (by kernel_rfl) (by kernel_rfl) (by kernel_rfl) (fun _ _ _ h => h) (.inl ⟨by rfl, fun wx hX => by go_simp⟩) hS ?_
              simp only [Act.put]
              refine wpAnyH_take (i := 3) (v := (.int .i64 (PL : Int))) rfl (by kernel_rfl) (by kernel_rfl) (by kernel_rfl) (fun _ _ _ h => h) (.inl ⟨by rfl, fun wx hX => by go_simp⟩) hS ?_
              simp only [Act.put]
              refine wpAnyH_take (i := 4) (v := (.slice (some ⟨G, 0, none⟩) (PL + 1) cp)) rfl (by kernel_rfl) (by kernel_rfl) (by kernel_rfl) (fun _ _ _ h => h) (.inl ⟨by rfl, fun wx hX => by go_simp⟩) hS ?_
              simp only [Act.put]
              refine wpAnyH_take (i := 5) (v := (.slice (some ⟨G, 0, none⟩) (PL + 1) cp)) rfl (by kernel_rfl) (by kernel_rfl) (by kernel_rfl) (fun _ _ _ h => h) (.inl ⟨by rfl, fun wx hX => by go_simp⟩) hS ?_
              simp only [Act.put]
              refine wpAnyH_take (i := 6) (v := (.int .i64 ((PL + 1 : Nat) : Int))) rfl (by kernel_rfl) (by kernel_rfl) (by kernel_rfl) (fun _ _ _ h => h) (.inl ⟨by rfl, fun wx hX => by go_simp⟩) hS ?_
              simp only [Act.put]
              refine wpAnyH_take (i := 7) (v := (.int .i64 (PL : Int))) rfl (by kernel_rfl) (by kernel_rfl) (by kernel_rfl) (fun _ _ _ h => h) (.inl ⟨by rfl, fun wx hX => by go_simp⟩) hS ?_
              simp only [Act.put]
              refine wpAnyH_take (i := 8) (v := (.pointer (some ⟨G, PL, none⟩))) rfl (by kernel_rfl) (by kernel_rfl) (by kernel_rfl) (fun _ _ _ h => h) (.inl ⟨by rfl, fun wx hX => by go_simp⟩) hS ?_
              simp only [Act.put]
              refine wpAnyH_take (i := 10) (v := (.slice (some ⟨b, off, none⟩) n c)) rfl (by kernel_rfl) (by kernel_rfl) (by kernel_rfl) (fun _ _ _ h => h) (.inl ⟨by rfl, fun wx hX => by go_simp⟩) hS ?_
              simp only [Act.put]
              refine wpAnyH_take (i := 11) (v := (.int .i64 (i : Int))) rfl (by kernel_rfl) (by kernel_rfl) (by kernel_rfl) (fun _ _ _ h => h) (.inl ⟨by rfl, fun wx hX => by go_simp⟩) hS ?_
              simp only [Act.put]
              refine wpAnyH_take (i := 12) (v := (.pointer (some ⟨b, off + i * 2, none⟩))) rfl (by kernel_rfl) (by kernel_rfl) (by kernel_rfl) (fun _ _ _ h => h) (.inl ⟨by rfl, fun wx hX => by go_simp⟩) hS ?_
              simp only [Act.put]
              refine wpAnyH_take (i := 13) (v := (.agg #[.slice (some ⟨qk, ok, none⟩) kl kc, .slice va vl vc])) rfl (by kernel_rfl) (by kernel_rfl) (by kernel_rfl) (fun _ _ _ h => h) (.inl ⟨by rfl, fun wx hX => by obtain ⟨x0, x1⟩ := hX; go_simp⟩) hS ?_
              simp only [Act.put]
              clear hS
              refine wpAnyH_ready (rs := [9, 14]) (by kernel_rfl) (by simp) ?_
              refine AllReadyH.cons rfl (fun K hK => ?_) (AllReadyH.cons rfl (fun K hK => ?_) AllReadyH.nil)
              · have q1 := Z0.out
                go_simp
                refine hK.out _ _ (SK.out _ RI9.out.fr.drew) (fun hS => ?_)
                clear hK K q1
                refine wpAnyH_ready (rs := [14]) (by kernel_rfl) (by simp) ?_
                refine AllReadyH.cons rfl (fun K hK => ?_) AllReadyH.nil
                go_simp
                rw [← hX]
                clear hX
                refine hK.out _ _ (SK.out _ (RI9.out.fr.trans FXD.out)) (fun hS => ?_)
                clear hK K
                refine wpAnyH_ready (rs := [15]) (by kernel_rfl) (by simp) ?_
                refine AllReadyH.cons rfl (fun K hK => ?_) AllReadyH.nil
                refine step_append_kv rfl (.tmp 55) (.tmp 60) rfl w9.heap.size (v := .slice ac CL cc) (by first | (simp [Act.eval]; done) | simp [Act.eval, Act.put]) O5.out (G := w9.heap.size) (by first | (simp [Act.eval]; done) | simp [Act.eval, Act.put]) HX.out (by intro u hu; simp at hu; rcases hu with rfl | rfl <;> rfl) (by have := CLN.out; omega) SZ5.out ?_
                intro v6 w6 o6 g6
                obtain ⟨⟨r6, q1, q2⟩, f6⟩ := ND.out v6 w6 o6 g6
                obtain ⟨a6, c6, rfl, _⟩ := ownsRow_slice o6
                have RI6 := hid r6
                have SK6 := hid (SK.out _ f6)
                clear r6 f6
                clear o6 g6
                refine hK.out _ _ SK6.out (fun hS => ?_)
                clear hK K
                refine wpAnyH_ready (rs := [16]) (by kernel_rfl) (by simp) ?_
                refine AllReadyH.cons rfl (fun K hK => ?_) AllReadyH.nil
                go_simp
                refine hK.out _ _ SK6.out (fun hS => ?_)
                clear hK K
                refine wpAnyH_ready (rs := [17]) (by kernel_rfl) (by simp) ?_
                refine AllReadyH.cons rfl (fun K hK => ?_) AllReadyH.nil
                go_simp
                refine hK.out _ _ (SK.out _ RI6.out.fr) (fun hS => ?_)
                clear hK K
                refine wpAnyH_done (by kernel_rfl) ?_ _
                obtain ⟨W9, hW9⟩ : ∃ W, W = w6.setCell ⟨G, PL, none⟩ (.slice a6 (CL + 1) c6) := ⟨_, rfl⟩
                rw [← hW9] at RI6 ⊢
                clear hW9
                obtain ⟨y0, y1⟩ := SK.out _ RI6.out.fr
                have hvb := HVB.out
                have HLK := PH.out.lk
                have HLV := PH.out.lv
                dsimp only at HLK HLV
                rw [← HKL.out] at HLK
                rw [← HVL.out] at HLV
                clear q1 q2
                go_upto_region 12 with fail
                go_quiet (fail)
                go_wp2
                go_roundw
                case rel => exact ⟨i + 1, kl + vl, by omega, by go_num, by go_num, by rw [NX.out, HKL.out, HVL.out], .inr ⟨by omega, w9, vs8, _, by rw [NX.out]; have h9 := RI6.out; exact h9.quiet ((Fr.refl _ _).drewN _)⟩⟩
                case measure => simp [intOf]; omega
              · go_simp
                rw [← hX]
                clear hX
                refine hK.out _ _ (SK.out _ (RI9.out.fr.trans FXD.out)) (fun hS => ?_)
                clear hK K
                have q1 := cell_fr FXD.out Z0.out
                refine wpAnyH_ready (rs := [9]) (by kernel_rfl) (by simp) ?_
                refine AllReadyH.cons rfl (fun K hK => ?_) AllReadyH.nil
                go_simp
                refine hK.out _ _ (SK.out _ (RI9.out.fr.trans FXD.out)) (fun hS => ?_)
                clear hK K q1
                refine wpAnyH_ready (rs := [15]) (by kernel_rfl) (by simp) ?_
                refine AllReadyH.cons rfl (fun K hK => ?_) AllReadyH.nil
                refine step_append_kv rfl (.tmp 55) (.tmp 60) rfl w9.heap.size (v := .slice ac CL cc) (by first | (simp [Act.eval]; done) | simp [Act.eval, Act.put]) O5.out (G := w9.heap.size) (by first | (simp [Act.eval]; done) | simp [Act.eval, Act.put]) HX.out (by intro u hu; simp at hu; rcases hu with rfl | rfl <;> rfl) (by have := CLN.out; omega) SZ5.out ?_
                intro v6 w6 o6 g6
                obtain ⟨⟨r6, q1, q2⟩, f6⟩ := ND.out v6 w6 o6 g6
                obtain ⟨a6, c6, rfl, _⟩ := ownsRow_slice o6
                have RI6 := hid r6
                have SK6 := hid (SK.out _ f6)
                clear r6 f6
                clear o6 g6
                refine hK.out _ _ SK6.out (fun hS => ?_)
                clear hK K
                refine wpAnyH_ready (rs := [16]) (by kernel_rfl) (by simp) ?_
                refine AllReadyH.cons rfl (fun K hK => ?_) AllReadyH.nil
                go_simp
                refine hK.out _ _ SK6.out (fun hS => ?_)
                clear hK K
                refine wpAnyH_ready (rs := [17]) (by kernel_rfl) (by simp) ?_
                refine AllReadyH.cons rfl (fun K hK => ?_) AllReadyH.nil
                go_simp
                refine hK.out _ _ (SK.out _ RI6.out.fr) (fun hS => ?_)
                clear hK K
                refine wpAnyH_done (by kernel_rfl) ?_ _
                obtain ⟨W9, hW9⟩ : ∃ W, W = w6.setCell ⟨G, PL, none⟩ (.slice a6 (CL + 1) c6) := ⟨_, rfl⟩
                rw [← hW9] at RI6 ⊢
                clear hW9
                obtain ⟨y0, y1⟩ := SK.out _ RI6.out.fr
                have hvb := HVB.out
                have HLK := PH.out.lk
                have HLV := PH.out.lv
                dsimp only at HLK HLV
                rw [← HKL.out] at HLK
                rw [← HVL.out] at HLV
                clear q1 q2
                go_upto_region 12 with fail
                go_quiet (fail)
                go_wp2
                go_roundw
                case rel => exact ⟨i + 1, kl + vl, by omega, by go_num, by go_num, by rw [NX.out, HKL.out, HVL.out], .inr ⟨by omega, w9, vs8, _, by rw [NX.out]; have h9 := RI6.out; exact h9.quiet ((Fr.refl _ _).drewN _)⟩⟩
                case measure => simp [intOf]; omega
          · have hge' : ¬ (sz : Int) ≤ (hv : Int) := by omega
            have NX : Hid (cutAt sz ps (i + 1) = ((cutAt sz ps i).1, (cutAt sz ps i).2.1 ++ [(kA ps i, vA ps i)], hv + ((kA ps i).length + (vA ps i).length))) := hid (by rw [CE.out, if_neg (fun h => hge h.1)])
            clear CE h0
            go_upto_region 8 with fail
            go_quiet (fail)
            obtain ⟨W8, hW8⟩ : ∃ W, W = wr.drewN nq := ⟨_, rfl⟩
            rw [← hW8]
            have RI8 := hid (RI0.out.quiet (show Fr [] wr W8 by rw [hW8]; exact (Fr.refl _ _).drewN _))
            clear hW8
            go_upto_region 11 with fail
            obtain ⟨G, cp, cur, e6, hcp, hG, hcv⟩ := RI8.out.blk
            obtain ⟨ac, cc, ecv⟩ := RI8.out.co.form
            have E6 := hid e6
            have ECV := hid ecv
            subst e6
            rw [ecv] at hcv
            have PLN := hid (show (((cutAt sz ps i).1 : List Ps)).length ≤ 10001 from by have := LL0.out.1; omega)
            have CLN := hid (show (((cutAt sz ps i).2.1 : Ps)).length ≤ 10000 from by have := LL0.out.2; omega)
            obtain ⟨PL, hPL⟩ : ∃ q, q = (((cutAt sz ps i).1 : List Ps)).length := ⟨_, rfl⟩
            obtain ⟨CL, hCL⟩ : ∃ q, q = (((cutAt sz ps i).2.1 : Ps)).length := ⟨_, rfl⟩
            have HPL := hid hPL
            have HCL := hid hCL
            rw [← hPL] at hcv hcp E6 PLN ⊢
            rw [← hCL] at hcv CLN ECV
            have z1 := cell_fr RI8.out.fr PH.out.ck
            have z2 := cell_fr RI8.out.fr PH.out.cv
            dsimp only at z1 z2
            obtain ⟨kl, hkl2⟩ : ∃ q, q = (kA ps i).length := ⟨_, rfl⟩
            obtain ⟨vl, hvl2⟩ : ∃ q, q = (vA ps i).length := ⟨_, rfl⟩
            have HKL := hid hkl2
            have HVL := hid hvl2
            rw [← hkl2] at z1
            rw [← hvl2] at z2
            have Z0 := hid hcv
            have Z1 := hid z1
            have Z2 := hid z2
            have SK : Hid (∀ wx, Fr [] w wx → wx.cell? ⟨b, off + i * 2, none⟩ = some (.slice (some ⟨qk, ok, none⟩) kl kc) ∧ wx.cell? ⟨b, off + i * 2 + 1, none⟩ = some (.slice va vl vc)) := hid (fun wx f => by
              have z1 := cell_fr f PH.out.ck
              have z2 := cell_fr f PH.out.cv
              dsimp only at z1 z2
              rw [← HKL.out] at z1
              rw [← HVL.out] at z2
              exact ⟨z1, z2⟩)
            have hPI : (i : Int) < (n : Int) := hlt'
            have hP1 : (PL : Int) < (PL : Int) + 1 := by omega
            have hP2 : ¬ ((PL : Int) + 1 ≤ (PL : Int)) := by omega
            have hP3 : IntKind.i64.wrap (PL : Int) = (PL : Int) := by rw [IntKind.wrap_i64]; have := PLN.out; omega
            clear hcv hPL hCL hkl2 hvl2 z1 z2
            obtain ⟨X, hX⟩ : ∃ X, X = W8.alloc (.cells #[.slice (some ⟨qk, ok, none⟩) kl kc, .slice va vl vc] 50) := ⟨_, rfl⟩
            have FXD : Hid (Fr [] W8 X.drew) := hid (by rw [hX]; exact ((Fr.refl _ _).alloc _).drew)
            have HX : Hid (X.drew.heap[W8.heap.size]? = some (.cells #[.slice (some ⟨qk, ok, none⟩) kl kc, .slice va vl vc] 50 (0, 0))) := hid (by rw [hX]; exact blk_new _ _)
            have rx := RI8.out
            rw [ecv] at rx
            clear ecv
            have RX := hid (rx.quiet FXD.out)
            have SZ5 : Hid (Wk.heap.size ≤ X.drew.heap.size) := hid (by
              have h1 := RX.out.fk.size
              exact h1)
            obtain ⟨cs5, o5, h5⟩ := RX.out.co
            have ND : Hid (∀ v6 w6, w6.ownsRow Wk.heap.size 50 2 v6 (CL + 1) (cs5 ++ [.slice (some ⟨qk, ok, none⟩) kl kc, .slice va vl vc]) → X.drew.grownBy w6 (Value.slice ac CL cc).ownBlock → (RcI w Wk (w6.setCell ⟨G, PL, none⟩ v6) (.slice (some ⟨G, 0, none⟩) (PL + 1) cp) vs v6 (((cutAt sz ps i).1 : List Ps)) (((cutAt sz ps i).2.1 : Ps) ++ [(kA ps i, vA ps i)]) ∧ w6.cell? ⟨G, PL, none⟩ = some (.slice ac CL cc) ∧ w6.frozen? ⟨G, PL, none⟩ = false) ∧ Fr [] w w6) := hid (fun v6 w6 o6 g6 => by
              rw [HCL.out] at o6 g6
              rw [HKL.out, HVL.out] at o6
              have h1 := RcI.add (x := (kA ps i, vA ps i)) RX.out rfl (by have := o5.1; omega) h5 PH.out.rk PH.out.rv PH.out.bk PH.out.bv' PH.out.lk PH.out.lv o6 g6
              rw [← HPL.out, ← HCL.out] at h1
              exact ⟨h1, RX.out.fr.grown g6 (fun k hk => .inr (Nat.le_trans RX.out.sz (o5.lt k hk).1))⟩)
            rw [← HCL.out] at o5
            have O5 := hid o5
            clear o5 h5 rx
            refine wp_region_held_drew (S := fun wx => wx.cell? ⟨b, off + i * 2, none⟩ = some (.slice (some ⟨qk, ok, none⟩) kl kc) ∧ wx.cell? ⟨b, off + i * 2 + 1, none⟩ = some (.slice va vl vc)) (by kernel_rfl) (SK.out _ (RI8.out.fr.drew)) (fun hS => ?_)
            refine wpAnyH_take (i := 0) (v := (.slice (some ⟨G, 0, none⟩) (PL + 1) cp)) rfl (by kernel_rfl) (by kernel_rfl) (by kernel_rfl) (fun _ _ _ h => h) (.inl ⟨by rfl, fun wx hX => by go_simp⟩) hS ?_
            simp only [Act.put]
            refine wpAnyH_take (i := 1) (v := (.slice (some ⟨G, 0, none⟩) (PL + 1) cp)) rfl (by kernel_rfl) (by kernel_rfl) (by kernel_rfl) (fun _ _ _ h => h) (.inl ⟨by rfl, fun wx hX => by go_simp⟩) hS ?_
            simp only [Act.put]
            refine wpAnyH_take (i := 2) (v := (.int .i64 ((PL + 1 : Nat) : Int))) rfl (by kernel_rfl) (by kernel_rfl) (by kernel_rfl) (fun _ _ _ h => h) (.inl ⟨by rfl, fun wx hX => by go_simp⟩) hS ?_
            simp only [Act.put]
            refine wpAnyH_take (i := 3) (v := (.int .i64 (PL : Int))) rfl (by kernel_rfl) (by kernel_rfl) (by kernel_rfl) (fun _ _ _ h => h) (.inl ⟨by rfl, fun wx hX => by go_simp⟩) hS ?_
            simp only [Act.put]
            refine wpAnyH_take (i := 4) (v := (.slice (some ⟨G, 0, none⟩) (PL + 1) cp)) rfl (by kernel_rfl) (by kernel_rfl) (by kernel_rfl) (fun _ _ _ h => h) (.inl ⟨by rfl, fun wx hX => by go_simp⟩) hS ?_
            simp only [Act.put]
            refine wpAnyH_take (i := 5) (v := (.slice (some ⟨G, 0, none⟩) (PL + 1) cp)) rfl (by kernel_rfl) (by kernel_rfl) (by kernel_rfl) (fun _ _ _ h => h) (.inl ⟨by rfl, fun wx hX => by go_simp⟩) hS ?_
            simp only [Act.put]
            refine wpAnyH_take (i := 6) (v := (.int .i64 ((PL + 1 : Nat) : Int))) rfl (by kernel_rfl) (by kernel_rfl) (by kernel_rfl) (fun _ _ _ h => h) (.inl ⟨by rfl, fun wx hX => by go_simp⟩) hS ?_
            simp only [Act.put]
            refine wpAnyH_take (i := 7) (v := (.int .i64 (PL : Int))) rfl (by kernel_rfl) (by kernel_rfl) (by kernel_rfl) (fun _ _ _ h => h) (.inl ⟨by rfl, fun wx hX => by go_simp⟩) hS ?_
            simp only [Act.put]
            refine wpAnyH_take (i := 8) (v := (.pointer (some ⟨G, PL, none⟩))) rfl (by kernel_rfl) (by kernel_rfl) (by kernel_rfl) (fun _ _ _ h => h) (.inl ⟨by rfl, fun wx hX => by go_simp⟩) hS ?_
            simp only [Act.put]
            refine wpAnyH_take (i := 10) (v := (.slice (some ⟨b, off, none⟩) n c)) rfl (by kernel_rfl) (by kernel_rfl) (by kernel_rfl) (fun _ _ _ h => h) (.inl ⟨by rfl, fun wx hX => by go_simp⟩) hS ?_
            simp only [Act.put]
            refine wpAnyH_take (i := 11) (v := (.int .i64 (i : Int))) rfl (by kernel_rfl) (by kernel_rfl) (by kernel_rfl) (fun _ _ _ h => h) (.inl ⟨by rfl, fun wx hX => by go_simp⟩) hS ?_
            simp only [Act.put]
            refine wpAnyH_take (i := 12) (v := (.pointer (some ⟨b, off + i * 2, none⟩))) rfl (by kernel_rfl) (by kernel_rfl) (by kernel_rfl) (fun _ _ _ h => h) (.inl ⟨by rfl, fun wx hX => by go_simp⟩) hS ?_
            simp only [Act.put]
            refine wpAnyH_take (i := 13) (v := (.agg #[.slice (some ⟨qk, ok, none⟩) kl kc, .slice va vl vc])) rfl (by kernel_rfl) (by kernel_rfl) (by kernel_rfl) (fun _ _ _ h => h) (.inl ⟨by rfl, fun wx hX => by obtain ⟨x0, x1⟩ := hX; go_simp⟩) hS ?_
            simp only [Act.put]
            clear hS
            refine wpAnyH_ready (rs := [9, 14]) (by kernel_rfl) (by simp) ?_
            refine AllReadyH.cons rfl (fun K hK => ?_) (AllReadyH.cons rfl (fun K hK => ?_) AllReadyH.nil)
            · have q1 := Z0.out
              go_simp
              refine hK.out _ _ (SK.out _ RI8.out.fr.drew) (fun hS => ?_)
              clear hK K q1
              refine wpAnyH_ready (rs := [14]) (by kernel_rfl) (by simp) ?_
              refine AllReadyH.cons rfl (fun K hK => ?_) AllReadyH.nil
              go_simp
              rw [← hX]
              clear hX
              refine hK.out _ _ (SK.out _ (RI8.out.fr.trans FXD.out)) (fun hS => ?_)
              clear hK K
              refine wpAnyH_ready (rs := [15]) (by kernel_rfl) (by simp) ?_
              refine AllReadyH.cons rfl (fun K hK => ?_) AllReadyH.nil
              refine step_append_kv rfl (.tmp 55) (.tmp 60) rfl Wk.heap.size (v := .slice ac CL cc) (by first | (simp [Act.eval]; done) | simp [Act.eval, Act.put]) O5.out (G := W8.heap.size) (by first | (simp [Act.eval]; done) | simp [Act.eval, Act.put]) HX.out (by intro u hu; simp at hu; rcases hu with rfl | rfl <;> rfl) (by have := CLN.out; omega) SZ5.out ?_
              intro v6 w6 o6 g6
              obtain ⟨⟨r6, q1, q2⟩, f6⟩ := ND.out v6 w6 o6 g6
              obtain ⟨a6, c6, rfl, _⟩ := ownsRow_slice o6
              have RI6 := hid r6
              have SK6 := hid (SK.out _ f6)
              clear r6 f6
              clear o6 g6
              refine hK.out _ _ SK6.out (fun hS => ?_)
              clear hK K
              refine wpAnyH_ready (rs := [16]) (by kernel_rfl) (by simp) ?_
              refine AllReadyH.cons rfl (fun K hK => ?_) AllReadyH.nil
              go_simp
              refine hK.out _ _ SK6.out (fun hS => ?_)
              clear hK K
              refine wpAnyH_ready (rs := [17]) (by kernel_rfl) (by simp) ?_
              refine AllReadyH.cons rfl (fun K hK => ?_) AllReadyH.nil
              go_simp
              refine hK.out _ _ (SK.out _ RI6.out.fr) (fun hS => ?_)
              clear hK K
              refine wpAnyH_done (by kernel_rfl) ?_ _
              obtain ⟨W9, hW9⟩ : ∃ W, W = w6.setCell ⟨G, PL, none⟩ (.slice a6 (CL + 1) c6) := ⟨_, rfl⟩
              rw [← hW9] at RI6 ⊢
              clear hW9
              obtain ⟨y0, y1⟩ := SK.out _ RI6.out.fr
              have hvb := HVB.out
              have HLK := PH.out.lk
              have HLV := PH.out.lv
              dsimp only at HLK HLV
              rw [← HKL.out] at HLK
              rw [← HVL.out] at HLV
              clear q1 q2
              go_upto_region 12 with fail
              go_quiet (fail)
              go_wp2
              go_roundw
              case rel => exact ⟨i + 1, hv + (kl + vl), by omega, by go_num, by go_num, by rw [NX.out, HKL.out, HVL.out], .inr ⟨by omega, Wk, vs, _, by rw [NX.out]; have h9 := RI6.out; exact h9.quiet ((Fr.refl _ _).drewN _)⟩⟩
              case measure => simp [intOf]; omega
            · go_simp
              rw [← hX]
              clear hX
              refine hK.out _ _ (SK.out _ (RI8.out.fr.trans FXD.out)) (fun hS => ?_)
              clear hK K
              have q1 := cell_fr FXD.out Z0.out
              refine wpAnyH_ready (rs := [9]) (by kernel_rfl) (by simp) ?_
              refine AllReadyH.cons rfl (fun K hK => ?_) AllReadyH.nil
              go_simp
              refine hK.out _ _ (SK.out _ (RI8.out.fr.trans FXD.out)) (fun hS => ?_)
              clear hK K q1
              refine wpAnyH_ready (rs := [15]) (by kernel_rfl) (by simp) ?_
              refine AllReadyH.cons rfl (fun K hK => ?_) AllReadyH.nil
              refine step_append_kv rfl (.tmp 55) (.tmp 60) rfl Wk.heap.size (v := .slice ac CL cc) (by first | (simp [Act.eval]; done) | simp [Act.eval, Act.put]) O5.out (G := W8.heap.size) (by first | (simp [Act.eval]; done) | simp [Act.eval, Act.put]) HX.out (by intro u hu; simp at hu; rcases hu with rfl | rfl <;> rfl) (by have := CLN.out; omega) SZ5.out ?_
              intro v6 w6 o6 g6
              obtain ⟨⟨r6, q1, q2⟩, f6⟩ := ND.out v6 w6 o6 g6
              obtain ⟨a6, c6, rfl, _⟩ := ownsRow_slice o6
              have RI6 := hid r6
              have SK6 := hid (SK.out _ f6)
              clear r6 f6
              clear o6 g6
              refine hK.out _ _ SK6.out (fun hS => ?_)
              clear hK K
              refine wpAnyH_ready (rs := [16]) (by kernel_rfl) (by simp) ?_
              refine AllReadyH.cons rfl (fun K hK => ?_) AllReadyH.nil
              go_simp
              refine hK.out _ _ SK6.out (fun hS => ?_)
              clear hK K
              refine wpAnyH_ready (rs := [17]) (by kernel_rfl) (by simp) ?_
              refine AllReadyH.cons rfl (fun K hK => ?_) AllReadyH.nil
              go_simp
              refine hK.out _ _ (SK.out _ RI6.out.fr) (fun hS => ?_)
              clear hK K
              refine wpAnyH_done (by kernel_rfl) ?_ _
              obtain ⟨W9, hW9⟩ : ∃ W, W = w6.setCell ⟨G, PL, none⟩ (.slice a6 (CL + 1) c6) := ⟨_, rfl⟩
              rw [← hW9] at RI6 ⊢
              clear hW9
              obtain ⟨y0, y1⟩ := SK.out _ RI6.out.fr
              have hvb := HVB.out
              have HLK := PH.out.lk
              have HLV := PH.out.lv
              dsimp only at HLK HLV
              rw [← HKL.out] at HLK
              rw [← HVL.out] at HLV
              clear q1 q2
              go_upto_region 12 with fail
              go_quiet (fail)
              go_wp2
              go_roundw
              case rel => exact ⟨i + 1, hv + (kl + vl), by omega, by go_num, by go_num, by rw [NX.out, HKL.out, HVL.out], .inr ⟨by omega, Wk, vs, _, by rw [NX.out]; have h9 := RI6.out; exact h9.quiet ((Fr.refl _ _).drewN _)⟩⟩
              case measure => simp [intOf]; omega
      · have hin : i = n := by omega
        subst hin
        have hlt' : ¬ (i : Int) < (i : Int) := by omega
        have PC : Hid (RdLL wr u6 (cutF sz ps)) := hid (by
          rcases RS.out with ⟨h0, e, _⟩ | ⟨h0, Wk, vs, cv, ri⟩
          · have h2 : cutF sz ps = [] := by unfold cutF; rw [if_pos (by rw [← HN.out]; exact h0)]
            rw [h2, e]; exact ⟨none, 0, rfl, Nat.le_refl _, fun h => by simp at h⟩
          · have h2 : cutF sz ps = (cutAt sz ps i).1 ++ [(cutAt sz ps i).2.1] := by unfold cutF; rw [if_neg (by rw [← HN.out]; omega), HN.out]
            rw [h2]; exact ri.rows.rd ri.fr)
        go_wp2
        go_ret2
        exact ⟨.inl ⟨HR.out, _, rfl, PC.out⟩, FR.out⟩
  · have HR := hid hr
    have F2 := hid f2
    clear hr f2 RI
    go_wp2
    go_ret2
    exact ⟨.inr ⟨HR.out, rfl⟩, F2.out⟩
end Go.Proofs.Ythmlpjogbdpgiaa
