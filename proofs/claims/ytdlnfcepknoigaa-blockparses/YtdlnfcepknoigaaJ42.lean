/-
  BlockParses walked.
-/
import Derived.Test.YtdlnfcepknoigaaBZ7
import Derived.Test.YtdlnfcepknoigaaJ07
import Derived.Test.YtdlnfcepknoigaaSl
import Derived.ShutString
import Derived.ChangeOld
import Derived.SizedLaws
import Derived.Deep.Matrix
namespace Go.Proofs.Ytdlnfcepknoigaa
open Go.ChangeShapes Go.WideShapes Go.ChangeAt Go.RowKit

set_option maxRecDepth 20000 in
set_option maxHeartbeats 3200000 in
theorem blockParses_c (w : World) {a ka : Option Addr} {L c kn kc : Nat} {b key : List Nat} (hr : Rd w (.slice a L c) (bv b)) (hL : b.length = L) (hb : By b) (hl : L ≤ 140737488355328) (rk : Rd w (.slice ka kn kc) (bv key)) (bk : By key) (hkl : key.length ≤ 140737488355328) :
    Calls Try.prog 4 #[.slice a L c, .slice ka kn kc] w fun e w' => e = .returned (.bool true) ∧ Fr [] w w' := by
  have KC := hid (known_c w)
  have HR := hid hr
  have HB := hid hb
  have HRK := hid rk
  have HBK := hid bk
  have HL := hid hL
  clear hr hb rk bk hL
  by_cases h3 : 3000 < L
  · have h3' : (3000 : Int) < (L : Int) := by omega
    go_enter Try.func4, Try.ntmps4
    go_wp2_with fail
    refine KC.out.mono ?_
    rintro e w1 ⟨rfl, f1⟩
    have F1 := hid f1
    clear f1
    go_wp2
    go_ret
    exact ⟨rfl, F1.out⟩
  have h3' : ¬ (3000 : Int) < (L : Int) := by omega
  obtain ⟨ps, E, hPF⟩ := PF.some b
  have HPF := hid hPF
  have hpl := hPF.len (by have := HL.out; omega)
  clear hPF
  go_enter Try.func4, Try.ntmps4
  go_wp2_with fail
  refine KC.out.mono ?_
  rintro e w1 ⟨rfl, f1⟩
  have F1 := hid f1
  have R1 := hid (HR.out.fr f1)
  have hbl3 : b.length ≤ 3000 := by have := HL.out; omega
  have hbl : b.length ≤ 140737488355328 := by omega
  clear f1 KC
  go_upto_region 6 with (at_builtin; refine wpList_append_nil rfl _ _ rfl rfl F1.out _ R1.out rfl hbl ?_; intro v2 w2 o2 f12 f2; rw [HL.out] at o2; obtain ⟨xa, xc, rfl, _⟩ := ownsRow_slice o2; have O2 := hid o2; have F2 := hid f2; clear o2 f2 f12)
  have RL2 : Hid (Rd w2 (.slice xa L xc) (bv b)) := hid (Rd.ownN O2.out HL.out.symm)
  have HPX : Hid (∀ k, (Value.slice xa L xc).ownBlock = some k → k < w2.heap.size ∧ w.heap.size ≤ k) := hid (fun k hk => ⟨(O2.out.lt k hk).2, Nat.le_trans F1.out.size (O2.out.lt k hk).1⟩)
  have PC := hid (parse_both w2 RL2.out HB.out (by omega))
  go_wp2_with fail
  refine PC.out.mono ?_
  rintro e w3 ⟨hp, f3⟩
  obtain ⟨v3, rfl, co3⟩ := HPF.out.prs (by omega) hp
  obtain ⟨la, lc, hv3⟩ : ∃ la lc, v3 = .slice la ps.length lc := by
    obtain ⟨cs, o, _⟩ := co3
    obtain ⟨x, y, e, _⟩ := ownsRow_slice o
    exact ⟨x, y, e⟩
  subst hv3
  have F3 := hid (F2.out.trans f3)
  have RL3 := hid (RL2.out.fr f3)
  have O3 := hid (ownsRow_fr O2.out f3)
  have C3 := hid co3
  have hs23 : w2.heap.size ≤ w3.heap.size := f3.size
  clear hp f3 co3 PC RL2
  have PC := hid (rparse_c w3 (HR.out.fr F3.out) HB.out (by have := HL.out; omega))
  go_wp2_with fail
  refine PC.out.mono ?_
  rintro e w4 ⟨hp, f4⟩
  obtain ⟨v4, rfl, co4⟩ := HPF.out.prs (by omega) hp
  obtain ⟨ma, mc, hv4⟩ : ∃ la lc, v4 = .slice la ps.length lc := by
    obtain ⟨cs, o, _⟩ := co4
    obtain ⟨x, y, e, _⟩ := ownsRow_slice o
    exact ⟨x, y, e⟩
  subst hv4
  have F4 := hid (F3.out.trans f4)
  have RL4 := hid (RL3.out.fr f4)
  have O4 := hid (ownsRow_fr O3.out f4)
  have C4 := hid (C3.out.fr f4)
  have D4 := hid co4
  clear hp f4 co4 PC RL3 O2
  have KV := hid (kvs_c C4.out.rd D4.out.rd hpl)
  obtain ⟨P, hP⟩ : ∃ P, P = ps.length := ⟨_, rfl⟩
  have HP := hid hP
  rw [← hP] at C4 D4 KV C3 ⊢
  clear hP C3
  go_wp2_with fail
  refine KV.out.mono ?_
  rintro e w5 ⟨rfl, f5⟩
  have F5 := hid (F4.out.trans f5)
  have RL5 := hid (RL4.out.fr f5)
  have O5 := hid (ownsRow_fr O4.out f5)
  have C5 := hid (C4.out.fr f5)
  have D5 := hid (D4.out.fr f5)
  clear f5 KV RL4 O4 C4 D4 O3
  have SC := hid (seek_c w5 RL5.out HB.out (by omega) (HRK.out.fr F5.out) HBK.out hkl)
  go_wp2_with fail
  refine SC.out.mono ?_
  rintro e w6 ⟨so, f6⟩
  obtain ⟨kk, vv, ok, G, hSF⟩ := SF.some so
  obtain ⟨ka1, kc1, va1, vc1, rfl, rk1, rv1, bk1, bv1, lk1, lv1⟩ := hSF.as (by omega) so
  have HSF := hid hSF
  have HK1 := hid (And.intro bk1 (And.intro bv1 (And.intro lk1 lv1)))
  obtain ⟨W7, hW7⟩ : ∃ W, W = w6.alloc (.cells #[.slice ka1 kk.length kc1, .slice va1 vv.length vc1] 40) := ⟨_, rfl⟩
  have f67 : Fr [] w6 W7 := by rw [hW7]; exact (Fr.refl _ w6).alloc _
  have X7 : Hid (W7.heap[w6.heap.size]? = some (.cells #[.slice ka1 kk.length kc1, .slice va1 vv.length vc1] 40 (0, 0))) := hid (by rw [hW7]; exact blk_new _ _)
  have f57 := f6.trans f67
  have F7 := hid (F5.out.trans f57)
  have RL7 := hid (RL5.out.fr f57)
  have O7 := hid (ownsRow_fr O5.out f57)
  have C7 := hid (C5.out.fr f57)
  have D7 := hid (D5.out.fr f57)
  have RK7 := hid (rk1.fr f67)
  have RV7 := hid (rv1.fr f67)
  obtain ⟨kl, hkl'⟩ : ∃ x, x = kk.length := ⟨_, rfl⟩
  obtain ⟨vl, hvl'⟩ : ∃ x, x = vv.length := ⟨_, rfl⟩
  have HKL := hid hkl'
  have HVL := hid hvl'
  rw [← hkl', ← hvl'] at hW7 X7 ⊢
  clear so hSF rk1 rv1 bk1 bv1 lk1 lv1 f6 f67 f57 SC RL5 O5 C5 D5 hkl' hvl'
  go_upto_region 11 with fail
  rw [← hW7]
  clear hW7
  have SC := hid (rseek_c W7 (HR.out.fr F7.out) HB.out (by omega) (HRK.out.fr F7.out) HBK.out hkl)
  go_wp2_with fail
  refine SC.out.mono ?_
  rintro e w8 ⟨so, f8⟩
  obtain ⟨ka2, kc2, va2, vc2, rfl, rk2, rv2, _, _, _, _⟩ := HSF.out.as (by omega) so
  rw [← HKL.out] at rk2 ⊢
  rw [← HVL.out] at rv2 ⊢
  obtain ⟨W9, hW9⟩ : ∃ W, W = w8.alloc (.cells #[.slice ka2 kl kc2, .slice va2 vl vc2] 40) := ⟨_, rfl⟩
  have f89 : Fr [] w8 W9 := by rw [hW9]; exact (Fr.refl _ w8).alloc _
  have f79 := f8.trans f89
  have Y9 : Hid (W9.heap[w8.heap.size]? = some (.cells #[.slice ka2 kl kc2, .slice va2 vl vc2] 40 (0, 0))) := hid (by rw [hW9]; exact blk_new _ _)
  have X9 := hid (f79.at X7.out (by simp))
  have F9 := hid (F7.out.trans f79)
  have RL9 := hid (RL7.out.fr f79)
  have O9 := hid (ownsRow_fr O7.out f79)
  have C9 := hid (C7.out.fr f79)
  have D9 := hid (D7.out.fr f79)
  have RK9 := hid (RK7.out.fr f79)
  have RV9 := hid (RV7.out.fr f79)
  have SK9 := hid (rk2.fr f89)
  have SV9 := hid (rv2.fr f89)
  clear so rk2 rv2 f8 f89 f79 SC RL7 O7 C7 D7 RK7 RV7 X7
  go_upto_region 12 with fail
  rw [← hW9]
  clear hW9
  -- the two found ones, each in a list of one
  obtain ⟨WA, hWA⟩ : ∃ W, W = W9.alloc (.cells #[.slice ka1 kl kc1, .slice va1 vl vc1] 40) := ⟨_, rfl⟩
  obtain ⟨WB, hWB⟩ : ∃ W, W = WA.alloc (.cells #[.slice ka2 kl kc2, .slice va2 vl vc2] 40) := ⟨_, rfl⟩
  have fA : Fr [] W9 WA := by rw [hWA]; exact (Fr.refl _ W9).alloc _
  have fB : Fr [] WA WB := by rw [hWB]; exact (Fr.refl _ WA).alloc _
  have xA : WA.heap[W9.heap.size]? = some (.cells #[.slice ka1 kl kc1, .slice va1 vl vc1] 40 (0, 0)) := by rw [hWA]; exact blk_new _ _
  have xB : WB.heap[WA.heap.size]? = some (.cells #[.slice ka2 kl kc2, .slice va2 vl vc2] 40 (0, 0)) := by rw [hWB]; exact blk_new _ _
  have hsA : WA.heap.size = W9.heap.size + 1 := by rw [hWA]; simp
  have f9B := fA.trans fB
  have xA' := fB.at xA (by simp)
  obtain ⟨bk1, bv1, lk1, lv1⟩ := HK1.out
  have L1 : RdK WB (.slice (some ⟨W9.heap.size, 0, none⟩) 1 1) [(kk, vv)] := RdK.lit (by rw [← HKL.out, ← HVL.out]; exact xA') (RK9.out.fr f9B) (RV9.out.fr f9B) bk1 bv1 lk1 lv1
  have L2 : RdK WB (.slice (some ⟨WA.heap.size, 0, none⟩) 1 1) [(kk, vv)] := RdK.lit (by rw [← HKL.out, ← HVL.out]; exact xB) (by rw [← HKL.out]; exact SK9.out.fr f9B) (by rw [← HVL.out]; exact SV9.out.fr f9B) bk1 bv1 lk1 lv1
  have KV := kvs_c L1 L2 (by simp)
  rw [hsA] at KV
  rw [hWB, hWA] at KV
  have KV := hid KV
  rw [hWB, hWA] at f9B
  have FA := hid f9B
  have qx0 : W9.cell? ⟨w6.heap.size, 0, none⟩ = some (.slice ka1 kl kc1) := by rw [blk_cell X9.out]; rfl
  have qx1 : W9.cell? ⟨w6.heap.size, 1, none⟩ = some (.slice va1 vl vc1) := by rw [blk_cell X9.out]; rfl
  have qa0 : WA.cell? ⟨w8.heap.size, 0, none⟩ = some (.slice ka2 kl kc2) := by rw [blk_cell (fA.at Y9.out (by simp))]; rfl
  have qa1 : WA.cell? ⟨w8.heap.size, 1, none⟩ = some (.slice va2 vl vc2) := by rw [blk_cell (fA.at Y9.out (by simp))]; rfl
  rw [hWA] at qa0 qa1
  clear fA fB xA xB hsA xA' L1 L2 f9B bk1 bv1 lk1 lv1 RK9 RV9 SK9 SV9 X9 Y9 hWA hWB
  go_wp2_with fail
  refine KV.out.mono ?_
  rintro e w10 ⟨rfl, f10⟩
  have f910 := FA.out.trans f10
  have F10 := hid (F9.out.trans f910)
  have RL10 := hid (RL9.out.fr f910)
  have O10 := hid (ownsRow_fr O9.out f910)
  have C10 := hid (C9.out.fr f910)
  have D10 := hid (D9.out.fr f910)
  clear f10 f910 KV FA RL9 O9 C9 D9 qx0 qx1 qa0 qa1
  have BC := bytes_c RL10.out (HR.out.fr F10.out) HB.out HB.out
  rw [decide_eq_true rfl] at BC
  have BC := hid BC
  go_wp2_with fail
  refine BC.out.mono ?_
  rintro e w' ⟨rfl, hw'⟩
  have hw'' := hw'.symm
  clear hw' BC
  subst hw''
  have SP := hid (spoil_c w10 O10.out (by omega))
  go_wp2_with fail
  refine SP.out.mono ?_
  rintro e w11 ⟨⟨u, rfl⟩, f11⟩
  have KX : Hid (ColO w11 w2.heap.size (.slice la P lc) ps ∧ ColO w11 w3.heap.size (.slice ma P mc) ps ∧ Fr [] w w11) := hid (by
    cases hob : (Value.slice xa L xc).ownBlock with
    | none =>
      rw [hob] at f11
      exact ⟨C10.out.fr f11, D10.out.fr f11, F10.out.trans f11⟩
    | some p =>
      rw [hob] at f11
      have h2 := HPX.out p hob
      have f11' : Fr [p] w10 w11 := f11
      exact ⟨C10.out.keepB h2.1 f11', D10.out.keepB (by omega) f11', ⟨f11'.os.trans F10.out.os, f11'.tape.trans F10.out.tape, f11'.output.trans F10.out.output, Nat.le_trans F10.out.size f11'.size, fun k hk hn => (f11'.block k (Nat.lt_of_lt_of_le hk F10.out.size) (by simp; omega)).trans (F10.out.block k hk hn)⟩⟩)
  have KV := hid (kvs_c KX.out.1.rd KX.out.2.1.rd hpl)
  clear f11 SP C10 D10 O10 RL10
  go_wp2_with fail
  refine KV.out.mono ?_
  rintro e w12 ⟨rfl, f12⟩
  have F12 := hid (KX.out.2.2.trans f12)
  clear f12 KV
  go_wp2
  go_ret
  exact ⟨rfl, F12.out⟩
end Go.Proofs.Ytdlnfcepknoigaa
namespace Go.Proofs.Ytdlnfcepknoigaa
open Go.ChangeShapes Go.WideShapes Go.ChangeAt Go.RowKit Go.Deep

theorem ownKnobs : ownKnob Try.prog.godebug = none := by kernel_rfl
theorem laidOut : laidOutB Try.prog = true := by kernel_rfl

theorem nat_of {n : Int} (h : 0 ≤ n) : ∃ m : Nat, n = (m : Int) := ⟨n.toNat, by omega⟩

/-- Bytes that came in. -/
theorem bytes_of {H : Type} {enc : TypeId × Value → H} {W : World} {ua : Option Addr} {len uc : Nat} {d : DataW H} {ps : List MemPlace} (h : DataW.Trod enc Try.prog W 0 (fun _ => true) true 26 (.slice ua len uc) d ps)
    (hw : ∀ n ∈ d.weights Try.prog 26, n ≤ reachBytes) : ∃ ns : List Nat, ns.length = len ∧ Rd W (.slice ua len uc) (bv ns) ∧ By ns ∧ len ≤ 140737488351232 := by
  obtain ⟨fuel, hf⟩ := h
  rcases open_ints Try.underlying26 Try.underlying5 (by kernel_rfl) hf with ⟨hcs, _⟩ | ⟨a, l, c, zs, hcs, _, hl, hm, hz, hx, hcell, hwf⟩
  · simp [Value.cells] at hcs
    obtain ⟨rfl, rfl, rfl⟩ := hcs
    exact ⟨[], rfl, .inl ⟨rfl, rfl⟩, fun u hu => by simp at hu, by omega⟩
  · simp [Value.cells] at hcs
    obtain ⟨rfl, rfl, rfl⟩ := hcs
    simp only [Prod.mk.injEq] at hx
    obtain ⟨rfl, _⟩ := hx
    simp only [if_true] at hz
    have hXl : ((zs.take len).map Int.toNat).length = len := by rw [List.length_map, List.length_take]; omega
    have hb : ∀ z ∈ zs, 0 ≤ z ∧ z ≤ 255 := fun z hz' => bounds_u8 (hwf z hz')
    refine ⟨(zs.take len).map Int.toNat, hXl, .inr ⟨a, uc, by rw [bv_len, hXl], by rw [bv_len, hXl]; exact hl, fun j u hj => ?_⟩, fun u hu => ?_, ?_⟩
    · have hjl : j < len := by
        rcases Nat.lt_or_ge j len with h | h
        · exact h
        · rw [List.getElem?_eq_none (by rw [bv_len, hXl]; omega)] at hj; cases hj
      have hjz : j < zs.length := by omega
      rw [hcell j hjz]
      unfold bv at hj
      rw [List.getElem?_map, List.getElem?_map, List.getElem?_take, if_pos hjl, List.getElem?_eq_getElem hjz] at hj
      simp only [Option.map_some, Option.some.injEq] at hj
      rw [← hj]
      have h0 := hb _ (List.getElem_mem hjz)
      simp only [List.getD, List.getElem?_eq_getElem hjz, Option.getD_some, Int.toNat_of_nonneg h0.1]
    · obtain ⟨n, hn, rfl⟩ := List.mem_map.1 hu
      have := hb n (List.mem_of_mem_take hn)
      omega
    · have h1 := hw (uc * Try.prog.bytesOf 5) (by
        simp only [DataW.weights, Try.underlying26]
        refine List.mem_cons.2 (.inl ?_)
        rw [lits, lits, List.length_map, List.length_map, List.length_take, List.length_drop, hz]
        congr 1; omega)
      rw [show Try.prog.bytesOf 5 = 1 from by kernel_rfl] at h1
      unfold reachBytes at h1
      omega
end Go.Proofs.Ytdlnfcepknoigaa
