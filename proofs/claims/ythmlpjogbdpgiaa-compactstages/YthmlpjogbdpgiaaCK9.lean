/-
  within's closure, walked.
-/
import Derived.Test.YthmlpjogbdpgiaaCJ
namespace Go.Proofs.Ythmlpjogbdpgiaa
open Go.ChangeShapes Go.WideShapes Go.ChangeAt Go.RowKit

def lenV : Value → Nat
  | .slice _ n _ => n
  | _ => 0
def ahM (A : Nat) (w : World) : Nat := ((w.cell? ⟨A, 0, none⟩).map lenV).getD 0
theorem WI.mes {w0 W : World} {A B R Q : Nat} {L : Ps} {k : Nat} (h : WI w0 W A B R Q L k) : ahM A W = L.length - k := by
  obtain ⟨a, c, hA, _⟩ := h.hA
  unfold ahM
  rw [blk_cell hA]; rfl
theorem Mx.uniq {L : Ps} {k : Nat} {m m' : List Nat} (h : Mx L k m) (h' : Mx L k m') : m' = m := by
  obtain ⟨s, hs, rfl⟩ := h.1
  obtain ⟨t, ht, rfl⟩ := h'.1
  have h1 := h.2 t ht
  have h2 := h'.2 s hs
  have h3 := cmpN_neg t.2 s.2
  exact (cmpN_eq _ _).1 (by omega)
theorem inSp_end {L : Ps} (hs : SortL L) {k : Nat} {u : List Nat} (h1 : ∀ s ∈ L.take k, cmpN s.1 u ≤ 0) (h2 : ∀ s, L[k]? = some s → 0 < cmpN s.1 u) : (k = 0 → inSp L u = false) ∧ ∀ m, Mx L k m → inSp L u = decide (cmpN u m ≤ 0) := by
  have h := inSp_at hs h1 h2
  refine ⟨fun e => ?_, fun m hm => ?_⟩
  · subst e
    rcases hx : inSp L u with _ | _
    · rfl
    · obtain ⟨s, hs, _⟩ := h.1 hx
      simp at hs
  · rw [mx_in hm] at h
    by_cases hc : cmpN u m ≤ 0
    · rw [decide_eq_true hc]; exact h.2 hc
    · rw [decide_eq_false hc]
      rcases hx : inSp L u with _ | _
      · rfl
      · exact absurd (h.1 hx) hc
set_option maxRecDepth 20000 in
set_option maxHeartbeats 6400000 in
theorem within2_c {w0 W : World} {A B R Q : Nat} {L : Ps} {k : Nat} (h : WI w0 W A B R Q L k) (hs : SortL L) (hl : L.length ≤ 1000000) {ua : Option Addr} {ul uc : Nat} {u : List Nat} (ru : ∀ W', Fr [A, B, R] W W' → Rd W' (.slice ua ul uc) (bv u)) (bu : By u) (hu : ∀ s ∈ L.take k, cmpN s.1 u ≤ 0) :
    Calls Try.prog 55 #[.slice ua ul uc, .pointer (some ⟨A, 0, none⟩), .pointer (some ⟨B, 0, none⟩), .pointer (some ⟨R, 0, none⟩)] W fun e w' => ∃ k', e = .returned (.bool (inSp L u)) ∧ WI w0 w' A B R Q L k' ∧ (∀ s ∈ L.take k', cmpN s.1 u ≤ 0) ∧ Fr [A, B, R] W w' := by
  have H0 := hid h
  have HU := hid hu
  have HS := hid hs
  have RU := hid ru
  clear h hu hs ru
  obtain ⟨n, hn⟩ : ∃ n, n = L.length := ⟨_, rfl⟩
  have HN := hid hn
  rw [← hn] at hl
  clear hn
  go_enter Try.func55, Try.ntmps55
  go_wp2_with fail
  go_loopw [6] (fun v6 wr => ∃ k1 : Nat, WI w0 wr A B R Q L k1 ∧ (∀ s ∈ L.take k1, cmpN s.1 u ≤ 0) ∧ Fr [A, B, R] W wr ∧ v6 = v6) (fun _ wr => ahM A wr)
  case atStart => exact ⟨k, H0.out, HU.out, Fr.refl _ _, rfl⟩
  case round =>
    obtain ⟨k1, wi, hu1, hf, _⟩ := hrel
    have WIH := hid wi
    have HU1 := hid hu1
    have HF := hid hf
    obtain ⟨a, c, hA, hA1, hA2⟩ := wi.hA
    obtain ⟨ra, rl, rc, hR, hR1⟩ := wi.hR
    have hB := wi.hB
    have hkn := wi.kn
    rw [← HN.out] at hA hA1 hA2 hkn
    have cA : wr.cell? ⟨A, 0, none⟩ = some (.slice a (n - k1) c) := by rw [blk_cell hA]; rfl
    have cB : wr.cell? ⟨B, 0, none⟩ = some (.bool (decide (0 < k1))) := by rw [blk_cell hB]; rfl
    have cR : wr.cell? ⟨R, 0, none⟩ = some (.slice ra rl rc) := by rw [blk_cell hR]; rfl
    have fA := blk_frozen hA 0
    have fB := blk_frozen hB 0
    have fR := blk_frozen hR 0
    have RU1 := hid (RU.out wr hf)
    have MES := hid wi.mes
    have HR1 := hid hR1
    have AP := hid wi.apart
    clear hR1 H0 HU
    by_cases hk : k1 < n
    · obtain rfl := hA1 hk
      obtain ⟨s, hs⟩ : ∃ s, L[k1]? = some s := ⟨_, List.getElem?_eq_getElem (by rw [← HN.out]; exact hk)⟩
      obtain ⟨la, lc, ma, mc, z0, z1, r0, r1, b0, b1⟩ := wi.sp k1 s hs
      have R0 := hid (r0.fr wi.fr)
      have R1 := hid (r1.fr wi.fr)
      have R1w := hid r1
      have B1 := hid b1
      have HSS := hid hs
      have BC := hid (bcmp_c R0.out RU1.out b0 bu)
      clear wi r0 r1 b0 b1 hs hu1 hf
      obtain ⟨d, hd⟩ : ∃ d, n - k1 = d + 1 := ⟨n - k1 - 1, by omega⟩
      have HD := hid hd
      rw [hd] at cA hA hA2
      have hc0 : (1 : Int) ≤ (c : Int) := by omega
      have hc1n : ¬ c < 1 := by omega
      obtain ⟨sl, hsl⟩ : ∃ x, x = s.1.length := ⟨_, rfl⟩
      obtain ⟨ml, hml⟩ : ∃ x, x = s.2.length := ⟨_, rfl⟩
      have HML := hid hml
      rw [← hsl] at z0 BC
      rw [← hml] at z1 R1 R1w
      clear hsl hml hd
      obtain ⟨o1, ho1⟩ : ∃ x, x = cmpN s.1 u := ⟨_, rfl⟩
      have HO1 := hid ho1
      rw [← ho1] at BC
      clear ho1
      by_cases h1 : o1 ≤ 0
      · have HU2 : Hid (∀ t ∈ L.take (k1 + 1), cmpN t.1 u ≤ 0) := hid (fun t ht => by
          rw [take_one HSS.out] at ht
          rcases List.mem_append.1 ht with h2 | h2
          · exact HU1.out t h2
          · rw [List.mem_singleton] at h2; subst h2; rw [← HO1.out]; exact h1)
        have NEW : Hid (∀ (a' : Option Addr) (c' : Nat), a' = (if c = 1 then some ⟨Q, k1 * 2, none⟩ else some ⟨Q, k1 * 2 + 2, none⟩) → c' = c - 1 → (k1 + 1 < L.length → a' = some ⟨Q, (k1 + 1) * 2, none⟩) ∧ L.length - (k1 + 1) ≤ c') := hid (fun a' c' ha hc => by
          have h3 := HN.out
          have h4 := HD.out
          refine ⟨fun h5 => ?_, by omega⟩
          rw [ha, if_neg (by omega), show k1 * 2 + 2 = (k1 + 1) * 2 from by omega])
        have LD : Hid (L.length - (k1 + 1) = d) := hid (by have := HN.out; have := HD.out; omega)
        have ST := hid (fun (m : List Nat) (hl : m.length = ml) (rm : Rd w0 (.slice ma ml mc) (bv m)) (bm : By m) (hm : Mx L (k1 + 1) m) => WIH.out.step (by rw [← HN.out]; exact hk) hl rm bm hm (NEW.out _ _ rfl rfl).1 (NEW.out _ _ rfl rfl).2)
        rw [LD.out] at ST
        rcases Nat.eq_zero_or_pos k1 with h0 | h0
        · subst h0
          have STX := hid (ST.out s.2 HML.out.symm R1w.out B1.out (Mx.one HSS.out))
          obtain ⟨S1, S2⟩ := STX.out
          have S1 := hid S1
          have S2 := hid S2
          obtain ⟨m1, m2, m3⟩ := AP.out
          have y1 : ((wr.setCell ⟨R, 0, none⟩ (.slice ma ml mc)).setCell ⟨B, 0, none⟩ (.bool true)).cell? ⟨A, 0, none⟩ = some (.slice (some ⟨Q, 0, none⟩) (d + 1) c) := by rw [World.cell?_of_block (w := wr) (by rw [blk_setne _ _ _ m1, blk_setne _ _ _ m2])]; simpa using cA
          clear ST STX NEW LD
          simp only [Nat.zero_mul, Nat.zero_add] at cA z0 z1 y1 S1 S2
          rw [show decide (0 < 0) = false from rfl] at cB
          by_cases hcc : c = 1
          · obtain rfl : d = 0 := by omega
            subst hcc
            have T1 := S1.out
            have T2 := S2.out
            simp only [eq_self, ↓reduceIte, Nat.sub_self] at T1 T2
            have S1 := hid T1
            have S2 := hid T2
            clear T1 T2
            go_wp2_with (go_at_call 54; refine BC.out.mono ?_; rintro e w3 ⟨rfl, h⟩; rw [h]; clear h)
            exact ⟨⟨1, S1.out, HU2.out, HF.out.trans S2.out, trivial⟩, by rw [MES.out]; exact Nat.lt_of_le_of_lt (Nat.le_of_eq S1.out.mes) (by have := HN.out; have := HD.out; omega)⟩
          · rw [if_neg hcc] at S1 S2
            go_wp2_with (go_at_call 54; refine BC.out.mono ?_; rintro e w3 ⟨rfl, h⟩; rw [h]; clear h)
            exact ⟨⟨1, S1.out, HU2.out, HF.out.trans S2.out, trivial⟩, by rw [MES.out]; exact Nat.lt_of_le_of_lt (Nat.le_of_eq S1.out.mes) (by have := HN.out; have := HD.out; omega)⟩
        · obtain ⟨m, hm1, rm, bm, hmx⟩ := HR1.out h0
          have BC2 := hid (bcmp_c R1.out (rm.fr WIH.out.fr) B1.out bm)
          have HMX := hid hmx
          obtain ⟨o2, ho2⟩ : ∃ x, x = cmpN s.2 m := ⟨_, rfl⟩
          have HO2 := hid ho2
          rw [← ho2] at BC2
          have MORE := hid (hmx.more HSS.out)
          rw [← ho2] at MORE
          rw [decide_eq_true h0] at cB
          clear ho2 hm1 rm bm hmx
          by_cases h2 : 0 < o2
          · have STX := hid (ST.out s.2 HML.out.symm R1w.out B1.out (MORE.out.1 h2))
            obtain ⟨S1, S2⟩ := STX.out
            have S1 := hid S1
            have S2 := hid S2
            obtain ⟨m1, m2, m3⟩ := AP.out
            have y1 : ((wr.setCell ⟨R, 0, none⟩ (.slice ma ml mc)).setCell ⟨B, 0, none⟩ (.bool true)).cell? ⟨A, 0, none⟩ = some (.slice (some ⟨Q, k1 * 2, none⟩) (d + 1) c) := by rw [World.cell?_of_block (w := wr) (by rw [blk_setne _ _ _ m1, blk_setne _ _ _ m2])]; exact cA
            clear ST STX NEW LD
            by_cases hcc : c = 1
            · obtain rfl : d = 0 := by omega
              subst hcc
              have T1 := S1.out
              have T2 := S2.out
              simp only [eq_self, ↓reduceIte, Nat.sub_self] at T1 T2
              have S1 := hid T1
              have S2 := hid T2
              clear T1 T2
              go_wp2_with (first | (have zz := G1; clear zz; go_at_call 54; refine BC2.out.mono ?_; rintro e w3 ⟨rfl, h⟩; rw [h]; clear h) | (go_at_call 54; refine BC.out.mono ?_; rintro e w3 ⟨rfl, h⟩; rw [h]; clear h; have G1 := hid trivial))
              exact ⟨⟨k1 + 1, S1.out, HU2.out, HF.out.trans S2.out, trivial⟩, by rw [MES.out]; exact Nat.lt_of_le_of_lt (Nat.le_of_eq S1.out.mes) (by have := HN.out; have := HD.out; omega)⟩
            · rw [if_neg hcc] at S1 S2
              go_wp2_with (first | (have zz := G1; clear zz; go_at_call 54; refine BC2.out.mono ?_; rintro e w3 ⟨rfl, h⟩; rw [h]; clear h) | (go_at_call 54; refine BC.out.mono ?_; rintro e w3 ⟨rfl, h⟩; rw [h]; clear h; have G1 := hid trivial))
              exact ⟨⟨k1 + 1, S1.out, HU2.out, HF.out.trans S2.out, trivial⟩, by rw [MES.out]; exact Nat.lt_of_le_of_lt (Nat.le_of_eq S1.out.mes) (by have := HN.out; have := HD.out; omega)⟩
          · have STX := hid (WIH.out.stepA (by rw [← HN.out]; exact hk) h0 (fun m' h' => by rw [HMX.out.uniq h']; exact MORE.out.2 h2) (NEW.out _ _ rfl rfl).1 (NEW.out _ _ rfl rfl).2)
            rw [LD.out] at STX
            obtain ⟨S1, S2⟩ := STX.out
            have S1 := hid S1
            have S2 := hid S2
            clear ST STX NEW LD
            by_cases hcc : c = 1
            · obtain rfl : d = 0 := by omega
              subst hcc
              have T1 := S1.out
              have T2 := S2.out
              simp only [eq_self, ↓reduceIte, Nat.sub_self] at T1 T2
              have S1 := hid T1
              have S2 := hid T2
              clear T1 T2
              go_wp2_with (first | (have zz := G1; clear zz; go_at_call 54; refine BC2.out.mono ?_; rintro e w3 ⟨rfl, h⟩; rw [h]; clear h) | (go_at_call 54; refine BC.out.mono ?_; rintro e w3 ⟨rfl, h⟩; rw [h]; clear h; have G1 := hid trivial))
              exact ⟨⟨k1 + 1, S1.out, HU2.out, HF.out.trans S2.out, trivial⟩, by rw [MES.out]; exact Nat.lt_of_le_of_lt (Nat.le_of_eq S1.out.mes) (by have := HN.out; have := HD.out; omega)⟩
            · rw [if_neg hcc] at S1 S2
              go_wp2_with (first | (have zz := G1; clear zz; go_at_call 54; refine BC2.out.mono ?_; rintro e w3 ⟨rfl, h⟩; rw [h]; clear h) | (go_at_call 54; refine BC.out.mono ?_; rintro e w3 ⟨rfl, h⟩; rw [h]; clear h; have G1 := hid trivial))
              exact ⟨⟨k1 + 1, S1.out, HU2.out, HF.out.trans S2.out, trivial⟩, by rw [MES.out]; exact Nat.lt_of_le_of_lt (Nat.le_of_eq S1.out.mes) (by have := HN.out; have := HD.out; omega)⟩
      · have EE := hid (inSp_end HS.out HU1.out (fun t ht => by rw [HSS.out] at ht; cases ht; rw [← HO1.out]; omega))
        rcases Nat.eq_zero_or_pos k1 with h0 | h0
        · have E0 := hid (EE.out.1 h0)
          rw [decide_eq_false (show ¬ 0 < k1 by omega)] at cB
          clear h0
          go_wp2_with (go_at_call 54; refine BC.out.mono ?_; rintro e w3 ⟨rfl, h⟩; rw [h]; clear h)
          go_ret
          first | exact ⟨k1, by rw [E0.out]; rfl, WIH.out, HU1.out, HF.out⟩ | exact ⟨by rw [E0.out]; rfl, k1, WIH.out, fun a b h => HU1.out (a, b) h, HF.out⟩
        · obtain ⟨m, hm1, rm, bm, hmx⟩ := HR1.out h0
          have BC2 := hid (bcmp_c RU1.out (rm.fr WIH.out.fr) bu bm)
          have E1 := hid (EE.out.2 m hmx)
          rw [decide_eq_true h0] at cB
          generalize cmpN u m = o3 at BC2 E1
          clear hm1 rm bm hmx
          go_wp2_with (first | (have zz := G1; clear zz; go_at_call 54; refine BC2.out.mono ?_; rintro e w3 ⟨rfl, h⟩; rw [h]; clear h) | (go_at_call 54; refine BC.out.mono ?_; rintro e w3 ⟨rfl, h⟩; rw [h]; clear h; have G1 := hid trivial))
          go_ret
          first | exact ⟨k1, by rw [E1.out]; rfl, WIH.out, HU1.out, HF.out⟩ | exact ⟨by rw [E1.out]; rfl, k1, WIH.out, fun a b h => HU1.out (a, b) h, HF.out⟩
    · have EE := hid (inSp_end HS.out HU1.out (fun t ht => by have := (List.getElem?_eq_some_iff.1 ht).1; rw [← HN.out] at this; exact absurd this hk))
      have hnk : n - k1 = 0 := by omega
      rw [hnk] at cA
      clear wi hf hu1
      rcases Nat.eq_zero_or_pos k1 with h0 | h0
      · have E0 := hid (EE.out.1 h0)
        rw [decide_eq_false (show ¬ 0 < k1 by omega)] at cB
        clear h0
        go_wp2
        go_ret
        first | exact ⟨k1, by rw [E0.out]; rfl, WIH.out, HU1.out, HF.out⟩ | exact ⟨by rw [E0.out]; rfl, k1, WIH.out, fun a b h => HU1.out (a, b) h, HF.out⟩
      · obtain ⟨m, hm1, rm, bm, hmx⟩ := HR1.out h0
        have BC2 := hid (bcmp_c RU1.out (rm.fr WIH.out.fr) bu bm)
        have E1 := hid (EE.out.2 m hmx)
        rw [decide_eq_true h0] at cB
        generalize cmpN u m = o3 at BC2 E1
        clear hm1 rm bm hmx
        go_wp2_with (go_at_call 54; refine BC2.out.mono ?_; rintro e w3 ⟨rfl, h⟩; rw [h]; clear h)
        go_ret
        first | exact ⟨k1, by rw [E1.out]; rfl, WIH.out, HU1.out, HF.out⟩ | exact ⟨by rw [E1.out]; rfl, k1, WIH.out, fun a b h => HU1.out (a, b) h, HF.out⟩
end Go.Proofs.Ythmlpjogbdpgiaa
