/-
  The document's Seek.
-/
import Derived.Test.YtdlnfcepknoigaaBX7
import Derived.Test.YtdlnfcepknoigaaSB
import Derived.Test.YtdlnfcepknoigaaX
namespace Go.Proofs.Ytdlnfcepknoigaa
open Go.ChangeShapes Go.WideShapes Go.ChangeAt Go.RowKit

set_option maxRecDepth 20000 in
set_option maxHeartbeats 3200000 in
theorem rseek_c (w : World) {v kv : Value} {b key : List Nat} (hr : Rd w v (bv b)) (hb : By b) (hl : b.length ≤ 20000) (rk : Rd w kv (bv key)) (bk : By key) (hkl : key.length ≤ 140737488355328) :
    Calls Try.prog 15 #[v, kv] w fun e w' => SeekO w' b key e ∧ Fr [] w w' := by
  obtain ⟨W1, hW1⟩ : ∃ W, W = w.alloc (.cells #[.slice none 0 0, .slice none 0 0] 40) := ⟨_, rfl⟩
  have FW1 : Hid (Fr [] w W1) := hid (by rw [hW1]; exact (Fr.refl _ _).alloc _)
  have R1 : Hid (W1.heap[w.heap.size]? = some (.cells #[.slice none 0 0, .slice none 0 0] 40 (0, 0))) := hid (by rw [hW1]; exact blk_new _ _)
  have PC := hid (rparse_c W1 (hr.fr FW1.out) hb hl)
  have HRK := hid rk
  have HBK := hid bk
  obtain ⟨a, c, hv⟩ := hr.form
  subst hv
  obtain ⟨a2, c2, hkv⟩ := rk.form
  subst hkv
  clear hr hb rk bk
  generalize (bv b).length = vn at *
  generalize (bv key).length = kn at *
  go_enter Try.func15, Try.ntmps15
  go_wp2_with fail
  rw [← hW1]
  clear hW1
  refine PC.out.mono ?_
  rintro e W2 ⟨⟨ps, r, vl, hB, rfl, co⟩ | ⟨hno, rfl⟩, f2⟩
  · have HB := hid hB
    have FRR := hid (FW1.out.trans f2)
    have R2 := hid (f2.at R1.out (by simp))
    have HC := hid co.rd
    obtain ⟨la, lc, hvl⟩ : ∃ la lc, vl = .slice la ps.length lc := by
      obtain ⟨cs, o, _⟩ := co
      obtain ⟨x, y, e, _⟩ := ownsRow_slice o
      exact ⟨x, y, e⟩
    subst hvl
    clear hB f2 co PC R1
    obtain ⟨P, hP⟩ : ∃ P, P = ps.length := ⟨_, rfl⟩
    have HP := hid hP
    rw [← hP] at HC ⊢
    have hP9 : P ≤ 1073741824 := by
      have := (blk_lens HB.out (by omega)).1
      omega
    clear hP
    have IC := hid (is_c W2 (HRK.out.fr FRR.out) HBK.out hkl)
    go_wp2_with fail
    refine IC.out.mono ?_
    rintro e w' ⟨rfl, hw'⟩
    have hw'' := hw'.symm
    clear hw' IC
    subst hw''
    cases hK : isK key
    · have HK := hid hK
      clear hK
      have q0 : W2.cell? ⟨w.heap.size, 0, none⟩ = some (.slice none 0 0) := by rw [blk_cell R2.out]; rfl
      have q1 : W2.cell? ⟨w.heap.size, 1, none⟩ = some (.slice none 0 0) := by rw [blk_cell R2.out]; rfl
      have qf := blk_frozen R2.out
      go_wp2
      refine bodyPost_ret (v := .tuple #[.agg #[.slice none 0 0, .slice none 0 0], .bool false, .int .i64 23]) (by rw [results_cell_tmp2 rfl]; go_simp) rfl ⟨.key HB.out HK.out, ?_⟩
      exact (FRR.out.set _ _ (.inr (Nat.le_refl _))).set _ _ (.inr (Nat.le_refl _))
    · have HK := hid hK
      clear hK
      go_wp2_with fail
      go_loopw [9] (fun v9 wr => ∃ i : Nat, i ≤ P ∧ v9 = .int .i64 (i : Int) ∧ (∀ j, j < i → ordK (kA ps j) key < 0) ∧ RdK wr (.slice la P lc) ps ∧ wr.heap[w.heap.size]? = some (.cells #[.slice none 0 0, .slice none 0 0] 40 (0, 0)) ∧ Fr [] w wr) (fun v9 _ => P - (intOf v9).toNat)
      case atStart => exact ⟨0, by omega, rfl, fun j hj => by omega, HC.out, R2.out, FRR.out⟩
      case round =>
        obtain ⟨i, hi, rfl, hj, hC, hR, hF⟩ := hrel
        have HJ := hid hj
        have HCC := hid hC
        have HR := hid hR
        have HF := hid hF
        clear hj hC hR hF HC R2 FRR
        by_cases hlt : i < P
        · have hlt' : (i : Int) < (P : Int) := by omega
          have hil : i < ps.length := by rw [← HP.out]; exact hlt
          obtain ⟨la', lc', e0, _, m0⟩ := HCC.out
          rw [← HP.out] at e0 m0
          simp only [Value.slice.injEq] at e0
          obtain ⟨e01, _, e03⟩ := e0
          obtain ⟨lb, off, e1, m1⟩ := m0 (by omega)
          obtain ⟨ka, kc, va, vc, PP⟩ := m1 i _ (ps_at hil)
          rw [e1] at e01
          subst e01
          have z1 := PP.ck
          have z2 := PP.cv
          have hfl := HB.out.rises i hil
          have OC := hid (order_c wr PP.rk PP.bk (flw_isK hfl) (HRK.out.fr HF.out) HBK.out HK.out)
          have HPP := hid PP
          dsimp only at z1 z2 OC
          generalize hkl' : (kA ps i).length = kl at z1 OC
          generalize hvl' : (vA ps i).length = vl at z2
          have HKL := hid hkl'
          have HVL := hid hvl'
          clear PP m0 m1 e1 e03 hfl hkl' hvl'
          go_wp2_with fail
          refine OC.out.mono ?_
          rintro e w3 ⟨rfl, f3⟩
          have F3 := hid (HF.out.trans f3)
          have z13 := cell_fr f3 z1
          have z23 := cell_fr f3 z2
          have R3 := hid (f3.at HR.out (by simp))
          have RD3 := hid f3
          clear f3 z1 z2 OC
          by_cases hge : 0 ≤ ordK (kA ps i) key
          · have HGE := hid hge
            have q0 : w3.cell? ⟨w.heap.size, 0, none⟩ = some (.slice none 0 0) := by rw [blk_cell R3.out]; rfl
            have q1 : w3.cell? ⟨w.heap.size, 1, none⟩ = some (.slice none 0 0) := by rw [blk_cell R3.out]; rfl
            have qf := blk_frozen R3.out
            have hno : ¬ U8 w3 w.heap.size := by
              refine noU8 (cs := [.slice none 0 0, .slice none 0 0]) R3.out ?_
              intro c hc n e
              simp at hc
              subst hc
              simp at e
            obtain ⟨WF, hWF⟩ : ∃ W, W = (w3.setCell ⟨w.heap.size, 0, none⟩ (.slice ka kl kc)).setCell ⟨w.heap.size, 1, none⟩ (.slice va vl vc) := ⟨_, rfl⟩
            have kp : ∀ j, U8 w3 j → WF.heap[j]? = w3.heap[j]? := fun j hj => by
              have : j ≠ w.heap.size := fun e => by subst e; exact hno hj
              rw [hWF, blk_setne _ _ _ this, blk_setne _ _ _ this]
            have RF := hid (And.intro ((HPP.out.rk.fr RD3.out).keep kp) ((HPP.out.rv.fr RD3.out).keep kp))
            have FF : Hid (Fr [] w WF) := hid (by rw [hWF]; exact (F3.out.set _ _ (.inr (Nat.le_refl _))).set _ _ (.inr (Nat.le_refl _)))
            have HRB : WF.heap[w.heap.size]? = some (.cells #[.slice ka kl kc, .slice va vl vc] 40 (0, 0)) := by rw [hWF, blk_set (blk_set R3.out 0 _)]; rfl
            have g0 : WF.cell? ⟨w.heap.size, 0, none⟩ = some (.slice ka kl kc) := by rw [blk_cell HRB]; rfl
            have g1 : WF.cell? ⟨w.heap.size, 1, none⟩ = some (.slice va vl vc) := by rw [blk_cell HRB]; rfl
            have BYP := hid HCC.out.by
            have hgei := hge
            clear hno kp HRB
            go_wp2_with fail
            rw [← hWF]
            clear hWF q0 q1 qf
            refine bodyPost_ret (v := .tuple #[.agg #[.slice ka kl kc, .slice va vl vc], .bool true, .int .i64 0]) (by rw [results_cell_tmp2 rfl]; go_simp) rfl ⟨?_, FF.out⟩
            have := SeekO.found (w' := WF) (b := b) (key := key) (ps := ps) (r := r) (k := i) (ka := ka) (va := va) (kc := kc) (vc := vc) HB.out HK.out hil HJ.out HGE.out RF.out.1 RF.out.2 BYP.out
            rw [HKL.out, HVL.out] at this
            exact this
          · have HLT := hid (show ordK (kA ps i) key < 0 by omega)
            have HJ2 : Hid (∀ j, j < i + 1 → ordK (kA ps j) key < 0) := hid (fun j hj => by
              rcases Nat.lt_or_ge j i with h | h
              · exact HJ.out j h
              · obtain rfl : j = i := by omega
                exact HLT.out)
            go_wp2
            go_roundw
            case rel => exact ⟨i + 1, by omega, by go_num, HJ2.out, HCC.out.fr RD3.out, R3.out, F3.out⟩
            case measure => simp [intOf]; omega
        · have hlt' : ¬ (i : Int) < (P : Int) := by omega
          have q0 : wr.cell? ⟨w.heap.size, 0, none⟩ = some (.slice none 0 0) := by rw [blk_cell HR.out]; rfl
          have q1 : wr.cell? ⟨w.heap.size, 1, none⟩ = some (.slice none 0 0) := by rw [blk_cell HR.out]; rfl
          have qf := blk_frozen HR.out
          go_wp2
          refine bodyPost_ret (v := .tuple #[.agg #[.slice none 0 0, .slice none 0 0], .bool false, .int .i64 0]) (by rw [results_cell_tmp2 rfl]; go_simp) rfl ⟨.none HB.out HK.out (fun j hj => HJ.out j (by have := HP.out; omega)), ?_⟩
          exact (HF.out.set _ _ (.inr (Nat.le_refl _))).set _ _ (.inr (Nat.le_refl _))
  · have HNO := hid hno
    have FRR := hid (FW1.out.trans f2)
    have R2 := f2.at R1.out (by simp)
    have q0 : W2.cell? ⟨w.heap.size, 0, none⟩ = some (.slice none 0 0) := by rw [blk_cell R2]; rfl
    have q1 : W2.cell? ⟨w.heap.size, 1, none⟩ = some (.slice none 0 0) := by rw [blk_cell R2]; rfl
    have qf := blk_frozen R2
    clear hno f2 PC R1 R2
    go_wp2
    refine bodyPost_ret (v := .tuple #[.agg #[.slice none 0 0, .slice none 0 0], .bool false, .int .i64 72]) (by rw [results_cell_tmp2 rfl]; go_simp) rfl ⟨.form HNO.out, ?_⟩
    exact (FRR.out.set _ _ (.inr (Nat.le_refl _))).set _ _ (.inr (Nat.le_refl _))
end Go.Proofs.Ytdlnfcepknoigaa
