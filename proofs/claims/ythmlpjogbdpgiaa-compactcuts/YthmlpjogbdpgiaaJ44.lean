/-
  CompactCuts, walked.
-/
import Derived.Test.YthmlpjogbdpgiaaCXE
import Derived.Test.YthmlpjogbdpgiaaJ43
import Derived.Test.YthmlpjogbdpgiaaCR9
import Derived.Test.YthmlpjogbdpgiaaSl
import Derived.ShutString
import Derived.ChangeOld
import Derived.SizedLaws
import Derived.Deep.Matrix
namespace Go.Proofs.Ythmlpjogbdpgiaa
open Go.ChangeShapes Go.WideShapes Go.ChangeAt Go.RowKit

def vwOk : Option (List Nat × List Nat) → Bool
  | none => false
  | some p => decide (tailN p.1 % 256 = 1)
def vwX : Option (List Nat × List Nat) → List Nat
  | none => []
  | some p => if tailN p.1 % 256 = 1 then p.2 else []
/-- What both Views tell, in one form. -/
theorem ViewR.form {e : Ending} {w : World} {o : Option (List Nat × List Nat)} (h : ViewR e w o) (ho : ∀ p, o = some p → By p.2) : ∃ (vv : Value) (ok : Bool) (x : List Nat), e = .returned (.tuple #[vv, .bool ok]) ∧ Rd w vv (bv x) ∧ By x ∧ ok = vwOk o ∧ x = vwX o := by
  have nil : Rd w (.slice none 0 0) (bv []) := .inl ⟨rfl, rfl⟩
  cases o with
  | none => exact ⟨_, _, [], h, nil, (fun n hn => by cases hn), rfl, rfl⟩
  | some p =>
    rcases h with ⟨h1, vv, e1, r⟩ | ⟨h1, e1⟩
    · exact ⟨vv, true, p.2, e1, r, ho p rfl, by simp [vwOk, h1], by simp [vwX, h1]⟩
    · exact ⟨_, false, [], e1, nil, (fun n hn => by cases hn), by simp [vwOk, h1], by simp [vwX, h1]⟩
theorem vwG_by {ps : Ps} {u : List Nat} {s : Nat} (h : ByP ps) : ∀ p, vwG ps u s = some p → By p.2 := fun p hp => (h p (List.mem_of_find?_eq_some hp)).2
theorem cutF_len {sz : Nat} {ps : Ps} (hs : 0 < sz) : (cutF sz ps).length ≤ ps.length ∧ ∀ p ∈ cutF sz ps, p.length ≤ ps.length := by
  have h := cutF_cuts (sz := sz) (ps := ps) hs
  have hal := h.all
  have key : ∀ (L : List Ps), (∀ p ∈ L, p ≠ []) → L.length ≤ L.flatten.length ∧ ∀ p ∈ L, p.length ≤ L.flatten.length := by
    intro L
    induction L with
    | nil => intro _; simp
    | cons a L ih =>
      intro hp
      obtain ⟨h1, h2⟩ := ih (fun p hm => hp p (List.mem_cons_of_mem _ hm))
      have h3 := List.length_pos_iff.2 (hp a (by simp))
      simp only [List.flatten_cons, List.length_append, List.length_cons]
      refine ⟨by omega, fun p hm => ?_⟩
      rcases List.mem_cons.1 hm with rfl | hm
      · omega
      · have := h2 p hm; omega
  have h1 := key (cutF sz ps) (fun p hp => by
    obtain ⟨i, hi⟩ := List.getElem?_of_mem hp
    exact h.pos i p hi)
  rw [hal] at h1
  exact h1
set_option maxRecDepth 20000 in
set_option maxHeartbeats 6400000 in
theorem ccuts_c (w : World) {lv uv : Value} {ps : Ps} {us : List Nat} (h : RdK w lv ps) (ru : Rd w uv (bv us)) (bu : By us) (lu : us.length ≤ 140737488355328) (hp : ps.length ≤ 140737488355328) (size : Int) (seq : Nat) :
    Calls Try.prog 4 #[lv, .int .i64 size, uv, .int .u64 (seq : Int)] w fun e w' => e = .returned (.bool true) ∧ Fr [] w w' := by
  obtain ⟨sz, hsz0⟩ : ∃ sz : Nat, (sz : Int) = if size < 1 then 1 else size := ⟨(if size < 1 then 1 else size).toNat, by split <;> omega⟩
  have HSZ := hid hsz0
  have SZ1 : Hid (0 < sz) := hid (by split at hsz0 <;> omega)
  clear hsz0
  have HL := hid h
  have RU := hid ru
  have BU := hid bu
  have BYP := hid h.by
  obtain ⟨la, lc, rfl, hlc, _⟩ := h
  obtain ⟨ua, uc, hue⟩ := ru.form
  rw [bv_len] at hue
  subst hue
  clear ru bu
  obtain ⟨n, hnn⟩ : ∃ n, n = ps.length := ⟨_, rfl⟩
  have HN := hid hnn
  rw [← hnn] at hp hlc HL ⊢
  clear hnn
  obtain ⟨UL, hUL⟩ : ∃ UL, UL = us.length := ⟨_, rfl⟩
  have HUL := hid hUL
  rw [← hUL] at RU lu ⊢
  clear hUL
  have KN := hid (known10_c w)
  go_enter Try.func4, Try.ntmps4
  go_upto_if 19 with (go_at_call 8; refine KN.out.mono ?_; rintro e w1 ⟨rfl, f1, hz⟩)
  have F1 := hid f1
  clear f1 hz KN
  by_cases h80 : n ≤ 80
  · have h80' : ¬ (80 : Int) < (n : Int) := by omega
    have CC := hid (ccut_c w1 (HL.out.fr F1.out) (by have := HN.out; omega) size sz HSZ.out)
    go_upto_region 6 with (go_at_call 13; refine CC.out.mono ?_; rintro e w2 ⟨hq, f2⟩; rcases hq with ⟨hr, v9, rfl, p9⟩ | ⟨hr, rfl⟩)
    · have F2 := hid (F1.out.trans f2)
      have HR := hid hr
      have RC := hid (rcut_c w2 (HL.out.fr F2.out) (by have := HN.out; omega) size sz HSZ.out)
      have P9 := hid p9
      clear f2 hr p9
      obtain ⟨a9, c9, e9, _⟩ := P9.out
      subst e9
      obtain ⟨N, hN⟩ : ∃ N, N = (cutF sz ps).length := ⟨_, rfl⟩
      have HNN := hid hN
      have CLN := hid (cutF_len (ps := ps) SZ1.out)
      rw [← hN] at P9 ⊢
      clear hN
      have hNb : N ≤ 80 := by have h1 := CLN.out.1; have := HN.out; rw [← HNN.out] at h1; omega
      go_upto_region 7 with (go_at_call 14; refine RC.out.mono ?_; rintro e w3 ⟨hq, f3⟩; rcases hq with ⟨hr', v11, rfl, p11⟩ | ⟨hr', rfl⟩)
      · have F3 := hid (F2.out.trans f3)
        have P93 := hid (P9.out.fr f3)
        have P11 := hid p11
        clear f3 p11 hr'
        obtain ⟨a11, c11, e11, hc11, k11⟩ := P11.out
        obtain ⟨a9', c9', e9', hc9, k9⟩ := P93.out
        subst e11
        rw [← HNN.out] at e9' hc11 hc9 k11 k9
        simp only [Value.slice.injEq, true_and] at e9'
        obtain ⟨rfl, rfl⟩ := e9'
        have K11 := hid k11
        have K9 := hid k9
        rw [← HNN.out]
        clear k11 k9 P11 P9 P93 RC CC
        have hbN : ((N : Int) == (N : Int)) = true := by simp
        go_wp2_with fail
        go_loopw [13] (fun v13 wr => ∃ i : Nat, i ≤ N ∧ v13 = .int .i64 (i : Int) ∧ Fr [] w3 wr) (fun v13 _ => N - (intOf v13).toNat)
        case atStart => exact ⟨0, Nat.zero_le _, rfl, Fr.refl _ _⟩
        case round =>
          obtain ⟨i, hi, rfl, hf⟩ := hrel
          have HF := hid hf
          clear hf
          by_cases hlt : i < N
          · obtain ⟨q, hq⟩ : ∃ q, (cutF sz ps)[i]? = some q := ⟨_, List.getElem?_eq_getElem (by rw [← HNN.out]; exact hlt)⟩
            obtain ⟨b1, o1, rfl, m1⟩ := K9.out (by omega)
            obtain ⟨b2, o2, rfl, m2⟩ := K11.out (by omega)
            obtain ⟨ua1, uc1, y1, r1⟩ := m1 i q hq
            obtain ⟨ua2, uc2, y2, r2⟩ := m2 i q hq
            have z1 := cell_fr HF.out y1
            have z2 := cell_fr HF.out y2
            have hql : q.length ≤ 1000000 := by
              have h1 := CLN.out.2 q (List.mem_of_getElem? hq)
              have := HN.out; omega
            have KV := hid (fun m : Nat => kvsd_q (wr.drewN m) ((r1.fr HF.out).fr ((Fr.refl [] wr).drewN m)) ((r2.fr HF.out).fr ((Fr.refl [] wr).drewN m)) hql hql)
            rw [decide_eq_true rfl] at KV
            have hlt' : (i : Int) < (N : Int) := by omega
            clear m1 m2 y1 y2 r1 r2 hq
            generalize q.length = ql at *
            go_upto_region 12 with fail
            go_quiet ((go_at_call 12; exact Calls.quiet_of (KV.out _)))
            go_wp2
            go_roundw
            case rel => exact ⟨i + 1, by omega, by go_num, HF.out.drewN _⟩
            case measure => simp [intOf]; omega
          · have hin : i = N := by omega
            have FN := hid (F3.out.trans HF.out)
            subst hin
            have hlt' : ¬ (i : Int) < (i : Int) := by omega
            have VC := hid (cview_c wr (HL.out.fr FN.out) (by rw [← HN.out]; omega) (RU.out.fr FN.out) BU.out seq)
            go_upto_region 15 with (go_at_call 15; refine VC.out.mono ?_; rintro e w5 ⟨hq, f5⟩; obtain ⟨vv, okv, x5, rfl, r5, b5, o5, y5⟩ := ViewR.form hq (vwG_by BYP.out); have R5 := hid r5; have B5 := hid b5; have O5 := hid o5; have Y5 := hid y5; have F5 := hid (FN.out.trans f5); clear r5 b5 o5 y5 f5 hq)
            have RV := hid (rview_c w5 (HL.out.fr F5.out) (by rw [← HN.out]; omega) (RU.out.fr F5.out) BU.out (by rw [← HUL.out]; exact lu) seq)
            go_upto_region 16 with (go_at_call 16; refine RV.out.mono ?_; rintro e w6 ⟨hq, f6⟩; obtain ⟨vw, okw, x6, rfl, r6, b6, o6, y6⟩ := ViewR.form hq (vwG_by BYP.out); have eok : okw = okv := o6.trans O5.out.symm; have ex : x6 = x5 := y6.trans Y5.out.symm; subst eok; subst ex; have R6 := hid r6; have B6 := hid b6; have R56 := hid (R5.out.fr f6); have F6 := hid (F5.out.trans f6); clear r6 b6 o6 y6 f6 hq)
            have BE := hid (bytes_c R56.out R6.out B6.out B6.out)
            rw [decide_eq_true rfl] at BE
            have hbb : (okw == okw) = true := by simp
            go_wp2_with (go_at_call 17; refine BE.out.mono ?_; rintro e w7 ⟨rfl, h⟩; rw [h]; clear h)
            go_ret
            exact ⟨rfl, F6.out⟩
      · exact absurd HR.out hr'
    · have F2 := hid (F1.out.trans f2)
      have HR := hid hr
      have RC := hid (rcut_c w2 (HL.out.fr F2.out) (by have := HN.out; omega) size sz HSZ.out)
      clear f2 hr
      go_upto_region 7 with (go_at_call 14; refine RC.out.mono ?_; rintro e w3 ⟨hq, f3⟩; rcases hq with ⟨hr', v11, rfl, p11⟩ | ⟨hr', rfl⟩)
      · exact absurd hr' HR.out
      · have F3 := hid (F2.out.trans f3)
        clear f3 RC CC
        go_wp2_with fail
        go_loopw [13] (fun v13 wr => v13 = .int .i64 0 ∧ Fr [] w3 wr) (fun _ _ => 0)
        case atStart => exact ⟨rfl, Fr.refl _ _⟩
        case round =>
          obtain ⟨rfl, hf⟩ := hrel
          have FN := hid (F3.out.trans hf)
          clear hf
          have VC := hid (cview_c wr (HL.out.fr FN.out) (by rw [← HN.out]; omega) (RU.out.fr FN.out) BU.out seq)
          go_upto_region 15 with (go_at_call 15; refine VC.out.mono ?_; rintro e w5 ⟨hq, f5⟩; obtain ⟨vv, okv, x5, rfl, r5, b5, o5, y5⟩ := ViewR.form hq (vwG_by BYP.out); have R5 := hid r5; have B5 := hid b5; have O5 := hid o5; have Y5 := hid y5; have F5 := hid (FN.out.trans f5); clear r5 b5 o5 y5 f5 hq)
          have RV := hid (rview_c w5 (HL.out.fr F5.out) (by rw [← HN.out]; omega) (RU.out.fr F5.out) BU.out (by rw [← HUL.out]; exact lu) seq)
          go_upto_region 16 with (go_at_call 16; refine RV.out.mono ?_; rintro e w6 ⟨hq, f6⟩; obtain ⟨vw, okw, x6, rfl, r6, b6, o6, y6⟩ := ViewR.form hq (vwG_by BYP.out); have eok : okw = okv := o6.trans O5.out.symm; have ex : x6 = x5 := y6.trans Y5.out.symm; subst eok; subst ex; have R6 := hid r6; have B6 := hid b6; have R56 := hid (R5.out.fr f6); have F6 := hid (F5.out.trans f6); clear r6 b6 o6 y6 f6 hq)
          have BE := hid (bytes_c R56.out R6.out B6.out B6.out)
          rw [decide_eq_true rfl] at BE
          have hbb : (okw == okw) = true := by simp
          go_wp2_with (go_at_call 17; refine BE.out.mono ?_; rintro e w7 ⟨rfl, h⟩; rw [h]; clear h)
          go_ret
          exact ⟨rfl, F6.out⟩
  · have h80' : (80 : Int) < (n : Int) := by omega
    go_wp2
    go_ret
    exact ⟨rfl, F1.out⟩
end Go.Proofs.Ythmlpjogbdpgiaa
namespace Go.Proofs.Ythmlpjogbdpgiaa
open Go.ChangeShapes Go.WideShapes Go.ChangeAt Go.RowKit Go.Deep

theorem ownKnobs : ownKnob Try.prog.godebug = none := by kernel_rfl
theorem laidOut : laidOutB Try.prog = true := by kernel_rfl

theorem nat_of {n : Int} (h : 0 ≤ n) : ∃ m : Nat, n = (m : Int) := ⟨n.toNat, by omega⟩

/-- Bytes that came in. -/
theorem bytes_of {H : Type} {enc : TypeId × Value → H} {W : World} {ua : Option Addr} {len uc : Nat} {d : DataW H} {ps : List MemPlace} (h : DataW.Trod enc Try.prog W 0 (fun _ => true) true 35 (.slice ua len uc) d ps)
    (hw : ∀ n ∈ d.weights Try.prog 35, n ≤ reachBytes) : ∃ ns : List Nat, ns.length = len ∧ Rd W (.slice ua len uc) (bv ns) ∧ By ns ∧ len ≤ 140737488351232 := by
  obtain ⟨fuel, hf⟩ := h
  rcases open_ints Try.underlying35 Try.underlying5 (by kernel_rfl) hf with ⟨hcs, _⟩ | ⟨a, l, c, zs, hcs, _, hl, hm, hz, hx, hcell, hwf⟩
  · simp [Value.cells] at hcs
    obtain ⟨rfl, rfl, rfl⟩ := hcs
    exact ⟨[], rfl, .inl ⟨rfl, rfl⟩, fun u hu => by simp at hu, by omega⟩
  · simp [Value.cells] at hcs
    obtain ⟨rfl, rfl, rfl⟩ := hcs
    simp only [Prod.mk.injEq] at hx
    obtain ⟨rfl, _⟩ := hx
    simp only [if_true] at hz
    have hXl : ((zs.take len).map Int.toNat).length = len := by rw [List.length_map, List.length_take]; omega
    have hb : ∀ z ∈ zs, 0 ≤ z ∧ z ≤ 255 := fun z hz' => bounds_u8 (hwf z hz')
    refine ⟨(zs.take len).map Int.toNat, hXl, .inr ⟨a, uc, by rw [bv_len, hXl], by rw [bv_len, hXl]; exact hl, fun j u hj => ?_⟩, fun u hu => ?_, ?_⟩
    · have hjl : j < len := by
        rcases Nat.lt_or_ge j len with h | h
        · exact h
        · rw [List.getElem?_eq_none (by rw [bv_len, hXl]; omega)] at hj; cases hj
      have hjz : j < zs.length := by omega
      rw [hcell j hjz]
      unfold bv at hj
      rw [List.getElem?_map, List.getElem?_map, List.getElem?_take, if_pos hjl, List.getElem?_eq_getElem hjz] at hj
      simp only [Option.map_some, Option.some.injEq] at hj
      rw [← hj]
      have h0 := hb _ (List.getElem_mem hjz)
      simp only [List.getD, List.getElem?_eq_getElem hjz, Option.getD_some, Int.toNat_of_nonneg h0.1]
    · obtain ⟨n, hn, rfl⟩ := List.mem_map.1 hu
      have := hb n (List.mem_of_mem_take hn)
      omega
    · have h1 := hw (uc * Try.prog.bytesOf 5) (by
        simp only [DataW.weights, Try.underlying35]
        refine List.mem_cons.2 (.inl ?_)
        rw [lits, lits, List.length_map, List.length_map, List.length_take, List.length_drop, hz]
        congr 1; omega)
      rw [show Try.prog.bytesOf 5 = 1 from by kernel_rfl] at h1
      unfold reachBytes at h1
      omega
end Go.Proofs.Ythmlpjogbdpgiaa
