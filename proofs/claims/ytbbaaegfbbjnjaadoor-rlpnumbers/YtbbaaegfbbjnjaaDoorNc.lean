/-
  Numbers: read back by the program and by the document; the document's bytes of a number.
-/
import Derived.Test.YtbbaaegfbbjnjaaDoorJ27
namespace Go.Proofs.YtbbaaegfbbjnjaaDoor
open Go.ChangeShapes Go.WideShapes Go.ChangeAt Go.RowKit

set_option maxRecDepth 20000 in
set_option maxHeartbeats 1600000 in
theorem rnum_c (w : World) {v : Value} {b : List Nat} (hr : Rd w v (bv b)) (hb : By b) (hl : b.length ≤ 140737488355328) {most : Nat} (_hm : most ≤ 100) :
    Calls Tryd.prog 23 #[v, .int .i64 (most : Int)] w fun e w' => (∃ a c, e = .returned (.tuple #[.slice a (unL b most).1.length c, .int .i64 ((unL b most).2 : Int)]) ∧ Rd w' (.slice a (unL b most).1.length c) (bv (unL b most).1) ∧ By (unL b most).1) ∧ Fr [] w w' := by
  have DC := hid (rdecode_c w hr hb hl)
  have HE : Hid (∀ e, firstL b = .error e → 0 < e ∧ e < 100) := hid (fun e h => firstL_err2 hb h)
  obtain ⟨ao, cc, hv⟩ := hr.form
  rw [bv_len] at hv
  subst hv
  have HU : Hid (unL b most = match firstL b with
    | .error e => ([], e)
    | .ok (t, k, _) => if k < b.length then ([], 42) else if tL t = true ∨ most < (tB t).length then ([], 45) else if 0 < (tB t).length ∧ (tB t).headD 0 = 0 then ([], 40) else (tB t, 0)) := hid rfl
  obtain ⟨U, hU⟩ : ∃ U, U = unL b most := ⟨_, rfl⟩
  rw [← hU]
  rw [← hU] at HU
  obtain ⟨L, hL⟩ : ∃ L, L = b.length := ⟨_, rfl⟩
  rw [← hL] at DC hl HU ⊢
  generalize firstL b = res at *
  clear hr hb hU hL
  go_enter Tryd.func23, Tryd.ntmps23
  go_wp2_with fail
  refine DC.out.mono ?_
  rintro r w1 ⟨hT, f1⟩
  obtain ⟨l, a1, n1, c1, a2, n2, c2, rfl, hTl⟩ := hT.parts (fun e h => (HE.out e h).1)
  obtain ⟨W1, hW1⟩ : ∃ W, W = w1.alloc (.cells #[.bool l, .slice a1 n1 c1, .slice a2 n2 c2] 44) := ⟨_, rfl⟩
  have F1 : Hid (Fr [] w W1) := hid (by rw [hW1]; exact f1.alloc _)
  have X1 : Hid (W1.heap[w1.heap.size]? = some (.cells #[.bool l, .slice a1 n1 c1, .slice a2 n2 c2] 44 (0, 0))) := hid (by rw [hW1]; exact blk_new _ _)
  have T1 : Hid (Tld W1 w.heap.size (decE L res) l (.slice a1 n1 c1) (.slice a2 n2 c2) res) := hid (by rw [hW1]; exact hTl.fr ((Fr.refl _ w1).alloc _))
  have x0 := blk_cell X1.out 0
  have x1 := blk_cell X1.out 1
  simp at x0 x1
  have hDl : decE L res ≤ 100 := by
    rcases res with x | ⟨t, k, c⟩
    · have := HE.out x rfl; show x ≤ 100; omega
    · show (if k < L then 42 else 0) ≤ 100; split <;> omega
  obtain ⟨E, hE⟩ : ∃ E, E = decE L res := ⟨_, rfl⟩
  rw [← hE] at T1 hDl ⊢
  have HEE := hid hE
  clear hT hTl f1 hE
  go_upto_region 2 with fail
  rw [← hW1]
  clear hW1
  by_cases h0 : E = 0
  · subst h0
    obtain ⟨t, k, c, hres, hF⟩ := T1.out.2 rfl
    subst hres
    have hkL : ¬ k < L := fun h => by
      have : (0 : Nat) = 42 := by rw [HEE.out]; show (if k < L then 42 else 0) = 42; rw [if_pos h]
      omega
    obtain ⟨bs, ka, kc, e1, hR, hBy, hBl, hkc, g1, g2⟩ := hF.isV
    clear g1 g2
    simp only [Value.agg.injEq, Array.mk.injEq, List.cons.injEq, Value.bool.injEq] at e1
    obtain ⟨el, eb, ei, e9⟩ := e1
    clear e9
    subst eb
    obtain ⟨xa, xc, e2⟩ := hR.form
    simp only [Value.slice.injEq, bv_len] at e2
    have en := e2.2.1
    clear e2 xa xc
    have HRD := hid hR
    have HBY := hid hBy
    have HN1 := hid en
    have HEL := hid el
    have hnb : n1 ≤ 140737488355328 := by rw [en]; exact hBl
    have HU2 : Hid (U = if l = true ∨ most < n1 then ([], 45) else if 0 < n1 ∧ (tB t).headD 0 = 0 then ([], 40) else (tB t, 0)) := hid (by rw [HU.out]; dsimp only; rw [if_neg hkL, ← el, ← en])
    clear hF hR hBy hBl hkc ei el en
    rcases l with _ | _
    · by_cases hmost : most < n1
      · have hm' : (most : Int) < (n1 : Int) := by omega
        have hU : Hid (U = ([], 45)) := hid (by rw [HU2.out, if_pos (.inr hmost)])
        go_wp2
        go_ret2
        rw [hU.out]
        exact ⟨⟨none, 0, rfl, .inl ⟨rfl, rfl⟩, fun x hx => by cases hx⟩, F1.out⟩
      · have hm' : ¬ (most : Int) < (n1 : Int) := by omega
        have HU3 : Hid (U = if 0 < n1 ∧ (tB t).headD 0 = 0 then ([], 40) else (tB t, 0)) := hid (by rw [HU2.out, if_neg (by simp; omega)])
        by_cases hn0 : 0 < n1
        · have hn0' : (0 : Int) < (n1 : Int) := by omega
          obtain ⟨x, hx⟩ : ∃ x, (tB t)[0]? = some x := ⟨_, List.getElem?_eq_getElem (by rw [← HN1.out]; exact hn0)⟩
          have hxd : (tB t).headD 0 = x := by
            rcases htb : tB t with _ | ⟨y, q⟩
            · rw [htb] at hx; simp at hx
            · rw [htb] at hx; simp at hx; simpa using hx
          rcases HRD.out.split with ⟨e, _⟩ | ⟨q, o, c', e, _, _, hc⟩
          · rw [e] at hx; simp at hx
          simp only [Value.slice.injEq] at e
          obtain ⟨rfl, e4, rfl⟩ := e
          have hcx := hc 0 x hx
          simp at hcx
          clear hc e4 hx
          by_cases hx0 : x = 0
          · have hU : Hid (U = ([], 40)) := hid (by rw [HU3.out, if_pos ⟨hn0, by rw [hxd]; exact hx0⟩])
            subst hx0
            clear hxd
            go_wp2
            go_ret2
            rw [hU.out]
            exact ⟨⟨none, 0, rfl, .inl ⟨rfl, rfl⟩, fun x hx => by cases hx⟩, F1.out⟩
          · have hU : Hid (U = (tB t, 0)) := hid (by rw [HU3.out, if_neg (by rw [hxd]; exact fun h => hx0 h.2)])
            have hx0' : ((x : Int) == 0) = false := beq_eq_false_iff_ne.2 (by omega)
            clear hxd
            go_wp2
            go_ret2
            rw [hU.out]
            refine ⟨⟨_, _, by rw [← HN1.out]; rfl, ?_, HBY.out⟩, F1.out⟩
            rw [← HN1.out]; exact HRD.out
        · have hn0' : ¬ (0 : Int) < (n1 : Int) := by omega
          have hU : Hid (U = (tB t, 0)) := hid (by rw [HU3.out, if_neg (fun h => hn0 h.1)])
          go_wp2
          go_ret2
          rw [hU.out]
          refine ⟨⟨a1, c1, by rw [← HN1.out]; rfl, ?_, HBY.out⟩, F1.out⟩
          rw [← HN1.out]; exact HRD.out
    · have hU : Hid (U = ([], 45)) := hid (by rw [HU2.out, if_pos (.inl rfl)])
      go_wp2
      go_ret2
      rw [hU.out]
      exact ⟨⟨none, 0, rfl, .inl ⟨rfl, rfl⟩, fun x hx => by cases hx⟩, F1.out⟩
  · have hz : ((E : Int) == 0) = false := beq_eq_false_iff_ne.2 (by omega)
    have hU : Hid (U = ([], E)) := hid (by
      rw [HU.out]
      rcases res with x | ⟨t, k, c⟩
      · rw [HEE.out]; rfl
      · have : k < L := by
          rcases Nat.lt_or_ge k L with h | h
          · exact h
          · exact absurd (by rw [HEE.out]; show (if k < L then 42 else 0) = 0; rw [if_neg (by omega)]) h0
        dsimp only
        rw [if_pos this, HEE.out]
        show ([], 42) = ([], if k < L then 42 else 0)
        rw [if_pos this])
    go_wp2
    go_ret2
    rw [hU.out]
    exact ⟨⟨none, 0, rfl, .inl ⟨rfl, rfl⟩, fun x hx => by cases hx⟩, F1.out⟩
set_option maxRecDepth 20000 in
set_option maxHeartbeats 800000 in
theorem unuint_c (w : World) {v : Value} {b : List Nat} (hr : Rd w v (bv b)) (hb : By b) (hl : b.length ≤ 140737488355328) :
    Calls Tryd.prog 10 #[v] w fun e w' => e = .returned (.tuple #[.int .u64 (big (unL b 8).1 : Int), .int .i64 ((unL b 8).2 : Int)]) ∧ Fr [] w w' := by
  have UC := hid (undig_c w hr hb hl (most := 8) (by omega))
  have hle := unL_le (b := b) (most := 8)
  obtain ⟨ao, cc, hv⟩ := hr.form
  rw [bv_len] at hv
  subst hv
  generalize unL b 8 = U at *
  generalize b.length = L at *
  obtain ⟨l, e⟩ := U
  dsimp only at UC hle ⊢
  have HLE := hid hle
  clear hr hb hle
  go_enter Tryd.func10, Tryd.ntmps10
  go_wp2_with fail
  refine UC.out.mono ?_
  rintro r w1 ⟨⟨a1, c1, rfl, r1, b1⟩, f1⟩
  have NC := hid (number_c w1 r1 b1 HLE.out)
  have F1 := hid f1
  generalize l.length = n at *
  clear r1 b1 f1
  go_wp2_with fail
  refine NC.out.mono ?_
  rintro r w2 ⟨rfl, hw2⟩
  have hw2' := hw2.symm
  clear hw2
  subst hw2'
  go_wp2
  go_ret2
  exact ⟨rfl, F1.out⟩

set_option maxRecDepth 20000 in
set_option maxHeartbeats 1600000 in
theorem runuint_c (w : World) {v : Value} {b : List Nat} (hr : Rd w v (bv b)) (hb : By b) (hl : b.length ≤ 140737488355328) :
    Calls Tryd.prog 12 #[v] w fun e w' => e = .returned (.tuple #[.int .u64 (big (unL b 8).1 : Int), .int .i64 ((unL b 8).2 : Int)]) ∧ Fr [] w w' := by
  have UC := hid (rnum_c w hr hb hl (most := 8) (by omega))
  have hle := unL_le (b := b) (most := 8)
  obtain ⟨ao, cc, hv⟩ := hr.form
  rw [bv_len] at hv
  subst hv
  generalize unL b 8 = U at *
  generalize b.length = L at *
  obtain ⟨l, e⟩ := U
  dsimp only at UC hle ⊢
  obtain ⟨R, hR⟩ : ∃ R, R = big l := ⟨_, rfl⟩
  rw [← hR]
  have HRR := hid hR
  clear hr hb hR
  go_enter Tryd.func12, Tryd.ntmps12
  go_wp2_with fail
  refine UC.out.mono ?_
  rintro r w1 ⟨⟨a1, c1, rfl, r1, b1⟩, f1⟩
  have R1 := hid r1
  have B1 := hid b1
  have F1 := hid f1
  obtain ⟨n, hn⟩ : ∃ n, n = l.length := ⟨_, rfl⟩
  rw [← hn] at R1 hle ⊢
  have HN := hid hn
  clear r1 b1 f1 hn
  go_wp2_with fail
  go_loopw [6, 7] (fun v6 v7 wr => w1 = wr ∧ ∃ i m : Nat, i ≤ n ∧ v7 = .int .i64 (i : Int) ∧ v6 = .int .u64 (m : Int) ∧ m = big (l.take i)) (fun _ v7 _ => n - (intOf v7).toNat)
  case atStart => exact ⟨rfl, 0, 0, by omega, rfl, rfl, rfl⟩
  case round =>
    obtain ⟨rfl, i, m, hi, rfl, rfl, hm⟩ := hrel
    have HM := hid hm
    have hm1 : m < 256 ^ i := by rw [hm]; have := big_lt (l.take i) (B1.out.take i); rwa [List.length_take, ← HN.out, Nat.min_eq_left hi] at this
    clear hm
    by_cases hin : i < n
    · obtain ⟨x, hx⟩ : ∃ x, l[i]? = some x := ⟨_, List.getElem?_eq_getElem (by rw [← HN.out]; exact hin)⟩
      have hxb := B1.out.at hx
      rcases R1.out.split with ⟨e0, _⟩ | ⟨q, o, c, e0, _, _, hc⟩
      · rw [e0] at hx; simp at hx
      simp only [Value.slice.injEq] at e0
      obtain ⟨rfl, e1, rfl⟩ := e0
      have hcx := hc i x hx
      have HBT := hid (big_take hx)
      have hpw : (256 : Nat) ^ i * 256 ≤ 256 ^ 8 := by rw [← Nat.pow_succ]; exact Nat.pow_le_pow_right (by omega) (by omega)
      have hmx : 256 * m + x < 18446744073709551616 := by
        have : (256 : Nat) ^ 8 = 18446744073709551616 := by decide
        omega
      have hin' : (i : Int) < (n : Int) := by omega
      have hw1 : IntKind.u64.wrap (256 * (m : Int)) = 256 * (m : Int) := by rw [IntKind.wrap_u64]; omega
      have hw2 : IntKind.u64.wrap (256 * (m : Int) + (x : Int)) = 256 * (m : Int) + (x : Int) := by rw [IntKind.wrap_u64]; omega
      have HM2 : Hid (256 * m + x = big (l.take (i + 1))) := hid (by rw [HBT.out, HM.out])
      clear hc e1 hx hpw
      go_wp2
      go_roundw
      case rel => exact ⟨by first | rfl | trivial, i + 1, 256 * m + x, by omega, by go_num, by go_num, HM2.out⟩
      case measure => simp [intOf]; omega
    · have hi2 : i = n := by omega
      subst hi2
      have hin' : ¬ (i : Int) < (i : Int) := by omega
      have hmR : m = R := by rw [HM.out, HRR.out, HN.out, List.take_length]
      subst hmR
      go_wp2
      go_ret2
      exact ⟨rfl, F1.out⟩

set_option maxRecDepth 20000 in
set_option maxHeartbeats 1600000 in
theorem rdigits_c (w : World) {v : Value} {b : List Nat} (hr : Rd w v (bv b)) (hb : By b) (hl : b.length ≤ 1000) :
    Calls Tryd.prog 20 #[v] w fun e w' => (∃ a c, e = .returned (.slice a (dropZ b).length c) ∧ Rd w (.slice a (dropZ b).length c) (bv (dropZ b))) ∧ w' = w := by
  obtain ⟨ao, cc, hv⟩ := hr.form
  rw [bv_len] at hv
  subst hv
  obtain ⟨D, hD⟩ : ∃ D, D = dropZ b := ⟨_, rfl⟩
  rw [← hD]
  have HD := hid hD
  have HR := hid hr
  have HB := hid hb
  obtain ⟨L, hL⟩ : ∃ L, L = b.length := ⟨_, rfl⟩
  rw [← hL] at hl HR ⊢
  have HL := hid hL
  clear hr hb hD hL
  go_enter Tryd.func20, Tryd.ntmps20
  go_wp2_with fail
  go_loopw [0] (fun v0 wr => w = wr ∧ ∃ (l : List Nat) (a : Option Addr) (c : Nat), v0 = .slice a l.length c ∧ l.length ≤ 1000 ∧ l.length ≤ c ∧ Rd w (.slice a l.length c) (bv l) ∧ By l ∧ D = dropZ l) (fun v0 _ => match v0 with | .slice _ n _ => n | _ => 0)
  case atStart =>
    refine ⟨rfl, b, ao, cc, by rw [← HL.out], by rw [← HL.out]; exact hl, ?_, by rw [← HL.out]; exact HR.out, HB.out, HD.out⟩
    rcases HR.out with ⟨h, h0⟩ | ⟨_, _, h, h4, _⟩
    · simp only [Value.slice.injEq] at h; rw [← HL.out]; omega
    · simp only [Value.slice.injEq] at h; rw [bv_len] at h4; omega
  case round =>
    obtain ⟨rfl, l, a, c, rfl, hl1, hlc, hR, hB, hDl⟩ := hrel
    have HR := hid hR
    have HB := hid hB
    have HDL := hid hDl
    rcases l with _ | ⟨x, r⟩
    · have hD0 : Hid (D = []) := hid (by rw [HDL.out]; rfl)
      simp only [List.length_nil] at HR ⊢
      clear hR hB hDl
      go_wp2
      go_ret
      rw [hD0.out]
      exact ⟨⟨a, c, rfl, HR.out⟩, rfl⟩
    · rcases hR.split with ⟨e0, _⟩ | ⟨q, o, c', e0, _, _, hc⟩
      · cases e0
      simp only [Value.slice.injEq] at e0
      obtain ⟨rfl, e1, rfl⟩ := e0
      have hcx := hc 0 x rfl
      simp at hcx
      have hxb : x < 256 := HB.out x (by simp)
      obtain ⟨n, hn⟩ : ∃ n, n = r.length := ⟨_, rfl⟩
      have hlen : (x :: r).length = n + 1 := by rw [hn]; rfl
      rw [hlen] at HR hl1 hlc ⊢
      have HN := hid hn
      have HLEN := hid hlen
      clear hc e1 hR hB hDl hn hlen
      have hn0 : (0 : Int) < ((n + 1 : Nat) : Int) := by omega
      by_cases hx0 : x = 0
      · subst hx0
        have hDr : Hid (D = dropZ r) := hid (by rw [HDL.out]; rfl)
        have hBr : Hid (By r) := hid (fun y hy => HB.out y (by simp [hy]))
        by_cases h1 : c = 1
        · have hn00 : n = 0 := by omega
          have hr0 : r = [] := List.eq_nil_of_length_eq_zero (by rw [← HN.out]; exact hn00)
          subst hr0
          subst hn00
          subst h1
          go_wp2
          go_roundw
          case rel => exact ⟨by first | rfl | trivial, [], some ⟨q, o, none⟩, 0, rfl, by simp, by simp, .inr ⟨_, _, rfl, Nat.zero_le _, fun j u hj => by simp [bv] at hj⟩, hBr.out, hDr.out⟩
          case measure => simp
        · have hRb : Hid (Rd w (.slice (some ⟨q, o + 1, none⟩) n (c - 1)) (bv r)) := hid (by
            have h' := HR.out
            rw [← HLEN.out] at h'
            have := h'.mid (i := 1) (n := n) (by rw [HLEN.out]; omega)
            rw [show ((0 :: r).drop 1).take n = r from by rw [HN.out]; simp] at this
            exact this)
          go_wp2
          go_roundw
          case rel => exact ⟨by first | rfl | trivial, r, some ⟨q, o + 1, none⟩, c - 1, by rw [← HN.out], by rw [← HN.out]; omega, by rw [← HN.out]; omega, by rw [← HN.out]; exact hRb.out, hBr.out, hDr.out⟩
          case measure => simp
      · have hx0' : ((x : Int) == 0) = false := beq_eq_false_iff_ne.2 (by omega)
        have hD0 : Hid (D = x :: r) := hid (by rw [HDL.out]; unfold dropZ; rw [if_neg hx0])
        go_wp2
        go_ret
        rw [hD0.out, HLEN.out]
        exact ⟨⟨_, c, rfl, HR.out⟩, rfl⟩
end Go.Proofs.YtbbaaegfbbjnjaaDoor
