/-
  The statements' comparison of pairs.
-/
import Derived.Test.YthmlpjogbdpgiaaJ10
import Derived.Test.YthmlpjogbdpgiaaJ14
namespace Go.Proofs.Ythmlpjogbdpgiaa
open Go.ChangeShapes Go.WideShapes Go.ChangeAt Go.RowKit

set_option maxRecDepth 20000 in
set_option maxHeartbeats 4000000 in
theorem kvs_c {w : World} {v1 v2 : Value} {ps : Ps} (h1 : RdK w v1 ps) (h2 : RdK w v2 ps) (hl : ps.length ≤ 1000000) :
    Calls Try.prog 12 #[v1, v2] w fun e w' => e = .returned (.bool true) ∧ Fr [] w w' := by
  obtain ⟨a1, c1, rfl, _, k1⟩ := h1
  obtain ⟨a2, c2, rfl, _, k2⟩ := h2
  have H1 := hid k1
  have H2 := hid k2
  clear k1 k2
  obtain ⟨n, hn⟩ : ∃ n, n = ps.length := ⟨_, rfl⟩
  have HN := hid hn
  rw [← hn] at hl ⊢
  clear hn
  go_enter Try.func12, Try.ntmps12
  go_wp2_with fail
  go_loopw [5] (fun v5 wr => ∃ k : Nat, k ≤ n ∧ v5 = .int .i64 (k : Int) ∧ Fr [] w wr) (fun v5 _ => n - (intOf v5).toNat)
  case atStart => exact ⟨0, Nat.zero_le _, rfl, Fr.refl _ _⟩
  case round =>
    obtain ⟨k, hk, rfl, hf⟩ := hrel
    have HF := hid hf
    clear hf
    by_cases hlt : k < n
    · obtain ⟨p, hp⟩ : ∃ p, ps[k]? = some p := ⟨_, List.getElem?_eq_getElem (by rw [← HN.out]; exact hlt)⟩
      obtain ⟨b1, o1, rfl, m1⟩ := H1.out (by have := HN.out; omega)
      obtain ⟨b2, o2, rfl, m2⟩ := H2.out (by have := HN.out; omega)
      obtain ⟨ka1, kc1, va1, vc1, P1⟩ := m1 k p hp
      obtain ⟨ka2, kc2, va2, vc2, P2⟩ := m2 k p hp
      have hs1 : ((strOf p.1).toList == (strOf p.1).toList) = true := (by simp)
      have hs2 : ((strOf p.2).toList == (strOf p.2).toList) = true := (by simp)
      have z1 := cell_fr HF.out P1.ck
      have z2 := cell_fr HF.out P1.cv
      have z3 := cell_fr HF.out P2.ck
      have z4 := cell_fr HF.out P2.cv
      have g1 := fun m : Nat => run_conv ((P1.rk.fr HF.out).fr ((Fr.refl [] wr).drewN m))
      have g2 := fun m : Nat => run_conv ((P1.rv.fr HF.out).fr ((Fr.refl [] wr).drewN m))
      have g3 := fun m : Nat => run_conv ((P2.rk.fr HF.out).fr ((Fr.refl [] wr).drewN m))
      have g4 := fun m : Nat => run_conv ((P2.rv.fr HF.out).fr ((Fr.refl [] wr).drewN m))
      have hlt' : (k : Int) < (n : Int) := by omega
      clear m1 m2 hp P1 P2
      generalize p.1.length = l1 at *
      generalize p.2.length = l2 at *
      generalize strOf p.1 = s1 at *
      generalize strOf p.2 = s2 at *
      go_upto_region 6 with fail
      go_quiet (fail)
      go_wp2
      go_roundw
      case rel => exact ⟨k + 1, by omega, by go_num, HF.out.drewN _⟩
      case measure => simp [intOf]; omega
    · have hk' : k = n := by omega
      subst hk'
      go_wp2
      go_ret
      exact ⟨rfl, HF.out⟩
theorem RdK.one {w : World} {b off n c : Nat} {ps : Ps} (h : RdK w (.slice (some ⟨b, off, none⟩) n c) ps) {i : Nat} (hi : i < ps.length) : RdK w (.slice (some ⟨b, off + i * 2, none⟩) 1 (c - i)) [(kA ps i, vA ps i)] := by
  obtain ⟨a, c', e, hc, k1⟩ := h
  obtain ⟨b', off', e', m1⟩ := k1 (by omega)
  subst e'
  simp only [Value.slice.injEq, Option.some.injEq, Addr.mk.injEq] at e
  obtain ⟨⟨rfl, rfl, _⟩, _, rfl⟩ := e
  refine ⟨_, _, rfl, by simp; omega, fun _ => ⟨_, _, rfl, fun j p hj => ?_⟩⟩
  have h0 : j = 0 := by
    rcases Nat.lt_or_ge j 1 with h | h
    · omega
    · rw [List.getElem?_eq_none (by simpa using h)] at hj; cases hj
  subst h0
  simp at hj
  subst hj
  have := m1 i _ (ps_at hi)
  simpa using this
theorem RdK.lit {w : World} {X : Nat} {ka va : Option Addr} {kc vc : Nat} {k v : List Nat} (hX : w.heap[X]? = some (.cells #[.slice ka k.length kc, .slice va v.length vc] 50 (0, 0))) (rk : Rd w (.slice ka k.length kc) (bv k)) (rv : Rd w (.slice va v.length vc) (bv v)) (bk : By k) (bv' : By v) (lk : k.length ≤ 140737488355328) (lv : v.length ≤ 140737488355328) : RdK w (.slice (some ⟨X, 0, none⟩) 1 1) [(k, v)] := by
  refine ⟨_, _, rfl, Nat.le_refl _, fun _ => ⟨_, _, rfl, fun j p hj => ?_⟩⟩
  have h0 : j = 0 := by
    rcases Nat.lt_or_ge j 1 with h | h
    · omega
    · rw [List.getElem?_eq_none (by simpa using h)] at hj; cases hj
  subst h0
  simp at hj
  subst hj
  exact ⟨ka, kc, va, vc, by rw [blk_cell hX]; rfl, by rw [blk_cell hX]; rfl, rk, rv, bk, bv', lk, lv⟩
end Go.Proofs.Ythmlpjogbdpgiaa
namespace Go.Proofs.Ythmlpjogbdpgiaa
open Go.ChangeShapes Go.WideShapes Go.ChangeAt Go.RowKit

theorem str_eqd {a b : List Nat} (ha : By a) (hb : By b) : ((strOf a).toList == (strOf b).toList) = decide (a = b) := by
  by_cases hab : a = b
  · subst hab; simp
  · rw [decide_eq_false hab]
    exact beq_eq_false_iff_ne.2 fun h => hab (strOf_inj ha hb (by
      rw [ByteArray.toList_eq, ByteArray.toList_eq] at h
      exact ByteArray.ext (Array.toList_inj.1 h)))
set_option maxRecDepth 20000 in
set_option maxHeartbeats 4000000 in
theorem kvsd_q (w : World) {v1 v2 : Value} {ps qs : Ps} (h1 : RdK w v1 ps) (h2 : RdK w v2 qs) (hl : ps.length ≤ 1000000) (hl2 : qs.length ≤ 1000000) :
    Calls Try.prog 12 #[v1, v2] w fun e w' => e = .returned (.bool (decide (ps = qs))) ∧ ∃ m, w' = w.drewN m := by
  obtain ⟨a1, c1, rfl, _, k1⟩ := h1
  obtain ⟨a2, c2, rfl, _, k2⟩ := h2
  have H1 := hid k1
  have H2 := hid k2
  clear k1 k2
  obtain ⟨n, hn⟩ : ∃ n, n = ps.length := ⟨_, rfl⟩
  have HN := hid hn
  obtain ⟨n2, hn2⟩ : ∃ n, n = qs.length := ⟨_, rfl⟩
  have HN2 := hid hn2
  rw [← hn] at hl ⊢
  rw [← hn2] at hl2 ⊢
  clear hn hn2
  by_cases he : n = n2
  · subst he
    have hb0 : ((n : Int) == (n : Int)) = true := by simp
    obtain ⟨R, hR⟩ : ∃ R, R = decide (ps = qs) := ⟨_, rfl⟩
    rw [← hR]
    have HR := hid hR
    clear hR
    go_enter Try.func12, Try.ntmps12
    go_wp2_with fail
    go_loopw [5] (fun v5 wr => ∃ k : Nat, k ≤ n ∧ v5 = .int .i64 (k : Int) ∧ (∀ j, j < k → ps[j]? = qs[j]?) ∧ ∃ m, wr = w.drewN m) (fun v5 _ => n - (intOf v5).toNat)
    case atStart => exact ⟨0, Nat.zero_le _, rfl, fun j h => by omega, 0, rfl⟩
    case round =>
      obtain ⟨k, hk, rfl, hall, hm⟩ := hrel
      have HM := hid hm
      have HA := hid hall
      have HF : Hid (Fr [] w wr) := hid (by obtain ⟨m, hm⟩ := hm; rw [hm]; exact (Fr.refl _ _).drewN _)
      clear hm hall
      by_cases hlt : k < n
      · obtain ⟨p, hp⟩ : ∃ p, ps[k]? = some p := ⟨_, List.getElem?_eq_getElem (by rw [← HN.out]; exact hlt)⟩
        obtain ⟨q, hq⟩ : ∃ p, qs[k]? = some p := ⟨_, List.getElem?_eq_getElem (by rw [← HN2.out]; exact hlt)⟩
        have HP := hid hp
        have HQ := hid hq
        obtain ⟨b1, o1, rfl, m1⟩ := H1.out (by have := HN.out; omega)
        obtain ⟨b2, o2, rfl, m2⟩ := H2.out (by have := HN2.out; omega)
        obtain ⟨ka1, kc1, va1, vc1, P1⟩ := m1 k p hp
        obtain ⟨ka2, kc2, va2, vc2, P2⟩ := m2 k q hq
        have hs1 := str_eqd P1.bk P2.bk
        have hs2 := str_eqd P1.bv' P2.bv'
        have z1 := cell_fr HF.out P1.ck
        have z2 := cell_fr HF.out P1.cv
        have z3 := cell_fr HF.out P2.ck
        have z4 := cell_fr HF.out P2.cv
        have g1 := fun m : Nat => run_conv ((P1.rk.fr HF.out).fr ((Fr.refl [] wr).drewN m))
        have g2 := fun m : Nat => run_conv ((P1.rv.fr HF.out).fr ((Fr.refl [] wr).drewN m))
        have g3 := fun m : Nat => run_conv ((P2.rk.fr HF.out).fr ((Fr.refl [] wr).drewN m))
        have g4 := fun m : Nat => run_conv ((P2.rv.fr HF.out).fr ((Fr.refl [] wr).drewN m))
        have hlt' : (k : Int) < (n : Int) := by omega
        clear m1 m2 hp hq P1 P2
        by_cases e1 : p.1 = q.1
        · rw [decide_eq_true e1] at hs1
          by_cases e2 : p.2 = q.2
          · rw [decide_eq_true e2] at hs2
            have NXT : Hid (∀ j, j < k + 1 → ps[j]? = qs[j]?) := hid (fun j hj => by
              by_cases hjk : j < k
              · exact HA.out j hjk
              · have : j = k := by omega
                subst this
                rw [HP.out, HQ.out]
                exact congrArg some (Prod.ext e1 e2))
            clear e1 e2
            generalize p.1.length = l1 at *
            generalize p.2.length = l2 at *
            generalize strOf p.1 = s1 at *
            generalize strOf p.2 = s2 at *
            generalize q.1.length = l3 at *
            generalize q.2.length = l4 at *
            generalize strOf q.1 = s3 at *
            generalize strOf q.2 = s4 at *
            go_upto_region 6 with fail
            go_quiet (fail)
            go_wp2
            go_roundw
            case rel => exact ⟨k + 1, by omega, by go_num, NXT.out, by obtain ⟨m, hm⟩ := HM.out; rw [hm]; exact ⟨_, World.drewN_drewN _ _ _⟩⟩
            case measure => simp [intOf]; omega
          · rw [decide_eq_false e2] at hs2
            have RF : R = false := by rw [HR.out]; exact decide_eq_false (fun e => e2 (by have h1 := HP.out; rw [e, HQ.out] at h1; simp at h1; rw [h1]))
            subst RF
            clear e1 e2
            generalize p.1.length = l1 at *
            generalize p.2.length = l2 at *
            generalize strOf p.1 = s1 at *
            generalize strOf p.2 = s2 at *
            generalize q.1.length = l3 at *
            generalize q.2.length = l4 at *
            generalize strOf q.1 = s3 at *
            generalize strOf q.2 = s4 at *
            go_upto_region 6 with fail
            go_quiet (fail)
            go_wp2
            go_ret
            exact ⟨rfl, by obtain ⟨m, hm⟩ := HM.out; rw [hm]; exact ⟨_, World.drewN_drewN _ _ _⟩⟩
        · rw [decide_eq_false e1] at hs1
          have RF : R = false := by rw [HR.out]; exact decide_eq_false (fun e => e1 (by have h1 := HP.out; rw [e, HQ.out] at h1; simp at h1; rw [h1]))
          subst RF
          clear e1
          generalize p.1.length = l1 at *
          generalize p.2.length = l2 at *
          generalize strOf p.1 = s1 at *
          generalize strOf p.2 = s2 at *
          generalize q.1.length = l3 at *
          generalize q.2.length = l4 at *
          generalize strOf q.1 = s3 at *
          generalize strOf q.2 = s4 at *
          go_upto_region 6 with fail
          go_quiet (fail)
          go_wp2
          go_ret
          exact ⟨rfl, by obtain ⟨m, hm⟩ := HM.out; rw [hm]; exact ⟨_, World.drewN_drewN _ _ _⟩⟩
      · have hk' : k = n := by omega
        have RT : R = true := by
          rw [HR.out]
          refine decide_eq_true (List.ext_getElem? fun j => ?_)
          by_cases hj : j < k
          · exact HA.out j hj
          · rw [List.getElem?_eq_none (by rw [← HN.out]; omega), List.getElem?_eq_none (by rw [← HN2.out]; omega)]
        subst hk'
        subst RT
        go_wp2
        go_ret
        exact ⟨rfl, HM.out⟩
  · have RF : decide (ps = qs) = false := decide_eq_false (fun e => he (by rw [HN.out, HN2.out, e]))
    rw [RF]
    have hb0 : ((n : Int) == (n2 : Int)) = false := beq_eq_false_iff_ne.2 (by omega)
    go_enter Try.func12, Try.ntmps12
    go_wp2
    go_ret
    exact ⟨rfl, 0, rfl⟩
end Go.Proofs.Ythmlpjogbdpgiaa
