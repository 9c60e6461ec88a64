/-
  The statements' comparison of pairs.
-/
import Derived.Test.YtolcocplinkpdaaJ10
import Derived.Test.YtolcocplinkpdaaXT
import Derived.Test.YtolcocplinkpdaaTB
namespace Go.Proofs.Ytolcocplinkpdaa
open Go.ChangeShapes Go.WideShapes Go.ChangeAt Go.RowKit

set_option maxRecDepth 20000 in
set_option maxHeartbeats 4000000 in
theorem kvs_c {w : World} {v1 v2 : Value} {ps : Ps} (h1 : RdK w v1 ps) (h2 : RdK w v2 ps) (hl : ps.length ≤ 1000000) :
    Calls Try.prog 13 #[v1, v2] w fun e w' => e = .returned (.bool true) ∧ Fr [] w w' := by
  obtain ⟨a1, c1, rfl, _, k1⟩ := h1
  obtain ⟨a2, c2, rfl, _, k2⟩ := h2
  have H1 := hid k1
  have H2 := hid k2
  clear k1 k2
  obtain ⟨n, hn⟩ : ∃ n, n = ps.length := ⟨_, rfl⟩
  have HN := hid hn
  rw [← hn] at hl ⊢
  clear hn
  go_enter Try.func13, Try.ntmps13
  go_wp2_with fail
  go_loopw [5] (fun v5 wr => ∃ k : Nat, k ≤ n ∧ v5 = .int .i64 (k : Int) ∧ Fr [] w wr) (fun v5 _ => n - (intOf v5).toNat)
  case atStart => exact ⟨0, Nat.zero_le _, rfl, Fr.refl _ _⟩
  case round =>
    obtain ⟨k, hk, rfl, hf⟩ := hrel
    have HF := hid hf
    clear hf
    by_cases hlt : k < n
    · obtain ⟨p, hp⟩ : ∃ p, ps[k]? = some p := ⟨_, List.getElem?_eq_getElem (by rw [← HN.out]; exact hlt)⟩
      obtain ⟨b1, o1, rfl, m1⟩ := H1.out (by have := HN.out; omega)
      obtain ⟨b2, o2, rfl, m2⟩ := H2.out (by have := HN.out; omega)
      obtain ⟨ka1, kc1, va1, vc1, P1⟩ := m1 k p hp
      obtain ⟨ka2, kc2, va2, vc2, P2⟩ := m2 k p hp
      have hs1 : ((strOf p.1).toList == (strOf p.1).toList) = true := (by simp)
      have hs2 : ((strOf p.2).toList == (strOf p.2).toList) = true := (by simp)
      have z1 := cell_fr HF.out P1.ck
      have z2 := cell_fr HF.out P1.cv
      have z3 := cell_fr HF.out P2.ck
      have z4 := cell_fr HF.out P2.cv
      have g1 := fun m : Nat => run_conv ((P1.rk.fr HF.out).fr ((Fr.refl [] wr).drewN m))
      have g2 := fun m : Nat => run_conv ((P1.rv.fr HF.out).fr ((Fr.refl [] wr).drewN m))
      have g3 := fun m : Nat => run_conv ((P2.rk.fr HF.out).fr ((Fr.refl [] wr).drewN m))
      have g4 := fun m : Nat => run_conv ((P2.rv.fr HF.out).fr ((Fr.refl [] wr).drewN m))
      have hlt' : (k : Int) < (n : Int) := by omega
      clear m1 m2 hp P1 P2
      generalize p.1.length = l1 at *
      generalize p.2.length = l2 at *
      generalize strOf p.1 = s1 at *
      generalize strOf p.2 = s2 at *
      go_upto_region 6 with fail
      go_quiet (fail)
      go_wp2
      go_roundw
      case rel => exact ⟨k + 1, by omega, by go_num, HF.out.drewN _⟩
      case measure => simp [intOf]; omega
    · have hk' : k = n := by omega
      subst hk'
      go_wp2
      go_ret
      exact ⟨rfl, HF.out⟩
theorem RdK.one {w : World} {b off n c : Nat} {ps : Ps} (h : RdK w (.slice (some ⟨b, off, none⟩) n c) ps) {i : Nat} (hi : i < ps.length) : RdK w (.slice (some ⟨b, off + i * 2, none⟩) 1 (c - i)) [(kA ps i, vA ps i)] := by
  obtain ⟨a, c', e, hc, k1⟩ := h
  obtain ⟨b', off', e', m1⟩ := k1 (by omega)
  subst e'
  simp only [Value.slice.injEq, Option.some.injEq, Addr.mk.injEq] at e
  obtain ⟨⟨rfl, rfl, _⟩, _, rfl⟩ := e
  refine ⟨_, _, rfl, by simp; omega, fun _ => ⟨_, _, rfl, fun j p hj => ?_⟩⟩
  have h0 : j = 0 := by
    rcases Nat.lt_or_ge j 1 with h | h
    · omega
    · rw [List.getElem?_eq_none (by simpa using h)] at hj; cases hj
  subst h0
  simp at hj
  subst hj
  have := m1 i _ (ps_at hi)
  simpa using this
theorem RdK.lit {w : World} {X : Nat} {ka va : Option Addr} {kc vc : Nat} {k v : List Nat} (hX : w.heap[X]? = some (.cells #[.slice ka k.length kc, .slice va v.length vc] 48 (0, 0))) (rk : Rd w (.slice ka k.length kc) (bv k)) (rv : Rd w (.slice va v.length vc) (bv v)) (bk : By k) (bv' : By v) (lk : k.length ≤ 140737488355328) (lv : v.length ≤ 140737488355328) : RdK w (.slice (some ⟨X, 0, none⟩) 1 1) [(k, v)] := by
  refine ⟨_, _, rfl, Nat.le_refl _, fun _ => ⟨_, _, rfl, fun j p hj => ?_⟩⟩
  have h0 : j = 0 := by
    rcases Nat.lt_or_ge j 1 with h | h
    · omega
    · rw [List.getElem?_eq_none (by simpa using h)] at hj; cases hj
  subst h0
  simp at hj
  subst hj
  exact ⟨ka, kc, va, vc, by rw [blk_cell hX]; rfl, by rw [blk_cell hX]; rfl, rk, rv, bk, bv', lk, lv⟩
end Go.Proofs.Ytolcocplinkpdaa
namespace Go.Proofs.Ytolcocplinkpdaa
open Go.ChangeShapes Go.WideShapes Go.ChangeAt Go.RowKit

set_option maxRecDepth 20000 in
set_option maxHeartbeats 1600000 in
theorem few8_c (w : World) {v : Value} {ps : Ps} (h : RdK w v ps) (hl : ps.length ≤ 140737488355328) :
    Calls Try.prog 8 #[v] w fun e w' => (e = .returned (.bool false) ∨ e = .returned (.bool true) ∧ Few ps) ∧ Fr [] w w' := by
  have HL := hid h.lens
  obtain ⟨a, c, rfl, hc, k1⟩ := h
  have H1 := hid k1
  clear k1
  obtain ⟨n, hn⟩ : ∃ n, n = ps.length := ⟨_, rfl⟩
  have HN := hid hn
  rw [← hn] at hl hc ⊢
  clear hn
  go_enter Try.func8, Try.ntmps8
  go_wp2_with fail
  go_loopw [3, 4] (fun v3 v4 wr => ∃ i : Nat, i ≤ n ∧ v4 = .int .i64 (i : Int) ∧ v3 = .int .i64 (tot ps i : Int) ∧ tot ps i ≤ 281474976715656 ∧ Fr [] w wr) (fun _ v4 _ => n - (intOf v4).toNat)
  case atStart => exact ⟨0, Nat.zero_le _, rfl, rfl, by simp [tot], Fr.refl _ _⟩
  case round =>
    obtain ⟨i, hi, rfl, rfl, ht, hf⟩ := hrel
    have HF := hid hf
    have htt1 : tot ps (i + 1) = tot ps i + (kA ps i).length + (vA ps i).length := rfl
    have HTT := hid htt1
    have HTN := hid (tot_le ps (i := i) (j := n) hi)
    clear hf htt1
    generalize htt : tot ps i = tt at *
    by_cases hgo : i < n ∧ tt ≤ 5000
    · obtain ⟨hlt, h5⟩ := hgo
      have hil : i < ps.length := by rw [← HN.out]; exact hlt
      obtain ⟨b, off, rfl, m1⟩ := H1.out (by omega)
      obtain ⟨ka, kc, va, vc, P⟩ := m1 i _ (ps_at hil)
      have z1 := cell_fr HF.out P.ck
      have z2 := cell_fr HF.out P.cv
      have hlk := P.lk
      have hlv := P.lv
      dsimp only at z1 z2 hlk hlv
      clear P m1 htt hil
      generalize (kA ps i).length = lk at *
      generalize (vA ps i).length = lv at *
      have hlt' : (i : Int) < (n : Int) := by omega
      have h5' : (tt : Int) ≤ 5000 := by omega
      have w1 : IntKind.i64.wrap ((tt : Int) + (lk : Int)) = (tt : Int) + (lk : Int) := by rw [IntKind.wrap_i64]; omega
      have w2 : IntKind.i64.wrap ((tt : Int) + (lk : Int) + (lv : Int)) = (tt : Int) + (lk : Int) + (lv : Int) := by rw [IntKind.wrap_i64]; omega
      go_upto_region 5 with fail
      go_quiet (fail)
      clear w1 w2
      go_wp2
      go_roundw
      case rel => exact ⟨i + 1, by omega, by go_num, by rw [HTT.out]; simp, by rw [HTT.out]; omega, HF.out.drewN _⟩
      case measure => simp [intOf]; omega
    · by_cases h60 : n ≤ 60
      · by_cases h5 : tt ≤ 5000
        · have hin : i = n := by omega
          subst hin
          go_wp2
          go_ret
          exact ⟨.inr ⟨by simp <;> omega, by rw [← HN.out]; omega, by rw [← HN.out, htt]; exact h5⟩, HF.out⟩
        · by_cases hlt : i < n
          all_goals
            go_wp2
            go_ret
            exact ⟨.inl (by simp <;> omega), HF.out⟩
      · by_cases hlt : i < n
        all_goals
          go_wp2
          all_goals
            go_ret
            exact ⟨.inl (by simp <;> omega), HF.out⟩
/-- What a table is built to, or why not. -/
def TbR (b r i t : Int) (ps : Ps) (x : Nat) (X : List Nat) : Prop :=
  (x = 82 ∧ ¬ PlanOk b r i t ∧ X = []) ∨ (x = 83 ∧ PlanOk b r i t ∧ ps = [] ∧ X = []) ∨ (x = 70 ∧ PlanOk b r i t ∧ ps ≠ [] ∧ ¬ Rises ps ∧ X = []) ∨ (x = 0 ∧ PlanOk b r i t ∧ ps ≠ [] ∧ Rises ps ∧ X = tblL r.toNat b.toNat i.toNat ps)
theorem tbr_ex (b r i t : Int) (ps : Ps) : ∃ x X, TbR b r i t ps x X := by
  by_cases h1 : PlanOk b r i t
  · by_cases h2 : ps = []
    · exact ⟨83, [], .inr (.inl ⟨rfl, h1, h2, rfl⟩)⟩
    · by_cases h3 : Rises ps
      · exact ⟨0, _, .inr (.inr (.inr ⟨rfl, h1, h2, h3, rfl⟩))⟩
      · exact ⟨70, [], .inr (.inr (.inl ⟨rfl, h1, h2, h3, rfl⟩))⟩
  · exact ⟨82, [], .inl ⟨rfl, h1, rfl⟩⟩
theorem nil_rd (w : World) : Rd w (.slice none 0 0) (bv []) := .inl ⟨rfl, rfl⟩
theorem tbuild_g (w : World) {v : Value} {ps : Ps} (h : RdK w v ps) (hl : Lim ps) {b r i t : Int} {x : Nat} {X : List Nat} (hT : TbR b r i t ps x X) :
    Calls Try.prog 10 #[v, .agg #[.int .i64 b, .int .i64 r, .int .i64 i, .int .i64 t]] w fun e w' => ∃ v', e = .returned (.tuple #[v', .int .i64 (x : Int)]) ∧ Rd w' v' (bv X) ∧ Fr [] w w' := by
  rcases hT with ⟨rfl, hp, rfl⟩ | ⟨rfl, hp, h0, rfl⟩ | ⟨rfl, hp, h0, hr, rfl⟩ | ⟨rfl, hp, h0, hr, rfl⟩
  · obtain ⟨a, c, rfl, _⟩ := h
    exact (tbuild_plan w b r i t hp).mono fun e w' ⟨e1, f⟩ => ⟨_, e1, nil_rd _, f⟩
  · obtain ⟨a, c, rfl, _⟩ := h
    subst h0
    exact (tbuild_none w b r i t hp).mono fun e w' ⟨e1, f⟩ => ⟨_, e1, nil_rd _, f⟩
  · exact (tbuild_order w h hl.n h0 b r i t hp hr).mono fun e w' ⟨e1, f⟩ => ⟨_, e1, nil_rd _, f⟩
  · have hb := hp.b0
    have hr0 := hp.r0
    have hi := hp.i0
    obtain ⟨b', rfl⟩ : ∃ b' : Nat, b = (b' : Int) := ⟨b.toNat, by omega⟩
    obtain ⟨r', rfl⟩ : ∃ r' : Nat, r = (r' : Int) := ⟨r.toNat, by omega⟩
    obtain ⟨i', rfl⟩ : ∃ i' : Nat, i = (i' : Int) := ⟨i.toNat, by omega⟩
    simp only [Int.toNat_natCast]
    exact (tbuild_ok w h hl h0 b' r' i' t hp hr).mono fun e w' ⟨v', e1, o, f⟩ => ⟨_, e1, Rd.ownB o, f⟩
set_option maxRecDepth 20000 in
set_option maxHeartbeats 1600000 in
theorem rtbuild_plan (w : World) {a : Option Addr} {n c : Nat} (b r i t : Int) (h : ¬ PlanOk b r i t) :
    Calls Try.prog 11 #[.slice a n c, .agg #[.int .i64 b, .int .i64 r, .int .i64 i, .int .i64 t]] w fun e w' => e = .returned (.tuple #[.slice none 0 0, .int .i64 82]) ∧ Fr [] w w' := by
  have CK : Hid (∀ W, Calls Try.prog 15 #[.agg #[.int .i64 b, .int .i64 r, .int .i64 i, .int .i64 t]] W fun e w' => e = .returned (.int .i64 82) ∧ Fr [] W w') := hid (fun W => (rcheck_c W b r i t).mono (fun e w' h' => by
    rcases h' with ⟨⟨_, e1⟩ | ⟨e1, _⟩, f⟩
    · exact absurd e1 h
    · exact ⟨e1, f⟩))
  clear h
  go_enter Try.func11, Try.ntmps11
  go_wp2_with (go_at_call 15; refine (CK.out _).mono ?_; rintro e w1 ⟨rfl, f1⟩; have F1 := hid f1; clear f1)
  go_ret2
  exact ⟨rfl, ((Fr.refl _ _).alloc _).trans F1.out⟩
set_option maxRecDepth 20000 in
set_option maxHeartbeats 1600000 in
theorem rtbuild_none (w : World) {a : Option Addr} {c : Nat} (b r i t : Int) (h : PlanOk b r i t) :
    Calls Try.prog 11 #[.slice a 0 c, .agg #[.int .i64 b, .int .i64 r, .int .i64 i, .int .i64 t]] w fun e w' => e = .returned (.tuple #[.slice none 0 0, .int .i64 83]) ∧ Fr [] w w' := by
  have CK : Hid (∀ W, Calls Try.prog 15 #[.agg #[.int .i64 b, .int .i64 r, .int .i64 i, .int .i64 t]] W fun e w' => e = .returned (.int .i64 0) ∧ Fr [] W w') := hid (fun W => (rcheck_c W b r i t).mono (fun e w' h' => by
    rcases h' with ⟨⟨e1, _⟩ | ⟨_, e1⟩, f⟩
    · exact ⟨e1, f⟩
    · exact absurd h e1))
  clear h
  go_enter Try.func11, Try.ntmps11
  go_wp2_with (go_at_call 15; refine (CK.out _).mono ?_; rintro e w1 ⟨rfl, f1⟩; have F1 := hid f1; clear f1)
  go_ret2
  exact ⟨rfl, ((Fr.refl _ _).alloc _).trans F1.out⟩
set_option maxRecDepth 20000 in
set_option maxHeartbeats 1600000 in
theorem rtbuild_order (w : World) {v : Value} {ps : Ps} (h : RdK w v ps) (hl : ps.length ≤ 1000000) (h0 : ps ≠ []) (b r i t : Int) (hp : PlanOk b r i t) (hr : ¬ Rises ps) :
    Calls Try.prog 11 #[v, .agg #[.int .i64 b, .int .i64 r, .int .i64 i, .int .i64 t]] w fun e w' => e = .returned (.tuple #[.slice none 0 0, .int .i64 70]) ∧ Fr [] w w' := by
  have CK : Hid (∀ W, Calls Try.prog 15 #[.agg #[.int .i64 b, .int .i64 r, .int .i64 i, .int .i64 t]] W fun e w' => e = .returned (.int .i64 0) ∧ Fr [] W w') := hid (fun W => (rcheck_c W b r i t).mono (fun e w' h' => by
    rcases h' with ⟨⟨e1, _⟩ | ⟨_, e1⟩, f⟩
    · exact ⟨e1, f⟩
    · exact absurd hp e1))
  have RI : Hid (∀ W, Fr [] w W → Calls Try.prog 31 #[v] W fun e w' => e = .returned (.bool false) ∧ Fr [] W w') := hid (fun W f => (rrises_c W (h.fr f) hl).mono (fun e w' h' => by
    rcases h' with ⟨⟨_, e1⟩ | ⟨e1, _⟩, f⟩
    · exact absurd e1 hr
    · exact ⟨e1, f⟩))
  have hpos := List.length_pos_iff.2 h0
  obtain ⟨a, c, rfl, hc, _⟩ := h
  clear hp hr h0
  generalize ps.length = n at *
  have hz : ((n : Int) == 0) = false := by rw [beq_eq_false_iff_ne]; omega
  go_enter Try.func11, Try.ntmps11
  go_wp2_with (first
    | (go_at_call 15; refine (CK.out _).mono ?_; rintro e w1 ⟨rfl, f1⟩; have F1 := hid (((Fr.refl [] w).alloc _).trans f1); clear f1)
    | (go_at_call 31; refine (RI.out w1 F1.out).mono ?_; rintro e w2 ⟨rfl, f2⟩; have F2 := hid (F1.out.trans f2); clear f2))
  go_ret2
  exact ⟨rfl, F2.out⟩
theorem rtbuild_g (w : World) {v : Value} {ps : Ps} (h : RdK w v ps) (hl : Lim ps) {b r i t : Int} {x : Nat} {X : List Nat} (hT : TbR b r i t ps x X) :
    Calls Try.prog 11 #[v, .agg #[.int .i64 b, .int .i64 r, .int .i64 i, .int .i64 t]] w fun e w' => ∃ v', e = .returned (.tuple #[v', .int .i64 (x : Int)]) ∧ Rd w' v' (bv X) ∧ Fr [] w w' := by
  rcases hT with ⟨rfl, hp, rfl⟩ | ⟨rfl, hp, h0, rfl⟩ | ⟨rfl, hp, h0, hr, rfl⟩ | ⟨rfl, hp, h0, hr, rfl⟩
  · obtain ⟨a, c, rfl, _⟩ := h
    exact (rtbuild_plan w b r i t hp).mono fun e w' ⟨e1, f⟩ => ⟨_, e1, nil_rd _, f⟩
  · obtain ⟨a, c, rfl, _⟩ := h
    subst h0
    exact (rtbuild_none w b r i t hp).mono fun e w' ⟨e1, f⟩ => ⟨_, e1, nil_rd _, f⟩
  · exact (rtbuild_order w h hl.n h0 b r i t hp hr).mono fun e w' ⟨e1, f⟩ => ⟨_, e1, nil_rd _, f⟩
  · have hb := hp.b0
    have hr0 := hp.r0
    have hi := hp.i0
    obtain ⟨b', rfl⟩ : ∃ b' : Nat, b = (b' : Int) := ⟨b.toNat, by omega⟩
    obtain ⟨r', rfl⟩ : ∃ r' : Nat, r = (r' : Int) := ⟨r.toNat, by omega⟩
    obtain ⟨i', rfl⟩ : ∃ i' : Nat, i = (i' : Int) := ⟨i.toNat, by omega⟩
    simp only [Int.toNat_natCast]
    exact (rtbuild_ok w h hl h0 b' r' i' t hp hr).mono fun e w' ⟨v', e1, o, f⟩ => ⟨_, e1, Rd.ownB o, f⟩
theorem few_lim {ps : Ps} (h : Few ps) : Lim ps := ⟨by have := h.n; omega, by have := h.t; omega⟩
theorem TbR.by {b r i t : Int} {ps : Ps} {x : Nat} {X : List Nat} (h : TbR b r i t ps x X) (hb : ByP ps) : By X := by
  rcases h with ⟨_, _, rfl⟩ | ⟨_, _, _, rfl⟩ | ⟨_, _, _, _, rfl⟩ | ⟨_, _, _, _, rfl⟩
  · exact fun n hn => by cases hn
  · exact fun n hn => by cases hn
  · exact fun n hn => by cases hn
  · exact tblL_by hb
end Go.Proofs.Ytolcocplinkpdaa
