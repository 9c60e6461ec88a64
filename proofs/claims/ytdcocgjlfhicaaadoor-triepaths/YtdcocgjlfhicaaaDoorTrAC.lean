/-
  A path's value is sought.
-/
import Derived.Test.YtdcocgjlfhicaaaDoorTrAB
namespace Go.Proofs.YtdcocgjlfhicaaaDoor
open Go.ChangeShapes Go.WideShapes Go.ChangeAt Go.RowKit

theorem cpN_app : ∀ (q r : List Nat), cpN q (q ++ r) = q.length
  | [], r => by simp [cpN]
  | a :: l, r => by
    show (if a = a then cpN l (l ++ r) + 1 else 0) = _
    rw [if_pos rfl, cpN_app l r]
    rfl
theorem cpN_iff {q p : List Nat} : cpN q p = q.length ↔ p.take q.length = q := by
  constructor
  · intro h
    have := cpN_take q p
    rw [h, List.take_length] at this
    exact this.symm
  · intro h
    have e := List.take_append_drop q.length p
    rw [h] at e
    rw [← e]
    exact cpN_app q _
set_option maxRecDepth 20000 in
set_option maxHeartbeats 1600000 in
theorem hasPrefix_c {w : World} {pv qv : Value} {p q : List Nat} (hp : Rd w pv (bv p)) (hq : Rd w qv (bv q)) (hpb : By p) (hqb : By q) :
    Calls Tryd.prog 95 #[pv, qv] w fun e w' => e = .returned (.bool (decide (cpN q p = q.length))) ∧ w' = w := by
  obtain ⟨pa, pc, e1⟩ := hp.form
  obtain ⟨qa, qc, e2⟩ := hq.form
  rw [bv_len] at e1 e2
  subst e1 e2
  by_cases hl : q.length ≤ p.length
  · obtain ⟨s1, hr⟩ := headBT hp rfl hl
    have E := hid (bytesEqual_c hr hq (hpb.take _) hqb)
    rw [show decide (p.take q.length = q) = decide (cpN q p = q.length) from decide_eq_decide.2 cpN_iff.symm] at E
    generalize decide (cpN q p = q.length) = d at E ⊢
    obtain ⟨np, hnp⟩ : ∃ n, n = p.length := ⟨_, rfl⟩
    obtain ⟨nq, hnq⟩ : ∃ n, n = q.length := ⟨_, rfl⟩
    rw [← hnp] at s1 hl
    rw [← hnq] at s1 E hl
    rw [← hnp, ← hnq]
    clear hp hq hr hnp hnq
    have hl' : (nq : Int) ≤ (np : Int) := by omega
    go_enter Tryd.func95, Tryd.ntmps95
    go_wp2_with (go_at_call 76; refine E.out.mono ?_; rintro e w1 ⟨rfl, h⟩; rw [h]; clear h)
    go_ret
    exact ⟨rfl, rfl⟩
  · rw [decide_eq_false (fun h => hl (by have := (cpN_le q p).2; omega))]
    obtain ⟨np, hnp⟩ : ∃ n, n = p.length := ⟨_, rfl⟩
    obtain ⟨nq, hnq⟩ : ∃ n, n = q.length := ⟨_, rfl⟩
    rw [← hnp] at hl
    rw [← hnq] at hl
    rw [← hnp, ← hnq]
    clear hp hq hnp hnq
    have hl' : ¬ (nq : Int) ≤ (np : Int) := by omega
    go_enter Tryd.func95, Tryd.ntmps95
    go_wp2_with fail
    go_ret
    exact ⟨rfl, rfl⟩
set_option maxRecDepth 20000 in
set_option maxHeartbeats 1600000 in
theorem cutPrefix_c {w : World} {pv qv : Value} {p q : List Nat} (hp : Rd w pv (bv p)) (hq : Rd w qv (bv q)) (hpb : By p) (hqb : By q) :
    Calls Tryd.prog 77 #[pv, qv] w fun e w' => ((cpN q p = q.length ∧ ∃ a c, e = .returned (.tuple #[.slice a (p.length - q.length) c, .bool true]) ∧ Rd w (.slice a (p.length - q.length) c) (bv (p.drop q.length))) ∨ (cpN q p ≠ q.length ∧ e = .returned (.tuple #[pv, .bool false]))) ∧ w' = w := by
  have HPX := hid (hasPrefix_c hp hq hpb hqb)
  obtain ⟨pa, pc, e1⟩ := hp.form
  obtain ⟨qa, qc, e2⟩ := hq.form
  rw [bv_len] at e1 e2
  subst e1 e2
  by_cases hl : cpN q p = q.length
  · rw [decide_eq_true hl] at HPX
    have hle := (cpN_le q p).2
    rw [hl] at hle
    obtain ⟨a', s1, hr⟩ := cutBT hp rfl hle
    have HR := hid hr
    obtain ⟨np, hnp⟩ : ∃ n, n = p.length := ⟨_, rfl⟩
    obtain ⟨nq, hnq⟩ : ∃ n, n = q.length := ⟨_, rfl⟩
    have HL := hid hl
    rw [← hnp] at HPX s1 HR hle
    rw [← hnq] at HPX s1 HR HL hle
    rw [← hnp, ← hnq]
    clear hp hq hr hnp hnq hl
    go_enter Tryd.func77, Tryd.ntmps77
    go_wp2_with (go_at_call 95; refine HPX.out.mono ?_; rintro e w1 ⟨rfl, h⟩; rw [h]; clear h)
    go_ret2
    exact ⟨.inl ⟨HL.out, _, _, rfl, HR.out⟩, rfl⟩
  · rw [decide_eq_false hl] at HPX
    obtain ⟨np, hnp⟩ : ∃ n, n = p.length := ⟨_, rfl⟩
    obtain ⟨nq, hnq⟩ : ∃ n, n = q.length := ⟨_, rfl⟩
    have HL := hid hl
    rw [← hnp] at HPX
    rw [← hnq] at HPX HL
    rw [← hnp, ← hnq]
    clear hp hq hnp hnq hl
    go_enter Tryd.func77, Tryd.ntmps77
    go_wp2_with (go_at_call 95; refine HPX.out.mono ?_; rintro e w1 ⟨rfl, h⟩; rw [h]; clear h)
    go_ret2
    exact ⟨.inr ⟨HL.out, rfl⟩, rfl⟩
def slen : Value → Nat
  | .slice _ n _ => n
  | _ => 0
set_option maxRecDepth 20000 in
set_option maxHeartbeats 3200000 in
theorem find_c (w : World) {S : Nat → Prop} {tb : Nat} {g : Value} {n : Nd} (ht : TrieI S w tb g n) {pv : Value} {p : List Nat} (hp : Rd w pv (bv p)) (hb : Nb p) (hl : p.length ≤ 128) :
    Calls Tryd.prog 61 #[.pointer (some ⟨tb, 0, none⟩), pv] w fun e w' => ∃ xv, e = .returned (.tuple #[xv, .int .i64 0]) ∧ Rd w' xv (bv (findN n p)) ∧ Fr [] w w' := by
  obtain ⟨⟨rv, hB, hN⟩, hno, hi, hok⟩ := ht
  have c0 := blk_cell hB 0
  simp at c0
  have HI := hid hi
  have HN := hid hN
  have HOK := hid hok
  have HP := hid hp
  have HB := hid hb
  clear hB hN hno hi hok hp hb
  go_enter Tryd.func61, Tryd.ntmps61
  go_wp2_with fail
  go_loopw [1, 6] (fun v1 v6 wr => ∃ (m : Nd) (p' : List Nat), NdV S wr m v6 ∧ Rd wr v1 (bv p') ∧ Nb p' ∧ p'.length ≤ 128 ∧ okN 128 m ∧ findN m p' = findN n p ∧ Fr [] w wr) (fun v1 _ _ => slen v1)
  case atStart => exact ⟨n, p, HN.out, HP.out, HB.out, hl, HOK.out, rfl, Fr.refl _ _⟩
  case round =>
    obtain ⟨m, p', hM, hP, hB', hL', hO, hF, hf⟩ := hrel
    obtain ⟨pa, pc, e1⟩ := hP.form
    rw [bv_len] at e1
    subst e1
    have HF := hid hF
    have Hf := hid hf
    have HP := hid hP
    have HIr := hid (HI.out.fr hf)
    cases m with
    | nil =>
      obtain rfl : _ = Value.nilIface := hM
      have LK := hid (fun w => look_nil w (.pointer (some ⟨tb, 0, none⟩)))
      generalize p'.length = np at *
      clear hP hB' hL' hO hF hf
      go_wp2_with (go_at_call 69; refine (LK.out _).mono ?_; rintro e w1 ⟨rfl, f1⟩; have F1 := hid f1; clear f1)
      go_ret2
      exact ⟨_, rfl, by rw [← HF.out]; exact .inl ⟨rfl, rfl⟩, Hf.out.trans F1.out⟩
    | far y => exact hO.elim
    | leaf q y =>
      obtain ⟨b, _, _, _, qv, yv, rfl, hbS, h1, h2, h3, _⟩ := hM
      obtain ⟨qa, qc, e3⟩ := RdS.slice h2
      obtain ⟨ya, yc, e4⟩ := RdS.slice h3
      subst e3 e4
      have LK := hid (fun w => look_leaf w (.pointer (some ⟨tb, 0, none⟩)) b)
      have ta := fun w => asLeaf_y w b
      have EQ := hid (fun (w1 : World) (f : Fr [] wr w1) => bytesEqual_c (h2 w1 (HIr.out.agr f)) (HP.out.fr f) hO.1.by hB'.by)
      have RY := hid (fun (w1 : World) (f : Fr [] wr w1) => h3 w1 (HIr.out.agr f))
      have SK : Hid (∀ w', Fr [] wr w' → w'.cell? ⟨b, 3, none⟩ = some (.slice qa q.length qc) ∧ w'.cell? ⟨b, 4, none⟩ = some (.slice ya y.length yc)) := hid fun w' f => by
        have g := blk_frT h1 f
        exact ⟨by simpa using blk_cell g 3, by simpa using blk_cell g 4⟩
      have HFL : Hid (findN n p = if q = p' then y else []) := hid hF.symm
      obtain ⟨np, hnp⟩ : ∃ n, n = p'.length := ⟨_, rfl⟩
      obtain ⟨nq, hnq⟩ : ∃ n, n = q.length := ⟨_, rfl⟩
      obtain ⟨ny, hny⟩ : ∃ n, n = y.length := ⟨_, rfl⟩
      rw [← hnp] at EQ
      rw [← hnq] at EQ SK
      rw [← hny] at RY SK
      rw [← hnp]
      by_cases hqp : q = p'
      · rw [decide_eq_true hqp] at EQ
        rw [if_pos hqp] at HFL
        clear hP hB' hL' hO hF hf h1 h2 h3 hnp hnq hny HP
        go_wp2_with (first
          | (go_at_call 69; refine (LK.out _).mono ?_; rintro e w1 ⟨rfl, f1⟩; have F1 := hid f1; clear f1; obtain ⟨c3, c4⟩ := SK.out _ F1.out)
          | (go_at_call 76; refine (EQ.out _ F1.out).mono ?_; rintro e w2 ⟨rfl, h⟩; rw [h]; clear h))
        go_ret2
        exact ⟨_, rfl, by rw [HFL.out]; exact RY.out _ F1.out, Hf.out.trans F1.out⟩
      · rw [decide_eq_false hqp] at EQ
        rw [if_neg hqp] at HFL
        clear hP hB' hL' hO hF hf h1 h2 h3 hnp hnq hny HP
        go_wp2_with (first
          | (go_at_call 69; refine (LK.out _).mono ?_; rintro e w1 ⟨rfl, f1⟩; have F1 := hid f1; clear f1; obtain ⟨c3, c4⟩ := SK.out _ F1.out)
          | (go_at_call 76; refine (EQ.out _ F1.out).mono ?_; rintro e w2 ⟨rfl, h⟩; rw [h]; clear h))
        go_ret2
        exact ⟨_, rfl, by rw [HFL.out]; exact .inl ⟨rfl, rfl⟩, Hf.out.trans F1.out⟩
    | stem q t =>
      obtain ⟨b, _, _, _, qv, bl, rfl, hbS, h1, h2, h3, _⟩ := hM
      obtain ⟨qa, qc, e3⟩ := RdS.slice h2
      subst e3
      obtain ⟨g1, g2, g3, g4, g5⟩ := hO
      obtain ⟨bT, bx, rfl⟩ : ∃ T x, bl = .iface T x := h3.iface (by intro e; subst e; exact g4.elim)
      have LK := hid (fun w => look_stem w (.pointer (some ⟨tb, 0, none⟩)) b)
      have ta := fun w => asLeaf_s w b
      have tc := fun w => asStem_y w b
      have CP := hid (fun (w1 : World) (f : Fr [] wr w1) => cutPrefix_c (HP.out.fr f) (h2 w1 (HIr.out.agr f)) hB'.by g1.by)
      have SK : Hid (∀ w', Fr [] wr w' → w'.cell? ⟨b, 3, none⟩ = some (.slice qa q.length qc) ∧ w'.cell? ⟨b, 4, none⟩ = some (.iface bT bx)) := hid fun w' f => by
        have g := blk_frT h1 f
        exact ⟨by simpa using blk_cell g 3, by simpa using blk_cell g 4⟩
      have HN3 := hid (fun (w1 : World) (f : Fr [] wr w1) => h3.step (HIr.out.agr f))
      have HFL : Hid (findN n p = if cpN q p' = q.length then findN t (p'.drop (cpN q p')) else []) := hid hF.symm
      have HD := hid (hB'.drop q.length)
      have HLE := hid (cpN_le q p').2
      have HLD : Hid ((p'.drop q.length).length ≤ 128) := hid (by rw [List.length_drop]; omega)
      have HO5 := hid (g5.mono (d' := 128) (by omega))
      obtain ⟨np, hnp⟩ : ∃ n, n = p'.length := ⟨_, rfl⟩
      obtain ⟨nq, hnq⟩ : ∃ n, n = q.length := ⟨_, rfl⟩
      rw [← hnp] at CP HLE
      rw [← hnq] at CP SK HFL HD HLD g3
      rw [← hnp]
      clear hP hB' hL' hF hf h1 h2 h3 hnp hnq HP g1 g2 g4 g5
      go_upto_region 17 with (first
        | (go_at_call 69; refine (LK.out _).mono ?_; rintro e w1 ⟨rfl, f1⟩; have F1 := hid f1; clear f1; obtain ⟨c3, c4⟩ := SK.out _ F1.out)
        | (go_at_call 77; refine (CP.out _ F1.out).mono ?_; rintro e w2 ⟨(⟨hc, a, c, rfl, hr⟩ | ⟨hc, rfl⟩), h⟩; rw [h]; clear h))
      · have HR := hid hr
        have HC := hid hc
        clear hr hc CP LK
        go_wp2
        go_roundw
        case rel => exact ⟨t, p'.drop nq, HN3.out _ F1.out, HR.out, HD.out, HLD.out, HO5.out, by rw [HFL.out, if_pos HC.out, HC.out], Hf.out.trans F1.out⟩
        case measure => have := HLE.out; rw [HC.out] at this; simp [slen]; omega
      · have HC := hid hc
        clear hc CP LK
        go_wp2
        go_ret2
        exact ⟨_, rfl, by rw [HFL.out, if_neg HC.out]; exact .inl ⟨rfl, rfl⟩, Hf.out.trans F1.out⟩
    | fork c y =>
      obtain ⟨b, _, _, _, V, yv, rfl, hbS, h1, h2, h3, _⟩ := hM
      obtain ⟨ya, yc, e4⟩ := RdS.slice h3
      subst e4
      obtain ⟨g1, g2, g3, g4⟩ := hO
      have LK := hid (fun w => look_fork w (.pointer (some ⟨tb, 0, none⟩)) b)
      have ta := fun w => asLeaf_f w b
      have tc := fun w => asStem_f w b
      have td := fun w => asFork_y w b
      have RY := hid (fun (w1 : World) (f : Fr [] wr w1) => h3 w1 (HIr.out.agr f))
      have H1 := hid (fun (w1 : World) (f : Fr [] wr w1) => blk_frT h1 f)
      have H2 := hid (fun (w1 : World) (f : Fr [] wr w1) j hj => (h2 j hj).step (HIr.out.agr f))
      obtain ⟨ny, hny⟩ : ∃ n, n = y.length := ⟨_, rfl⟩
      rw [← hny] at RY H1
      clear hny h1 h2 h3
      cases p' with
      | nil =>
        have HFL : Hid (findN n p = y) := hid hF.symm
        clear hP hB' hL' hF hf HP H2 g1 g2 g3 g4
        go_wp2_with (go_at_call 69; refine (LK.out _).mono ?_; rintro e w1 ⟨rfl, f1⟩; have F1 := hid f1; clear f1; have c19 := (cellsV (H1.out _ F1.out)).2)
        go_ret2
        exact ⟨_, rfl, by rw [HFL.out]; exact RY.out _ F1.out, Hf.out.trans F1.out⟩
      | cons i r =>
        have hi16 : i < 16 := hB' i (by simp)
        have HFL : Hid (findN n p = findN (c i) r) := hid hF.symm
        obtain ⟨a', s1, hr⟩ := cutBT (l := 1) HP.out rfl (by simp)
        have s1 : ∀ W', (Instr.sliceAt 22 (.slice pa (i :: r).length pc) (some (.int .i64 1)) none none).run Tryd.prog W' = .ok (.slice a' ((i :: r).length - 1) (pc - 1)) W' := s1
        have hr1 : Rd wr (.slice a' ((i :: r).length - 1) (pc - 1)) (bv r) := hr
        rcases HP.out.split with ⟨h0, _⟩ | ⟨q, o, c2, e, _, _, hcc⟩
        · cases h0
        simp only [Value.slice.injEq] at e
        obtain ⟨rfl, _, rfl⟩ := e
        have k0 := hcc 0 i rfl
        rw [Nat.add_zero] at k0
        have K0 := hid (fun (w1 : World) (f : Fr [] wr w1) => cell_fr k0 f)
        have HR := hid (fun (w1 : World) (f : Fr [] wr w1) => hr1.fr f)
        have HNr : Hid (Nb r) := hid (fun z hz => hB' z (by simp [hz]))
        have HLr : Hid (r.length ≤ 128) := hid (by simp at hL'; omega)
        have HO2 := hid ((g2 i hi16).mono (d' := 128) (by omega))
        have hnp1 : 1 ≤ (i :: r).length := by simp
        obtain ⟨np, hnp⟩ : ∃ n, n = (i :: r).length := ⟨_, rfl⟩
        rw [← hnp] at s1 HR hnp1
        rw [← hnp]
        have hz : ((np : Int) == 0) = false := beq_eq_false_iff_ne.2 (by omega)
        clear hP hB' hL' hF hf HP g1 g2 g3 g4 hr hr1 hnp hcc k0
        go_upto_region 24 with (go_at_call 69; refine (LK.out _).mono ?_; rintro e w1 ⟨rfl, f1⟩; have F1 := hid f1; clear f1)
        have k1 := K0.out _ F1.out
        have k2 := fk_cell (H1.out _ F1.out) hi16
        have hlt : i < 16 := hi16
        have hltI : (i : Int) < 16 := by omega
        go_region
        go_wp2
        go_roundw
        case rel => exact ⟨c i, r, (H2.out _ F1.out.drew i hi16), HR.out _ F1.out.drew, HNr.out, HLr.out, HO2.out, HFL.out.symm, Hf.out.trans F1.out.drew⟩
        case measure => simp [slen]; omega
end Go.Proofs.YtdcocgjlfhicaaaDoor
