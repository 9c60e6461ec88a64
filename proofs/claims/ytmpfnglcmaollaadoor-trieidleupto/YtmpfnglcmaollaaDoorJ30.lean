/-
  A path's value is sought.
-/
import Derived.Test.YtmpfnglcmaollaaDoorJ29
namespace Go.Proofs.YtmpfnglcmaollaaDoor
open Go.ChangeShapes Go.WideShapes Go.ChangeAt Go.RowKit

theorem cpN_app : ∀ (q r : List Nat), cpN q (q ++ r) = q.length
  | [], r => by simp [cpN]
  | a :: l, r => by
    show (if a = a then cpN l (l ++ r) + 1 else 0) = _
    rw [if_pos rfl, cpN_app l r]
    rfl
theorem cpN_iff {q p : List Nat} : cpN q p = q.length ↔ p.take q.length = q := by
  constructor
  · intro h
    have := cpN_take q p
    rw [h, List.take_length] at this
    exact this.symm
  · intro h
    have e := List.take_append_drop q.length p
    rw [h] at e
    rw [← e]
    exact cpN_app q _
set_option maxRecDepth 20000 in
set_option maxHeartbeats 1600000 in
theorem hasPrefix_c {w : World} {pv qv : Value} {p q : List Nat} (hp : Rd w pv (bv p)) (hq : Rd w qv (bv q)) (hpb : By p) (hqb : By q) :
    Calls Tryd.prog 98 #[pv, qv] w fun e w' => e = .returned (.bool (decide (cpN q p = q.length))) ∧ w' = w := by
  obtain ⟨pa, pc, e1⟩ := hp.form
  obtain ⟨qa, qc, e2⟩ := hq.form
  rw [bv_len] at e1 e2
  subst e1 e2
  by_cases hl : q.length ≤ p.length
  · obtain ⟨s1, hr⟩ := headBT hp rfl hl
    have E := hid (bytesEqual_c hr hq (hpb.take _) hqb)
    rw [show decide (p.take q.length = q) = decide (cpN q p = q.length) from decide_eq_decide.2 cpN_iff.symm] at E
    generalize decide (cpN q p = q.length) = d at E ⊢
    obtain ⟨np, hnp⟩ : ∃ n, n = p.length := ⟨_, rfl⟩
    obtain ⟨nq, hnq⟩ : ∃ n, n = q.length := ⟨_, rfl⟩
    rw [← hnp] at s1 hl
    rw [← hnq] at s1 E hl
    rw [← hnp, ← hnq]
    clear hp hq hr hnp hnq
    have hl' : (nq : Int) ≤ (np : Int) := by omega
    go_enter Tryd.func98, Tryd.ntmps98
    go_wp2_with (go_at_call 78; refine E.out.mono ?_; rintro e w1 ⟨rfl, h⟩; rw [h]; clear h)
    go_ret
    exact ⟨rfl, rfl⟩
  · rw [decide_eq_false (fun h => hl (by have := (cpN_le q p).2; omega))]
    obtain ⟨np, hnp⟩ : ∃ n, n = p.length := ⟨_, rfl⟩
    obtain ⟨nq, hnq⟩ : ∃ n, n = q.length := ⟨_, rfl⟩
    rw [← hnp] at hl
    rw [← hnq] at hl
    rw [← hnp, ← hnq]
    clear hp hq hnp hnq
    have hl' : ¬ (nq : Int) ≤ (np : Int) := by omega
    go_enter Tryd.func98, Tryd.ntmps98
    go_wp2_with fail
    go_ret
    exact ⟨rfl, rfl⟩
set_option maxRecDepth 20000 in
set_option maxHeartbeats 1600000 in
theorem cutPrefix_c {w : World} {pv qv : Value} {p q : List Nat} (hp : Rd w pv (bv p)) (hq : Rd w qv (bv q)) (hpb : By p) (hqb : By q) :
    Calls Tryd.prog 79 #[pv, qv] w fun e w' => ((cpN q p = q.length ∧ ∃ a c, e = .returned (.tuple #[.slice a (p.length - q.length) c, .bool true]) ∧ Rd w (.slice a (p.length - q.length) c) (bv (p.drop q.length))) ∨ (cpN q p ≠ q.length ∧ e = .returned (.tuple #[pv, .bool false]))) ∧ w' = w := by
  have HPX := hid (hasPrefix_c hp hq hpb hqb)
  obtain ⟨pa, pc, e1⟩ := hp.form
  obtain ⟨qa, qc, e2⟩ := hq.form
  rw [bv_len] at e1 e2
  subst e1 e2
  by_cases hl : cpN q p = q.length
  · rw [decide_eq_true hl] at HPX
    have hle := (cpN_le q p).2
    rw [hl] at hle
    obtain ⟨a', s1, hr⟩ := cutBT hp rfl hle
    have HR := hid hr
    obtain ⟨np, hnp⟩ : ∃ n, n = p.length := ⟨_, rfl⟩
    obtain ⟨nq, hnq⟩ : ∃ n, n = q.length := ⟨_, rfl⟩
    have HL := hid hl
    rw [← hnp] at HPX s1 HR hle
    rw [← hnq] at HPX s1 HR HL hle
    rw [← hnp, ← hnq]
    clear hp hq hr hnp hnq hl
    go_enter Tryd.func79, Tryd.ntmps79
    go_wp2_with (go_at_call 98; refine HPX.out.mono ?_; rintro e w1 ⟨rfl, h⟩; rw [h]; clear h)
    go_ret2
    exact ⟨.inl ⟨HL.out, _, _, rfl, HR.out⟩, rfl⟩
  · rw [decide_eq_false hl] at HPX
    obtain ⟨np, hnp⟩ : ∃ n, n = p.length := ⟨_, rfl⟩
    obtain ⟨nq, hnq⟩ : ∃ n, n = q.length := ⟨_, rfl⟩
    have HL := hid hl
    rw [← hnp] at HPX
    rw [← hnq] at HPX HL
    rw [← hnp, ← hnq]
    clear hp hq hnp hnq hl
    go_enter Tryd.func79, Tryd.ntmps79
    go_wp2_with (go_at_call 98; refine HPX.out.mono ?_; rintro e w1 ⟨rfl, h⟩; rw [h]; clear h)
    go_ret2
    exact ⟨.inr ⟨HL.out, rfl⟩, rfl⟩
def slen : Value → Nat
  | .slice _ n _ => n
  | _ => 0
set_option maxRecDepth 20000 in
set_option maxHeartbeats 3200000 in
theorem find_c (w : World) {S : Nat → Prop} {tb : Nat} {g : Value} {n : Nd} (ht : TrieI S w tb g n) {pv : Value} {p : List Nat} (hp : Rd w pv (bv p)) (hb : Nb p) (hl : p.length ≤ 128) :
    Calls Tryd.prog 61 #[.pointer (some ⟨tb, 0, none⟩), pv] w fun e w' => ∃ xv, e = .returned (.tuple #[xv, .int .i64 0]) ∧ Rd w' xv (bv (findN n p)) ∧ Fr [] w w' := by
  obtain ⟨⟨rv, hB, hN⟩, hno, hi, hok⟩ := ht
  have c0 := blk_cell hB 0
  simp at c0
  have HI := hid hi
  have HN := hid hN
  have HOK := hid hok
  have HP := hid hp
  have HB := hid hb
  clear hB hN hno hi hok hp hb
  go_enter Tryd.func61, Tryd.ntmps61
  go_wp2_with fail
  go_loopw [1, 6] (fun v1 v6 wr => ∃ (m : Nd) (p' : List Nat), NdV S wr m v6 ∧ Rd wr v1 (bv p') ∧ Nb p' ∧ p'.length ≤ 128 ∧ okN 128 m ∧ findN m p' = findN n p ∧ Fr [] w wr) (fun v1 _ _ => slen v1)
  case atStart => exact ⟨n, p, HN.out, HP.out, HB.out, hl, HOK.out, rfl, Fr.refl _ _⟩
  case round =>
    obtain ⟨m, p', hM, hP, hB', hL', hO, hF, hf⟩ := hrel
    obtain ⟨pa, pc, e1⟩ := hP.form
    rw [bv_len] at e1
    subst e1
    have HF := hid hF
    have Hf := hid hf
    have HP := hid hP
    have HIr := hid (HI.out.fr hf)
    cases m with
    | nil =>
      obtain rfl : _ = Value.nilIface := hM
      have LK := hid (fun w => look_nil w (.pointer (some ⟨tb, 0, none⟩)))
      generalize p'.length = np at *
      clear hP hB' hL' hO hF hf
      go_wp2_with (go_at_call 73; refine (LK.out _).mono ?_; rintro e w1 ⟨rfl, f1⟩; have F1 := hid f1; clear f1)
      go_ret2
      exact ⟨_, rfl, by rw [← HF.out]; exact .inl ⟨rfl, rfl⟩, Hf.out.trans F1.out⟩
    | far y => exact hO.elim
    | leaf q y =>
      obtain ⟨b, _, _, _, qv, yv, rfl, hbS, h1, h2, h3, _⟩ := hM
      obtain ⟨qa, qc, e3⟩ := RdS.slice h2
      obtain ⟨ya, yc, e4⟩ := RdS.slice h3
      subst e3 e4
      have LK := hid (fun w => look_leaf w (.pointer (some ⟨tb, 0, none⟩)) b)
      have ta := fun w => asLeaf_y w b
      have EQ := hid (fun (w1 : World) (f : Fr [] wr w1) => bytesEqual_c (h2 w1 (HIr.out.agr f)) (HP.out.fr f) hO.1.by hB'.by)
      have RY := hid (fun (w1 : World) (f : Fr [] wr w1) => h3 w1 (HIr.out.agr f))
      have SK : Hid (∀ w', Fr [] wr w' → w'.cell? ⟨b, 3, none⟩ = some (.slice qa q.length qc) ∧ w'.cell? ⟨b, 4, none⟩ = some (.slice ya y.length yc)) := hid fun w' f => by
        have g := blk_frT h1 f
        exact ⟨by simpa using blk_cell g 3, by simpa using blk_cell g 4⟩
      have HFL : Hid (findN n p = if q = p' then y else []) := hid hF.symm
      obtain ⟨np, hnp⟩ : ∃ n, n = p'.length := ⟨_, rfl⟩
      obtain ⟨nq, hnq⟩ : ∃ n, n = q.length := ⟨_, rfl⟩
      obtain ⟨ny, hny⟩ : ∃ n, n = y.length := ⟨_, rfl⟩
      rw [← hnp] at EQ
      rw [← hnq] at EQ SK
      rw [← hny] at RY SK
      rw [← hnp]
      by_cases hqp : q = p'
      · rw [decide_eq_true hqp] at EQ
        rw [if_pos hqp] at HFL
        clear hP hB' hL' hO hF hf h1 h2 h3 hnp hnq hny HP
        go_wp2_with (first
          | (go_at_call 73; refine (LK.out _).mono ?_; rintro e w1 ⟨rfl, f1⟩; have F1 := hid f1; clear f1; obtain ⟨c3, c4⟩ := SK.out _ F1.out)
          | (go_at_call 78; refine (EQ.out _ F1.out).mono ?_; rintro e w2 ⟨rfl, h⟩; rw [h]; clear h))
        go_ret2
        exact ⟨_, rfl, by rw [HFL.out]; exact RY.out _ F1.out, Hf.out.trans F1.out⟩
      · rw [decide_eq_false hqp] at EQ
        rw [if_neg hqp] at HFL
        clear hP hB' hL' hO hF hf h1 h2 h3 hnp hnq hny HP
        go_wp2_with (first
          | (go_at_call 73; refine (LK.out _).mono ?_; rintro e w1 ⟨rfl, f1⟩; have F1 := hid f1; clear f1; obtain ⟨c3, c4⟩ := SK.out _ F1.out)
          | (go_at_call 78; refine (EQ.out _ F1.out).mono ?_; rintro e w2 ⟨rfl, h⟩; rw [h]; clear h))
        go_ret2
        exact ⟨_, rfl, by rw [HFL.out]; exact .inl ⟨rfl, rfl⟩, Hf.out.trans F1.out⟩
    | stem q t =>
      obtain ⟨b, _, _, _, qv, bl, rfl, hbS, h1, h2, h3, _⟩ := hM
      obtain ⟨qa, qc, e3⟩ := RdS.slice h2
      subst e3
      obtain ⟨g1, g2, g3, g4, g5⟩ := hO
      obtain ⟨bT, bx, rfl⟩ : ∃ T x, bl = .iface T x := h3.iface (by intro e; subst e; exact g4.elim)
      have LK := hid (fun w => look_stem w (.pointer (some ⟨tb, 0, none⟩)) b)
      have ta := fun w => asLeaf_s w b
      have tc := fun w => asStem_y w b
      have CP := hid (fun (w1 : World) (f : Fr [] wr w1) => cutPrefix_c (HP.out.fr f) (h2 w1 (HIr.out.agr f)) hB'.by g1.by)
      have SK : Hid (∀ w', Fr [] wr w' → w'.cell? ⟨b, 3, none⟩ = some (.slice qa q.length qc) ∧ w'.cell? ⟨b, 4, none⟩ = some (.iface bT bx)) := hid fun w' f => by
        have g := blk_frT h1 f
        exact ⟨by simpa using blk_cell g 3, by simpa using blk_cell g 4⟩
      have HN3 := hid (fun (w1 : World) (f : Fr [] wr w1) => h3.step (HIr.out.agr f))
      have HFL : Hid (findN n p = if cpN q p' = q.length then findN t (p'.drop (cpN q p')) else []) := hid hF.symm
      have HD := hid (hB'.drop q.length)
      have HLE := hid (cpN_le q p').2
      have HLD : Hid ((p'.drop q.length).length ≤ 128) := hid (by rw [List.length_drop]; omega)
      have HO5 := hid (g5.mono (d' := 128) (by omega))
      obtain ⟨np, hnp⟩ : ∃ n, n = p'.length := ⟨_, rfl⟩
      obtain ⟨nq, hnq⟩ : ∃ n, n = q.length := ⟨_, rfl⟩
      rw [← hnp] at CP HLE
      rw [← hnq] at CP SK HFL HD HLD g3
      rw [← hnp]
      clear hP hB' hL' hF hf h1 h2 h3 hnp hnq HP g1 g2 g4 g5
      go_upto_region 17 with (first
        | (go_at_call 73; refine (LK.out _).mono ?_; rintro e w1 ⟨rfl, f1⟩; have F1 := hid f1; clear f1; obtain ⟨c3, c4⟩ := SK.out _ F1.out)
        | (go_at_call 79; refine (CP.out _ F1.out).mono ?_; rintro e w2 ⟨(⟨hc, a, c, rfl, hr⟩ | ⟨hc, rfl⟩), h⟩; rw [h]; clear h))
      · have HR := hid hr
        have HC := hid hc
        clear hr hc CP LK
        go_wp2
        go_roundw
        case rel => exact ⟨t, p'.drop nq, HN3.out _ F1.out, HR.out, HD.out, HLD.out, HO5.out, by rw [HFL.out, if_pos HC.out, HC.out], Hf.out.trans F1.out⟩
        case measure => have := HLE.out; rw [HC.out] at this; simp [slen]; omega
      · have HC := hid hc
        clear hc CP LK
        go_wp2
        go_ret2
        exact ⟨_, rfl, by rw [HFL.out, if_neg HC.out]; exact .inl ⟨rfl, rfl⟩, Hf.out.trans F1.out⟩
    | fork c y =>
      obtain ⟨b, _, _, _, V, yv, rfl, hbS, h1, h2, h3, _⟩ := hM
      obtain ⟨ya, yc, e4⟩ := RdS.slice h3
      subst e4
      obtain ⟨g1, g2, g3, g4⟩ := hO
      have LK := hid (fun w => look_fork w (.pointer (some ⟨tb, 0, none⟩)) b)
      have ta := fun w => asLeaf_f w b
      have tc := fun w => asStem_f w b
      have td := fun w => asFork_y w b
      have RY := hid (fun (w1 : World) (f : Fr [] wr w1) => h3 w1 (HIr.out.agr f))
      have H1 := hid (fun (w1 : World) (f : Fr [] wr w1) => blk_frT h1 f)
      have H2 := hid (fun (w1 : World) (f : Fr [] wr w1) j hj => (h2 j hj).step (HIr.out.agr f))
      obtain ⟨ny, hny⟩ : ∃ n, n = y.length := ⟨_, rfl⟩
      rw [← hny] at RY H1
      clear hny h1 h2 h3
      cases p' with
      | nil =>
        have HFL : Hid (findN n p = y) := hid hF.symm
        clear hP hB' hL' hF hf HP H2 g1 g2 g3 g4
        go_wp2_with (go_at_call 73; refine (LK.out _).mono ?_; rintro e w1 ⟨rfl, f1⟩; have F1 := hid f1; clear f1; have c19 := (cellsV (H1.out _ F1.out)).2)
        go_ret2
        exact ⟨_, rfl, by rw [HFL.out]; exact RY.out _ F1.out, Hf.out.trans F1.out⟩
      | cons i r =>
        have hi16 : i < 16 := hB' i (by simp)
        have HFL : Hid (findN n p = findN (c i) r) := hid hF.symm
        obtain ⟨a', s1, hr⟩ := cutBT (l := 1) HP.out rfl (by simp)
        have s1 : ∀ W', (Instr.sliceAt 33 (.slice pa (i :: r).length pc) (some (.int .i64 1)) none none).run Tryd.prog W' = .ok (.slice a' ((i :: r).length - 1) (pc - 1)) W' := s1
        have hr1 : Rd wr (.slice a' ((i :: r).length - 1) (pc - 1)) (bv r) := hr
        rcases HP.out.split with ⟨h0, _⟩ | ⟨q, o, c2, e, _, _, hcc⟩
        · cases h0
        simp only [Value.slice.injEq] at e
        obtain ⟨rfl, _, rfl⟩ := e
        have k0 := hcc 0 i rfl
        rw [Nat.add_zero] at k0
        have K0 := hid (fun (w1 : World) (f : Fr [] wr w1) => cell_fr k0 f)
        have HR := hid (fun (w1 : World) (f : Fr [] wr w1) => hr1.fr f)
        have HNr : Hid (Nb r) := hid (fun z hz => hB' z (by simp [hz]))
        have HLr : Hid (r.length ≤ 128) := hid (by simp at hL'; omega)
        have HO2 := hid ((g2 i hi16).mono (d' := 128) (by omega))
        have hnp1 : 1 ≤ (i :: r).length := by simp
        obtain ⟨np, hnp⟩ : ∃ n, n = (i :: r).length := ⟨_, rfl⟩
        rw [← hnp] at s1 HR hnp1
        rw [← hnp]
        have hz : ((np : Int) == 0) = false := beq_eq_false_iff_ne.2 (by omega)
        clear hP hB' hL' hF hf HP g1 g2 g3 g4 hr hr1 hnp hcc k0
        go_upto_region 24 with (go_at_call 73; refine (LK.out _).mono ?_; rintro e w1 ⟨rfl, f1⟩; have F1 := hid f1; clear f1)
        have k1 := K0.out _ F1.out
        have k2 := fk_cell (H1.out _ F1.out) hi16
        have hlt : i < 16 := hi16
        have hltI : (i : Int) < 16 := by omega
        go_region
        go_wp2
        go_roundw
        case rel => exact ⟨c i, r, (H2.out _ F1.out.drew i hi16), HR.out _ F1.out.drew, HNr.out, HLr.out, HO2.out, HFL.out.symm, Hf.out.trans F1.out.drew⟩
        case measure => simp [slen]; omega
end Go.Proofs.YtmpfnglcmaollaaDoor
namespace Go.Proofs.YtmpfnglcmaollaaDoor
open Go.ChangeShapes Go.WideShapes Go.ChangeAt Go.RowKit

/-- What is left of a path behind another one; nothing, where it doesn't begin so. -/
def strip : List Nat → List Nat → Option (List Nat)
  | [], p => some p
  | _ :: _, [] => none
  | a :: q, b :: p => if a = b then strip q p else none
theorem strip_some : ∀ {q p r : List Nat}, strip q p = some r ↔ p = q ++ r
  | [], p, r => by
    show some p = some r ↔ p = r
    constructor
    · intro h; exact Option.some.inj h
    · rintro rfl; rfl
  | a :: q, [], r => by
    constructor
    · intro h; cases h
    · intro h; cases h
  | a :: q, b :: p, r => by
    show (if a = b then strip q p else none) = some r ↔ _
    by_cases h : a = b
    · subst h
      rw [if_pos rfl, strip_some]
      constructor
      · rintro rfl; rfl
      · intro h; exact (List.cons.inj h).2
    · rw [if_neg h]
      constructor
      · intro h'; cases h'
      · intro h'; exact absurd (List.cons.inj h').1.symm h
theorem strip_app : ∀ (a b p : List Nat), strip (a ++ b) p = (strip a p).bind (strip b)
  | [], _, _ => rfl
  | _ :: _, _, [] => rfl
  | x :: a, b, y :: p => by
    show (if x = y then strip (a ++ b) p else none) = (if x = y then strip a p else none).bind (strip b)
    by_cases h : x = y
    · rw [if_pos h, if_pos h, strip_app a b p]
    · rw [if_neg h, if_neg h]; rfl
theorem strip_cp : ∀ (q p : List Nat), strip q p = if cpN q p = q.length then some (p.drop q.length) else none
  | [], p => by simp [strip, cpN]
  | a :: q, [] => by simp [strip, cpN]
  | a :: q, b :: p => by
    show (if a = b then strip q p else none) = if (if a = b then cpN q p + 1 else 0) = q.length + 1 then _ else _
    by_cases h : a = b
    · rw [if_pos h, if_pos h, strip_cp q p]
      by_cases h2 : cpN q p = q.length
      · rw [if_pos h2, if_pos (by omega)]; rfl
      · rw [if_neg h2, if_neg (by omega)]
    · rw [if_neg h, if_neg h, if_neg (by omega)]
theorem strip_self (q : List Nat) : strip q q = some [] := strip_some.2 (by simp)
theorem find_leaf (q x p : List Nat) : findN (.leaf q x) p = if strip q p = some [] then x else [] := by
  show (if q = p then x else []) = _
  by_cases h : q = p
  · subst h; rw [if_pos rfl, if_pos (strip_self q)]
  · rw [if_neg h, if_neg (fun e => h (by have := strip_some.1 e; rw [this]; simp))]
/-- What is found where a path has been stripped. -/
def atO (n : Nd) : Option (List Nat) → List Nat
  | some r => findN n r
  | none => []
theorem find_stem (q : List Nat) (t : Nd) (p : List Nat) : findN (.stem q t) p = atO t (strip q p) := by
  show (if cpN q p = q.length then findN t (p.drop (cpN q p)) else []) = _
  rw [strip_cp]
  by_cases h : cpN q p = q.length
  · rw [if_pos h, if_pos h, h]; rfl
  · rw [if_neg h, if_neg h]; rfl
theorem find_lead : ∀ (n : Nd) (q p : List Nat), (∀ x, n ≠ .far x) → findN (leadN q n) p = atO n (strip q p)
  | .nil, q, p, _ => by
    show [] = atO .nil (strip q p)
    cases strip q p <;> rfl
  | .far x, _, _, h => absurd rfl (h x)
  | .leaf r x, q, p, _ => by
    show findN (.leaf (q ++ r) x) p = _
    rw [find_leaf, strip_app]
    cases strip q p with
    | none => rfl
    | some s => exact (find_leaf r x s).symm
  | .stem r t, q, p, _ => by
    by_cases h : q = []
    · subst h
      show findN (if ([] : List Nat) = [] then Nd.stem r t else _) p = _
      rw [if_pos rfl]; rfl
    · show findN (if q = [] then Nd.stem r t else leadN (q ++ r) t) p = _
      rw [if_neg h]
      by_cases hf : ∃ x, t = .far x
      · obtain ⟨x, rfl⟩ := hf
        have hne : q ++ r ≠ [] := by simp [h]
        show findN (if q ++ r = [] then Nd.far x else Nd.stem (q ++ r) (.far x)) p = _
        rw [if_neg hne, find_stem, strip_app]
        cases strip q p with
        | none => rfl
        | some s => exact (find_stem r _ s).symm
      · rw [find_lead t (q ++ r) p (fun x e => hf ⟨x, e⟩), strip_app]
        cases strip q p with
        | none => rfl
        | some s => exact (find_stem r t s).symm
  | .fork c x, q, p, _ => by
    by_cases h : q = []
    · subst h
      show findN (if ([] : List Nat) = [] then Nd.fork c x else _) p = _
      rw [if_pos rfl]; rfl
    · rw [leadN_fork h, find_stem]
theorem find_add (c : Nat → Nd) (y q x p : List Nat) (hc : ∀ j s, q = j :: s → c j = .nil) : findN (.fork (addC c q x) (addV y q x)) p = if q = p then x else findN (.fork c y) p := by
  cases q with
  | nil =>
    cases p with
    | nil => rw [if_pos rfl]; rfl
    | cons i r => rw [if_neg (by simp)]; rfl
  | cons j s =>
    cases p with
    | nil => rw [if_neg (by simp)]; rfl
    | cons i r =>
      show findN (updN c j (.leaf s x) i) r = _
      unfold updN
      by_cases h : i = j
      · subst h
        rw [if_pos rfl]
        show (if s = r then x else []) = _
        by_cases h2 : s = r
        · subst h2; rw [if_pos rfl, if_pos rfl]
        · rw [if_neg h2, if_neg (by simp [h2])]
          show [] = findN (c i) r
          rw [hc i s rfl]
          rfl
      · rw [if_neg h, if_neg (by intro e; exact h (List.cons.inj e).1.symm)]
        rfl
theorem find_no (r : List Nat) : findN (.fork noN []) r = [] := by cases r <;> rfl
theorem drop_cp {q p : List Nat} {s : Nat} (h : q.take s = p.take s) {r : List Nat} : q.drop s = r ↔ q = p.take s ++ r := by
  constructor
  · rintro rfl
    rw [← h, List.take_append_drop]
  · intro e
    have e2 := List.take_append_drop s q
    rw [h] at e2
    rw [← e2] at e
    exact List.append_cancel_left e
/-- Paths that part: what stands next is unlike. -/
theorem cp_next {q p : List Nat} {i j : Nat} {a b : List Nat} (hq : q.drop (cpN q p) = i :: a) (hp : p.drop (cpN q p) = j :: b) : i ≠ j := by
  have h1 : q[cpN q p]? = some i := by
    have := congrArg (·[0]?) hq
    simpa [List.getElem?_drop] using this
  have h2 : p[cpN q p]? = some j := by
    have := congrArg (·[0]?) hp
    simpa [List.getElem?_drop] using this
  exact cpN_ne q p i j h1 h2
theorem find_put : ∀ {n : Nd} {d : Nat}, okN d n → ∀ (p v p' : List Nat), Nb p → findN (putN n p v) p' = if p = p' then v else findN n p'
  | .nil, _, _, p, v, p', _ => by
    show (if p = p' then v else []) = _
    rfl
  | .far _, _, h, _, _, _, _ => h.elim
  | .leaf q x, d, h, p, v, p', _ => by
    by_cases hqp : q = p
    · subst hqp
      show findN (if q = q then _ else _) p' = _
      rw [if_pos rfl]
      show (if q = p' then v else []) = if q = p' then v else (if q = p' then x else [])
      by_cases h2 : q = p'
      · rw [if_pos h2, if_pos h2]
      · rw [if_neg h2, if_neg h2, if_neg h2]
    · show findN (if q = p then _ else _) p' = _
      rw [if_neg hqp]
      have ht : q.take (cpN q p) = p.take (cpN q p) := cpN_take q p
      unfold growN
      rw [find_lead _ _ _ (fun x e => by cases e)]
      cases hs : strip (p.take (cpN q p)) p' with
      | none =>
        have hn : ∀ r, p' ≠ p.take (cpN q p) ++ r := fun r e => by rw [strip_some.2 e] at hs; cases hs
        have h1 : p ≠ p' := fun e => hn (p.drop (cpN q p)) (by rw [List.take_append_drop]; exact e.symm)
        have h2 : q ≠ p' := fun e => hn (q.drop (cpN q p)) (by rw [← ht, List.take_append_drop]; exact e.symm)
        rw [if_neg h1]
        show [] = if q = p' then x else []
        rw [if_neg h2]
      | some r =>
        have e := strip_some.1 hs
        show findN (.fork _ _) r = _
        rw [find_add _ _ _ _ _ (fun j b hp => by
          cases hq : q.drop (cpN q p) with
          | nil => rfl
          | cons i a =>
            show updN noN i _ j = .nil
            unfold updN
            rw [if_neg (fun e => cp_next hq hp e.symm)]
            rfl), find_add noN [] (q.drop (cpN q p)) x r (fun _ _ _ => rfl), find_no]
        have d1 : p.drop (cpN q p) = r ↔ p = p' := by rw [e]; exact drop_cp rfl
        have d2 : q.drop (cpN q p) = r ↔ q = p' := by rw [e]; exact drop_cp ht
        by_cases h1 : p = p'
        · rw [if_pos h1, if_pos (d1.2 h1)]
        · rw [if_neg h1, if_neg (fun e => h1 (d1.1 e))]
          show _ = if q = p' then x else []
          by_cases h2 : q = p'
          · rw [if_pos h2, if_pos (d2.2 h2)]
          · rw [if_neg h2, if_neg (fun e => h2 (d2.1 e))]
  | .stem q t, d, h, p, v, p', hb => by
    obtain ⟨g1, g2, g3, g4, g5⟩ := h
    have hfar : ∀ (n : Nd) x, isFk n → n ≠ .far x := fun n x hf e => by subst e; exact hf.elim
    by_cases hin : cpN q p = q.length
    · show findN (if cpN q p = q.length then _ else _) p' = _
      rw [if_pos hin, find_lead _ _ _ (fun x => hfar _ x (putN_fk g4 _ _)), find_stem]
      have ep := cpN_full hin
      rw [hin]
      cases hs : strip q p' with
      | none =>
        rw [if_neg (fun e => by rw [← e, strip_some.2 ep] at hs; cases hs)]
        rfl
      | some r =>
        have e := strip_some.1 hs
        show findN (putN t (p.drop q.length) v) r = if p = p' then v else findN t r
        rw [find_put g5 _ _ _ (hb.drop _)]
        have d1 : p.drop q.length = r ↔ p = p' := by
          constructor
          · intro h; rw [ep, h, e]
          · intro h; rw [ep, e] at h; exact List.append_cancel_left h
        by_cases h1 : p = p'
        · rw [if_pos h1, if_pos (d1.2 h1)]
        · rw [if_neg h1, if_neg (fun e => h1 (d1.1 e))]
    · show findN (if cpN q p = q.length then _ else _) p' = _
      rw [if_neg hin]
      have ht : q.take (cpN q p) = p.take (cpN q p) := cpN_take q p
      have hlt : cpN q p < q.length := by have := cpN_le q p; omega
      obtain ⟨i, hi⟩ : ∃ i, q.drop (cpN q p) = i :: q.drop (cpN q p + 1) := ⟨q[cpN q p], by rw [List.drop_eq_getElem_cons hlt]⟩
      have hgi : q.getD (cpN q p) 0 = i := by
        have := congrArg (·[0]?) hi
        simp only [List.getElem?_drop, Nat.add_zero, List.getElem?_cons_zero] at this
        rw [List.getD_eq_getElem?_getD, this]
        rfl
      rw [hgi]
      have eq : q = p.take (cpN q p) ++ i :: q.drop (cpN q p + 1) := by
        rw [← hi, ← ht, List.take_append_drop]
      unfold growN
      rw [find_lead _ _ _ (fun x e => by cases e), find_stem]
      cases hs : strip (p.take (cpN q p)) p' with
      | none =>
        have hn : ∀ r, p' ≠ p.take (cpN q p) ++ r := fun r e => by rw [strip_some.2 e] at hs; cases hs
        have h1 : p ≠ p' := fun e => hn (p.drop (cpN q p)) (by rw [List.take_append_drop]; exact e.symm)
        rw [if_neg h1]
        have h2 : strip q p' = none := by
          cases h3 : strip q p' with
          | none => rfl
          | some r =>
            have e := strip_some.1 h3
            exact absurd (by rw [e]; conv => lhs; rw [eq]
                             rw [List.append_assoc]) (hn (i :: q.drop (cpN q p + 1) ++ r))
        rw [h2]
        rfl
      | some r =>
        have e := strip_some.1 hs
        have h2 : strip q p' = strip (i :: q.drop (cpN q p + 1)) r := by
          conv => lhs; rw [eq]
          rw [strip_app, hs]
          rfl
        rw [h2]
        show findN (.fork _ _) r = _
        rw [find_add _ _ _ _ _ (fun j b hp => by
          show updN noN i _ j = .nil
          unfold updN
          rw [if_neg (fun e => cp_next hi hp e.symm)]
          rfl)]
        have d1 : p.drop (cpN q p) = r ↔ p = p' := by rw [e]; exact drop_cp rfl
        by_cases h1 : p = p'
        · rw [if_pos h1, if_pos (d1.2 h1)]
        · rw [if_neg h1, if_neg (fun e => h1 (d1.1 e))]
          cases r with
          | nil => rfl
          | cons j r =>
            show findN (updN noN i (leadN (q.drop (cpN q p + 1)) t) j) r = atO t (if i = j then strip (q.drop (cpN q p + 1)) r else none)
            unfold updN
            by_cases hj : j = i
            · rw [if_pos hj, if_pos hj.symm, find_lead _ _ _ (fun x => hfar t x g4)]
            · rw [if_neg hj, if_neg (fun e => hj e.symm)]
              rfl
  | .fork c x, d, h, p, v, p', hb => by
    obtain ⟨g1, g2, g3, g4⟩ := h
    cases p with
    | nil =>
      cases p' with
      | nil => rw [if_pos rfl]; rfl
      | cons i r => rw [if_neg (by simp)]; rfl
    | cons i r =>
      cases p' with
      | nil => rw [if_neg (by simp)]; rfl
      | cons j s =>
        show findN (updN c i (putN (c i) r v) j) s = _
        unfold updN
        by_cases hj : j = i
        · subst hj
          rw [if_pos rfl]
          rw [find_put (g2 j (hb j (by simp))) _ _ _ (fun z hz => hb z (by simp [hz]))]
          by_cases h2 : r = s
          · subst h2; rw [if_pos rfl, if_pos rfl]
          · rw [if_neg h2, if_neg (by simp [h2])]
            rfl
        · rw [if_neg hj, if_neg (by intro e; exact hj (List.cons.inj e).1.symm)]
          rfl
end Go.Proofs.YtmpfnglcmaollaaDoor
