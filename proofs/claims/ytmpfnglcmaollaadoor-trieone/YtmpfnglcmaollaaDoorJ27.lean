/-
  A path's value is sought.
-/
import Derived.Test.YtmpfnglcmaollaaDoorJ26
import Derived.Test.YtmpfnglcmaollaaDoorJ18
import Derived.Laws.StructEq
namespace Go.Proofs.YtmpfnglcmaollaaDoor
open Go.ChangeShapes Go.WideShapes Go.ChangeAt Go.RowKit

theorem cpN_app : ∀ (q r : List Nat), cpN q (q ++ r) = q.length
  | [], r => by simp [cpN]
  | a :: l, r => by
    show (if a = a then cpN l (l ++ r) + 1 else 0) = _
    rw [if_pos rfl, cpN_app l r]
    rfl
theorem cpN_iff {q p : List Nat} : cpN q p = q.length ↔ p.take q.length = q := by
  constructor
  · intro h
    have := cpN_take q p
    rw [h, List.take_length] at this
    exact this.symm
  · intro h
    have e := List.take_append_drop q.length p
    rw [h] at e
    rw [← e]
    exact cpN_app q _
set_option maxRecDepth 20000 in
set_option maxHeartbeats 1600000 in
theorem hasPrefix_c {w : World} {pv qv : Value} {p q : List Nat} (hp : Rd w pv (bv p)) (hq : Rd w qv (bv q)) (hpb : By p) (hqb : By q) :
    Calls Tryd.prog 98 #[pv, qv] w fun e w' => e = .returned (.bool (decide (cpN q p = q.length))) ∧ w' = w := by
  obtain ⟨pa, pc, e1⟩ := hp.form
  obtain ⟨qa, qc, e2⟩ := hq.form
  rw [bv_len] at e1 e2
  subst e1 e2
  by_cases hl : q.length ≤ p.length
  · obtain ⟨s1, hr⟩ := headBT hp rfl hl
    have E := hid (bytesEqual_c hr hq (hpb.take _) hqb)
    rw [show decide (p.take q.length = q) = decide (cpN q p = q.length) from decide_eq_decide.2 cpN_iff.symm] at E
    generalize decide (cpN q p = q.length) = d at E ⊢
    obtain ⟨np, hnp⟩ : ∃ n, n = p.length := ⟨_, rfl⟩
    obtain ⟨nq, hnq⟩ : ∃ n, n = q.length := ⟨_, rfl⟩
    rw [← hnp] at s1 hl
    rw [← hnq] at s1 E hl
    rw [← hnp, ← hnq]
    clear hp hq hr hnp hnq
    have hl' : (nq : Int) ≤ (np : Int) := by omega
    go_enter Tryd.func98, Tryd.ntmps98
    go_wp2_with (go_at_call 78; refine E.out.mono ?_; rintro e w1 ⟨rfl, h⟩; rw [h]; clear h)
    go_ret
    exact ⟨rfl, rfl⟩
  · rw [decide_eq_false (fun h => hl (by have := (cpN_le q p).2; omega))]
    obtain ⟨np, hnp⟩ : ∃ n, n = p.length := ⟨_, rfl⟩
    obtain ⟨nq, hnq⟩ : ∃ n, n = q.length := ⟨_, rfl⟩
    rw [← hnp] at hl
    rw [← hnq] at hl
    rw [← hnp, ← hnq]
    clear hp hq hnp hnq
    have hl' : ¬ (nq : Int) ≤ (np : Int) := by omega
    go_enter Tryd.func98, Tryd.ntmps98
    go_wp2_with fail
    go_ret
    exact ⟨rfl, rfl⟩
set_option maxRecDepth 20000 in
set_option maxHeartbeats 1600000 in
theorem cutPrefix_c {w : World} {pv qv : Value} {p q : List Nat} (hp : Rd w pv (bv p)) (hq : Rd w qv (bv q)) (hpb : By p) (hqb : By q) :
    Calls Tryd.prog 79 #[pv, qv] w fun e w' => ((cpN q p = q.length ∧ ∃ a c, e = .returned (.tuple #[.slice a (p.length - q.length) c, .bool true]) ∧ Rd w (.slice a (p.length - q.length) c) (bv (p.drop q.length))) ∨ (cpN q p ≠ q.length ∧ e = .returned (.tuple #[pv, .bool false]))) ∧ w' = w := by
  have HPX := hid (hasPrefix_c hp hq hpb hqb)
  obtain ⟨pa, pc, e1⟩ := hp.form
  obtain ⟨qa, qc, e2⟩ := hq.form
  rw [bv_len] at e1 e2
  subst e1 e2
  by_cases hl : cpN q p = q.length
  · rw [decide_eq_true hl] at HPX
    have hle := (cpN_le q p).2
    rw [hl] at hle
    obtain ⟨a', s1, hr⟩ := cutBT hp rfl hle
    have HR := hid hr
    obtain ⟨np, hnp⟩ : ∃ n, n = p.length := ⟨_, rfl⟩
    obtain ⟨nq, hnq⟩ : ∃ n, n = q.length := ⟨_, rfl⟩
    have HL := hid hl
    rw [← hnp] at HPX s1 HR hle
    rw [← hnq] at HPX s1 HR HL hle
    rw [← hnp, ← hnq]
    clear hp hq hr hnp hnq hl
    go_enter Tryd.func79, Tryd.ntmps79
    go_wp2_with (go_at_call 98; refine HPX.out.mono ?_; rintro e w1 ⟨rfl, h⟩; rw [h]; clear h)
    go_ret2
    exact ⟨.inl ⟨HL.out, _, _, rfl, HR.out⟩, rfl⟩
  · rw [decide_eq_false hl] at HPX
    obtain ⟨np, hnp⟩ : ∃ n, n = p.length := ⟨_, rfl⟩
    obtain ⟨nq, hnq⟩ : ∃ n, n = q.length := ⟨_, rfl⟩
    have HL := hid hl
    rw [← hnp] at HPX
    rw [← hnq] at HPX HL
    rw [← hnp, ← hnq]
    clear hp hq hnp hnq hl
    go_enter Tryd.func79, Tryd.ntmps79
    go_wp2_with (go_at_call 98; refine HPX.out.mono ?_; rintro e w1 ⟨rfl, h⟩; rw [h]; clear h)
    go_ret2
    exact ⟨.inr ⟨HL.out, rfl⟩, rfl⟩
def slen : Value → Nat
  | .slice _ n _ => n
  | _ => 0
set_option maxRecDepth 20000 in
set_option maxHeartbeats 3200000 in
theorem find_c (w : World) {S : Nat → Prop} {tb : Nat} {g : Value} {n : Nd} (ht : TrieI S w tb g n) {pv : Value} {p : List Nat} (hp : Rd w pv (bv p)) (hb : Nb p) (hl : p.length ≤ 128) :
    Calls Tryd.prog 61 #[.pointer (some ⟨tb, 0, none⟩), pv] w fun e w' => ∃ xv, e = .returned (.tuple #[xv, .int .i64 0]) ∧ Rd w' xv (bv (findN n p)) ∧ Fr [] w w' := by
  obtain ⟨⟨rv, hB, hN⟩, hno, hi, hok⟩ := ht
  have c0 := blk_cell hB 0
  simp at c0
  have HI := hid hi
  have HN := hid hN
  have HOK := hid hok
  have HP := hid hp
  have HB := hid hb
  clear hB hN hno hi hok hp hb
  go_enter Tryd.func61, Tryd.ntmps61
  go_wp2_with fail
  go_loopw [1, 6] (fun v1 v6 wr => ∃ (m : Nd) (p' : List Nat), NdV S wr m v6 ∧ Rd wr v1 (bv p') ∧ Nb p' ∧ p'.length ≤ 128 ∧ okN 128 m ∧ findN m p' = findN n p ∧ Fr [] w wr) (fun v1 _ _ => slen v1)
  case atStart => exact ⟨n, p, HN.out, HP.out, HB.out, hl, HOK.out, rfl, Fr.refl _ _⟩
  case round =>
    obtain ⟨m, p', hM, hP, hB', hL', hO, hF, hf⟩ := hrel
    obtain ⟨pa, pc, e1⟩ := hP.form
    rw [bv_len] at e1
    subst e1
    have HF := hid hF
    have Hf := hid hf
    have HP := hid hP
    have HIr := hid (HI.out.fr hf)
    cases m with
    | nil =>
      obtain rfl : _ = Value.nilIface := hM
      have LK := hid (fun w => look_nil w (.pointer (some ⟨tb, 0, none⟩)))
      generalize p'.length = np at *
      clear hP hB' hL' hO hF hf
      go_wp2_with (go_at_call 73; refine (LK.out _).mono ?_; rintro e w1 ⟨rfl, f1⟩; have F1 := hid f1; clear f1)
      go_ret2
      exact ⟨_, rfl, by rw [← HF.out]; exact .inl ⟨rfl, rfl⟩, Hf.out.trans F1.out⟩
    | far y => exact hO.elim
    | leaf q y =>
      obtain ⟨b, _, _, _, qv, yv, rfl, hbS, h1, h2, h3, _⟩ := hM
      obtain ⟨qa, qc, e3⟩ := RdS.slice h2
      obtain ⟨ya, yc, e4⟩ := RdS.slice h3
      subst e3 e4
      have LK := hid (fun w => look_leaf w (.pointer (some ⟨tb, 0, none⟩)) b)
      have ta := fun w => asLeaf_y w b
      have EQ := hid (fun (w1 : World) (f : Fr [] wr w1) => bytesEqual_c (h2 w1 (HIr.out.agr f)) (HP.out.fr f) hO.1.by hB'.by)
      have RY := hid (fun (w1 : World) (f : Fr [] wr w1) => h3 w1 (HIr.out.agr f))
      have SK : Hid (∀ w', Fr [] wr w' → w'.cell? ⟨b, 3, none⟩ = some (.slice qa q.length qc) ∧ w'.cell? ⟨b, 4, none⟩ = some (.slice ya y.length yc)) := hid fun w' f => by
        have g := blk_frT h1 f
        exact ⟨by simpa using blk_cell g 3, by simpa using blk_cell g 4⟩
      have HFL : Hid (findN n p = if q = p' then y else []) := hid hF.symm
      obtain ⟨np, hnp⟩ : ∃ n, n = p'.length := ⟨_, rfl⟩
      obtain ⟨nq, hnq⟩ : ∃ n, n = q.length := ⟨_, rfl⟩
      obtain ⟨ny, hny⟩ : ∃ n, n = y.length := ⟨_, rfl⟩
      rw [← hnp] at EQ
      rw [← hnq] at EQ SK
      rw [← hny] at RY SK
      rw [← hnp]
      by_cases hqp : q = p'
      · rw [decide_eq_true hqp] at EQ
        rw [if_pos hqp] at HFL
        clear hP hB' hL' hO hF hf h1 h2 h3 hnp hnq hny HP
        go_wp2_with (first
          | (go_at_call 73; refine (LK.out _).mono ?_; rintro e w1 ⟨rfl, f1⟩; have F1 := hid f1; clear f1; obtain ⟨c3, c4⟩ := SK.out _ F1.out)
          | (go_at_call 78; refine (EQ.out _ F1.out).mono ?_; rintro e w2 ⟨rfl, h⟩; rw [h]; clear h))
        go_ret2
        exact ⟨_, rfl, by rw [HFL.out]; exact RY.out _ F1.out, Hf.out.trans F1.out⟩
      · rw [decide_eq_false hqp] at EQ
        rw [if_neg hqp] at HFL
        clear hP hB' hL' hO hF hf h1 h2 h3 hnp hnq hny HP
        go_wp2_with (first
          | (go_at_call 73; refine (LK.out _).mono ?_; rintro e w1 ⟨rfl, f1⟩; have F1 := hid f1; clear f1; obtain ⟨c3, c4⟩ := SK.out _ F1.out)
          | (go_at_call 78; refine (EQ.out _ F1.out).mono ?_; rintro e w2 ⟨rfl, h⟩; rw [h]; clear h))
        go_ret2
        exact ⟨_, rfl, by rw [HFL.out]; exact .inl ⟨rfl, rfl⟩, Hf.out.trans F1.out⟩
    | stem q t =>
      obtain ⟨b, _, _, _, qv, bl, rfl, hbS, h1, h2, h3, _⟩ := hM
      obtain ⟨qa, qc, e3⟩ := RdS.slice h2
      subst e3
      obtain ⟨g1, g2, g3, g4, g5⟩ := hO
      obtain ⟨bT, bx, rfl⟩ : ∃ T x, bl = .iface T x := h3.iface (by intro e; subst e; exact g4.elim)
      have LK := hid (fun w => look_stem w (.pointer (some ⟨tb, 0, none⟩)) b)
      have ta := fun w => asLeaf_s w b
      have tc := fun w => asStem_y w b
      have CP := hid (fun (w1 : World) (f : Fr [] wr w1) => cutPrefix_c (HP.out.fr f) (h2 w1 (HIr.out.agr f)) hB'.by g1.by)
      have SK : Hid (∀ w', Fr [] wr w' → w'.cell? ⟨b, 3, none⟩ = some (.slice qa q.length qc) ∧ w'.cell? ⟨b, 4, none⟩ = some (.iface bT bx)) := hid fun w' f => by
        have g := blk_frT h1 f
        exact ⟨by simpa using blk_cell g 3, by simpa using blk_cell g 4⟩
      have HN3 := hid (fun (w1 : World) (f : Fr [] wr w1) => h3.step (HIr.out.agr f))
      have HFL : Hid (findN n p = if cpN q p' = q.length then findN t (p'.drop (cpN q p')) else []) := hid hF.symm
      have HD := hid (hB'.drop q.length)
      have HLE := hid (cpN_le q p').2
      have HLD : Hid ((p'.drop q.length).length ≤ 128) := hid (by rw [List.length_drop]; omega)
      have HO5 := hid (g5.mono (d' := 128) (by omega))
      obtain ⟨np, hnp⟩ : ∃ n, n = p'.length := ⟨_, rfl⟩
      obtain ⟨nq, hnq⟩ : ∃ n, n = q.length := ⟨_, rfl⟩
      rw [← hnp] at CP HLE
      rw [← hnq] at CP SK HFL HD HLD g3
      rw [← hnp]
      clear hP hB' hL' hF hf h1 h2 h3 hnp hnq HP g1 g2 g4 g5
      go_upto_region 17 with (first
        | (go_at_call 73; refine (LK.out _).mono ?_; rintro e w1 ⟨rfl, f1⟩; have F1 := hid f1; clear f1; obtain ⟨c3, c4⟩ := SK.out _ F1.out)
        | (go_at_call 79; refine (CP.out _ F1.out).mono ?_; rintro e w2 ⟨(⟨hc, a, c, rfl, hr⟩ | ⟨hc, rfl⟩), h⟩; rw [h]; clear h))
      · have HR := hid hr
        have HC := hid hc
        clear hr hc CP LK
        go_wp2
        go_roundw
        case rel => exact ⟨t, p'.drop nq, HN3.out _ F1.out, HR.out, HD.out, HLD.out, HO5.out, by rw [HFL.out, if_pos HC.out, HC.out], Hf.out.trans F1.out⟩
        case measure => have := HLE.out; rw [HC.out] at this; simp [slen]; omega
      · have HC := hid hc
        clear hc CP LK
        go_wp2
        go_ret2
        exact ⟨_, rfl, by rw [HFL.out, if_neg HC.out]; exact .inl ⟨rfl, rfl⟩, Hf.out.trans F1.out⟩
    | fork c y =>
      obtain ⟨b, _, _, _, V, yv, rfl, hbS, h1, h2, h3, _⟩ := hM
      obtain ⟨ya, yc, e4⟩ := RdS.slice h3
      subst e4
      obtain ⟨g1, g2, g3, g4⟩ := hO
      have LK := hid (fun w => look_fork w (.pointer (some ⟨tb, 0, none⟩)) b)
      have ta := fun w => asLeaf_f w b
      have tc := fun w => asStem_f w b
      have td := fun w => asFork_y w b
      have RY := hid (fun (w1 : World) (f : Fr [] wr w1) => h3 w1 (HIr.out.agr f))
      have H1 := hid (fun (w1 : World) (f : Fr [] wr w1) => blk_frT h1 f)
      have H2 := hid (fun (w1 : World) (f : Fr [] wr w1) j hj => (h2 j hj).step (HIr.out.agr f))
      obtain ⟨ny, hny⟩ : ∃ n, n = y.length := ⟨_, rfl⟩
      rw [← hny] at RY H1
      clear hny h1 h2 h3
      cases p' with
      | nil =>
        have HFL : Hid (findN n p = y) := hid hF.symm
        clear hP hB' hL' hF hf HP H2 g1 g2 g3 g4
        go_wp2_with (go_at_call 73; refine (LK.out _).mono ?_; rintro e w1 ⟨rfl, f1⟩; have F1 := hid f1; clear f1; have c19 := (cellsV (H1.out _ F1.out)).2)
        go_ret2
        exact ⟨_, rfl, by rw [HFL.out]; exact RY.out _ F1.out, Hf.out.trans F1.out⟩
      | cons i r =>
        have hi16 : i < 16 := hB' i (by simp)
        have HFL : Hid (findN n p = findN (c i) r) := hid hF.symm
        obtain ⟨a', s1, hr⟩ := cutBT (l := 1) HP.out rfl (by simp)
        have s1 : ∀ W', (Instr.sliceAt 33 (.slice pa (i :: r).length pc) (some (.int .i64 1)) none none).run Tryd.prog W' = .ok (.slice a' ((i :: r).length - 1) (pc - 1)) W' := s1
        have hr1 : Rd wr (.slice a' ((i :: r).length - 1) (pc - 1)) (bv r) := hr
        rcases HP.out.split with ⟨h0, _⟩ | ⟨q, o, c2, e, _, _, hcc⟩
        · cases h0
        simp only [Value.slice.injEq] at e
        obtain ⟨rfl, _, rfl⟩ := e
        have k0 := hcc 0 i rfl
        rw [Nat.add_zero] at k0
        have K0 := hid (fun (w1 : World) (f : Fr [] wr w1) => cell_fr k0 f)
        have HR := hid (fun (w1 : World) (f : Fr [] wr w1) => hr1.fr f)
        have HNr : Hid (Nb r) := hid (fun z hz => hB' z (by simp [hz]))
        have HLr : Hid (r.length ≤ 128) := hid (by simp at hL'; omega)
        have HO2 := hid ((g2 i hi16).mono (d' := 128) (by omega))
        have hnp1 : 1 ≤ (i :: r).length := by simp
        obtain ⟨np, hnp⟩ : ∃ n, n = (i :: r).length := ⟨_, rfl⟩
        rw [← hnp] at s1 HR hnp1
        rw [← hnp]
        have hz : ((np : Int) == 0) = false := beq_eq_false_iff_ne.2 (by omega)
        clear hP hB' hL' hF hf HP g1 g2 g3 g4 hr hr1 hnp hcc k0
        go_upto_region 24 with (go_at_call 73; refine (LK.out _).mono ?_; rintro e w1 ⟨rfl, f1⟩; have F1 := hid f1; clear f1)
        have k1 := K0.out _ F1.out
        have k2 := fk_cell (H1.out _ F1.out) hi16
        have hlt : i < 16 := hi16
        have hltI : (i : Int) < 16 := by omega
        go_region
        go_wp2
        go_roundw
        case rel => exact ⟨c i, r, (H2.out _ F1.out.drew i hi16), HR.out _ F1.out.drew, HNr.out, HLr.out, HO2.out, HFL.out.symm, Hf.out.trans F1.out.drew⟩
        case measure => simp [slen]; omega
end Go.Proofs.YtmpfnglcmaollaaDoor
namespace Go.Proofs.YtmpfnglcmaollaaDoor
open Go.ChangeShapes Go.WideShapes Go.ChangeAt Go.RowKit

theorem run_eqArr {P : Program} (w : World) (d : Nat) (t e : TypeId) (n : Nat) (k : IntKind) (ht : P.underlying t = some (.array n e)) (he : P.underlying e = some (.int k)) (hsz : ∀ w, (sizeOf e).run P w = .ok 1 w)
    (xs ys : Array Value) (p q : Nat → Int) (hx : ∀ i, i < n → xs[i]? = some (.int k (p i))) (hy : ∀ i, i < n → ys[i]? = some (.int k (q i))) :
    (Op.equalIn (d + 2) t (.agg xs) (.agg ys)).run P w = .ok ((List.range' 0 n 1).all fun i => p i == q i) w := by
  rw [Op.equalIn]
  simp only [Sem.run_bind, run_underlying ht, Result.andThen_ok, hsz, Std.Legacy.Range.forIn_eq_forIn_range', Std.Legacy.Range.size, Nat.sub_zero, Nat.add_sub_cancel, Nat.div_one]
  have hl : ∀ i ∈ List.range' 0 n 1, i < n := fun i hi => by simpa using (List.mem_range'_1.1 hi).2
  generalize List.range' 0 n 1 = l at hl ⊢
  induction l with
  | nil => simp
  | cons i l ih =>
    have hi : i < n := hl i (by simp)
    have px : (part e xs (i * 1)).run P w = .ok (.int k (p i)) w := by
      simp [part, isAgg, run_underlying he, hx i hi]
    have py : (part e ys (i * 1)).run P w = .ok (.int k (q i)) w := by
      simp [part, isAgg, run_underlying he, hy i hi]
    have pe : (Op.equalIn (d + 1) e (.int k (p i)) (.int k (q i))).run P w = .ok (p i == q i) w := by
      rw [run_equalIn_int w d e k k _ _ he]
    simp only [List.forIn_cons, Sem.run_bind, px, py, pe, Result.andThen_ok, List.all_cons]
    cases hb : (p i == q i)
    · simp
    · simp only [Bool.not_true, Bool.false_eq_true, if_false, Sem.run_pure, Result.andThen_ok, Bool.true_and]
      exact ih fun j hj => hl j (by simp [hj])
theorem eql25 (w : World) (f g : Nat → BitVec 64) (h : ∀ i, i < 25 → f i = g i) : (binOp .eql 96 (.agg (vals 25 f)) (.agg (vals 25 g))).run Tryd.prog w = .ok (.bool true) w := by
  rw [run_eql_struct, run_eqArr w 9998 96 95 25 .u64 Tryd.underlying96 Tryd.underlying95 (fun w => by kernel_rfl) _ _ (fun i => ((f i).toNat : Int)) (fun i => ((g i).toNat : Int)) (fun i hi => vals_at f hi) (fun i hi => vals_at g hi)]
  have : ((List.range' 0 25 1).all fun i => ((f i).toNat : Int) == ((g i).toNat : Int)) = true := by
    rw [List.all_eq_true]
    intro i hi
    have := (List.mem_range'_1.1 hi).2
    rw [h i (by omega)]
    simp
  rw [this]
  rfl
theorem neq25 (w : World) (f g : Nat → BitVec 64) (h : ∃ i, i < 25 ∧ f i ≠ g i) : (binOp .neq 96 (.agg (vals 25 f)) (.agg (vals 25 g))).run Tryd.prog w = .ok (.bool true) w := by
  rw [run_neq_struct, run_eqArr w 9998 96 95 25 .u64 Tryd.underlying96 Tryd.underlying95 (fun w => by kernel_rfl) _ _ (fun i => ((f i).toNat : Int)) (fun i => ((g i).toNat : Int)) (fun i hi => vals_at f hi) (fun i hi => vals_at g hi)]
  have : ((List.range' 0 25 1).all fun i => ((f i).toNat : Int) == ((g i).toNat : Int)) = false := by
    rw [List.all_eq_false]
    obtain ⟨i, hi, hn⟩ := h
    refine ⟨i, List.mem_range'_1.2 ⟨Nat.zero_le _, by omega⟩, ?_⟩
    intro e
    apply hn
    apply BitVec.eq_of_toNat_eq
    have := eq_of_beq e
    omega
  rw [this]
  rfl
theorem eql32 (w : World) (f g : Nat → Nat) (h : ∀ i, i < 32 → f i = g i) : (binOp .eql 28 (.agg (bvals 32 f)) (.agg (bvals 32 g))).run Tryd.prog w = .ok (.bool true) w := by
  rw [run_eql_struct, run_eqArr w 9998 28 5 32 .u8 hUnd Tryd.underlying5 (fun w => by kernel_rfl) _ _ (fun i => (f i : Int)) (fun i => (g i : Int)) (fun i hi => bvals_at f hi) (fun i hi => bvals_at g hi)]
  have : ((List.range' 0 32 1).all fun i => (f i : Int) == (g i : Int)) = true := by
    rw [List.all_eq_true]
    intro i hi
    have := (List.mem_range'_1.1 hi).2
    rw [h i (by omega)]
    simp
  rw [this]
  rfl
theorem neq32 (w : World) (f g : Nat → Nat) (h : ∀ i, i < 32 → f i = g i) : (binOp .neq 28 (.agg (bvals 32 f)) (.agg (bvals 32 g))).run Tryd.prog w = .ok (.bool false) w := by
  rw [run_neq_struct, run_eqArr w 9998 28 5 32 .u8 hUnd Tryd.underlying5 (fun w => by kernel_rfl) _ _ (fun i => (f i : Int)) (fun i => (g i : Int)) (fun i hi => bvals_at f hi) (fun i hi => bvals_at g hi)]
  have : ((List.range' 0 32 1).all fun i => (f i : Int) == (g i : Int)) = true := by
    rw [List.all_eq_true]
    intro i hi
    have := (List.mem_range'_1.1 hi).2
    rw [h i (by omega)]
    simp
  rw [this]
  rfl
theorem eqIn25 (w : World) (f g : Nat → BitVec 64) (h : ∀ i, i < 25 → f i = g i) : (Op.equalIn 10000 96 (.agg (vals 25 f)) (.agg (vals 25 g))).run Tryd.prog w = .ok true w := by
  rw [run_eqArr w 9998 96 95 25 .u64 Tryd.underlying96 Tryd.underlying95 (fun w => by kernel_rfl) _ _ (fun i => ((f i).toNat : Int)) (fun i => ((g i).toNat : Int)) (fun i hi => vals_at f hi) (fun i hi => vals_at g hi)]
  congr 1
  rw [List.all_eq_true]
  intro i hi
  have := (List.mem_range'_1.1 hi).2
  rw [h i (by omega)]
  simp
theorem neIn25 (w : World) (f g : Nat → BitVec 64) (h : ∃ i, i < 25 ∧ f i ≠ g i) : (Op.equalIn 10000 96 (.agg (vals 25 f)) (.agg (vals 25 g))).run Tryd.prog w = .ok false w := by
  rw [run_eqArr w 9998 96 95 25 .u64 Tryd.underlying96 Tryd.underlying95 (fun w => by kernel_rfl) _ _ (fun i => ((f i).toNat : Int)) (fun i => ((g i).toNat : Int)) (fun i hi => vals_at f hi) (fun i hi => vals_at g hi)]
  congr 1
  rw [List.all_eq_false]
  obtain ⟨i, hi, hn⟩ := h
  refine ⟨i, List.mem_range'_1.2 ⟨Nat.zero_le _, by omega⟩, ?_⟩
  intro e
  apply hn
  apply BitVec.eq_of_toNat_eq
  have := eq_of_beq e
  omega
theorem eqIn32 (w : World) (f g : Nat → Nat) (h : ∀ i, i < 32 → f i = g i) : (Op.equalIn 10000 28 (.agg (bvals 32 f)) (.agg (bvals 32 g))).run Tryd.prog w = .ok true w := by
  rw [run_eqArr w 9998 28 5 32 .u8 hUnd Tryd.underlying5 (fun w => by kernel_rfl) _ _ (fun i => (f i : Int)) (fun i => (g i : Int)) (fun i hi => bvals_at f hi) (fun i hi => bvals_at g hi)]
  congr 1
  rw [List.all_eq_true]
  intro i hi
  have := (List.mem_range'_1.1 hi).2
  rw [h i (by omega)]
  simp
theorem guard25 : Tryd.prog.eqGuardType Tryd.prog.depth 96 = false := by kernel_rfl
theorem guard32 : Tryd.prog.eqGuardType Tryd.prog.depth 28 = false := by kernel_rfl
end Go.Proofs.YtmpfnglcmaollaaDoor
namespace Go.Proofs.YtmpfnglcmaollaaDoor
open Go.ChangeShapes Go.WideShapes Go.ChangeAt Go.RowKit

theorem encIt_c (w : World) {n : Nat} {v : Value} {x : List Nat} {d c : Nat} (h : ItV n w v x d c) (hn : 16 ≤ n) (hd : d ≤ 16) (hx : x.length ≤ 4000) :
    By x ∧ Calls Tryd.prog 40 #[v] w fun e w' => ∃ v', e = .returned (.tuple #[v', .int .i64 0]) ∧ w'.ownsRow w.heap.size 5 1 v' x.length (bv x) ∧ Fr [] w w' := by
  obtain ⟨t, t1, t2, t3, t4, t5, _⟩ := h
  have hct := cnt_len n t t4
  rw [t2] at hct
  have hbd := bad_ok n t d 1 t4 t5 (by omega)
  have hE0 : encE t = 0 := by unfold encE; rw [if_neg (by omega), if_neg (by rw [t2]; omega)]
  have hEB : encB t = x := by unfold encB; rw [if_pos hE0]; exact t2
  have EC := encode_c w t1 (by omega) (by omega) (by rw [t2]; omega)
  have HXB := enc_by n t t3
  rw [t2] at HXB
  rw [hE0, hEB] at EC
  exact ⟨HXB, EC⟩
theorem ldRd {w : World} {a : Addr} {c : Nat} {l : List Nat} (hl : l.length = 32) (h : Rd w (.slice (some a) 32 c) (bv l)) : (loadVar 28 a).run Tryd.prog w = .ok (.agg (bv l).toArray) w := by
  have hc : ∀ (j : Nat) (v : Value), (bv l)[j]? = some v → w.cell? (a.add j) = some v := by
    rcases h with ⟨h0, _⟩ | ⟨a', c', h1, _, h3⟩
    · cases h0
    · simp only [Value.slice.injEq, Option.some.injEq] at h1
      rw [← h1.1] at h3
      exact h3
  have hl2 : (loadCells a (bv l).length).run Tryd.prog w = .ok (bv l).toArray w := run_loadCells_list (P := Tryd.prog) w a (bv l) (fun j v hv => hc j v hv)
  rw [bv_len, hl] at hl2
  have hi := info32
  cases hq : Tryd.prog.info? 28 with
  | none => rw [hq] at hi; cases hi
  | some i =>
    rw [hq] at hi
    have hs : i.size = 32 := by simpa using hi
    have hagg : (isAgg 28).run Tryd.prog w = .ok true w := by kernel_rfl
    simp [loadVar, Sem.run_bind, hagg, sizeOf, typeInfo, hq, hs, hl2]
theorem arr_at (w : World) (a : Addr) (c : Nat) : (Instr.arrayAt 28 (.slice (some a) 32 c)).run Tryd.prog w = .ok (.pointer (some a)) w := by kernel_rfl
set_option maxRecDepth 20000 in
set_option maxHeartbeats 1600000 in
theorem empty_c (w : World) (HT : Tabs w) :
    Calls Tryd.prog 12 #[] w fun e w' => e = .returned (.agg (bvals 32 (hashOf [128]))) ∧ Fr [] w w' := by
  have HTH := hid HT
  have EC := hid (fun (w1 : World) => encIt_c w1 (ItV.str (n := 20) (w := w1) (bs := .slice none 0 0) (b := []) (.inl ⟨rfl, rfl⟩) (fun x hx => by cases hx) (by simp)) (by omega) (by omega) (by simp [strL, headL]))
  rw [show strL [] = [128] from rfl] at EC
  clear HT
  go_enter Tryd.func12, Tryd.ntmps12
  go_upto_region 1 with fail
  rw [zero32]
  have HR : Hid ((w.alloc (.cells (bvals 32 (fun _ => 0)) 28)).heap[w.heap.size]? = some (.cells (bvals 32 (fun _ => 0)) 28 (0, 0))) := blk_new _ _
  have HF : Hid (Fr [] w (w.alloc (.cells (bvals 32 (fun _ => 0)) 28))) := (Fr.refl _ _).alloc _
  generalize w.alloc (.cells (bvals 32 (fun _ => 0)) 28) = w1 at HR HF ⊢
  go_upto_region 2 with (go_at_call 40; refine (EC.out _).2.mono ?_; rintro e w2 ⟨v', rfl, O, f2⟩; have OO := hid O; have HR2 := hid (blk_frT HR.out f2); have F2 := hid (HF.out.trans f2); clear O f2)
  have RV : Hid (Rd w2 v' (bv [128])) := hid (Rd.ownB OO.out)
  obtain ⟨a3, c3, e3⟩ := RV.out.form
  rw [bv_len] at e3
  subst e3
  have RO := hid (Rows2.oneT RV.out (fun x hx => by simp at hx; omega) (by simp))
  have FA : Hid (Fr [] w2 (w2.alloc (.cells #[.slice a3 ([128] : List Nat).length c3] 33))) := hid ((Fr.refl _ _).alloc _)
  have SC := hid (sum_c _ (HTH.out.fr (F2.out.trans FA.out)) RO.out (by simp))
  rw [show ([[128]] : List (List Nat)).flatten = [128] by simp] at SC
  have HR3 := hid (blk_frT HR2.out FA.out)
  have F3 := hid (F2.out.trans FA.out)
  clear FA
  go_wp2_with fail
  refine SC.out.mono ?_
  rintro e w5 ⟨rfl, f5⟩
  have HR5 := hid (blk_frT HR3.out f5)
  have F5 := hid (F3.out.trans f5)
  clear f5
  rename_i hK
  refine hK _ _ ?_
  refine wpList_stH (g := hashOf [128]) rfl (.tmp 0) (.tmp 10) rfl HR5.out (by simp [Act.eval]) (by simp [Act.eval]) ?_
  have RH := hid (brow_heap (g := hashOf [128]) HR5.out)
  have RF := hid (F5.out.rowT (bvals 32 (hashOf [128])) (.inr (Nat.le_refl w.heap.size)))
  generalize World.setRow w5 w.heap.size (bvals 32 (hashOf [128])) = w7 at RH RF ⊢
  clear HR5 F5 hK
  go_wp2
  exact bodyPost_ret (v := .agg (bvals 32 (hashOf [128]))) (retH rfl RH.out rfl) rfl ⟨rfl, RF.out⟩
set_option maxRecDepth 20000 in
set_option maxHeartbeats 1600000 in
theorem hashOfStr_c (w : World) {a : Addr} {c : Nat} {y : List Nat} {a2 : Option Addr} {n2 c2 : Nat} (hr : Rd w (.slice (some a) 32 c) (bv (hshF y))) :
    Calls Tryd.prog 47 #[.agg #[.bool false, .slice (some a) 32 c, .slice a2 n2 c2]] w fun e w' => e = .returned (.agg (bvals 32 (hashOf y))) ∧ Fr [] w w' := by
  have HRD := hid (fun (w1 : World) (f : Fr [] w w1) => ldRd (hshF_len y) (hr.fr f))
  rw [← hash_bv] at HRD
  clear hr
  go_enter Tryd.func47, Tryd.ntmps47
  go_upto_region 1 with fail
  rw [zero32]
  have F0 : Hid (Fr [] w (w.alloc (.cells #[.bool false, .slice (some a) 32 c, .slice a2 n2 c2] 77))) := (Fr.refl _ _).alloc _
  have X0 : Hid ((w.alloc (.cells #[.bool false, .slice (some a) 32 c, .slice a2 n2 c2] 77)).heap[w.heap.size]? = some (.cells #[.bool false, .slice (some a) 32 c, .slice a2 n2 c2] 77 (0, 0))) := blk_new _ _
  have z0 : Hid ((w.alloc (.cells #[.bool false, .slice (some a) 32 c, .slice a2 n2 c2] 77)).heap.size = w.heap.size + 1) := by unfold Hid; simp
  generalize w.alloc (.cells #[.bool false, .slice (some a) 32 c, .slice a2 n2 c2] 77) = W at F0 X0 z0 ⊢
  obtain ⟨W2, hW2⟩ : ∃ W2, W2 = W.alloc (.cells (bvals 32 (fun _ => 0)) 28) := ⟨_, rfl⟩
  have HR : Hid (W2.heap[w.heap.size + 1]? = some (.cells (bvals 32 (fun _ => 0)) 28 (0, 0))) := hid (by rw [hW2]; exact new_at _ _ z0.out.symm)
  have F2 : Hid (Fr [] w W2) := hid (by rw [hW2]; exact F0.out.alloc _)
  have X2 : Hid (W2.heap[w.heap.size]? = some (.cells #[.bool false, .slice (some a) 32 c, .slice a2 n2 c2] 77 (0, 0))) := hid (by rw [hW2, blk_old _ _ (by rw [z0.out]; omega)]; exact X0.out)
  rw [← hW2]
  clear hW2
  have c0 := blk_cell X2.out 0
  have c1 := blk_cell X2.out 1
  simp at c0 c1
  go_upto_region 2 with fail
  have hld := HRD.out _ F2.out
  have har := arr_at W2 a c
  apply wp_region_lit
  refine wpList_val (v := .pointer (some ⟨w.heap.size, 1, none⟩)) (w' := W2) rfl (by go_simp) ?_
  refine wpList_val (v := .slice (some a) 32 c) (w' := W2) rfl (by go_simp) ?_
  refine wpList_val (v := .pointer (some a)) (w' := W2) rfl (by go_simp) ?_
  refine wpList_val (v := .agg (bvals 32 (hashOf y))) (w' := W2) rfl (by unfold execOp; simp [Act.eval, Act.put, Instr.loadAt, Instr.sureAddr, Result.andThen_ok, hld]) ?_
  refine wpList_stH (g := hashOf y) rfl (.tmp 2) (.tmp 11) rfl HR.out (by simp [Act.eval, Act.put]) (by simp [Act.eval, Act.put]) ?_
  have RH := hid (brow_heap (g := hashOf y) HR.out)
  have RF := hid (F2.out.rowT (p := w.heap.size + 1) (bvals 32 (hashOf y)) (.inr (by omega)))
  generalize World.setRow W2 (w.heap.size + 1) (bvals 32 (hashOf y)) = w7 at RH RF ⊢
  clear HR F2 X2 c0 c1 hld har
  simp only [wpList, Act.put]
  go_wp2
  exact bodyPost_ret (v := .agg (bvals 32 (hashOf y))) (retH rfl RH.out (by simp)) rfl ⟨rfl, RF.out⟩
end Go.Proofs.YtmpfnglcmaollaaDoor
