/-
  What two paths begin with.
-/
import Derived.Test.YtmpfnglcmaollaaDoorJ20
namespace Go.Proofs.YtmpfnglcmaollaaDoor
open Go.ChangeShapes Go.WideShapes Go.ChangeAt Go.RowKit

theorem cpN_step : ∀ (a b : List Nat) (i x : Nat), i ≤ cpN a b → a[i]? = some x → b[i]? = some x → i + 1 ≤ cpN a b
  | [], _, _, _, _, h, _ => by simp at h
  | _ :: _, [], _, _, _, _, h => by simp at h
  | a :: l, b :: m, i, x, hi, h, g => by
    unfold cpN at hi ⊢
    cases i with
    | zero =>
      simp at h g
      rw [if_pos (h.trans g.symm)]
      omega
    | succ i =>
      by_cases e : a = b
      · rw [if_pos e] at hi ⊢
        simp only [List.getElem?_cons_succ] at h g
        have := cpN_step l m i x (by omega) h g
        omega
      · rw [if_neg e] at hi
        omega
theorem cpN_stop {a b : List Nat} {i : Nat} (hi : i ≤ cpN a b) (h : ¬ ∃ x, a[i]? = some x ∧ b[i]? = some x) : i = cpN a b := by
  rcases Nat.lt_or_ge i (cpN a b) with hl | hl
  · exfalso
    have h1 := cpN_le a b
    have h2 := cpN_take a b
    have ha : i < a.length := by omega
    have hb : i < b.length := by omega
    have e1 : (a.take (cpN a b))[i]? = a[i]? := by rw [List.getElem?_take, if_pos hl]
    have e2 : (b.take (cpN a b))[i]? = b[i]? := by rw [List.getElem?_take, if_pos hl]
    rw [h2, e2] at e1
    exact h ⟨a[i], List.getElem?_eq_getElem ha, by rw [e1]; exact List.getElem?_eq_getElem ha⟩
  · omega
set_option maxRecDepth 20000 in
set_option maxHeartbeats 1600000 in
theorem shared_c (w : World) {av bv' : Value} {a b : List Nat} (ha : Rd w av (bv a)) (hb : Rd w bv' (bv b)) (hla : a.length ≤ 1000) :
    Calls Tryd.prog 93 #[av, bv'] w fun e w' => e = .returned (.int .i64 (cpN a b : Int)) ∧ Fr [] w w' := by
  obtain ⟨aa, ac, e1⟩ := ha.form
  obtain ⟨ba, bc, e2⟩ := hb.form
  rw [bv_len] at e1 e2
  subst e1 e2
  obtain ⟨na, hna⟩ : ∃ n, n = a.length := ⟨_, rfl⟩
  obtain ⟨nb, hnb⟩ : ∃ n, n = b.length := ⟨_, rfl⟩
  rw [← hna] at ha hla ⊢
  rw [← hnb] at hb ⊢
  have HA := hid ha
  have HB := hid hb
  have HNA := hid hna
  have HNB := hid hnb
  clear ha hb hna hnb
  go_enter Tryd.func93, Tryd.ntmps93
  go_wp2_with fail
  go_loopw [5] (fun v5 wr => ∃ (i : Nat), i ≤ cpN a b ∧ v5 = .int .i64 (i : Int) ∧ Fr [] w wr) (fun v5 _ => 1001 - (intOf v5).toNat)
  case atStart => exact ⟨0, Nat.zero_le _, rfl, Fr.refl _ _⟩
  case round =>
    obtain ⟨i, hi, rfl, hf⟩ := hrel
    have HF := hid hf
    have HI := hid hi
    clear hf hi
    by_cases h1 : i < na
    · by_cases h2 : i < nb
      · obtain ⟨x, hx⟩ : ∃ x, a[i]? = some x := ⟨_, List.getElem?_eq_getElem (by rw [← HNA.out]; exact h1)⟩
        obtain ⟨y, hy⟩ : ∃ y, b[i]? = some y := ⟨_, List.getElem?_eq_getElem (by rw [← HNB.out]; exact h2)⟩
        have h1' : (i : Int) < (na : Int) := by omega
        have h2' : (i : Int) < (nb : Int) := by omega
        rcases HA.out.split with ⟨h0, _⟩ | ⟨q, o, c2, e, _, _, hc⟩
        · rw [h0] at hx; simp at hx
        rcases HB.out.split with ⟨h0, _⟩ | ⟨q', o', c2', e', _, _, hc'⟩
        · rw [h0] at hy; simp at hy
        simp only [Value.slice.injEq] at e e'
        obtain ⟨rfl, e2, rfl⟩ := e
        obtain ⟨rfl, e2', rfl⟩ := e'
        have zx := cell_fr (hc i x hx) HF.out
        have zy := cell_fr (hc' i y hy) HF.out
        have HX := hid hx
        have HY := hid hy
        clear hc hc' hx hy e2 e2'
        by_cases hxy : x = y
        · subst hxy
          have HS := hid (cpN_step a b i x HI.out HX.out HY.out)
          go_wp2_with fail
          go_region
          go_wp2
          go_roundw
          case rel => exact ⟨i + 1, HS.out, by go_num, HF.out.drew⟩
          case measure => simp [intOf]; omega
        · have hxy' : ((x : Int) == (y : Int)) = false := beq_eq_false_iff_ne.2 (by omega)
          have HS := hid (cpN_stop HI.out (fun ⟨z, g1, g2⟩ => by rw [HX.out] at g1; rw [HY.out] at g2; cases g1; cases g2; exact hxy rfl))
          go_wp2_with fail
          go_region
          go_wp2
          go_ret
          exact ⟨by rw [← HS.out]; rfl, HF.out.drew⟩
      · have h1' : (i : Int) < (na : Int) := by omega
        have h2' : ¬ (i : Int) < (nb : Int) := by omega
        have HS := hid (cpN_stop HI.out (fun ⟨z, _, g2⟩ => by rw [List.getElem?_eq_none (by rw [← HNB.out]; omega)] at g2; cases g2))
        go_wp2_with fail
        go_region
        go_wp2
        go_ret
        exact ⟨by rw [← HS.out]; rfl, HF.out.drew⟩
    · have h1' : ¬ (i : Int) < (na : Int) := by omega
      have HS := hid (cpN_stop HI.out (fun ⟨z, g1, _⟩ => by rw [List.getElem?_eq_none (by rw [← HNA.out]; omega)] at g1; cases g1))
      go_wp2_with fail
      go_region
      go_wp2
      go_ret
      exact ⟨by rw [← HS.out]; rfl, HF.out.drew⟩
end Go.Proofs.YtmpfnglcmaollaaDoor
namespace Go.Proofs.YtmpfnglcmaollaaDoor
open Go.ChangeShapes Go.WideShapes Go.ChangeAt Go.RowKit

theorem twoT_c {w : World} {u v : Value} {p q : List Nat} (hu : Rd w u (bv p)) (hv : Rd w v (bv q)) (hl : p.length + q.length ≤ 100000) :
    Calls Tryd.prog 54 #[.slice (some ⟨w.heap.size, 0, none⟩) 2 2] (w.alloc (.cells #[u, v] 33)) fun e w' => ∃ r, e = .returned r ∧ w'.ownsRow (w.heap.size + 1) 5 1 r (p ++ q).length (bv (p ++ q)) ∧ Fr [] (w.alloc (.cells #[u, v] 33)) w' := by
  have F : Fr [] w (w.alloc (.cells #[u, v] 33)) := (Fr.refl _ _).alloc _
  have B := blk_new w (.cells #[u, v] 33)
  have h := concat_c (w := w.alloc (.cells #[u, v] 33)) w.heap.size 2 (fun j => if j = 0 then u else v) (fun j => if j = 0 then p else q) (by omega) (by omega) (fun j hj => by
    rw [blk_cell B]
    rcases Nat.lt_or_ge j 1 with h | h
    · rw [show j = 0 by omega]; rfl
    · rw [show j = 1 by omega]; rfl) (fun j hj => by
    rcases Nat.lt_or_ge j 1 with h | h
    · rw [show j = 0 by omega]; exact hu.fr F
    · rw [show j = 1 by omega]; exact hv.fr F) (fun j hj => by
    rcases Nat.lt_or_ge j 1 with h | h
    · rw [show j = 0 by omega]; exact Nat.zero_le _
    · rcases Nat.lt_or_ge j 2 with h' | h'
      · rw [show j = 1 by omega]; simp [catN]; omega
      · rw [show j = 2 by omega]; simp [catN]; omega)
  refine h.mono ?_
  rintro e w' ⟨r, rfl, O, f⟩
  have e1 : catN (fun j => if j = 0 then p else q) 2 = p ++ q := by simp [catN]
  rw [e1, show (w.alloc (.cells #[u, v] 33)).heap.size = w.heap.size + 1 by simp] at O
  exact ⟨r, rfl, O, f⟩
theorem step_two {ops : Array Oper} {o : Oper} {a : Act} {w : World} {K : Act → World → Prop} {Q : Exit → Act → World → Prop} {E : Prop} (hg : o.guard = none) (x y : Operand) (hop : o.op = Op.buildSlice 117 2 #[(0, x), (1, y)]) {a0 b0 : Option Addr} {n0 c0 m0 d0 : Nat} (hx : a.eval x = .slice a0 n0 c0) (hy : a.eval y = .slice b0 m0 d0)
    (hK : K (a.put o.dst (.slice (some ⟨w.heap.size, 0, none⟩) 2 2)) (w.alloc (.cells #[.slice a0 n0 c0, .slice b0 m0 d0] 33))) :
    if Region.wanted o (yielded ops a.tmps) = true then Oper.wp Tryd.prog o a w K Q else E := by
  have hw : Region.wanted o (yielded ops a.tmps) = true := by simp [Region.wanted, hg]
  rw [if_pos hw]
  unfold Oper.wp
  simp [execOp, hop, hx, hy]
  go_simp
  exact hK
theorem RdS.slice {S : Nat → Prop} {w : World} {v : Value} {p : List Nat} (h : Un S w (fun w' => Rd w' v (bv p))) : ∃ a c, v = .slice a p.length c := by
  obtain ⟨a, c, e⟩ := h.now.form
  rw [bv_len] at e
  exact ⟨a, c, e⟩
set_option maxRecDepth 20000 in
set_option maxHeartbeats 1600000 in
theorem lead_nil_c (w : World) {S : Nat → Prop} {pv v : Value} {p : List Nat} {n : Nd} (hp : Un S w (fun w' => Rd w' pv (bv p))) (hn : NdV S w n v) (h0 : p = [] ∨ n = .nil) :
    Calls Tryd.prog 80 #[pv, v] w fun e w' => e = .returned (.tuple #[v, .int .i64 0]) ∧ Fr [] w w' := by
  obtain ⟨pa, pc, e1⟩ := RdS.slice hp
  subst e1
  by_cases hp0 : p.length = 0
  · rw [hp0]
    clear hn hp
    go_enter Tryd.func80, Tryd.ntmps80
    go_wp2_with fail
    go_ret2
    exact ⟨rfl, Fr.refl _ _⟩
  · have hn0 : n = .nil := by
      rcases h0 with h | h
      · subst h; exact absurd rfl hp0
      · exact h
    subst hn0
    obtain rfl : v = .nilIface := hn
    obtain ⟨np, hnp⟩ : ∃ np, np = p.length := ⟨_, rfl⟩
    rw [← hnp] at hp0 ⊢
    clear hp hnp
    have hz : ((np : Int) == 0) = false := beq_eq_false_iff_ne.2 (by omega)
    go_enter Tryd.func80, Tryd.ntmps80
    go_wp2_with fail
    go_ret2
    exact ⟨rfl, Fr.refl _ _⟩
set_option maxRecDepth 20000 in
set_option maxHeartbeats 1600000 in
theorem lead_fork_c (w : World) {S : Nat → Prop} (HT : Tabs w) (hi : InS S w) {pv v : Value} {p : List Nat} {c : Nat → Nd} {x : List Nat} (hp : Un S w (fun w' => Rd w' pv (bv p))) (hok : okP p = true) (hn : NdV S w (.fork c x) v) (h0 : p ≠ []) :
    Calls Tryd.prog 80 #[pv, v] w fun e w' => ∃ r, e = .returned (.tuple #[r, .int .i64 0]) ∧ NdV (Up S w w') w' (leadN p (.fork c x)) r ∧ Fr [] w w' := by
  obtain ⟨pa, pc, e1⟩ := RdS.slice hp
  subst e1
  have hp0 : p.length ≠ 0 := fun e => h0 (List.eq_nil_of_length_eq_zero e)
  rw [leadN_fork h0]
  have MS := hid (fun (w' : World) (f : Fr [] w w') => makeStem_c w' (HT.fr f) (hi.fr f) (hp.step (hi.agr f)) hok (hn.step (hi.agr f)) trivial)
  obtain ⟨b, _, _, _, _, _, rfl, _⟩ := hn
  obtain ⟨np, hnp⟩ : ∃ np, np = p.length := ⟨_, rfl⟩
  rw [← hnp] at hp0 MS ⊢
  clear hp hnp HT hi
  have hz : ((np : Int) == 0) = false := beq_eq_false_iff_ne.2 (by omega)
  have ta := fun w => asLeaf_f w b
  have tb := fun w => asStem_f w b
  go_enter Tryd.func80, Tryd.ntmps80
  go_wp2_with (go_at_call 99; refine (MS.out _ (Fr.refl _ _)).mono ?_; rintro e w1 ⟨r, rfl, hN, f1⟩; have HN := hid hN; have F1 := hid f1; clear hN f1)
  go_ret2
  exact ⟨r, rfl, HN.out, F1.out⟩
set_option maxRecDepth 20000 in
set_option maxHeartbeats 1600000 in
theorem lead_leaf_c (w : World) {S : Nat → Prop} (HT : Tabs w) (hi : InS S w) {pv v : Value} {p q : List Nat} {x : List Nat} (hp : Un S w (fun w' => Rd w' pv (bv p))) (hok : okP (p ++ q) = true) (hn : NdV S w (.leaf q x) v) (h0 : p ≠ []) (hx : By x) (hx1 : 1 ≤ x.length) (hxl : x.length ≤ 1024) :
    Calls Tryd.prog 80 #[pv, v] w fun e w' => ∃ r, e = .returned (.tuple #[r, .int .i64 0]) ∧ NdV (Up S w w') w' (leadN p (.leaf q x)) r ∧ Fr [] w w' := by
  obtain ⟨pa, pc, e1⟩ := RdS.slice hp
  subst e1
  have hp0 : p.length ≠ 0 := fun e => h0 (List.eq_nil_of_length_eq_zero e)
  have hl := okP_len hok
  rw [List.length_append] at hl
  obtain ⟨b, _, _, _, qv, vv, rfl, hb, h1, h2, h3, h4⟩ := hn
  obtain ⟨qa, qc, e2⟩ := RdS.slice h2
  obtain ⟨va, vc, e3⟩ := RdS.slice h3
  subst e2 e3
  obtain ⟨nx, hnx⟩ : ∃ nx, nx = x.length := ⟨_, rfl⟩
  rw [← hnx] at h1 h3
  clear hnx
  obtain ⟨np, hnp⟩ : ∃ np, np = p.length := ⟨_, rfl⟩
  obtain ⟨nq, hnq⟩ : ∃ nq, nq = q.length := ⟨_, rfl⟩
  rw [← hnp] at hp hp0
  rw [← hnq] at h2 h1
  rw [← hnp]
  have c3 := blk_cell h1 3
  have c4 := blk_cell h1 4
  simp at c3 c4
  have SK : Hid (∀ w', Fr [] w w' → w'.cell? ⟨b, 3, none⟩ = some (.slice qa nq qc) ∧ w'.cell? ⟨b, 4, none⟩ = some (.slice va nx vc)) := hid fun w' f => ⟨cell_fr c3 f, cell_fr c4 f⟩
  have CC : Hid (∀ w', Fr [] w w' → _) := hid (fun w' (f : Fr [] w w') => twoT_c (hp w' (hi.agr f)) (h2 w' (hi.agr f)) (by omega))
  have HTH := hid HT
  have HI := hid hi
  have H3 := hid h3
  clear hp hnp hnq h1 h2 h3 h4 hb c3 c4 HT hi hl
  have hz : ((np : Int) == 0) = false := beq_eq_false_iff_ne.2 (by omega)
  have ta := fun w => asLeaf_y w b
  go_enter Tryd.func80, Tryd.ntmps80
  go_upto_region 6 with fail
  clear ta
  refine wp_region_held_drew (S := fun w' => w'.cell? ⟨b, 3, none⟩ = some (.slice qa nq qc) ∧ w'.cell? ⟨b, 4, none⟩ = some (.slice va nx vc)) (by kernel_rfl) (SK.out _ (Fr.refl _ _).drew) (fun hS => ?_)
  refine wpAnyH_take (i := 0) (v := .slice pa np pc) rfl (by kernel_rfl) (by kernel_rfl) (by kernel_rfl) (fun _ _ _ h => h) (.inl ⟨by rfl, fun wx _ => by go_simp⟩) hS ?_
  simp only [Act.put]
  refine wpAnyH_take (i := 1) (v := .pointer (some ⟨b, 0, none⟩)) rfl (by kernel_rfl) (by kernel_rfl) (by kernel_rfl) (fun _ _ _ h => h) (.inl ⟨by rfl, fun wx _ => by go_simp⟩) hS ?_
  simp only [Act.put]
  refine wpAnyH_take (i := 2) (v := .pointer (some ⟨b, 0, none⟩)) rfl (by kernel_rfl) (by kernel_rfl) (by kernel_rfl) (fun _ _ _ h => h) (.inl ⟨by rfl, fun wx _ => by go_simp⟩) hS ?_
  simp only [Act.put]
  refine wpAnyH_take (i := 3) (v := .pointer (some ⟨b, 3, none⟩)) rfl (by kernel_rfl) (by kernel_rfl) (by kernel_rfl) (fun _ _ _ h => h) (.inl ⟨by rfl, fun wx _ => by go_simp⟩) hS ?_
  simp only [Act.put]
  refine wpAnyH_take (i := 4) (v := .slice qa nq qc) rfl (by kernel_rfl) (by kernel_rfl) (by kernel_rfl) (fun _ _ _ h => h) (.inl ⟨by rfl, fun wx hX => by obtain ⟨x0, x1⟩ := hX; go_simp⟩) hS ?_
  simp only [Act.put]
  refine wpAnyH_take (i := 7) (v := .pointer (some ⟨b, 0, none⟩)) rfl (by kernel_rfl) (by kernel_rfl) (by kernel_rfl) (fun _ _ _ h => h) (.inl ⟨by rfl, fun wx _ => by go_simp⟩) hS ?_
  simp only [Act.put]
  refine wpAnyH_take (i := 8) (v := .pointer (some ⟨b, 0, none⟩)) rfl (by kernel_rfl) (by kernel_rfl) (by kernel_rfl) (fun _ _ _ h => h) (.inl ⟨by rfl, fun wx _ => by go_simp⟩) hS ?_
  simp only [Act.put]
  refine wpAnyH_take (i := 9) (v := .pointer (some ⟨b, 4, none⟩)) rfl (by kernel_rfl) (by kernel_rfl) (by kernel_rfl) (fun _ _ _ h => h) (.inl ⟨by rfl, fun wx _ => by go_simp⟩) hS ?_
  simp only [Act.put]
  refine wpAnyH_take (i := 10) (v := (.slice va nx vc)) rfl (by kernel_rfl) (by kernel_rfl) (by kernel_rfl) (fun _ _ _ h => h) (.inl ⟨by rfl, fun wx hX => by obtain ⟨x0, x1⟩ := hX; go_simp⟩) hS ?_
  simp only [Act.put]
  clear hS
  have FD : Hid (Fr [] w w.drew) := hid (Fr.refl _ _).drew
  refine wpAnyH_ready (rs := [5]) (by kernel_rfl) (by simp) ?_
  refine AllReadyH.cons rfl (fun K hK => ?_) AllReadyH.nil
  refine step_two (a0 := pa) (n0 := np) (c0 := pc) (b0 := qa) (m0 := nq) (d0 := qc) rfl (.tmp 20) (.tmp 24) rfl (by simp [Act.eval]) (by simp [Act.eval]) ?_
  have FA : Hid (Fr [] w (w.drew.alloc (.cells #[.slice pa np pc, .slice qa nq qc] 33))) := hid (FD.out.alloc _)
  refine hK.out _ _ (SK.out _ FA.out) (fun _ => ?_)
  clear hK K
  refine wpAnyH_ready (rs := [6]) (by kernel_rfl) (by simp) ?_
  refine AllReadyH.cons rfl (fun K hK => ?_) AllReadyH.nil
  go_simp
  go_at_call 54
  refine (CC.out _ FD.out).mono ?_
  rintro e w5 ⟨cv, rfl, O, f5⟩
  have OO := hid O
  have F5 := hid (FA.out.trans f5)
  clear f5 O CC
  go_simp
  have hS5 := SK.out _ F5.out
  refine hK.out _ _ hS5 (fun _ => ?_)
  clear hK K hS5
  refine wpAnyH_ready (rs := [11]) (by kernel_rfl) (by simp) ?_
  refine AllReadyH.cons rfl (fun K hK => ?_) AllReadyH.nil
  go_simp
  have UC := hid (Un.own (S := S) (w := w) OO.out (by have := FD.out.size; omega) (Fr.refl [] w5))
  go_at_call 77
  refine (makeLeaf_c w5 (HTH.out.fr F5.out) (HI.out.up F5.out) UC.out hok (H3.out.up HI.out F5.out) hx hx1 hxl).mono ?_
  rintro e w6 ⟨r, rfl, hN, f6⟩
  have HN := hid (hN.sub (T := Up S w w6) fun k hk => Up.two F5.out.size f6.size hk)
  have F6 := hid (F5.out.trans f6)
  clear hN f6
  go_simp
  have hS6 := SK.out _ F6.out
  refine hK.out _ _ hS6 (fun _ => ?_)
  clear hK K
  refine wpAnyH_take (i := 12) (v := r) rfl (by kernel_rfl) (by kernel_rfl) (by kernel_rfl) (fun _ _ _ h => h) (.inl ⟨by rfl, fun wx _ => by go_simp⟩) hS6 ?_
  simp only [Act.put, List.getElem_toArray, List.getElem_cons_succ, List.getElem_cons_zero]
  refine wpAnyH_take (i := 13) (v := .int .i64 0) rfl (by kernel_rfl) (by kernel_rfl) (by kernel_rfl) (fun _ _ _ h => h) (.inl ⟨by rfl, fun wx _ => by go_simp⟩) hS6 ?_
  simp only [Act.put, List.getElem_toArray, List.getElem_cons_succ, List.getElem_cons_zero]
  refine wpAnyH_take (i := 14) (v := r) rfl (by kernel_rfl) (by kernel_rfl) (by kernel_rfl) (fun _ _ _ h => h) (.inl ⟨by rfl, fun wx _ => by go_simp⟩) hS6 ?_
  simp only [Act.put, List.getElem_toArray, List.getElem_cons_succ, List.getElem_cons_zero]
  refine wpAnyH_take (i := 15) (v := .int .i64 0) rfl (by kernel_rfl) (by kernel_rfl) (by kernel_rfl) (fun _ _ _ h => h) (.inl ⟨by rfl, fun wx _ => by go_simp⟩) hS6 ?_
  simp only [Act.put, List.getElem_toArray, List.getElem_cons_succ, List.getElem_cons_zero]
  refine wpAnyH_done (by kernel_rfl) ?_ _
  clear hS6
  go_wp2
  go_ret2
  refine ⟨r, rfl, ?_, F6.out⟩
  exact HN.out
set_option maxRecDepth 20000 in
set_option maxHeartbeats 1600000 in
theorem lead_stem_c (w : World) {S : Nat → Prop} (HT : Tabs w) (hi : InS S w) {pv v : Value} {p q : List Nat} {t : Nd} (hp : Un S w (fun w' => Rd w' pv (bv p))) (hok : okP (p ++ q) = true) (hn : NdV S w (.stem q t) v) (h0 : p ≠ []) (hf : isFk t) :
    Calls Tryd.prog 80 #[pv, v] w fun e w' => ∃ r, e = .returned (.tuple #[r, .int .i64 0]) ∧ NdV (Up S w w') w' (leadN p (.stem q t)) r ∧ Fr [] w w' := by
  obtain ⟨pa, pc, e1⟩ := RdS.slice hp
  subst e1
  have hp0 : p.length ≠ 0 := fun e => h0 (List.eq_nil_of_length_eq_zero e)
  have hl := okP_len hok
  rw [List.length_append] at hl
  obtain ⟨b, _, _, _, qv, bl, rfl, hb, h1, h2, h3, h4⟩ := hn
  obtain ⟨qa, qc, e2⟩ := RdS.slice h2
  subst e2
  obtain ⟨c, x, rfl⟩ : ∃ c x, t = .fork c x := by
    cases t with
    | fork c x => exact ⟨c, x, rfl⟩
    | nil => exact hf.elim
    | far _ => exact hf.elim
    | leaf _ _ => exact hf.elim
    | stem _ _ => exact hf.elim
  obtain ⟨bT, bx, rfl⟩ : ∃ T x, bl = .iface T x := by
    obtain ⟨b', _, _, _, _, _, e, _⟩ := h3
    exact ⟨_, _, e⟩
  obtain ⟨np, hnp⟩ : ∃ np, np = p.length := ⟨_, rfl⟩
  obtain ⟨nq, hnq⟩ : ∃ nq, nq = q.length := ⟨_, rfl⟩
  rw [← hnp] at hp hp0
  rw [← hnq] at h2 h1
  rw [← hnp]
  have c3 := blk_cell h1 3
  have c4 := blk_cell h1 4
  simp at c3 c4
  have SK : Hid (∀ w', Fr [] w w' → w'.cell? ⟨b, 3, none⟩ = some (.slice qa nq qc) ∧ w'.cell? ⟨b, 4, none⟩ = some (.iface bT bx)) := hid fun w' f => ⟨cell_fr c3 f, cell_fr c4 f⟩
  have CC : Hid (∀ w', Fr [] w w' → _) := hid (fun w' (f : Fr [] w w') => twoT_c (hp w' (hi.agr f)) (h2 w' (hi.agr f)) (by omega))
  have HTH := hid HT
  have HI := hid hi
  have H3 := hid h3
  clear hp hnp hnq h1 h2 h3 h4 hb c3 c4 HT hi hl
  have hz : ((np : Int) == 0) = false := beq_eq_false_iff_ne.2 (by omega)
  have ta := fun w => asLeaf_s w b
  have tb := fun w => asStem_y w b
  go_enter Tryd.func80, Tryd.ntmps80
  go_upto_region 9 with fail
  clear ta tb
  refine wp_region_held_drew (S := fun w' => w'.cell? ⟨b, 3, none⟩ = some (.slice qa nq qc) ∧ w'.cell? ⟨b, 4, none⟩ = some (.iface bT bx)) (by kernel_rfl) (SK.out _ (Fr.refl _ _).drew) (fun hS => ?_)
  refine wpAnyH_take (i := 0) (v := .slice pa np pc) rfl (by kernel_rfl) (by kernel_rfl) (by kernel_rfl) (fun _ _ _ h => h) (.inl ⟨by rfl, fun wx _ => by go_simp⟩) hS ?_
  simp only [Act.put]
  refine wpAnyH_take (i := 1) (v := .pointer (some ⟨b, 0, none⟩)) rfl (by kernel_rfl) (by kernel_rfl) (by kernel_rfl) (fun _ _ _ h => h) (.inl ⟨by rfl, fun wx _ => by go_simp⟩) hS ?_
  simp only [Act.put]
  refine wpAnyH_take (i := 2) (v := .pointer (some ⟨b, 0, none⟩)) rfl (by kernel_rfl) (by kernel_rfl) (by kernel_rfl) (fun _ _ _ h => h) (.inl ⟨by rfl, fun wx _ => by go_simp⟩) hS ?_
  simp only [Act.put]
  refine wpAnyH_take (i := 3) (v := .pointer (some ⟨b, 3, none⟩)) rfl (by kernel_rfl) (by kernel_rfl) (by kernel_rfl) (fun _ _ _ h => h) (.inl ⟨by rfl, fun wx _ => by go_simp⟩) hS ?_
  simp only [Act.put]
  refine wpAnyH_take (i := 4) (v := .slice qa nq qc) rfl (by kernel_rfl) (by kernel_rfl) (by kernel_rfl) (fun _ _ _ h => h) (.inl ⟨by rfl, fun wx hX => by obtain ⟨x0, x1⟩ := hX; go_simp⟩) hS ?_
  simp only [Act.put]
  refine wpAnyH_take (i := 7) (v := .pointer (some ⟨b, 0, none⟩)) rfl (by kernel_rfl) (by kernel_rfl) (by kernel_rfl) (fun _ _ _ h => h) (.inl ⟨by rfl, fun wx _ => by go_simp⟩) hS ?_
  simp only [Act.put]
  refine wpAnyH_take (i := 8) (v := .pointer (some ⟨b, 0, none⟩)) rfl (by kernel_rfl) (by kernel_rfl) (by kernel_rfl) (fun _ _ _ h => h) (.inl ⟨by rfl, fun wx _ => by go_simp⟩) hS ?_
  simp only [Act.put]
  refine wpAnyH_take (i := 9) (v := .pointer (some ⟨b, 4, none⟩)) rfl (by kernel_rfl) (by kernel_rfl) (by kernel_rfl) (fun _ _ _ h => h) (.inl ⟨by rfl, fun wx _ => by go_simp⟩) hS ?_
  simp only [Act.put]
  refine wpAnyH_take (i := 10) (v := (.iface bT bx)) rfl (by kernel_rfl) (by kernel_rfl) (by kernel_rfl) (fun _ _ _ h => h) (.inl ⟨by rfl, fun wx hX => by obtain ⟨x0, x1⟩ := hX; go_simp⟩) hS ?_
  simp only [Act.put]
  clear hS
  have FD : Hid (Fr [] w w.drew) := hid (Fr.refl _ _).drew
  refine wpAnyH_ready (rs := [5]) (by kernel_rfl) (by simp) ?_
  refine AllReadyH.cons rfl (fun K hK => ?_) AllReadyH.nil
  refine step_two (a0 := pa) (n0 := np) (c0 := pc) (b0 := qa) (m0 := nq) (d0 := qc) rfl (.tmp 37) (.tmp 41) rfl (by simp [Act.eval]) (by simp [Act.eval]) ?_
  have FA : Hid (Fr [] w (w.drew.alloc (.cells #[.slice pa np pc, .slice qa nq qc] 33))) := hid (FD.out.alloc _)
  refine hK.out _ _ (SK.out _ FA.out) (fun _ => ?_)
  clear hK K
  refine wpAnyH_ready (rs := [6]) (by kernel_rfl) (by simp) ?_
  refine AllReadyH.cons rfl (fun K hK => ?_) AllReadyH.nil
  go_simp
  go_at_call 54
  refine (CC.out _ FD.out).mono ?_
  rintro e w5 ⟨cv, rfl, O, f5⟩
  have OO := hid O
  have F5 := hid (FA.out.trans f5)
  clear f5 O CC
  go_simp
  have hS5 := SK.out _ F5.out
  refine hK.out _ _ hS5 (fun _ => ?_)
  clear hK K hS5
  refine wpAnyH_ready (rs := [11]) (by kernel_rfl) (by simp) ?_
  refine AllReadyH.cons rfl (fun K hK => ?_) AllReadyH.nil
  go_simp
  have UC := hid (Un.own (S := S) (w := w) OO.out (by have := FD.out.size; omega) (Fr.refl [] w5))
  go_at_call 80
  refine (lead_fork_c w5 (HTH.out.fr F5.out) (HI.out.up F5.out) UC.out hok (H3.out.up HI.out F5.out) (by simp [h0])).mono ?_
  rintro e w6 ⟨r, rfl, hN, f6⟩
  have HN := hid (hN.sub (T := Up S w w6) fun k hk => Up.two F5.out.size f6.size hk)
  have F6 := hid (F5.out.trans f6)
  clear hN f6
  go_simp
  have hS6 := SK.out _ F6.out
  refine hK.out _ _ hS6 (fun _ => ?_)
  clear hK K
  refine wpAnyH_take (i := 12) (v := r) rfl (by kernel_rfl) (by kernel_rfl) (by kernel_rfl) (fun _ _ _ h => h) (.inl ⟨by rfl, fun wx _ => by go_simp⟩) hS6 ?_
  simp only [Act.put, List.getElem_toArray, List.getElem_cons_succ, List.getElem_cons_zero]
  refine wpAnyH_take (i := 13) (v := .int .i64 0) rfl (by kernel_rfl) (by kernel_rfl) (by kernel_rfl) (fun _ _ _ h => h) (.inl ⟨by rfl, fun wx _ => by go_simp⟩) hS6 ?_
  simp only [Act.put, List.getElem_toArray, List.getElem_cons_succ, List.getElem_cons_zero]
  refine wpAnyH_take (i := 14) (v := r) rfl (by kernel_rfl) (by kernel_rfl) (by kernel_rfl) (fun _ _ _ h => h) (.inl ⟨by rfl, fun wx _ => by go_simp⟩) hS6 ?_
  simp only [Act.put, List.getElem_toArray, List.getElem_cons_succ, List.getElem_cons_zero]
  refine wpAnyH_take (i := 15) (v := .int .i64 0) rfl (by kernel_rfl) (by kernel_rfl) (by kernel_rfl) (fun _ _ _ h => h) (.inl ⟨by rfl, fun wx _ => by go_simp⟩) hS6 ?_
  simp only [Act.put, List.getElem_toArray, List.getElem_cons_succ, List.getElem_cons_zero]
  refine wpAnyH_done (by kernel_rfl) ?_ _
  clear hS6
  go_wp2
  go_ret2
  refine ⟨r, rfl, ?_, F6.out⟩
  rw [show leadN p (.stem q (.fork c x)) = leadN (p ++ q) (.fork c x) from if_neg h0]
  exact HN.out
theorem lead_c (w : World) {S : Nat → Prop} (HT : Tabs w) (hi : InS S w) {pv v : Value} {p : List Nat} {n : Nd} (hp : Un S w (fun w' => Rd w' pv (bv p))) (hb : Nb p) (hl : p.length ≤ 128) (hn : NdV S w n v) (hok : okN (128 - p.length) n) :
    Calls Tryd.prog 80 #[pv, v] w fun e w' => ∃ r, e = .returned (.tuple #[r, .int .i64 0]) ∧ NdV (Up S w w') w' (leadN p n) r ∧ Fr [] w w' := by
  by_cases h0 : p = [] ∨ n = .nil
  · refine (lead_nil_c w hp hn h0).mono ?_
    rintro e w' ⟨rfl, f⟩
    refine ⟨v, rfl, ?_, f⟩
    have e1 : leadN p n = n := by
      rcases h0 with rfl | rfl
      · cases n <;> rfl
      · rfl
    rw [e1]
    exact hn.up hi f
  · have hp0 : p ≠ [] := fun e => h0 (.inl e)
    cases n with
    | nil => exact absurd (.inr rfl) h0
    | far _ => exact hok.elim
    | leaf q x => exact lead_leaf_c w HT hi hp (okP_of (hb.app hok.1) (by have := hok.2.1; rw [List.length_append]; omega)) hn hp0 hok.2.2.1 hok.2.2.2.1 hok.2.2.2.2
    | stem q t => exact lead_stem_c w HT hi hp (okP_of (hb.app hok.1) (by have := hok.2.1; rw [List.length_append]; omega)) hn hp0 hok.2.2.2.1
    | fork c x => exact lead_fork_c w HT hi hp (okP_of hb hl) hn hp0
end Go.Proofs.YtmpfnglcmaollaaDoor
