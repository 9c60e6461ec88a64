/-
  The document's blocks: shared, Rises.
-/
import Derived.Test.YtnnookkcnmgbfaaGreatJ08
import Derived.Test.YtnnookkcnmgbfaaGreatJ29
import Derived.Test.YtnnookkcnmgbfaaGreatJ14
namespace Go.Proofs.YtnnookkcnmgbfaaGreat
open Go.ChangeShapes Go.WideShapes Go.ChangeAt Go.RowKit

set_option maxRecDepth 20000 in
set_option maxHeartbeats 1600000 in
theorem rshared_c (w : World) {v1 v2 : Value} {a k : List Nat} (h1 : Rd w v1 (bv a)) (hla : a.length ≤ 140737488355328) (h2 : Rd w v2 (bv k)) :
    Calls Tryz.prog 78 #[v1, v2] w fun e w' => e = .returned (.int .i64 (shr a k : Int)) ∧ ∃ m, w' = w.drewN m := by
  have S1 := h1.split
  have S2 := h2.split
  obtain ⟨a1, c1, hv1⟩ := h1.form
  obtain ⟨a2, c2, hv2⟩ := h2.form
  rw [bv_len] at hv1 hv2
  subst hv1
  subst hv2
  have H1 := hid S1
  have H2 := hid S2
  obtain ⟨n1, hn1⟩ : ∃ n, n = a.length := ⟨_, rfl⟩
  obtain ⟨n2, hn2⟩ : ∃ n, n = k.length := ⟨_, rfl⟩
  have HN1 := hid hn1
  have HN2 := hid hn2
  rw [← hn1] at hla ⊢
  rw [← hn2]
  clear h1 h2 S1 S2 hn1 hn2
  go_enter Tryz.func78, Tryz.ntmps78
  go_wp2_with fail
  go_loopw [5] (fun v5 wr => ∃ n : Nat, n ≤ n1 ∧ n ≤ n2 ∧ v5 = .int .i64 (n : Int) ∧ a.take n = k.take n ∧ ∃ m, wr = w.drewN m) (fun v5 _ => n1 - (intOf v5).toNat)
  case atStart => exact ⟨0, Nat.zero_le _, Nat.zero_le _, rfl, rfl, 0, rfl⟩
  case round =>
    obtain ⟨n, hm1, hm2, rfl, ht, mm, hmm⟩ := hrel
    have hf : Fr [] w wr := by rw [hmm]; exact (Fr.refl _ _).drewN mm
    have HW := hid hmm
    clear hmm
    have HT := hid ht
    have HF := hid hf
    clear ht hf
    by_cases hlt1 : n < n1
    · have l1 : n < a.length := by have := HN1.out; omega
      obtain ⟨x, hx⟩ : ∃ x, a[n]? = some x := ⟨_, List.getElem?_eq_getElem l1⟩
      rcases H1.out with ⟨hb, _⟩ | ⟨b1, o1, d1, e1, _, _, g1⟩
      · rw [hb] at l1; simp at l1
      simp only [Value.slice.injEq] at e1
      obtain ⟨rfl, _, rfl⟩ := e1
      have z1 := cell_fr HF.out (g1 n x hx)
      clear g1
      by_cases hlt2 : n < n2
      · have l2 : n < k.length := by have := HN2.out; omega
        obtain ⟨y, hy⟩ : ∃ y, k[n]? = some y := ⟨_, List.getElem?_eq_getElem l2⟩
        rcases H2.out with ⟨hb, _⟩ | ⟨b2, o2, d2, e2, _, _, g2⟩
        · rw [hb] at l2; simp at l2
        simp only [Value.slice.injEq] at e2
        obtain ⟨rfl, _, rfl⟩ := e2
        have z2 := cell_fr HF.out (g2 n y hy)
        clear g2
        by_cases hxy : x = y
        · subst hxy
          have B : Hid (a.take (n + 1) = k.take (n + 1)) := by
            refine hid ?_
            rw [List.take_add_one, List.take_add_one, HT.out, hx, hy]
          clear hx hy l1 l2
          go_upto_region 2 with fail
          go_quiet (fail)
          go_wp2
          go_roundw
          case rel => exact ⟨n + 1, by omega, by omega, by go_num, B.out, mm + nq, by rw [HW.out, World.drewN_drewN]⟩
          case measure => simp [intOf]; omega
        · have HB := hid (shr_eq n a k HT.out (by omega) (by omega) (.inr ⟨x, y, hx, hy, hxy⟩))
          clear hx hy l1 l2
          go_upto_region 2 with fail
          go_quiet (fail)
          go_wp2
          all_goals first
            | (go_ret; exact ⟨by rw [HB.out]; rfl, mm + nq, by rw [HW.out, World.drewN_drewN]⟩)
            | (exfalso; omega)
      · have HB := hid (shr_eq n a k HT.out (by omega) (by have := HN2.out; omega) (.inl (by rw [← HN1.out, ← HN2.out]; omega)))
        have hd : decide ((n : Int) < (n2 : Int)) = false := by simp; omega
        clear hx l1
        go_upto_region 2 with fail
        go_quiet (fail)
        go_wp2
        all_goals first
          | (go_ret; exact ⟨by rw [HB.out]; rfl, mm + nq, by rw [HW.out, World.drewN_drewN]⟩)
          | (exfalso; omega)
    · have HB := hid (shr_eq n a k HT.out (by have := HN1.out; omega) (by have := HN2.out; omega) (.inl (by rw [← HN1.out, ← HN2.out]; omega)))
      have hd : decide ((n : Int) < (n1 : Int)) = false := by simp; omega
      go_upto_region 2 with fail
      go_quiet (fail)
      go_wp2
      all_goals first
        | (go_ret; exact ⟨by rw [HB.out]; rfl, mm + nq, by rw [HW.out, World.drewN_drewN]⟩)
        | (exfalso; omega)
set_option maxRecDepth 20000 in
set_option maxHeartbeats 1600000 in
theorem rrises_c (w : World) {v : Value} {ps : Ps} (h : RdK w v ps) (hl : ps.length ≤ 1000000) :
    Calls Tryz.prog 34 #[v] w fun e w' => (e = .returned (.bool true) ∧ Rises ps ∨ e = .returned (.bool false) ∧ ¬ Rises ps) ∧ Fr [] w w' := by
  have HBY := hid h.by
  obtain ⟨a, c, rfl, hc, k1⟩ := h
  have H1 := hid k1
  clear k1
  obtain ⟨n, hn⟩ : ∃ n, n = ps.length := ⟨_, rfl⟩
  have HN := hid hn
  rw [← hn] at hl hc ⊢
  clear hn
  go_enter Tryz.func34, Tryz.ntmps34
  go_wp2_with fail
  go_loopw [3] (fun v3 wr => ∃ i : Nat, i ≤ n ∧ v3 = .int .i64 (i : Int) ∧ (∀ j, j < i → flw (ahd ps j) (kA ps j) = true) ∧ Fr [] w wr) (fun v3 _ => n - (intOf v3).toNat)
  case atStart => exact ⟨0, Nat.zero_le _, rfl, fun j h => by omega, Fr.refl _ _⟩
  case round =>
    obtain ⟨i, hi, rfl, hr, hf⟩ := hrel
    have HR := hid hr
    have HF := hid hf
    clear hr hf
    by_cases hlt : i < n
    · have hil : i < ps.length := by rw [← HN.out]; exact hlt
      obtain ⟨b, off, rfl, m1⟩ := H1.out (by omega)
      obtain ⟨ka, kc, va, vc, P⟩ := m1 i _ (ps_at hil)
      have z1 := cell_fr HF.out P.ck
      have HIS := hid (fun m : Nat => is_c (wr.drewN m) ((P.rk.fr HF.out).fr ((Fr.refl [] wr).drewN m)) P.bk P.lk)
      dsimp only at z1 HIS
      have HP := hid P
      clear P
      obtain ⟨lk, hlk⟩ : ∃ l, l = (kA ps i).length := ⟨_, rfl⟩
      rw [← hlk] at z1 HIS
      have HLK := hid hlk
      clear hlk
      rcases hk : isK (kA ps i) with _ | _
      · rw [hk] at HIS
        have HNO : Hid (¬ Rises ps) := hid (not_rises hil (by
          rcases hf : flw (ahd ps i) (kA ps i) with _ | _
          · rfl
          · rw [flw_isK hf] at hk; cases hk))
        clear m1 hil hk
        go_upto_region 4 with fail
        go_quiet ((go_at_call 77; exact Calls.quiet_of_same (HIS.out _)))
        go_wp2
        go_ret
        exact ⟨.inr ⟨rfl, HNO.out⟩, HF.out.drewN nq⟩
      rw [hk] at HIS
      by_cases h0 : i = 0
      · have HYS : Hid (∀ j, j < i + 1 → flw (ahd ps j) (kA ps j) = true) := hid fun j hj => by
          have : j = i := by omega
          subst this
          unfold flw ahd
          rw [if_pos h0, if_pos rfl]; exact hk
        have hd : decide (0 < i) = false := decide_eq_false (by omega)
        clear h0
        clear m1 hil hk
        go_upto_region 4 with fail
        go_quiet ((go_at_call 77; exact Calls.quiet_of_same (HIS.out _)))
        go_wp2
        go_roundw
        case rel => exact ⟨i + 1, by omega, by go_num, HYS.out, HF.out.drewN nq⟩
        case measure => simp [intOf]; omega
      obtain ⟨i', rfl⟩ : ∃ i', i = i' + 1 := ⟨i - 1, by omega⟩
      have hil' : i' < ps.length := by omega
      have hk' := flw_isK (HR.out i' (by omega))
      obtain ⟨ja, jc, ua, uc, P2⟩ := m1 i' _ (ps_at hil')
      have z2 := cell_fr HF.out P2.ck
      have HOR := hid (fun m : Nat => order_q (wr.drewN m) ((P2.rk.fr HF.out).fr ((Fr.refl [] wr).drewN m)) P2.bk hk' ((HP.out.rk.fr HF.out).fr ((Fr.refl [] wr).drewN m)) HP.out.bk hk)
      dsimp only at z2 HOR
      rw [← HLK.out] at HOR
      have hne : kA ps i' ≠ [] := fun e => by have := isK_len hk'; rw [e] at this; simp at this
      have HFL : Hid (flw (ahd ps (i' + 1)) (kA ps (i' + 1)) = decide (ordK (kA ps i') (kA ps (i' + 1)) < 0)) := hid (by
        rw [ahd_succ]; unfold flw; rw [if_neg hne, hk', hk]; rfl)
      generalize hod : ordK (kA ps i') (kA ps (i' + 1)) = od at *
      generalize (kA ps i').length = lj at *
      have hpos : decide ((0 : Int) < ((i' : Int) + 1)) = true := decide_eq_true (by omega)
      have hsub : IntKind.i64.wrap ((i' : Int) + 1 - 1) = (i' : Int) := by rw [IntKind.wrap_i64]; omega
      have hin : (i' : Int) < (n : Int) := by omega
      by_cases hneg : od < 0
      · have HYS : Hid (∀ j, j < i' + 1 + 1 → flw (ahd ps j) (kA ps j) = true) := hid fun j hj => by
          rcases Nat.lt_or_ge j (i' + 1) with h | h
          · exact HR.out j h
          · have : j = i' + 1 := by omega
            subst this; rw [HFL.out]; exact decide_eq_true hneg
        clear m1 hil hk hk' hod hil' P2 hne
        go_upto_region 4 with fail
        go_quiet (first | (go_at_call 77; exact Calls.quiet_of_same (HIS.out _)) | (go_at_call 70; exact Calls.quiet_of (HOR.out _)))
        go_wp2
        go_roundw
        case rel => exact ⟨i' + 1 + 1, by omega, by go_num, HYS.out, HF.out.drewN nq⟩
        case measure => simp [intOf]; omega
      · have HNO : Hid (¬ Rises ps) := hid (not_rises hil (by rw [HFL.out]; exact decide_eq_false hneg))
        clear m1 hil hk hk' hod hil' P2 hne
        go_upto_region 4 with fail
        go_quiet (first | (go_at_call 77; exact Calls.quiet_of_same (HIS.out _)) | (go_at_call 70; exact Calls.quiet_of (HOR.out _)))
        go_wp2
        go_ret
        exact ⟨.inr ⟨rfl, HNO.out⟩, HF.out.drewN nq⟩
    · have hie : i = n := by omega
      subst hie
      go_wp2
      go_ret
      exact ⟨.inl ⟨rfl, fun j hj => HR.out j (by rw [HN.out]; exact hj)⟩, HF.out⟩
end Go.Proofs.YtnnookkcnmgbfaaGreat
namespace Go.Proofs.YtnnookkcnmgbfaaGreat
open Go.ChangeShapes Go.WideShapes Go.ChangeAt Go.RowKit

theorem infoI : (Tryz.prog.info? 3).map (fun i => (i.zero, i.size, i.bytes)) = some (some (.int .i64 0), 1, 8) := by kernel_rfl
theorem wpList_append_i {w : World} {ops : Array Oper} {rest : List Oper} {o : Oper} {a : Act} {Q : Exit → Act → World → Prop} (hgd : o.guard = none) (s x : Operand)
    (ho : o.op = .call { callee := .builtin .append, args := #[s, x], argTypes := #[136, 136] }) (base : Nat) (hbase : base ≤ w.heap.size) (v : Value) (n : Nat) (xs : List Value) (hs : a.eval s = v) (hown : w.ownsRow base 3 1 v n xs) (G : Nat) (hx : a.eval x = .slice (some ⟨G, 0, none⟩) 1 1) {u : Value} {T : TypeId} (hG : w.heap[G]? = some (.cells #[u] T (0, 0)))
    (hu : u.oneCell' = true) (hl : n ≤ 100000000000)
    (h : ∀ v' w', w'.ownsRow base 3 1 v' (n + 1) (xs ++ [u]) → w.grownBy w' v.ownBlock → wpList Tryz.prog ops Q rest (a.put o.dst v') w') :
    wpList Tryz.prog ops Q (o :: rest) a w := by
  obtain ⟨i0, hi, hz0, hz1, hz2⟩ := info_parts infoI
  refine wpList_append_own_at w hgd s x 136 ho base 3 i0 _ 1 8 Tryz.underlying136 hi hz0 hz1 hz2 rfl (by decide) v n xs hs hown ⟨G, 0, none⟩ 1 1 [u] hx rfl ?_ ?_ (by unfold maxLen; omega) (by omega) hbase fun v' w' h1 h2 _ _ => h v' w' h1 h2
  · intro j u' hj
    rw [Addr.add_lit, Nat.zero_add, blk_cell hG, ← Array.getElem?_toList]
    exact hj
  · intro u' hu'
    simp at hu'
    subst hu'; exact hu
/-- The places of restarts, as numbers. -/
def atL (r : Nat) (ps : Ps) : Nat → List Nat
  | 0 => []
  | i + 1 => if i % r = 0 then atL r ps i ++ [(bod r ps i).length] else atL r ps i
theorem atL_plc (r : Nat) (ps : Ps) : ∀ i, plc r ps i = (atL r ps i).flatMap (fun n => fixL n 4)
  | 0 => rfl
  | i + 1 => by
    rw [plc, atL]
    split
    · rw [List.flatMap_append, ← atL_plc r ps i]; simp
    · exact atL_plc r ps i
theorem atL_len (r : Nat) (ps : Ps) (i : Nat) : (atL r ps i).length = (plc r ps i).length / 4 := by
  rw [atL_plc]
  generalize atL r ps i = l
  induction l with
  | nil => rfl
  | cons x l ih => rw [List.flatMap_cons, List.length_append, fixL_len, List.length_cons, ih]; omega
theorem atL_le (r : Nat) (ps : Ps) : ∀ i, (atL r ps i).length ≤ i
  | 0 => Nat.le_refl _
  | i + 1 => by
    rw [atL]
    have := atL_le r ps i
    split
    · rw [List.length_append]; simp; omega
    · omega
def iv (l : List Nat) : List Value := l.map fun (n : Nat) => .int .i64 (n : Int)
end Go.Proofs.YtnnookkcnmgbfaaGreat
namespace Go.Proofs.YtnnookkcnmgbfaaGreat
open Go.ChangeShapes Go.WideShapes Go.ChangeAt Go.RowKit

def catF (l : List Nat) : List Nat := l.flatMap fun n => fixL n 4
theorem catF_len (l : List Nat) : (catF l).length = 4 * l.length := by
  unfold catF
  induction l with
  | nil => rfl
  | cons x l ih => rw [List.flatMap_cons, List.length_append, fixL_len, ih, List.length_cons]; omega
theorem atL_bd (r : Nat) (ps : Ps) : ∀ i, ∀ p ∈ atL r ps i, p ≤ (bod r ps i).length
  | 0, p, h => by simp [atL] at h
  | i + 1, p, h => by
    have hm := bod_le r ps (i := i) (j := i + 1) (by omega)
    rw [atL] at h
    split at h
    · rw [List.mem_append] at h
      rcases h with h | h
      · exact Nat.le_trans (atL_bd r ps i p h) hm
      · simp at h; omega
    · exact Nat.le_trans (atL_bd r ps i p h) hm
theorem own_keep {W W' : World} {B B' s s' n m : Nat} {e e' : TypeId} {v u : Value} {xs ys : List Value} (o : W.ownsRow B e s v n xs) (g : W.grownBy W' v.ownBlock) (q : W.ownsRow B' e' s' u m ys) (hne : e' ≠ e) : W'.ownsRow B' e' s' u m ys := by
  refine ownsRow_of_block q fun k hk => ?_
  rcases q.2 with ⟨rfl, _⟩ | ⟨h, cap, cur, rfl, _, h3, _⟩
  · simp [Value.ownBlock] at hk
  · simp [Value.ownBlock] at hk
    subst hk
    exact g.block _ (blk_lt h3) (fun e' => own_not o h3 hne e'.symm)
/-- The bytes so far, and the places so far. -/
structure Of2 (w wr : World) (xs ats : List Nat) (b t : Value) : Prop where
  ob : wr.ownsRow w.heap.size 5 1 b xs.length (bv xs)
  oa : wr.ownsRow w.heap.size 3 1 t ats.length (iv ats)
  fr : Fr [] w wr
theorem Of2.quiet {w wr w' : World} {xs ats : List Nat} {b t : Value} (h : Of2 w wr xs ats b t) (f : Fr [] wr w') : Of2 w w' xs ats b t := ⟨ownsRow_fr h.ob f, ownsRow_fr h.oa f, h.fr.trans f⟩
theorem Of2.bgrow {w wr w' : World} {xs ats : List Nat} {b t v' : Value} (h : Of2 w wr xs ats b t) (ys : List Nat) (o : w'.ownsRow w.heap.size 5 1 v' (xs.length + (bv ys).length) (bv xs ++ bv ys)) (g : wr.grownBy w' b.ownBlock) : Of2 w w' (xs ++ ys) ats v' t :=
  ⟨by rw [bv_append, List.length_append, ← bv_len ys]; exact o, own_keep h.ob g h.oa (by decide), h.fr.grown g (fun k hk => .inr (h.ob.lt k hk).1)⟩
theorem Of2.agrow {w wr w' : World} {xs ats : List Nat} {b t v' : Value} (h : Of2 w wr xs ats b t) (p : Nat) (o : w'.ownsRow w.heap.size 3 1 v' (ats.length + 1) (iv ats ++ [.int .i64 (p : Int)])) (g : wr.grownBy w' t.ownBlock) : Of2 w w' xs (ats ++ [p]) b v' :=
  ⟨own_keep h.oa g h.ob (by decide), by rw [List.length_append]; unfold iv; rw [List.map_append]; exact o, h.fr.grown g (fun k hk => .inr (h.oa.lt k hk).1)⟩
set_option maxRecDepth 20000 in
set_option maxHeartbeats 3200000 in
theorem of_c (w : World) {v : Value} {ps : Ps} (h : RdK w v ps) (hl : ps.length ≤ 1000000) (r : Nat) (h1 : 1 ≤ r) (h2 : r ≤ 64) (hr : Rises ps) (hb : (bod r ps ps.length).length ≤ 1000000000) :
    Calls Tryz.prog 37 #[v, .int .i64 (r : Int)] w fun e w' => ∃ v', e = .returned v' ∧ w'.ownsRow w.heap.size 5 1 v' (blk r ps).length (bv (blk r ps)) ∧ Fr [] w w' := by
  have HRI := hid hr
  obtain ⟨a, c, rfl, hc, k1⟩ := h
  have HK := hid k1
  clear k1 hr
  obtain ⟨n, hn⟩ : ∃ n, n = ps.length := ⟨_, rfl⟩
  have HNN := hid hn
  rw [← hn] at hl hc hb ⊢
  clear hn
  go_enter Tryz.func37, Tryz.ntmps37
  go_wp2_with fail
  go_loopw [5, 6, 7] (fun v5 v6 v7 wr => ∃ i : Nat, i ≤ n ∧ v7 = .int .i64 (i : Int) ∧ Of2 w wr (bod r ps i) (atL r ps i) v5 v6) (fun _ _ v7 _ => n - (intOf v7).toNat)
  case atStart => exact ⟨0, Nat.zero_le _, rfl, World.ownsRow_nil _ _ _ _, World.ownsRow_nil _ _ _ _, Fr.refl _ _⟩
  case round =>
    obtain ⟨i, hi, rfl, hs0⟩ := hrel
    have HS := hid hs0
    clear hs0
    have hmod : ((i : Int) % (r : Int)) = ((i % r : Nat) : Int) := by simp
    have hbl : (bod r ps i).length ≤ 1000000000 := Nat.le_trans (bod_le r ps hi) hb
    have hal : (atL r ps i).length ≤ 1000000 := Nat.le_trans (atL_le r ps i) (by omega)
    by_cases hlt : i < n
    · have hil : i < ps.length := by rw [← HNN.out]; exact hlt
      obtain ⟨b, off, rfl, m1⟩ := HK.out (by omega)
      obtain ⟨ka, kc, va, vc, P⟩ := m1 i _ (ps_at hil)
      have hk8 := isK_len (flw_isK (HRI.out i hil))
      obtain ⟨q0, o0, kc', hka, hkc⟩ := P.rk.place (by dsimp only; omega)
      simp only [Value.slice.injEq, true_and] at hka
      obtain ⟨rfl, rfl⟩ := hka
      have hsd := shd_lt (r := r) HRI.out hil
      have hsh : shd r ps i = (if i % r = 0 then 0 else shr (ahd ps i) (kA ps i) : Nat) := rfl
      have hbs : bod r ps (i + 1) = bod r ps i ++ ent (shd r ps i) (kA ps i) (vA ps i) := by rw [bod]
      have has : atL r ps (i + 1) = if i % r = 0 then atL r ps i ++ [(bod r ps i).length] else atL r ps i := rfl
      have hvb : (vA ps i).length ≤ 1000000000 ∧ (bod r ps i).length + (kA ps i).length + (vA ps i).length ≤ 2000000000 := by
        have e1 := (ent_len (shd r ps i) (kA ps i) (vA ps i)).2
        have e2 := bod_le r ps (i := i + 1) (j := n) (by omega)
        have e3 := kA_len HRI.out i
        rw [hbs, List.length_append] at e2
        omega
      have HZ : Hid (∀ W, Fr [] w W → W.cell? ⟨b, off + i * 2, none⟩ = some (.slice (some ⟨q0, o0, none⟩) (kA ps i).length kc) ∧ W.cell? ⟨b, off + i * 2 + 1, none⟩ = some (.slice va (vA ps i).length vc)) := hid fun W f => ⟨cell_fr f P.ck, cell_fr f P.cv⟩
      have RK := hid P.rk
      have RV := hid P.rv
      have SHQ : Hid (i % r ≠ 0 → ∃ ja jc, (∀ W, Fr [] w W → W.cell? ⟨b, off + (i - 1) * 2, none⟩ = some (.slice ja (kA ps (i - 1)).length jc)) ∧ ∀ W, Fr [] w W → Calls Tryz.prog 78 #[.slice ja (kA ps (i - 1)).length jc, .slice (some ⟨q0, o0, none⟩) (kA ps i).length kc] W fun e w' => e = .returned (.int .i64 (shd r ps i : Int)) ∧ ∃ m, w' = W.drewN m) := hid fun hz => by
        have h0 : i ≠ 0 := fun e => by rw [e] at hz; simp at hz
        obtain ⟨ja, jc, _, _, P2⟩ := m1 (i - 1) _ (ps_at (by omega))
        refine ⟨ja, jc, fun W f => cell_fr f P2.ck, fun W f => ?_⟩
        have := rshared_c W (P2.rk.fr f) P2.lk (P.rk.fr f)
        rw [hsh, if_neg hz, show ahd ps i = kA ps (i - 1) from by unfold ahd; rw [if_neg h0]]
        exact this
      dsimp only at RK RV hkc
      have HBS := hid hbs
      have HDL : Hid ((bv ((kA ps i).drop (shd r ps i))).length = (kA ps i).length - shd r ps i) := hid (by rw [bv_len, List.length_drop])
      have HVL : Hid ((bv (vA ps i)).length = (vA ps i).length) := hid (bv_len _)
      have RT := hid (RK.out.back (q := shd r ps i) (by omega))
      have HAS := hid has
      have HSH := hid hsh
      clear P m1 hsh hbs has
      obtain ⟨X, hX⟩ : ∃ X, X = bod r ps i := ⟨_, rfl⟩
      rw [← hX] at HS HBS HAS hvb hbl
      clear hX
      generalize hlk : (kA ps i).length = lk at *
      generalize hlv : (vA ps i).length = lv at *
      have HLK := hid hlk
      have HLV := hid hlv
      clear hlk hlv
      by_cases hm : i % r = 0
      · have hsd0 : shd r ps i = 0 := by rw [HSH.out, if_pos hm]
        have HA2 : Hid (atL r ps (i + 1) = atL r ps i ++ [X.length]) := hid (by rw [HAS.out, if_pos hm])
        rw [hm] at hmod
        generalize shd r ps i = sd at *
        subst hsd0
        obtain ⟨ba, bc, hv5, _⟩ := ownsRow_slice HS.out.ob
        subst hv5
        obtain ⟨W4, hW4⟩ : ∃ W, W = wr.alloc (.cells #[.int .i64 (X.length : Int)] 3) := ⟨_, rfl⟩
        have F4 : Hid (Fr [] wr W4) := by refine hid ?_; rw [hW4]; exact (Fr.refl _ _).alloc _
        have X4 : Hid (W4.heap[wr.heap.size]? = some (.cells #[.int .i64 (X.length : Int)] 3 (0, 0))) := by refine hid ?_; rw [hW4]; exact blk_new _ _
        have HS4 := hid (HS.out.quiet F4.out)
        have hs4 : w.heap.size ≤ W4.heap.size := HS4.out.fr.size
        clear HAS SHQ
        go_upto_region 10 with (at_builtin; rw [← hW4]; refine wpList_append_i rfl _ _ rfl w.heap.size hs4 _ _ _ rfl HS4.out.oa wr.heap.size rfl X4.out rfl (by omega) ?_; intro v6 W1 o1 g1)
        have HS1 := hid (HS4.out.agrow _ o1 g1)
        rw [← HA2.out] at HS1
        clear hW4 o1 g1 hmod hm F4 X4 HS4 HS hs4
        go_wp2_with fail
        refine (refput_c W1 0 (by omega)).mono ?_
        rintro e W2p ⟨pv2, rfl, op2, fp2⟩
        have HS1q := hid (HS1.out.quiet fp2)
        have OP2 := hid op2
        have hs2 : w.heap.size ≤ W2p.heap.size := HS1q.out.fr.size
        have pm2 : (putL 0).length ≤ 10 := putL_len10 (by omega)
        have pl2 : (bv (putL 0)).length ≤ 10 := by rw [bv_len]; exact pm2
        clear fp2 op2
        go_upto_region 11 with (at_builtin; refine wpList_append_rd rfl _ _ rfl w.heap.size hs2 _ _ _ rfl HS1q.out.ob _ _ rfl (Rd.ownB OP2.out) bv_one (by (try simp only [List.length_append]); omega) ?_; intro v52 W2 o2 g2 _)
        have HS2 := hid (HS1q.out.bgrow _ o2 g2)
        clear o2 g2 hs2 OP2 HS1 HS1q
        obtain ⟨z1a, _⟩ := HZ.out W2 HS2.out.fr
        have PUT2 : Hid (Calls Tryz.prog 38 #[.int .u64 ((lk : Int) - (0 : Int))] W2 fun e w' => ∃ v, e = .returned v ∧ w'.ownsRow W2.heap.size 5 1 v (putL (lk - 0)).length (bv (putL (lk - 0))) ∧ Fr [] W2 w') := by
          have := refput_c W2 (lk - 0) (by omega)
          rw [show ((lk - 0 : Nat) : Int) = (lk : Int) - (0 : Int) from by omega] at this
          exact hid this
        go_wp2_with fail
        refine (PUT2.out).mono ?_
        rintro e W3p ⟨pv3, rfl, op3, fp3⟩
        have HS2q := hid (HS2.out.quiet fp3)
        have OP3 := hid op3
        have hs3 : w.heap.size ≤ W3p.heap.size := HS2q.out.fr.size
        have pm3 : (putL (lk - 0)).length ≤ 10 := putL_len10 (by omega)
        have pl3 : (bv (putL (lk - 0))).length ≤ 10 := by rw [bv_len]; exact pm3
        clear fp3 op3
        go_upto_region 12 with (at_builtin; refine wpList_append_rd rfl _ _ rfl w.heap.size hs3 _ _ _ rfl HS2q.out.ob _ _ rfl (Rd.ownB OP3.out) bv_one (by (try simp only [List.length_append]); omega) ?_; intro v53 W3 o3 g3 _)
        have HS3 := hid (HS2q.out.bgrow _ o3 g3)
        clear o3 g3 hs3 OP3 HS2 HS2q
        clear z1a PUT2
        obtain ⟨_, z2a⟩ := HZ.out W3 HS3.out.fr
        go_wp2_with fail
        refine (refput_c W3 lv (by omega)).mono ?_
        rintro e W4p ⟨pv4, rfl, op4, fp4⟩
        have HS3q := hid (HS3.out.quiet fp4)
        have OP4 := hid op4
        have hs4 : w.heap.size ≤ W4p.heap.size := HS3q.out.fr.size
        have pm4 : (putL lv).length ≤ 10 := putL_len10 (by omega)
        have pl4 : (bv (putL lv)).length ≤ 10 := by rw [bv_len]; exact pm4
        clear fp4 op4
        go_upto_region 13 with (at_builtin; refine wpList_append_rd rfl _ _ rfl w.heap.size hs4 _ _ _ rfl HS3q.out.ob _ _ rfl (Rd.ownB OP4.out) bv_one (by (try simp only [List.length_append]); omega) ?_; intro v54 W4 o4 g4 _)
        have HS4 := hid (HS3q.out.bgrow _ o4 g4)
        clear o4 g4 hs4 OP4 HS3 HS3q
        clear z2a
        obtain ⟨z1b, _⟩ := HZ.out W4 HS4.out.fr
        have hs5 : w.heap.size ≤ W4.heap.size := HS4.out.fr.size
        have hdl5 := HDL.out
        have hvl5 := HVL.out
        have hck5 : ¬ kc = 0 := by omega
        have hlt5 : ¬ lk < 0 := by omega
        go_upto_region 14 with (at_builtin; refine wpList_append_rd rfl _ _ rfl w.heap.size hs5 _ _ _ rfl HS4.out.ob _ _ rfl (RT.out.fr HS4.out.fr) bv_one (by (try simp only [List.length_append]); omega) ?_; intro v55 W5 o5 g5 _)
        have HS5 := hid (HS4.out.bgrow _ o5 g5)
        clear o5 g5 z1b hs5 HS4
        obtain ⟨_, z2b⟩ := HZ.out W5 HS5.out.fr
        have hs6 : w.heap.size ≤ W5.heap.size := HS5.out.fr.size
        go_wp2_with (at_builtin; refine wpList_append_rd rfl _ _ rfl w.heap.size hs6 _ _ _ rfl HS5.out.ob _ _ rfl (RV.out.fr HS5.out.fr) bv_one (by (try simp only [List.length_append]); rw [bv_len] at hdl5; omega) ?_; intro v56 W6 o6 g6 _)
        have HS6 := hid (HS5.out.bgrow _ o6 g6)
        have hfin : X ++ putL 0 ++ putL (lk - 0) ++ putL lv ++ (kA ps i).drop 0 ++ vA ps i = bod r ps (i + 1) := by
          rw [HBS.out]; unfold ent; rw [HLK.out, HLV.out]; simp only [List.append_assoc]
        rw [hfin] at HS6
        go_roundw
        case rel => exact ⟨i + 1, by omega, by go_num, HS6.out⟩
        case measure => simp [intOf]; omega
      · obtain ⟨ja, jc, HJ, HSC⟩ := SHQ.out hm
        have HA2 : Hid (atL r ps (i + 1) = atL r ps i) := hid (by rw [HAS.out, if_neg hm])
        have hi0 : i ≠ 0 := fun e => by rw [e] at hm; simp at hm
        have zj := HJ wr HS.out.fr
        have zi := (HZ.out wr HS.out.fr).1
        have HQ : Hid (∀ m, Calls Tryz.prog 78 #[.slice ja (kA ps (i - 1)).length jc, .slice (some ⟨q0, o0, none⟩) lk kc] (wr.drewN m) fun e w' => e = .returned (.int .i64 (shd r ps i : Int)) ∧ ∃ m', w' = (wr.drewN m).drewN m') := hid fun m => HSC _ (HS.out.fr.trans ((Fr.refl [] wr).drewN m))
        obtain ⟨i', hii⟩ : ∃ i', i = i' + 1 := ⟨i - 1, by omega⟩
        have zj' : wr.cell? ⟨b, off + i' * 2, none⟩ = some (.slice ja (kA ps (i - 1)).length jc) := by rw [show i' = i - 1 from by omega]; exact zj
        have hsub : IntKind.i64.wrap ((i : Int) - 1) = (i' : Int) := by rw [IntKind.wrap_i64]; omega
        have hin' : (i' : Int) < (n : Int) := by omega
        have hmd : ¬ ((i % r : Nat) : Int) = 0 := by omega
        have hmd2 : (i : Int) - 1 = (i' : Int) := by omega
        generalize (kA ps (i - 1)).length = lj at *
        clear HAS SHQ HJ HSC zj hii hi0 HSH
        generalize shd r ps i = sd at *
        generalize i % r = md at *
        go_upto_region 9 with fail
        go_quiet ((go_at_call 78; exact Calls.quiet_of (HQ.out _)))
        have HS1 := hid (HS.out.quiet ((Fr.refl [] wr).drewN nq))
        rw [← HA2.out] at HS1
        clear zi zj' HQ hmod hmd HS
        generalize wr.drewN nq = W1 at *
        go_wp2_with fail
        refine (refput_c W1 sd (by omega)).mono ?_
        rintro e W2p ⟨pv2, rfl, op2, fp2⟩
        have HS1q := hid (HS1.out.quiet fp2)
        have OP2 := hid op2
        have hs2 : w.heap.size ≤ W2p.heap.size := HS1q.out.fr.size
        have pm2 : (putL sd).length ≤ 10 := putL_len10 (by omega)
        have pl2 : (bv (putL sd)).length ≤ 10 := by rw [bv_len]; exact pm2
        clear fp2 op2
        go_upto_region 11 with (at_builtin; refine wpList_append_rd rfl _ _ rfl w.heap.size hs2 _ _ _ rfl HS1q.out.ob _ _ rfl (Rd.ownB OP2.out) bv_one (by (try simp only [List.length_append]); omega) ?_; intro v52 W2 o2 g2 _)
        have HS2 := hid (HS1q.out.bgrow _ o2 g2)
        clear o2 g2 hs2 OP2 HS1 HS1q
        obtain ⟨z1a, _⟩ := HZ.out W2 HS2.out.fr
        have PUT2 : Hid (Calls Tryz.prog 38 #[.int .u64 ((lk : Int) - (sd : Int))] W2 fun e w' => ∃ v, e = .returned v ∧ w'.ownsRow W2.heap.size 5 1 v (putL (lk - sd)).length (bv (putL (lk - sd))) ∧ Fr [] W2 w') := by
          have := refput_c W2 (lk - sd) (by omega)
          rw [show ((lk - sd : Nat) : Int) = (lk : Int) - (sd : Int) from by omega] at this
          exact hid this
        go_wp2_with fail
        refine (PUT2.out).mono ?_
        rintro e W3p ⟨pv3, rfl, op3, fp3⟩
        have HS2q := hid (HS2.out.quiet fp3)
        have OP3 := hid op3
        have hs3 : w.heap.size ≤ W3p.heap.size := HS2q.out.fr.size
        have pm3 : (putL (lk - sd)).length ≤ 10 := putL_len10 (by omega)
        have pl3 : (bv (putL (lk - sd))).length ≤ 10 := by rw [bv_len]; exact pm3
        clear fp3 op3
        go_upto_region 12 with (at_builtin; refine wpList_append_rd rfl _ _ rfl w.heap.size hs3 _ _ _ rfl HS2q.out.ob _ _ rfl (Rd.ownB OP3.out) bv_one (by (try simp only [List.length_append]); omega) ?_; intro v53 W3 o3 g3 _)
        have HS3 := hid (HS2q.out.bgrow _ o3 g3)
        clear o3 g3 hs3 OP3 HS2 HS2q
        clear z1a PUT2
        obtain ⟨_, z2a⟩ := HZ.out W3 HS3.out.fr
        go_wp2_with fail
        refine (refput_c W3 lv (by omega)).mono ?_
        rintro e W4p ⟨pv4, rfl, op4, fp4⟩
        have HS3q := hid (HS3.out.quiet fp4)
        have OP4 := hid op4
        have hs4 : w.heap.size ≤ W4p.heap.size := HS3q.out.fr.size
        have pm4 : (putL lv).length ≤ 10 := putL_len10 (by omega)
        have pl4 : (bv (putL lv)).length ≤ 10 := by rw [bv_len]; exact pm4
        clear fp4 op4
        go_upto_region 13 with (at_builtin; refine wpList_append_rd rfl _ _ rfl w.heap.size hs4 _ _ _ rfl HS3q.out.ob _ _ rfl (Rd.ownB OP4.out) bv_one (by (try simp only [List.length_append]); omega) ?_; intro v54 W4 o4 g4 _)
        have HS4 := hid (HS3q.out.bgrow _ o4 g4)
        clear o4 g4 hs4 OP4 HS3 HS3q
        clear z2a
        obtain ⟨z1b, _⟩ := HZ.out W4 HS4.out.fr
        have hs5 : w.heap.size ≤ W4.heap.size := HS4.out.fr.size
        have hdl5 := HDL.out
        have hvl5 := HVL.out
        have hck5 : ¬ kc = sd := by omega
        have hlt5 : ¬ lk < sd := by omega
        go_upto_region 14 with (at_builtin; refine wpList_append_rd rfl _ _ rfl w.heap.size hs5 _ _ _ rfl HS4.out.ob _ _ rfl (RT.out.fr HS4.out.fr) bv_one (by (try simp only [List.length_append]); omega) ?_; intro v55 W5 o5 g5 _)
        have HS5 := hid (HS4.out.bgrow _ o5 g5)
        clear o5 g5 z1b hs5 HS4
        obtain ⟨_, z2b⟩ := HZ.out W5 HS5.out.fr
        have hs6 : w.heap.size ≤ W5.heap.size := HS5.out.fr.size
        go_wp2_with (at_builtin; refine wpList_append_rd rfl _ _ rfl w.heap.size hs6 _ _ _ rfl HS5.out.ob _ _ rfl (RV.out.fr HS5.out.fr) bv_one (by (try simp only [List.length_append]); rw [bv_len] at hdl5; omega) ?_; intro v56 W6 o6 g6 _)
        have HS6 := hid (HS5.out.bgrow _ o6 g6)
        have hfin : X ++ putL sd ++ putL (lk - sd) ++ putL lv ++ (kA ps i).drop sd ++ vA ps i = bod r ps (i + 1) := by
          rw [HBS.out]; unfold ent; rw [HLK.out, HLV.out]; simp only [List.append_assoc]
        rw [hfin] at HS6
        go_roundw
        case rel => exact ⟨i + 1, by omega, by go_num, HS6.out⟩
        case measure => simp [intOf]; omega
    · have hie : i = n := by omega
      subst hie
      clear hlt hmod
      obtain ⟨ta, tc, hv6, _⟩ := ownsRow_slice HS.out.oa
      subst hv6
      generalize hatn : (atL r ps i).length = an at *
      have HAN := hid hatn
      clear hatn
      go_wp2_with fail
      go_loopw [5, 9] (fun v5 v9 wx => ∃ j : Nat, j ≤ an ∧ v9 = .int .i64 (j : Int) ∧ Of2 w wx (bod r ps i ++ catF ((atL r ps i).take j)) (atL r ps i) v5 (.slice ta an tc)) (fun _ v9 _ => an - (intOf v9).toNat)
      case atStart => exact ⟨0, Nat.zero_le _, rfl, by rw [List.take_zero]; unfold catF; rw [List.flatMap_nil, List.append_nil]; exact HS.out⟩
      case round =>
        clear HS
        obtain ⟨j, hj, rfl, hs0⟩ := hrel
        have HS := hid hs0
        clear hs0
        have hcl : (bod r ps i ++ catF ((atL r ps i).take j)).length ≤ 1004000000 := by rw [List.length_append, catF_len, List.length_take]; have := HAN.out; omega
        by_cases hlt : j < an
        · have hjl : j < (atL r ps i).length := by rw [HAN.out]; exact hlt
          obtain ⟨p, hp⟩ : ∃ p, (atL r ps i)[j]? = some p := ⟨_, List.getElem?_eq_getElem hjl⟩
          have hpb := atL_bd r ps i p (List.mem_of_getElem? hp)
          have HNX : Hid (bod r ps i ++ catF ((atL r ps i).take j) ++ fixL p 4 = bod r ps i ++ catF ((atL r ps i).take (j + 1))) := hid (by rw [List.take_add_one, hp]; unfold catF; rw [List.flatMap_append, List.append_assoc]; simp)
          have hta : ∃ tb, ta = some ⟨tb, 0, none⟩ := by
            rcases HS.out.oa.2 with ⟨e, h0⟩ | ⟨g, cap, cur, e, _⟩
            · omega
            · simp only [Value.slice.injEq] at e
              exact ⟨g, e.1⟩
          obtain ⟨tb, rfl⟩ := hta
          have zc : wr.cell? ⟨tb, j, none⟩ = some (.int .i64 (p : Int)) := by
            have := HS.out.oa.cells rfl j (.int .i64 (p : Int)) (by unfold iv; rw [List.getElem?_map, hp]; rfl)
            rwa [Addr.add_lit, Nat.zero_add] at this
          clear hp hjl
          go_wp2_with fail
          refine (reffixed_c wr p 4 (by omega) (by omega)).mono ?_
          rintro e w2 ⟨fv, rfl, of, ff⟩
          have HS2 := hid (HS.out.quiet ff)
          have OF := hid of
          have hs2 : w.heap.size ≤ w2.heap.size := HS2.out.fr.size
          clear of ff zc
          go_wp2_with (at_builtin; refine wpList_append_rd rfl _ _ rfl w.heap.size hs2 _ _ _ rfl HS2.out.ob _ _ rfl (Rd.ownN OF.out (by rw [fixL_len])) bv_one (by rw [bv_len, fixL_len]; omega) ?_; intro v53 W3 o3 g3 _)
          have HS3 := hid (HS2.out.bgrow _ o3 g3)
          rw [HNX.out] at HS3
          go_roundw
          case rel => exact ⟨j + 1, by omega, by go_num, HS3.out⟩
          case measure => simp [intOf]; omega
        · have hje : j = an := by omega
          subst hje
          go_wp2_with fail
          refine (reffixed_c wr j 4 (by omega) (by omega)).mono ?_
          rintro e w2 ⟨fv, rfl, of, ff⟩
          have HS2 := hid (HS.out.quiet ff)
          have OF := hid of
          have hs2 : w.heap.size ≤ w2.heap.size := HS2.out.fr.size
          clear of ff
          go_wp2_with (at_builtin; refine wpList_append_rd rfl _ _ rfl w.heap.size hs2 _ _ _ rfl HS2.out.ob _ _ rfl (Rd.ownN OF.out (by rw [fixL_len])) bv_one (by rw [bv_len, fixL_len]; omega) ?_; intro v53 W3 o3 g3 _)
          have HS3 := hid (HS2.out.bgrow _ o3 g3)
          have hfin : bod r ps i ++ catF ((atL r ps i).take j) ++ fixL j 4 = blk r ps := by
            unfold blk
            rw [← HNN.out, ← atL_len, HAN.out, List.take_of_length_le (by rw [HAN.out]; exact Nat.le_refl _), atL_plc, List.append_assoc]; rfl
          rw [hfin] at HS3
          go_ret
          exact ⟨_, rfl, HS3.out.ob, HS3.out.fr⟩
end Go.Proofs.YtnnookkcnmgbfaaGreat
