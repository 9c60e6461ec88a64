/-
  The document's blocks: shared, Rises.
-/
import Derived.Test.YtdlnfcepknoigaaBE
import Derived.Test.YtdlnfcepknoigaaTX
import Derived.Test.YtdlnfcepknoigaaTB
namespace Go.Proofs.Ytdlnfcepknoigaa
open Go.ChangeShapes Go.WideShapes Go.ChangeAt Go.RowKit

set_option maxRecDepth 20000 in
set_option maxHeartbeats 1600000 in
theorem rshared_c (w : World) {v1 v2 : Value} {a k : List Nat} (h1 : Rd w v1 (bv a)) (hla : a.length ≤ 140737488355328) (h2 : Rd w v2 (bv k)) :
    Calls Try.prog 39 #[v1, v2] w fun e w' => e = .returned (.int .i64 (shr a k : Int)) ∧ ∃ m, w' = w.drewN m := by
  have S1 := h1.split
  have S2 := h2.split
  obtain ⟨a1, c1, hv1⟩ := h1.form
  obtain ⟨a2, c2, hv2⟩ := h2.form
  rw [bv_len] at hv1 hv2
  subst hv1
  subst hv2
  have H1 := hid S1
  have H2 := hid S2
  obtain ⟨n1, hn1⟩ : ∃ n, n = a.length := ⟨_, rfl⟩
  obtain ⟨n2, hn2⟩ : ∃ n, n = k.length := ⟨_, rfl⟩
  have HN1 := hid hn1
  have HN2 := hid hn2
  rw [← hn1] at hla ⊢
  rw [← hn2]
  clear h1 h2 S1 S2 hn1 hn2
  go_enter Try.func39, Try.ntmps39
  go_wp2_with fail
  go_loopw [5] (fun v5 wr => ∃ n : Nat, n ≤ n1 ∧ n ≤ n2 ∧ v5 = .int .i64 (n : Int) ∧ a.take n = k.take n ∧ ∃ m, wr = w.drewN m) (fun v5 _ => n1 - (intOf v5).toNat)
  case atStart => exact ⟨0, Nat.zero_le _, Nat.zero_le _, rfl, rfl, 0, rfl⟩
  case round =>
    obtain ⟨n, hm1, hm2, rfl, ht, mm, hmm⟩ := hrel
    have hf : Fr [] w wr := by rw [hmm]; exact (Fr.refl _ _).drewN mm
    have HW := hid hmm
    clear hmm
    have HT := hid ht
    have HF := hid hf
    clear ht hf
    by_cases hlt1 : n < n1
    · have l1 : n < a.length := by have := HN1.out; omega
      obtain ⟨x, hx⟩ : ∃ x, a[n]? = some x := ⟨_, List.getElem?_eq_getElem l1⟩
      rcases H1.out with ⟨hb, _⟩ | ⟨b1, o1, d1, e1, _, _, g1⟩
      · rw [hb] at l1; simp at l1
      simp only [Value.slice.injEq] at e1
      obtain ⟨rfl, _, rfl⟩ := e1
      have z1 := cell_fr HF.out (g1 n x hx)
      clear g1
      by_cases hlt2 : n < n2
      · have l2 : n < k.length := by have := HN2.out; omega
        obtain ⟨y, hy⟩ : ∃ y, k[n]? = some y := ⟨_, List.getElem?_eq_getElem l2⟩
        rcases H2.out with ⟨hb, _⟩ | ⟨b2, o2, d2, e2, _, _, g2⟩
        · rw [hb] at l2; simp at l2
        simp only [Value.slice.injEq] at e2
        obtain ⟨rfl, _, rfl⟩ := e2
        have z2 := cell_fr HF.out (g2 n y hy)
        clear g2
        by_cases hxy : x = y
        · subst hxy
          have B : Hid (a.take (n + 1) = k.take (n + 1)) := by
            refine hid ?_
            rw [List.take_add_one, List.take_add_one, HT.out, hx, hy]
          clear hx hy l1 l2
          go_upto_region 2 with fail
          go_quiet (fail)
          go_wp2
          go_roundw
          case rel => exact ⟨n + 1, by omega, by omega, by go_num, B.out, mm + nq, by rw [HW.out, World.drewN_drewN]⟩
          case measure => simp [intOf]; omega
        · have HB := hid (shr_eq n a k HT.out (by omega) (by omega) (.inr ⟨x, y, hx, hy, hxy⟩))
          clear hx hy l1 l2
          go_upto_region 2 with fail
          go_quiet (fail)
          go_wp2
          all_goals first
            | (go_ret; exact ⟨by rw [HB.out]; rfl, mm + nq, by rw [HW.out, World.drewN_drewN]⟩)
            | (exfalso; omega)
      · have HB := hid (shr_eq n a k HT.out (by omega) (by have := HN2.out; omega) (.inl (by rw [← HN1.out, ← HN2.out]; omega)))
        have hd : decide ((n : Int) < (n2 : Int)) = false := by simp; omega
        clear hx l1
        go_upto_region 2 with fail
        go_quiet (fail)
        go_wp2
        all_goals first
          | (go_ret; exact ⟨by rw [HB.out]; rfl, mm + nq, by rw [HW.out, World.drewN_drewN]⟩)
          | (exfalso; omega)
    · have HB := hid (shr_eq n a k HT.out (by have := HN1.out; omega) (by have := HN2.out; omega) (.inl (by rw [← HN1.out, ← HN2.out]; omega)))
      have hd : decide ((n : Int) < (n1 : Int)) = false := by simp; omega
      go_upto_region 2 with fail
      go_quiet (fail)
      go_wp2
      all_goals first
        | (go_ret; exact ⟨by rw [HB.out]; rfl, mm + nq, by rw [HW.out, World.drewN_drewN]⟩)
        | (exfalso; omega)
set_option maxRecDepth 20000 in
set_option maxHeartbeats 1600000 in
theorem rrises_c (w : World) {v : Value} {ps : Ps} (h : RdK w v ps) (hl : ps.length ≤ 1000000) :
    Calls Try.prog 23 #[v] w fun e w' => (e = .returned (.bool true) ∧ Rises ps ∨ e = .returned (.bool false) ∧ ¬ Rises ps) ∧ Fr [] w w' := by
  have HBY := hid h.by
  obtain ⟨a, c, rfl, hc, k1⟩ := h
  have H1 := hid k1
  clear k1
  obtain ⟨n, hn⟩ : ∃ n, n = ps.length := ⟨_, rfl⟩
  have HN := hid hn
  rw [← hn] at hl hc ⊢
  clear hn
  go_enter Try.func23, Try.ntmps23
  go_wp2_with fail
  go_loopw [3] (fun v3 wr => ∃ i : Nat, i ≤ n ∧ v3 = .int .i64 (i : Int) ∧ (∀ j, j < i → flw (ahd ps j) (kA ps j) = true) ∧ Fr [] w wr) (fun v3 _ => n - (intOf v3).toNat)
  case atStart => exact ⟨0, Nat.zero_le _, rfl, fun j h => by omega, Fr.refl _ _⟩
  case round =>
    obtain ⟨i, hi, rfl, hr, hf⟩ := hrel
    have HR := hid hr
    have HF := hid hf
    clear hr hf
    by_cases hlt : i < n
    · have hil : i < ps.length := by rw [← HN.out]; exact hlt
      obtain ⟨b, off, rfl, m1⟩ := H1.out (by omega)
      obtain ⟨ka, kc, va, vc, P⟩ := m1 i _ (ps_at hil)
      have z1 := cell_fr HF.out P.ck
      have HIS := hid (fun m : Nat => is_c (wr.drewN m) ((P.rk.fr HF.out).fr ((Fr.refl [] wr).drewN m)) P.bk P.lk)
      dsimp only at z1 HIS
      have HP := hid P
      clear P
      obtain ⟨lk, hlk⟩ : ∃ l, l = (kA ps i).length := ⟨_, rfl⟩
      rw [← hlk] at z1 HIS
      have HLK := hid hlk
      clear hlk
      rcases hk : isK (kA ps i) with _ | _
      · rw [hk] at HIS
        have HNO : Hid (¬ Rises ps) := hid (not_rises hil (by
          rcases hf : flw (ahd ps i) (kA ps i) with _ | _
          · rfl
          · rw [flw_isK hf] at hk; cases hk))
        clear m1 hil hk
        go_upto_region 4 with fail
        go_quiet ((go_at_call 31; exact Calls.quiet_of_same (HIS.out _)))
        go_wp2
        go_ret
        exact ⟨.inr ⟨rfl, HNO.out⟩, HF.out.drewN nq⟩
      rw [hk] at HIS
      by_cases h0 : i = 0
      · have HYS : Hid (∀ j, j < i + 1 → flw (ahd ps j) (kA ps j) = true) := hid fun j hj => by
          have : j = i := by omega
          subst this
          unfold flw ahd
          rw [if_pos h0, if_pos rfl]; exact hk
        have hd : decide (0 < i) = false := decide_eq_false (by omega)
        clear h0
        clear m1 hil hk
        go_upto_region 4 with fail
        go_quiet ((go_at_call 31; exact Calls.quiet_of_same (HIS.out _)))
        go_wp2
        go_roundw
        case rel => exact ⟨i + 1, by omega, by go_num, HYS.out, HF.out.drewN nq⟩
        case measure => simp [intOf]; omega
      obtain ⟨i', rfl⟩ : ∃ i', i = i' + 1 := ⟨i - 1, by omega⟩
      have hil' : i' < ps.length := by omega
      have hk' := flw_isK (HR.out i' (by omega))
      obtain ⟨ja, jc, ua, uc, P2⟩ := m1 i' _ (ps_at hil')
      have z2 := cell_fr HF.out P2.ck
      have HOR := hid (fun m : Nat => order_q (wr.drewN m) ((P2.rk.fr HF.out).fr ((Fr.refl [] wr).drewN m)) P2.bk hk' ((HP.out.rk.fr HF.out).fr ((Fr.refl [] wr).drewN m)) HP.out.bk hk)
      dsimp only at z2 HOR
      rw [← HLK.out] at HOR
      have hne : kA ps i' ≠ [] := fun e => by have := isK_len hk'; rw [e] at this; simp at this
      have HFL : Hid (flw (ahd ps (i' + 1)) (kA ps (i' + 1)) = decide (ordK (kA ps i') (kA ps (i' + 1)) < 0)) := hid (by
        rw [ahd_succ]; unfold flw; rw [if_neg hne, hk', hk]; rfl)
      generalize hod : ordK (kA ps i') (kA ps (i' + 1)) = od at *
      generalize (kA ps i').length = lj at *
      have hpos : decide ((0 : Int) < ((i' : Int) + 1)) = true := decide_eq_true (by omega)
      have hsub : IntKind.i64.wrap ((i' : Int) + 1 - 1) = (i' : Int) := by rw [IntKind.wrap_i64]; omega
      have hin : (i' : Int) < (n : Int) := by omega
      by_cases hneg : od < 0
      · have HYS : Hid (∀ j, j < i' + 1 + 1 → flw (ahd ps j) (kA ps j) = true) := hid fun j hj => by
          rcases Nat.lt_or_ge j (i' + 1) with h | h
          · exact HR.out j h
          · have : j = i' + 1 := by omega
            subst this; rw [HFL.out]; exact decide_eq_true hneg
        clear m1 hil hk hk' hod hil' P2 hne
        go_upto_region 4 with fail
        go_quiet (first | (go_at_call 31; exact Calls.quiet_of_same (HIS.out _)) | (go_at_call 32; exact Calls.quiet_of (HOR.out _)))
        go_wp2
        go_roundw
        case rel => exact ⟨i' + 1 + 1, by omega, by go_num, HYS.out, HF.out.drewN nq⟩
        case measure => simp [intOf]; omega
      · have HNO : Hid (¬ Rises ps) := hid (not_rises hil (by rw [HFL.out]; exact decide_eq_false hneg))
        clear m1 hil hk hk' hod hil' P2 hne
        go_upto_region 4 with fail
        go_quiet (first | (go_at_call 31; exact Calls.quiet_of_same (HIS.out _)) | (go_at_call 32; exact Calls.quiet_of (HOR.out _)))
        go_wp2
        go_ret
        exact ⟨.inr ⟨rfl, HNO.out⟩, HF.out.drewN nq⟩
    · have hie : i = n := by omega
      subst hie
      go_wp2
      go_ret
      exact ⟨.inl ⟨rfl, fun j hj => HR.out j (by rw [HN.out]; exact hj)⟩, HF.out⟩
end Go.Proofs.Ytdlnfcepknoigaa
namespace Go.Proofs.Ytdlnfcepknoigaa
open Go.ChangeShapes Go.WideShapes Go.ChangeAt Go.RowKit

theorem infoI : (Try.prog.info? 3).map (fun i => (i.zero, i.size, i.bytes)) = some (some (.int .i64 0), 1, 8) := by kernel_rfl
theorem wpList_append_i {w : World} {ops : Array Oper} {rest : List Oper} {o : Oper} {a : Act} {Q : Exit → Act → World → Prop} (hgd : o.guard = none) (s x : Operand)
    (ho : o.op = .call { callee := .builtin .append, args := #[s, x], argTypes := #[75, 75] }) (base : Nat) (hbase : base ≤ w.heap.size) (v : Value) (n : Nat) (xs : List Value) (hs : a.eval s = v) (hown : w.ownsRow base 3 1 v n xs) (G : Nat) (hx : a.eval x = .slice (some ⟨G, 0, none⟩) 1 1) {u : Value} {T : TypeId} (hG : w.heap[G]? = some (.cells #[u] T (0, 0)))
    (hu : u.oneCell' = true) (hl : n ≤ 100000000000)
    (h : ∀ v' w', w'.ownsRow base 3 1 v' (n + 1) (xs ++ [u]) → w.grownBy w' v.ownBlock → wpList Try.prog ops Q rest (a.put o.dst v') w') :
    wpList Try.prog ops Q (o :: rest) a w := by
  obtain ⟨i0, hi, hz0, hz1, hz2⟩ := info_parts infoI
  refine wpList_append_own_at w hgd s x 75 ho base 3 i0 _ 1 8 Try.underlying75 hi hz0 hz1 hz2 rfl (by decide) v n xs hs hown ⟨G, 0, none⟩ 1 1 [u] hx rfl ?_ ?_ (by unfold maxLen; omega) (by omega) hbase fun v' w' h1 h2 _ _ => h v' w' h1 h2
  · intro j u' hj
    rw [Addr.add_lit, Nat.zero_add, blk_cell hG, ← Array.getElem?_toList]
    exact hj
  · intro u' hu'
    simp at hu'
    subst hu'; exact hu
/-- The places of restarts, as numbers. -/
def atL (r : Nat) (ps : Ps) : Nat → List Nat
  | 0 => []
  | i + 1 => if i % r = 0 then atL r ps i ++ [(bod r ps i).length] else atL r ps i
theorem atL_plc (r : Nat) (ps : Ps) : ∀ i, plc r ps i = (atL r ps i).flatMap (fun n => fixL n 4)
  | 0 => rfl
  | i + 1 => by
    rw [plc, atL]
    split
    · rw [List.flatMap_append, ← atL_plc r ps i]; simp
    · exact atL_plc r ps i
theorem atL_len (r : Nat) (ps : Ps) (i : Nat) : (atL r ps i).length = (plc r ps i).length / 4 := by
  rw [atL_plc]
  generalize atL r ps i = l
  induction l with
  | nil => rfl
  | cons x l ih => rw [List.flatMap_cons, List.length_append, fixL_len, List.length_cons, ih]; omega
theorem atL_le (r : Nat) (ps : Ps) : ∀ i, (atL r ps i).length ≤ i
  | 0 => Nat.le_refl _
  | i + 1 => by
    rw [atL]
    have := atL_le r ps i
    split
    · rw [List.length_append]; simp; omega
    · omega
def iv (l : List Nat) : List Value := l.map fun (n : Nat) => .int .i64 (n : Int)
end Go.Proofs.Ytdlnfcepknoigaa
