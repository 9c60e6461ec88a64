/-
  container/heap's down over what is left of lists.
-/
import Derived.Test.YthmlpjogbdpgiaaCF
import Derived.Test.YthmlpjogbdpgiaaJ02
import Derived.Deep.RegionLaw
namespace Go.Proofs.Ythmlpjogbdpgiaa
open Go.ChangeShapes Go.WideShapes Go.ChangeAt Go.RowKit

/-- The lesser child of a place. -/
structure CH (q : Nat → List Nat) (m i c : Nat) : Prop where
  c0 : 0 < c
  cm : c < m
  ci : (c - 1) / 2 = i
  mn : ∀ d, 0 < d → d < m → (d - 1) / 2 = i → ordK (q c) (q d) ≤ 0
theorem ch_left {q : Nat → List Nat} {m i L : Nat} (hL : L = 2 * i + 1) (h1 : L < m) (h2 : L + 1 < m → 0 ≤ ordK (q (L + 1)) (q L)) : CH q m i L := ⟨by omega, h1, by omega, fun d h3 h4 h5 => by
  by_cases e : d = L
  · rw [e]; exact ordK_refl _
  · have e2 : d = L + 1 := by omega
    subst e2
    have := h2 h4
    rw [ordK_neg]; omega⟩
theorem ch_right {q : Nat → List Nat} {m i L : Nat} (hL : L = 2 * i + 1) (h2 : L + 1 < m) (h3 : ordK (q (L + 1)) (q L) < 0) : CH q m i (L + 1) := ⟨by omega, h2, by omega, fun d h3' h4 h5 => by
  by_cases e : d = L + 1
  · rw [e]; exact ordK_refl _
  · have e2 : d = L := by omega
    subst e2
    omega⟩
theorem ch_done {q : Nat → List Nat} {m i c : Nat} (h : DnI q m i) (k : CH q m i c) (hle : 0 ≤ ordK (q c) (q i)) : HeapB q m := dn_done h fun d h1 h2 h3 => by
  have h4 := k.mn d h1 h2 h3
  have h5 : ordK (q i) (q c) ≤ 0 := by rw [ordK_neg]; omega
  exact ordK_trans _ _ _ h5 h4
theorem ch_none {q : Nat → List Nat} {m i L : Nat} (h : DnI q m i) (hL : L = 2 * i + 1) (h1 : ¬ L < m) : HeapB q m := dn_done h fun d _ _ _ => by omega
theorem swL_ge {hs : List Ps} {i j m : Nat} (hi : i < m) (hj : j < m) (hm : m ≤ hs.length) {k : Nat} (hk : m ≤ k) : (swL hs i j)[k]? = hs[k]? := by
  rw [swL_at (by omega) (by omega), if_neg (by omega), if_neg (by omega)]
set_option maxRecDepth 20000 in
set_option maxHeartbeats 6400000 in
theorem down_c {w0 W : World} {P g c : Nat} {vs : List Value} {hs : List Ps} (h : RW w0 W P (some ⟨g, 0, none⟩) c vs hs) (ok : OkR hs) {i m : Nat} (hi : i ≤ m) (hm : m ≤ hs.length) (hd : DnI (hk hs) m i) (hl : hs.length ≤ 1000000) :
    Calls Try.prog 56 #[HV P, .int .i64 (i : Int), .int .i64 (m : Int)] W fun e w' => ∃ b hs' vs', e = .returned (.bool b) ∧ SI w0 W w' P g c hs hs' vs' ∧ HeapB (hk hs') m ∧ ∀ k, m ≤ k → hs'[k]? = hs[k]? := by
  have H0 := hid h
  have HD := hid hd
  have OK0 := hid ok
  clear h hd ok
  obtain ⟨n, hn⟩ : ∃ n, n = hs.length := ⟨_, rfl⟩
  have HN := hid hn
  rw [← hn] at hm hl
  clear hn
  go_enter Try.func56, Try.ntmps56
  go_wp2_with fail
  go_loopw [7] (fun v7 wr => ∃ (i : Nat) (hs' : List Ps) (vs' : List Value), v7 = .int .i64 (i : Int) ∧ i ≤ m ∧ SI w0 W wr P g c hs hs' vs' ∧ DnI (hk hs') m i ∧ ∀ k, m ≤ k → hs'[k]? = hs[k]?) (fun v7 _ => m - (intOf v7).toNat)
  case atStart => exact ⟨i, hs, vs, rfl, hi, ⟨H0.out, List.Perm.refl _, Fr.refl _ _⟩, HD.out, fun _ _ => rfl⟩
  case round =>
    obtain ⟨i1, hs', vs', rfl, hi1, si, di, tl⟩ := hrel
    have SI1 := hid si
    have DI1 := hid di
    have TL1 := hid tl
    have OK1 := hid (OK0.out.perm si.pm)
    have hlen : hs'.length = n := by rw [HN.out]; exact si.len
    have HLEN := hid hlen
    have c0 := si.rw.cell
    rw [hlen] at c0
    have C0 := hid c0
    clear si di tl hi H0 HD c0
    obtain ⟨L, hL⟩ : ∃ L, L = 2 * i1 + 1 := ⟨_, rfl⟩
    have HL := hid hL
    have HLI : Hid (2 * (i1 : Int) + 1 = (L : Int)) := hid (by omega)
    clear hL
    go_upto_region 3 with fail
    rw [HLI.out]
    have hL := HL.out
    by_cases h1 : L < m
    rotate_left
    · have HB := hid (ch_none DI1.out hL h1)
      have h1' : (m : Int) ≤ (L : Int) := by omega
      clear hL hlen
      go_wp2
      go_ret
      exact ⟨_, hs', vs', rfl, SI1.out, HB.out, TL1.out⟩
    have h1' : ¬ (m : Int) ≤ (L : Int) := by omega
    have hiL : i1 < L := by omega
    have LS : Hid (∀ W2, Fr [] wr W2 → ∀ a b : Nat, a < m → b < m → Calls Try.prog 100 #[.slice (some ⟨g, 0, none⟩) n c, .int .i64 (a : Int), .int .i64 (b : Int)] W2 fun e w' => e = .returned (.bool (decide (ordK (hk hs' a) (hk hs' b) < 0))) ∧ Fr [] W2 w') := hid (fun W2 f a b ha hb => by
      have h3 := less_c (SI1.out.rw.quiet f) OK1.out (i := a) (k := b) (by rw [HLEN.out]; omega) (by rw [HLEN.out]; omega)
      rw [HLEN.out] at h3
      exact h3)
    have ML : Hid (∀ W2, Fr [] wr W2 → Sem.run Try.prog (Go.method 244 62 (.pointer (some ⟨P, 0, none⟩)) "Less") W2 = .ok (100, .slice (some ⟨g, 0, none⟩) n c) W2) := hid (fun W2 f => meth_less W2 P c n _ (cell_fr f C0.out))
    have MS : Hid (∀ W2, Fr [] wr W2 → Sem.run Try.prog (Go.method 244 62 (.pointer (some ⟨P, 0, none⟩)) "Swap") W2 = .ok (101, .slice (some ⟨g, 0, none⟩) n c) W2) := hid (fun W2 f => meth_swap W2 P c n _ (cell_fr f C0.out))
    have SW : Hid (∀ W2, Fr [] wr W2 → ∀ a b : Nat, a < m → b < m → Calls Try.prog 101 #[.slice (some ⟨g, 0, none⟩) n c, .int .i64 (a : Int), .int .i64 (b : Int)] W2 fun e w' => ∃ u vs', e = .returned u ∧ RW w0 w' P (some ⟨g, 0, none⟩) c vs' (swL hs' a b) ∧ Fr [g] W2 w') := hid (fun W2 f a b ha hb => by
      have h3 := swap_c (SI1.out.rw.quiet f) (i := a) (k := b) (by rw [HLEN.out]; omega) (by rw [HLEN.out]; omega)
      rw [HLEN.out] at h3
      exact h3)
    have KEY : Hid (∃ (cc : Nat) (b : Bool), CH (hk hs') m i1 cc ∧ i1 < cc ∧ ((L + 1 < m ∧ b = true ∧ cc = L + 1 ∧ ordK (hk hs' (L + 1)) (hk hs' L) < 0) ∨ (L + 1 < m ∧ b = false ∧ cc = L ∧ ¬ ordK (hk hs' (L + 1)) (hk hs' L) < 0) ∨ (¬ L + 1 < m ∧ cc = L))) := hid (by
      by_cases h2 : L + 1 < m
      · by_cases h3 : ordK (hk hs' (L + 1)) (hk hs' L) < 0
        · exact ⟨L + 1, true, ch_right hL h2 h3, by omega, .inl ⟨h2, rfl, rfl, h3⟩⟩
        · exact ⟨L, false, ch_left hL h1 (fun _ => by omega), by omega, .inr (.inl ⟨h2, rfl, rfl, h3⟩)⟩
      · exact ⟨L, false, ch_left hL h1 (fun e => absurd e h2), by omega, .inr (.inr ⟨h2, rfl⟩)⟩)
    have DN : Hid (∀ cc, CH (hk hs') m i1 cc → 0 ≤ ordK (hk hs' cc) (hk hs' i1) → HeapB (hk hs') m) := hid (fun cc k hle => ch_done DI1.out k hle)
    have ST : Hid (∀ cc, CH (hk hs') m i1 cc → i1 < cc → ordK (hk hs' cc) (hk hs' i1) < 0 → DnI (hk (swL hs' i1 cc)) m cc ∧ (swL hs' i1 cc).Perm hs ∧ ∀ k, m ≤ k → (swL hs' i1 cc)[k]? = hs[k]?) := hid (fun cc k h5 hlt => by
      have k2 := k.cm
      have k3 := HLEN.out
      exact ⟨dnI_congr (hk_sw (by omega) (by omega)) (dn_step DI1.out k.c0 k.cm k.ci k.mn hlt), (swL_perm (by omega) (by omega)).trans SI1.out.pm, fun j hj => by rw [swL_ge (m := m) (by omega) k2 (by omega) hj]; exact TL1.out j hj⟩)
    have FQ := hid SI1.out.fr
    clear hL hlen
    have hwL : IntKind.i64.wrap ((L : Int) + 1) = (L : Int) + 1 := by rw [IntKind.wrap_i64]; omega
    have h0L : ¬ (L : Int) < 0 := by omega
    obtain ⟨cc, b, ch, hic, hcs⟩ := KEY.out
    have CHH := hid ch
    have hcm := ch.cm
    clear ch KEY
    have BR : Hid (∃ od, od = ordK (hk hs' cc) (hk hs' i1)) := hid ⟨_, rfl⟩
    have LS2 : Hid (∀ W2, Fr [] wr W2 → Calls Try.prog 100 #[.slice (some ⟨g, 0, none⟩) n c, .int .i64 (cc : Int), .int .i64 (i1 : Int)] W2 fun e w' => e = .returned (.bool (decide (ordK (hk hs' cc) (hk hs' i1) < 0))) ∧ Fr [] W2 w') := hid (fun W2 f => LS.out W2 f cc i1 hcm (by omega))
    have SW2 : Hid (∀ W2, Fr [] wr W2 → Calls Try.prog 101 #[.slice (some ⟨g, 0, none⟩) n c, .int .i64 (i1 : Int), .int .i64 (cc : Int)] W2 fun e w' => ∃ u vs', e = .returned u ∧ RW w0 w' P (some ⟨g, 0, none⟩) c vs' (swL hs' i1 cc) ∧ Fr [g] W2 w') := hid (fun W2 f => SW.out W2 f i1 cc (by omega) hcm)
    have DN2 : Hid (0 ≤ ordK (hk hs' cc) (hk hs' i1) → HeapB (hk hs') m) := hid (DN.out cc CHH.out)
    have ST2 := hid (ST.out cc CHH.out hic)
    have RQ : Hid (∀ W2, Fr [] wr W2 → SI w0 W W2 P g c hs hs' vs') := hid (fun W2 f => ⟨SI1.out.rw.quiet f, SI1.out.pm, SI1.out.fr.trans (f.mono (by simp))⟩)
    clear SW DN ST BR CHH
    generalize ordK (hk hs' cc) (hk hs' i1) = od at LS2 DN2 ST2
    have PRE : Hid (∀ W2, Fr [] wr W2 → True) := hid (fun _ _ => trivial)
    clear PRE
    rcases hcs with ⟨h2, hb, hcc, h3⟩ | ⟨h2, hb, hcc, h3⟩ | ⟨h2, hcc⟩
    · have h2' : (L : Int) + 1 < (m : Int) := by omega
      have hci : (L : Int) + 1 = (cc : Int) := by omega
      have LS1 := LS.out wr (Fr.refl _ _) (L + 1) L h2 h1
      rw [decide_eq_true h3, show ((L + 1 : Nat) : Int) = (L : Int) + 1 from by omega] at LS1
      have LS1 := hid LS1
      have mL := ML.out wr (Fr.refl _ _)
      have HCI := hid hci
      clear hci hcc h3 LS
      go_upto_region 8 with (go_at_call 100; refine LS1.out.mono ?_; rintro e W5 ⟨rfl, f5⟩; have F5 := hid f5; clear f5)
      rw [HCI.out]
      clear mL
      have mL2 := ML.out W5 F5.out
      have LS3 := hid (LS2.out W5 F5.out)
      by_cases hod : od < 0
      · obtain ⟨di, pm, tl⟩ := ST2.out hod
        have DI := hid di
        have PM := hid pm
        have TL := hid tl
        clear di pm tl
        rw [decide_eq_true hod] at LS3
        go_wp2_with (first
          | (have zz := F6; clear zz; go_at_call 101; refine (SW2.out W6 F6.out).mono ?_; rintro e W7 ⟨u, vs3, rfl, r3, f7⟩; have R3 := hid r3; have F7 := hid ((FQ.out.trans (F6.out.mono (by simp))).trans f7); clear r3 f7)
          | (go_at_call 100; refine LS3.out.mono ?_; rintro e W6 ⟨rfl, f6⟩; have F6 := hid (F5.out.trans f6); have mS := MS.out W6 (F5.out.trans f6); clear f6))
        go_roundw
        case rel => exact ⟨cc, _, vs3, rfl, by omega, ⟨R3.out, PM.out, F7.out⟩, DI.out, TL.out⟩
        case measure => simp [intOf]; omega
      · have HB := hid (DN2.out (by omega))
        rw [decide_eq_false hod] at LS3
        go_wp2_with (go_at_call 100; refine LS3.out.mono ?_; rintro e W6 ⟨rfl, f6⟩; have F6 := hid (F5.out.trans f6); clear f6)
        go_ret
        exact ⟨_, hs', vs', rfl, RQ.out _ F6.out, HB.out, TL1.out⟩
    · have h2' : (L : Int) + 1 < (m : Int) := by omega
      have hci : (L : Int) = (cc : Int) := by omega
      have LS1 := LS.out wr (Fr.refl _ _) (L + 1) L h2 h1
      rw [decide_eq_false h3, show ((L + 1 : Nat) : Int) = (L : Int) + 1 from by omega] at LS1
      have LS1 := hid LS1
      have mL := ML.out wr (Fr.refl _ _)
      subst hcc
      clear hci h3 LS
      go_upto_region 8 with (go_at_call 100; refine LS1.out.mono ?_; rintro e W5 ⟨rfl, f5⟩; have F5 := hid f5; clear f5)
      clear mL
      have mL2 := ML.out W5 F5.out
      have LS3 := hid (LS2.out W5 F5.out)
      by_cases hod : od < 0
      · obtain ⟨di, pm, tl⟩ := ST2.out hod
        have DI := hid di
        have PM := hid pm
        have TL := hid tl
        clear di pm tl
        rw [decide_eq_true hod] at LS3
        go_wp2_with (first
          | (have zz := F6; clear zz; go_at_call 101; refine (SW2.out W6 F6.out).mono ?_; rintro e W7 ⟨u, vs3, rfl, r3, f7⟩; have R3 := hid r3; have F7 := hid ((FQ.out.trans (F6.out.mono (by simp))).trans f7); clear r3 f7)
          | (go_at_call 100; refine LS3.out.mono ?_; rintro e W6 ⟨rfl, f6⟩; have F6 := hid (F5.out.trans f6); have mS := MS.out W6 (F5.out.trans f6); clear f6))
        go_roundw
        case rel => exact ⟨cc, _, vs3, rfl, by omega, ⟨R3.out, PM.out, F7.out⟩, DI.out, TL.out⟩
        case measure => simp [intOf]; omega
      · have HB := hid (DN2.out (by omega))
        rw [decide_eq_false hod] at LS3
        go_wp2_with (go_at_call 100; refine LS3.out.mono ?_; rintro e W6 ⟨rfl, f6⟩; have F6 := hid (F5.out.trans f6); clear f6)
        go_ret
        exact ⟨_, hs', vs', rfl, RQ.out _ F6.out, HB.out, TL1.out⟩
    · have h2' : ¬ (L : Int) + 1 < (m : Int) := by omega
      subst hcc
      clear LS
      go_upto_region 8 with fail
      have F5 := hid (Fr.refl [] wr)
      obtain ⟨W5, hW5⟩ : ∃ W5, W5 = wr := ⟨_, rfl⟩
      have F5 : Hid (Fr [] wr W5) := hid (by rw [hW5]; exact Fr.refl _ _)
      rw [← hW5]
      clear hW5
      have mL2 := ML.out W5 F5.out
      have LS3 := hid (LS2.out W5 F5.out)
      by_cases hod : od < 0
      · obtain ⟨di, pm, tl⟩ := ST2.out hod
        have DI := hid di
        have PM := hid pm
        have TL := hid tl
        clear di pm tl
        rw [decide_eq_true hod] at LS3
        go_wp2_with (first
          | (have zz := F6; clear zz; go_at_call 101; refine (SW2.out W6 F6.out).mono ?_; rintro e W7 ⟨u, vs3, rfl, r3, f7⟩; have R3 := hid r3; have F7 := hid ((FQ.out.trans (F6.out.mono (by simp))).trans f7); clear r3 f7)
          | (go_at_call 100; refine LS3.out.mono ?_; rintro e W6 ⟨rfl, f6⟩; have F6 := hid (F5.out.trans f6); have mS := MS.out W6 (F5.out.trans f6); clear f6))
        go_roundw
        case rel => exact ⟨cc, _, vs3, rfl, by omega, ⟨R3.out, PM.out, F7.out⟩, DI.out, TL.out⟩
        case measure => simp [intOf]; omega
      · have HB := hid (DN2.out (by omega))
        rw [decide_eq_false hod] at LS3
        go_wp2_with (go_at_call 100; refine LS3.out.mono ?_; rintro e W6 ⟨rfl, f6⟩; have F6 := hid (F5.out.trans f6); clear f6)
        go_ret
        exact ⟨_, hs', vs', rfl, RQ.out _ F6.out, HB.out, TL1.out⟩
end Go.Proofs.Ythmlpjogbdpgiaa
namespace Go.Proofs.Ythmlpjogbdpgiaa
open Go.ChangeShapes Go.WideShapes Go.ChangeAt Go.RowKit

theorem step_append_own {P : Program} {ops : Array Oper} {o : Oper} {a : Act} {w : World} {K : Act → World → Prop} {Q : Exit → Act → World → Prop} {E : Prop}
    (hg : o.guard = none) (s x : Operand) (t : TypeId) (hop : o.op = Op.call { callee := Callee.builtin Builtin.append, args := #[s, x], argTypes := #[t, t] })
    (base : Nat) (e : TypeId) (i : TypeInfo) (z : Value) (size bytes : Nat) (ht : P.underlying t = some (.slice e)) (hi : P.info? e = some i) (hz : i.zero = some z)
    (hsize : i.size = size) (hby : i.bytes = bytes) (hzs : z.cells.size = size) (hsz : 0 < size)
    (v : Value) (n : Nat) (xs : List Value) (hs : a.eval s = v) (hown : w.ownsRow base e size v n xs)
    (ad : Addr) (m c : Nat) (news : List Value) (hx : a.eval x = .slice (some ad) m c) (hl : news.length = m * size) (hnews : ∀ j u, news[j]? = some u → w.cell? (ad.add j) = some u) (h1 : ∀ u ∈ news, u.oneCell' = true)
    (h63 : n + m ≤ maxLen) (hbytes : (n + m) * bytes ≤ 140737488355328) (hbase : base ≤ w.heap.size)
    (hK : ∀ v' w', w'.ownsRow base e size v' (n + m) (xs ++ news) → w.grownBy w' v.ownBlock → (v'.ownBlock = v.ownBlock ∨ v'.ownBlock = some w.heap.size) → K (a.put o.dst v') w') :
    if Region.wanted o (yielded ops a.tmps) = true then Oper.wp P o a w K Q else E := by
  have hw : Region.wanted o (yielded ops a.tmps) = true := by simp [Region.wanted, hg]
  rw [if_pos hw]
  obtain ⟨v', w', hr, h2, h3, _, h5⟩ := run_append_own_at (P := P) w base t o.type e i z size bytes ht hi hz hsize hby hzs hsz v n xs hown ad m c news hl hnews h1 h63 hbytes hbase
  unfold Oper.wp
  simp [execOp, hop, resolve, invoke, builtin, hs, hx, hr, Result.andThen]
  exact hK v' w' h2 h3 h5

/-- One byte appended to a row of bytes of the call's own. -/
theorem step_append_one {ops : Array Oper} {o : Oper} {a : Act} {w : World} {K : Act → World → Prop} {Q : Exit → Act → World → Prop} {E : Prop} {z : Int}
    (hg : o.guard = none) (s x : Operand) (hop : o.op = Op.call { callee := Callee.builtin Builtin.append, args := #[s, x], argTypes := #[35, 35] })
    (base : Nat) {v : Value} {n : Nat} {xs : List Value} (hown : w.ownsRow base 5 1 v n xs) (hs : a.eval s = v)
    (g : Nat) (hx : a.eval x = .slice (some ⟨g, 0, none⟩) 1 1) (hc : w.cell? ⟨g, 0, none⟩ = some (.int .u8 z)) (hl : n + 1 ≤ 100000) (hbase : base ≤ w.heap.size)
    (hK : ∀ v' w', w'.ownsRow base 5 1 v' (n + 1) (xs ++ [.int .u8 z]) → w.grownBy w' v.ownBlock → K (a.put o.dst v') w') :
    if Region.wanted o (yielded ops a.tmps) = true then Oper.wp Try.prog o a w K Q else E := by
  obtain ⟨i0, hi, hz0, hz1, hz2⟩ := info_parts infoB
  refine step_append_own hg s x 35 hop base 5 i0 (.int .u8 0) 1 1 Try.underlying35 hi hz0 hz1 hz2 rfl (by decide) v n xs hs hown ⟨g, 0, none⟩ 1 1 [.int .u8 z] hx rfl ?_ (by simp [Value.oneCell']) (by unfold maxLen; omega) (by omega) hbase fun v' w' h1 h2 _ => hK v' w' h1 h2
  intro j u hj
  cases j with
  | zero => simp at hj; subst hj; rw [Addr.add_lit]; exact hc
  | succ j => simp at hj
end Go.Proofs.Ythmlpjogbdpgiaa
