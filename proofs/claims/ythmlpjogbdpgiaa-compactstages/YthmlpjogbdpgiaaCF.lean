/-
  container/heap's up and down over what is left of lists.
-/
import Derived.Test.YthmlpjogbdpgiaaCE
namespace Go.Proofs.Ythmlpjogbdpgiaa
open Go.ChangeShapes Go.WideShapes Go.ChangeAt Go.RowKit

set_option maxRecDepth 20000 in
theorem meth_len (w : World) (P c n : Nat) (a : Option Addr) (c0 : w.cell? ⟨P, 0, none⟩ = some (.slice a n c)) : Sem.run Try.prog (Go.method 244 62 (.pointer (some ⟨P, 0, none⟩)) "Len") w = .ok (43, .slice a n c) w := by
  have h : (Array.find? (fun x => x.name == "Len") Try.t62.methods).map (fun m => (m.path, m.func)) = some (#[], some (43, false)) := by kernel_rfl
  obtain ⟨m, hm, he⟩ := Option.map_eq_some_iff.1 h
  simp only [Prod.mk.injEq] at he
  obtain ⟨hp, hf⟩ := he
  unfold Go.method
  go_simp
  unfold follow receiverAt
  go_simp
  have hn : Sem.run Try.prog (Builtin.ssaWrapNilChk_ #[62] 62 #[.pointer (some ⟨P, 0, none⟩), strVal "", strVal (("Len".splitOn ".").getLast?.getD "Len")]) w = .ok (.pointer (some ⟨P, 0, none⟩)) w := by kernel_rfl
  unfold Place.get
  go_simp
set_option maxRecDepth 20000 in
theorem meth_less (w : World) (P c n : Nat) (a : Option Addr) (c0 : w.cell? ⟨P, 0, none⟩ = some (.slice a n c)) : Sem.run Try.prog (Go.method 244 62 (.pointer (some ⟨P, 0, none⟩)) "Less") w = .ok (100, .slice a n c) w := by
  have h : (Array.find? (fun x => x.name == "Less") Try.t62.methods).map (fun m => (m.path, m.func)) = some (#[], some (100, false)) := by kernel_rfl
  obtain ⟨m, hm, he⟩ := Option.map_eq_some_iff.1 h
  simp only [Prod.mk.injEq] at he
  obtain ⟨hp, hf⟩ := he
  unfold Go.method
  go_simp
  unfold follow receiverAt
  go_simp
  have hn : Sem.run Try.prog (Builtin.ssaWrapNilChk_ #[62] 62 #[.pointer (some ⟨P, 0, none⟩), strVal "", strVal (("Less".splitOn ".").getLast?.getD "Less")]) w = .ok (.pointer (some ⟨P, 0, none⟩)) w := by kernel_rfl
  unfold Place.get
  go_simp
set_option maxRecDepth 20000 in
theorem meth_swap (w : World) (P c n : Nat) (a : Option Addr) (c0 : w.cell? ⟨P, 0, none⟩ = some (.slice a n c)) : Sem.run Try.prog (Go.method 244 62 (.pointer (some ⟨P, 0, none⟩)) "Swap") w = .ok (101, .slice a n c) w := by
  have h : (Array.find? (fun x => x.name == "Swap") Try.t62.methods).map (fun m => (m.path, m.func)) = some (#[], some (101, false)) := by kernel_rfl
  obtain ⟨m, hm, he⟩ := Option.map_eq_some_iff.1 h
  simp only [Prod.mk.injEq] at he
  obtain ⟨hp, hf⟩ := he
  unfold Go.method
  go_simp
  unfold follow receiverAt
  go_simp
  have hn : Sem.run Try.prog (Builtin.ssaWrapNilChk_ #[62] 62 #[.pointer (some ⟨P, 0, none⟩), strVal "", strVal (("Swap".splitOn ".").getLast?.getD "Swap")]) w = .ok (.pointer (some ⟨P, 0, none⟩)) w := by kernel_rfl
  unfold Place.get
  go_simp
/-- The heap as package heap is handed it. -/
abbrev HV (P : Nat) : Value := .iface 62 (.pointer (some ⟨P, 0, none⟩))
theorem OkR.perm {hs hs' : List Ps} (h : OkR hs) (p : hs'.Perm hs) : OkR hs' := fun q hq => h q (p.subset hq)
theorem RW.cell {w0 W : World} {P : Nat} {a : Option Addr} {c : Nat} {vs : List Value} {hs : List Ps} (h : RW w0 W P a c vs hs) : W.cell? ⟨P, 0, none⟩ = some (.slice a hs.length c) := by rw [blk_cell h.hp]; rfl
/-- Where a sifting stands. -/
structure SI (w0 W wr : World) (P g c : Nat) (hs hs' : List Ps) (vs' : List Value) : Prop where
  rw : RW w0 wr P (some ⟨g, 0, none⟩) c vs' hs'
  pm : hs'.Perm hs
  fr : Fr [g] W wr
theorem SI.len {w0 W wr : World} {P g c : Nat} {hs hs' : List Ps} {vs' : List Value} (h : SI w0 W wr P g c hs hs' vs') : hs'.length = hs.length := h.pm.length_eq
theorem upI_congr {q q' : Nat → List Nat} {n j : Nat} (e : ∀ k, q' k = q k) (h : UpI q n j) : UpI q' n j := by
  have : q' = q := funext e
  rw [this]; exact h
theorem dnI_congr {q q' : Nat → List Nat} {n j : Nat} (e : ∀ k, q' k = q k) (h : DnI q n j) : DnI q' n j := by
  have : q' = q := funext e
  rw [this]; exact h
set_option maxRecDepth 20000 in
set_option maxHeartbeats 3200000 in
theorem up_c {w0 W : World} {P g c : Nat} {vs : List Value} {hs : List Ps} (h : RW w0 W P (some ⟨g, 0, none⟩) c vs hs) (ok : OkR hs) {j : Nat} (hj : j < hs.length) (hu : UpI (hk hs) hs.length j) (hl : hs.length ≤ 1000000) :
    Calls Try.prog 40 #[HV P, .int .i64 (j : Int)] W fun e w' => ∃ u hs' vs', e = .returned u ∧ SI w0 W w' P g c hs hs' vs' ∧ HeapB (hk hs') hs'.length := by
  have H0 := hid h
  have HU := hid hu
  have OK0 := hid ok
  clear h hu ok
  obtain ⟨n, hn⟩ : ∃ n, n = hs.length := ⟨_, rfl⟩
  have HN := hid hn
  rw [← hn] at HU hj hl
  clear hn
  go_enter Try.func40, Try.ntmps40
  go_wp2_with fail
  go_loopw [1] (fun v1 wr => ∃ (j : Nat) (hs' : List Ps) (vs' : List Value), v1 = .int .i64 (j : Int) ∧ j < n ∧ SI w0 W wr P g c hs hs' vs' ∧ UpI (hk hs') n j) (fun v1 _ => (intOf v1).toNat)
  case atStart => exact ⟨j, hs, vs, rfl, hj, ⟨H0.out, List.Perm.refl _, Fr.refl _ _⟩, HU.out⟩
  case round =>
    obtain ⟨j1, hs', vs', rfl, hj1, si, ui⟩ := hrel
    have SI1 := hid si
    have UI1 := hid ui
    have OK1 := hid (OK0.out.perm si.pm)
    have hlen : hs'.length = n := by rw [HN.out]; exact si.len
    have HLEN := hid hlen
    have c0 := si.rw.cell
    rw [hlen] at c0
    clear si ui hj H0 HU
    by_cases h0 : j1 = 0
    · have hup := UI1.out
      subst h0
      have HB := hid (up_done hup (.inl rfl))
      clear hup
      go_wp2
      go_end0
      exact ⟨_, hs', vs', rfl, SI1.out, by rw [HLEN.out]; exact HB.out⟩
    · obtain ⟨p, hp⟩ : ∃ p, p = (j1 - 1) / 2 := ⟨_, rfl⟩
      have HP := hid hp
      have hpj : p < j1 := by omega
      have hpi : ((j1 : Int) - 1) / 2 = (p : Int) := by omega
      have hne : ((p : Int) == (j1 : Int)) = false := by rw [beq_eq_false_iff_ne]; omega
      have hne2 : ¬ (p : Int) = (j1 : Int) := by omega
      have LS := hid (less_c SI1.out.rw OK1.out (i := j1) (k := p) (by rw [hlen]; exact hj1) (by rw [hlen]; omega))
      rw [hlen] at LS
      have mL := meth_less wr P c n (some ⟨g, 0, none⟩) c0
      have SW : Hid (∀ W2, Fr [] wr W2 → Calls Try.prog 101 #[.slice (some ⟨g, 0, none⟩) n c, .int .i64 (p : Int), .int .i64 (j1 : Int)] W2 fun e w' => ∃ u vs', e = .returned u ∧ RW w0 w' P (some ⟨g, 0, none⟩) c vs' (swL hs' p j1) ∧ Fr [g] W2 w') := hid (fun W2 f => by
        have h2 := SI1.out.rw.quiet f
        have h3 := swap_c h2 (i := p) (k := j1) (by rw [HLEN.out]; omega) (by rw [HLEN.out]; exact hj1)
        rw [HLEN.out] at h3
        exact h3)
      have MS : Hid (∀ W2, Fr [] wr W2 → Sem.run Try.prog (Go.method 244 62 (.pointer (some ⟨P, 0, none⟩)) "Swap") W2 = .ok (101, .slice (some ⟨g, 0, none⟩) n c) W2) := hid (fun W2 f => meth_swap W2 P c n _ (cell_fr f c0))
      have DN : Hid (0 ≤ ordK (hk hs' j1) (hk hs' p) → HeapB (hk hs') n) := hid (fun hle => up_done UI1.out (.inr (by rw [← HP.out]; exact hle)))
      have ST : Hid (ordK (hk hs' j1) (hk hs' p) < 0 → UpI (hk (swL hs' p j1)) n p ∧ (swL hs' p j1).Perm hs) := hid (fun hlt => ⟨upI_congr (hk_sw (by rw [HLEN.out]; omega) (by rw [HLEN.out]; exact hj1)) (up_step UI1.out (by omega) hj1 HP.out hlt), (swL_perm (by rw [HLEN.out]; omega) (by rw [HLEN.out]; exact hj1)).trans SI1.out.pm⟩)
      have FQ := hid SI1.out.fr
      generalize ordK (hk hs' j1) (hk hs' p) = od at LS DN ST
      clear hp c0 hlen
      go_upto_region 1 with fail
      rw [hpi]
      by_cases hod : od < 0
      · obtain ⟨ui, pm⟩ := ST.out hod
        have UI := hid ui
        have PM := hid pm
        clear ui pm
        rw [decide_eq_true hod] at LS
        go_wp2_with (first
          | (have zz := F2; clear zz; go_at_call 101; refine (SW.out w2 F2.out).mono ?_; rintro e w3 ⟨u, vs3, rfl, r3, f3⟩; have R3 := hid r3; have F3 := hid ((FQ.out.trans (F2.out.mono (by simp))).trans f3); clear r3 f3)
          | (go_at_call 100; refine LS.out.mono ?_; rintro e w2 ⟨rfl, f2⟩; have F2 := hid f2; have mS := MS.out w2 f2; clear f2))
        go_roundw
        case rel => exact ⟨p, _, vs3, rfl, by omega, ⟨R3.out, PM.out, F3.out⟩, UI.out⟩
        case measure => simp [intOf]; omega
      · have HB := hid (DN.out (by omega))
        rw [decide_eq_false hod] at LS
        go_wp2_with (go_at_call 100; refine LS.out.mono ?_; rintro e w2 ⟨rfl, f2⟩; have F2 := hid f2; clear f2)
        go_end0
        exact ⟨_, hs', vs', rfl, ⟨SI1.out.rw.quiet F2.out, SI1.out.pm, SI1.out.fr.trans (F2.out.mono (by simp))⟩, by rw [HLEN.out]; exact HB.out⟩
end Go.Proofs.Ythmlpjogbdpgiaa
