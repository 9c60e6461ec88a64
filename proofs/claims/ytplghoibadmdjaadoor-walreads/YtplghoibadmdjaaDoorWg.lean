/-
  What the closure in Read of package wal does: a record's bytes are gathered.
-/
import Derived.Test.YtplghoibadmdjaaDoorWf
import Derived.Test.YtplghoibadmdjaaDoorRo
namespace Go.Proofs.YtplghoibadmdjaaDoor
open Go.ChangeShapes Go.WideShapes Go.ChangeAt Go.RowKit

theorem ownsRow_ne {w : World} {base size n : Nat} {e t : TypeId} {v : Value} {xs : List Value} {b : Nat} {cs : Array Value} {fz : Nat × Nat} (h : w.ownsRow base e size v n xs) (hb : w.heap[b]? = some (.cells cs t fz)) (ht : e ≠ t) : v.ownBlock ≠ some b := by
  intro hv
  rcases h.2 with ⟨rfl, _⟩ | ⟨g, cap, cur, rfl, _, h3, _⟩
  · simp [Value.ownBlock] at hv
  · simp only [Value.ownBlock, Option.some.injEq] at hv
    subst hv; rw [hb] at h3; simp at h3; exact ht h3.2.1.symm

set_option maxRecDepth 20000 in
set_option maxHeartbeats 800000 in
theorem gather_c (w : World) {R base : Nat} {av dv : Value} {acc d : List Nat} (hR : w.heap[R]? = some (.cells #[av] 22 (0, 0))) (o : w.ownsRow base 5 1 av acc.length (bv acc)) (hbw : base ≤ w.heap.size) (r : Rd w dv (bv d)) (hl : acc.length + d.length ≤ 4194304) :
    Calls Tryd.prog 27 #[dv, .pointer (some ⟨R, 0, none⟩)] w fun e w' => e = .returned (.bool true) ∧ ∃ av', w'.heap[R]? = some (.cells #[av'] 22 (0, 0)) ∧ w'.ownsRow base 5 1 av' (acc.length + d.length) (bv (acc ++ d)) ∧ Fr (R :: av.ownBlock.toList) w w' ∧ (av'.ownBlock = av.ownBlock ∨ av'.ownBlock = some w.heap.size) := by
  obtain ⟨a0, c0, rfl, hc0⟩ := ownsRow_slice o
  obtain ⟨a1, c1, hv1⟩ := r.form
  rw [bv_len] at hv1
  subst hv1
  have hne := ownsRow_ne o hR (by decide)
  have g0 := blk_cell hR 0
  have z0 := blk_frozen hR 0
  simp at g0
  have O := hid o
  have RR := hid r
  have HR := hid hR
  have HL : (bv d).length = d.length := bv_len d
  clear o r hR
  go_enter Tryd.func27, Tryd.ntmps27
  go_wp2_with (at_builtin; refine wpList_append_rd rfl _ _ rfl base hbw _ _ _ rfl O.out _ _ rfl RR.out bv_one (by rw [HL]; omega) ?_; intro v2 w2 o2 g2 q2; rw [HL, ← bv_append] at o2; have e2 := ownsRow_slice o2; obtain ⟨a2, c2, rfl, _⟩ := e2; have hR2 : w2.heap[R]? = some (.cells #[.slice a0 acc.length c0] 22 (0, 0)) := (by rw [g2.block R (blk_lt HR.out) (fun e => hne e.symm)]; exact HR.out); have g0' := blk_cell hR2 0; have z0' := blk_frozen hR2 0; simp at g0'; have O2 := hid o2; have G2 := hid g2; have Q2 := hid q2; have HR2 := hid hR2; clear o2 g2 q2 hR2)
  go_ret
  have hq : w.grownBy w2 (Value.slice a0 acc.length c0).ownBlock := G2.out
  refine ⟨ret_bool (decide_eq_true (by omega)), _, by rw [blk_set HR2.out]; rfl, ?_, ?_, Q2.out⟩
  · refine ownsRow_of_block O2.out fun k hk => blk_setne _ _ _ ?_
    intro e; subst e; exact ownsRow_ne O2.out HR2.out (by decide) hk
  · exact ((Fr.refl _ _).grown hq fun k hk => .inl (by rw [hk]; simp)).set _ _ (.inl (by simp))
end Go.Proofs.YtplghoibadmdjaaDoor
