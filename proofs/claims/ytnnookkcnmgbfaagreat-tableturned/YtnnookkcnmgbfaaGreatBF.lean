/-
  Package block: what a taker takes: numbers, bytes.
-/
import Derived.Test.YtnnookkcnmgbfaaGreatJ08
namespace Go.Proofs.YtnnookkcnmgbfaaGreat
open Go.ChangeShapes Go.WideShapes Go.ChangeAt Go.RowKit

/-- A taker's block: its bytes, where it is, whether something wasn't there. -/
def Tk (w : World) (t : Nat) (v : Value) (p : Nat) (h : Bool) : Prop := w.heap[t]? = some (.cells #[v, .int .i64 (p : Int), .bool h] 177 (0, 0))

set_option maxRecDepth 20000 in
set_option maxHeartbeats 1600000 in
theorem number_c (w : World) {t q o c p most : Nat} {h : Bool} {all : List Nat} (T : Tk w t (.slice (some ⟨q, o, none⟩) all.length c) p h) (hr : Rd w (.slice (some ⟨q, o, none⟩) all.length c) (bv all)) (hb : By all) (hc : all.length < c) (hl : all.length ≤ 1000000000) (hp : p ≤ all.length) (hm : most ≤ 1000000000) :
    Calls Tryz.prog 119 #[.pointer (some ⟨t, 0, none⟩), .int .i64 (most : Int)] w fun e w' => ((∃ n p', numL all p most = some (n, p') ∧ e = .returned (.int .i64 (n : Int)) ∧ Tk w' t (.slice (some ⟨q, o, none⟩) all.length c) p' h) ∨ (numL all p most = none ∧ e = .returned (.int .i64 0) ∧ Tk w' t (.slice (some ⟨q, o, none⟩) all.length c) p true)) ∧ Fr [t] w w' := by
  have RB := hid (hr.back hp)
  have HB := hid (hb.drop p)
  have HT := hid T
  have z0 := blk_cell T 0
  have z1 := blk_cell T 1
  have z2 := blk_cell T 2
  simp at z0 z1 z2
  have hcp : ¬ c = p := by omega
  have hbd := tk_bound (all.drop p) HB.out 0 0 (by omega) (by simp)
  rcases ht : takeL (all.drop p) with ⟨a, k, e0⟩
  have ht' : tk 0 0 (all.drop p) = (a, k, e0) := ht
  rw [ht', List.length_drop] at hbd
  obtain ⟨ha, hk1, hk2⟩ := hbd
  dsimp only at ha hk1 hk2
  have TC : Hid (∀ m, Calls Tryz.prog 101 #[.slice (some ⟨q, o + p, none⟩) (all.length - p) (c - p)] (w.drewN m) fun e w' => e = .returned (.tuple #[.int .u64 (a : Int), .int .i64 (k : Int), .int .i64 (e0 : Int)]) ∧ w' = w.drewN m) := hid fun m => by
    have := take_c (RB.out.fr ((Fr.refl [] w).drewN m)) HB.out (by rw [List.length_drop]; omega)
    rw [ht] at this
    exact this
  have hnum : numL all p most = if e0 = 0 ∧ a ≤ most then some (a, p + k) else none := by unfold numL; rw [ht]
  have HNU := hid hnum
  have FQ : Hid (∀ m, (w.drewN m).heap[t]? = some (.cells #[.slice (some ⟨q, o, none⟩) all.length c, .int .i64 (p : Int), .bool h] 177 (0, 0))) := hid fun m => by rw [blk_drewN]; exact HT.out
  clear hr hb T hnum ht ht'
  generalize all.length = ln at *
  go_enter Tryz.func119, Tryz.ntmps119
  go_upto_region 1 with fail
  go_quiet ((go_at_call 101; exact Calls.quiet_of_same (TC.out _)))
  have y0 : (w.drewN nq).cell? ⟨t, 0, none⟩ = some (.slice (some ⟨q, o, none⟩) ln c) := by rw [blk_cell (FQ.out nq)]; rfl
  have y1 : (w.drewN nq).cell? ⟨t, 1, none⟩ = some (.int .i64 (p : Int)) := by rw [blk_cell (FQ.out nq)]; rfl
  have y2 : (w.drewN nq).cell? ⟨t, 2, none⟩ = some (.bool h) := by rw [blk_cell (FQ.out nq)]; rfl
  have yf := blk_frozen (FQ.out nq)
  have FW := hid (((Fr.refl [t] w).drewN nq))
  have HH := hid (FQ.out nq)
  generalize w.drewN nq = w1 at *
  clear TC z0 z1 z2 FQ
  by_cases h0 : e0 = 0
  · subst h0
    by_cases hle : a ≤ most
    · have hge : ¬ (most : Int) < (a : Int) := by omega
      go_wp2
      go_ret
      refine ⟨.inl ⟨a, p + k, by rw [HNU.out]; simp [hle], rfl, ?_⟩, FW.out.set _ _ (.inl (by simp))⟩
      unfold Tk
      rw [blk_set HH.out]; rfl
    · have hgt : (most : Int) < (a : Int) := by omega
      go_wp2
      go_ret
      refine ⟨.inr ⟨by rw [HNU.out, if_neg (by omega)], rfl, ?_⟩, FW.out.set _ _ (.inl (by simp))⟩
      unfold Tk
      rw [blk_set HH.out]; rfl
  · have hne : ¬ (e0 : Int) = 0 := by omega
    go_wp2
    go_ret
    refine ⟨.inr ⟨by rw [HNU.out, if_neg (by omega)], rfl, ?_⟩, FW.out.set _ _ (.inl (by simp))⟩
    unfold Tk
    rw [blk_set HH.out]; rfl

set_option maxRecDepth 20000 in
set_option maxHeartbeats 1600000 in
theorem bytes_ok (w : World) {t q o c p n : Nat} {h : Bool} {all : List Nat} (T : Tk w t (.slice (some ⟨q, o, none⟩) all.length c) p h) (hc : all.length < c) (hl : all.length ≤ 1000000000) (hn : p + n ≤ all.length) :
    Calls Tryz.prog 120 #[.pointer (some ⟨t, 0, none⟩), .int .i64 (n : Int)] w fun e w' => e = .returned (.slice (some ⟨q, o + p, none⟩) n (c - p)) ∧ Tk w' t (.slice (some ⟨q, o, none⟩) all.length c) (p + n) h ∧ Fr [t] w w' := by
  have FQ : Hid (∀ m, (w.drewN m).heap[t]? = some (.cells #[.slice (some ⟨q, o, none⟩) all.length c, .int .i64 (p : Int), .bool h] 177 (0, 0))) := hid fun m => by rw [blk_drewN]; exact T
  have y0 : w.cell? ⟨t, 0, none⟩ = some (.slice (some ⟨q, o, none⟩) all.length c) := by rw [blk_cell T]; rfl
  have y1 : w.cell? ⟨t, 1, none⟩ = some (.int .i64 (p : Int)) := by rw [blk_cell T]; rfl
  clear T
  generalize all.length = ln at *
  have hsub : (ln : Int) - (p : Int) = ((ln - p : Nat) : Int) := by omega
  obtain ⟨d, hd⟩ : ∃ d, d = ln - p := ⟨_, rfl⟩
  rw [← hd] at hsub
  have HD := hid hd
  have d1 : d ≤ ln := by omega
  have d2 : n ≤ d ↔ p + n ≤ ln := by omega
  have d3 : (n ≤ d) = (p + n ≤ ln) := propext d2
  clear hd d2 d3
  go_enter Tryz.func120, Tryz.ntmps120
  go_upto_region 1 with fail
  go_quiet (fail)
  have x0 : (w.drewN nq).cell? ⟨t, 0, none⟩ = some (.slice (some ⟨q, o, none⟩) ln c) := by rw [blk_cell (FQ.out nq)]; rfl
  have x1 : (w.drewN nq).cell? ⟨t, 1, none⟩ = some (.int .i64 (p : Int)) := by rw [blk_cell (FQ.out nq)]; rfl
  have x2 : (w.drewN nq).cell? ⟨t, 2, none⟩ = some (.bool h) := by rw [blk_cell (FQ.out nq)]; rfl
  have yf := blk_frozen (FQ.out nq)
  have FW := hid (((Fr.refl [t] w).drewN nq))
  have HH := hid (FQ.out nq)
  generalize w.drewN nq = w1 at *
  clear y0 y1 FQ
  have hdn : ¬ (d : Int) < (n : Int) := by have := HD.out; omega
  have hpn : (p : Int) + (n : Int) = ((p + n : Nat) : Int) := by omega
  obtain ⟨pn, hpn2⟩ : ∃ d, d = p + n := ⟨_, rfl⟩
  rw [← hpn2] at hpn
  have HPN := hid hpn2
  have b1 : pn ≤ ln := by omega
  have b2 : p ≤ pn := by omega
  have b3 : (pn : Int) - (n : Int) = (p : Int) := by omega
  have b4 : ¬ c = p := by omega
  have b5 : pn - p = n := by omega
  clear hpn2
  have b6 : IntKind.i64.wrap (p : Int) = (p : Int) := by rw [IntKind.wrap_i64]; omega
  go_upto_region 5 with fail
  have HH2 : Hid ((w1.setCell ⟨t, 1, none⟩ (.int .i64 (pn : Int))).heap[t]? = some (.cells #[.slice (some ⟨q, o, none⟩) ln c, .int .i64 (pn : Int), .bool h] 177 (0, 0))) := by
    refine hid ?_
    rw [blk_set HH.out]; rfl
  have FW2 : Hid (Fr [t] w (w1.setCell ⟨t, 1, none⟩ (.int .i64 (pn : Int)))) := hid (FW.out.set _ _ (.inl (by simp)))
  generalize w1.setCell ⟨t, 1, none⟩ (.int .i64 (pn : Int)) = w2 at *
  clear x0 x1 x2 yf HH FW
  have x0 : w2.cell? ⟨t, 0, none⟩ = some (.slice (some ⟨q, o, none⟩) ln c) := by rw [blk_cell HH2.out]; rfl
  have x1 : w2.cell? ⟨t, 1, none⟩ = some (.int .i64 (pn : Int)) := by rw [blk_cell HH2.out]; rfl
  go_quiet (fail)
  go_wp2
  go_ret
  refine ⟨rfl, ?_, FW2.out.drewN _⟩
  unfold Tk
  rw [blk_drewN, ← HPN.out]; exact HH2.out
set_option maxRecDepth 20000 in
set_option maxHeartbeats 1600000 in
theorem bytes_no (w : World) {t q o c p n : Nat} {h : Bool} {all : List Nat} (T : Tk w t (.slice (some ⟨q, o, none⟩) all.length c) p h) (hl : all.length ≤ 1000000000) (hp : p ≤ all.length) (hn : all.length < p + n) :
    Calls Tryz.prog 120 #[.pointer (some ⟨t, 0, none⟩), .int .i64 (n : Int)] w fun e w' => e = .returned (.slice none 0 0) ∧ Tk w' t (.slice (some ⟨q, o, none⟩) all.length c) p true ∧ Fr [t] w w' := by
  have FQ : Hid (∀ m, (w.drewN m).heap[t]? = some (.cells #[.slice (some ⟨q, o, none⟩) all.length c, .int .i64 (p : Int), .bool h] 177 (0, 0))) := hid fun m => by rw [blk_drewN]; exact T
  have y0 : w.cell? ⟨t, 0, none⟩ = some (.slice (some ⟨q, o, none⟩) all.length c) := by rw [blk_cell T]; rfl
  have y1 : w.cell? ⟨t, 1, none⟩ = some (.int .i64 (p : Int)) := by rw [blk_cell T]; rfl
  clear T
  generalize all.length = ln at *
  have hsub : (ln : Int) - (p : Int) = ((ln - p : Nat) : Int) := by omega
  obtain ⟨d, hd⟩ : ∃ d, d = ln - p := ⟨_, rfl⟩
  rw [← hd] at hsub
  have HD := hid hd
  have d1 : d ≤ ln := by omega
  have d2 : n ≤ d ↔ p + n ≤ ln := by omega
  have d3 : (n ≤ d) = (p + n ≤ ln) := propext d2
  clear hd d2 d3
  go_enter Tryz.func120, Tryz.ntmps120
  go_upto_region 1 with fail
  go_quiet (fail)
  have x0 : (w.drewN nq).cell? ⟨t, 0, none⟩ = some (.slice (some ⟨q, o, none⟩) ln c) := by rw [blk_cell (FQ.out nq)]; rfl
  have x1 : (w.drewN nq).cell? ⟨t, 1, none⟩ = some (.int .i64 (p : Int)) := by rw [blk_cell (FQ.out nq)]; rfl
  have x2 : (w.drewN nq).cell? ⟨t, 2, none⟩ = some (.bool h) := by rw [blk_cell (FQ.out nq)]; rfl
  have yf := blk_frozen (FQ.out nq)
  have FW := hid (((Fr.refl [t] w).drewN nq))
  have HH := hid (FQ.out nq)
  generalize w.drewN nq = w1 at *
  clear y0 y1 FQ
  have hdn : (d : Int) < (n : Int) := by have := HD.out; omega
  go_wp2
  go_ret
  refine ⟨rfl, ?_, FW.out.set _ _ (.inl (by simp))⟩
  unfold Tk
  rw [blk_set HH.out]; rfl
end Go.Proofs.YtnnookkcnmgbfaaGreat
