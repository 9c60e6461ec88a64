/-
  Compare of two internal keys: the world is as it was but for blocks that are new.
-/
import Derived.Test.YtegbngbhmgbocaaGreatDoorJ08
import Derived.Sort.Grow
import Derived.Deep.Draws
import Derived.Test.YtegbngbhmgbocaaGreatDoorJ04
import Derived.Deep.RegionLaw
import Derived.Test.YtegbngbhmgbocaaGreatDoorJ02
namespace Go.Proofs.YtegbngbhmgbocaaGreatDoor
open Go.ChangeShapes Go.WideShapes Go.ChangeAt Go.RowKit

set_option maxRecDepth 20000 in
set_option maxHeartbeats 800000 in
theorem split_long_g (w : World) {q off c : Nat} {b : List Nat} (hr : Rd w (.slice (some ⟨q, off, none⟩) b.length c) (bv b)) (hb : By b) (h8 : 8 ≤ b.length) (hl : b.length ≤ 140737488355328) (h1 : b.length ≤ c) :
    Calls Tryz.prog 98 #[.slice (some ⟨q, off, none⟩) b.length c] w fun e w' => e = .returned (spv b (.slice (some ⟨q, off, none⟩) (b.length - 8) c)) ∧ Fr [] w w' ∧ w'.drawn = w.drawn := by
  have hbk := hr.back (q := b.length - 8) (by omega)
  have HR := hid hbk
  have HB := hid hb
  obtain ⟨t, ht⟩ : ∃ t, t = tailN b := ⟨_, rfl⟩
  have ht1 : t < 18446744073709551616 := by rw [ht]; exact tailN_lt hb h8
  have hand := and255 ht1
  obtain ⟨g, hg⟩ : ∃ g, g = t % 256 := ⟨_, rfl⟩
  obtain ⟨s, hs⟩ : ∃ s, s = t / 256 := ⟨_, rfl⟩
  have hand' : bits .and .u64 (t : Int) 255 = (g : Int) := by rw [hg]; exact hand
  have hdiv : (t : Int) / 256 = (s : Int) := by omega
  have hg1 : g < 256 := by omega
  have hs1 : s ≤ 72057594037927935 := by omega
  have HT := hid ht
  have HG := hid hg
  have HS := hid hs
  have en : ((b.length : Int) - 8).toNat = b.length - 8 := by omega
  have HV : Hid (vb (b.length - 8) s (g : Int) = isK b) := by
    show vb (b.length - 8) s (g : Int) = isK b
    unfold vb isK
    rw [show unf (b.drop (b.length - 8)) = t from ht.symm, ← hg, decide_eq_true hs1, decide_eq_true h8, Bool.true_and, Bool.true_and]
    congr 1
    · rw [decide_eq_decide]; omega
    · rcases (show g = 0 ∨ g = 1 ∨ 1 < g from by omega) with e | e | e
      · rw [e]; rfl
      · rw [e]; rfl
      · rw [decide_eq_false (by omega)]
        simp; omega
  clear hr hbk hb ht hg hs hand
  go_enter Tryz.func98, Tryz.ntmps98
  go_wp2_with fail
  refine (unfixed_c (HR.out.fr ((Fr.refl _ _).alloc _)) (HB.out.drop _) (by simp; omega)).mono ?_
  rintro e w1 ⟨rfl, rfl⟩
  rw [show unf (b.drop (b.length - 8)) = t from HT.out.symm]
  go_wp2_with fail
  refine (valid_x _ _ _ _ s (g : Int)).mono ?_
  rintro e w2 ⟨rfl, rfl⟩
  rw [HV.out]
  rcases hk : isK b with _ | _
  · have HK := hid hk
    clear hk
    go_wp2
    refine bodyPost_ret (v := .tuple #[.agg #[.slice none 0 0, .int .u64 0, .int .i64 0], .int .i64 23]) (by rw [results_cell_tmp rfl]; go_simp) rfl ⟨by unfold spv; rw [HK.out]; rfl, (((Fr.refl _ _).alloc _).alloc _).alloc _, rfl⟩
  · have HK := hid hk
    clear hk
    go_wp2
    refine bodyPost_ret (v := .tuple #[.agg #[.slice (some ⟨q, off, none⟩) (b.length - 8) c, .int .u64 (s : Int), .int .i64 (g : Int)], .int .i64 0]) (by rw [results_cell_tmp rfl]; go_simp) rfl ⟨by unfold spv; rw [HK.out, ← HT.out, ← HS.out, ← HG.out]; rfl, (((Fr.refl _ _).alloc _).alloc _).alloc _, rfl⟩

theorem split_yes_g (w : World) {q off c : Nat} {b : List Nat} (hr : Rd w (.slice (some ⟨q, off, none⟩) b.length c) (bv b)) (hb : By b) (h1 : b.length ≤ c) (h : isK b = true) :
    Calls Tryz.prog 98 #[.slice (some ⟨q, off, none⟩) b.length c] w fun e w' => e = .returned (.tuple #[.agg #[.slice (some ⟨q, off, none⟩) (b.length - 8) c, .int .u64 ((tailN b / 256 : Nat) : Int), .int .i64 ((tailN b % 256 : Nat) : Int)], .int .i64 0]) ∧ Fr [] w w' ∧ w'.drawn = w.drawn := by
  have hk := isK_len h
  refine (split_long_g w hr hb hk.1 (by omega) h1).mono ?_
  rintro e w' ⟨rfl, f, d⟩
  exact ⟨by unfold spv; rw [h]; rfl, f, d⟩
set_option maxRecDepth 20000 in
set_option maxHeartbeats 1600000 in
theorem from_g (w : World) {v1 v2 : Value} {u v : List Nat} (h1 : Rd w v1 (bv u)) (h2 : Rd w v2 (bv v)) (hu : By u) (hv : By v) (s t k l : Int) :
    Calls Tryz.prog 99 #[.int .i64 0, .agg #[v1, .int .u64 s, .int .i64 k], .agg #[v2, .int .u64 t, .int .i64 l]] w fun e w' => e = .returned (.int .i64 (ordP u v s t k l)) ∧ Fr [] w w' ∧ w'.drawn = w.drawn := by
  obtain ⟨a1, c1, hv1⟩ := h1.form
  obtain ⟨a2, c2, hv2⟩ := h2.form
  subst hv1
  subst hv2
  have HC : Hid (∀ w', Fr [] w w' → Calls Tryz.prog 103 #[.slice a1 (bv u).length c1, .slice a2 (bv v).length c2] w' fun e w'' => e = .returned (.int .i64 (cmpN u v)) ∧ w'' = w') := fun w' f => bcmp_c (h1.fr f) (h2.fr f) hu hv
  clear h1 h2 hu hv
  unfold ordP
  obtain ⟨x, hx⟩ : ∃ x, x = cmpN u v := ⟨_, rfl⟩
  obtain ⟨y, hy⟩ : ∃ y, y = cmpI t s := ⟨_, rfl⟩
  rw [← hx] at HC ⊢
  rw [← hy]
  have HY := hid hy
  clear hx hy
  by_cases h0 : x = 0
  · have e0 : (x == 0) = true := by simpa using h0
    rw [if_pos h0]
    clear h0
    by_cases hy0 : y = 0
    · have e1 : (y == 0) = true := by simpa using hy0
      rw [if_pos hy0]
      clear hy0
      go_enter Tryz.func99, Tryz.ntmps99
      go_wp2_with fail
      refine (HC.out _ (((Fr.refl _ _).alloc _).alloc _)).mono ?_
      rintro e w1 ⟨rfl, rfl⟩
      go_wp2_with fail
      refine (cmpu_c _ t s).mono ?_
      rintro e w2 ⟨rfl, rfl⟩
      rw [← HY.out]
      go_wp2_with fail
      refine (cmpi_c _ l k).mono ?_
      rintro e w3 ⟨rfl, rfl⟩
      go_wp2
      go_ret
      exact ⟨rfl, ((Fr.refl _ _).alloc _).alloc _, rfl⟩
    · have e1 : (y == 0) = false := by simpa using hy0
      rw [if_neg hy0]
      clear hy0
      go_enter Tryz.func99, Tryz.ntmps99
      go_wp2_with fail
      refine (HC.out _ (((Fr.refl _ _).alloc _).alloc _)).mono ?_
      rintro e w1 ⟨rfl, rfl⟩
      go_wp2_with fail
      refine (cmpu_c _ t s).mono ?_
      rintro e w2 ⟨rfl, rfl⟩
      rw [← HY.out]
      go_wp2
      go_ret
      exact ⟨rfl, ((Fr.refl _ _).alloc _).alloc _, rfl⟩
  · have e0 : (x == 0) = false := by simpa using h0
    rw [if_neg h0]
    clear h0
    go_enter Tryz.func99, Tryz.ntmps99
    go_wp2_with fail
    refine (HC.out _ (((Fr.refl _ _).alloc _).alloc _)).mono ?_
    rintro e w1 ⟨rfl, rfl⟩
    go_wp2
    go_ret
    exact ⟨rfl, ((Fr.refl _ _).alloc _).alloc _, rfl⟩
set_option maxRecDepth 20000 in
set_option maxHeartbeats 1600000 in
theorem compare_g (w : World) {v1 v2 : Value} {a b : List Nat} (h1 : Rd w v1 (bv a)) (ha : By a) (h : isK a = true) (h2 : Rd w v2 (bv b)) (hb : By b) (hk : isK b = true) :
    Calls Tryz.prog 66 #[v1, v2] w fun e w' => e = .returned (.tuple #[.int .i64 (ordK a b), .int .i64 0]) ∧ Fr [] w w' ∧ w'.drawn = w.drawn := by
  have hka := isK_len h
  have hkb := isK_len hk
  obtain ⟨q, off, c, hv1, hc⟩ := h1.place (by omega)
  obtain ⟨q2, off2, c2, hv2, hc2⟩ := h2.place (by omega)
  subst hv1
  subst hv2
  have HS := hid (split_yes_g w h1 ha hc h)
  have HR2 := hid h2
  have HU := hid (h1.front (q := a.length - 8) (by omega))
  have HV := hid (h2.front (q := b.length - 8) (by omega))
  have HA := hid ha
  have HB := hid hb
  have HK := hid hk
  unfold ordK
  generalize hs1 : ((tailN a / 256 : Nat) : Int) = s at HS ⊢
  generalize hk1 : ((tailN a % 256 : Nat) : Int) = k at HS ⊢
  generalize hs2 : ((tailN b / 256 : Nat) : Int) = t
  generalize hk2 : ((tailN b % 256 : Nat) : Int) = l
  have HS2 := hid hs2
  have HK2 := hid hk2
  clear h1 ha h h2 hb hk hs1 hk1 hs2 hk2
  go_enter Tryz.func66, Tryz.ntmps66
  go_wp2_with fail
  refine HS.out.mono ?_
  rintro e w1 ⟨rfl, f1, d1⟩
  have D1 := hid d1
  clear d1
  have F1 := hid f1
  clear f1
  go_wp2_with fail
  have A1 : Hid (Fr [] w (w1.alloc (.cells #[.slice (some ⟨q, off, none⟩) (a.length - 8) c, .int .u64 s, .int .i64 k] 148))) := F1.out.alloc _
  have A2 := hid (split_yes_g _ (HR2.out.fr A1.out) HB.out hc2 HK.out)
  rw [HS2.out, HK2.out] at A2
  have A3 : Hid ((w1.alloc (.cells #[.slice (some ⟨q, off, none⟩) (a.length - 8) c, .int .u64 s, .int .i64 k] 148)).heap[w1.heap.size]? = some (.cells #[.slice (some ⟨q, off, none⟩) (a.length - 8) c, .int .u64 s, .int .i64 k] 148 (0, 0))) := blk_new w1 _
  refine A2.out.mono ?_
  rintro e w2 ⟨rfl, f2, d2⟩
  have D2 : Hid (w2.drawn = w.drawn) := hid (d2.trans D1.out)
  clear d2
  have kb := f2.at A3.out (by simp)
  have c0 : w2.cell? ⟨w1.heap.size, 0, none⟩ = some (.slice (some ⟨q, off, none⟩) (a.length - 8) c) := by rw [blk_cell kb]; rfl
  have c1 : w2.cell? ⟨w1.heap.size, 1, none⟩ = some (.int .u64 s) := by rw [blk_cell kb]; rfl
  have c2' : w2.cell? ⟨w1.heap.size, 2, none⟩ = some (.int .i64 k) := by rw [blk_cell kb]; rfl
  have hlt : w1.heap.size < w2.heap.size := blk_lt kb
  have F2 := hid (A1.out.trans f2)
  clear f2 kb A1 A2 A3
  go_wp2_with fail
  have A4 : Hid (Fr [] w (w2.alloc (.cells #[.slice (some ⟨q2, off2, none⟩) (b.length - 8) c2, .int .u64 t, .int .i64 l] 148))) := F2.out.alloc _
  refine (from_g _ (HU.out.fr A4.out) (HV.out.fr A4.out) (HA.out.take _) (HB.out.take _) s t k l).mono ?_
  rintro e w3 ⟨rfl, f3, d3⟩
  have D3 : Hid (w3.drawn = w.drawn) := hid (d3.trans D2.out)
  clear d3
  have F3 := hid (A4.out.trans f3)
  clear f3 A4
  go_wp2
  go_ret2
  exact ⟨rfl, F3.out, D3.out⟩
/-- A world that differs by new blocks alone. -/
theorem grow_of {w w' : World} (f : Fr [] w w') (d : w'.drawn = w.drawn) : ∃ q os', w' = Sort.grow (w.drewN q) os' := by
  refine ⟨0, w'.heap.extract w.heap.size w'.heap.size, ?_⟩
  have hh : w'.heap = w.heap ++ w'.heap.extract w.heap.size w'.heap.size := by
    apply Array.ext_getElem?
    intro i
    by_cases hi : i < w.heap.size
    · rw [Array.getElem?_append_left hi]
      exact f.block i hi (by simp)
    · rw [Array.getElem?_append_right (by omega), Array.getElem?_extract]
      have := f.size
      by_cases h2 : i < w'.heap.size
      · rw [if_pos (by omega)]
        congr 1
        omega
      · rw [if_neg (by omega)]
        simp; omega
  obtain ⟨h1, t1, d1, o1, p1⟩ := w'
  have e1 := f.os; have e2 := f.tape; have e3 := f.output
  simp only at hh d e1 e2 e3
  subst d e1 e2 e3
  simp only [Sort.grow, World.drewN, Nat.add_zero]
  congr 1
end Go.Proofs.YtegbngbhmgbocaaGreatDoor
namespace Go.Proofs.YtegbngbhmgbocaaGreatDoor
open Go.ChangeShapes Go.WideShapes Go.ChangeAt Go.RowKit

/-- The world behind a Clone of bytes that lie in memory. -/
def cloneW (w : World) (ns : List Nat) : World :=
  if ns = [] then w.alloc (.cells #[] 5) else (w.alloc (.cells #[] 5)).drew.alloc (.cells (#[] ++ (bv ns).toArray ++ Builtin.zeroCells (Value.int .u8 0).cells (grownCap (w.alloc (.cells #[] 5)) (0 + ns.length) 0 5 - (0 + ns.length))) 5)
def cloneV (w : World) (ns : List Nat) : Value :=
  if ns = [] then .slice (some ⟨w.heap.size, 0, none⟩) 0 0 else .slice (some ⟨(w.alloc (.cells #[] 5)).heap.size, 0, none⟩) (0 + ns.length) (grownCap (w.alloc (.cells #[] 5)) (0 + ns.length) 0 5)

theorem clone_fr (w : World) (ns : List Nat) : Fr [] w (cloneW w ns) := by
  unfold cloneW
  split
  · exact (Fr.refl _ _).alloc _
  · exact (((Fr.refl _ _).alloc _).drew).alloc _
theorem clone_own (w : World) (ns : List Nat) (hl : ns.length ≤ 140737488355328) : (cloneW w ns).ownsRow w.heap.size 5 1 (cloneV w ns) ns.length (bv ns) := by
  unfold cloneW cloneV
  by_cases h : ns = []
  · rw [if_pos h, if_pos h, h]
    exact World.ownsRow_lit w #[] 0 (Nat.le_refl _) (by unfold maxLen; omega) rfl
  · rw [if_neg h, if_neg h, Nat.zero_add]
    have h1 := grownCap_ge (w.alloc (.cells #[] 5)) ns.length 0 5
    refine ⟨by rw [bv_len, Nat.mul_one], .inr ⟨_, _, _, rfl, by simp, blk_new _ _, h1, grownCap_le_maxLen _ _ _ _ (by unfold maxLen; omega), ?_, ?_⟩⟩
    · simp only [Array.size_append, size_zeroCells, Value.cells, List.size_toArray, bv_len]
      simp; omega
    · simp [bv_len]

set_option maxRecDepth 20000 in
set_option maxHeartbeats 400000 in
theorem clone_x {w : World} {q off c : Nat} {ns : List Nat} (hr : Rd w (.slice (some ⟨q, off, none⟩) ns.length c) (bv ns)) (hl : ns.length ≤ 140737488355328) :
    Calls Tryz.prog 51 #[.slice (some ⟨q, off, none⟩) ns.length c] w fun e w' => e = .returned (cloneV w ns) ∧ w' = cloneW w ns := by
  have heq := fun (w : World) (a : Option Addr) (n c : Nat) => Lib.run_eql_slice_nil (P := Tryz.prog) w 22 5 a n c 0 0 Tryz.underlying22
  obtain ⟨i0, hi, hz0, hz1, hz2⟩ := info_parts infoB
  by_cases h : ns = []
  · subst h
    have hV : cloneV w [] = .slice (some ⟨w.heap.size, 0, none⟩) 0 0 := rfl
    have hW : cloneW w [] = w.alloc (.cells #[] 5) := rfl
    rw [hV, hW]
    clear hr hV hW hi hz0 hz1 hz2
    go_enter Tryz.func51, Tryz.ntmps51
    go_wp2
    go_ret
    exact ⟨rfl, rfl⟩
  · have hpos : 0 < ns.length := List.length_pos_iff.2 h
    have hr' : Rd (w.alloc (.cells #[] 5)) (.slice (some ⟨q, off, none⟩) ns.length c) (bv ns) := hr.fr ((Fr.refl _ _).alloc _)
    have hnews : ∀ j v, (bv ns)[j]? = some v → (w.alloc (.cells #[] 5)).cell? ((⟨q, off, none⟩ : Addr).add j) = some v := by
      rcases hr' with ⟨e, _⟩ | ⟨a, c', e, _, h5⟩
      · cases e
      · simp only [Value.slice.injEq, Option.some.injEq] at e
        obtain ⟨rfl, _, _⟩ := e
        exact h5
    have hrun := fun ty => run_append_grow (P := Tryz.prog) (w.alloc (.cells #[] 5)) 22 ty 5 i0 (.int .u8 0) Tryz.underlying22 hi hz0 ⟨w.heap.size, 0, none⟩ 0 0 [] (by simp) (by simp) ⟨q, off, none⟩ ns.length c (bv ns) (by rw [bv_len, hz1, Nat.mul_one]) hnews (by omega) (by omega) (by rw [hz2, Nat.mul_one, Nat.zero_add, nextslicecap_zero hpos]; omega)
    have hV : cloneV w ns = .slice (some ⟨(w.alloc (.cells #[] 5)).heap.size, 0, none⟩) (0 + ns.length) (grownCap (w.alloc (.cells #[] 5)) (0 + ns.length) 0 5) := by unfold cloneV; rw [if_neg h]
    have hW : cloneW w ns = (w.alloc (.cells #[] 5)).drew.alloc (.cells (#[] ++ (bv ns).toArray ++ Builtin.zeroCells (Value.int .u8 0).cells (grownCap (w.alloc (.cells #[] 5)) (0 + ns.length) 0 5 - (0 + ns.length))) 5) := by unfold cloneW; rw [if_neg h]
    have hrun' : ∀ ty, (Builtin.append_ #[22, 22] ty #[.slice (some ⟨w.heap.size, 0, none⟩) 0 0, .slice (some ⟨q, off, none⟩) ns.length c]).run Tryz.prog (w.alloc (.cells #[] 5)) = .ok (cloneV w ns) (cloneW w ns) := fun ty => by
      rw [hV, hW]; exact hrun ty
    clear hr hr' hnews hrun hV hW hi hz0 hz1 hz2 h
    go_enter Tryz.func51, Tryz.ntmps51
    go_wp2_with (at_builtin; refine Lib.wpList_append_run _ rfl _ _ _ _ rfl _ _ rfl rfl _ _ (hrun' _) ?_)
    go_ret
    exact ⟨rfl, rfl⟩
end Go.Proofs.YtegbngbhmgbocaaGreatDoor
namespace Go.Proofs.YtegbngbhmgbocaaGreatDoor
open Go.ChangeShapes Go.WideShapes Go.ChangeAt Go.RowKit

theorem results_tmp4 {fn : Func} {p q r s : Tmp} (h : fn.results = #[.tmp p, .tmp q, .tmp r, .tmp s]) (tmps : Array Value) (P : Program) (w : World) :
    (results fn tmps).run P w = .ok (.tuple #[tmps.getD p undef, tmps.getD q undef, tmps.getD r undef, tmps.getD s undef]) w := by
  simp only [results, h]
  simp

set_option maxRecDepth 20000 in
set_option maxHeartbeats 400000 in
theorem Split_no (w : World) {v : Value} {b : List Nat} (hr : Rd w v (bv b)) (hb : By b) (hl : b.length ≤ 140737488355328) (h : isK b = false) :
    Calls Tryz.prog 102 #[v] w fun e w' => e = .returned (.tuple #[.slice none 0 0, .int .u64 0, .int .i64 0, .int .i64 23]) ∧ Fr [] w w' := by
  have HS := hid (split_no w hr hb hl h)
  obtain ⟨a, c, hv⟩ := hr.form
  subst hv
  clear hr hb h
  go_enter Tryz.func102, Tryz.ntmps102
  go_wp2_with fail
  refine HS.out.mono ?_
  rintro e w1 ⟨rfl, f1⟩
  go_wp2
  exact bodyPost_ret (results_tmp4 rfl _ _ _) rfl ⟨rfl, f1.alloc _⟩

set_option maxRecDepth 20000 in
set_option maxHeartbeats 4000000 in
theorem Split_yes (w : World) {v : Value} {b : List Nat} (hr : Rd w v (bv b)) (hb : By b) (h : isK b = true) :
    Calls Tryz.prog 102 #[v] w fun e w' => ∃ v', e = .returned (.tuple #[v', .int .u64 ((tailN b / 256 : Nat) : Int), .int .i64 ((tailN b % 256 : Nat) : Int), .int .i64 0]) ∧ w'.ownsRow w.heap.size 5 1 v' (userL b).length (bv (userL b)) ∧ Fr [] w w' := by
  have hk := isK_len h
  obtain ⟨q, off, c, rfl, h1⟩ := hr.place (by omega)
  have hs0 := split_yes w hr hb h1 h
  have hr0 := hr.front (q := b.length - 8) (by omega)
  obtain ⟨s, hs⟩ : ∃ s, s = tailN b / 256 := ⟨_, rfl⟩
  obtain ⟨g, hg⟩ : ∃ g, g = tailN b % 256 := ⟨_, rfl⟩
  obtain ⟨u, hu⟩ : ∃ u, u = b.take (b.length - 8) := ⟨_, rfl⟩
  have hul : b.length - 8 = u.length := by rw [hu, List.length_take]; omega
  have hlen : u.length ≤ 140737488355328 := by omega
  rw [← hs, ← hg, hul] at hs0
  rw [← hu, hul] at hr0
  rw [← hs, ← hg, show userL b = u from hu.symm]
  have HS := hid hs0
  have HR := hid hr0
  clear hr hb h hs hg hs0 hr0 hu hul
  go_enter Tryz.func102, Tryz.ntmps102
  go_wp2_with fail
  refine HS.out.mono ?_
  rintro e w1 ⟨rfl, f1⟩
  have F1 := hid f1
  clear f1
  have A1 : Hid (Fr [] w (w1.alloc (.cells #[.slice (some ⟨q, off, none⟩) u.length c, .int .u64 (s : Int), .int .i64 (g : Int)] 148)).drew) := (F1.out.alloc _).drew
  have A2 := hid (HR.out.fr A1.out)
  have A3 : Hid ((w1.alloc (.cells #[.slice (some ⟨q, off, none⟩) u.length c, .int .u64 (s : Int), .int .i64 (g : Int)] 148)).drew.heap[w1.heap.size]? = some (.cells #[.slice (some ⟨q, off, none⟩) u.length c, .int .u64 (s : Int), .int .i64 (g : Int)] 148 (0, 0))) := by
    unfold Hid; rw [blk_drew]; exact blk_new w1 _
  have HCL := hid (clone_x A2.out hlen)
  have O2 := hid (ownsRow_base (clone_own (w1.alloc (.cells #[.slice (some ⟨q, off, none⟩) u.length c, .int .u64 (s : Int), .int .i64 (g : Int)] 148)).drew u hlen) A1.out.size)
  have f2 := clone_fr (w1.alloc (.cells #[.slice (some ⟨q, off, none⟩) u.length c, .int .u64 (s : Int), .int .i64 (g : Int)] 148)).drew u
  generalize cloneW (w1.alloc (.cells #[.slice (some ⟨q, off, none⟩) u.length c, .int .u64 (s : Int), .int .i64 (g : Int)] 148)).drew u = W2 at HCL O2 f2
  generalize cloneV (w1.alloc (.cells #[.slice (some ⟨q, off, none⟩) u.length c, .int .u64 (s : Int), .int .i64 (g : Int)] 148)).drew u = v2 at HCL O2
  have kb := f2.at A3.out (by simp)
  have k1 : W2.cell? ⟨w1.heap.size, 1, none⟩ = some (.int .u64 (s : Int)) := by rw [blk_cell kb]; rfl
  have k2 : W2.cell? ⟨w1.heap.size, 2, none⟩ = some (.int .i64 (g : Int)) := by rw [blk_cell kb]; rfl
  have F2 := hid (A1.out.trans f2)
  obtain ⟨a2, c2, hv2, _⟩ := ownsRow_slice O2.out
  subst hv2
  clear kb f2
  go_wp2_with fail
  go_region_with (
    go_at_call 51
    go_must (
    refine HCL.out.mono ?_
    rintro e w2 ⟨rfl, rfl⟩))
  all_goals go_wp2
  all_goals exact bodyPost_ret (results_tmp4 rfl _ _ _) rfl ⟨_, rfl, O2.out, F2.out⟩
end Go.Proofs.YtegbngbhmgbocaaGreatDoor
namespace Go.Proofs.YtegbngbhmgbocaaGreatDoor
open Go.ChangeShapes Go.WideShapes Go.ChangeAt Go.RowKit

theorem step_append_own {P : Program} {ops : Array Oper} {o : Oper} {a : Act} {w : World} {K : Act → World → Prop} {Q : Exit → Act → World → Prop} {E : Prop}
    (hg : o.guard = none) (s x : Operand) (t : TypeId) (hop : o.op = Op.call { callee := Callee.builtin Builtin.append, args := #[s, x], argTypes := #[t, t] })
    (base : Nat) (e : TypeId) (i : TypeInfo) (z : Value) (size bytes : Nat) (ht : P.underlying t = some (.slice e)) (hi : P.info? e = some i) (hz : i.zero = some z)
    (hsize : i.size = size) (hby : i.bytes = bytes) (hzs : z.cells.size = size) (hsz : 0 < size)
    (v : Value) (n : Nat) (xs : List Value) (hs : a.eval s = v) (hown : w.ownsRow base e size v n xs)
    (ad : Addr) (m c : Nat) (news : List Value) (hx : a.eval x = .slice (some ad) m c) (hl : news.length = m * size) (hnews : ∀ j u, news[j]? = some u → w.cell? (ad.add j) = some u) (h1 : ∀ u ∈ news, u.oneCell' = true)
    (h63 : n + m ≤ maxLen) (hbytes : (n + m) * bytes ≤ 140737488355328) (hbase : base ≤ w.heap.size)
    (hK : ∀ v' w', w'.ownsRow base e size v' (n + m) (xs ++ news) → w.grownBy w' v.ownBlock → (v'.ownBlock = v.ownBlock ∨ v'.ownBlock = some w.heap.size) → K (a.put o.dst v') w') :
    if Region.wanted o (yielded ops a.tmps) = true then Oper.wp P o a w K Q else E := by
  have hw : Region.wanted o (yielded ops a.tmps) = true := by simp [Region.wanted, hg]
  rw [if_pos hw]
  obtain ⟨v', w', hr, h2, h3, _, h5⟩ := run_append_own_at (P := P) w base t o.type e i z size bytes ht hi hz hsize hby hzs hsz v n xs hown ad m c news hl hnews h1 h63 hbytes hbase
  unfold Oper.wp
  simp [execOp, hop, resolve, invoke, builtin, hs, hx, hr, Result.andThen]
  exact hK v' w' h2 h3 h5

/-- One byte appended to a row of bytes of the call's own. -/
theorem step_append_one {ops : Array Oper} {o : Oper} {a : Act} {w : World} {K : Act → World → Prop} {Q : Exit → Act → World → Prop} {E : Prop} {z : Int}
    (hg : o.guard = none) (s x : Operand) (hop : o.op = Op.call { callee := Callee.builtin Builtin.append, args := #[s, x], argTypes := #[22, 22] })
    (base : Nat) {v : Value} {n : Nat} {xs : List Value} (hown : w.ownsRow base 5 1 v n xs) (hs : a.eval s = v)
    (g : Nat) (hx : a.eval x = .slice (some ⟨g, 0, none⟩) 1 1) (hc : w.cell? ⟨g, 0, none⟩ = some (.int .u8 z)) (hl : n + 1 ≤ 100000) (hbase : base ≤ w.heap.size)
    (hK : ∀ v' w', w'.ownsRow base 5 1 v' (n + 1) (xs ++ [.int .u8 z]) → w.grownBy w' v.ownBlock → K (a.put o.dst v') w') :
    if Region.wanted o (yielded ops a.tmps) = true then Oper.wp Tryz.prog o a w K Q else E := by
  obtain ⟨i0, hi, hz0, hz1, hz2⟩ := info_parts infoB
  refine step_append_own hg s x 22 hop base 5 i0 (.int .u8 0) 1 1 Tryz.underlying22 hi hz0 hz1 hz2 rfl (by decide) v n xs hs hown ⟨g, 0, none⟩ 1 1 [.int .u8 z] hx rfl ?_ (by simp [Value.oneCell']) (by unfold maxLen; omega) (by omega) hbase fun v' w' h1 h2 _ => hK v' w' h1 h2
  intro j u hj
  cases j with
  | zero => simp at hj; subst hj; rw [Addr.add_lit]; exact hc
  | succ j => simp at hj
end Go.Proofs.YtegbngbhmgbocaaGreatDoor
namespace Go.Proofs.YtegbngbhmgbocaaGreatDoor
open Go.ChangeShapes Go.WideShapes Go.ChangeAt Go.RowKit

theorem step_append_rd {ops : Array Oper} {o : Oper} {a : Act} {w : World} {K : Act → World → Prop} {Q : Exit → Act → World → Prop} {E : Prop}
    (hg : o.guard = none) (s x : Operand) (hop : o.op = Op.call { callee := Callee.builtin Builtin.append, args := #[s, x], argTypes := #[22, 22] })
    (base : Nat) {v : Value} {n : Nat} {xs : List Value} (hown : w.ownsRow base 5 1 v n xs) (hs : a.eval s = v) {sx : Value} {news : List Value} (hr : Rd w sx news) (hx : a.eval x = sx) (hb : ∀ u ∈ news, u.oneCell' = true)
    (hl : n + news.length ≤ 140737488355328) (hbase : base ≤ w.heap.size)
    (hK : ∀ v' w', w'.ownsRow base 5 1 v' (n + news.length) (xs ++ news) → w.grownBy w' v.ownBlock → (v'.ownBlock = v.ownBlock ∨ v'.ownBlock = some w.heap.size) → K (a.put o.dst v') w') :
    if Region.wanted o (yielded ops a.tmps) = true then Oper.wp Tryz.prog o a w K Q else E := by
  obtain ⟨i0, hi, hz0, hz1, hz2⟩ := info_parts infoB
  rcases hr with ⟨rfl, rfl⟩ | ⟨ad, c, rfl, h4, h5⟩
  · have hw : Region.wanted o (yielded ops a.tmps) = true := by simp [Region.wanted, hg]
    rw [if_pos hw]
    have hrun := run_append_owned_none (P := Tryz.prog) (w := w) base 22 o.type 5 i0 1 Tryz.underlying22 hi v n xs hown
    unfold Oper.wp
    simp [execOp, hop, resolve, invoke, builtin, hs, hx, hrun, Result.andThen]
    exact hK v w (by simpa using hown) ⟨rfl, rfl, rfl, Nat.le_refl _, fun _ _ _ => rfl⟩ (.inl rfl)
  · exact step_append_own hg s x 22 hop base 5 i0 (.int .u8 0) 1 1 Tryz.underlying22 hi hz0 hz1 hz2 rfl (by decide) v n xs hs hown ad news.length c news hx (by simp) h5 hb (by unfold maxLen; omega) (by omega) hbase hK
end Go.Proofs.YtegbngbhmgbocaaGreatDoor
