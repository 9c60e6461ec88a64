/-
  The tests of a version's tables; how tables stand.
-/
import Derived.Test.YtmhhdlcdfgahkaaDoorVC
import Derived.Test.YtmhhdlcdfgahkaaDoorJ15
import Derived.Test.YtmhhdlcdfgahkaaDoorJ18
namespace Go.Proofs.YtmhhdlcdfgahkaaDoor
open Go.ChangeShapes Go.WideShapes Go.ChangeAt Go.RowKit

set_option maxRecDepth 20000 in
set_option maxHeartbeats 1600000 in
theorem fresh_c (W : World) {q m : Nat} {ks : List Int} (x y : Int) (l1 l2 : Value) (qb : W.heap[q]? = some (.cells #[.map (some m)] 69 (0, 0))) (hs : SetB encN W m ks) :
    Calls Tryd.prog 26 #[.agg #[.int .i64 x, .int .i64 y, l1, l2], .pointer (some ⟨q, 0, none⟩)] W fun r W' => r = .returned (.bool (decide (x ∉ ks))) ∧ SetB encN W' m (ks ++ [x]) ∧ W'.heap[q]? = some (.cells #[.map (some m)] 69 (0, 0)) ∧ Fr [m] W W' := by
  obtain ⟨W0, hW0⟩ : ∃ W0, W0 = W.alloc (.cells #[.int .i64 x, .int .i64 y, l1, l2] 53) := ⟨_, rfl⟩
  have f0 : Fr [] W W0 := by rw [hW0]; exact (Fr.refl _ _).alloc _
  have n0 : W0.heap[W.heap.size]? = some (.cells #[.int .i64 x, .int .i64 y, l1, l2] 53 (0, 0)) := by rw [hW0]; exact blk_new _ _
  have q0 : W0.cell? ⟨q, 0, none⟩ = some (.map (some m)) := by rw [blk_cell (f0.at qb (by simp))]; rfl
  have y0 : W0.cell? ⟨W.heap.size, 0, none⟩ = some (.int .i64 x) := by rw [blk_cell n0]; rfl
  have hl : (Instr.lookup 69 (.map (some m)) (.int .i64 x) true).run Tryd.prog W0 = .ok (.tuple #[.agg #[], .bool (decide (x ∈ ks))]) W0 := (hs.fr f0).look int_ok Tryd.underlying69 zeroU x
  obtain ⟨W1, hW1⟩ : ∃ W1, W1 = W0.alloc (.cells #[] 70) := ⟨_, rfl⟩
  have f1 : Fr [] W0 W1 := by rw [hW1]; exact (Fr.refl _ _).alloc _
  obtain ⟨o, hu, hs2⟩ := ((hs.fr f0).fr f1).put int_ok Tryd.underlying69 x
  have hu' : (Instr.mapUpdate 69 (.map (some m)) (.int .i64 x) (.agg #[])).run Tryd.prog W1 = .ok () (ChangeMaps.setBlock W1 m o) := hu
  have q1 := cell_fr f1 q0
  have y1 := cell_fr f1 y0
  have hne : q ≠ m := by
    intro e
    subst e
    obtain ⟨es, cl, hb, _⟩ := hs
    rw [qb] at hb
    cases hb
  have QB : Hid ((ChangeMaps.setBlock W1 m o).heap[q]? = some (.cells #[.map (some m)] 69 (0, 0))) := hid (by rw [sb_ne _ _ hne]; exact (f0.trans f1).at qb (by simp))
  have FF : Hid (Fr [m] W (ChangeMaps.setBlock W1 m o)) := hid (by
    have f := f0.trans f1
    exact ⟨f.os, f.tape, f.output, by simpa [ChangeMaps.setBlock] using f.size, fun k hk hn => by rw [sb_ne _ _ (by simpa using hn)]; exact f.block k hk (by simp)⟩)
  have HS := hid hs2
  obtain ⟨W3, hW3⟩ : ∃ W3, W3 = ChangeMaps.setBlock W1 m o := ⟨_, rfl⟩
  rw [← hW3] at hu' QB FF HS
  have hdn : decide (x ∉ ks) = !decide (x ∈ ks) := by by_cases h : x ∈ ks <;> simp [h]
  rw [hdn]
  generalize decide (x ∈ ks) = d at *
  clear f0 n0 f1 hu hs hs2 qb hne hW3 hdn
  go_enter Tryd.func26, Tryd.ntmps26
  go_upto_region 1 with fail
  rw [← hW0]
  clear hW0
  go_upto_region 2 with fail
  rw [← hW1]
  clear hW1
  go_wp2
  go_ret
  exact ⟨rfl, HS.out, QB.out, FF.out⟩
set_option maxRecDepth 20000 in
theorem below_c (W : World) {q : Nat} (x y nx : Int) (l1 l2 : Value) (qc : W.cell? ⟨q, 1, none⟩ = some (.int .i64 nx)) :
    Calls Tryd.prog 27 #[.agg #[.int .i64 x, .int .i64 y, l1, l2], .pointer (some ⟨q, 0, none⟩)] W fun r W' => r = .returned (.bool (decide (x < nx))) ∧ Fr [] W W' := by
  obtain ⟨W0, hW0⟩ : ∃ W0, W0 = W.alloc (.cells #[.int .i64 x, .int .i64 y, l1, l2] 53) := ⟨_, rfl⟩
  have f0 : Fr [] W W0 := by rw [hW0]; exact (Fr.refl _ _).alloc _
  have n0 : W0.heap[W.heap.size]? = some (.cells #[.int .i64 x, .int .i64 y, l1, l2] 53 (0, 0)) := by rw [hW0]; exact blk_new _ _
  have q0 := cell_fr f0 qc
  have y0 : W0.cell? ⟨W.heap.size, 0, none⟩ = some (.int .i64 x) := by rw [blk_cell n0]; rfl
  have F0 := hid f0
  clear n0 f0 qc
  go_enter Tryd.func27, Tryd.ntmps27
  go_upto_region 1 with fail
  rw [← hW0]
  clear hW0
  go_wp2
  go_ret
  exact ⟨rfl, F0.out⟩
theorem orderOf_0 (w : World) : Calls Tryd.prog 32 #[.int .i64 0] w fun r w' => r = .returned (.func (.func 48) #[] #[]) ∧ w' = w := by
  go_enter Tryd.func32, Tryd.ntmps32
  go_wp2
  go_ret
  exact ⟨rfl, rfl⟩
theorem orderOf_1 (w : World) {n : Int} (h : n ≠ 0) : Calls Tryd.prog 32 #[.int .i64 n] w fun r w' => r = .returned (.func (.func 50) #[] #[]) ∧ w' = w := by
  go_enter Tryd.func32, Tryd.ntmps32
  go_wp2
  go_ret
  exact ⟨rfl, rfl⟩
set_option maxRecDepth 20000 in
theorem ord0_c (W : World) (x y x' y' : Int) (l1 l2 l1' l2' : Value) :
    Calls Tryd.prog 48 #[.agg #[.int .i64 x, .int .i64 y, l1, l2], .agg #[.int .i64 x', .int .i64 y', l1', l2']] W fun r W' => r = .returned (.int .i64 (cmpI x x')) ∧ Fr [] W W' ∧ W'.drawn = W.drawn := by
  have HC : Hid (∀ W, _) := hid (fun W => cmpi_c W x x')
  go_enter Tryd.func48, Tryd.ntmps48
  go_wp2_with (go_at_call 49; refine (HC.out _).mono ?_; rintro e w1 ⟨rfl, h⟩; rw [h]; clear h)
  go_ret
  exact ⟨rfl, ((Fr.refl _ _).alloc _).alloc _, rfl⟩
set_option maxRecDepth 20000 in
set_option maxHeartbeats 800000 in
theorem ord1_c (W : World) {f g : Fl} {la ma la' ma' : Option Addr} {lc mc lc' mc' : Nat} (hf : FRd W f la lc ma mc) (hg : FRd W g la' lc' ma' mc') (kf : isK f.least = true) (kg : isK g.least = true) :
    Calls Tryd.prog 50 #[.agg #[.int .i64 f.num, .int .i64 f.size, .slice la f.least.length lc, .slice ma f.most.length mc], .agg #[.int .i64 g.num, .int .i64 g.size, .slice la' g.least.length lc', .slice ma' g.most.length mc']] W fun r W' => r = .returned (.int .i64 (ordK f.least g.least)) ∧ Fr [] W W' ∧ W'.drawn = W.drawn := by
  obtain ⟨W0, hW0⟩ : ∃ W0, W0 = (W.alloc (.cells #[.int .i64 f.num, .int .i64 f.size, .slice la f.least.length lc, .slice ma f.most.length mc] 53)).alloc (.cells #[.int .i64 g.num, .int .i64 g.size, .slice la' g.least.length lc', .slice ma' g.most.length mc'] 53) := ⟨_, rfl⟩
  have f0 : Fr [] W W0 := by rw [hW0]; exact ((Fr.refl _ _).alloc _).alloc _
  have n0 : W0.heap[W.heap.size]? = some (.cells #[.int .i64 f.num, .int .i64 f.size, .slice la f.least.length lc, .slice ma f.most.length mc] 53 (0, 0)) := by rw [hW0, blk_old _ _ (by simp)]; exact blk_new _ _
  have n1 : W0.heap[W.heap.size + 1]? = some (.cells #[.int .i64 g.num, .int .i64 g.size, .slice la' g.least.length lc', .slice ma' g.most.length mc'] 53 (0, 0)) := by rw [hW0]; exact new_at _ _ (by simp)
  obtain ⟨y0, y1, y2, y3⟩ := fl_cells n0
  obtain ⟨x0, x1, x2, x3⟩ := fl_cells n1
  have HC := hid (compare_g W0 (hf.rl.fr f0) hf.bl kf (hg.rl.fr f0) hg.bl kg)
  have F0 := hid f0
  have D0 : Hid (W0.drawn = W.drawn) := hid (by rw [hW0]; rfl)
  clear n0 n1 f0 hf hg
  generalize f.least.length = ll at *
  generalize g.least.length = lg at *
  go_enter Tryd.func50, Tryd.ntmps50
  go_upto_region 1 with fail
  rw [← hW0]
  clear hW0
  go_wp2_with (go_at_call 44; refine HC.out.mono ?_; rintro e w1 ⟨rfl, f1, d1⟩; have F1 := hid f1; have D1 := hid d1; clear f1 d1)
  go_ret
  exact ⟨rfl, F0.out.trans F1.out, D1.out.trans D0.out⟩
set_option maxRecDepth 20000 in
set_option maxHeartbeats 1600000 in
theorem reaches_c (W : World) {f g : Fl} {la ma la' ma' : Option Addr} {lc mc lc' mc' : Nat} (hf : FRd W f la lc ma mc) (hg : FRd W g la' lc' ma' mc') (kf : isK f.most = true) (kg : isK g.least = true) :
    Calls Tryd.prog 45 #[.agg #[.int .i64 f.num, .int .i64 f.size, .slice la f.least.length lc, .slice ma f.most.length mc], .agg #[.int .i64 g.num, .int .i64 g.size, .slice la' g.least.length lc', .slice ma' g.most.length mc']] W fun r W' => r = .returned (.bool (reachF f g)) ∧ Fr [] W W' := by
  obtain ⟨W0, hW0⟩ : ∃ W0, W0 = (W.alloc (.cells #[.int .i64 f.num, .int .i64 f.size, .slice la f.least.length lc, .slice ma f.most.length mc] 53)).alloc (.cells #[.int .i64 g.num, .int .i64 g.size, .slice la' g.least.length lc', .slice ma' g.most.length mc'] 53) := ⟨_, rfl⟩
  have f0 : Fr [] W W0 := by rw [hW0]; exact ((Fr.refl _ _).alloc _).alloc _
  have n0 : W0.heap[W.heap.size]? = some (.cells #[.int .i64 f.num, .int .i64 f.size, .slice la f.least.length lc, .slice ma f.most.length mc] 53 (0, 0)) := by rw [hW0, blk_old _ _ (by simp)]; exact blk_new _ _
  have n1 : W0.heap[W.heap.size + 1]? = some (.cells #[.int .i64 g.num, .int .i64 g.size, .slice la' g.least.length lc', .slice ma' g.most.length mc'] 53 (0, 0)) := by rw [hW0]; exact new_at _ _ (by simp)
  obtain ⟨y0, y1, y2, y3⟩ := fl_cells n0
  obtain ⟨x0, x1, x2, x3⟩ := fl_cells n1
  have HC := hid (Split_yes W0 (hf.rm.fr f0) hf.bm kf)
  have HD : Hid (∀ W', Fr [] W0 W' → _) := hid (fun W' f => Split_yes W' ((hg.rl.fr f0).fr f) hg.bl kg)
  have HU : Hid (By (userL f.most)) := hid (hf.bm.take _)
  have HV : Hid (By (userL g.least)) := hid (hg.bl.take _)
  have F0 := hid f0
  obtain ⟨R, hR⟩ : ∃ R, R = cmpN (userL f.most) (userL g.least) := ⟨_, rfl⟩
  have HR := hid hR
  have hq : reachF f g = decide (0 ≤ R) := by unfold reachF; rw [hR]
  rw [hq]
  clear n0 n1 f0 hf hg hq hR
  generalize f.most.length = lm at *
  generalize g.least.length = lg at *
  go_enter Tryd.func45, Tryd.ntmps45
  go_upto_region 1 with fail
  rw [← hW0]
  clear hW0
  go_upto_region 2 with (go_at_call 64; refine HC.out.mono ?_; rintro e w1 ⟨v1, rfl, o1, f1⟩; obtain ⟨a1, c1, rfl, _⟩ := ownsRow_slice o1; have R1 := hid (Rd.ownB o1); have F1 := hid f1; clear o1)
  have x2 := cell_fr F1.out x2
  clear f1 HC y0 y1 y2 y3
  have HE := hid (HD.out w1 F1.out)
  clear HD
  go_upto_region 3 with (go_at_call 64; refine HE.out.mono ?_; rintro e w2 ⟨v2, rfl, o2, f2⟩; obtain ⟨a2, c2, rfl, _⟩ := ownsRow_slice o2; have R2 := hid (Rd.ownB o2); have F2 := hid f2; clear o2)
  clear f2
  have CP := hid (bcmp_c (R1.out.fr F2.out) R2.out HU.out HV.out)
  rw [← HR.out] at CP
  clear x2 HE R1 R2 HR
  go_wp2_with (go_at_call 65; refine CP.out.mono ?_; rintro e w3 ⟨rfl, h⟩; rw [h]; clear h)
  go_ret
  exact ⟨rfl, (F0.out.trans F1.out).trans F2.out⟩
end Go.Proofs.YtmhhdlcdfgahkaaDoor
