/-
  What Split of package codec answers, and the reference's Key and Split.
-/
import Derived.Test.YtekcpecofclgiaaJ
import Derived.Test.YtekcpecofclgiaaH2
import Derived.Deep.RegionLaw
namespace Go.Proofs.Ytekcpecofclgiaa
open Go.ChangeShapes Go.WideShapes Go.ChangeAt Go.RowKit

theorem results_tmp4 {fn : Func} {p q r s : Tmp} (h : fn.results = #[.tmp p, .tmp q, .tmp r, .tmp s]) (tmps : Array Value) (P : Program) (w : World) :
    (results fn tmps).run P w = .ok (.tuple #[tmps.getD p undef, tmps.getD q undef, tmps.getD r undef, tmps.getD s undef]) w := by
  simp only [results, h]
  simp

set_option maxRecDepth 20000 in
set_option maxHeartbeats 400000 in
theorem Split_no (w : World) {v : Value} {b : List Nat} (hr : Rd w v (bv b)) (hb : By b) (hl : b.length ≤ 140737488355328) (h : isK b = false) :
    Calls Try.prog 40 #[v] w fun e w' => e = .returned (.tuple #[.slice none 0 0, .int .u64 0, .int .i64 0, .int .i64 23]) ∧ Fr [] w w' := by
  have HS := hid (split_no w hr hb hl h)
  obtain ⟨a, c, hv⟩ := hr.form
  subst hv
  clear hr hb h
  go_enter Try.func40, Try.ntmps40
  go_wp2_with fail
  refine HS.out.mono ?_
  rintro e w1 ⟨rfl, f1⟩
  go_wp2
  exact bodyPost_ret (results_tmp4 rfl _ _ _) rfl ⟨rfl, f1.alloc _⟩

set_option maxRecDepth 20000 in
set_option maxHeartbeats 4000000 in
theorem Split_yes (w : World) {v : Value} {b : List Nat} (hr : Rd w v (bv b)) (hb : By b) (h : isK b = true) :
    Calls Try.prog 40 #[v] w fun e w' => ∃ v', e = .returned (.tuple #[v', .int .u64 ((tailN b / 256 : Nat) : Int), .int .i64 ((tailN b % 256 : Nat) : Int), .int .i64 0]) ∧ w'.ownsRow w.heap.size 5 1 v' (userL b).length (bv (userL b)) ∧ Fr [] w w' := by
  have hk := isK_len h
  obtain ⟨q, off, c, rfl, h1⟩ := hr.place (by omega)
  have hs0 := split_yes w hr hb h1 h
  have hr0 := hr.front (q := b.length - 8) (by omega)
  obtain ⟨s, hs⟩ : ∃ s, s = tailN b / 256 := ⟨_, rfl⟩
  obtain ⟨g, hg⟩ : ∃ g, g = tailN b % 256 := ⟨_, rfl⟩
  obtain ⟨u, hu⟩ : ∃ u, u = b.take (b.length - 8) := ⟨_, rfl⟩
  have hul : b.length - 8 = u.length := by rw [hu, List.length_take]; omega
  have hlen : u.length ≤ 140737488355328 := by omega
  rw [← hs, ← hg, hul] at hs0
  rw [← hu, hul] at hr0
  rw [← hs, ← hg, show userL b = u from hu.symm]
  have HS := hid hs0
  have HR := hid hr0
  clear hr hb h hs hg hs0 hr0 hu hul
  go_enter Try.func40, Try.ntmps40
  go_wp2_with fail
  refine HS.out.mono ?_
  rintro e w1 ⟨rfl, f1⟩
  have F1 := hid f1
  clear f1
  have A1 : Hid (Fr [] w (w1.alloc (.cells #[.slice (some ⟨q, off, none⟩) u.length c, .int .u64 (s : Int), .int .i64 (g : Int)] 85)).drew) := (F1.out.alloc _).drew
  have A2 := hid (HR.out.fr A1.out)
  have A3 : Hid ((w1.alloc (.cells #[.slice (some ⟨q, off, none⟩) u.length c, .int .u64 (s : Int), .int .i64 (g : Int)] 85)).drew.heap[w1.heap.size]? = some (.cells #[.slice (some ⟨q, off, none⟩) u.length c, .int .u64 (s : Int), .int .i64 (g : Int)] 85 (0, 0))) := by
    unfold Hid; rw [blk_drew]; exact blk_new w1 _
  have HCL := hid (clone_x A2.out hlen)
  have O2 := hid (ownsRow_base (clone_own (w1.alloc (.cells #[.slice (some ⟨q, off, none⟩) u.length c, .int .u64 (s : Int), .int .i64 (g : Int)] 85)).drew u hlen) A1.out.size)
  have f2 := clone_fr (w1.alloc (.cells #[.slice (some ⟨q, off, none⟩) u.length c, .int .u64 (s : Int), .int .i64 (g : Int)] 85)).drew u
  generalize cloneW (w1.alloc (.cells #[.slice (some ⟨q, off, none⟩) u.length c, .int .u64 (s : Int), .int .i64 (g : Int)] 85)).drew u = W2 at HCL O2 f2
  generalize cloneV (w1.alloc (.cells #[.slice (some ⟨q, off, none⟩) u.length c, .int .u64 (s : Int), .int .i64 (g : Int)] 85)).drew u = v2 at HCL O2
  have kb := f2.at A3.out (by simp)
  have k1 : W2.cell? ⟨w1.heap.size, 1, none⟩ = some (.int .u64 (s : Int)) := by rw [blk_cell kb]; rfl
  have k2 : W2.cell? ⟨w1.heap.size, 2, none⟩ = some (.int .i64 (g : Int)) := by rw [blk_cell kb]; rfl
  have F2 := hid (A1.out.trans f2)
  obtain ⟨a2, c2, hv2, _⟩ := ownsRow_slice O2.out
  subst hv2
  clear kb f2
  go_wp2_with fail
  go_region_with (
    go_at_call 61
    go_must (
    refine HCL.out.mono ?_
    rintro e w2 ⟨rfl, rfl⟩))
  all_goals go_wp2
  all_goals exact bodyPost_ret (results_tmp4 rfl _ _ _) rfl ⟨_, rfl, O2.out, F2.out⟩
end Go.Proofs.Ytekcpecofclgiaa
