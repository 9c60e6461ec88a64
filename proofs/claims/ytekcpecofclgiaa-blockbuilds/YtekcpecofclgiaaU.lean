/-
  What Compare of package codec answers: of two internal keys, of others.
-/
import Derived.Test.YtekcpecofclgiaaS
namespace Go.Proofs.Ytekcpecofclgiaa
open Go.ChangeShapes Go.WideShapes Go.ChangeAt Go.RowKit

/-- How two internal keys stand. -/
def ordK (a b : List Nat) : Int := ordP (userL a) (userL b) ((tailN a / 256 : Nat) : Int) ((tailN b / 256 : Nat) : Int) ((tailN a % 256 : Nat) : Int) ((tailN b % 256 : Nat) : Int)

set_option maxRecDepth 20000 in
set_option maxHeartbeats 800000 in
theorem compare_no1 (w : World) {v1 v2 : Value} {a : List Nat} (h1 : Rd w v1 (bv a)) (ha : By a) (hl : a.length ≤ 140737488355328) (h : isK a = false) {n2 c2 : Nat} {a2 : Option Addr} (hv2 : v2 = .slice a2 n2 c2) :
    Calls Try.prog 65 #[v1, v2] w fun e w' => e = .returned (.tuple #[.int .i64 0, .int .i64 23]) ∧ Fr [] w w' := by
  have HS := hid (split_no w h1 ha hl h)
  obtain ⟨a1, c1, hv1⟩ := h1.form
  subst hv1
  subst hv2
  clear h1 ha h
  go_enter Try.func65, Try.ntmps65
  go_wp2_with fail
  refine HS.out.mono ?_
  rintro e w1 ⟨rfl, f1⟩
  go_wp2
  go_ret2
  exact ⟨rfl, f1.alloc _⟩

set_option maxRecDepth 20000 in
set_option maxHeartbeats 800000 in
theorem compare_no2 (w : World) {v1 v2 : Value} {a b : List Nat} (h1 : Rd w v1 (bv a)) (ha : By a) (h : isK a = true) (h2 : Rd w v2 (bv b)) (hb : By b) (hl : b.length ≤ 140737488355328) (hk : isK b = false) :
    Calls Try.prog 65 #[v1, v2] w fun e w' => e = .returned (.tuple #[.int .i64 0, .int .i64 23]) ∧ Fr [] w w' := by
  have hka := isK_len h
  obtain ⟨q, off, c, hv1, hc⟩ := h1.place (by omega)
  obtain ⟨a2, c2, hv2⟩ := h2.form
  subst hv1
  subst hv2
  have HS := hid (split_yes w h1 ha hc h)
  have HR2 := hid h2
  have HB := hid hb
  have HK := hid hk
  clear h1 ha h h2 hb hk
  go_enter Try.func65, Try.ntmps65
  go_wp2_with fail
  refine HS.out.mono ?_
  rintro e w1 ⟨rfl, f1⟩
  have F1 := hid f1
  clear f1
  go_wp2_with fail
  refine (split_no _ (HR2.out.fr (F1.out.alloc _)) HB.out hl HK.out).mono ?_
  rintro e w2 ⟨rfl, f2⟩
  have F2 := hid ((F1.out.alloc _).trans f2)
  clear f2
  go_wp2
  go_ret2
  exact ⟨rfl, F2.out.alloc _⟩

set_option maxRecDepth 20000 in
set_option maxHeartbeats 1600000 in
theorem compare_yes (w : World) {v1 v2 : Value} {a b : List Nat} (h1 : Rd w v1 (bv a)) (ha : By a) (h : isK a = true) (h2 : Rd w v2 (bv b)) (hb : By b) (hk : isK b = true) :
    Calls Try.prog 65 #[v1, v2] w fun e w' => e = .returned (.tuple #[.int .i64 (ordK a b), .int .i64 0]) ∧ Fr [] w w' := by
  have hka := isK_len h
  have hkb := isK_len hk
  obtain ⟨q, off, c, hv1, hc⟩ := h1.place (by omega)
  obtain ⟨q2, off2, c2, hv2, hc2⟩ := h2.place (by omega)
  subst hv1
  subst hv2
  have HS := hid (split_yes w h1 ha hc h)
  have HR2 := hid h2
  have HU := hid (h1.front (q := a.length - 8) (by omega))
  have HV := hid (h2.front (q := b.length - 8) (by omega))
  have HA := hid ha
  have HB := hid hb
  have HK := hid hk
  unfold ordK
  generalize hs1 : ((tailN a / 256 : Nat) : Int) = s at HS ⊢
  generalize hk1 : ((tailN a % 256 : Nat) : Int) = k at HS ⊢
  generalize hs2 : ((tailN b / 256 : Nat) : Int) = t
  generalize hk2 : ((tailN b % 256 : Nat) : Int) = l
  have HS2 := hid hs2
  have HK2 := hid hk2
  clear h1 ha h h2 hb hk hs1 hk1 hs2 hk2
  go_enter Try.func65, Try.ntmps65
  go_wp2_with fail
  refine HS.out.mono ?_
  rintro e w1 ⟨rfl, f1⟩
  have F1 := hid f1
  clear f1
  go_wp2_with fail
  have A1 : Hid (Fr [] w (w1.alloc (.cells #[.slice (some ⟨q, off, none⟩) (a.length - 8) c, .int .u64 s, .int .i64 k] 85))) := F1.out.alloc _
  have A2 := hid (split_yes _ (HR2.out.fr A1.out) HB.out hc2 HK.out)
  rw [HS2.out, HK2.out] at A2
  have A3 : Hid ((w1.alloc (.cells #[.slice (some ⟨q, off, none⟩) (a.length - 8) c, .int .u64 s, .int .i64 k] 85)).heap[w1.heap.size]? = some (.cells #[.slice (some ⟨q, off, none⟩) (a.length - 8) c, .int .u64 s, .int .i64 k] 85 (0, 0))) := blk_new w1 _
  refine A2.out.mono ?_
  rintro e w2 ⟨rfl, f2⟩
  have kb := f2.at A3.out (by simp)
  have c0 : w2.cell? ⟨w1.heap.size, 0, none⟩ = some (.slice (some ⟨q, off, none⟩) (a.length - 8) c) := by rw [blk_cell kb]; rfl
  have c1 : w2.cell? ⟨w1.heap.size, 1, none⟩ = some (.int .u64 s) := by rw [blk_cell kb]; rfl
  have c2' : w2.cell? ⟨w1.heap.size, 2, none⟩ = some (.int .i64 k) := by rw [blk_cell kb]; rfl
  have hlt : w1.heap.size < w2.heap.size := blk_lt kb
  have F2 := hid (A1.out.trans f2)
  clear f2 kb A1 A2 A3
  go_wp2_with fail
  have A4 : Hid (Fr [] w (w2.alloc (.cells #[.slice (some ⟨q2, off2, none⟩) (b.length - 8) c2, .int .u64 t, .int .i64 l] 85))) := F2.out.alloc _
  refine (from_c _ (HU.out.fr A4.out) (HV.out.fr A4.out) (HA.out.take _) (HB.out.take _) s t k l).mono ?_
  rintro e w3 ⟨rfl, f3⟩
  have F3 := hid (A4.out.trans f3)
  clear f3 A4
  go_wp2
  go_ret2
  exact ⟨rfl, F3.out⟩
end Go.Proofs.Ytekcpecofclgiaa
