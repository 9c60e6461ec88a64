/-
  What find of package rlp answers.
-/
import Derived.Test.YtbbaaegfbbjnjaaDoorJ08
namespace Go.Proofs.YtbbaaegfbbjnjaaDoor
open Go.ChangeShapes Go.WideShapes Go.ChangeAt Go.RowKit

/-- What find tells. -/
def Found (h : Except Nat (Bool × Nat × Nat)) (r : Ending) : Prop := match h with
  | .error k => r = .returned (.tuple #[.agg #[.bool false, .int .i64 0, .int .i64 0], .int .i64 (k : Int)])
  | .ok (l, s, e) => r = .returned (.tuple #[.agg #[.bool l, .int .i64 (s : Int), .int .i64 (e : Int)], .int .i64 0])

theorem Rd.spot {w : World} {v : Value} {b : List Nat} (hr : Rd w v (bv b)) (h0 : 0 < b.length) : ∃ q off c, v = .slice (some ⟨q, off, none⟩) b.length c ∧ b.length ≤ c ∧ ∀ (j n : Nat), b[j]? = some n → w.cell? ⟨q, off + j, none⟩ = some (.int .u8 (n : Int)) := by
  rcases hr.split with ⟨h, _⟩ | ⟨q, off, c, h1, h2, _, h4⟩
  · rw [h] at h0; simp at h0
  · exact ⟨q, off, c, h1, h2, h4⟩

theorem fin_er {w w1 : World} {A : Obj} {N n : Nat} {x y z a b c : Value} {T : TypeId} (h : w1.heap[N]? = some (.cells #[x, y, z] T (0, 0))) (hf : Fr [] w w1) (hN : w.heap.size ≤ N) :
    (((((w1.alloc A).drewN n).setCell ⟨N, 0, none⟩ a).setCell ⟨N, 1, none⟩ b).setCell ⟨N, 2, none⟩ c).heap[N]? = some (.cells #[a, b, c] T (0, 0)) ∧ Fr [] w (((((w1.alloc A).drewN n).setCell ⟨N, 0, none⟩ a).setCell ⟨N, 1, none⟩ b).setCell ⟨N, 2, none⟩ c) := by
  refine ⟨store3 (x := x) (y := y) (z := z) ?_, fr3 ((hf.alloc _).drewN _) hN _ _ _⟩
  rw [blk_drewN, blk_old _ _ (blk_lt h)]; exact h
theorem fin_ok {w w1 : World} {A B : Obj} {N n : Nat} {x y z a b c : Value} {T : TypeId} (h : w1.heap[N]? = some (.cells #[x, y, z] T (0, 0))) (hf : Fr [] w w1) (hN : w.heap.size ≤ N) :
    ((((((w1.alloc A).drewN n).setCell ⟨N, 0, none⟩ a).setCell ⟨N, 1, none⟩ b).setCell ⟨N, 2, none⟩ c).alloc B).heap[N]? = some (.cells #[a, b, c] T (0, 0)) ∧ Fr [] w ((((((w1.alloc A).drewN n).setCell ⟨N, 0, none⟩ a).setCell ⟨N, 1, none⟩ b).setCell ⟨N, 2, none⟩ c).alloc B) := by
  have k := fin_er (A := A) (n := n) (a := a) (b := b) (c := c) h hf hN
  refine ⟨?_, k.2.alloc _⟩
  rw [blk_old _ _ (blk_lt k.1)]; exact k.1

set_option maxRecDepth 20000 in
set_option maxHeartbeats 800000 in
theorem find_a (w : World) {v : Value} {b : List Nat} (hr : Rd w v (bv b)) {x : Nat} (hx0 : b[0]? = some x)  (ho : Opens x false 0 0 1) (hl : b.length ≤ 100000) :
    Calls Tryd.prog 38 #[v] w fun r w' => r = .returned (.tuple #[.agg #[.bool false, .int .i64 0, .int .i64 1], .int .i64 0]) ∧ Fr [] w w' := by
  have h0 : 0 < b.length := (List.getElem?_eq_some_iff.1 hx0).1
  obtain ⟨q, off, c, rfl, hc, hcell⟩ := hr.spot h0
  have c0 := hcell 0 x hx0
  rw [Nat.add_zero] at c0
  have f0 : Fr [] w (w.alloc (.cells #[.bool false, .int .i64 0, .int .i64 0] 77)) := (Fr.refl [] w).alloc _
  have c0' := cell_fr c0 f0
  have HO := hid ho
  have F0 := hid f0
  have HCE := hid hcell
  have HR := hid hr
  clear hr hcell c0 f0 ho
  go_enter Tryd.func38, Tryd.ntmps38
  go_wp2_with fail
  refine (HO.out _).mono ?_
  rintro r w1 ⟨rfl, f1⟩
  have F1 := hid (F0.out.trans f1)
  have hbk := f1.at (blk_new w (.cells #[.bool false, .int .i64 0, .int .i64 0] 77)) (by simp)
  have hd0 := blk_cell hbk 0
  have hd1 := blk_cell hbk 1
  have hd2 := blk_cell hbk 2
  have he0 := blk_frozen hbk 0
  have he1 := blk_frozen hbk 1
  have he2 := blk_frozen hbk 2
  simp at hd0 hd1 hd2
  have hlt : w.heap.size < w1.heap.size := blk_lt hbk
  have kA : ∀ A : Obj, (w1.alloc A).heap[w.heap.size]? = some (.cells #[.bool false, .int .i64 0, .int .i64 0] 77 (0, 0)) := fun A => by
    rw [blk_old _ _ hlt]; exact hbk
  have kB : ∀ A B : Obj, ((w1.alloc A).alloc B).heap[w.heap.size]? = some (.cells #[.bool false, .int .i64 0, .int .i64 0] 77 (0, 0)) := fun A B => by
    rw [blk_old _ _ (by simp; omega), blk_old _ _ hlt]; exact hbk
  have kA0 := fun A => blk_cell (kA A) 0
  have kA1 := fun A => blk_cell (kA A) 1
  have kA2 := fun A => blk_cell (kA A) 2
  have kF0 := fun A => blk_frozen (kA A) 0
  have kF1 := fun A => blk_frozen (kA A) 1
  have kF2 := fun A => blk_frozen (kA A) 2
  have jA0 := fun A B => blk_cell (kB A B) 0
  have jA1 := fun A B => blk_cell (kB A B) 1
  have jA2 := fun A B => blk_cell (kB A B) 2
  have jF0 := fun A B => blk_frozen (kB A B) 0
  have jF1 := fun A B => blk_frozen (kB A B) 1
  have jF2 := fun A B => blk_frozen (kB A B) 2
  simp at kA0 kA1 kA2 jA0 jA1 jA2
  have HBK := hid hbk
  clear f1 hbk kA kB
  go_wp2_with fail
  go_quiet (fail)
  go_wp2
  exact bodyPost_ret (ret_ct rfl rfl (load_part (fin_ok HBK.out F1.out (Nat.le_refl _)).1)) rfl ⟨rfl, (fin_ok HBK.out F1.out (Nat.le_refl _)).2⟩
set_option maxRecDepth 20000 in
set_option maxHeartbeats 800000 in
theorem find_s1_false (w : World) {v : Value} {b : List Nat} (hr : Rd w v (bv b)) {x : Nat} (hx0 : b[0]? = some x) {m : Nat} (hm : m ≤ 55) (hs : b.length < 1 + m) (ho : Opens x false 1 0 m) (hl : b.length ≤ 100000) :
    Calls Tryd.prog 38 #[v] w fun r w' => r = .returned (.tuple #[.agg #[.bool false, .int .i64 0, .int .i64 0], .int .i64 41]) ∧ Fr [] w w' := by
  have h0 : 0 < b.length := (List.getElem?_eq_some_iff.1 hx0).1
  obtain ⟨q, off, c, rfl, hc, hcell⟩ := hr.spot h0
  have c0 := hcell 0 x hx0
  rw [Nat.add_zero] at c0
  have f0 : Fr [] w (w.alloc (.cells #[.bool false, .int .i64 0, .int .i64 0] 77)) := (Fr.refl [] w).alloc _
  have c0' := cell_fr c0 f0
  have HO := hid ho
  have F0 := hid f0
  have HCE := hid hcell
  have HR := hid hr
  clear hr hcell c0 f0 ho
  go_enter Tryd.func38, Tryd.ntmps38
  go_wp2_with fail
  refine (HO.out _).mono ?_
  rintro r w1 ⟨rfl, f1⟩
  have F1 := hid (F0.out.trans f1)
  have hbk := f1.at (blk_new w (.cells #[.bool false, .int .i64 0, .int .i64 0] 77)) (by simp)
  have hd0 := blk_cell hbk 0
  have hd1 := blk_cell hbk 1
  have hd2 := blk_cell hbk 2
  have he0 := blk_frozen hbk 0
  have he1 := blk_frozen hbk 1
  have he2 := blk_frozen hbk 2
  simp at hd0 hd1 hd2
  have hlt : w.heap.size < w1.heap.size := blk_lt hbk
  have kA : ∀ A : Obj, (w1.alloc A).heap[w.heap.size]? = some (.cells #[.bool false, .int .i64 0, .int .i64 0] 77 (0, 0)) := fun A => by
    rw [blk_old _ _ hlt]; exact hbk
  have kB : ∀ A B : Obj, ((w1.alloc A).alloc B).heap[w.heap.size]? = some (.cells #[.bool false, .int .i64 0, .int .i64 0] 77 (0, 0)) := fun A B => by
    rw [blk_old _ _ (by simp; omega), blk_old _ _ hlt]; exact hbk
  have kA0 := fun A => blk_cell (kA A) 0
  have kA1 := fun A => blk_cell (kA A) 1
  have kA2 := fun A => blk_cell (kA A) 2
  have kF0 := fun A => blk_frozen (kA A) 0
  have kF1 := fun A => blk_frozen (kA A) 1
  have kF2 := fun A => blk_frozen (kA A) 2
  have jA0 := fun A B => blk_cell (kB A B) 0
  have jA1 := fun A B => blk_cell (kB A B) 1
  have jA2 := fun A B => blk_cell (kB A B) 2
  have jF0 := fun A B => blk_frozen (kB A B) 0
  have jF1 := fun A B => blk_frozen (kB A B) 1
  have jF2 := fun A B => blk_frozen (kB A B) 2
  simp at kA0 kA1 kA2 jA0 jA1 jA2
  have HBK := hid hbk
  clear f1 hbk kA kB
  go_wp2_with fail
  go_quiet (fail)
  go_wp2
  exact bodyPost_ret (ret_ct rfl rfl (load_part (fin_er HBK.out F1.out (Nat.le_refl _)).1)) rfl ⟨rfl, (fin_er HBK.out F1.out (Nat.le_refl _)).2⟩
set_option maxRecDepth 20000 in
set_option maxHeartbeats 800000 in
theorem find_s1_true (w : World) {v : Value} {b : List Nat} (hr : Rd w v (bv b)) {x : Nat} (hx0 : b[0]? = some x) {m : Nat} (hm : m ≤ 55) (hs : b.length < 1 + m) (ho : Opens x true 1 0 m) (hl : b.length ≤ 100000) :
    Calls Tryd.prog 38 #[v] w fun r w' => r = .returned (.tuple #[.agg #[.bool false, .int .i64 0, .int .i64 0], .int .i64 41]) ∧ Fr [] w w' := by
  have h0 : 0 < b.length := (List.getElem?_eq_some_iff.1 hx0).1
  obtain ⟨q, off, c, rfl, hc, hcell⟩ := hr.spot h0
  have c0 := hcell 0 x hx0
  rw [Nat.add_zero] at c0
  have f0 : Fr [] w (w.alloc (.cells #[.bool false, .int .i64 0, .int .i64 0] 77)) := (Fr.refl [] w).alloc _
  have c0' := cell_fr c0 f0
  have HO := hid ho
  have F0 := hid f0
  have HCE := hid hcell
  have HR := hid hr
  clear hr hcell c0 f0 ho
  go_enter Tryd.func38, Tryd.ntmps38
  go_wp2_with fail
  refine (HO.out _).mono ?_
  rintro r w1 ⟨rfl, f1⟩
  have F1 := hid (F0.out.trans f1)
  have hbk := f1.at (blk_new w (.cells #[.bool false, .int .i64 0, .int .i64 0] 77)) (by simp)
  have hd0 := blk_cell hbk 0
  have hd1 := blk_cell hbk 1
  have hd2 := blk_cell hbk 2
  have he0 := blk_frozen hbk 0
  have he1 := blk_frozen hbk 1
  have he2 := blk_frozen hbk 2
  simp at hd0 hd1 hd2
  have hlt : w.heap.size < w1.heap.size := blk_lt hbk
  have kA : ∀ A : Obj, (w1.alloc A).heap[w.heap.size]? = some (.cells #[.bool false, .int .i64 0, .int .i64 0] 77 (0, 0)) := fun A => by
    rw [blk_old _ _ hlt]; exact hbk
  have kB : ∀ A B : Obj, ((w1.alloc A).alloc B).heap[w.heap.size]? = some (.cells #[.bool false, .int .i64 0, .int .i64 0] 77 (0, 0)) := fun A B => by
    rw [blk_old _ _ (by simp; omega), blk_old _ _ hlt]; exact hbk
  have kA0 := fun A => blk_cell (kA A) 0
  have kA1 := fun A => blk_cell (kA A) 1
  have kA2 := fun A => blk_cell (kA A) 2
  have kF0 := fun A => blk_frozen (kA A) 0
  have kF1 := fun A => blk_frozen (kA A) 1
  have kF2 := fun A => blk_frozen (kA A) 2
  have jA0 := fun A B => blk_cell (kB A B) 0
  have jA1 := fun A B => blk_cell (kB A B) 1
  have jA2 := fun A B => blk_cell (kB A B) 2
  have jF0 := fun A B => blk_frozen (kB A B) 0
  have jF1 := fun A B => blk_frozen (kB A B) 1
  have jF2 := fun A B => blk_frozen (kB A B) 2
  simp at kA0 kA1 kA2 jA0 jA1 jA2
  have HBK := hid hbk
  clear f1 hbk kA kB
  go_wp2_with fail
  go_quiet (fail)
  go_wp2
  exact bodyPost_ret (ret_ct rfl rfl (load_part (fin_er HBK.out F1.out (Nat.le_refl _)).1)) rfl ⟨rfl, (fin_er HBK.out F1.out (Nat.le_refl _)).2⟩
set_option maxRecDepth 20000 in
set_option maxHeartbeats 800000 in
theorem find_s2 (w : World) {v : Value} {b : List Nat} (hr : Rd w v (bv b)) {x : Nat} (hx0 : b[0]? = some x) {y : Nat} (hy : b[1]? = some y) (hy1 : y < 128) (hs : 2 ≤ b.length) (ho : Opens x false 1 0 1) (hl : b.length ≤ 100000) :
    Calls Tryd.prog 38 #[v] w fun r w' => r = .returned (.tuple #[.agg #[.bool false, .int .i64 0, .int .i64 0], .int .i64 40]) ∧ Fr [] w w' := by
  have h0 : 0 < b.length := (List.getElem?_eq_some_iff.1 hx0).1
  obtain ⟨q, off, c, rfl, hc, hcell⟩ := hr.spot h0
  have c0 := hcell 0 x hx0
  rw [Nat.add_zero] at c0
  have f0 : Fr [] w (w.alloc (.cells #[.bool false, .int .i64 0, .int .i64 0] 77)) := (Fr.refl [] w).alloc _
  have c0' := cell_fr c0 f0
  have HO := hid ho
  have F0 := hid f0
  have HCE := hid hcell
  have HR := hid hr
  clear hr hcell c0 f0 ho
  go_enter Tryd.func38, Tryd.ntmps38
  go_wp2_with fail
  refine (HO.out _).mono ?_
  rintro r w1 ⟨rfl, f1⟩
  have F1 := hid (F0.out.trans f1)
  have hbk := f1.at (blk_new w (.cells #[.bool false, .int .i64 0, .int .i64 0] 77)) (by simp)
  have hd0 := blk_cell hbk 0
  have hd1 := blk_cell hbk 1
  have hd2 := blk_cell hbk 2
  have he0 := blk_frozen hbk 0
  have he1 := blk_frozen hbk 1
  have he2 := blk_frozen hbk 2
  simp at hd0 hd1 hd2
  have hlt : w.heap.size < w1.heap.size := blk_lt hbk
  have kA : ∀ A : Obj, (w1.alloc A).heap[w.heap.size]? = some (.cells #[.bool false, .int .i64 0, .int .i64 0] 77 (0, 0)) := fun A => by
    rw [blk_old _ _ hlt]; exact hbk
  have kB : ∀ A B : Obj, ((w1.alloc A).alloc B).heap[w.heap.size]? = some (.cells #[.bool false, .int .i64 0, .int .i64 0] 77 (0, 0)) := fun A B => by
    rw [blk_old _ _ (by simp; omega), blk_old _ _ hlt]; exact hbk
  have kA0 := fun A => blk_cell (kA A) 0
  have kA1 := fun A => blk_cell (kA A) 1
  have kA2 := fun A => blk_cell (kA A) 2
  have kF0 := fun A => blk_frozen (kA A) 0
  have kF1 := fun A => blk_frozen (kA A) 1
  have kF2 := fun A => blk_frozen (kA A) 2
  have jA0 := fun A B => blk_cell (kB A B) 0
  have jA1 := fun A B => blk_cell (kB A B) 1
  have jA2 := fun A B => blk_cell (kB A B) 2
  have jF0 := fun A B => blk_frozen (kB A B) 0
  have jF1 := fun A B => blk_frozen (kB A B) 1
  have jF2 := fun A B => blk_frozen (kB A B) 2
  simp at kA0 kA1 kA2 jA0 jA1 jA2
  have HBK := hid hbk
  clear f1 hbk kA kB
  have c1 := cell_fr (HCE.out 1 y hy) F1.out
  have c1A : ∀ A : Obj, (w1.alloc A).cell? ⟨q, off + 1, none⟩ = some (.int .u8 (y : Int)) := fun A => cell_fr c1 ((Fr.refl [] w1).alloc A)
  have c1B : ∀ A B : Obj, ((w1.alloc A).alloc B).cell? ⟨q, off + 1, none⟩ = some (.int .u8 (y : Int)) := fun A B => cell_fr (c1A A) ((Fr.refl [] _).alloc B)
  have c1C : ∀ (A B : Obj) (n : Nat), (((w1.alloc A).drewN n).alloc B).cell? ⟨q, off + 1, none⟩ = some (.int .u8 (y : Int)) := fun A B n => cell_fr (c1A A) (((Fr.refl [] _).drewN n).alloc B)
  go_wp2_with fail
  go_quiet (fail)
  go_wp2
  exact bodyPost_ret (ret_ct rfl rfl (load_part (fin_ok HBK.out F1.out (Nat.le_refl _)).1)) rfl ⟨rfl, (fin_ok HBK.out F1.out (Nat.le_refl _)).2⟩
set_option maxRecDepth 20000 in
set_option maxHeartbeats 800000 in
theorem find_s3 (w : World) {v : Value} {b : List Nat} (hr : Rd w v (bv b)) {x : Nat} (hx0 : b[0]? = some x) {y : Nat} (hy : b[1]? = some y) (hy1 : 128 ≤ y) (hs : 2 ≤ b.length) (ho : Opens x false 1 0 1) (hl : b.length ≤ 100000) :
    Calls Tryd.prog 38 #[v] w fun r w' => r = .returned (.tuple #[.agg #[.bool false, .int .i64 1, .int .i64 2], .int .i64 0]) ∧ Fr [] w w' := by
  have h0 : 0 < b.length := (List.getElem?_eq_some_iff.1 hx0).1
  obtain ⟨q, off, c, rfl, hc, hcell⟩ := hr.spot h0
  have c0 := hcell 0 x hx0
  rw [Nat.add_zero] at c0
  have f0 : Fr [] w (w.alloc (.cells #[.bool false, .int .i64 0, .int .i64 0] 77)) := (Fr.refl [] w).alloc _
  have c0' := cell_fr c0 f0
  have HO := hid ho
  have F0 := hid f0
  have HCE := hid hcell
  have HR := hid hr
  clear hr hcell c0 f0 ho
  go_enter Tryd.func38, Tryd.ntmps38
  go_wp2_with fail
  refine (HO.out _).mono ?_
  rintro r w1 ⟨rfl, f1⟩
  have F1 := hid (F0.out.trans f1)
  have hbk := f1.at (blk_new w (.cells #[.bool false, .int .i64 0, .int .i64 0] 77)) (by simp)
  have hd0 := blk_cell hbk 0
  have hd1 := blk_cell hbk 1
  have hd2 := blk_cell hbk 2
  have he0 := blk_frozen hbk 0
  have he1 := blk_frozen hbk 1
  have he2 := blk_frozen hbk 2
  simp at hd0 hd1 hd2
  have hlt : w.heap.size < w1.heap.size := blk_lt hbk
  have kA : ∀ A : Obj, (w1.alloc A).heap[w.heap.size]? = some (.cells #[.bool false, .int .i64 0, .int .i64 0] 77 (0, 0)) := fun A => by
    rw [blk_old _ _ hlt]; exact hbk
  have kB : ∀ A B : Obj, ((w1.alloc A).alloc B).heap[w.heap.size]? = some (.cells #[.bool false, .int .i64 0, .int .i64 0] 77 (0, 0)) := fun A B => by
    rw [blk_old _ _ (by simp; omega), blk_old _ _ hlt]; exact hbk
  have kA0 := fun A => blk_cell (kA A) 0
  have kA1 := fun A => blk_cell (kA A) 1
  have kA2 := fun A => blk_cell (kA A) 2
  have kF0 := fun A => blk_frozen (kA A) 0
  have kF1 := fun A => blk_frozen (kA A) 1
  have kF2 := fun A => blk_frozen (kA A) 2
  have jA0 := fun A B => blk_cell (kB A B) 0
  have jA1 := fun A B => blk_cell (kB A B) 1
  have jA2 := fun A B => blk_cell (kB A B) 2
  have jF0 := fun A B => blk_frozen (kB A B) 0
  have jF1 := fun A B => blk_frozen (kB A B) 1
  have jF2 := fun A B => blk_frozen (kB A B) 2
  simp at kA0 kA1 kA2 jA0 jA1 jA2
  have HBK := hid hbk
  clear f1 hbk kA kB
  have c1 := cell_fr (HCE.out 1 y hy) F1.out
  have c1A : ∀ A : Obj, (w1.alloc A).cell? ⟨q, off + 1, none⟩ = some (.int .u8 (y : Int)) := fun A => cell_fr c1 ((Fr.refl [] w1).alloc A)
  have c1B : ∀ A B : Obj, ((w1.alloc A).alloc B).cell? ⟨q, off + 1, none⟩ = some (.int .u8 (y : Int)) := fun A B => cell_fr (c1A A) ((Fr.refl [] _).alloc B)
  have c1C : ∀ (A B : Obj) (n : Nat), (((w1.alloc A).drewN n).alloc B).cell? ⟨q, off + 1, none⟩ = some (.int .u8 (y : Int)) := fun A B n => cell_fr (c1A A) (((Fr.refl [] _).drewN n).alloc B)
  go_wp2_with fail
  go_quiet (fail)
  go_wp2
  exact bodyPost_ret (ret_ct rfl rfl (load_part (fin_ok HBK.out F1.out (Nat.le_refl _)).1)) rfl ⟨rfl, (fin_ok HBK.out F1.out (Nat.le_refl _)).2⟩
set_option maxRecDepth 20000 in
set_option maxHeartbeats 800000 in
theorem find_s4 (w : World) {v : Value} {b : List Nat} (hr : Rd w v (bv b)) {x : Nat} (hx0 : b[0]? = some x) {m : Nat} (hm : m ≤ 55) (hm1 : m ≠ 1) (hs : 1 + m ≤ b.length) (ho : Opens x false 1 0 m) (hl : b.length ≤ 100000) :
    Calls Tryd.prog 38 #[v] w fun r w' => r = .returned (.tuple #[.agg #[.bool false, .int .i64 1, .int .i64 (1 + (m : Int))], .int .i64 0]) ∧ Fr [] w w' := by
  have h0 : 0 < b.length := (List.getElem?_eq_some_iff.1 hx0).1
  obtain ⟨q, off, c, rfl, hc, hcell⟩ := hr.spot h0
  have c0 := hcell 0 x hx0
  rw [Nat.add_zero] at c0
  have f0 : Fr [] w (w.alloc (.cells #[.bool false, .int .i64 0, .int .i64 0] 77)) := (Fr.refl [] w).alloc _
  have c0' := cell_fr c0 f0
  have HO := hid ho
  have F0 := hid f0
  have HCE := hid hcell
  have HR := hid hr
  clear hr hcell c0 f0 ho
  go_enter Tryd.func38, Tryd.ntmps38
  go_wp2_with fail
  refine (HO.out _).mono ?_
  rintro r w1 ⟨rfl, f1⟩
  have F1 := hid (F0.out.trans f1)
  have hbk := f1.at (blk_new w (.cells #[.bool false, .int .i64 0, .int .i64 0] 77)) (by simp)
  have hd0 := blk_cell hbk 0
  have hd1 := blk_cell hbk 1
  have hd2 := blk_cell hbk 2
  have he0 := blk_frozen hbk 0
  have he1 := blk_frozen hbk 1
  have he2 := blk_frozen hbk 2
  simp at hd0 hd1 hd2
  have hlt : w.heap.size < w1.heap.size := blk_lt hbk
  have kA : ∀ A : Obj, (w1.alloc A).heap[w.heap.size]? = some (.cells #[.bool false, .int .i64 0, .int .i64 0] 77 (0, 0)) := fun A => by
    rw [blk_old _ _ hlt]; exact hbk
  have kB : ∀ A B : Obj, ((w1.alloc A).alloc B).heap[w.heap.size]? = some (.cells #[.bool false, .int .i64 0, .int .i64 0] 77 (0, 0)) := fun A B => by
    rw [blk_old _ _ (by simp; omega), blk_old _ _ hlt]; exact hbk
  have kA0 := fun A => blk_cell (kA A) 0
  have kA1 := fun A => blk_cell (kA A) 1
  have kA2 := fun A => blk_cell (kA A) 2
  have kF0 := fun A => blk_frozen (kA A) 0
  have kF1 := fun A => blk_frozen (kA A) 1
  have kF2 := fun A => blk_frozen (kA A) 2
  have jA0 := fun A B => blk_cell (kB A B) 0
  have jA1 := fun A B => blk_cell (kB A B) 1
  have jA2 := fun A B => blk_cell (kB A B) 2
  have jF0 := fun A B => blk_frozen (kB A B) 0
  have jF1 := fun A B => blk_frozen (kB A B) 1
  have jF2 := fun A B => blk_frozen (kB A B) 2
  simp at kA0 kA1 kA2 jA0 jA1 jA2
  have HBK := hid hbk
  clear f1 hbk kA kB
  have hz : ((m : Int) == 1) = false := beq_eq_false_iff_ne.2 (by omega)
  go_wp2_with fail
  go_quiet (fail)
  go_wp2
  exact bodyPost_ret (ret_ct rfl rfl (load_part (fin_ok HBK.out F1.out (Nat.le_refl _)).1)) rfl ⟨rfl, (fin_ok HBK.out F1.out (Nat.le_refl _)).2⟩
set_option maxRecDepth 20000 in
set_option maxHeartbeats 800000 in
theorem find_s5 (w : World) {v : Value} {b : List Nat} (hr : Rd w v (bv b)) {x : Nat} (hx0 : b[0]? = some x) {m : Nat} (hm : m ≤ 55) (hs : 1 + m ≤ b.length) (ho : Opens x true 1 0 m) (hl : b.length ≤ 100000) :
    Calls Tryd.prog 38 #[v] w fun r w' => r = .returned (.tuple #[.agg #[.bool true, .int .i64 1, .int .i64 (1 + (m : Int))], .int .i64 0]) ∧ Fr [] w w' := by
  have h0 : 0 < b.length := (List.getElem?_eq_some_iff.1 hx0).1
  obtain ⟨q, off, c, rfl, hc, hcell⟩ := hr.spot h0
  have c0 := hcell 0 x hx0
  rw [Nat.add_zero] at c0
  have f0 : Fr [] w (w.alloc (.cells #[.bool false, .int .i64 0, .int .i64 0] 77)) := (Fr.refl [] w).alloc _
  have c0' := cell_fr c0 f0
  have HO := hid ho
  have F0 := hid f0
  have HCE := hid hcell
  have HR := hid hr
  clear hr hcell c0 f0 ho
  go_enter Tryd.func38, Tryd.ntmps38
  go_wp2_with fail
  refine (HO.out _).mono ?_
  rintro r w1 ⟨rfl, f1⟩
  have F1 := hid (F0.out.trans f1)
  have hbk := f1.at (blk_new w (.cells #[.bool false, .int .i64 0, .int .i64 0] 77)) (by simp)
  have hd0 := blk_cell hbk 0
  have hd1 := blk_cell hbk 1
  have hd2 := blk_cell hbk 2
  have he0 := blk_frozen hbk 0
  have he1 := blk_frozen hbk 1
  have he2 := blk_frozen hbk 2
  simp at hd0 hd1 hd2
  have hlt : w.heap.size < w1.heap.size := blk_lt hbk
  have kA : ∀ A : Obj, (w1.alloc A).heap[w.heap.size]? = some (.cells #[.bool false, .int .i64 0, .int .i64 0] 77 (0, 0)) := fun A => by
    rw [blk_old _ _ hlt]; exact hbk
  have kB : ∀ A B : Obj, ((w1.alloc A).alloc B).heap[w.heap.size]? = some (.cells #[.bool false, .int .i64 0, .int .i64 0] 77 (0, 0)) := fun A B => by
    rw [blk_old _ _ (by simp; omega), blk_old _ _ hlt]; exact hbk
  have kA0 := fun A => blk_cell (kA A) 0
  have kA1 := fun A => blk_cell (kA A) 1
  have kA2 := fun A => blk_cell (kA A) 2
  have kF0 := fun A => blk_frozen (kA A) 0
  have kF1 := fun A => blk_frozen (kA A) 1
  have kF2 := fun A => blk_frozen (kA A) 2
  have jA0 := fun A B => blk_cell (kB A B) 0
  have jA1 := fun A B => blk_cell (kB A B) 1
  have jA2 := fun A B => blk_cell (kB A B) 2
  have jF0 := fun A B => blk_frozen (kB A B) 0
  have jF1 := fun A B => blk_frozen (kB A B) 1
  have jF2 := fun A B => blk_frozen (kB A B) 2
  simp at kA0 kA1 kA2 jA0 jA1 jA2
  have HBK := hid hbk
  clear f1 hbk kA kB
  go_wp2_with fail
  go_quiet (fail)
  go_wp2
  exact bodyPost_ret (ret_ct rfl rfl (load_part (fin_ok HBK.out F1.out (Nat.le_refl _)).1)) rfl ⟨rfl, (fin_ok HBK.out F1.out (Nat.le_refl _)).2⟩
end Go.Proofs.YtbbaaegfbbjnjaaDoor
