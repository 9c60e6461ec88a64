/-
  What find of package rlp answers where a length has bytes of its own; and so in general.
-/
import Derived.Test.YtbbaaegfbbjnjaaDoorFi2
namespace Go.Proofs.YtbbaaegfbbjnjaaDoor
open Go.ChangeShapes Go.WideShapes Go.ChangeAt Go.RowKit

theorem Rd.mid {w : World} {b off c : Nat} {ns : List Nat} (h : Rd w (.slice (some ⟨b, off, none⟩) ns.length c) (bv ns)) {i n : Nat} (hq : i + n ≤ ns.length) : Rd w (.slice (some ⟨b, off + i, none⟩) n (c - i)) (bv ((ns.drop i).take n)) := by
  rcases h with ⟨h, _⟩ | ⟨a, c', h, h4, h5⟩
  · cases h
  · simp only [Value.slice.injEq, Option.some.injEq] at h
    obtain ⟨rfl, _, rfl⟩ := h
    have hl : ((ns.drop i).take n).length = n := by rw [List.length_take, List.length_drop]; omega
    refine .inr ⟨_, _, by rw [bv_len, hl], by rw [bv_len] at h4 ⊢; rw [hl]; omega, fun j u hj => ?_⟩
    rw [bv_take, List.getElem?_take] at hj
    split at hj
    · rw [bv_drop, List.getElem?_drop] at hj
      have := h5 _ _ hj
      rw [Addr.add_lit] at this ⊢
      rw [Nat.add_assoc]; exact this
    · cases hj
theorem Rd.none_ {w : World} {a : Addr} {n c : Nat} {ns : List Nat} (h : ns.length = 0) (hn : n = 0) : Rd w (.slice (some a) n c) (bv ns) := by
  have : ns = [] := List.eq_nil_of_length_eq_zero h
  subst this
  subst hn
  exact .inr ⟨a, c, rfl, Nat.zero_le _, fun j u hj => by simp [bv] at hj⟩

set_option maxRecDepth 20000 in
set_option maxHeartbeats 800000 in
theorem find_l1 (w : World) {v : Value} {b : List Nat} (hr : Rd w v (bv b)) {x : Nat} (hx0 : b[0]? = some x) {l : Bool} {k : Nat} (hk1 : 1 ≤ k) (hk8 : k ≤ 8) (hs : b.length < 1 + k) (ho : Opens x l 1 k (55 + k)) (_hl : b.length ≤ 100000) :
    Calls Tryd.prog 38 #[v] w fun r w' => r = .returned (.tuple #[.agg #[.bool false, .int .i64 0, .int .i64 0], .int .i64 41]) ∧ Fr [] w w' := by
  have h0 : 0 < b.length := (List.getElem?_eq_some_iff.1 hx0).1
  obtain ⟨q, off, c, rfl, hc, hcell⟩ := hr.spot h0
  have c0 := hcell 0 x hx0
  rw [Nat.add_zero] at c0
  have f0 : Fr [] w (w.alloc (.cells #[.bool false, .int .i64 0, .int .i64 0] 77)) := (Fr.refl [] w).alloc _
  have c0' := cell_fr c0 f0
  have HO := hid ho
  have F0 := hid f0
  have HCE := hid hcell
  have HR := hid hr
  clear hr hcell c0 f0 ho
  go_enter Tryd.func38, Tryd.ntmps38
  go_wp2_with fail
  refine (HO.out _).mono ?_
  rintro r w1 ⟨rfl, f1⟩
  have F1 := hid (F0.out.trans f1)
  have hbk := f1.at (blk_new w (.cells #[.bool false, .int .i64 0, .int .i64 0] 77)) (by simp)
  have hd0 := blk_cell hbk 0
  have hd1 := blk_cell hbk 1
  have hd2 := blk_cell hbk 2
  have he0 := blk_frozen hbk 0
  have he1 := blk_frozen hbk 1
  have he2 := blk_frozen hbk 2
  simp at hd0 hd1 hd2
  have hlt : w.heap.size < w1.heap.size := blk_lt hbk
  have kA : ∀ A : Obj, (w1.alloc A).heap[w.heap.size]? = some (.cells #[.bool false, .int .i64 0, .int .i64 0] 77 (0, 0)) := fun A => by
    rw [blk_old _ _ hlt]; exact hbk
  have kB : ∀ A B : Obj, ((w1.alloc A).alloc B).heap[w.heap.size]? = some (.cells #[.bool false, .int .i64 0, .int .i64 0] 77 (0, 0)) := fun A B => by
    rw [blk_old _ _ (by simp; omega), blk_old _ _ hlt]; exact hbk
  have kA0 := fun A => blk_cell (kA A) 0
  have kA1 := fun A => blk_cell (kA A) 1
  have kA2 := fun A => blk_cell (kA A) 2
  have kF0 := fun A => blk_frozen (kA A) 0
  have kF1 := fun A => blk_frozen (kA A) 1
  have kF2 := fun A => blk_frozen (kA A) 2
  have jA0 := fun A B => blk_cell (kB A B) 0
  have jA1 := fun A B => blk_cell (kB A B) 1
  have jA2 := fun A B => blk_cell (kB A B) 2
  have jF0 := fun A B => blk_frozen (kB A B) 0
  have jF1 := fun A B => blk_frozen (kB A B) 1
  have jF2 := fun A B => blk_frozen (kB A B) 2
  simp at kA0 kA1 kA2 jA0 jA1 jA2
  have HBK := hid hbk
  clear f1 hbk kA kB
  go_wp2_with fail
  go_quiet (fail)
  go_wp2
  exact bodyPost_ret (ret_ct rfl rfl (load_part (fin_er HBK.out F1.out (Nat.le_refl _)).1)) rfl ⟨rfl, (fin_er HBK.out F1.out (Nat.le_refl _)).2⟩
set_option maxRecDepth 20000 in
set_option maxHeartbeats 800000 in
theorem find_l2 (w : World) {v : Value} {b : List Nat} (hr : Rd w v (bv b)) {x : Nat} (hx0 : b[0]? = some x) {l : Bool} {k n y : Nat} (hb : By b) (hk1 : 1 ≤ k) (hk8 : k ≤ 8) (hs : 1 + k ≤ b.length) (hy : b[1]? = some y) (hy2 : y < 256) (hn : n = big ((b.drop 1).take k)) (_hn2 : n < 18446744073709551616) (hy0 : y = 0) (ho : Opens x l 1 k (55 + k)) (hl : b.length ≤ 100000) :
    Calls Tryd.prog 38 #[v] w fun r w' => r = .returned (.tuple #[.agg #[.bool false, .int .i64 0, .int .i64 0], .int .i64 40]) ∧ Fr [] w w' := by
  have h0 : 0 < b.length := (List.getElem?_eq_some_iff.1 hx0).1
  obtain ⟨q, off, c, rfl, hc, hcell⟩ := hr.spot h0
  have c0 := hcell 0 x hx0
  rw [Nat.add_zero] at c0
  have f0 : Fr [] w (w.alloc (.cells #[.bool false, .int .i64 0, .int .i64 0] 77)) := (Fr.refl [] w).alloc _
  have c0' := cell_fr c0 f0
  have HO := hid ho
  have F0 := hid f0
  have HCE := hid hcell
  have HR := hid hr
  clear hr hcell c0 f0 ho
  go_enter Tryd.func38, Tryd.ntmps38
  go_wp2_with fail
  refine (HO.out _).mono ?_
  rintro r w1 ⟨rfl, f1⟩
  have F1 := hid (F0.out.trans f1)
  have hbk := f1.at (blk_new w (.cells #[.bool false, .int .i64 0, .int .i64 0] 77)) (by simp)
  have hd0 := blk_cell hbk 0
  have hd1 := blk_cell hbk 1
  have hd2 := blk_cell hbk 2
  have he0 := blk_frozen hbk 0
  have he1 := blk_frozen hbk 1
  have he2 := blk_frozen hbk 2
  simp at hd0 hd1 hd2
  have hlt : w.heap.size < w1.heap.size := blk_lt hbk
  have kA : ∀ A : Obj, (w1.alloc A).heap[w.heap.size]? = some (.cells #[.bool false, .int .i64 0, .int .i64 0] 77 (0, 0)) := fun A => by
    rw [blk_old _ _ hlt]; exact hbk
  have kB : ∀ A B : Obj, ((w1.alloc A).alloc B).heap[w.heap.size]? = some (.cells #[.bool false, .int .i64 0, .int .i64 0] 77 (0, 0)) := fun A B => by
    rw [blk_old _ _ (by simp; omega), blk_old _ _ hlt]; exact hbk
  have kA0 := fun A => blk_cell (kA A) 0
  have kA1 := fun A => blk_cell (kA A) 1
  have kA2 := fun A => blk_cell (kA A) 2
  have kF0 := fun A => blk_frozen (kA A) 0
  have kF1 := fun A => blk_frozen (kA A) 1
  have kF2 := fun A => blk_frozen (kA A) 2
  have jA0 := fun A B => blk_cell (kB A B) 0
  have jA1 := fun A B => blk_cell (kB A B) 1
  have jA2 := fun A B => blk_cell (kB A B) 2
  have jF0 := fun A B => blk_frozen (kB A B) 0
  have jF1 := fun A B => blk_frozen (kB A B) 1
  have jF2 := fun A B => blk_frozen (kB A B) 2
  simp at kA0 kA1 kA2 jA0 jA1 jA2
  have HBK := hid hbk
  clear f1 hbk kA kB
  have RM := hid (fun (A : Obj) (n : Nat) => (HR.out.mid (i := 1) (n := k) (by omega)).fr (((F1.out.alloc A).drewN n)))
  have HBY := hid ((hb.drop 1).take k)
  have hDl : ((b.drop 1).take k).length = k := by rw [List.length_take, List.length_drop]; omega
  have HDL := hid hDl
  have HN := hid hn
  have c1 := cell_fr (HCE.out 1 y hy) F1.out
  have c1A : ∀ A : Obj, (w1.alloc A).cell? ⟨q, off + 1, none⟩ = some (.int .u8 (y : Int)) := fun A => cell_fr c1 ((Fr.refl [] w1).alloc A)
  have c1B : ∀ A B : Obj, ((w1.alloc A).alloc B).cell? ⟨q, off + 1, none⟩ = some (.int .u8 (y : Int)) := fun A B => cell_fr (c1A A) ((Fr.refl [] _).alloc B)
  have c1C : ∀ (A B : Obj) (n : Nat), (((w1.alloc A).drewN n).alloc B).cell? ⟨q, off + 1, none⟩ = some (.int .u8 (y : Int)) := fun A B n => cell_fr (c1A A) (((Fr.refl [] _).drewN n).alloc B)
  clear hn hDl hb
  subst hy0
  go_wp2_with fail
  go_quiet (fail)
  go_wp2_with fail
  refine (number_c _ (RM.out _ _) HBY.out (by rw [HDL.out]; exact hk8)).mono ?_
  rintro r w2 ⟨rfl, rfl⟩
  rw [← HN.out]
  go_wp2
  exact bodyPost_ret (ret_ct rfl rfl (load_part (fin_er HBK.out F1.out (Nat.le_refl _)).1)) rfl ⟨rfl, (fin_er HBK.out F1.out (Nat.le_refl _)).2⟩
set_option maxRecDepth 20000 in
set_option maxHeartbeats 800000 in
theorem find_l3 (w : World) {v : Value} {b : List Nat} (hr : Rd w v (bv b)) {x : Nat} (hx0 : b[0]? = some x) {l : Bool} {k n y : Nat} (hb : By b) (hk1 : 1 ≤ k) (hk8 : k ≤ 8) (hs : 1 + k ≤ b.length) (hy : b[1]? = some y) (_hy2 : y < 256) (hn : n = big ((b.drop 1).take k)) (hn2 : n < 18446744073709551616) (hy0 : y ≠ 0) (hn3 : n ≤ 55 ∨ 2147483648 < n) (ho : Opens x l 1 k (55 + k)) (hl : b.length ≤ 100000) :
    Calls Tryd.prog 38 #[v] w fun r w' => r = .returned (.tuple #[.agg #[.bool false, .int .i64 0, .int .i64 0], .int .i64 40]) ∧ Fr [] w w' := by
  have h0 : 0 < b.length := (List.getElem?_eq_some_iff.1 hx0).1
  obtain ⟨q, off, c, rfl, hc, hcell⟩ := hr.spot h0
  have c0 := hcell 0 x hx0
  rw [Nat.add_zero] at c0
  have f0 : Fr [] w (w.alloc (.cells #[.bool false, .int .i64 0, .int .i64 0] 77)) := (Fr.refl [] w).alloc _
  have c0' := cell_fr c0 f0
  have HO := hid ho
  have F0 := hid f0
  have HCE := hid hcell
  have HR := hid hr
  clear hr hcell c0 f0 ho
  go_enter Tryd.func38, Tryd.ntmps38
  go_wp2_with fail
  refine (HO.out _).mono ?_
  rintro r w1 ⟨rfl, f1⟩
  have F1 := hid (F0.out.trans f1)
  have hbk := f1.at (blk_new w (.cells #[.bool false, .int .i64 0, .int .i64 0] 77)) (by simp)
  have hd0 := blk_cell hbk 0
  have hd1 := blk_cell hbk 1
  have hd2 := blk_cell hbk 2
  have he0 := blk_frozen hbk 0
  have he1 := blk_frozen hbk 1
  have he2 := blk_frozen hbk 2
  simp at hd0 hd1 hd2
  have hlt : w.heap.size < w1.heap.size := blk_lt hbk
  have kA : ∀ A : Obj, (w1.alloc A).heap[w.heap.size]? = some (.cells #[.bool false, .int .i64 0, .int .i64 0] 77 (0, 0)) := fun A => by
    rw [blk_old _ _ hlt]; exact hbk
  have kB : ∀ A B : Obj, ((w1.alloc A).alloc B).heap[w.heap.size]? = some (.cells #[.bool false, .int .i64 0, .int .i64 0] 77 (0, 0)) := fun A B => by
    rw [blk_old _ _ (by simp; omega), blk_old _ _ hlt]; exact hbk
  have kA0 := fun A => blk_cell (kA A) 0
  have kA1 := fun A => blk_cell (kA A) 1
  have kA2 := fun A => blk_cell (kA A) 2
  have kF0 := fun A => blk_frozen (kA A) 0
  have kF1 := fun A => blk_frozen (kA A) 1
  have kF2 := fun A => blk_frozen (kA A) 2
  have jA0 := fun A B => blk_cell (kB A B) 0
  have jA1 := fun A B => blk_cell (kB A B) 1
  have jA2 := fun A B => blk_cell (kB A B) 2
  have jF0 := fun A B => blk_frozen (kB A B) 0
  have jF1 := fun A B => blk_frozen (kB A B) 1
  have jF2 := fun A B => blk_frozen (kB A B) 2
  simp at kA0 kA1 kA2 jA0 jA1 jA2
  have HBK := hid hbk
  clear f1 hbk kA kB
  have RM := hid (fun (A : Obj) (n : Nat) => (HR.out.mid (i := 1) (n := k) (by omega)).fr (((F1.out.alloc A).drewN n)))
  have HBY := hid ((hb.drop 1).take k)
  have hDl : ((b.drop 1).take k).length = k := by rw [List.length_take, List.length_drop]; omega
  have HDL := hid hDl
  have HN := hid hn
  have c1 := cell_fr (HCE.out 1 y hy) F1.out
  have c1A : ∀ A : Obj, (w1.alloc A).cell? ⟨q, off + 1, none⟩ = some (.int .u8 (y : Int)) := fun A => cell_fr c1 ((Fr.refl [] w1).alloc A)
  have c1B : ∀ A B : Obj, ((w1.alloc A).alloc B).cell? ⟨q, off + 1, none⟩ = some (.int .u8 (y : Int)) := fun A B => cell_fr (c1A A) ((Fr.refl [] _).alloc B)
  have c1C : ∀ (A B : Obj) (n : Nat), (((w1.alloc A).drewN n).alloc B).cell? ⟨q, off + 1, none⟩ = some (.int .u8 (y : Int)) := fun A B n => cell_fr (c1A A) (((Fr.refl [] _).drewN n).alloc B)
  clear hn hDl hb
  have hz0 : ((y : Int) == 0) = false := beq_eq_false_iff_ne.2 (by omega)
  rcases hn3 with hn3 | hn3
  · go_wp2_with fail
    go_quiet (fail)
    go_wp2_with fail
    refine (number_c _ (RM.out _ _) HBY.out (by rw [HDL.out]; exact hk8)).mono ?_
    rintro r w2 ⟨rfl, rfl⟩
    rw [← HN.out]
    go_wp2
    exact bodyPost_ret (ret_ct rfl rfl (load_part (fin_er HBK.out F1.out (Nat.le_refl _)).1)) rfl ⟨rfl, (fin_er HBK.out F1.out (Nat.le_refl _)).2⟩
  · go_wp2_with fail
    go_quiet (fail)
    go_wp2_with fail
    refine (number_c _ (RM.out _ _) HBY.out (by rw [HDL.out]; exact hk8)).mono ?_
    rintro r w2 ⟨rfl, rfl⟩
    rw [← HN.out]
    go_wp2
    exact bodyPost_ret (ret_ct rfl rfl (load_part (fin_er HBK.out F1.out (Nat.le_refl _)).1)) rfl ⟨rfl, (fin_er HBK.out F1.out (Nat.le_refl _)).2⟩
set_option maxRecDepth 20000 in
set_option maxHeartbeats 800000 in
theorem find_l4 (w : World) {v : Value} {b : List Nat} (hr : Rd w v (bv b)) {x : Nat} (hx0 : b[0]? = some x) {l : Bool} {k n y : Nat} (hb : By b) (hk1 : 1 ≤ k) (hk8 : k ≤ 8) (hs : 1 + k ≤ b.length) (hy : b[1]? = some y) (_hy2 : y < 256) (hn : n = big ((b.drop 1).take k)) (hn2 : n < 18446744073709551616) (hy0 : y ≠ 0) (hn3 : 55 < n) (hn4 : n ≤ 2147483648) (hs2 : b.length < 1 + k + n) (ho : Opens x l 1 k (55 + k)) (hl : b.length ≤ 100000) :
    Calls Tryd.prog 38 #[v] w fun r w' => r = .returned (.tuple #[.agg #[.bool false, .int .i64 0, .int .i64 0], .int .i64 41]) ∧ Fr [] w w' := by
  have h0 : 0 < b.length := (List.getElem?_eq_some_iff.1 hx0).1
  obtain ⟨q, off, c, rfl, hc, hcell⟩ := hr.spot h0
  have c0 := hcell 0 x hx0
  rw [Nat.add_zero] at c0
  have f0 : Fr [] w (w.alloc (.cells #[.bool false, .int .i64 0, .int .i64 0] 77)) := (Fr.refl [] w).alloc _
  have c0' := cell_fr c0 f0
  have HO := hid ho
  have F0 := hid f0
  have HCE := hid hcell
  have HR := hid hr
  clear hr hcell c0 f0 ho
  go_enter Tryd.func38, Tryd.ntmps38
  go_wp2_with fail
  refine (HO.out _).mono ?_
  rintro r w1 ⟨rfl, f1⟩
  have F1 := hid (F0.out.trans f1)
  have hbk := f1.at (blk_new w (.cells #[.bool false, .int .i64 0, .int .i64 0] 77)) (by simp)
  have hd0 := blk_cell hbk 0
  have hd1 := blk_cell hbk 1
  have hd2 := blk_cell hbk 2
  have he0 := blk_frozen hbk 0
  have he1 := blk_frozen hbk 1
  have he2 := blk_frozen hbk 2
  simp at hd0 hd1 hd2
  have hlt : w.heap.size < w1.heap.size := blk_lt hbk
  have kA : ∀ A : Obj, (w1.alloc A).heap[w.heap.size]? = some (.cells #[.bool false, .int .i64 0, .int .i64 0] 77 (0, 0)) := fun A => by
    rw [blk_old _ _ hlt]; exact hbk
  have kB : ∀ A B : Obj, ((w1.alloc A).alloc B).heap[w.heap.size]? = some (.cells #[.bool false, .int .i64 0, .int .i64 0] 77 (0, 0)) := fun A B => by
    rw [blk_old _ _ (by simp; omega), blk_old _ _ hlt]; exact hbk
  have kA0 := fun A => blk_cell (kA A) 0
  have kA1 := fun A => blk_cell (kA A) 1
  have kA2 := fun A => blk_cell (kA A) 2
  have kF0 := fun A => blk_frozen (kA A) 0
  have kF1 := fun A => blk_frozen (kA A) 1
  have kF2 := fun A => blk_frozen (kA A) 2
  have jA0 := fun A B => blk_cell (kB A B) 0
  have jA1 := fun A B => blk_cell (kB A B) 1
  have jA2 := fun A B => blk_cell (kB A B) 2
  have jF0 := fun A B => blk_frozen (kB A B) 0
  have jF1 := fun A B => blk_frozen (kB A B) 1
  have jF2 := fun A B => blk_frozen (kB A B) 2
  simp at kA0 kA1 kA2 jA0 jA1 jA2
  have HBK := hid hbk
  clear f1 hbk kA kB
  have RM := hid (fun (A : Obj) (n : Nat) => (HR.out.mid (i := 1) (n := k) (by omega)).fr (((F1.out.alloc A).drewN n)))
  have HBY := hid ((hb.drop 1).take k)
  have hDl : ((b.drop 1).take k).length = k := by rw [List.length_take, List.length_drop]; omega
  have HDL := hid hDl
  have HN := hid hn
  have c1 := cell_fr (HCE.out 1 y hy) F1.out
  have c1A : ∀ A : Obj, (w1.alloc A).cell? ⟨q, off + 1, none⟩ = some (.int .u8 (y : Int)) := fun A => cell_fr c1 ((Fr.refl [] w1).alloc A)
  have c1B : ∀ A B : Obj, ((w1.alloc A).alloc B).cell? ⟨q, off + 1, none⟩ = some (.int .u8 (y : Int)) := fun A B => cell_fr (c1A A) ((Fr.refl [] _).alloc B)
  have c1C : ∀ (A B : Obj) (n : Nat), (((w1.alloc A).drewN n).alloc B).cell? ⟨q, off + 1, none⟩ = some (.int .u8 (y : Int)) := fun A B n => cell_fr (c1A A) (((Fr.refl [] _).drewN n).alloc B)
  clear hn hDl hb
  have hz0 : ((y : Int) == 0) = false := beq_eq_false_iff_ne.2 (by omega)
  go_wp2_with fail
  go_quiet (fail)
  go_wp2_with fail
  refine (number_c _ (RM.out _ _) HBY.out (by rw [HDL.out]; exact hk8)).mono ?_
  rintro r w2 ⟨rfl, rfl⟩
  rw [← HN.out]
  go_wp2
  exact bodyPost_ret (ret_ct rfl rfl (load_part (fin_er HBK.out F1.out (Nat.le_refl _)).1)) rfl ⟨rfl, (fin_er HBK.out F1.out (Nat.le_refl _)).2⟩
set_option maxRecDepth 20000 in
set_option maxHeartbeats 800000 in
theorem find_l5_false (w : World) {v : Value} {b : List Nat} (hr : Rd w v (bv b)) {x : Nat} (hx0 : b[0]? = some x) {k n y : Nat} (hb : By b) (hk1 : 1 ≤ k) (hk8 : k ≤ 8) (hs : 1 + k ≤ b.length) (hy : b[1]? = some y) (_hy2 : y < 256) (hn : n = big ((b.drop 1).take k)) (hn2 : n < 18446744073709551616) (hy0 : y ≠ 0) (hn3 : 55 < n) (hn4 : n ≤ 2147483648) (hs2 : 1 + k + n ≤ b.length) (ho : Opens x false 1 k (55 + k)) (hl : b.length ≤ 100000) :
    Calls Tryd.prog 38 #[v] w fun r w' => r = .returned (.tuple #[.agg #[.bool false, .int .i64 (1 + (k : Int)), .int .i64 (1 + (k : Int) + (n : Int))], .int .i64 0]) ∧ Fr [] w w' := by
  have h0 : 0 < b.length := (List.getElem?_eq_some_iff.1 hx0).1
  obtain ⟨q, off, c, rfl, hc, hcell⟩ := hr.spot h0
  have c0 := hcell 0 x hx0
  rw [Nat.add_zero] at c0
  have f0 : Fr [] w (w.alloc (.cells #[.bool false, .int .i64 0, .int .i64 0] 77)) := (Fr.refl [] w).alloc _
  have c0' := cell_fr c0 f0
  have HO := hid ho
  have F0 := hid f0
  have HCE := hid hcell
  have HR := hid hr
  clear hr hcell c0 f0 ho
  go_enter Tryd.func38, Tryd.ntmps38
  go_wp2_with fail
  refine (HO.out _).mono ?_
  rintro r w1 ⟨rfl, f1⟩
  have F1 := hid (F0.out.trans f1)
  have hbk := f1.at (blk_new w (.cells #[.bool false, .int .i64 0, .int .i64 0] 77)) (by simp)
  have hd0 := blk_cell hbk 0
  have hd1 := blk_cell hbk 1
  have hd2 := blk_cell hbk 2
  have he0 := blk_frozen hbk 0
  have he1 := blk_frozen hbk 1
  have he2 := blk_frozen hbk 2
  simp at hd0 hd1 hd2
  have hlt : w.heap.size < w1.heap.size := blk_lt hbk
  have kA : ∀ A : Obj, (w1.alloc A).heap[w.heap.size]? = some (.cells #[.bool false, .int .i64 0, .int .i64 0] 77 (0, 0)) := fun A => by
    rw [blk_old _ _ hlt]; exact hbk
  have kB : ∀ A B : Obj, ((w1.alloc A).alloc B).heap[w.heap.size]? = some (.cells #[.bool false, .int .i64 0, .int .i64 0] 77 (0, 0)) := fun A B => by
    rw [blk_old _ _ (by simp; omega), blk_old _ _ hlt]; exact hbk
  have kA0 := fun A => blk_cell (kA A) 0
  have kA1 := fun A => blk_cell (kA A) 1
  have kA2 := fun A => blk_cell (kA A) 2
  have kF0 := fun A => blk_frozen (kA A) 0
  have kF1 := fun A => blk_frozen (kA A) 1
  have kF2 := fun A => blk_frozen (kA A) 2
  have jA0 := fun A B => blk_cell (kB A B) 0
  have jA1 := fun A B => blk_cell (kB A B) 1
  have jA2 := fun A B => blk_cell (kB A B) 2
  have jF0 := fun A B => blk_frozen (kB A B) 0
  have jF1 := fun A B => blk_frozen (kB A B) 1
  have jF2 := fun A B => blk_frozen (kB A B) 2
  simp at kA0 kA1 kA2 jA0 jA1 jA2
  have HBK := hid hbk
  clear f1 hbk kA kB
  have RM := hid (fun (A : Obj) (n : Nat) => (HR.out.mid (i := 1) (n := k) (by omega)).fr (((F1.out.alloc A).drewN n)))
  have HBY := hid ((hb.drop 1).take k)
  have hDl : ((b.drop 1).take k).length = k := by rw [List.length_take, List.length_drop]; omega
  have HDL := hid hDl
  have HN := hid hn
  have c1 := cell_fr (HCE.out 1 y hy) F1.out
  have c1A : ∀ A : Obj, (w1.alloc A).cell? ⟨q, off + 1, none⟩ = some (.int .u8 (y : Int)) := fun A => cell_fr c1 ((Fr.refl [] w1).alloc A)
  have c1B : ∀ A B : Obj, ((w1.alloc A).alloc B).cell? ⟨q, off + 1, none⟩ = some (.int .u8 (y : Int)) := fun A B => cell_fr (c1A A) ((Fr.refl [] _).alloc B)
  have c1C : ∀ (A B : Obj) (n : Nat), (((w1.alloc A).drewN n).alloc B).cell? ⟨q, off + 1, none⟩ = some (.int .u8 (y : Int)) := fun A B n => cell_fr (c1A A) (((Fr.refl [] _).drewN n).alloc B)
  clear hn hDl hb
  have hz0 : ((y : Int) == 0) = false := beq_eq_false_iff_ne.2 (by omega)
  have hz : ((n : Int) == 1) = false := beq_eq_false_iff_ne.2 (by omega)
  go_wp2_with fail
  go_quiet (fail)
  go_wp2_with fail
  refine (number_c _ (RM.out _ _) HBY.out (by rw [HDL.out]; exact hk8)).mono ?_
  rintro r w2 ⟨rfl, rfl⟩
  rw [← HN.out]
  go_wp2
  exact bodyPost_ret (ret_ct rfl rfl (load_part (fin_ok HBK.out F1.out (Nat.le_refl _)).1)) rfl ⟨rfl, (fin_ok HBK.out F1.out (Nat.le_refl _)).2⟩
set_option maxRecDepth 20000 in
set_option maxHeartbeats 800000 in
theorem find_l5_true (w : World) {v : Value} {b : List Nat} (hr : Rd w v (bv b)) {x : Nat} (hx0 : b[0]? = some x) {k n y : Nat} (hb : By b) (hk1 : 1 ≤ k) (hk8 : k ≤ 8) (hs : 1 + k ≤ b.length) (hy : b[1]? = some y) (_hy2 : y < 256) (hn : n = big ((b.drop 1).take k)) (hn2 : n < 18446744073709551616) (hy0 : y ≠ 0) (hn3 : 55 < n) (hn4 : n ≤ 2147483648) (hs2 : 1 + k + n ≤ b.length) (ho : Opens x true 1 k (55 + k)) (hl : b.length ≤ 100000) :
    Calls Tryd.prog 38 #[v] w fun r w' => r = .returned (.tuple #[.agg #[.bool true, .int .i64 (1 + (k : Int)), .int .i64 (1 + (k : Int) + (n : Int))], .int .i64 0]) ∧ Fr [] w w' := by
  have h0 : 0 < b.length := (List.getElem?_eq_some_iff.1 hx0).1
  obtain ⟨q, off, c, rfl, hc, hcell⟩ := hr.spot h0
  have c0 := hcell 0 x hx0
  rw [Nat.add_zero] at c0
  have f0 : Fr [] w (w.alloc (.cells #[.bool false, .int .i64 0, .int .i64 0] 77)) := (Fr.refl [] w).alloc _
  have c0' := cell_fr c0 f0
  have HO := hid ho
  have F0 := hid f0
  have HCE := hid hcell
  have HR := hid hr
  clear hr hcell c0 f0 ho
  go_enter Tryd.func38, Tryd.ntmps38
  go_wp2_with fail
  refine (HO.out _).mono ?_
  rintro r w1 ⟨rfl, f1⟩
  have F1 := hid (F0.out.trans f1)
  have hbk := f1.at (blk_new w (.cells #[.bool false, .int .i64 0, .int .i64 0] 77)) (by simp)
  have hd0 := blk_cell hbk 0
  have hd1 := blk_cell hbk 1
  have hd2 := blk_cell hbk 2
  have he0 := blk_frozen hbk 0
  have he1 := blk_frozen hbk 1
  have he2 := blk_frozen hbk 2
  simp at hd0 hd1 hd2
  have hlt : w.heap.size < w1.heap.size := blk_lt hbk
  have kA : ∀ A : Obj, (w1.alloc A).heap[w.heap.size]? = some (.cells #[.bool false, .int .i64 0, .int .i64 0] 77 (0, 0)) := fun A => by
    rw [blk_old _ _ hlt]; exact hbk
  have kB : ∀ A B : Obj, ((w1.alloc A).alloc B).heap[w.heap.size]? = some (.cells #[.bool false, .int .i64 0, .int .i64 0] 77 (0, 0)) := fun A B => by
    rw [blk_old _ _ (by simp; omega), blk_old _ _ hlt]; exact hbk
  have kA0 := fun A => blk_cell (kA A) 0
  have kA1 := fun A => blk_cell (kA A) 1
  have kA2 := fun A => blk_cell (kA A) 2
  have kF0 := fun A => blk_frozen (kA A) 0
  have kF1 := fun A => blk_frozen (kA A) 1
  have kF2 := fun A => blk_frozen (kA A) 2
  have jA0 := fun A B => blk_cell (kB A B) 0
  have jA1 := fun A B => blk_cell (kB A B) 1
  have jA2 := fun A B => blk_cell (kB A B) 2
  have jF0 := fun A B => blk_frozen (kB A B) 0
  have jF1 := fun A B => blk_frozen (kB A B) 1
  have jF2 := fun A B => blk_frozen (kB A B) 2
  simp at kA0 kA1 kA2 jA0 jA1 jA2
  have HBK := hid hbk
  clear f1 hbk kA kB
  have RM := hid (fun (A : Obj) (n : Nat) => (HR.out.mid (i := 1) (n := k) (by omega)).fr (((F1.out.alloc A).drewN n)))
  have HBY := hid ((hb.drop 1).take k)
  have hDl : ((b.drop 1).take k).length = k := by rw [List.length_take, List.length_drop]; omega
  have HDL := hid hDl
  have HN := hid hn
  have c1 := cell_fr (HCE.out 1 y hy) F1.out
  have c1A : ∀ A : Obj, (w1.alloc A).cell? ⟨q, off + 1, none⟩ = some (.int .u8 (y : Int)) := fun A => cell_fr c1 ((Fr.refl [] w1).alloc A)
  have c1B : ∀ A B : Obj, ((w1.alloc A).alloc B).cell? ⟨q, off + 1, none⟩ = some (.int .u8 (y : Int)) := fun A B => cell_fr (c1A A) ((Fr.refl [] _).alloc B)
  have c1C : ∀ (A B : Obj) (n : Nat), (((w1.alloc A).drewN n).alloc B).cell? ⟨q, off + 1, none⟩ = some (.int .u8 (y : Int)) := fun A B n => cell_fr (c1A A) (((Fr.refl [] _).drewN n).alloc B)
  clear hn hDl hb
  have hz0 : ((y : Int) == 0) = false := beq_eq_false_iff_ne.2 (by omega)
  have hz : ((n : Int) == 1) = false := beq_eq_false_iff_ne.2 (by omega)
  go_wp2_with fail
  go_quiet (fail)
  go_wp2_with fail
  refine (number_c _ (RM.out _ _) HBY.out (by rw [HDL.out]; exact hk8)).mono ?_
  rintro r w2 ⟨rfl, rfl⟩
  rw [← HN.out]
  go_wp2
  exact bodyPost_ret (ret_ct rfl rfl (load_part (fin_ok HBK.out F1.out (Nat.le_refl _)).1)) rfl ⟨rfl, (fin_ok HBK.out F1.out (Nat.le_refl _)).2⟩
end Go.Proofs.YtbbaaegfbbjnjaaDoor
