/-
  What First and Decode of package rlp answer, once it is known what the closure in First does.
-/
import Derived.Test.YtbpnnchapfpamaaRe1
import Derived.Laws.EntriesVeiled
namespace Go.Proofs.Ytbpnnchapfpamaa
open Go.ChangeShapes Go.WideShapes Go.ChangeAt Go.RowKit

/-- What First tells. -/
def FirstT (B : Nat) (res : Except Nat (Tr 19 × Nat × Nat)) (r : Ending) (w' : World) : Prop := match res with
  | .error e => r = .returned (.tuple #[.agg #[.bool false, .slice none 0 0, .slice none 0 0], .int .i64 0, .int .i64 (e : Int)])
  | .ok (t, k, _) => ∃ v, r = .returned (.tuple #[v, .int .i64 (k : Int), .int .i64 0]) ∧ IsF w' B w'.heap.size 19 v t
/-- What the closure does with these bytes. -/
def Reads (w : World) (v : Value) (res : Except Nat (Tr 19 × Nat × Nat)) : Prop := ∀ (w1 : World) (T g e k : Nat), Clo w1 26 T g e k 0 → Fr [] w w1 → w.heap.size ≤ g →
  Calls Try.prog 26 #[v, .int .i64 1, .pointer (some ⟨e, 0, none⟩), .pointer (some ⟨k, 0, none⟩)] w1 fun r w' => ReadT w1.heap.size 16 res g r w' ∧ Fr [g] w1 w'

set_option maxRecDepth 20000 in
set_option maxHeartbeats 400000 in
theorem first_long (w : World) {ao : Option Addr} {n c : Nat} (hn : 65536 < n) (hn2 : n ≤ 140737488355328) : Calls Try.prog 15 #[.slice ao n c] w fun r w' => FirstT w.heap.size (.error 44) r w' ∧ Fr [] w w' := by
  unfold FirstT
  go_enter Try.func15, Try.ntmps15
  go_wp2
  go_returns
  exact ⟨rfl, (Fr.refl _ _).alloc _⟩
set_option maxRecDepth 20000 in
set_option maxHeartbeats 400000 in
theorem first_none (w : World) {ao : Option Addr} {c : Nat} : Calls Try.prog 15 #[.slice ao 0 c] w fun r w' => FirstT w.heap.size (.error 41) r w' ∧ Fr [] w w' := by
  unfold FirstT
  go_enter Try.func15, Try.ntmps15
  go_wp2
  go_returns
  exact ⟨rfl, (Fr.refl _ _).alloc _⟩

theorem blk_4 (w : World) (I A B C : Obj) : ((((w.alloc I).alloc A).alloc B).alloc C).heap[w.heap.size]? = some I := by
  rw [blk_old _ _ (by simp; omega), blk_old _ _ (by simp; omega), blk_old _ _ (by simp)]; exact blk_new _ _

set_option maxRecDepth 20000 in
set_option maxHeartbeats 800000 in
theorem first_at (w : World) {ao : Option Addr} {n c : Nat} {res : Except Nat (Tr 19 × Nat × Nat)} (h : Reads w (.slice ao n c) res) (h0 : 0 < n) (hn : n ≤ 65536) : Calls Try.prog 15 #[.slice ao n c] w fun r w' => FirstT w.heap.size res r w' ∧ Fr [] w w' := by
  have hmf : ∀ (fn : Fn) (first cap : Array Value) (w : World), (Instr.makeFunc fn first cap).run Try.prog w = .ok (.func fn first cap) w := fun _ _ _ _ => rfl
  have hz : ((n : Int) == 0) = false := beq_eq_false_iff_ne.2 (by omega)
  have HH := hid h
  clear h
  rcases res with x | ⟨t, k, c'⟩
  all_goals unfold FirstT
  all_goals go_enter Try.func15, Try.ntmps15
  all_goals go_wp2_with fail
  all_goals refine (gate_c _).mono ?_
  all_goals rintro r w1 ⟨rfl, rfl⟩
  all_goals go_wp2_with fail
  all_goals refine (HH.out _ _ (w.heap.size + 1) _ _ (clo_new _ _ _ (by simp)) (((((Fr.refl [] w).alloc _).alloc _).alloc _).alloc _) (by omega)).mono ?_
  · rintro r w1 ⟨hT, f1⟩
    obtain rfl : r = _ := hT
    have hbk := f1.at (blk_4 w _ _ _ _) (by simp)
    have F1 : Hid (Fr [] w w1) := ((((((Fr.refl [] w).alloc _).alloc _).alloc _).alloc _).mono (S' := [w.heap.size + 1]) (by simp)).trans f1 |>.shed (fun x hx hlt => by simp at hx; omega)
    have hd0 := blk_cell hbk 0
    have hd1 := blk_cell hbk 1
    have hd2 := blk_cell hbk 2
    have hf0 := blk_frozen hbk 0
    have hf1 := blk_frozen hbk 1
    have hf2 := blk_frozen hbk 2
    simp at hd0 hd1 hd2
    have HBK := hid hbk
    clear f1 hbk
    go_wp2
    have K := fin_z (a := .bool false) (b := .slice none 0 0) (c := .slice none 0 0) HBK.out F1.out (Nat.le_refl _)
    exact bodyPost_ret (ret_ctt rfl rfl (load_item K.1)) rfl ⟨rfl, K.2⟩
  · rintro r w1 ⟨⟨v, rfl, hv, hgc⟩, f1⟩
    obtain ⟨l, a1, n1, c1, a2, n2, c2, rfl⟩ := hv.isV.agg
    have hbk := f1.at (blk_4 w _ _ _ _) (by simp)
    have F1 : Hid (Fr [] w w1) := ((((((Fr.refl [] w).alloc _).alloc _).alloc _).alloc _).mono (S' := [w.heap.size + 1]) (by simp)).trans f1 |>.shed (fun x hx hlt => by simp at hx; omega)
    have hd0 := blk_cell hbk 0
    have hd1 := blk_cell hbk 1
    have hd2 := blk_cell hbk 2
    have hf0 := blk_frozen hbk 0
    have hf1 := blk_frozen hbk 1
    have hf2 := blk_frozen hbk 2
    simp at hd0 hd1 hd2
    have HBK := hid hbk
    have HV := hid hv
    clear f1 hbk hv hgc
    go_wp2
    have K := fin_z (a := .bool l) (b := .slice a1 n1 c1) (c := .slice a2 n2 c2) HBK.out F1.out (Nat.le_refl _)
    refine bodyPost_ret (ret_ctt rfl rfl (load_item K.1)) rfl ⟨⟨_, rfl, ?_⟩, K.2⟩
    have hsz : ((((w1.setCell ⟨w.heap.size, 0, none⟩ (.bool l)).setCell ⟨w.heap.size, 1, none⟩ (.slice a1 n1 c1)).setCell ⟨w.heap.size, 2, none⟩ (.slice a2 n2 c2))).heap.size = w1.heap.size := by simp [World.setCell]
    rw [hsz]
    refine (HV.out.step fun k hk _ => ?_).wide (by simp; omega) (Nat.le_refl _)
    simp at hk
    rw [blk_setne _ _ _ (by omega), blk_setne _ _ _ (by omega), blk_setne _ _ _ (by omega)]
end Go.Proofs.Ytbpnnchapfpamaa
