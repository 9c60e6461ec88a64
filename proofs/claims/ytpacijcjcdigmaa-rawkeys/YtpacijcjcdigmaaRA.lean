/-
  Keys: arrays of bytes by value, copied together, and handed back as slices.
-/
import Derived.Test.YtpacijcjcdigmaaRo
import Derived.Test.YtpacijcjcdigmaaJ03
import Derived.Laws.CopyOwn
import Derived.Laws.StructEq
import Derived.Lib.BufferWrite
import Derived.Deep.RegionHeld
import Derived.Deep.CutRange
namespace Go.Proofs.Ytpacijcjcdigmaa
open Go.ChangeShapes Go.WideShapes Go.ChangeAt Go.RowKit

theorem infoH : (Try.prog.info? 23).map (·.size) = some 32 := by kernel_rfl
theorem bv_ones (l : List Nat) : (bv l).toArray.all (·.oneCell') = true := by
  rw [Array.all_eq_true_iff_forall_mem]
  intro v hv
  exact bv_one v (by simpa using hv)
theorem bv_set (l : List Nat) (i x : Nat) : (bv l).toArray.setIfInBounds i (.int .u8 (x : Int)) = (bv (l.set i x)).toArray := by
  unfold bv; rw [List.map_set]; simp
theorem ldH {w : World} {b : Nat} {l : List Nat} {t : TypeId} (hl : l.length = 32) (h : w.heap[b]? = some (.cells (bv l).toArray t (0, 0))) : (loadVar 23 ⟨b, 0, none⟩).run Try.prog w = .ok (.agg (bv l).toArray) w :=
  run_loadVar_row w b t _ _ (0, 0) _ h Try.underlying23 rfl (by rw [List.size_toArray, bv_len, hl]; exact infoH)
theorem wpList_ldH {ops : Array Oper} {rest : List Oper} {op : Oper} {a : Act} {w : World} {Q : Exit → Act → World → Prop} (hw : Region.wanted op (yielded ops a.tmps) = true) (x : Operand) (ho : op.op = .load 23 x)
    {b : Nat} {l : List Nat} {t : TypeId} (hl : l.length = 32) (hb : w.heap[b]? = some (.cells (bv l).toArray t (0, 0))) (hx : a.eval x = .pointer (some ⟨b, 0, none⟩)) (h : wpList Try.prog ops Q rest (a.put op.dst (.agg (bv l).toArray)) w) : wpList Try.prog ops Q (op :: rest) a w :=
  wpList_step fun K hK => by
    simp only [hw, if_true]
    unfold Oper.wp execOp
    simp only [ho, hx, Instr.loadAt, Instr.sureAddr, Sem.run_bind, Sem.run_pure, Result.andThen_ok, ldH hl hb]
    exact hK _ _ h
theorem Rd.blk {w : World} {b : Nat} {l : List Nat} {t : TypeId} (h : w.heap[b]? = some (.cells (bv l).toArray t (0, 0))) {c : Nat} (hc : l.length ≤ c) : Rd w (.slice (some ⟨b, 0, none⟩) l.length c) (bv l) :=
  .inr ⟨_, _, by rw [bv_len], by rw [bv_len]; exact hc, fun j u hj => by
    rw [Addr.add_lit, Nat.zero_add, blk_cell h, ← Array.getElem?_toList]; exact hj⟩

/-- An array of bytes as a slice, whole or from some place on. -/
theorem slice_all (T : TypeId) (n : Nat) (hn : Try.prog.arrayLen T = n) (he : ∀ w, (sizeOf (Try.prog.elem T)).run Try.prog w = .ok 1 w) (hu : Try.prog.underlying T = some (.array (Try.prog.arrayLen T) (Try.prog.elem T))) (w : World) (p o : Nat) : (Instr.sliceAt T (.pointer (some ⟨p, o, none⟩)) none none none).run Try.prog w = .ok (.slice (some ⟨p, o, none⟩) n n) w := by
  have := run_sliceAt_array_all (P := Try.prog) w T ⟨p, o, none⟩ hu
  rw [this, he, hn]
  simp only [Result.andThen_ok, slicedAt, Nat.zero_mul, Nat.sub_zero]
  split
  · rfl
  · rw [Addr.add_lit, Nat.add_zero]
theorem slice_from (T : TypeId) (n : Nat) (hn : Try.prog.arrayLen T = n) (he : ∀ w, (sizeOf (Try.prog.elem T)).run Try.prog w = .ok 1 w) (hu : Try.prog.underlying T = some (.array (Try.prog.arrayLen T) (Try.prog.elem T))) (w : World) (p o l : Nat) (hl : l < n) : (Instr.sliceAt T (.pointer (some ⟨p, o, none⟩)) (some (.int .i64 (l : Int))) none none).run Try.prog w = .ok (.slice (some ⟨p, o + l, none⟩) (n - l) (n - l)) w := by
  have := run_sliceAt_array_l (P := Try.prog) w T ⟨p, o, none⟩ hu .i64 (l : Int) (by omega) (by rw [hn]; omega)
  rw [this, he, hn]
  simp only [Result.andThen_ok, slicedAt, Int.toNat_natCast, Nat.mul_one]
  rw [if_neg (by omega), Addr.add_lit]
theorem slice_upto (T : TypeId) (n : Nat) (hn : Try.prog.arrayLen T = n) (he : ∀ w, (sizeOf (Try.prog.elem T)).run Try.prog w = .ok 1 w) (hu : Try.prog.underlying T = some (.array (Try.prog.arrayLen T) (Try.prog.elem T))) (w : World) (p o l : Nat) (h0 : 0 < n) (hl : l ≤ n) : (Instr.sliceAt T (.pointer (some ⟨p, o, none⟩)) none (some (.int .i64 (l : Int))) none).run Try.prog w = .ok (.slice (some ⟨p, o, none⟩) l n) w := by
  have := run_sliceAt_array_h (P := Try.prog) w T ⟨p, o, none⟩ hu .i64 (l : Int) (by omega) (by rw [hn]; omega)
  rw [this, he, hn]
  simp only [Result.andThen_ok, slicedAt, Int.toNat_natCast, Nat.zero_mul, Nat.sub_zero]
  rw [if_neg (by omega), Addr.add_lit, Nat.add_zero]

/-- copy into a block of cells. -/
theorem copyB {w : World} {p o n m c : Nat} {cs : List Value} {t : TypeId} {a1 : Option Addr} {l : List Nat} {k : Nat} (hX : w.heap[p]? = some (.cells cs.toArray t (0, 0))) (hr : Rd w (.slice a1 l.length c) (bv l)) (hk : k = min l.length n) (hfit : o + k ≤ cs.length) :
    ∃ w', (Builtin.copy_ #[26, 26] 3 #[.slice (some ⟨p, o, none⟩) n m, .slice a1 l.length c]).run Try.prog w = .ok (.int .i64 (k : Int)) w' ∧ w'.heap[p]? = some (.cells (cs.take o ++ bv (l.take k) ++ cs.drop (o + k)).toArray t (0, 0)) ∧ Fr [p] w w' := by
  by_cases h0 : k = 0
  · subst h0
    exact ⟨w, run_copy_none (P := Try.prog) w 26 26 3 5 _ a1 n m l.length c Try.underlying26 (by kernel_rfl) (by show min l.length n = 0; exact hk.symm), by rw [hX]; simp [bv], Fr.refl _ _⟩
  · rcases hr.split with ⟨e, _⟩ | ⟨b, of, c', e, _, _, hc⟩
    · subst e; exact absurd (by rw [hk]; simp) h0
    simp only [Value.slice.injEq] at e
    obtain ⟨rfl, _, rfl⟩ := e
    have hbl : (bv (l.take k)).length = k := by rw [bv_len, List.length_take]; omega
    have := run_copy_row (P := Try.prog) w 26 26 3 5 p o n m ⟨b, of, none⟩ l.length c cs.toArray t (bv (l.take k)) Try.underlying26 (by kernel_rfl) hX (by rw [hbl]; exact hk)
      (fun j v hj => by
        have hj' := hj
        unfold bv at hj'
        rw [List.getElem?_map] at hj'
        cases hm : (l.take k)[j]? with
        | none => rw [hm] at hj'; cases hj'
        | some x =>
          rw [hm] at hj'; cases hj'; rw [Addr.add_lit]
          rw [List.getElem?_take] at hm
          split at hm
          · exact hc j x hm
          · cases hm)
      (by rw [hbl]; simpa using hfit) bv_one
    rw [hbl] at this
    refine ⟨_, this, setRow_heap w p _ _ t _ hX, ⟨rfl, rfl, rfl, by simp [World.setRow], fun q hq hn => setRow_other w p q _ (fun e => hn (by simp [e]))⟩⟩

theorem Fr.newer {a b c : World} {p : Nat} (h : Fr [] a b) (k : Fr [p] b c) (hp : a.heap.size ≤ p) : Fr [] a c :=
  ⟨k.os.trans h.os, k.tape.trans h.tape, k.output.trans h.output, Nat.le_trans h.size k.size, fun i hi hn => (k.block i (Nat.lt_of_lt_of_le hi h.size) (by simp; omega)).trans (h.block i hi hn)⟩

theorem alen33 : Try.prog.arrayLen 51 = 33 := by kernel_rfl
theorem elem33 (w : World) : (sizeOf (Try.prog.elem 51)).run Try.prog w = .ok 1 w := by kernel_rfl
theorem alen9 : Try.prog.arrayLen 52 = 9 := by kernel_rfl
theorem elem9 (w : World) : (sizeOf (Try.prog.elem 52)).run Try.prog w = .ok 1 w := by kernel_rfl
theorem alen65 : Try.prog.arrayLen 48 = 65 := by kernel_rfl
theorem elem65 (w : World) : (sizeOf (Try.prog.elem 48)).run Try.prog w = .ok 1 w := by kernel_rfl
theorem alenH : Try.prog.arrayLen 23 = 32 := by kernel_rfl
theorem elemH (w : World) : (sizeOf (Try.prog.elem 23)).run Try.prog w = .ok 1 w := by kernel_rfl

set_option maxRecDepth 20000 in
set_option maxHeartbeats 1600000 in
theorem hashKey_c (w : World) {l : List Nat} {c : Nat} (hl : l.length = 32) :
    Calls Try.prog 20 #[.int .u8 (c : Int), .agg (bv l).toArray] w fun e w' => ∃ p, e = .returned (.slice (some ⟨p, 0, none⟩) 33 33) ∧ w.heap.size ≤ p ∧ w'.heap[p]? = some (.cells (bv (c :: l)).toArray 51 (0, 0)) ∧ Fr [] w w' := by
  obtain ⟨W, hW⟩ : ∃ W, W = (w.alloc (.cells (bv l).toArray 23)).alloc (.cells #[.int .u8 0, .int .u8 0, .int .u8 0, .int .u8 0, .int .u8 0, .int .u8 0, .int .u8 0, .int .u8 0, .int .u8 0, .int .u8 0, .int .u8 0, .int .u8 0, .int .u8 0, .int .u8 0, .int .u8 0, .int .u8 0, .int .u8 0, .int .u8 0, .int .u8 0, .int .u8 0, .int .u8 0, .int .u8 0, .int .u8 0, .int .u8 0, .int .u8 0, .int .u8 0, .int .u8 0, .int .u8 0, .int .u8 0, .int .u8 0, .int .u8 0, .int .u8 0, .int .u8 0] 51) := ⟨_, rfl⟩
  have F : Hid (Fr [] w W) := hid (by rw [hW]; exact ((Fr.refl _ w).alloc _).alloc _)
  have X : Hid (W.heap[w.heap.size]? = some (.cells (bv l).toArray 23 (0, 0))) := hid (by rw [hW, blk_old _ _ (by simp)]; exact blk_new _ _)
  have Y : Hid (W.heap[w.heap.size + 1]? = some (.cells (bv (List.replicate 33 0)).toArray 51 (0, 0))) := hid (by rw [hW]; exact new_at _ _ (by simp))
  have hcell : W.cell? ⟨w.heap.size + 1, 0, none⟩ = some (.int .u8 0) := by rw [blk_cell Y.out]; rfl
  have hfz := blk_frozen Y.out 0
  obtain ⟨W1, hW1⟩ : ∃ W1, W1 = W.setCell ⟨w.heap.size + 1, 0, none⟩ (.int .u8 (c : Int)) := ⟨_, rfl⟩
  have F1 : Hid (Fr [] w W1) := hid (by rw [hW1]; exact F.out.set _ _ (.inr (by omega)))
  have X1 : Hid (W1.drew.heap[w.heap.size]? = some (.cells (bv l).toArray 23 (0, 0))) := hid (by rw [blk_drew, hW1, blk_setne _ _ _ (by omega)]; exact X.out)
  have Y1 : Hid (W1.drew.heap[w.heap.size + 1]? = some (.cells (bv (c :: List.replicate 32 0)).toArray 51 (0, 0))) := hid (by
    rw [blk_drew, hW1, blk_set Y.out, bv_set]; rfl)
  have s1 : (Instr.sliceAt 51 (.pointer (some ⟨w.heap.size + 1, 0, none⟩)) (some (.int .i64 1)) none none).run Try.prog W1.drew = .ok (.slice (some ⟨w.heap.size + 1, 1, none⟩) 32 32) W1.drew := slice_from 51 33 alen33 elem33 (by kernel_rfl) W1.drew (w.heap.size + 1) 0 1 (by omega)
  have s2 := slice_all 23 32 alenH elemH (by kernel_rfl) W1.drew w.heap.size 0
  obtain ⟨w2, hcp, x2, f2⟩ := copyB (n := 32) (m := 32) (o := 1) (k := 32) Y1.out (by rw [hl]; exact hl ▸ Rd.blk X1.out (c := 32) (by omega)) (by rw [hl]; rfl) (by rw [bv_len]; simp)
  rw [hl] at hcp
  have s3 := slice_all 51 33 alen33 elem33 (by kernel_rfl) w2 (w.heap.size + 1) 0
  have G2 : Hid (w2.heap[w.heap.size + 1]? = some (.cells (bv (c :: l)).toArray 51 (0, 0))) := hid (by
    rw [x2]
    have e1 : (bv (c :: List.replicate 32 0)).take 1 = bv [c] := rfl
    have e2 : (bv (c :: List.replicate 32 0)).drop (1 + 32) = [] := rfl
    rw [e1, e2, List.append_nil, List.take_of_length_le (by omega), ← bv_append]; rfl)
  have F2 : Hid (Fr [] w w2) := hid (F1.out.drew.newer f2 (by omega))
  go_enter Try.func20, Try.ntmps20
  go_upto_region 2 with fail
  rw [← hW]
  clear hW
  go_upto_region 3 with fail
  rw [← hW1]
  clear hW1
  go_wp2_with fail
  go_region
  go_wp2
  go_ret
  exact ⟨_, rfl, by omega, G2.out, F2.out⟩
end Go.Proofs.Ytpacijcjcdigmaa
