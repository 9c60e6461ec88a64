/-
  What bytes.Clone answers, and bytes at a place.
-/
import Derived.Test.YtmhhdlcdfgahkaaDoorJ02
import Derived.Laws.CopyOwn
import Derived.Lib.AppendZerosOnto
import Derived.Lib.Overlaps
import Derived.Laws.Externs
import Derived.Test.YtmhhdlcdfgahkaaDoorJ36
import Derived.Test.YtmhhdlcdfgahkaaDoorJ04
import Derived.Test.YtmhhdlcdfgahkaaDoorJ34
import Derived.Deep.Light
import Derived.Test.YtmhhdlcdfgahkaaDoorWh
import Derived.Lib.SlBytesConst
namespace Go.Proofs.YtmhhdlcdfgahkaaDoor
open Go.ChangeShapes Go.WideShapes Go.ChangeAt Go.RowKit

end Go.Proofs.YtmhhdlcdfgahkaaDoor
namespace Go.Proofs.YtmhhdlcdfgahkaaDoor
open Go.ChangeShapes Go.WideShapes Go.ChangeAt Go.RowKit

theorem sizeB : (Tryd.prog.info? 5).map (·.size) = some 1 := by kernel_rfl
theorem sizeOfB (w : World) : (Go.sizeOf 5).run Tryd.prog w = .ok 1 w := by
  obtain ⟨i0, hi, hz0, hz1, hz2⟩ := info_parts infoB
  simp [sizeOf, typeInfo, hi, hz1]

/-- copy whose run is known, in a walk, and as a step of a region that draws. -/
theorem wpList_copy_is {w : World} {ops : Array Oper} {rest : List Oper} {o : Oper} {a : Act} {Q : Exit → Act → World → Prop} (hgd : o.guard = none) (d s : Operand)
    (ho : o.op = .call { callee := .builtin .copy, args := #[d, s], argTypes := #[29, 29] }) {v u : Value} (hd : a.eval d = v) (hs : a.eval s = u) {v' : Value} {w' : World}
    (hr : (Builtin.copy_ #[29, 29] o.type #[v, u]).run Tryd.prog w = .ok v' w') (h : wpList Tryd.prog ops Q rest (a.put o.dst v') w') : wpList Tryd.prog ops Q (o :: rest) a w := by
  refine wpList_plain hgd fun K hK => ?_
  unfold Oper.wp
  simp [execOp, ho, resolve, invoke, builtin, hd, hs, hr, Result.andThen]
  exact hK _ _ h
theorem step_copy_is {w : World} {ops : Array Oper} {o : Oper} {a : Act} {K : Act → World → Prop} {Q : Exit → Act → World → Prop} {E : Prop} (hgd : o.guard = none) (d s : Operand)
    (ho : o.op = .call { callee := .builtin .copy, args := #[d, s], argTypes := #[29, 29] }) {v u : Value} (hd : a.eval d = v) (hs : a.eval s = u) {v' : Value} {w' : World}
    (hr : (Builtin.copy_ #[29, 29] o.type #[v, u]).run Tryd.prog w = .ok v' w') (h : K (a.put o.dst v') w') : if Region.wanted o (yielded ops a.tmps) = true then Oper.wp Tryd.prog o a w K Q else E := by
  have hw : Region.wanted o (yielded ops a.tmps) = true := by simp [Region.wanted, hgd]
  rw [if_pos hw]
  unfold Oper.wp
  simp [execOp, ho, resolve, invoke, builtin, hd, hs, hr, Result.andThen]
  exact h

/-- A row with something laid over it. -/
def over (L : List Value) (k : Nat) (X : List Value) : List Value := L.take k ++ X ++ L.drop (k + X.length)
theorem over_len {L X : List Value} {k : Nat} (h : k + X.length ≤ L.length) : (over L k X).length = L.length := by
  unfold over; rw [List.length_append, List.length_append, List.length_take, List.length_drop]; omega
theorem over_shift {L X2 Y : List Value} {i m n : Nat} (hY : Y.length = m) (hX : X2.length = n - i) (hi : i ≤ n) (hn : n + m ≤ L.length) :
    (over (over L (i + m) X2) i Y).take (n + m) = L.take i ++ Y ++ X2 := by
  have e1 : (over L (i + m) X2).take i = L.take i := by
    unfold over
    rw [List.append_assoc, List.take_append_of_le_length (by rw [List.length_take]; omega), List.take_take, Nat.min_eq_left (by omega)]
  have e2 : (over L (i + m) X2).drop (i + m) = X2 ++ L.drop (i + m + X2.length) := by
    unfold over
    rw [List.append_assoc, List.drop_left' (by rw [List.length_take]; omega)]
  unfold over at e1 e2 ⊢
  rw [e1, hY, e2, ← List.append_assoc]
  exact List.take_left' (by simp only [List.length_append, List.length_take]; omega)
theorem over_grow {L X2 Y : List Value} {i m n : Nat} (hY : Y.length = m) (hX : X2.length = n - i) (hi : i ≤ n) (hn : n + m ≤ L.length) :
    (over (over L i Y) (i + m) X2).take (n + m) = L.take i ++ Y ++ X2 := by
  have e1 : (over L i Y).take (i + m) = L.take i ++ Y := by
    unfold over
    exact List.take_left' (by simp only [List.length_append, List.length_take]; omega)
  unfold over at e1 ⊢
  rw [e1]
  exact List.take_left' (by simp only [List.length_append, List.length_take]; omega)

theorem copy_over (w : World) {g k dl dc sl sc : Nat} {a : Addr} {cur : List Value} {cs : List Value} (hg : w.heap[g]? = some (.cells cur.toArray 5 (0, 0))) (hn : cs.length = Nat.min sl dl) (hsrc : ∀ j v, cs[j]? = some v → w.cell? (a.add j) = some v) (hfit : k + cs.length ≤ cur.length) (h1 : ∀ v ∈ cs, v.oneCell' = true) (ty : TypeId) :
    (Builtin.copy_ #[29, 29] ty #[.slice (some ⟨g, k, none⟩) dl dc, .slice (some a) sl sc]).run Tryd.prog w = .ok (goInt cs.length) (w.setRow g (over cur k cs).toArray) :=
  run_copy_row Tryd.prog w 29 29 ty 5 g k dl dc a sl sc cur.toArray 5 cs Tryd.underlying29 sizeB hg hn hsrc (by simpa using hfit) h1
theorem cell_heap {w w' : World} (h : w'.heap = w.heap) (a : Addr) : w'.cell? a = w.cell? a := World.cell?_of_block (by rw [h])
theorem setRow_at {w w' : World} {g : Nat} {cur cs : Array Value} {t : TypeId} (hg : w.heap[g]? = some (.cells cur t (0, 0))) (h : w'.heap = w.heap) : (w'.setRow g cs).heap[g]? = some (.cells cs t (0, 0)) := setRow_heap w' g cur cs t (0, 0) (by rw [h]; exact hg)

end Go.Proofs.YtmhhdlcdfgahkaaDoor
namespace Go.Proofs.YtmhhdlcdfgahkaaDoor
open Go.ChangeShapes Go.WideShapes Go.ChangeAt Go.RowKit

theorem Rd_lit {w : World} {cs : Array Value} {n : Nat} {ns : List Nat} (hn : n = cs.size) (hm : n ≤ 1000) (h : cs.toList = bv ns) : Rd (w.alloc (.cells cs 5)) (.slice (some ⟨w.heap.size, 0, none⟩) n n) (bv ns) := by
  subst hn
  have : (w.alloc (.cells cs 5)).ownsRow 0 5 1 (.slice (some ⟨w.heap.size, 0, none⟩) cs.size cs.size) cs.size cs.toList := World.ownsRow_lit (base := 0) w cs cs.size (Nat.zero_le _) (by unfold maxLen; omega) (by simp)
  rw [← h]
  exact Rd.own (base := 0) (by simpa using this)
theorem ownsRow_size {w : World} {base size n : Nat} {e : TypeId} {v : Value} {xs : List Value} (h : w.ownsRow base e size v n xs) (h0 : 0 < n) : base ≤ w.heap.size := by
  rcases h.2 with ⟨_, h⟩ | ⟨g, cap, cur, rfl, h2, h3, _⟩
  · omega
  · have := blk_lt h3; omega
theorem Fr.row {w0 w : World} (h : Fr [] w0 w) {g : Nat} (hg : w0.heap.size ≤ g) (cs : Array Value) : Fr [] w0 (w.setRow g cs) :=
  ⟨h.os, h.tape, h.output, by simpa [World.setRow] using h.size, fun k hk hn => by rw [setRow_other _ _ _ _ (by omega)]; exact h.block k hk hn⟩
theorem over_frag {cur : List Value} {xs d : List Nat} {k n : Nat} (hn : n = xs.length + 7 + d.length) (ht : cur.take n = bv ((xs ++ [0, 0, 0, 0, d.length, d.length / 256, k]) ++ d)) (hd : d.length ≤ 57) : (over cur xs.length (bv (fixL (crc (k :: d)) 4))).take n = bv (xs ++ fragL k d) := by
  have h4 : (bv (fixL (crc (k :: d)) 4)).length = 4 := by rw [bv_len, fixL_len]
  have e0 : cur = bv ((xs ++ [0, 0, 0, 0, d.length, d.length / 256, k]) ++ d) ++ cur.drop n := by rw [← ht, List.take_append_drop]
  have e1 : cur.take xs.length = bv xs := by
    have := congrArg (List.take xs.length) ht
    rw [List.take_take, Nat.min_eq_left (by omega)] at this
    rw [this, bv_append, bv_append, List.append_assoc, List.take_left' (bv_len xs)]
  have e2 : (cur.drop (xs.length + 4)).take (n - (xs.length + 4)) = bv ([d.length, d.length / 256, k] ++ d) := by
    rw [← List.drop_take, ht, bv_append, bv_append, List.append_assoc, ← List.drop_drop, List.drop_left' (bv_len xs)]
    rfl
  have hfr : fragL k d = fixL (crc (k :: d)) 4 ++ ([d.length, d.length / 256, k] ++ d) := by
    unfold fragL; rw [Nat.mod_eq_of_lt (by omega)]
  unfold over
  rw [e1, h4, hfr, bv_append, bv_append, ← e2, List.take_append, List.take_of_length_le (by rw [List.length_append, bv_len, h4]; omega), List.length_append, bv_len, h4, List.append_assoc]

end Go.Proofs.YtmhhdlcdfgahkaaDoor
namespace Go.Proofs.YtmhhdlcdfgahkaaDoor
open Go.ChangeShapes Go.WideShapes Go.ChangeAt Go.RowKit

theorem made_zero (c : Nat) : (madeCells #[.int .u8 0] c).toList = bv (List.replicate c 0) := by
  simp [madeCells, bv]
  rw [List.eq_replicate_iff]
  simp [Nat.mod_one]
theorem make_run (w : World) {n c : Nat} (h : n ≤ c) (hc : c ≤ 100000000) : (Instr.makeSlice 29 (.int .i64 (n : Int)) (.int .i64 (c : Int))).run Tryd.prog w = .ok (.slice (some ⟨w.heap.size, 0, none⟩) n c) (w.alloc (.cells (madeCells #[.int .u8 0] c) 5)) := by
  obtain ⟨i0, hi, hz0, hz1, hz2⟩ := info_parts infoB
  have h := run_make (P := Tryd.prog) w 29 5 i0 (.int .u8 0) Tryd.underlying29 hi hz0 .i64 .i64 (n : Int) (c : Int) (by omega) (by omega) (by rw [hz2]; omega) (by omega)
  simpa [hz1, Value.cells] using h
theorem make_own (w : World) {n c : Nat} (h : n ≤ c) (hc : c ≤ 100000000) : (w.alloc (.cells (madeCells #[.int .u8 0] c) 5)).ownsRow w.heap.size 5 1 (.slice (some ⟨w.heap.size, 0, none⟩) n c) n (bv (List.replicate n 0)) := by
  refine ⟨by rw [bv_len, List.length_replicate, Nat.mul_one], .inr ⟨w.heap.size, c, _, rfl, Nat.le_refl _, blk_new _ _, h, by unfold maxLen; omega, by simp [madeCells], ?_⟩⟩
  rw [made_zero, ← bv_take, List.take_replicate, Nat.mul_one, Nat.min_eq_left h]

def slLen : Value → Nat
  | .slice _ n _ => n
  | _ => 0

/-- The step of a record's fragments that leaves more. -/
theorem frs_more {f : Nat} {bg : Bool} {m : Nat} {r : List Nat} (h : m < r.length) : frs (f + 1) bg (m + 7) r = fragL (kd bg false) (r.take m) ++ frs f true 64 (r.drop m) := by
  rw [frs, Nat.add_sub_cancel, if_neg (by omega)]
theorem frs_last {f : Nat} {bg : Bool} {m : Nat} {r : List Nat} (h : r.length ≤ m) : frs (f + 1) bg (m + 7) r = fragL (kd bg true) r := by
  rw [frs, Nat.add_sub_cancel, if_pos h]

end Go.Proofs.YtmhhdlcdfgahkaaDoor
namespace Go.Proofs.YtmhhdlcdfgahkaaDoor
open Go.ChangeShapes Go.WideShapes Go.ChangeAt Go.RowKit

theorem known_log : logL 0 [[97, 98]] = appL 0 [97, 98] := by simp [logL]
theorem known_len : (appL 0 [97, 98]).length = 9 := by rw [appL_len]; decide
theorem known_read : readL (appL 0 [97, 98]) = ([[97, 98]], 9) := by
  have h := read_log (rs := [[97, 98]]) (fun r hr => by simp at hr; subst hr; unfold By; decide)
  rw [known_log, known_len] at h
  exact h
theorem str_ab : strOf [97, 98] = ⟨#[97, 98]⟩ := by decide

end Go.Proofs.YtmhhdlcdfgahkaaDoor
