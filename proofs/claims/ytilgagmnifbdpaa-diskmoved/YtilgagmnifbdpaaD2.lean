/-
  What a write's apply does on the sure side where it begins at the end of the sure bytes.
-/
import Derived.Test.YtilgagmnifbdpaaD
namespace Go.Proofs.Ytilgagmnifbdpaa
open Go.ChangeShapes Go.WideShapes Go.ChangeAt Go.RowKit

set_option maxHeartbeats 1000000 in
theorem write_sure {w : World} {fb : Nat} {num : Int} {sv uv pv bv : Value} {olds xs : List Value} (h : FB w fb num sv uv pv) (ho : w.ownsRow 0 5 1 uv olds.length olds)
    (hr : Rd w bv xs) (hb : Bts xs) (hx : 0 < xs.length) (left : Int) (h0 : 0 ≤ left) (h1 : left ≤ 9223372036854775807) (hx1 : xs.length ≤ 100000000) (ho1 : olds.length ≤ 100000000) :
    Calls Try.prog 72 #[.agg #[.pointer (some ⟨fb, 0, none⟩), .int .i64 olds.length, bv], .int .i64 1, .int .i64 left] w fun e w' =>
      e = .returned (.int .i64 (left - xs.length)) ∧ ∃ v', FB w' fb num sv v' pv ∧ w'.ownsRow 0 5 1 v' (olds ++ xs.take left.toNat).length (olds ++ xs.take left.toNat) ∧
        Fr (fb :: uv.ownBlock.toList) w w' ∧ (v'.ownBlock = uv.ownBlock ∨ ∃ k, v'.ownBlock = some k ∧ w.heap.size ≤ k) := by
  obtain ⟨i0, hi, hz0, hz1, hz2⟩ := info_parts infoB
  obtain ⟨sa, sc, rfl, hsc⟩ := ownsRow_slice ho
  rcases hr with ⟨rfl, rfl⟩ | ⟨a, c, rfl, hca, hc⟩
  · simp at hx
  have hlt := blk_lt h
  have c1 : w.cell? ⟨fb, 2, none⟩ = some (.slice sa olds.length sc) := by rw [blk_cell h]; rfl
  have f1 : w.frozen? ⟨fb, 2, none⟩ = false := blk_frozen h 2
  have hcp : ∀ dp dc k, (Builtin.copy_ #[39, 39] 3 #[.slice dp 0 dc, .slice (some a) k c]).run Try.prog
      (w.alloc (.cells #[.pointer (some ⟨fb, 0, none⟩), .int .i64 olds.length, .slice (some a) xs.length c] 82)) =
      .ok (.int .i64 0) (w.alloc (.cells #[.pointer (some ⟨fb, 0, none⟩), .int .i64 olds.length, .slice (some a) xs.length c] 82)) := fun dp dc k =>
    run_copy_none _ 39 39 3 5 dp (some a) 0 dc k c Try.underlying39 (by rw [hi]; simp [hz1]) (by simp)
  have hne : some fb ≠ (Value.slice sa olds.length sc).ownBlock := Ne.symm (ownsRow_ne ho h (by decide))
  have hnew : some w.heap.size ≠ (Value.slice sa olds.length sc).ownBlock := by
    intro e; have := (ho.lt _ e.symm).2; omega
  generalize hbx : Obj.cells #[.pointer (some ⟨fb, 0, none⟩), .int .i64 olds.length, .slice (some a) xs.length c] 82 = bx at hcp
  have HG : Hid (∀ w1, (w.alloc bx).drew.grownBy w1 (Value.slice sa olds.length sc).ownBlock → w1.cell? ⟨fb, 2, none⟩ = some (.slice sa olds.length sc) ∧ w1.frozen? ⟨fb, 2, none⟩ = false ∧
      w1.cell? ⟨w.heap.size, 0, none⟩ = some (.pointer (some ⟨fb, 0, none⟩)) ∧ w1.cell? ⟨w.heap.size, 1, none⟩ = some (.int .i64 olds.length) ∧ w1.cell? ⟨w.heap.size, 2, none⟩ = some (.slice (some a) xs.length c)) := by
    intro w1 hg
    have e1 : w1.heap[fb]? = w.heap[fb]? := by rw [hg.block fb (by simp; omega) hne, blk_drew, blk_old _ _ hlt]
    have e2 : w1.heap[w.heap.size]? = some bx := by rw [hg.block w.heap.size (by simp) hnew, blk_drew, blk_new]
    subst hbx
    exact ⟨by rw [World.cell?_of_block (w := w) e1]; exact c1, by rw [World.frozen?_of_block (w := w) e1]; exact f1, by rw [blk_cell e2]; rfl, by rw [blk_cell e2]; rfl, by rw [blk_cell e2]; rfl⟩
  have HO : Hid ((w.alloc bx).drew.ownsRow 0 5 1 (.slice sa olds.length sc) olds.length olds) := ho.alloc bx
  have HC : Hid (∀ j u, xs[j]? = some u → (w.alloc bx).drew.cell? (a.add j) = some u) := fun j u hj => by
    have h1 := hc j u hj
    show (w.alloc bx).cell? _ = _
    rw [World.cell?_of_block (w := w) (blk_old _ _ (World.block_lt_of_cell? w _ h1))]; exact h1
  subst hbx
  have H : Hid (FB w fb num sv (.slice sa olds.length sc) pv) := h
  have HOO : Hid (w.ownsRow 0 5 1 (.slice sa olds.length sc) olds.length olds) := ho
  have H1 : Hid (∀ u ∈ xs, u.oneCell' = true) := hb.one
  clear h ho hc hb hne hnew
  have hc0 : 0 < c := by omega
  by_cases hle : left ≤ xs.length
  · obtain ⟨l, rfl⟩ := Int.eq_ofNat_of_zero_le h0
    have hl : l ≤ xs.length := by omega
    have HT : Hid ((xs.take l).length = l) := by rw [Hid, List.length_take]; omega
    rcases Nat.eq_or_lt_of_le hsc with hq | hq
    · subst hq
      go_enter Try.func72, Try.ntmps72
      go_wp2
      all_goals go_region_law (
        refine step_append_own rfl (.tmp 34) (.tmp 37) 39 rfl 0 5 i0 (.int .u8 0) 1 1 Try.underlying39 hi hz0 hz1 hz2 rfl (by decide) (.slice sa olds.length olds.length) olds.length olds (by simp [Act.eval, Act.put]) HO.out a l c (xs.take l) (by simp [Act.eval, Act.put]) (by rw [HT.out]; simp) (fun j u hj => HC.out j u (by rw [List.getElem?_take] at hj; split at hj; exact hj; cases hj)) (fun u hu => H1.out u (List.mem_of_mem_take hu)) (by unfold maxLen; omega) (by omega) (by simp) ?_
        intro v' w1 hown' hgrow hat
        obtain ⟨ao, cap', rfl, _⟩ := ownsRow_slice hown'
        obtain ⟨cf, ff, cb0, cb1, cb2⟩ := HG.out w1 hgrow
        have HOW := hid hown'
        have HGR := hid hgrow
        have HAT := hid hat
        clear hown' hgrow hat)
      all_goals go_wp2
      all_goals go_ret
      all_goals (have R := write_close_sure H.out HOO.out HOW.out HGR.out HAT.out)
      all_goals (refine ⟨rfl, _, R.1, ?_, R.2.2⟩)
      all_goals (have R2 := R.2.1)
      all_goals (rw [Int.toNat_natCast, List.length_append, HT.out]; exact R2)
    · go_enter Try.func72, Try.ntmps72
      go_wp2
      all_goals go_region_law (
        refine step_append_own rfl (.tmp 34) (.tmp 37) 39 rfl 0 5 i0 (.int .u8 0) 1 1 Try.underlying39 hi hz0 hz1 hz2 rfl (by decide) (.slice sa olds.length sc) olds.length olds (by simp [Act.eval, Act.put]) HO.out a l c (xs.take l) (by simp [Act.eval, Act.put]) (by rw [HT.out]; simp) (fun j u hj => HC.out j u (by rw [List.getElem?_take] at hj; split at hj; exact hj; cases hj)) (fun u hu => H1.out u (List.mem_of_mem_take hu)) (by unfold maxLen; omega) (by omega) (by simp) ?_
        intro v' w1 hown' hgrow hat
        obtain ⟨ao, cap', rfl, _⟩ := ownsRow_slice hown'
        obtain ⟨cf, ff, cb0, cb1, cb2⟩ := HG.out w1 hgrow
        have HOW := hid hown'
        have HGR := hid hgrow
        have HAT := hid hat
        clear hown' hgrow hat)
      all_goals go_wp2
      all_goals go_ret
      all_goals (have R := write_close_sure H.out HOO.out HOW.out HGR.out HAT.out)
      all_goals (refine ⟨rfl, _, R.1, ?_, R.2.2⟩)
      all_goals (have R2 := R.2.1)
      all_goals (rw [Int.toNat_natCast, List.length_append, HT.out]; exact R2)
  · rcases Nat.eq_or_lt_of_le hsc with hq | hq
    · subst hq
      go_enter Try.func72, Try.ntmps72
      go_wp2
      all_goals go_region_law (
        refine step_append_own rfl (.tmp 34) (.tmp 37) 39 rfl 0 5 i0 (.int .u8 0) 1 1 Try.underlying39 hi hz0 hz1 hz2 rfl (by decide) (.slice sa olds.length olds.length) olds.length olds (by simp [Act.eval, Act.put]) HO.out a xs.length c xs (by simp [Act.eval, Act.put]) (by simp) HC.out H1.out (by unfold maxLen; omega) (by omega) (by simp) ?_
        intro v' w1 hown' hgrow hat
        obtain ⟨ao, cap', rfl, _⟩ := ownsRow_slice hown'
        obtain ⟨cf, ff, cb0, cb1, cb2⟩ := HG.out w1 hgrow
        have HOW := hid hown'
        have HGR := hid hgrow
        have HAT := hid hat
        clear hown' hgrow hat)
      all_goals go_wp2
      all_goals go_ret
      all_goals (have R := write_close_sure H.out HOO.out HOW.out HGR.out HAT.out)
      all_goals (refine ⟨rfl, _, R.1, ?_, R.2.2⟩)
      all_goals (have R2 := R.2.1)
      all_goals (rw [List.take_of_length_le (by omega), List.length_append]; exact R2)
    · go_enter Try.func72, Try.ntmps72
      go_wp2
      all_goals go_region_law (
        refine step_append_own rfl (.tmp 34) (.tmp 37) 39 rfl 0 5 i0 (.int .u8 0) 1 1 Try.underlying39 hi hz0 hz1 hz2 rfl (by decide) (.slice sa olds.length sc) olds.length olds (by simp [Act.eval, Act.put]) HO.out a xs.length c xs (by simp [Act.eval, Act.put]) (by simp) HC.out H1.out (by unfold maxLen; omega) (by omega) (by simp) ?_
        intro v' w1 hown' hgrow hat
        obtain ⟨ao, cap', rfl, _⟩ := ownsRow_slice hown'
        obtain ⟨cf, ff, cb0, cb1, cb2⟩ := HG.out w1 hgrow
        have HOW := hid hown'
        have HGR := hid hgrow
        have HAT := hid hat
        clear hown' hgrow hat)
      all_goals go_wp2
      all_goals go_ret
      all_goals (have R := write_close_sure H.out HOO.out HOW.out HGR.out HAT.out)
      all_goals (refine ⟨rfl, _, R.1, ?_, R.2.2⟩)
      all_goals (have R2 := R.2.1)
      all_goals (rw [List.take_of_length_le (by omega), List.length_append]; exact R2)

end Go.Proofs.Ytilgagmnifbdpaa
