/-
  What a write's apply does where it begins at the end of a file's bytes: they are appended, as far as they are paid for.
-/
import Derived.Test.YtilgagmnifbdpaaC
import Derived.Deep.RegionLaw
import Derived.Laws.CopyOwn
namespace Go.Proofs.Ytilgagmnifbdpaa
open Go.ChangeShapes Go.WideShapes Go.ChangeAt Go.RowKit

theorem step_append_own {P : Program} {ops : Array Oper} {o : Oper} {a : Act} {w : World} {K : Act → World → Prop} {Q : Exit → Act → World → Prop} {E : Prop}
    (hg : o.guard = none) (s x : Operand) (t : TypeId) (hop : o.op = Op.call { callee := Callee.builtin Builtin.append, args := #[s, x], argTypes := #[t, t] })
    (base : Nat) (e : TypeId) (i : TypeInfo) (z : Value) (size bytes : Nat) (ht : P.underlying t = some (.slice e)) (hi : P.info? e = some i) (hz : i.zero = some z)
    (hsize : i.size = size) (hby : i.bytes = bytes) (hzs : z.cells.size = size) (hsz : 0 < size)
    (v : Value) (n : Nat) (xs : List Value) (hs : a.eval s = v) (hown : w.ownsRow base e size v n xs)
    (ad : Addr) (m c : Nat) (news : List Value) (hx : a.eval x = .slice (some ad) m c) (hl : news.length = m * size) (hnews : ∀ j u, news[j]? = some u → w.cell? (ad.add j) = some u) (h1 : ∀ u ∈ news, u.oneCell' = true)
    (h63 : n + m ≤ maxLen) (hbytes : (n + m) * bytes ≤ 140737488355328) (hbase : base ≤ w.heap.size)
    (hK : ∀ v' w', w'.ownsRow base e size v' (n + m) (xs ++ news) → w.grownBy w' v.ownBlock → (v'.ownBlock = v.ownBlock ∨ v'.ownBlock = some w.heap.size) → K (a.put o.dst v') w') :
    if Region.wanted o (yielded ops a.tmps) = true then Oper.wp P o a w K Q else E := by
  have hw : Region.wanted o (yielded ops a.tmps) = true := by simp [Region.wanted, hg]
  rw [if_pos hw]
  obtain ⟨v', w', hr, h2, h3, _, h5⟩ := run_append_own_at (P := P) w base t o.type e i z size bytes ht hi hz hsize hby hzs hsz v n xs hown ad m c news hl hnews h1 h63 hbytes hbase
  unfold Oper.wp
  simp [execOp, hop, resolve, invoke, builtin, hs, hx, hr, Result.andThen]
  exact hK v' w' h2 h3 h5

/-- A slice's value, written out. -/
theorem ownsRow_slice {w : World} {base size n : Nat} {e : TypeId} {v : Value} {xs : List Value} (h : w.ownsRow base e size v n xs) : ∃ ao cap, v = .slice ao n cap ∧ n ≤ cap := by
  rcases h.2 with ⟨rfl, rfl⟩ | ⟨g, cap, cur, rfl, _, _, hc, _⟩
  · exact ⟨_, _, rfl, Nat.le_refl _⟩
  · exact ⟨_, _, rfl, hc⟩

theorem ownsRow_of_block {w w' : World} {base size n : Nat} {e : TypeId} {v : Value} {xs : List Value} (h : w.ownsRow base e size v n xs) (hb : ∀ k, v.ownBlock = some k → w'.heap[k]? = w.heap[k]?) : w'.ownsRow base e size v n xs := by
  refine ⟨h.1, ?_⟩
  rcases h.2 with h | ⟨g, cap, cur, rfl, h2, h3, h4⟩
  · exact .inl h
  · exact .inr ⟨g, cap, cur, rfl, h2, by rw [hb g rfl]; exact h3, h4⟩
/-- A row of elements of one type doesn't lie in a block of another one. -/
theorem ownsRow_ne {w : World} {base size n : Nat} {e t : TypeId} {v : Value} {xs : List Value} {b : Nat} {cs : Array Value} {fz : Nat × Nat} (h : w.ownsRow base e size v n xs) (hb : w.heap[b]? = some (.cells cs t fz)) (ht : e ≠ t) : v.ownBlock ≠ some b := by
  intro hv
  rcases h.2 with ⟨rfl, _⟩ | ⟨g, cap, cur, rfl, _, h3, _⟩
  · simp [Value.ownBlock] at hv
  · simp only [Value.ownBlock, Option.some.injEq] at hv
    subst hv; rw [hb] at h3; simp at h3; exact ht h3.2.1.symm
theorem ownsRow_nemap {w : World} {base size n : Nat} {e : TypeId} {v : Value} {xs : List Value} {b : Nat} {es : Array MapEntry} {clk : Nat} (h : w.ownsRow base e size v n xs) (hb : w.heap[b]? = some (.map es clk)) : v.ownBlock ≠ some b := by
  intro hv
  rcases h.2 with ⟨rfl, _⟩ | ⟨g, cap, cur, rfl, _, h3, _⟩
  · simp [Value.ownBlock] at hv
  · simp only [Value.ownBlock, Option.some.injEq] at hv
    subst hv; rw [hb] at h3; simp at h3

theorem write_close_seen {w w1 : World} {bx : Obj} {fb : Nat} {num : Int} {sv uv pv v' : Value} {n n' : Nat} {xs ys : List Value} (h : FB w fb num sv uv pv) (ho : w.ownsRow 0 5 1 sv n xs)
    (hown : w1.ownsRow 0 5 1 v' n' ys) (hg : (w.alloc bx).drew.grownBy w1 sv.ownBlock) (hat : v'.ownBlock = sv.ownBlock ∨ v'.ownBlock = some (w.alloc bx).drew.heap.size) :
    FB (w1.setCell ⟨fb, 1, none⟩ v') fb num v' uv pv ∧ (w1.setCell ⟨fb, 1, none⟩ v').ownsRow 0 5 1 v' n' ys ∧ Fr (fb :: sv.ownBlock.toList) w (w1.setCell ⟨fb, 1, none⟩ v') ∧
      (v'.ownBlock = sv.ownBlock ∨ ∃ k, v'.ownBlock = some k ∧ w.heap.size ≤ k) := by
  have hne := ownsRow_ne ho h (by decide)
  have e1 : w1.heap[fb]? = w.heap[fb]? := by rw [hg.block fb (by have := blk_lt h; simp; omega) (Ne.symm hne), blk_drew, blk_old _ _ (blk_lt h)]
  have h1 : FB w1 fb num sv uv pv := by unfold FB; rw [e1]; exact h
  refine ⟨?_, ?_, ?_, ?_⟩
  · unfold FB; rw [blk_set h1]; rfl
  · refine ownsRow_of_block hown fun k hk => blk_setne _ _ _ ?_
    intro e; subst e; exact ownsRow_ne hown h1 (by decide) hk
  · refine ((((Fr.refl _ _).alloc _).drew).grown hg fun k hk => .inl ?_).set _ _ (.inl (by simp))
    rw [hk]; simp
  · rcases hat with hat | hat
    · exact .inl hat
    · exact .inr ⟨_, hat, by simp⟩

theorem write_close_sure {w w1 : World} {bx : Obj} {fb : Nat} {num : Int} {sv uv pv v' : Value} {n n' : Nat} {xs ys : List Value} (h : FB w fb num sv uv pv) (ho : w.ownsRow 0 5 1 uv n xs)
    (hown : w1.ownsRow 0 5 1 v' n' ys) (hg : (w.alloc bx).drew.grownBy w1 uv.ownBlock) (hat : v'.ownBlock = uv.ownBlock ∨ v'.ownBlock = some (w.alloc bx).drew.heap.size) :
    FB (w1.setCell ⟨fb, 2, none⟩ v') fb num sv v' pv ∧ (w1.setCell ⟨fb, 2, none⟩ v').ownsRow 0 5 1 v' n' ys ∧ Fr (fb :: uv.ownBlock.toList) w (w1.setCell ⟨fb, 2, none⟩ v') ∧
      (v'.ownBlock = uv.ownBlock ∨ ∃ k, v'.ownBlock = some k ∧ w.heap.size ≤ k) := by
  have hne := ownsRow_ne ho h (by decide)
  have e1 : w1.heap[fb]? = w.heap[fb]? := by rw [hg.block fb (by have := blk_lt h; simp; omega) (Ne.symm hne), blk_drew, blk_old _ _ (blk_lt h)]
  have h1 : FB w1 fb num sv uv pv := by unfold FB; rw [e1]; exact h
  refine ⟨?_, ?_, ?_, ?_⟩
  · unfold FB; rw [blk_set h1]; rfl
  · refine ownsRow_of_block hown fun k hk => blk_setne _ _ _ ?_
    intro e; subst e; exact ownsRow_ne hown h1 (by decide) hk
  · refine ((((Fr.refl _ _).alloc _).drew).grown hg fun k hk => .inl ?_).set _ _ (.inl (by simp))
    rw [hk]; simp
  · rcases hat with hat | hat
    · exact .inl hat
    · exact .inr ⟨_, hat, by simp⟩

set_option maxHeartbeats 1000000 in
theorem write_seen {w : World} {fb : Nat} {num : Int} {sv uv pv bv : Value} {olds xs : List Value} (h : FB w fb num sv uv pv) (ho : w.ownsRow 0 5 1 sv olds.length olds)
    (hr : Rd w bv xs) (hb : Bts xs) (hx : 0 < xs.length) (left : Int) (h0 : 0 ≤ left) (h1 : left ≤ 9223372036854775807) (hx1 : xs.length ≤ 100000000) (ho1 : olds.length ≤ 100000000) :
    Calls Try.prog 72 #[.agg #[.pointer (some ⟨fb, 0, none⟩), .int .i64 olds.length, bv], .int .i64 0, .int .i64 left] w fun e w' =>
      e = .returned (.int .i64 (left - xs.length)) ∧ ∃ v', FB w' fb num v' uv pv ∧ w'.ownsRow 0 5 1 v' (olds ++ xs.take left.toNat).length (olds ++ xs.take left.toNat) ∧
        Fr (fb :: sv.ownBlock.toList) w w' ∧ (v'.ownBlock = sv.ownBlock ∨ ∃ k, v'.ownBlock = some k ∧ w.heap.size ≤ k) := by
  obtain ⟨i0, hi, hz0, hz1, hz2⟩ := info_parts infoB
  obtain ⟨sa, sc, rfl, hsc⟩ := ownsRow_slice ho
  rcases hr with ⟨rfl, rfl⟩ | ⟨a, c, rfl, hca, hc⟩
  · simp at hx
  have hlt := blk_lt h
  have c1 : w.cell? ⟨fb, 1, none⟩ = some (.slice sa olds.length sc) := by rw [blk_cell h]; rfl
  have f1 : w.frozen? ⟨fb, 1, none⟩ = false := blk_frozen h 1
  have hcp : ∀ dp dc k, (Builtin.copy_ #[39, 39] 3 #[.slice dp 0 dc, .slice (some a) k c]).run Try.prog
      (w.alloc (.cells #[.pointer (some ⟨fb, 0, none⟩), .int .i64 olds.length, .slice (some a) xs.length c] 82)) =
      .ok (.int .i64 0) (w.alloc (.cells #[.pointer (some ⟨fb, 0, none⟩), .int .i64 olds.length, .slice (some a) xs.length c] 82)) := fun dp dc k =>
    run_copy_none _ 39 39 3 5 dp (some a) 0 dc k c Try.underlying39 (by rw [hi]; simp [hz1]) (by simp)
  have hne : some fb ≠ (Value.slice sa olds.length sc).ownBlock := Ne.symm (ownsRow_ne ho h (by decide))
  have hnew : some w.heap.size ≠ (Value.slice sa olds.length sc).ownBlock := by
    intro e; have := (ho.lt _ e.symm).2; omega
  generalize hbx : Obj.cells #[.pointer (some ⟨fb, 0, none⟩), .int .i64 olds.length, .slice (some a) xs.length c] 82 = bx at hcp
  have HG : Hid (∀ w1, (w.alloc bx).drew.grownBy w1 (Value.slice sa olds.length sc).ownBlock → w1.cell? ⟨fb, 1, none⟩ = some (.slice sa olds.length sc) ∧ w1.frozen? ⟨fb, 1, none⟩ = false ∧
      w1.cell? ⟨w.heap.size, 0, none⟩ = some (.pointer (some ⟨fb, 0, none⟩)) ∧ w1.cell? ⟨w.heap.size, 1, none⟩ = some (.int .i64 olds.length) ∧ w1.cell? ⟨w.heap.size, 2, none⟩ = some (.slice (some a) xs.length c)) := by
    intro w1 hg
    have e1 : w1.heap[fb]? = w.heap[fb]? := by rw [hg.block fb (by simp; omega) hne, blk_drew, blk_old _ _ hlt]
    have e2 : w1.heap[w.heap.size]? = some bx := by rw [hg.block w.heap.size (by simp) hnew, blk_drew, blk_new]
    subst hbx
    exact ⟨by rw [World.cell?_of_block (w := w) e1]; exact c1, by rw [World.frozen?_of_block (w := w) e1]; exact f1, by rw [blk_cell e2]; rfl, by rw [blk_cell e2]; rfl, by rw [blk_cell e2]; rfl⟩
  have HO : Hid ((w.alloc bx).drew.ownsRow 0 5 1 (.slice sa olds.length sc) olds.length olds) := ho.alloc bx
  have HC : Hid (∀ j u, xs[j]? = some u → (w.alloc bx).drew.cell? (a.add j) = some u) := fun j u hj => by
    have h1 := hc j u hj
    show (w.alloc bx).cell? _ = _
    rw [World.cell?_of_block (w := w) (blk_old _ _ (World.block_lt_of_cell? w _ h1))]; exact h1
  subst hbx
  have H : Hid (FB w fb num (.slice sa olds.length sc) uv pv) := h
  have HOO : Hid (w.ownsRow 0 5 1 (.slice sa olds.length sc) olds.length olds) := ho
  have H1 : Hid (∀ u ∈ xs, u.oneCell' = true) := hb.one
  clear h ho hc hb hne hnew
  have hc0 : 0 < c := by omega
  by_cases hle : left ≤ xs.length
  · obtain ⟨l, rfl⟩ := Int.eq_ofNat_of_zero_le h0
    have hl : l ≤ xs.length := by omega
    have HT : Hid ((xs.take l).length = l) := by rw [Hid, List.length_take]; omega
    rcases Nat.eq_or_lt_of_le hsc with hq | hq
    · subst hq
      go_enter Try.func72, Try.ntmps72
      go_wp2
      all_goals go_region_law (
        refine step_append_own rfl (.tmp 34) (.tmp 37) 39 rfl 0 5 i0 (.int .u8 0) 1 1 Try.underlying39 hi hz0 hz1 hz2 rfl (by decide) (.slice sa olds.length olds.length) olds.length olds (by simp [Act.eval, Act.put]) HO.out a l c (xs.take l) (by simp [Act.eval, Act.put]) (by rw [HT.out]; simp) (fun j u hj => HC.out j u (by rw [List.getElem?_take] at hj; split at hj; exact hj; cases hj)) (fun u hu => H1.out u (List.mem_of_mem_take hu)) (by unfold maxLen; omega) (by omega) (by simp) ?_
        intro v' w1 hown' hgrow hat
        obtain ⟨ao, cap', rfl, _⟩ := ownsRow_slice hown'
        obtain ⟨cf, ff, cb0, cb1, cb2⟩ := HG.out w1 hgrow
        have HOW := hid hown'
        have HGR := hid hgrow
        have HAT := hid hat
        clear hown' hgrow hat)
      all_goals go_wp2
      all_goals go_ret
      all_goals (have R := write_close_seen H.out HOO.out HOW.out HGR.out HAT.out)
      all_goals (refine ⟨rfl, _, R.1, ?_, R.2.2⟩)
      all_goals (have R2 := R.2.1)
      all_goals (rw [Int.toNat_natCast, List.length_append, HT.out]; exact R2)
    · go_enter Try.func72, Try.ntmps72
      go_wp2
      all_goals go_region_law (
        refine step_append_own rfl (.tmp 34) (.tmp 37) 39 rfl 0 5 i0 (.int .u8 0) 1 1 Try.underlying39 hi hz0 hz1 hz2 rfl (by decide) (.slice sa olds.length sc) olds.length olds (by simp [Act.eval, Act.put]) HO.out a l c (xs.take l) (by simp [Act.eval, Act.put]) (by rw [HT.out]; simp) (fun j u hj => HC.out j u (by rw [List.getElem?_take] at hj; split at hj; exact hj; cases hj)) (fun u hu => H1.out u (List.mem_of_mem_take hu)) (by unfold maxLen; omega) (by omega) (by simp) ?_
        intro v' w1 hown' hgrow hat
        obtain ⟨ao, cap', rfl, _⟩ := ownsRow_slice hown'
        obtain ⟨cf, ff, cb0, cb1, cb2⟩ := HG.out w1 hgrow
        have HOW := hid hown'
        have HGR := hid hgrow
        have HAT := hid hat
        clear hown' hgrow hat)
      all_goals go_wp2
      all_goals go_ret
      all_goals (have R := write_close_seen H.out HOO.out HOW.out HGR.out HAT.out)
      all_goals (refine ⟨rfl, _, R.1, ?_, R.2.2⟩)
      all_goals (have R2 := R.2.1)
      all_goals (rw [Int.toNat_natCast, List.length_append, HT.out]; exact R2)
  · rcases Nat.eq_or_lt_of_le hsc with hq | hq
    · subst hq
      go_enter Try.func72, Try.ntmps72
      go_wp2
      all_goals go_region_law (
        refine step_append_own rfl (.tmp 34) (.tmp 37) 39 rfl 0 5 i0 (.int .u8 0) 1 1 Try.underlying39 hi hz0 hz1 hz2 rfl (by decide) (.slice sa olds.length olds.length) olds.length olds (by simp [Act.eval, Act.put]) HO.out a xs.length c xs (by simp [Act.eval, Act.put]) (by simp) HC.out H1.out (by unfold maxLen; omega) (by omega) (by simp) ?_
        intro v' w1 hown' hgrow hat
        obtain ⟨ao, cap', rfl, _⟩ := ownsRow_slice hown'
        obtain ⟨cf, ff, cb0, cb1, cb2⟩ := HG.out w1 hgrow
        have HOW := hid hown'
        have HGR := hid hgrow
        have HAT := hid hat
        clear hown' hgrow hat)
      all_goals go_wp2
      all_goals go_ret
      all_goals (have R := write_close_seen H.out HOO.out HOW.out HGR.out HAT.out)
      all_goals (refine ⟨rfl, _, R.1, ?_, R.2.2⟩)
      all_goals (have R2 := R.2.1)
      all_goals (rw [List.take_of_length_le (by omega), List.length_append]; exact R2)
    · go_enter Try.func72, Try.ntmps72
      go_wp2
      all_goals go_region_law (
        refine step_append_own rfl (.tmp 34) (.tmp 37) 39 rfl 0 5 i0 (.int .u8 0) 1 1 Try.underlying39 hi hz0 hz1 hz2 rfl (by decide) (.slice sa olds.length sc) olds.length olds (by simp [Act.eval, Act.put]) HO.out a xs.length c xs (by simp [Act.eval, Act.put]) (by simp) HC.out H1.out (by unfold maxLen; omega) (by omega) (by simp) ?_
        intro v' w1 hown' hgrow hat
        obtain ⟨ao, cap', rfl, _⟩ := ownsRow_slice hown'
        obtain ⟨cf, ff, cb0, cb1, cb2⟩ := HG.out w1 hgrow
        have HOW := hid hown'
        have HGR := hid hgrow
        have HAT := hid hat
        clear hown' hgrow hat)
      all_goals go_wp2
      all_goals go_ret
      all_goals (have R := write_close_seen H.out HOO.out HOW.out HGR.out HAT.out)
      all_goals (refine ⟨rfl, _, R.1, ?_, R.2.2⟩)
      all_goals (have R2 := R.2.1)
      all_goals (rw [List.take_of_length_le (by omega), List.length_append]; exact R2)

end Go.Proofs.Ytilgagmnifbdpaa
