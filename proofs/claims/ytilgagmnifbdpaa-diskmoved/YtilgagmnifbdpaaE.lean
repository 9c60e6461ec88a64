/-
  What a directory and a file do with a change: it is done on the seen side, and pending.
-/
import Derived.Test.YtilgagmnifbdpaaD
namespace Go.Proofs.Ytilgagmnifbdpaa
open Go.ChangeShapes Go.WideShapes Go.ChangeAt Go.RowKit

theorem infoC : (Try.prog.info? 76).map (fun i => (i.zero, i.size, i.bytes)) = some (some .nilIface, 1, 16) := by kernel_rfl
/-- A creation, as a pending change. -/
def cr (b : Nat) (s : ByteArray) (fb : Nat) : Value := .iface 59 (.agg #[.pointer (some ⟨b, 1, none⟩), .string s, .pointer (some ⟨fb, 0, none⟩)])
/-- A write, as a pending change. -/
def wrt (fb : Nat) (n : Int) (bv : Value) : Value := .iface 82 (.agg #[.pointer (some ⟨fb, 0, none⟩), .int .i64 n, bv])

theorem sub_l {b : Nat} {S P : List Nat} : ∀ k ∈ b :: S, k ∈ b :: (S ++ P) := fun k hk => by
  rcases List.mem_cons.1 hk with rfl | hk
  · exact List.mem_cons_self
  · exact List.mem_cons_of_mem _ (List.mem_append_left _ hk)
theorem sub_r {b : Nat} {S P : List Nat} : ∀ k ∈ b :: P, k ∈ b :: (S ++ P) := fun k hk => by
  rcases List.mem_cons.1 hk with rfl | hk
  · exact List.mem_cons_self
  · exact List.mem_cons_of_mem _ (List.mem_append_right _ hk)

/-- Behind an append to a row of pending changes whose slice lies in a cell, and the store of the new slice. -/
theorem pend_close {w w1 : World} {x : Value} {b o : Nat} {cs : Array Value} {t : TypeId} {pv v' : Value} {n n' : Nat} {ps qs : List Value} (h : w.heap[b]? = some (.cells cs t (0, 0))) (ht : 76 ≠ t) (ho : w.ownsRow 0 76 1 pv n ps)
    (hown : w1.ownsRow 0 76 1 v' n' qs) (hg : (w.alloc (.cells #[x] 76)).grownBy w1 pv.ownBlock) (hat : v'.ownBlock = pv.ownBlock ∨ v'.ownBlock = some (w.alloc (.cells #[x] 76)).heap.size) :
    (w1.setCell ⟨b, o, none⟩ v').heap[b]? = some (.cells (cs.setIfInBounds o v') t (0, 0)) ∧ (w1.setCell ⟨b, o, none⟩ v').ownsRow 0 76 1 v' n' qs ∧ Fr (b :: pv.ownBlock.toList) w (w1.setCell ⟨b, o, none⟩ v') ∧
      (v'.ownBlock = pv.ownBlock ∨ ∃ k, v'.ownBlock = some k ∧ w.heap.size ≤ k) := by
  have hne := ownsRow_ne ho h ht
  have h1 : w1.heap[b]? = some (.cells cs t (0, 0)) := by rw [hg.block b (by have := blk_lt h; simp; omega) (Ne.symm hne), blk_old _ _ (blk_lt h)]; exact h
  refine ⟨blk_set h1 _ _, ?_, ?_, ?_⟩
  · refine ownsRow_of_block hown fun k hk => blk_setne _ _ _ ?_
    intro e; subst e; exact ownsRow_ne hown h1 ht hk
  · refine (((Fr.refl _ _).alloc _).grown hg fun k hk => .inl ?_).set _ _ (.inl (by simp))
    rw [hk]; simp
  · rcases hat with hat | hat
    · exact .inl hat
    · exact .inr ⟨_, hat, by simp⟩

set_option maxHeartbeats 1000000 in
theorem do_create {w : World} {b m0 m1 : Nat} {cap used made cnt fail halt : Int} {pv : Value} {down : Bool} (h : DB w b cap m0 m1 pv used made cnt fail halt down)
    {es : Array MapEntry} {clk : Nat} {s : ByteArray} {fb : Nat} (hm : w.heap[m0]? = some (.map es clk)) (hs : SK es.toList) (hv : lk es.toList s = none)
    {ps : List Value} (hp : w.ownsRow 0 76 1 pv ps.length ps) (hp1 : ps.length ≤ 1000000) :
    Calls Try.prog 15 #[.pointer (some ⟨b, 3, none⟩), cr b s fb] w fun e w' => e = .returned (.tuple #[]) ∧ ∃ pv', DB w' b cap m0 m1 pv' used made cnt fail halt down ∧
      w'.ownsRow 0 76 1 pv' (ps ++ [cr b s fb]).length (ps ++ [cr b s fb]) ∧ w'.heap[m0]? = some (.map (es.push ⟨.string s, .pointer (some ⟨fb, 0, none⟩), clk⟩) (clk + 1)) ∧
      Fr (m0 :: b :: pv.ownBlock.toList) w w' ∧ (pv'.ownBlock = pv.ownBlock ∨ ∃ k, pv'.ownBlock = some k ∧ w.heap.size ≤ k) := by
  obtain ⟨i0, hi, hz0, hz1, hz2⟩ := info_parts infoC
  have hne : m0 ≠ b := by intro e; subst e; unfold DB at h; rw [hm] at h; cases h
  have H := hid h
  have HM := hid hm
  have HS := hid hs
  have HV := hid hv
  have HP := hid hp
  clear h hm hs hv hp
  unfold cr
  go_enter Try.func15, Try.ntmps15
  go_wp2_with fail
  refine (create_seen H.out HM.out HS.out HV.out _ (by omega) (by omega)).mono ?_
  rintro e w1 ⟨rfl, hm1, hf1⟩
  have hd1 : DB w1 b cap m0 m1 pv used made cnt fail halt down := hf1.at H.out (by simp [Ne.symm hne])
  have hp1' : w1.ownsRow 0 76 1 pv ps.length ps := ownsRow_of_block HP.out fun k hk => hf1.block k (HP.out.lt k hk).2 (by
    intro e; simp at e; subst e; exact ownsRow_nemap HP.out HM.out hk)
  obtain ⟨pa, pc, rfl, hpc⟩ := ownsRow_slice hp1'
  have c3 : w1.cell? ⟨b, 3, none⟩ = some (.slice pa ps.length pc) := by rw [blk_cell hd1]; rfl
  have f3 : w1.frozen? ⟨b, 3, none⟩ = false := blk_frozen hd1 3
  have hblt := blk_lt hd1
  have hbne := hid (ownsRow_ne hp1' hd1 (by decide))
  have HD1 := hid hd1
  have HP1 := hid hp1'
  have HM1 := hid hm1
  have HF1 := hid hf1
  clear hd1 hp1' hm1 hf1
  go_wp2_with (
    at_builtin
    go_must (
    refine wpList_append_own_at _ rfl _ _ 45 rfl 0 76 i0 .nilIface 1 16 Try.underlying45 hi hz0 hz1 hz2 rfl (by decide) (.slice pa ps.length pc) ps.length ps (by simp [Act.eval]) (HP1.out.alloc _) ⟨w1.heap.size, 0, none⟩ 1 1 [cr b s fb] (by simp [Act.eval]) rfl (cell_one_new _ _ _) (by simp [cr, Value.oneCell']) (by unfold maxLen; omega) (by omega) (by simp) ?_
    intro v' w2 hown' hgrow hnil hat
    obtain ⟨ao, cap', rfl, _⟩ := ownsRow_slice hown'
    have cf : w2.cell? ⟨b, 3, none⟩ = some (.slice pa ps.length pc) := by rw [World.cell?_of_block (w := w1) (by rw [hgrow.block b (by simp; omega) (Ne.symm hbne.out), blk_old _ _ hblt])]; exact c3
    have ff : w2.frozen? ⟨b, 3, none⟩ = false := by rw [World.frozen?_of_block (w := w1) (by rw [hgrow.block b (by simp; omega) (Ne.symm hbne.out), blk_old _ _ hblt])]; exact f3
    have HOW := hid hown'
    have HGR := hid hgrow
    have HAT := hid hat
    clear hown' hgrow hat hnil))
  go_end0
  have R := pend_close (o := 3) HD1.out (by decide) HP1.out HOW.out HGR.out HAT.out
  have hsz := HF1.out.size
  refine ⟨rfl, _, R.1, by rw [List.length_append]; exact R.2.1, ?_, (HF1.out.mono (by simp)).trans (R.2.2.1.mono fun k hk => List.mem_cons_of_mem _ hk), ?_⟩
  · refine R.2.2.1.at HM1.out ?_
    have := ownsRow_nemap HP1.out HM1.out
    simp only [List.mem_cons, Option.mem_toList, not_or]
    exact ⟨hne, this⟩
  · rcases R.2.2.2 with hat | ⟨k, hk, hk2⟩
    · exact .inl hat
    · exact .inr ⟨k, hk, by omega⟩

set_option maxHeartbeats 1000000 in
theorem do_write {w : World} {fb : Nat} {num : Int} {sv uv pv bv : Value} {olds xs ps : List Value} (h : FB w fb num sv uv pv) (ho : w.ownsRow 0 5 1 sv olds.length olds)
    (hr : Rd w bv xs) (hb : Bts xs) (hx : 0 < xs.length) (hx1 : xs.length ≤ 100000000) (ho1 : olds.length ≤ 100000000) (hp : w.ownsRow 0 76 1 pv ps.length ps) (hp1 : ps.length ≤ 1000000) :
    Calls Try.prog 15 #[.pointer (some ⟨fb, 3, none⟩), wrt fb olds.length bv] w fun e w' => e = .returned (.tuple #[]) ∧ ∃ v' pv', FB w' fb num v' uv pv' ∧
      w'.ownsRow 0 5 1 v' (olds ++ xs).length (olds ++ xs) ∧ w'.ownsRow 0 76 1 pv' (ps ++ [wrt fb olds.length bv]).length (ps ++ [wrt fb olds.length bv]) ∧
      Fr (fb :: (sv.ownBlock.toList ++ pv.ownBlock.toList)) w w' ∧ (v'.ownBlock = sv.ownBlock ∨ ∃ k, v'.ownBlock = some k ∧ w.heap.size ≤ k) ∧ (pv'.ownBlock = pv.ownBlock ∨ ∃ k, pv'.ownBlock = some k ∧ w.heap.size ≤ k) := by
  obtain ⟨i0, hi, hz0, hz1, hz2⟩ := info_parts infoC
  have H := hid h
  have HO := hid ho
  have HR := hid hr
  have HB := hid hb
  have HP := hid hp
  clear h ho hr hb hp
  unfold wrt
  go_enter Try.func15, Try.ntmps15
  go_wp2_with fail
  refine (write_seen H.out HO.out HR.out HB.out hx _ (by omega) (by omega) hx1 ho1).mono ?_
  rintro e w1 ⟨rfl, v1, hd1, ho1', hf1, hat1⟩
  rw [List.take_of_length_le (by omega)] at ho1'
  have hp1' : w1.ownsRow 0 76 1 pv ps.length ps := ownsRow_of_block HP.out fun k hk => hf1.block k (HP.out.lt k hk).2 (by
    intro e
    simp only [List.mem_cons, Option.mem_toList] at e
    rcases e with rfl | e
    · exact ownsRow_ne HP.out H.out (by decide) hk
    · rcases HO.out.2 with ⟨e2, _⟩ | ⟨g, cap, cur, e2, _, e3, _⟩
      · rw [e2] at e; simp [Value.ownBlock] at e
      · rw [e2] at e; simp [Value.ownBlock] at e; subst e; exact ownsRow_ne HP.out e3 (by decide) hk)
  obtain ⟨pa, pc, rfl, hpc⟩ := ownsRow_slice hp1'
  have c3 : w1.cell? ⟨fb, 3, none⟩ = some (.slice pa ps.length pc) := by rw [blk_cell hd1]; rfl
  have f3 : w1.frozen? ⟨fb, 3, none⟩ = false := blk_frozen hd1 3
  have hblt := blk_lt hd1
  have hbne := hid (ownsRow_ne hp1' hd1 (by decide))
  have HD1 := hid hd1
  have HO1 := hid ho1'
  have HP1 := hid hp1'
  have HF1 := hid hf1
  have HAT1 := hid hat1
  clear hd1 hp1' ho1' hf1 hat1
  go_wp2_with (
    at_builtin
    go_must (
    refine wpList_append_own_at _ rfl _ _ 45 rfl 0 76 i0 .nilIface 1 16 Try.underlying45 hi hz0 hz1 hz2 rfl (by decide) (.slice pa ps.length pc) ps.length ps (by simp [Act.eval]) (HP1.out.alloc _) ⟨w1.heap.size, 0, none⟩ 1 1 [wrt fb olds.length bv] (by simp [Act.eval]) rfl (cell_one_new _ _ _) (by simp [wrt, Value.oneCell']) (by unfold maxLen; omega) (by omega) (by simp) ?_
    intro v' w2 hown' hgrow hnil hat
    obtain ⟨ao, cap', rfl, _⟩ := ownsRow_slice hown'
    have cf : w2.cell? ⟨fb, 3, none⟩ = some (.slice pa ps.length pc) := by rw [World.cell?_of_block (w := w1) (by rw [hgrow.block fb (by simp; omega) (Ne.symm hbne.out), blk_old _ _ hblt])]; exact c3
    have ff : w2.frozen? ⟨fb, 3, none⟩ = false := by rw [World.frozen?_of_block (w := w1) (by rw [hgrow.block fb (by simp; omega) (Ne.symm hbne.out), blk_old _ _ hblt])]; exact f3
    have HOW := hid hown'
    have HGR := hid hgrow
    have HAT := hid hat
    clear hown' hgrow hat hnil))
  go_end0
  have R := pend_close (o := 3) HD1.out (by decide) HP1.out HOW.out HGR.out HAT.out
  have hsz := HF1.out.size
  refine ⟨rfl, v1, _, R.1, ?_, by rw [List.length_append]; exact R.2.1, (HF1.out.mono sub_l).trans (R.2.2.1.mono sub_r), HAT1.out, ?_⟩
  · refine ownsRow_of_block HO1.out fun k hk => R.2.2.1.block k (HO1.out.lt k hk).2 ?_
    intro e
    simp only [List.mem_cons, Option.mem_toList] at e
    rcases e with rfl | e
    · exact ownsRow_ne HO1.out HD1.out (by decide) hk
    · rcases HP1.out.2 with ⟨e2, _⟩ | ⟨g, cap, cur, e2, _, e3, _⟩
      · rw [e2] at e; simp [Value.ownBlock] at e
      · rw [e2] at e; simp [Value.ownBlock] at e; subst e; exact ownsRow_ne HO1.out e3 (by decide) hk
  · rcases R.2.2.2 with hat | ⟨k, hk, hk2⟩
    · exact .inl hat
    · exact .inr ⟨k, hk, by omega⟩
end Go.Proofs.Ytilgagmnifbdpaa
