/-
  What before of package mem answers: at each height the last entry that a place is behind.
-/
import Derived.Test.YtldcjkddalmkcaaMA
namespace Go.Proofs.Ytldcjkddalmkcaa
open Go.ChangeShapes Go.WideShapes Go.ChangeAt Go.RowKit

/-- What before has found down to height k. -/
def bfs (t : Nat) (pre : List E) (k : Nat) : List Value := (List.range 12).map fun i => if i < k then .pointer none else pt (bfr (t, 1) pre i)
theorem bfs_tw (t : Nat) (pre : List E) (k : Nat) : Tw (bfs t pre k) := by
  refine ⟨by unfold bfs; simp, fun v hv => ?_⟩
  unfold bfs at hv
  obtain ⟨i, _, rfl⟩ := List.mem_map.1 hv
  split
  · exact ⟨_, rfl⟩
  · exact ⟨_, rfl⟩
theorem bfs_all (t : Nat) (pre : List E) : bfs t pre 12 = List.replicate 12 (.pointer none) := by
  apply List.ext_getElem?
  intro i
  unfold bfs
  rw [List.getElem?_map]
  by_cases hi : i < 12
  · rw [List.getElem?_range hi, List.getElem?_replicate, if_pos hi]
    show some (if i < 12 then _ else _) = _
    rw [if_pos hi]
  · rw [List.getElem?_eq_none (by simp; omega), List.getElem?_eq_none (by simp; omega)]; rfl
theorem bfs_set (t : Nat) (pre : List E) {i : Nat} (hi : i < 12) : (bfs t pre (i + 1)).set i (pt (bfr (t, 1) pre i)) = bfs t pre i := by
  apply List.ext_getElem?
  intro j
  unfold bfs
  rw [List.getElem?_set, List.getElem?_map, List.getElem?_map]
  by_cases hj : j < 12
  · rw [List.getElem?_range hj]
    by_cases e : i = j
    · subst e
      rw [if_pos rfl, if_pos (by simp; exact hi)]
      show _ = some (if i < i then _ else _)
      rw [if_neg (by omega)]
    · rw [if_neg e]
      show some (if j < i + 1 then _ else _) = some (if j < i then _ else _)
      by_cases h : j < i
      · rw [if_pos h, if_pos (by omega)]
      · rw [if_neg h, if_neg (by omega)]
  · rw [List.getElem?_eq_none (by simp; omega), if_neg (by omega)]; rfl
theorem bfs_at (t : Nat) (pre : List E) {i : Nat} (hi : i < 12) : (bfs t pre 0)[i]? = some (pt (bfr (t, 1) pre i)) := by
  unfold bfs; rw [List.getElem?_map, List.getElem?_range hi]; show some (if i < 0 then _ else _) = _; rw [if_neg (by omega)]

structure BfSt (w wr : World) (t : Nat) (pre post : List E) (k : Nat) (p : Nat × Nat) (left : List E) : Prop where
  fr : Fr [] w wr
  lst : wr.heap[w.heap.size + 1]? = some (.cells (bfs t pre k).toArray 68 (0, 0))
  res : wr.heap[w.heap.size]? = some (.cells (List.replicate 12 (.pointer none)).toArray 68 (0, 0))
  pl : At w p (left ++ post) k
  sub : ∃ d, pre = d ++ left
  bf : ∀ i, i < k → bfr (t, 1) pre i = bfr p left i
  lf : lft pre.length pre (pt p) = left.length
theorem BfSt.fr' {w wr w2 : World} {t : Nat} {pre post : List E} {k : Nat} {p : Nat × Nat} {left : List E} (h : BfSt w wr t pre post k p left) (f : Fr [] wr w2) : BfSt w w2 t pre post k p left :=
  ⟨h.fr.trans f, f.at h.lst (by simp), f.at h.res (by simp), h.pl, h.sub, h.bf, h.lf⟩
theorem BfSt.go {w wr : World} {t B : Nat} {pre post l1 l2 : List E} {i : Nat} {p : Nat × Nat} {e : E} (h : BfSt w wr t pre post (i + 1) p (l1 ++ e :: l2)) (hc : Chain w B (pre ++ post)) (hnd : ((pre ++ post).map E.b).Nodup) (hi : i < 12) (he : i < e.h) : BfSt w wr t pre post (i + 1) (e.b, 0) l2 := by
  obtain ⟨d, hd⟩ := h.sub
  have hx : EntB w B e (l2 ++ post) := by
    apply Chain.mid (l := d ++ l1)
    rw [hd] at hc
    simpa [List.append_assoc] using hc
  refine ⟨h.fr, h.lst, h.res, hx.at (by omega) (by omega), ⟨d ++ l1 ++ [e], by rw [hd]; simp⟩, fun j hj => ?_, ?_⟩
  · rw [h.bf j hj]; exact bfr_mid p l1 l2 (by omega)
  · have hnd' : ((d ++ l1 ++ e :: l2).map E.b).Nodup := by
      rw [List.map_append] at hnd
      have := (List.nodup_append.1 hnd).1
      rw [hd] at this
      simpa [List.append_assoc] using this
    have := lft_mid pre.length (d ++ l1) l2 e 0 hnd'
    rw [hd]
    rw [hd] at this
    simpa [List.append_assoc] using this
theorem BfSt.down {w wr : World} {t : Nat} {pre post left : List E} {i : Nat} {p : Nat × Nat} (h : BfSt w wr t pre post (i + 1) p left) (hi : i < 12) (hn : ∀ e ∈ left, e.h ≤ i) : BfSt w (wr.setCell ⟨w.heap.size + 1, i, none⟩ (pt p)) t pre post i p left := by
  have hb := h.bf i (by omega)
  rw [bfr_none hn] at hb
  refine ⟨h.fr.set _ _ (.inr (Nat.le_succ _)), ?_, ?_, h.pl.mono (Nat.le_succ _), h.sub, fun j hj => h.bf j (by omega), h.lf⟩
  · rw [lst_set h.lst, ← bfs_set t pre hi, hb]
  · rw [blk_setne _ _ _ (by omega)]; exact h.res
end Go.Proofs.Ytldcjkddalmkcaa
