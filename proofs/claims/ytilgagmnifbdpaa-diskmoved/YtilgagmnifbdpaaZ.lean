/-
  What Names answers on a disk of one name.
-/
import Derived.Test.YtilgagmnifbdpaaY
import Derived.Test.YtilgagmnifbdpaaIter
namespace Go.Proofs.Ytilgagmnifbdpaa
open Go.ChangeShapes Go.WideShapes Go.ChangeAt Go.RowKit Go.Maps Go.Sort Go.Shelf

theorem one_map {w : World} {m0 : Nat} {s : ByteArray} {v : Value} {bn ck : Nat} (hbn : bn < ck) (hs : s.size ≤ maxLen) (hm : w.heap[m0]? = some (.map #[⟨.string s, v, bn⟩] ck)) :
    w.ownsMap (H := Unit) Try.prog 9 (fun _ => some (.nil, [])) m0 1 (.map [(.string s.data.toList, .nil)]) := by
  have hk : keyOf Try.prog 9 (.string s) = some (.string s.data.toList) := by
    simp [keyOf, mapKey, Try.underlying9, hs]
  have hr : WideElems.rd (H := Unit) Try.prog 9 (fun _ => some (.nil, [])) ⟨.string s, v, bn⟩ = some (.string s.data.toList, .nil) := by
    simp [WideElems.rd, hk]
  refine ⟨_, _, hm, ⟨by simp [maxLen], ?_, fun x hx => ?_⟩, by simp, ?_⟩
  · exact ⟨by simpa using hbn, by simp, by simp⟩
  · simp at hx; subst hx; exact ⟨_, hr⟩
  · simp [WideElems.rg, hr, DataW.insert]

set_option maxRecDepth 100000 in
set_option maxHeartbeats 1000000 in
theorem names_one {w : World} {b m0 m1 : Nat} {cap used made cnt fail halt : Int} {pv : Value} (h : DB w b cap m0 m1 pv used made cnt fail halt false) {s : ByteArray} {v : Value} {bn ck : Nat} (hbn : bn < ck) (hs : s.size ≤ maxLen) (hm : w.heap[m0]? = some (.map #[⟨.string s, v, bn⟩] ck)) :
    Calls Try.prog 10 #[.pointer (some ⟨b, 0, none⟩)] w fun e w' => ∃ v', e = .returned (.tuple #[v', .int .i64 0]) ∧ w'.ownsRow w.heap.size 9 1 v' 1 [.string s] ∧ Fr [] w w' := by
  have c1 : w.cell? ⟨b, 1, none⟩ = some (.map (some m0)) := by rw [blk_cell h]; rfl
  have c9 : w.cell? ⟨b, 9, none⟩ = some (.bool false) := by rw [blk_cell h]; rfl
  have hown := hid (one_map hbn hs hm)
  have hmx : Maps.size (DataW.map [(Lit.string s.data.toList, DataW.nil)] : DataW Unit) ≤ maxLen := by show 1 ≤ maxLen; unfold maxLen; omega
  have hby : Maps.size (DataW.map [(Lit.string s.data.toList, DataW.nil)] : DataW Unit) * 16 ≤ 140737488355328 := by show 1 * 16 ≤ 140737488355328; omega
  clear h hm
  refine (callsIn_wide (n := 6)).1 ?_
  have hfK : Fence.wide.fn 23 := trivial
  have hfS : Fence.wide.fn 22 := trivial
  refine callsIn_of_wp Try.func10 rfl trivial ?_ rfl
  simp only [Try.ntmps10, List.size_toArray, List.length_cons, List.length_nil, Nat.reduceAdd, Nat.reduceSub, Array.replicate_succ, Array.replicate_zero, List.push_toArray, List.append_toArray, List.nil_append, List.cons_append]
  gi_wp2_with (first
    | (gi_at_call 23; refine (Try.maps_Keys_23 _ _).mono ?_; rintro e w' ⟨rfl, rfl⟩)
    | (gi_at_call 22; go_must (refine (Try.slices_Sorted_keys_22_23 m0 1 (.map [(.string s.data.toList, .nil)]) (fun _ => some (.nil, [])) w hown.out hmx hby).mono ?_; rintro e w' ⟨v', ss, rfl, hS, hrow, hnil, hb⟩)))
  go_ret2
  have hss : ss = [s.data.toList] := List.perm_singleton.1 hS
  subst hss
  have hrow' : w'.ownsRow (w.alloc (.cells #[.map (some m0)] 42)).heap.size 9 1 v' 1 [.string s] := by simpa [encStr] using hrow
  refine ⟨v', rfl, ownsRow_base hrow' (by simp), ?_⟩
  exact ⟨hb.os, hb.tape, hb.output, Nat.le_trans (by simp) hb.size, fun k hk _ => (hb.block k (by simp; omega)).trans (blk_old _ _ hk)⟩
end Go.Proofs.Ytilgagmnifbdpaa
