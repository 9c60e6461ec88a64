/-
  What a renaming's apply does to a map of one name; what settle does with renamings one behind the other.
-/
import Derived.Test.YtilgagmnifbdpaaJ
namespace Go.Proofs.Ytilgagmnifbdpaa
open Go.ChangeShapes Go.WideShapes Go.ChangeAt Go.RowKit

/-- A renaming, as a pending change. -/
def rn (b : Nat) (s t : ByteArray) : Value := .iface 64 (.agg #[.pointer (some ⟨b, 1, none⟩), .string s, .string t])

theorem run_delete_first (w : World) (r : Nat) (s : ByteArray) (v : Value) (e : MapEntry) (bn clk : Nat) (ty : TypeId) (hs : (s == s) = true) (hb : w.heap[r]? = some (.map #[⟨.string s, v, bn⟩, e] clk)) :
    (Builtin.delete_ #[42, 9] ty #[.map (some r), .string s]).run Try.prog w = .ok (.tuple #[]) (ChangeMaps.setBlock w r (.map #[e] clk)) := by
  simp [Builtin.delete_, run_underlying Try.underlying42, run_getObj_at hb, run_checkKey _ 9999, run_underlying Try.underlying9, Instr.findKey, Instr.findNow, Instr.sameNow, hs, setObj, Sem.run, hb, ChangeMaps.setBlock]

set_option maxRecDepth 100000 in
set_option maxHeartbeats 1000000 in
theorem rename_seen {w : World} {b m0 m1 : Nat} {cap used made cnt fail halt : Int} {pv : Value} {down : Bool} (h : DB w b cap m0 m1 pv used made cnt fail halt down)
    {bn clk : Nat} {s t : ByteArray} {fb : Nat} (hm : w.heap[m0]? = some (.map #[⟨.string s, .pointer (some ⟨fb, 0, none⟩), bn⟩] clk)) (hss : (s == s) = true) (hst : (t == s) = false) (left : Int) (h0 : 0 < left) (h1 : left ≤ 9223372036854775807) :
    Calls Try.prog 71 #[.agg #[.pointer (some ⟨b, 1, none⟩), .string s, .string t], .int .i64 0, .int .i64 left] w fun e w' =>
      e = .returned (.int .i64 (left - 1)) ∧ w'.heap[m0]? = some (.map #[⟨.string t, .pointer (some ⟨fb, 0, none⟩), clk⟩] (clk + 1)) ∧ Fr [m0] w w' := by
  have c1 : w.cell? ⟨b, 1, none⟩ = some (.map (some m0)) := by rw [blk_cell h]; rfl
  have hlt := blk_lt hm
  have hblt := blk_lt h
  generalize hbx : Obj.cells #[.pointer (some ⟨b, 1, none⟩), .string s, .string t] 64 = bx
  have hm1 : (w.alloc bx).heap[m0]? = some (.map #[⟨.string s, .pointer (some ⟨fb, 0, none⟩), bn⟩] clk) := by rw [blk_old _ _ hlt]; exact hm
  have sk1 : SK [⟨.string s, .pointer (some ⟨fb, 0, none⟩), bn⟩] := fun e he => by simp at he; subst he; exact ⟨s, rfl⟩
  have hlk := run_lookup_some (w.alloc bx) m0 _ clk s (.pointer (some ⟨fb, 0, none⟩)) hm1 sk1 (by simp [lk, keyIs, List.find?, hss])
  obtain ⟨W1, hup, k1, k2, k3⟩ : ∃ W1, (Instr.mapUpdate 42 (.map (some m0)) (.string t) (.pointer (some ⟨fb, 0, none⟩))).run Try.prog (w.alloc bx) = .ok () W1 ∧
      W1.heap[m0]? = some (.map #[⟨.string s, .pointer (some ⟨fb, 0, none⟩), bn⟩, ⟨.string t, .pointer (some ⟨fb, 0, none⟩), clk⟩] (clk + 1)) ∧ Fr [m0] w W1 ∧ W1.heap[w.heap.size]? = some bx :=
    ⟨_, run_update_new (w.alloc bx) m0 _ clk t (.pointer (some ⟨fb, 0, none⟩)) hm1 sk1 (by simp [lk, keyIs, List.find?, hst]), blk_block (by simp; omega), ((Fr.refl _ w).alloc bx).block_ _ (.inl (by simp)), by rw [blk_blockne _ _ (by omega), blk_new]⟩
  obtain ⟨W2, hdl, k4, k5⟩ : ∃ W2, (∀ ty, (Builtin.delete_ #[42, 9] ty #[.map (some m0), .string s]).run Try.prog W1 = .ok (.tuple #[]) W2) ∧ W2.heap[m0]? = some (.map #[⟨.string t, .pointer (some ⟨fb, 0, none⟩), clk⟩] (clk + 1)) ∧ Fr [m0] w W2 :=
    ⟨_, fun ty => run_delete_first W1 m0 s _ _ bn (clk + 1) ty hss k1, blk_block (blk_lt k1), k2.block_ _ (.inl (by simp))⟩
  have hbc : W1.cell? ⟨w.heap.size, 1, none⟩ = some (.string s) := by rw [← hbx] at k3; rw [blk_cell k3]; rfl
  subst hbx
  have K4 := hid k4
  have K5 := hid k5
  clear h hm hm1 sk1 hss hst k1 k2 k3 k4 k5
  go_enter Try.func71, Try.ntmps71
  go_wp2
  go_ret
  exact ⟨rfl, K4.out, K5.out⟩
set_option maxRecDepth 100000 in
set_option maxHeartbeats 1000000 in
theorem rename_sure {w : World} {b m0 m1 : Nat} {cap used made cnt fail halt : Int} {pv : Value} {down : Bool} (h : DB w b cap m0 m1 pv used made cnt fail halt down)
    {bn clk : Nat} {s t : ByteArray} {fb : Nat} (hm : w.heap[m1]? = some (.map #[⟨.string s, .pointer (some ⟨fb, 0, none⟩), bn⟩] clk)) (hss : (s == s) = true) (hst : (t == s) = false) (left : Int) (h0 : 0 < left) (h1 : left ≤ 9223372036854775807) :
    Calls Try.prog 71 #[.agg #[.pointer (some ⟨b, 1, none⟩), .string s, .string t], .int .i64 1, .int .i64 left] w fun e w' =>
      e = .returned (.int .i64 (left - 1)) ∧ w'.heap[m1]? = some (.map #[⟨.string t, .pointer (some ⟨fb, 0, none⟩), clk⟩] (clk + 1)) ∧ Fr [m1] w w' := by
  have c1 : w.cell? ⟨b, 2, none⟩ = some (.map (some m1)) := by rw [blk_cell h]; rfl
  have hlt := blk_lt hm
  have hblt := blk_lt h
  generalize hbx : Obj.cells #[.pointer (some ⟨b, 1, none⟩), .string s, .string t] 64 = bx
  have hm1 : (w.alloc bx).heap[m1]? = some (.map #[⟨.string s, .pointer (some ⟨fb, 0, none⟩), bn⟩] clk) := by rw [blk_old _ _ hlt]; exact hm
  have sk1 : SK [⟨.string s, .pointer (some ⟨fb, 0, none⟩), bn⟩] := fun e he => by simp at he; subst he; exact ⟨s, rfl⟩
  have hlk := run_lookup_some (w.alloc bx) m1 _ clk s (.pointer (some ⟨fb, 0, none⟩)) hm1 sk1 (by simp [lk, keyIs, List.find?, hss])
  obtain ⟨W1, hup, k1, k2, k3⟩ : ∃ W1, (Instr.mapUpdate 42 (.map (some m1)) (.string t) (.pointer (some ⟨fb, 0, none⟩))).run Try.prog (w.alloc bx) = .ok () W1 ∧
      W1.heap[m1]? = some (.map #[⟨.string s, .pointer (some ⟨fb, 0, none⟩), bn⟩, ⟨.string t, .pointer (some ⟨fb, 0, none⟩), clk⟩] (clk + 1)) ∧ Fr [m1] w W1 ∧ W1.heap[w.heap.size]? = some bx :=
    ⟨_, run_update_new (w.alloc bx) m1 _ clk t (.pointer (some ⟨fb, 0, none⟩)) hm1 sk1 (by simp [lk, keyIs, List.find?, hst]), blk_block (by simp; omega), ((Fr.refl _ w).alloc bx).block_ _ (.inl (by simp)), by rw [blk_blockne _ _ (by omega), blk_new]⟩
  obtain ⟨W2, hdl, k4, k5⟩ : ∃ W2, (∀ ty, (Builtin.delete_ #[42, 9] ty #[.map (some m1), .string s]).run Try.prog W1 = .ok (.tuple #[]) W2) ∧ W2.heap[m1]? = some (.map #[⟨.string t, .pointer (some ⟨fb, 0, none⟩), clk⟩] (clk + 1)) ∧ Fr [m1] w W2 :=
    ⟨_, fun ty => run_delete_first W1 m1 s _ _ bn (clk + 1) ty hss k1, blk_block (blk_lt k1), k2.block_ _ (.inl (by simp))⟩
  have hbc : W1.cell? ⟨w.heap.size, 1, none⟩ = some (.string s) := by rw [← hbx] at k3; rw [blk_cell k3]; rfl
  subst hbx
  have K4 := hid k4
  have K5 := hid k5
  clear h hm hm1 sk1 hss hst k1 k2 k3 k4 k5
  go_enter Try.func71, Try.ntmps71
  go_wp2
  go_ret
  exact ⟨rfl, K4.out, K5.out⟩
end Go.Proofs.Ytilgagmnifbdpaa
