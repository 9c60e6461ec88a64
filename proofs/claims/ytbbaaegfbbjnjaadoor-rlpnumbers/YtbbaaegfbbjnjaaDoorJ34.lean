/-
  What bytes.Clone, slices.Grow of nothing and slices.Concat answer for bytes.
-/
import Derived.Test.YtbbaaegfbbjnjaaDoorJ14
import Derived.Test.YtbbaaegfbbjnjaaDoorFi3
import Derived.Test.YtbbaaegfbbjnjaaDoorJ33
import Derived.Lib.AppendZeros
import Derived.Test.YtbbaaegfbbjnjaaDoorJ02
import Derived.Laws.ResultCell
namespace Go.Proofs.YtbbaaegfbbjnjaaDoor
open Go.ChangeShapes Go.WideShapes Go.ChangeAt Go.RowKit

set_option maxHeartbeats 400000 in

theorem grow_own (w : World) (n : Nat) (hn : n ≤ maxLen) : (w.drew.alloc (.cells (Builtin.zeroCells (Value.int .u8 0).cells n ++ Builtin.zeroCells (Value.int .u8 0).cells (grownCap w n 0 5 - n)) 5)).ownsRow w.heap.size 5 1 (.slice (some ⟨w.heap.size, 0, none⟩) 0 (grownCap w n 0 5)) 0 [] := by
  have h1 := grownCap_ge w n 0 5
  refine ⟨rfl, .inr ⟨w.heap.size, grownCap w n 0 5, _, rfl, Nat.le_refl _, blk_new w.drew _, Nat.zero_le _, grownCap_le_maxLen w n 0 _ hn, ?_, by simp⟩⟩
  simp only [Array.size_append, size_zeroCells, Value.cells]
  simp; omega

/-- Lists of bytes one behind the other. -/
def catN (X : Nat → List Nat) : Nat → List Nat
  | 0 => []
  | k + 1 => catN X k ++ X k

end Go.Proofs.YtbbaaegfbbjnjaaDoor
namespace Go.Proofs.YtbbaaegfbbjnjaaDoor
open Go.ChangeShapes Go.WideShapes Go.ChangeAt Go.RowKit

/-- May these be a user key's length, a sequence number, a kind? -/
def vb (l s : Nat) (k : Int) : Bool := decide (l ≤ 128) && (decide (s ≤ 72057594037927935) && (k == 0 || k == 1))
/-- The bytes of an internal key. -/
def keyL (u : List Nat) (s k : Nat) : List Nat := u ++ fixL (256 * s + k) 8

theorem key_val {s k : Nat} (hs : s ≤ 72057594037927935) (hk : k ≤ 1) : bits .or .u64 ((s : Int) * 256) (k : Int) = ((256 * s + k : Nat) : Int) := by
  rw [show (s : Int) * 256 = ((s * 256 : Nat) : Int) from by omega, u64_or_nat _ _ (by omega) (by omega), nat_join 8 (s * 256) k (by omega) (by omega)]
  omega

end Go.Proofs.YtbbaaegfbbjnjaaDoor
namespace Go.Proofs.YtbbaaegfbbjnjaaDoor
open Go.ChangeShapes Go.WideShapes Go.ChangeAt Go.RowKit

/-- Are these bytes an internal key? -/
def isK (b : List Nat) : Bool := decide (8 ≤ b.length) && (decide (b.length ≤ 136) && decide (unf (b.drop (b.length - 8)) % 256 ≤ 1))
def tailN (b : List Nat) : Nat := unf (b.drop (b.length - 8))
def userL (b : List Nat) : List Nat := b.take (b.length - 8)

theorem Rd.back {w : World} {b off c : Nat} {ns : List Nat} (h : Rd w (.slice (some ⟨b, off, none⟩) ns.length c) (bv ns)) {q : Nat} (hq : q ≤ ns.length) : Rd w (.slice (some ⟨b, off + q, none⟩) (ns.length - q) (c - q)) (bv (ns.drop q)) := by
  rcases h with ⟨h, _⟩ | ⟨a, c', h, h4, h5⟩
  · cases h
  · simp only [Value.slice.injEq, Option.some.injEq] at h
    obtain ⟨rfl, _, rfl⟩ := h
    refine .inr ⟨_, _, by rw [bv_len, List.length_drop], by rw [bv_len] at h4 ⊢; rw [List.length_drop]; omega, fun j u hj => ?_⟩
    rw [bv_drop, List.getElem?_drop] at hj
    have := h5 _ _ hj
    rw [Addr.add_lit] at this ⊢
    rw [Nat.add_assoc]; exact this
theorem tailN_lt {b : List Nat} (hb : By b) (h : 8 ≤ b.length) : tailN b < 18446744073709551616 := by
  have := unf_lt _ (hb.drop (b.length - 8))
  rw [List.length_drop, show b.length - (b.length - 8) = 8 from by omega] at this
  exact this

theorem and255 {t : Nat} (h : t < 18446744073709551616) : bits .and .u64 (t : Int) 255 = ((t % 256 : Nat) : Int) := by
  have := u64_and_nat t 255 h (by omega)
  rw [nat_mask8] at this
  exact this

/-- What split hands over. -/
def spv (b : List Nat) (u : Value) : Value := if isK b then .tuple #[.agg #[u, .int .u64 ((tailN b / 256 : Nat) : Int), .int .i64 ((tailN b % 256 : Nat) : Int)], .int .i64 0] else .tuple #[.agg #[.slice none 0 0, .int .u64 0, .int .i64 0], .int .i64 23]

/-- A slice of at least 8 bytes lies in memory. -/
theorem Rd.place {w : World} {v : Value} {b : List Nat} (hr : Rd w v (bv b)) (h : 0 < b.length) : ∃ q off c, v = .slice (some ⟨q, off, none⟩) b.length c ∧ b.length ≤ c := by
  rcases hr.split with ⟨rfl, _⟩ | ⟨q, off, c, rfl, h1, _, _⟩
  · simp at h
  · exact ⟨q, off, c, rfl, h1⟩
theorem isK_len {b : List Nat} (h : isK b = true) : 8 ≤ b.length ∧ b.length ≤ 136 ∧ tailN b % 256 ≤ 1 := by
  unfold isK at h
  simp only [Bool.and_eq_true, decide_eq_true_eq] at h
  exact h
end Go.Proofs.YtbbaaegfbbjnjaaDoor
namespace Go.Proofs.YtbbaaegfbbjnjaaDoor
open Go.ChangeShapes Go.WideShapes Go.ChangeAt Go.RowKit

end Go.Proofs.YtbbaaegfbbjnjaaDoor
namespace Go.Proofs.YtbbaaegfbbjnjaaDoor
open Go.ChangeShapes Go.WideShapes Go.ChangeAt Go.RowKit

theorem infoR : (Tryd.prog.info? 25).map (fun i => (i.zero, i.size, i.bytes)) = some (some (.slice none 0 0), 1, 24) := by kernel_rfl

/-- A list of lists of bytes that can be read. -/
def RdL (w : World) (v : Value) (rs : List (List Nat)) : Prop :=
  ∃ a c, v = .slice a rs.length c ∧ (0 < rs.length → ∃ b off, a = some ⟨b, off, none⟩ ∧ ∀ (j : Nat) (r : List Nat), rs[j]? = some r → ∃ a' c', w.cell? ⟨b, off + j, none⟩ = some (.slice a' r.length c') ∧ Rd w (.slice a' r.length c') (bv r) ∧ By r ∧ r.length ≤ 140737488355328)
theorem RdL.fr {w w' : World} {v : Value} {rs : List (List Nat)} (h : RdL w v rs) (f : Fr [] w w') : RdL w' v rs := by
  obtain ⟨a, c, h1, h2⟩ := h
  refine ⟨a, c, h1, fun h0 => ?_⟩
  obtain ⟨b, off, h3, h4⟩ := h2 h0
  refine ⟨b, off, h3, fun j r hj => ?_⟩
  obtain ⟨a', c', k1, k2, k3⟩ := h4 j r hj
  refine ⟨a', c', ?_, k2.fr f, k3⟩
  rw [World.cell?_of_block (w := w) (f.block _ (World.block_lt_of_cell? w _ k1) (by simp))]; exact k1
theorem RdL.by {w : World} {v : Value} {rs : List (List Nat)} (h : RdL w v rs) : ∀ r ∈ rs, By r := fun r hr => by
  obtain ⟨a, c, h1, h2⟩ := h
  obtain ⟨b, off, h3, h4⟩ := h2 (List.length_pos_of_mem hr)
  obtain ⟨j, hj⟩ := List.getElem?_of_mem hr
  obtain ⟨a', c', k1, k2, k3, _⟩ := h4 j r hj
  exact k3
theorem RdL.front {w : World} {a : Option Addr} {n c : Nat} {rs : List (List Nat)} (h : RdL w (.slice a n c) rs) {k : Nat} (hk : k ≤ rs.length) : RdL w (.slice a k c) (rs.take k) := by
  obtain ⟨a', c', h1, h2⟩ := h
  simp only [Value.slice.injEq] at h1
  obtain ⟨rfl, rfl, rfl⟩ := h1
  refine ⟨a, c, by rw [List.length_take, Nat.min_eq_left hk], fun h0 => ?_⟩
  rw [List.length_take] at h0
  obtain ⟨b, off, h3, h4⟩ := h2 (by omega)
  refine ⟨b, off, h3, fun j r hj => h4 j r ?_⟩
  rw [List.getElem?_take] at hj
  split at hj
  · exact hj
  · cases hj

/-- The elements of a list of the call's own: each can be read, and lies in a block of its own from B on. -/
def Lst (w : World) (B : Nat) (qs : List (Option Nat)) (rs : List (List Nat)) (cs : List Value) : Prop :=
  cs.length = rs.length ∧ ∀ (j : Nat) (r : List Nat), rs[j]? = some r → ∃ u, cs[j]? = some u ∧ Rd w u (bv r) ∧ By r ∧ r.length ≤ 140737488355328 ∧ ∀ k, u.ownBlock = some k → B ≤ k ∧ k < w.heap.size ∧ ∀ q ∈ qs, q ≠ some k
theorem Lst.nil (w : World) (B : Nat) (qs : List (Option Nat)) : Lst w B qs [] [] := ⟨rfl, fun j r h => by simp at h⟩
/-- Blocks from B on stay but for those of qs; those of qs' are of qs, or new. -/
theorem Lst.step {w w' : World} {B : Nat} {qs qs' : List (Option Nat)} {rs : List (List Nat)} {cs : List Value} (h : Lst w B qs rs cs) (hs : w.heap.size ≤ w'.heap.size) (hf : ∀ k, B ≤ k → k < w.heap.size → (∀ q ∈ qs, q ≠ some k) → w'.heap[k]? = w.heap[k]?) (hq : ∀ q ∈ qs', q ∈ qs ∨ ∀ k, q = some k → w.heap.size ≤ k) : Lst w' B qs' rs cs := by
  refine ⟨h.1, fun j r hj => ?_⟩
  obtain ⟨u, h1, h2, h3, h3', h4⟩ := h.2 j r hj
  refine ⟨u, h1, h2.step fun k hk => hf k (h4 k hk).1 (h4 k hk).2.1 (h4 k hk).2.2, h3, h3', fun k hk => ⟨(h4 k hk).1, by have := (h4 k hk).2.1; omega, fun q hq' e => ?_⟩⟩
  rcases hq q hq' with x | x
  · exact (h4 k hk).2.2 q x e
  · have := x k e; have := (h4 k hk).2.1; omega
theorem Lst.snoc {w : World} {B : Nat} {qs : List (Option Nat)} {rs : List (List Nat)} {cs : List Value} (h : Lst w B qs rs cs) {u : Value} {r : List Nat} (h1 : Rd w u (bv r)) (h2 : By r) (h3 : r.length ≤ 140737488355328) (h4 : ∀ k, u.ownBlock = some k → B ≤ k ∧ k < w.heap.size ∧ ∀ q ∈ qs, q ≠ some k) : Lst w B qs (rs ++ [r]) (cs ++ [u]) := by
  refine ⟨by simp [h.1], fun j r' hj => ?_⟩
  by_cases hjl : j < rs.length
  · rw [List.getElem?_append_left hjl] at hj
    obtain ⟨u', k1, k2⟩ := h.2 j r' hj
    exact ⟨u', by rw [List.getElem?_append_left (by rw [h.1]; exact hjl)]; exact k1, k2⟩
  · have hje : j = rs.length := by
      rcases Nat.lt_or_ge j (rs.length + 1) with h' | h'
      · omega
      · rw [List.getElem?_eq_none (by simp; omega)] at hj; cases hj
    subst hje
    rw [List.getElem?_append_right (Nat.le_refl _), Nat.sub_self] at hj
    simp at hj
    subst hj
    exact ⟨u, by rw [List.getElem?_append_right (by rw [h.1]; exact Nat.le_refl _), h.1, Nat.sub_self]; rfl, h1, h2, h3, h4⟩
/-- A list of the call's own. -/
def OwnL (w : World) (B : Nat) (v : Value) (rs : List (List Nat)) : Prop := ∃ cs, w.ownsRow B 25 1 v rs.length cs ∧ Lst w B [v.ownBlock] rs cs
theorem OwnL.rd {w : World} {B : Nat} {v : Value} {rs : List (List Nat)} (h : OwnL w B v rs) : RdL w v rs := by
  obtain ⟨cs, o, l⟩ := h
  rcases o.2 with ⟨rfl, h0⟩ | ⟨g, cap, cur, rfl, _, h3, h4, h5⟩
  · have : rs = [] := List.eq_nil_of_length_eq_zero h0
    subst this
    exact ⟨none, 0, rfl, fun h => by simp at h⟩
  · refine ⟨_, cap, rfl, fun _ => ⟨g, 0, rfl, fun j r hj => ?_⟩⟩
    obtain ⟨u, k1, k2, k3, k4, _⟩ := l.2 j r hj
    have := o.cells rfl j u k1
    rw [Addr.add_lit] at this
    obtain ⟨a', c', e⟩ := k2.form
    rw [bv_len] at e
    subst e
    exact ⟨a', c', this, k2, k3, k4⟩
/-- Blocks from B on stay. -/
theorem OwnL.step {w w' : World} {B : Nat} {v : Value} {rs : List (List Nat)} (h : OwnL w B v rs) (hs : w.heap.size ≤ w'.heap.size) (hf : ∀ k, B ≤ k → k < w.heap.size → w'.heap[k]? = w.heap[k]?) : OwnL w' B v rs := by
  obtain ⟨cs, o, l⟩ := h
  exact ⟨cs, ownsRow_of_block o fun k hk => hf k (o.lt k hk).1 (o.lt k hk).2, l.step hs (fun k k1 k2 _ => hf k k1 k2) (fun q hq => .inl hq)⟩
theorem OwnL.fr {w w' : World} {B : Nat} {v : Value} {rs : List (List Nat)} (h : OwnL w B v rs) (f : Fr [] w w') : OwnL w' B v rs := h.step f.size fun k _ k2 => f.block k k2 (by simp)

/-- Rows of unlike elements don't share a block. -/
theorem own_types {w : World} {B B' s s' n n' : Nat} {e e' : TypeId} {v v' : Value} {xs ys : List Value} (h : w.ownsRow B e s v n xs) (h' : w.ownsRow B' e' s' v' n' ys) (hne : e ≠ e') : ∀ k, v.ownBlock = some k → v'.ownBlock ≠ some k := by
  intro k hk hk'
  rcases h.2 with ⟨rfl, _⟩ | ⟨g, cap, cur, rfl, _, h3, _⟩
  · simp [Value.ownBlock] at hk
  · rcases h'.2 with ⟨rfl, _⟩ | ⟨g', cap', cur', rfl, _, h3', _⟩
    · simp [Value.ownBlock] at hk'
    · simp [Value.ownBlock] at hk hk'
      subst hk; subst hk'
      rw [h3] at h3'
      simp at h3'
      exact hne h3'.2

end Go.Proofs.YtbbaaegfbbjnjaaDoor
namespace Go.Proofs.YtbbaaegfbbjnjaaDoor
open Go.ChangeShapes Go.WideShapes Go.ChangeAt Go.RowKit Go.Deep

end Go.Proofs.YtbbaaegfbbjnjaaDoor
