/-
  What split and Split of package codec answer, and the reference's Key and Split.
-/
import Derived.Test.YtplghoibadmdjaaDoorI
import Derived.Test.YtplghoibadmdjaaDoorAp
import Derived.Laws.ResultCell
namespace Go.Proofs.YtplghoibadmdjaaDoor
open Go.ChangeShapes Go.WideShapes Go.ChangeAt Go.RowKit

/-- Are these bytes an internal key? -/
def isK (b : List Nat) : Bool := decide (8 ≤ b.length) && (decide (b.length ≤ 136) && decide (unf (b.drop (b.length - 8)) % 256 ≤ 1))
def tailN (b : List Nat) : Nat := unf (b.drop (b.length - 8))
def userL (b : List Nat) : List Nat := b.take (b.length - 8)

theorem Rd.back {w : World} {b off c : Nat} {ns : List Nat} (h : Rd w (.slice (some ⟨b, off, none⟩) ns.length c) (bv ns)) {q : Nat} (hq : q ≤ ns.length) : Rd w (.slice (some ⟨b, off + q, none⟩) (ns.length - q) (c - q)) (bv (ns.drop q)) := by
  rcases h with ⟨h, _⟩ | ⟨a, c', h, h4, h5⟩
  · cases h
  · simp only [Value.slice.injEq, Option.some.injEq] at h
    obtain ⟨rfl, _, rfl⟩ := h
    refine .inr ⟨_, _, by rw [bv_len, List.length_drop], by rw [bv_len] at h4 ⊢; rw [List.length_drop]; omega, fun j u hj => ?_⟩
    rw [bv_drop, List.getElem?_drop] at hj
    have := h5 _ _ hj
    rw [Addr.add_lit] at this ⊢
    rw [Nat.add_assoc]; exact this
theorem tailN_lt {b : List Nat} (hb : By b) (h : 8 ≤ b.length) : tailN b < 18446744073709551616 := by
  have := unf_lt _ (hb.drop (b.length - 8))
  rw [List.length_drop, show b.length - (b.length - 8) = 8 from by omega] at this
  exact this

theorem and255 {t : Nat} (h : t < 18446744073709551616) : bits .and .u64 (t : Int) 255 = ((t % 256 : Nat) : Int) := by
  have := u64_and_nat t 255 h (by omega)
  rw [nat_mask8] at this
  exact this

/-- What split hands over. -/
def spv (b : List Nat) (u : Value) : Value := if isK b then .tuple #[.agg #[u, .int .u64 ((tailN b / 256 : Nat) : Int), .int .i64 ((tailN b % 256 : Nat) : Int)], .int .i64 0] else .tuple #[.agg #[.slice none 0 0, .int .u64 0, .int .i64 0], .int .i64 23]

/-- A slice of at least 8 bytes lies in memory. -/
theorem Rd.place {w : World} {v : Value} {b : List Nat} (hr : Rd w v (bv b)) (h : 0 < b.length) : ∃ q off c, v = .slice (some ⟨q, off, none⟩) b.length c ∧ b.length ≤ c := by
  rcases hr.split with ⟨rfl, _⟩ | ⟨q, off, c, rfl, h1, _, _⟩
  · simp at h
  · exact ⟨q, off, c, rfl, h1⟩
theorem isK_len {b : List Nat} (h : isK b = true) : 8 ≤ b.length ∧ b.length ≤ 136 ∧ tailN b % 256 ≤ 1 := by
  unfold isK at h
  simp only [Bool.and_eq_true, decide_eq_true_eq] at h
  exact h
end Go.Proofs.YtplghoibadmdjaaDoor
