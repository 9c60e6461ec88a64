/-
  What the fixed numbers of package codec answer, and the reference's.
-/
import Derived.Test.YtpacijcjcdigmaaJ02
import Derived.Lib.AppendZeros
import Derived.Laws.ResultCell
namespace Go.Proofs.Ytpacijcjcdigmaa
open Go.ChangeShapes Go.WideShapes Go.ChangeAt Go.RowKit

theorem pow8 (k : Nat) : 2 ^ (8 * k) = 256 ^ k := by rw [Nat.pow_mul]
theorem unf_take {ns : List Nat} {k x : Nat} (h : ns[k]? = some x) : unf (ns.take (k + 1)) = unf (ns.take k) + x * 2 ^ (8 * k) := by
  have hk : k < ns.length := by
    rcases Nat.lt_or_ge k ns.length with h1 | h1
    · exact h1
    · rw [List.getElem?_eq_none h1] at h; cases h
  rw [List.take_add_one, h]
  show unf (ns.take k ++ [x]) = _
  rw [unf_snoc, pow8, List.length_take, Nat.min_eq_left (by omega)]
theorem unf_take_lt {ns : List Nat} (hb : By ns) {k : Nat} (hk : k ≤ ns.length) : unf (ns.take k) < 2 ^ (8 * k) := by
  have := unf_lt _ (hb.take k)
  rwa [List.length_take, Nat.min_eq_left hk, ← pow8] at this
theorem shl8_lt {k m x : Nat} (hk : k ≤ 7) (hm : m < 2 ^ (8 * k)) (hx : x < 256) : m + x * 2 ^ (8 * k) < 18446744073709551616 := by
  have e2 : 2 ^ (8 * (k + 1)) = 256 * 2 ^ (8 * k) := by rw [show (256 : Nat) = 2 ^ 8 from rfl, ← Nat.pow_add]; congr 1; omega
  have h1 : 2 ^ (8 * (k + 1)) ≤ 2 ^ 64 := Nat.pow_le_pow_right (by omega) (by omega)
  have h2 : x * 2 ^ (8 * k) ≤ 255 * 2 ^ (8 * k) := Nat.mul_le_mul_right _ (by omega)
  omega
theorem unf_val {k m x : Nat} (hk : k ≤ 7) (hm : m < 2 ^ (8 * k)) (hx : x < 256) :
    bits .or .u64 (m : Int) (IntKind.u64.wrap ((x : Int) * 2 ^ (8 * k))) = ((m + x * 2 ^ (8 * k) : Nat) : Int) := by
  have hlt := shl8_lt hk hm hx
  rw [show ((x : Int) * 2 ^ (8 * k)) = ((x * 2 ^ (8 * k) : Nat) : Int) from by simp, wrap64_nat (by omega), u64_or_nat _ _ (by omega) (by omega), or_add hm (Nat.mul_mod_left _ _)]

/-- The first bytes of a slice. -/
theorem Rd.front {w : World} {b off c : Nat} {ns : List Nat} (h : Rd w (.slice (some ⟨b, off, none⟩) ns.length c) (bv ns)) {q : Nat} (hq : q ≤ ns.length) : Rd w (.slice (some ⟨b, off, none⟩) q c) (bv (ns.take q)) := by
  rcases h with ⟨h, _⟩ | ⟨a, c', h, h4, h5⟩
  · cases h
  · simp only [Value.slice.injEq, Option.some.injEq] at h
    obtain ⟨rfl, _, rfl⟩ := h
    refine .inr ⟨_, _, by rw [bv_len, List.length_take, Nat.min_eq_left hq], by rw [bv_len] at h4 ⊢; rw [List.length_take]; omega, fun j u hj => h5 j u ?_⟩
    rw [bv_take, List.getElem?_take] at hj
    split at hj
    · exact hj
    · cases hj
end Go.Proofs.Ytpacijcjcdigmaa
namespace Go.Proofs.Ytpacijcjcdigmaa
open Go.ChangeShapes Go.WideShapes Go.ChangeAt Go.RowKit

theorem set_fix (n k z : Nat) (hk : k < z) : (bv (fixL n k ++ List.replicate (z - k) 0)).set k (.int .u8 ((n / 2 ^ (8 * k) % 256 : Nat) : Int)) = bv (fixL n (k + 1) ++ List.replicate (z - (k + 1)) 0) := by
  rw [fixL_snoc, pow8, show z - k = (z - (k + 1)) + 1 from by omega, List.replicate_succ, List.append_assoc, bv_append, bv_append, List.set_append, if_neg (by rw [bv_len, fixL_len]; omega), bv_len, fixL_len, Nat.sub_self]
  rfl
theorem fix_val (n k : Nat) : ((n / 2 ^ (8 * k) % 256 : Nat) : Int) = (n : Int) / 2 ^ (8 * k) % 256 := by simp

end Go.Proofs.Ytpacijcjcdigmaa
namespace Go.Proofs.Ytpacijcjcdigmaa
open Go.ChangeShapes Go.WideShapes Go.ChangeAt Go.RowKit

theorem grow_own (w : World) (n : Nat) (hn : n ≤ maxLen) : (w.drew.alloc (.cells (Builtin.zeroCells (Value.int .u8 0).cells n ++ Builtin.zeroCells (Value.int .u8 0).cells (grownCap w n 0 5 - n)) 5)).ownsRow w.heap.size 5 1 (.slice (some ⟨w.heap.size, 0, none⟩) 0 (grownCap w n 0 5)) 0 [] := by
  have h1 := grownCap_ge w n 0 5
  refine ⟨rfl, .inr ⟨w.heap.size, grownCap w n 0 5, _, rfl, Nat.le_refl _, blk_new w.drew _, Nat.zero_le _, grownCap_le_maxLen w n 0 _ hn, ?_, by simp⟩⟩
  simp only [Array.size_append, size_zeroCells, Value.cells]
  simp; omega

/-- Lists of bytes one behind the other. -/
def catN (X : Nat → List Nat) : Nat → List Nat
  | 0 => []
  | k + 1 => catN X k ++ X k

end Go.Proofs.Ytpacijcjcdigmaa
namespace Go.Proofs.Ytpacijcjcdigmaa
open Go.ChangeShapes Go.WideShapes Go.ChangeAt Go.RowKit

/-- May these be a user key's length, a sequence number, a kind? -/
def vb (l s : Nat) (k : Int) : Bool := decide (l ≤ 128) && (decide (s ≤ 72057594037927935) && (k == 0 || k == 1))
/-- The bytes of an internal key. -/
def keyL (u : List Nat) (s k : Nat) : List Nat := u ++ fixL (256 * s + k) 8

theorem key_val {s k : Nat} (hs : s ≤ 72057594037927935) (hk : k ≤ 1) : bits .or .u64 ((s : Int) * 256) (k : Int) = ((256 * s + k : Nat) : Int) := by
  rw [show (s : Int) * 256 = ((s * 256 : Nat) : Int) from by omega, u64_or_nat _ _ (by omega) (by omega), nat_join 8 (s * 256) k (by omega) (by omega)]
  omega

end Go.Proofs.Ytpacijcjcdigmaa
namespace Go.Proofs.Ytpacijcjcdigmaa
open Go.ChangeShapes Go.WideShapes Go.ChangeAt Go.RowKit

/-- append(nil, x...). -/
theorem wpList_append_nil {w : World} {ops : Array Oper} {rest : List Oper} {o : Oper} {a : Act} {Q : Exit → Act → World → Prop} (hgd : o.guard = none) (s x : Operand)
    (ho : o.op = .call { callee := .builtin .append, args := #[s, x], argTypes := #[26, 26] }) (hs : a.eval s = .slice none 0 0) {w0 : World} (hf : Fr [] w0 w) (sx : Value) {ns : List Nat} (hr : Rd w sx (bv ns)) (hx : a.eval x = sx)
    (hl : ns.length ≤ 140737488355328)
    (h : ∀ v' w', w'.ownsRow w.heap.size 5 1 v' ns.length (bv ns) → Fr [] w w' → Fr [] w0 w' → wpList Try.prog ops Q rest (a.put o.dst v') w') :
    wpList Try.prog ops Q (o :: rest) a w := by
  refine wpList_append_rd hgd s x ho w.heap.size (Nat.le_refl _) (.slice none 0 0) 0 [] hs (World.ownsRow_nil _ _ _ _) sx _ hx hr bv_one (by rw [bv_len]; omega) fun v' w' o1 g1 _ => ?_
  have hf' : Fr [] w w' := (Fr.refl _ _).grown g1 (by simp [Value.ownBlock])
  refine h v' w' ?_ hf' (hf.trans hf')
  rw [bv_len, Nat.zero_add, List.nil_append] at o1
  exact o1
/-- append(own, x...). -/
theorem wpList_append_bv {w : World} {ops : Array Oper} {rest : List Oper} {o : Oper} {a : Act} {Q : Exit → Act → World → Prop} (hgd : o.guard = none) (s x : Operand)
    (ho : o.op = .call { callee := .builtin .append, args := #[s, x], argTypes := #[26, 26] }) {base : Nat} {v : Value} {xs : List Nat} (hown : w.ownsRow base 5 1 v xs.length (bv xs)) (hs : a.eval s = v) {w0 : World} (hf : Fr [] w0 w) (hb : w0.heap.size ≤ base) (hbw : base ≤ w.heap.size) (sx : Value) {ns : List Nat} (hr : Rd w sx (bv ns)) (hx : a.eval x = sx)
    (hl : xs.length + ns.length ≤ 140737488355328)
    (h : ∀ v' w', w'.ownsRow base 5 1 v' (xs.length + ns.length) (bv (xs ++ ns)) → Fr [] w0 w' → wpList Try.prog ops Q rest (a.put o.dst v') w') :
    wpList Try.prog ops Q (o :: rest) a w := by
  refine wpList_append_rd hgd s x ho base hbw v xs.length _ hs hown sx _ hx hr bv_one (by rw [bv_len]; omega) fun v' w' o1 g1 _ => ?_
  refine h v' w' ?_ (hf.grew hown hb g1)
  rw [bv_len] at o1
  rw [bv_append]
  exact o1
theorem Rd.ownN {w : World} {base n : Nat} {v : Value} {ns : List Nat} (h : w.ownsRow base 5 1 v n (bv ns)) (hn : n = ns.length) : Rd w v (bv ns) := by
  subst hn; exact Rd.ownB h
end Go.Proofs.Ytpacijcjcdigmaa
namespace Go.Proofs.Ytpacijcjcdigmaa
open Go.ChangeShapes Go.WideShapes Go.ChangeAt Go.RowKit

/-- Are these bytes an internal key? -/
def isK (b : List Nat) : Bool := decide (8 ≤ b.length) && (decide (b.length ≤ 136) && decide (unf (b.drop (b.length - 8)) % 256 ≤ 1))
def tailN (b : List Nat) : Nat := unf (b.drop (b.length - 8))
def userL (b : List Nat) : List Nat := b.take (b.length - 8)

theorem Rd.back {w : World} {b off c : Nat} {ns : List Nat} (h : Rd w (.slice (some ⟨b, off, none⟩) ns.length c) (bv ns)) {q : Nat} (hq : q ≤ ns.length) : Rd w (.slice (some ⟨b, off + q, none⟩) (ns.length - q) (c - q)) (bv (ns.drop q)) := by
  rcases h with ⟨h, _⟩ | ⟨a, c', h, h4, h5⟩
  · cases h
  · simp only [Value.slice.injEq, Option.some.injEq] at h
    obtain ⟨rfl, _, rfl⟩ := h
    refine .inr ⟨_, _, by rw [bv_len, List.length_drop], by rw [bv_len] at h4 ⊢; rw [List.length_drop]; omega, fun j u hj => ?_⟩
    rw [bv_drop, List.getElem?_drop] at hj
    have := h5 _ _ hj
    rw [Addr.add_lit] at this ⊢
    rw [Nat.add_assoc]; exact this
theorem tailN_lt {b : List Nat} (hb : By b) (h : 8 ≤ b.length) : tailN b < 18446744073709551616 := by
  have := unf_lt _ (hb.drop (b.length - 8))
  rw [List.length_drop, show b.length - (b.length - 8) = 8 from by omega] at this
  exact this

theorem and255 {t : Nat} (h : t < 18446744073709551616) : bits .and .u64 (t : Int) 255 = ((t % 256 : Nat) : Int) := by
  have := u64_and_nat t 255 h (by omega)
  rw [nat_mask8] at this
  exact this

/-- What split hands over. -/
def spv (b : List Nat) (u : Value) : Value := if isK b then .tuple #[.agg #[u, .int .u64 ((tailN b / 256 : Nat) : Int), .int .i64 ((tailN b % 256 : Nat) : Int)], .int .i64 0] else .tuple #[.agg #[.slice none 0 0, .int .u64 0, .int .i64 0], .int .i64 23]

/-- A slice of at least 8 bytes lies in memory. -/
theorem Rd.place {w : World} {v : Value} {b : List Nat} (hr : Rd w v (bv b)) (h : 0 < b.length) : ∃ q off c, v = .slice (some ⟨q, off, none⟩) b.length c ∧ b.length ≤ c := by
  rcases hr.split with ⟨rfl, _⟩ | ⟨q, off, c, rfl, h1, _, _⟩
  · simp at h
  · exact ⟨q, off, c, rfl, h1⟩
theorem isK_len {b : List Nat} (h : isK b = true) : 8 ≤ b.length ∧ b.length ≤ 136 ∧ tailN b % 256 ≤ 1 := by
  unfold isK at h
  simp only [Bool.and_eq_true, decide_eq_true_eq] at h
  exact h
end Go.Proofs.Ytpacijcjcdigmaa
namespace Go.Proofs.Ytpacijcjcdigmaa
open Go.ChangeShapes Go.WideShapes Go.ChangeAt Go.RowKit

theorem Rd.mid {w : World} {b off c : Nat} {ns : List Nat} (h : Rd w (.slice (some ⟨b, off, none⟩) ns.length c) (bv ns)) {i n : Nat} (hq : i + n ≤ ns.length) : Rd w (.slice (some ⟨b, off + i, none⟩) n (c - i)) (bv ((ns.drop i).take n)) := by
  rcases h with ⟨h, _⟩ | ⟨a, c', h, h4, h5⟩
  · cases h
  · simp only [Value.slice.injEq, Option.some.injEq] at h
    obtain ⟨rfl, _, rfl⟩ := h
    have hl : ((ns.drop i).take n).length = n := by rw [List.length_take, List.length_drop]; omega
    refine .inr ⟨_, _, by rw [bv_len, hl], by rw [bv_len] at h4 ⊢; rw [hl]; omega, fun j u hj => ?_⟩
    rw [bv_take, List.getElem?_take] at hj
    split at hj
    · rw [bv_drop, List.getElem?_drop] at hj
      have := h5 _ _ hj
      rw [Addr.add_lit] at this ⊢
      rw [Nat.add_assoc]; exact this
    · cases hj
theorem Rd.none_ {w : World} {a : Addr} {n c : Nat} {ns : List Nat} (h : ns.length = 0) (hn : n = 0) : Rd w (.slice (some a) n c) (bv ns) := by
  have : ns = [] := List.eq_nil_of_length_eq_zero h
  subst this
  subst hn
  exact .inr ⟨a, c, rfl, Nat.zero_le _, fun j u hj => by simp [bv] at hj⟩
end Go.Proofs.Ytpacijcjcdigmaa
