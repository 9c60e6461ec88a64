/-
  How the arguments that a statement hands over are opened: bytes.
-/
import Derived.Test.YtbbaaegfbbjnjaaDoorJ02
import Derived.ShutString
import Derived.ChangeOld
import Derived.SizedLaws
import Derived.Deep.Matrix
import Derived.Test.YtbbaaegfbbjnjaaDoorNg
namespace Go.Proofs.YtbbaaegfbbjnjaaDoor
open Go.ChangeShapes Go.WideShapes Go.ChangeAt Go.RowKit Go.Deep

theorem ownKnobs : ownKnob Tryd.prog.godebug = none := by kernel_rfl
theorem laidOut : laidOutB Tryd.prog = true := by kernel_rfl

theorem nat_of {n : Int} (h : 0 ≤ n) : ∃ m : Nat, n = (m : Int) := ⟨n.toNat, by omega⟩

/-- Bytes that came in. -/
theorem bytes_of {H : Type} {enc : TypeId × Value → H} {W : World} {ua : Option Addr} {len uc : Nat} {d : DataW H} {ps : List MemPlace} (h : DataW.Trod enc Tryd.prog W 0 (fun _ => true) true 25 (.slice ua len uc) d ps)
    (hw : ∀ n ∈ d.weights Tryd.prog 25, n ≤ reachBytes) : ∃ ns : List Nat, ns.length = len ∧ Rd W (.slice ua len uc) (bv ns) ∧ By ns ∧ len ≤ 140737488351232 := by
  obtain ⟨fuel, hf⟩ := h
  rcases open_ints Tryd.underlying25 Tryd.underlying5 (by kernel_rfl) hf with ⟨hcs, _⟩ | ⟨a, l, c, zs, hcs, _, hl, hm, hz, hx, hcell, hwf⟩
  · simp [Value.cells] at hcs
    obtain ⟨rfl, rfl, rfl⟩ := hcs
    exact ⟨[], rfl, .inl ⟨rfl, rfl⟩, fun u hu => by simp at hu, by omega⟩
  · simp [Value.cells] at hcs
    obtain ⟨rfl, rfl, rfl⟩ := hcs
    simp only [Prod.mk.injEq] at hx
    obtain ⟨rfl, _⟩ := hx
    simp only [if_true] at hz
    have hXl : ((zs.take len).map Int.toNat).length = len := by rw [List.length_map, List.length_take]; omega
    have hb : ∀ z ∈ zs, 0 ≤ z ∧ z ≤ 255 := fun z hz' => bounds_u8 (hwf z hz')
    refine ⟨(zs.take len).map Int.toNat, hXl, .inr ⟨a, uc, by rw [bv_len, hXl], by rw [bv_len, hXl]; exact hl, fun j u hj => ?_⟩, fun u hu => ?_, ?_⟩
    · have hjl : j < len := by
        rcases Nat.lt_or_ge j len with h | h
        · exact h
        · rw [List.getElem?_eq_none (by rw [bv_len, hXl]; omega)] at hj; cases hj
      have hjz : j < zs.length := by omega
      rw [hcell j hjz]
      unfold bv at hj
      rw [List.getElem?_map, List.getElem?_map, List.getElem?_take, if_pos hjl, List.getElem?_eq_getElem hjz] at hj
      simp only [Option.map_some, Option.some.injEq] at hj
      rw [← hj]
      have h0 := hb _ (List.getElem_mem hjz)
      simp only [List.getD, List.getElem?_eq_getElem hjz, Option.getD_some, Int.toNat_of_nonneg h0.1]
    · obtain ⟨n, hn, rfl⟩ := List.mem_map.1 hu
      have := hb n (List.mem_of_mem_take hn)
      omega
    · have h1 := hw (uc * Tryd.prog.bytesOf 5) (by
        simp only [DataW.weights, Tryd.underlying25]
        refine List.mem_cons.2 (.inl ?_)
        rw [lits, lits, List.length_map, List.length_map, List.length_take, List.length_drop, hz]
        congr 1; omega)
      rw [show Tryd.prog.bytesOf 5 = 1 from by kernel_rfl] at h1
      unfold reachBytes at h1
      omega
end Go.Proofs.YtbbaaegfbbjnjaaDoor
namespace Go.Proofs.YtbbaaegfbbjnjaaDoor
open Go.ChangeShapes Go.WideShapes Go.ChangeAt Go.RowKit

theorem cellsB1 : Tryd.prog.cellsOf 5 = 1 := by kernel_rfl
theorem cellsW32 : Tryd.prog.cellsOf 24 = 32 := by kernel_rfl
/-- A word that came in. -/
theorem word_of {H : Type} {enc : TypeId × Value → H} {W : World} {base : Nat} {v : Value} {d : DataW H} {ps : List MemPlace} (hv : Value.okWide Tryd.prog W .any base 24 v) (h : DataW.Trod enc Tryd.prog W 0 (fun _ => true) true 24 v d ps) : ∃ l : List Nat, v = .agg (bv l).toArray ∧ l.length = 32 ∧ By l := by
  obtain ⟨cs, rfl, hsz, _⟩ : ∃ cs, v = .agg cs ∧ cs.size = Tryd.prog.cellsOf 24 ∧ Row.okWide Tryd.prog W .any base 24 cs := by
    simpa [Value.okWide, Tryd.underlying24] using hv
  rw [cellsW32] at hsz
  obtain ⟨fuel, hf⟩ := h
  obtain ⟨xs, m, rfl, _, hl, hn, hel⟩ := DataW.trod_array Tryd.underlying24 hf
  have key : ∀ i, i < 32 → ∃ z : Nat, cs[i]? = some (.int .u8 (z : Int)) ∧ z < 256 := by
    intro i hi
    have h1 := hel i hi
    rw [cellsB1, Nat.mul_one, List.getElem?_eq_getElem (by omega)] at h1
    obtain ⟨z, hz, _, hw⟩ := DataW.trod_int Tryd.underlying5 h1
    have hb : 0 ≤ z ∧ z ≤ 255 := by simpa [Lit.wf, IntKind.min, IntKind.max, IntKind.signed, IntKind.bits] using hw
    refine ⟨z.toNat, ?_, by omega⟩
    rw [Int.toNat_of_nonneg hb.1]
    have h2 := congrArg (·[0]?) hz
    simp only [List.getElem?_take, List.getElem?_drop, Nat.add_zero, Value.cells] at h2
    simpa using h2
  have key2 : ∀ x ∈ cs.toList, ∃ z : Nat, x = .int .u8 (z : Int) ∧ z < 256 := by
    intro x hx
    obtain ⟨i, hi, he⟩ := List.mem_iff_getElem.1 hx
    have hi' : i < 32 := by rw [← hsz]; simpa using hi
    obtain ⟨z, hz, hb⟩ := key i hi'
    refine ⟨z, ?_, hb⟩
    rw [← Array.getElem?_toList, List.getElem?_eq_getElem hi, he] at hz
    exact Option.some.inj hz
  have key3 : ∀ ls : List Value, (∀ x ∈ ls, ∃ z : Nat, x = .int .u8 (z : Int) ∧ z < 256) → ∃ l : List Nat, ls = bv l ∧ By l := by
    intro ls
    induction ls with
    | nil => exact fun _ => ⟨[], rfl, fun x hx => by cases hx⟩
    | cons x r ih =>
      intro h
      obtain ⟨z, rfl, hz⟩ := h x (by simp)
      obtain ⟨l, rfl, hb⟩ := ih fun y hy => h y (by simp [hy])
      exact ⟨z :: l, rfl, fun y hy => by rcases List.mem_cons.1 hy with rfl | hy; exact hz; exact hb y hy⟩
  obtain ⟨l, hl2, hb⟩ := key3 cs.toList key2
  refine ⟨l, ?_, ?_, hb⟩
  · rw [← hl2]
  · have := congrArg List.length hl2
    rw [bv_len] at this
    rw [← this, ← hsz]; simp
end Go.Proofs.YtbbaaegfbbjnjaaDoor
namespace Go.Proofs.YtbbaaegfbbjnjaaDoor
open Go.ChangeShapes Go.WideShapes Go.ChangeAt Go.RowKit Go.Deep

theorem weightsAll_mem {H : Type} {P : Program} {e : TypeId} : ∀ {ds : List (DataW H)} {d : DataW H}, d ∈ ds → ∀ n ∈ d.weights P e, n ∈ DataW.weightsAll P e ds
  | [], _, h, _, _ => by cases h
  | x :: r, d, h, n, hn => by
    simp only [DataW.weightsAll, List.mem_append]
    rcases List.mem_cons.1 h with rfl | h
    · exact .inl hn
    · exact .inr (weightsAll_mem h n hn)

/-- A list of lists of bytes that came in. -/
def Rows2 (w : World) (la : Option Addr) (len : Nat) (A : Nat → Option Addr) (C : Nat → Nat) (X : Nat → List Nat) : Prop :=
  0 < len → ∃ lb lo, la = some ⟨lb, lo, none⟩ ∧ ∀ r, r < len → w.cell? ⟨lb, lo + r, none⟩ = some (.slice (A r) (X r).length (C r)) ∧ Rd w (.slice (A r) (X r).length (C r)) (bv (X r)) ∧ By (X r) ∧ (X r).length ≤ 140737488355328
/-- A list of numbers that came in. -/
def Nums (w : World) (na : Option Addr) (ln : Nat) (Y : Nat → Nat) : Prop :=
  0 < ln → ∃ nb no, na = some ⟨nb, no, none⟩ ∧ ∀ r, r < ln → w.cell? ⟨nb, no + r, none⟩ = some (.int .u64 (Y r : Int)) ∧ Y r < 18446744073709551616

end Go.Proofs.YtbbaaegfbbjnjaaDoor
namespace Go.Proofs.YtbbaaegfbbjnjaaDoor
open Go.ChangeShapes Go.WideShapes Go.ChangeAt Go.RowKit

theorem u8_of (n : Nat) : IntKind.u8.wrap (n : Int) = ((n % 256 : Nat) : Int) := by rw [IntKind.wrap_u8']; omega
theorem or128 (n : Nat) : bits .or .u8 ((n % 256 : Nat) : Int) 128 = ((n % 128 + 128 : Nat) : Int) := by
  have h := u8_or_nat (n % 256) 128 (by omega) (by omega)
  have e : n % 256 ||| 128 = n % 128 + 128 := by
    rcases Nat.lt_or_ge (n % 256) 128 with hl | hl
    · rw [Nat.or_comm]
      have := nat_join 7 128 (n % 256) (by decide) (by omega)
      omega
    · have h1 : n % 256 = 128 ||| (n % 128) := by
        have := nat_join 7 128 (n % 128) (by decide) (by omega)
        omega
      rw [h1, Nat.or_comm, ← Nat.or_assoc, Nat.or_self]
      have := nat_join 7 128 (n % 128) (by decide) (by omega)
      omega
  rw [e] at h
  exact h

end Go.Proofs.YtbbaaegfbbjnjaaDoor
namespace Go.Proofs.YtbbaaegfbbjnjaaDoor
open Go.ChangeShapes Go.WideShapes Go.ChangeAt Go.RowKit

theorem drop_at {ns : List Nat} {k : Nat} (h : k < ns.length) : ∃ x, ns[k]? = some x ∧ ns.drop k = x :: ns.drop (k + 1) :=
  ⟨ns[k], List.getElem?_eq_getElem h, List.drop_eq_getElem_cons h⟩
theorem tk_nil (i v : Nat) : tk i v [] = (0, 0, 20) := rfl
theorem tk_bad {i v x : Nat} {r : List Nat} (h : i = 9 ∧ 1 < x ∨ 0 < i ∧ x = 0) : tk i v (x :: r) = (0, 0, 21) := by rw [tk, if_pos h]
theorem tk_end {i v x : Nat} {r : List Nat} (h : ¬ (i = 9 ∧ 1 < x ∨ 0 < i ∧ x = 0)) (hx : x < 128) : tk i v (x :: r) = (v + x % 128 * 2 ^ (7 * i), i + 1, 0) := by rw [tk, if_neg h, if_pos hx]
theorem tk_on {i v x : Nat} {r : List Nat} (h : ¬ (i = 9 ∧ 1 < x ∨ 0 < i ∧ x = 0)) (hx : ¬ x < 128) : tk i v (x :: r) = tk (i + 1) (v + x % 128 * 2 ^ (7 * i)) r := by rw [tk, if_neg h, if_neg hx]

/-- A result of Take as the program hands it over. -/
def tkv (t : Nat × Nat × Nat) : Value := .tuple #[.int .u64 (t.1 : Int), .int .i64 (t.2.1 : Int), .int .i64 (t.2.2 : Int)]

theorem andNot128 {x : Nat} (hx : x < 256) : bits .andNot .u8 (x : Int) 128 = ((x % 128 : Nat) : Int) := by
  have h := u8_andNot_nat x 128 hx (by omega)
  have e : x &&& (255 - 128) = x % 128 := nat_mask7 x
  rw [e] at h; exact h
theorem wrap64_nat {n : Nat} (h : n < 18446744073709551616) : IntKind.u64.wrap (n : Int) = (n : Int) := by rw [IntKind.wrap_u64]; omega
theorem shl_lt {k m x : Nat} (hk : k ≤ 9) (hm : m < 2 ^ (7 * k)) (h9 : k = 9 → x ≤ 1) : m + x % 128 * 2 ^ (7 * k) < 18446744073709551616 := by
  have e2 : 2 ^ (7 * (k + 1)) = 128 * 2 ^ (7 * k) := by rw [show (128 : Nat) = 2 ^ 7 from rfl, ← Nat.pow_add]; congr 1; omega
  rcases Nat.lt_or_ge k 9 with h3 | h3
  · have h1 : 2 ^ (7 * (k + 1)) ≤ 2 ^ 63 := Nat.pow_le_pow_right (by omega) (by omega)
    have h2 : x % 128 * 2 ^ (7 * k) ≤ 127 * 2 ^ (7 * k) := Nat.mul_le_mul_right _ (by omega)
    omega
  · have h : k = 9 := by omega
    have := h9 h
    subst h
    have h4 : x % 128 ≤ 1 := by omega
    have h2 : x % 128 * 2 ^ (7 * 9) ≤ 1 * 2 ^ (7 * 9) := Nat.mul_le_mul_right _ h4
    omega
theorem or_add {a b i : Nat} (hb : b < 2 ^ i) (ha : a % 2 ^ i = 0) : b ||| a = b + a := by rw [Nat.or_comm, nat_join i a b ha hb, Nat.add_comm]
theorem take_val {k m x : Nat} (hk : k ≤ 9) (hm : m < 2 ^ (7 * k)) (hx : x < 256) (h9 : k = 9 → x ≤ 1) :
    bits .or .u64 (m : Int) (IntKind.u64.wrap (IntKind.u64.wrap (bits .andNot .u8 (x : Int) 128) * 2 ^ (7 * k))) = ((m + x % 128 * 2 ^ (7 * k) : Nat) : Int) := by
  have hlt := shl_lt hk hm h9
  rw [andNot128 hx, wrap64_nat (by omega), show (((x % 128 : Nat) : Int) * 2 ^ (7 * k)) = ((x % 128 * 2 ^ (7 * k) : Nat) : Int) from by simp, wrap64_nat (by omega), u64_or_nat _ _ (by omega) (by omega), or_add hm (Nat.mul_mod_left _ _)]

theorem take_ret {k m x : Nat} (hk : k ≤ 9) (hm : m < 2 ^ (7 * k)) (hx : x < 256) (h9 : k = 9 → x ≤ 1) :
    Ending.returned (.tuple #[.int .u64 (bits .or .u64 (m : Int) (IntKind.u64.wrap (IntKind.u64.wrap (bits .andNot .u8 (x : Int) 128) * 2 ^ (7 * k)))), .int .i64 ((k : Int) + 1), .int .i64 0]) = .returned (tkv (m + x % 128 * 2 ^ (7 * k), k + 1, 0)) := by
  rw [take_val hk hm hx h9]; rfl
theorem take_ret9 {k m x : Nat} (hk : k = 9) (hm : m < 2 ^ (7 * k)) (hx : x < 256) (h9 : x ≤ 1) :
    Ending.returned (.tuple #[.int .u64 (bits .or .u64 (m : Int) (IntKind.u64.wrap (IntKind.u64.wrap (bits .andNot .u8 (x : Int) 128) * 9223372036854775808))), .int .i64 10, .int .i64 0]) = .returned (tkv (m + x % 128 * 2 ^ (7 * k), k + 1, 0)) := by
  subst hk
  exact take_ret (k := 9) (by omega) hm hx fun _ => h9

end Go.Proofs.YtbbaaegfbbjnjaaDoor
namespace Go.Proofs.YtbbaaegfbbjnjaaDoor
open Go.ChangeShapes Go.WideShapes Go.ChangeAt Go.RowKit

theorem pow8 (k : Nat) : 2 ^ (8 * k) = 256 ^ k := by rw [Nat.pow_mul]
theorem unf_take {ns : List Nat} {k x : Nat} (h : ns[k]? = some x) : unf (ns.take (k + 1)) = unf (ns.take k) + x * 2 ^ (8 * k) := by
  have hk : k < ns.length := by
    rcases Nat.lt_or_ge k ns.length with h1 | h1
    · exact h1
    · rw [List.getElem?_eq_none h1] at h; cases h
  rw [List.take_add_one, h]
  show unf (ns.take k ++ [x]) = _
  rw [unf_snoc, pow8, List.length_take, Nat.min_eq_left (by omega)]
theorem unf_take_lt {ns : List Nat} (hb : By ns) {k : Nat} (hk : k ≤ ns.length) : unf (ns.take k) < 2 ^ (8 * k) := by
  have := unf_lt _ (hb.take k)
  rwa [List.length_take, Nat.min_eq_left hk, ← pow8] at this
theorem shl8_lt {k m x : Nat} (hk : k ≤ 7) (hm : m < 2 ^ (8 * k)) (hx : x < 256) : m + x * 2 ^ (8 * k) < 18446744073709551616 := by
  have e2 : 2 ^ (8 * (k + 1)) = 256 * 2 ^ (8 * k) := by rw [show (256 : Nat) = 2 ^ 8 from rfl, ← Nat.pow_add]; congr 1; omega
  have h1 : 2 ^ (8 * (k + 1)) ≤ 2 ^ 64 := Nat.pow_le_pow_right (by omega) (by omega)
  have h2 : x * 2 ^ (8 * k) ≤ 255 * 2 ^ (8 * k) := Nat.mul_le_mul_right _ (by omega)
  omega
theorem unf_val {k m x : Nat} (hk : k ≤ 7) (hm : m < 2 ^ (8 * k)) (hx : x < 256) :
    bits .or .u64 (m : Int) (IntKind.u64.wrap ((x : Int) * 2 ^ (8 * k))) = ((m + x * 2 ^ (8 * k) : Nat) : Int) := by
  have hlt := shl8_lt hk hm hx
  rw [show ((x : Int) * 2 ^ (8 * k)) = ((x * 2 ^ (8 * k) : Nat) : Int) from by simp, wrap64_nat (by omega), u64_or_nat _ _ (by omega) (by omega), or_add hm (Nat.mul_mod_left _ _)]

/-- The first bytes of a slice. -/
theorem Rd.front {w : World} {b off c : Nat} {ns : List Nat} (h : Rd w (.slice (some ⟨b, off, none⟩) ns.length c) (bv ns)) {q : Nat} (hq : q ≤ ns.length) : Rd w (.slice (some ⟨b, off, none⟩) q c) (bv (ns.take q)) := by
  rcases h with ⟨h, _⟩ | ⟨a, c', h, h4, h5⟩
  · cases h
  · simp only [Value.slice.injEq, Option.some.injEq] at h
    obtain ⟨rfl, _, rfl⟩ := h
    refine .inr ⟨_, _, by rw [bv_len, List.length_take, Nat.min_eq_left hq], by rw [bv_len] at h4 ⊢; rw [List.length_take]; omega, fun j u hj => h5 j u ?_⟩
    rw [bv_take, List.getElem?_take] at hj
    split at hj
    · exact hj
    · cases hj
end Go.Proofs.YtbbaaegfbbjnjaaDoor
namespace Go.Proofs.YtbbaaegfbbjnjaaDoor
open Go.ChangeShapes Go.WideShapes Go.ChangeAt Go.RowKit

theorem set_fix (n k z : Nat) (hk : k < z) : (bv (fixL n k ++ List.replicate (z - k) 0)).set k (.int .u8 ((n / 2 ^ (8 * k) % 256 : Nat) : Int)) = bv (fixL n (k + 1) ++ List.replicate (z - (k + 1)) 0) := by
  rw [fixL_snoc, pow8, show z - k = (z - (k + 1)) + 1 from by omega, List.replicate_succ, List.append_assoc, bv_append, bv_append, List.set_append, if_neg (by rw [bv_len, fixL_len]; omega), bv_len, fixL_len, Nat.sub_self]
  rfl
theorem fix_val (n k : Nat) : ((n / 2 ^ (8 * k) % 256 : Nat) : Int) = (n : Int) / 2 ^ (8 * k) % 256 := by simp

end Go.Proofs.YtbbaaegfbbjnjaaDoor
