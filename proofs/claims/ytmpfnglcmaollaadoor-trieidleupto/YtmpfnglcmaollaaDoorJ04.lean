/-
  Items in memory, and the gate that counts them.
-/
import Derived.Test.YtmpfnglcmaollaaDoorJ03
import Derived.Deep.Light
import Derived.Test.YtmpfnglcmaollaaDoorJ01
import Derived.Lib.Bytealg
import Derived.Lib.BytesEntry
import Derived.Laws.Externs
namespace Go.Proofs.YtmpfnglcmaollaaDoor
open Go.ChangeShapes Go.WideShapes Go.ChangeAt Go.RowKit

/-- A value that is an item, as deep as it is looked at. -/
def IsV (w : World) : (n : Nat) → Value → Tr n → Prop
  | 0, v, _ => ∃ l a1 n1 c1 a2 n2 c2, v = .agg #[.bool l, .slice a1 n1 c1, .slice a2 n2 c2]
  | n + 1, v, t => ∃ bs ka kc, v = .agg #[.bool (tL t), bs, .slice ka (tK t).length kc] ∧ Rd w bs (bv (tB t)) ∧ By (tB t) ∧ (tB t).length ≤ 140737488355328 ∧ (tK t).length ≤ kc ∧ (tK t).length ≤ 140737488355328 ∧
      (0 < (tK t).length → ∃ kb ko, ka = some ⟨kb, ko, none⟩ ∧ ∀ (j : Nat) (k : Tr n), (tK t)[j]? = some k → ∃ l bs' is', w.cell? ⟨kb, ko + j * 3, none⟩ = some (.bool l) ∧ w.cell? ⟨kb, ko + j * 3 + 1, none⟩ = some bs' ∧ w.cell? ⟨kb, ko + j * 3 + 2, none⟩ = some is' ∧ IsV w n (.agg #[.bool l, bs', is']) k)

theorem cell_fr {w w' : World} {a : Addr} {v : Value} (h : w.cell? a = some v) (f : Fr [] w w') : w'.cell? a = some v := by
  rw [World.cell?_of_block (w := w) (f.block _ (World.block_lt_of_cell? w _ h) (by simp))]; exact h
theorem IsV.fr : ∀ {n : Nat} {w w' : World} {v : Value} {t : Tr n}, IsV w n v t → Fr [] w w' → IsV w' n v t
  | 0, _, _, _, _, h, _ => h
  | n + 1, w, w', v, t, h, f => by
    obtain ⟨bs, ka, kc, h1, h2, h3, h4, h5, h5', h6⟩ := h
    refine ⟨bs, ka, kc, h1, h2.fr f, h3, h4, h5, h5', fun h0 => ?_⟩
    obtain ⟨kb, ko, e, h7⟩ := h6 h0
    refine ⟨kb, ko, e, fun j k hj => ?_⟩
    obtain ⟨l, b', i', c1, c2, c3, c4⟩ := h7 j k hj
    exact ⟨l, b', i', cell_fr c1 f, cell_fr c2 f, cell_fr c3 f, c4.fr f⟩
theorem IsV.byT : ∀ {n : Nat} {w : World} {v : Value} {t : Tr n}, IsV w n v t → byT n t
  | 0, _, _, _, _ => trivial
  | n + 1, w, v, t, h => by
    obtain ⟨bs, ka, kc, h1, h2, h3, h4, h5, h5', h6⟩ := h
    refine ⟨h3, fun k hk => ?_⟩
    obtain ⟨j, hj⟩ := List.getElem?_of_mem hk
    have h0 : 0 < (tK t).length := List.length_pos_of_mem hk
    obtain ⟨kb, ko, e, h7⟩ := h6 h0
    obtain ⟨l, b', i', c1, c2, c3, c4⟩ := h7 j k hj
    exact c4.byT
/-- An item in three cells. -/
theorem IsV.agg {n : Nat} {w : World} {v : Value} {t : Tr n} (h : IsV w n v t) : ∃ l a1 n1 c1 a2 n2 c2, v = .agg #[.bool l, .slice a1 n1 c1, .slice a2 n2 c2] := by
  cases n with
  | zero => exact h
  | succ n =>
    obtain ⟨bs, ka, kc, h1, h2, _⟩ := h
    obtain ⟨a, c, rfl⟩ := h2.form
    exact ⟨_, _, _, _, _, _, _, h1⟩
theorem IsV.cells {n : Nat} {w : World} {l : Bool} {bs is : Value} {t : Tr n} (h : IsV w n (.agg #[.bool l, bs, is]) t) : ∃ a1 n1 c1 a2 n2 c2, bs = .slice a1 n1 c1 ∧ is = .slice a2 n2 c2 := by
  obtain ⟨l', a1, n1, c1, a2, n2, c2, e⟩ := h.agg
  simp only [Value.agg.injEq, Array.mk.injEq, List.cons.injEq] at e
  exact ⟨a1, n1, c1, a2, n2, c2, e.2.1, e.2.2.1⟩

set_option maxRecDepth 20000 in
theorem gate_no (w : World) {g d c : Nat} (hg : w.heap[g]? = some (.cells #[.int .i64 (c : Int)] 3 (0, 0))) (h : 16 < d ∨ c = 4096) (hd : d ≤ 100000) :
    Calls Tryd.prog 103 #[.int .i64 (d : Int), .pointer (some ⟨g, 0, none⟩)] w fun e w' => e = .returned (.int .i64 43) ∧ w' = w := by
  have hc := blk_cell hg 0
  simp at hc
  by_cases h1 : 16 < d
  · go_enter Tryd.func103, Tryd.ntmps103
    go_wp2
    go_ret
    exact ⟨rfl, rfl⟩
  · have h2 : c = 4096 := by omega
    subst h2
    go_enter Tryd.func103, Tryd.ntmps103
    go_wp2
    go_ret
    exact ⟨rfl, rfl⟩
set_option maxRecDepth 20000 in
theorem gate_yes (w : World) {g d c : Nat} (hg : w.heap[g]? = some (.cells #[.int .i64 (c : Int)] 3 (0, 0))) (h : d ≤ 16) (hc : c < 4096) :
    Calls Tryd.prog 103 #[.int .i64 (d : Int), .pointer (some ⟨g, 0, none⟩)] w fun e w' => e = .returned (.int .i64 0) ∧ w'.heap[g]? = some (.cells #[.int .i64 ((c + 1 : Nat) : Int)] 3 (0, 0)) ∧ Fr [g] w w' := by
  have hc1 := blk_cell hg 0
  have hf1 := blk_frozen hg 0
  simp at hc1
  have hz : ((c : Int) == 4096) = false := beq_eq_false_iff_ne.2 (by omega)
  have H : Hid ((w.setCell ⟨g, 0, none⟩ (.int .i64 ((c : Int) + 1))).heap[g]? = some (.cells #[.int .i64 ((c + 1 : Nat) : Int)] 3 (0, 0))) := by
    unfold Hid; rw [blk_set hg]; simp
  go_enter Tryd.func103, Tryd.ntmps103
  go_wp2
  go_ret
  exact ⟨rfl, H.out, (Fr.refl _ _).set _ _ (.inl (by simp))⟩
end Go.Proofs.YtmpfnglcmaollaaDoor
namespace Go.Proofs.YtmpfnglcmaollaaDoor
open Go.ChangeShapes Go.WideShapes Go.ChangeAt Go.RowKit

theorem u8_of (n : Nat) : IntKind.u8.wrap (n : Int) = ((n % 256 : Nat) : Int) := by rw [IntKind.wrap_u8']; omega
theorem or128 (n : Nat) : bits .or .u8 ((n % 256 : Nat) : Int) 128 = ((n % 128 + 128 : Nat) : Int) := by
  have h := u8_or_nat (n % 256) 128 (by omega) (by omega)
  have e : n % 256 ||| 128 = n % 128 + 128 := by
    rcases Nat.lt_or_ge (n % 256) 128 with hl | hl
    · rw [Nat.or_comm]
      have := nat_join 7 128 (n % 256) (by decide) (by omega)
      omega
    · have h1 : n % 256 = 128 ||| (n % 128) := by
        have := nat_join 7 128 (n % 128) (by decide) (by omega)
        omega
      rw [h1, Nat.or_comm, ← Nat.or_assoc, Nat.or_self]
      have := nat_join 7 128 (n % 128) (by decide) (by omega)
      omega
  rw [e] at h
  exact h

end Go.Proofs.YtmpfnglcmaollaaDoor
namespace Go.Proofs.YtmpfnglcmaollaaDoor
open Go.ChangeShapes Go.WideShapes Go.ChangeAt Go.RowKit

theorem drop_at {ns : List Nat} {k : Nat} (h : k < ns.length) : ∃ x, ns[k]? = some x ∧ ns.drop k = x :: ns.drop (k + 1) :=
  ⟨ns[k], List.getElem?_eq_getElem h, List.drop_eq_getElem_cons h⟩
theorem tk_nil (i v : Nat) : tk i v [] = (0, 0, 20) := rfl
theorem tk_bad {i v x : Nat} {r : List Nat} (h : i = 9 ∧ 1 < x ∨ 0 < i ∧ x = 0) : tk i v (x :: r) = (0, 0, 21) := by rw [tk, if_pos h]
theorem tk_end {i v x : Nat} {r : List Nat} (h : ¬ (i = 9 ∧ 1 < x ∨ 0 < i ∧ x = 0)) (hx : x < 128) : tk i v (x :: r) = (v + x % 128 * 2 ^ (7 * i), i + 1, 0) := by rw [tk, if_neg h, if_pos hx]
theorem tk_on {i v x : Nat} {r : List Nat} (h : ¬ (i = 9 ∧ 1 < x ∨ 0 < i ∧ x = 0)) (hx : ¬ x < 128) : tk i v (x :: r) = tk (i + 1) (v + x % 128 * 2 ^ (7 * i)) r := by rw [tk, if_neg h, if_neg hx]

/-- A result of Take as the program hands it over. -/
def tkv (t : Nat × Nat × Nat) : Value := .tuple #[.int .u64 (t.1 : Int), .int .i64 (t.2.1 : Int), .int .i64 (t.2.2 : Int)]

theorem andNot128 {x : Nat} (hx : x < 256) : bits .andNot .u8 (x : Int) 128 = ((x % 128 : Nat) : Int) := by
  have h := u8_andNot_nat x 128 hx (by omega)
  have e : x &&& (255 - 128) = x % 128 := nat_mask7 x
  rw [e] at h; exact h
theorem wrap64_nat {n : Nat} (h : n < 18446744073709551616) : IntKind.u64.wrap (n : Int) = (n : Int) := by rw [IntKind.wrap_u64]; omega
theorem shl_lt {k m x : Nat} (hk : k ≤ 9) (hm : m < 2 ^ (7 * k)) (h9 : k = 9 → x ≤ 1) : m + x % 128 * 2 ^ (7 * k) < 18446744073709551616 := by
  have e2 : 2 ^ (7 * (k + 1)) = 128 * 2 ^ (7 * k) := by rw [show (128 : Nat) = 2 ^ 7 from rfl, ← Nat.pow_add]; congr 1; omega
  rcases Nat.lt_or_ge k 9 with h3 | h3
  · have h1 : 2 ^ (7 * (k + 1)) ≤ 2 ^ 63 := Nat.pow_le_pow_right (by omega) (by omega)
    have h2 : x % 128 * 2 ^ (7 * k) ≤ 127 * 2 ^ (7 * k) := Nat.mul_le_mul_right _ (by omega)
    omega
  · have h : k = 9 := by omega
    have := h9 h
    subst h
    have h4 : x % 128 ≤ 1 := by omega
    have h2 : x % 128 * 2 ^ (7 * 9) ≤ 1 * 2 ^ (7 * 9) := Nat.mul_le_mul_right _ h4
    omega
theorem or_add {a b i : Nat} (hb : b < 2 ^ i) (ha : a % 2 ^ i = 0) : b ||| a = b + a := by rw [Nat.or_comm, nat_join i a b ha hb, Nat.add_comm]
theorem take_val {k m x : Nat} (hk : k ≤ 9) (hm : m < 2 ^ (7 * k)) (hx : x < 256) (h9 : k = 9 → x ≤ 1) :
    bits .or .u64 (m : Int) (IntKind.u64.wrap (IntKind.u64.wrap (bits .andNot .u8 (x : Int) 128) * 2 ^ (7 * k))) = ((m + x % 128 * 2 ^ (7 * k) : Nat) : Int) := by
  have hlt := shl_lt hk hm h9
  rw [andNot128 hx, wrap64_nat (by omega), show (((x % 128 : Nat) : Int) * 2 ^ (7 * k)) = ((x % 128 * 2 ^ (7 * k) : Nat) : Int) from by simp, wrap64_nat (by omega), u64_or_nat _ _ (by omega) (by omega), or_add hm (Nat.mul_mod_left _ _)]

theorem take_ret {k m x : Nat} (hk : k ≤ 9) (hm : m < 2 ^ (7 * k)) (hx : x < 256) (h9 : k = 9 → x ≤ 1) :
    Ending.returned (.tuple #[.int .u64 (bits .or .u64 (m : Int) (IntKind.u64.wrap (IntKind.u64.wrap (bits .andNot .u8 (x : Int) 128) * 2 ^ (7 * k)))), .int .i64 ((k : Int) + 1), .int .i64 0]) = .returned (tkv (m + x % 128 * 2 ^ (7 * k), k + 1, 0)) := by
  rw [take_val hk hm hx h9]; rfl
theorem take_ret9 {k m x : Nat} (hk : k = 9) (hm : m < 2 ^ (7 * k)) (hx : x < 256) (h9 : x ≤ 1) :
    Ending.returned (.tuple #[.int .u64 (bits .or .u64 (m : Int) (IntKind.u64.wrap (IntKind.u64.wrap (bits .andNot .u8 (x : Int) 128) * 9223372036854775808))), .int .i64 10, .int .i64 0]) = .returned (tkv (m + x % 128 * 2 ^ (7 * k), k + 1, 0)) := by
  subst hk
  exact take_ret (k := 9) (by omega) hm hx fun _ => h9

end Go.Proofs.YtmpfnglcmaollaaDoor
namespace Go.Proofs.YtmpfnglcmaollaaDoor
open Go.ChangeShapes Go.WideShapes Go.ChangeAt Go.RowKit

/-- How two rows of bytes stand. -/
def cmpN : List Nat → List Nat → Int
  | [], [] => 0
  | [], _ :: _ => -1
  | _ :: _, [] => 1
  | x :: a, y :: b => if x < y then -1 else if y < x then 1 else cmpN a b
theorem cmpN_val : ∀ (a b : List Nat), cmpN a b = -1 ∨ cmpN a b = 0 ∨ cmpN a b = 1
  | [], [] => .inr (.inl rfl)
  | [], _ :: _ => .inl rfl
  | _ :: _, [] => .inr (.inr rfl)
  | x :: a, y :: b => by
    unfold cmpN
    split
    · exact .inl rfl
    · split
      · exact .inr (.inr rfl)
      · exact cmpN_val a b
theorem cmpN_neg : ∀ (a b : List Nat), cmpN b a = -cmpN a b
  | [], [] => rfl
  | [], _ :: _ => rfl
  | _ :: _, [] => rfl
  | x :: a, y :: b => by
    unfold cmpN
    rcases Nat.lt_trichotomy x y with h | h | h
    · rw [if_neg (by omega), if_pos h, if_pos h]; rfl
    · rw [if_neg (by omega), if_neg (by omega), if_neg (by omega), if_neg (by omega), cmpN_neg a b]
    · rw [if_pos h, if_neg (by omega), if_pos h]
theorem cmpN_eq : ∀ (a b : List Nat), cmpN a b = 0 ↔ a = b
  | [], [] => by simp [cmpN]
  | [], _ :: _ => by simp [cmpN]
  | _ :: _, [] => by simp [cmpN]
  | x :: a, y :: b => by
    unfold cmpN
    rcases Nat.lt_trichotomy x y with h | h | h
    · rw [if_pos h]; simp; omega
    · rw [if_neg (by omega), if_neg (by omega), cmpN_eq a b]; simp [h]
    · rw [if_neg (by omega), if_pos h]; simp; omega
theorem cmpN_trans : ∀ (a b c : List Nat), cmpN a b ≤ 0 → cmpN b c ≤ 0 → cmpN a c ≤ 0
  | [], _, [], _, _ => by simp [cmpN]
  | [], _, _ :: _, _, _ => by simp [cmpN]
  | _ :: _, [], _, h, _ => by simp [cmpN] at h
  | _ :: _, _ :: _, [], _, h => by simp [cmpN] at h
  | x :: a, y :: b, z :: c, h1, h2 => by
    unfold cmpN at h1 h2 ⊢
    rcases Nat.lt_trichotomy x y with e1 | e1 | e1
    · rcases Nat.lt_trichotomy y z with e2 | e2 | e2
      · rw [if_pos (by omega)]; omega
      · rw [if_pos (by omega)]; omega
      · rw [if_neg (by omega), if_pos e2] at h2; omega
    · rcases Nat.lt_trichotomy y z with e2 | e2 | e2
      · rw [if_pos (by omega)]; omega
      · rw [if_neg (by omega), if_neg (by omega)] at h1 h2 ⊢
        exact cmpN_trans a b c h1 h2
      · rw [if_neg (by omega), if_pos e2] at h2; omega
    · rw [if_neg (by omega), if_pos e1] at h1; omega

theorem cmp_bytes : ∀ (a b : List Nat), By a → By b → Lib.compareBytes (a.map UInt8.ofNat) (b.map UInt8.ofNat) = cmpN a b
  | [], [], _, _ => rfl
  | [], _ :: _, _, _ => rfl
  | _ :: _, [], _, _ => rfl
  | x :: a, y :: b, ha, hb => by
    have hx := ha x (by simp); have hy := hb y (by simp)
    have e : ∀ {p q : Nat}, p < 256 → q < 256 → (UInt8.ofNat p < UInt8.ofNat q ↔ p < q) := by
      intro p q hp hq
      rw [UInt8.lt_iff_toNat_lt, UInt8.toNat_ofNat', UInt8.toNat_ofNat', Nat.mod_eq_of_lt hp, Nat.mod_eq_of_lt hq]
    have ih := cmp_bytes a b (fun n hn => ha n (List.mem_cons_of_mem _ hn)) (fun n hn => hb n (List.mem_cons_of_mem _ hn))
    simp only [List.map_cons, Lib.compareBytes, cmpN, e hx hy, e hy hx, ih]

theorem run_bytesOf {w : World} {v : Value} {a : List Nat} (h : Rd w v (bv a)) : (Extern.Bytes.bytesOf v).run Tryd.prog w = .ok ⟨(a.map UInt8.ofNat).toArray⟩ w := by
  rcases h with ⟨rfl, h⟩ | ⟨ad, c, rfl, _, h5⟩
  · have : a = [] := by simpa [bv] using h
    subst this
    rfl
  · have h := Lib.run_loadBytesX (P := Tryd.prog) w (a.map fun n : Nat => (n : Int)) ad .empty (fun j x hx => by
      rw [List.getElem?_map] at hx
      cases hn : a[j]? with
      | none => rw [hn] at hx; cases hx
      | some n => rw [hn] at hx; cases hx; exact h5 j _ (bv_at hn))
    rw [List.length_map] at h
    show (Extern.Bytes.loadBytes ad (bv a).length .empty).run Tryd.prog w = _
    rw [bv_len, h]
    congr 1
    apply ByteArray.ext
    simp [Lib.bytesOf, List.map_map, Function.comp_def]

/-- How two numbers stand. -/
def cmpI (x y : Int) : Int := if x < y then -1 else if y < x then 1 else 0

end Go.Proofs.YtmpfnglcmaollaaDoor
namespace Go.Proofs.YtmpfnglcmaollaaDoor
open Go.ChangeShapes Go.WideShapes Go.ChangeAt Go.RowKit

/-- Does a block hold a byte? -/
def U8 (w : World) (k : Nat) : Prop := ∃ p n, p.block = k ∧ w.cell? p = some (.int .u8 n)
theorem U8.lt {w : World} {k : Nat} (h : U8 w k) : k < w.heap.size := by
  obtain ⟨p, n, rfl, h⟩ := h
  exact World.block_lt_of_cell? w _ h
theorem Rd.keep {w w' : World} {v : Value} {ns : List Nat} (h : Rd w v (bv ns)) (hk : ∀ k, U8 w k → w'.heap[k]? = w.heap[k]?) : Rd w' v (bv ns) := by
  rcases h with h | ⟨a, c, rfl, h4, h5⟩
  · exact .inl h
  · refine .inr ⟨a, c, rfl, h4, fun j u hj => ?_⟩
    have h6 := h5 j u hj
    have hu : ∃ n : Int, u = .int .u8 n := by
      obtain ⟨n, _, rfl⟩ := List.mem_map.1 (List.mem_of_getElem? hj)
      exact ⟨_, rfl⟩
    obtain ⟨n, rfl⟩ := hu
    rw [World.cell?_of_block (w := w) (hk _ ⟨_, _, rfl, h6⟩)]; exact h6
theorem infoP : (Tryd.prog.info? 61).map (fun i => (i.zero, i.size, i.bytes)) = some (some (.agg #[.slice none 0 0, .slice none 0 0]), 2, 48) := by kernel_rfl
theorem own_keepF {W W' : World} {B s n : Nat} {e : TypeId} {v : Value} {xs : List Value} {S : List Nat} (o : W.ownsRow B e s v n xs) (f : Fr S W W') (hS : ∀ k, v.ownBlock = some k → k ∉ S) : W'.ownsRow B e s v n xs :=
  ownsRow_of_block o fun k hk => f.block k (o.lt k hk).2 (hS k hk)
/-- An entry: the slice of its key, that of its value, and both. -/
structure En where
  kv : Value
  vv : Value
  k : List Nat
  v : List Nat
def En.c2 (e : En) : List Value := [e.kv, e.vv]
def En.p (e : En) : List Nat × List Nat := (e.k, e.v)
structure EnO (W : World) (B : Nat) (e : En) : Prop where
  ok : W.ownsRow B 5 1 e.kv e.k.length (bv e.k)
  ov : W.ownsRow B 5 1 e.vv e.v.length (bv e.v)
  bk : By e.k
  bv' : By e.v
  lk : e.k.length ≤ 64
  lv : e.v.length ≤ 1024
theorem EnO.keep {W W' : World} {B : Nat} {e : En} {S : List Nat} (h : EnO W B e) (f : Fr S W W') (hS : ∀ k ∈ S, k < B) : EnO W' B e :=
  ⟨own_keepF h.ok f (fun k hk hm => by have := (h.ok.lt k hk).1; have := hS k hm; omega), own_keepF h.ov f (fun k hk hm => by have := (h.ov.lt k hk).1; have := hS k hm; omega), h.bk, h.bv', h.lk, h.lv⟩
/-- A row of entries of the call's own. -/
def EsO (W : World) (B : Nat) (v : Value) (es : List En) : Prop := W.ownsRow B 61 2 v es.length (es.flatMap En.c2) ∧ ∀ e ∈ es, EnO W B e
theorem EsO.nil (W : World) (B : Nat) : EsO W B (.slice none 0 0) [] := ⟨World.ownsRow_nil _ _ _ _, fun e h => by cases h⟩
theorem EsO.keep {W W' : World} {B : Nat} {v : Value} {es : List En} {S : List Nat} (h : EsO W B v es) (f : Fr S W W') (hS : ∀ k ∈ S, k < B) : EsO W' B v es :=
  ⟨own_keepF h.1 f (fun k hk hm => by have := (h.1.lt k hk).1; have := hS k hm; omega), fun e he => (h.2 e he).keep f hS⟩
theorem EsO.fr {W W' : World} {B : Nat} {v : Value} {es : List En} (h : EsO W B v es) (f : Fr [] W W') : EsO W' B v es := h.keep f (fun k hk => by cases hk)
theorem c2_len : ∀ (es : List En), (es.flatMap En.c2).length = es.length * 2
  | [] => rfl
  | e :: es => by rw [List.flatMap_cons, List.length_append, c2_len es, List.length_cons]; show 2 + _ = _; omega
theorem c2_at : ∀ {es : List En} {i : Nat} {e : En}, es[i]? = some e → (es.flatMap En.c2)[i * 2]? = some e.kv ∧ (es.flatMap En.c2)[i * 2 + 1]? = some e.vv
  | [], i, e, h => by simp at h
  | x :: es, 0, e, h => by simp at h; subst h; exact ⟨rfl, rfl⟩
  | x :: es, i + 1, e, h => by
    have ih := c2_at (es := es) (i := i) (by simpa using h)
    rw [show (i + 1) * 2 = i * 2 + 1 + 1 by omega]
    exact ih
theorem c2_take : ∀ (es : List En) (i : Nat), (es.flatMap En.c2).take (i * 2) = (es.take i).flatMap En.c2
  | [], i => by simp
  | e :: es, 0 => rfl
  | e :: es, i + 1 => by
    rw [show (i + 1) * 2 = i * 2 + 1 + 1 by omega]
    show e.kv :: e.vv :: (es.flatMap En.c2).take (i * 2) = e.kv :: e.vv :: (es.take i).flatMap En.c2
    rw [c2_take es i]
theorem c2_drop : ∀ (es : List En) (i : Nat), (es.flatMap En.c2).drop (i * 2) = (es.drop i).flatMap En.c2
  | [], i => by simp
  | e :: es, 0 => rfl
  | e :: es, i + 1 => by
    rw [show (i + 1) * 2 = i * 2 + 1 + 1 by omega]
    show (es.flatMap En.c2).drop (i * 2) = (es.drop i).flatMap En.c2
    rw [c2_drop es i]
theorem c2_one {es : List En} : ∀ u ∈ es.flatMap En.c2, ∀ {W : World} {B : Nat}, (∀ e ∈ es, EnO W B e) → u.oneCell' = true := by
  intro u hu W B h
  obtain ⟨e, he, hm⟩ := List.mem_flatMap.1 hu
  obtain ⟨a, c, e1, _⟩ := ownsRow_slice (h e he).ok
  obtain ⟨a', c', e2, _⟩ := ownsRow_slice (h e he).ov
  unfold En.c2 at hm
  rw [e1, e2] at hm
  simp at hm
  rcases hm with rfl | rfl <;> rfl
/-- One entry of a row: where it stands. -/
theorem EsO.at' {W : World} {B : Nat} {v : Value} {es : List En} (h : EsO W B v es) {i : Nat} {e : En} (hi : es[i]? = some e) : ∃ g c, v = .slice (some ⟨g, 0, none⟩) es.length c ∧ W.cell? ⟨g, i * 2, none⟩ = some e.kv ∧ W.cell? ⟨g, i * 2 + 1, none⟩ = some e.vv ∧ EnO W B e := by
  obtain ⟨c0, c1⟩ := c2_at hi
  have hil := (List.getElem?_eq_some_iff.1 hi).1
  rcases h.1.2 with ⟨rfl, h0⟩ | ⟨g, cap, cur, e0, _⟩
  · omega
  · subst e0
    have d0 := h.1.cells rfl _ _ c0
    have d1 := h.1.cells rfl _ _ c1
    rw [Addr.add_lit, Nat.zero_add] at d0 d1
    exact ⟨g, cap, rfl, d0, d1, h.2 e (List.mem_of_getElem? hi)⟩
theorem wpList_appKV {w : World} {ops : Array Oper} {rest : List Oper} {o : Oper} {a : Act} {Q : Exit → Act → World → Prop} (hgd : o.guard = none) (s x : Operand)
    (ho : o.op = .call { callee := .builtin .append, args := #[s, x], argTypes := #[30, 30] }) (base : Nat) (hbase : base ≤ w.heap.size) (v : Value) (n : Nat) (xs : List Value) (hs : a.eval s = v) (hown : w.ownsRow base 61 2 v n xs) (G : Nat) (hx : a.eval x = .slice (some ⟨G, 0, none⟩) 1 1) {u0 u1 : Value} {T : TypeId} (hG : w.heap[G]? = some (.cells #[u0, u1] T (0, 0)))
    (hu : ∀ u ∈ [u0, u1], u.oneCell' = true) (hl : n ≤ 1000000000)
    (h : ∀ v' w', w'.ownsRow base 61 2 v' (n + 1) (xs ++ [u0, u1]) → w.grownBy w' v.ownBlock → wpList Tryd.prog ops Q rest (a.put o.dst v') w') :
    wpList Tryd.prog ops Q (o :: rest) a w := by
  obtain ⟨i0, hi, hz0, hz1, hz2⟩ := info_parts infoP
  exact wpList_append_own_at w hgd s x 30 ho base 61 i0 _ 2 48 Tryd.underlying30 hi hz0 hz1 hz2 rfl (by decide) v n xs hs hown ⟨G, 0, none⟩ 1 1 [u0, u1] hx rfl (fun j u hj => by rw [Addr.add_lit, Nat.zero_add, blk_cell hG, ← Array.getElem?_toList]; exact hj) hu (by unfold maxLen; omega) (by omega) hbase fun v' w' h1 h2 _ _ => h v' w' h1 h2
theorem EnO.lower {W : World} {B B' : Nat} {e : En} (h : EnO W B' e) (hb : B ≤ B') : EnO W B e := ⟨ownsRow_base h.ok hb, ownsRow_base h.ov hb, h.bk, h.bv', h.lk, h.lv⟩
theorem EnO.fr {W W' : World} {B : Nat} {e : En} (h : EnO W B e) (f : Fr [] W W') : EnO W' B e := h.keep f (fun k hk => by cases hk)
/-- The first entries of a row, at their places; those behind them. -/
theorem EsO.front {W : World} {B g n c : Nat} {es : List En} (h : EsO W B (.slice (some ⟨g, 0, none⟩) n c) es) (i : Nat) : ∀ j u, ((es.take i).flatMap En.c2)[j]? = some u → W.cell? ⟨g, 0 + j, none⟩ = some u := fun j u hj => by
  rw [← c2_take] at hj
  have hlt := (List.getElem?_eq_some_iff.1 hj).1
  rw [List.length_take] at hlt
  rw [List.getElem?_take_of_lt (by omega)] at hj
  have h1 := h.1
  rcases h1.2 with ⟨e, _⟩ | ⟨g', cap, cur, e, _⟩
  · simp at e
  · simp only [Value.slice.injEq, Option.some.injEq, Addr.mk.injEq, and_true] at e
    obtain ⟨rfl, rfl, rfl⟩ := e
    have := h1.cells rfl j u hj
    rw [Addr.add_lit] at this
    exact this
theorem EsO.behind {W : World} {B g n c : Nat} {es : List En} (h : EsO W B (.slice (some ⟨g, 0, none⟩) n c) es) (i : Nat) : ∀ j u, ((es.drop i).flatMap En.c2)[j]? = some u → W.cell? ⟨g, i * 2 + j, none⟩ = some u := fun j u hj => by
  rw [← c2_drop, List.getElem?_drop] at hj
  have h1 := h.1
  rcases h1.2 with ⟨e, _⟩ | ⟨g', cap, cur, e, _⟩
  · simp at e
  · simp only [Value.slice.injEq, Option.some.injEq, Addr.mk.injEq, and_true] at e
    obtain ⟨rfl, rfl, rfl⟩ := e
    have := h1.cells rfl _ u hj
    rw [Addr.add_lit, Nat.zero_add] at this
    exact this
/-- A row of entries grows: bytes that stand in rows of their own don't change. -/
theorem own_grownE {W W' : World} {B B' n n7 : Nat} {u v7 : Value} {xs ys : List Value} (hu : W.ownsRow B 5 1 u n xs) (h7 : W.ownsRow B' 61 2 v7 n7 ys) (g : W.grownBy W' v7.ownBlock) : W'.ownsRow B 5 1 u n xs := by
  refine ownsRow_of_block hu fun k hk => ?_
  rcases hu.2 with ⟨rfl, _⟩ | ⟨g', cap, cur, rfl, _, h3, _⟩
  · simp [Value.ownBlock] at hk
  · simp only [Value.ownBlock, Option.some.injEq] at hk
    subst hk
    refine g.block _ (hu.lt _ rfl).2 (fun e' => ?_)
    rcases h7.2 with ⟨rfl, _⟩ | ⟨g2, cap2, cur2, rfl, _, h4, _⟩
    · simp [Value.ownBlock] at e'
    · simp only [Value.ownBlock, Option.some.injEq] at e'
      subst e'
      rw [h3] at h4
      simp at h4
theorem EnO.grownE {W W' : World} {B B' n7 : Nat} {e : En} {v7 : Value} {ys : List Value} (h : EnO W B e) (h7 : W.ownsRow B' 61 2 v7 n7 ys) (g : W.grownBy W' v7.ownBlock) : EnO W' B e :=
  ⟨own_grownE h.ok h7 g, own_grownE h.ov h7 g, h.bk, h.bv', h.lk, h.lv⟩
/-- Entries stay as they are. -/
def EnK (W W' : World) : Prop := ∀ (B : Nat) (e : En), EnO W B e → EnO W' B e
/-- append(own, l...): entries of a place behind those of the call's own. -/
theorem wpList_appEs {w : World} {ops : Array Oper} {rest : List Oper} {o : Oper} {a : Act} {Q : Exit → Act → World → Prop} (hgd : o.guard = none) (s x : Operand)
    (ho : o.op = .call { callee := .builtin .append, args := #[s, x], argTypes := #[30, 30] }) {base : Nat} (hbase : base ≤ w.heap.size) {v : Value} {es fs : List En} {mb moff mc m n : Nat} (h1 : w.ownsRow base 61 2 v n (es.flatMap En.c2)) (hn : es.length = n) (hs : a.eval s = v) (hm : fs.length = m) (hx : a.eval x = .slice (some ⟨mb, moff, none⟩) m mc)
    (hc : ∀ j u, (fs.flatMap En.c2)[j]? = some u → w.cell? ⟨mb, moff + j, none⟩ = some u) {w0 : World} {B : Nat} (hf : ∀ e ∈ fs, EnO w0 B e) (hl1 : n ≤ 1000000) (hl2 : m ≤ 1000000) {wz : World} (hz : Fr [] wz w) (hzb : wz.heap.size ≤ base)
    (h : ∀ v' w', w'.ownsRow base 61 2 v' (n + m) ((es ++ fs).flatMap En.c2) → Fr [] wz w' → EnK w w' → wpList Tryd.prog ops Q rest (a.put o.dst v') w') :
    wpList Tryd.prog ops Q (o :: rest) a w := by
  obtain ⟨i0, hi, hz0, hz1, hz2⟩ := info_parts infoP
  subst hm hn
  refine wpList_append_own_at w hgd s x 30 ho base 61 i0 _ 2 48 Tryd.underlying30 hi hz0 hz1 hz2 rfl (by decide) v es.length (es.flatMap En.c2) hs h1 ⟨mb, moff, none⟩ fs.length mc (fs.flatMap En.c2) hx (by rw [c2_len]) (fun j u hj => ?_) (fun u hu => c2_one u hu hf) (by unfold maxLen; omega) (by omega) hbase fun v' w' o' g' _ _ => h v' w' (by rw [List.flatMap_append]; exact o') (hz.grown g' (fun k hk => .inr (Nat.le_trans hzb (h1.lt k hk).1))) (fun _ _ he => he.grownE h1 g')
  rw [Addr.add_lit]
  exact hc j u hj
/-- append(own, x). -/
theorem wpList_appE1 {w : World} {ops : Array Oper} {rest : List Oper} {o : Oper} {a : Act} {Q : Exit → Act → World → Prop} (hgd : o.guard = none) (s x : Operand)
    (ho : o.op = .call { callee := .builtin .append, args := #[s, x], argTypes := #[30, 30] }) {base : Nat} (hbase : base ≤ w.heap.size) {v : Value} {es : List En} {n : Nat} (h1 : w.ownsRow base 61 2 v n (es.flatMap En.c2)) (hn : es.length = n) (hs : a.eval s = v) {G : Nat} (hx : a.eval x = .slice (some ⟨G, 0, none⟩) 1 1) {T : TypeId} (e : En) (hG : w.heap[G]? = some (.cells #[e.kv, e.vv] T (0, 0))) {w0 : World} {B : Nat} (he : EnO w0 B e) (hl1 : n ≤ 1000000) {wz : World} (hz : Fr [] wz w) (hzb : wz.heap.size ≤ base)
    (h : ∀ v' w', w'.ownsRow base 61 2 v' (n + 1) ((es ++ [e]).flatMap En.c2) → Fr [] wz w' → EnK w w' → wpList Tryd.prog ops Q rest (a.put o.dst v') w') :
    wpList Tryd.prog ops Q (o :: rest) a w :=
  wpList_appKV hgd s x ho base hbase v n _ hs h1 G hx hG (fun u hu => c2_one (es := [e]) u (by simpa [En.c2] using hu) (fun e' he' => by rw [List.mem_singleton.1 he']; exact he)) (by omega) fun v' w' o' g' => h v' w' (by rw [List.flatMap_append]; exact o') (hz.grown g' (fun k hk => .inr (Nat.le_trans hzb (h1.lt k hk).1))) (fun _ _ he => he.grownE h1 g')
end Go.Proofs.YtmpfnglcmaollaaDoor
