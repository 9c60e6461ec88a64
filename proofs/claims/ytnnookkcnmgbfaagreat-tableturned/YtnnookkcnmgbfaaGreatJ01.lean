/-
  How bytes are compared: by package bytes, by package cmp, and by the reference.
-/
import Derived.Test.YtnnookkcnmgbfaaGreatJ00
import Derived.Lib.Bytealg
import Derived.Lib.BytesEntry
import Derived.Laws.Externs
namespace Go.Proofs.YtnnookkcnmgbfaaGreat
open Go.ChangeShapes Go.WideShapes Go.ChangeAt Go.RowKit

/-- How two rows of bytes stand. -/
def cmpN : List Nat → List Nat → Int
  | [], [] => 0
  | [], _ :: _ => -1
  | _ :: _, [] => 1
  | x :: a, y :: b => if x < y then -1 else if y < x then 1 else cmpN a b
theorem cmpN_val : ∀ (a b : List Nat), cmpN a b = -1 ∨ cmpN a b = 0 ∨ cmpN a b = 1
  | [], [] => .inr (.inl rfl)
  | [], _ :: _ => .inl rfl
  | _ :: _, [] => .inr (.inr rfl)
  | x :: a, y :: b => by
    unfold cmpN
    split
    · exact .inl rfl
    · split
      · exact .inr (.inr rfl)
      · exact cmpN_val a b
theorem cmpN_neg : ∀ (a b : List Nat), cmpN b a = -cmpN a b
  | [], [] => rfl
  | [], _ :: _ => rfl
  | _ :: _, [] => rfl
  | x :: a, y :: b => by
    unfold cmpN
    rcases Nat.lt_trichotomy x y with h | h | h
    · rw [if_neg (by omega), if_pos h, if_pos h]; rfl
    · rw [if_neg (by omega), if_neg (by omega), if_neg (by omega), if_neg (by omega), cmpN_neg a b]
    · rw [if_pos h, if_neg (by omega), if_pos h]
theorem cmpN_eq : ∀ (a b : List Nat), cmpN a b = 0 ↔ a = b
  | [], [] => by simp [cmpN]
  | [], _ :: _ => by simp [cmpN]
  | _ :: _, [] => by simp [cmpN]
  | x :: a, y :: b => by
    unfold cmpN
    rcases Nat.lt_trichotomy x y with h | h | h
    · rw [if_pos h]; simp; omega
    · rw [if_neg (by omega), if_neg (by omega), cmpN_eq a b]; simp [h]
    · rw [if_neg (by omega), if_pos h]; simp; omega
theorem cmpN_trans : ∀ (a b c : List Nat), cmpN a b ≤ 0 → cmpN b c ≤ 0 → cmpN a c ≤ 0
  | [], _, [], _, _ => by simp [cmpN]
  | [], _, _ :: _, _, _ => by simp [cmpN]
  | _ :: _, [], _, h, _ => by simp [cmpN] at h
  | _ :: _, _ :: _, [], _, h => by simp [cmpN] at h
  | x :: a, y :: b, z :: c, h1, h2 => by
    unfold cmpN at h1 h2 ⊢
    rcases Nat.lt_trichotomy x y with e1 | e1 | e1
    · rcases Nat.lt_trichotomy y z with e2 | e2 | e2
      · rw [if_pos (by omega)]; omega
      · rw [if_pos (by omega)]; omega
      · rw [if_neg (by omega), if_pos e2] at h2; omega
    · rcases Nat.lt_trichotomy y z with e2 | e2 | e2
      · rw [if_pos (by omega)]; omega
      · rw [if_neg (by omega), if_neg (by omega)] at h1 h2 ⊢
        exact cmpN_trans a b c h1 h2
      · rw [if_neg (by omega), if_pos e2] at h2; omega
    · rw [if_neg (by omega), if_pos e1] at h1; omega

theorem cmp_bytes : ∀ (a b : List Nat), By a → By b → Lib.compareBytes (a.map UInt8.ofNat) (b.map UInt8.ofNat) = cmpN a b
  | [], [], _, _ => rfl
  | [], _ :: _, _, _ => rfl
  | _ :: _, [], _, _ => rfl
  | x :: a, y :: b, ha, hb => by
    have hx := ha x (by simp); have hy := hb y (by simp)
    have e : ∀ {p q : Nat}, p < 256 → q < 256 → (UInt8.ofNat p < UInt8.ofNat q ↔ p < q) := by
      intro p q hp hq
      rw [UInt8.lt_iff_toNat_lt, UInt8.toNat_ofNat', UInt8.toNat_ofNat', Nat.mod_eq_of_lt hp, Nat.mod_eq_of_lt hq]
    have ih := cmp_bytes a b (fun n hn => ha n (List.mem_cons_of_mem _ hn)) (fun n hn => hb n (List.mem_cons_of_mem _ hn))
    simp only [List.map_cons, Lib.compareBytes, cmpN, e hx hy, e hy hx, ih]

theorem run_bytesOf {w : World} {v : Value} {a : List Nat} (h : Rd w v (bv a)) : (Extern.Bytes.bytesOf v).run Tryz.prog w = .ok ⟨(a.map UInt8.ofNat).toArray⟩ w := by
  rcases h with ⟨rfl, h⟩ | ⟨ad, c, rfl, _, h5⟩
  · have : a = [] := by simpa [bv] using h
    subst this
    rfl
  · have h := Lib.run_loadBytesX (P := Tryz.prog) w (a.map fun n : Nat => (n : Int)) ad .empty (fun j x hx => by
      rw [List.getElem?_map] at hx
      cases hn : a[j]? with
      | none => rw [hn] at hx; cases hx
      | some n => rw [hn] at hx; cases hx; exact h5 j _ (bv_at hn))
    rw [List.length_map] at h
    show (Extern.Bytes.loadBytes ad (bv a).length .empty).run Tryz.prog w = _
    rw [bv_len, h]
    congr 1
    apply ByteArray.ext
    simp [Lib.bytesOf, List.map_map, Function.comp_def]

theorem run_cmp {w : World} {v1 v2 : Value} {a b : List Nat} (h1 : Rd w v1 (bv a)) (h2 : Rd w v2 (bv b)) (ha : By a) (hb : By b) :
    (callFunc 113 #[v1, v2]).run Tryz.prog w = .ok (.value (.int .i64 (cmpN a b))) w := by
  rw [run_callFunc_extern (e := Extern.BytealgCompare.compare) Tryz.func113 (by kernel_rfl) (by kernel_rfl) (by kernel_rfl) (by kernel_rfl)]
  have e : (Extern.BytealgCompare.compare #[v1, v2]).run Tryz.prog w = .ok (.int .i64 (cmpN a b)) w := by
    change Sem.run Tryz.prog (do pure (goInt (Extern.BytealgCompare.cmp (← Extern.Bytes.bytesOf v1) (← Extern.Bytes.bytesOf v2)))) w = _
    simp only [Sem.run_bind, run_bytesOf h1, run_bytesOf h2, Result.andThen_ok, Sem.run_pure, Lib.cmp_eq]
    rw [cmp_bytes a b ha hb]
    rfl
  rw [e]; rfl

set_option maxHeartbeats 400000 in
theorem bcmp_c {w : World} {v1 v2 : Value} {a b : List Nat} (h1 : Rd w v1 (bv a)) (h2 : Rd w v2 (bv b)) (ha : By a) (hb : By b) :
    Calls Tryz.prog 104 #[v1, v2] w fun e w' => e = .returned (.int .i64 (cmpN a b)) ∧ w' = w := by
  have hr := run_cmp h1 h2 ha hb
  obtain ⟨a1, c1, rfl⟩ := h1.form
  obtain ⟨a2, c2, rfl⟩ := h2.form
  clear h1 h2 ha hb
  go_enter Tryz.func104, Tryz.ntmps104
  go_wp2
  go_ret
  exact ⟨rfl, rfl⟩

/-- How two numbers stand. -/
def cmpI (x y : Int) : Int := if x < y then -1 else if y < x then 1 else 0

set_option maxHeartbeats 400000 in
theorem cmpu_c (w : World) (x y : Int) : Calls Tryz.prog 117 #[.int .u64 x, .int .u64 y] w fun e w' => e = .returned (.int .i64 (cmpI x y)) ∧ w' = w := by
  unfold cmpI
  rcases (show x < y ∨ y < x ∨ x = y from by omega) with h | h | h
  · rw [if_pos h]
    go_enter Tryz.func117, Tryz.ntmps117
    go_wp2
    go_ret
    exact ⟨rfl, rfl⟩
  · rw [if_neg (by omega), if_pos h]
    go_enter Tryz.func117, Tryz.ntmps117
    go_wp2
    go_ret
    exact ⟨rfl, rfl⟩
  · subst h
    rw [if_neg (by omega), if_neg (by omega)]
    go_enter Tryz.func117, Tryz.ntmps117
    go_wp2
    go_ret
    exact ⟨rfl, rfl⟩
set_option maxHeartbeats 400000 in
theorem cmpi_c (w : World) (x y : Int) : Calls Tryz.prog 118 #[.int .i64 x, .int .i64 y] w fun e w' => e = .returned (.int .i64 (cmpI x y)) ∧ w' = w := by
  unfold cmpI
  rcases (show x < y ∨ y < x ∨ x = y from by omega) with h | h | h
  · rw [if_pos h]
    go_enter Tryz.func118, Tryz.ntmps118
    go_wp2
    go_ret
    exact ⟨rfl, rfl⟩
  · rw [if_neg (by omega), if_pos h]
    go_enter Tryz.func118, Tryz.ntmps118
    go_wp2
    go_ret
    exact ⟨rfl, rfl⟩
  · subst h
    rw [if_neg (by omega), if_neg (by omega)]
    go_enter Tryz.func118, Tryz.ntmps118
    go_wp2
    go_ret
    exact ⟨rfl, rfl⟩
end Go.Proofs.YtnnookkcnmgbfaaGreat
namespace Go.Proofs.YtnnookkcnmgbfaaGreat
open Go.ChangeShapes Go.WideShapes Go.ChangeAt Go.RowKit

theorem u8_of (n : Nat) : IntKind.u8.wrap (n : Int) = ((n % 256 : Nat) : Int) := by rw [IntKind.wrap_u8']; omega
theorem or128 (n : Nat) : bits .or .u8 ((n % 256 : Nat) : Int) 128 = ((n % 128 + 128 : Nat) : Int) := by
  have h := u8_or_nat (n % 256) 128 (by omega) (by omega)
  have e : n % 256 ||| 128 = n % 128 + 128 := by
    rcases Nat.lt_or_ge (n % 256) 128 with hl | hl
    · rw [Nat.or_comm]
      have := nat_join 7 128 (n % 256) (by decide) (by omega)
      omega
    · have h1 : n % 256 = 128 ||| (n % 128) := by
        have := nat_join 7 128 (n % 128) (by decide) (by omega)
        omega
      rw [h1, Nat.or_comm, ← Nat.or_assoc, Nat.or_self]
      have := nat_join 7 128 (n % 128) (by decide) (by omega)
      omega
  rw [e] at h
  exact h

set_option maxRecDepth 20000 in
set_option maxHeartbeats 400000 in
theorem put_c (w : World) (n : Nat) (hn : n < 18446744073709551616) :
    Calls Tryz.prog 88 #[.int .u64 (n : Int)] w fun e w' => ∃ v, e = .returned v ∧ w'.ownsRow w.heap.size 5 1 v (putL n).length (bv (putL n)) ∧ Fr [] w w' := by
  have HN := hid hn
  clear hn
  go_enter Tryz.func88, Tryz.ntmps88
  go_wp2
  go_loopw [0, 3] (fun v0 v3 wr => ∃ (m : Nat) (xs : List Nat), m < 18446744073709551616 ∧ v0 = .int .u64 (m : Int) ∧ xs ++ putL m = putL n ∧ wr.ownsRow w.heap.size 5 1 v3 xs.length (bv xs) ∧ Fr [] w wr) (fun v0 _ _ => (intOf v0).toNat)
  case atStart => exact ⟨n, [], HN.out, rfl, rfl, World.ownsRow_nil _ _ _ _, Fr.refl _ _⟩
  case round =>
    obtain ⟨m, xs, hm, rfl, hxs, hown, hfr⟩ := hrel
    have HX := hid hxs
    have HM := hid hm
    have HO := hid hown
    have HF := hid hfr
    have hsz := hfr.size
    have hxl : xs.length ≤ 10 := by
      have h1 := congrArg List.length hxs
      have h2 := putL_len10 HN.out
      rw [List.length_append] at h1; omega
    clear hxs hown hfr hm
    go_wp2_with (at_builtin; refine wpList_append_rd rfl _ _ rfl w.heap.size (by simp; omega) _ _ _ rfl (HO.out.alloc _) _ [_] rfl (Rd_lit1 _ _) (by simp [Value.oneCell']) (by simp; omega) ?_; intro v' w' o1 o2 o3)
    · have hge : 128 ≤ m := by omega
      have B : Hid (m / 128 < 18446744073709551616 ∧ (xs ++ [m % 128 + 128]) ++ putL (m / 128) = putL n ∧ w'.ownsRow w.heap.size 5 1 v' (xs ++ [m % 128 + 128]).length (bv (xs ++ [m % 128 + 128])) ∧ Fr [] w w') := by
        refine ⟨by have := HM.out; omega, by rw [← HX.out, putL_ge hge]; simp, ?_, (HF.out.alloc _).grew (HO.out.alloc _) (Nat.le_refl _) o2⟩
        rw [bv_append, List.length_append]
        have e : bv [m % 128 + 128] = [Value.int .u8 (bits .or .u8 ((m : Int) % 256) 128)] := by
          have h1 := or128 m
          rw [show ((m % 256 : Nat) : Int) = (m : Int) % 256 from by omega] at h1
          rw [h1]; rfl
        rw [e]; exact o1
      clear o1 o2 o3
      go_wp2
      go_roundw
      case rel => exact ⟨m / 128, _, B.out.1, by go_num, B.out.2⟩
      case measure => simp [intOf]; omega
    · have hlt : m < 128 := by omega
      go_wp2
      go_ret
      refine ⟨v', rfl, ?_, (HF.out.alloc _).grew (HO.out.alloc _) (Nat.le_refl _) o2⟩
      rw [← HX.out, putL_lt hlt, bv_append, List.length_append]
      exact o1
end Go.Proofs.YtnnookkcnmgbfaaGreat
namespace Go.Proofs.YtnnookkcnmgbfaaGreat
open Go.ChangeShapes Go.WideShapes Go.ChangeAt Go.RowKit

set_option maxRecDepth 20000 in
set_option maxHeartbeats 400000 in
theorem refput_c (w : World) (n : Nat) (hn : n < 18446744073709551616) :
    Calls Tryz.prog 38 #[.int .u64 (n : Int)] w fun e w' => ∃ v, e = .returned v ∧ w'.ownsRow w.heap.size 5 1 v (putL n).length (bv (putL n)) ∧ Fr [] w w' := by
  have HN := hid hn
  clear hn
  go_enter Tryz.func38, Tryz.ntmps38
  go_wp2
  go_loopw [0, 3] (fun v0 v3 wr => ∃ (m : Nat) (xs : List Nat), m < 18446744073709551616 ∧ v0 = .int .u64 (m : Int) ∧ xs ++ putL m = putL n ∧ wr.ownsRow w.heap.size 5 1 v3 xs.length (bv xs) ∧ Fr [] w wr) (fun v0 _ _ => (intOf v0).toNat)
  case atStart => exact ⟨n, [], HN.out, rfl, rfl, World.ownsRow_nil _ _ _ _, Fr.refl _ _⟩
  case round =>
    obtain ⟨m, xs, hm, rfl, hxs, hown, hfr⟩ := hrel
    have HX := hid hxs
    have HM := hid hm
    have HO := hid hown
    have HF := hid hfr
    have hsz := hfr.size
    have hxl : xs.length ≤ 10 := by
      have h1 := congrArg List.length hxs
      have h2 := putL_len10 HN.out
      rw [List.length_append] at h1; omega
    clear hxs hown hfr
    go_wp2_with (at_builtin; refine wpList_append_rd rfl _ _ rfl w.heap.size (by simp; omega) _ _ _ rfl (HO.out.alloc _) _ [_] rfl (Rd_lit1 _ _) (by simp [Value.oneCell']) (by simp; omega) ?_; intro v' w' o1 o2 o3)
    · have hge : 128 ≤ m := by omega
      have B : Hid (m / 128 < 18446744073709551616 ∧ (xs ++ [m % 128 + 128]) ++ putL (m / 128) = putL n ∧ w'.ownsRow w.heap.size 5 1 v' (xs ++ [m % 128 + 128]).length (bv (xs ++ [m % 128 + 128])) ∧ Fr [] w w') := by
        refine ⟨by have := HM.out; omega, by rw [← HX.out, putL_ge hge]; simp, ?_, (HF.out.alloc _).grew (HO.out.alloc _) (Nat.le_refl _) o2⟩
        rw [bv_append, List.length_append]
        have e : bv [m % 128 + 128] = [Value.int .u8 (128 + (m : Int) % 128)] := by
          rw [show (128 + (m : Int) % 128) = ((m % 128 + 128 : Nat) : Int) from by omega]; rfl
        rw [e]; exact o1
      clear o1 o2 o3
      go_wp2
      go_roundw
      case rel => exact ⟨m / 128, _, B.out.1, by go_num, B.out.2⟩
      case measure => simp [intOf]; omega
    · have hlt : m < 128 := by omega
      go_wp2
      go_ret
      refine ⟨v', rfl, ?_, (HF.out.alloc _).grew (HO.out.alloc _) (Nat.le_refl _) o2⟩
      rw [← HX.out, putL_lt hlt, bv_append, List.length_append]
      exact o1

theorem drop_at {ns : List Nat} {k : Nat} (h : k < ns.length) : ∃ x, ns[k]? = some x ∧ ns.drop k = x :: ns.drop (k + 1) :=
  ⟨ns[k], List.getElem?_eq_getElem h, List.drop_eq_getElem_cons h⟩
theorem tk_nil (i v : Nat) : tk i v [] = (0, 0, 20) := rfl
theorem tk_bad {i v x : Nat} {r : List Nat} (h : i = 9 ∧ 1 < x ∨ 0 < i ∧ x = 0) : tk i v (x :: r) = (0, 0, 21) := by rw [tk, if_pos h]
theorem tk_end {i v x : Nat} {r : List Nat} (h : ¬ (i = 9 ∧ 1 < x ∨ 0 < i ∧ x = 0)) (hx : x < 128) : tk i v (x :: r) = (v + x % 128 * 2 ^ (7 * i), i + 1, 0) := by rw [tk, if_neg h, if_pos hx]
theorem tk_on {i v x : Nat} {r : List Nat} (h : ¬ (i = 9 ∧ 1 < x ∨ 0 < i ∧ x = 0)) (hx : ¬ x < 128) : tk i v (x :: r) = tk (i + 1) (v + x % 128 * 2 ^ (7 * i)) r := by rw [tk, if_neg h, if_neg hx]

/-- A result of Take as the program hands it over. -/
def tkv (t : Nat × Nat × Nat) : Value := .tuple #[.int .u64 (t.1 : Int), .int .i64 (t.2.1 : Int), .int .i64 (t.2.2 : Int)]

theorem andNot128 {x : Nat} (hx : x < 256) : bits .andNot .u8 (x : Int) 128 = ((x % 128 : Nat) : Int) := by
  have h := u8_andNot_nat x 128 hx (by omega)
  have e : x &&& (255 - 128) = x % 128 := nat_mask7 x
  rw [e] at h; exact h
theorem wrap64_nat {n : Nat} (h : n < 18446744073709551616) : IntKind.u64.wrap (n : Int) = (n : Int) := by rw [IntKind.wrap_u64]; omega
theorem shl_lt {k m x : Nat} (hk : k ≤ 9) (hm : m < 2 ^ (7 * k)) (h9 : k = 9 → x ≤ 1) : m + x % 128 * 2 ^ (7 * k) < 18446744073709551616 := by
  have e2 : 2 ^ (7 * (k + 1)) = 128 * 2 ^ (7 * k) := by rw [show (128 : Nat) = 2 ^ 7 from rfl, ← Nat.pow_add]; congr 1; omega
  rcases Nat.lt_or_ge k 9 with h3 | h3
  · have h1 : 2 ^ (7 * (k + 1)) ≤ 2 ^ 63 := Nat.pow_le_pow_right (by omega) (by omega)
    have h2 : x % 128 * 2 ^ (7 * k) ≤ 127 * 2 ^ (7 * k) := Nat.mul_le_mul_right _ (by omega)
    omega
  · have h : k = 9 := by omega
    have := h9 h
    subst h
    have h4 : x % 128 ≤ 1 := by omega
    have h2 : x % 128 * 2 ^ (7 * 9) ≤ 1 * 2 ^ (7 * 9) := Nat.mul_le_mul_right _ h4
    omega
theorem or_add {a b i : Nat} (hb : b < 2 ^ i) (ha : a % 2 ^ i = 0) : b ||| a = b + a := by rw [Nat.or_comm, nat_join i a b ha hb, Nat.add_comm]
theorem take_val {k m x : Nat} (hk : k ≤ 9) (hm : m < 2 ^ (7 * k)) (hx : x < 256) (h9 : k = 9 → x ≤ 1) :
    bits .or .u64 (m : Int) (IntKind.u64.wrap (IntKind.u64.wrap (bits .andNot .u8 (x : Int) 128) * 2 ^ (7 * k))) = ((m + x % 128 * 2 ^ (7 * k) : Nat) : Int) := by
  have hlt := shl_lt hk hm h9
  rw [andNot128 hx, wrap64_nat (by omega), show (((x % 128 : Nat) : Int) * 2 ^ (7 * k)) = ((x % 128 * 2 ^ (7 * k) : Nat) : Int) from by simp, wrap64_nat (by omega), u64_or_nat _ _ (by omega) (by omega), or_add hm (Nat.mul_mod_left _ _)]

theorem take_ret {k m x : Nat} (hk : k ≤ 9) (hm : m < 2 ^ (7 * k)) (hx : x < 256) (h9 : k = 9 → x ≤ 1) :
    Ending.returned (.tuple #[.int .u64 (bits .or .u64 (m : Int) (IntKind.u64.wrap (IntKind.u64.wrap (bits .andNot .u8 (x : Int) 128) * 2 ^ (7 * k)))), .int .i64 ((k : Int) + 1), .int .i64 0]) = .returned (tkv (m + x % 128 * 2 ^ (7 * k), k + 1, 0)) := by
  rw [take_val hk hm hx h9]; rfl
theorem take_ret9 {k m x : Nat} (hk : k = 9) (hm : m < 2 ^ (7 * k)) (hx : x < 256) (h9 : x ≤ 1) :
    Ending.returned (.tuple #[.int .u64 (bits .or .u64 (m : Int) (IntKind.u64.wrap (IntKind.u64.wrap (bits .andNot .u8 (x : Int) 128) * 9223372036854775808))), .int .i64 10, .int .i64 0]) = .returned (tkv (m + x % 128 * 2 ^ (7 * k), k + 1, 0)) := by
  subst hk
  exact take_ret (k := 9) (by omega) hm hx fun _ => h9

set_option maxRecDepth 20000 in
set_option maxHeartbeats 800000 in
theorem take_c {w : World} {v : Value} {ns : List Nat} (hr : Rd w v (bv ns)) (hb : By ns) (hl : ns.length ≤ 140737488355328) :
    Calls Tryz.prog 101 #[v] w fun e w' => e = .returned (tkv (takeL ns)) ∧ w' = w := by
  rcases hr.split with ⟨rfl, a, c, rfl⟩ | ⟨b, off, c, rfl, h1, h2, hc⟩
  · clear hr
    go_enter Tryz.func101, Tryz.ntmps101
    go_wp2
    refine wp_loop_rounds 1 ?_
    rw [rounds_succ]
    go_wp2
    go_ret3
    exact ⟨rfl, rfl⟩
  · clear hr
    have HC := hid hc
    have HB := hid hb
    clear hc hb
    go_enter Tryz.func101, Tryz.ntmps101
    go_wp2
    go_loop [5, 10] (fun v5 v10 => ∃ (k m : Nat), k ≤ 9 ∧ k ≤ ns.length ∧ v10 = .int .i64 (k : Int) ∧ v5 = .int .u64 (m : Int) ∧ m < 2 ^ (7 * k) ∧ tk k m (ns.drop k) = takeL ns) (fun _ v10 => ns.length - (intOf v10).toNat)
    case atStart => exact ⟨0, 0, by omega, by omega, rfl, rfl, by simp, rfl⟩
    case round =>
      obtain ⟨k, m, hk, hkl, rfl, rfl, hm, htk⟩ := hrel
      have HT := hid htk
      have HM := hid hm
      clear htk hm
      by_cases hlt : k < ns.length
      · obtain ⟨x, hx, hd⟩ := drop_at hlt
        have hcell := HC.out k x hx
        have hx256 : x < 256 := HB.out.at hx
        have HD := hid hd
        clear hd hx
        rcases (show (9 ≤ k ∧ 1 < x) ∨ (9 ≤ k ∧ x < 1) ∨ (9 ≤ k ∧ 1 ≤ x ∧ x ≤ 1) ∨ (0 < k ∧ k < 9 ∧ x < 1) ∨ (0 < k ∧ k < 9 ∧ 0 < x ∧ x < 128) ∨ (0 < k ∧ k < 9 ∧ 128 ≤ x) ∨ (k < 1 ∧ x < 128) ∨ (k < 1 ∧ 128 ≤ x) from by omega) with ⟨q1, q2⟩ | ⟨q1, q2⟩ | ⟨q1, q2, q3⟩ | ⟨q1, q2, q3⟩ | ⟨q1, q2, q3, q4⟩ | ⟨q1, q2, q3⟩ | ⟨q1, q2⟩ | ⟨q1, q2⟩
        · have e0 : ((x : Int) == 0) = false := by simp; omega
          go_wp2
          go_ret3
          refine ⟨?_, rfl⟩
          rw [← HT.out, HD.out, tk_bad (by omega)]; rfl
        · have e0 : ((x : Int) == 0) = true := by simp; omega
          go_wp2
          go_ret3
          refine ⟨?_, rfl⟩
          rw [← HT.out, HD.out, tk_bad (by omega)]; rfl
        · have e0 : ((x : Int) == 0) = false := by simp; omega
          go_wp2
          go_ret3
          refine ⟨?_, rfl⟩
          rw [← HT.out, HD.out, tk_end (by omega) (by omega)]
          exact take_ret9 (by omega) HM.out hx256 (by omega)
        · have e0 : ((x : Int) == 0) = true := by simp; omega
          go_wp2
          go_ret3
          refine ⟨?_, rfl⟩
          rw [← HT.out, HD.out, tk_bad (by omega)]; rfl
        · have e0 : ((x : Int) == 0) = false := by simp; omega
          go_wp2
          go_ret3
          refine ⟨?_, rfl⟩
          rw [← HT.out, HD.out, tk_end (by omega) (by omega)]
          exact take_ret hk HM.out hx256 (by omega)
        · have e0 : ((x : Int) == 0) = false := by simp; omega
          go_wp2
          have hv := take_val hk HM.out hx256 (by omega)
          have hn : m + x % 128 * 2 ^ (7 * k) < 2 ^ (7 * (k + 1)) := by
            have e2 : 2 ^ (7 * (k + 1)) = 128 * 2 ^ (7 * k) := by rw [show (128 : Nat) = 2 ^ 7 from rfl, ← Nat.pow_add]; congr 1; omega
            have h2 : x % 128 * 2 ^ (7 * k) ≤ 127 * 2 ^ (7 * k) := Nat.mul_le_mul_right _ (by omega)
            have := HM.out
            omega
          go_round
          case rel => exact ⟨k + 1, m + x % 128 * 2 ^ (7 * k), by omega, by omega, by go_num, by rw [hv], hn, by rw [← HT.out, HD.out, tk_on (by omega) (by omega)]⟩
          case measure => simp [intOf]; omega
        · go_wp2
          go_ret3
          refine ⟨?_, rfl⟩
          rw [← HT.out, HD.out, tk_end (by omega) (by omega)]
          exact take_ret hk HM.out hx256 (by omega)
        · have e0 : ((x : Int) == 0) = false := by simp; omega
          go_wp2
          have hv := take_val hk HM.out hx256 (by omega)
          have hn : m + x % 128 * 2 ^ (7 * k) < 2 ^ (7 * (k + 1)) := by
            have e2 : 2 ^ (7 * (k + 1)) = 128 * 2 ^ (7 * k) := by rw [show (128 : Nat) = 2 ^ 7 from rfl, ← Nat.pow_add]; congr 1; omega
            have h2 : x % 128 * 2 ^ (7 * k) ≤ 127 * 2 ^ (7 * k) := Nat.mul_le_mul_right _ (by omega)
            have := HM.out
            omega
          go_round
          case rel => exact ⟨k + 1, m + x % 128 * 2 ^ (7 * k), by omega, by omega, by go_num, by rw [hv], hn, by rw [← HT.out, HD.out, tk_on (by omega) (by omega)]⟩
          case measure => simp [intOf]; omega
      · go_wp2
        go_ret3
        refine ⟨?_, rfl⟩
        rw [← HT.out, List.drop_eq_nil_of_le (by omega), tk_nil]; rfl
end Go.Proofs.YtnnookkcnmgbfaaGreat
namespace Go.Proofs.YtnnookkcnmgbfaaGreat
open Go.ChangeShapes Go.WideShapes Go.ChangeAt Go.RowKit

theorem pow8 (k : Nat) : 2 ^ (8 * k) = 256 ^ k := by rw [Nat.pow_mul]
theorem unf_take {ns : List Nat} {k x : Nat} (h : ns[k]? = some x) : unf (ns.take (k + 1)) = unf (ns.take k) + x * 2 ^ (8 * k) := by
  have hk : k < ns.length := by
    rcases Nat.lt_or_ge k ns.length with h1 | h1
    · exact h1
    · rw [List.getElem?_eq_none h1] at h; cases h
  rw [List.take_add_one, h]
  show unf (ns.take k ++ [x]) = _
  rw [unf_snoc, pow8, List.length_take, Nat.min_eq_left (by omega)]
theorem unf_take_lt {ns : List Nat} (hb : By ns) {k : Nat} (hk : k ≤ ns.length) : unf (ns.take k) < 2 ^ (8 * k) := by
  have := unf_lt _ (hb.take k)
  rwa [List.length_take, Nat.min_eq_left hk, ← pow8] at this
theorem shl8_lt {k m x : Nat} (hk : k ≤ 7) (hm : m < 2 ^ (8 * k)) (hx : x < 256) : m + x * 2 ^ (8 * k) < 18446744073709551616 := by
  have e2 : 2 ^ (8 * (k + 1)) = 256 * 2 ^ (8 * k) := by rw [show (256 : Nat) = 2 ^ 8 from rfl, ← Nat.pow_add]; congr 1; omega
  have h1 : 2 ^ (8 * (k + 1)) ≤ 2 ^ 64 := Nat.pow_le_pow_right (by omega) (by omega)
  have h2 : x * 2 ^ (8 * k) ≤ 255 * 2 ^ (8 * k) := Nat.mul_le_mul_right _ (by omega)
  omega
theorem unf_val {k m x : Nat} (hk : k ≤ 7) (hm : m < 2 ^ (8 * k)) (hx : x < 256) :
    bits .or .u64 (m : Int) (IntKind.u64.wrap ((x : Int) * 2 ^ (8 * k))) = ((m + x * 2 ^ (8 * k) : Nat) : Int) := by
  have hlt := shl8_lt hk hm hx
  rw [show ((x : Int) * 2 ^ (8 * k)) = ((x * 2 ^ (8 * k) : Nat) : Int) from by simp, wrap64_nat (by omega), u64_or_nat _ _ (by omega) (by omega), or_add hm (Nat.mul_mod_left _ _)]

set_option maxRecDepth 20000 in
set_option maxHeartbeats 800000 in
theorem unfixed_c {w : World} {v : Value} {ns : List Nat} (hr : Rd w v (bv ns)) (hb : By ns) (hl : ns.length ≤ 8) :
    Calls Tryz.prog 98 #[v] w fun e w' => e = .returned (.int .u64 (unf ns : Int)) ∧ w' = w := by
  rcases hr.split with ⟨rfl, a, c, rfl⟩ | ⟨b, off, c, rfl, h1, h2, hc⟩
  · clear hr
    go_enter Tryz.func98, Tryz.ntmps98
    go_wp2
    refine wp_loop_rounds 1 ?_
    rw [rounds_succ]
    go_wp2
    go_ret
    exact ⟨rfl, rfl⟩
  · clear hr
    have HC := hid hc
    have HB := hid hb
    clear hc hb
    go_enter Tryz.func98, Tryz.ntmps98
    go_wp2
    go_loop [3, 8] (fun v3 v8 => ∃ k : Nat, k ≤ ns.length ∧ v8 = .int .i64 (k : Int) ∧ v3 = .int .u64 (unf (ns.take k) : Int)) (fun _ v8 => ns.length - (intOf v8).toNat)
    case atStart => exact ⟨0, by omega, rfl, rfl⟩
    case round =>
      obtain ⟨k, hk, rfl, rfl⟩ := hrel
      by_cases hlt : k < ns.length
      · obtain ⟨x, hx, hd⟩ := drop_at hlt
        have hcell := HC.out k x hx
        have hx256 : x < 256 := HB.out.at hx
        have hv := unf_val (k := k) (by omega) (unf_take_lt HB.out hk) hx256
        have hu := unf_take hx
        clear hd hx
        have HV := hid hv
        have HU := hid hu
        clear hv hu
        generalize hg : unf (ns.take k) = m at *
        go_wp2
        go_round
        case rel => exact ⟨k + 1, by omega, by go_num, by rw [HU.out, HV.out]⟩
        case measure => simp [intOf]; omega
      · have : k = ns.length := by omega
        subst this
        go_wp2
        go_ret
        exact ⟨rfl, rfl⟩

theorem unfixed8_short {w : World} {v : Value} {ns : List Nat} (hr : Rd w v (bv ns)) (hl : ns.length < 8) :
    Calls Tryz.prog 97 #[v] w fun e w' => e = .returned (.tuple #[.int .u64 0, .int .i64 20]) ∧ w' = w := by
  obtain ⟨a, c, rfl⟩ := hr.form
  rw [bv_len]
  clear hr
  go_enter Tryz.func97, Tryz.ntmps97
  go_wp2
  go_ret2
  exact ⟨rfl, rfl⟩
theorem unfixed4_short {w : World} {v : Value} {ns : List Nat} (hr : Rd w v (bv ns)) (hl : ns.length < 4) :
    Calls Tryz.prog 62 #[v] w fun e w' => e = .returned (.tuple #[.int .u32 0, .int .i64 20]) ∧ w' = w := by
  obtain ⟨a, c, rfl⟩ := hr.form
  rw [bv_len]
  clear hr
  go_enter Tryz.func62, Tryz.ntmps62
  go_wp2
  go_ret2
  exact ⟨rfl, rfl⟩
/-- The first bytes of a slice. -/
theorem Rd.front {w : World} {b off c : Nat} {ns : List Nat} (h : Rd w (.slice (some ⟨b, off, none⟩) ns.length c) (bv ns)) {q : Nat} (hq : q ≤ ns.length) : Rd w (.slice (some ⟨b, off, none⟩) q c) (bv (ns.take q)) := by
  rcases h with ⟨h, _⟩ | ⟨a, c', h, h4, h5⟩
  · cases h
  · simp only [Value.slice.injEq, Option.some.injEq] at h
    obtain ⟨rfl, _, rfl⟩ := h
    refine .inr ⟨_, _, by rw [bv_len, List.length_take, Nat.min_eq_left hq], by rw [bv_len] at h4 ⊢; rw [List.length_take]; omega, fun j u hj => h5 j u ?_⟩
    rw [bv_take, List.getElem?_take] at hj
    split at hj
    · exact hj
    · cases hj
set_option maxHeartbeats 400000 in
theorem unfixed8_c {w : World} {v : Value} {ns : List Nat} (hr : Rd w v (bv ns)) (hb : By ns) (hl : 8 ≤ ns.length) (hl1 : ns.length ≤ 140737488355328) :
    Calls Tryz.prog 97 #[v] w fun e w' => e = .returned (.tuple #[.int .u64 (unf (ns.take 8) : Int), .int .i64 0]) ∧ w' = w := by
  rcases hr.split with ⟨rfl, _⟩ | ⟨b, off, c, rfl, h1, h2, hc⟩
  · simp at hl
  have HR := hid (hr.front hl)
  have HB := hid hb
  clear hr hc hb
  go_enter Tryz.func97, Tryz.ntmps97
  go_wp2_with (go_at_call 98; refine (unfixed_c HR.out (HB.out.take 8) (by simp; omega)).mono ?_; rintro e w' ⟨rfl, rfl⟩)
  go_ret2
  exact ⟨rfl, rfl⟩
set_option maxHeartbeats 400000 in
theorem unfixed4_c {w : World} {v : Value} {ns : List Nat} (hr : Rd w v (bv ns)) (hb : By ns) (hl : 4 ≤ ns.length) (hl1 : ns.length ≤ 140737488355328) :
    Calls Tryz.prog 62 #[v] w fun e w' => e = .returned (.tuple #[.int .u32 (unf (ns.take 4) : Int), .int .i64 0]) ∧ w' = w := by
  rcases hr.split with ⟨rfl, _⟩ | ⟨b, off, c, rfl, h1, h2, hc⟩
  · simp at hl
  have HR := hid (hr.front hl)
  have HB := hid hb
  have hu := unf_lt _ (hb.take 4)
  rw [List.length_take, Nat.min_eq_left hl] at hu
  have hw : IntKind.u32.wrap (unf (ns.take 4) : Int) = (unf (ns.take 4) : Int) := by rw [IntKind.wrap_u32']; omega
  clear hr hc hb
  go_enter Tryz.func62, Tryz.ntmps62
  go_wp2_with (go_at_call 98; refine (unfixed_c HR.out (HB.out.take 4) (by simp; omega)).mono ?_; rintro e w' ⟨rfl, rfl⟩)
  go_ret2
  exact ⟨rfl, rfl⟩

set_option maxRecDepth 20000 in
set_option maxHeartbeats 800000 in
theorem refunfixed_c {w : World} {v : Value} {ns : List Nat} (hr : Rd w v (bv ns)) (hb : By ns) (t z : Nat) (hz : z ≤ 8) (hl : t + z ≤ ns.length) (hl1 : ns.length ≤ 140737488355328) :
    Calls Tryz.prog 23 #[v, .int .i64 (t : Int), .int .i64 (z : Int)] w fun e w' => e = .returned (.int .u64 (unf ((ns.drop t).take z) : Int)) ∧ w' = w := by
  rcases hr.split with ⟨rfl, a, c, rfl⟩ | ⟨b, off, c, rfl, h1, h2, hc⟩
  · clear hr
    have hz0 : z = 0 := by simp at hl; omega
    subst hz0
    go_enter Tryz.func23, Tryz.ntmps23
    go_wp2
    refine wp_loop_rounds 1 ?_
    rw [rounds_succ]
    go_wp2
    go_ret
    exact ⟨rfl, rfl⟩
  · clear hr
    have HC := hid hc
    have HB := hid hb
    have HL : Hid (((ns.drop t).take z).length = z) := by
      show ((ns.drop t).take z).length = z
      rw [List.length_take, List.length_drop]; omega
    have HBs := hid ((hb.drop t).take z)
    have HG : Hid (∀ k, k < z → ((ns.drop t).take z)[k]? = ns[t + k]?) := fun k hk => by rw [List.getElem?_take, if_pos hk, List.getElem?_drop]
    generalize (ns.drop t).take z = qs at HL HBs HG ⊢
    clear hc hb
    go_enter Tryz.func23, Tryz.ntmps23
    go_wp2
    go_loop [7, 8] (fun v7 v8 => ∃ (k : Nat) (i : Int) (m : Nat), k ≤ z ∧ i + 1 = (k : Int) ∧ v8 = .int .i64 i ∧ v7 = .int .u64 (m : Int) ∧ m = unf (qs.drop k) ∧ m < 256 ^ (z - k)) (fun _ v8 => (intOf v8 + 1).toNat)
    case atStart => exact ⟨z, (z : Int) - 1, 0, by omega, by omega, rfl, rfl, by rw [List.drop_eq_nil_of_le (by rw [HL.out]; omega)]; rfl, Nat.pow_pos (by omega)⟩
    case round =>
      obtain ⟨k, i, m, hk, hi, rfl, rfl, hm, hm2⟩ := hrel
      have HM := hid hm
      clear hm
      by_cases hlt : 0 < k
      · obtain ⟨j, rfl⟩ : ∃ j, k = j + 1 := ⟨k - 1, by omega⟩
        have hj : j < qs.length := by rw [HL.out]; omega
        obtain ⟨x, hx, hd⟩ := drop_at hj
        have hcell := HC.out (t + j) x (by rw [← HG.out j (by omega)]; exact hx)
        have hx256 : x < 256 := HBs.out.at hx
        have hi' : i = (j : Int) := by omega
        subst hi'
        have en : ((t : Int) + (j : Int)).toNat = t + j := by omega
        have hp : 256 ^ (z - (j + 1)) ≤ 256 ^ 7 := Nat.pow_le_pow_right (by omega) (by omega)
        have hm3 : m < 72057594037927936 := by omega
        have HD := hid hd
        have HM2 := hid hm2
        clear hd hx hp hm2 hi
        go_wp2
        go_round
        case rel =>
          refine ⟨j, (j : Int) - 1, 256 * m + x, by omega, by omega, by go_num, by go_num, ?_, ?_⟩
          · rw [HD.out, unf, ← HM.out]; omega
          · rw [show z - j = (z - (j + 1)) + 1 from by omega, Nat.pow_succ]; have := HM2.out; omega
        case measure => simp [intOf]
      · have hk0 : k = 0 := by omega
        subst hk0
        have hi' : i = -1 := by omega
        subst hi'
        go_wp2
        go_ret
        have := HM.out
        rw [List.drop_zero] at this
        rw [← this]
        exact ⟨rfl, rfl⟩
end Go.Proofs.YtnnookkcnmgbfaaGreat
