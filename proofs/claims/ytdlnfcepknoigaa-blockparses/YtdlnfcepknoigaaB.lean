/-
  What the reference's Put and both Takes answer.
-/
import Derived.Test.YtdlnfcepknoigaaJ03
namespace Go.Proofs.Ytdlnfcepknoigaa
open Go.ChangeShapes Go.WideShapes Go.ChangeAt Go.RowKit

set_option maxRecDepth 20000 in
set_option maxHeartbeats 400000 in
theorem refput_c (w : World) (n : Nat) (hn : n < 18446744073709551616) :
    Calls Try.prog 40 #[.int .u64 (n : Int)] w fun e w' => ∃ v, e = .returned v ∧ w'.ownsRow w.heap.size 5 1 v (putL n).length (bv (putL n)) ∧ Fr [] w w' := by
  have HN := hid hn
  clear hn
  go_enter Try.func40, Try.ntmps40
  go_wp2
  go_loopw [0, 3] (fun v0 v3 wr => ∃ (m : Nat) (xs : List Nat), m < 18446744073709551616 ∧ v0 = .int .u64 (m : Int) ∧ xs ++ putL m = putL n ∧ wr.ownsRow w.heap.size 5 1 v3 xs.length (bv xs) ∧ Fr [] w wr) (fun v0 _ _ => (intOf v0).toNat)
  case atStart => exact ⟨n, [], HN.out, rfl, rfl, World.ownsRow_nil _ _ _ _, Fr.refl _ _⟩
  case round =>
    obtain ⟨m, xs, hm, rfl, hxs, hown, hfr⟩ := hrel
    have HX := hid hxs
    have HM := hid hm
    have HO := hid hown
    have HF := hid hfr
    have hsz := hfr.size
    have hxl : xs.length ≤ 10 := by
      have h1 := congrArg List.length hxs
      have h2 := putL_len10 HN.out
      rw [List.length_append] at h1; omega
    clear hxs hown hfr
    go_wp2_with (at_builtin; refine wpList_append_rd rfl _ _ rfl w.heap.size (by simp; omega) _ _ _ rfl (HO.out.alloc _) _ [_] rfl (Rd_lit1 _ _) (by simp [Value.oneCell']) (by simp; omega) ?_; intro v' w' o1 o2 o3)
    · have hge : 128 ≤ m := by omega
      have B : Hid (m / 128 < 18446744073709551616 ∧ (xs ++ [m % 128 + 128]) ++ putL (m / 128) = putL n ∧ w'.ownsRow w.heap.size 5 1 v' (xs ++ [m % 128 + 128]).length (bv (xs ++ [m % 128 + 128])) ∧ Fr [] w w') := by
        refine ⟨by have := HM.out; omega, by rw [← HX.out, putL_ge hge]; simp, ?_, (HF.out.alloc _).grew (HO.out.alloc _) (Nat.le_refl _) o2⟩
        rw [bv_append, List.length_append]
        have e : bv [m % 128 + 128] = [Value.int .u8 (128 + (m : Int) % 128)] := by
          rw [show (128 + (m : Int) % 128) = ((m % 128 + 128 : Nat) : Int) from by omega]; rfl
        rw [e]; exact o1
      clear o1 o2 o3
      go_wp2
      go_roundw
      case rel => exact ⟨m / 128, _, B.out.1, by go_num, B.out.2⟩
      case measure => simp [intOf]; omega
    · have hlt : m < 128 := by omega
      go_wp2
      go_ret
      refine ⟨v', rfl, ?_, (HF.out.alloc _).grew (HO.out.alloc _) (Nat.le_refl _) o2⟩
      rw [← HX.out, putL_lt hlt, bv_append, List.length_append]
      exact o1

theorem drop_at {ns : List Nat} {k : Nat} (h : k < ns.length) : ∃ x, ns[k]? = some x ∧ ns.drop k = x :: ns.drop (k + 1) :=
  ⟨ns[k], List.getElem?_eq_getElem h, List.drop_eq_getElem_cons h⟩
theorem tk_nil (i v : Nat) : tk i v [] = (0, 0, 20) := rfl
theorem tk_bad {i v x : Nat} {r : List Nat} (h : i = 9 ∧ 1 < x ∨ 0 < i ∧ x = 0) : tk i v (x :: r) = (0, 0, 21) := by rw [tk, if_pos h]
theorem tk_end {i v x : Nat} {r : List Nat} (h : ¬ (i = 9 ∧ 1 < x ∨ 0 < i ∧ x = 0)) (hx : x < 128) : tk i v (x :: r) = (v + x % 128 * 2 ^ (7 * i), i + 1, 0) := by rw [tk, if_neg h, if_pos hx]
theorem tk_on {i v x : Nat} {r : List Nat} (h : ¬ (i = 9 ∧ 1 < x ∨ 0 < i ∧ x = 0)) (hx : ¬ x < 128) : tk i v (x :: r) = tk (i + 1) (v + x % 128 * 2 ^ (7 * i)) r := by rw [tk, if_neg h, if_neg hx]

/-- A result of Take as the program hands it over. -/
def tkv (t : Nat × Nat × Nat) : Value := .tuple #[.int .u64 (t.1 : Int), .int .i64 (t.2.1 : Int), .int .i64 (t.2.2 : Int)]

theorem andNot128 {x : Nat} (hx : x < 256) : bits .andNot .u8 (x : Int) 128 = ((x % 128 : Nat) : Int) := by
  have h := u8_andNot_nat x 128 hx (by omega)
  have e : x &&& (255 - 128) = x % 128 := nat_mask7 x
  rw [e] at h; exact h
theorem wrap64_nat {n : Nat} (h : n < 18446744073709551616) : IntKind.u64.wrap (n : Int) = (n : Int) := by rw [IntKind.wrap_u64]; omega
theorem shl_lt {k m x : Nat} (hk : k ≤ 9) (hm : m < 2 ^ (7 * k)) (h9 : k = 9 → x ≤ 1) : m + x % 128 * 2 ^ (7 * k) < 18446744073709551616 := by
  have e2 : 2 ^ (7 * (k + 1)) = 128 * 2 ^ (7 * k) := by rw [show (128 : Nat) = 2 ^ 7 from rfl, ← Nat.pow_add]; congr 1; omega
  rcases Nat.lt_or_ge k 9 with h3 | h3
  · have h1 : 2 ^ (7 * (k + 1)) ≤ 2 ^ 63 := Nat.pow_le_pow_right (by omega) (by omega)
    have h2 : x % 128 * 2 ^ (7 * k) ≤ 127 * 2 ^ (7 * k) := Nat.mul_le_mul_right _ (by omega)
    omega
  · have h : k = 9 := by omega
    have := h9 h
    subst h
    have h4 : x % 128 ≤ 1 := by omega
    have h2 : x % 128 * 2 ^ (7 * 9) ≤ 1 * 2 ^ (7 * 9) := Nat.mul_le_mul_right _ h4
    omega
theorem or_add {a b i : Nat} (hb : b < 2 ^ i) (ha : a % 2 ^ i = 0) : b ||| a = b + a := by rw [Nat.or_comm, nat_join i a b ha hb, Nat.add_comm]
theorem take_val {k m x : Nat} (hk : k ≤ 9) (hm : m < 2 ^ (7 * k)) (hx : x < 256) (h9 : k = 9 → x ≤ 1) :
    bits .or .u64 (m : Int) (IntKind.u64.wrap (IntKind.u64.wrap (bits .andNot .u8 (x : Int) 128) * 2 ^ (7 * k))) = ((m + x % 128 * 2 ^ (7 * k) : Nat) : Int) := by
  have hlt := shl_lt hk hm h9
  rw [andNot128 hx, wrap64_nat (by omega), show (((x % 128 : Nat) : Int) * 2 ^ (7 * k)) = ((x % 128 * 2 ^ (7 * k) : Nat) : Int) from by simp, wrap64_nat (by omega), u64_or_nat _ _ (by omega) (by omega), or_add hm (Nat.mul_mod_left _ _)]

theorem take_ret {k m x : Nat} (hk : k ≤ 9) (hm : m < 2 ^ (7 * k)) (hx : x < 256) (h9 : k = 9 → x ≤ 1) :
    Ending.returned (.tuple #[.int .u64 (bits .or .u64 (m : Int) (IntKind.u64.wrap (IntKind.u64.wrap (bits .andNot .u8 (x : Int) 128) * 2 ^ (7 * k)))), .int .i64 ((k : Int) + 1), .int .i64 0]) = .returned (tkv (m + x % 128 * 2 ^ (7 * k), k + 1, 0)) := by
  rw [take_val hk hm hx h9]; rfl
theorem take_ret9 {k m x : Nat} (hk : k = 9) (hm : m < 2 ^ (7 * k)) (hx : x < 256) (h9 : x ≤ 1) :
    Ending.returned (.tuple #[.int .u64 (bits .or .u64 (m : Int) (IntKind.u64.wrap (IntKind.u64.wrap (bits .andNot .u8 (x : Int) 128) * 9223372036854775808))), .int .i64 10, .int .i64 0]) = .returned (tkv (m + x % 128 * 2 ^ (7 * k), k + 1, 0)) := by
  subst hk
  exact take_ret (k := 9) (by omega) hm hx fun _ => h9

set_option maxRecDepth 20000 in
set_option maxHeartbeats 800000 in
theorem take_c {w : World} {v : Value} {ns : List Nat} (hr : Rd w v (bv ns)) (hb : By ns) (hl : ns.length ≤ 140737488355328) :
    Calls Try.prog 66 #[v] w fun e w' => e = .returned (tkv (takeL ns)) ∧ w' = w := by
  rcases hr.split with ⟨rfl, a, c, rfl⟩ | ⟨b, off, c, rfl, h1, h2, hc⟩
  · clear hr
    go_enter Try.func66, Try.ntmps66
    go_wp2
    refine wp_loop_rounds 1 ?_
    rw [rounds_succ]
    go_wp2
    go_ret3
    exact ⟨rfl, rfl⟩
  · clear hr
    have HC := hid hc
    have HB := hid hb
    clear hc hb
    go_enter Try.func66, Try.ntmps66
    go_wp2
    go_loop [5, 10] (fun v5 v10 => ∃ (k m : Nat), k ≤ 9 ∧ k ≤ ns.length ∧ v10 = .int .i64 (k : Int) ∧ v5 = .int .u64 (m : Int) ∧ m < 2 ^ (7 * k) ∧ tk k m (ns.drop k) = takeL ns) (fun _ v10 => ns.length - (intOf v10).toNat)
    case atStart => exact ⟨0, 0, by omega, by omega, rfl, rfl, by simp, rfl⟩
    case round =>
      obtain ⟨k, m, hk, hkl, rfl, rfl, hm, htk⟩ := hrel
      have HT := hid htk
      have HM := hid hm
      clear htk hm
      by_cases hlt : k < ns.length
      · obtain ⟨x, hx, hd⟩ := drop_at hlt
        have hcell := HC.out k x hx
        have hx256 : x < 256 := HB.out.at hx
        have HD := hid hd
        clear hd hx
        rcases (show (9 ≤ k ∧ 1 < x) ∨ (9 ≤ k ∧ x < 1) ∨ (9 ≤ k ∧ 1 ≤ x ∧ x ≤ 1) ∨ (0 < k ∧ k < 9 ∧ x < 1) ∨ (0 < k ∧ k < 9 ∧ 0 < x ∧ x < 128) ∨ (0 < k ∧ k < 9 ∧ 128 ≤ x) ∨ (k < 1 ∧ x < 128) ∨ (k < 1 ∧ 128 ≤ x) from by omega) with ⟨q1, q2⟩ | ⟨q1, q2⟩ | ⟨q1, q2, q3⟩ | ⟨q1, q2, q3⟩ | ⟨q1, q2, q3, q4⟩ | ⟨q1, q2, q3⟩ | ⟨q1, q2⟩ | ⟨q1, q2⟩
        · have e0 : ((x : Int) == 0) = false := by simp; omega
          go_wp2
          go_ret3
          refine ⟨?_, rfl⟩
          rw [← HT.out, HD.out, tk_bad (by omega)]; rfl
        · have e0 : ((x : Int) == 0) = true := by simp; omega
          go_wp2
          go_ret3
          refine ⟨?_, rfl⟩
          rw [← HT.out, HD.out, tk_bad (by omega)]; rfl
        · have e0 : ((x : Int) == 0) = false := by simp; omega
          go_wp2
          go_ret3
          refine ⟨?_, rfl⟩
          rw [← HT.out, HD.out, tk_end (by omega) (by omega)]
          exact take_ret9 (by omega) HM.out hx256 (by omega)
        · have e0 : ((x : Int) == 0) = true := by simp; omega
          go_wp2
          go_ret3
          refine ⟨?_, rfl⟩
          rw [← HT.out, HD.out, tk_bad (by omega)]; rfl
        · have e0 : ((x : Int) == 0) = false := by simp; omega
          go_wp2
          go_ret3
          refine ⟨?_, rfl⟩
          rw [← HT.out, HD.out, tk_end (by omega) (by omega)]
          exact take_ret hk HM.out hx256 (by omega)
        · have e0 : ((x : Int) == 0) = false := by simp; omega
          go_wp2
          have hv := take_val hk HM.out hx256 (by omega)
          have hn : m + x % 128 * 2 ^ (7 * k) < 2 ^ (7 * (k + 1)) := by
            have e2 : 2 ^ (7 * (k + 1)) = 128 * 2 ^ (7 * k) := by rw [show (128 : Nat) = 2 ^ 7 from rfl, ← Nat.pow_add]; congr 1; omega
            have h2 : x % 128 * 2 ^ (7 * k) ≤ 127 * 2 ^ (7 * k) := Nat.mul_le_mul_right _ (by omega)
            have := HM.out
            omega
          go_round
          case rel => exact ⟨k + 1, m + x % 128 * 2 ^ (7 * k), by omega, by omega, by go_num, by rw [hv], hn, by rw [← HT.out, HD.out, tk_on (by omega) (by omega)]⟩
          case measure => simp [intOf]; omega
        · go_wp2
          go_ret3
          refine ⟨?_, rfl⟩
          rw [← HT.out, HD.out, tk_end (by omega) (by omega)]
          exact take_ret hk HM.out hx256 (by omega)
        · have e0 : ((x : Int) == 0) = false := by simp; omega
          go_wp2
          have hv := take_val hk HM.out hx256 (by omega)
          have hn : m + x % 128 * 2 ^ (7 * k) < 2 ^ (7 * (k + 1)) := by
            have e2 : 2 ^ (7 * (k + 1)) = 128 * 2 ^ (7 * k) := by rw [show (128 : Nat) = 2 ^ 7 from rfl, ← Nat.pow_add]; congr 1; omega
            have h2 : x % 128 * 2 ^ (7 * k) ≤ 127 * 2 ^ (7 * k) := Nat.mul_le_mul_right _ (by omega)
            have := HM.out
            omega
          go_round
          case rel => exact ⟨k + 1, m + x % 128 * 2 ^ (7 * k), by omega, by omega, by go_num, by rw [hv], hn, by rw [← HT.out, HD.out, tk_on (by omega) (by omega)]⟩
          case measure => simp [intOf]; omega
      · go_wp2
        go_ret3
        refine ⟨?_, rfl⟩
        rw [← HT.out, List.drop_eq_nil_of_le (by omega), tk_nil]; rfl
end Go.Proofs.Ytdlnfcepknoigaa
