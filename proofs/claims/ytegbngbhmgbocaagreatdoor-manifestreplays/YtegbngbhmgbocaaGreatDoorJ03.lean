/-
  What the reference's Put and both Takes answer.
-/
import Derived.Test.YtegbngbhmgbocaaGreatDoorJ02
namespace Go.Proofs.YtegbngbhmgbocaaGreatDoor
open Go.ChangeShapes Go.WideShapes Go.ChangeAt Go.RowKit

set_option maxRecDepth 20000 in
set_option maxHeartbeats 400000 in
theorem refput_c (w : World) (n : Nat) (hn : n < 18446744073709551616) :
    Calls Tryz.prog 72 #[.int .u64 (n : Int)] w fun e w' => ∃ v, e = .returned v ∧ w'.ownsRow w.heap.size 5 1 v (putL n).length (bv (putL n)) ∧ Fr [] w w' := by
  have HN := hid hn
  clear hn
  go_enter Tryz.func72, Tryz.ntmps72
  go_wp2
  go_loopw [0, 3] (fun v0 v3 wr => ∃ (m : Nat) (xs : List Nat), m < 18446744073709551616 ∧ v0 = .int .u64 (m : Int) ∧ xs ++ putL m = putL n ∧ wr.ownsRow w.heap.size 5 1 v3 xs.length (bv xs) ∧ Fr [] w wr) (fun v0 _ _ => (intOf v0).toNat)
  case atStart => exact ⟨n, [], HN.out, rfl, rfl, World.ownsRow_nil _ _ _ _, Fr.refl _ _⟩
  case round =>
    obtain ⟨m, xs, hm, rfl, hxs, hown, hfr⟩ := hrel
    have HX := hid hxs
    have HM := hid hm
    have HO := hid hown
    have HF := hid hfr
    have hsz := hfr.size
    have hxl : xs.length ≤ 10 := by
      have h1 := congrArg List.length hxs
      have h2 := putL_len10 HN.out
      rw [List.length_append] at h1; omega
    clear hxs hown hfr
    go_wp2_with (at_builtin; refine wpList_append_rd rfl _ _ rfl w.heap.size (by simp; omega) _ _ _ rfl (HO.out.alloc _) _ [_] rfl (Rd_lit1 _ _) (by simp [Value.oneCell']) (by simp; omega) ?_; intro v' w' o1 o2 o3)
    · have hge : 128 ≤ m := by omega
      have B : Hid (m / 128 < 18446744073709551616 ∧ (xs ++ [m % 128 + 128]) ++ putL (m / 128) = putL n ∧ w'.ownsRow w.heap.size 5 1 v' (xs ++ [m % 128 + 128]).length (bv (xs ++ [m % 128 + 128])) ∧ Fr [] w w') := by
        refine ⟨by have := HM.out; omega, by rw [← HX.out, putL_ge hge]; simp, ?_, (HF.out.alloc _).grew (HO.out.alloc _) (Nat.le_refl _) o2⟩
        rw [bv_append, List.length_append]
        have e : bv [m % 128 + 128] = [Value.int .u8 (128 + (m : Int) % 128)] := by
          rw [show (128 + (m : Int) % 128) = ((m % 128 + 128 : Nat) : Int) from by omega]; rfl
        rw [e]; exact o1
      clear o1 o2 o3
      go_wp2
      go_roundw
      case rel => exact ⟨m / 128, _, B.out.1, by go_num, B.out.2⟩
      case measure => simp [intOf]; omega
    · have hlt : m < 128 := by omega
      go_wp2
      go_ret
      refine ⟨v', rfl, ?_, (HF.out.alloc _).grew (HO.out.alloc _) (Nat.le_refl _) o2⟩
      rw [← HX.out, putL_lt hlt, bv_append, List.length_append]
      exact o1

theorem drop_at {ns : List Nat} {k : Nat} (h : k < ns.length) : ∃ x, ns[k]? = some x ∧ ns.drop k = x :: ns.drop (k + 1) :=
  ⟨ns[k], List.getElem?_eq_getElem h, List.drop_eq_getElem_cons h⟩
theorem tk_nil (i v : Nat) : tk i v [] = (0, 0, 20) := rfl
theorem tk_bad {i v x : Nat} {r : List Nat} (h : i = 9 ∧ 1 < x ∨ 0 < i ∧ x = 0) : tk i v (x :: r) = (0, 0, 21) := by rw [tk, if_pos h]
theorem tk_end {i v x : Nat} {r : List Nat} (h : ¬ (i = 9 ∧ 1 < x ∨ 0 < i ∧ x = 0)) (hx : x < 128) : tk i v (x :: r) = (v + x % 128 * 2 ^ (7 * i), i + 1, 0) := by rw [tk, if_neg h, if_pos hx]
theorem tk_on {i v x : Nat} {r : List Nat} (h : ¬ (i = 9 ∧ 1 < x ∨ 0 < i ∧ x = 0)) (hx : ¬ x < 128) : tk i v (x :: r) = tk (i + 1) (v + x % 128 * 2 ^ (7 * i)) r := by rw [tk, if_neg h, if_neg hx]

/-- A result of Take as the program hands it over. -/
def tkv (t : Nat × Nat × Nat) : Value := .tuple #[.int .u64 (t.1 : Int), .int .i64 (t.2.1 : Int), .int .i64 (t.2.2 : Int)]

theorem andNot128 {x : Nat} (hx : x < 256) : bits .andNot .u8 (x : Int) 128 = ((x % 128 : Nat) : Int) := by
  have h := u8_andNot_nat x 128 hx (by omega)
  have e : x &&& (255 - 128) = x % 128 := nat_mask7 x
  rw [e] at h; exact h
theorem wrap64_nat {n : Nat} (h : n < 18446744073709551616) : IntKind.u64.wrap (n : Int) = (n : Int) := by rw [IntKind.wrap_u64]; omega
theorem shl_lt {k m x : Nat} (hk : k ≤ 9) (hm : m < 2 ^ (7 * k)) (h9 : k = 9 → x ≤ 1) : m + x % 128 * 2 ^ (7 * k) < 18446744073709551616 := by
  have e2 : 2 ^ (7 * (k + 1)) = 128 * 2 ^ (7 * k) := by rw [show (128 : Nat) = 2 ^ 7 from rfl, ← Nat.pow_add]; congr 1; omega
  rcases Nat.lt_or_ge k 9 with h3 | h3
  · have h1 : 2 ^ (7 * (k + 1)) ≤ 2 ^ 63 := Nat.pow_le_pow_right (by omega) (by omega)
    have h2 : x % 128 * 2 ^ (7 * k) ≤ 127 * 2 ^ (7 * k) := Nat.mul_le_mul_right _ (by omega)
    omega
  · have h : k = 9 := by omega
    have := h9 h
    subst h
    have h4 : x % 128 ≤ 1 := by omega
    have h2 : x % 128 * 2 ^ (7 * 9) ≤ 1 * 2 ^ (7 * 9) := Nat.mul_le_mul_right _ h4
    omega
theorem or_add {a b i : Nat} (hb : b < 2 ^ i) (ha : a % 2 ^ i = 0) : b ||| a = b + a := by rw [Nat.or_comm, nat_join i a b ha hb, Nat.add_comm]
theorem take_val {k m x : Nat} (hk : k ≤ 9) (hm : m < 2 ^ (7 * k)) (hx : x < 256) (h9 : k = 9 → x ≤ 1) :
    bits .or .u64 (m : Int) (IntKind.u64.wrap (IntKind.u64.wrap (bits .andNot .u8 (x : Int) 128) * 2 ^ (7 * k))) = ((m + x % 128 * 2 ^ (7 * k) : Nat) : Int) := by
  have hlt := shl_lt hk hm h9
  rw [andNot128 hx, wrap64_nat (by omega), show (((x % 128 : Nat) : Int) * 2 ^ (7 * k)) = ((x % 128 * 2 ^ (7 * k) : Nat) : Int) from by simp, wrap64_nat (by omega), u64_or_nat _ _ (by omega) (by omega), or_add hm (Nat.mul_mod_left _ _)]

theorem take_ret {k m x : Nat} (hk : k ≤ 9) (hm : m < 2 ^ (7 * k)) (hx : x < 256) (h9 : k = 9 → x ≤ 1) :
    Ending.returned (.tuple #[.int .u64 (bits .or .u64 (m : Int) (IntKind.u64.wrap (IntKind.u64.wrap (bits .andNot .u8 (x : Int) 128) * 2 ^ (7 * k)))), .int .i64 ((k : Int) + 1), .int .i64 0]) = .returned (tkv (m + x % 128 * 2 ^ (7 * k), k + 1, 0)) := by
  rw [take_val hk hm hx h9]; rfl
theorem take_ret9 {k m x : Nat} (hk : k = 9) (hm : m < 2 ^ (7 * k)) (hx : x < 256) (h9 : x ≤ 1) :
    Ending.returned (.tuple #[.int .u64 (bits .or .u64 (m : Int) (IntKind.u64.wrap (IntKind.u64.wrap (bits .andNot .u8 (x : Int) 128) * 9223372036854775808))), .int .i64 10, .int .i64 0]) = .returned (tkv (m + x % 128 * 2 ^ (7 * k), k + 1, 0)) := by
  subst hk
  exact take_ret (k := 9) (by omega) hm hx fun _ => h9

set_option maxRecDepth 20000 in
set_option maxHeartbeats 800000 in
theorem take_c {w : World} {v : Value} {ns : List Nat} (hr : Rd w v (bv ns)) (hb : By ns) (hl : ns.length ≤ 140737488355328) :
    Calls Tryz.prog 57 #[v] w fun e w' => e = .returned (tkv (takeL ns)) ∧ w' = w := by
  rcases hr.split with ⟨rfl, a, c, rfl⟩ | ⟨b, off, c, rfl, h1, h2, hc⟩
  · clear hr
    go_enter Tryz.func57, Tryz.ntmps57
    go_wp2
    refine wp_loop_rounds 1 ?_
    rw [rounds_succ]
    go_wp2
    go_ret3
    exact ⟨rfl, rfl⟩
  · clear hr
    have HC := hid hc
    have HB := hid hb
    clear hc hb
    go_enter Tryz.func57, Tryz.ntmps57
    go_wp2
    go_loop [5, 10] (fun v5 v10 => ∃ (k m : Nat), k ≤ 9 ∧ k ≤ ns.length ∧ v10 = .int .i64 (k : Int) ∧ v5 = .int .u64 (m : Int) ∧ m < 2 ^ (7 * k) ∧ tk k m (ns.drop k) = takeL ns) (fun _ v10 => ns.length - (intOf v10).toNat)
    case atStart => exact ⟨0, 0, by omega, by omega, rfl, rfl, by simp, rfl⟩
    case round =>
      obtain ⟨k, m, hk, hkl, rfl, rfl, hm, htk⟩ := hrel
      have HT := hid htk
      have HM := hid hm
      clear htk hm
      by_cases hlt : k < ns.length
      · obtain ⟨x, hx, hd⟩ := drop_at hlt
        have hcell := HC.out k x hx
        have hx256 : x < 256 := HB.out.at hx
        have HD := hid hd
        clear hd hx
        rcases (show (9 ≤ k ∧ 1 < x) ∨ (9 ≤ k ∧ x < 1) ∨ (9 ≤ k ∧ 1 ≤ x ∧ x ≤ 1) ∨ (0 < k ∧ k < 9 ∧ x < 1) ∨ (0 < k ∧ k < 9 ∧ 0 < x ∧ x < 128) ∨ (0 < k ∧ k < 9 ∧ 128 ≤ x) ∨ (k < 1 ∧ x < 128) ∨ (k < 1 ∧ 128 ≤ x) from by omega) with ⟨q1, q2⟩ | ⟨q1, q2⟩ | ⟨q1, q2, q3⟩ | ⟨q1, q2, q3⟩ | ⟨q1, q2, q3, q4⟩ | ⟨q1, q2, q3⟩ | ⟨q1, q2⟩ | ⟨q1, q2⟩
        · have e0 : ((x : Int) == 0) = false := by simp; omega
          go_wp2
          go_ret3
          refine ⟨?_, rfl⟩
          rw [← HT.out, HD.out, tk_bad (by omega)]; rfl
        · have e0 : ((x : Int) == 0) = true := by simp; omega
          go_wp2
          go_ret3
          refine ⟨?_, rfl⟩
          rw [← HT.out, HD.out, tk_bad (by omega)]; rfl
        · have e0 : ((x : Int) == 0) = false := by simp; omega
          go_wp2
          go_ret3
          refine ⟨?_, rfl⟩
          rw [← HT.out, HD.out, tk_end (by omega) (by omega)]
          exact take_ret9 (by omega) HM.out hx256 (by omega)
        · have e0 : ((x : Int) == 0) = true := by simp; omega
          go_wp2
          go_ret3
          refine ⟨?_, rfl⟩
          rw [← HT.out, HD.out, tk_bad (by omega)]; rfl
        · have e0 : ((x : Int) == 0) = false := by simp; omega
          go_wp2
          go_ret3
          refine ⟨?_, rfl⟩
          rw [← HT.out, HD.out, tk_end (by omega) (by omega)]
          exact take_ret hk HM.out hx256 (by omega)
        · have e0 : ((x : Int) == 0) = false := by simp; omega
          go_wp2
          have hv := take_val hk HM.out hx256 (by omega)
          have hn : m + x % 128 * 2 ^ (7 * k) < 2 ^ (7 * (k + 1)) := by
            have e2 : 2 ^ (7 * (k + 1)) = 128 * 2 ^ (7 * k) := by rw [show (128 : Nat) = 2 ^ 7 from rfl, ← Nat.pow_add]; congr 1; omega
            have h2 : x % 128 * 2 ^ (7 * k) ≤ 127 * 2 ^ (7 * k) := Nat.mul_le_mul_right _ (by omega)
            have := HM.out
            omega
          go_round
          case rel => exact ⟨k + 1, m + x % 128 * 2 ^ (7 * k), by omega, by omega, by go_num, by rw [hv], hn, by rw [← HT.out, HD.out, tk_on (by omega) (by omega)]⟩
          case measure => simp [intOf]; omega
        · go_wp2
          go_ret3
          refine ⟨?_, rfl⟩
          rw [← HT.out, HD.out, tk_end (by omega) (by omega)]
          exact take_ret hk HM.out hx256 (by omega)
        · have e0 : ((x : Int) == 0) = false := by simp; omega
          go_wp2
          have hv := take_val hk HM.out hx256 (by omega)
          have hn : m + x % 128 * 2 ^ (7 * k) < 2 ^ (7 * (k + 1)) := by
            have e2 : 2 ^ (7 * (k + 1)) = 128 * 2 ^ (7 * k) := by rw [show (128 : Nat) = 2 ^ 7 from rfl, ← Nat.pow_add]; congr 1; omega
            have h2 : x % 128 * 2 ^ (7 * k) ≤ 127 * 2 ^ (7 * k) := Nat.mul_le_mul_right _ (by omega)
            have := HM.out
            omega
          go_round
          case rel => exact ⟨k + 1, m + x % 128 * 2 ^ (7 * k), by omega, by omega, by go_num, by rw [hv], hn, by rw [← HT.out, HD.out, tk_on (by omega) (by omega)]⟩
          case measure => simp [intOf]; omega
      · go_wp2
        go_ret3
        refine ⟨?_, rfl⟩
        rw [← HT.out, List.drop_eq_nil_of_le (by omega), tk_nil]; rfl
end Go.Proofs.YtegbngbhmgbocaaGreatDoor
namespace Go.Proofs.YtegbngbhmgbocaaGreatDoor
open Go.ChangeShapes Go.WideShapes Go.ChangeAt Go.RowKit

theorem wrap32_nat {n : Nat} (h : n < 4294967296) : IntKind.u32.wrap (n : Int) = (n : Int) := by rw [IntKind.wrap_u32']; omega
theorem cs_mask {r : Nat} (h : r < 4294967296) :
    bits .xor .u32 ((r : Int) / 2) (bits .and .u32 2197175160 (-bits .and .u32 (r : Int) 1 % 4294967296)) = (cs r : Int) := by
  have h1 : bits .and .u32 (r : Int) 1 = ((r % 2 : Nat) : Int) := by
    have := u32_and_nat r 1 h (by omega)
    rw [nat_mask1] at this; exact this
  rw [h1, show (r : Int) / 2 = ((r / 2 : Nat) : Int) from by omega]
  unfold cs
  rcases Nat.mod_two_eq_zero_or_one r with e | e <;> rw [e]
  · have h2 : bits .and .u32 2197175160 (-((0 : Nat) : Int) % 4294967296) = ((0 : Nat) : Int) := by decide
    rw [h2, if_neg (by omega), u32_xor_nat _ _ (by omega) (by omega)]
  · have h2 : bits .and .u32 2197175160 (-((1 : Nat) : Int) % 4294967296) = ((2197175160 : Nat) : Int) := by decide
    rw [h2, if_pos rfl, u32_xor_nat _ _ (by omega) (by omega)]
theorem crc_end {r : Nat} (h : r < 4294967296) : bits .xor .u32 4294967295 (r : Int) = ((4294967295 ^^^ r : Nat) : Int) := u32_xor_nat 4294967295 r (by omega) h
theorem crcF_snoc {ns : List Nat} {k x : Nat} (h : ns[k]? = some x) (r : Nat) : crcF r (ns.take (k + 1)) = csN 8 (crcF r (ns.take k) ^^^ x) := by
  rw [List.take_add_one, h, crcF_append]; rfl

set_option maxRecDepth 20000 in
set_option maxHeartbeats 800000 in
theorem sum_c {w : World} {v : Value} {ns : List Nat} (hr : Rd w v (bv ns)) (hb : By ns) (hl : ns.length ≤ 140737488355328) :
    Calls Tryz.prog 55 #[v] w fun e w' => e = .returned (.int .u32 (crc ns : Int)) ∧ w' = w := by
  rcases hr.split with ⟨rfl, a, c, rfl⟩ | ⟨b, off, c, rfl, h1, h2, hc⟩
  · clear hr
    go_enter Tryz.func55, Tryz.ntmps55
    go_wp2
    refine wp_loop_rounds 1 ?_
    rw [rounds_succ]
    go_wp2
    go_ret
    exact ⟨rfl, rfl⟩
  · clear hr
    have HC := hid hc
    have HB := hid hb
    clear hc hb
    go_enter Tryz.func55, Tryz.ntmps55
    go_wp2
    go_loop [3, 9] (fun v3 v9 => ∃ (k r : Nat), k ≤ ns.length ∧ v9 = .int .i64 (k : Int) ∧ v3 = .int .u32 (r : Int) ∧ r < 4294967296 ∧ r = crcF 4294967295 (ns.take k)) (fun _ v9 => ns.length - (intOf v9).toNat)
    case atStart => exact ⟨0, 4294967295, by omega, rfl, rfl, by omega, rfl⟩
    case round =>
      obtain ⟨k, r, hk, rfl, rfl, hr, hrc⟩ := hrel
      have HR := hid hrc
      clear hrc
      by_cases hlt : k < ns.length
      · obtain ⟨x, hx, hd⟩ := drop_at hlt
        have hcell := HC.out k x hx
        have hx256 : x < 256 := HB.out.at hx
        have hxr := u32_xor_nat r x hr (by omega)
        have hs0 := crcF_snoc hx 4294967295
        rw [← HR.out] at hs0
        have HS := hid hs0
        clear hs0
        have hq : r ^^^ x < 4294967296 := xor_lt32 hr (by omega)
        clear hd hx
        generalize r ^^^ x = q at *
        go_wp2
        go_loop [3, 17] (fun v3 v17 => ∃ (j s : Nat), j ≤ 8 ∧ v17 = .int .i64 (j : Int) ∧ v3 = .int .u32 (s : Int) ∧ s < 4294967296 ∧ s = csN j q) (fun _ v17 => 8 - (intOf v17).toNat)
        case atStart => exact ⟨0, q, by omega, rfl, rfl, hq, rfl⟩
        case round =>
          obtain ⟨j, s, hj, rfl, rfl, hs, hsc⟩ := hrel
          have HSC := hid hsc
          clear hsc
          have hcm := cs_mask hs
          have hcl := cs_lt hs
          by_cases hj8 : j < 8
          · go_wp2
            go_round
            case rel => exact ⟨j + 1, cs s, by omega, by go_num, rfl, hcl, by rw [HSC.out]; rfl⟩
            case measure => simp [intOf]; omega
          · go_wp2
            have hj' : j = 8 := by omega
            go_round
            case rel => exact ⟨k + 1, s, by omega, by go_num, rfl, hs, by rw [HSC.out, hj', HS.out]⟩
            case measure => simp [intOf]; omega
      · have : k = ns.length := by omega
        subst this
        go_wp2
        go_ret
        refine ⟨?_, rfl⟩
        have hce := crc_end hr
        show Ending.returned (.int .u32 (bits .xor .u32 4294967295 (r : Int))) = _
        rw [hce, HR.out, List.take_length]; rfl

theorem cs_odd {r : Nat} (h : r < 4294967296) (e : r % 2 = 1) : bits .xor .u32 ((r : Int) / 2) 2197175160 = (cs r : Int) := by
  rw [show (r : Int) / 2 = ((r / 2 : Nat) : Int) from by omega]
  have := u32_xor_nat (r / 2) 2197175160 (by omega) (by omega)
  unfold cs; rw [if_pos e]; exact this
theorem cs_even {r : Nat} (e : ¬ r % 2 = 1) : (r : Int) / 2 = (cs r : Int) := by
  unfold cs; rw [if_neg e, Nat.xor_zero]; omega

set_option maxRecDepth 20000 in
set_option maxHeartbeats 800000 in
theorem refsum_c {w : World} {v : Value} {ns : List Nat} (hr : Rd w v (bv ns)) (hb : By ns) (hl : ns.length ≤ 140737488355328) :
    Calls Tryz.prog 68 #[v] w fun e w' => e = .returned (.int .u32 (crc ns : Int)) ∧ w' = w := by
  rcases hr.split with ⟨rfl, a, c, rfl⟩ | ⟨b, off, c, rfl, h1, h2, hc⟩
  · clear hr
    go_enter Tryz.func68, Tryz.ntmps68
    go_wp2
    refine wp_loop_rounds 1 ?_
    rw [rounds_succ]
    go_wp2
    go_ret
    exact ⟨rfl, rfl⟩
  · clear hr
    have HC := hid hc
    have HB := hid hb
    clear hc hb
    go_enter Tryz.func68, Tryz.ntmps68
    go_wp2
    go_loop [3, 4] (fun v3 v4 => ∃ (k r : Nat), k ≤ ns.length ∧ v4 = .int .i64 (k : Int) ∧ v3 = .int .u32 (r : Int) ∧ r < 4294967296 ∧ r = crcF 4294967295 (ns.take k)) (fun _ v4 => ns.length - (intOf v4).toNat)
    case atStart => exact ⟨0, 4294967295, by omega, rfl, rfl, by omega, rfl⟩
    case round =>
      obtain ⟨k, r, hk, rfl, rfl, hr, hrc⟩ := hrel
      have HR := hid hrc
      clear hrc
      by_cases hlt : k < ns.length
      · obtain ⟨x, hx, hd⟩ := drop_at hlt
        have hcell := HC.out k x hx
        have hx256 : x < 256 := HB.out.at hx
        have hxr := u32_xor_nat r x hr (by omega)
        have hs0 := crcF_snoc hx 4294967295
        rw [← HR.out] at hs0
        have HS := hid hs0
        clear hs0
        have hq : r ^^^ x < 4294967296 := xor_lt32 hr (by omega)
        clear hd hx
        generalize r ^^^ x = q at *
        go_wp2
        go_loop [3, 5] (fun v3 v5 => ∃ (j s : Nat), j ≤ 8 ∧ v5 = .int .i64 (j : Int) ∧ v3 = .int .u32 (s : Int) ∧ s < 4294967296 ∧ s = csN j q) (fun _ v5 => 8 - (intOf v5).toNat)
        case atStart => exact ⟨0, q, by omega, rfl, rfl, hq, rfl⟩
        case round =>
          obtain ⟨j, s, hj, rfl, rfl, hs, hsc⟩ := hrel
          have HSC := hid hsc
          clear hsc
          have hcl := cs_lt hs
          by_cases hj8 : j < 8
          · by_cases ho : s % 2 = 1
            · have ho' : ((s : Int) % 2 == 1) = true := by simp; omega
              have HO := hid (cs_odd hs ho)
              clear ho
              go_wp2
              go_round
              case rel => exact ⟨j + 1, cs s, by omega, by go_num, by rw [HO.out], hcl, by rw [HSC.out]; rfl⟩
              case measure => simp [intOf]; omega
            · have ho' : ((s : Int) % 2 == 1) = false := by simp; omega
              have HO := hid (cs_even ho)
              clear ho
              go_wp2
              go_round
              case rel => exact ⟨j + 1, cs s, by omega, by go_num, by rw [HO.out], hcl, by rw [HSC.out]; rfl⟩
              case measure => simp [intOf]; omega
          · go_wp2
            have hj' : j = 8 := by omega
            go_round
            case rel => exact ⟨k + 1, s, by omega, by go_num, rfl, hs, by rw [HSC.out, hj', HS.out]⟩
            case measure => simp [intOf]; omega
      · have : k = ns.length := by omega
        subst this
        go_wp2
        go_ret
        refine ⟨?_, rfl⟩
        have hce := crc_end hr
        show Ending.returned (.int .u32 (bits .xor .u32 4294967295 (r : Int))) = _
        rw [hce, HR.out, List.take_length]; rfl
end Go.Proofs.YtegbngbhmgbocaaGreatDoor
namespace Go.Proofs.YtegbngbhmgbocaaGreatDoor
open Go.ChangeShapes Go.WideShapes Go.ChangeAt Go.RowKit

theorem pow8 (k : Nat) : 2 ^ (8 * k) = 256 ^ k := by rw [Nat.pow_mul]
theorem unf_take {ns : List Nat} {k x : Nat} (h : ns[k]? = some x) : unf (ns.take (k + 1)) = unf (ns.take k) + x * 2 ^ (8 * k) := by
  have hk : k < ns.length := by
    rcases Nat.lt_or_ge k ns.length with h1 | h1
    · exact h1
    · rw [List.getElem?_eq_none h1] at h; cases h
  rw [List.take_add_one, h]
  show unf (ns.take k ++ [x]) = _
  rw [unf_snoc, pow8, List.length_take, Nat.min_eq_left (by omega)]
theorem unf_take_lt {ns : List Nat} (hb : By ns) {k : Nat} (hk : k ≤ ns.length) : unf (ns.take k) < 2 ^ (8 * k) := by
  have := unf_lt _ (hb.take k)
  rwa [List.length_take, Nat.min_eq_left hk, ← pow8] at this
theorem shl8_lt {k m x : Nat} (hk : k ≤ 7) (hm : m < 2 ^ (8 * k)) (hx : x < 256) : m + x * 2 ^ (8 * k) < 18446744073709551616 := by
  have e2 : 2 ^ (8 * (k + 1)) = 256 * 2 ^ (8 * k) := by rw [show (256 : Nat) = 2 ^ 8 from rfl, ← Nat.pow_add]; congr 1; omega
  have h1 : 2 ^ (8 * (k + 1)) ≤ 2 ^ 64 := Nat.pow_le_pow_right (by omega) (by omega)
  have h2 : x * 2 ^ (8 * k) ≤ 255 * 2 ^ (8 * k) := Nat.mul_le_mul_right _ (by omega)
  omega
theorem unf_val {k m x : Nat} (hk : k ≤ 7) (hm : m < 2 ^ (8 * k)) (hx : x < 256) :
    bits .or .u64 (m : Int) (IntKind.u64.wrap ((x : Int) * 2 ^ (8 * k))) = ((m + x * 2 ^ (8 * k) : Nat) : Int) := by
  have hlt := shl8_lt hk hm hx
  rw [show ((x : Int) * 2 ^ (8 * k)) = ((x * 2 ^ (8 * k) : Nat) : Int) from by simp, wrap64_nat (by omega), u64_or_nat _ _ (by omega) (by omega), or_add hm (Nat.mul_mod_left _ _)]

set_option maxRecDepth 20000 in
set_option maxHeartbeats 800000 in
theorem unfixed_c {w : World} {v : Value} {ns : List Nat} (hr : Rd w v (bv ns)) (hb : By ns) (hl : ns.length ≤ 8) :
    Calls Tryz.prog 86 #[v] w fun e w' => e = .returned (.int .u64 (unf ns : Int)) ∧ w' = w := by
  rcases hr.split with ⟨rfl, a, c, rfl⟩ | ⟨b, off, c, rfl, h1, h2, hc⟩
  · clear hr
    go_enter Tryz.func86, Tryz.ntmps86
    go_wp2
    refine wp_loop_rounds 1 ?_
    rw [rounds_succ]
    go_wp2
    go_ret
    exact ⟨rfl, rfl⟩
  · clear hr
    have HC := hid hc
    have HB := hid hb
    clear hc hb
    go_enter Tryz.func86, Tryz.ntmps86
    go_wp2
    go_loop [3, 8] (fun v3 v8 => ∃ k : Nat, k ≤ ns.length ∧ v8 = .int .i64 (k : Int) ∧ v3 = .int .u64 (unf (ns.take k) : Int)) (fun _ v8 => ns.length - (intOf v8).toNat)
    case atStart => exact ⟨0, by omega, rfl, rfl⟩
    case round =>
      obtain ⟨k, hk, rfl, rfl⟩ := hrel
      by_cases hlt : k < ns.length
      · obtain ⟨x, hx, hd⟩ := drop_at hlt
        have hcell := HC.out k x hx
        have hx256 : x < 256 := HB.out.at hx
        have hv := unf_val (k := k) (by omega) (unf_take_lt HB.out hk) hx256
        have hu := unf_take hx
        clear hd hx
        have HV := hid hv
        have HU := hid hu
        clear hv hu
        generalize hg : unf (ns.take k) = m at *
        go_wp2
        go_round
        case rel => exact ⟨k + 1, by omega, by go_num, by rw [HU.out, HV.out]⟩
        case measure => simp [intOf]; omega
      · have : k = ns.length := by omega
        subst this
        go_wp2
        go_ret
        exact ⟨rfl, rfl⟩

theorem unfixed4_short {w : World} {v : Value} {ns : List Nat} (hr : Rd w v (bv ns)) (hl : ns.length < 4) :
    Calls Tryz.prog 54 #[v] w fun e w' => e = .returned (.tuple #[.int .u32 0, .int .i64 20]) ∧ w' = w := by
  obtain ⟨a, c, rfl⟩ := hr.form
  rw [bv_len]
  clear hr
  go_enter Tryz.func54, Tryz.ntmps54
  go_wp2
  go_ret2
  exact ⟨rfl, rfl⟩
/-- The first bytes of a slice. -/
theorem Rd.front {w : World} {b off c : Nat} {ns : List Nat} (h : Rd w (.slice (some ⟨b, off, none⟩) ns.length c) (bv ns)) {q : Nat} (hq : q ≤ ns.length) : Rd w (.slice (some ⟨b, off, none⟩) q c) (bv (ns.take q)) := by
  rcases h with ⟨h, _⟩ | ⟨a, c', h, h4, h5⟩
  · cases h
  · simp only [Value.slice.injEq, Option.some.injEq] at h
    obtain ⟨rfl, _, rfl⟩ := h
    refine .inr ⟨_, _, by rw [bv_len, List.length_take, Nat.min_eq_left hq], by rw [bv_len] at h4 ⊢; rw [List.length_take]; omega, fun j u hj => h5 j u ?_⟩
    rw [bv_take, List.getElem?_take] at hj
    split at hj
    · exact hj
    · cases hj
set_option maxHeartbeats 400000 in
theorem unfixed4_c {w : World} {v : Value} {ns : List Nat} (hr : Rd w v (bv ns)) (hb : By ns) (hl : 4 ≤ ns.length) (hl1 : ns.length ≤ 140737488355328) :
    Calls Tryz.prog 54 #[v] w fun e w' => e = .returned (.tuple #[.int .u32 (unf (ns.take 4) : Int), .int .i64 0]) ∧ w' = w := by
  rcases hr.split with ⟨rfl, _⟩ | ⟨b, off, c, rfl, h1, h2, hc⟩
  · simp at hl
  have HR := hid (hr.front hl)
  have HB := hid hb
  have hu := unf_lt _ (hb.take 4)
  rw [List.length_take, Nat.min_eq_left hl] at hu
  have hw : IntKind.u32.wrap (unf (ns.take 4) : Int) = (unf (ns.take 4) : Int) := by rw [IntKind.wrap_u32']; omega
  clear hr hc hb
  go_enter Tryz.func54, Tryz.ntmps54
  go_wp2_with (go_at_call 86; refine (unfixed_c HR.out (HB.out.take 4) (by simp; omega)).mono ?_; rintro e w' ⟨rfl, rfl⟩)
  go_ret2
  exact ⟨rfl, rfl⟩

set_option maxRecDepth 20000 in
set_option maxHeartbeats 800000 in
theorem refunfixed_c {w : World} {v : Value} {ns : List Nat} (hr : Rd w v (bv ns)) (hb : By ns) (t z : Nat) (hz : z ≤ 8) (hl : t + z ≤ ns.length) (hl1 : ns.length ≤ 140737488355328) :
    Calls Tryz.prog 67 #[v, .int .i64 (t : Int), .int .i64 (z : Int)] w fun e w' => e = .returned (.int .u64 (unf ((ns.drop t).take z) : Int)) ∧ w' = w := by
  rcases hr.split with ⟨rfl, a, c, rfl⟩ | ⟨b, off, c, rfl, h1, h2, hc⟩
  · clear hr
    have hz0 : z = 0 := by simp at hl; omega
    subst hz0
    go_enter Tryz.func67, Tryz.ntmps67
    go_wp2
    refine wp_loop_rounds 1 ?_
    rw [rounds_succ]
    go_wp2
    go_ret
    exact ⟨rfl, rfl⟩
  · clear hr
    have HC := hid hc
    have HB := hid hb
    have HL : Hid (((ns.drop t).take z).length = z) := by
      show ((ns.drop t).take z).length = z
      rw [List.length_take, List.length_drop]; omega
    have HBs := hid ((hb.drop t).take z)
    have HG : Hid (∀ k, k < z → ((ns.drop t).take z)[k]? = ns[t + k]?) := fun k hk => by rw [List.getElem?_take, if_pos hk, List.getElem?_drop]
    generalize (ns.drop t).take z = qs at HL HBs HG ⊢
    clear hc hb
    go_enter Tryz.func67, Tryz.ntmps67
    go_wp2
    go_loop [7, 8] (fun v7 v8 => ∃ (k : Nat) (i : Int) (m : Nat), k ≤ z ∧ i + 1 = (k : Int) ∧ v8 = .int .i64 i ∧ v7 = .int .u64 (m : Int) ∧ m = unf (qs.drop k) ∧ m < 256 ^ (z - k)) (fun _ v8 => (intOf v8 + 1).toNat)
    case atStart => exact ⟨z, (z : Int) - 1, 0, by omega, by omega, rfl, rfl, by rw [List.drop_eq_nil_of_le (by rw [HL.out]; omega)]; rfl, Nat.pow_pos (by omega)⟩
    case round =>
      obtain ⟨k, i, m, hk, hi, rfl, rfl, hm, hm2⟩ := hrel
      have HM := hid hm
      clear hm
      by_cases hlt : 0 < k
      · obtain ⟨j, rfl⟩ : ∃ j, k = j + 1 := ⟨k - 1, by omega⟩
        have hj : j < qs.length := by rw [HL.out]; omega
        obtain ⟨x, hx, hd⟩ := drop_at hj
        have hcell := HC.out (t + j) x (by rw [← HG.out j (by omega)]; exact hx)
        have hx256 : x < 256 := HBs.out.at hx
        have hi' : i = (j : Int) := by omega
        subst hi'
        have en : ((t : Int) + (j : Int)).toNat = t + j := by omega
        have hp : 256 ^ (z - (j + 1)) ≤ 256 ^ 7 := Nat.pow_le_pow_right (by omega) (by omega)
        have hm3 : m < 72057594037927936 := by omega
        have HD := hid hd
        have HM2 := hid hm2
        clear hd hx hp hm2 hi
        go_wp2
        go_round
        case rel =>
          refine ⟨j, (j : Int) - 1, 256 * m + x, by omega, by omega, by go_num, by go_num, ?_, ?_⟩
          · rw [HD.out, unf, ← HM.out]; omega
          · rw [show z - j = (z - (j + 1)) + 1 from by omega, Nat.pow_succ]; have := HM2.out; omega
        case measure => simp [intOf]
      · have hk0 : k = 0 := by omega
        subst hk0
        have hi' : i = -1 := by omega
        subst hi'
        go_wp2
        go_ret
        have := HM.out
        rw [List.drop_zero] at this
        rw [← this]
        exact ⟨rfl, rfl⟩
end Go.Proofs.YtegbngbhmgbocaaGreatDoor
namespace Go.Proofs.YtegbngbhmgbocaaGreatDoor
open Go.ChangeShapes Go.WideShapes Go.ChangeAt Go.RowKit

theorem set_fix (n k z : Nat) (hk : k < z) : (bv (fixL n k ++ List.replicate (z - k) 0)).set k (.int .u8 ((n / 2 ^ (8 * k) % 256 : Nat) : Int)) = bv (fixL n (k + 1) ++ List.replicate (z - (k + 1)) 0) := by
  rw [fixL_snoc, pow8, show z - k = (z - (k + 1)) + 1 from by omega, List.replicate_succ, List.append_assoc, bv_append, bv_append, List.set_append, if_neg (by rw [bv_len, fixL_len]; omega), bv_len, fixL_len, Nat.sub_self]
  rfl
theorem fix_val (n k : Nat) : ((n / 2 ^ (8 * k) % 256 : Nat) : Int) = (n : Int) / 2 ^ (8 * k) % 256 := by simp

end Go.Proofs.YtegbngbhmgbocaaGreatDoor
namespace Go.Proofs.YtegbngbhmgbocaaGreatDoor
open Go.ChangeShapes Go.WideShapes Go.ChangeAt Go.RowKit

theorem Rd_lit {w : World} {cs : Array Value} {n : Nat} {ns : List Nat} (hn : n = cs.size) (hm : n ≤ 1000) (h : cs.toList = bv ns) : Rd (w.alloc (.cells cs 5)) (.slice (some ⟨w.heap.size, 0, none⟩) n n) (bv ns) := by
  subst hn
  have : (w.alloc (.cells cs 5)).ownsRow 0 5 1 (.slice (some ⟨w.heap.size, 0, none⟩) cs.size cs.size) cs.size cs.toList := World.ownsRow_lit (base := 0) w cs cs.size (Nat.zero_le _) (by unfold maxLen; omega) (by simp)
  rw [← h]
  exact Rd.own (base := 0) (by simpa using this)
theorem ownsRow_size {w : World} {base size n : Nat} {e : TypeId} {v : Value} {xs : List Value} (h : w.ownsRow base e size v n xs) (h0 : 0 < n) : base ≤ w.heap.size := by
  rcases h.2 with ⟨_, h⟩ | ⟨g, cap, cur, rfl, h2, h3, _⟩
  · omega
  · have := blk_lt h3; omega
theorem Fr.row {w0 w : World} (h : Fr [] w0 w) {g : Nat} (hg : w0.heap.size ≤ g) (cs : Array Value) : Fr [] w0 (w.setRow g cs) :=
  ⟨h.os, h.tape, h.output, by simpa [World.setRow] using h.size, fun k hk hn => by rw [setRow_other _ _ _ _ (by omega)]; exact h.block k hk hn⟩
theorem over_frag {cur : List Value} {xs d : List Nat} {k n : Nat} (hn : n = xs.length + 7 + d.length) (ht : cur.take n = bv ((xs ++ [0, 0, 0, 0, d.length, d.length / 256, k]) ++ d)) (hd : d.length ≤ 57) : (over cur xs.length (bv (fixL (crc (k :: d)) 4))).take n = bv (xs ++ fragL k d) := by
  have h4 : (bv (fixL (crc (k :: d)) 4)).length = 4 := by rw [bv_len, fixL_len]
  have e0 : cur = bv ((xs ++ [0, 0, 0, 0, d.length, d.length / 256, k]) ++ d) ++ cur.drop n := by rw [← ht, List.take_append_drop]
  have e1 : cur.take xs.length = bv xs := by
    have := congrArg (List.take xs.length) ht
    rw [List.take_take, Nat.min_eq_left (by omega)] at this
    rw [this, bv_append, bv_append, List.append_assoc, List.take_left' (bv_len xs)]
  have e2 : (cur.drop (xs.length + 4)).take (n - (xs.length + 4)) = bv ([d.length, d.length / 256, k] ++ d) := by
    rw [← List.drop_take, ht, bv_append, bv_append, List.append_assoc, ← List.drop_drop, List.drop_left' (bv_len xs)]
    rfl
  have hfr : fragL k d = fixL (crc (k :: d)) 4 ++ ([d.length, d.length / 256, k] ++ d) := by
    unfold fragL; rw [Nat.mod_eq_of_lt (by omega)]
  unfold over
  rw [e1, h4, hfr, bv_append, bv_append, ← e2, List.take_append, List.take_of_length_le (by rw [List.length_append, bv_len, h4]; omega), List.length_append, bv_len, h4, List.append_assoc]

end Go.Proofs.YtegbngbhmgbocaaGreatDoor
