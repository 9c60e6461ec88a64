/-
  What the reference's Put and both Takes answer.
-/
import Derived.Test.YthmlpjogbdpgiaaJ02
namespace Go.Proofs.Ythmlpjogbdpgiaa
open Go.ChangeShapes Go.WideShapes Go.ChangeAt Go.RowKit

theorem drop_at {ns : List Nat} {k : Nat} (h : k < ns.length) : ∃ x, ns[k]? = some x ∧ ns.drop k = x :: ns.drop (k + 1) :=
  ⟨ns[k], List.getElem?_eq_getElem h, List.drop_eq_getElem_cons h⟩
theorem tk_nil (i v : Nat) : tk i v [] = (0, 0, 20) := rfl
theorem tk_bad {i v x : Nat} {r : List Nat} (h : i = 9 ∧ 1 < x ∨ 0 < i ∧ x = 0) : tk i v (x :: r) = (0, 0, 21) := by rw [tk, if_pos h]
theorem tk_end {i v x : Nat} {r : List Nat} (h : ¬ (i = 9 ∧ 1 < x ∨ 0 < i ∧ x = 0)) (hx : x < 128) : tk i v (x :: r) = (v + x % 128 * 2 ^ (7 * i), i + 1, 0) := by rw [tk, if_neg h, if_pos hx]
theorem tk_on {i v x : Nat} {r : List Nat} (h : ¬ (i = 9 ∧ 1 < x ∨ 0 < i ∧ x = 0)) (hx : ¬ x < 128) : tk i v (x :: r) = tk (i + 1) (v + x % 128 * 2 ^ (7 * i)) r := by rw [tk, if_neg h, if_neg hx]

/-- A result of Take as the program hands it over. -/
def tkv (t : Nat × Nat × Nat) : Value := .tuple #[.int .u64 (t.1 : Int), .int .i64 (t.2.1 : Int), .int .i64 (t.2.2 : Int)]

theorem andNot128 {x : Nat} (hx : x < 256) : bits .andNot .u8 (x : Int) 128 = ((x % 128 : Nat) : Int) := by
  have h := u8_andNot_nat x 128 hx (by omega)
  have e : x &&& (255 - 128) = x % 128 := nat_mask7 x
  rw [e] at h; exact h
theorem wrap64_nat {n : Nat} (h : n < 18446744073709551616) : IntKind.u64.wrap (n : Int) = (n : Int) := by rw [IntKind.wrap_u64]; omega
theorem shl_lt {k m x : Nat} (hk : k ≤ 9) (hm : m < 2 ^ (7 * k)) (h9 : k = 9 → x ≤ 1) : m + x % 128 * 2 ^ (7 * k) < 18446744073709551616 := by
  have e2 : 2 ^ (7 * (k + 1)) = 128 * 2 ^ (7 * k) := by rw [show (128 : Nat) = 2 ^ 7 from rfl, ← Nat.pow_add]; congr 1; omega
  rcases Nat.lt_or_ge k 9 with h3 | h3
  · have h1 : 2 ^ (7 * (k + 1)) ≤ 2 ^ 63 := Nat.pow_le_pow_right (by omega) (by omega)
    have h2 : x % 128 * 2 ^ (7 * k) ≤ 127 * 2 ^ (7 * k) := Nat.mul_le_mul_right _ (by omega)
    omega
  · have h : k = 9 := by omega
    have := h9 h
    subst h
    have h4 : x % 128 ≤ 1 := by omega
    have h2 : x % 128 * 2 ^ (7 * 9) ≤ 1 * 2 ^ (7 * 9) := Nat.mul_le_mul_right _ h4
    omega
theorem or_add {a b i : Nat} (hb : b < 2 ^ i) (ha : a % 2 ^ i = 0) : b ||| a = b + a := by rw [Nat.or_comm, nat_join i a b ha hb, Nat.add_comm]
theorem take_val {k m x : Nat} (hk : k ≤ 9) (hm : m < 2 ^ (7 * k)) (hx : x < 256) (h9 : k = 9 → x ≤ 1) :
    bits .or .u64 (m : Int) (IntKind.u64.wrap (IntKind.u64.wrap (bits .andNot .u8 (x : Int) 128) * 2 ^ (7 * k))) = ((m + x % 128 * 2 ^ (7 * k) : Nat) : Int) := by
  have hlt := shl_lt hk hm h9
  rw [andNot128 hx, wrap64_nat (by omega), show (((x % 128 : Nat) : Int) * 2 ^ (7 * k)) = ((x % 128 * 2 ^ (7 * k) : Nat) : Int) from by simp, wrap64_nat (by omega), u64_or_nat _ _ (by omega) (by omega), or_add hm (Nat.mul_mod_left _ _)]

theorem take_ret {k m x : Nat} (hk : k ≤ 9) (hm : m < 2 ^ (7 * k)) (hx : x < 256) (h9 : k = 9 → x ≤ 1) :
    Ending.returned (.tuple #[.int .u64 (bits .or .u64 (m : Int) (IntKind.u64.wrap (IntKind.u64.wrap (bits .andNot .u8 (x : Int) 128) * 2 ^ (7 * k)))), .int .i64 ((k : Int) + 1), .int .i64 0]) = .returned (tkv (m + x % 128 * 2 ^ (7 * k), k + 1, 0)) := by
  rw [take_val hk hm hx h9]; rfl
theorem take_ret9 {k m x : Nat} (hk : k = 9) (hm : m < 2 ^ (7 * k)) (hx : x < 256) (h9 : x ≤ 1) :
    Ending.returned (.tuple #[.int .u64 (bits .or .u64 (m : Int) (IntKind.u64.wrap (IntKind.u64.wrap (bits .andNot .u8 (x : Int) 128) * 9223372036854775808))), .int .i64 10, .int .i64 0]) = .returned (tkv (m + x % 128 * 2 ^ (7 * k), k + 1, 0)) := by
  subst hk
  exact take_ret (k := 9) (by omega) hm hx fun _ => h9

end Go.Proofs.Ythmlpjogbdpgiaa
namespace Go.Proofs.Ythmlpjogbdpgiaa
open Go.ChangeShapes Go.WideShapes Go.ChangeAt Go.RowKit

theorem pow8 (k : Nat) : 2 ^ (8 * k) = 256 ^ k := by rw [Nat.pow_mul]
theorem unf_take {ns : List Nat} {k x : Nat} (h : ns[k]? = some x) : unf (ns.take (k + 1)) = unf (ns.take k) + x * 2 ^ (8 * k) := by
  have hk : k < ns.length := by
    rcases Nat.lt_or_ge k ns.length with h1 | h1
    · exact h1
    · rw [List.getElem?_eq_none h1] at h; cases h
  rw [List.take_add_one, h]
  show unf (ns.take k ++ [x]) = _
  rw [unf_snoc, pow8, List.length_take, Nat.min_eq_left (by omega)]
theorem unf_take_lt {ns : List Nat} (hb : By ns) {k : Nat} (hk : k ≤ ns.length) : unf (ns.take k) < 2 ^ (8 * k) := by
  have := unf_lt _ (hb.take k)
  rwa [List.length_take, Nat.min_eq_left hk, ← pow8] at this
theorem shl8_lt {k m x : Nat} (hk : k ≤ 7) (hm : m < 2 ^ (8 * k)) (hx : x < 256) : m + x * 2 ^ (8 * k) < 18446744073709551616 := by
  have e2 : 2 ^ (8 * (k + 1)) = 256 * 2 ^ (8 * k) := by rw [show (256 : Nat) = 2 ^ 8 from rfl, ← Nat.pow_add]; congr 1; omega
  have h1 : 2 ^ (8 * (k + 1)) ≤ 2 ^ 64 := Nat.pow_le_pow_right (by omega) (by omega)
  have h2 : x * 2 ^ (8 * k) ≤ 255 * 2 ^ (8 * k) := Nat.mul_le_mul_right _ (by omega)
  omega
theorem unf_val {k m x : Nat} (hk : k ≤ 7) (hm : m < 2 ^ (8 * k)) (hx : x < 256) :
    bits .or .u64 (m : Int) (IntKind.u64.wrap ((x : Int) * 2 ^ (8 * k))) = ((m + x * 2 ^ (8 * k) : Nat) : Int) := by
  have hlt := shl8_lt hk hm hx
  rw [show ((x : Int) * 2 ^ (8 * k)) = ((x * 2 ^ (8 * k) : Nat) : Int) from by simp, wrap64_nat (by omega), u64_or_nat _ _ (by omega) (by omega), or_add hm (Nat.mul_mod_left _ _)]

set_option maxRecDepth 20000 in
set_option maxHeartbeats 800000 in
theorem unfixed_c {w : World} {v : Value} {ns : List Nat} (hr : Rd w v (bv ns)) (hb : By ns) (hl : ns.length ≤ 8) :
    Calls Try.prog 57 #[v] w fun e w' => e = .returned (.int .u64 (unf ns : Int)) ∧ w' = w := by
  rcases hr.split with ⟨rfl, a, c, rfl⟩ | ⟨b, off, c, rfl, h1, h2, hc⟩
  · clear hr
    go_enter Try.func57, Try.ntmps57
    go_wp2
    refine wp_loop_rounds 1 ?_
    rw [rounds_succ]
    go_wp2
    go_ret
    exact ⟨rfl, rfl⟩
  · clear hr
    have HC := hid hc
    have HB := hid hb
    clear hc hb
    go_enter Try.func57, Try.ntmps57
    go_wp2
    go_loop [3, 8] (fun v3 v8 => ∃ k : Nat, k ≤ ns.length ∧ v8 = .int .i64 (k : Int) ∧ v3 = .int .u64 (unf (ns.take k) : Int)) (fun _ v8 => ns.length - (intOf v8).toNat)
    case atStart => exact ⟨0, by omega, rfl, rfl⟩
    case round =>
      obtain ⟨k, hk, rfl, rfl⟩ := hrel
      by_cases hlt : k < ns.length
      · obtain ⟨x, hx, hd⟩ := drop_at hlt
        have hcell := HC.out k x hx
        have hx256 : x < 256 := HB.out.at hx
        have hv := unf_val (k := k) (by omega) (unf_take_lt HB.out hk) hx256
        have hu := unf_take hx
        clear hd hx
        have HV := hid hv
        have HU := hid hu
        clear hv hu
        generalize hg : unf (ns.take k) = m at *
        go_wp2
        go_round
        case rel => exact ⟨k + 1, by omega, by go_num, by rw [HU.out, HV.out]⟩
        case measure => simp [intOf]; omega
      · have : k = ns.length := by omega
        subst this
        go_wp2
        go_ret
        exact ⟨rfl, rfl⟩

/-- The first bytes of a slice. -/
theorem Rd.front {w : World} {b off c : Nat} {ns : List Nat} (h : Rd w (.slice (some ⟨b, off, none⟩) ns.length c) (bv ns)) {q : Nat} (hq : q ≤ ns.length) : Rd w (.slice (some ⟨b, off, none⟩) q c) (bv (ns.take q)) := by
  rcases h with ⟨h, _⟩ | ⟨a, c', h, h4, h5⟩
  · cases h
  · simp only [Value.slice.injEq, Option.some.injEq] at h
    obtain ⟨rfl, _, rfl⟩ := h
    refine .inr ⟨_, _, by rw [bv_len, List.length_take, Nat.min_eq_left hq], by rw [bv_len] at h4 ⊢; rw [List.length_take]; omega, fun j u hj => h5 j u ?_⟩
    rw [bv_take, List.getElem?_take] at hj
    split at hj
    · exact hj
    · cases hj
set_option maxRecDepth 20000 in
set_option maxHeartbeats 800000 in
theorem refunfixed_c {w : World} {v : Value} {ns : List Nat} (hr : Rd w v (bv ns)) (hb : By ns) (t z : Nat) (hz : z ≤ 8) (hl : t + z ≤ ns.length) (hl1 : ns.length ≤ 140737488355328) :
    Calls Try.prog 35 #[v, .int .i64 (t : Int), .int .i64 (z : Int)] w fun e w' => e = .returned (.int .u64 (unf ((ns.drop t).take z) : Int)) ∧ w' = w := by
  rcases hr.split with ⟨rfl, a, c, rfl⟩ | ⟨b, off, c, rfl, h1, h2, hc⟩
  · clear hr
    have hz0 : z = 0 := by simp at hl; omega
    subst hz0
    go_enter Try.func35, Try.ntmps35
    go_wp2
    refine wp_loop_rounds 1 ?_
    rw [rounds_succ]
    go_wp2
    go_ret
    exact ⟨rfl, rfl⟩
  · clear hr
    have HC := hid hc
    have HB := hid hb
    have HL : Hid (((ns.drop t).take z).length = z) := by
      show ((ns.drop t).take z).length = z
      rw [List.length_take, List.length_drop]; omega
    have HBs := hid ((hb.drop t).take z)
    have HG : Hid (∀ k, k < z → ((ns.drop t).take z)[k]? = ns[t + k]?) := fun k hk => by rw [List.getElem?_take, if_pos hk, List.getElem?_drop]
    generalize (ns.drop t).take z = qs at HL HBs HG ⊢
    clear hc hb
    go_enter Try.func35, Try.ntmps35
    go_wp2
    go_loop [7, 8] (fun v7 v8 => ∃ (k : Nat) (i : Int) (m : Nat), k ≤ z ∧ i + 1 = (k : Int) ∧ v8 = .int .i64 i ∧ v7 = .int .u64 (m : Int) ∧ m = unf (qs.drop k) ∧ m < 256 ^ (z - k)) (fun _ v8 => (intOf v8 + 1).toNat)
    case atStart => exact ⟨z, (z : Int) - 1, 0, by omega, by omega, rfl, rfl, by rw [List.drop_eq_nil_of_le (by rw [HL.out]; omega)]; rfl, Nat.pow_pos (by omega)⟩
    case round =>
      obtain ⟨k, i, m, hk, hi, rfl, rfl, hm, hm2⟩ := hrel
      have HM := hid hm
      clear hm
      by_cases hlt : 0 < k
      · obtain ⟨j, rfl⟩ : ∃ j, k = j + 1 := ⟨k - 1, by omega⟩
        have hj : j < qs.length := by rw [HL.out]; omega
        obtain ⟨x, hx, hd⟩ := drop_at hj
        have hcell := HC.out (t + j) x (by rw [← HG.out j (by omega)]; exact hx)
        have hx256 : x < 256 := HBs.out.at hx
        have hi' : i = (j : Int) := by omega
        subst hi'
        have en : ((t : Int) + (j : Int)).toNat = t + j := by omega
        have hp : 256 ^ (z - (j + 1)) ≤ 256 ^ 7 := Nat.pow_le_pow_right (by omega) (by omega)
        have hm3 : m < 72057594037927936 := by omega
        have HD := hid hd
        have HM2 := hid hm2
        clear hd hx hp hm2 hi
        go_wp2
        go_round
        case rel =>
          refine ⟨j, (j : Int) - 1, 256 * m + x, by omega, by omega, by go_num, by go_num, ?_, ?_⟩
          · rw [HD.out, unf, ← HM.out]; omega
          · rw [show z - j = (z - (j + 1)) + 1 from by omega, Nat.pow_succ]; have := HM2.out; omega
        case measure => simp [intOf]
      · have hk0 : k = 0 := by omega
        subst hk0
        have hi' : i = -1 := by omega
        subst hi'
        go_wp2
        go_ret
        have := HM.out
        rw [List.drop_zero] at this
        rw [← this]
        exact ⟨rfl, rfl⟩
end Go.Proofs.Ythmlpjogbdpgiaa
namespace Go.Proofs.Ythmlpjogbdpgiaa
open Go.ChangeShapes Go.WideShapes Go.ChangeAt Go.RowKit

theorem set_fix (n k z : Nat) (hk : k < z) : (bv (fixL n k ++ List.replicate (z - k) 0)).set k (.int .u8 ((n / 2 ^ (8 * k) % 256 : Nat) : Int)) = bv (fixL n (k + 1) ++ List.replicate (z - (k + 1)) 0) := by
  rw [fixL_snoc, pow8, show z - k = (z - (k + 1)) + 1 from by omega, List.replicate_succ, List.append_assoc, bv_append, bv_append, List.set_append, if_neg (by rw [bv_len, fixL_len]; omega), bv_len, fixL_len, Nat.sub_self]
  rfl
theorem fix_val (n k : Nat) : ((n / 2 ^ (8 * k) % 256 : Nat) : Int) = (n : Int) / 2 ^ (8 * k) % 256 := by simp

set_option maxRecDepth 20000 in
set_option maxHeartbeats 800000 in
theorem fixed_c (w : World) (n z : Nat) (_hn : n < 18446744073709551616) (hz : z ≤ 8) :
    Calls Try.prog 59 #[.int .u64 (n : Int), .int .i64 (z : Int)] w fun e w' => ∃ v, e = .returned v ∧ w'.ownsRow w.heap.size 5 1 v z (bv (fixL n z)) ∧ Fr [] w w' := by
  obtain ⟨i0, hi, hz0, hz1, hz2⟩ := info_parts infoB
  have hmk : (Instr.makeSlice 35 (.int .i64 (z : Int)) (.int .i64 (z : Int))).run Try.prog w = .ok (.slice (some ⟨w.heap.size, 0, none⟩) z z) (w.alloc (.cells (madeCells #[.int .u8 0] z) 5)) := by
    have h := run_make (P := Try.prog) w 35 5 i0 (.int .u8 0) Try.underlying35 hi hz0 .i64 .i64 (z : Int) (z : Int) (by omega) (Int.le_refl _) (by rw [hz2]; omega) (by omega)
    simpa [hz1, Value.cells] using h
  have HO : Hid ((w.alloc (.cells (madeCells #[.int .u8 0] z) 5)).ownsRow w.heap.size 5 1 (.slice (some ⟨w.heap.size, 0, none⟩) z z) z (bv (fixL n 0 ++ List.replicate (z - 0) 0))) := by
    have := World.ownsRow_lit (base := w.heap.size) (e := 5) (size := 1) w (madeCells #[.int .u8 0] z) z (Nat.le_refl _) (by unfold maxLen; omega) (by simp [madeCells])
    have e : (madeCells #[.int .u8 0] z).toList = bv (fixL n 0 ++ List.replicate (z - 0) 0) := by
      simp [madeCells, fixL, bv]
      rw [List.eq_replicate_iff]
      simp [Nat.mod_one]
    rw [← e]; exact this
  have HF : Hid (Fr [] w (w.alloc (.cells (madeCells #[.int .u8 0] z) 5))) := (Fr.refl _ _).alloc _
  clear hi hz0 hz1 hz2
  go_enter Try.func59, Try.ntmps59
  go_wp2
  go_loopw [10] (fun v10 wr => ∃ k : Nat, k ≤ z ∧ v10 = .int .i64 (k : Int) ∧ wr.ownsRow w.heap.size 5 1 (.slice (some ⟨w.heap.size, 0, none⟩) z z) z (bv (fixL n k ++ List.replicate (z - k) 0)) ∧ Fr [] w wr) (fun v10 _ => z - (intOf v10).toNat)
  case atStart => exact ⟨0, by omega, rfl, HO.out, HF.out⟩
  case round =>
    obtain ⟨k, hk, rfl, ho, hf⟩ := hrel
    have hfz := ho.frozenAt k
    have RO := hid ho
    have RF := hid hf
    have hcl : k < z → ∃ u, wr.cell? ⟨w.heap.size, k, none⟩ = some u := fun h => by
      rw [ho.cellAt k (by omega)]
      exact ⟨_, List.getElem?_eq_getElem (by rw [bv_len, List.length_append, fixL_len, List.length_replicate]; omega)⟩
    clear ho hf
    by_cases hlt : k < z
    · obtain ⟨u, hc⟩ := hcl hlt
      go_wp2
      have S := RO.out.stored k (.int .u8 ((n / 2 ^ (8 * k) % 256 : Nat) : Int))
      rw [set_fix n k z hlt, fix_val] at S
      go_roundw
      case rel => exact ⟨k + 1, by omega, by go_num, S.1, RF.out.grown S.2 fun q hq => .inr (by cases hq; omega)⟩
      case measure => simp [intOf]; omega
    · have : k = z := by omega
      subst this
      go_wp2
      go_ret
      refine ⟨_, rfl, ?_, RF.out⟩
      have := RO.out
      rw [Nat.sub_self, List.replicate_zero, List.append_nil] at this
      exact this

set_option maxHeartbeats 400000 in
theorem fixed8_c (w : World) (n : Nat) (hn : n < 18446744073709551616) :
    Calls Try.prog 49 #[.int .u64 (n : Int)] w fun e w' => ∃ v, e = .returned v ∧ w'.ownsRow w.heap.size 5 1 v 8 (bv (fixL n 8)) ∧ Fr [] w w' := by
  go_enter Try.func49, Try.ntmps49
  go_wp2_with (go_at_call 59; refine (fixed_c _ n 8 hn (by omega)).mono ?_; rintro e w' ⟨v, rfl, h1, h2⟩)
  go_ret
  exact ⟨v, rfl, h1, h2⟩
set_option maxRecDepth 20000 in
set_option maxHeartbeats 800000 in
theorem reffixed_c (w : World) (n z : Nat) (_hn : n < 18446744073709551616) (hz : z ≤ 8) :
    Calls Try.prog 36 #[.int .u64 (n : Int), .int .i64 (z : Int)] w fun e w' => ∃ v, e = .returned v ∧ w'.ownsRow w.heap.size 5 1 v z (bv (fixL n z)) ∧ Fr [] w w' := by
  go_enter Try.func36, Try.ntmps36
  go_wp2
  go_loopw [5, 6] (fun v5 v6 wr => ∃ k : Nat, k ≤ z ∧ v6 = .int .i64 (k : Int) ∧ wr.ownsRow w.heap.size 5 1 v5 k (bv (fixL n k)) ∧ Fr [] w wr) (fun _ v6 _ => z - (intOf v6).toNat)
  case atStart => exact ⟨0, by omega, rfl, World.ownsRow_nil _ _ _ _, Fr.refl _ _⟩
  case round =>
    obtain ⟨k, hk, rfl, ho, hf⟩ := hrel
    have RO := hid ho
    have RF := hid hf
    have hsz := hf.size
    clear ho hf
    by_cases hlt : k < z
    · go_wp2_with (at_builtin; refine wpList_append_rd rfl _ _ rfl w.heap.size (by simp; omega) _ _ _ rfl (RO.out.alloc _) _ [_] rfl (Rd_lit1 _ _) (by simp [Value.oneCell']) (by simp; omega) ?_; intro v' w' o1 o2 o3)
      have B : Hid (w'.ownsRow w.heap.size 5 1 v' (k + 1) (bv (fixL n (k + 1))) ∧ Fr [] w w') := by
        refine ⟨?_, (RF.out.alloc _).grew (RO.out.alloc _) (Nat.le_refl _) o2⟩
        rw [fixL_snoc, bv_append, ← pow8]
        show w'.ownsRow w.heap.size 5 1 v' (k + 1) (bv (fixL n k) ++ [Value.int .u8 ((n / 2 ^ (8 * k) % 256 : Nat) : Int)])
        rw [fix_val]
        exact o1
      clear o1 o2 o3
      go_wp2
      go_roundw
      case rel => exact ⟨k + 1, by omega, by go_num, B.out⟩
      case measure => simp [intOf]; omega
    · have : k = z := by omega
      subst this
      go_wp2
      go_ret
      exact ⟨_, rfl, RO.out, RF.out⟩
end Go.Proofs.Ythmlpjogbdpgiaa
