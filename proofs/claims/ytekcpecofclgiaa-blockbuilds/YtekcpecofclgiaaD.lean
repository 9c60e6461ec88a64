/-
  What the fixed numbers of package codec answer, and the reference's.
-/
import Derived.Test.YtekcpecofclgiaaB
namespace Go.Proofs.Ytekcpecofclgiaa
open Go.ChangeShapes Go.WideShapes Go.ChangeAt Go.RowKit

theorem pow8 (k : Nat) : 2 ^ (8 * k) = 256 ^ k := by rw [Nat.pow_mul]
theorem unf_take {ns : List Nat} {k x : Nat} (h : ns[k]? = some x) : unf (ns.take (k + 1)) = unf (ns.take k) + x * 2 ^ (8 * k) := by
  have hk : k < ns.length := by
    rcases Nat.lt_or_ge k ns.length with h1 | h1
    · exact h1
    · rw [List.getElem?_eq_none h1] at h; cases h
  rw [List.take_add_one, h]
  show unf (ns.take k ++ [x]) = _
  rw [unf_snoc, pow8, List.length_take, Nat.min_eq_left (by omega)]
theorem unf_take_lt {ns : List Nat} (hb : By ns) {k : Nat} (hk : k ≤ ns.length) : unf (ns.take k) < 2 ^ (8 * k) := by
  have := unf_lt _ (hb.take k)
  rwa [List.length_take, Nat.min_eq_left hk, ← pow8] at this
theorem shl8_lt {k m x : Nat} (hk : k ≤ 7) (hm : m < 2 ^ (8 * k)) (hx : x < 256) : m + x * 2 ^ (8 * k) < 18446744073709551616 := by
  have e2 : 2 ^ (8 * (k + 1)) = 256 * 2 ^ (8 * k) := by rw [show (256 : Nat) = 2 ^ 8 from rfl, ← Nat.pow_add]; congr 1; omega
  have h1 : 2 ^ (8 * (k + 1)) ≤ 2 ^ 64 := Nat.pow_le_pow_right (by omega) (by omega)
  have h2 : x * 2 ^ (8 * k) ≤ 255 * 2 ^ (8 * k) := Nat.mul_le_mul_right _ (by omega)
  omega
theorem unf_val {k m x : Nat} (hk : k ≤ 7) (hm : m < 2 ^ (8 * k)) (hx : x < 256) :
    bits .or .u64 (m : Int) (IntKind.u64.wrap ((x : Int) * 2 ^ (8 * k))) = ((m + x * 2 ^ (8 * k) : Nat) : Int) := by
  have hlt := shl8_lt hk hm hx
  rw [show ((x : Int) * 2 ^ (8 * k)) = ((x * 2 ^ (8 * k) : Nat) : Int) from by simp, wrap64_nat (by omega), u64_or_nat _ _ (by omega) (by omega), or_add hm (Nat.mul_mod_left _ _)]

set_option maxRecDepth 20000 in
set_option maxHeartbeats 800000 in
theorem unfixed_c {w : World} {v : Value} {ns : List Nat} (hr : Rd w v (bv ns)) (hb : By ns) (hl : ns.length ≤ 8) :
    Calls Try.prog 75 #[v] w fun e w' => e = .returned (.int .u64 (unf ns : Int)) ∧ w' = w := by
  rcases hr.split with ⟨rfl, a, c, rfl⟩ | ⟨b, off, c, rfl, h1, h2, hc⟩
  · clear hr
    go_enter Try.func75, Try.ntmps75
    go_wp2
    refine wp_loop_rounds 1 ?_
    rw [rounds_succ]
    go_wp2
    go_ret
    exact ⟨rfl, rfl⟩
  · clear hr
    have HC := hid hc
    have HB := hid hb
    clear hc hb
    go_enter Try.func75, Try.ntmps75
    go_wp2
    go_loop [3, 8] (fun v3 v8 => ∃ k : Nat, k ≤ ns.length ∧ v8 = .int .i64 (k : Int) ∧ v3 = .int .u64 (unf (ns.take k) : Int)) (fun _ v8 => ns.length - (intOf v8).toNat)
    case atStart => exact ⟨0, by omega, rfl, rfl⟩
    case round =>
      obtain ⟨k, hk, rfl, rfl⟩ := hrel
      by_cases hlt : k < ns.length
      · obtain ⟨x, hx, hd⟩ := drop_at hlt
        have hcell := HC.out k x hx
        have hx256 : x < 256 := HB.out.at hx
        have hv := unf_val (k := k) (by omega) (unf_take_lt HB.out hk) hx256
        have hu := unf_take hx
        clear hd hx
        have HV := hid hv
        have HU := hid hu
        clear hv hu
        generalize hg : unf (ns.take k) = m at *
        go_wp2
        go_round
        case rel => exact ⟨k + 1, by omega, by go_num, by rw [HU.out, HV.out]⟩
        case measure => simp [intOf]; omega
      · have : k = ns.length := by omega
        subst this
        go_wp2
        go_ret
        exact ⟨rfl, rfl⟩

theorem unfixed4_short {w : World} {v : Value} {ns : List Nat} (hr : Rd w v (bv ns)) (hl : ns.length < 4) :
    Calls Try.prog 71 #[v] w fun e w' => e = .returned (.tuple #[.int .u32 0, .int .i64 20]) ∧ w' = w := by
  obtain ⟨a, c, rfl⟩ := hr.form
  rw [bv_len]
  clear hr
  go_enter Try.func71, Try.ntmps71
  go_wp2
  go_ret2
  exact ⟨rfl, rfl⟩
/-- The first bytes of a slice. -/
theorem Rd.front {w : World} {b off c : Nat} {ns : List Nat} (h : Rd w (.slice (some ⟨b, off, none⟩) ns.length c) (bv ns)) {q : Nat} (hq : q ≤ ns.length) : Rd w (.slice (some ⟨b, off, none⟩) q c) (bv (ns.take q)) := by
  rcases h with ⟨h, _⟩ | ⟨a, c', h, h4, h5⟩
  · cases h
  · simp only [Value.slice.injEq, Option.some.injEq] at h
    obtain ⟨rfl, _, rfl⟩ := h
    refine .inr ⟨_, _, by rw [bv_len, List.length_take, Nat.min_eq_left hq], by rw [bv_len] at h4 ⊢; rw [List.length_take]; omega, fun j u hj => h5 j u ?_⟩
    rw [bv_take, List.getElem?_take] at hj
    split at hj
    · exact hj
    · cases hj
set_option maxHeartbeats 400000 in
theorem unfixed4_c {w : World} {v : Value} {ns : List Nat} (hr : Rd w v (bv ns)) (hb : By ns) (hl : 4 ≤ ns.length) (hl1 : ns.length ≤ 140737488355328) :
    Calls Try.prog 71 #[v] w fun e w' => e = .returned (.tuple #[.int .u32 (unf (ns.take 4) : Int), .int .i64 0]) ∧ w' = w := by
  rcases hr.split with ⟨rfl, _⟩ | ⟨b, off, c, rfl, h1, h2, hc⟩
  · simp at hl
  have HR := hid (hr.front hl)
  have HB := hid hb
  have hu := unf_lt _ (hb.take 4)
  rw [List.length_take, Nat.min_eq_left hl] at hu
  have hw : IntKind.u32.wrap (unf (ns.take 4) : Int) = (unf (ns.take 4) : Int) := by rw [IntKind.wrap_u32']; omega
  clear hr hc hb
  go_enter Try.func71, Try.ntmps71
  go_wp2_with (go_at_call 75; refine (unfixed_c HR.out (HB.out.take 4) (by simp; omega)).mono ?_; rintro e w' ⟨rfl, rfl⟩)
  go_ret2
  exact ⟨rfl, rfl⟩

set_option maxRecDepth 20000 in
set_option maxHeartbeats 800000 in
theorem refunfixed_c {w : World} {v : Value} {ns : List Nat} (hr : Rd w v (bv ns)) (hb : By ns) (t z : Nat) (hz : z ≤ 8) (hl : t + z ≤ ns.length) (hl1 : ns.length ≤ 140737488355328) :
    Calls Try.prog 38 #[v, .int .i64 (t : Int), .int .i64 (z : Int)] w fun e w' => e = .returned (.int .u64 (unf ((ns.drop t).take z) : Int)) ∧ w' = w := by
  rcases hr.split with ⟨rfl, a, c, rfl⟩ | ⟨b, off, c, rfl, h1, h2, hc⟩
  · clear hr
    have hz0 : z = 0 := by simp at hl; omega
    subst hz0
    go_enter Try.func38, Try.ntmps38
    go_wp2
    refine wp_loop_rounds 1 ?_
    rw [rounds_succ]
    go_wp2
    go_ret
    exact ⟨rfl, rfl⟩
  · clear hr
    have HC := hid hc
    have HB := hid hb
    have HL : Hid (((ns.drop t).take z).length = z) := by
      show ((ns.drop t).take z).length = z
      rw [List.length_take, List.length_drop]; omega
    have HBs := hid ((hb.drop t).take z)
    have HG : Hid (∀ k, k < z → ((ns.drop t).take z)[k]? = ns[t + k]?) := fun k hk => by rw [List.getElem?_take, if_pos hk, List.getElem?_drop]
    generalize (ns.drop t).take z = qs at HL HBs HG ⊢
    clear hc hb
    go_enter Try.func38, Try.ntmps38
    go_wp2
    go_loop [7, 8] (fun v7 v8 => ∃ (k : Nat) (i : Int) (m : Nat), k ≤ z ∧ i + 1 = (k : Int) ∧ v8 = .int .i64 i ∧ v7 = .int .u64 (m : Int) ∧ m = unf (qs.drop k) ∧ m < 256 ^ (z - k)) (fun _ v8 => (intOf v8 + 1).toNat)
    case atStart => exact ⟨z, (z : Int) - 1, 0, by omega, by omega, rfl, rfl, by rw [List.drop_eq_nil_of_le (by rw [HL.out]; omega)]; rfl, Nat.pow_pos (by omega)⟩
    case round =>
      obtain ⟨k, i, m, hk, hi, rfl, rfl, hm, hm2⟩ := hrel
      have HM := hid hm
      clear hm
      by_cases hlt : 0 < k
      · obtain ⟨j, rfl⟩ : ∃ j, k = j + 1 := ⟨k - 1, by omega⟩
        have hj : j < qs.length := by rw [HL.out]; omega
        obtain ⟨x, hx, hd⟩ := drop_at hj
        have hcell := HC.out (t + j) x (by rw [← HG.out j (by omega)]; exact hx)
        have hx256 : x < 256 := HBs.out.at hx
        have hi' : i = (j : Int) := by omega
        subst hi'
        have en : ((t : Int) + (j : Int)).toNat = t + j := by omega
        have hp : 256 ^ (z - (j + 1)) ≤ 256 ^ 7 := Nat.pow_le_pow_right (by omega) (by omega)
        have hm3 : m < 72057594037927936 := by omega
        have HD := hid hd
        have HM2 := hid hm2
        clear hd hx hp hm2 hi
        go_wp2
        go_round
        case rel =>
          refine ⟨j, (j : Int) - 1, 256 * m + x, by omega, by omega, by go_num, by go_num, ?_, ?_⟩
          · rw [HD.out, unf, ← HM.out]; omega
          · rw [show z - j = (z - (j + 1)) + 1 from by omega, Nat.pow_succ]; have := HM2.out; omega
        case measure => simp [intOf]
      · have hk0 : k = 0 := by omega
        subst hk0
        have hi' : i = -1 := by omega
        subst hi'
        go_wp2
        go_ret
        have := HM.out
        rw [List.drop_zero] at this
        rw [← this]
        exact ⟨rfl, rfl⟩
end Go.Proofs.Ytekcpecofclgiaa
