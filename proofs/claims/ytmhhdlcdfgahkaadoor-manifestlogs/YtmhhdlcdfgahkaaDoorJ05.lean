/-
  What Sum of package codec answers, and the reference's.
-/
import Derived.Test.YtmhhdlcdfgahkaaDoorJ04
import Derived.Test.YtmhhdlcdfgahkaaDoorJ03
import Derived.Lib.AppendZeros
namespace Go.Proofs.YtmhhdlcdfgahkaaDoor
open Go.ChangeShapes Go.WideShapes Go.ChangeAt Go.RowKit

theorem wrap32_nat {n : Nat} (h : n < 4294967296) : IntKind.u32.wrap (n : Int) = (n : Int) := by rw [IntKind.wrap_u32']; omega
theorem cs_mask {r : Nat} (h : r < 4294967296) :
    bits .xor .u32 ((r : Int) / 2) (bits .and .u32 2197175160 (-bits .and .u32 (r : Int) 1 % 4294967296)) = (cs r : Int) := by
  have h1 : bits .and .u32 (r : Int) 1 = ((r % 2 : Nat) : Int) := by
    have := u32_and_nat r 1 h (by omega)
    rw [nat_mask1] at this; exact this
  rw [h1, show (r : Int) / 2 = ((r / 2 : Nat) : Int) from by omega]
  unfold cs
  rcases Nat.mod_two_eq_zero_or_one r with e | e <;> rw [e]
  · have h2 : bits .and .u32 2197175160 (-((0 : Nat) : Int) % 4294967296) = ((0 : Nat) : Int) := by decide
    rw [h2, if_neg (by omega), u32_xor_nat _ _ (by omega) (by omega)]
  · have h2 : bits .and .u32 2197175160 (-((1 : Nat) : Int) % 4294967296) = ((2197175160 : Nat) : Int) := by decide
    rw [h2, if_pos rfl, u32_xor_nat _ _ (by omega) (by omega)]
theorem crc_end {r : Nat} (h : r < 4294967296) : bits .xor .u32 4294967295 (r : Int) = ((4294967295 ^^^ r : Nat) : Int) := u32_xor_nat 4294967295 r (by omega) h
theorem crcF_snoc {ns : List Nat} {k x : Nat} (h : ns[k]? = some x) (r : Nat) : crcF r (ns.take (k + 1)) = csN 8 (crcF r (ns.take k) ^^^ x) := by
  rw [List.take_add_one, h, crcF_append]; rfl

set_option maxRecDepth 20000 in
set_option maxHeartbeats 800000 in
theorem sum_c {w : World} {v : Value} {ns : List Nat} (hr : Rd w v (bv ns)) (hb : By ns) (hl : ns.length ≤ 140737488355328) :
    Calls Tryd.prog 56 #[v] w fun e w' => e = .returned (.int .u32 (crc ns : Int)) ∧ w' = w := by
  rcases hr.split with ⟨rfl, a, c, rfl⟩ | ⟨b, off, c, rfl, h1, h2, hc⟩
  · clear hr
    go_enter Tryd.func56, Tryd.ntmps56
    go_wp2
    refine wp_loop_rounds 1 ?_
    rw [rounds_succ]
    go_wp2
    go_ret
    exact ⟨rfl, rfl⟩
  · clear hr
    have HC := hid hc
    have HB := hid hb
    clear hc hb
    go_enter Tryd.func56, Tryd.ntmps56
    go_wp2
    go_loop [3, 9] (fun v3 v9 => ∃ (k r : Nat), k ≤ ns.length ∧ v9 = .int .i64 (k : Int) ∧ v3 = .int .u32 (r : Int) ∧ r < 4294967296 ∧ r = crcF 4294967295 (ns.take k)) (fun _ v9 => ns.length - (intOf v9).toNat)
    case atStart => exact ⟨0, 4294967295, by omega, rfl, rfl, by omega, rfl⟩
    case round =>
      obtain ⟨k, r, hk, rfl, rfl, hr, hrc⟩ := hrel
      have HR := hid hrc
      clear hrc
      by_cases hlt : k < ns.length
      · obtain ⟨x, hx, hd⟩ := drop_at hlt
        have hcell := HC.out k x hx
        have hx256 : x < 256 := HB.out.at hx
        have hxr := u32_xor_nat r x hr (by omega)
        have hs0 := crcF_snoc hx 4294967295
        rw [← HR.out] at hs0
        have HS := hid hs0
        clear hs0
        have hq : r ^^^ x < 4294967296 := xor_lt32 hr (by omega)
        clear hd hx
        generalize r ^^^ x = q at *
        go_wp2
        go_loop [3, 17] (fun v3 v17 => ∃ (j s : Nat), j ≤ 8 ∧ v17 = .int .i64 (j : Int) ∧ v3 = .int .u32 (s : Int) ∧ s < 4294967296 ∧ s = csN j q) (fun _ v17 => 8 - (intOf v17).toNat)
        case atStart => exact ⟨0, q, by omega, rfl, rfl, hq, rfl⟩
        case round =>
          obtain ⟨j, s, hj, rfl, rfl, hs, hsc⟩ := hrel
          have HSC := hid hsc
          clear hsc
          have hcm := cs_mask hs
          have hcl := cs_lt hs
          by_cases hj8 : j < 8
          · go_wp2
            go_round
            case rel => exact ⟨j + 1, cs s, by omega, by go_num, rfl, hcl, by rw [HSC.out]; rfl⟩
            case measure => simp [intOf]; omega
          · go_wp2
            have hj' : j = 8 := by omega
            go_round
            case rel => exact ⟨k + 1, s, by omega, by go_num, rfl, hs, by rw [HSC.out, hj', HS.out]⟩
            case measure => simp [intOf]; omega
      · have : k = ns.length := by omega
        subst this
        go_wp2
        go_ret
        refine ⟨?_, rfl⟩
        have hce := crc_end hr
        show Ending.returned (.int .u32 (bits .xor .u32 4294967295 (r : Int))) = _
        rw [hce, HR.out, List.take_length]; rfl

theorem cs_odd {r : Nat} (h : r < 4294967296) (e : r % 2 = 1) : bits .xor .u32 ((r : Int) / 2) 2197175160 = (cs r : Int) := by
  rw [show (r : Int) / 2 = ((r / 2 : Nat) : Int) from by omega]
  have := u32_xor_nat (r / 2) 2197175160 (by omega) (by omega)
  unfold cs; rw [if_pos e]; exact this
theorem cs_even {r : Nat} (e : ¬ r % 2 = 1) : (r : Int) / 2 = (cs r : Int) := by
  unfold cs; rw [if_neg e, Nat.xor_zero]; omega

set_option maxRecDepth 20000 in
set_option maxHeartbeats 800000 in
theorem refsum_c {w : World} {v : Value} {ns : List Nat} (hr : Rd w v (bv ns)) (hb : By ns) (hl : ns.length ≤ 140737488355328) :
    Calls Tryd.prog 52 #[v] w fun e w' => e = .returned (.int .u32 (crc ns : Int)) ∧ w' = w := by
  rcases hr.split with ⟨rfl, a, c, rfl⟩ | ⟨b, off, c, rfl, h1, h2, hc⟩
  · clear hr
    go_enter Tryd.func52, Tryd.ntmps52
    go_wp2
    refine wp_loop_rounds 1 ?_
    rw [rounds_succ]
    go_wp2
    go_ret
    exact ⟨rfl, rfl⟩
  · clear hr
    have HC := hid hc
    have HB := hid hb
    clear hc hb
    go_enter Tryd.func52, Tryd.ntmps52
    go_wp2
    go_loop [3, 4] (fun v3 v4 => ∃ (k r : Nat), k ≤ ns.length ∧ v4 = .int .i64 (k : Int) ∧ v3 = .int .u32 (r : Int) ∧ r < 4294967296 ∧ r = crcF 4294967295 (ns.take k)) (fun _ v4 => ns.length - (intOf v4).toNat)
    case atStart => exact ⟨0, 4294967295, by omega, rfl, rfl, by omega, rfl⟩
    case round =>
      obtain ⟨k, r, hk, rfl, rfl, hr, hrc⟩ := hrel
      have HR := hid hrc
      clear hrc
      by_cases hlt : k < ns.length
      · obtain ⟨x, hx, hd⟩ := drop_at hlt
        have hcell := HC.out k x hx
        have hx256 : x < 256 := HB.out.at hx
        have hxr := u32_xor_nat r x hr (by omega)
        have hs0 := crcF_snoc hx 4294967295
        rw [← HR.out] at hs0
        have HS := hid hs0
        clear hs0
        have hq : r ^^^ x < 4294967296 := xor_lt32 hr (by omega)
        clear hd hx
        generalize r ^^^ x = q at *
        go_wp2
        go_loop [3, 5] (fun v3 v5 => ∃ (j s : Nat), j ≤ 8 ∧ v5 = .int .i64 (j : Int) ∧ v3 = .int .u32 (s : Int) ∧ s < 4294967296 ∧ s = csN j q) (fun _ v5 => 8 - (intOf v5).toNat)
        case atStart => exact ⟨0, q, by omega, rfl, rfl, hq, rfl⟩
        case round =>
          obtain ⟨j, s, hj, rfl, rfl, hs, hsc⟩ := hrel
          have HSC := hid hsc
          clear hsc
          have hcl := cs_lt hs
          by_cases hj8 : j < 8
          · by_cases ho : s % 2 = 1
            · have ho' : ((s : Int) % 2 == 1) = true := by simp; omega
              have HO := hid (cs_odd hs ho)
              clear ho
              go_wp2
              go_round
              case rel => exact ⟨j + 1, cs s, by omega, by go_num, by rw [HO.out], hcl, by rw [HSC.out]; rfl⟩
              case measure => simp [intOf]; omega
            · have ho' : ((s : Int) % 2 == 1) = false := by simp; omega
              have HO := hid (cs_even ho)
              clear ho
              go_wp2
              go_round
              case rel => exact ⟨j + 1, cs s, by omega, by go_num, by rw [HO.out], hcl, by rw [HSC.out]; rfl⟩
              case measure => simp [intOf]; omega
          · go_wp2
            have hj' : j = 8 := by omega
            go_round
            case rel => exact ⟨k + 1, s, by omega, by go_num, rfl, hs, by rw [HSC.out, hj', HS.out]⟩
            case measure => simp [intOf]; omega
      · have : k = ns.length := by omega
        subst this
        go_wp2
        go_ret
        refine ⟨?_, rfl⟩
        have hce := crc_end hr
        show Ending.returned (.int .u32 (bits .xor .u32 4294967295 (r : Int))) = _
        rw [hce, HR.out, List.take_length]; rfl
end Go.Proofs.YtmhhdlcdfgahkaaDoor
namespace Go.Proofs.YtmhhdlcdfgahkaaDoor
open Go.ChangeShapes Go.WideShapes Go.ChangeAt Go.RowKit

theorem pow8 (k : Nat) : 2 ^ (8 * k) = 256 ^ k := by rw [Nat.pow_mul]
theorem unf_take {ns : List Nat} {k x : Nat} (h : ns[k]? = some x) : unf (ns.take (k + 1)) = unf (ns.take k) + x * 2 ^ (8 * k) := by
  have hk : k < ns.length := by
    rcases Nat.lt_or_ge k ns.length with h1 | h1
    · exact h1
    · rw [List.getElem?_eq_none h1] at h; cases h
  rw [List.take_add_one, h]
  show unf (ns.take k ++ [x]) = _
  rw [unf_snoc, pow8, List.length_take, Nat.min_eq_left (by omega)]
theorem unf_take_lt {ns : List Nat} (hb : By ns) {k : Nat} (hk : k ≤ ns.length) : unf (ns.take k) < 2 ^ (8 * k) := by
  have := unf_lt _ (hb.take k)
  rwa [List.length_take, Nat.min_eq_left hk, ← pow8] at this
theorem shl8_lt {k m x : Nat} (hk : k ≤ 7) (hm : m < 2 ^ (8 * k)) (hx : x < 256) : m + x * 2 ^ (8 * k) < 18446744073709551616 := by
  have e2 : 2 ^ (8 * (k + 1)) = 256 * 2 ^ (8 * k) := by rw [show (256 : Nat) = 2 ^ 8 from rfl, ← Nat.pow_add]; congr 1; omega
  have h1 : 2 ^ (8 * (k + 1)) ≤ 2 ^ 64 := Nat.pow_le_pow_right (by omega) (by omega)
  have h2 : x * 2 ^ (8 * k) ≤ 255 * 2 ^ (8 * k) := Nat.mul_le_mul_right _ (by omega)
  omega
theorem unf_val {k m x : Nat} (hk : k ≤ 7) (hm : m < 2 ^ (8 * k)) (hx : x < 256) :
    bits .or .u64 (m : Int) (IntKind.u64.wrap ((x : Int) * 2 ^ (8 * k))) = ((m + x * 2 ^ (8 * k) : Nat) : Int) := by
  have hlt := shl8_lt hk hm hx
  rw [show ((x : Int) * 2 ^ (8 * k)) = ((x * 2 ^ (8 * k) : Nat) : Int) from by simp, wrap64_nat (by omega), u64_or_nat _ _ (by omega) (by omega), or_add hm (Nat.mul_mod_left _ _)]

set_option maxRecDepth 20000 in
set_option maxHeartbeats 800000 in
theorem unfixed_c {w : World} {v : Value} {ns : List Nat} (hr : Rd w v (bv ns)) (hb : By ns) (hl : ns.length ≤ 8) :
    Calls Tryd.prog 84 #[v] w fun e w' => e = .returned (.int .u64 (unf ns : Int)) ∧ w' = w := by
  rcases hr.split with ⟨rfl, a, c, rfl⟩ | ⟨b, off, c, rfl, h1, h2, hc⟩
  · clear hr
    go_enter Tryd.func84, Tryd.ntmps84
    go_wp2
    refine wp_loop_rounds 1 ?_
    rw [rounds_succ]
    go_wp2
    go_ret
    exact ⟨rfl, rfl⟩
  · clear hr
    have HC := hid hc
    have HB := hid hb
    clear hc hb
    go_enter Tryd.func84, Tryd.ntmps84
    go_wp2
    go_loop [3, 8] (fun v3 v8 => ∃ k : Nat, k ≤ ns.length ∧ v8 = .int .i64 (k : Int) ∧ v3 = .int .u64 (unf (ns.take k) : Int)) (fun _ v8 => ns.length - (intOf v8).toNat)
    case atStart => exact ⟨0, by omega, rfl, rfl⟩
    case round =>
      obtain ⟨k, hk, rfl, rfl⟩ := hrel
      by_cases hlt : k < ns.length
      · obtain ⟨x, hx, hd⟩ := drop_at hlt
        have hcell := HC.out k x hx
        have hx256 : x < 256 := HB.out.at hx
        have hv := unf_val (k := k) (by omega) (unf_take_lt HB.out hk) hx256
        have hu := unf_take hx
        clear hd hx
        have HV := hid hv
        have HU := hid hu
        clear hv hu
        generalize hg : unf (ns.take k) = m at *
        go_wp2
        go_round
        case rel => exact ⟨k + 1, by omega, by go_num, by rw [HU.out, HV.out]⟩
        case measure => simp [intOf]; omega
      · have : k = ns.length := by omega
        subst this
        go_wp2
        go_ret
        exact ⟨rfl, rfl⟩

theorem unfixed4_short {w : World} {v : Value} {ns : List Nat} (hr : Rd w v (bv ns)) (hl : ns.length < 4) :
    Calls Tryd.prog 55 #[v] w fun e w' => e = .returned (.tuple #[.int .u32 0, .int .i64 20]) ∧ w' = w := by
  obtain ⟨a, c, rfl⟩ := hr.form
  rw [bv_len]
  clear hr
  go_enter Tryd.func55, Tryd.ntmps55
  go_wp2
  go_ret2
  exact ⟨rfl, rfl⟩
/-- The first bytes of a slice. -/
theorem Rd.front {w : World} {b off c : Nat} {ns : List Nat} (h : Rd w (.slice (some ⟨b, off, none⟩) ns.length c) (bv ns)) {q : Nat} (hq : q ≤ ns.length) : Rd w (.slice (some ⟨b, off, none⟩) q c) (bv (ns.take q)) := by
  rcases h with ⟨h, _⟩ | ⟨a, c', h, h4, h5⟩
  · cases h
  · simp only [Value.slice.injEq, Option.some.injEq] at h
    obtain ⟨rfl, _, rfl⟩ := h
    refine .inr ⟨_, _, by rw [bv_len, List.length_take, Nat.min_eq_left hq], by rw [bv_len] at h4 ⊢; rw [List.length_take]; omega, fun j u hj => h5 j u ?_⟩
    rw [bv_take, List.getElem?_take] at hj
    split at hj
    · exact hj
    · cases hj
set_option maxHeartbeats 400000 in
theorem unfixed4_c {w : World} {v : Value} {ns : List Nat} (hr : Rd w v (bv ns)) (hb : By ns) (hl : 4 ≤ ns.length) (hl1 : ns.length ≤ 140737488355328) :
    Calls Tryd.prog 55 #[v] w fun e w' => e = .returned (.tuple #[.int .u32 (unf (ns.take 4) : Int), .int .i64 0]) ∧ w' = w := by
  rcases hr.split with ⟨rfl, _⟩ | ⟨b, off, c, rfl, h1, h2, hc⟩
  · simp at hl
  have HR := hid (hr.front hl)
  have HB := hid hb
  have hu := unf_lt _ (hb.take 4)
  rw [List.length_take, Nat.min_eq_left hl] at hu
  have hw : IntKind.u32.wrap (unf (ns.take 4) : Int) = (unf (ns.take 4) : Int) := by rw [IntKind.wrap_u32']; omega
  clear hr hc hb
  go_enter Tryd.func55, Tryd.ntmps55
  go_wp2_with (go_at_call 84; refine (unfixed_c HR.out (HB.out.take 4) (by simp; omega)).mono ?_; rintro e w' ⟨rfl, rfl⟩)
  go_ret2
  exact ⟨rfl, rfl⟩

end Go.Proofs.YtmhhdlcdfgahkaaDoor
namespace Go.Proofs.YtmhhdlcdfgahkaaDoor
open Go.ChangeShapes Go.WideShapes Go.ChangeAt Go.RowKit

theorem set_fix (n k z : Nat) (hk : k < z) : (bv (fixL n k ++ List.replicate (z - k) 0)).set k (.int .u8 ((n / 2 ^ (8 * k) % 256 : Nat) : Int)) = bv (fixL n (k + 1) ++ List.replicate (z - (k + 1)) 0) := by
  rw [fixL_snoc, pow8, show z - k = (z - (k + 1)) + 1 from by omega, List.replicate_succ, List.append_assoc, bv_append, bv_append, List.set_append, if_neg (by rw [bv_len, fixL_len]; omega), bv_len, fixL_len, Nat.sub_self]
  rfl
theorem fix_val (n k : Nat) : ((n / 2 ^ (8 * k) % 256 : Nat) : Int) = (n : Int) / 2 ^ (8 * k) % 256 := by simp

set_option maxRecDepth 20000 in
set_option maxHeartbeats 800000 in
theorem reffixed_c (w : World) (n z : Nat) (_hn : n < 18446744073709551616) (hz : z ≤ 8) :
    Calls Tryd.prog 51 #[.int .u64 (n : Int), .int .i64 (z : Int)] w fun e w' => ∃ v, e = .returned v ∧ w'.ownsRow w.heap.size 5 1 v z (bv (fixL n z)) ∧ Fr [] w w' := by
  go_enter Tryd.func51, Tryd.ntmps51
  go_wp2
  go_loopw [5, 6] (fun v5 v6 wr => ∃ k : Nat, k ≤ z ∧ v6 = .int .i64 (k : Int) ∧ wr.ownsRow w.heap.size 5 1 v5 k (bv (fixL n k)) ∧ Fr [] w wr) (fun _ v6 _ => z - (intOf v6).toNat)
  case atStart => exact ⟨0, by omega, rfl, World.ownsRow_nil _ _ _ _, Fr.refl _ _⟩
  case round =>
    obtain ⟨k, hk, rfl, ho, hf⟩ := hrel
    have RO := hid ho
    have RF := hid hf
    have hsz := hf.size
    clear ho hf
    by_cases hlt : k < z
    · go_wp2_with (at_builtin; refine wpList_append_rd rfl _ _ rfl w.heap.size (by simp; omega) _ _ _ rfl (RO.out.alloc _) _ [_] rfl (Rd_lit1 _ _) (by simp [Value.oneCell']) (by simp; omega) ?_; intro v' w' o1 o2 o3)
      have B : Hid (w'.ownsRow w.heap.size 5 1 v' (k + 1) (bv (fixL n (k + 1))) ∧ Fr [] w w') := by
        refine ⟨?_, (RF.out.alloc _).grew (RO.out.alloc _) (Nat.le_refl _) o2⟩
        rw [fixL_snoc, bv_append, ← pow8]
        show w'.ownsRow w.heap.size 5 1 v' (k + 1) (bv (fixL n k) ++ [Value.int .u8 ((n / 2 ^ (8 * k) % 256 : Nat) : Int)])
        rw [fix_val]
        exact o1
      clear o1 o2 o3
      go_wp2
      go_roundw
      case rel => exact ⟨k + 1, by omega, by go_num, B.out⟩
      case measure => simp [intOf]; omega
    · have : k = z := by omega
      subst this
      go_wp2
      go_ret
      exact ⟨_, rfl, RO.out, RF.out⟩
end Go.Proofs.YtmhhdlcdfgahkaaDoor
namespace Go.Proofs.YtmhhdlcdfgahkaaDoor
open Go.ChangeShapes Go.WideShapes Go.ChangeAt Go.RowKit

theorem Rd_lit {w : World} {cs : Array Value} {n : Nat} {ns : List Nat} (hn : n = cs.size) (hm : n ≤ 1000) (h : cs.toList = bv ns) : Rd (w.alloc (.cells cs 5)) (.slice (some ⟨w.heap.size, 0, none⟩) n n) (bv ns) := by
  subst hn
  have : (w.alloc (.cells cs 5)).ownsRow 0 5 1 (.slice (some ⟨w.heap.size, 0, none⟩) cs.size cs.size) cs.size cs.toList := World.ownsRow_lit (base := 0) w cs cs.size (Nat.zero_le _) (by unfold maxLen; omega) (by simp)
  rw [← h]
  exact Rd.own (base := 0) (by simpa using this)
theorem ownsRow_size {w : World} {base size n : Nat} {e : TypeId} {v : Value} {xs : List Value} (h : w.ownsRow base e size v n xs) (h0 : 0 < n) : base ≤ w.heap.size := by
  rcases h.2 with ⟨_, h⟩ | ⟨g, cap, cur, rfl, h2, h3, _⟩
  · omega
  · have := blk_lt h3; omega
theorem Fr.row {w0 w : World} (h : Fr [] w0 w) {g : Nat} (hg : w0.heap.size ≤ g) (cs : Array Value) : Fr [] w0 (w.setRow g cs) :=
  ⟨h.os, h.tape, h.output, by simpa [World.setRow] using h.size, fun k hk hn => by rw [setRow_other _ _ _ _ (by omega)]; exact h.block k hk hn⟩
theorem over_frag {cur : List Value} {xs d : List Nat} {k n : Nat} (hn : n = xs.length + 7 + d.length) (ht : cur.take n = bv ((xs ++ [0, 0, 0, 0, d.length, d.length / 256, k]) ++ d)) (hd : d.length ≤ 57) : (over cur xs.length (bv (fixL (crc (k :: d)) 4))).take n = bv (xs ++ fragL k d) := by
  have h4 : (bv (fixL (crc (k :: d)) 4)).length = 4 := by rw [bv_len, fixL_len]
  have e0 : cur = bv ((xs ++ [0, 0, 0, 0, d.length, d.length / 256, k]) ++ d) ++ cur.drop n := by rw [← ht, List.take_append_drop]
  have e1 : cur.take xs.length = bv xs := by
    have := congrArg (List.take xs.length) ht
    rw [List.take_take, Nat.min_eq_left (by omega)] at this
    rw [this, bv_append, bv_append, List.append_assoc, List.take_left' (bv_len xs)]
  have e2 : (cur.drop (xs.length + 4)).take (n - (xs.length + 4)) = bv ([d.length, d.length / 256, k] ++ d) := by
    rw [← List.drop_take, ht, bv_append, bv_append, List.append_assoc, ← List.drop_drop, List.drop_left' (bv_len xs)]
    rfl
  have hfr : fragL k d = fixL (crc (k :: d)) 4 ++ ([d.length, d.length / 256, k] ++ d) := by
    unfold fragL; rw [Nat.mod_eq_of_lt (by omega)]
  unfold over
  rw [e1, h4, hfr, bv_append, bv_append, ← e2, List.take_append, List.take_of_length_le (by rw [List.length_append, bv_len, h4]; omega), List.length_append, bv_len, h4, List.append_assoc]

end Go.Proofs.YtmhhdlcdfgahkaaDoor
namespace Go.Proofs.YtmhhdlcdfgahkaaDoor
open Go.ChangeShapes Go.WideShapes Go.ChangeAt Go.RowKit


theorem grow_own (w : World) (n : Nat) (hn : n ≤ maxLen) : (w.drew.alloc (.cells (Builtin.zeroCells (Value.int .u8 0).cells n ++ Builtin.zeroCells (Value.int .u8 0).cells (grownCap w n 0 5 - n)) 5)).ownsRow w.heap.size 5 1 (.slice (some ⟨w.heap.size, 0, none⟩) 0 (grownCap w n 0 5)) 0 [] := by
  have h1 := grownCap_ge w n 0 5
  refine ⟨rfl, .inr ⟨w.heap.size, grownCap w n 0 5, _, rfl, Nat.le_refl _, blk_new w.drew _, Nat.zero_le _, grownCap_le_maxLen w n 0 _ hn, ?_, by simp⟩⟩
  simp only [Array.size_append, size_zeroCells, Value.cells]
  simp; omega

/-- Lists of bytes one behind the other. -/
def catN (X : Nat → List Nat) : Nat → List Nat
  | 0 => []
  | k + 1 => catN X k ++ X k

end Go.Proofs.YtmhhdlcdfgahkaaDoor
namespace Go.Proofs.YtmhhdlcdfgahkaaDoor
open Go.ChangeShapes Go.WideShapes Go.ChangeAt Go.RowKit

/-- May these be a user key's length, a sequence number, a kind? -/
def vb (l s : Nat) (k : Int) : Bool := decide (l ≤ 128) && (decide (s ≤ 72057594037927935) && (k == 0 || k == 1))
/-- The bytes of an internal key. -/
def keyL (u : List Nat) (s k : Nat) : List Nat := u ++ fixL (256 * s + k) 8

set_option maxHeartbeats 400000 in
theorem valid_x (w : World) (a : Option Addr) (l c s : Nat) (k : Int) :
    Calls Tryd.prog 85 #[.agg #[.slice a l c, .int .u64 (s : Int), .int .i64 k]] w fun e w' => e = .returned (.bool (vb l s k)) ∧ w' = w.alloc (.cells #[.slice a l c, .int .u64 (s : Int), .int .i64 k] 115) := by
  by_cases h1 : l ≤ 128
  · by_cases h2 : s ≤ 72057594037927935
    · by_cases h3 : k = 0
      · subst h3
        have hv : vb l s 0 = true := by simp [vb, h1, h2]
        rw [hv]
        clear hv
        go_enter Tryd.func85, Tryd.ntmps85
        go_wp2
        go_ret
        exact ⟨rfl, rfl⟩
      · have h3' : (k == 0) = false := by simpa using h3
        have hv : vb l s k = (k == 1) := by simp [vb, h1, h2, h3]
        rw [hv]
        clear hv h3
        rcases hk : (k == 1) with _ | _
        · go_enter Tryd.func85, Tryd.ntmps85
          go_wp2
          go_ret
          exact ⟨rfl, rfl⟩
        · go_enter Tryd.func85, Tryd.ntmps85
          go_wp2
          go_ret
          exact ⟨rfl, rfl⟩
    · have hv : vb l s k = false := by simp [vb, h2]
      rw [hv]
      clear hv
      go_enter Tryd.func85, Tryd.ntmps85
      go_wp2
      go_ret
      exact ⟨rfl, rfl⟩
  · have hv : vb l s k = false := by simp [vb, h1]
    rw [hv]
    clear hv
    go_enter Tryd.func85, Tryd.ntmps85
    go_wp2
    go_ret
    exact ⟨rfl, rfl⟩

theorem valid_c (w : World) (a : Option Addr) (l c s : Nat) (k : Int) :
    Calls Tryd.prog 85 #[.agg #[.slice a l c, .int .u64 (s : Int), .int .i64 k]] w fun e w' => e = .returned (.bool (vb l s k)) ∧ Fr [] w w' := by
  refine (valid_x w a l c s k).mono ?_
  rintro e w' ⟨rfl, rfl⟩
  exact ⟨rfl, (Fr.refl _ _).alloc _⟩

theorem key_val {s k : Nat} (hs : s ≤ 72057594037927935) (hk : k ≤ 1) : bits .or .u64 ((s : Int) * 256) (k : Int) = ((256 * s + k : Nat) : Int) := by
  rw [show (s : Int) * 256 = ((s * 256 : Nat) : Int) from by omega, u64_or_nat _ _ (by omega) (by omega), nat_join 8 (s * 256) k (by omega) (by omega)]
  omega

end Go.Proofs.YtmhhdlcdfgahkaaDoor
