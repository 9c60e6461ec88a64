/-
  What the reference's Put and both Takes answer.
-/
import Derived.Test.YtmpfnglcmaollaaDoorJ06
import Derived.Lib.AppendZeros
namespace Go.Proofs.YtmpfnglcmaollaaDoor
open Go.ChangeShapes Go.WideShapes Go.ChangeAt Go.RowKit

theorem drop_at {ns : List Nat} {k : Nat} (h : k < ns.length) : ∃ x, ns[k]? = some x ∧ ns.drop k = x :: ns.drop (k + 1) :=
  ⟨ns[k], List.getElem?_eq_getElem h, List.drop_eq_getElem_cons h⟩
theorem tk_nil (i v : Nat) : tk i v [] = (0, 0, 20) := rfl
theorem tk_bad {i v x : Nat} {r : List Nat} (h : i = 9 ∧ 1 < x ∨ 0 < i ∧ x = 0) : tk i v (x :: r) = (0, 0, 21) := by rw [tk, if_pos h]
theorem tk_end {i v x : Nat} {r : List Nat} (h : ¬ (i = 9 ∧ 1 < x ∨ 0 < i ∧ x = 0)) (hx : x < 128) : tk i v (x :: r) = (v + x % 128 * 2 ^ (7 * i), i + 1, 0) := by rw [tk, if_neg h, if_pos hx]
theorem tk_on {i v x : Nat} {r : List Nat} (h : ¬ (i = 9 ∧ 1 < x ∨ 0 < i ∧ x = 0)) (hx : ¬ x < 128) : tk i v (x :: r) = tk (i + 1) (v + x % 128 * 2 ^ (7 * i)) r := by rw [tk, if_neg h, if_neg hx]

/-- A result of Take as the program hands it over. -/
def tkv (t : Nat × Nat × Nat) : Value := .tuple #[.int .u64 (t.1 : Int), .int .i64 (t.2.1 : Int), .int .i64 (t.2.2 : Int)]

theorem andNot128 {x : Nat} (hx : x < 256) : bits .andNot .u8 (x : Int) 128 = ((x % 128 : Nat) : Int) := by
  have h := u8_andNot_nat x 128 hx (by omega)
  have e : x &&& (255 - 128) = x % 128 := nat_mask7 x
  rw [e] at h; exact h
theorem wrap64_nat {n : Nat} (h : n < 18446744073709551616) : IntKind.u64.wrap (n : Int) = (n : Int) := by rw [IntKind.wrap_u64]; omega
theorem shl_lt {k m x : Nat} (hk : k ≤ 9) (hm : m < 2 ^ (7 * k)) (h9 : k = 9 → x ≤ 1) : m + x % 128 * 2 ^ (7 * k) < 18446744073709551616 := by
  have e2 : 2 ^ (7 * (k + 1)) = 128 * 2 ^ (7 * k) := by rw [show (128 : Nat) = 2 ^ 7 from rfl, ← Nat.pow_add]; congr 1; omega
  rcases Nat.lt_or_ge k 9 with h3 | h3
  · have h1 : 2 ^ (7 * (k + 1)) ≤ 2 ^ 63 := Nat.pow_le_pow_right (by omega) (by omega)
    have h2 : x % 128 * 2 ^ (7 * k) ≤ 127 * 2 ^ (7 * k) := Nat.mul_le_mul_right _ (by omega)
    omega
  · have h : k = 9 := by omega
    have := h9 h
    subst h
    have h4 : x % 128 ≤ 1 := by omega
    have h2 : x % 128 * 2 ^ (7 * 9) ≤ 1 * 2 ^ (7 * 9) := Nat.mul_le_mul_right _ h4
    omega
theorem or_add {a b i : Nat} (hb : b < 2 ^ i) (ha : a % 2 ^ i = 0) : b ||| a = b + a := by rw [Nat.or_comm, nat_join i a b ha hb, Nat.add_comm]
theorem take_val {k m x : Nat} (hk : k ≤ 9) (hm : m < 2 ^ (7 * k)) (hx : x < 256) (h9 : k = 9 → x ≤ 1) :
    bits .or .u64 (m : Int) (IntKind.u64.wrap (IntKind.u64.wrap (bits .andNot .u8 (x : Int) 128) * 2 ^ (7 * k))) = ((m + x % 128 * 2 ^ (7 * k) : Nat) : Int) := by
  have hlt := shl_lt hk hm h9
  rw [andNot128 hx, wrap64_nat (by omega), show (((x % 128 : Nat) : Int) * 2 ^ (7 * k)) = ((x % 128 * 2 ^ (7 * k) : Nat) : Int) from by simp, wrap64_nat (by omega), u64_or_nat _ _ (by omega) (by omega), or_add hm (Nat.mul_mod_left _ _)]

theorem take_ret {k m x : Nat} (hk : k ≤ 9) (hm : m < 2 ^ (7 * k)) (hx : x < 256) (h9 : k = 9 → x ≤ 1) :
    Ending.returned (.tuple #[.int .u64 (bits .or .u64 (m : Int) (IntKind.u64.wrap (IntKind.u64.wrap (bits .andNot .u8 (x : Int) 128) * 2 ^ (7 * k)))), .int .i64 ((k : Int) + 1), .int .i64 0]) = .returned (tkv (m + x % 128 * 2 ^ (7 * k), k + 1, 0)) := by
  rw [take_val hk hm hx h9]; rfl
theorem take_ret9 {k m x : Nat} (hk : k = 9) (hm : m < 2 ^ (7 * k)) (hx : x < 256) (h9 : x ≤ 1) :
    Ending.returned (.tuple #[.int .u64 (bits .or .u64 (m : Int) (IntKind.u64.wrap (IntKind.u64.wrap (bits .andNot .u8 (x : Int) 128) * 9223372036854775808))), .int .i64 10, .int .i64 0]) = .returned (tkv (m + x % 128 * 2 ^ (7 * k), k + 1, 0)) := by
  subst hk
  exact take_ret (k := 9) (by omega) hm hx fun _ => h9

end Go.Proofs.YtmpfnglcmaollaaDoor
namespace Go.Proofs.YtmpfnglcmaollaaDoor
open Go.ChangeShapes Go.WideShapes Go.ChangeAt Go.RowKit

set_option maxHeartbeats 400000 in
theorem clone_c {w : World} {v : Value} {ns : List Nat} (hr : Rd w v (bv ns)) (hl : ns.length ≤ 140737488355328) :
    Calls Tryd.prog 37 #[v] w fun e w' => ∃ v', e = .returned v' ∧ w'.ownsRow w.heap.size 5 1 v' ns.length (bv ns) ∧ Fr [] w w' := by
  have heq := fun (w : World) (a : Option Addr) (n c : Nat) => Lib.run_eql_slice_nil (P := Tryd.prog) w 33 5 a n c 0 0 Tryd.underlying33
  rcases hr with ⟨rfl, h0⟩ | ⟨a, c, rfl, h4, hc⟩
  · have : ns = [] := by simpa [bv] using h0
    subst this
    go_enter Tryd.func37, Tryd.ntmps37
    go_wp2
    go_ret
    exact ⟨_, rfl, World.ownsRow_nil _ _ _ _, Fr.refl _ _⟩
  · have hown : (w.alloc (.cells #[] 5)).ownsRow w.heap.size 5 1 (.slice (some ⟨w.heap.size, 0, none⟩) 0 0) 0 [] := World.ownsRow_lit w #[] 0 (Nat.le_refl _) (by unfold maxLen; omega) rfl
    have hr' : Rd (w.alloc (.cells #[] 5)) (.slice (some a) (bv ns).length c) (bv ns) := Rd.fr (w := w) (.inr ⟨a, c, rfl, h4, hc⟩) ((Fr.refl _ _).alloc _)
    have HO := hid hown
    have HR := hid hr'
    clear hown hr' hc h4
    rw [bv_len] at HR ⊢
    go_enter Tryd.func37, Tryd.ntmps37
    go_wp2_with (at_builtin; refine wpList_append_rd rfl _ _ rfl w.heap.size (by simp) _ _ _ rfl HO.out _ _ rfl HR.out bv_one (by rw [bv_len]; omega) ?_; intro v' w1 o1 o2 o3)
    go_ret
    rw [bv_len, Nat.zero_add, List.nil_append] at o1
    exact ⟨v', rfl, o1, ((Fr.refl _ _).alloc _).grew HO.out (Nat.le_refl _) o2⟩

theorem grow_own (w : World) (n : Nat) (hn : n ≤ maxLen) : (w.drew.alloc (.cells (Builtin.zeroCells (Value.int .u8 0).cells n ++ Builtin.zeroCells (Value.int .u8 0).cells (grownCap w n 0 5 - n)) 5)).ownsRow w.heap.size 5 1 (.slice (some ⟨w.heap.size, 0, none⟩) 0 (grownCap w n 0 5)) 0 [] := by
  have h1 := grownCap_ge w n 0 5
  refine ⟨rfl, .inr ⟨w.heap.size, grownCap w n 0 5, _, rfl, Nat.le_refl _, blk_new w.drew _, Nat.zero_le _, grownCap_le_maxLen w n 0 _ hn, ?_, by simp⟩⟩
  simp only [Array.size_append, size_zeroCells, Value.cells]
  simp; omega

set_option maxRecDepth 20000 in
set_option maxHeartbeats 400000 in
theorem grow_c (w : World) (n : Nat) (hn : n ≤ 140737488355328) :
    Calls Tryd.prog 72 #[.slice none 0 0, .int .i64 (n : Int)] w fun e w' => ∃ v, e = .returned v ∧ w'.ownsRow w.heap.size 5 1 v 0 [] ∧ Fr [] w w' := by
  obtain ⟨i0, hi, hz0, hz1, hz2⟩ := info_parts infoB
  by_cases h0 : 0 < n
  · have hr := fun ty => Lib.run_append_nil_zeros (P := Tryd.prog) w 33 3 ty 5 i0 (.int .u8 0) .i64 .i64 Tryd.underlying33 Tryd.underlying3 hi hz0 n h0 (by rw [hz1]; omega) (by omega) (by rw [hz2]; omega)
    have HO := hid (grow_own w n (by unfold maxLen; omega))
    clear hi hz0 hz1 hz2
    go_enter Tryd.func72, Tryd.ntmps72
    go_wp2_with (at_builtin; refine Lib.wpList_append_run _ rfl _ _ _ _ rfl _ _ rfl rfl _ _ (hr _) ?_)
    go_ret
    exact ⟨_, rfl, HO.out, ((Fr.refl _ _).drew).alloc _⟩
  · have : n = 0 := by omega
    subst this
    clear hi hz0 hz1 hz2
    go_enter Tryd.func72, Tryd.ntmps72
    go_wp2
    go_ret
    exact ⟨_, rfl, World.ownsRow_nil _ _ _ _, Fr.refl _ _⟩

/-- Lists of bytes one behind the other. -/
def catN (X : Nat → List Nat) : Nat → List Nat
  | 0 => []
  | k + 1 => catN X k ++ X k

set_option maxRecDepth 20000 in
set_option maxHeartbeats 800000 in
theorem concat_c {w : World} (q m : Nat) (V : Nat → Value) (X : Nat → List Nat) (hm : 0 < m) (hm1 : m ≤ 8) (hc : ∀ j, j < m → w.cell? ⟨q, j, none⟩ = some (V j)) (hr : ∀ j, j < m → Rd w (V j) (bv (X j))) (hl : ∀ j, j ≤ m → (catN X j).length ≤ 140737488355328) :
    Calls Tryd.prog 54 #[.slice (some ⟨q, 0, none⟩) m m] w fun e w' => ∃ v, e = .returned v ∧ w'.ownsRow w.heap.size 5 1 v (catN X m).length (bv (catN X m)) ∧ Fr [] w w' := by
  have HC := hid hc
  have HR := hid hr
  have HL := hid hl
  clear hc hr hl
  go_enter Tryd.func54, Tryd.ntmps54
  go_wp2
  go_loop [3, 11] (fun v3 v11 => ∃ (k s : Nat), k ≤ m ∧ v11 = .int .i64 (k : Int) ∧ v3 = .int .i64 (s : Int) ∧ s = (catN X k).length) (fun _ v11 => m - (intOf v11).toNat)
  case atStart => exact ⟨0, 0, by omega, rfl, rfl, rfl⟩
  case round =>
    obtain ⟨k, s, hk, rfl, rfl, hs⟩ := hrel
    have HS := hid hs
    have hs1 : s ≤ 140737488355328 := by rw [hs]; exact HL.out k hk
    clear hs
    by_cases hlt : k < m
    · obtain ⟨a, c, hv⟩ := (HR.out k hlt).form
      rw [bv_len] at hv
      have hcell := HC.out k hlt
      rw [hv] at hcell
      have hs2 : s + (X k).length ≤ 140737488355328 := by
        have := HL.out (k + 1) hlt
        rw [catN, List.length_append, ← HS.out] at this; exact this
      clear hv
      go_wp2
      go_round
      case rel => exact ⟨k + 1, s + (X k).length, by omega, by go_num, by go_num, by rw [catN, List.length_append, HS.out]⟩
      case measure => simp [intOf]; omega
    · have : k = m := by omega
      subst this
      go_wp2_with (go_at_call 72; refine (grow_c _ s hs1).mono ?_; rintro e w1 ⟨v1, rfl, o1, f1⟩)
      have O1 := hid o1
      have F1 := hid f1
      clear o1 f1
      go_loopw [6, 27] (fun v6 v27 wr => ∃ j : Nat, j ≤ k ∧ v27 = .int .i64 (j : Int) ∧ wr.ownsRow w.heap.size 5 1 v6 (catN X j).length (bv (catN X j)) ∧ Fr [] w wr) (fun _ v27 _ => k - (intOf v27).toNat)
      case atStart => exact ⟨0, by omega, rfl, O1.out, F1.out⟩
      case round =>
        obtain ⟨j, hj, rfl, ho, hf⟩ := hrel
        have RO := hid ho
        have RF := hid hf
        have hsz := hf.size
        clear ho hf
        by_cases hjk : j < k
        · obtain ⟨a, c, hv⟩ := (HR.out j hjk).form
          rw [bv_len] at hv
          have hr1 := (HR.out j hjk).fr RF.out
          have hcell : wr.cell? ⟨q, j, none⟩ = some (V j) := by
            have h6 := HC.out j hjk
            rw [World.cell?_of_block (w := w) (RF.out.block _ (World.block_lt_of_cell? w _ h6) (by simp))]; exact h6
          rw [hv] at hcell hr1
          have R1 := hid hr1
          have hs2 : (catN X j).length + (X j).length ≤ 140737488355328 := by
            have := HL.out (j + 1) hjk
            rw [catN, List.length_append] at this; exact this
          clear hv hr1
          go_wp2_with (at_builtin; refine wpList_append_rd rfl _ _ rfl w.heap.size hsz _ _ _ rfl RO.out _ _ rfl R1.out bv_one (by rw [bv_len]; exact hs2) ?_; intro v' w2 o1 o2 o3)
          have B : Hid (w2.ownsRow w.heap.size 5 1 v' (catN X (j + 1)).length (bv (catN X (j + 1))) ∧ Fr [] w w2) := by
            refine ⟨?_, RF.out.grew RO.out (Nat.le_refl _) o2⟩
            rw [catN, List.length_append, bv_append]
            rw [bv_len] at o1; exact o1
          clear o1 o2 o3
          go_wp2
          go_roundw
          case rel => exact ⟨j + 1, by omega, by go_num, B.out⟩
          case measure => simp [intOf]; omega
        · have : j = k := by omega
          subst this
          go_wp2
          go_ret
          exact ⟨_, rfl, RO.out, RF.out⟩

theorem concat2_c {w : World} {v0 v1 : Value} {x0 x1 : List Nat} (h0 : Rd w v0 (bv x0)) (h1 : Rd w v1 (bv x1)) (hl : x0.length + x1.length ≤ 140737488355328) :
    Calls Tryd.prog 54 #[.slice (some ⟨w.heap.size, 0, none⟩) 2 2] (w.alloc (.cells #[v0, v1] 33)) fun e w' => ∃ v, e = .returned v ∧ w'.ownsRow w.heap.size 5 1 v (x0 ++ x1).length (bv (x0 ++ x1)) ∧ Fr [] w w' := by
  have hf : Fr [] w (w.alloc (.cells #[v0, v1] 33)) := (Fr.refl _ _).alloc _
  refine (concat_c w.heap.size 2 (fun j => if j = 0 then v0 else v1) (fun j => if j = 0 then x0 else x1) (by omega) (by omega) (fun j hj => ?_) (fun j hj => ?_) (fun j hj => ?_)).mono ?_
  · rw [blk_cell (blk_new _ _)]
    rcases (show j = 0 ∨ j = 1 from by omega) with rfl | rfl <;> rfl
  · rcases (show j = 0 ∨ j = 1 from by omega) with rfl | rfl
    · exact h0.fr hf
    · exact h1.fr hf
  · rcases (show j = 0 ∨ j = 1 ∨ j = 2 from by omega) with rfl | rfl | rfl <;> simp [catN] <;> omega
  · rintro e w' ⟨v, rfl, o, f⟩
    exact ⟨v, rfl, by simpa [catN] using ownsRow_base o (by simp), hf.trans f⟩
theorem concat3_c {w : World} {v0 v1 v2 : Value} {x0 x1 x2 : List Nat} (h0 : Rd w v0 (bv x0)) (h1 : Rd w v1 (bv x1)) (h2 : Rd w v2 (bv x2)) (hl : x0.length + x1.length + x2.length ≤ 140737488355328) :
    Calls Tryd.prog 54 #[.slice (some ⟨w.heap.size, 0, none⟩) 3 3] (w.alloc (.cells #[v0, v1, v2] 33)) fun e w' => ∃ v, e = .returned v ∧ w'.ownsRow w.heap.size 5 1 v (x0 ++ x1 ++ x2).length (bv (x0 ++ x1 ++ x2)) ∧ Fr [] w w' := by
  have hf : Fr [] w (w.alloc (.cells #[v0, v1, v2] 33)) := (Fr.refl _ _).alloc _
  refine (concat_c w.heap.size 3 (fun j => if j = 0 then v0 else if j = 1 then v1 else v2) (fun j => if j = 0 then x0 else if j = 1 then x1 else x2) (by omega) (by omega) (fun j hj => ?_) (fun j hj => ?_) (fun j hj => ?_)).mono ?_
  · rw [blk_cell (blk_new _ _)]
    rcases (show j = 0 ∨ j = 1 ∨ j = 2 from by omega) with rfl | rfl | rfl <;> rfl
  · rcases (show j = 0 ∨ j = 1 ∨ j = 2 from by omega) with rfl | rfl | rfl
    · exact h0.fr hf
    · exact h1.fr hf
    · exact h2.fr hf
  · rcases (show j = 0 ∨ j = 1 ∨ j = 2 ∨ j = 3 from by omega) with rfl | rfl | rfl | rfl <;> simp [catN] <;> omega
  · rintro e w' ⟨v, rfl, o, f⟩
    exact ⟨v, rfl, by simpa [catN] using ownsRow_base o (by simp), hf.trans f⟩
end Go.Proofs.YtmpfnglcmaollaaDoor
