/-
  What bytes.Clone, slices.Grow of nothing and slices.Concat answer for bytes.
-/
import Derived.Test.YthmlpjogbdpgiaaJ03
import Derived.Lib.AppendZeros
import Derived.Test.YthmlpjogbdpgiaaJ02
namespace Go.Proofs.Ythmlpjogbdpgiaa
open Go.ChangeShapes Go.WideShapes Go.ChangeAt Go.RowKit

set_option maxHeartbeats 400000 in
theorem clone_c {w : World} {v : Value} {ns : List Nat} (hr : Rd w v (bv ns)) (hl : ns.length ≤ 140737488355328) :
    Calls Try.prog 33 #[v] w fun e w' => ∃ v', e = .returned v' ∧ w'.ownsRow w.heap.size 5 1 v' ns.length (bv ns) ∧ Fr [] w w' := by
  have heq := fun (w : World) (a : Option Addr) (n c : Nat) => Lib.run_eql_slice_nil (P := Try.prog) w 35 5 a n c 0 0 Try.underlying35
  rcases hr with ⟨rfl, h0⟩ | ⟨a, c, rfl, h4, hc⟩
  · have : ns = [] := by simpa [bv] using h0
    subst this
    go_enter Try.func33, Try.ntmps33
    go_wp2
    go_ret
    exact ⟨_, rfl, World.ownsRow_nil _ _ _ _, Fr.refl _ _⟩
  · have hown : (w.alloc (.cells #[] 5)).ownsRow w.heap.size 5 1 (.slice (some ⟨w.heap.size, 0, none⟩) 0 0) 0 [] := World.ownsRow_lit w #[] 0 (Nat.le_refl _) (by unfold maxLen; omega) rfl
    have hr' : Rd (w.alloc (.cells #[] 5)) (.slice (some a) (bv ns).length c) (bv ns) := Rd.fr (w := w) (.inr ⟨a, c, rfl, h4, hc⟩) ((Fr.refl _ _).alloc _)
    have HO := hid hown
    have HR := hid hr'
    clear hown hr' hc h4
    rw [bv_len] at HR ⊢
    go_enter Try.func33, Try.ntmps33
    go_wp2_with (at_builtin; refine wpList_append_rd rfl _ _ rfl w.heap.size (by simp) _ _ _ rfl HO.out _ _ rfl HR.out bv_one (by rw [bv_len]; omega) ?_; intro v' w1 o1 o2 o3)
    go_ret
    rw [bv_len, Nat.zero_add, List.nil_append] at o1
    exact ⟨v', rfl, o1, ((Fr.refl _ _).alloc _).grew HO.out (Nat.le_refl _) o2⟩

theorem grow_own (w : World) (n : Nat) (hn : n ≤ maxLen) : (w.drew.alloc (.cells (Builtin.zeroCells (Value.int .u8 0).cells n ++ Builtin.zeroCells (Value.int .u8 0).cells (grownCap w n 0 5 - n)) 5)).ownsRow w.heap.size 5 1 (.slice (some ⟨w.heap.size, 0, none⟩) 0 (grownCap w n 0 5)) 0 [] := by
  have h1 := grownCap_ge w n 0 5
  refine ⟨rfl, .inr ⟨w.heap.size, grownCap w n 0 5, _, rfl, Nat.le_refl _, blk_new w.drew _, Nat.zero_le _, grownCap_le_maxLen w n 0 _ hn, ?_, by simp⟩⟩
  simp only [Array.size_append, size_zeroCells, Value.cells]
  simp; omega

set_option maxRecDepth 20000 in
set_option maxHeartbeats 400000 in
theorem grow_c (w : World) (n : Nat) (hn : n ≤ 140737488355328) :
    Calls Try.prog 58 #[.slice none 0 0, .int .i64 (n : Int)] w fun e w' => ∃ v, e = .returned v ∧ w'.ownsRow w.heap.size 5 1 v 0 [] ∧ Fr [] w w' := by
  obtain ⟨i0, hi, hz0, hz1, hz2⟩ := info_parts infoB
  by_cases h0 : 0 < n
  · have hr := fun ty => Lib.run_append_nil_zeros (P := Try.prog) w 35 3 ty 5 i0 (.int .u8 0) .i64 .i64 Try.underlying35 Try.underlying3 hi hz0 n h0 (by rw [hz1]; omega) (by omega) (by rw [hz2]; omega)
    have HO := hid (grow_own w n (by unfold maxLen; omega))
    clear hi hz0 hz1 hz2
    go_enter Try.func58, Try.ntmps58
    go_wp2_with (at_builtin; refine Lib.wpList_append_run _ rfl _ _ _ _ rfl _ _ rfl rfl _ _ (hr _) ?_)
    go_ret
    exact ⟨_, rfl, HO.out, ((Fr.refl _ _).drew).alloc _⟩
  · have : n = 0 := by omega
    subst this
    clear hi hz0 hz1 hz2
    go_enter Try.func58, Try.ntmps58
    go_wp2
    go_ret
    exact ⟨_, rfl, World.ownsRow_nil _ _ _ _, Fr.refl _ _⟩

/-- Lists of bytes one behind the other. -/
def catN (X : Nat → List Nat) : Nat → List Nat
  | 0 => []
  | k + 1 => catN X k ++ X k

set_option maxRecDepth 20000 in
set_option maxHeartbeats 800000 in
theorem concat_c {w : World} (q m : Nat) (V : Nat → Value) (X : Nat → List Nat) (hm : 0 < m) (hm1 : m ≤ 8) (hc : ∀ j, j < m → w.cell? ⟨q, j, none⟩ = some (V j)) (hr : ∀ j, j < m → Rd w (V j) (bv (X j))) (hl : ∀ j, j ≤ m → (catN X j).length ≤ 140737488355328) :
    Calls Try.prog 48 #[.slice (some ⟨q, 0, none⟩) m m] w fun e w' => ∃ v, e = .returned v ∧ w'.ownsRow w.heap.size 5 1 v (catN X m).length (bv (catN X m)) ∧ Fr [] w w' := by
  have HC := hid hc
  have HR := hid hr
  have HL := hid hl
  clear hc hr hl
  go_enter Try.func48, Try.ntmps48
  go_wp2
  go_loop [3, 11] (fun v3 v11 => ∃ (k s : Nat), k ≤ m ∧ v11 = .int .i64 (k : Int) ∧ v3 = .int .i64 (s : Int) ∧ s = (catN X k).length) (fun _ v11 => m - (intOf v11).toNat)
  case atStart => exact ⟨0, 0, by omega, rfl, rfl, rfl⟩
  case round =>
    obtain ⟨k, s, hk, rfl, rfl, hs⟩ := hrel
    have HS := hid hs
    have hs1 : s ≤ 140737488355328 := by rw [hs]; exact HL.out k hk
    clear hs
    by_cases hlt : k < m
    · obtain ⟨a, c, hv⟩ := (HR.out k hlt).form
      rw [bv_len] at hv
      have hcell := HC.out k hlt
      rw [hv] at hcell
      have hs2 : s + (X k).length ≤ 140737488355328 := by
        have := HL.out (k + 1) hlt
        rw [catN, List.length_append, ← HS.out] at this; exact this
      clear hv
      go_wp2
      go_round
      case rel => exact ⟨k + 1, s + (X k).length, by omega, by go_num, by go_num, by rw [catN, List.length_append, HS.out]⟩
      case measure => simp [intOf]; omega
    · have : k = m := by omega
      subst this
      go_wp2_with (go_at_call 58; refine (grow_c _ s hs1).mono ?_; rintro e w1 ⟨v1, rfl, o1, f1⟩)
      have O1 := hid o1
      have F1 := hid f1
      clear o1 f1
      go_loopw [6, 27] (fun v6 v27 wr => ∃ j : Nat, j ≤ k ∧ v27 = .int .i64 (j : Int) ∧ wr.ownsRow w.heap.size 5 1 v6 (catN X j).length (bv (catN X j)) ∧ Fr [] w wr) (fun _ v27 _ => k - (intOf v27).toNat)
      case atStart => exact ⟨0, by omega, rfl, O1.out, F1.out⟩
      case round =>
        obtain ⟨j, hj, rfl, ho, hf⟩ := hrel
        have RO := hid ho
        have RF := hid hf
        have hsz := hf.size
        clear ho hf
        by_cases hjk : j < k
        · obtain ⟨a, c, hv⟩ := (HR.out j hjk).form
          rw [bv_len] at hv
          have hr1 := (HR.out j hjk).fr RF.out
          have hcell : wr.cell? ⟨q, j, none⟩ = some (V j) := by
            have h6 := HC.out j hjk
            rw [World.cell?_of_block (w := w) (RF.out.block _ (World.block_lt_of_cell? w _ h6) (by simp))]; exact h6
          rw [hv] at hcell hr1
          have R1 := hid hr1
          have hs2 : (catN X j).length + (X j).length ≤ 140737488355328 := by
            have := HL.out (j + 1) hjk
            rw [catN, List.length_append] at this; exact this
          clear hv hr1
          go_wp2_with (at_builtin; refine wpList_append_rd rfl _ _ rfl w.heap.size hsz _ _ _ rfl RO.out _ _ rfl R1.out bv_one (by rw [bv_len]; exact hs2) ?_; intro v' w2 o1 o2 o3)
          have B : Hid (w2.ownsRow w.heap.size 5 1 v' (catN X (j + 1)).length (bv (catN X (j + 1))) ∧ Fr [] w w2) := by
            refine ⟨?_, RF.out.grew RO.out (Nat.le_refl _) o2⟩
            rw [catN, List.length_append, bv_append]
            rw [bv_len] at o1; exact o1
          clear o1 o2 o3
          go_wp2
          go_roundw
          case rel => exact ⟨j + 1, by omega, by go_num, B.out⟩
          case measure => simp [intOf]; omega
        · have : j = k := by omega
          subst this
          go_wp2
          go_ret
          exact ⟨_, rfl, RO.out, RF.out⟩

theorem concat2_c {w : World} {v0 v1 : Value} {x0 x1 : List Nat} (h0 : Rd w v0 (bv x0)) (h1 : Rd w v1 (bv x1)) (hl : x0.length + x1.length ≤ 140737488355328) :
    Calls Try.prog 48 #[.slice (some ⟨w.heap.size, 0, none⟩) 2 2] (w.alloc (.cells #[v0, v1] 35)) fun e w' => ∃ v, e = .returned v ∧ w'.ownsRow w.heap.size 5 1 v (x0 ++ x1).length (bv (x0 ++ x1)) ∧ Fr [] w w' := by
  have hf : Fr [] w (w.alloc (.cells #[v0, v1] 35)) := (Fr.refl _ _).alloc _
  refine (concat_c w.heap.size 2 (fun j => if j = 0 then v0 else v1) (fun j => if j = 0 then x0 else x1) (by omega) (by omega) (fun j hj => ?_) (fun j hj => ?_) (fun j hj => ?_)).mono ?_
  · rw [blk_cell (blk_new _ _)]
    rcases (show j = 0 ∨ j = 1 from by omega) with rfl | rfl <;> rfl
  · rcases (show j = 0 ∨ j = 1 from by omega) with rfl | rfl
    · exact h0.fr hf
    · exact h1.fr hf
  · rcases (show j = 0 ∨ j = 1 ∨ j = 2 from by omega) with rfl | rfl | rfl <;> simp [catN] <;> omega
  · rintro e w' ⟨v, rfl, o, f⟩
    exact ⟨v, rfl, by simpa [catN] using ownsRow_base o (by simp), hf.trans f⟩
theorem concat3_c {w : World} {v0 v1 v2 : Value} {x0 x1 x2 : List Nat} (h0 : Rd w v0 (bv x0)) (h1 : Rd w v1 (bv x1)) (h2 : Rd w v2 (bv x2)) (hl : x0.length + x1.length + x2.length ≤ 140737488355328) :
    Calls Try.prog 48 #[.slice (some ⟨w.heap.size, 0, none⟩) 3 3] (w.alloc (.cells #[v0, v1, v2] 35)) fun e w' => ∃ v, e = .returned v ∧ w'.ownsRow w.heap.size 5 1 v (x0 ++ x1 ++ x2).length (bv (x0 ++ x1 ++ x2)) ∧ Fr [] w w' := by
  have hf : Fr [] w (w.alloc (.cells #[v0, v1, v2] 35)) := (Fr.refl _ _).alloc _
  refine (concat_c w.heap.size 3 (fun j => if j = 0 then v0 else if j = 1 then v1 else v2) (fun j => if j = 0 then x0 else if j = 1 then x1 else x2) (by omega) (by omega) (fun j hj => ?_) (fun j hj => ?_) (fun j hj => ?_)).mono ?_
  · rw [blk_cell (blk_new _ _)]
    rcases (show j = 0 ∨ j = 1 ∨ j = 2 from by omega) with rfl | rfl | rfl <;> rfl
  · rcases (show j = 0 ∨ j = 1 ∨ j = 2 from by omega) with rfl | rfl | rfl
    · exact h0.fr hf
    · exact h1.fr hf
    · exact h2.fr hf
  · rcases (show j = 0 ∨ j = 1 ∨ j = 2 ∨ j = 3 from by omega) with rfl | rfl | rfl | rfl <;> simp [catN] <;> omega
  · rintro e w' ⟨v, rfl, o, f⟩
    exact ⟨v, rfl, by simpa [catN] using ownsRow_base o (by simp), hf.trans f⟩
end Go.Proofs.Ythmlpjogbdpgiaa
namespace Go.Proofs.Ythmlpjogbdpgiaa
open Go.ChangeShapes Go.WideShapes Go.ChangeAt Go.RowKit

/-- May these be a user key's length, a sequence number, a kind? -/
def vb (l s : Nat) (k : Int) : Bool := decide (l ≤ 128) && (decide (s ≤ 72057594037927935) && (k == 0 || k == 1))
/-- The bytes of an internal key. -/
def keyL (u : List Nat) (s k : Nat) : List Nat := u ++ fixL (256 * s + k) 8

set_option maxHeartbeats 400000 in
theorem valid_x (w : World) (a : Option Addr) (l c s : Nat) (k : Int) :
    Calls Try.prog 47 #[.agg #[.slice a l c, .int .u64 (s : Int), .int .i64 k]] w fun e w' => e = .returned (.bool (vb l s k)) ∧ w' = w.alloc (.cells #[.slice a l c, .int .u64 (s : Int), .int .i64 k] 86) := by
  by_cases h1 : l ≤ 128
  · by_cases h2 : s ≤ 72057594037927935
    · by_cases h3 : k = 0
      · subst h3
        have hv : vb l s 0 = true := by simp [vb, h1, h2]
        rw [hv]
        clear hv
        go_enter Try.func47, Try.ntmps47
        go_wp2
        go_ret
        exact ⟨rfl, rfl⟩
      · have h3' : (k == 0) = false := by simpa using h3
        have hv : vb l s k = (k == 1) := by simp [vb, h1, h2, h3]
        rw [hv]
        clear hv h3
        rcases hk : (k == 1) with _ | _
        · go_enter Try.func47, Try.ntmps47
          go_wp2
          go_ret
          exact ⟨rfl, rfl⟩
        · go_enter Try.func47, Try.ntmps47
          go_wp2
          go_ret
          exact ⟨rfl, rfl⟩
    · have hv : vb l s k = false := by simp [vb, h2]
      rw [hv]
      clear hv
      go_enter Try.func47, Try.ntmps47
      go_wp2
      go_ret
      exact ⟨rfl, rfl⟩
  · have hv : vb l s k = false := by simp [vb, h1]
    rw [hv]
    clear hv
    go_enter Try.func47, Try.ntmps47
    go_wp2
    go_ret
    exact ⟨rfl, rfl⟩

theorem valid_c (w : World) (a : Option Addr) (l c s : Nat) (k : Int) :
    Calls Try.prog 47 #[.agg #[.slice a l c, .int .u64 (s : Int), .int .i64 k]] w fun e w' => e = .returned (.bool (vb l s k)) ∧ Fr [] w w' := by
  refine (valid_x w a l c s k).mono ?_
  rintro e w' ⟨rfl, rfl⟩
  exact ⟨rfl, (Fr.refl _ _).alloc _⟩

set_option maxHeartbeats 400000 in
theorem key_bad (w : World) {v : Value} {u : List Nat} (hr : Rd w v (bv u)) (s : Nat) (k : Int) (h : vb u.length s k = false) :
    Calls Try.prog 38 #[v, .int .u64 (s : Int), .int .i64 k] w fun e w' => e = .returned (.tuple #[.slice none 0 0, .int .i64 23]) ∧ Fr [] w w' := by
  obtain ⟨a, c, rfl⟩ := hr.form
  rw [bv_len]
  have HV := hid h
  clear hr h
  go_enter Try.func38, Try.ntmps38
  go_wp2_with (go_at_call 47; refine (valid_c _ a u.length c s k).mono ?_; rintro e w1 ⟨rfl, f1⟩; rw [HV.out])
  go_ret2
  exact ⟨rfl, ((Fr.refl _ _).alloc _).trans f1⟩

theorem key_val {s k : Nat} (hs : s ≤ 72057594037927935) (hk : k ≤ 1) : bits .or .u64 ((s : Int) * 256) (k : Int) = ((256 * s + k : Nat) : Int) := by
  rw [show (s : Int) * 256 = ((s * 256 : Nat) : Int) from by omega, u64_or_nat _ _ (by omega) (by omega), nat_join 8 (s * 256) k (by omega) (by omega)]
  omega

set_option maxRecDepth 20000 in
set_option maxHeartbeats 400000 in
theorem key_ok (w : World) {v : Value} {u : List Nat} (hr : Rd w v (bv u)) (hu : u.length ≤ 128) (s k : Nat) (hs : s ≤ 72057594037927935) (hk : k ≤ 1) :
    Calls Try.prog 38 #[v, .int .u64 (s : Int), .int .i64 (k : Int)] w fun e w' => ∃ v', e = .returned (.tuple #[v', .int .i64 0]) ∧ w'.ownsRow w.heap.size 5 1 v' (keyL u s k).length (bv (keyL u s k)) ∧ Fr [] w w' := by
  have hv : vb u.length s (k : Int) = true := by
    rcases (show k = 0 ∨ k = 1 from by omega) with rfl | rfl <;> simp [vb, hu, hs]
  obtain ⟨a, c, hvf⟩ := hr.form
  rw [bv_len] at hvf
  subst hvf
  have HV := hid hv
  have HR := hid hr
  obtain ⟨t, ht⟩ : ∃ t, t = 256 * s + k := ⟨_, rfl⟩
  have hkv := key_val hs hk
  rw [← ht] at hkv
  have ht1 : t < 18446744073709551616 := by omega
  have HT := hid ht
  clear hv hr ht
  go_enter Try.func38, Try.ntmps38
  go_wp2_with (go_at_call 47; refine (valid_c _ a u.length c s k).mono ?_; rintro e w1 ⟨rfl, f1⟩; rw [HV.out])
  have F1 := hid (((Fr.refl [] w).alloc _).trans f1)
  clear f1
  refine (fixed8_c w1 t ht1).mono ?_
  rintro e w2 ⟨v2, rfl, o2, f2⟩
  obtain ⟨a2, c2, rfl, _⟩ := ownsRow_slice o2
  have F2 := hid (F1.out.trans f2)
  have R1 := hid (HR.out.fr F2.out)
  have R2 : Hid (Rd w2 (.slice a2 8 c2) (bv (fixL t 8))) := Rd.ownB (base := w1.heap.size) (by rw [fixL_len]; exact o2)
  clear o2 f2
  go_wp2_with fail
  refine (concat2_c R1.out R2.out (by rw [fixL_len]; omega)).mono ?_
  rintro e w3 ⟨v3, rfl, o3, f3⟩
  have O3 : Hid (w3.ownsRow w.heap.size 5 1 v3 (keyL u s k).length (bv (keyL u s k))) := by
    unfold keyL; rw [← HT.out]; exact ownsRow_base o3 F2.out.size
  have F3 := hid (F2.out.trans f3)
  clear o3 f3
  go_wp2
  go_ret2
  exact ⟨v3, rfl, O3.out, F3.out⟩
end Go.Proofs.Ythmlpjogbdpgiaa
namespace Go.Proofs.Ythmlpjogbdpgiaa
open Go.ChangeShapes Go.WideShapes Go.ChangeAt Go.RowKit

/-- append(nil, x...). -/
theorem wpList_append_nil {w : World} {ops : Array Oper} {rest : List Oper} {o : Oper} {a : Act} {Q : Exit → Act → World → Prop} (hgd : o.guard = none) (s x : Operand)
    (ho : o.op = .call { callee := .builtin .append, args := #[s, x], argTypes := #[35, 35] }) (hs : a.eval s = .slice none 0 0) {w0 : World} (hf : Fr [] w0 w) (sx : Value) {ns : List Nat} (hr : Rd w sx (bv ns)) (hx : a.eval x = sx)
    (hl : ns.length ≤ 140737488355328)
    (h : ∀ v' w', w'.ownsRow w.heap.size 5 1 v' ns.length (bv ns) → Fr [] w w' → Fr [] w0 w' → wpList Try.prog ops Q rest (a.put o.dst v') w') :
    wpList Try.prog ops Q (o :: rest) a w := by
  refine wpList_append_rd hgd s x ho w.heap.size (Nat.le_refl _) (.slice none 0 0) 0 [] hs (World.ownsRow_nil _ _ _ _) sx _ hx hr bv_one (by rw [bv_len]; omega) fun v' w' o1 g1 _ => ?_
  have hf' : Fr [] w w' := (Fr.refl _ _).grown g1 (by simp [Value.ownBlock])
  refine h v' w' ?_ hf' (hf.trans hf')
  rw [bv_len, Nat.zero_add, List.nil_append] at o1
  exact o1
/-- append(own, x...). -/
theorem wpList_append_bv {w : World} {ops : Array Oper} {rest : List Oper} {o : Oper} {a : Act} {Q : Exit → Act → World → Prop} (hgd : o.guard = none) (s x : Operand)
    (ho : o.op = .call { callee := .builtin .append, args := #[s, x], argTypes := #[35, 35] }) {base : Nat} {v : Value} {xs : List Nat} (hown : w.ownsRow base 5 1 v xs.length (bv xs)) (hs : a.eval s = v) {w0 : World} (hf : Fr [] w0 w) (hb : w0.heap.size ≤ base) (hbw : base ≤ w.heap.size) (sx : Value) {ns : List Nat} (hr : Rd w sx (bv ns)) (hx : a.eval x = sx)
    (hl : xs.length + ns.length ≤ 140737488355328)
    (h : ∀ v' w', w'.ownsRow base 5 1 v' (xs.length + ns.length) (bv (xs ++ ns)) → Fr [] w0 w' → wpList Try.prog ops Q rest (a.put o.dst v') w') :
    wpList Try.prog ops Q (o :: rest) a w := by
  refine wpList_append_rd hgd s x ho base hbw v xs.length _ hs hown sx _ hx hr bv_one (by rw [bv_len]; omega) fun v' w' o1 g1 _ => ?_
  refine h v' w' ?_ (hf.grew hown hb g1)
  rw [bv_len] at o1
  rw [bv_append]
  exact o1
theorem Rd.ownN {w : World} {base n : Nat} {v : Value} {ns : List Nat} (h : w.ownsRow base 5 1 v n (bv ns)) (hn : n = ns.length) : Rd w v (bv ns) := by
  subst hn; exact Rd.ownB h
end Go.Proofs.Ythmlpjogbdpgiaa
