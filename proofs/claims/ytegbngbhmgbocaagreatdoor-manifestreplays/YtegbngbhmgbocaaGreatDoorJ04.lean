/-
  What bytes.Clone, slices.Grow of nothing and slices.Concat answer for bytes.
-/
import Derived.Test.YtegbngbhmgbocaaGreatDoorJ03
import Derived.Lib.AppendZeros
import Derived.Test.YtegbngbhmgbocaaGreatDoorJ02
import Derived.Laws.ResultCell
import Derived.Deep.Light
import Derived.Deep.RegionWith
namespace Go.Proofs.YtegbngbhmgbocaaGreatDoor
open Go.ChangeShapes Go.WideShapes Go.ChangeAt Go.RowKit


theorem grow_own (w : World) (n : Nat) (hn : n ≤ maxLen) : (w.drew.alloc (.cells (Builtin.zeroCells (Value.int .u8 0).cells n ++ Builtin.zeroCells (Value.int .u8 0).cells (grownCap w n 0 5 - n)) 5)).ownsRow w.heap.size 5 1 (.slice (some ⟨w.heap.size, 0, none⟩) 0 (grownCap w n 0 5)) 0 [] := by
  have h1 := grownCap_ge w n 0 5
  refine ⟨rfl, .inr ⟨w.heap.size, grownCap w n 0 5, _, rfl, Nat.le_refl _, blk_new w.drew _, Nat.zero_le _, grownCap_le_maxLen w n 0 _ hn, ?_, by simp⟩⟩
  simp only [Array.size_append, size_zeroCells, Value.cells]
  simp; omega

/-- Lists of bytes one behind the other. -/
def catN (X : Nat → List Nat) : Nat → List Nat
  | 0 => []
  | k + 1 => catN X k ++ X k

end Go.Proofs.YtegbngbhmgbocaaGreatDoor
namespace Go.Proofs.YtegbngbhmgbocaaGreatDoor
open Go.ChangeShapes Go.WideShapes Go.ChangeAt Go.RowKit

/-- May these be a user key's length, a sequence number, a kind? -/
def vb (l s : Nat) (k : Int) : Bool := decide (l ≤ 128) && (decide (s ≤ 72057594037927935) && (k == 0 || k == 1))
/-- The bytes of an internal key. -/
def keyL (u : List Nat) (s k : Nat) : List Nat := u ++ fixL (256 * s + k) 8

set_option maxHeartbeats 400000 in
theorem valid_x (w : World) (a : Option Addr) (l c s : Nat) (k : Int) :
    Calls Tryz.prog 113 #[.agg #[.slice a l c, .int .u64 (s : Int), .int .i64 k]] w fun e w' => e = .returned (.bool (vb l s k)) ∧ w' = w.alloc (.cells #[.slice a l c, .int .u64 (s : Int), .int .i64 k] 148) := by
  by_cases h1 : l ≤ 128
  · by_cases h2 : s ≤ 72057594037927935
    · by_cases h3 : k = 0
      · subst h3
        have hv : vb l s 0 = true := by simp [vb, h1, h2]
        rw [hv]
        clear hv
        go_enter Tryz.func113, Tryz.ntmps113
        go_wp2
        go_ret
        exact ⟨rfl, rfl⟩
      · have h3' : (k == 0) = false := by simpa using h3
        have hv : vb l s k = (k == 1) := by simp [vb, h1, h2, h3]
        rw [hv]
        clear hv h3
        rcases hk : (k == 1) with _ | _
        · go_enter Tryz.func113, Tryz.ntmps113
          go_wp2
          go_ret
          exact ⟨rfl, rfl⟩
        · go_enter Tryz.func113, Tryz.ntmps113
          go_wp2
          go_ret
          exact ⟨rfl, rfl⟩
    · have hv : vb l s k = false := by simp [vb, h2]
      rw [hv]
      clear hv
      go_enter Tryz.func113, Tryz.ntmps113
      go_wp2
      go_ret
      exact ⟨rfl, rfl⟩
  · have hv : vb l s k = false := by simp [vb, h1]
    rw [hv]
    clear hv
    go_enter Tryz.func113, Tryz.ntmps113
    go_wp2
    go_ret
    exact ⟨rfl, rfl⟩

theorem valid_c (w : World) (a : Option Addr) (l c s : Nat) (k : Int) :
    Calls Tryz.prog 113 #[.agg #[.slice a l c, .int .u64 (s : Int), .int .i64 k]] w fun e w' => e = .returned (.bool (vb l s k)) ∧ Fr [] w w' := by
  refine (valid_x w a l c s k).mono ?_
  rintro e w' ⟨rfl, rfl⟩
  exact ⟨rfl, (Fr.refl _ _).alloc _⟩

theorem key_val {s k : Nat} (hs : s ≤ 72057594037927935) (hk : k ≤ 1) : bits .or .u64 ((s : Int) * 256) (k : Int) = ((256 * s + k : Nat) : Int) := by
  rw [show (s : Int) * 256 = ((s * 256 : Nat) : Int) from by omega, u64_or_nat _ _ (by omega) (by omega), nat_join 8 (s * 256) k (by omega) (by omega)]
  omega

end Go.Proofs.YtegbngbhmgbocaaGreatDoor
namespace Go.Proofs.YtegbngbhmgbocaaGreatDoor
open Go.ChangeShapes Go.WideShapes Go.ChangeAt Go.RowKit

/-- Are these bytes an internal key? -/
def isK (b : List Nat) : Bool := decide (8 ≤ b.length) && (decide (b.length ≤ 136) && decide (unf (b.drop (b.length - 8)) % 256 ≤ 1))
def tailN (b : List Nat) : Nat := unf (b.drop (b.length - 8))
def userL (b : List Nat) : List Nat := b.take (b.length - 8)

theorem Rd.back {w : World} {b off c : Nat} {ns : List Nat} (h : Rd w (.slice (some ⟨b, off, none⟩) ns.length c) (bv ns)) {q : Nat} (hq : q ≤ ns.length) : Rd w (.slice (some ⟨b, off + q, none⟩) (ns.length - q) (c - q)) (bv (ns.drop q)) := by
  rcases h with ⟨h, _⟩ | ⟨a, c', h, h4, h5⟩
  · cases h
  · simp only [Value.slice.injEq, Option.some.injEq] at h
    obtain ⟨rfl, _, rfl⟩ := h
    refine .inr ⟨_, _, by rw [bv_len, List.length_drop], by rw [bv_len] at h4 ⊢; rw [List.length_drop]; omega, fun j u hj => ?_⟩
    rw [bv_drop, List.getElem?_drop] at hj
    have := h5 _ _ hj
    rw [Addr.add_lit] at this ⊢
    rw [Nat.add_assoc]; exact this
theorem tailN_lt {b : List Nat} (hb : By b) (h : 8 ≤ b.length) : tailN b < 18446744073709551616 := by
  have := unf_lt _ (hb.drop (b.length - 8))
  rw [List.length_drop, show b.length - (b.length - 8) = 8 from by omega] at this
  exact this

set_option maxRecDepth 20000 in
set_option maxHeartbeats 400000 in
theorem split_short (w : World) {v : Value} {b : List Nat} (hr : Rd w v (bv b)) (h : b.length < 8) :
    Calls Tryz.prog 98 #[v] w fun e w' => e = .returned (.tuple #[.agg #[.slice none 0 0, .int .u64 0, .int .i64 0], .int .i64 23]) ∧ Fr [] w w' := by
  obtain ⟨a, c, hv⟩ := hr.form
  rw [bv_len] at hv
  subst hv
  clear hr
  go_enter Tryz.func98, Tryz.ntmps98
  go_wp2
  refine bodyPost_ret (v := .tuple #[.agg #[.slice none 0 0, .int .u64 0, .int .i64 0], .int .i64 23]) (by rw [results_cell_tmp rfl]; go_simp) rfl ⟨rfl, (Fr.refl _ _).alloc _⟩

theorem and255 {t : Nat} (h : t < 18446744073709551616) : bits .and .u64 (t : Int) 255 = ((t % 256 : Nat) : Int) := by
  have := u64_and_nat t 255 h (by omega)
  rw [nat_mask8] at this
  exact this

/-- What split hands over. -/
def spv (b : List Nat) (u : Value) : Value := if isK b then .tuple #[.agg #[u, .int .u64 ((tailN b / 256 : Nat) : Int), .int .i64 ((tailN b % 256 : Nat) : Int)], .int .i64 0] else .tuple #[.agg #[.slice none 0 0, .int .u64 0, .int .i64 0], .int .i64 23]

set_option maxRecDepth 20000 in
set_option maxHeartbeats 800000 in
theorem split_long (w : World) {q off c : Nat} {b : List Nat} (hr : Rd w (.slice (some ⟨q, off, none⟩) b.length c) (bv b)) (hb : By b) (h8 : 8 ≤ b.length) (hl : b.length ≤ 140737488355328) (h1 : b.length ≤ c) :
    Calls Tryz.prog 98 #[.slice (some ⟨q, off, none⟩) b.length c] w fun e w' => e = .returned (spv b (.slice (some ⟨q, off, none⟩) (b.length - 8) c)) ∧ Fr [] w w' := by
  have hbk := hr.back (q := b.length - 8) (by omega)
  have HR := hid hbk
  have HB := hid hb
  obtain ⟨t, ht⟩ : ∃ t, t = tailN b := ⟨_, rfl⟩
  have ht1 : t < 18446744073709551616 := by rw [ht]; exact tailN_lt hb h8
  have hand := and255 ht1
  obtain ⟨g, hg⟩ : ∃ g, g = t % 256 := ⟨_, rfl⟩
  obtain ⟨s, hs⟩ : ∃ s, s = t / 256 := ⟨_, rfl⟩
  have hand' : bits .and .u64 (t : Int) 255 = (g : Int) := by rw [hg]; exact hand
  have hdiv : (t : Int) / 256 = (s : Int) := by omega
  have hg1 : g < 256 := by omega
  have hs1 : s ≤ 72057594037927935 := by omega
  have HT := hid ht
  have HG := hid hg
  have HS := hid hs
  have en : ((b.length : Int) - 8).toNat = b.length - 8 := by omega
  have HV : Hid (vb (b.length - 8) s (g : Int) = isK b) := by
    show vb (b.length - 8) s (g : Int) = isK b
    unfold vb isK
    rw [show unf (b.drop (b.length - 8)) = t from ht.symm, ← hg, decide_eq_true hs1, decide_eq_true h8, Bool.true_and, Bool.true_and]
    congr 1
    · rw [decide_eq_decide]; omega
    · rcases (show g = 0 ∨ g = 1 ∨ 1 < g from by omega) with e | e | e
      · rw [e]; rfl
      · rw [e]; rfl
      · rw [decide_eq_false (by omega)]
        simp; omega
  clear hr hbk hb ht hg hs hand
  go_enter Tryz.func98, Tryz.ntmps98
  go_wp2_with fail
  refine (unfixed_c (HR.out.fr ((Fr.refl _ _).alloc _)) (HB.out.drop _) (by simp; omega)).mono ?_
  rintro e w1 ⟨rfl, rfl⟩
  rw [show unf (b.drop (b.length - 8)) = t from HT.out.symm]
  go_wp2_with fail
  refine (valid_x _ _ _ _ s (g : Int)).mono ?_
  rintro e w2 ⟨rfl, rfl⟩
  rw [HV.out]
  rcases hk : isK b with _ | _
  · have HK := hid hk
    clear hk
    go_wp2
    refine bodyPost_ret (v := .tuple #[.agg #[.slice none 0 0, .int .u64 0, .int .i64 0], .int .i64 23]) (by rw [results_cell_tmp rfl]; go_simp) rfl ⟨by unfold spv; rw [HK.out]; rfl, (((Fr.refl _ _).alloc _).alloc _).alloc _⟩
  · have HK := hid hk
    clear hk
    go_wp2
    refine bodyPost_ret (v := .tuple #[.agg #[.slice (some ⟨q, off, none⟩) (b.length - 8) c, .int .u64 (s : Int), .int .i64 (g : Int)], .int .i64 0]) (by rw [results_cell_tmp rfl]; go_simp) rfl ⟨by unfold spv; rw [HK.out, ← HT.out, ← HS.out, ← HG.out]; rfl, (((Fr.refl _ _).alloc _).alloc _).alloc _⟩

/-- A slice of at least 8 bytes lies in memory. -/
theorem Rd.place {w : World} {v : Value} {b : List Nat} (hr : Rd w v (bv b)) (h : 0 < b.length) : ∃ q off c, v = .slice (some ⟨q, off, none⟩) b.length c ∧ b.length ≤ c := by
  rcases hr.split with ⟨rfl, _⟩ | ⟨q, off, c, rfl, h1, _, _⟩
  · simp at h
  · exact ⟨q, off, c, rfl, h1⟩
theorem isK_len {b : List Nat} (h : isK b = true) : 8 ≤ b.length ∧ b.length ≤ 136 ∧ tailN b % 256 ≤ 1 := by
  unfold isK at h
  simp only [Bool.and_eq_true, decide_eq_true_eq] at h
  exact h
theorem split_no (w : World) {v : Value} {b : List Nat} (hr : Rd w v (bv b)) (hb : By b) (hl : b.length ≤ 140737488355328) (h : isK b = false) :
    Calls Tryz.prog 98 #[v] w fun e w' => e = .returned (.tuple #[.agg #[.slice none 0 0, .int .u64 0, .int .i64 0], .int .i64 23]) ∧ Fr [] w w' := by
  rcases Nat.lt_or_ge b.length 8 with h8 | h8
  · exact split_short w hr h8
  · obtain ⟨q, off, c, rfl, h1⟩ := hr.place (by omega)
    refine (split_long w hr hb h8 hl h1).mono ?_
    rintro e w' ⟨rfl, f⟩
    exact ⟨by unfold spv; rw [h]; rfl, f⟩
theorem split_yes (w : World) {q off c : Nat} {b : List Nat} (hr : Rd w (.slice (some ⟨q, off, none⟩) b.length c) (bv b)) (hb : By b) (h1 : b.length ≤ c) (h : isK b = true) :
    Calls Tryz.prog 98 #[.slice (some ⟨q, off, none⟩) b.length c] w fun e w' => e = .returned (.tuple #[.agg #[.slice (some ⟨q, off, none⟩) (b.length - 8) c, .int .u64 ((tailN b / 256 : Nat) : Int), .int .i64 ((tailN b % 256 : Nat) : Int)], .int .i64 0]) ∧ Fr [] w w' := by
  have hk := isK_len h
  refine (split_long w hr hb hk.1 (by omega) h1).mono ?_
  rintro e w' ⟨rfl, f⟩
  exact ⟨by unfold spv; rw [h]; rfl, f⟩
end Go.Proofs.YtegbngbhmgbocaaGreatDoor
namespace Go.Proofs.YtegbngbhmgbocaaGreatDoor
open Go.ChangeShapes Go.WideShapes Go.ChangeAt Go.RowKit

theorem Rd.mid {w : World} {b off c : Nat} {ns : List Nat} (h : Rd w (.slice (some ⟨b, off, none⟩) ns.length c) (bv ns)) {i n : Nat} (hq : i + n ≤ ns.length) : Rd w (.slice (some ⟨b, off + i, none⟩) n (c - i)) (bv ((ns.drop i).take n)) := by
  rcases h with ⟨h, _⟩ | ⟨a, c', h, h4, h5⟩
  · cases h
  · simp only [Value.slice.injEq, Option.some.injEq] at h
    obtain ⟨rfl, _, rfl⟩ := h
    have hl : ((ns.drop i).take n).length = n := by rw [List.length_take, List.length_drop]; omega
    refine .inr ⟨_, _, by rw [bv_len, hl], by rw [bv_len] at h4 ⊢; rw [hl]; omega, fun j u hj => ?_⟩
    rw [bv_take, List.getElem?_take] at hj
    split at hj
    · rw [bv_drop, List.getElem?_drop] at hj
      have := h5 _ _ hj
      rw [Addr.add_lit] at this ⊢
      rw [Nat.add_assoc]; exact this
    · cases hj
theorem Rd.none_ {w : World} {a : Addr} {n c : Nat} {ns : List Nat} (h : ns.length = 0) (hn : n = 0) : Rd w (.slice (some a) n c) (bv ns) := by
  have : ns = [] := List.eq_nil_of_length_eq_zero h
  subst this
  subst hn
  exact .inr ⟨a, c, rfl, Nat.zero_le _, fun j u hj => by simp [bv] at hj⟩
end Go.Proofs.YtegbngbhmgbocaaGreatDoor
namespace Go.Proofs.YtegbngbhmgbocaaGreatDoor
open Go.ChangeShapes Go.WideShapes Go.ChangeAt Go.RowKit

theorem made_zero (c : Nat) : (madeCells #[.int .u8 0] c).toList = bv (List.replicate c 0) := by
  simp [madeCells, bv]
  rw [List.eq_replicate_iff]
  simp [Nat.mod_one]
theorem make_run (w : World) {n c : Nat} (h : n ≤ c) (hc : c ≤ 100000000) : (Instr.makeSlice 22 (.int .i64 (n : Int)) (.int .i64 (c : Int))).run Tryz.prog w = .ok (.slice (some ⟨w.heap.size, 0, none⟩) n c) (w.alloc (.cells (madeCells #[.int .u8 0] c) 5)) := by
  obtain ⟨i0, hi, hz0, hz1, hz2⟩ := info_parts infoB
  have h := run_make (P := Tryz.prog) w 22 5 i0 (.int .u8 0) Tryz.underlying22 hi hz0 .i64 .i64 (n : Int) (c : Int) (by omega) (by omega) (by rw [hz2]; omega) (by omega)
  simpa [hz1, Value.cells] using h
theorem make_own (w : World) {n c : Nat} (h : n ≤ c) (hc : c ≤ 100000000) : (w.alloc (.cells (madeCells #[.int .u8 0] c) 5)).ownsRow w.heap.size 5 1 (.slice (some ⟨w.heap.size, 0, none⟩) n c) n (bv (List.replicate n 0)) := by
  refine ⟨by rw [bv_len, List.length_replicate, Nat.mul_one], .inr ⟨w.heap.size, c, _, rfl, Nat.le_refl _, blk_new _ _, h, by unfold maxLen; omega, by simp [madeCells], ?_⟩⟩
  rw [made_zero, ← bv_take, List.take_replicate, Nat.mul_one, Nat.min_eq_left h]

def slLen : Value → Nat
  | .slice _ n _ => n
  | _ => 0

/-- The step of a record's fragments that leaves more. -/
theorem frs_more {f : Nat} {bg : Bool} {m : Nat} {r : List Nat} (h : m < r.length) : frs (f + 1) bg (m + 7) r = fragL (kd bg false) (r.take m) ++ frs f true 64 (r.drop m) := by
  rw [frs, Nat.add_sub_cancel, if_neg (by omega)]
theorem frs_last {f : Nat} {bg : Bool} {m : Nat} {r : List Nat} (h : r.length ≤ m) : frs (f + 1) bg (m + 7) r = fragL (kd bg true) r := by
  rw [frs, Nat.add_sub_cancel, if_pos h]

end Go.Proofs.YtegbngbhmgbocaaGreatDoor
namespace Go.Proofs.YtegbngbhmgbocaaGreatDoor
open Go.ChangeShapes Go.WideShapes Go.ChangeAt Go.RowKit

theorem Rd.shape {w : World} {a : Option Addr} {n c : Nat} {ns : List Nat} (h : Rd w (.slice a n c) (bv ns)) : n = ns.length := by
  obtain ⟨_, _, e⟩ := h.form
  simp only [Value.slice.injEq, bv_len] at e
  exact e.2.1

set_option maxRecDepth 20000 in
set_option maxHeartbeats 800000 in
theorem trimR_c {w : World} {v : Value} {ns : List Nat} (hr : Rd w v (bv ns)) (hb : By ns) (hl : ns.length ≤ 1000) :
    Calls Tryz.prog 80 #[v, .int .u8 0] w fun e w' => ∃ a k c, e = .returned (.slice a k c) ∧ w' = w ∧ Rd w (.slice a k c) (bv (ns.take k)) ∧ k ≤ ns.length ∧ ∀ x ∈ ns.drop k, x = 0 := by
  obtain ⟨a, c, hv⟩ := hr.form
  rw [bv_len] at hv
  subst hv
  have HR := hid hr
  have HB := hid hb
  clear hr hb
  go_enter Tryz.func80, Tryz.ntmps80
  go_wp2
  go_loop [0] (fun v0 => ∃ a k c, v0 = .slice a k c ∧ Rd w (.slice a k c) (bv (ns.take k)) ∧ k ≤ ns.length ∧ ∀ x ∈ ns.drop k, x = 0) (fun v0 => match v0 with | .slice _ k _ => k | _ => 0)
  case atStart => exact ⟨a, ns.length, c, rfl, by rw [List.take_length]; exact HR.out, Nat.le_refl _, fun x hx => by simp at hx⟩
  case round =>
    obtain ⟨a, k, c, rfl, h1, h2, h3⟩ := hrel
    have R1 := hid h1
    have R3 := hid h3
    clear h1 h3
    cases k with
    | zero =>
      go_wp2
      go_ret
      exact ⟨_, _, _, rfl, rfl, R1.out, h2, R3.out⟩
    | succ k =>
      have hlen : (ns.take (k + 1)).length = k + 1 := by rw [List.length_take]; omega
      obtain ⟨x, hx⟩ : ∃ x, ns[k]? = some x := ⟨_, List.getElem?_eq_getElem (by omega)⟩
      rcases R1.out.split with ⟨h, _⟩ | ⟨b, off, c', hv, hc, _, hcell⟩
      · rw [h] at hlen; cases hlen
      rw [hlen] at hv hc
      simp only [Value.slice.injEq] at hv
      obtain ⟨rfl, _, rfl⟩ := hv
      have hcx := hcell k x (by rw [List.getElem?_take, if_pos (by omega)]; exact hx)
      have hx256 := HB.out.at hx
      have HX := hid hx
      clear hcell hx
      have e1 : ((k + 1 : Nat) : Int) - 1 = (k : Int) := by omega
      by_cases hz : x = 0
      · subst hz
        have R1' : Hid (Rd w (.slice (some ⟨b, off, none⟩) k c) (bv (ns.take k))) := by
          have h := R1.out
          rw [show Value.slice (some ⟨b, off, none⟩) (k + 1) c = .slice (some ⟨b, off, none⟩) (ns.take (k + 1)).length c from by rw [hlen]] at h
          have := h.front (q := k) (by omega)
          rw [List.take_take, Nat.min_eq_left (by omega)] at this
          exact this
        have hkc : k ≤ c := by omega
        go_wp2
        go_round
        case rel =>
          refine ⟨_, k, c, rfl, R1'.out, by omega, fun y hy => ?_⟩
          rw [List.drop_eq_getElem_cons (by omega)] at hy
          rcases List.mem_cons.1 hy with rfl | hy
          · have := HX.out
            rw [List.getElem?_eq_getElem (by omega)] at this
            simpa using this
          · exact R3.out y hy
        case measure => simp
      · have hz' : ((x : Int) == 0) = false := beq_eq_false_iff_ne.2 (by omega)
        go_wp2
        go_ret
        exact ⟨_, _, _, rfl, rfl, R1.out, h2, R3.out⟩
set_option maxRecDepth 20000 in
set_option maxHeartbeats 800000 in
theorem trimL_c {w : World} {v : Value} {ns : List Nat} (hr : Rd w v (bv ns)) (hb : By ns) (hl : ns.length ≤ 1000) :
    Calls Tryz.prog 79 #[v, .int .u8 0] w fun e w' => ∃ a k c, e = .returned (.slice a k c) ∧ w' = w ∧ (k = 0 ↔ ∀ x ∈ ns, x = 0) := by
  obtain ⟨a, c, hv⟩ := hr.form
  rw [bv_len] at hv
  subst hv
  have HR := hid hr
  have HB := hid hb
  clear hr hb
  go_enter Tryz.func79, Tryz.ntmps79
  go_wp2
  go_loop [0] (fun v0 => ∃ (a : Option Addr) (ms ps : List Nat) (c : Nat), v0 = .slice a ms.length c ∧ Rd w (.slice a ms.length c) (bv ms) ∧ ns = ps ++ ms ∧ ∀ x ∈ ps, x = 0) (fun v0 => match v0 with | .slice _ k _ => k | _ => 0)
  case atStart => exact ⟨a, ns, [], c, rfl, HR.out, rfl, fun x hx => by simp at hx⟩
  case round =>
    obtain ⟨a, ms, ps, c, rfl, h1, h2, h3⟩ := hrel
    have R1 := hid h1
    have R2 := hid h2
    have R3 := hid h3
    have hml : ms.length ≤ ns.length := by rw [h2, List.length_append]; omega
    clear h1 h3 h2
    cases ms with
    | nil =>
      simp only [List.length_nil] at *
      go_wp2
      go_ret
      refine ⟨_, _, _, rfl, rfl, ⟨fun _ => ?_, fun _ => rfl⟩⟩
      rw [R2.out, List.append_nil]; exact R3.out
    | cons x ms =>
      have hx256 : x < 256 := HB.out x (by rw [R2.out]; simp)
      rcases R1.out.split with ⟨h, _⟩ | ⟨b, off, c', hv, hc, _, hcell⟩
      · cases h
      simp only [Value.slice.injEq] at hv
      obtain ⟨rfl, _, rfl⟩ := hv
      have hcx := hcell 0 x rfl
      rw [Nat.add_zero] at hcx
      clear hcell
      have B1 := hid (R1.out.back (q := 1) (by simp))
      simp only [List.length_cons, Nat.add_sub_cancel, List.drop_succ_cons, List.drop_zero] at *
      by_cases hz : x = 0
      · subst hz
        have R0 : Hid (c = 1 → Rd w (.slice (some ⟨b, off, none⟩) ms.length (c - 1)) (bv ms)) := fun h => Rd.none_ (by omega) (by omega)
        have hrl : Hid (∀ y ∈ ps ++ [0], y = 0) := fun y hy => by
          rcases List.mem_append.1 hy with hy | hy
          · exact R3.out y hy
          · simpa using hy
        have R2' : Hid (ns = ps ++ [0] ++ ms) := by unfold Hid; rw [List.append_assoc]; exact R2.out
        have RI : Hid (Rd w (.slice (if c = 1 then some ⟨b, off, none⟩ else some ⟨b, off + 1, none⟩) ms.length (c - 1)) (bv ms)) := by
          unfold Hid
          by_cases h : c = 1
          · rw [if_pos h]; exact R0.out h
          · rw [if_neg h]; exact B1.out
        go_wp2
        go_round
        case rel => exact ⟨_, ms, ps ++ [0], _, rfl, RI.out, R2'.out, hrl.out⟩
        case measure => simp
      · have hz' : ((x : Int) == 0) = false := beq_eq_false_iff_ne.2 (by omega)
        go_wp2
        go_ret
        refine ⟨_, _, _, rfl, rfl, ⟨fun h => by omega, fun h => ?_⟩⟩
        exact absurd (h x (by rw [R2.out]; simp)) hz
set_option maxRecDepth 20000 in
set_option maxHeartbeats 800000 in
theorem trim_c {w : World} {v : Value} {ns : List Nat} (hr : Rd w v (bv ns)) (hb : By ns) (hl : ns.length ≤ 1000) :
    Calls Tryz.prog 53 #[v, .string ⟨#[0]⟩] w fun e w' => ∃ a k c, e = .returned (.slice a k c) ∧ Fr [] w w' ∧ (k = 0 ↔ ∀ x ∈ ns, x = 0) := by
  obtain ⟨a, c, hv⟩ := hr.form
  rw [bv_len] at hv
  subst hv
  by_cases h0 : ns.length = 0
  · have : ns = [] := List.eq_nil_of_length_eq_zero h0
    subst this
    simp only [List.length_nil]
    clear hr
    go_enter Tryz.func53, Tryz.ntmps53
    go_wp2
    go_ret
    exact ⟨_, _, _, rfl, Fr.refl _ _, by simp⟩
  · have h1 : ((ns.length : Int) == 0) = false := beq_eq_false_iff_ne.2 (by omega)
    have TR := hid (trimR_c (w := w.drew) (hr.fr (Fr.refl _ _).drew) hb hl)
    have HB := hid hb
    clear hr hb
    go_enter Tryz.func53, Tryz.ntmps53
    go_wp2_with fail
    go_region_with (first
      | (go_at_call 80
         refine TR.out.mono ?_
         rintro e w1 ⟨a1, k1, c1, rfl, rfl, r1, hk1, hz1⟩
         have HR1 := hid r1
         have HZ1 := hid hz1
         clear r1 hz1)
      | (go_at_call 79
         refine (trimL_c HR1.out (HB.out.take k1) (by rw [List.length_take]; omega)).mono ?_
         rintro e w2 ⟨a2, k2, c2, rfl, rfl, hz2⟩
         have HZ2 := hid hz2
         clear hz2))
    all_goals go_wp2
    all_goals go_ret
    all_goals
      refine ⟨_, _, _, rfl, (Fr.refl _ _).drew, ?_⟩
      rw [HZ2.out]
      constructor
      · intro h x hx
        rw [← List.take_append_drop k1 ns] at hx
        rcases List.mem_append.1 hx with hx | hx
        · exact h x hx
        · exact HZ1.out x hx
      · intro h x hx
        exact h x (List.mem_of_mem_take hx)
end Go.Proofs.YtegbngbhmgbocaaGreatDoor
namespace Go.Proofs.YtegbngbhmgbocaaGreatDoor
open Go.ChangeShapes Go.WideShapes Go.ChangeAt Go.RowKit

theorem cell_frw {w w' : World} {p : Addr} {v : Value} (h : w.cell? p = some v) (hf : Fr [] w w') : w'.cell? p = some v := by
  rw [World.cell?_of_block (w := w) (hf.block _ (World.block_lt_of_cell? w _ h) (by simp))]; exact h
theorem store3 {W : World} {g : Nat} {x y z a b c : Value} {T : TypeId} (h : W.heap[g]? = some (.cells #[x, y, z] T (0, 0))) : (((W.setCell ⟨g, 0, none⟩ a).setCell ⟨g, 1, none⟩ b).setCell ⟨g, 2, none⟩ c).heap[g]? = some (.cells #[a, b, c] T (0, 0)) := by
  rw [blk_set (blk_set (blk_set h 0 a) 1 b) 2 c]; rfl
theorem fr3 {w W : World} {g : Nat} (h : Fr [] w W) (hg : w.heap.size ≤ g) (a b c : Value) : Fr [] w (((W.setCell ⟨g, 0, none⟩ a).setCell ⟨g, 1, none⟩ b).setCell ⟨g, 2, none⟩ c) :=
  ((h.set _ _ (.inr hg)).set _ _ (.inr hg)).set _ _ (.inr hg)
theorem sizeFrag : (Tryz.prog.info? 68).map (·.size) = some 3 := by kernel_rfl
theorem load_frag {w : World} {g : Nat} {a b c : Value} {t : TypeId} (hg : w.heap[g]? = some (.cells #[a, b, c] t (0, 0))) : (loadVar 68 ⟨g, 0, none⟩).run Tryz.prog w = .ok (.agg #[a, b, c]) w :=
  run_loadVar_row w g t 68 #[a, b, c] (0, 0) _ hg Tryz.underlying68 rfl sizeFrag
theorem ret_ct {fn : Func} {p u : Tmp} {ty : TypeId} (h : fn.results = #[.cell p ty, .tmp u]) {tmps : Array Value} {w : World} {g : Nat} {cs : Array Value} (hp : tmps.getD p undef = .pointer (some ⟨g, 0, none⟩)) (hg : (loadVar ty ⟨g, 0, none⟩).run Tryz.prog w = .ok (.agg cs) w) :
    (results fn tmps).run Tryz.prog w = .ok (.tuple #[.agg cs, tmps.getD u undef]) w := by
  rw [results_cell_tmp h, hp]
  simp [asAddr, hg]

set_option maxRecDepth 20000 in
set_option maxHeartbeats 800000 in
theorem find_short (w : World) {v : Value} {b : List Nat} (hr : Rd w v (bv b)) {t : Nat} (ht : t ≤ b.length) (hl : b.length ≤ 4194304) (hs : b.length < t + zr t + 7) :
    Calls Tryz.prog 24 #[v, .int .i64 (t : Int)] w fun r w' => r = .returned (.tuple #[.agg #[.int .u8 0, .slice none 0 0, .int .i64 0], .bool false]) ∧ Fr [] w w' := by
  obtain ⟨a, c, hv⟩ := hr.form
  rw [bv_len] at hv
  subst hv
  have h1 := lf_ge t
  have h2 := lf_le t
  have h3 := zr_le t
  have RC := fun w => room_nat w t (by omega)
  generalize zr t = z at *
  generalize lf t = l at *
  have k1 : (b.length : Int) - ((t : Int) + (z : Int)) < (l : Int) := by omega
  have k2 : (b.length : Int) - ((t : Int) + (z : Int)) < 7 := by omega
  have RCH := hid RC
  clear hr RC
  go_enter Tryz.func24, Tryz.ntmps24
  go_wp2_with (go_at_call 52; refine (RCH.out _).mono ?_; rintro e w1 ⟨rfl, rfl⟩)
  exact bodyPost_ret (ret_ct rfl rfl (load_frag (blk_new _ _))) rfl ⟨rfl, (Fr.refl _ _).alloc _⟩

/-- What find has in hand behind the bytes 0. -/
theorem frag0 {w w1 : World} (f : Fr [] (w.alloc (.cells #[.int .u8 0, .slice none 0 0, .int .i64 0] 68)) w1) : w1.heap[w.heap.size]? = some (.cells #[.int .u8 0, .slice none 0 0, .int .i64 0] 68 (0, 0)) :=
  f.at (blk_new w _) (by simp)
set_option maxRecDepth 20000 in
set_option maxHeartbeats 800000 in
theorem find_fill (w : World) {v : Value} {b : List Nat} (hr : Rd w v (bv b)) (hb : By b) {t : Nat} (hl : b.length ≤ 4194304) (hs : t + zr t + 7 ≤ b.length) (hz : ¬ ∀ x ∈ (b.drop t).take (zr t), x = 0) :
    Calls Tryz.prog 24 #[v, .int .i64 (t : Int)] w fun r w' => r = .returned (.tuple #[.agg #[.int .u8 0, .slice none 0 0, .int .i64 0], .bool false]) ∧ Fr [] w w' := by
  obtain ⟨q, off, c, rfl, hc⟩ := hr.place (by omega)
  have h1 := lf_ge t
  have h2 := lf_le t
  have h3 := zr_le t
  have RC := fun w => room_nat w t (by omega)
  have f0 : Fr [] w (w.alloc (.cells #[.int .u8 0, .slice none 0 0, .int .i64 0] 68)) := (Fr.refl [] w).alloc _
  have RZ := hid ((hr.mid (i := t) (n := zr t) (by omega)).fr f0)
  have BZ := hid ((hb.drop t).take (zr t))
  have LZ : ((b.drop t).take (zr t)).length ≤ 1000 := by rw [List.length_take]; omega
  have HZ := hid hz
  have F0 := hid f0
  clear hz f0 hr hb
  generalize (b.drop t).take (zr t) = zs at *
  generalize zr t = z at *
  generalize lf t = l at *
  have k0 : ¬ (c = t) := by omega
  have RCH := hid RC
  clear RC
  rcases (show (b.length : Int) - ((t : Int) + (z : Int)) < (l : Int) ∨ ¬ ((b.length : Int) - ((t : Int) + (z : Int)) < (l : Int)) from by omega) with k1 | k1
  all_goals
    have k3 : ¬ (b.length : Int) - ((t : Int) + (z : Int)) < 7 := by omega
    have k4 : ¬ (l : Int) < 7 := by omega
    have k5 : ((t : Int) + (z : Int)).toNat = t + z := by omega
    have k6 : t + z ≤ c := by omega
    have k7 : t + z - t = z := by omega
    go_enter Tryz.func24, Tryz.ntmps24
    go_wp2_with (first
      | (go_at_call 52; refine (RCH.out _).mono ?_; rintro e w1 ⟨rfl, rfl⟩)
      | (go_at_call 53
         refine (trim_c RZ.out BZ.out LZ).mono ?_
         rintro e w2 ⟨a2, n2, c2, rfl, f2, hz2⟩
         have hn2 : 0 < n2 := Nat.pos_of_ne_zero fun e => HZ.out (hz2.1 e)
         have F2 := hid f2
         have hg := frag0 f2
         have g0 := blk_cell hg 0
         have g1 := blk_cell hg 1
         have g2 := blk_cell hg 2
         have z0 := blk_frozen hg 0
         have z1 := blk_frozen hg 1
         have z2 := blk_frozen hg 2
         simp at g0 g1 g2
         have HG := hid hg
         clear hz2 f2 hg))
    exact bodyPost_ret (ret_ct rfl rfl (load_frag (store3 HG.out))) rfl ⟨rfl, fr3 (F0.out.trans F2.out) (Nat.le_refl _) _ _ _⟩
end Go.Proofs.YtegbngbhmgbocaaGreatDoor
