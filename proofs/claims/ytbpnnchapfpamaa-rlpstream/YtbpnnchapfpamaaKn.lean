/-
  The statements' own known examples.
-/
import Derived.Test.YtbpnnchapfpamaaEn
import Derived.Test.YtbpnnchapfpamaaFs2
import Derived.Lib.SlBytesConst
namespace Go.Proofs.Ytbpnnchapfpamaa
open Go.ChangeShapes Go.WideShapes Go.ChangeAt Go.RowKit

theorem IsV.str {n : Nat} {w : World} {bs : Value} {b : List Nat} (h : Rd w bs (bv b)) (hb : By b) (hl : b.length ≤ 140737488355328) (l : Bool) : IsV w (n + 1) (.agg #[.bool l, bs, .slice none 0 0]) (mkT l b []) :=
  ⟨bs, none, 0, rfl, h, hb, hl, Nat.le_refl _, Nat.zero_le _, fun h => by cases h⟩
theorem Rd.lit (w : World) (ns : List Nat) {B : Nat} (hB : B = w.heap.size) {cs : Array Value} (hc : cs.toList = bv ns) {n c : Nat} (hn : n = ns.length) (hcc : n ≤ c) : Rd (w.alloc (.cells cs 5)) (.slice (some ⟨B, 0, none⟩) n c) (bv ns) := by
  subst hn
  refine .inr ⟨_, _, by rw [bv_len], by rw [bv_len]; exact hcc, fun j u hj => ?_⟩
  rw [Addr.add_lit, Nat.zero_add, blk_cell (new_at w _ hB), ← Array.getElem?_toList, hc]
  exact hj
theorem reads_bad {w : World} {v : Value} {b : List Nat} (hr : Rd w v (bv b)) (hb : By b) (h0 : b ≠ []) (hl : b.length ≤ 100000) {x : Nat} (hx : hdr b = .error x) (hx0 : x ≠ 0) : Reads w v (.error x) := by
  intro w1 T g e k C f hg
  refine (read_bad w1 C (hr.fr f) hb h0 hl (d := 1) (by omega) (by omega) hx hx0).mono ?_
  rintro r w' ⟨h1, h2⟩
  exact ⟨h1, h2⟩
theorem encE_dog : encE (n := 19) (mkT false [100, 111, 103] []) = 0 := by decide
theorem encB_dog : encB (n := 19) (mkT false [100, 111, 103] []) = [131, 100, 111, 103] := by decide
theorem hdr_bad : hdr [129, 5] = .error 40 := by rfl
theorem str_dog : strOf [131, 100, 111, 103] = ⟨#[131, 100, 111, 103]⟩ := by decide

set_option maxRecDepth 20000 in
set_option maxHeartbeats 800000 in
theorem known_c (w : World) : Calls Try.prog 7 #[] w fun e w' => e = .returned (.bool true) ∧ Fr [] w w' := by
  have kc := fun (w : World) (C : Array Value) (n c : Nat) => Lib.run_convert_bytes_const (P := Try.prog) w 22 5 C n c Try.underlying22 Try.underlying5
  have R0 : Hid (Rd (w.alloc (.cells #[.int .u8 100, .int .u8 111, .int .u8 103] 5 (3, 4))) (.slice (some ⟨w.heap.size, 0, none⟩) 3 3) (bv [100, 111, 103])) := by
    refine .inr ⟨_, _, rfl, by simp [bv], fun j u hj => ?_⟩
    rw [Addr.add_lit, Nat.zero_add, World.cell?_alloc_mark]
    rw [← Array.getElem?_toList]
    exact hj
  have F0 := hid ((Fr.refl [] w).alloc (.cells #[.int .u8 100, .int .u8 111, .int .u8 103] 5 (3, 4)))
  go_enter Try.func7, Try.ntmps7
  go_wp2_with fail
  refine (encode_c _ (n := 19) (IsV.str (n := 18) R0.out (by unfold By; decide) (by simp) false) (by omega) (by decide) (by decide)).mono ?_
  rintro e w1 ⟨v1, rfl, o1, f1⟩
  rw [encB_dog] at o1
  rw [encE_dog]
  replace o1 : w1.ownsRow _ 5 1 v1 4 (bv [131, 100, 111, 103]) := o1
  obtain ⟨a1, c1, rfl, _⟩ := ownsRow_slice o1
  have P1 := hid (Rd.ownB (ns := [131, 100, 111, 103]) o1)
  have F1 := hid (F0.out.trans f1)
  clear o1 f1
  have R2 := hid (Rd.lit w1 [129, 5] rfl (cs := #[.int .u8 129, .int .u8 5]) rfl (n := 2) (c := 2) rfl (Nat.le_refl _))
  have F2 := hid (F1.out.alloc (.cells #[.int .u8 129, .int .u8 5] 5))
  clear kc
  go_wp2_with fail
  refine (decode_at _ (res := .error 40) (fun w2 f2 => first_at w2 (reads_bad (R2.out.fr f2) (by unfold By; decide) (by simp) (by simp) hdr_bad (by omega)) (by omega) (by omega)) (fun _ _ _ h => by cases h) (fun e h => by cases h; omega)).mono ?_
  rintro e w2 ⟨hD, f2⟩
  obtain rfl : e = _ := hD
  have P2 := hid (P1.out.fr (((Fr.refl [] w1).alloc _).trans f2))
  have F3 := hid (F2.out.trans f2)
  clear f2
  have hcv := run_conv (P2.out.fr ((Fr.refl [] w2).alloc (.cells #[.bool false, .slice none 0 0, .slice none 0 0] 25)))
  rw [str_dog] at hcv
  go_wp2
  go_ret
  exact ⟨rfl, F3.out.alloc _⟩
end Go.Proofs.Ytbpnnchapfpamaa
