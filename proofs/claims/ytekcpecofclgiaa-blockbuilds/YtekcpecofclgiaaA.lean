/-
  What Put of package codec answers, and the reference's: the number's bytes, in a row of the call's own.
-/
import Derived.Test.YtekcpecofclgiaaSl
namespace Go.Proofs.Ytekcpecofclgiaa
open Go.ChangeShapes Go.WideShapes Go.ChangeAt Go.RowKit

theorem u8_of (n : Nat) : IntKind.u8.wrap (n : Int) = ((n % 256 : Nat) : Int) := by rw [IntKind.wrap_u8']; omega
theorem or128 (n : Nat) : bits .or .u8 ((n % 256 : Nat) : Int) 128 = ((n % 128 + 128 : Nat) : Int) := by
  have h := u8_or_nat (n % 256) 128 (by omega) (by omega)
  have e : n % 256 ||| 128 = n % 128 + 128 := by
    rcases Nat.lt_or_ge (n % 256) 128 with hl | hl
    · rw [Nat.or_comm]
      have := nat_join 7 128 (n % 256) (by decide) (by omega)
      omega
    · have h1 : n % 256 = 128 ||| (n % 128) := by
        have := nat_join 7 128 (n % 128) (by decide) (by omega)
        omega
      rw [h1, Nat.or_comm, ← Nat.or_assoc, Nat.or_self]
      have := nat_join 7 128 (n % 128) (by decide) (by omega)
      omega
  rw [e] at h
  exact h

set_option maxRecDepth 20000 in
set_option maxHeartbeats 400000 in
theorem put_c (w : World) (n : Nat) (hn : n < 18446744073709551616) :
    Calls Try.prog 52 #[.int .u64 (n : Int)] w fun e w' => ∃ v, e = .returned v ∧ w'.ownsRow w.heap.size 5 1 v (putL n).length (bv (putL n)) ∧ Fr [] w w' := by
  have HN := hid hn
  clear hn
  go_enter Try.func52, Try.ntmps52
  go_wp2
  go_loopw [0, 3] (fun v0 v3 wr => ∃ (m : Nat) (xs : List Nat), m < 18446744073709551616 ∧ v0 = .int .u64 (m : Int) ∧ xs ++ putL m = putL n ∧ wr.ownsRow w.heap.size 5 1 v3 xs.length (bv xs) ∧ Fr [] w wr) (fun v0 _ _ => (intOf v0).toNat)
  case atStart => exact ⟨n, [], HN.out, rfl, rfl, World.ownsRow_nil _ _ _ _, Fr.refl _ _⟩
  case round =>
    obtain ⟨m, xs, hm, rfl, hxs, hown, hfr⟩ := hrel
    have HX := hid hxs
    have HM := hid hm
    have HO := hid hown
    have HF := hid hfr
    have hsz := hfr.size
    have hxl : xs.length ≤ 10 := by
      have h1 := congrArg List.length hxs
      have h2 := putL_len10 HN.out
      rw [List.length_append] at h1; omega
    clear hxs hown hfr hm
    go_wp2_with (at_builtin; refine wpList_append_rd rfl _ _ rfl w.heap.size (by simp; omega) _ _ _ rfl (HO.out.alloc _) _ [_] rfl (Rd_lit1 _ _) (by simp [Value.oneCell']) (by simp; omega) ?_; intro v' w' o1 o2 o3)
    · have hge : 128 ≤ m := by omega
      have B : Hid (m / 128 < 18446744073709551616 ∧ (xs ++ [m % 128 + 128]) ++ putL (m / 128) = putL n ∧ w'.ownsRow w.heap.size 5 1 v' (xs ++ [m % 128 + 128]).length (bv (xs ++ [m % 128 + 128])) ∧ Fr [] w w') := by
        refine ⟨by have := HM.out; omega, by rw [← HX.out, putL_ge hge]; simp, ?_, (HF.out.alloc _).grew (HO.out.alloc _) (Nat.le_refl _) o2⟩
        rw [bv_append, List.length_append]
        have e : bv [m % 128 + 128] = [Value.int .u8 (bits .or .u8 ((m : Int) % 256) 128)] := by
          have h1 := or128 m
          rw [show ((m % 256 : Nat) : Int) = (m : Int) % 256 from by omega] at h1
          rw [h1]; rfl
        rw [e]; exact o1
      clear o1 o2 o3
      go_wp2
      go_roundw
      case rel => exact ⟨m / 128, _, B.out.1, by go_num, B.out.2⟩
      case measure => simp [intOf]; omega
    · have hlt : m < 128 := by omega
      go_wp2
      go_ret
      refine ⟨v', rfl, ?_, (HF.out.alloc _).grew (HO.out.alloc _) (Nat.le_refl _) o2⟩
      rw [← HX.out, putL_lt hlt, bv_append, List.length_append]
      exact o1
end Go.Proofs.Ytekcpecofclgiaa
