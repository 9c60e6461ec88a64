/-
  What Frame and Unframe of package codec answer.
-/
import Derived.Test.YtkphfacodacpkabJ
import Derived.Test.YtkphfacodacpkabK
import Derived.Test.YtkphfacodacpkabLA
namespace Go.Proofs.Ytkphfacodacpkab
open Go.ChangeShapes Go.WideShapes Go.ChangeAt Go.RowKit

/-- A frame's bytes. -/
def frameL (b : List Nat) : List Nat := fixL (crc b) 4 ++ putL b.length ++ b

set_option maxRecDepth 20000 in
set_option maxHeartbeats 800000 in
theorem frame_ok (w : World) {v : Value} {b : List Nat} (hr : Rd w v (bv b)) (hb : By b) (hl : b.length ≤ 1048576) :
    Calls Try.prog 10 #[v] w fun e w' => ∃ v', e = .returned (.tuple #[v', .int .i64 0]) ∧ w'.ownsRow w.heap.size 5 1 v' (frameL b).length (bv (frameL b)) ∧ Fr [] w w' := by
  obtain ⟨a, c, hv⟩ := hr.form
  rw [bv_len] at hv
  subst hv
  have HR := hid hr
  have HB := hid hb
  obtain ⟨s, hs⟩ : ∃ s, s = crc b := ⟨_, rfl⟩
  have hs1 : s < 4294967296 := by rw [hs]; exact crc_lt hb
  have HS := hid hs
  have hpl := putL_len10 (n := b.length) (by omega)
  clear hr hb hs
  go_enter Try.func10, Try.ntmps10
  go_wp2_with fail
  refine (sum_c HR.out HB.out (by omega)).mono ?_
  rintro e w1 ⟨rfl, rfl⟩
  rw [← HS.out]
  go_wp2_with fail
  refine (fixed4_c _ s hs1).mono ?_
  rintro e w2 ⟨v2, rfl, o2, f2⟩
  obtain ⟨a2, c2, rfl, _⟩ := ownsRow_slice o2
  have R2 := hid (Rd.ownN (ns := fixL s 4) o2 (fixL_len 4 s).symm)
  have F2 := hid f2
  clear o2 f2
  go_wp2_with fail
  refine (put_c _ b.length (by omega)).mono ?_
  rintro e w3 ⟨v3, rfl, o3, f3⟩
  obtain ⟨a3, c3, rfl, _⟩ := ownsRow_slice o3
  have P3 := hid (Rd.ownB o3)
  have Q3 := hid (R2.out.fr f3)
  have F3 := hid (F2.out.trans f3)
  have R3 := hid (HR.out.fr F3.out)
  clear o3 f3 R2 F2
  go_wp2_with fail
  refine (concat3_c Q3.out P3.out R3.out (by rw [fixL_len]; omega)).mono ?_
  rintro e w4 ⟨v4, rfl, o4, f4⟩
  have O4 : Hid (w4.ownsRow w1.heap.size 5 1 v4 (frameL b).length (bv (frameL b))) := by
    unfold frameL; rw [← HS.out]; exact ownsRow_base o4 F3.out.size
  have F4 := hid (F3.out.trans f4)
  clear o4 f4
  go_wp2
  go_ret2
  exact ⟨v4, rfl, O4.out, F4.out⟩

set_option maxHeartbeats 400000 in
theorem frame_big (w : World) {v : Value} {b : List Nat} (hr : Rd w v (bv b)) (hl : 1048576 < b.length) :
    Calls Try.prog 10 #[v] w fun e w' => e = .returned (.tuple #[.slice none 0 0, .int .i64 21]) ∧ w' = w := by
  obtain ⟨a, c, hv⟩ := hr.form
  rw [bv_len] at hv
  subst hv
  clear hr
  go_enter Try.func10, Try.ntmps10
  go_wp2
  go_ret2
  exact ⟨rfl, rfl⟩
end Go.Proofs.Ytkphfacodacpkab
