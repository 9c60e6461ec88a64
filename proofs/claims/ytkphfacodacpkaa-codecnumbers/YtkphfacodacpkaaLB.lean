/-
  The walk of CodecNumbers.
-/
import Derived.Test.YtkphfacodacpkaaLA
import Derived.Test.YtkphfacodacpkaaAp
namespace Go.Proofs.Ytkphfacodacpkaa
open Go.ChangeShapes Go.WideShapes Go.ChangeAt Go.RowKit

set_option maxRecDepth 20000 in
set_option maxHeartbeats 1600000 in
theorem numbers_c (w : World) (n : Nat) (hn : n < 18446744073709551616) {v : Value} {ns : List Nat} (hr : Rd w v (bv ns)) (hb : By ns) (hl : ns.length ≤ 140737488351232) :
    Calls Try.prog 3 #[.int .u64 (n : Int), v] w fun e w' => e = .returned (.bool true) ∧ Fr [] w w' := by
  obtain ⟨a, c, hv⟩ := hr.form
  rw [bv_len] at hv
  subst hv
  have HR := hid hr
  have HB := hid hb
  have hpl := putL_len10 hn
  have hl0 : (putL n).length ≤ 140737488355328 := by omega
  have hl1 : (putL n).length + ns.length ≤ 140737488355328 := by omega
  clear hr hb
  go_enter Try.func3, Try.ntmps3
  go_wp2_with fail
  refine (known_c w).mono ?_
  rintro e w1 ⟨rfl, f1⟩
  have F1 := hid f1
  clear f1
  go_wp2_with fail
  refine (put_c w1 n hn).mono ?_
  rintro e w2 ⟨v2, rfl, o2, f2⟩
  obtain ⟨a2, c2, rfl, _⟩ := ownsRow_slice o2
  have O2 := hid (Rd.ownB o2)
  have F2 := hid (F1.out.trans f2)
  have R2 := hid (HR.out.fr F2.out)
  clear o2 f2
  go_wp2_with (at_builtin; first | (refine wpList_append_nil rfl _ _ rfl rfl (Fr.refl _ w2) _ O2.out rfl hl0 ?_; intro v3 w3 o3 f3 _; have O3 := hid o3; have F3 := hid f3; clear o3 f3) | (refine wpList_append_bv rfl _ _ rfl O3.out rfl F3.out (Nat.le_refl _) F3.out.size _ (R2.out.fr F3.out) rfl hl1 ?_; intro v4 w4 o4 f4; obtain ⟨a4, c4, rfl, _⟩ := ownsRow_slice o4; have O4 := hid (Rd.ownN o4 (List.length_append).symm); have F4 := hid f4; clear o4 f4))
  refine (take_t O4.out ((putL_by n).append HB.out) (by rw [List.length_append]; omega) (takeL_put hn ns)).mono ?_
  rintro e w5 ⟨rfl, rfl⟩
  have F5 := hid (F2.out.trans F4.out)
  have R5 := hid (HR.out.fr F5.out)
  have P5 := hid (O2.out.fr F4.out)
  clear O4 F4 O3 F3 O2 F2 R2
  go_wp2_with fail
  refine (refput_c _ n hn).mono ?_
  rintro e w6 ⟨v6, rfl, o6, f6⟩
  obtain ⟨a6, c6, rfl, _⟩ := ownsRow_slice o6
  have O6 := hid (Rd.ownB o6)
  have F6 := hid (F5.out.trans f6)
  have P6 := hid (P5.out.fr f6)
  clear o6 f6
  go_wp2_with fail
  refine (bytes_c P6.out O6.out (putL_by n) (putL_by n)).mono ?_
  rintro e w7 ⟨rfl, rfl⟩
  rw [decide_eq_true rfl]
  go_wp2_with fail
  refine (fixed8_c _ n hn).mono ?_
  rintro e w8 ⟨v8, rfl, o8, f8⟩
  obtain ⟨a8, c8, rfl, _⟩ := ownsRow_slice o8
  replace o8 := Rd.ownB (ns := fixL n 8) (by rw [fixL_len]; exact o8)
  have O8 := hid o8
  have F8 := hid (F6.out.trans f8)
  clear o8 f8 O6 P6 R5 P5 F5 F6
  obtain ⟨m, hm⟩ : ∃ m, m = n % 4294967296 := ⟨_, rfl⟩
  have hm1 : m < 4294967296 := by omega
  have hmi : (n : Int) % 4294967296 = (m : Int) := by omega
  have HM := hid hm
  clear hm
  go_wp2_with fail
  refine (fixed4_c _ m hm1).mono ?_
  rintro e w9 ⟨v9, rfl, o9, f9⟩
  obtain ⟨a9, c9, rfl, _⟩ := ownsRow_slice o9
  replace o9 := Rd.ownN (ns := fixL m 4) o9 (fixL_len 4 m).symm
  have O9 := hid o9
  have F9 := hid (F8.out.trans f9)
  have P9 := hid (O8.out.fr f9)
  have R9 := hid (HR.out.fr F9.out)
  have hl8 : (fixL n 8).length ≤ 140737488355328 := by rw [fixL_len]; omega
  have hl8' : (fixL n 8).length + ns.length ≤ 140737488355328 := by rw [fixL_len]; omega
  have hl4 : (fixL m 4).length ≤ 140737488355328 := by rw [fixL_len]; omega
  have hl4' : (fixL m 4).length + ns.length ≤ 140737488355328 := by rw [fixL_len]; omega
  have E8 := hid (fixL_len 8 n)
  have E4 := hid (fixL_len 4 m)
  clear o9 f9 O8 F8
  go_wp2_with (at_builtin; first | (refine wpList_append_nil rfl _ _ rfl rfl (Fr.refl _ w9) _ P9.out rfl hl8 ?_; intro v3 w3 o3 f3 _; have O3 := hid o3; have F3 := hid f3; clear o3 f3) | (refine wpList_append_bv rfl _ _ rfl O3.out rfl F3.out (Nat.le_refl _) F3.out.size _ (R9.out.fr F3.out) rfl hl8' ?_; intro v4 w4 o4 f4; rw [E8.out] at o4; obtain ⟨a4, c4, rfl, _⟩ := ownsRow_slice o4; have O4 := hid (Rd.ownN o4 (by rw [List.length_append, E8.out])); have F4 := hid f4; clear o4 f4))
  refine (unfixed8_c O4.out ((fixL_by 8 n).append HB.out) (by rw [List.length_append, E8.out]; omega) (by rw [List.length_append]; omega)).mono ?_
  rintro e w10 ⟨rfl, rfl⟩
  rw [List.take_left' E8.out, unf_fixL, Nat.mod_eq_of_lt (show n < 256 ^ 8 from hn)]
  have F10 := hid (F9.out.trans F4.out)
  have P10 := hid (P9.out.fr F4.out)
  have Q10 := hid (O9.out.fr F4.out)
  have R10 := hid (R9.out.fr F4.out)
  clear O4 F4 O3 F3 P9 O9 R9 F9
  go_wp2_with (at_builtin; first | (refine wpList_append_nil rfl _ _ rfl rfl (Fr.refl _ _) _ Q10.out rfl hl4 ?_; intro v3 w3 o3 f3 _; have O3 := hid o3; have F3 := hid f3; clear o3 f3) | (refine wpList_append_bv rfl _ _ rfl O3.out rfl F3.out (Nat.le_refl _) F3.out.size _ (R10.out.fr F3.out) rfl hl4' ?_; intro v4 w5 o4 f4; rw [E4.out] at o4; obtain ⟨a5, c5, rfl, _⟩ := ownsRow_slice o4; have O4 := hid (Rd.ownN o4 (by rw [List.length_append, E4.out])); have F4 := hid f4; clear o4 f4))
  refine (unfixed4_c O4.out ((fixL_by 4 m).append HB.out) (by rw [List.length_append, E4.out]; omega) (by rw [List.length_append]; omega)).mono ?_
  rintro e w11 ⟨rfl, rfl⟩
  rw [List.take_left' E4.out, unf_fixL, Nat.mod_eq_of_lt (show m < 256 ^ 4 from hm1)]
  have F11 := hid (F10.out.trans F4.out)
  have P11 := hid (P10.out.fr F4.out)
  have Q11 := hid (Q10.out.fr F4.out)
  clear O4 F4 O3 F3 P10 Q10 R10 F10
  go_wp2_with fail
  refine (reffixed_c _ n 8 hn (by omega)).mono ?_
  rintro e w12 ⟨v12, rfl, o12, f12⟩
  obtain ⟨a12, c12, rfl, _⟩ := ownsRow_slice o12
  have O12 := hid (Rd.ownN (ns := fixL n 8) o12 (fixL_len 8 n).symm)
  have P12 := hid (P11.out.fr f12)
  have Q12 := hid (Q11.out.fr f12)
  have F12 := hid (F11.out.trans f12)
  clear o12 f12 P11 Q11 F11
  go_wp2_with fail
  refine (bytes_c P12.out O12.out (fixL_by 8 n) (fixL_by 8 n)).mono ?_
  rintro e w13 ⟨rfl, rfl⟩
  rw [decide_eq_true rfl]
  go_wp2_with fail
  refine (reffixed_c _ m 4 (by omega) (by omega)).mono ?_
  rintro e w14 ⟨v14, rfl, o14, f14⟩
  obtain ⟨a14, c14, rfl, _⟩ := ownsRow_slice o14
  have O14 := hid (Rd.ownN (ns := fixL m 4) o14 (fixL_len 4 m).symm)
  have Q14 := hid (Q12.out.fr f14)
  have F14 := hid (F12.out.trans f14)
  clear o14 f14 P12 Q12 F12 O12
  go_wp2_with fail
  refine (bytes_c Q14.out O14.out (fixL_by 4 m) (fixL_by 4 m)).mono ?_
  rintro e w15 ⟨rfl, rfl⟩
  rw [decide_eq_true rfl]
  go_wp2
  go_ret
  exact ⟨rfl, F14.out⟩
end Go.Proofs.Ytkphfacodacpkaa
