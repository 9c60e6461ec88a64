/-
  Few lists.
-/
import Derived.Test.YthmlpjogbdpgiaaJ12
import Derived.Test.YthmlpjogbdpgiaaCU9
import Derived.Test.YthmlpjogbdpgiaaJ05
import Derived.Test.YthmlpjogbdpgiaaJ10
namespace Go.Proofs.Ythmlpjogbdpgiaa
open Go.ChangeShapes Go.WideShapes Go.ChangeAt Go.RowKit

def FewO (LL : List Ps) (e : Ending) : Prop := (e = .returned (.bool true) ∧ LL.length ≤ 8 ∧ LL.flatten.length ≤ 80) ∨ e = .returned (.bool false)
set_option maxRecDepth 20000 in
set_option maxHeartbeats 3200000 in
theorem few10_c (w : World) {lv : Value} {LL : List Ps} (h : RdLL w lv LL) (hn : LL.length ≤ 140737488355328) (hp : ∀ p ∈ LL, p.length ≤ 140737488355328) :
    Calls Try.prog 9 #[lv] w fun e w' => FewO LL e ∧ Fr [] w w' := by
  obtain ⟨la, lc, rfl, hlc, k1⟩ := h
  have H1 := hid k1
  have HP := hid hp
  obtain ⟨n, hnn⟩ : ∃ n, n = LL.length := ⟨_, rfl⟩
  have HN := hid hnn
  rw [← hnn] at hn hlc ⊢
  clear k1 hnn hp
  go_enter Try.func9, Try.ntmps9
  go_wp2_with fail
  go_loopw [3, 4] (fun v3 v4 wr => ∃ i m : Nat, v3 = .int .i64 (m : Int) ∧ v4 = .int .i64 (i : Int) ∧ i ≤ n ∧ m = (LL.take i).flatten.length ∧ m ≤ 140737488355408 ∧ Fr [] w wr) (fun _ v4 _ => n - (intOf v4).toNat)
  case atStart => exact ⟨0, 0, rfl, rfl, Nat.zero_le _, by simp, by omega, Fr.refl _ _⟩
  case round =>
    obtain ⟨i, m, rfl, rfl, hi, hm, hmb, hf⟩ := hrel
    have HF := hid hf
    have HM := hid hm
    clear hf hm
    by_cases hlt : i < n
    · by_cases h8 : m ≤ 80
      · obtain ⟨p, hpp⟩ : ∃ p, LL[i]? = some p := ⟨_, List.getElem?_eq_getElem (by rw [← HN.out]; exact hlt)⟩
        obtain ⟨b, off, rfl, mm⟩ := H1.out (by rw [← HN.out]; omega)
        obtain ⟨ua, uc, z0, _⟩ := mm i p hpp
        have z1 := cell_fr HF.out z0
        have hpl := HP.out p (List.mem_of_getElem? hpp)
        have HM2 : Hid (m + p.length = (LL.take (i + 1)).flatten.length) := hid (by rw [take_oneL hpp, HM.out]; simp)
        have hlt' : (i : Int) < (n : Int) := by omega
        have h8' : (m : Int) ≤ 80 := by omega
        generalize p.length = pl at *
        clear mm z0 hpp
        go_wp2
        go_roundw
        case rel => exact ⟨i + 1, m + pl, by go_num, by go_num, by omega, HM2.out, by omega, HF.out⟩
        case measure => simp [intOf]; omega
      · have hlt' : (i : Int) < (n : Int) := by omega
        have h8' : ¬ (m : Int) ≤ 80 := by omega
        by_cases h9 : n ≤ 8
        · have h9' : (n : Int) ≤ 8 := by omega
          go_wp2
          go_ret
          exact ⟨.inr rfl, HF.out⟩
        · have h9' : ¬ (n : Int) ≤ 8 := by omega
          go_wp2
          go_ret
          exact ⟨.inr rfl, HF.out⟩
    · have hin : i = n := by omega
      have hlt' : ¬ (i : Int) < (n : Int) := by omega
      have HMA : Hid (m = LL.flatten.length) := hid (by rw [HM.out, List.take_of_length_le (by rw [← HN.out]; omega)])
      by_cases h9 : n ≤ 8
      · have h9' : (n : Int) ≤ 8 := by omega
        by_cases h8 : m ≤ 80
        · have h8' : (m : Int) ≤ 80 := by omega
          go_wp2
          go_ret
          exact ⟨.inl ⟨rfl, by rw [← HN.out]; exact h9, by rw [← HMA.out]; exact h8⟩, HF.out⟩
        · have h8' : ¬ (m : Int) ≤ 80 := by omega
          go_wp2
          go_ret
          exact ⟨.inr rfl, HF.out⟩
      · have h9' : ¬ (n : Int) ≤ 8 := by omega
        go_wp2
        go_ret
        exact ⟨.inr rfl, HF.out⟩
end Go.Proofs.Ythmlpjogbdpgiaa
namespace Go.Proofs.Ythmlpjogbdpgiaa
open Go.ChangeShapes Go.WideShapes Go.ChangeAt Go.RowKit

theorem keyL_len (u : List Nat) (s k : Nat) : (keyL u s k).length = u.length + 8 := by unfold keyL; rw [List.length_append, fixL_len]
theorem keyL_by {u : List Nat} (h : By u) (s k : Nat) : By (keyL u s k) := h.append (fixL_by 8 _)
theorem keyL_user (u : List Nat) (s k : Nat) : userL (keyL u s k) = u := by
  unfold userL; rw [keyL_len, Nat.add_sub_cancel]; unfold keyL; exact List.take_left' rfl
theorem keyL_tail (u : List Nat) {s k : Nat} (hs : s ≤ 72057594037927935) (hk : k ≤ 1) : tailN (keyL u s k) = 256 * s + k := by
  unfold tailN; rw [keyL_len, Nat.add_sub_cancel]; unfold keyL
  rw [List.drop_left' rfl, unf_fixL]
  exact Nat.mod_eq_of_lt (show 256 * s + k < 256 ^ 8 by omega)
theorem keyL_is {u : List Nat} (hu : u.length ≤ 128) {s k : Nat} (hs : s ≤ 72057594037927935) (hk : k ≤ 1) : isK (keyL u s k) = true := by
  have ht := keyL_tail u hs hk
  unfold isK
  rw [show unf ((keyL u s k).drop ((keyL u s k).length - 8)) = 256 * s + k from ht, keyL_len]
  simp only [Bool.and_eq_true, decide_eq_true_eq]
  omega


theorem ordK_key (u v : List Nat) {s t k : Nat} (hs : s ≤ 72057594037927935) (ht : t ≤ 72057594037927935) (hk : k ≤ 1) : ordK (keyL u s k) (keyL v t k) = ordP u v (s : Int) (t : Int) (k : Int) (k : Int) := by
  unfold ordK
  rw [keyL_user, keyL_user, keyL_tail u hs hk, keyL_tail v ht hk, show (256 * s + k) / 256 = s by omega, show (256 * t + k) / 256 = t by omega, show (256 * s + k) % 256 = k by omega, show (256 * t + k) % 256 = k by omega]

theorem less_cmp : ∀ (u v : List Nat), By u → By v → Op.bytesLess (u.map UInt8.ofNat) (v.map UInt8.ofNat) = decide (cmpN u v = -1)
  | [], [], _, _ => rfl
  | [], _ :: _, _, _ => rfl
  | _ :: _, [], _, _ => rfl
  | x :: a, y :: b, ha, hb => by
    have hx := ha x (by simp); have hy := hb y (by simp)
    have ih := less_cmp a b (fun n hn => ha n (List.mem_cons_of_mem _ hn)) (fun n hn => hb n (List.mem_cons_of_mem _ hn))
    have e : (UInt8.ofNat x < UInt8.ofNat y ↔ x < y) := by
      rw [UInt8.lt_iff_toNat_lt, UInt8.toNat_ofNat', UInt8.toNat_ofNat', Nat.mod_eq_of_lt hx, Nat.mod_eq_of_lt hy]
    have e2 : (UInt8.ofNat x = UInt8.ofNat y ↔ x = y) := by
      constructor
      · intro h
        have := congrArg UInt8.toNat h
        rw [UInt8.toNat_ofNat', UInt8.toNat_ofNat', Nat.mod_eq_of_lt hx, Nat.mod_eq_of_lt hy] at this
        exact this
      · intro h; rw [h]
    simp only [List.map_cons, Op.bytesLess, ih]
    rw [show cmpN (x :: a) (y :: b) = if x < y then -1 else if y < x then 1 else cmpN a b from rfl]
    rcases Nat.lt_trichotomy x y with h | h | h
    · rw [if_pos h]; simp [e.2 h]
    · have n1 : ¬ UInt8.ofNat x < UInt8.ofNat y := fun q => by have := e.1 q; omega
      rw [if_neg (by omega), if_neg (by omega), decide_eq_false n1, Bool.false_or, beq_iff_eq.2 (e2.2 h), Bool.true_and]
    · have n1 : ¬ UInt8.ofNat x < UInt8.ofNat y := fun q => by have := e.1 q; omega
      have n2 : ¬ UInt8.ofNat x = UInt8.ofNat y := fun q => by have := e2.1 q; omega
      rw [if_neg (by omega), if_pos h, decide_eq_false n1, Bool.false_or, beq_eq_false_iff_ne.2 n2, Bool.false_and]
      rfl
theorem strOf_toList (u : List Nat) : (strOf u).toList = u.map UInt8.ofNat := by
  rw [← strOf_data, ByteArray.toList_eq]
end Go.Proofs.Ythmlpjogbdpgiaa
namespace Go.Proofs.Ythmlpjogbdpgiaa
open Go.ChangeShapes Go.WideShapes Go.ChangeAt Go.RowKit

set_option maxHeartbeats 800000 in
theorem refkey_bad (w : World) {v : Value} {u : List Nat} (hr : Rd w v (bv u)) (hl : u.length ≤ 140737488355328) (s : Nat) (hs : s < 18446744073709551616) (k : Int) (hk1 : -9223372036854775808 ≤ k) (hk2 : k ≤ 9223372036854775807) (h : vb u.length s k = false) :
    Calls Try.prog 22 #[v, .int .u64 (s : Int), .int .i64 k] w fun e w' => e = .returned (.tuple #[.slice none 0 0, .int .i64 23]) ∧ w' = w := by
  obtain ⟨a, c, hv⟩ := hr.form
  rw [bv_len] at hv
  subst hv
  clear hr
  have hq : ¬ (u.length ≤ 128) ∨ (u.length ≤ 128 ∧ ¬ (s ≤ 72057594037927935)) ∨ (u.length ≤ 128 ∧ s ≤ 72057594037927935 ∧ k < 0) ∨ (u.length ≤ 128 ∧ s ≤ 72057594037927935 ∧ 0 ≤ k ∧ 1 < k) := by
    unfold vb at h
    by_cases h1 : u.length ≤ 128
    · by_cases h2 : s ≤ 72057594037927935
      · simp only [h1, h2, decide_true, Bool.true_and, Bool.or_eq_false_iff, beq_eq_false_iff_ne, ne_eq] at h
        omega
      · exact .inr (.inl ⟨h1, h2⟩)
    · exact .inl h1
  clear h
  rcases hq with q1 | ⟨q1, q2⟩ | ⟨q1, q2, q3⟩ | ⟨q1, q2, q3, q4⟩
  · go_enter Try.func22, Try.ntmps22
    go_wp2
    go_ret2
    exact ⟨rfl, rfl⟩
  · go_enter Try.func22, Try.ntmps22
    go_wp2
    go_ret2
    exact ⟨rfl, rfl⟩
  · go_enter Try.func22, Try.ntmps22
    go_wp2
    go_ret2
    exact ⟨rfl, rfl⟩
  · go_enter Try.func22, Try.ntmps22
    go_wp2
    go_ret2
    exact ⟨rfl, rfl⟩

set_option maxRecDepth 20000 in
set_option maxHeartbeats 800000 in
theorem refkey_ok (w : World) {v : Value} {u : List Nat} (hr : Rd w v (bv u)) (hu : u.length ≤ 128) (s k : Nat) (hs : s ≤ 72057594037927935) (hk : k ≤ 1) :
    Calls Try.prog 22 #[v, .int .u64 (s : Int), .int .i64 (k : Int)] w fun e w' => ∃ v', e = .returned (.tuple #[v', .int .i64 0]) ∧ w'.ownsRow w.heap.size 5 1 v' (keyL u s k).length (bv (keyL u s k)) ∧ Fr [] w w' := by
  obtain ⟨a, c, hv⟩ := hr.form
  rw [bv_len] at hv
  subst hv
  have HR := hid hr
  obtain ⟨t, ht⟩ : ∃ t, t = 256 * s + k := ⟨_, rfl⟩
  have hkv : (256 * (s : Int) + (k : Int)) = (t : Int) := by omega
  have ht1 : t < 18446744073709551616 := by omega
  have HT := hid ht
  have hul : u.length ≤ 140737488355328 := by omega
  have hul8 : u.length + (fixL t 8).length ≤ 140737488355328 := by rw [fixL_len]; omega
  clear hr ht
  go_enter Try.func22, Try.ntmps22
  go_wp2_with (at_builtin; refine wpList_append_nil rfl _ _ rfl rfl (Fr.refl _ w) _ HR.out rfl hul ?_; intro v1 w1 o1 f1 _; have O1 := hid o1; have F1 := hid f1; clear o1 f1)
  refine (reffixed_c _ t 8 ht1 (by omega)).mono ?_
  rintro e w2 ⟨v2, rfl, o2, f2⟩
  obtain ⟨a2, c2, rfl, _⟩ := ownsRow_slice o2
  have R2 := hid (Rd.ownN (ns := fixL t 8) o2 (fixL_len 8 t).symm)
  have O2 := hid (ownsRow_fr O1.out f2)
  have F2 := hid (F1.out.trans f2)
  clear o2 f2
  go_wp2_with (at_builtin; refine wpList_append_bv rfl _ _ rfl O2.out rfl F2.out (Nat.le_refl _) F2.out.size _ R2.out rfl hul8 ?_; intro v3 w3 o3 f3)
  go_ret2
  refine ⟨v3, rfl, ?_, f3⟩
  unfold keyL
  rw [List.length_append, ← HT.out]
  exact o3
end Go.Proofs.Ythmlpjogbdpgiaa
