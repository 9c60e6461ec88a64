/-
  The document's entries of a block, without the program.
-/
import Derived.Test.YtnnookkcnmgbfaaGreatJ04
import Derived.Test.YtnnookkcnmgbfaaGreatJ01
namespace Go.Proofs.YtnnookkcnmgbfaaGreat

def entsF : Nat → List Nat → Nat → List Nat → Option Ps
  | 0, _, _, _ => none
  | f + 1, all, t, ahead => if t < all.length then
      match lineL all ahead t with
      | none => none
      | some (_, k, v, t') => if k.length ≤ 136 then (entsF f all t' k).map ((k, v) :: ·) else none
    else some []
theorem lines_ents : ∀ (f : Nat) (all : List Nat) (t : Nat) (ahead : List Nat) (ls : List Ln), linesF f all t ahead = some ls → entsF f all t ahead = some (psL ls)
  | 0, _, _, _, _, h => by cases h
  | f + 1, all, t, ahead, ls, h => by
    rw [linesF] at h
    rw [entsF]
    by_cases ht : t < all.length
    · rw [if_pos ht] at h ⊢
      rcases hl : lineL all ahead t with _ | ⟨s, k, v, t'⟩
      · rw [hl] at h; cases h
      · rw [hl] at h
        dsimp only at h ⊢
        by_cases hf : flw ahead k = true
        · rw [if_pos hf] at h
          rw [if_pos (isK_len (flw_isK hf)).2.1]
          rcases hr : linesF f all t' k with _ | r
          · rw [hr] at h; cases h
          · rw [hr] at h
            rw [lines_ents f all t' k r hr]
            cases h
            rfl
        · rw [if_neg hf] at h; cases h
    · rw [if_neg ht] at h ⊢
      cases h; rfl
theorem ents_end {f : Nat} {all : List Nat} {t : Nat} {ahead : List Nat} (h : all.length ≤ t) : entsF (f + 1) all t ahead = some [] := by
  rw [entsF, if_neg (by omega)]
theorem ents_none {f : Nat} {all : List Nat} {t : Nat} {ahead : List Nat} (h : t < all.length) (hl : lineL all ahead t = none) : entsF (f + 1) all t ahead = none := by
  rw [entsF, if_pos h, hl]
theorem ents_long {f : Nat} {all : List Nat} {t s t' : Nat} {ahead k v : List Nat} (h : t < all.length) (hl : lineL all ahead t = some (s, k, v, t')) (hk : 136 < k.length) : entsF (f + 1) all t ahead = none := by
  rw [entsF, if_pos h, hl]; dsimp only; rw [if_neg (by omega)]
theorem ents_step {f : Nat} {all : List Nat} {t s t' : Nat} {ahead k v : List Nat} (h : t < all.length) (hl : lineL all ahead t = some (s, k, v, t')) (hk : k.length ≤ 136) : entsF (f + 1) all t ahead = (entsF f all t' k).map ((k, v) :: ·) := by
  rw [entsF, if_pos h, hl]; dsimp only; rw [if_pos hk]
/-- What a line is made of. -/
theorem line_more {all ahead : List Nat} (hb : By all) (ha : By ahead) {t s t' : Nat} {k v : List Nat} (ht : t ≤ all.length) (h : lineL all ahead t = some (s, k, v, t')) : By k ∧ By v ∧ t + 3 ≤ t' ∧ t' ≤ all.length ∧ (k.length - s) + v.length + 3 ≤ t' - t ∧ s ≤ ahead.length ∧ s ≤ k.length := by
  obtain ⟨h1, h2, h3, h4, h5, h6⟩ := lineL_inv hb ht h
  have hby : By (ent s k v) := by
    have := hb.drop t
    rw [h4] at this
    exact fun x hx => this x (List.mem_append_left _ hx)
  have hk : By (k.drop s) := fun x hx => hby x (by unfold ent; simp [hx])
  have hv : By v := fun x hx => hby x (by unfold ent; simp [hx])
  have hkk : By k := by
    rw [← List.take_append_drop s k, h3]
    exact (ha.take s).append hk
  have hent : (ent s k v).length = (putL s).length + (putL (k.length - s)).length + (putL v.length).length + (k.length - s) + v.length := by
    unfold ent; simp only [List.length_append, List.length_drop]; omega
  have hl3 := (ent_len s k v).1
  have p1 := putL_pos s
  have p2 := putL_pos (k.length - s)
  have p3 := putL_pos v.length
  exact ⟨hkk, hv, by omega, h6, by omega, h1, h2⟩
theorem ents_small : ∀ (f : Nat) (all : List Nat) (t : Nat) (ahead : List Nat) (ps : Ps), By all → By ahead → t ≤ all.length → entsF f all t ahead = some ps → 3 * ps.length + t ≤ all.length ∧ ∀ p ∈ ps, p.1.length ≤ 136 ∧ p.2.length ≤ all.length
  | 0, _, _, _, _, _, _, _, h => by cases h
  | f + 1, all, t, ahead, ps, hb, ha, ht, h => by
    rw [entsF] at h
    by_cases hlt : t < all.length
    · rw [if_pos hlt] at h
      rcases hl : lineL all ahead t with _ | ⟨s, k, v, t'⟩
      · rw [hl] at h; cases h
      · rw [hl] at h
        dsimp only at h
        obtain ⟨bk, bw, h3, h6, h7, _, _⟩ := line_more hb ha ht hl
        by_cases hk : k.length ≤ 136
        · rw [if_pos hk] at h
          rcases hr : entsF f all t' k with _ | r
          · rw [hr] at h; cases h
          · rw [hr] at h
            cases h
            obtain ⟨i1, i2⟩ := ents_small f all t' k r hb bk h6 hr
            refine ⟨by simp only [List.length_cons]; omega, fun p hp => ?_⟩
            rcases List.mem_cons.1 hp with rfl | hp
            · exact ⟨hk, by dsimp only; omega⟩
            · exact i2 p hp
        · rw [if_neg hk] at h; cases h
    · rw [if_neg hlt] at h
      cases h
      exact ⟨by simp; omega, fun p hp => by cases hp⟩
theorem bod_small {r : Nat} {ps : Ps} {M : Nat} (h : ∀ p ∈ ps, p.1.length ≤ 136 ∧ p.2.length ≤ M) (hM : M < 18446744073709551616) : ∀ i, (bod r ps i).length ≤ i * (166 + M)
  | 0 => by simp [bod]
  | i + 1 => by
    have ih := bod_small h hM (r := r) i
    have hk : (kA ps i).length ≤ 136 ∧ (vA ps i).length ≤ M := by
      by_cases hi : i < ps.length
      · have := h _ (List.mem_of_getElem? (ps_at hi)); exact this
      · rw [(kA_out (by omega)).1, (kA_out (by omega)).2]; simp
    have hs := (shd_le r ps i).2
    have e : (ent (shd r ps i) (kA ps i) (vA ps i)).length ≤ 166 + M := by
      have p1 := putL_len10 (n := shd r ps i) (by omega)
      have p2 := putL_len10 (n := (kA ps i).length - shd r ps i) (by omega)
      have p3 := putL_len10 (n := (vA ps i).length) (by omega)
      unfold ent
      simp only [List.length_append, List.length_drop]
      omega
    rw [bod, List.length_append, Nat.add_mul, Nat.one_mul]
    omega
theorem numL_le {all : List Nat} (hb : By all) {t most n t' : Nat} (h : numL all t most = some (n, t')) (ht : t ≤ all.length) : t' ≤ all.length ∧ t < t' ∧ n ≤ most := by
  obtain ⟨h1, h2, h3⟩ := numL_inv hb h
  have := congrArg List.length h3
  rw [List.length_append, List.length_drop, List.length_drop] at this
  have := putL_pos n
  omega
theorem numL_no {all : List Nat} {t most : Nat} (h : (takeL (all.drop t)).2.2 ≠ 0 ∨ most < (takeL (all.drop t)).1) : numL all t most = none := by
  unfold numL
  rw [if_neg (by omega)]
theorem numL_yes {all : List Nat} {t most : Nat} (h : (takeL (all.drop t)).2.2 = 0) (h2 : (takeL (all.drop t)).1 ≤ most) : numL all t most = some ((takeL (all.drop t)).1, t + (takeL (all.drop t)).2.1) := by
  unfold numL
  rw [if_pos ⟨h, h2⟩]
theorem numL_up {all : List Nat} {t m m' : Nat} {x : Nat × Nat} (h : numL all t m = some x) (hm : m ≤ m') : numL all t m' = some x := by
  unfold numL at h ⊢
  split at h
  · rename_i hc
    rw [if_pos ⟨hc.1, by omega⟩]; exact h
  · cases h
theorem line_no1 {all ahead : List Nat} {t : Nat} (ha : ahead.length ≤ all.length) (h : numL all t all.length = none) : lineL all ahead t = none := by
  unfold lineL
  rcases h1 : numL all t ahead.length with _ | x
  · rfl
  · rw [numL_up h1 ha] at h; cases h
theorem line_no2 {all ahead : List Nat} {t s t1 : Nat} (ha : ahead.length ≤ all.length) (h : numL all t all.length = some (s, t1)) (h2 : numL all t1 all.length = none) : lineL all ahead t = none := by
  unfold lineL
  rcases h1 : numL all t ahead.length with _ | x
  · rfl
  · rw [numL_up h1 ha] at h; cases h
    dsimp only; rw [h2]
theorem line_no3 {all ahead : List Nat} {t s t1 l t2 : Nat} (ha : ahead.length ≤ all.length) (h : numL all t all.length = some (s, t1)) (h2 : numL all t1 all.length = some (l, t2)) (h3 : numL all t2 all.length = none) : lineL all ahead t = none := by
  unfold lineL
  rcases h1 : numL all t ahead.length with _ | x
  · rfl
  · rw [numL_up h1 ha] at h; cases h
    dsimp only; rw [h2]; dsimp only; rw [h3]
theorem line_no4 {all ahead : List Nat} {t s t1 l t2 z t3 : Nat} (ha : ahead.length ≤ all.length) (h : numL all t all.length = some (s, t1)) (h2 : numL all t1 all.length = some (l, t2)) (h3 : numL all t2 all.length = some (z, t3)) (h4 : ahead.length < s ∨ all.length < t3 + l + z) : lineL all ahead t = none := by
  unfold lineL
  rcases h1 : numL all t ahead.length with _ | x
  · rfl
  · have h1' := numL_up h1 ha
    rw [h1'] at h; cases h
    dsimp only; rw [h2]; dsimp only; rw [h3]; dsimp only
    rw [if_neg]
    have : s ≤ ahead.length := by
      unfold numL at h1
      split at h1
      · rename_i hc; cases h1; exact hc.2
      · cases h1
    omega
theorem line_yes {all ahead : List Nat} {t s t1 l t2 z t3 : Nat} (h : numL all t all.length = some (s, t1)) (h2 : numL all t1 all.length = some (l, t2)) (h3 : numL all t2 all.length = some (z, t3)) (h4 : s ≤ ahead.length) (h5 : t3 + l + z ≤ all.length) : lineL all ahead t = some (s, ahead.take s ++ (all.drop t3).take l, (all.drop (t3 + l)).take z, t3 + l + z) := by
  have h1 : numL all t ahead.length = some (s, t1) := by
    unfold numL at h ⊢
    split at h
    · rename_i hc
      cases h
      rw [if_pos ⟨hc.1, h4⟩]
    · cases h
  unfold lineL
  rw [h1]; dsimp only; rw [h2]; dsimp only; rw [h3]; dsimp only
  rw [if_pos h5]
end Go.Proofs.YtnnookkcnmgbfaaGreat
namespace Go.Proofs.YtnnookkcnmgbfaaGreat
open Go.ChangeShapes Go.WideShapes Go.ChangeAt Go.RowKit

theorem ref_val {k m x : Nat} (hk : k ≤ 9) (hm : m < 2 ^ (7 * k)) (h9 : k = 9 → x ≤ 1) :
    IntKind.u64.wrap ((m : Int) + IntKind.u64.wrap ((x : Int) % 128 * 2 ^ (7 * k))) = ((m + x % 128 * 2 ^ (7 * k) : Nat) : Int) := by
  have hlt := shl_lt hk hm h9
  have e : (x : Int) % 128 * 2 ^ (7 * k) = ((x % 128 * 2 ^ (7 * k) : Nat) : Int) := by simp
  rw [e, wrap64_nat (by omega), ← Int.natCast_add, wrap64_nat hlt]
theorem ref_ret {k m x : Nat} (hk : k ≤ 9) (hm : m < 2 ^ (7 * k)) (h9 : k = 9 → x ≤ 1) :
    Ending.returned (.tuple #[.int .u64 (IntKind.u64.wrap ((m : Int) + IntKind.u64.wrap ((x : Int) % 128 * 2 ^ (7 * k)))), .int .i64 ((k : Int) + 1), .int .i64 0]) = .returned (tkv (m + x % 128 * 2 ^ (7 * k), k + 1, 0)) := by
  rw [ref_val hk hm h9]; rfl
theorem ref_ret9 {k m x : Nat} (hk : k = 9) (hm : m < 2 ^ (7 * k)) (h9 : x ≤ 1) :
    Ending.returned (.tuple #[.int .u64 (IntKind.u64.wrap ((m : Int) + (x : Int) % 128 * 9223372036854775808)), .int .i64 10, .int .i64 0]) = .returned (tkv (m + x % 128 * 2 ^ (7 * k), k + 1, 0)) := by
  subst hk
  have hlt := shl_lt (k := 9) (by omega) hm fun _ => h9
  have e : (m : Int) + (x : Int) % 128 * 9223372036854775808 = ((m + x % 128 * 2 ^ (7 * 9) : Nat) : Int) := by simp
  rw [e, wrap64_nat hlt]; rfl

set_option maxRecDepth 20000 in
set_option maxHeartbeats 800000 in
theorem reftake_c {w : World} {v : Value} {ns : List Nat} (hr : Rd w v (bv ns)) (hb : By ns) (hl : ns.length ≤ 140737488355328) (t : Nat) (ht : t ≤ 140737488355328) :
    Calls Tryz.prog 25 #[v, .int .i64 (t : Int)] w fun e w' => e = .returned (tkv (takeL (ns.drop t))) ∧ w' = w := by
  rcases hr.split with ⟨rfl, a, c, rfl⟩ | ⟨b, off, c, rfl, h1, h2, hc⟩
  · clear hr
    go_enter Tryz.func25, Tryz.ntmps25
    go_wp2
    refine wp_loop_rounds 1 ?_
    rw [rounds_succ]
    go_wp2
    go_ret3
    rw [List.drop_nil]
    exact ⟨rfl, rfl⟩
  · clear hr
    have HC := hid hc
    have HB := hid hb
    clear hc hb
    go_enter Tryz.func25, Tryz.ntmps25
    go_wp2
    go_loop [7, 8] (fun v7 v8 => ∃ (k m : Nat), k ≤ 9 ∧ v8 = .int .i64 (k : Int) ∧ v7 = .int .u64 (m : Int) ∧ m < 2 ^ (7 * k) ∧ tk k m (ns.drop (t + k)) = takeL (ns.drop t)) (fun _ v8 => 10 - (intOf v8).toNat)
    case atStart => exact ⟨0, 0, by omega, rfl, rfl, by simp, rfl⟩
    case round =>
      obtain ⟨k, m, hk, rfl, rfl, hm, htk⟩ := hrel
      have HT := hid htk
      have HM := hid hm
      clear htk hm
      by_cases hlt : t + k < ns.length
      · obtain ⟨x, hx, hd⟩ := drop_at hlt
        have hcell := HC.out (t + k) x hx
        have hx256 : x < 256 := HB.out.at hx
        have HD := hid hd
        have en : ((t : Int) + (k : Int)).toNat = t + k := by omega
        clear hd hx
        rcases (show (9 ≤ k ∧ 1 < x) ∨ (9 ≤ k ∧ x < 1) ∨ (9 ≤ k ∧ 1 ≤ x ∧ x ≤ 1) ∨ (0 < k ∧ k < 9 ∧ x < 1) ∨ (0 < k ∧ k < 9 ∧ 0 < x ∧ x < 128) ∨ (0 < k ∧ k < 9 ∧ 128 ≤ x) ∨ (k < 1 ∧ x < 128) ∨ (k < 1 ∧ 128 ≤ x) from by omega) with ⟨q1, q2⟩ | ⟨q1, q2⟩ | ⟨q1, q2, q3⟩ | ⟨q1, q2, q3⟩ | ⟨q1, q2, q3, q4⟩ | ⟨q1, q2, q3⟩ | ⟨q1, q2⟩ | ⟨q1, q2⟩
        · have e0 : ((x : Int) == 0) = false := by simp; omega
          go_wp2
          go_ret3
          refine ⟨?_, rfl⟩
          rw [← HT.out, HD.out, tk_bad (by omega)]; rfl
        · have e0 : ((x : Int) == 0) = true := by simp; omega
          go_wp2
          go_ret3
          refine ⟨?_, rfl⟩
          rw [← HT.out, HD.out, tk_bad (by omega)]; rfl
        · have e0 : ((x : Int) == 0) = false := by simp; omega
          go_wp2
          go_ret3
          refine ⟨?_, rfl⟩
          rw [← HT.out, HD.out, tk_end (by omega) (by omega)]
          exact ref_ret9 (by omega) HM.out (by omega)
        · have e0 : ((x : Int) == 0) = true := by simp; omega
          go_wp2
          go_ret3
          refine ⟨?_, rfl⟩
          rw [← HT.out, HD.out, tk_bad (by omega)]; rfl
        · have e0 : ((x : Int) == 0) = false := by simp; omega
          go_wp2
          go_ret3
          refine ⟨?_, rfl⟩
          rw [← HT.out, HD.out, tk_end (by omega) (by omega)]
          exact ref_ret hk HM.out (by omega)
        · have e0 : ((x : Int) == 0) = false := by simp; omega
          go_wp2
          have hn : m + x % 128 * 2 ^ (7 * k) < 2 ^ (7 * (k + 1)) := by
            have e2 : 2 ^ (7 * (k + 1)) = 128 * 2 ^ (7 * k) := by rw [show (128 : Nat) = 2 ^ 7 from rfl, ← Nat.pow_add]; congr 1; omega
            have h2 : x % 128 * 2 ^ (7 * k) ≤ 127 * 2 ^ (7 * k) := Nat.mul_le_mul_right _ (by omega)
            have := HM.out
            omega
          have hv := ref_val hk HM.out (x := x) (by omega)
          go_round
          case rel => exact ⟨k + 1, m + x % 128 * 2 ^ (7 * k), by omega, by go_num, by rw [hv], hn, by rw [← HT.out, HD.out, tk_on (by omega) (by omega), Nat.add_assoc]⟩
          case measure => simp [intOf]; omega
        · go_wp2
          go_ret3
          refine ⟨?_, rfl⟩
          rw [← HT.out, HD.out, tk_end (by omega) (by omega)]
          exact ref_ret hk HM.out (by omega)
        · go_wp2
          have hn : m + x % 128 * 2 ^ (7 * k) < 2 ^ (7 * (k + 1)) := by
            have e2 : 2 ^ (7 * (k + 1)) = 128 * 2 ^ (7 * k) := by rw [show (128 : Nat) = 2 ^ 7 from rfl, ← Nat.pow_add]; congr 1; omega
            have h2 : x % 128 * 2 ^ (7 * k) ≤ 127 * 2 ^ (7 * k) := Nat.mul_le_mul_right _ (by omega)
            have := HM.out
            omega
          have hv := ref_val hk HM.out (x := x) (by omega)
          go_round
          case rel => exact ⟨k + 1, m + x % 128 * 2 ^ (7 * k), by omega, by go_num, by rw [hv], hn, by rw [← HT.out, HD.out, tk_on (by omega) (by omega), Nat.add_assoc]⟩
          case measure => simp [intOf]; omega
      · go_wp2
        go_ret3
        refine ⟨?_, rfl⟩
        rw [← HT.out, List.drop_eq_nil_of_le (by omega), tk_nil]; rfl
end Go.Proofs.YtnnookkcnmgbfaaGreat
