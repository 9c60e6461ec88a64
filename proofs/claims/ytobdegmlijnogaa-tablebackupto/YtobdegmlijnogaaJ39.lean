/-
  A key asked for, and not found.
-/
import Derived.Test.YtobdegmlijnogaaJ26
import Derived.Test.YtobdegmlijnogaaJ37
import Derived.Test.YtobdegmlijnogaaXQ3
namespace Go.Proofs.Ytobdegmlijnogaa
open Go.ChangeShapes Go.WideShapes Go.ChangeAt Go.RowKit

set_option maxRecDepth 20000 in
set_option maxHeartbeats 3200000 in
theorem get_nomay (w : World) {p : Nat} {dat flt : List Nat} {ips : Ps} {da fa : Option Addr} {dc fc G : Nat} (T : Tab w p dat flt ips da dc fa fc G) {user : List Nat} {seq : Nat} (hq : seq ≤ 72057594037927935) (bf : By flt) (lf : flt.length ≤ 1000000000) (bu : By user) (lu : user.length ≤ 128) (may : mayF flt user = false) {uv : Value} (ru : Rd w uv (bv user)) :
    Calls Try.prog 13 #[.pointer (some ⟨p, 0, none⟩), uv, .int .u64 (seq : Int)] w fun e w' => e = .returned (.tuple #[.slice none 0 0, .int .i64 0, .bool false, .int .i64 0]) ∧ Fr [] w w' := by
  have HT := hid T
  have HU := hid ru
  have hs' : (seq : Int) ≤ 72057594037927935 := by omega
  have KC := hid (key_ok w ru lu seq 1 (by omega) (by omega))
  have HIS := hid (keyL_is lu (show seq ≤ 72057594037927935 by omega) (show 1 ≤ 1 by omega))
  have HBK := hid (keyL_by bu seq 1)
  obtain ⟨ua, uc, hu⟩ := ru.form
  rw [bv_len] at hu
  subst hu
  have HUB := hid bu
  clear T ru 
  obtain ⟨UL, hUL⟩ : ∃ UL, UL = user.length := ⟨_, rfl⟩
  have HUL := hid hUL
  rw [← hUL] at HU KC lu ⊢
  clear hUL
  go_enter Try.func13, Try.ntmps13
  go_upto_region 2 with (go_at_call 19; refine KC.out.mono ?_; rintro e W1 ⟨kv, rfl, o1, f1⟩; obtain ⟨ka, kc, rfl, _⟩ := ownsRow_slice o1; have RK := hid (Rd.ownB o1); have F1 := hid f1; clear o1 f1)
  have MC := hid (tmay_c W1 (HT.out.fr F1.out) bf lf (HU.out.fr F1.out) HUB.out (by rw [← HUL.out]; omega))
  rw [may] at MC
  go_wp2_with (go_at_call 16; refine MC.out.mono ?_; rintro e w2 ⟨rfl, h⟩; rw [h]; clear h)
  refine bodyPost_ret (results_tmp4 rfl _ _ _) rfl ?_
  exact ⟨rfl, F1.out⟩
set_option maxRecDepth 20000 in
set_option maxHeartbeats 3200000 in
theorem get_nomayG (w : World) {p : Nat} {dat flt : List Nat} {ips : Ps} {da fa : Option Addr} {dc fc G : Nat} (T : Tab w p dat flt ips da dc fa fc G) {user : List Nat} {sq : Nat} (hq : 72057594037927935 < sq) (bf : By flt) (lf : flt.length ≤ 1000000000) (bu : By user) (lu : user.length ≤ 128) (may : mayF flt user = false) {uv : Value} (ru : Rd w uv (bv user)) :
    Calls Try.prog 13 #[.pointer (some ⟨p, 0, none⟩), uv, .int .u64 (sq : Int)] w fun e w' => e = .returned (.tuple #[.slice none 0 0, .int .i64 0, .bool false, .int .i64 0]) ∧ Fr [] w w' := by
  have HT := hid T
  have HU := hid ru
  have hs' : (72057594037927935 : Int) < (sq : Int) := by omega
  have KC := hid (key_ok w ru lu 72057594037927935 1 (by omega) (by omega))
  have HIS := hid (keyL_is lu (show 72057594037927935 ≤ 72057594037927935 by omega) (show 1 ≤ 1 by omega))
  have HBK := hid (keyL_by bu 72057594037927935 1)
  obtain ⟨ua, uc, hu⟩ := ru.form
  rw [bv_len] at hu
  subst hu
  have HUB := hid bu
  clear T ru 
  obtain ⟨UL, hUL⟩ : ∃ UL, UL = user.length := ⟨_, rfl⟩
  have HUL := hid hUL
  rw [← hUL] at HU KC lu ⊢
  clear hUL
  go_enter Try.func13, Try.ntmps13
  go_upto_region 2 with (go_at_call 19; refine KC.out.mono ?_; rintro e W1 ⟨kv, rfl, o1, f1⟩; obtain ⟨ka, kc, rfl, _⟩ := ownsRow_slice o1; have RK := hid (Rd.ownB o1); have F1 := hid f1; clear o1 f1)
  have MC := hid (tmay_c W1 (HT.out.fr F1.out) bf lf (HU.out.fr F1.out) HUB.out (by rw [← HUL.out]; omega))
  rw [may] at MC
  go_wp2_with (go_at_call 16; refine MC.out.mono ?_; rintro e w2 ⟨rfl, h⟩; rw [h]; clear h)
  refine bodyPost_ret (results_tmp4 rfl _ _ _) rfl ?_
  exact ⟨rfl, F1.out⟩
set_option maxRecDepth 20000 in
set_option maxHeartbeats 3200000 in
theorem get_end (w : World) {p : Nat} {dat flt : List Nat} {ips : Ps} {da fa : Option Addr} {dc fc G : Nat} (T : Tab w p dat flt ips da dc fa fc G) {user : List Nat} {seq : Nat} (hq : seq ≤ 72057594037927935) (bf : By flt) (lf : flt.length ≤ 1000000000) (bu : By user) (lu : user.length ≤ 128) (may : mayF flt user = true) (ri : Rises ips) (bi : ByP ips) (li : ips.length ≤ 1000000000) (hI : ∀ k, k ≤ ips.length → (k < ips.length → (!decide (ordK (kA ips k) (keyL user seq 1) < 0)) = true) → (0 < k → (!decide (ordK (kA ips (k - 1)) (keyL user seq 1) < 0)) = false) → k = ips.length) {uv : Value} (ru : Rd w uv (bv user)) :
    Calls Try.prog 13 #[.pointer (some ⟨p, 0, none⟩), uv, .int .u64 (seq : Int)] w fun e w' => e = .returned (.tuple #[.slice none 0 0, .int .i64 0, .bool false, .int .i64 0]) ∧ Fr [] w w' := by
  have HT := hid T
  have HU := hid ru
  have hs' : (seq : Int) ≤ 72057594037927935 := by omega
  have KC := hid (key_ok w ru lu seq 1 (by omega) (by omega))
  have HIS := hid (keyL_is lu (show seq ≤ 72057594037927935 by omega) (show 1 ≤ 1 by omega))
  have HBK := hid (keyL_by bu seq 1)
  obtain ⟨ua, uc, hu⟩ := ru.form
  rw [bv_len] at hu
  subst hu
  have HUB := hid bu
  have HRI := hid ri
  have HBI := hid bi
  have HII := hid hI
  clear T ru ri bi hI
  obtain ⟨UL, hUL⟩ : ∃ UL, UL = user.length := ⟨_, rfl⟩
  have HUL := hid hUL
  rw [← hUL] at HU KC lu ⊢
  clear hUL
  obtain ⟨IL, hIL⟩ : ∃ IL, IL = ips.length := ⟨_, rfl⟩
  have HIL := hid hIL
  rw [← hIL] at HII
  clear hIL
  go_enter Try.func13, Try.ntmps13
  go_upto_region 2 with (go_at_call 19; refine KC.out.mono ?_; rintro e W1 ⟨kv, rfl, o1, f1⟩; obtain ⟨ka, kc, rfl, _⟩ := ownsRow_slice o1; have RK := hid (Rd.ownB o1); have F1 := hid f1; clear o1 f1)
  have MC := hid (tmay_c W1 (HT.out.fr F1.out) bf lf (HU.out.fr F1.out) HUB.out (by rw [← HUL.out]; omega))
  rw [may] at MC
  generalize (keyL user seq 1).length = KL at RK
  have c2 : W1.cell? ⟨p, 2, none⟩ = some (.slice (some ⟨G, 0, none⟩) IL IL) := by rw [HIL.out, blk_cell (HT.out.fr F1.out).at']; rfl
  go_upto_region 4 with (go_at_call 16; refine MC.out.mono ?_; rintro e w2 ⟨rfl, h⟩; rw [h]; clear h)
  have BC := hid (bfrom_c W1 (HT.out.fr F1.out) HRI.out HBI.out li RK.out HBK.out HIS.out IL (by rw [HIL.out] at HII ⊢; exact HII.out))
  clear MC
  go_wp2_with (go_at_call 32; refine BC.out.mono ?_; rintro e W2 ⟨rfl, f2⟩; have c2 := cell_fr f2 c2; have F2 := hid (F1.out.trans f2); clear f2)
  refine bodyPost_ret (results_tmp4 rfl _ _ _) rfl ?_
  exact ⟨rfl, F2.out⟩
set_option maxRecDepth 20000 in
set_option maxHeartbeats 3200000 in
theorem get_endG (w : World) {p : Nat} {dat flt : List Nat} {ips : Ps} {da fa : Option Addr} {dc fc G : Nat} (T : Tab w p dat flt ips da dc fa fc G) {user : List Nat} {sq : Nat} (hq : 72057594037927935 < sq) (bf : By flt) (lf : flt.length ≤ 1000000000) (bu : By user) (lu : user.length ≤ 128) (may : mayF flt user = true) (ri : Rises ips) (bi : ByP ips) (li : ips.length ≤ 1000000000) (hI : ∀ k, k ≤ ips.length → (k < ips.length → (!decide (ordK (kA ips k) (keyL user 72057594037927935 1) < 0)) = true) → (0 < k → (!decide (ordK (kA ips (k - 1)) (keyL user 72057594037927935 1) < 0)) = false) → k = ips.length) {uv : Value} (ru : Rd w uv (bv user)) :
    Calls Try.prog 13 #[.pointer (some ⟨p, 0, none⟩), uv, .int .u64 (sq : Int)] w fun e w' => e = .returned (.tuple #[.slice none 0 0, .int .i64 0, .bool false, .int .i64 0]) ∧ Fr [] w w' := by
  have HT := hid T
  have HU := hid ru
  have hs' : (72057594037927935 : Int) < (sq : Int) := by omega
  have KC := hid (key_ok w ru lu 72057594037927935 1 (by omega) (by omega))
  have HIS := hid (keyL_is lu (show 72057594037927935 ≤ 72057594037927935 by omega) (show 1 ≤ 1 by omega))
  have HBK := hid (keyL_by bu 72057594037927935 1)
  obtain ⟨ua, uc, hu⟩ := ru.form
  rw [bv_len] at hu
  subst hu
  have HUB := hid bu
  have HRI := hid ri
  have HBI := hid bi
  have HII := hid hI
  clear T ru ri bi hI
  obtain ⟨UL, hUL⟩ : ∃ UL, UL = user.length := ⟨_, rfl⟩
  have HUL := hid hUL
  rw [← hUL] at HU KC lu ⊢
  clear hUL
  obtain ⟨IL, hIL⟩ : ∃ IL, IL = ips.length := ⟨_, rfl⟩
  have HIL := hid hIL
  rw [← hIL] at HII
  clear hIL
  go_enter Try.func13, Try.ntmps13
  go_upto_region 2 with (go_at_call 19; refine KC.out.mono ?_; rintro e W1 ⟨kv, rfl, o1, f1⟩; obtain ⟨ka, kc, rfl, _⟩ := ownsRow_slice o1; have RK := hid (Rd.ownB o1); have F1 := hid f1; clear o1 f1)
  have MC := hid (tmay_c W1 (HT.out.fr F1.out) bf lf (HU.out.fr F1.out) HUB.out (by rw [← HUL.out]; omega))
  rw [may] at MC
  generalize (keyL user 72057594037927935 1).length = KL at RK
  have c2 : W1.cell? ⟨p, 2, none⟩ = some (.slice (some ⟨G, 0, none⟩) IL IL) := by rw [HIL.out, blk_cell (HT.out.fr F1.out).at']; rfl
  go_upto_region 4 with (go_at_call 16; refine MC.out.mono ?_; rintro e w2 ⟨rfl, h⟩; rw [h]; clear h)
  have BC := hid (bfrom_c W1 (HT.out.fr F1.out) HRI.out HBI.out li RK.out HBK.out HIS.out IL (by rw [HIL.out] at HII ⊢; exact HII.out))
  clear MC
  go_wp2_with (go_at_call 32; refine BC.out.mono ?_; rintro e W2 ⟨rfl, f2⟩; have c2 := cell_fr f2 c2; have F2 := hid (F1.out.trans f2); clear f2)
  refine bodyPost_ret (results_tmp4 rfl _ _ _) rfl ?_
  exact ⟨rfl, F2.out⟩
set_option maxRecDepth 20000 in
set_option maxHeartbeats 3200000 in
theorem get_long (w : World) {p : Nat} {user : List Nat} {seq : Nat} (lu : 128 < user.length) {uv : Value} (ru : Rd w uv (bv user)) :
    Calls Try.prog 13 #[.pointer (some ⟨p, 0, none⟩), uv, .int .u64 (seq : Int)] w fun e w' => e = .returned (.tuple #[.slice none 0 0, .int .i64 0, .bool false, .int .i64 0]) ∧ Fr [] w w' := by
  obtain ⟨ua, uc, hu⟩ := ru.form
  rw [bv_len] at hu
  subst hu
  have hv : ∀ s, vb user.length s 1 = false := fun s => by unfold vb; rw [decide_eq_false (by omega)]; simp
  by_cases hq : seq ≤ 72057594037927935
  · have hs' : (seq : Int) ≤ 72057594037927935 := by omega
    have KC := hid (key_bad w ru seq 1 (hv _))
    clear ru hv
    generalize user.length = UL at *
    go_enter Try.func13, Try.ntmps13
    go_wp2_with (go_at_call 19; refine KC.out.mono ?_; rintro e W1 ⟨rfl, f1⟩; have F1 := hid f1; clear f1)
    refine bodyPost_ret (results_tmp4 rfl _ _ _) rfl ?_
    exact ⟨rfl, F1.out⟩
  · have hs' : (72057594037927935 : Int) < (seq : Int) := by omega
    have KC := hid (key_bad w ru 72057594037927935 1 (hv _))
    clear ru hv
    generalize user.length = UL at *
    go_enter Try.func13, Try.ntmps13
    go_wp2_with (go_at_call 19; refine KC.out.mono ?_; rintro e W1 ⟨rfl, f1⟩; have F1 := hid f1; clear f1)
    refine bodyPost_ret (results_tmp4 rfl _ _ _) rfl ?_
    exact ⟨rfl, F1.out⟩
end Go.Proofs.Ytobdegmlijnogaa
namespace Go.Proofs.Ytobdegmlijnogaa
open Go.ChangeShapes Go.WideShapes Go.ChangeAt Go.RowKit

/-- The entry of a user key as of a number. -/
def vw (ps : Ps) (u : List Nat) (s : Nat) : Option (List Nat × List Nat) := ps.find? fun p => decide (userL p.1 = u) && decide (tailN p.1 / 256 ≤ s)
theorem vw_none {ps : Ps} {u : List Nat} {s : Nat} (h : ∀ p ∈ ps, userL p.1 = u → ¬ tailN p.1 / 256 ≤ s) : vw ps u s = none := by
  unfold vw
  rw [List.find?_eq_none]
  intro p hp
  simp only [Bool.and_eq_true, decide_eq_true_eq]
  rintro ⟨h1, h2⟩
  exact h p hp h1 h2
theorem ordK_is (a b : List Nat) : ordK a b = if cmpN (userL a) (userL b) = 0 then (if cmpI ((tailN b / 256 : Nat) : Int) ((tailN a / 256 : Nat) : Int) = 0 then cmpI ((tailN b % 256 : Nat) : Int) ((tailN a % 256 : Nat) : Int) else cmpI ((tailN b / 256 : Nat) : Int) ((tailN a / 256 : Nat) : Int)) else cmpN (userL a) (userL b) := rfl
theorem cmpI_tri (a b : Int) : (a < b ∧ cmpI a b = -1) ∨ (a = b ∧ cmpI a b = 0) ∨ (b < a ∧ cmpI a b = 1) := by
  unfold cmpI
  rcases Int.lt_trichotomy a b with h | h | h
  · left; exact ⟨h, by simp [h]⟩
  · right; left; subst h; exact ⟨rfl, by simp⟩
  · right; right; exact ⟨h, by simp [h, show ¬ a < b by omega]⟩
/-- One user key: how an entry stands to a number. -/
theorem ord_same {k u : List Nat} (hu : userL k = u) (hk : isK k = true) {s : Nat} (hs : s ≤ 72057594037927935) : ordK k (keyL u s 1) < 0 ↔ s < tailN k / 256 := by
  have h3 := (isK_len hk).2.2
  rw [ordK_is, keyL_user, hu, if_pos ((cmpN_eq u u).2 rfl), keyL_tail u hs (Nat.le_refl 1)]
  rw [show (256 * s + 1) / 256 = s from by omega, show (256 * s + 1) % 256 = 1 from by omega]
  rcases cmpI_tri ((s : Nat) : Int) ((tailN k / 256 : Nat) : Int) with ⟨h, e⟩ | ⟨h, e⟩ | ⟨h, e⟩
  · rw [e, if_neg (by omega)]; omega
  · rw [e, if_pos rfl]
    rcases cmpI_tri ((1 : Nat) : Int) ((tailN k % 256 : Nat) : Int) with ⟨h', e'⟩ | ⟨h', e'⟩ | ⟨h', e'⟩
    · omega
    · rw [e']; omega
    · rw [e']; omega
  · rw [e, if_neg (by omega)]; omega
theorem vw_cut {ps pre post : Ps} {u : List Nat} {s s' : Nat} (heq : ps = pre ++ post) (hs' : s' ≤ 72057594037927935) (hss : s' ≤ s) (hmax : s' = s ∨ s' = 72057594037927935) (ha : Asc ps) (hb : ByP ps) (lo : ∀ p ∈ pre, ordK p.1 (keyL u s' 1) < 0) (hi : ∀ p, post.head? = some p → ¬ ordK p.1 (keyL u s' 1) < 0) :
    vw ps u s = match post with | [] => none | p :: _ => if userL p.1 = u then some p else none := by
  have hpre : ∀ p ∈ pre, userL p.1 = u → ¬ tailN p.1 / 256 ≤ s := fun p hp hu hle => by
    have hm : p ∈ ps := by rw [heq]; simp [hp]
    have hk := ha.1 p hm
    have h1 := (ord_same hu hk hs').1 (lo p hp)
    have h4 := tailN_lt (hb p hm).1 (isK_len hk).1
    omega
  have happ : vw ps u s = vw post u s := by
    unfold vw
    rw [heq, List.find?_append]
    have := vw_none hpre
    unfold vw at this
    rw [this]; rfl
  rw [happ]
  cases post with
  | nil => rfl
  | cons p r =>
    have hhi := hi p rfl
    have hm : p ∈ ps := by rw [heq]; simp
    have hk := ha.1 p hm
    by_cases hu : userL p.1 = u
    · show _ = if userL p.1 = u then some p else none
      rw [if_pos hu]
      unfold vw
      rw [List.find?_cons_of_pos]
      simp only [Bool.and_eq_true, decide_eq_true_eq]
      refine ⟨hu, ?_⟩
      have hn : ¬ s' < tailN p.1 / 256 := fun h => hhi ((ord_same hu hk hs').2 h)
      omega
    · show _ = if userL p.1 = u then some p else none
      rw [if_neg hu]
      have hgt : 0 < cmpN (userL p.1) u := by
        rw [ordK_is, keyL_user] at hhi
        have h0 : cmpN (userL p.1) u ≠ 0 := fun h => hu ((cmpN_eq _ _).1 h)
        rw [if_neg h0] at hhi
        omega
      refine vw_none fun x hx hxu => ?_
      rcases List.mem_cons.1 hx with rfl | hx
      · exact absurd hxu hu
      · exfalso
        have hsrt := ha.2
        rw [heq, List.pairwise_append] at hsrt
        have := ordU ((List.pairwise_cons.1 hsrt.2.1).1 x hx)
        rw [hxu] at this
        omega
/-- Where a search ends. -/
theorem srch {n : Nat} {P : Nat → Bool} (hm : ∀ i j, i ≤ j → j < n → P i = true → P j = true) : ∃ I, I ≤ n ∧ (I < n → P I = true) ∧ (∀ j, j < I → P j = false) ∧ ∀ k, k ≤ n → (k < n → P k = true) → (0 < k → P (k - 1) = false) → k = I := by
  have ex : ∀ m, ∃ I, I ≤ m ∧ (I < m → P I = true) ∧ ∀ j, j < I → P j = false := by
    intro m
    induction m with
    | zero => exact ⟨0, Nat.le_refl _, fun h => by omega, fun j h => by omega⟩
    | succ m ih =>
      obtain ⟨I, h1, h2, h3⟩ := ih
      by_cases hI : I < m
      · exact ⟨I, by omega, fun _ => h2 hI, h3⟩
      · have e : I = m := by omega
        subst e
        cases hp : P I with
        | true => exact ⟨I, by omega, fun _ => hp, h3⟩
        | false => exact ⟨I + 1, Nat.le_refl _, fun h => by omega, fun j hj => by
            by_cases e : j = I
            · rw [e]; exact hp
            · exact h3 j (by omega)⟩
  obtain ⟨I, h1, h2, h3⟩ := ex n
  refine ⟨I, h1, h2, h3, fun k k1 k2 k3 => ?_⟩
  rcases Nat.lt_trichotomy k I with h | h | h
  · have := h3 k h; rw [k2 (by omega)] at this; cases this
  · exact h
  · have := hm I (k - 1) (by omega) (by omega) (h2 (by omega)); rw [k3 (by omega)] at this; cases this
theorem ord_mono {qs : Ps} (hr : Rises qs) {key : List Nat} : ∀ i j, i ≤ j → j < qs.length → (!decide (ordK (kA qs i) key < 0)) = true → (!decide (ordK (kA qs j) key < 0)) = true := fun i j hij hj h => by
  by_cases e : i = j
  · rw [← e]; exact h
  · have := rises_ij hr (show i < j by omega) hj
    simp only [Bool.not_eq_true', decide_eq_false_iff_not] at h ⊢
    exact fun h2 => h (ord_lt this h2)
theorem ahead_key {D : List Ps} (hr : Rises D.flatten) (hne : ∀ c ∈ D, c ≠ []) {I : Nat} (hI : I ≤ D.length) {key : List Nat} (h : ∀ c, 0 < I → D[I - 1]? = some c → ordK (lastK c) key < 0) : ∀ p ∈ (D.take I).flatten, ordK p.1 key < 0 := by
  intro p hp
  by_cases h0 : I = 0
  · subst h0; simp at hp
  · have hc : D[I - 1]? = some (D[I - 1]'(by omega)) := List.getElem?_eq_getElem (by omega)
    generalize D[I - 1]'(by omega) = c at hc
    have hl := h c (by omega) hc
    have hm : c ∈ D := List.mem_of_getElem? hc
    have e : D.take I = D.take (I - 1) ++ [c] := by
      rw [show D.take I = D.take (I - 1 + 1) from by rw [show I - 1 + 1 = I from by omega], List.take_add_one, hc]; rfl
    have hs : ((D.take I).flatten).Sublist D.flatten := by
      rw [show D.flatten = (D.take I ++ D.drop I).flatten from by rw [List.take_append_drop], List.flatten_append]
      exact List.sublist_append_left _ _
    have h1 := (asc_of hr).2.sublist hs
    rw [e, List.flatten_append] at h1 hp
    simp only [List.flatten_cons, List.flatten_nil, List.append_nil] at h1 hp
    have hcl : c = c.dropLast ++ [c.getLast (hne c hm)] := (List.dropLast_concat_getLast (hne c hm)).symm
    rw [lastK_eq (hne c hm)] at hl
    rw [hcl, ← List.append_assoc] at h1 hp
    rcases List.mem_append.1 hp with hp | hp
    · exact ord_lt ((List.pairwise_append.1 h1).2.2 p hp _ (by simp)) hl
    · simp at hp
      rw [hp]; exact hl
theorem flat_cut {D : List Ps} {I J : Nat} {c : Ps} (hc : D[I]? = some c) (hJ : J < c.length) : D.flatten = ((D.take I).flatten ++ c.take J) ++ ((kA c J, vA c J) :: (c.drop (J + 1) ++ (D.drop (I + 1)).flatten)) := by
  have e1 : D = D.take I ++ (c :: D.drop (I + 1)) := by
    obtain ⟨hl', he'⟩ := List.getElem?_eq_some_iff.1 hc
    rw [← he', ← List.drop_eq_getElem_cons hl', List.take_append_drop]
  have e2 : c = c.take J ++ ((kA c J, vA c J) :: c.drop (J + 1)) := by
    obtain ⟨hl', he'⟩ := List.getElem?_eq_some_iff.1 (ps_at hJ)
    rw [← he', ← List.drop_eq_getElem_cons hl', List.take_append_drop]
  have e3 : D.flatten = (D.take I).flatten ++ (c ++ (D.drop (I + 1)).flatten) := by
    have := congrArg List.flatten e1
    rw [List.flatten_append, List.flatten_cons] at this
    exact this
  have e4 : c ++ (D.drop (I + 1)).flatten = c.take J ++ ((kA c J, vA c J) :: (c.drop (J + 1) ++ (D.drop (I + 1)).flatten)) := by
    have := congrArg (· ++ (D.drop (I + 1)).flatten) e2
    simp only [List.append_assoc, List.cons_append] at this
    exact this
  rw [e3, e4, List.append_assoc]
/-- What is told of a key. -/
def GetR (e : Ending) (w : World) (o : Option (List Nat × List Nat)) : Prop := match o with
  | none => e = .returned (.tuple #[.slice none 0 0, .int .i64 0, .bool false, .int .i64 0])
  | some p => ∃ vv, e = .returned (.tuple #[vv, .int .i64 ((tailN p.1 % 256 : Nat) : Int), .bool true, .int .i64 0]) ∧ Rd w vv (bv p.2)
theorem get_built (w : World) {p r most bits : Nat} {ps : Ps} {da fa : Option Addr} {dc fc G : Nat} (T : Tab w p (datL r (chs most ps)) (fltL bits (usN ps ps.length)) (idxF r 0 (chs most ps)) da dc fa fc G) (hl : Lim ps) (hr : Rises ps) (hb : ByP ps) (h1 : 1 ≤ r) (h2 : r ≤ 64) (hbits : bits ≤ 64) {user : List Nat} (bu : By user) {seq : Nat} {uv : Value} (ru : Rd w uv (bv user)) :
    Calls Try.prog 13 #[.pointer (some ⟨p, 0, none⟩), uv, .int .u64 (seq : Int)] w fun e w' => GetR e w' (vw ps user seq) ∧ Fr [] w w' := by
  have hf := chs_flat most ps
  have hD := hl.dat r most
  have hn := hl.n
  have hI0 := hl.idx hr r most
  have hrD : Rises (chs most ps).flatten := by rw [hf.1]; exact hr
  have hbD : ByP (chs most ps).flatten := by rw [hf.1]; exact hb
  have bi := idx_by (r := r) _ 0 hbD hf.2
  have ri := idx_rises (r := r) (t := 0) hf.2 hrD
  have ha := asc_of hr
  have lf := fltL_bd (bits := bits) (rs := usN ps ps.length) hbits (by have := usN_len ps ps.length; omega)
  by_cases hu : 128 < user.length
  · have : vw ps user seq = none := vw_none fun q hq hqu => by
      have := (isK_len (ha.1 q hq)).2.1
      rw [← hqu] at hu
      unfold userL at hu
      rw [List.length_take] at hu
      omega
    rw [this]
    exact get_long w hu ru
  have lu : user.length ≤ 128 := by omega
  cases hmay : mayF (fltL bits (usN ps ps.length)) user with
  | false =>
    have : vw ps user seq = none := vw_none fun q hq hqu => by
      exfalso
      obtain ⟨i, hi⟩ := List.getElem?_of_mem hq
      have hil := (List.getElem?_eq_some_iff.1 hi).1
      have hm := usN_mem ps ps.length i hil
      rw [(kA_at hi).1, hqu] at hm
      obtain ⟨j, hj⟩ := List.getElem?_of_mem hm
      have hjl := (List.getElem?_eq_some_iff.1 hj).1
      have := may_flt (bits := bits) (rs := usN ps ps.length) hjl
      rw [show rA (usN ps ps.length) j = user from by unfold rA; rw [hj]; rfl, hmay] at this
      cases this
    rw [this]
    by_cases hq : seq ≤ 72057594037927935
    · exact get_nomay w T hq (fltL_by _ _) (by omega) bu lu hmay ru
    · exact get_nomayG w T (by omega) (fltL_by _ _) (by omega) bu lu hmay ru
  | true =>
    obtain ⟨s', hs', hss, hmax⟩ : ∃ s', s' ≤ 72057594037927935 ∧ s' ≤ seq ∧ (s' = seq ∨ s' = 72057594037927935) := by
      by_cases hq : seq ≤ 72057594037927935
      · exact ⟨seq, hq, Nat.le_refl _, .inl rfl⟩
      · exact ⟨72057594037927935, Nat.le_refl _, by omega, .inr rfl⟩
    obtain ⟨I, i1, i2, i3, i4⟩ := srch (ord_mono ri (key := keyL user s' 1))
    have hlenI : (idxF r 0 (chs most ps)).length = (chs most ps).length := idxF_len _ _ _
    have lo : ∀ q ∈ ((chs most ps).take I).flatten, ordK q.1 (keyL user s' 1) < 0 := ahead_key hrD hf.2 (by omega) fun c h0 hc => by
      have := i3 (I - 1) (by omega)
      rw [(idx_val (by omega) hc).2] at this
      simpa using this
    by_cases hIn : I = (idxF r 0 (chs most ps)).length
    · have hv : vw ps user seq = none := by
        rw [vw_cut (pre := ps) (post := []) (by simp) hs' hss hmax ha hb (fun q hq => lo q (by rw [List.take_of_length_le (by omega), hf.1]; exact hq)) (fun q h => by cases h)]
      rw [hv]
      rw [hIn] at i4
      rcases hmax with e | e
      · subst e
        exact get_end w T hs' (fltL_by _ _) (by omega) bu lu hmay ri bi (by omega) i4 ru
      · subst e
        by_cases hq : seq ≤ 72057594037927935
        · have e : seq = 72057594037927935 := by omega
          subst e
          exact get_end w T (Nat.le_refl _) (fltL_by _ _) (by omega) bu lu hmay ri bi (by omega) i4 ru
        · exact get_endG w T (by omega) (fltL_by _ _) (by omega) bu lu hmay ri bi (by omega) i4 ru
    · have hIl : I < (chs most ps).length := by omega
      have hc : (chs most ps)[I]? = some (chs most ps)[I] := List.getElem?_eq_getElem hIl
      generalize (chs most ps)[I] = c at hc
      have hcm := List.mem_of_getElem? hc
      have hrc := chunk_rises hrD hcm
      have hcl := List.length_pos_iff.2 (hf.2 c hcm)
      obtain ⟨J, j1, j2, j3, j4⟩ := srch (ord_mono hrc (key := keyL user s' 1))
      have hJ : J < c.length := by
        rcases Nat.lt_or_ge J c.length with h | h
        · exact h
        · have h3 := j3 (c.length - 1) (by omega)
          have h4 := i2 (by omega)
          rw [(idx_val (by omega) hc).2] at h4
          rw [show kA c (c.length - 1) = lastK c from rfl, h4] at h3
          cases h3
      have lk := idx_look (r := r) hbD (by omega) hc
      have hle := dat_le (r := r) hc
      have hnx := idx_nx (r := r) (D := chs most ps) (by omega) I (by omega)
      have hsz := idx_sz (r := r) (by omega) hc
      have hv : vw ps user seq = if userL (kA c J) = user then some (kA c J, vA c J) else none := by
        have e : ps = (((chs most ps).take I).flatten ++ c.take J) ++ ((kA c J, vA c J) :: (c.drop (J + 1) ++ ((chs most ps).drop (I + 1)).flatten)) := by
          have g := flat_cut hc hJ
          rw [hf.1] at g
          exact g
        rw [vw_cut e hs' hss hmax ha hb (fun q hq => ?_) (fun q hq => ?_)]
        · rcases List.mem_append.1 hq with hq | hq
          · exact lo q hq
          · obtain ⟨j, hj⟩ := List.getElem?_of_mem hq
            have hjl := (List.getElem?_eq_some_iff.1 hj).1
            rw [List.length_take] at hjl
            rw [List.getElem?_take_of_lt (by omega)] at hj
            have := j3 j (by omega)
            rw [(kA_at hj).1] at this
            simpa using this
        · cases hq
          have := j2 hJ
          simpa using this
      rw [hv]
      by_cases hus : userL (kA c J) = user
      · rw [if_pos hus]
        have F : Fnd (datL r (chs most ps)) (fltL bits (usN ps ps.length)) (idxF r 0 (chs most ps)) c user s' I J r := ⟨datL_by hbD, by omega, fltL_by _ _, by omega, ri, bi, by omega, bu, lu, hs', hmay, i4, by omega, by rw [hnx, hsz]; exact hle, lk.1, by rw [lk.2]; exact ⟨hrc, h1, h2, rfl⟩, hf.2 c hcm, ((idx_val (by omega) hc).2).symm, j4, hJ, hus⟩
        rcases hmax with e | e
        · subst e
          exact (get_found w T F ru).mono fun e w' ⟨vv, e1, r1, f1⟩ => ⟨⟨vv, e1, r1⟩, f1⟩
        · subst e
          by_cases hq : seq ≤ 72057594037927935
          · have e : seq = 72057594037927935 := by omega
            subst e
            exact (get_found w T F ru).mono fun e w' ⟨vv, e1, r1, f1⟩ => ⟨⟨vv, e1, r1⟩, f1⟩
          · exact (get_foundG w T (by omega) F ru).mono fun e w' ⟨vv, e1, r1, f1⟩ => ⟨⟨vv, e1, r1⟩, f1⟩
      · rw [if_neg hus]
        have F : Fno (datL r (chs most ps)) (fltL bits (usN ps ps.length)) (idxF r 0 (chs most ps)) c user s' I J r := ⟨datL_by hbD, by omega, fltL_by _ _, by omega, ri, bi, by omega, bu, lu, hs', hmay, i4, by omega, by rw [hnx, hsz]; exact hle, lk.1, by rw [lk.2]; exact ⟨hrc, h1, h2, rfl⟩, hf.2 c hcm, ((idx_val (by omega) hc).2).symm, j4, hJ, hus⟩
        rcases hmax with e | e
        · subst e
          exact get_other w T F ru
        · subst e
          by_cases hq : seq ≤ 72057594037927935
          · have e : seq = 72057594037927935 := by omega
            subst e
            exact get_other w T F ru
          · exact get_otherG w T (by omega) F ru
end Go.Proofs.Ytobdegmlijnogaa
