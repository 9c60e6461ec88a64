/-
  An entry of the index: its two numbers.
-/
import Derived.Test.YtolcocplinkpdaaXG
import Derived.Test.YtolcocplinkpdaaJ02
namespace Go.Proofs.Ytolcocplinkpdaa
open Go.ChangeShapes Go.WideShapes Go.ChangeAt Go.RowKit

theorem ret_ct {fn : Func} {p u : Tmp} {ty : TypeId} (h : fn.results = #[.cell p ty, .tmp u]) {tmps : Array Value} {w : World} {g : Nat} {cs : Array Value} (hp : tmps.getD p undef = .pointer (some ⟨g, 0, none⟩)) (hg : (loadVar ty ⟨g, 0, none⟩).run Try.prog w = .ok (.agg cs) w) :
    (results fn tmps).run Try.prog w = .ok (.tuple #[.agg cs, tmps.getD u undef]) w := by
  have hp' : tmps[p]?.getD undef = .pointer (some ⟨g, 0, none⟩) := by simpa using hp
  simp [results, h, hp', asAddr, hg]
theorem load_pc2 {w : World} {g : Nat} {a b : Value} {t : TypeId} (hg : w.heap[g]? = some (.cells #[a, b] t (0, 0))) : (loadVar 68 ⟨g, 0, none⟩).run Try.prog w = .ok (.agg #[a, b]) w :=
  run_loadVar_row w g t 68 #[a, b] (0, 0) _ hg Try.underlying68 rfl sizePc
theorem Rd.backc {w : World} {q o c : Nat} {b : List Nat} (h : Rd w (.slice (some ⟨q, o, none⟩) b.length c) (bv b)) {k : Nat} (hk : k ≤ b.length) : Rd w (.slice (if c = k then some ⟨q, o, none⟩ else some ⟨q, o + k, none⟩) (b.length - k) (c - k)) (bv (b.drop k)) := by
  have hc := h.cap
  split
  · have hl : b.length = k := by omega
    have e : b.drop k = [] := List.drop_eq_nil_of_le (by omega)
    refine .inr ⟨_, _, by rw [e, hl, Nat.sub_self]; rfl, by rw [e]; simp [bv], fun j u hj => by rw [e] at hj; simp [bv] at hj⟩
  · exact h.back hk
/-- The two numbers, read one after the other. -/
structure Pl (v : List Nat) (a k e1 n j e2 : Nat) : Prop where
  t1 : takeL v = (a, k, e1)
  t2 : takeL (v.drop k) = (n, j, e2)
  hk : k ≤ v.length
  hj : j ≤ v.length - k
  ha : a < 18446744073709551616
  hn : n < 18446744073709551616
theorem pl_ex {v : List Nat} (hb : By v) : ∃ a k e1 n j e2, Pl v a k e1 n j e2 := by
  have h1 := tk_bound v hb 0 0 (by omega) (by omega)
  have h2 := tk_bound (v.drop (takeL v).2.1) (hb.drop _) 0 0 (by omega) (by omega)
  rw [Nat.zero_add] at h1 h2
  rw [List.length_drop] at h2
  exact ⟨_, _, _, _, _, _, rfl, rfl, h1.2.1, h2.2.1, h1.1, h2.1⟩
theorem Pl.eq {v : List Nat} {a k e1 n j e2 : Nat} (h : Pl v a k e1 n j e2) : placeL v = if e1 = 0 ∧ e2 = 0 ∧ k + j = v.length then some (a, n) else none := by
  unfold placeL
  rw [h.t1]
  dsimp only
  rw [h.t2]
theorem takeL_err {v : List Nat} : ∀ (i x : Nat), (tk i x v).2.2 = 0 ∨ (tk i x v).2.2 = 20 ∨ (tk i x v).2.2 = 21 := by
  induction v with
  | nil => intro i x; right; left; rfl
  | cons y r ih =>
    intro i x
    by_cases h1 : i = 9 ∧ 1 < y ∨ 0 < i ∧ y = 0
    · rw [tk_bad h1]; right; right; rfl
    · by_cases h2 : y < 128
      · rw [tk_end h1 h2]; left; rfl
      · rw [tk_on h1 h2]; exact ih _ _
set_option maxRecDepth 20000 in
set_option maxHeartbeats 3200000 in
theorem placeOf_c (w : World) {q o c : Nat} {v : List Nat} (hr : Rd w (.slice (some ⟨q, o, none⟩) v.length c) (bv v)) (hb : By v) (hl : v.length ≤ 1000000000) :
    Calls Try.prog 78 #[.slice (some ⟨q, o, none⟩) v.length c] w fun e w' => ((∃ a n : Nat, e = .returned (.tuple #[.agg #[.int .u64 (a : Int), .int .u64 (n : Int)], .bool true]) ∧ placeL v = some (a, n)) ∨ (e = .returned (.tuple #[.agg #[.int .u64 0, .int .u64 0], .bool false]) ∧ placeL v = none)) ∧ Fr [] w w' := by
  obtain ⟨a, k, e1, n, j, e2, hp⟩ := pl_ex hb
  have HP := hid hp.eq
  have hk := hp.hk
  have hj := hp.hj
  have ha := hp.ha
  have hn := hp.hn
  have hcap := hr.cap
  obtain ⟨W0, hW0⟩ : ∃ W0, W0 = w.alloc (.cells #[.int .u64 0, .int .u64 0] 68) := ⟨_, rfl⟩
  have F0 : Hid (Fr [] w W0) := hid (by rw [hW0]; exact (Fr.refl _ _).alloc _)
  have N0 : Hid (W0.heap[w.heap.size]? = some (.cells #[.int .u64 0, .int .u64 0] 68 (0, 0))) := hid (by rw [hW0]; exact blk_new _ _)
  have T1 := hid (take_c (hr.fr F0.out) hb (by omega))
  have T2 := hid (take_c ((hr.fr F0.out).backc hk) (hb.drop _) (by rw [List.length_drop]; omega))
  have E1 := takeL_err (v := v) 0 0
  have E2 := takeL_err (v := v.drop k) 0 0
  have t1 := hp.t1
  have t2 := hp.t2
  unfold takeL at t1 t2
  rw [t1] at E1
  rw [t2] at E2
  rw [hp.t1] at T1
  rw [hp.t2] at T2
  unfold tkv at T1 T2
  clear hp t1 t2 hr hb
  obtain ⟨L, hL⟩ : ∃ L, v.length = L := ⟨_, rfl⟩
  rw [hL] at hl hk hj hcap T1 T2 HP ⊢
  clear hL
  by_cases h1 : e1 = 0
  · by_cases h2 : e2 = 0
    · by_cases h3 : k + j = L
      · have hpl : Hid (placeL v = some (a, n)) := hid (by rw [HP.out, if_pos ⟨h1, h2, h3⟩])
        have h3' : ((k : Int) + (j : Int) == (L : Int)) = true := by rw [beq_iff_eq]; omega
        subst h1 h2
        clear HP h3 E1 E2
        go_enter Try.func78, Try.ntmps78
        go_wp2_with (first
          | (go_at_call 97; have zz := Z1; clear zz; refine T2.out.mono ?_; rintro e w1 ⟨rfl, h⟩; rw [h]; clear h)
          | (go_at_call 97; rw [← hW0]; clear hW0; have Z1 := N0.out; have z0 := (show W0.cell? ⟨w.heap.size, 0, none⟩ = some (.int .u64 0) from (by rw [blk_cell Z1]; rfl)); have z1 := (show W0.cell? ⟨w.heap.size, 1, none⟩ = some (.int .u64 0) from (by rw [blk_cell Z1]; rfl)); have zf := blk_frozen Z1; refine T1.out.mono ?_; rintro e w1 ⟨rfl, h⟩; rw [h]; clear h))
        all_goals refine bodyPost_ret (ret_ct rfl (g := w.heap.size) (by simp) (load_pc2 (a := .int .u64 (a : Int)) (b := .int .u64 (n : Int)) (by rw [blk_set (blk_set N0.out 0 _) 1 _]; rfl))) rfl ?_
        all_goals exact ⟨.inl ⟨a, n, rfl, hpl.out⟩, (F0.out.set _ _ (.inr (Nat.le_refl _))).set _ _ (.inr (Nat.le_refl _))⟩
      · have hpl : Hid (placeL v = none) := hid (by rw [HP.out, if_neg (fun h => h3 h.2.2)])
        have h3' : ((k : Int) + (j : Int) == (L : Int)) = false := by rw [beq_eq_false_iff_ne]; omega
        subst h1 h2
        clear HP h3 E1 E2
        go_enter Try.func78, Try.ntmps78
        go_wp2_with (first
          | (go_at_call 97; have zz := Z1; clear zz; refine T2.out.mono ?_; rintro e w1 ⟨rfl, h⟩; rw [h]; clear h)
          | (go_at_call 97; rw [← hW0]; clear hW0; have Z1 := N0.out; have z0 := (show W0.cell? ⟨w.heap.size, 0, none⟩ = some (.int .u64 0) from (by rw [blk_cell Z1]; rfl)); have z1 := (show W0.cell? ⟨w.heap.size, 1, none⟩ = some (.int .u64 0) from (by rw [blk_cell Z1]; rfl)); have zf := blk_frozen Z1; refine T1.out.mono ?_; rintro e w1 ⟨rfl, h⟩; rw [h]; clear h))
        all_goals refine bodyPost_ret (ret_ct rfl (g := w.heap.size) (by simp) (load_pc2 (a := .int .u64 0) (b := .int .u64 0) (by rw [blk_set (blk_set N0.out 0 _) 1 _]; rfl))) rfl ?_
        all_goals exact ⟨.inr ⟨rfl, hpl.out⟩, (F0.out.set _ _ (.inr (Nat.le_refl _))).set _ _ (.inr (Nat.le_refl _))⟩
    · have hpl : Hid (placeL v = none) := hid (by rw [HP.out, if_neg (fun h => h2 h.2.1)])
      have h2' : ((e2 : Int) == 0) = false := by rw [beq_eq_false_iff_ne]; omega
      subst h1
      clear HP E1 E2
      go_enter Try.func78, Try.ntmps78
      go_wp2_with (first
        | (go_at_call 97; have zz := Z1; clear zz; refine T2.out.mono ?_; rintro e w1 ⟨rfl, h⟩; rw [h]; clear h)
        | (go_at_call 97; rw [← hW0]; clear hW0; have Z1 := N0.out; have z0 := (show W0.cell? ⟨w.heap.size, 0, none⟩ = some (.int .u64 0) from (by rw [blk_cell Z1]; rfl)); have z1 := (show W0.cell? ⟨w.heap.size, 1, none⟩ = some (.int .u64 0) from (by rw [blk_cell Z1]; rfl)); have zf := blk_frozen Z1; refine T1.out.mono ?_; rintro e w1 ⟨rfl, h⟩; rw [h]; clear h))
      all_goals refine bodyPost_ret (ret_ct rfl (g := w.heap.size) (by simp) (load_pc2 (a := .int .u64 0) (b := .int .u64 0) (by rw [blk_set (blk_set N0.out 0 _) 1 _]; rfl))) rfl ?_
      all_goals exact ⟨.inr ⟨rfl, hpl.out⟩, (F0.out.set _ _ (.inr (Nat.le_refl _))).set _ _ (.inr (Nat.le_refl _))⟩
  · have hpl : Hid (placeL v = none) := hid (by rw [HP.out, if_neg (fun h => h1 h.1)])
    have h1' : ((e1 : Int) == 0) = false := by rw [beq_eq_false_iff_ne]; omega
    clear HP E1 E2
    go_enter Try.func78, Try.ntmps78
    go_wp2_with (first
      | (go_at_call 97; have zz := Z1; clear zz; refine T2.out.mono ?_; rintro e w1 ⟨rfl, h⟩; rw [h]; clear h)
      | (go_at_call 97; rw [← hW0]; clear hW0; have Z1 := N0.out; have z0 := (show W0.cell? ⟨w.heap.size, 0, none⟩ = some (.int .u64 0) from (by rw [blk_cell Z1]; rfl)); have z1 := (show W0.cell? ⟨w.heap.size, 1, none⟩ = some (.int .u64 0) from (by rw [blk_cell Z1]; rfl)); have zf := blk_frozen Z1; refine T1.out.mono ?_; rintro e w1 ⟨rfl, h⟩; rw [h]; clear h))
    all_goals refine bodyPost_ret (ret_ct rfl (g := w.heap.size) (by simp) (load_pc2 (a := .int .u64 0) (b := .int .u64 0) (by rw [blk_set (blk_set N0.out 0 _) 1 _]; rfl))) rfl ?_
    all_goals exact ⟨.inr ⟨rfl, hpl.out⟩, (F0.out.set _ _ (.inr (Nat.le_refl _))).set _ _ (.inr (Nat.le_refl _))⟩
end Go.Proofs.Ytolcocplinkpdaa
