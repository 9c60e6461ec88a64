/-
  FilterHas: the walk.
-/
import Derived.Test.YtekcpecofclgiaaGD
import Derived.Test.YtekcpecofclgiaaSt
namespace Go.Proofs.Ytekcpecofclgiaa
open Go.ChangeShapes Go.WideShapes Go.ChangeAt Go.RowKit

def totL (rs : List (List Nat)) : Nat → Nat
  | 0 => 0
  | i + 1 => totL rs i + (rA rs i).length
set_option maxRecDepth 20000 in
set_option maxHeartbeats 1600000 in
theorem small_c (w : World) {v : Value} {rs : List (List Nat)} (h : RdL w v rs) (hl : rs.length ≤ 9223372036854775807) :
    Calls Try.prog 23 #[v] w fun e w' => (e = .returned (.bool false) ∨ e = .returned (.bool true) ∧ Hid (rs.length ≤ 60)) ∧ Fr [] w w' := by
  obtain ⟨a, c, rfl, k1⟩ := h
  have H1 := hid k1
  clear k1
  obtain ⟨n, hn⟩ : ∃ n, n = rs.length := ⟨_, rfl⟩
  have HN := hid hn
  rw [← hn] at hl ⊢
  clear hn
  go_enter Try.func23, Try.ntmps23
  go_wp2_with fail
  go_loopw [3, 4] (fun v3 v4 wr => ∃ i : Nat, i ≤ n ∧ v4 = .int .i64 (i : Int) ∧ v3 = .int .i64 (totL rs i : Int) ∧ totL rs i ≤ 281474976715656 ∧ Fr [] w wr) (fun _ v4 _ => n - (intOf v4).toNat)
  case atStart => exact ⟨0, Nat.zero_le _, rfl, rfl, by simp [totL], Fr.refl _ _⟩
  case round =>
    obtain ⟨i, hi, rfl, rfl, ht, hf⟩ := hrel
    have HF := hid hf
    have htt1 : totL rs (i + 1) = totL rs i + (rA rs i).length := rfl
    have HTT := hid htt1
    clear hf htt1
    generalize htt : totL rs i = tt at *
    by_cases hgo : i < n ∧ tt ≤ 3000
    · obtain ⟨hlt, h5⟩ := hgo
      have hil : i < rs.length := by rw [← HN.out]; exact hlt
      obtain ⟨b, off, rfl, m1⟩ := H1.out (by omega)
      obtain ⟨ka, kc, e1, e2, e3, e4⟩ := m1 i _ (rA_at hil)
      have z1 := cell_fr HF.out e1
      clear m1 htt hil e1 e2 e3
      generalize (rA rs i).length = lk at *
      have hlt' : (i : Int) < (n : Int) := by omega
      have h5' : (tt : Int) ≤ 3000 := by omega
      go_wp2
      go_roundw
      case rel => exact ⟨i + 1, by omega, by go_num, by rw [HTT.out]; simp, by rw [HTT.out]; omega, HF.out⟩
      case measure => simp [intOf]; omega
    · by_cases h60 : n ≤ 60
      · by_cases h5 : tt ≤ 3000
        · have hin : i = n := by omega
          subst hin
          go_wp2
          go_ret
          exact ⟨.inr ⟨by simp <;> omega, hid (by omega)⟩, HF.out⟩
        · by_cases hlt : i < n
          all_goals
            go_wp2
            go_ret
            exact ⟨.inl (by simp <;> omega), HF.out⟩
      · by_cases hlt : i < n
        all_goals
          go_wp2
          all_goals
            go_ret
            exact ⟨.inl (by simp <;> omega), HF.out⟩
/-- A list of lists as a row of values. -/
theorem RdL.vals {w : World} {b off n c : Nat} {rs : List (List Nat)} (h : RdL w (.slice (some ⟨b, off, none⟩) n c) rs) (h0 : 0 < rs.length) : ∃ xs : List Value, xs.length = rs.length ∧ (∀ j u, xs[j]? = some u → w.cell? ⟨b, off + j, none⟩ = some u) ∧ (∀ u ∈ xs, u.oneCell' = true) ∧ ∀ (j : Nat) (r : List Nat), rs[j]? = some r → ∃ a' c', xs[j]? = some (.slice a' r.length c') ∧ Rd w (.slice a' r.length c') (bv r) ∧ By r ∧ r.length ≤ 140737488355328 := by
  obtain ⟨a, c', e, hq⟩ := h
  obtain ⟨b', off', e', h4⟩ := hq h0
  subst e'
  simp only [Value.slice.injEq, Option.some.injEq, Addr.mk.injEq] at e
  obtain ⟨⟨rfl, rfl, _⟩, _⟩ := e
  have hh : ∀ j, j < rs.length → ∃ u, w.cell? ⟨b, off + j, none⟩ = some u ∧ u.oneCell' = true := fun j hj => by
    obtain ⟨a', c', k1, _⟩ := h4 j _ (List.getElem?_eq_getElem hj)
    exact ⟨_, k1, rfl⟩
  refine ⟨(List.range rs.length).map fun j => (w.cell? ⟨b, off + j, none⟩).getD default, by simp, fun j u hj => ?_, fun u hu => ?_, fun j r hj => ?_⟩
  · rw [List.getElem?_map] at hj
    have hjl : j < rs.length := by
      rcases Nat.lt_or_ge j rs.length with h | h
      · exact h
      · rw [List.getElem?_eq_none (by simpa using h)] at hj; cases hj
    obtain ⟨x, hx, _⟩ := hh j hjl
    rw [List.getElem?_range hjl] at hj
    simp [hx] at hj
    rw [hx, hj]
  · obtain ⟨j, hj, rfl⟩ := List.mem_map.1 hu
    obtain ⟨x, hx, ho⟩ := hh j (by simpa using hj)
    rw [hx]; exact ho
  · have hjl : j < rs.length := by
      rcases Nat.lt_or_ge j rs.length with h | h
      · exact h
      · rw [List.getElem?_eq_none h] at hj; cases hj
    obtain ⟨a', c', k1, k2⟩ := h4 j r hj
    refine ⟨a', c', ?_, k2⟩
    rw [List.getElem?_map, List.getElem?_range hjl]
    simp [k1]
/-- A row of the call's own of such values is such a list. -/
theorem vals_rdL {w w' : World} {B : Nat} {v : Value} {rs : List (List Nat)} {xs : List Value} (o : w'.ownsRow B 26 1 v rs.length xs) (h : ∀ (j : Nat) (r : List Nat), rs[j]? = some r → ∃ a' c', xs[j]? = some (.slice a' r.length c') ∧ Rd w (.slice a' r.length c') (bv r) ∧ By r ∧ r.length ≤ 140737488355328) (f : Fr [] w w') : RdL w' v rs := by
  rcases o.2 with ⟨rfl, h0⟩ | ⟨g, cap, cur, rfl, _, h3, h4, h5⟩
  · have : rs = [] := List.eq_nil_of_length_eq_zero h0
    subst this
    exact ⟨none, 0, rfl, fun h => by simp at h⟩
  · refine ⟨_, cap, rfl, fun _ => ⟨g, 0, rfl, fun j r hj => ?_⟩⟩
    obtain ⟨a', c', k1, k2, k3⟩ := h j r hj
    have := o.cells rfl j _ k1
    rw [Addr.add_lit] at this
    exact ⟨a', c', this, k2.fr f, k3⟩
theorem rot_mem {α : Type} (rs : List α) (k : Nat) (r : α) : r ∈ rs ↔ r ∈ rs.drop k ++ rs.take k := by
  rw [List.mem_append, Or.comm, ← List.mem_append, List.take_append_drop]
theorem flt_rot (bits : Nat) (rs : List (List Nat)) (k : Nat) (hk : k ≤ rs.length) : fltL bits (rs.drop k ++ rs.take k) = fltL bits rs := by
  have hl : (rs.drop k ++ rs.take k).length = rs.length := by rw [List.length_append, List.length_drop, List.length_take]; omega
  unfold fltL
  congr 1
  have := fM_same (L := fL bits rs.length) (t := fT bits) (by have := fL_pos bits rs.length; omega) (fun r => (rot_mem rs k r))
  rw [this]
  congr 1
  rw [hl]
set_option maxRecDepth 20000 in
set_option maxHeartbeats 6400000 in
theorem has7_c (w : World) {a : Option Addr} {n c : Nat} {rs : List (List Nat)} (h : RdL w (.slice a n c) rs) (hn : n = rs.length) (hl : n ≤ 9223372036854775807) (hc : n ≤ c) (bits turn : Int) :
    Calls Try.prog 8 #[.slice a n c, .int .i64 bits, .int .i64 turn] w fun e w' => e = .returned (.bool true) ∧ Fr [] w w' := by
  have KN := hid (known_c w)
  have HK := hid h
  have HN := hid hn
  clear h hn
  go_enter Try.func8, Try.ntmps8
  go_wp2_with fail
  refine KN.out.mono ?_
  rintro e w1 ⟨rfl, f1⟩
  have F1 := hid f1
  have SC := hid (small_c w1 (HK.out.fr f1) (by rw [← HN.out]; exact hl))
  clear f1 KN
  go_wp2_with fail
  refine SC.out.mono ?_
  rintro e w2 ⟨hq, f2⟩
  have F2 := hid (F1.out.trans f2)
  clear f2 SC
  rcases hq with rfl | ⟨rfl, hsm⟩
  · go_wp2
    go_ret
    exact ⟨rfl, F2.out⟩
  have hn60 : n ≤ 60 := by rw [HN.out]; exact hsm.out
  clear hsm
  by_cases hbad : bits < 1 ∨ 64 < bits
  · have FP := hid (filter_plan w2 (a := a) (n := n) (c := c) bits hbad)
    go_wp2_with fail
    refine FP.out.mono ?_
    rintro e w3 ⟨rfl, f3⟩
    have F3 := hid (F2.out.trans f3)
    clear f3 FP
    rcases hbad with hb | hb
    all_goals
      go_wp2
      go_ret
      exact ⟨by simp <;> omega, F3.out⟩
  obtain ⟨bb, hbb⟩ : ∃ bb : Nat, bits = (bb : Int) := ⟨bits.toNat, by omega⟩
  subst hbb
  have h2 : 1 ≤ bb := by omega
  have h3 : bb ≤ 64 := by omega
  clear hbad
  have FC := hid (filter_c w2 (HK.out.fr F2.out) (by rw [← HN.out]; omega) bb h2 h3)
  go_wp2_with fail
  refine FC.out.mono ?_
  rintro e w3 ⟨bv3, rfl, o3, f3⟩
  have F3 := hid (F2.out.trans f3)
  obtain ⟨ba, bc, rfl, _⟩ := ownsRow_slice o3
  have O3 := hid o3
  have hfl : (fltL bb rs).length ≤ 1000000 := by
    rw [fltL_len, ← HN.out]
    unfold fL
    have : bb * n ≤ 64 * 60 := Nat.mul_le_mul h3 hn60
    omega
  clear o3 f3 FC
  go_wp2_with fail
  go_loopw [9] (fun v9 wr => ∃ i : Nat, i ≤ n ∧ v9 = .int .i64 (i : Int) ∧ wr = w3) (fun v9 _ => n - (intOf v9).toNat)
  case atStart => exact ⟨0, Nat.zero_le _, rfl, rfl⟩
  case round =>
    obtain ⟨i, hi, rfl, rfl⟩ := hrel
    by_cases hlt : i < n
    · have hil : i < rs.length := by rw [← HN.out]; exact hlt
      obtain ⟨a', c', e', k1⟩ := HK.out
      simp only [Value.slice.injEq] at e'
      obtain ⟨rfl, hq, rfl⟩ := e'
      clear hq
      obtain ⟨b, off, rfl, m1⟩ := k1 (by omega)
      obtain ⟨ka, kc, e1, e2, e3, e4⟩ := m1 i _ (rA_at hil)
      have z1 := cell_fr F3.out e1
      have MC := may_c wr (f := fltL bb rs) (key := rA rs i) (Rd.ownB O3.out) (fltL_by _ _) (by omega) (e2.fr F3.out) e3 e4
      rw [may_flt hil] at MC
      have HM := hid MC
      clear MC m1 k1 e1 e2 e3 e4
      generalize (rA rs i).length = kl at *
      generalize (fltL bb rs).length = fl at *
      go_wp2_with fail
      refine HM.out.mono ?_
      rintro e w4 ⟨rfl, rfl⟩
      go_wp2
      go_roundw
      case rel => exact ⟨i + 1, by omega, by go_num, by first | rfl | trivial⟩
      case measure => simp [intOf]; omega
    · have hie : i = n := by omega
      subst hie
      by_cases h0 : i = 0
      · subst h0
        go_wp2
        go_ret
        exact ⟨rfl, F3.out⟩
      obtain ⟨m1, hm1⟩ : ∃ m, turn.tmod (i : Int) = m := ⟨_, rfl⟩
      have hi0 : (0 : Int) < (i : Int) := by omega
      have hm1a : m1 < (i : Int) := by rw [← hm1]; exact Int.tmod_lt_of_pos turn hi0
      have hm1b : -(i : Int) < m1 := by rw [← hm1]; exact Int.lt_tmod_of_pos turn hi0
      obtain ⟨k, hk⟩ : ∃ k : Nat, (m1 + (i : Int)).tmod (i : Int) = (k : Int) := ⟨((m1 + (i : Int)).tmod (i : Int)).toNat, by have := Int.tmod_nonneg (i : Int) (show 0 ≤ m1 + (i : Int) from by omega); omega⟩
      have hki : k < i := by have := Int.tmod_lt_of_pos (m1 + (i : Int)) hi0; omega
      obtain ⟨b, off, hab⟩ : ∃ b off, a = some ⟨b, off, none⟩ := by
        obtain ⟨a', c', e', k1⟩ := HK.out
        simp only [Value.slice.injEq] at e'
        obtain ⟨rfl, _, rfl⟩ := e'
        obtain ⟨b, off, rfl, _⟩ := k1 (by have := HN.out; omega)
        exact ⟨b, off, rfl⟩
      subst hab
      obtain ⟨xs, hxl, hxc, hx1, hxr⟩ := HK.out.vals (by have := HN.out; omega)
      have HX := hid (And.intro hxl (And.intro hxc (And.intro hx1 hxr)))
      clear hxl hxc hx1 hxr
      have hck : ¬ c = k := by omega
      have hkc : k ≤ c := by omega
      have hik : ¬ i < k := by omega
      have F4 := hid (F3.out.drew)
      go_upto_region 16 with fail
      clear hm1 hk hm1a hm1b hi0
      refine wp_region_held_drew (S := fun _ => True) (by kernel_rfl) trivial (fun _ => ?_)
      refine wpAnyH_take (i := 0) (v := .slice (some ⟨b, off, none⟩) i c) rfl (by kernel_rfl) (by kernel_rfl) (by kernel_rfl) (fun _ _ _ h => h) (.inl ⟨by rfl, fun wx _ => by go_simp⟩) trivial ?_
      simp only [Act.put]
      refine wpAnyH_take (i := 1) (v := .int .i64 (k : Int)) rfl (by kernel_rfl) (by kernel_rfl) (by kernel_rfl) (fun _ _ _ h => h) (.inl ⟨by rfl, fun wx _ => by go_simp⟩) trivial ?_
      simp only [Act.put]
      refine wpAnyH_take (i := 2) (v := .slice (some ⟨b, off + k, none⟩) (i - k) (c - k)) rfl (by kernel_rfl) (by kernel_rfl) (by kernel_rfl) (fun _ _ _ h => h) (.inl ⟨by rfl, fun wx _ => by go_simp⟩) trivial ?_
      simp only [Act.put]
      refine wpAnyH_take (i := 4) (v := .slice (some ⟨b, off, none⟩) i c) rfl (by kernel_rfl) (by kernel_rfl) (by kernel_rfl) (fun _ _ _ h => h) (.inl ⟨by rfl, fun wx _ => by go_simp⟩) trivial ?_
      simp only [Act.put]
      refine wpAnyH_take (i := 5) (v := .int .i64 (k : Int)) rfl (by kernel_rfl) (by kernel_rfl) (by kernel_rfl) (fun _ _ _ h => h) (.inl ⟨by rfl, fun wx _ => by go_simp⟩) trivial ?_
      simp only [Act.put]
      refine wpAnyH_take (i := 6) (v := .slice (some ⟨b, off, none⟩) k c) rfl (by kernel_rfl) (by kernel_rfl) (by kernel_rfl) (fun _ _ _ h => h) (.inl ⟨by rfl, fun wx _ => by go_simp⟩) trivial ?_
      simp only [Act.put]
      refine wpAnyH_take (i := 8) (v := .int .i64 (bb : Int)) rfl (by kernel_rfl) (by kernel_rfl) (by kernel_rfl) (fun _ _ _ h => h) (.inl ⟨by rfl, fun wx _ => by go_simp⟩) trivial ?_
      simp only [Act.put]
      obtain ⟨i0, hi, hz0, hz1, hz2⟩ := info_parts infoR
      refine wpAnyH_ready (rs := [3]) (by kernel_rfl) (by simp) ?_
      refine AllReadyH.cons rfl (fun K hK => ?_) AllReadyH.nil
      refine step_append_own rfl (.const (.slice none 0 0)) (.tmp 64) 49 rfl wr.drew.heap.size 26 i0 _ 1 24 Try.underlying49 hi hz0 hz1 hz2 rfl (by decide) (.slice none 0 0) 0 [] (by simp only [Act.eval]) (World.ownsRow_nil _ _ _ _) ⟨b, off + k, none⟩ (i - k) (c - k) (xs.drop k) (by simp [Act.eval]) (by rw [List.length_drop, HX.out.1, ← HN.out]; omega) (fun j u hj => by rw [List.getElem?_drop] at hj; rw [Addr.add_lit, Nat.add_assoc]; exact cell_fr F4.out (HX.out.2.1 _ _ hj)) (fun u hu => HX.out.2.2.1 u (List.mem_of_mem_drop hu)) (by unfold maxLen; omega) (by omega) (Nat.le_refl _) ?_
      intro v5 W5 o5 g5 _
      have F5 := hid (F4.out.grown g5 (by simp [Value.ownBlock]))
      have E5 := hid ((Fr.refl [] wr.drew).grown g5 (by simp [Value.ownBlock]))
      have hs5 : wr.drew.heap.size ≤ W5.heap.size := g5.size
      have O5 := hid o5
      refine hK.out _ _ trivial (fun _ => ?_)
      clear hK K o5 g5
      refine wpAnyH_ready (rs := [7]) (by kernel_rfl) (by simp) ?_
      refine AllReadyH.cons rfl (fun K hK => ?_) AllReadyH.nil
      refine step_append_own rfl (.tmp 65) (.tmp 68) 49 rfl wr.drew.heap.size 26 i0 _ 1 24 Try.underlying49 hi hz0 hz1 hz2 rfl (by decide) v5 _ _ (by simp [Act.eval, Act.put]) O5.out ⟨b, off, none⟩ k c (xs.take k) (by simp [Act.eval, Act.put]) (by rw [List.length_take, HX.out.1, ← HN.out]; omega) (fun j u hj => by rw [List.getElem?_take] at hj; split at hj; (rw [Addr.add_lit]; exact cell_fr F5.out (HX.out.2.1 _ _ hj)); cases hj) (fun u hu => HX.out.2.2.1 u (List.mem_of_mem_take hu)) (by unfold maxLen; omega) (by omega) hs5 ?_
      intro v6 W6 o6 g6 _
      have F6 := hid (F5.out.grown g6 (fun q hq => .inr (by have := (O5.out.lt q hq).1; have := F4.out.size; omega)))
      have E6 := hid (E5.out.grown g6 (fun q hq => .inr (O5.out.lt q hq).1))
      have hrl : (rs.drop k ++ rs.take k).length = i := by rw [List.length_append, List.length_drop, List.length_take, ← HN.out]; omega
      have R6 : RdL W6 v6 (rs.drop k ++ rs.take k) := by
        refine vals_rdL (w := w) (B := wr.drew.heap.size) (xs := [] ++ xs.drop k ++ xs.take k) (by rw [hrl]; rw [show i = 0 + (i - k) + k from by omega]; exact o6) (fun j r hj => ?_) F6.out
        rw [List.nil_append]
        have hdl : (rs.drop k).length = (xs.drop k).length := by rw [List.length_drop, List.length_drop, HX.out.1]
        by_cases hjd : j < (rs.drop k).length
        · rw [List.getElem?_append_left hjd, List.getElem?_drop] at hj
          rw [List.getElem?_append_left (by omega), List.getElem?_drop]
          exact HX.out.2.2.2 _ _ hj
        · rw [List.getElem?_append_right (by omega), List.getElem?_take] at hj
          rw [List.getElem?_append_right (by omega), List.getElem?_take, ← hdl]
          split at hj
          · rename_i hlt
            rw [if_pos hlt]
            exact HX.out.2.2.2 _ _ hj
          · cases hj
      have FC2 := filter_c W6 R6 (by rw [hrl]; omega) bb h2 h3
      rw [flt_rot bb rs k (by rw [← HN.out]; omega)] at FC2
      have HFC := hid FC2
      refine hK.out _ _ trivial (fun _ => ?_)
      clear hK K o6 g6 R6 FC2
      refine wpAnyH_ready (rs := [9]) (by kernel_rfl) (by simp) ?_
      refine AllReadyH.cons rfl (fun K hK => ?_) AllReadyH.nil
      go_simp
      refine HFC.out.mono ?_
      rintro e' W7 ⟨v7, rfl, o7, f7⟩
      obtain ⟨a7, c7, rfl, _⟩ := ownsRow_slice o7
      have F7 := hid (F6.out.trans f7)
      have O7 := hid o7
      have R3 : Hid (Rd W7 (.slice ba (fltL bb rs).length bc) (bv (fltL bb rs))) := hid (by
        have r3 := Rd.ownB O3.out
        exact (r3.fr ((Fr.refl _ _).drew)).fr (E6.out.trans f7))
      refine hK.out _ _ trivial (fun _ => ?_)
      clear hK K o7 f7 HFC
      refine wpAnyH_take (i := 10) (v := .tuple #[.slice a7 (fltL bb rs).length c7, .int .i64 0]) rfl (by kernel_rfl) (by kernel_rfl) (by kernel_rfl) (fun _ _ _ h => h) (.inl ⟨by rfl, fun wx _ => by go_simp⟩) trivial ?_
      simp only [Act.put]
      refine wpAnyH_take (i := 11) (v := .slice a7 (fltL bb rs).length c7) rfl (by kernel_rfl) (by kernel_rfl) (by kernel_rfl) (fun _ _ _ h => h) (.inl ⟨by rfl, fun wx _ => by go_simp⟩) trivial ?_
      simp only [Act.put]
      refine wpAnyH_take (i := 12) (v := .int .i64 0) rfl (by kernel_rfl) (by kernel_rfl) (by kernel_rfl) (fun _ _ _ h => h) (.inl ⟨by rfl, fun wx _ => by go_simp⟩) trivial ?_
      simp only [Act.put]
      refine wpAnyH_ready (rs := [13]) (by kernel_rfl) (by simp) ?_
      refine AllReadyH.cons rfl (fun K hK => ?_) AllReadyH.nil
      go_simp
      refine hK.out _ _ trivial (fun _ => ?_)
      clear hK K
      refine wpAnyH_ready (rs := [14]) (by kernel_rfl) (by simp) ?_
      refine AllReadyH.cons rfl (fun K hK => ?_) AllReadyH.nil
      go_simp
      refine hK.out _ _ trivial (fun _ => ?_)
      clear hK K
      refine wpAnyH_done (by kernel_rfl) ?_ _
      have BC := bytes_c (w := W7) R3.out (Rd.ownB O7.out) (fltL_by _ _) (fltL_by _ _)
      have HBC := hid BC
      clear BC
      generalize (fltL bb rs).length = fl at *
      go_wp2_with fail
      refine HBC.out.mono ?_
      rintro e' w8 ⟨rfl, rfl⟩
      rw [decide_eq_true trivial]
      clear HBC
      go_wp2
      go_ret
      exact ⟨rfl, F7.out⟩
end Go.Proofs.Ytekcpecofclgiaa
