/-
  Unpack, walked: the program's and the document's.
-/
import Derived.Test.YtmpfnglcmaollaaDoorTrD
namespace Go.Proofs.YtmpfnglcmaollaaDoor
open Go.ChangeShapes Go.WideShapes Go.ChangeAt Go.RowKit

/-- Bytes that can be read, cut off in front. -/
theorem cutBT {W : World} {a : Option Addr} {n c l : Nat} {b : List Nat} (hr : Rd W (.slice a n c) (bv b)) (hn : b.length = n) (hl : l ≤ n) :
    ∃ a', (∀ W', (Instr.sliceAt 33 (.slice a n c) (some (.int .i64 (l : Int))) none none).run Tryd.prog W' = .ok (.slice a' (n - l) (c - l)) W') ∧ Rd W (.slice a' (n - l) (c - l)) (bv (b.drop l)) := by
  refine ⟨if c = l then a else a.map (·.add l), fun W' => ?_, ?_⟩
  · rw [run_sliceAt_slice W' _ _ _ _ _ (by kernel_rfl), run_slice_l W' _ _ _ _ (by kernel_rfl) .i64 (l : Int) (by omega) (by omega), show (sizeOf (Tryd.prog.elem 33)).run Tryd.prog W' = .ok 1 W' by kernel_rfl]
    simp only [Result.andThen_ok, sliced, Int.toNat_natCast, Nat.mul_one]
  · rcases hr with ⟨h, h'⟩ | ⟨ad, c', h, h4, h5⟩
    · simp only [Value.slice.injEq] at h
      obtain ⟨rfl, rfl, rfl⟩ := h
      have : b = [] := List.eq_nil_of_length_eq_zero hn
      subst this
      obtain rfl : l = 0 := by omega
      exact .inl ⟨rfl, rfl⟩
    · simp only [Value.slice.injEq] at h
      obtain ⟨rfl, h1, rfl⟩ := h
      rw [bv_len] at h4 h1
      by_cases hc : c = l
      · subst hc
        rw [if_pos rfl]
        have hb0 : b.drop c = [] := List.drop_eq_nil_of_le (by omega)
        rw [hb0]
        exact .inr ⟨ad, c - c, by simp [bv]; omega, by simp [bv], fun j u hj => by simp [bv] at hj⟩
      · rw [if_neg hc]
        refine .inr ⟨ad.add l, c - l, by rw [bv_len, List.length_drop, hn]; rfl, by rw [bv_len, List.length_drop]; omega, fun j u hj => ?_⟩
        rw [bv_drop, List.getElem?_drop] at hj
        have := h5 _ _ hj
        have e : (ad.add l).add j = ad.add (l + j) := by
          unfold Addr.add
          by_cases h1 : l = 0 <;> by_cases h2 : j = 0 <;> simp [h1, h2] <;> omega
        rw [e]; exact this
/-- .. and behind. -/
theorem headBT {W : World} {a : Option Addr} {n c l : Nat} {b : List Nat} (hr : Rd W (.slice a n c) (bv b)) (hn : b.length = n) (hl : l ≤ n) :
    (∀ W', (Instr.sliceAt 33 (.slice a n c) none (some (.int .i64 (l : Int))) none).run Tryd.prog W' = .ok (.slice a l c) W') ∧ Rd W (.slice a l c) (bv (b.take l)) := by
  have hnc : n ≤ c := by
    rcases hr with ⟨h, h'⟩ | ⟨ad, c', h, h4, h5⟩
    · simp only [Value.slice.injEq] at h; omega
    · simp only [Value.slice.injEq] at h; omega
  refine ⟨fun W' => ?_, ?_⟩
  · rw [run_sliceAt_slice W' _ _ _ _ _ (by kernel_rfl), run_slice_h W' _ _ _ _ (by kernel_rfl) .i64 (l : Int) (by omega) (by omega), show (sizeOf (Tryd.prog.elem 33)).run Tryd.prog W' = .ok 1 W' by kernel_rfl]
    simp only [Result.andThen_ok, sliced, Int.toNat_natCast, Nat.zero_mul, Nat.sub_zero]
    have : (a.map fun x => x.add 0) = a := by
      cases a with
      | none => rfl
      | some x => simp [Addr.add]
    rw [this]
    split <;> rfl
  · rcases hr with ⟨h, h'⟩ | ⟨ad, c', h, h4, h5⟩
    · simp only [Value.slice.injEq] at h
      obtain ⟨rfl, rfl, rfl⟩ := h
      obtain rfl : l = 0 := by omega
      exact .inl ⟨rfl, by simp [bv]⟩
    · simp only [Value.slice.injEq] at h
      obtain ⟨rfl, h1, rfl⟩ := h
      rw [bv_len] at h4 h1
      refine .inr ⟨ad, c, by rw [bv_len, List.length_take, hn, Nat.min_eq_left hl], by rw [bv_len, List.length_take]; omega, fun j u hj => ?_⟩
      rw [bv_take, List.getElem?_take] at hj
      split at hj
      · exact h5 _ _ hj
      · cases hj
theorem unpF_at {b : List Nat} {f y : Nat} {l : List Nat} (h : nibF b = f :: y :: l) : unpF b = if f = 0 then (if y = 0 ∧ l.length ≤ 128 then some (l, false) else none) else if f = 1 then (if (y :: l).length ≤ 128 then some (y :: l, false) else none) else if f = 2 then (if y = 0 ∧ l.length ≤ 128 then some (l, true) else none) else if f = 3 then (if (y :: l).length ≤ 128 then some (y :: l, true) else none) else none := by
  unfold unpF
  rw [h]
  match f with
  | 0 => simp
  | 1 => simp
  | 2 => simp
  | 3 => simp
  | f + 4 => simp
def UnpO (w' : World) (b : List Nat) (e : Ending) : Prop :=
  (∃ p leaf v', unpF b = some (p, leaf) ∧ e = .returned (.tuple #[v', .bool leaf, .int .i64 0]) ∧ Rd w' v' (bv p)) ∨ (unpF b = none ∧ e = .returned (.tuple #[.slice none 0 0, .bool false, .int .i64 143]))
/-- Bytes that can be read, cut off in front. -/
theorem cutBT8 {W : World} {a : Option Addr} {n c l : Nat} {b : List Nat} (hr : Rd W (.slice a n c) (bv b)) (hn : b.length = n) (hl : l ≤ n) (_h8 : l < 256) :
    ∃ a', (∀ W', (Instr.sliceAt 33 (.slice a n c) (some (.int .u8 (l : Int))) none none).run Tryd.prog W' = .ok (.slice a' (n - l) (c - l)) W') ∧ Rd W (.slice a' (n - l) (c - l)) (bv (b.drop l)) := by
  refine ⟨if c = l then a else a.map (·.add l), fun W' => ?_, ?_⟩
  · rw [run_sliceAt_slice W' _ _ _ _ _ (by kernel_rfl), run_slice_l W' _ _ _ _ (by kernel_rfl) .u8 (l : Int) (by omega) (by omega), show (sizeOf (Tryd.prog.elem 33)).run Tryd.prog W' = .ok 1 W' by kernel_rfl]
    simp only [Result.andThen_ok, sliced, Int.toNat_natCast, Nat.mul_one]
  · rcases hr with ⟨h, h'⟩ | ⟨ad, c', h, h4, h5⟩
    · simp only [Value.slice.injEq] at h
      obtain ⟨rfl, rfl, rfl⟩ := h
      have : b = [] := List.eq_nil_of_length_eq_zero hn
      subst this
      obtain rfl : l = 0 := by omega
      exact .inl ⟨rfl, rfl⟩
    · simp only [Value.slice.injEq] at h
      obtain ⟨rfl, h1, rfl⟩ := h
      rw [bv_len] at h4 h1
      by_cases hc : c = l
      · subst hc
        rw [if_pos rfl]
        have hb0 : b.drop c = [] := List.drop_eq_nil_of_le (by omega)
        rw [hb0]
        exact .inr ⟨ad, c - c, by simp [bv]; omega, by simp [bv], fun j u hj => by simp [bv] at hj⟩
      · rw [if_neg hc]
        refine .inr ⟨ad.add l, c - l, by rw [bv_len, List.length_drop, hn]; rfl, by rw [bv_len, List.length_drop]; omega, fun j u hj => ?_⟩
        rw [bv_drop, List.getElem?_drop] at hj
        have := h5 _ _ hj
        have e : (ad.add l).add j = ad.add (l + j) := by
          unfold Addr.add
          by_cases h1 : l = 0 <;> by_cases h2 : j = 0 <;> simp [h1, h2] <;> omega
        rw [e]; exact this
set_option maxRecDepth 20000 in
set_option maxHeartbeats 3200000 in
theorem unp_c (w : World) {v : Value} {b : List Nat} (hr : Rd w v (bv b)) (hb : By b) (hl : b.length ≤ 100000) :
    Calls Tryd.prog 25 #[v] w fun e w' => UnpO w' b e ∧ Fr [] w w' := by
  obtain ⟨a, c, hv⟩ := hr.form
  rw [bv_len] at hv
  subst hv
  have NC := hid (nib_c w hr hb hl)
  have HB := hid hb
  obtain ⟨n, hn⟩ : ∃ n, n = b.length := ⟨_, rfl⟩
  have HN := hid hn
  have NL := hid (nibF_len b)
  have NN := hid (nibF_nb hb)
  rw [← hn] at hl NC NL ⊢
  clear hr hb hn
  go_enter Tryd.func25, Tryd.ntmps25
  by_cases h0 : n = 0
  · have h0' : ((n : Int) == 0) = true := by rw [h0]; rfl
    have UN : Hid (unpF b = none) := hid (by
      have : b = [] := List.eq_nil_of_length_eq_zero (by rw [← HN.out]; exact h0)
      rw [this]; rfl)
    clear h0
    go_wp2
    go_ret3
    exact ⟨.inr ⟨UN.out, rfl⟩, Fr.refl _ _⟩
  · have h0' : ((n : Int) == 0) = false := beq_eq_false_iff_ne.2 (by omega)
    obtain ⟨f, y, l, hfy⟩ : ∃ f y l, nibF b = f :: y :: l := by
      have h1 := NL.out
      match hq : nibF b with
      | [] => rw [hq] at h1; simp at h1; omega
      | [_] => rw [hq] at h1; simp at h1; omega
      | f :: y :: l => exact ⟨f, y, l, rfl⟩
    have UF := hid (unpF_at hfy)
    have HFY := hid hfy
    rw [hfy] at NC NL NN
    clear hfy h0
    have LB : Hid ((f :: y :: l).length = 2 * n) := hid NL.out
    have hf16 : f < 16 := NN.out f (by simp)
    have hy16 : y < 16 := NN.out y (by simp)
    obtain ⟨m, hm⟩ : ∃ m, m = (f :: y :: l).length := ⟨_, rfl⟩
    have HM := hid hm
    have hm2 : m = l.length + 2 := by rw [hm]; simp
    have HM2 := hid hm2
    have hmn : m = 2 * n := by rw [hm]; exact LB.out
    rw [← hm] at NC
    have hmb : m ≤ 200000 := by omega
    have hm20 : 2 ≤ m := by omega
    clear hm hm2 hmn
    go_upto_region 4 with (go_at_call 23; refine NC.out.mono ?_; rintro e w2 ⟨v2, rfl, o2, f2⟩; obtain ⟨a2, c2, rfl, hc2⟩ := ownsRow_slice o2; have O2 := hid o2; have F2 := hid f2; clear o2 f2)
    obtain ⟨g, rfl⟩ : ∃ g, a2 = some ⟨g, 0, none⟩ := by
      rcases O2.out.2 with ⟨e, h0⟩ | ⟨g, cap, cur, e, _⟩
      · omega
      · simp only [Value.slice.injEq] at e
        exact ⟨g, e.1⟩
    have q0 := O2.out.cells (g := g) rfl 0 _ (bv_at (ns := f :: y :: l) (k := 0) rfl)
    have q1 := O2.out.cells (g := g) rfl 1 _ (bv_at (ns := f :: y :: l) (k := 1) rfl)
    rw [Addr.add_lit, Nat.zero_add] at q0 q1
    have RR := hid (Rd.ownN O2.out HM.out)
    obtain ⟨a3, s1, r1⟩ := cutBT (l := 1) RR.out HM.out.symm (by omega)
    obtain ⟨a4, s2, r2⟩ := cutBT (l := 2) RR.out HM.out.symm (by omega)
    have R1 : Hid (Rd w2 (.slice a3 (m - 1) (c2 - 1)) (bv (y :: l))) := hid r1
    have R2 : Hid (Rd w2 (.slice a4 (m - 2) (c2 - 2)) (bv l)) := hid r2
    rw [show ((1 : Nat) : Int) = 1 from rfl] at s1
    rw [show ((2 : Nat) : Int) = 2 from rfl] at s2
    clear r1 r2 NC
    by_cases hf3 : f = 3
    · subst hf3
      rw [show ((3 : Nat) : Int) = 3 from rfl] at q0
      have UF3 : Hid (unpF b = if (y :: l).length ≤ 128 then some (y :: l, true) else none) := hid (by rw [UF.out]; simp)
      clear UF
      obtain ⟨k9, hk9⟩ : ∃ k, k = m - 1 := ⟨_, rfl⟩
      have HK9 := hid hk9
      rw [← hk9] at s1 R1
      have L9 : Hid ((y :: l).length = k9) := hid (by have := HK9.out; have := HM2.out; first | omega | (simp; omega))
      clear hk9
      by_cases h9 : k9 ≤ 128
      · have h9' : ¬ (128 : Int) < (k9 : Int) := by omega
        have UN : Hid (unpF b = some ((y :: l), true)) := hid (by rw [UF3.out, if_pos (by rw [L9.out]; exact h9)])
        go_wp2
        go_ret3
        exact ⟨.inl ⟨_, _, _, UN.out, rfl, R1.out⟩, F2.out⟩
      · have h9' : (128 : Int) < (k9 : Int) := by omega
        have UN : Hid (unpF b = none) := hid (by rw [UF3.out, if_neg (by rw [L9.out]; exact h9)])
        go_wp2
        go_ret3
        exact ⟨.inr ⟨UN.out, rfl⟩, F2.out⟩
    · by_cases hf1 : f = 1
      · subst hf1
        rw [show ((1 : Nat) : Int) = 1 from rfl] at q0
        have UF3 : Hid (unpF b = if (y :: l).length ≤ 128 then some (y :: l, false) else none) := hid (by rw [UF.out]; simp)
        clear UF
        obtain ⟨k9, hk9⟩ : ∃ k, k = m - 1 := ⟨_, rfl⟩
        have HK9 := hid hk9
        rw [← hk9] at s1 R1
        have L9 : Hid ((y :: l).length = k9) := hid (by have := HK9.out; have := HM2.out; first | omega | (simp; omega))
        clear hk9
        by_cases h9 : k9 ≤ 128
        · have h9' : ¬ (128 : Int) < (k9 : Int) := by omega
          have UN : Hid (unpF b = some ((y :: l), false)) := hid (by rw [UF3.out, if_pos (by rw [L9.out]; exact h9)])
          go_wp2
          go_ret3
          exact ⟨.inl ⟨_, _, _, UN.out, rfl, R1.out⟩, F2.out⟩
        · have h9' : (128 : Int) < (k9 : Int) := by omega
          have UN : Hid (unpF b = none) := hid (by rw [UF3.out, if_neg (by rw [L9.out]; exact h9)])
          go_wp2
          go_ret3
          exact ⟨.inr ⟨UN.out, rfl⟩, F2.out⟩
      · by_cases hf2 : f = 2
        · subst hf2
          rw [show ((2 : Nat) : Int) = 2 from rfl] at q0
          by_cases hy : y = 0
          · subst hy
            rw [show ((0 : Nat) : Int) = 0 from rfl] at q1
            have UF3 : Hid (unpF b = if l.length ≤ 128 then some (l, true) else none) := hid (by rw [UF.out]; simp)
            clear UF
            obtain ⟨k9, hk9⟩ : ∃ k, k = m - 2 := ⟨_, rfl⟩
            have HK9 := hid hk9
            rw [← hk9] at s2 R2
            have L9 : Hid (l.length = k9) := hid (by have := HK9.out; have := HM2.out; first | omega | (simp; omega))
            clear hk9
            by_cases h9 : k9 ≤ 128
            · have h9' : ¬ (128 : Int) < (k9 : Int) := by omega
              have UN : Hid (unpF b = some (l, true)) := hid (by rw [UF3.out, if_pos (by rw [L9.out]; exact h9)])
              go_wp2
              go_ret3
              exact ⟨.inl ⟨_, _, _, UN.out, rfl, R2.out⟩, F2.out⟩
            · have h9' : (128 : Int) < (k9 : Int) := by omega
              have UN : Hid (unpF b = none) := hid (by rw [UF3.out, if_neg (by rw [L9.out]; exact h9)])
              go_wp2
              go_ret3
              exact ⟨.inr ⟨UN.out, rfl⟩, F2.out⟩
          · have hy' : ((y : Int) == 0) = false := beq_eq_false_iff_ne.2 (by omega)
            have UN : Hid (unpF b = none) := hid (by rw [UF.out]; simp [hy])
            clear UF
            go_wp2
            go_ret3
            exact ⟨.inr ⟨UN.out, rfl⟩, F2.out⟩
        · by_cases hf0 : f = 0
          · subst hf0
            rw [show ((0 : Nat) : Int) = 0 from rfl] at q0
            by_cases hy : y = 0
            · subst hy
              rw [show ((0 : Nat) : Int) = 0 from rfl] at q1
              have UF3 : Hid (unpF b = if l.length ≤ 128 then some (l, false) else none) := hid (by rw [UF.out]; simp)
              clear UF
              obtain ⟨k9, hk9⟩ : ∃ k, k = m - 2 := ⟨_, rfl⟩
              have HK9 := hid hk9
              rw [← hk9] at s2 R2
              have L9 : Hid (l.length = k9) := hid (by have := HK9.out; have := HM2.out; first | omega | (simp; omega))
              clear hk9
              by_cases h9 : k9 ≤ 128
              · have h9' : ¬ (128 : Int) < (k9 : Int) := by omega
                have UN : Hid (unpF b = some (l, false)) := hid (by rw [UF3.out, if_pos (by rw [L9.out]; exact h9)])
                go_wp2
                go_ret3
                exact ⟨.inl ⟨_, _, _, UN.out, rfl, R2.out⟩, F2.out⟩
              · have h9' : (128 : Int) < (k9 : Int) := by omega
                have UN : Hid (unpF b = none) := hid (by rw [UF3.out, if_neg (by rw [L9.out]; exact h9)])
                go_wp2
                go_ret3
                exact ⟨.inr ⟨UN.out, rfl⟩, F2.out⟩
            · have hy' : ((y : Int) == 0) = false := beq_eq_false_iff_ne.2 (by omega)
              have UN : Hid (unpF b = none) := hid (by rw [UF.out]; simp [hy])
              clear UF
              go_wp2
              go_ret3
              exact ⟨.inr ⟨UN.out, rfl⟩, F2.out⟩
          · have hg0 : ((f : Int) == 0) = false := beq_eq_false_iff_ne.2 (by omega)
            have hg1 : ((f : Int) == 1) = false := beq_eq_false_iff_ne.2 (by omega)
            have hg2 : ((f : Int) == 2) = false := beq_eq_false_iff_ne.2 (by omega)
            have hg3 : ((f : Int) == 3) = false := beq_eq_false_iff_ne.2 (by omega)
            have UN : Hid (unpF b = none) := hid (by rw [UF.out]; simp [hf0, hf1, hf2, hf3])
            clear UF
            go_wp2
            go_ret3
            exact ⟨.inr ⟨UN.out, rfl⟩, F2.out⟩
set_option maxRecDepth 20000 in
set_option maxHeartbeats 3200000 in
theorem runp_c (w : World) {v : Value} {b : List Nat} (hr : Rd w v (bv b)) (hb : By b) (hl : b.length ≤ 100000) :
    Calls Tryd.prog 26 #[v] w fun e w' => UnpO w' b e ∧ Fr [] w w' := by
  obtain ⟨a, c, hv⟩ := hr.form
  rw [bv_len] at hv
  subst hv
  have NC := hid (rnib_c w hr hb hl)
  have HB := hid hb
  obtain ⟨n, hn⟩ : ∃ n, n = b.length := ⟨_, rfl⟩
  have HN := hid hn
  have NL := hid (nibF_len b)
  have NN := hid (nibF_nb hb)
  rw [← hn] at hl NC NL ⊢
  clear hr hb hn
  go_enter Tryd.func26, Tryd.ntmps26
  by_cases h0 : n = 0
  · have h0' : ((n : Int) == 0) = true := by rw [h0]; rfl
    have UN : Hid (unpF b = none) := hid (by
      have : b = [] := List.eq_nil_of_length_eq_zero (by rw [← HN.out]; exact h0)
      rw [this]; rfl)
    clear h0
    go_wp2
    go_ret3
    exact ⟨.inr ⟨UN.out, rfl⟩, Fr.refl _ _⟩
  · have h0' : ((n : Int) == 0) = false := beq_eq_false_iff_ne.2 (by omega)
    obtain ⟨f, y, l, hfy⟩ : ∃ f y l, nibF b = f :: y :: l := by
      have h1 := NL.out
      match hq : nibF b with
      | [] => rw [hq] at h1; simp at h1; omega
      | [_] => rw [hq] at h1; simp at h1; omega
      | f :: y :: l => exact ⟨f, y, l, rfl⟩
    have UF := hid (unpF_at hfy)
    have HFY := hid hfy
    rw [hfy] at NC NL NN
    clear hfy h0
    have LB : Hid ((f :: y :: l).length = 2 * n) := hid NL.out
    have hf16 : f < 16 := NN.out f (by simp)
    have hy16 : y < 16 := NN.out y (by simp)
    obtain ⟨m, hm⟩ : ∃ m, m = (f :: y :: l).length := ⟨_, rfl⟩
    have HM := hid hm
    have hm2 : m = l.length + 2 := by rw [hm]; simp
    have HM2 := hid hm2
    have hmn : m = 2 * n := by rw [hm]; exact LB.out
    rw [← hm] at NC
    have hmb : m ≤ 200000 := by omega
    have hm20 : 2 ≤ m := by omega
    clear hm hm2 hmn
    by_cases h65 : n ≤ 65
    · have h65' : ¬ (65 : Int) < (n : Int) := by omega
      go_upto_region 4 with (go_at_call 24; refine NC.out.mono ?_; rintro e w2 ⟨v2, rfl, o2, f2⟩; obtain ⟨a2, c2, rfl, hc2⟩ := ownsRow_slice o2; have O2 := hid o2; have F2 := hid f2; clear o2 f2)
      obtain ⟨g, rfl⟩ : ∃ g, a2 = some ⟨g, 0, none⟩ := by
        rcases O2.out.2 with ⟨e, h0⟩ | ⟨g, cap, cur, e, _⟩
        · omega
        · simp only [Value.slice.injEq] at e
          exact ⟨g, e.1⟩
      have q0 := O2.out.cells (g := g) rfl 0 _ (bv_at (ns := f :: y :: l) (k := 0) rfl)
      have q1 := O2.out.cells (g := g) rfl 1 _ (bv_at (ns := f :: y :: l) (k := 1) rfl)
      rw [Addr.add_lit, Nat.zero_add] at q0 q1
      have RR := hid (Rd.ownN O2.out HM.out)
      obtain ⟨a3, s1, r1⟩ := cutBT (l := 1) RR.out HM.out.symm (by omega)
      obtain ⟨a4, s2, r2⟩ := cutBT (l := 2) RR.out HM.out.symm (by omega)
      have R1 : Hid (Rd w2 (.slice a3 (m - 1) (c2 - 1)) (bv (y :: l))) := hid r1
      have R2 : Hid (Rd w2 (.slice a4 (m - 2) (c2 - 2)) (bv l)) := hid r2
      rw [show ((1 : Nat) : Int) = 1 from rfl] at s1
      rw [show ((2 : Nat) : Int) = 2 from rfl] at s2
      clear r1 r2 NC
      obtain ⟨a5, t1, r1⟩ := cutBT8 (l := 1) RR.out HM.out.symm (by omega) (by omega)
      obtain ⟨a6, t2, r2⟩ := cutBT8 (l := 2) RR.out HM.out.symm (by omega) (by omega)
      clear R1 R2 s1 s2
      have R1 : Hid (Rd w2 (.slice a5 (m - 1) (c2 - 1)) (bv (y :: l))) := hid r1
      have R2 : Hid (Rd w2 (.slice a6 (m - 2) (c2 - 2)) (bv l)) := hid r2
      rw [show ((1 : Nat) : Int) = 1 from rfl] at t1
      rw [show ((2 : Nat) : Int) = 2 from rfl] at t2
      clear r1 r2
      by_cases hf3 : f = 3
      · subst hf3
        rw [show ((3 : Nat) : Int) = 3 from rfl] at q0
        have UF3 : Hid (unpF b = if (y :: l).length ≤ 128 then some (y :: l, true) else none) := hid (by rw [UF.out]; simp)
        clear UF
        obtain ⟨k9, hk9⟩ : ∃ k, k = m - 1 := ⟨_, rfl⟩
        have HK9 := hid hk9
        rw [← hk9] at t1 R1
        have L9 : Hid ((y :: l).length = k9) := hid (by have := HK9.out; have := HM2.out; first | omega | (simp; omega))
        clear hk9
        by_cases h9 : k9 ≤ 128
        · have h9' : ¬ (128 : Int) < (k9 : Int) := by omega
          have UN : Hid (unpF b = some ((y :: l), true)) := hid (by rw [UF3.out, if_pos (by rw [L9.out]; exact h9)])
          go_wp2
          go_ret3
          exact ⟨.inl ⟨_, _, _, UN.out, rfl, R1.out⟩, F2.out⟩
        · have h9' : (128 : Int) < (k9 : Int) := by omega
          have UN : Hid (unpF b = none) := hid (by rw [UF3.out, if_neg (by rw [L9.out]; exact h9)])
          go_wp2
          go_ret3
          exact ⟨.inr ⟨UN.out, rfl⟩, F2.out⟩
      · by_cases hf1 : f = 1
        · subst hf1
          rw [show ((1 : Nat) : Int) = 1 from rfl] at q0
          have UF3 : Hid (unpF b = if (y :: l).length ≤ 128 then some (y :: l, false) else none) := hid (by rw [UF.out]; simp)
          clear UF
          obtain ⟨k9, hk9⟩ : ∃ k, k = m - 1 := ⟨_, rfl⟩
          have HK9 := hid hk9
          rw [← hk9] at t1 R1
          have L9 : Hid ((y :: l).length = k9) := hid (by have := HK9.out; have := HM2.out; first | omega | (simp; omega))
          clear hk9
          by_cases h9 : k9 ≤ 128
          · have h9' : ¬ (128 : Int) < (k9 : Int) := by omega
            have UN : Hid (unpF b = some ((y :: l), false)) := hid (by rw [UF3.out, if_pos (by rw [L9.out]; exact h9)])
            go_wp2
            go_ret3
            exact ⟨.inl ⟨_, _, _, UN.out, rfl, R1.out⟩, F2.out⟩
          · have h9' : (128 : Int) < (k9 : Int) := by omega
            have UN : Hid (unpF b = none) := hid (by rw [UF3.out, if_neg (by rw [L9.out]; exact h9)])
            go_wp2
            go_ret3
            exact ⟨.inr ⟨UN.out, rfl⟩, F2.out⟩
        · by_cases hf2 : f = 2
          · subst hf2
            rw [show ((2 : Nat) : Int) = 2 from rfl] at q0
            by_cases hy : y = 0
            · subst hy
              rw [show ((0 : Nat) : Int) = 0 from rfl] at q1
              have UF3 : Hid (unpF b = if l.length ≤ 128 then some (l, true) else none) := hid (by rw [UF.out]; simp)
              clear UF
              obtain ⟨k9, hk9⟩ : ∃ k, k = m - 2 := ⟨_, rfl⟩
              have HK9 := hid hk9
              rw [← hk9] at t2 R2
              have L9 : Hid (l.length = k9) := hid (by have := HK9.out; have := HM2.out; first | omega | (simp; omega))
              clear hk9
              by_cases h9 : k9 ≤ 128
              · have h9' : ¬ (128 : Int) < (k9 : Int) := by omega
                have UN : Hid (unpF b = some (l, true)) := hid (by rw [UF3.out, if_pos (by rw [L9.out]; exact h9)])
                go_wp2
                go_ret3
                exact ⟨.inl ⟨_, _, _, UN.out, rfl, R2.out⟩, F2.out⟩
              · have h9' : (128 : Int) < (k9 : Int) := by omega
                have UN : Hid (unpF b = none) := hid (by rw [UF3.out, if_neg (by rw [L9.out]; exact h9)])
                go_wp2
                go_ret3
                exact ⟨.inr ⟨UN.out, rfl⟩, F2.out⟩
            · have hy' : ((y : Int) == 0) = false := beq_eq_false_iff_ne.2 (by omega)
              have UN : Hid (unpF b = none) := hid (by rw [UF.out]; simp [hy])
              clear UF
              go_wp2
              go_ret3
              exact ⟨.inr ⟨UN.out, rfl⟩, F2.out⟩
          · by_cases hf0 : f = 0
            · subst hf0
              rw [show ((0 : Nat) : Int) = 0 from rfl] at q0
              by_cases hy : y = 0
              · subst hy
                rw [show ((0 : Nat) : Int) = 0 from rfl] at q1
                have UF3 : Hid (unpF b = if l.length ≤ 128 then some (l, false) else none) := hid (by rw [UF.out]; simp)
                clear UF
                obtain ⟨k9, hk9⟩ : ∃ k, k = m - 2 := ⟨_, rfl⟩
                have HK9 := hid hk9
                rw [← hk9] at t2 R2
                have L9 : Hid (l.length = k9) := hid (by have := HK9.out; have := HM2.out; first | omega | (simp; omega))
                clear hk9
                by_cases h9 : k9 ≤ 128
                · have h9' : ¬ (128 : Int) < (k9 : Int) := by omega
                  have UN : Hid (unpF b = some (l, false)) := hid (by rw [UF3.out, if_pos (by rw [L9.out]; exact h9)])
                  go_wp2
                  go_ret3
                  exact ⟨.inl ⟨_, _, _, UN.out, rfl, R2.out⟩, F2.out⟩
                · have h9' : (128 : Int) < (k9 : Int) := by omega
                  have UN : Hid (unpF b = none) := hid (by rw [UF3.out, if_neg (by rw [L9.out]; exact h9)])
                  go_wp2
                  go_ret3
                  exact ⟨.inr ⟨UN.out, rfl⟩, F2.out⟩
              · have hy' : ((y : Int) == 0) = false := beq_eq_false_iff_ne.2 (by omega)
                have UN : Hid (unpF b = none) := hid (by rw [UF.out]; simp [hy])
                clear UF
                go_wp2
                go_ret3
                exact ⟨.inr ⟨UN.out, rfl⟩, F2.out⟩
            · have hb3 : (3 : Int) < (f : Int) := by omega
              have UN : Hid (unpF b = none) := hid (by rw [UF.out]; simp [hf0, hf1, hf2, hf3])
              clear UF
              go_wp2
              go_ret3
              exact ⟨.inr ⟨UN.out, rfl⟩, F2.out⟩
    · have h65' : (65 : Int) < (n : Int) := by omega
      have UN : Hid (unpF b = none) := hid (by
        have h1 := HM2.out
        have h2 := HM.out
        have h3 := LB.out
        have h4 : ¬ l.length ≤ 128 := by omega
        have h5 : ¬ (y :: l).length ≤ 128 := by simp; omega
        rw [UF.out]
        simp only [h4, h5, and_false, if_false, ite_self])
      clear UF NC
      go_wp2
      go_ret3
      exact ⟨.inr ⟨UN.out, rfl⟩, Fr.refl _ _⟩
end Go.Proofs.YtmpfnglcmaollaaDoor
