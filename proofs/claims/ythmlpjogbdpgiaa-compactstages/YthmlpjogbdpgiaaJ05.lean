/-
  What split and Split of package codec answer, and the reference's Key and Split.
-/
import Derived.Test.YthmlpjogbdpgiaaJ04
import Derived.Laws.ResultCell
import Derived.Test.YthmlpjogbdpgiaaJ02
import Derived.Test.YthmlpjogbdpgiaaNum
namespace Go.Proofs.Ythmlpjogbdpgiaa
open Go.ChangeShapes Go.WideShapes Go.ChangeAt Go.RowKit

/-- Are these bytes an internal key? -/
def isK (b : List Nat) : Bool := decide (8 ≤ b.length) && (decide (b.length ≤ 136) && decide (unf (b.drop (b.length - 8)) % 256 ≤ 1))
def tailN (b : List Nat) : Nat := unf (b.drop (b.length - 8))
def userL (b : List Nat) : List Nat := b.take (b.length - 8)

theorem Rd.back {w : World} {b off c : Nat} {ns : List Nat} (h : Rd w (.slice (some ⟨b, off, none⟩) ns.length c) (bv ns)) {q : Nat} (hq : q ≤ ns.length) : Rd w (.slice (some ⟨b, off + q, none⟩) (ns.length - q) (c - q)) (bv (ns.drop q)) := by
  rcases h with ⟨h, _⟩ | ⟨a, c', h, h4, h5⟩
  · cases h
  · simp only [Value.slice.injEq, Option.some.injEq] at h
    obtain ⟨rfl, _, rfl⟩ := h
    refine .inr ⟨_, _, by rw [bv_len, List.length_drop], by rw [bv_len] at h4 ⊢; rw [List.length_drop]; omega, fun j u hj => ?_⟩
    rw [bv_drop, List.getElem?_drop] at hj
    have := h5 _ _ hj
    rw [Addr.add_lit] at this ⊢
    rw [Nat.add_assoc]; exact this
theorem tailN_lt {b : List Nat} (hb : By b) (h : 8 ≤ b.length) : tailN b < 18446744073709551616 := by
  have := unf_lt _ (hb.drop (b.length - 8))
  rw [List.length_drop, show b.length - (b.length - 8) = 8 from by omega] at this
  exact this

set_option maxRecDepth 20000 in
set_option maxHeartbeats 400000 in
theorem split_short (w : World) {v : Value} {b : List Nat} (hr : Rd w v (bv b)) (h : b.length < 8) :
    Calls Try.prog 46 #[v] w fun e w' => e = .returned (.tuple #[.agg #[.slice none 0 0, .int .u64 0, .int .i64 0], .int .i64 23]) ∧ Fr [] w w' := by
  obtain ⟨a, c, hv⟩ := hr.form
  rw [bv_len] at hv
  subst hv
  clear hr
  go_enter Try.func46, Try.ntmps46
  go_wp2
  refine bodyPost_ret (v := .tuple #[.agg #[.slice none 0 0, .int .u64 0, .int .i64 0], .int .i64 23]) (by rw [results_cell_tmp rfl]; go_simp) rfl ⟨rfl, (Fr.refl _ _).alloc _⟩

theorem and255 {t : Nat} (h : t < 18446744073709551616) : bits .and .u64 (t : Int) 255 = ((t % 256 : Nat) : Int) := by
  have := u64_and_nat t 255 h (by omega)
  rw [nat_mask8] at this
  exact this

/-- What split hands over. -/
def spv (b : List Nat) (u : Value) : Value := if isK b then .tuple #[.agg #[u, .int .u64 ((tailN b / 256 : Nat) : Int), .int .i64 ((tailN b % 256 : Nat) : Int)], .int .i64 0] else .tuple #[.agg #[.slice none 0 0, .int .u64 0, .int .i64 0], .int .i64 23]

set_option maxRecDepth 20000 in
set_option maxHeartbeats 800000 in
theorem split_long (w : World) {q off c : Nat} {b : List Nat} (hr : Rd w (.slice (some ⟨q, off, none⟩) b.length c) (bv b)) (hb : By b) (h8 : 8 ≤ b.length) (hl : b.length ≤ 140737488355328) (h1 : b.length ≤ c) :
    Calls Try.prog 46 #[.slice (some ⟨q, off, none⟩) b.length c] w fun e w' => e = .returned (spv b (.slice (some ⟨q, off, none⟩) (b.length - 8) c)) ∧ Fr [] w w' := by
  have hbk := hr.back (q := b.length - 8) (by omega)
  have HR := hid hbk
  have HB := hid hb
  obtain ⟨t, ht⟩ : ∃ t, t = tailN b := ⟨_, rfl⟩
  have ht1 : t < 18446744073709551616 := by rw [ht]; exact tailN_lt hb h8
  have hand := and255 ht1
  obtain ⟨g, hg⟩ : ∃ g, g = t % 256 := ⟨_, rfl⟩
  obtain ⟨s, hs⟩ : ∃ s, s = t / 256 := ⟨_, rfl⟩
  have hand' : bits .and .u64 (t : Int) 255 = (g : Int) := by rw [hg]; exact hand
  have hdiv : (t : Int) / 256 = (s : Int) := by omega
  have hg1 : g < 256 := by omega
  have hs1 : s ≤ 72057594037927935 := by omega
  have HT := hid ht
  have HG := hid hg
  have HS := hid hs
  have en : ((b.length : Int) - 8).toNat = b.length - 8 := by omega
  have HV : Hid (vb (b.length - 8) s (g : Int) = isK b) := by
    show vb (b.length - 8) s (g : Int) = isK b
    unfold vb isK
    rw [show unf (b.drop (b.length - 8)) = t from ht.symm, ← hg, decide_eq_true hs1, decide_eq_true h8, Bool.true_and, Bool.true_and]
    congr 1
    · rw [decide_eq_decide]; omega
    · rcases (show g = 0 ∨ g = 1 ∨ 1 < g from by omega) with e | e | e
      · rw [e]; rfl
      · rw [e]; rfl
      · rw [decide_eq_false (by omega)]
        simp; omega
  clear hr hbk hb ht hg hs hand
  go_enter Try.func46, Try.ntmps46
  go_wp2_with fail
  refine (unfixed_c (HR.out.fr ((Fr.refl _ _).alloc _)) (HB.out.drop _) (by simp; omega)).mono ?_
  rintro e w1 ⟨rfl, rfl⟩
  rw [show unf (b.drop (b.length - 8)) = t from HT.out.symm]
  go_wp2_with fail
  refine (valid_x _ _ _ _ s (g : Int)).mono ?_
  rintro e w2 ⟨rfl, rfl⟩
  rw [HV.out]
  rcases hk : isK b with _ | _
  · have HK := hid hk
    clear hk
    go_wp2
    refine bodyPost_ret (v := .tuple #[.agg #[.slice none 0 0, .int .u64 0, .int .i64 0], .int .i64 23]) (by rw [results_cell_tmp rfl]; go_simp) rfl ⟨by unfold spv; rw [HK.out]; rfl, (((Fr.refl _ _).alloc _).alloc _).alloc _⟩
  · have HK := hid hk
    clear hk
    go_wp2
    refine bodyPost_ret (v := .tuple #[.agg #[.slice (some ⟨q, off, none⟩) (b.length - 8) c, .int .u64 (s : Int), .int .i64 (g : Int)], .int .i64 0]) (by rw [results_cell_tmp rfl]; go_simp) rfl ⟨by unfold spv; rw [HK.out, ← HT.out, ← HS.out, ← HG.out]; rfl, (((Fr.refl _ _).alloc _).alloc _).alloc _⟩

/-- A slice of at least 8 bytes lies in memory. -/
theorem Rd.place {w : World} {v : Value} {b : List Nat} (hr : Rd w v (bv b)) (h : 0 < b.length) : ∃ q off c, v = .slice (some ⟨q, off, none⟩) b.length c ∧ b.length ≤ c := by
  rcases hr.split with ⟨rfl, _⟩ | ⟨q, off, c, rfl, h1, _, _⟩
  · simp at h
  · exact ⟨q, off, c, rfl, h1⟩
theorem isK_len {b : List Nat} (h : isK b = true) : 8 ≤ b.length ∧ b.length ≤ 136 ∧ tailN b % 256 ≤ 1 := by
  unfold isK at h
  simp only [Bool.and_eq_true, decide_eq_true_eq] at h
  exact h
theorem split_no (w : World) {v : Value} {b : List Nat} (hr : Rd w v (bv b)) (hb : By b) (hl : b.length ≤ 140737488355328) (h : isK b = false) :
    Calls Try.prog 46 #[v] w fun e w' => e = .returned (.tuple #[.agg #[.slice none 0 0, .int .u64 0, .int .i64 0], .int .i64 23]) ∧ Fr [] w w' := by
  rcases Nat.lt_or_ge b.length 8 with h8 | h8
  · exact split_short w hr h8
  · obtain ⟨q, off, c, rfl, h1⟩ := hr.place (by omega)
    refine (split_long w hr hb h8 hl h1).mono ?_
    rintro e w' ⟨rfl, f⟩
    exact ⟨by unfold spv; rw [h]; rfl, f⟩
theorem split_yes (w : World) {q off c : Nat} {b : List Nat} (hr : Rd w (.slice (some ⟨q, off, none⟩) b.length c) (bv b)) (hb : By b) (h1 : b.length ≤ c) (h : isK b = true) :
    Calls Try.prog 46 #[.slice (some ⟨q, off, none⟩) b.length c] w fun e w' => e = .returned (.tuple #[.agg #[.slice (some ⟨q, off, none⟩) (b.length - 8) c, .int .u64 ((tailN b / 256 : Nat) : Int), .int .i64 ((tailN b % 256 : Nat) : Int)], .int .i64 0]) ∧ Fr [] w w' := by
  have hk := isK_len h
  refine (split_long w hr hb hk.1 (by omega) h1).mono ?_
  rintro e w' ⟨rfl, f⟩
  exact ⟨by unfold spv; rw [h]; rfl, f⟩
end Go.Proofs.Ythmlpjogbdpgiaa
namespace Go.Proofs.Ythmlpjogbdpgiaa
open Go.ChangeShapes Go.WideShapes Go.ChangeAt Go.RowKit

/-- How two internal keys stand, by their parts. -/
def ordP (u v : List Nat) (s t k l : Int) : Int := if cmpN u v = 0 then (if cmpI t s = 0 then cmpI l k else cmpI t s) else cmpN u v

set_option maxRecDepth 20000 in
set_option maxHeartbeats 1600000 in
theorem from_c (w : World) {v1 v2 : Value} {u v : List Nat} (h1 : Rd w v1 (bv u)) (h2 : Rd w v2 (bv v)) (hu : By u) (hv : By v) (s t k l : Int) :
    Calls Try.prog 50 #[.int .i64 0, .agg #[v1, .int .u64 s, .int .i64 k], .agg #[v2, .int .u64 t, .int .i64 l]] w fun e w' => e = .returned (.int .i64 (ordP u v s t k l)) ∧ Fr [] w w' := by
  obtain ⟨a1, c1, hv1⟩ := h1.form
  obtain ⟨a2, c2, hv2⟩ := h2.form
  subst hv1
  subst hv2
  have HC : Hid (∀ w', Fr [] w w' → Calls Try.prog 54 #[.slice a1 (bv u).length c1, .slice a2 (bv v).length c2] w' fun e w'' => e = .returned (.int .i64 (cmpN u v)) ∧ w'' = w') := fun w' f => bcmp_c (h1.fr f) (h2.fr f) hu hv
  clear h1 h2 hu hv
  unfold ordP
  obtain ⟨x, hx⟩ : ∃ x, x = cmpN u v := ⟨_, rfl⟩
  obtain ⟨y, hy⟩ : ∃ y, y = cmpI t s := ⟨_, rfl⟩
  rw [← hx] at HC ⊢
  rw [← hy]
  have HY := hid hy
  clear hx hy
  by_cases h0 : x = 0
  · have e0 : (x == 0) = true := by simpa using h0
    rw [if_pos h0]
    clear h0
    by_cases hy0 : y = 0
    · have e1 : (y == 0) = true := by simpa using hy0
      rw [if_pos hy0]
      clear hy0
      go_enter Try.func50, Try.ntmps50
      go_wp2_with fail
      refine (HC.out _ (((Fr.refl _ _).alloc _).alloc _)).mono ?_
      rintro e w1 ⟨rfl, rfl⟩
      go_wp2_with fail
      refine (cmpu_c _ t s).mono ?_
      rintro e w2 ⟨rfl, rfl⟩
      rw [← HY.out]
      go_wp2_with fail
      refine (cmpi_c _ l k).mono ?_
      rintro e w3 ⟨rfl, rfl⟩
      go_wp2
      go_ret
      exact ⟨rfl, ((Fr.refl _ _).alloc _).alloc _⟩
    · have e1 : (y == 0) = false := by simpa using hy0
      rw [if_neg hy0]
      clear hy0
      go_enter Try.func50, Try.ntmps50
      go_wp2_with fail
      refine (HC.out _ (((Fr.refl _ _).alloc _).alloc _)).mono ?_
      rintro e w1 ⟨rfl, rfl⟩
      go_wp2_with fail
      refine (cmpu_c _ t s).mono ?_
      rintro e w2 ⟨rfl, rfl⟩
      rw [← HY.out]
      go_wp2
      go_ret
      exact ⟨rfl, ((Fr.refl _ _).alloc _).alloc _⟩
  · have e0 : (x == 0) = false := by simpa using h0
    rw [if_neg h0]
    clear h0
    go_enter Try.func50, Try.ntmps50
    go_wp2_with fail
    refine (HC.out _ (((Fr.refl _ _).alloc _).alloc _)).mono ?_
    rintro e w1 ⟨rfl, rfl⟩
    go_wp2
    go_ret
    exact ⟨rfl, ((Fr.refl _ _).alloc _).alloc _⟩
end Go.Proofs.Ythmlpjogbdpgiaa
namespace Go.Proofs.Ythmlpjogbdpgiaa
open Go.ChangeShapes Go.WideShapes Go.ChangeAt Go.RowKit

/-- How two internal keys stand. -/
def ordK (a b : List Nat) : Int := ordP (userL a) (userL b) ((tailN a / 256 : Nat) : Int) ((tailN b / 256 : Nat) : Int) ((tailN a % 256 : Nat) : Int) ((tailN b % 256 : Nat) : Int)

set_option maxRecDepth 20000 in
set_option maxHeartbeats 800000 in
theorem compare_no1 (w : World) {v1 v2 : Value} {a : List Nat} (h1 : Rd w v1 (bv a)) (ha : By a) (hl : a.length ≤ 140737488355328) (h : isK a = false) {n2 c2 : Nat} {a2 : Option Addr} (hv2 : v2 = .slice a2 n2 c2) :
    Calls Try.prog 39 #[v1, v2] w fun e w' => e = .returned (.tuple #[.int .i64 0, .int .i64 23]) ∧ Fr [] w w' := by
  have HS := hid (split_no w h1 ha hl h)
  obtain ⟨a1, c1, hv1⟩ := h1.form
  subst hv1
  subst hv2
  clear h1 ha h
  go_enter Try.func39, Try.ntmps39
  go_wp2_with fail
  refine HS.out.mono ?_
  rintro e w1 ⟨rfl, f1⟩
  go_wp2
  go_ret2
  exact ⟨rfl, f1.alloc _⟩

set_option maxRecDepth 20000 in
set_option maxHeartbeats 800000 in
theorem compare_no2 (w : World) {v1 v2 : Value} {a b : List Nat} (h1 : Rd w v1 (bv a)) (ha : By a) (h : isK a = true) (h2 : Rd w v2 (bv b)) (hb : By b) (hl : b.length ≤ 140737488355328) (hk : isK b = false) :
    Calls Try.prog 39 #[v1, v2] w fun e w' => e = .returned (.tuple #[.int .i64 0, .int .i64 23]) ∧ Fr [] w w' := by
  have hka := isK_len h
  obtain ⟨q, off, c, hv1, hc⟩ := h1.place (by omega)
  obtain ⟨a2, c2, hv2⟩ := h2.form
  subst hv1
  subst hv2
  have HS := hid (split_yes w h1 ha hc h)
  have HR2 := hid h2
  have HB := hid hb
  have HK := hid hk
  clear h1 ha h h2 hb hk
  go_enter Try.func39, Try.ntmps39
  go_wp2_with fail
  refine HS.out.mono ?_
  rintro e w1 ⟨rfl, f1⟩
  have F1 := hid f1
  clear f1
  go_wp2_with fail
  refine (split_no _ (HR2.out.fr (F1.out.alloc _)) HB.out hl HK.out).mono ?_
  rintro e w2 ⟨rfl, f2⟩
  have F2 := hid ((F1.out.alloc _).trans f2)
  clear f2
  go_wp2
  go_ret2
  exact ⟨rfl, F2.out.alloc _⟩

set_option maxRecDepth 20000 in
set_option maxHeartbeats 1600000 in
theorem compare_yes (w : World) {v1 v2 : Value} {a b : List Nat} (h1 : Rd w v1 (bv a)) (ha : By a) (h : isK a = true) (h2 : Rd w v2 (bv b)) (hb : By b) (hk : isK b = true) :
    Calls Try.prog 39 #[v1, v2] w fun e w' => e = .returned (.tuple #[.int .i64 (ordK a b), .int .i64 0]) ∧ Fr [] w w' := by
  have hka := isK_len h
  have hkb := isK_len hk
  obtain ⟨q, off, c, hv1, hc⟩ := h1.place (by omega)
  obtain ⟨q2, off2, c2, hv2, hc2⟩ := h2.place (by omega)
  subst hv1
  subst hv2
  have HS := hid (split_yes w h1 ha hc h)
  have HR2 := hid h2
  have HU := hid (h1.front (q := a.length - 8) (by omega))
  have HV := hid (h2.front (q := b.length - 8) (by omega))
  have HA := hid ha
  have HB := hid hb
  have HK := hid hk
  unfold ordK
  generalize hs1 : ((tailN a / 256 : Nat) : Int) = s at HS ⊢
  generalize hk1 : ((tailN a % 256 : Nat) : Int) = k at HS ⊢
  generalize hs2 : ((tailN b / 256 : Nat) : Int) = t
  generalize hk2 : ((tailN b % 256 : Nat) : Int) = l
  have HS2 := hid hs2
  have HK2 := hid hk2
  clear h1 ha h h2 hb hk hs1 hk1 hs2 hk2
  go_enter Try.func39, Try.ntmps39
  go_wp2_with fail
  refine HS.out.mono ?_
  rintro e w1 ⟨rfl, f1⟩
  have F1 := hid f1
  clear f1
  go_wp2_with fail
  have A1 : Hid (Fr [] w (w1.alloc (.cells #[.slice (some ⟨q, off, none⟩) (a.length - 8) c, .int .u64 s, .int .i64 k] 86))) := F1.out.alloc _
  have A2 := hid (split_yes _ (HR2.out.fr A1.out) HB.out hc2 HK.out)
  rw [HS2.out, HK2.out] at A2
  have A3 : Hid ((w1.alloc (.cells #[.slice (some ⟨q, off, none⟩) (a.length - 8) c, .int .u64 s, .int .i64 k] 86)).heap[w1.heap.size]? = some (.cells #[.slice (some ⟨q, off, none⟩) (a.length - 8) c, .int .u64 s, .int .i64 k] 86 (0, 0))) := blk_new w1 _
  refine A2.out.mono ?_
  rintro e w2 ⟨rfl, f2⟩
  have kb := f2.at A3.out (by simp)
  have c0 : w2.cell? ⟨w1.heap.size, 0, none⟩ = some (.slice (some ⟨q, off, none⟩) (a.length - 8) c) := by rw [blk_cell kb]; rfl
  have c1 : w2.cell? ⟨w1.heap.size, 1, none⟩ = some (.int .u64 s) := by rw [blk_cell kb]; rfl
  have c2' : w2.cell? ⟨w1.heap.size, 2, none⟩ = some (.int .i64 k) := by rw [blk_cell kb]; rfl
  have hlt : w1.heap.size < w2.heap.size := blk_lt kb
  have F2 := hid (A1.out.trans f2)
  clear f2 kb A1 A2 A3
  go_wp2_with fail
  have A4 : Hid (Fr [] w (w2.alloc (.cells #[.slice (some ⟨q2, off2, none⟩) (b.length - 8) c2, .int .u64 t, .int .i64 l] 86))) := F2.out.alloc _
  refine (from_c _ (HU.out.fr A4.out) (HV.out.fr A4.out) (HA.out.take _) (HB.out.take _) s t k l).mono ?_
  rintro e w3 ⟨rfl, f3⟩
  have F3 := hid (A4.out.trans f3)
  clear f3 A4
  go_wp2
  go_ret2
  exact ⟨rfl, F3.out⟩
end Go.Proofs.Ythmlpjogbdpgiaa
namespace Go.Proofs.Ythmlpjogbdpgiaa
open Go.ChangeShapes Go.WideShapes Go.ChangeAt Go.RowKit

/-- Of the same user key: the greater moment ahead. -/
def ord2 (s t k l : Int) : Int := if cmpI t s = 0 then cmpI l k else cmpI t s
theorem cmpI_cases (x y : Int) : (x < y ∧ cmpI x y = -1) ∨ (y < x ∧ cmpI x y = 1) ∨ (x = y ∧ cmpI x y = 0) := by
  unfold cmpI
  rcases (show x < y ∨ y < x ∨ x = y from by omega) with h | h | h
  · exact .inl ⟨h, by rw [if_pos h]⟩
  · exact .inr (.inl ⟨h, by rw [if_neg (by omega), if_pos h]⟩)
  · exact .inr (.inr ⟨h, by rw [if_neg (by omega), if_neg (by omega)]⟩)
theorem ord2_cases (s t k l : Int) : ((t < s ∨ s = t ∧ l < k) ∧ ord2 s t k l = -1) ∨ ((s < t ∨ s = t ∧ k < l) ∧ ord2 s t k l = 1) ∨ (s = t ∧ k = l ∧ ord2 s t k l = 0) := by
  unfold ord2
  rcases cmpI_cases t s with ⟨h, e⟩ | ⟨h, e⟩ | ⟨h, e⟩
  · rw [e, if_neg (by omega)]; exact .inl ⟨.inl h, rfl⟩
  · rw [e, if_neg (by omega)]; exact .inr (.inl ⟨.inl h, rfl⟩)
  · rw [e, if_pos rfl]
    rcases cmpI_cases l k with ⟨g, f⟩ | ⟨g, f⟩ | ⟨g, f⟩
    · exact .inl ⟨.inr ⟨h.symm, g⟩, f⟩
    · exact .inr (.inl ⟨.inr ⟨h.symm, g⟩, f⟩)
    · exact .inr (.inr ⟨h.symm, g.symm, f⟩)
theorem ordP_def (u v : List Nat) (s t k l : Int) : ordP u v s t k l = if cmpN u v = 0 then ord2 s t k l else cmpN u v := rfl
theorem ordP_val (u v : List Nat) (s t k l : Int) : -1 ≤ ordP u v s t k l ∧ ordP u v s t k l ≤ 1 := by
  rw [ordP_def]
  have h1 := cmpN_val u v
  have h2 := ord2_cases s t k l
  split <;> omega
theorem ordP_neg (u v : List Nat) (s t k l : Int) : ordP v u t s l k = -ordP u v s t k l := by
  rw [ordP_def, ordP_def, cmpN_neg u v]
  have h1 := cmpN_val u v
  have h2 := ord2_cases s t k l
  have h3 := ord2_cases t s l k
  by_cases h : cmpN u v = 0
  · rw [if_pos (by omega), if_pos h]; omega
  · rw [if_neg (by omega), if_neg h]
theorem ordP_trans (u v z : List Nat) (s t r k l m : Int) (h1 : ordP u v s t k l ≤ 0) (h2 : ordP v z t r l m ≤ 0) : ordP u z s r k m ≤ 0 := by
  rw [ordP_def] at h1 h2 ⊢
  have c1 : cmpN u v ≤ 0 := by
    by_cases e : cmpN u v = 0
    · omega
    · rw [if_neg e] at h1; exact h1
  have c2 : cmpN v z ≤ 0 := by
    by_cases e : cmpN v z = 0
    · omega
    · rw [if_neg e] at h2; exact h2
  have c3 := cmpN_trans u v z c1 c2
  by_cases e : cmpN u z = 0
  · have euz := (cmpN_eq u z).1 e
    subst euz
    have c4 := cmpN_neg u v
    have e1 : cmpN u v = 0 := by omega
    have e2 : cmpN v u = 0 := by omega
    rw [if_pos e1] at h1
    rw [if_pos e2] at h2
    rw [if_pos e]
    have o1 := ord2_cases s t k l
    have o2 := ord2_cases t r l m
    have o3 := ord2_cases s r k m
    omega
  · rw [if_neg e]; exact c3

theorem ordK_val (a b : List Nat) : -1 ≤ ordK a b ∧ ordK a b ≤ 1 := ordP_val _ _ _ _ _ _
theorem ordK_neg (a b : List Nat) : ordK b a = -ordK a b := ordP_neg _ _ _ _ _ _
theorem ordK_trans (a b c : List Nat) (h1 : ordK a b ≤ 0) (h2 : ordK b c ≤ 0) : ordK a c ≤ 0 := ordP_trans _ _ _ _ _ _ _ _ _ h1 h2
theorem unf_inj' {a b : List Nat} (ha : By a) (hb : By b) (hl : a.length = b.length) (h : unf a = unf b) : a = b := by
  rw [← fixL_unf a ha, ← fixL_unf b hb, h, hl]
theorem ordK_eq {a b : List Nat} (ha : By a) (hb : By b) (ka : 8 ≤ a.length) (kb : 8 ≤ b.length) (h : ordK a b = 0) : a = b := by
  unfold ordK at h
  rw [ordP_def] at h
  have e : cmpN (userL a) (userL b) = 0 := by
    by_cases e : cmpN (userL a) (userL b) = 0
    · exact e
    · rw [if_neg e] at h; exact h
  rw [if_pos e] at h
  have eu := (cmpN_eq _ _).1 e
  have o := ord2_cases ((tailN a / 256 : Nat) : Int) ((tailN b / 256 : Nat) : Int) ((tailN a % 256 : Nat) : Int) ((tailN b % 256 : Nat) : Int)
  have et : tailN a = tailN b := by omega
  have ed : a.drop (a.length - 8) = b.drop (b.length - 8) := unf_inj' (ha.drop _) (hb.drop _) (by rw [List.length_drop, List.length_drop]; omega) et
  rw [← List.take_append_drop (a.length - 8) a, ← List.take_append_drop (b.length - 8) b, ed]
  have eu' : a.take (a.length - 8) = b.take (b.length - 8) := eu
  rw [eu']
end Go.Proofs.Ythmlpjogbdpgiaa
