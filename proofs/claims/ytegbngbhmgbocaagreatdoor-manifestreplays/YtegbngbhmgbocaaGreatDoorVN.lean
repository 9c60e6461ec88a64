/-
  A table laid over another one in a list of the call's own; what Apply answers.
-/
import Derived.Test.YtegbngbhmgbocaaGreatDoorVL
namespace Go.Proofs.YtegbngbhmgbocaaGreatDoor
open Go.ChangeShapes Go.WideShapes Go.ChangeAt Go.RowKit

theorem flat4_set {xs : List Fx} {j : Nat} {x x' : Fx} (hj : xs[j]? = some x) : (xs.set j x').flatMap encX = ((((xs.flatMap encX).set (j * 4) (.int .i64 x'.f.num)).set (j * 4 + 1) (.int .i64 x'.f.size)).set (j * 4 + 2) (.slice x'.la x'.f.least.length x'.lc)).set (j * 4 + 3) (.slice x'.ma x'.f.most.length x'.mc) := by
  have hjl := (List.getElem?_eq_some_iff.1 hj).1
  have hl : (xs.flatMap encX).length = xs.length * 4 := flat4_len xs
  apply List.ext_getElem?
  intro t
  by_cases ht : t < xs.length * 4
  · have htl : t / 4 < xs.length := by omega
    obtain ⟨y, hy⟩ : ∃ y, xs[t / 4]? = some y := ⟨_, List.getElem?_eq_getElem htl⟩
    by_cases e : t / 4 = j
    · have h1 : (xs.set j x')[t / 4]? = some x' := by rw [e, List.getElem?_set_self hjl]
      rw [flat4_at _ t _ h1]
      rcases (show t = j * 4 ∨ t = j * 4 + 1 ∨ t = j * 4 + 2 ∨ t = j * 4 + 3 from by omega) with rfl | rfl | rfl | rfl
      · rw [List.getElem?_set_ne (by omega), List.getElem?_set_ne (by omega), List.getElem?_set_ne (by omega), List.getElem?_set_self (by omega), show (j * 4) % 4 = 0 from by omega]; rfl
      · rw [List.getElem?_set_ne (by omega), List.getElem?_set_ne (by omega), List.getElem?_set_self (by simp only [List.length_set]; omega), show (j * 4 + 1) % 4 = 1 from by omega]; rfl
      · rw [List.getElem?_set_ne (by omega), List.getElem?_set_self (by simp only [List.length_set]; omega), show (j * 4 + 2) % 4 = 2 from by omega]; rfl
      · rw [List.getElem?_set_self (by simp only [List.length_set]; omega), show (j * 4 + 3) % 4 = 3 from by omega]; rfl
    · have h1 : (xs.set j x')[t / 4]? = some y := by rw [List.getElem?_set_ne (Ne.symm e)]; exact hy
      rw [flat4_at _ t _ h1, List.getElem?_set_ne (by omega), List.getElem?_set_ne (by omega), List.getElem?_set_ne (by omega), List.getElem?_set_ne (by omega), flat4_at _ t _ hy]
  · rw [List.getElem?_eq_none (by rw [flat4_len, List.length_set]; omega), List.getElem?_eq_none (by simp only [List.length_set]; omega)]
/-- Four cells of a row of the call's own are written over. -/
theorem own_put4 {W : World} {B g off c : Nat} {n : Nat} {xs : List Fx} {j : Nat} {x x' : Fx} (h0 : off = 0) (hn : n = xs.length) (hj : xs[j]? = some x) (o : W.ownsRow B 62 4 (.slice (some ⟨g, off, none⟩) n c) xs.length (xs.flatMap encX)) :
    ((((W.setCell ⟨g, off + j * 4, none⟩ (.int .i64 x'.f.num)).setCell ⟨g, off + j * 4 + 1, none⟩ (.int .i64 x'.f.size)).setCell ⟨g, off + j * 4 + 2, none⟩ (.slice x'.la x'.f.least.length x'.lc)).setCell ⟨g, off + j * 4 + 3, none⟩ (.slice x'.ma x'.f.most.length x'.mc)).ownsRow B 62 4 (.slice (some ⟨g, off, none⟩) n c) (xs.set j x').length ((xs.set j x').flatMap encX) := by
  subst h0
  have hjl := (List.getElem?_eq_some_iff.1 hj).1
  rcases o.2 with ⟨h1, _⟩ | ⟨g', cap, cur, h1, h2, h3, h4, h5, h6, h7⟩
  · cases h1
  · simp only [Value.slice.injEq, Option.some.injEq, Addr.mk.injEq] at h1
    obtain ⟨⟨rfl, _⟩, _, rfl⟩ := h1
    refine ⟨by rw [flat4_len], .inr ⟨g, c, _, by rw [List.length_set, hn], h2, blk_set (blk_set (blk_set (blk_set h3 _ _) _ _) _ _) _ _, by rw [List.length_set]; exact h4, h5, by simp; exact h6, ?_⟩⟩
    rw [List.length_set, flat4_set hj, ← h7]
    simp only [Nat.zero_add, Array.toList_setIfInBounds, List.take_set]
theorem LvS.put {wb W : World} {K : Nat} {X : Nat → List Fx} {ad : Nat → Option Addr} {ln cp : Nat → Nat} (h : LvS wb W K X ad ln cp) {i j g off : Nat} (hi : i < 5) (h0 : off = 0) (ha : ad i = some ⟨g, off, none⟩) {x x' : Fx} (hj : (X i)[j]? = some x) :
    LvS wb ((((W.setCell ⟨g, off + j * 4, none⟩ (.int .i64 x'.f.num)).setCell ⟨g, off + j * 4 + 1, none⟩ (.int .i64 x'.f.size)).setCell ⟨g, off + j * 4 + 2, none⟩ (.slice x'.la x'.f.least.length x'.lc)).setCell ⟨g, off + j * 4 + 3, none⟩ (.slice x'.ma x'.f.most.length x'.mc)) K (upA X i ((X i).set j x')) ad ln cp ∧ wb.heap.size ≤ g ∧ (∃ cur, W.heap[g]? = some (.cells cur 62 (0, 0))) := by
  have o := h.own i hi
  rw [ha] at o
  have hg : wb.heap.size ≤ g ∧ ∃ cur, W.heap[g]? = some (.cells cur 62 (0, 0)) := by
    rcases o.2 with ⟨h1, _⟩ | ⟨g', cap, cur, h1, h2, h3, _⟩
    · cases h1
    · simp only [Value.slice.injEq, Option.some.injEq, Addr.mk.injEq] at h1
      obtain ⟨⟨rfl, _⟩, _⟩ := h1
      exact ⟨h2, cur, h3⟩
  obtain ⟨hge, cur, hcur⟩ := hg
  have hne : K ≠ g := fun e => by have h1 := h.blk; rw [e, hcur] at h1; simp at h1
  have sb : ∀ k, k ≠ g → ((((W.setCell ⟨g, off + j * 4, none⟩ (.int .i64 x'.f.num)).setCell ⟨g, off + j * 4 + 1, none⟩ (.int .i64 x'.f.size)).setCell ⟨g, off + j * 4 + 2, none⟩ (.slice x'.la x'.f.least.length x'.lc)).setCell ⟨g, off + j * 4 + 3, none⟩ (.slice x'.ma x'.f.most.length x'.mc)).heap[k]? = W.heap[k]? := fun k hk => by
    rw [blk_setne _ _ _ hk, blk_setne _ _ _ hk, blk_setne _ _ _ hk, blk_setne _ _ _ hk]
  refine ⟨⟨by rw [sb K hne]; exact h.blk, ?_, ?_, h.apart, (((h.fr.set _ _ (.inr hge)).set _ _ (.inr hge)).set _ _ (.inr hge)).set _ _ (.inr hge), h.ge⟩, hge, cur, hcur⟩
  · intro k hk
    by_cases e : k = i
    · subst e; rw [upA_same, List.length_set]; exact h.len k hk
    · rw [upA_ne _ _ e]; exact h.len k hk
  · intro k hk
    by_cases e : k = i
    · subst e
      rw [upA_same, ha]
      exact own_put4 h0 (h.len k hk) hj o
    · rw [upA_ne _ _ e]
      refine ownsRow_of_block (h.own k hk) fun b hb => sb b (fun e2 => ?_)
      subst e2
      refine h.apart i k hi hk (fun e3 => e e3.symm) b ?_ hb
      rw [ha]; rfl
theorem LvS.place {wb W : World} {K : Nat} {X : Nat → List Fx} {ad : Nat → Option Addr} {ln cp : Nat → Nat} (h : LvS wb W K X ad ln cp) {i : Nat} (hi : i < 5) (h0 : 0 < ln i) : ∃ g off, ad i = some ⟨g, off, none⟩ ∧ off = 0 := by
  rcases (h.own i hi).2 with ⟨h1, h2⟩ | ⟨g, cap, cur, h1, _⟩
  · have := h.len i hi; omega
  · simp only [Value.slice.injEq] at h1
    exact ⟨g, 0, h1.1, rfl⟩
/-- The cells of a table of an own list. -/
theorem LvS.at4 {wb W : World} {K : Nat} {X : Nat → List Fx} {ad : Nat → Option Addr} {ln cp : Nat → Nat} (h : LvS wb W K X ad ln cp) {i j g off : Nat} (hi : i < 5) (h0 : off = 0) (ha : ad i = some ⟨g, off, none⟩) {x : Fx} (hj : (X i)[j]? = some x) :
    (W.cell? ⟨g, off + j * 4, none⟩ = some (.int .i64 x.f.num) ∧ W.cell? ⟨g, off + j * 4 + 1, none⟩ = some (.int .i64 x.f.size) ∧ W.cell? ⟨g, off + j * 4 + 2, none⟩ = some (.slice x.la x.f.least.length x.lc) ∧ W.cell? ⟨g, off + j * 4 + 3, none⟩ = some (.slice x.ma x.f.most.length x.mc)) ∧ ∀ k, W.frozen? ⟨g, k, none⟩ = false := by
  subst h0
  have o := h.own i hi
  rw [ha] at o
  have hjl := (List.getElem?_eq_some_iff.1 hj).1
  rcases o.2 with ⟨h1, _⟩ | ⟨g', cap, cur, h1, h2, h3, h4, h5, h6, h7⟩
  · cases h1
  · simp only [Value.slice.injEq, Option.some.injEq, Addr.mk.injEq] at h1
    obtain ⟨⟨rfl, _⟩, _, _⟩ := h1
    have cell : ∀ c, c < 4 → W.cell? ⟨g, 0 + j * 4 + c, none⟩ = (encX x)[c]? := fun c hc => by
      rw [blk_cell h3, ← Array.getElem?_toList]
      have e2 := flat4_at (X i) (j * 4 + c) x (by rw [show (j * 4 + c) / 4 = j from by omega]; exact hj)
      rw [← h7, List.getElem?_take, if_pos (by omega), show (j * 4 + c) % 4 = c from by omega] at e2
      rw [show 0 + j * 4 + c = j * 4 + c from by omega]
      exact e2
    exact ⟨⟨by have := cell 0 (by omega); simpa [encX] using this, by have := cell 1 (by omega); simpa [encX] using this, by have := cell 2 (by omega); simpa [encX] using this, by have := cell 3 (by omega); simpa [encX] using this⟩, fun k => blk_frozen h3 k⟩
/-- While an edit's lists are copied: those ahead are the call's own. -/
def doneX (i j k m : Nat) : Prop := k < i ∨ k = i ∧ m < j
structure ApZ (wb W : World) (K : Nat) (U : Nat → List Fl) (kd : Nat → Option Addr) (kl kc : Nat → Nat) (i j : Nat) (Z : Nat → List Fx) : Prop where
  mp : ∀ k, k < 5 → (Z k).map Fx.f = U k
  lv : LvS wb W K Z kd kl kc
  own : ∀ k, k < 5 → ∀ m x, (Z k)[m]? = some x → doneX i j k m → XO wb.heap.size W x.f x.la x.lc x.ma x.mc
  rd : ∀ k, k < 5 → ∀ m x, (Z k)[m]? = some x → ¬ doneX i j k m → RX wb x
  bys : ∀ k, k < 5 → ∀ f ∈ U k, By f.least ∧ By f.most ∧ f.least.length ≤ 140737488355328 ∧ f.most.length ≤ 140737488355328
theorem XO.put4 {B : Nat} {W : World} {f : Fl} {la ma : Option Addr} {lc mc g : Nat} {cur : Array Value} (h : XO B W f la lc ma mc) (hg : W.heap[g]? = some (.cells cur 62 (0, 0))) (p0 p1 p2 p3 : Nat) (v0 v1 v2 v3 : Value) : XO B ((((W.setCell ⟨g, p0, none⟩ v0).setCell ⟨g, p1, none⟩ v1).setCell ⟨g, p2, none⟩ v2).setCell ⟨g, p3, none⟩ v3) f la lc ma mc := by
  have sb : ∀ k, k ≠ g → ((((W.setCell ⟨g, p0, none⟩ v0).setCell ⟨g, p1, none⟩ v1).setCell ⟨g, p2, none⟩ v2).setCell ⟨g, p3, none⟩ v3).heap[k]? = W.heap[k]? := fun k hk => by
    rw [blk_setne _ _ _ hk, blk_setne _ _ _ hk, blk_setne _ _ _ hk, blk_setne _ _ _ hk]
  exact ⟨ownsRow_of_block h.ol fun b hb => sb b (fun e => by subst e; exact own_not h.ol hg (by decide) hb), ownsRow_of_block h.om fun b hb => sb b (fun e => by subst e; exact own_not h.om hg (by decide) hb)⟩
theorem ApZ.fr' {wb W W' : World} {K : Nat} {U : Nat → List Fl} {kd : Nat → Option Addr} {kl kc : Nat → Nat} {i j : Nat} {Z : Nat → List Fx} (h : ApZ wb W K U kd kl kc i j Z) (f : Fr [] W W') : ApZ wb W' K U kd kl kc i j Z :=
  ⟨h.mp, h.lv.fr' f, fun k hk m x hx hd => (h.own k hk m x hx hd).fr f, h.rd, h.bys⟩
theorem ApZ.next {wb W : World} {K : Nat} {U : Nat → List Fl} {kd : Nat → Option Addr} {kl kc : Nat → Nat} {i : Nat} {Z : Nat → List Fx} (h : ApZ wb W K U kd kl kc i (Z i).length Z) : ApZ wb W K U kd kl kc (i + 1) 0 Z := by
  have hd : ∀ k m x, (Z k)[m]? = some x → (doneX (i + 1) 0 k m ↔ doneX i (Z i).length k m) := fun k m x hx => by
    unfold doneX
    have hm := (List.getElem?_eq_some_iff.1 hx).1
    constructor
    · intro h1
      rcases Nat.lt_trichotomy k i with h2 | h2 | h2
      · exact .inl h2
      · subst h2; exact .inr ⟨rfl, hm⟩
      · omega
    · intro h1; omega
  exact ⟨h.mp, h.lv, fun k hk m x hx hd' => h.own k hk m x hx ((hd k m x hx).1 hd'), fun k hk m x hx hd' => h.rd k hk m x hx (fun q => hd' ((hd k m x hx).2 q)), h.bys⟩
theorem ApZ.step {wb W : World} {K : Nat} {U : Nat → List Fl} {kd : Nat → Option Addr} {kl kc : Nat → Nat} {i j g off : Nat} {Z : Nat → List Fx} (h : ApZ wb W K U kd kl kc i j Z) (hi : i < 5) (h0 : off = 0) (ha : kd i = some ⟨g, off, none⟩) {x x' : Fx} (hj : (Z i)[j]? = some x) (hf : x'.f = x.f) (xo : XO wb.heap.size W x'.f x'.la x'.lc x'.ma x'.mc) :
    ApZ wb ((((W.setCell ⟨g, off + j * 4, none⟩ (.int .i64 x'.f.num)).setCell ⟨g, off + j * 4 + 1, none⟩ (.int .i64 x'.f.size)).setCell ⟨g, off + j * 4 + 2, none⟩ (.slice x'.la x'.f.least.length x'.lc)).setCell ⟨g, off + j * 4 + 3, none⟩ (.slice x'.ma x'.f.most.length x'.mc)) K U kd kl kc i (j + 1) (upA Z i ((Z i).set j x')) := by
  have hjl := (List.getElem?_eq_some_iff.1 hj).1
  obtain ⟨lv, hge, cur, hcur⟩ := h.lv.put hi h0 ha (x' := x') hj
  refine ⟨?_, lv, ?_, ?_, h.bys⟩
  · intro k hk
    by_cases e : k = i
    · subst e
      rw [upA_same, List.map_set, hf, ← h.mp k hk]
      apply List.ext_getElem?
      intro t
      by_cases et : t = j
      · subst et; rw [List.getElem?_set_self (by rw [List.length_map]; exact hjl), List.getElem?_map, hj]; rfl
      · rw [List.getElem?_set_ne (Ne.symm et)]
    · rw [upA_ne _ _ e]; exact h.mp k hk
  · intro k hk m y hy hd
    by_cases e : k = i
    · subst e
      rw [upA_same] at hy
      by_cases em : m = j
      · subst em
        rw [List.getElem?_set_self hjl] at hy
        cases hy
        exact xo.put4 hcur _ _ _ _ _ _ _ _
      · rw [List.getElem?_set_ne (Ne.symm em)] at hy
        exact (h.own k hk m y hy (by unfold doneX at *; omega)).put4 hcur _ _ _ _ _ _ _ _
    · rw [upA_ne _ _ e] at hy
      exact (h.own k hk m y hy (by unfold doneX at *; omega)).put4 hcur _ _ _ _ _ _ _ _
  · intro k hk m y hy hd
    by_cases e : k = i
    · subst e
      rw [upA_same] at hy
      have em : m ≠ j := fun em => hd (.inr ⟨rfl, by omega⟩)
      rw [List.getElem?_set_ne (Ne.symm em)] at hy
      exact h.rd k hk m y hy (by unfold doneX at *; omega)
    · rw [upA_ne _ _ e] at hy
      exact h.rd k hk m y hy (by unfold doneX at *; omega)
theorem XO.setO {B : Nat} {W : World} {f : Fl} {la ma : Option Addr} {lc mc g : Nat} {cur : Array Value} {T : TypeId} (h : XO B W f la lc ma mc) (hg : W.heap[g]? = some (.cells cur T (0, 0))) (hT : T ≠ 5) (p0 : Nat) (v0 : Value) : XO B (W.setCell ⟨g, p0, none⟩ v0) f la lc ma mc :=
  ⟨ownsRow_of_block h.ol fun b hb => blk_setne _ _ _ (fun e => by subst e; exact own_not h.ol hg hT hb), ownsRow_of_block h.om fun b hb => blk_setne _ _ _ (fun e => by subst e; exact own_not h.om hg hT hb)⟩
/-- Own lists with own keys. -/
structure OwnV (B : Nat) (W : World) (U : Nat → List Fl) (kd : Nat → Option Addr) (kl kc : Nat → Nat) : Prop where
  ex : ∃ Z : Nat → List Fx, (∀ k, k < 5 → (Z k).map Fx.f = U k) ∧ (∀ k, k < 5 → kl k = (Z k).length) ∧ (∀ k, k < 5 → W.ownsRow B 62 4 (.slice (kd k) (kl k) (kc k)) (Z k).length ((Z k).flatMap encX)) ∧ (∀ k, k < 5 → ∀ x ∈ Z k, XO B W x.f x.la x.lc x.ma x.mc)
  bys : ∀ k, k < 5 → ∀ f ∈ U k, By f.least ∧ By f.most ∧ f.least.length ≤ 140737488355328 ∧ f.most.length ≤ 140737488355328
  sm : ∀ k, k < 5 → kl k ≤ 1000000
theorem ApZ.ownv {wb W : World} {K : Nat} {U : Nat → List Fl} {kd : Nat → Option Addr} {kl kc : Nat → Nat} {Z : Nat → List Fx} (h : ApZ wb W K U kd kl kc 5 0 Z) (sm : ∀ k, k < 5 → kl k ≤ 1000000) : OwnV wb.heap.size W U kd kl kc :=
  ⟨⟨Z, h.mp, h.lv.len, h.lv.own, fun k hk x hx => by
    obtain ⟨m, hm⟩ := List.getElem?_of_mem hx
    exact h.own k hk m x hm (.inl hk)⟩, h.bys, sm⟩
theorem OwnV.setO {B : Nat} {W : World} {U : Nat → List Fl} {kd : Nat → Option Addr} {kl kc : Nat → Nat} (h : OwnV B W U kd kl kc) {g : Nat} {cur : Array Value} (hg : W.heap[g]? = some (.cells cur 28 (0, 0))) (p0 : Nat) (v0 : Value) : OwnV B (W.setCell ⟨g, p0, none⟩ v0) U kd kl kc := by
  obtain ⟨⟨Z, h1, h2, h3, h4⟩, h5, h6⟩ := h
  exact ⟨⟨Z, h1, h2, fun k hk => ownsRow_of_block (h3 k hk) fun b hb => blk_setne _ _ _ (fun e => by subst e; exact own_not (h3 k hk) hg (by decide) hb), fun k hk x hx => (h4 k hk x hx).setO hg (by decide) _ _⟩, h5, h6⟩
theorem OwnV.vat {B : Nat} {W : World} {U : Nat → List Fl} {kd : Nat → Option Addr} {kl kc : Nat → Nat} (h : OwnV B W U kd kl kc) : VAt W U kd kl kc := by
  obtain ⟨⟨Z, h1, h2, h3, h4⟩, h5, h6⟩ := h
  refine ⟨fun i hi => by rw [h2 i hi, ← h1 i hi, List.length_map], fun i hi => by have := h6 i hi; omega, fun i hi h0 => ?_⟩
  rcases (h3 i hi).2 with ⟨e1, e2⟩ | ⟨g, cap, cur, e1, e2, e3, e4, e5, e6, e7⟩
  · have := h2 i hi; omega
  · simp only [Value.slice.injEq] at e1
    obtain ⟨a1, _, a3⟩ := e1
    refine ⟨g, 0, a1, fun j f hj => ?_⟩
    rw [← h1 i hi, List.getElem?_map] at hj
    cases hxj : (Z i)[j]? with
    | none => rw [hxj] at hj; cases hj
    | some x =>
      rw [hxj] at hj
      simp at hj
      subst hj
      have hxm := List.mem_of_getElem? hxj
      obtain ⟨b1, b2, b3, b4⟩ := h5 i hi x.f (by rw [← h1 i hi]; exact List.mem_map_of_mem hxm)
      have hx1 := (h4 i hi x hxm).frd b1 b2 b3 b4
      have hjl : j < (Z i).length := (List.getElem?_eq_some_iff.1 hxj).1
      have cell : ∀ c, c < 4 → W.cell? ⟨g, 0 + j * 4 + c, none⟩ = (encX x)[c]? := fun c hc => by
        rw [blk_cell e3, ← Array.getElem?_toList]
        have q2 := flat4_at (Z i) (j * 4 + c) x (by rw [show (j * 4 + c) / 4 = j from by omega]; exact hxj)
        rw [← e7, List.getElem?_take, if_pos (by omega), show (j * 4 + c) % 4 = c from by omega] at q2
        rw [show 0 + j * 4 + c = j * 4 + c from by omega]
        exact q2
      exact ⟨x.la, x.lc, x.ma, x.mc, by have := cell 0 (by omega); simpa [encX] using this, by have := cell 1 (by omega); simpa [encX] using this, by have := cell 2 (by omega); simpa [encX] using this, by have := cell 3 (by omega); simpa [encX] using this, hx1⟩
end Go.Proofs.YtegbngbhmgbocaaGreatDoor
