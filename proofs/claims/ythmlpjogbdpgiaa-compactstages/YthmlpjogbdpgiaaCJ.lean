/-
  within's closure: is a user key in a span, asked of user keys that don't fall.
-/
import Derived.Test.YthmlpjogbdpgiaaCI
import Derived.Test.YthmlpjogbdpgiaaJ05
namespace Go.Proofs.Ythmlpjogbdpgiaa
open Go.ChangeShapes Go.WideShapes Go.ChangeAt Go.RowKit

theorem cmpN_lt3c {a b c : List Nat} (h1 : 0 < cmpN a c) (h2 : cmpN a b ≤ 0) : 0 < cmpN b c := by
  rcases Int.lt_or_le 0 (cmpN b c) with h | h
  · exact h
  · have := cmpN_trans a b c h2 h; omega
/-- Spans in the order of their beginnings. -/
def SortL (L : Ps) : Prop := L.Pairwise fun s t => cmpN s.1 t.1 ≤ 0
theorem inSp_iff (L : Ps) (u : List Nat) : inSp L u = true ↔ ∃ s ∈ L, cmpN s.1 u ≤ 0 ∧ cmpN u s.2 ≤ 0 := by
  unfold inSp
  rw [List.any_eq_true]
  constructor
  · rintro ⟨s, hs, h⟩
    rw [Bool.and_eq_true, decide_eq_true_iff, decide_eq_true_iff] at h
    exact ⟨s, hs, h⟩
  · rintro ⟨s, hs, h⟩
    exact ⟨s, hs, by rw [Bool.and_eq_true, decide_eq_true_iff, decide_eq_true_iff]; exact h⟩
theorem inSp_perm {L L' : Ps} (h : L.Perm L') (u : List Nat) : inSp L u = inSp L' u := by
  have key : inSp L u = true ↔ inSp L' u = true := by
    rw [inSp_iff, inSp_iff]
    exact ⟨fun ⟨s, hs, k⟩ => ⟨s, h.subset hs, k⟩, fun ⟨s, hs, k⟩ => ⟨s, h.symm.subset hs, k⟩⟩
  rcases h1 : inSp L u with _ | _ <;> rcases h2 : inSp L' u with _ | _
  · rfl
  · rw [key.2 h2] at h1; cases h1
  · rw [key.1 h1] at h2; cases h2
  · rfl
/-- Where the spans from place k on begin behind u. -/
theorem inSp_at {L : Ps} (hs : SortL L) {k : Nat} {u : List Nat} (h1 : ∀ s ∈ L.take k, cmpN s.1 u ≤ 0) (h2 : ∀ s, L[k]? = some s → 0 < cmpN s.1 u) : inSp L u = true ↔ ∃ s ∈ L.take k, cmpN u s.2 ≤ 0 := by
  rw [inSp_iff]
  constructor
  · rintro ⟨s, hm, h3, h4⟩
    obtain ⟨j, hj⟩ := List.getElem?_of_mem hm
    by_cases hjk : j < k
    · exact ⟨s, List.mem_of_getElem? (by rw [List.getElem?_take_of_lt hjk]; exact hj), h4⟩
    · exfalso
      have hjl := (List.getElem?_eq_some_iff.1 hj).1
      obtain ⟨t, ht⟩ : ∃ t, L[k]? = some t := ⟨_, List.getElem?_eq_getElem (by omega)⟩
      have h5 := h2 t ht
      by_cases e : j = k
      · subst e
        rw [hj] at ht
        cases ht
        omega
      · have h6 := List.pairwise_iff_getElem.1 hs k j (by omega) hjl (by omega)
        rw [(List.getElem?_eq_some_iff.1 ht).2, (List.getElem?_eq_some_iff.1 hj).2] at h6
        have := cmpN_lt3c h5 h6
        omega
  · rintro ⟨s, hm, h3⟩
    exact ⟨s, List.mem_of_mem_take hm, h1 s hm, h3⟩
/-- The greatest end of the first k spans. -/
def Mx (L : Ps) (k : Nat) (m : List Nat) : Prop := (∃ s ∈ L.take k, s.2 = m) ∧ ∀ s ∈ L.take k, cmpN s.2 m ≤ 0
theorem mx_in {L : Ps} {k : Nat} {m u : List Nat} (h : Mx L k m) : (∃ s ∈ L.take k, cmpN u s.2 ≤ 0) ↔ cmpN u m ≤ 0 := by
  constructor
  · rintro ⟨s, hs, h1⟩
    exact cmpN_trans _ _ _ h1 (h.2 s hs)
  · intro h1
    obtain ⟨s, hs, he⟩ := h.1
    exact ⟨s, hs, by rw [he]; exact h1⟩
theorem take_one {L : Ps} {k : Nat} {s : List Nat × List Nat} (h : L[k]? = some s) : L.take (k + 1) = L.take k ++ [s] := by
  obtain ⟨hl, he⟩ := List.getElem?_eq_some_iff.1 h
  rw [List.take_succ_eq_append_getElem hl, he]
theorem Mx.one {L : Ps} {s : List Nat × List Nat} (h : L[0]? = some s) : Mx L 1 s.2 := by
  have e := take_one h
  rw [List.take_zero, List.nil_append] at e
  refine ⟨⟨s, by rw [e]; simp, rfl⟩, fun t ht => ?_⟩
  rw [e, List.mem_singleton] at ht
  subst ht
  rw [(cmpN_eq _ _).2 rfl]; omega
theorem Mx.more {L : Ps} {k : Nat} {m : List Nat} (hm : Mx L k m) {s : List Nat × List Nat} (h : L[k]? = some s) : (0 < cmpN s.2 m → Mx L (k + 1) s.2) ∧ (¬ 0 < cmpN s.2 m → Mx L (k + 1) m) := by
  have e := take_one h
  constructor
  · intro h1
    refine ⟨⟨s, by rw [e]; simp, rfl⟩, fun t ht => ?_⟩
    rw [e] at ht
    rcases List.mem_append.1 ht with h2 | h2
    · exact cmpN_trans _ _ _ (hm.2 t h2) (by rw [cmpN_neg]; omega)
    · rw [List.mem_singleton] at h2; subst h2; rw [(cmpN_eq _ _).2 rfl]; omega
  · intro h1
    obtain ⟨t0, h0, e0⟩ := hm.1
    refine ⟨⟨t0, by rw [e]; exact List.mem_append_left _ h0, e0⟩, fun t ht => ?_⟩
    rw [e] at ht
    rcases List.mem_append.1 ht with h2 | h2
    · exact hm.2 t h2
    · rw [List.mem_singleton] at h2; subst h2; omega
/-- Spans in a row at block Q, their bytes as they were in w0. -/
def SpA (w0 W : World) (Q : Nat) (L : Ps) : Prop := ∀ i s, L[i]? = some s → ∃ la lc ma mc, W.cell? ⟨Q, i * 2, none⟩ = some (.slice la s.1.length lc) ∧ W.cell? ⟨Q, i * 2 + 1, none⟩ = some (.slice ma s.2.length mc) ∧ Rd w0 (.slice la s.1.length lc) (bv s.1) ∧ Rd w0 (.slice ma s.2.length mc) (bv s.2) ∧ By s.1 ∧ By s.2
theorem cell_frS {S : List Nat} {w w' : World} (f : Fr S w w') {b o : Nat} {v : Value} (hb : b ∉ S) (h : w.cell? ⟨b, o, none⟩ = some v) : w'.cell? ⟨b, o, none⟩ = some v := by
  rw [World.cell?_of_block (w := w) (f.block _ (World.block_lt_of_cell? w _ h) hb)]; exact h
theorem SpA.keep {w0 W W' : World} {Q : Nat} {L : Ps} {S : List Nat} (h : SpA w0 W Q L) (f : Fr S W W') (hQ : Q ∉ S) : SpA w0 W' Q L := fun i s hi => by
  obtain ⟨la, lc, ma, mc, c0, c1, r⟩ := h i s hi
  exact ⟨la, lc, ma, mc, cell_frS f hQ c0, cell_frS f hQ c1, r⟩
/-- within's closure midway: k spans have begun. -/
structure WI (w0 W : World) (A B R Q : Nat) (L : Ps) (k : Nat) : Prop where
  fr : Fr [] w0 W
  kn : k ≤ L.length
  hA : ∃ a c, W.heap[A]? = some (.cells #[.slice a (L.length - k) c] 24 (0, 0)) ∧ (k < L.length → a = some ⟨Q, k * 2, none⟩) ∧ L.length - k ≤ c
  hB : W.heap[B]? = some (.cells #[.bool (decide (0 < k))] 4 (0, 0))
  hR : ∃ ra rl rc, W.heap[R]? = some (.cells #[.slice ra rl rc] 35 (0, 0)) ∧ (0 < k → ∃ m, m.length = rl ∧ Rd w0 (.slice ra rl rc) (bv m) ∧ By m ∧ Mx L k m)
  sp : SpA w0 W Q L
  bA : w0.heap.size ≤ A
  bB : w0.heap.size ≤ B
  bR : w0.heap.size ≤ R
  qA : Q ≠ A
  qB : Q ≠ B
  qR : Q ≠ R
theorem WI.apart {w0 W : World} {A B R Q : Nat} {L : Ps} {k : Nat} (h : WI w0 W A B R Q L k) : A ≠ B ∧ A ≠ R ∧ B ≠ R := by
  obtain ⟨a, c, hA, _⟩ := h.hA
  obtain ⟨ra, rl, rc, hR, _⟩ := h.hR
  have hB := h.hB
  refine ⟨fun e => ?_, fun e => ?_, fun e => ?_⟩
  · rw [e, hB] at hA; simp at hA
  · rw [e, hR] at hA
    simp only [Option.some.injEq, Obj.cells.injEq] at hA
    exact absurd hA.2.1 (by decide)
  · rw [e, hR] at hB; simp at hB
theorem WI.keep {w0 W W' : World} {A B R Q : Nat} {L : Ps} {k : Nat} {S : List Nat} (h : WI w0 W A B R Q L k) (f : Fr S W W') (hS : ∀ x ∈ S, w0.heap.size ≤ x ∧ x ≠ A ∧ x ≠ B ∧ x ≠ R ∧ x ≠ Q) : WI w0 W' A B R Q L k := by
  obtain ⟨a, c, hA, hA2⟩ := h.hA
  obtain ⟨ra, rl, rc, hR, hR2⟩ := h.hR
  exact ⟨h.fr.wide f fun x hx => (hS x hx).1, h.kn, ⟨a, c, f.at hA (fun m => (hS A m).2.1 rfl), hA2⟩, f.at h.hB (fun m => (hS B m).2.2.1 rfl), ⟨ra, rl, rc, f.at hR (fun m => (hS R m).2.2.2.1 rfl), hR2⟩, h.sp.keep f (fun m => (hS Q m).2.2.2.2 rfl), h.bA, h.bB, h.bR, h.qA, h.qB, h.qR⟩
/-- The next span begins: its end taken as the reach, or not. -/
theorem WI.step {w0 W : World} {A B R Q : Nat} {L : Ps} {k : Nat} (h : WI w0 W A B R Q L k) (hk : k < L.length) {ma : Option Addr} {ml mc : Nat} {m : List Nat} (hl : m.length = ml) (rm : Rd w0 (.slice ma ml mc) (bv m)) (bm : By m) (hm : Mx L (k + 1) m) {a' : Option Addr} {c' : Nat} (ha : k + 1 < L.length → a' = some ⟨Q, (k + 1) * 2, none⟩) (hc : L.length - (k + 1) ≤ c') :
    WI w0 (((W.setCell ⟨R, 0, none⟩ (.slice ma ml mc)).setCell ⟨B, 0, none⟩ (.bool true)).setCell ⟨A, 0, none⟩ (.slice a' (L.length - (k + 1)) c')) A B R Q L (k + 1) ∧ Fr [A, B, R] W (((W.setCell ⟨R, 0, none⟩ (.slice ma ml mc)).setCell ⟨B, 0, none⟩ (.bool true)).setCell ⟨A, 0, none⟩ (.slice a' (L.length - (k + 1)) c')) := by
  obtain ⟨n1, n2, n3⟩ := h.apart
  obtain ⟨a, c, hA, _⟩ := h.hA
  obtain ⟨ra, rl, rc, hR, _⟩ := h.hR
  have F : Fr [A, B, R] W (((W.setCell ⟨R, 0, none⟩ (.slice ma ml mc)).setCell ⟨B, 0, none⟩ (.bool true)).setCell ⟨A, 0, none⟩ (.slice a' (L.length - (k + 1)) c')) := (((Fr.refl _ W).set _ _ (.inl (by simp))).set _ _ (.inl (by simp))).set _ _ (.inl (by simp))
  have hA1 : ((W.setCell ⟨R, 0, none⟩ (.slice ma ml mc)).setCell ⟨B, 0, none⟩ (.bool true)).heap[A]? = some (.cells #[.slice a (L.length - k) c] 24 (0, 0)) := by rw [blk_setne _ _ _ n1, blk_setne _ _ _ n2]; exact hA
  have hB1 : (W.setCell ⟨R, 0, none⟩ (.slice ma ml mc)).heap[B]? = some (.cells #[.bool (decide (0 < k))] 4 (0, 0)) := by rw [blk_setne _ _ _ n3]; exact h.hB
  refine ⟨⟨h.fr.wide F (by have := h.bA; have := h.bB; have := h.bR; simp; omega), by omega, ⟨a', c', by rw [blk_set hA1 _ _]; rfl, ha, hc⟩, ?_, ⟨ma, ml, mc, ?_, fun _ => ⟨m, hl, rm, bm, hm⟩⟩, h.sp.keep F (by have := h.qA; have := h.qB; have := h.qR; simp; omega), h.bA, h.bB, h.bR, h.qA, h.qB, h.qR⟩, F⟩
  · rw [blk_setne _ _ _ (fun e => n1 e.symm), blk_set hB1 _ _, decide_eq_true (show 0 < k + 1 by omega)]; rfl
  · rw [blk_setne _ _ _ (fun e => n2 e.symm), blk_setne _ _ _ (fun e => n3 e.symm), blk_set hR _ _]; rfl
theorem WI.stepA {w0 W : World} {A B R Q : Nat} {L : Ps} {k : Nat} (h : WI w0 W A B R Q L k) (hk : k < L.length) (h0 : 0 < k) (hm : ∀ m, Mx L k m → Mx L (k + 1) m) {a' : Option Addr} {c' : Nat} (ha : k + 1 < L.length → a' = some ⟨Q, (k + 1) * 2, none⟩) (hc : L.length - (k + 1) ≤ c') :
    WI w0 (W.setCell ⟨A, 0, none⟩ (.slice a' (L.length - (k + 1)) c')) A B R Q L (k + 1) ∧ Fr [A, B, R] W (W.setCell ⟨A, 0, none⟩ (.slice a' (L.length - (k + 1)) c')) := by
  obtain ⟨n1, n2, n3⟩ := h.apart
  obtain ⟨a, c, hA, _⟩ := h.hA
  obtain ⟨ra, rl, rc, hR, hR2⟩ := h.hR
  have F : Fr [A, B, R] W (W.setCell ⟨A, 0, none⟩ (.slice a' (L.length - (k + 1)) c')) := (Fr.refl _ W).set _ _ (.inl (by simp))
  refine ⟨⟨h.fr.wide F (by have := h.bA; have := h.bB; have := h.bR; simp; omega), by omega, ⟨a', c', by rw [blk_set hA _ _]; rfl, ha, hc⟩, ?_, ⟨ra, rl, rc, ?_, fun _ => ?_⟩, h.sp.keep F (by have := h.qA; have := h.qB; have := h.qR; simp; omega), h.bA, h.bB, h.bR, h.qA, h.qB, h.qR⟩, F⟩
  · rw [blk_setne _ _ _ (fun e => n1 e.symm), h.hB, decide_eq_true h0, decide_eq_true (show 0 < k + 1 by omega)]
  · rw [blk_setne _ _ _ (fun e => n2 e.symm)]; exact hR
  · obtain ⟨m, e1, e2, e3, e4⟩ := hR2 h0
    exact ⟨m, e1, e2, e3, hm m e4⟩
end Go.Proofs.Ythmlpjogbdpgiaa
