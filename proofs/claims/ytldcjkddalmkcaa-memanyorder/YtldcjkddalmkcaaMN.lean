/-
  Entries in order, by towers: links, what stands ahead, an entry that is put in; without the program.
-/
import Derived.Test.YtldcjkddalmkcaaY
namespace Go.Proofs.Ytldcjkddalmkcaa
open Go.ChangeShapes Go.WideShapes Go.ChangeAt Go.RowKit

/-- An entry of a table: its block, its slices, what they hold, its tower's height. -/
structure E where
  b : Nat
  kv : Value
  uv : Value
  vv : Value
  key : List Nat
  val : List Nat
  h : Nat

/-- A pointer to an entry. -/
def pt (p : Nat × Nat) : Value := .pointer (some ⟨p.1, p.2, none⟩)
/-- The first entry of a list whose tower is higher than i. -/
def lk : List E → Nat → Value
  | [], _ => .pointer none
  | e :: es, i => if i < e.h then pt (e.b, 0) else lk es i
/-- The link at height i of a tower of height h, es behind it. -/
def nx (h : Nat) (es : List E) (i : Nat) : Value := if i < h then lk es i else .pointer none
def tow (h : Nat) (es : List E) : List Value := (List.range 12).map (nx h es)
/-- The last one of d and the list whose tower is higher than i. -/
def bfr (d : Nat × Nat) : List E → Nat → Nat × Nat
  | [], _ => d
  | e :: es, i => bfr (if i < e.h then (e.b, 0) else d) es i
/-- How many entries stand behind the one that is pointed at. -/
def lft (n : Nat) : List E → Value → Nat
  | [], _ => n
  | e :: es, v => match v with
    | .pointer (some a) => if a.block = e.b then es.length else lft n es v
    | _ => lft n es v

theorem tow_len (h : Nat) (es : List E) : (tow h es).length = 12 := by unfold tow; rw [List.length_map, List.length_range]
theorem tow_at (h : Nat) (es : List E) {i : Nat} (hi : i < 12) : (tow h es)[i]? = some (nx h es i) := by
  unfold tow; rw [List.getElem?_map, List.getElem?_range hi]; rfl
theorem tow_ext {h h' : Nat} {es es' : List E} (H : ∀ i, i < 12 → nx h es i = nx h' es' i) : tow h es = tow h' es' := by
  unfold tow
  apply List.map_congr_left
  intro i hi
  exact H i (List.mem_range.1 hi)
theorem tow_set {h h' : Nat} {es es' : List E} {k : Nat} {v : Value} (hk : k < 12) (hv : nx h' es' k = v) (H : ∀ i, i < 12 → i ≠ k → nx h es i = nx h' es' i) : (tow h es).set k v = tow h' es' := by
  apply List.ext_getElem?
  intro i
  rw [List.getElem?_set]
  by_cases hi : i < 12
  · by_cases e : k = i
    · subst e
      rw [if_pos rfl, if_pos (by rw [tow_len]; exact hk), tow_at _ _ hi, hv]
    · rw [if_neg e, tow_at _ _ hi, tow_at _ _ hi, H i hi (fun x => e x.symm)]
  · rw [if_neg (by omega), List.getElem?_eq_none (by rw [tow_len]; omega), List.getElem?_eq_none (by rw [tow_len]; omega)]

theorem lk_none {l r : List E} {i : Nat} (h : ∀ e ∈ l, e.h ≤ i) : lk (l ++ r) i = lk r i := by
  induction l with
  | nil => rfl
  | cons e l ih =>
    have := h e (by simp)
    show (if i < e.h then _ else lk (l ++ r) i) = _
    rw [if_neg (by omega), ih fun x hx => h x (List.mem_cons_of_mem _ hx)]
theorem lk_some {l r : List E} {e : E} {i : Nat} (h : ∀ x ∈ l, x.h ≤ i) (he : i < e.h) : lk (l ++ e :: r) i = pt (e.b, 0) := by
  rw [lk_none h]; show (if i < e.h then _ else _) = _; rw [if_pos he]
theorem lk_parts (l : List E) (i : Nat) : (∀ e ∈ l, e.h ≤ i) ∨ ∃ l1 e l2, l = l1 ++ e :: l2 ∧ (∀ x ∈ l1, x.h ≤ i) ∧ i < e.h := by
  induction l with
  | nil => exact .inl fun e h => by cases h
  | cons e l ih =>
    by_cases he : i < e.h
    · exact .inr ⟨[], e, l, rfl, fun x h => (by cases h), he⟩
    · rcases ih with h | ⟨l1, x, l2, rfl, h1, h2⟩
      · refine .inl fun x hx => ?_
        rcases List.mem_cons.1 hx with rfl | hx
        · omega
        · exact h x hx
      · refine .inr ⟨e :: l1, x, l2, rfl, fun y hy => ?_, h2⟩
        rcases List.mem_cons.1 hy with rfl | hy
        · omega
        · exact h1 y hy
theorem lk_case (l : List E) (i : Nat) : (lk l i = .pointer none ∧ ∀ e ∈ l, e.h ≤ i) ∨ ∃ l1 e l2, l = l1 ++ e :: l2 ∧ (∀ x ∈ l1, x.h ≤ i) ∧ i < e.h ∧ lk l i = pt (e.b, 0) := by
  rcases lk_parts l i with h | ⟨l1, e, l2, rfl, h1, h2⟩
  · refine .inl ⟨?_, h⟩
    have := lk_none (r := []) h
    rw [List.append_nil] at this; exact this
  · exact .inr ⟨l1, e, l2, rfl, h1, h2, lk_some h1 h2⟩
theorem bfr_app (d : Nat × Nat) (l r : List E) (i : Nat) : bfr d (l ++ r) i = bfr (bfr d l i) r i := by
  induction l generalizing d with
  | nil => rfl
  | cons e l ih => exact ih _
theorem bfr_none {d : Nat × Nat} {l : List E} {i : Nat} (h : ∀ e ∈ l, e.h ≤ i) : bfr d l i = d := by
  induction l with
  | nil => rfl
  | cons e l ih =>
    have := h e (by simp)
    show bfr (if i < e.h then _ else d) l i = d
    rw [if_neg (by omega), ih fun x hx => h x (List.mem_cons_of_mem _ hx)]
theorem bfr_mid (d : Nat × Nat) (l r : List E) {e : E} {i : Nat} (he : i < e.h) : bfr d (l ++ e :: r) i = bfr (e.b, 0) r i := by
  rw [bfr_app]; show bfr (if i < e.h then _ else _) r i = _; rw [if_pos he]
theorem bfr_case (d : Nat × Nat) (l : List E) (i : Nat) : ((∀ e ∈ l, e.h ≤ i) ∧ bfr d l i = d) ∨ ∃ l1 e l2, l = l1 ++ e :: l2 ∧ i < e.h ∧ (∀ x ∈ l2, x.h ≤ i) ∧ bfr d l i = (e.b, 0) := by
  induction l generalizing d with
  | nil => exact .inl ⟨fun e h => (by cases h), rfl⟩
  | cons e l ih =>
    by_cases he : i < e.h
    · rcases ih (e.b, 0) with ⟨h1, h2⟩ | ⟨l1, x, l2, rfl, h1, h2, h3⟩
      · refine .inr ⟨[], e, l, rfl, he, h1, ?_⟩
        show bfr (if i < e.h then _ else d) l i = _
        rw [if_pos he]; exact h2
      · refine .inr ⟨e :: l1, x, l2, rfl, h1, h2, ?_⟩
        show bfr (if i < e.h then _ else d) _ i = _
        rw [if_pos he]; exact h3
    · rcases ih d with ⟨h1, h2⟩ | ⟨l1, x, l2, rfl, h1, h2, h3⟩
      · refine .inl ⟨fun x hx => ?_, ?_⟩
        · rcases List.mem_cons.1 hx with rfl | hx
          · omega
          · exact h1 x hx
        · show bfr (if i < e.h then _ else d) l i = _
          rw [if_neg he]; exact h2
      · refine .inr ⟨e :: l1, x, l2, rfl, h1, h2, ?_⟩
        show bfr (if i < e.h then _ else d) _ i = _
        rw [if_neg he]; exact h3
theorem lft_mid (n : Nat) : ∀ (l r : List E) (e : E) (o : Nat), ((l ++ e :: r).map E.b).Nodup → lft n (l ++ e :: r) (pt (e.b, o)) = r.length
  | [], r, e, o, _ => by simp [lft, pt]
  | x :: l, r, e, o, h => by
    have h' : ((x :: (l ++ e :: r)).map E.b).Nodup := h
    rw [List.map_cons, List.nodup_cons] at h'
    have hne : ¬ e.b = x.b := fun he => h'.1 (by rw [← he]; simp)
    have ih := lft_mid n l r e o h'.2
    unfold pt at ih
    simp only [List.cons_append, lft, pt, hne, if_false]
    exact ih
theorem lft_head (n t o : Nat) : ∀ (l : List E), (∀ e ∈ l, e.b ≠ t) → lft n l (pt (t, o)) = n
  | [], _ => rfl
  | x :: l, h => by
    have hne : ¬ t = x.b := fun he => h x (by simp) he.symm
    have ih := lft_head n t o l fun e he => h e (List.mem_cons_of_mem _ he)
    unfold pt at ih
    simp only [lft, pt, hne, if_false]
    exact ih

/-- An entry whose tower is as high as k so far. -/
def up (k : Nat) (e : E) : E := { e with h := k }
theorem lk_up {s post : List E} {n : E} {k i : Nat} (hi : i ≠ k) : lk (s ++ up k n :: post) i = lk (s ++ up (k + 1) n :: post) i := by
  induction s with
  | nil =>
    show (if i < k then pt (n.b, 0) else lk post i) = (if i < k + 1 then pt (n.b, 0) else lk post i)
    by_cases h : i < k
    · rw [if_pos h, if_pos (by omega)]
    · rw [if_neg h, if_neg (by omega)]
  | cons e s ih =>
    show (if i < e.h then _ else lk (s ++ up k n :: post) i) = (if i < e.h then _ else lk (s ++ up (k + 1) n :: post) i)
    rw [ih]
theorem lk_zero (s post : List E) (n : E) (i : Nat) : lk (s ++ up 0 n :: post) i = lk (s ++ post) i := by
  induction s with
  | nil => show (if i < 0 then _ else lk post i) = _; rw [if_neg (by omega)]; rfl
  | cons e s ih => show (if i < e.h then _ else lk (s ++ up 0 n :: post) i) = (if i < e.h then _ else lk (s ++ post) i); rw [ih]
theorem tow_zero (h : Nat) (s post : List E) (n : E) : tow h (s ++ up 0 n :: post) = tow h (s ++ post) :=
  tow_ext fun i _ => by unfold nx; rw [lk_zero]
theorem tow_nil (es : List E) : tow 0 es = List.replicate 12 (.pointer none) := by
  apply List.ext_getElem?
  intro i
  by_cases hi : i < 12
  · rw [tow_at _ _ hi, List.getElem?_replicate, if_pos hi]; rfl
  · rw [List.getElem?_eq_none (by rw [tow_len]; omega), List.getElem?_eq_none (by simp; omega)]
/-- Who isn't the last one ahead at height k keeps its links. -/
theorem tow_same {h : Nat} {s post : List E} {n : E} {k : Nat} (H : h ≤ k ∨ ∃ e ∈ s, k < e.h) : tow h (s ++ up (k + 1) n :: post) = tow h (s ++ up k n :: post) :=
  tow_ext fun i _ => by
    unfold nx
    by_cases hi : i = k
    · subst hi
      by_cases h' : i < h
      · rw [if_pos h', if_pos h']
        rcases H with H | ⟨e, he, hk⟩
        · omega
        · rcases lk_parts s i with q | ⟨l1, x, l2, rfl, q1, q2⟩
          · have := q e he; omega
          · rw [List.append_assoc, List.append_assoc]
            show lk (l1 ++ x :: (l2 ++ _)) i = lk (l1 ++ x :: (l2 ++ _)) i
            rw [lk_some q1 q2, lk_some q1 q2]
      · rw [if_neg h', if_neg h']
    · rw [lk_up hi]
theorem tow_last {h : Nat} {s post : List E} {n : E} {k : Nat} (hk : k < 12) (hh : k < h) (H : ∀ e ∈ s, e.h ≤ k) : (tow h (s ++ up k n :: post)).set k (pt (n.b, 0)) = tow h (s ++ up (k + 1) n :: post) :=
  tow_set hk (by unfold nx; rw [if_pos hh]; exact lk_some (e := up (k + 1) n) H (Nat.lt_succ_self k)) fun i _ hi => by unfold nx; rw [lk_up hi]
theorem tow_new {post : List E} {k : Nat} (hk : k < 12) : (tow k post).set k (lk post k) = tow (k + 1) post :=
  tow_set hk (by unfold nx; rw [if_pos (Nat.lt_succ_self k)]) fun i _ hi => by
    unfold nx
    by_cases h : i < k
    · rw [if_pos h, if_pos (by omega)]
    · rw [if_neg h, if_neg (by omega)]
theorem lk_skip {s post : List E} {n : E} {k : Nat} (H : ∀ e ∈ s, e.h ≤ k) : lk (s ++ up k n :: post) k = lk post k := by
  rw [lk_none H]
  show (if k < k then _ else lk post k) = _
  rw [if_neg (by omega)]
end Go.Proofs.Ytldcjkddalmkcaa
