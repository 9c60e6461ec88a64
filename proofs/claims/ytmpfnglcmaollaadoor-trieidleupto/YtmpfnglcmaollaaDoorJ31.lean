/-
  Taking out, without the program.
-/
import Derived.Test.YtmpfnglcmaollaaDoorJ30
namespace Go.Proofs.YtmpfnglcmaollaaDoor
open Go.ChangeShapes Go.WideShapes Go.ChangeAt Go.RowKit

def nilB : Nd → Bool
  | .nil => true
  | _ => false
theorem nilB_iff {n : Nd} : nilB n = true ↔ n = .nil := by cases n <;> simp [nilB]
/-- The slots of a fork that are filled. -/
def fillF (c : Nat → Nd) : List Nat := (List.range 16).filter (fun i => !nilB (c i))
theorem mem_fill {c : Nat → Nd} {i : Nat} : i ∈ fillF c ↔ i < 16 ∧ c i ≠ .nil := by
  unfold fillF
  rw [List.mem_filter, List.mem_range]
  constructor
  · rintro ⟨h, k⟩
    refine ⟨h, fun e => ?_⟩
    rw [e] at k
    simp [nilB] at k
  · rintro ⟨h, k⟩
    refine ⟨h, ?_⟩
    cases hn : nilB (c i) with
    | false => rfl
    | true => exact absurd (nilB_iff.1 hn) k
theorem filter_less {p q : Nat → Bool} {i : Nat} : ∀ {l : List Nat}, l.Nodup → i ∈ l → p i = true → q i = false → (∀ j, j ≠ i → q j = p j) → (l.filter q).length + 1 = (l.filter p).length
  | [], _, h, _, _, _ => by cases h
  | k :: l, hn, hi, hp, hq, hj => by
    rw [List.nodup_cons] at hn
    by_cases hk : k = i
    · subst hk
      have : l.filter q = l.filter p := List.filter_congr fun j hjl => hj j (fun e => hn.1 (e ▸ hjl))
      simp [hp, hq, this]
    · have hil : i ∈ l := by
        rcases List.mem_cons.1 hi with h | h
        · exact absurd h.symm hk
        · exact h
      have ih := filter_less hn.2 hil hp hq hj
      have hkk := hj k hk
      by_cases hpk : p k = true
      · rw [List.filter_cons_of_pos (by rw [hkk]; exact hpk), List.filter_cons_of_pos hpk]
        simp only [List.length_cons]
        omega
      · rw [List.filter_cons_of_neg (by rw [hkk]; exact hpk), List.filter_cons_of_neg hpk]
        exact ih
theorem fill_less {c : Nat → Nd} {i : Nat} (hi : i < 16) (hc : c i ≠ .nil) : (fillF (updN c i .nil)).length + 1 = (fillF c).length := by
  unfold fillF
  refine filter_less (i := i) List.nodup_range (List.mem_range.2 hi) ?_ ?_ ?_
  · cases hn : nilB (c i) with
    | false => rfl
    | true => exact absurd (nilB_iff.1 hn) hc
  · simp [updN, nilB]
  · intro j hj
    simp [updN, hj]
theorem fill_same {c : Nat → Nd} {i : Nat} {n : Nd} (hc : c i ≠ .nil) (hn : n ≠ .nil) : fillF (updN c i n) = fillF c := by
  unfold fillF
  refine List.filter_congr fun j _ => ?_
  unfold updN
  by_cases h : j = i
  · subst h
    rw [if_pos rfl]
    cases h1 : nilB n with
    | true => exact absurd (nilB_iff.1 h1) hn
    | false =>
      cases h2 : nilB (c j) with
      | true => exact absurd (nilB_iff.1 h2) hc
      | false => rfl
  · rw [if_neg h]
theorem fill_more {c : Nat → Nd} {i : Nat} {n : Nd} (hi : i < 16) (hn : n ≠ .nil) : (fillF c).length ≤ (fillF (updN c i n)).length := by
  by_cases hc : c i = .nil
  · have h := fill_less (c := updN c i n) hi (by unfold updN; rw [if_pos rfl]; exact hn)
    have e : fillF (updN (updN c i n) i .nil) = fillF c := by
      unfold fillF
      refine List.filter_congr fun j _ => ?_
      unfold updN
      by_cases hj : j = i
      · subst hj; rw [if_pos rfl, hc]
      · rw [if_neg hj, if_neg hj]
    rw [e] at h
    omega
  · rw [fill_same hc hn]
    exact Nat.le_refl _
/-- What a fork is left with. -/
def thinN (c : Nat → Nd) (x : List Nat) : Nd :=
  match fillF c with
  | [] => .leaf [] x
  | [i] => if x = [] then leadN [i] (c i) else .fork c x
  | _ => .fork c x
def remN : Nd → List Nat → Nd
  | .nil, _ => .nil
  | .far h, _ => .far h
  | .leaf q x, p => if q = p then .nil else .leaf q x
  | .stem q t, p => if cpN q p = q.length then leadN q (remN t (p.drop (cpN q p))) else .stem q t
  | .fork c x, p => match p with
    | [] => thinN c []
    | i :: r => thinN (updN c i (remN (c i) r)) x
/-- Forks have two at least. -/
def canN : Nd → Prop
  | .stem _ t => canN t
  | .fork c x => (∀ i, i < 16 → canN (c i)) ∧ 2 ≤ (fillF c).length + (if x = [] then 0 else 1)
  | _ => True
theorem leadN_can : ∀ {n : Nd} {p : List Nat}, canN n → canN (leadN p n)
  | .nil, _, _ => trivial
  | .far x, p, _ => by
    show canN (if p = [] then Nd.far x else Nd.stem p (.far x))
    split <;> trivial
  | .leaf _ _, _, _ => trivial
  | .stem q t, p, h => by
    show canN (if p = [] then Nd.stem q t else leadN (p ++ q) t)
    split
    · exact h
    · exact leadN_can (n := t) h
  | .fork c x, p, h => by
    show canN (if p = [] then Nd.fork c x else Nd.stem p (.fork c x))
    split
    · exact h
    · exact h
theorem find_thin (c : Nat → Nd) (x : List Nat) (hf : ∀ i, i < 16 → ∀ y, c i ≠ .far y) {p : List Nat} (hp : Nb p) : findN (thinN c x) p = findN (.fork c x) p := by
  have hnil : ∀ i, i < 16 → i ∉ fillF c → c i = .nil := fun i hi h => by
    by_cases hc : c i = .nil
    · exact hc
    · exact absurd (mem_fill.2 ⟨hi, hc⟩) h
  unfold thinN
  split
  · rename_i h
    cases p with
    | nil => rfl
    | cons i r =>
      show (if ([] : List Nat) = i :: r then x else []) = findN (c i) r
      rw [if_neg (by simp), hnil i (hp i (by simp)) (by rw [h]; simp)]
      rfl
  · rename_i j h
    have hj := (mem_fill (c := c) (i := j)).1 (by rw [h]; simp)
    split
    · rename_i hx
      rw [find_lead _ _ _ (hf j hj.1)]
      cases p with
      | nil => rw [hx]; rfl
      | cons i r =>
        show atO (c j) (if j = i then strip [] r else none) = findN (c i) r
        by_cases hji : j = i
        · subst hji; rw [if_pos rfl]; rfl
        · rw [if_neg hji, hnil i (hp i (by simp)) (by rw [h]; simp; exact fun e => hji e.symm)]
          rfl
    · rfl
  · rfl
end Go.Proofs.YtmpfnglcmaollaaDoor
namespace Go.Proofs.YtmpfnglcmaollaaDoor
open Go.ChangeShapes Go.WideShapes Go.ChangeAt Go.RowKit

theorem fill_add {c : Nat → Nd} {i : Nat} {n : Nd} (hi : i < 16) (hc : c i = .nil) (hn : n ≠ .nil) : (fillF (updN c i n)).length = (fillF c).length + 1 := by
  have h := fill_less (c := updN c i n) hi (by unfold updN; rw [if_pos rfl]; exact hn)
  have e : fillF (updN (updN c i n) i .nil) = fillF c := by
    unfold fillF
    refine List.filter_congr fun j _ => ?_
    unfold updN
    by_cases hj : j = i
    · subst hj; rw [if_pos rfl, hc]
    · rw [if_neg hj, if_neg hj]
  rw [e] at h
  omega
theorem fill_no : (fillF noN).length = 0 := by decide
theorem thin_ok {c : Nat → Nd} {x : List Nat} {d : Nat} (hd : 1 ≤ d) (hc : ∀ i, i < 16 → okN (d - 1) (c i)) (hx : By x) (hl : x.length ≤ 1024) (h1 : 1 ≤ (fillF c).length + (if x = [] then 0 else 1)) : okN d (thinN c x) := by
  unfold thinN
  split
  · rename_i h
    rw [h] at h1
    refine ⟨fun y hy => by (cases hy), Nat.zero_le _, hx, ?_, hl⟩
    cases x with
    | nil => simp at h1
    | cons a l => simp
  · rename_i i h
    have hi := (mem_fill (c := c) (i := i)).1 (by rw [h]; simp)
    split
    · exact leadN_ok (fun y hy => by simp at hy; omega) (by simpa using hd) (by simpa using hc i hi.1)
    · exact ⟨hd, hc, hx, hl⟩
  · exact ⟨hd, hc, hx, hl⟩
theorem thin_can {c : Nat → Nd} {x : List Nat} (hc : ∀ i, i < 16 → canN (c i)) : canN (thinN c x) := by
  unfold thinN
  split
  · trivial
  · rename_i i h
    have hi := (mem_fill (c := c) (i := i)).1 (by rw [h]; simp)
    split
    · exact leadN_can (hc i hi.1)
    · rename_i hx
      exact ⟨hc, by rw [h, if_neg hx]; simp⟩
  · rename_i h1 h2
    refine ⟨hc, ?_⟩
    cases hf : fillF c with
    | nil => exact absurd hf h1
    | cons a l =>
      cases l with
      | nil => exact absurd hf (h2 a)
      | cons b l => simp only [List.length_cons]; omega
theorem updN_can {c : Nat → Nd} {i : Nat} {n : Nd} (h : ∀ j, j < 16 → canN (c j)) (hn : canN n) : ∀ j, j < 16 → canN (updN c i n j) := fun j hj => by
  unfold updN
  split
  · exact hn
  · exact h j hj
theorem fill_upd {c : Nat → Nd} {i : Nat} {n : Nd} (hi : i < 16) (hc : c i ≠ .nil) : (fillF c).length ≤ (fillF (updN c i n)).length + 1 := by
  by_cases hn : n = .nil
  · subst hn
    have := fill_less hi hc
    omega
  · rw [fill_same hc hn]; omega
theorem rem_ok : ∀ {n : Nd} {d : Nat} {p : List Nat}, okN d n → canN n → Nb p → findN n p ≠ [] → okN d (remN n p) ∧ canN (remN n p)
  | .nil, _, _, _, _, _, h => absurd rfl h
  | .far _, _, _, h, _, _, _ => h.elim
  | .leaf q x, d, p, h, k, hp, hf => by
    show okN d (if q = p then Nd.nil else Nd.leaf q x) ∧ canN (if q = p then Nd.nil else Nd.leaf q x)
    split
    · exact ⟨trivial, trivial⟩
    · exact ⟨h, k⟩
  | .stem q t, d, p, h, k, hp, hf => by
    obtain ⟨g1, g2, g3, g4, g5⟩ := h
    show okN d (if cpN q p = q.length then leadN q (remN t (p.drop (cpN q p))) else Nd.stem q t) ∧ canN (if cpN q p = q.length then leadN q (remN t (p.drop (cpN q p))) else Nd.stem q t)
    have hf' : (if cpN q p = q.length then findN t (p.drop (cpN q p)) else []) ≠ [] := hf
    split
    · rename_i hin
      rw [if_pos hin] at hf'
      have ih := rem_ok g5 k (hp.drop _) hf'
      exact ⟨leadN_ok g1 g2 ih.1, leadN_can ih.2⟩
    · rename_i hin
      rw [if_neg hin] at hf'
      exact absurd rfl hf'
  | .fork c x, d, p, h, k, hp, hf => by
    obtain ⟨g1, g2, g3, g4⟩ := h
    obtain ⟨k1, k2⟩ := k
    cases p with
    | nil =>
      have hx : x ≠ [] := hf
      rw [if_neg hx] at k2
      exact ⟨thin_ok g1 g2 (fun y hy => by cases hy) (by simp) (by omega), thin_can k1⟩
    | cons i r =>
      have hi : i < 16 := hp i (by simp)
      have hci : c i ≠ .nil := fun e => hf (by show findN (c i) r = []; rw [e]; rfl)
      have ih := rem_ok (g2 i hi) (k1 i hi) (fun z hz => hp z (by simp [hz]) : Nb r) hf
      have hu := fill_upd (n := remN (c i) r) hi hci
      exact ⟨thin_ok g1 (updN_ok g2 ih.1) g3 g4 (by omega), thin_can (updN_can k1 ih.2)⟩
theorem find_rem : ∀ {n : Nd} {d : Nat} {p : List Nat}, okN d n → canN n → Nb p → findN n p ≠ [] → ∀ p', Nb p' → findN (remN n p) p' = if p = p' then [] else findN n p'
  | .nil, _, _, _, _, _, h, _, _ => absurd rfl h
  | .far _, _, _, h, _, _, _, _, _ => h.elim
  | .leaf q x, d, p, h, k, hp, hf, p', hp' => by
    have hf' : (if q = p then x else []) ≠ [] := hf
    by_cases hqp : q = p
    · subst hqp
      show findN (if q = q then Nd.nil else Nd.leaf q x) p' = if q = p' then [] else (if q = p' then x else [])
      rw [if_pos rfl]
      by_cases h2 : q = p'
      · rw [if_pos h2]; rfl
      · rw [if_neg h2, if_neg h2]; rfl
    · rw [if_neg hqp] at hf'
      exact absurd rfl hf'
  | .stem q t, d, p, h, k, hp, hf, p', hp' => by
    obtain ⟨g1, g2, g3, g4, g5⟩ := h
    have hf' : (if cpN q p = q.length then findN t (p.drop (cpN q p)) else []) ≠ [] := hf
    by_cases hin : cpN q p = q.length
    · rw [if_pos hin] at hf'
      have ih := rem_ok g5 k (hp.drop _) hf'
      show findN (if cpN q p = q.length then leadN q (remN t (p.drop (cpN q p))) else Nd.stem q t) p' = _
      rw [if_pos hin, find_lead _ _ _ ih.1.own, find_stem]
      have ep := cpN_full hin
      rw [hin] at hf' ⊢
      cases hs : strip q p' with
      | none =>
        rw [if_neg (fun e => by rw [← e, strip_some.2 ep] at hs; cases hs)]
        rfl
      | some r =>
        have e := strip_some.1 hs
        show findN (remN t (p.drop q.length)) r = if p = p' then [] else findN t r
        rw [find_rem g5 k (hp.drop _) hf' r (fun z hz => hp' z (by rw [e]; simp [hz]))]
        have d1 : p.drop q.length = r ↔ p = p' := by
          constructor
          · intro h; rw [ep, h, e]
          · intro h; rw [ep, e] at h; exact List.append_cancel_left h
        by_cases h1 : p = p'
        · rw [if_pos h1, if_pos (d1.2 h1)]
        · rw [if_neg h1, if_neg (fun e => h1 (d1.1 e))]
    · rw [if_neg hin] at hf'
      exact absurd rfl hf'
  | .fork c x, d, p, h, k, hp, hf, p', hp' => by
    obtain ⟨g1, g2, g3, g4⟩ := h
    obtain ⟨k1, k2⟩ := k
    cases p with
    | nil =>
      show findN (thinN c []) p' = _
      rw [find_thin _ _ (fun i hi => (g2 i hi).own) hp']
      cases p' with
      | nil => rw [if_pos rfl]; rfl
      | cons j s => rw [if_neg (by simp)]; rfl
    | cons i r =>
      have hi : i < 16 := hp i (by simp)
      have hr : Nb r := fun z hz => hp z (by simp [hz])
      have ih := rem_ok (g2 i hi) (k1 i hi) hr hf
      show findN (thinN (updN c i (remN (c i) r)) x) p' = _
      rw [find_thin _ _ (fun j hj => (updN_ok g2 ih.1 j hj).own) hp']
      cases p' with
      | nil => rw [if_neg (by simp)]; rfl
      | cons j s =>
        show findN (updN c i (remN (c i) r) j) s = _
        unfold updN
        by_cases hj : j = i
        · subst hj
          rw [if_pos rfl, find_rem (g2 j hi) (k1 j hi) hr hf s (fun z hz => hp' z (by simp [hz]))]
          by_cases h2 : r = s
          · subst h2; rw [if_pos rfl, if_pos rfl]
          · rw [if_neg h2, if_neg (by simp [h2])]
            rfl
        · rw [if_neg hj, if_neg (by intro e; exact hj (List.cons.inj e).1.symm)]
          rfl
end Go.Proofs.YtmpfnglcmaollaaDoor
namespace Go.Proofs.YtmpfnglcmaollaaDoor
open Go.ChangeShapes Go.WideShapes Go.ChangeAt Go.RowKit

theorem addC_can {c : Nat → Nd} {p v : List Nat} (h : ∀ j, j < 16 → canN (c j)) : ∀ j, j < 16 → canN (addC c p v j) := by
  cases p with
  | nil => exact h
  | cons i r => exact updN_can h trivial
theorem addC_fill {c : Nat → Nd} {x p v : List Nat} (hp : Nb p) (hc : ∀ j s, p = j :: s → c j = .nil) (hx : p = [] → x = []) (hv : v ≠ []) : (fillF c).length + (if x = [] then 0 else 1) + 1 ≤ (fillF (addC c p v)).length + (if addV x p v = [] then 0 else 1) := by
  cases p with
  | nil =>
    show (fillF c).length + (if x = [] then 0 else 1) + 1 ≤ (fillF c).length + (if v = [] then 0 else 1)
    rw [hx rfl, if_pos rfl, if_neg hv]
    exact Nat.le_refl _
  | cons i r =>
    show (fillF c).length + (if x = [] then 0 else 1) + 1 ≤ (fillF (updN c i (.leaf r v))).length + (if x = [] then 0 else 1)
    rw [fill_add (hp i (by simp)) (hc i r rfl) (by intro e; cases e)]
    omega
theorem put_can : ∀ {n : Nd} {d : Nat} {p v : List Nat}, okN d n → canN n → Nb p → v ≠ [] → canN (putN n p v)
  | .nil, _, _, _, _, _, _, _ => trivial
  | .far _, _, _, _, h, _, _, _ => h.elim
  | .leaf q x, d, p, v, h, k, hp, hv => by
    obtain ⟨h1, h2, h3, h4, h5⟩ := h
    show canN (if q = p then Nd.leaf p v else _)
    split
    · trivial
    · rename_i hqp
      have hx : x ≠ [] := by intro e; rw [e] at h4; simp at h4
      unfold growN
      have hc1 : ∀ j, j < 16 → canN (addC noN (q.drop (cpN q p)) x j) := addC_can (fun _ _ => trivial)
      refine leadN_can ⟨addC_can hc1, ?_⟩
      have a1 := addC_fill (c := noN) (x := []) (p := q.drop (cpN q p)) (v := x) (h1.drop _) (fun _ _ _ => rfl) (fun _ => rfl) hx
      have a2 := addC_fill (c := addC noN (q.drop (cpN q p)) x) (x := addV [] (q.drop (cpN q p)) x) (p := p.drop (cpN q p)) (v := v) (hp.drop _) (fun j b hb => by
        cases hq : q.drop (cpN q p) with
        | nil => rfl
        | cons i a =>
          show updN noN i _ j = .nil
          unfold updN
          rw [if_neg (fun e => cp_next hq hb e.symm)]
          rfl) (fun e => by
        cases hq : q.drop (cpN q p) with
        | nil =>
          have e1 := List.take_append_drop (cpN q p) q
          have e2 := List.take_append_drop (cpN q p) p
          rw [hq, cpN_take q p] at e1
          rw [e] at e2
          exact absurd (e1.symm.trans e2) hqp
        | cons i a => rfl) hv
      rw [fill_no, if_pos rfl] at a1
      omega
  | .stem q t, d, p, v, h, k, hp, hv => by
    obtain ⟨g1, g2, g3, g4, g5⟩ := h
    show canN (if cpN q p = q.length then _ else _)
    split
    · exact leadN_can (put_can g5 k (hp.drop _) hv)
    · rename_i hin
      have hlt : cpN q p < q.length := by have := cpN_le q p; omega
      have hi : q.drop (cpN q p) = q[cpN q p] :: q.drop (cpN q p + 1) := List.drop_eq_getElem_cons hlt
      have hgi : q.getD (cpN q p) 0 = q[cpN q p] := by
        rw [List.getD_eq_getElem?_getD, List.getElem?_eq_getElem hlt]; rfl
      rw [hgi]
      have hi16 : q[cpN q p] < 16 := g1 _ (List.getElem_mem hlt)
      have hne : leadN (q.drop (cpN q p + 1)) t ≠ .nil := by
        cases t with
        | fork c x => exact leadN_ne _ _ _
        | nil => exact g4.elim
        | far _ => exact g4.elim
        | leaf _ _ => exact g4.elim
        | stem _ _ => exact g4.elim
      unfold growN
      refine leadN_can ⟨addC_can (updN_can (fun _ _ => trivial) (leadN_can k)), ?_⟩
      have a2 := addC_fill (c := updN noN q[cpN q p] (leadN (q.drop (cpN q p + 1)) t)) (x := []) (p := p.drop (cpN q p)) (v := v) (hp.drop _) (fun j b hb => by
        unfold updN
        rw [if_neg (fun e => cp_next hi hb e.symm)]
        rfl) (fun _ => rfl) hv
      rw [fill_add hi16 rfl hne, fill_no, if_pos rfl] at a2
      omega
  | .fork c x, d, p, v, h, k, hp, hv => by
    obtain ⟨g1, g2, g3, g4⟩ := h
    obtain ⟨k1, k2⟩ := k
    cases p with
    | nil =>
      refine ⟨k1, ?_⟩
      rw [if_neg hv]
      split at k2 <;> omega
    | cons i r =>
      have hi : i < 16 := hp i (by simp)
      have hf := fill_more (c := c) (n := putN (c i) r v) hi (putN_ne (g2 i hi) r v)
      exact ⟨updN_can k1 (put_can (g2 i hi) (k1 i hi) (fun z hz => hp z (by simp [hz])) hv), by omega⟩
end Go.Proofs.YtmpfnglcmaollaaDoor
