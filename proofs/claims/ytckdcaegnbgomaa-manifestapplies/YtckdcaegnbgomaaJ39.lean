/-
  Tables taken out one by one.
-/
import Derived.Test.YtckdcaegnbgomaaJ38
namespace Go.Proofs.Ytckdcaegnbgomaa
open Go.ChangeShapes Go.WideShapes Go.ChangeAt Go.RowKit

theorem nodup_at {l : List Fl} (nd : (l.map Fl.num).Nodup) {j k : Nat} {a b : Fl} (ha : l[j]? = some a) (hb : l[k]? = some b) (h : a.num = b.num) : j = k := by
  obtain ⟨q1, q2⟩ := List.getElem?_eq_some_iff.1 ha
  obtain ⟨q3, q4⟩ := List.getElem?_eq_some_iff.1 hb
  have hh := List.pairwise_iff_getElem.1 nd
  rcases Nat.lt_trichotomy j k with h1 | h1 | h1
  · have := hh j k (by rw [List.length_map]; exact q1) (by rw [List.length_map]; exact q3) h1
    rw [List.getElem_map, List.getElem_map, q2, q4] at this
    exact absurd h this
  · exact h1
  · have := hh k j (by rw [List.length_map]; exact q3) (by rw [List.length_map]; exact q1) h1
    rw [List.getElem_map, List.getElem_map, q2, q4] at this
    exact absurd h.symm this
/-- The one table of that number is taken out. -/
theorem del_at : ∀ {l : List Fl} (_ : (l.map Fl.num).Nodup) {k : Nat} {f : Fl} (_ : l[k]? = some f), l.take k ++ l.drop (k + 1) = l.filter (fun x => !decide (x.num = f.num))
  | [], _, k, f, hf => by simp at hf
  | a :: r, nd, 0, f, hf => by
    have e : a = f := by simpa using hf
    subst e
    rw [List.map_cons, List.nodup_cons] at nd
    rw [List.filter_cons, if_neg (by simp)]
    have : r.filter (fun x => !decide (x.num = a.num)) = r := List.filter_eq_self.2 (fun x hx => by
      rw [Bool.not_eq_true', decide_eq_false_iff_not]
      intro h
      exact nd.1 (List.mem_map.2 ⟨x, hx, h⟩))
    rw [this]
    simp
  | a :: r, nd, k + 1, f, hf => by
    have hf' : r[k]? = some f := by simpa using hf
    have ne : ¬ a.num = f.num := fun h => by
      have := nodup_at nd (j := 0) (k := k + 1) (a := a) (b := f) rfl hf h
      omega
    rw [List.map_cons, List.nodup_cons] at nd
    rw [List.filter_cons, if_pos (by simp [ne]), ← del_at nd.2 hf']
    rfl
theorem drF_snoc (gs : List (Int × Int)) (g : Int × Int) (i : Nat) (f : Fl) : drF (gs ++ [g]) i f = (drF gs i f || decide (((i : Int), f.num) = g)) := by
  unfold drF
  rw [Bool.eq_iff_iff]
  simp
theorem kept_snoc (gs : List (Int × Int)) (g : Int × Int) (L : Nat → List Fl) (i : Nat) : keptF (gs ++ [g]) L i = (keptF gs L i).filter (fun f => !decide (((i : Int), f.num) = g)) := by
  unfold keptF
  rw [List.filter_filter]
  refine List.filter_congr fun f _ => ?_
  rw [drF_snoc, Bool.not_or, Bool.and_comm]
theorem kept_other {gs : List (Int × Int)} {g : Int × Int} {L : Nat → List Fl} {i : Nat} (h : (i : Int) ≠ g.1) : keptF (gs ++ [g]) L i = keptF gs L i := by
  rw [kept_snoc]
  refine List.filter_eq_self.2 fun f _ => ?_
  rw [Bool.not_eq_true', decide_eq_false_iff_not]
  intro e
  exact h (congrArg Prod.fst e)
theorem kept_this {gs : List (Int × Int)} {g : Int × Int} {L : Nat → List Fl} {i : Nat} (h : (i : Int) = g.1) (nd : ((L i).map Fl.num).Nodup) {k : Nat} {f : Fl} (hf : (keptF gs L i)[k]? = some f) (hn : f.num = g.2) : keptF (gs ++ [g]) L i = (keptF gs L i).take k ++ (keptF gs L i).drop (k + 1) := by
  have nd2 : ((keptF gs L i).map Fl.num).Nodup := by
    unfold keptF
    exact List.Nodup.sublist (List.filter_sublist.map _) nd
  rw [del_at nd2 hf, kept_snoc]
  refine List.filter_congr fun x _ => ?_
  obtain ⟨g1, g2⟩ := g
  simp only at h hn
  rw [h, hn]
  congr 1
  rw [Bool.eq_iff_iff]
  simp
/-- How many are taken out of one list more. -/
theorem cnt_snoc (gs : List (Int × Int)) (g : Int × Int) (i : Nat) (l : List Fl) : l.countP (drF (gs ++ [g]) i) = l.countP (drF gs i) + (l.filter (fun f => !drF gs i f)).countP (fun f => decide (((i : Int), f.num) = g)) := by
  induction l with
  | nil => rfl
  | cons a r ih =>
    rw [List.countP_cons, List.countP_cons, List.filter_cons, ih, drF_snoc]
    cases h1 : drF gs i a with
    | true => simp; omega
    | false => simp [List.countP_cons]; omega
theorem cnt_none {i : Nat} {g : Int × Int} {l : List Fl} (h : ∀ f ∈ l, (i : Int) = g.1 → f.num ≠ g.2) : l.countP (fun f => decide (((i : Int), f.num) = g)) = 0 := by
  rw [List.countP_eq_zero]
  intro f hf hd
  have e := of_decide_eq_true hd
  exact h f hf (congrArg Prod.fst e) (congrArg Prod.snd e)
theorem cnt_one {i : Nat} {g : Int × Int} {l : List Fl} (nd : (l.map Fl.num).Nodup) (hi : (i : Int) = g.1) {f : Fl} (hf : f ∈ l) (hn : f.num = g.2) : l.countP (fun f => decide (((i : Int), f.num) = g)) = 1 := by
  induction l with
  | nil => cases hf
  | cons a r ih =>
    rw [List.map_cons, List.nodup_cons] at nd
    rw [List.countP_cons]
    rcases List.mem_cons.1 hf with rfl | hf
    · rw [cnt_none (fun x hx _ hh => nd.1 (List.mem_map.2 ⟨x, hx, hh.trans hn.symm⟩)), if_pos (decide_eq_true (by rw [hi, hn]))]
    · rw [ih nd.2 hf, if_neg]
      intro hd
      have e := congrArg Prod.snd (of_decide_eq_true hd)
      exact nd.1 (List.mem_map.2 ⟨f, hf, by rw [hn]; exact e.symm⟩)
end Go.Proofs.Ytckdcaegnbgomaa
namespace Go.Proofs.Ytckdcaegnbgomaa
open Go.ChangeShapes Go.WideShapes Go.ChangeAt Go.RowKit

theorem dc_snoc (gs : List (Int × Int)) {g : Int × Int} (L : Nat → List Fl) {i : Nat} (hi : (i : Int) = g.1) : ∀ m, dcF (gs ++ [g]) L m = dcF gs L m + if i < m then (keptF gs L i).countP (fun f => decide (((i : Int), f.num) = g)) else 0
  | 0 => by simp [dcF]
  | m + 1 => by
    show dcF (gs ++ [g]) L m + _ = dcF gs L m + _ + _
    rw [dc_snoc gs L hi m, cnt_snoc]
    by_cases e : i = m
    · subst e
      rw [if_neg (by omega), if_pos (by omega)]
      unfold keptF
      omega
    · rw [cnt_none (l := (L m).filter (fun f => !drF gs m f)) (fun f _ h _ => e (by omega))]
      by_cases e2 : i < m
      · rw [if_pos e2, if_pos (by omega)]; omega
      · rw [if_neg e2, if_neg (by omega)]; omega
theorem kept_nodup {gs : List (Int × Int)} {L : Nat → List Fl} {i : Nat} (nd : ((L i).map Fl.num).Nodup) : ((keptF gs L i).map Fl.num).Nodup := by
  unfold keptF
  exact List.Nodup.sublist (List.filter_sublist.map _) nd
theorem dc_found {gs : List (Int × Int)} {g : Int × Int} {L : Nat → List Fl} {i : Nat} (h5 : i < 5) (hi : (i : Int) = g.1) (nd : ((L i).map Fl.num).Nodup) {f : Fl} (hf : f ∈ keptF gs L i) (hn : f.num = g.2) : dcF (gs ++ [g]) L 5 = dcF gs L 5 + 1 := by
  rw [dc_snoc gs L hi 5, if_pos h5, cnt_one (kept_nodup nd) hi hf hn]
theorem dc_lost {gs : List (Int × Int)} {g : Int × Int} {L : Nat → List Fl} {i : Nat} (hi : (i : Int) = g.1) (hf : ∀ f ∈ keptF gs L i, f.num ≠ g.2) : dcF (gs ++ [g]) L 5 = dcF gs L 5 := by
  rw [dc_snoc gs L hi 5, cnt_none (fun f h _ => hf f h)]
  simp
theorem dc_le {gs : List (Int × Int)} {g : Int × Int} {L : Nat → List Fl} {i : Nat} (h5 : i < 5) (hi : (i : Int) = g.1) (nd : ((L i).map Fl.num).Nodup) : dcF (gs ++ [g]) L 5 ≤ dcF gs L 5 + 1 := by
  by_cases h : ∃ f ∈ keptF gs L i, f.num = g.2
  · obtain ⟨f, h1, h2⟩ := h
    rw [dc_found h5 hi nd h1 h2]
    exact Nat.le_refl _
  · rw [dc_lost hi (fun f hf hn => h ⟨f, hf, hn⟩)]
    omega
theorem dc_more {L : Nat → List Fl} (nd : ∀ i, i < 5 → ((L i).map Fl.num).Nodup) (gs : List (Int × Int)) : ∀ (hs : List (Int × Int)), (∀ g ∈ hs, 0 ≤ g.1 ∧ g.1 < 5) → dcF (gs ++ hs) L 5 ≤ dcF gs L 5 + hs.length
  | [], _ => by simp
  | g :: hs, hg => by
    have h1 := hg g (by simp)
    have h2 := dc_more nd (gs ++ [g]) hs (fun x hx => hg x (by simp [hx]))
    rw [List.append_assoc] at h2
    have h3 := dc_le (gs := gs) (g := g) (L := L) (i := g.1.toNat) (by omega) (by omega) (nd _ (by omega))
    rw [List.length_cons]
    have h4 : gs ++ ([g] ++ hs) = gs ++ g :: hs := rfl
    rw [h4] at h2
    omega
/-- One that isn't there: too few are taken out. -/
theorem dc_short {L : Nat → List Fl} (nd : ∀ i, i < 5 → ((L i).map Fl.num).Nodup) {gs : List (Int × Int)} (hg : ∀ g ∈ gs, 0 ≤ g.1 ∧ g.1 < 5) {k : Nat} {g : Int × Int} (hk : gs[k]? = some g) (h0 : dcF (gs.take k) L 5 = k) (hf : ∀ f ∈ keptF (gs.take k) L g.1.toNat, f.num ≠ g.2) : dcF gs L 5 ≠ gs.length := by
  have h1 := hg g (List.mem_of_getElem? hk)
  have h2 := dc_lost (gs := gs.take k) (g := g) (L := L) (i := g.1.toNat) (by omega) hf
  have h3 : gs.take (k + 1) = gs.take k ++ [g] := by rw [List.take_add_one, hk]; rfl
  rw [← h3] at h2
  have h4 := dc_more nd (gs.take (k + 1)) (gs.drop (k + 1)) (fun x hx => hg x (List.mem_of_mem_drop hx))
  rw [List.take_append_drop, List.length_drop] at h4
  have h5 := (List.getElem?_eq_some_iff.1 hk).1
  omega
/-- One more that is there. -/
theorem dc_step {L : Nat → List Fl} (nd : ∀ i, i < 5 → ((L i).map Fl.num).Nodup) {gs : List (Int × Int)} {k : Nat} {g : Int × Int} (hg : 0 ≤ g.1 ∧ g.1 < 5) (hk : gs[k]? = some g) (h0 : dcF (gs.take k) L 5 = k) {f : Fl} (hf : f ∈ keptF (gs.take k) L g.1.toNat) (hn : f.num = g.2) : dcF (gs.take (k + 1)) L 5 = k + 1 := by
  have h3 : gs.take (k + 1) = gs.take k ++ [g] := by rw [List.take_add_one, hk]; rfl
  rw [h3, dc_found (i := g.1.toNat) (by omega) (by omega) (nd _ (by omega)) hf hn, h0]
end Go.Proofs.Ytckdcaegnbgomaa
