/-
  Tables that are added and dropped again, without the program.
-/
import Derived.Test.YtkljblgogiheoaaVO
namespace Go.Proofs.Ytkljblgogiheoaa

/-- A version that may be. -/
structure GoodV (v : Vn) : Prop where
  head : okH v.log v.next v.seq = true
  file : ∀ f ∈ v.all, okF f = true
  once : (v.all.map Fl.num).Nodup
  below : ∀ f ∈ v.all, f.num < v.next
  rise : ∀ i, i < 5 → risesF i (v.lv i) = true
theorem chk_iff (v : Vn) : chkV v = 0 ↔ GoodV v := by
  unfold chkV
  constructor
  · intro h
    by_cases h1 : (!(okH v.log v.next v.seq) || !(v.all.all okF)) = true
    · rw [if_pos h1] at h; omega
    rw [if_neg h1] at h
    by_cases h2 : runP freshP [] v.all = false
    · rw [if_pos h2] at h; omega
    rw [if_neg h2] at h
    by_cases h3 : v.all.all (fun f => decide (f.num < v.next)) = false
    · rw [if_pos h3] at h; omega
    rw [if_neg h3] at h
    by_cases h4 : (List.range 5).all (fun i => risesF i (v.lv i)) = false
    · rw [if_pos h4] at h; omega
    simp only [Bool.or_eq_true, Bool.not_eq_true', not_or, Bool.not_eq_false] at h1 h2 h3 h4
    refine ⟨h1.1, List.all_eq_true.1 h1.2, ?_, fun f hf => by simpa using List.all_eq_true.1 h3 f hf, fun i hi => List.all_eq_true.1 h4 i (by simpa using hi)⟩
    have := (runP_fresh v.all [] (by simp)).1 h2
    simpa using this
  · intro h
    rw [if_neg (by simp [h.head, List.all_eq_true.2 h.file]), if_neg (by
      rw [Bool.not_eq_false, runP_fresh v.all [] (by simp)]
      simpa using h.once), if_neg (by
      rw [Bool.not_eq_false, List.all_eq_true]
      intro f hf
      simpa using h.below f hf), if_neg (by
      rw [Bool.not_eq_false, List.all_eq_true]
      intro i hi
      exact h.rise i (by simpa using hi))]
/-- Of one order there is one list. -/
theorem sort_one (i : Nat) : ∀ (l1 l2 : List Fl), l1.Perm l2 → l1.Pairwise (fun a b => ¬ cmpF i b a < 0) → l2.Pairwise (fun a b => cmpF i a b < 0) → l1 = l2
  | [], l2, hp, _, _ => (List.nil_perm.1 hp).symm
  | a :: t1, [], hp, _, _ => by have := hp.length_eq; simp at this
  | a :: t1, b :: t2, hp, h1, h2 => by
    obtain ⟨p1, p2⟩ := List.pairwise_cons.1 h1
    obtain ⟨q1, q2⟩ := List.pairwise_cons.1 h2
    by_cases e : a = b
    · subst e
      rw [sort_one i t1 t2 (List.perm_cons _ |>.1 hp) p2 q2]
    · exfalso
      have m1 : a ∈ t2 := by
        have := hp.mem_iff.1 (List.mem_cons_self (a := a) (l := t1))
        rcases List.mem_cons.1 this with h | h
        · exact absurd h e
        · exact h
      have m2 : b ∈ t1 := by
        have := hp.mem_iff.2 (List.mem_cons_self (a := b) (l := t2))
        rcases List.mem_cons.1 this with h | h
        · exact absurd h.symm e
        · exact h
      exact p1 b m2 (q1 a m1)
theorem rises_pair (i : Nat) : ∀ (l : List Fl), risesF i l = true → l.Pairwise (fun a b => cmpF i a b < 0)
  | [], _ => List.Pairwise.nil
  | [a], _ => List.pairwise_singleton _ _
  | a :: b :: r, h => by
    unfold risesF at h
    rw [Bool.and_eq_true] at h
    have ih := rises_pair i (b :: r) h.2
    have hab : cmpF i a b < 0 := by
      have := h.1
      unfold apartF at this
      rw [Bool.and_eq_true] at this
      exact of_decide_eq_true this.1
    refine List.pairwise_cons.2 ⟨fun c hc => ?_, ih⟩
    rcases List.mem_cons.1 hc with rfl | hc
    · exact hab
    · exact cmpF_lt i hab ((List.pairwise_cons.1 ih).1 c hc)
theorem lv_sub (L : Nat → List Fl) : ∀ n i, i < n → (L i).Sublist (pfx L n)
  | 0, i, h => by omega
  | n + 1, i, h => by
    rw [pfx_succ]
    rcases Nat.lt_or_ge i n with h1 | h1
    · exact (lv_sub L n i h1).trans (List.sublist_append_left _ _)
    · rw [show i = n from by omega]; exact List.sublist_append_right _ _
theorem lv_once {v : Vn} (h : GoodV v) {i : Nat} (hi : i < 5) : ((v.lv i).map Fl.num).Nodup := (h.once).sublist ((lv_sub v.lv 5 i hi).map _)
theorem addF_mem {ps : List (Int × Fl)} {i : Nat} {f : Fl} : f ∈ addF ps i ↔ ((i : Int), f) ∈ ps := by
  unfold addF
  rw [List.mem_map]
  constructor
  · rintro ⟨p, hp, rfl⟩
    obtain ⟨h1, h2⟩ := List.mem_filter.1 hp
    have : p.1 = (i : Int) := by simpa using h2
    rw [← this]; exact h1
  · intro h
    exact ⟨_, List.mem_filter.2 ⟨h, by simp⟩, rfl⟩
/-- What is dropped again. -/
def dropsOf (ps : List (Int × Fl)) : List (Int × Int) := ps.map (fun p => (p.1, p.2.num))
theorem drops_mem {ps : List (Int × Fl)} {i : Nat} {n : Int} : ((i : Int), n) ∈ dropsOf ps ↔ ∃ f ∈ addF ps i, f.num = n := by
  unfold dropsOf
  rw [List.mem_map]
  constructor
  · rintro ⟨p, hp, e⟩
    simp only [Prod.mk.injEq] at e
    exact ⟨p.2, addF_mem.2 (by rw [← e.1]; exact hp), e.2⟩
  · rintro ⟨f, hf, rfl⟩
    exact ⟨_, addF_mem.1 hf, rfl⟩
theorem kept_none (L : Nat → List Fl) (i : Nat) : keptF [] L i = L i := by
  unfold keptF drF
  simp
theorem add_count : ∀ (ps : List (Int × Fl)), (∀ p ∈ ps, 0 ≤ p.1 ∧ p.1 < 5) → (addF ps 0).length + (addF ps 1).length + (addF ps 2).length + (addF ps 3).length + (addF ps 4).length = ps.length
  | [], _ => rfl
  | p :: r, h => by
    have ih := add_count r (fun q hq => h q (by simp [hq]))
    have hp := h p (by simp)
    have e : ∀ i : Nat, (addF (p :: r) i).length = (if p.1 = (i : Int) then 1 else 0) + (addF r i).length := fun i => by
      unfold addF
      by_cases hq : p.1 = (i : Int)
      · rw [List.filter_cons_of_pos (by simpa using hq), if_pos hq]; simp; omega
      · rw [List.filter_cons_of_neg (by simpa using hq), if_neg hq]; simp
    rw [e 0, e 1, e 2, e 3, e 4, List.length_cons]
    rcases (show p.1 = 0 ∨ p.1 = 1 ∨ p.1 = 2 ∨ p.1 = 3 ∨ p.1 = 4 from by omega) with q | q | q | q | q <;> rw [q] <;> simp <;> omega
/-- The edit that adds, the one that drops again. -/
def addE (v : Vn) (nx : Int) (ps : List (Int × Fl)) : Ed := ⟨v.log, nx, v.seq, [], ps⟩
def dropE (v : Vn) (nx : Int) (ps : List (Int × Fl)) : Ed := ⟨v.log, nx, v.seq, dropsOf ps, []⟩
structure Undo (v : Vn) (nx : Int) (ps : List (Int × Fl)) (U : Nat → List Fl) : Prop where
  good : chkV v = 0
  ok : okE (addE v nx ps) = true
  made : okA9 v (addE v nx ps) U
section
variable {v : Vn} {nx : Int} {ps : List (Int × Fl)} {U : Nat → List Fl}
theorem Undo.perm (h : Undo v nx ps U) {i : Nat} (hi : i < 5) : (U i).Perm (v.lv i ++ addF ps i) := by
  have := h.made.comes.perm i hi
  rw [show (addE v nx ps).drop = [] from rfl, kept_none] at this
  exact this
theorem Undo.lev (h : Undo v nx ps U) : ∀ p ∈ ps, 0 ≤ p.1 ∧ p.1 < 5 := by
  intro p hp
  have h1 := h.ok
  unfold okE at h1
  simp only [Bool.and_eq_true] at h1
  have h2 := List.all_eq_true.1 h1.2.1 p hp
  unfold okA at h2
  simp only [Bool.and_eq_true] at h2
  exact okV_iff.1 h2.1
theorem Undo.num (h : Undo v nx ps U) : ∀ p ∈ ps, okN p.2.num = true := by
  intro p hp
  have h1 := h.ok
  unfold okE at h1
  simp only [Bool.and_eq_true] at h1
  have h2 := List.all_eq_true.1 h1.2.1 p hp
  unfold okA okF at h2
  simp only [Bool.and_eq_true] at h2
  exact h2.2.2.2.2.1
theorem Undo.goodw (h : Undo v nx ps U) : GoodV ⟨v.log, nx, v.seq, U⟩ := (chk_iff _).1 h.made.chk
theorem Undo.apart (h : Undo v nx ps U) {i : Nat} (hi : i < 5) : ∀ f ∈ v.lv i, drF (dropsOf ps) i f = false := by
  intro f hf
  unfold drF
  rw [decide_eq_false_iff_not, drops_mem]
  rintro ⟨g, hg, e⟩
  have h1 := lv_once h.goodw hi
  have h2 : ((v.lv i ++ addF ps i).map Fl.num).Nodup := ((h.perm hi).map Fl.num).nodup_iff.1 h1
  rw [List.map_append, List.nodup_append] at h2
  exact h2.2.2 f.num (List.mem_map_of_mem hf) g.num (List.mem_map_of_mem hg) e.symm
theorem Undo.all (_ : Undo v nx ps U) {i : Nat} : ∀ f ∈ addF ps i, drF (dropsOf ps) i f = true := by
  intro f hf
  unfold drF
  rw [decide_eq_true_eq, drops_mem]
  exact ⟨f, hf, rfl⟩
theorem Undo.cnt (h : Undo v nx ps U) : dcF (dropsOf ps) U 5 = (dropsOf ps).length := by
  have hc : ∀ i, i < 5 → (U i).countP (drF (dropsOf ps) i) = (addF ps i).length := fun i hi => by
    rw [(h.perm hi).countP_eq, List.countP_append, List.countP_eq_zero.2 (fun f hf => by rw [h.apart hi f hf]; simp), Nat.zero_add, List.countP_eq_length.2 (fun f hf => h.all f hf)]
  show 0 + (U 0).countP _ + (U 1).countP _ + (U 2).countP _ + (U 3).countP _ + (U 4).countP _ = _
  rw [hc 0 (by omega), hc 1 (by omega), hc 2 (by omega), hc 3 (by omega), hc 4 (by omega)]
  have := add_count ps h.lev
  unfold dropsOf
  rw [List.length_map]
  omega
theorem Undo.back (h : Undo v nx ps U) {U2 : Nat → List Fl} (hc : Comes ⟨v.log, nx, v.seq, U⟩ (dropE v nx ps) U2) {i : Nat} (hi : i < 5) : U2 i = v.lv i := by
  have h1 := hc.perm i hi
  have h2 : keptF (dropsOf ps) U i ++ addF [] i = keptF (dropsOf ps) U i := by unfold addF; simp
  have h3 : (keptF (dropsOf ps) U i).Perm (v.lv i) := by
    unfold keptF
    have := (h.perm hi).filter (fun f => !drF (dropsOf ps) i f)
    have e1 : (v.lv i).filter (fun f => !drF (dropsOf ps) i f) = v.lv i := List.filter_eq_self.2 (fun f hf => by rw [h.apart hi f hf]; rfl)
    have e2 : (addF ps i).filter (fun f => !drF (dropsOf ps) i f) = [] := List.filter_eq_nil_iff.2 (fun f hf => by rw [h.all f hf]; simp)
    rw [List.filter_append, e1, e2, List.append_nil] at this
    exact this
  have h4 : (U2 i).Perm (v.lv i) := by
    refine h1.trans ?_
    show (keptF (dropsOf ps) U i ++ addF [] i).Perm (v.lv i)
    rw [h2]; exact h3
  exact sort_one i _ _ h4 (hc.sort i hi) (rises_pair i _ (((chk_iff v).1 h.good).rise i hi))
theorem Undo.chk2 (h : Undo v nx ps U) {U2 : Nat → List Fl} (hc : Comes ⟨v.log, nx, v.seq, U⟩ (dropE v nx ps) U2) : chkV ⟨v.log, nx, v.seq, U2⟩ = 0 := by
  rw [chk_lv (v := ⟨v.log, nx, v.seq, U2⟩) (v' := ⟨v.log, nx, v.seq, v.lv⟩) rfl rfl rfl (fun i hi => h.back hc hi), chk_iff]
  have g := (chk_iff v).1 h.good
  have hn : v.next ≤ nx := by
    have := h.made.back
    unfold backE at this
    simp only [not_or] at this
    have h2 := this.2.1
    change ¬ nx < v.next at h2
    omega
  exact ⟨h.goodw.head, g.file, g.once, fun f hf => by have := g.below f hf; show f.num < nx; omega, g.rise⟩
theorem Undo.ok2 (h : Undo v nx ps U) : okE (dropE v nx ps) = true := by
  unfold okE
  rw [Bool.and_eq_true, Bool.and_eq_true]
  refine ⟨?_, rfl, h.goodw.head⟩
  rw [List.all_eq_true]
  intro g hg
  obtain ⟨p, hp, rfl⟩ := List.mem_map.1 hg
  unfold okD
  rw [Bool.and_eq_true]
  exact ⟨okV_iff.2 (h.lev p hp), h.num p hp⟩
theorem Undo.back2 (_ : Undo v nx ps U) : ¬ backE ⟨v.log, nx, v.seq, U⟩ (dropE v nx ps) := by
  unfold backE dropE
  simp
end
end Go.Proofs.Ytkljblgogiheoaa
