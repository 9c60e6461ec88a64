/-
  In whatever order entries are put, without the program: what a table holds is the set of what was put.
-/
import Derived.Test.YtldcjkddalmkcaaLC1
namespace Go.Proofs.Ytldcjkddalmkcaa
open Go.ChangeShapes Go.WideShapes Go.ChangeAt Go.RowKit

/-- May this entry be put? -/
def okP (x : Ar) : Prop := vb x.u.length x.s x.k = true ∧ x.v.length ≤ 16384
/-- The pair that it makes. -/
def prP (x : Ar) : List Nat × List Nat := (keyL x.u x.s x.k.toNat, x.v)
/-- The pairs of entries. -/
def prs (es : List E) : List (List Nat × List Nat) := es.map fun e => (e.key, e.val)
/-- No two have one key. -/
def ND (ls : List Ar) : Prop := ls.Pairwise fun x y => ¬ (x.u = y.u ∧ x.s = y.s ∧ x.k = y.k)
theorem okP_parts {x : Ar} (h : okP x) : x.u.length ≤ 128 ∧ x.s ≤ 72057594037927935 ∧ (x.k = 0 ∨ x.k = 1) := vb_kind h.1
theorem keyL_inj {x y : Ar} (hx : okP x) (hy : okP y) (h : keyL x.u x.s x.k.toNat = keyL y.u y.s y.k.toNat) : x.u = y.u ∧ x.s = y.s ∧ x.k = y.k := by
  obtain ⟨a1, a2, a3⟩ := okP_parts hx
  obtain ⟨b1, b2, b3⟩ := okP_parts hy
  have h1 := congrArg userL h
  rw [keyL_user, keyL_user] at h1
  have h2 := congrArg tailN h
  rw [keyL_tail _ a2 (by omega), keyL_tail _ b2 (by omega)] at h2
  exact ⟨h1, by omega, by omega⟩
/-- What a table holds, if those that were put have keys of their own. -/
def Holds (es : List E) (ds : List Ar) : Prop := ∀ p, p ∈ prs es ↔ ∃ x ∈ ds, okP x ∧ p = prP x
theorem Holds.nil : Holds [] [] := fun p => by simp [prs]
theorem prs_mid (pre post : List E) (n : E) : ∀ p, p ∈ prs (pre ++ n :: post) ↔ p = (n.key, n.val) ∨ p ∈ prs (pre ++ post) := fun p => by
  unfold prs
  simp only [List.map_append, List.map_cons, List.mem_append, List.mem_cons]
  constructor
  · rintro (h | h | h)
    · exact .inr (.inl h)
    · exact .inl h
    · exact .inr (.inr h)
  · rintro (h | h | h)
    · exact .inr (.inl h)
    · exact .inl h
    · exact .inr (.inr h)
theorem Holds.put {b0 : Nat} {H : List Nat} {es es' : List E} {ds : List Ar} {x : Ar} (h : Holds es ds) (hnd : ∀ y ∈ ds, ¬ (y.u = x.u ∧ y.s = x.s ∧ y.k = x.k)) (R : PutR b0 H es es' x.u x.s x.k x.v) : Holds es' (ds ++ [x]) := by
  rcases R with ⟨hp, rfl⟩ | ⟨hp, pre, post, n, C, _, rfl, h1, h2, _⟩
  · have hnok : ¬ okP x := fun hok => by
      apply hp
      unfold pE
      rw [if_neg (by rw [hok.1]; simp), if_neg (by have := hok.2; omega), if_neg]
      rw [List.any_eq_true]
      rintro ⟨e, he, hk⟩
      have hk' : e.key = keyL x.u x.s x.k.toNat := by simpa using hk
      have hm : (e.key, e.val) ∈ prs es' := List.mem_map.2 ⟨e, he, rfl⟩
      obtain ⟨y, hy, hoy, hpy⟩ := (h _).1 hm
      have hky : e.key = keyL y.u y.s y.k.toNat := congrArg Prod.fst hpy
      exact hnd y hy (keyL_inj hoy hok (hky.symm.trans hk'))
    intro p
    rw [h p]
    constructor
    · rintro ⟨y, hy, h3⟩; exact ⟨y, by simp [hy], h3⟩
    · rintro ⟨y, hy, h3⟩
      rcases List.mem_append.1 hy with hy | hy
      · exact ⟨y, hy, h3⟩
      · simp at hy; subst hy; exact absurd h3.1 hnok
  · have hok : okP x := by
      unfold pE at hp
      by_cases h3 : vb x.u.length x.s x.k = false
      · rw [if_pos h3] at hp; cases hp
      · rw [if_neg h3] at hp
        by_cases h4 : 16384 < x.v.length
        · rw [if_pos h4] at hp; cases hp
        · exact ⟨by simpa using h3, by omega⟩
    intro p
    rw [prs_mid, ← C.eq, h p, h1, h2]
    constructor
    · rintro (rfl | ⟨y, hy, h3⟩)
      · exact ⟨x, by simp, hok, rfl⟩
      · exact ⟨y, by simp [hy], h3⟩
    · rintro ⟨y, hy, h3⟩
      rcases List.mem_append.1 hy with hy | hy
      · exact .inr ⟨y, hy, h3⟩
      · simp at hy; subst hy; exact .inl h3.2
theorem ordK_self (a : List Nat) : ordK a a = 0 := by have := ordK_neg a a; omega
theorem sorted_ext : ∀ {l1 l2 : List (List Nat × List Nat)}, l1.Pairwise (fun a b => ordK a.1 b.1 < 0) → l2.Pairwise (fun a b => ordK a.1 b.1 < 0) → (∀ p, p ∈ l1 ↔ p ∈ l2) → l1 = l2
  | [], [], _, _, _ => rfl
  | [], y :: l2, _, _, h => by have := (h y).2 (by simp); cases this
  | x :: l1, [], _, _, h => by have := (h x).1 (by simp); cases this
  | x :: l1, y :: l2, h1, h2, h => by
    obtain ⟨a1, a2⟩ := List.pairwise_cons.1 h1
    obtain ⟨b1, b2⟩ := List.pairwise_cons.1 h2
    have hxy : x = y := by
      rcases List.mem_cons.1 ((h x).1 (by simp)) with e | e
      · exact e
      · rcases List.mem_cons.1 ((h y).2 (by simp)) with e' | e'
        · exact e'.symm
        · have k1 := b1 x e
          have k2 := a1 y e'
          have := ordK_neg x.1 y.1
          omega
    subst hxy
    have ht : l1 = l2 := sorted_ext a2 b2 fun p => by
      constructor
      · intro hp
        rcases List.mem_cons.1 ((h p).1 (by simp [hp])) with e | e
        · subst e; have := a1 p hp; rw [ordK_self] at this; omega
        · exact e
      · intro hp
        rcases List.mem_cons.1 ((h p).2 (by simp [hp])) with e | e
        · subst e; have := b1 p hp; rw [ordK_self] at this; omega
        · exact e
    rw [ht]
theorem prs_srt {es : List E} (h : es.Pairwise (fun a b => ordK a.key b.key < 0)) : (prs es).Pairwise (fun a b => ordK a.1 b.1 < 0) := by
  unfold prs; rw [List.pairwise_map]; exact h
theorem siz_prs (es : List E) : siz es = ((prs es).map fun p => p.1.length + p.2.length).sum := by
  unfold siz prs; rw [List.map_map]; rfl
/-- Two tables that hold the same are the same. -/
theorem same_of {ea eb : List E} {da db ls : List Ar} (ha : ND ls → Holds ea da) (hb : ND ls → Holds eb db) (hnd : ND ls) (pa : da.Perm ls) (pb : db.Perm ls) (sa : ea.Pairwise (fun a b => ordK a.key b.key < 0)) (sb : eb.Pairwise (fun a b => ordK a.key b.key < 0)) : prs ea = prs eb := by
  refine sorted_ext (prs_srt sa) (prs_srt sb) fun p => ?_
  rw [ha hnd p, hb hnd p]
  constructor
  · rintro ⟨x, hx, h⟩; exact ⟨x, pb.symm.mem_iff.1 (pa.mem_iff.1 hx), h⟩
  · rintro ⟨x, hx, h⟩; exact ⟨x, pa.symm.mem_iff.1 (pb.mem_iff.1 hx), h⟩
theorem ND.perm {l1 l2 : List Ar} (h : ND l1) (p : l1.Perm l2) : ND l2 :=
  (List.Perm.pairwise_iff (fun {_ _} hxy => fun ⟨a, b, c⟩ => hxy ⟨a.symm, b.symm, c.symm⟩) p).1 h
theorem ND.apart {ds rest : List Ar} {x : Ar} (h : ND (ds ++ x :: rest)) : ∀ y ∈ ds, ¬ (y.u = x.u ∧ y.s = x.s ∧ y.k = x.k) := fun y hy => by
  unfold ND at h
  rw [List.pairwise_append] at h
  exact h.2.2 y hy x (by simp)
end Go.Proofs.Ytldcjkddalmkcaa
