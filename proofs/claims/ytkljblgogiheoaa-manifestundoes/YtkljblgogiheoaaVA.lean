/-
  Versions: without the program, and in memory.
-/
import Derived.Test.YtkljblgogiheoaaEG
namespace Go.Proofs.Ytkljblgogiheoaa
open Go.ChangeShapes Go.WideShapes Go.ChangeAt Go.RowKit

/-- A version. -/
structure Vn where
  log : Int
  next : Int
  seq : Nat
  lv : Nat → List Fl
/-- The tables of the levels below i, and of those from i on. -/
def pfx (L : Nat → List Fl) (i : Nat) : List Fl := (List.range i).flatMap L
def sfx (L : Nat → List Fl) (i : Nat) : List Fl := (List.range' i (5 - i)).flatMap L
def Vn.all (v : Vn) : List Fl := pfx v.lv 5
theorem pfx_zero (L : Nat → List Fl) : pfx L 0 = [] := rfl
theorem pfx_succ (L : Nat → List Fl) (i : Nat) : pfx L (i + 1) = pfx L i ++ L i := by
  unfold pfx; rw [List.range_succ, List.flatMap_append]; simp
theorem sfx_five (L : Nat → List Fl) : sfx L 5 = [] := rfl
theorem sfx_succ (L : Nat → List Fl) {i : Nat} (h : i < 5) : sfx L i = L i ++ sfx L (i + 1) := by
  unfold sfx
  rw [show 5 - i = (5 - (i + 1)) + 1 from by omega, List.range'_succ, List.flatMap_cons]
theorem pfx_sfx (L : Nat → List Fl) : ∀ i, i ≤ 5 → pfx L i ++ sfx L i = pfx L 5
  | 0, _ => by
    show sfx L 0 = pfx L 5
    simp [sfx, pfx, List.range_succ]
    simp [List.range']
  | i + 1, h => by
    rw [pfx_succ, List.append_assoc, ← sfx_succ L (by omega)]
    exact pfx_sfx L i (by omega)
/-- What holds of each table, as of those ahead of it. -/
def runP (p : List Fl → Fl → Bool) : List Fl → List Fl → Bool
  | _, [] => true
  | pre, f :: r => p pre f && runP p (pre ++ [f]) r
theorem runP_all (q : Fl → Bool) : ∀ (l pre : List Fl), runP (fun _ f => q f) pre l = l.all q
  | [], _ => rfl
  | f :: r, pre => by unfold runP; rw [runP_all q r]; rfl
def freshP (pre : List Fl) (f : Fl) : Bool := decide (f.num ∉ pre.map Fl.num)
theorem runP_fresh : ∀ (l pre : List Fl), (pre.map Fl.num).Nodup → (runP freshP pre l = true ↔ ((pre ++ l).map Fl.num).Nodup)
  | [], pre, h => by simp [runP, h]
  | f :: r, pre, h => by
    unfold runP
    by_cases hf : f.num ∈ pre.map Fl.num
    · have e : freshP pre f = false := by unfold freshP; simp only [decide_eq_false_iff_not, Classical.not_not]; exact hf
      rw [e, Bool.false_and]
      constructor
      · intro h2; cases h2
      · intro h2
        exfalso
        rw [List.map_append, List.map_cons] at h2
        have := (List.nodup_append.1 h2).2.2
        exact this _ hf f.num (by simp) rfl
    · have e : freshP pre f = true := by unfold freshP; simp only [decide_eq_true_eq]; exact hf
      rw [e, Bool.true_and]
      have h2 : ((pre ++ [f]).map Fl.num).Nodup := by
        rw [List.map_append, List.nodup_append]
        refine ⟨h, by simp, ?_⟩
        intro a ha b hb
        simp at hb
        subst hb
        intro e2
        subst e2
        exact hf ha
      rw [runP_fresh r (pre ++ [f]) h2, List.append_assoc]
      rfl
/-- How tables of a level stand; whether one reaches the next. -/
def cmpF (i : Nat) (a b : Fl) : Int := if i = 0 then cmpI a.num b.num else ordK a.least b.least
def reachF (a b : Fl) : Bool := decide (0 ≤ cmpN (userL a.most) (userL b.least))
def apartF (i : Nat) (a b : Fl) : Bool := decide (cmpF i a b < 0) && !(decide (0 < i) && reachF a b)
/-- Neighbours that rise and are apart. -/
def risesF (i : Nat) : List Fl → Bool
  | a :: b :: r => apartF i a b && risesF i (b :: r)
  | _ => true
def chkV (v : Vn) : Int :=
  if (!(okH v.log v.next v.seq) || !(v.all.all okF)) = true then 90
  else if runP freshP [] v.all = false then 92
  else if v.all.all (fun f => decide (f.num < v.next)) = false then 94
  else if (List.range 5).all (fun i => risesF i (v.lv i)) = false then 93 else 0
/-- A version in memory: its five lists. -/
structure VAt (w : World) (L : Nat → List Fl) (ad : Nat → Option Addr) (ln cp : Nat → Nat) : Prop where
  len : ∀ i, i < 5 → ln i = (L i).length
  small : ∀ i, i < 5 → ln i ≤ 140737488355328
  rd : ∀ i, i < 5 → 0 < ln i → ∃ b off, ad i = some ⟨b, off, none⟩ ∧ ∀ (j : Nat) (f : Fl), (L i)[j]? = some f → ∃ la lc ma mc, FAt w b (off + j * 4) f la lc ma mc
theorem VAt.fr {w w' : World} {L : Nat → List Fl} {ad : Nat → Option Addr} {ln cp : Nat → Nat} (h : VAt w L ad ln cp) (f : Fr [] w w') : VAt w' L ad ln cp := by
  refine ⟨h.len, h.small, fun i hi h0 => ?_⟩
  obtain ⟨b, off, e, k⟩ := h.rd i hi h0
  refine ⟨b, off, e, fun j x hx => ?_⟩
  obtain ⟨la, lc, ma, mc, q⟩ := k j x hx
  exact ⟨la, lc, ma, mc, q.fr f⟩
/-- The cells of a version. -/
theorem vn_cells {W : World} {k : Nat} {t : TypeId} {c0 c1 c2 c3 c4 c5 c6 c7 : Value} (n : W.heap[k]? = some (.cells #[c0, c1, c2, c3, c4, c5, c6, c7] t (0, 0))) : W.cell? ⟨k, 0, none⟩ = some c0 ∧ W.cell? ⟨k, 1, none⟩ = some c1 ∧ W.cell? ⟨k, 2, none⟩ = some c2 ∧ W.cell? ⟨k, 3, none⟩ = some c3 ∧ W.cell? ⟨k, 4, none⟩ = some c4 ∧ W.cell? ⟨k, 5, none⟩ = some c5 ∧ W.cell? ⟨k, 6, none⟩ = some c6 ∧ W.cell? ⟨k, 7, none⟩ = some c7 :=
  ⟨by rw [blk_cell n]; rfl, by rw [blk_cell n]; rfl, by rw [blk_cell n]; rfl, by rw [blk_cell n]; rfl, by rw [blk_cell n]; rfl, by rw [blk_cell n]; rfl, by rw [blk_cell n]; rfl, by rw [blk_cell n]; rfl⟩
theorem fl_cells {W : World} {k : Nat} {t : TypeId} {c0 c1 c2 c3 : Value} (n : W.heap[k]? = some (.cells #[c0, c1, c2, c3] t (0, 0))) : W.cell? ⟨k, 0, none⟩ = some c0 ∧ W.cell? ⟨k, 1, none⟩ = some c1 ∧ W.cell? ⟨k, 2, none⟩ = some c2 ∧ W.cell? ⟨k, 3, none⟩ = some c3 :=
  ⟨by rw [blk_cell n]; rfl, by rw [blk_cell n]; rfl, by rw [blk_cell n]; rfl, by rw [blk_cell n]; rfl⟩
/-- An array of five lists, indexed. -/
theorem ixs {i : Nat} (hi : i < 5) (ad : Nat → Option Addr) (ln cp : Nat → Nat) (W : World) : (Instr.index 24 (.agg #[.slice (ad 0) (ln 0) (cp 0), .slice (ad 1) (ln 1) (cp 1), .slice (ad 2) (ln 2) (cp 2), .slice (ad 3) (ln 3) (cp 3), .slice (ad 4) (ln 4) (cp 4)]) (.int .i64 (i : Int))).run Try.prog W = .ok (.slice (ad i) (ln i) (cp i)) W := by
  rcases (show i = 0 ∨ i = 1 ∨ i = 2 ∨ i = 3 ∨ i = 4 from by omega) with rfl | rfl | rfl | rfl | rfl <;> kernel_rfl
end Go.Proofs.Ytkljblgogiheoaa
