/-
  Paths of tries, without the program: nibbles, packed and unpacked.
-/
import Derived.Test.YtdcocgjlfhicaaaDoorNum
import Derived.Test.YtdcocgjlfhicaaaDoorRows
import Derived.WalkKit
import Derived.ProofKit
import Derived.OpenShut
import Derived.Handy
import Derived.WalkSpells
import Derived.BigQuiet
import Derived.Deep.QuietTactic
namespace Go.Proofs.YtdcocgjlfhicaaaDoor

/-- A key's nibbles. -/
def nibF : List Nat → List Nat
  | [] => []
  | x :: b => x / 16 :: x % 16 :: nibF b
theorem nibF_app : ∀ (a b : List Nat), nibF (a ++ b) = nibF a ++ nibF b
  | [], b => rfl
  | x :: a, b => by simp [nibF, nibF_app a b]
theorem nibF_len : ∀ (b : List Nat), (nibF b).length = 2 * b.length
  | [] => rfl
  | x :: b => by simp [nibF, nibF_len b]; omega
/-- Nibbles, each below 16. -/
def Nb (p : List Nat) : Prop := ∀ x ∈ p, x < 16
theorem nibF_nb : ∀ {b : List Nat}, By b → Nb (nibF b)
  | [], _ => fun x hx => by cases hx
  | y :: b, h => fun x hx => by
    have hy := h y (by simp)
    simp only [nibF, List.mem_cons] at hx
    rcases hx with rfl | rfl | hx
    · omega
    · omega
    · exact nibF_nb (fun z hz => h z (by simp [hz])) x hx
theorem Nb.by {p : List Nat} (h : Nb p) : By p := fun x hx => by have := h x hx; omega
/-- Pairs of nibbles as bytes. -/
def prsF : List Nat → List Nat
  | x :: y :: l => (16 * x + y) :: prsF l
  | _ => []
theorem prsF_len : ∀ (l : List Nat), (prsF l).length = l.length / 2
  | [] => rfl
  | [x] => by simp [prsF]
  | x :: y :: l => by simp [prsF, prsF_len l]; omega
theorem prsF_at : ∀ (l : List Nat) (i x y : Nat), l[2 * i]? = some x → l[2 * i + 1]? = some y → (prsF l)[i]? = some (16 * x + y)
  | [], i, x, y, h, _ => by simp at h
  | [a], i, x, y, h, k => by
    rw [List.getElem?_eq_none (by simp)] at k; cases k
  | a :: b :: l, 0, x, y, h, k => by simp at h k; subst h; subst k; rfl
  | a :: b :: l, i + 1, x, y, h, k => by
    rw [show 2 * (i + 1) = 2 * i + 1 + 1 by omega] at h
    rw [show 2 * (i + 1) + 1 = 2 * i + 1 + 1 + 1 by omega] at k
    simp only [List.getElem?_cons_succ] at h k
    simp only [prsF, List.getElem?_cons_succ]
    exact prsF_at l i x y h k
theorem prsF_nib : ∀ {l : List Nat}, Nb l → l.length % 2 = 0 → nibF (prsF l) = l
  | [], _, _ => rfl
  | [a], _, h => by simp at h
  | a :: b :: l, hn, h => by
    have ha := hn a (by simp)
    have hb := hn b (by simp)
    simp only [prsF, nibF]
    rw [prsF_nib (fun x hx => hn x (by simp [hx])) (by simp only [List.length_cons] at h; omega)]
    rw [show (16 * a + b) / 16 = a by omega, show (16 * a + b) % 16 = b by omega]
theorem nibF_prs : ∀ {b : List Nat}, By b → prsF (nibF b) = b
  | [], _ => rfl
  | x :: b, h => by
    simp only [nibF, prsF]
    rw [nibF_prs (fun y hy => h y (by simp [hy])), show 16 * (x / 16) + x % 16 = x by omega]
/-- What a path is laid behind. -/
def wayF (leaf : Bool) : Nat := if leaf then 2 else 0
def aheadF (p : List Nat) (leaf : Bool) : List Nat := if p.length % 2 = 1 then [wayF leaf + 1] else [wayF leaf, 0]
/-- May a path be packed? -/
def okP (p : List Nat) : Bool := decide (p.length ≤ 128) && p.all (fun x => decide (x ≤ 15))
/-- A path, packed. -/
def packF (p : List Nat) (leaf : Bool) : List Nat := prsF (aheadF p leaf ++ p)
theorem okP_nb {p : List Nat} (h : okP p = true) : Nb p := fun x hx => by
  unfold okP at h
  simp only [Bool.and_eq_true, List.all_eq_true, decide_eq_true_eq] at h
  have := h.2 x hx
  omega
theorem okP_len {p : List Nat} (h : okP p = true) : p.length ≤ 128 := by
  unfold okP at h
  simp only [Bool.and_eq_true, decide_eq_true_eq] at h
  exact h.1
theorem ahead_len (p : List Nat) (leaf : Bool) : (aheadF p leaf ++ p).length % 2 = 0 ∧ (aheadF p leaf).length ≤ 2 ∧ 1 ≤ (aheadF p leaf).length := by
  unfold aheadF
  split
  · simp; omega
  · simp; omega
theorem way_le (leaf : Bool) : wayF leaf ≤ 2 := by cases leaf <;> decide
theorem ahead_nb (p : List Nat) (leaf : Bool) : Nb (aheadF p leaf) := fun x hx => by
  have hw := way_le leaf
  unfold aheadF at hx
  split at hx
  · simp at hx; omega
  · simp at hx; omega
theorem packF_len (p : List Nat) (leaf : Bool) : (packF p leaf).length = p.length / 2 + 1 := by
  unfold packF
  rw [prsF_len, List.length_append]
  unfold aheadF
  split
  · simp; omega
  · simp
theorem prsF_by : ∀ {l : List Nat}, Nb l → By (prsF l)
  | [], _ => fun x hx => by cases hx
  | [a], _ => fun x hx => by cases hx
  | a :: b :: l, h => fun x hx => by
    simp only [prsF, List.mem_cons] at hx
    have ha := h a (by simp)
    have hb := h b (by simp)
    rcases hx with rfl | hx
    · omega
    · exact prsF_by (fun y hy => h y (by simp [hy])) x hx
theorem packF_by {p : List Nat} (h : Nb p) (leaf : Bool) : By (packF p leaf) := prsF_by (fun x hx => by
  rcases List.mem_append.1 hx with hx | hx
  · exact ahead_nb p leaf x hx
  · exact h x hx)
/-- What bytes are unpacked to. -/
def unpF (b : List Nat) : Option (List Nat × Bool) :=
  match nibF b with
  | [] => none
  | 0 :: y :: l => if y = 0 ∧ l.length ≤ 128 then some (l, false) else none
  | 1 :: l => if l.length ≤ 128 then some (l, false) else none
  | 2 :: y :: l => if y = 0 ∧ l.length ≤ 128 then some (l, true) else none
  | 3 :: l => if l.length ≤ 128 then some (l, true) else none
  | _ => none
theorem unp_pack {p : List Nat} (h : okP p = true) (leaf : Bool) : unpF (packF p leaf) = some (p, leaf) := by
  have hl := okP_len h
  have hn : nibF (packF p leaf) = aheadF p leaf ++ p := prsF_nib (fun x hx => by
    rcases List.mem_append.1 hx with hx | hx
    · exact ahead_nb p leaf x hx
    · exact okP_nb h x hx) (ahead_len p leaf).1
  by_cases hp : p.length % 2 = 1
  · have ha : aheadF p leaf = [wayF leaf + 1] := if_pos hp
    unfold unpF
    rw [hn, ha]
    cases leaf <;> simp [wayF, hl]
  · have ha : aheadF p leaf = [wayF leaf, 0] := if_neg hp
    unfold unpF
    rw [hn, ha]
    cases leaf <;> simp [wayF, hl]
end Go.Proofs.YtdcocgjlfhicaaaDoor
namespace Go.Proofs.YtdcocgjlfhicaaaDoor
open Go.ChangeShapes Go.WideShapes Go.ChangeAt Go.RowKit

theorem hid {p : Prop} (h : p) : Hid p := h
theorem blk_lt {w : World} {b : Nat} {o : Obj} (h : w.heap[b]? = some o) : b < w.heap.size := (Array.getElem?_eq_some_iff.1 h).1
theorem blk_cell {w : World} {b : Nat} {cs : Array Value} {t : TypeId} (h : w.heap[b]? = some (.cells cs t (0, 0))) (i : Nat) : w.cell? ⟨b, i, none⟩ = cs[i]? := by
  simp [World.cell?, h]
theorem blk_frozen {w : World} {b : Nat} {cs : Array Value} {t : TypeId} (h : w.heap[b]? = some (.cells cs t (0, 0))) (i : Nat) : w.frozen? ⟨b, i, none⟩ = false := by
  simp [World.frozen?, h]
theorem blk_set {w : World} {b : Nat} {cs : Array Value} {t : TypeId} (h : w.heap[b]? = some (.cells cs t (0, 0))) (i : Nat) (v : Value) :
    (w.setCell ⟨b, i, none⟩ v).heap[b]? = some (.cells (cs.setIfInBounds i v) t (0, 0)) := by
  simp only [World.setCell, Array.getElem?_modify, if_true, h, Option.map_some]; rfl
theorem blk_setne (w : World) {b k : Nat} (i : Nat) (v : Value) (h : k ≠ b) : (w.setCell ⟨b, i, none⟩ v).heap[k]? = w.heap[k]? :=
  Below.heap_setCell _ _ _ _ h
theorem blk_drew (w : World) (k : Nat) : w.drew.heap[k]? = w.heap[k]? := rfl
theorem heap_drewN (w : World) (n : Nat) : (w.drewN n).heap = w.heap := by induction n generalizing w with
  | zero => rfl
  | succ n ih => exact ih w.drew
theorem os_drewN (w : World) (n : Nat) : (w.drewN n).os = w.os ∧ (w.drewN n).tape = w.tape ∧ (w.drewN n).output = w.output := by induction n generalizing w with
  | zero => exact ⟨rfl, rfl, rfl⟩
  | succ n ih => exact ih w.drew
theorem blk_drewN (w : World) (n k : Nat) : (w.drewN n).heap[k]? = w.heap[k]? := by rw [heap_drewN]
theorem blk_old (w : World) (o : Obj) {k : Nat} (h : k < w.heap.size) : (w.alloc o).heap[k]? = w.heap[k]? := Below.heap_alloc w o k h
theorem blk_new (w : World) (o : Obj) : (w.alloc o).heap[w.heap.size]? = some o := heap_alloc_new w o

theorem new_at (w : World) (o : Obj) {k : Nat} (h : k = w.heap.size) : (w.alloc o).heap[k]? = some o := by rw [h]; exact blk_new w o

/-- All blocks but those of S are as they were; none has gone. -/
structure Fr (S : List Nat) (w w' : World) : Prop where
  os : w'.os = w.os
  tape : w'.tape = w.tape
  output : w'.output = w.output
  size : w.heap.size ≤ w'.heap.size
  block : ∀ k, k < w.heap.size → k ∉ S → w'.heap[k]? = w.heap[k]?

theorem Fr.refl (S : List Nat) (w : World) : Fr S w w := ⟨rfl, rfl, rfl, Nat.le_refl _, fun _ _ _ => rfl⟩
theorem Fr.trans {S : List Nat} {a b c : World} (h : Fr S a b) (k : Fr S b c) : Fr S a c :=
  ⟨k.os.trans h.os, k.tape.trans h.tape, k.output.trans h.output, Nat.le_trans h.size k.size, fun i hi hs => (k.block i (Nat.lt_of_lt_of_le hi h.size) hs).trans (h.block i hi hs)⟩
theorem Fr.mono {S S' : List Nat} {a b : World} (h : Fr S a b) (hs : ∀ k ∈ S, k ∈ S') : Fr S' a b :=
  ⟨h.os, h.tape, h.output, h.size, fun k hk hn => h.block k hk (fun e => hn (hs k e))⟩
/-- What lies in blocks that were not there before may be left out of S. -/
theorem Fr.shed {S S' : List Nat} {a b : World} (h : Fr S a b) (hs : ∀ k ∈ S, k < a.heap.size → k ∈ S') : Fr S' a b :=
  ⟨h.os, h.tape, h.output, h.size, fun k hk hn => h.block k hk (fun e => hn (hs k e hk))⟩
theorem Fr.drew {S : List Nat} {a b : World} (h : Fr S a b) : Fr S a b.drew := ⟨h.os, h.tape, h.output, h.size, h.block⟩
theorem Fr.drewN {S : List Nat} {a b : World} (h : Fr S a b) (n : Nat) : Fr S a (b.drewN n) :=
  have e := os_drewN b n
  ⟨e.1.trans h.os, e.2.1.trans h.tape, e.2.2.trans h.output, by rw [heap_drewN]; exact h.size, fun k hk hn => by rw [heap_drewN]; exact h.block k hk hn⟩
theorem Fr.alloc {S : List Nat} {a b : World} (h : Fr S a b) (o : Obj) : Fr S a (b.alloc o) :=
  h.trans ⟨rfl, rfl, rfl, by simp, fun k hk _ => blk_old _ _ hk⟩
theorem Fr.set {S : List Nat} {a b : World} (h : Fr S a b) {p : Nat} (i : Nat) (v : Value) (hp : p ∈ S ∨ a.heap.size ≤ p) : Fr S a (b.setCell ⟨p, i, none⟩ v) :=
  ⟨h.os, h.tape, h.output, by simpa [World.setCell] using h.size, fun k hk hn => by
    rw [blk_setne _ _ _ (by rcases hp with hp | hp <;> intro e <;> subst e; exact hn hp; omega)]; exact h.block k hk hn⟩
theorem Fr.grown {S : List Nat} {a b c : World} {row : Option Nat} (h : Fr S a b) (hg : b.grownBy c row) (hr : ∀ k, row = some k → k ∈ S ∨ a.heap.size ≤ k) : Fr S a c :=
  ⟨hg.os.trans h.os, hg.tape.trans h.tape, hg.output.trans h.output, Nat.le_trans h.size hg.size, fun k hk hn => by
    rw [hg.block k (Nat.lt_of_lt_of_le hk h.size) (fun e => by rcases hr k e.symm with x | x; exact hn x; omega)]; exact h.block k hk hn⟩
theorem Fr.at {S : List Nat} {a b : World} (h : Fr S a b) {k : Nat} {o : Obj} (hk : a.heap[k]? = some o) (hn : k ∉ S) : b.heap[k]? = some o := by
  rw [h.block k (blk_lt hk) hn]; exact hk
theorem Fr.below {S : List Nat} {a b : World} {B : Nat} (h : Fr S a b) (hB : B ≤ a.heap.size) (hs : ∀ k ∈ S, B ≤ k) : Below B a b :=
  ⟨h.os, h.tape, h.output, h.size, fun k hk => h.block k (by omega) (fun e => by have := hs k e; omega)⟩
end Go.Proofs.YtdcocgjlfhicaaaDoor
