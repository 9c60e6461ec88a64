/-
  The trie of four words, without the program.
-/
import Derived.Test.YtmpfnglcmaollaaDoorJ36
import Derived.Test.YtmpfnglcmaollaaDoorTrAG
import Derived.Test.YtmpfnglcmaollaaDoorJ16
namespace Go.Proofs.YtmpfnglcmaollaaDoor
open Go.ChangeShapes Go.WideShapes Go.ChangeAt Go.RowKit

/-- How a node is referred to, by a table of hashes; nothing where the table lacks one. -/
def lookT (tab : List (List Nat × List Nat)) (x : List Nat) : Option (List Nat) := (tab.find? (fun e => decide (e.1 = x))).map Prod.snd
def shtO (tab : List (List Nat × List Nat)) (x : List Nat) : Option (List Nat) := if x.length < 32 then some x else (lookT tab x).map strL
def allO (f : Nat → Option (List Nat)) : List Nat → Option (List Nat)
  | [] => some []
  | i :: l => match f i, allO f l with
    | some a, some b => some (a ++ b)
    | _, _ => none
def refO (tab : List (List Nat × List Nat)) : Nd → Option (List Nat)
  | .nil => some (strL [])
  | .far h => some (strL h)
  | .leaf p v => shtO tab (lstF (strL (packF p true) ++ strL v))
  | .stem p t => match refO tab t with
    | some r => shtO tab (lstF (strL (packF p false) ++ r))
    | none => none
  | .fork c v => match allO (fun i => refO tab (c i)) (List.range 16) with
    | some r => shtO tab (lstF (r ++ strL v))
    | none => none
def TabOk (tab : List (List Nat × List Nat)) : Prop := ∀ e ∈ tab, hshF e.1 = e.2
theorem shtO_ok {tab : List (List Nat × List Nat)} (ht : TabOk tab) {x r : List Nat} (h : shtO tab x = some r) : shtF x = r := by
  unfold shtO at h
  unfold shtF
  split at h
  · rename_i hl
    rw [if_pos hl]
    exact Option.some.inj h
  · rename_i hl
    rw [if_neg hl]
    unfold lookT at h
    cases hf : tab.find? (fun e => decide (e.1 = x)) with
    | none => rw [hf] at h; cases h
    | some e =>
      rw [hf] at h
      have h1 := List.find?_some hf
      simp only [decide_eq_true_eq] at h1
      have h2 := ht e (List.mem_of_find?_eq_some hf)
      rw [h1] at h2
      rw [h2]
      exact Option.some.inj h
theorem allO_ok {f : Nat → Option (List Nat)} {g : Nat → List Nat} (hg : ∀ i r, f i = some r → g i = r) : ∀ {l r : List Nat}, allO f l = some r → l.flatMap g = r
  | [], r, h => by cases h; rfl
  | i :: l, r, h => by
    unfold allO at h
    cases h1 : f i with
    | none => rw [h1] at h; cases h
    | some a =>
      cases h2 : allO f l with
      | none => rw [h1, h2] at h; cases h
      | some b =>
        rw [h1, h2] at h
        cases h
        rw [List.flatMap_cons, hg i a h1, allO_ok hg h2]
theorem refO_ok {tab : List (List Nat × List Nat)} (ht : TabOk tab) : ∀ {n : Nd} {r : List Nat}, refO tab n = some r → refE n = r
  | .nil, _, h => Option.some.inj h
  | .far _, _, h => Option.some.inj h
  | .leaf _ _, _, h => shtO_ok ht h
  | .stem p t, r, h => by
    unfold refO at h
    cases h1 : refO tab t with
    | none => rw [h1] at h; cases h
    | some a =>
      rw [h1] at h
      show shtF (lstF (strL (packF p false) ++ refE t)) = r
      rw [refO_ok ht h1]
      exact shtO_ok ht h
  | .fork c v, r, h => by
    unfold refO at h
    cases h1 : allO (fun i => refO tab (c i)) (List.range 16) with
    | none => rw [h1] at h; cases h
    | some a =>
      rw [h1] at h
      show shtF (lstF ((List.range 16).flatMap (fun i => refE (c i)) ++ strL v)) = r
      rw [allO_ok (g := fun i => refE (c i)) (fun i r hr => refO_ok ht hr) h1]
      exact shtO_ok ht h
def wT1 : Nd := putT .nil (nibF [100, 111]) [118, 101, 114, 98]
def wT2 : Nd := putT wT1 (nibF [100, 111, 103]) [112, 117, 112, 112, 121]
def wT3 : Nd := putT wT2 (nibF [100, 111, 103, 101]) [99, 111, 105, 110]
def wT4 : Nd := putT wT3 (nibF [104, 111, 114, 115, 101]) [115, 116, 97, 108, 108, 105, 111, 110]
def wTab : List (List Nat × List Nat) := [(trCX, trCH), (trBX, trBH), (trAX, trAH), (trRX, trRH)]
theorem wTab_ok : TabOk wTab := fun e he => by
  simp only [wTab, List.mem_cons, List.not_mem_nil, or_false] at he
  rcases he with rfl | rfl | rfl | rfl
  · exact trChash
  · exact trBhash
  · exact trAhash
  · exact trRhash
theorem wT4_ref : refE wT4 = strL (hshF trRX) := by
  rw [trRhash]
  exact refO_ok wTab_ok (by decide +kernel)
theorem wT4_find : findN wT4 (nibF [100, 111, 103]) = [112, 117, 112, 112, 121] := by decide +kernel
def isNil : Nd → Bool
  | .nil => true
  | _ => false
theorem wT4_ne : wT4 ≠ .nil := fun e => by
  have h : isNil wT4 = false := by decide +kernel
  rw [e] at h
  cases h
theorem root_bytes : hashOf trRX 0 = 89 ∧ hashOf trRX 1 = 145 ∧ hashOf trRX 31 = 132 := by
  have h : ∀ i, i < 32 → (hshF trRX)[i]? = some (hashOf trRX i) := fun i hi => by
    unfold hshF
    rw [List.getElem?_map, List.getElem?_range hi]
    rfl
  rw [trRhash] at h
  refine ⟨?_, ?_, ?_⟩
  · have := h 0 (by omega); exact (Option.some.inj this).symm
  · have := h 1 (by omega); exact (Option.some.inj this).symm
  · have := h 31 (by omega); exact (Option.some.inj this).symm
end Go.Proofs.YtmpfnglcmaollaaDoor
namespace Go.Proofs.YtmpfnglcmaollaaDoor
open Go.ChangeShapes Go.WideShapes Go.ChangeAt Go.RowKit

/-- An array of n ints. -/
def ivals (n : Nat) (g : Nat → Nat) : Array Value := Array.ofFn (n := n) fun i => .int .i64 (g i : Int)
theorem ivals_size (n : Nat) (f : Nat → Nat) : (ivals n f).size = n := Array.size_ofFn
theorem ivals_at {n i : Nat} (f : Nat → Nat) (h : i < n) : (ivals n f)[i]? = some (.int .i64 (f i : Int)) := by
  unfold ivals
  rw [Array.getElem?_ofFn]
  simp [h]
theorem ivals_set (n : Nat) (f : Nat → Nat) (k x : Nat) : (ivals n f).setIfInBounds k (.int .i64 (x : Int)) = ivals n (up f k x) := by
  apply Array.ext_getElem?
  intro i
  rw [Array.getElem?_setIfInBounds, ivals_size]
  by_cases hi : i < n
  · rw [ivals_at _ hi, ivals_at _ hi]
    by_cases hk : k = i
    · subst hk; simp [hi, up_same]
    · rw [if_neg hk, up_ne _ _ (fun e => hk e.symm)]
  · have e1 : (ivals n f)[i]? = none := by rw [Array.getElem?_eq_none]; rw [ivals_size]; omega
    have e2 : (ivals n (up f k x))[i]? = none := by rw [Array.getElem?_eq_none]; rw [ivals_size]; omega
    rw [e1, e2]
    split
    · rename_i e; subst e; simp [hi]
    · rfl
theorem ivals_congr {n : Nat} {f g : Nat → Nat} (h : ∀ i, i < n → f i = g i) : ivals n f = ivals n g := by
  apply Array.ext_getElem?
  intro i
  by_cases hi : i < n
  · rw [ivals_at _ hi, ivals_at _ hi, h i hi]
  · rw [Array.getElem?_eq_none (by rw [ivals_size]; omega), Array.getElem?_eq_none (by rw [ivals_size]; omega)]
theorem iblk_up {w : World} {b n : Nat} {g : Nat → Nat} {t : TypeId} (h : w.heap[b]? = some (.cells (ivals n g) t (0, 0))) (k x : Nat) :
    (w.setCell ⟨b, k, none⟩ (.int .i64 (x : Int))).heap[b]? = some (.cells (ivals n (up g k x)) t (0, 0)) := by
  have := blk_set h k (.int .i64 (x : Int))
  rw [ivals_set] at this
  exact this
theorem int_at {w : World} {b n : Nat} {f : Nat → Nat} {t : TypeId} (h : w.heap[b]? = some (.cells (ivals n f) t (0, 0))) {i : Nat} (hi : i < n) : w.cell? ⟨b, i, none⟩ = some (.int .i64 (f i : Int)) := by
  rw [blk_cell h, ivals_at _ hi]

/-- The state, the place of the answer, the turns. -/
structure RQ (w : World) (A : Nat → BitVec 64) (T : Nat → Nat) (wr : World) : Prop where
  a : wr.heap[w.heap.size]? = some (.cells (vals 25 A) 96 (0, 0))
  z : wr.heap[w.heap.size + 1]? = some (.cells (vals 25 (fun _ => 0)) 96 (0, 0))
  t : wr.heap[w.heap.size + 2]? = some (.cells (ivals 25 T) 134 (0, 0))
  f : Fr [] w wr
theorem RQ.lt {w wr : World} {A : Nat → BitVec 64} {T : Nat → Nat} (h : RQ w A T wr) : w.heap.size + 2 < wr.heap.size := blk_lt h.t
theorem RQ.drew {w wr : World} {A : Nat → BitVec 64} {T : Nat → Nat} (h : RQ w A T wr) : RQ w A T wr.drew := ⟨h.a, h.z, h.t, h.f.drew⟩
theorem RQ.drewN {w wr : World} {A : Nat → BitVec 64} {T : Nat → Nat} (h : RQ w A T wr) (n : Nat) : RQ w A T (wr.drewN n) :=
  ⟨by rw [blk_drewN]; exact h.a, by rw [blk_drewN]; exact h.z, by rw [blk_drewN]; exact h.t, h.f.drewN n⟩
theorem RQ.alloc {w wr : World} {A : Nat → BitVec 64} {T : Nat → Nat} (h : RQ w A T wr) (o : Obj) : RQ w A T (wr.alloc o) :=
  have := h.lt
  ⟨by rw [blk_old _ _ (by omega)]; exact h.a, by rw [blk_old _ _ (by omega)]; exact h.z, by rw [blk_old _ _ (by omega)]; exact h.t, h.f.alloc o⟩
theorem RQ.setA {w wr : World} {A : Nat → BitVec 64} {T : Nat → Nat} (h : RQ w A T wr) (k : Nat) (x : BitVec 64) : RQ w (up A k x) T (wr.setCell ⟨w.heap.size, k, none⟩ (.int .u64 (x.toNat : Int))) :=
  ⟨blk_up h.a k x, (blk_setne _ _ _ (by omega)).trans h.z, (blk_setne _ _ _ (by omega)).trans h.t, h.f.set _ _ (.inr (Nat.le_refl _))⟩
theorem RQ.setT {w wr : World} {A : Nat → BitVec 64} {T : Nat → Nat} (h : RQ w A T wr) (k x : Nat) : RQ w A (up T k x) (wr.setCell ⟨w.heap.size + 2, k, none⟩ (.int .i64 (x : Int))) :=
  ⟨(blk_setne _ _ _ (by omega)).trans h.a, (blk_setne _ _ _ (by omega)).trans h.z, iblk_up h.t k x, h.f.set _ _ (.inr (by omega))⟩
theorem RQ.other {w wr : World} {A : Nat → BitVec 64} {T : Nat → Nat} (h : RQ w A T wr) {b : Nat} (hb : w.heap.size + 2 < b) (k : Nat) (v : Value) : RQ w A T (wr.setCell ⟨b, k, none⟩ v) :=
  ⟨(blk_setne _ _ _ (by omega)).trans h.a, (blk_setne _ _ _ (by omega)).trans h.z, (blk_setne _ _ _ (by omega)).trans h.t, h.f.set _ _ (.inr (by omega))⟩
theorem RQ.asA {w wr : World} {A A' : Nat → BitVec 64} {T : Nat → Nat} (h : RQ w A T wr) (e : ∀ i, i < 25 → A i = A' i) : RQ w A' T wr := ⟨blk_as h.a e, h.z, h.t, h.f⟩
theorem RQ.asT {w wr : World} {A : Nat → BitVec 64} {T T' : Nat → Nat} (h : RQ w A T wr) (e : ∀ i, i < 25 → T i = T' i) : RQ w A T' wr := ⟨h.a, h.z, by rw [← ivals_congr e]; exact h.t, h.f⟩

/-- Besides: the columns, in the block that was made last. -/
structure RC (w : World) (C : Nat) (A : Nat → BitVec 64) (T : Nat → Nat) (c : Nat → BitVec 64) (wr : World) : Prop where
  q : RQ w A T wr
  lt : w.heap.size + 2 < C
  c : wr.heap[C]? = some (.cells (vals 5 c) 135 (0, 0))
  size : wr.heap.size = C + 1
theorem RC.drew {w wr : World} {C : Nat} {A c : Nat → BitVec 64} {T : Nat → Nat} (h : RC w C A T c wr) : RC w C A T c wr.drew := ⟨h.q.drew, h.lt, h.c, h.size⟩
theorem RC.setC {w wr : World} {C : Nat} {A c : Nat → BitVec 64} {T : Nat → Nat} (h : RC w C A T c wr) (k : Nat) (x : BitVec 64) : RC w C A T (up c k x) (wr.setCell ⟨C, k, none⟩ (.int .u64 (x.toNat : Int))) :=
  ⟨h.q.other h.lt _ _, h.lt, blk_up h.c k x, by simpa [World.setCell] using h.size⟩
theorem RC.asC {w wr : World} {C : Nat} {A c c' : Nat → BitVec 64} {T : Nat → Nat} (h : RC w C A T c wr) (e : ∀ i, i < 5 → c i = c' i) : RC w C A T c' wr := ⟨h.q, h.lt, blk_as h.c e, h.size⟩
/-- Besides: the moved lanes. -/
structure RD (w : World) (C : Nat) (A : Nat → BitVec 64) (T : Nat → Nat) (c b : Nat → BitVec 64) (wr : World) : Prop where
  q : RQ w A T wr
  lt : w.heap.size + 2 < C
  c : wr.heap[C]? = some (.cells (vals 5 c) 135 (0, 0))
  b : wr.heap[C + 1]? = some (.cells (vals 25 b) 96 (0, 0))
theorem RD.drew {w wr : World} {C : Nat} {A c b : Nat → BitVec 64} {T : Nat → Nat} (h : RD w C A T c b wr) : RD w C A T c b wr.drew := ⟨h.q.drew, h.lt, h.c, h.b⟩
theorem RD.drewN {w wr : World} {C : Nat} {A c b : Nat → BitVec 64} {T : Nat → Nat} (h : RD w C A T c b wr) (n : Nat) : RD w C A T c b (wr.drewN n) := ⟨h.q.drewN n, h.lt, by rw [blk_drewN]; exact h.c, by rw [blk_drewN]; exact h.b⟩
theorem RD.setB {w wr : World} {C : Nat} {A c b : Nat → BitVec 64} {T : Nat → Nat} (h : RD w C A T c b wr) (k : Nat) (x : BitVec 64) : RD w C A T c (up b k x) (wr.setCell ⟨C + 1, k, none⟩ (.int .u64 (x.toNat : Int))) :=
  ⟨h.q.other (by have := h.lt; omega) _ _, h.lt, (blk_setne _ _ _ (by omega)).trans h.c, blk_up h.b k x⟩
theorem RD.setA {w wr : World} {C : Nat} {A c b : Nat → BitVec 64} {T : Nat → Nat} (h : RD w C A T c b wr) (k : Nat) (x : BitVec 64) : RD w C (up A k x) T c b (wr.setCell ⟨w.heap.size, k, none⟩ (.int .u64 (x.toNat : Int))) :=
  have := h.lt
  ⟨h.q.setA k x, h.lt, (blk_setne _ _ _ (by omega)).trans h.c, (blk_setne _ _ _ (by omega)).trans h.b⟩
theorem RD.asB {w wr : World} {C : Nat} {A c b b' : Nat → BitVec 64} {T : Nat → Nat} (h : RD w C A T c b wr) (e : ∀ i, i < 25 → b i = b' i) : RD w C A T c b' wr := ⟨h.q, h.lt, h.c, blk_as h.b e⟩
theorem RD.asA {w wr : World} {C : Nat} {A A' c b : Nat → BitVec 64} {T : Nat → Nat} (h : RD w C A T c b wr) (e : ∀ i, i < 25 → A i = A' i) : RD w C A' T c b wr := ⟨h.q.asA e, h.lt, h.c, h.b⟩
def colUp (f : Nat → BitVec 64) (k : Nat) : Nat → BitVec 64 := fun x => if x < k then col f x else 0
theorem colUp_step (f : Nat → BitVec 64) (k : Nat) : ∀ i, i < 5 → up (colUp f k) k (f k ^^^ f (k + 5) ^^^ f (k + 10) ^^^ f (k + 15) ^^^ f (k + 20)) i = colUp f (k + 1) i := by
  intro i _
  unfold up colUp
  by_cases g : i = k
  · rw [if_pos g, if_pos (by omega), g]; rfl
  · rw [if_neg g]
    by_cases g1 : i < k
    · rw [if_pos g1, if_pos (by omega)]
    · rw [if_neg g1, if_neg (by omega)]

/-! The ints' array is made, and laid down as nothing. -/
theorem build25i (w : World) : (Instr.build 134 #[]).run Tryd.prog w = .ok (.agg (ivals 25 (fun _ => 0))) w := by kernel_rfl
theorem alloc25i (w : World) : (Instr.alloc 134 true (.tuple #[])).run Tryd.prog w = .ok (.pointer (some ⟨w.heap.size, 0, none⟩)) (w.alloc (.cells (ivals 25 (fun _ => 0)) 134)) := by kernel_rfl
theorem ivals_one (n : Nat) (f : Nat → Nat) : (ivals n f).all (·.oneCell') = true := by
  rw [Array.all_eq_true]
  intro i hi
  simp only [ivals, Array.getElem_ofFn]
  rfl
theorem info25i : (Tryd.prog.info? 134).map (·.size) = some 25 := by kernel_rfl
theorem stVari {w : World} {b : Nat} {f g : Nat → Nat} (h : w.heap[b]? = some (.cells (ivals 25 f) 134 (0, 0))) : (storeVar 134 ⟨b, 0, none⟩ (.agg (ivals 25 g))).run Tryd.prog w = .ok () (w.setRow b (ivals 25 g)) :=
  run_storeVar_row w b _ _ _ _ h (by rw [ivals_size]; exact info25i) (by rw [ivals_size, ivals_size]) (ivals_one _ _)
theorem wpList_made {ops : Array Oper} {rest : List Oper} {o1 o2 o3 : Oper} {a : Act} {w : World} {Q : Exit → Act → World → Prop} {t1 t2 : Tmp} (g1 : o1.guard = none) (g2 : o2.guard = none) (g3 : o3.guard = none) (h1 : o1.op = .build 134 #[]) (h2 : o2.op = .alloc 134) (h3 : o3.op = .store 134 (.tmp t2) (.tmp t1))
    (d1 : o1.dst = some t1) (d2 : o2.dst = some t2) (d3 : o3.dst = none) (hx : ((a.put (some t1) (.agg (ivals 25 (fun _ => 0)))).put (some t2) (.pointer (some ⟨w.heap.size, 0, none⟩))).eval (.tmp t2) = .pointer (some ⟨w.heap.size, 0, none⟩))
    (hy : ((a.put (some t1) (.agg (ivals 25 (fun _ => 0)))).put (some t2) (.pointer (some ⟨w.heap.size, 0, none⟩))).eval (.tmp t1) = .agg (ivals 25 (fun _ => 0)))
    (h : wpList Tryd.prog ops Q rest (((a.put (some t1) (.agg (ivals 25 (fun _ => 0)))).put (some t2) (.pointer (some ⟨w.heap.size, 0, none⟩))).put none undef) (w.alloc (.cells (ivals 25 (fun _ => 0)) 134))) : wpList Tryd.prog ops Q (o1 :: o2 :: o3 :: rest) a w := by
  refine wpList_plain g1 fun K hK => ?_
  unfold Oper.wp execOp
  simp only [h1, Array.map_empty, Sem.run_bind, build25i, Result.andThen_ok, Sem.run_pure]
  rw [Oper.upon_value, d1]
  refine hK _ _ ?_
  refine wpList_plain g2 fun K hK => ?_
  unfold Oper.wp execOp
  simp only [h2, Sem.run_bind, alloc25i, Result.andThen_ok, Sem.run_pure]
  rw [Oper.upon_value, d2]
  refine hK _ _ ?_
  refine wpList_plain g3 fun K hK => ?_
  unfold Oper.wp execOp
  have hs := stVari (g := fun _ => 0) (heap_alloc_last w (.cells (ivals 25 (fun _ => 0)) 134))
  rw [World.setRow_alloc_new] at hs
  simp only [h3, hx, hy, Instr.storeAt, Instr.sureAddr, Sem.run_bind, Sem.run_pure, Result.andThen_ok, hs]
  rw [Oper.upon_skip, d3]
  exact hK _ _ h

def tnF : Nat → Nat := fun i => tnL.getD i 0
theorem bsA_step (f : Nat → BitVec 64) {x y : Nat} (hy : y < 5) : bsA f (5 * x + (y + 1)) = up (bsA f (5 * x + y)) (y + 5 * ((2 * x + 3 * y) % 5)) (rl (f (x + 5 * y) ^^^ col f ((x + 4) % 5) ^^^ rl (col f ((x + 1) % 5)) 1) (tnF (x + 5 * y))) := by
  have h1 : (5 * x + y) / 5 = x := by omega
  have h2 : (5 * x + y) % 5 = y := by omega
  have h : bsA f (5 * x + y + 1) = up (bsA f (5 * x + y)) ((5 * x + y) % 5 + 5 * ((2 * ((5 * x + y) / 5) + 3 * ((5 * x + y) % 5)) % 5)) ((f ((5 * x + y) / 5 + 5 * ((5 * x + y) % 5)) ^^^ col f (((5 * x + y) / 5 + 4) % 5) ^^^ (col f (((5 * x + y) / 5 + 1) % 5)).rotateLeft 1).rotateLeft (tnL.getD ((5 * x + y) / 5 + 5 * ((5 * x + y) % 5)) 0)) := rfl
  rw [h1, h2] at h
  exact h
theorem csA_step (b a : Nat → BitVec 64) {x y : Nat} (hy : y < 5) : csA b a (5 * x + (y + 1)) = up (csA b a (5 * x + y)) (x + 5 * y) (b (x + 5 * y) ^^^ (~~~ b ((x + 1) % 5 + 5 * y) &&& b ((x + 2) % 5 + 5 * y))) := by
  have h1 : (5 * x + y) / 5 = x := by omega
  have h2 : (5 * x + y) % 5 = y := by omega
  have h : csA b a (5 * x + y + 1) = up (csA b a (5 * x + y)) ((5 * x + y) / 5 + 5 * ((5 * x + y) % 5)) (b ((5 * x + y) / 5 + 5 * ((5 * x + y) % 5)) ^^^ (~~~ b (((5 * x + y) / 5 + 1) % 5 + 5 * ((5 * x + y) % 5)) &&& b (((5 * x + y) / 5 + 2) % 5 + 5 * ((5 * x + y) % 5)))) := rfl
  rw [h1, h2] at h
  exact h
/-- A round's last lanes, j bits of its constant in them. -/
def rcUp (G : Nat → BitVec 64) (r j : Nat) : Nat → BitVec 64 := up G 0 (G 0 ^^^ rcA r j)
theorem rcUp_odd (G : Nat → BitVec 64) {r j : Nat} (h : reg (7 * r + j) % 2 = 1) (i : Nat) : up (rcUp G r j) 0 (rcUp G r j 0 ^^^ (1 : BitVec 64) <<< (2 ^ j - 1)) i = rcUp G r (j + 1) i := by
  unfold rcUp
  rw [up_same, BitVec.xor_assoc]
  have : rcA r (j + 1) = rcA r j ^^^ (1 : BitVec 64) <<< (2 ^ j - 1) := by show (if _ then _ else _) = _; rw [if_pos h]
  rw [this]
  unfold up
  split <;> rfl
theorem rcUp_even (G : Nat → BitVec 64) {r j : Nat} (h : reg (7 * r + j) % 2 = 0) : rcUp G r (j + 1) = rcUp G r j := by
  unfold rcUp
  have : rcA r (j + 1) = rcA r j := by show (if _ then _ else _) = _; rw [if_neg (by omega)]
  rw [this]
theorem i64_xor113 {g : Nat} (h : g < 256) (hg : 128 ≤ g) : bits .xor .i64 (2 * (g : Int) - 256) 113 = (((2 * g - 256) ^^^ 113 : Nat) : Int) := by
  have : ∀ k : Fin 128, bits .xor .i64 (2 * (k.1 : Int)) 113 = (((2 * k.1) ^^^ 113 : Nat) : Int) := by decide +kernel
  have e := this ⟨g - 128, by omega⟩
  simp only at e
  rw [show 2 * (g : Int) - 256 = 2 * ((g - 128 : Nat) : Int) from by omega, e, show 2 * (g - 128) = 2 * g - 256 from by omega]
theorem tn_lt (i : Nat) : tnF i < 64 := by
  unfold tnF
  by_cases h : i < 25
  · have : ∀ i : Fin 25, tnL.getD i 0 < 64 := by decide +kernel
    exact this ⟨i, h⟩
  · rw [List.getD_eq_getElem?_getD, List.getElem?_eq_none (by simp [tnL]; omega)]; decide
theorem odd_step {w wr : World} {C r j : Nat} {G c b : Nat → BitVec 64} {T : Nat → Nat} {num : Int} (h : RD w C (rcUp G r j) T c b wr) (ho : ∀ i, up (rcUp G r j) 0 (rcUp G r j 0 ^^^ (1 : BitVec 64) <<< (2 ^ j - 1)) i = rcUp G r (j + 1) i)
    (hn : num = (((1 : BitVec 64) <<< (2 ^ j - 1)).toNat : Int)) : RD w C (rcUp G r (j + 1)) T c b (wr.setCell ⟨w.heap.size, 0, none⟩ (.int .u64 (bits .xor .u64 ((rcUp G r j 0).toNat : Int) num))).drew := by
  rw [hn, bits_xor]
  exact ((h.setA 0 _).asA fun i _ => ho i).drew
end Go.Proofs.YtmpfnglcmaollaaDoor
