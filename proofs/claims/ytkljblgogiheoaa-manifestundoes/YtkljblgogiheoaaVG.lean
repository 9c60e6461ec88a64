/-
  Tables sorted.
-/
import Derived.Test.YtkljblgogiheoaaVF
import Derived.Test.YtkljblgogiheoaaJ21
namespace Go.Proofs.Ytkljblgogiheoaa
open Go.ChangeShapes Go.WideShapes Go.ChangeAt Go.RowKit Go.Shelf Go.Sort

/-- A table with the places of its keys. -/
structure Fx where
  f : Fl
  la : Option Addr
  lc : Nat
  ma : Option Addr
  mc : Nat
def encX (x : Fx) : List Value := [.int .i64 x.f.num, .int .i64 x.f.size, .slice x.la x.f.least.length x.lc, .slice x.ma x.f.most.length x.mc]
def RX (wb : World) (x : Fx) : Prop := FRd wb x.f x.la x.lc x.ma x.mc ∧ okF x.f = true
theorem RX.fr {w w' : World} {x : Fx} (h : RX w x) (f : Fr [] w w') : RX w' x := ⟨h.1.fr f, h.2⟩
theorem encX_one (x : Fx) : ∀ v ∈ encX x, v.oneCell' = true := by
  intro v hv
  simp [encX] at hv
  rcases hv with rfl | rfl | rfl | rfl <;> rfl
theorem flat4_len : ∀ (xs : List Fx), (xs.flatMap encX).length = xs.length * 4
  | [] => rfl
  | x :: r => by rw [List.flatMap_cons, List.length_append, flat4_len r]; simp [encX]; omega
theorem flat4_at : ∀ (xs : List Fx) (t : Nat) (x : Fx), xs[t / 4]? = some x → (xs.flatMap encX)[t]? = (encX x)[t % 4]?
  | [], t, x, h => by simp at h
  | y :: r, t, x, h => by
    rw [List.flatMap_cons]
    have hl : (encX y).length = 4 := rfl
    rcases Nat.lt_or_ge t 4 with h4 | h4
    · have h0 : t / 4 = 0 := by omega
      rw [h0] at h
      simp at h
      subst h
      rw [List.getElem?_append_left (by rw [hl]; exact h4), Nat.mod_eq_of_lt h4]
    · rw [List.getElem?_append_right (by rw [hl]; exact h4), hl, flat4_at r (t - 4) x (by
        have : t / 4 = (t - 4) / 4 + 1 := by omega
        rw [this] at h
        simpa using h), show (t - 4) % 4 = t % 4 from by omega]
theorem cmpI_neg (x y : Int) : cmpI y x = -cmpI x y := by unfold cmpI; split <;> split <;> first | omega | (split <;> omega)
theorem cmpI_lt (x y : Int) : cmpI x y < 0 ↔ x < y := by unfold cmpI; split <;> first | (constructor <;> omega) | (split <;> constructor <;> omega)
theorem cmpF_irr (i : Nat) (a : Fl) : ¬ cmpF i a a < 0 := by
  unfold cmpF
  split
  · simp [cmpI]
  · have := ordK_neg a.least a.least
    omega
theorem cmpF_neg (i : Nat) (a b : Fl) : cmpF i b a = -cmpF i a b := by
  unfold cmpF
  split
  · exact cmpI_neg _ _
  · exact ordK_neg _ _
theorem cmpF_le (i : Nat) {a b c : Fl} (h1 : cmpF i a b ≤ 0) (h2 : cmpF i b c ≤ 0) : cmpF i a c ≤ 0 := by
  unfold cmpF at *
  by_cases h : i = 0
  · rw [if_pos h] at h1 h2 ⊢
    unfold cmpI at *
    split at h1 <;> split at h2 <;> split <;> first | omega | (split <;> omega) | skip
    all_goals (try (split at h1)) <;> (try (split at h2)) <;> (try split) <;> omega
  · rw [if_neg h] at h1 h2 ⊢
    exact ordK_trans _ _ _ h1 h2
theorem cmpF_lt (i : Nat) {a b c : Fl} (h1 : cmpF i a b < 0) (h2 : cmpF i b c < 0) : cmpF i a c < 0 := by
  have h3 := cmpF_le i (a := a) (b := b) (c := c) (by omega) (by omega)
  rcases Int.lt_or_eq_of_le h3 with h | h
  · exact h
  · exfalso
    have e1 := cmpF_neg i a c
    have e2 := cmpF_neg i a b
    have h4 := cmpF_le i (a := b) (b := c) (c := a) (by omega) (by omega)
    omega
theorem cmpF_nlt (i : Nat) {a b c : Fl} (h1 : ¬ cmpF i a b < 0) (h2 : ¬ cmpF i b c < 0) : ¬ cmpF i a c < 0 := by
  have e1 := cmpF_neg i a c
  have e2 := cmpF_neg i a b
  have e3 := cmpF_neg i b c
  have h4 := cmpF_le i (a := c) (b := b) (c := a) (by omega) (by omega)
  omega
theorem cmpF_swo {α : Type} (i : Nat) (p : α → Fl) : SWO (ltOf fun x y : α => cmpF i (p x) (p y)) where
  irrefl x := decide_eq_false (cmpF_irr i (p x))
  trans _ _ _ h1 h2 := decide_eq_true (cmpF_lt i (of_decide_eq_true h1) (of_decide_eq_true h2))
  ntrans _ _ _ h1 h2 := decide_eq_false (cmpF_nlt i (of_decide_eq_false h1) (of_decide_eq_false h2))
/-- The comparison that a level has. -/
def cmpG (i : Nat) : Nat := if i = 0 then 68 else 70
theorem cmpG_c (i : Nat) (W : World) {x y : Fx} (hx : RX W x) (hy : RX W y) : Calls Try.prog (cmpG i) #[.agg (encX x).toArray, .agg (encX y).toArray] W fun r W' => r = .returned (.int .i64 (cmpF i x.f y.f)) ∧ Fr [] W W' ∧ W'.drawn = W.drawn := by
  unfold cmpG cmpF
  by_cases h : i = 0
  · rw [if_pos h, if_pos h]
    exact ord0_c W _ _ _ _ _ _ _ _
  · rw [if_neg h, if_neg h]
    exact ord1_c W hx.1 hy.1 (okF_keys hx.2).1 (okF_keys hy.2).1
theorem cmpG_enters (i : Nat) : ∀ args w, (callFunc (cmpG i) args).run Try.prog w = .ok (.enter (cmpG i) args) w := by
  unfold cmpG
  by_cases h : i = 0
  · rw [if_pos h]; exact enters_of Try.func68 (by kernel_rfl) rfl
  · rw [if_neg h]; exact enters_of Try.func70 (by kernel_rfl) rfl
/-- The worlds that a sort passes through. -/
theorem sortW_fr {α : Type} [Inhabited α] {enc : α → List Value} {wb W : World} (f : Fr [] wb W) {g : Nat} (hg : wb.heap.size ≤ g) (m : Nat) (dk : Array α) (os : Array Obj) : Fr [] wb (sortWorldK enc 4 W g 0 m dk os) := by
  unfold sortWorldK putRowK putRow mapBlock Sort.grow Sort.ahead
  refine ⟨f.os, f.tape, f.output, ?_, fun k hk hn => ?_⟩
  · simp; have := f.size; omega
  · have hs := f.size
    rw [Array.getElem?_append_left (by simp; omega), Array.getElem?_modify, if_neg (by omega)]
    exact f.block k hk hn
theorem sortW_other {α : Type} [Inhabited α] {enc : α → List Value} {W : World} {g m k : Nat} {dk : Array α} {os : Array Obj} (hk : k < W.heap.size) (hne : k ≠ g) : (sortWorldK enc 4 W g 0 m dk os).heap[k]? = W.heap[k]? := by
  unfold sortWorldK putRowK putRow mapBlock Sort.grow Sort.ahead
  show ((W.heap.modify g _) ++ os)[k]? = W.heap[k]?
  rw [Array.getElem?_append_left (by simpa using hk), Array.getElem?_modify, if_neg (by omega)]
theorem sortW_row {α : Type} [Inhabited α] {enc : α → List Value} {W : World} {g m : Nat} {dk : Array α} {os : Array Obj} {cur : Array Value} {e : TypeId} (hb : W.heap[g]? = some (.cells cur e (0, 0))) : (sortWorldK enc 4 W g 0 m dk os).heap[g]? = some (.cells (putCells id 0 (flatK enc 4 dk) cur) e (0, 0)) := by
  have hlt := blk_lt hb
  unfold sortWorldK putRowK putRow mapBlock Sort.grow Sort.ahead
  show ((W.heap.modify g _) ++ os)[g]? = _
  rw [Array.getElem?_append_left (by simpa using hlt), Array.getElem?_modify, if_pos rfl, hb]
  rfl
/-- A level's tables, sorted. -/
def SortX (i : Nat) (ys : List Fx) : Prop := ys.Pairwise (fun x y => ¬ cmpF i y.f x.f < 0)
theorem sort_c (wb W : World) (i : Nat) {xs : List Fx} {ad : Option Addr} {n c : Nat} (hn : n = xs.length) (own : W.ownsRow wb.heap.size 55 4 (.slice ad n c) xs.length (xs.flatMap encX)) (fr : Fr [] wb W) (hx : ∀ x ∈ xs, RX wb x) (hl : n ≤ 1000000) :
    Calls Try.prog 49 #[.slice ad n c, .func (.func (cmpG i)) #[] #[]] W fun r W' => r = .returned (.tuple #[]) ∧ ∃ ys : List Fx, ys.Perm xs ∧ SortX i ys ∧ W'.ownsRow wb.heap.size 55 4 (.slice ad n c) ys.length (ys.flatMap encX) ∧ W.grownBy W' (Value.slice ad n c).ownBlock ∧ Fr [] wb W' := by
  rcases Nat.eq_zero_or_pos n with h0 | h0
  · subst h0
    have hx0 : xs = [] := List.eq_nil_of_length_eq_zero hn.symm
    subst hx0
    refine (AnyF.slices_SortFunc_none Try.sortF ad c _ W).mono ?_
    rintro e W' ⟨rfl, rfl⟩
    exact ⟨rfl, [], List.Perm.refl _, List.Pairwise.nil, own, ⟨rfl, rfl, rfl, Nat.le_refl _, fun _ _ _ => rfl⟩, fr⟩
  · obtain ⟨x0, r0, hxs⟩ : ∃ x0 r0, xs = x0 :: r0 := by
      cases xs with
      | nil => simp at hn; omega
      | cons a l => exact ⟨a, l, rfl⟩
    haveI : Inhabited {x : Fx // RX wb x} := ⟨⟨x0, hx x0 (by rw [hxs]; simp)⟩⟩
    obtain ⟨d, hd⟩ : ∃ d : Array {x : Fx // RX wb x}, d.toList.map (·.1) = xs := ⟨(xs.pmap (fun x h => ⟨x, h⟩) hx).toArray, by simp [List.map_pmap]⟩
    have hds : d.size = n := by rw [hn, ← hd]; simp
    rcases own.2 with ⟨h1, h2⟩ | ⟨g, cap, cur, h1, h2, h3, h4, h5, h6, h7⟩
    · simp at h1; omega
    · simp only [Value.slice.injEq] at h1
      obtain ⟨rfl, _, rfl⟩ := h1
      have hat : ∀ t, t < d.size * 4 → (xs.flatMap encX)[t]? = some (flatK (fun x : {x : Fx // RX wb x} => encX x.1) 4 d)[t]! := by
        intro t ht
        have hlt : t / 4 < d.size := by omega
        have e1 : xs[t / 4]? = some (d[t / 4]!).1 := by
          rw [← hd, List.getElem?_map, Array.getElem?_toList, Array.getElem?_eq_getElem hlt, getElem!_pos d _ hlt]; rfl
        rw [flat4_at xs t _ e1, get_flatK _ _ _ _ ht]
        have h4' : t % 4 < (encX (d[t / 4]!).1).length := by have : (encX (d[t / 4]!).1).length = 4 := rfl; omega
        rw [List.getElem?_eq_getElem h4', getElem!_pos (encX (d[t / 4]!).1) (t % 4) h4']
      have hH : HoldsK (fun x : {x : Fx // RX wb x} => encX x.1) 4 W g 0 d := by
        intro j hj
        rw [size_flatK] at hj
        refine ⟨?_, blk_frozen h3 _⟩
        rw [blk_cell h3, Nat.zero_add, ← Array.getElem?_toList]
        have e2 := hat j hj
        rw [← h7, List.getElem?_take, if_pos (by rw [hn] at hds; omega)] at e2
        exact e2
      have hcmp : CmpLays Try.prog (cmpG i) #[] (fun x : {x : Fx // RX wb x} => encX x.1) 4 (fun x y => cmpF i x.1.f y.1.f) g 0 d.size W := by
        intro m os dk _ x y
        have ff := sortW_fr (enc := fun x : {x : Fx // RX wb x} => encX x.1) fr h2 m dk os
        refine (cmpG_c i _ (x.2.fr ff) (y.2.fr ff)).mono ?_
        rintro e W' ⟨rfl, f1, d1⟩
        exact ⟨rfl, grow_of f1 d1⟩
      have hc := AnyQ.slices_SortFunc Try.sortF 4 (fun w => by kernel_rfl) (fun w => by kernel_rfl) (fun x : {x : Fx // RX wb x} => encX x.1) (fun _ => rfl) (fun x => encX_one x.1) (fun x y => cmpF i x.1.f y.1.f) (cmpF_swo i (fun x : {x : Fx // RX wb x} => x.1.f)) (cmpG i) #[] g 0 c d W (cmpG_enters i) hcmp hH (blk_lt h3) (by omega)
      rw [hds] at hc
      refine hc.mono ?_
      rintro e W' ⟨rfl, d', m, os, hp, hs, rfl⟩
      obtain ⟨p1, p2, p3⟩ := hp
      rw [hds] at p1
      have pe : d'.toList.Perm d.toList := by
        have q1 : (d'.extract 0 n) = d' := by rw [← p1]; simp
        have q2 : (d.extract 0 n) = d := by rw [← hds]; simp
        rw [q1, q2] at p3
        exact p3
      have hyl : (d'.toList.map (·.1)).length = n := by simp [p1]
      refine ⟨rfl, d'.toList.map (·.1), by rw [← hd]; exact pe.map _, ?_, ?_, ?_, sortW_fr fr h2 _ _ _⟩
      · unfold SortX
        rw [List.pairwise_iff_getElem]
        intro a b ha hb hab
        simp only [List.length_map, Array.length_toList] at ha hb
        have := hs a b (Nat.zero_le _) hab (by omega)
        rw [getElem!_pos d' b (by omega), getElem!_pos d' a (by omega)] at this
        simpa using of_decide_eq_false this
      · refine ⟨by rw [flat4_len], .inr ⟨g, c, _, by rw [hyl], h2, sortW_row h3, by rw [hyl]; omega, h5, by simp [putCells]; exact h6, ?_⟩⟩
        rw [hyl]
        apply List.ext_getElem?
        intro t
        rw [List.getElem?_take]
        by_cases ht : t < n * 4
        · rw [if_pos ht]
          have hlt : t / 4 < d'.size := by omega
          have e1 : (d'.toList.map (·.1))[t / 4]? = some (d'[t / 4]!).1 := by
            rw [List.getElem?_map, Array.getElem?_toList, Array.getElem?_eq_getElem hlt, getElem!_pos d' _ hlt]; rfl
          have h4' : t % 4 < (encX (d'[t / 4]!).1).length := by have : (encX (d'[t / 4]!).1).length = 4 := rfl; omega
          rw [flat4_at _ t _ e1, List.getElem?_eq_getElem h4']
          rw [Array.getElem?_toList]
          have hcs : t < cur.size := by rw [h6]; omega
          unfold putCells
          rw [Array.getElem?_mapIdx, Array.getElem?_eq_getElem hcs]
          simp only [Option.map_some]
          rw [if_pos ⟨Nat.zero_le _, by rw [size_flatK, p1]; omega⟩, Nat.sub_zero, get_flatK _ _ _ _ (by rw [p1]; exact ht), getElem!_pos (encX (d'[t / 4]!).1) (t % 4) h4']
          rfl
        · rw [if_neg ht, List.getElem?_eq_none (by rw [flat4_len, hyl]; omega)]
      · refine ⟨rfl, rfl, rfl, ?_, fun k hk hne => sortW_other hk (fun e => hne (by rw [e]; rfl))⟩
        unfold sortWorldK putRowK putRow mapBlock Sort.grow Sort.ahead
        simp
end Go.Proofs.Ytkljblgogiheoaa
