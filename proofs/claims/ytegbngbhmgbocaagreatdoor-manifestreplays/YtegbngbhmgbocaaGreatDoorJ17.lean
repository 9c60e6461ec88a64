/-
  Tables sorted.
-/
import Derived.Test.YtegbngbhmgbocaaGreatDoorJ16
import Derived.Test.YtegbngbhmgbocaaGreatDoorJ08
namespace Go.Proofs.YtegbngbhmgbocaaGreatDoor
open Go.ChangeShapes Go.WideShapes Go.ChangeAt Go.RowKit Go.Shelf Go.Sort

/-- A table with the places of its keys. -/
structure Fx where
  f : Fl
  la : Option Addr
  lc : Nat
  ma : Option Addr
  mc : Nat
def encX (x : Fx) : List Value := [.int .i64 x.f.num, .int .i64 x.f.size, .slice x.la x.f.least.length x.lc, .slice x.ma x.f.most.length x.mc]
def RX (wb : World) (x : Fx) : Prop := FRd wb x.f x.la x.lc x.ma x.mc ∧ okF x.f = true
theorem RX.fr {w w' : World} {x : Fx} (h : RX w x) (f : Fr [] w w') : RX w' x := ⟨h.1.fr f, h.2⟩
theorem encX_one (x : Fx) : ∀ v ∈ encX x, v.oneCell' = true := by
  intro v hv
  simp [encX] at hv
  rcases hv with rfl | rfl | rfl | rfl <;> rfl
theorem flat4_len : ∀ (xs : List Fx), (xs.flatMap encX).length = xs.length * 4
  | [] => rfl
  | x :: r => by rw [List.flatMap_cons, List.length_append, flat4_len r]; simp [encX]; omega
theorem flat4_at : ∀ (xs : List Fx) (t : Nat) (x : Fx), xs[t / 4]? = some x → (xs.flatMap encX)[t]? = (encX x)[t % 4]?
  | [], t, x, h => by simp at h
  | y :: r, t, x, h => by
    rw [List.flatMap_cons]
    have hl : (encX y).length = 4 := rfl
    rcases Nat.lt_or_ge t 4 with h4 | h4
    · have h0 : t / 4 = 0 := by omega
      rw [h0] at h
      simp at h
      subst h
      rw [List.getElem?_append_left (by rw [hl]; exact h4), Nat.mod_eq_of_lt h4]
    · rw [List.getElem?_append_right (by rw [hl]; exact h4), hl, flat4_at r (t - 4) x (by
        have : t / 4 = (t - 4) / 4 + 1 := by omega
        rw [this] at h
        simpa using h), show (t - 4) % 4 = t % 4 from by omega]
theorem cmpI_neg (x y : Int) : cmpI y x = -cmpI x y := by unfold cmpI; split <;> split <;> first | omega | (split <;> omega)
theorem cmpI_lt (x y : Int) : cmpI x y < 0 ↔ x < y := by unfold cmpI; split <;> first | (constructor <;> omega) | (split <;> constructor <;> omega)
theorem cmpF_irr (i : Nat) (a : Fl) : ¬ cmpF i a a < 0 := by
  unfold cmpF
  split
  · simp [cmpI]
  · have := ordK_neg a.least a.least
    omega
theorem cmpF_neg (i : Nat) (a b : Fl) : cmpF i b a = -cmpF i a b := by
  unfold cmpF
  split
  · exact cmpI_neg _ _
  · exact ordK_neg _ _
theorem cmpF_le (i : Nat) {a b c : Fl} (h1 : cmpF i a b ≤ 0) (h2 : cmpF i b c ≤ 0) : cmpF i a c ≤ 0 := by
  unfold cmpF at *
  by_cases h : i = 0
  · rw [if_pos h] at h1 h2 ⊢
    unfold cmpI at *
    split at h1 <;> split at h2 <;> split <;> first | omega | (split <;> omega) | skip
    all_goals (try (split at h1)) <;> (try (split at h2)) <;> (try split) <;> omega
  · rw [if_neg h] at h1 h2 ⊢
    exact ordK_trans _ _ _ h1 h2
theorem cmpF_lt (i : Nat) {a b c : Fl} (h1 : cmpF i a b < 0) (h2 : cmpF i b c < 0) : cmpF i a c < 0 := by
  have h3 := cmpF_le i (a := a) (b := b) (c := c) (by omega) (by omega)
  rcases Int.lt_or_eq_of_le h3 with h | h
  · exact h
  · exfalso
    have e1 := cmpF_neg i a c
    have e2 := cmpF_neg i a b
    have h4 := cmpF_le i (a := b) (b := c) (c := a) (by omega) (by omega)
    omega
theorem cmpF_nlt (i : Nat) {a b c : Fl} (h1 : ¬ cmpF i a b < 0) (h2 : ¬ cmpF i b c < 0) : ¬ cmpF i a c < 0 := by
  have e1 := cmpF_neg i a c
  have e2 := cmpF_neg i a b
  have e3 := cmpF_neg i b c
  have h4 := cmpF_le i (a := c) (b := b) (c := a) (by omega) (by omega)
  omega
theorem cmpF_swo {α : Type} (i : Nat) (p : α → Fl) : SWO (ltOf fun x y : α => cmpF i (p x) (p y)) where
  irrefl x := decide_eq_false (cmpF_irr i (p x))
  trans _ _ _ h1 h2 := decide_eq_true (cmpF_lt i (of_decide_eq_true h1) (of_decide_eq_true h2))
  ntrans _ _ _ h1 h2 := decide_eq_false (cmpF_nlt i (of_decide_eq_false h1) (of_decide_eq_false h2))
/-- The comparison that a level has. -/
def cmpG (i : Nat) : Nat := if i = 0 then 63 else 65
theorem cmpG_c (i : Nat) (W : World) {x y : Fx} (hx : RX W x) (hy : RX W y) : Calls Tryz.prog (cmpG i) #[.agg (encX x).toArray, .agg (encX y).toArray] W fun r W' => r = .returned (.int .i64 (cmpF i x.f y.f)) ∧ Fr [] W W' ∧ W'.drawn = W.drawn := by
  unfold cmpG cmpF
  by_cases h : i = 0
  · rw [if_pos h, if_pos h]
    exact ord0_c W _ _ _ _ _ _ _ _
  · rw [if_neg h, if_neg h]
    exact ord1_c W hx.1 hy.1 (okF_keys hx.2).1 (okF_keys hy.2).1
theorem cmpG_enters (i : Nat) : ∀ args w, (callFunc (cmpG i) args).run Tryz.prog w = .ok (.enter (cmpG i) args) w := by
  unfold cmpG
  by_cases h : i = 0
  · rw [if_pos h]; exact enters_of Tryz.func63 (by kernel_rfl) rfl
  · rw [if_neg h]; exact enters_of Tryz.func65 (by kernel_rfl) rfl
/-- The worlds that a sort passes through. -/
theorem sortW_fr {α : Type} [Inhabited α] {enc : α → List Value} {wb W : World} (f : Fr [] wb W) {g : Nat} (hg : wb.heap.size ≤ g) (m : Nat) (dk : Array α) (os : Array Obj) : Fr [] wb (sortWorldK enc 4 W g 0 m dk os) := by
  unfold sortWorldK putRowK putRow mapBlock Sort.grow Sort.ahead
  refine ⟨f.os, f.tape, f.output, ?_, fun k hk hn => ?_⟩
  · simp; have := f.size; omega
  · have hs := f.size
    rw [Array.getElem?_append_left (by simp; omega), Array.getElem?_modify, if_neg (by omega)]
    exact f.block k hk hn
theorem sortW_other {α : Type} [Inhabited α] {enc : α → List Value} {W : World} {g m k : Nat} {dk : Array α} {os : Array Obj} (hk : k < W.heap.size) (hne : k ≠ g) : (sortWorldK enc 4 W g 0 m dk os).heap[k]? = W.heap[k]? := by
  unfold sortWorldK putRowK putRow mapBlock Sort.grow Sort.ahead
  show ((W.heap.modify g _) ++ os)[k]? = W.heap[k]?
  rw [Array.getElem?_append_left (by simpa using hk), Array.getElem?_modify, if_neg (by omega)]
theorem sortW_row {α : Type} [Inhabited α] {enc : α → List Value} {W : World} {g m : Nat} {dk : Array α} {os : Array Obj} {cur : Array Value} {e : TypeId} (hb : W.heap[g]? = some (.cells cur e (0, 0))) : (sortWorldK enc 4 W g 0 m dk os).heap[g]? = some (.cells (putCells id 0 (flatK enc 4 dk) cur) e (0, 0)) := by
  have hlt := blk_lt hb
  unfold sortWorldK putRowK putRow mapBlock Sort.grow Sort.ahead
  show ((W.heap.modify g _) ++ os)[g]? = _
  rw [Array.getElem?_append_left (by simpa using hlt), Array.getElem?_modify, if_pos rfl, hb]
  rfl
/-- A level's tables, sorted. -/
def SortX (i : Nat) (ys : List Fx) : Prop := ys.Pairwise (fun x y => ¬ cmpF i y.f x.f < 0)
theorem sort_c (wb W : World) (i : Nat) {xs : List Fx} {ad : Option Addr} {n c : Nat} (hn : n = xs.length) (own : W.ownsRow wb.heap.size 62 4 (.slice ad n c) xs.length (xs.flatMap encX)) (fr : Fr [] wb W) (hx : ∀ x ∈ xs, RX wb x) (hl : n ≤ 1000000) :
    Calls Tryz.prog 32 #[.slice ad n c, .func (.func (cmpG i)) #[] #[]] W fun r W' => r = .returned (.tuple #[]) ∧ ∃ ys : List Fx, ys.Perm xs ∧ SortX i ys ∧ W'.ownsRow wb.heap.size 62 4 (.slice ad n c) ys.length (ys.flatMap encX) ∧ W.grownBy W' (Value.slice ad n c).ownBlock ∧ Fr [] wb W' := by
  rcases Nat.eq_zero_or_pos n with h0 | h0
  · subst h0
    have hx0 : xs = [] := List.eq_nil_of_length_eq_zero hn.symm
    subst hx0
    refine (AnyF.slices_SortFunc_none Tryz.sortF ad c _ W).mono ?_
    rintro e W' ⟨rfl, rfl⟩
    exact ⟨rfl, [], List.Perm.refl _, List.Pairwise.nil, own, ⟨rfl, rfl, rfl, Nat.le_refl _, fun _ _ _ => rfl⟩, fr⟩
  · obtain ⟨x0, r0, hxs⟩ : ∃ x0 r0, xs = x0 :: r0 := by
      cases xs with
      | nil => simp at hn; omega
      | cons a l => exact ⟨a, l, rfl⟩
    haveI : Inhabited {x : Fx // RX wb x} := ⟨⟨x0, hx x0 (by rw [hxs]; simp)⟩⟩
    obtain ⟨d, hd⟩ : ∃ d : Array {x : Fx // RX wb x}, d.toList.map (·.1) = xs := ⟨(xs.pmap (fun x h => ⟨x, h⟩) hx).toArray, by simp [List.map_pmap]⟩
    have hds : d.size = n := by rw [hn, ← hd]; simp
    rcases own.2 with ⟨h1, h2⟩ | ⟨g, cap, cur, h1, h2, h3, h4, h5, h6, h7⟩
    · simp at h1; omega
    · simp only [Value.slice.injEq] at h1
      obtain ⟨rfl, _, rfl⟩ := h1
      have hat : ∀ t, t < d.size * 4 → (xs.flatMap encX)[t]? = some (flatK (fun x : {x : Fx // RX wb x} => encX x.1) 4 d)[t]! := by
        intro t ht
        have hlt : t / 4 < d.size := by omega
        have e1 : xs[t / 4]? = some (d[t / 4]!).1 := by
          rw [← hd, List.getElem?_map, Array.getElem?_toList, Array.getElem?_eq_getElem hlt, getElem!_pos d _ hlt]; rfl
        rw [flat4_at xs t _ e1, get_flatK _ _ _ _ ht]
        have h4' : t % 4 < (encX (d[t / 4]!).1).length := by have : (encX (d[t / 4]!).1).length = 4 := rfl; omega
        rw [List.getElem?_eq_getElem h4', getElem!_pos (encX (d[t / 4]!).1) (t % 4) h4']
      have hH : HoldsK (fun x : {x : Fx // RX wb x} => encX x.1) 4 W g 0 d := by
        intro j hj
        rw [size_flatK] at hj
        refine ⟨?_, blk_frozen h3 _⟩
        rw [blk_cell h3, Nat.zero_add, ← Array.getElem?_toList]
        have e2 := hat j hj
        rw [← h7, List.getElem?_take, if_pos (by rw [hn] at hds; omega)] at e2
        exact e2
      have hcmp : CmpLays Tryz.prog (cmpG i) #[] (fun x : {x : Fx // RX wb x} => encX x.1) 4 (fun x y => cmpF i x.1.f y.1.f) g 0 d.size W := by
        intro m os dk _ x y
        have ff := sortW_fr (enc := fun x : {x : Fx // RX wb x} => encX x.1) fr h2 m dk os
        refine (cmpG_c i _ (x.2.fr ff) (y.2.fr ff)).mono ?_
        rintro e W' ⟨rfl, f1, d1⟩
        exact ⟨rfl, grow_of f1 d1⟩
      have hc := AnyQ.slices_SortFunc Tryz.sortF 4 (fun w => by kernel_rfl) (fun w => by kernel_rfl) (fun x : {x : Fx // RX wb x} => encX x.1) (fun _ => rfl) (fun x => encX_one x.1) (fun x y => cmpF i x.1.f y.1.f) (cmpF_swo i (fun x : {x : Fx // RX wb x} => x.1.f)) (cmpG i) #[] g 0 c d W (cmpG_enters i) hcmp hH (blk_lt h3) (by omega)
      rw [hds] at hc
      refine hc.mono ?_
      rintro e W' ⟨rfl, d', m, os, hp, hs, rfl⟩
      obtain ⟨p1, p2, p3⟩ := hp
      rw [hds] at p1
      have pe : d'.toList.Perm d.toList := by
        have q1 : (d'.extract 0 n) = d' := by rw [← p1]; simp
        have q2 : (d.extract 0 n) = d := by rw [← hds]; simp
        rw [q1, q2] at p3
        exact p3
      have hyl : (d'.toList.map (·.1)).length = n := by simp [p1]
      refine ⟨rfl, d'.toList.map (·.1), by rw [← hd]; exact pe.map _, ?_, ?_, ?_, sortW_fr fr h2 _ _ _⟩
      · unfold SortX
        rw [List.pairwise_iff_getElem]
        intro a b ha hb hab
        simp only [List.length_map, Array.length_toList] at ha hb
        have := hs a b (Nat.zero_le _) hab (by omega)
        rw [getElem!_pos d' b (by omega), getElem!_pos d' a (by omega)] at this
        simpa using of_decide_eq_false this
      · refine ⟨by rw [flat4_len], .inr ⟨g, c, _, by rw [hyl], h2, sortW_row h3, by rw [hyl]; omega, h5, by simp [putCells]; exact h6, ?_⟩⟩
        rw [hyl]
        apply List.ext_getElem?
        intro t
        rw [List.getElem?_take]
        by_cases ht : t < n * 4
        · rw [if_pos ht]
          have hlt : t / 4 < d'.size := by omega
          have e1 : (d'.toList.map (·.1))[t / 4]? = some (d'[t / 4]!).1 := by
            rw [List.getElem?_map, Array.getElem?_toList, Array.getElem?_eq_getElem hlt, getElem!_pos d' _ hlt]; rfl
          have h4' : t % 4 < (encX (d'[t / 4]!).1).length := by have : (encX (d'[t / 4]!).1).length = 4 := rfl; omega
          rw [flat4_at _ t _ e1, List.getElem?_eq_getElem h4']
          rw [Array.getElem?_toList]
          have hcs : t < cur.size := by rw [h6]; omega
          unfold putCells
          rw [Array.getElem?_mapIdx, Array.getElem?_eq_getElem hcs]
          simp only [Option.map_some]
          rw [if_pos ⟨Nat.zero_le _, by rw [size_flatK, p1]; omega⟩, Nat.sub_zero, get_flatK _ _ _ _ (by rw [p1]; exact ht), getElem!_pos (encX (d'[t / 4]!).1) (t % 4) h4']
          rfl
        · rw [if_neg ht, List.getElem?_eq_none (by rw [flat4_len, hyl]; omega)]
      · refine ⟨rfl, rfl, rfl, ?_, fun k hk hne => sortW_other hk (fun e => hne (by rw [e]; rfl))⟩
        unfold sortWorldK putRowK putRow mapBlock Sort.grow Sort.ahead
        simp
end Go.Proofs.YtegbngbhmgbocaaGreatDoor
namespace Go.Proofs.YtegbngbhmgbocaaGreatDoor

/-- A number at the beginning of what is left; nothing is left behind a fault. -/
def tkS : Option (List Nat) → Nat × Option (List Nat)
  | none => (0, none)
  | some l => if (takeL l).2.2 = 0 then ((takeL l).1, some (l.drop (takeL l).2.1)) else (0, none)
def nmS (s : Option (List Nat)) : Nat × Option (List Nat) := if 2147483647 < (tkS s).1 then (0, none) else tkS s
def fitS (n : Nat) : Option (List Nat) → Nat × Option (List Nat)
  | none => (0, none)
  | some l => if l.length < n then (0, none) else (n, some l)
def ctS (s : Option (List Nat)) : Nat × Option (List Nat) := fitS (tkS s).1 (tkS s).2
def cutS (n : Nat) : Option (List Nat) → List Nat × Option (List Nat)
  | none => ([], none)
  | some l => (l.take n, some (l.drop n))
def kyS (s : Option (List Nat)) : List Nat × Option (List Nat) := cutS (ctS s).1 (ctS s).2
def gnS (s : Option (List Nat)) : (Int × Int) × Option (List Nat) := ((((nmS s).1 : Int), ((nmS (nmS s).2).1 : Int)), (nmS (nmS s).2).2)
def plS (s : Option (List Nat)) : (Int × Fl) × Option (List Nat) :=
  ((((nmS s).1 : Int), ⟨((nmS (nmS s).2).1 : Int), ((nmS (nmS (nmS s).2).2).1 : Int), (kyS (nmS (nmS (nmS s).2).2).2).1, (kyS (kyS (nmS (nmS (nmS s).2).2).2).2).1⟩), (kyS (kyS (nmS (nmS (nmS s).2).2).2).2).2)
def sevS {α : Type} (f : Option (List Nat) → α × Option (List Nat)) : Nat → Option (List Nat) → List α × Option (List Nat)
  | 0, s => ([], s)
  | _ + 1, none => ([], none)
  | n + 1, some l => ((f (some l)).1 :: (sevS f n (f (some l)).2).1, (sevS f n (f (some l)).2).2)
/-- What is left behind the three numbers ahead; all of it. -/
def hdS (b : List Nat) : Option (List Nat) := (tkS (nmS (nmS (some b)).2).2).2
def edS (b : List Nat) (g : List (Int × Int)) (p : List (Int × Fl)) : Ed := ⟨((nmS (some b)).1 : Int), ((nmS (nmS (some b)).2).1 : Int), (tkS (nmS (nmS (some b)).2).2).1, g, p⟩
def drS (b : List Nat) : List (Int × Int) × Option (List Nat) := sevS gnS (ctS (hdS b)).1 (ctS (hdS b)).2
def adS (b : List Nat) : List (Int × Fl) × Option (List Nat) := sevS plS (ctS (drS b).2).1 (ctS (drS b).2).2
/-- The edit that bytes are, if any. -/
def decO (b : List Nat) : Option Ed := if (adS b).2 = some [] ∧ okE (edS b (drS b).1 (adS b).1) = true then some (edS b (drS b).1 (adS b).1) else none
/-- The same, with counts as they stand. -/
def drR (b : List Nat) : List (Int × Int) × Option (List Nat) := sevS gnS (tkS (hdS b)).1 (tkS (hdS b)).2
def adR (b : List Nat) : List (Int × Fl) × Option (List Nat) := sevS plS (tkS (drR b).2).1 (tkS (drR b).2).2

theorem tk_pos : ∀ (l : List Nat) (i v : Nat), (tk i v l).2.2 = 0 → i < (tk i v l).2.1
  | [], _, _, h => by simp [tk] at h
  | x :: r, i, v, h => by
    unfold tk at h ⊢
    split at h
    · simp at h
    · rename_i h1
      rw [if_neg h1]
      split at h
      · rename_i h2; rw [if_pos h2]; simp
      · rename_i h2
        rw [if_neg h2]
        have := tk_pos r (i + 1) _ h
        omega
/-- What is left is shorter, and part of it. -/
def Sh (s s' : Option (List Nat)) : Prop := ∀ l', s' = some l' → ∃ l, s = some l ∧ l'.length < l.length ∧ ∃ k, l' = l.drop k
def Sm (s s' : Option (List Nat)) : Prop := ∀ l', s' = some l' → ∃ l, s = some l ∧ l'.length ≤ l.length ∧ ∃ k, l' = l.drop k
theorem Sh.sm {s s' : Option (List Nat)} (h : Sh s s') : Sm s s' := fun l' e => by
  obtain ⟨l, h1, h2, h3⟩ := h l' e
  exact ⟨l, h1, by omega, h3⟩
theorem Sm.trans {a b c : Option (List Nat)} (h : Sm a b) (g : Sm b c) : Sm a c := fun l' e => by
  obtain ⟨l, h1, h2, k, h3⟩ := g l' e
  obtain ⟨m, g1, g2, j, g3⟩ := h l h1
  exact ⟨m, g1, by omega, j + k, by rw [h3, g3, List.drop_drop]⟩
theorem Sh.trans {a b c : Option (List Nat)} (h : Sh a b) (g : Sm b c) : Sh a c := fun l' e => by
  obtain ⟨l, h1, h2, k, h3⟩ := g l' e
  obtain ⟨m, g1, g2, j, g3⟩ := h l h1
  exact ⟨m, g1, by omega, j + k, by rw [h3, g3, List.drop_drop]⟩
theorem tkS_ok {l : List Nat} (h : (takeL l).2.2 = 0) : tkS (some l) = ((takeL l).1, some (l.drop (takeL l).2.1)) := if_pos h
theorem tkS_no {l : List Nat} (h : (takeL l).2.2 ≠ 0) : tkS (some l) = (0, none) := if_neg h
theorem tkS_sh {s : Option (List Nat)} (hb : ∀ l, s = some l → By l) : Sh s (tkS s).2 := by
  intro l' e
  rcases s with _ | l
  · simp [tkS] at e
  · by_cases h : (takeL l).2.2 = 0
    · rw [tkS_ok h] at e
      simp only [Option.some.injEq] at e
      have h1 := tk_pos l 0 0 h
      have h2 := (tk_bound l (hb l rfl) 0 0 (by omega) (by simp)).2.1
      refine ⟨l, rfl, ?_, _, e.symm⟩
      rw [← e, List.length_drop]
      have : (takeL l).2.1 = (tk 0 0 l).2.1 := rfl
      omega
    · rw [tkS_no h] at e; cases e
theorem Sm.by {s s' : Option (List Nat)} (h : Sm s s') (hb : ∀ l, s = some l → By l) : ∀ l, s' = some l → By l := fun l' e => by
  obtain ⟨l, h1, _, k, h3⟩ := h l' e
  rw [h3]; exact (hb l h1).drop k
theorem nmS_sh {s : Option (List Nat)} (hb : ∀ l, s = some l → By l) : Sh s (nmS s).2 := by
  unfold nmS
  split
  · intro l' e; cases e
  · exact tkS_sh hb
theorem ctS_sh {s : Option (List Nat)} (hb : ∀ l, s = some l → By l) : Sh s (ctS s).2 := by
  unfold ctS
  have h := tkS_sh hb
  rcases hs : (tkS s).2 with _ | l
  · intro l' e; cases e
  · unfold fitS
    rw [hs] at h
    by_cases hl : l.length < (tkS s).1
    · simp only [hl, if_true]; intro l' e; cases e
    · simp only [hl, if_false]; exact h
theorem kyS_sh {s : Option (List Nat)} (hb : ∀ l, s = some l → By l) : Sh s (kyS s).2 := by
  unfold kyS
  have h := ctS_sh hb
  rcases hs : (ctS s).2 with _ | l
  · intro l' e; cases e
  · rw [hs] at h
    refine h.trans fun l' e => ?_
    simp only [cutS, Option.some.injEq] at e
    exact ⟨l, rfl, by rw [← e, List.length_drop]; omega, _, e.symm⟩
theorem gnS_sh {s : Option (List Nat)} (hb : ∀ l, s = some l → By l) : Sh s (gnS s).2 := by
  have h1 := nmS_sh hb
  exact h1.trans (nmS_sh (h1.sm.by hb)).sm
theorem plS_sh {s : Option (List Nat)} (hb : ∀ l, s = some l → By l) : Sh s (plS s).2 := by
  have h1 := nmS_sh hb
  have b1 := h1.sm.by hb
  have h2 := nmS_sh b1
  have b2 := h2.sm.by b1
  have h3 := nmS_sh b2
  have b3 := h3.sm.by b2
  have h4 := kyS_sh b3
  have b4 := h4.sm.by b3
  have h5 := kyS_sh b4
  exact h1.trans (h2.sm.trans (h3.sm.trans (h4.sm.trans h5.sm)))
theorem sevS_none {α : Type} (f : Option (List Nat) → α × Option (List Nat)) : ∀ n, (sevS f n none).2 = none
  | 0 => rfl
  | _ + 1 => rfl
theorem sevS_sm {α : Type} {f : Option (List Nat) → α × Option (List Nat)} (hf : ∀ s, (∀ l, s = some l → By l) → Sh s (f s).2) : ∀ (n : Nat) (s : Option (List Nat)), (∀ l, s = some l → By l) → Sm s (sevS f n s).2
  | 0, s, _ => fun l' e => ⟨l', e, Nat.le_refl _, 0, rfl⟩
  | n + 1, none, _ => fun l' e => by cases e
  | n + 1, some l, hb => by
    have h := hf (some l) hb
    exact h.sm.trans (sevS_sm hf n _ (h.sm.by hb))
/-- More entries than bytes: a fault. -/
theorem sevS_many {α : Type} {f : Option (List Nat) → α × Option (List Nat)} (hf : ∀ s, (∀ l, s = some l → By l) → Sh s (f s).2) : ∀ (n : Nat) (l : List Nat), By l → l.length < n → (sevS f n (some l)).2 = none
  | 0, _, _, h => by omega
  | n + 1, l, hb, h => by
    have hs := hf (some l) (fun l' e => by cases e; exact hb)
    show (sevS f n (f (some l)).2).2 = none
    rcases hr : (f (some l)).2 with _ | l'
    · exact sevS_none f n
    · obtain ⟨m, e1, e2, k, e3⟩ := hs l' hr
      cases e1
      exact sevS_many hf n l' (by rw [e3]; exact hb.drop k) (by omega)
theorem sev_count {α : Type} {f : Option (List Nat) → α × Option (List Nat)} (hf : ∀ s, (∀ l, s = some l → By l) → Sh s (f s).2) {s : Option (List Nat)} (hb : ∀ l, s = some l → By l) : sevS f (tkS s).1 (tkS s).2 = sevS f (ctS s).1 (ctS s).2 ∨ ((sevS f (tkS s).1 (tkS s).2).2 = none ∧ (sevS f (ctS s).1 (ctS s).2).2 = none) := by
  unfold ctS
  have h := (tkS_sh hb).sm.by hb
  rcases hs : (tkS s).2 with _ | l
  · right; exact ⟨sevS_none f _, sevS_none f _⟩
  · rw [hs] at h
    unfold fitS
    by_cases hl : l.length < (tkS s).1
    · right
      simp only [hl, if_true]
      exact ⟨sevS_many hf _ l (h l rfl) hl, sevS_none f _⟩
    · left
      simp only [hl, if_false]
/-- Both ways tell the same. -/
theorem decO_ref {b : List Nat} (hb : By b) : decO b = if (adR b).2 = some [] ∧ okE (edS b (drR b).1 (adR b).1) = true then some (edS b (drR b).1 (adR b).1) else none := by
  have h0 : ∀ l, some b = some l → By l := fun l e => by cases e; exact hb
  have h1 := nmS_sh h0
  have b1 := h1.sm.by h0
  have h2 := nmS_sh b1
  have b2 := h2.sm.by b1
  have h3 := tkS_sh b2
  have b3 : ∀ l, hdS b = some l → By l := h3.sm.by b2
  have none_ad : ∀ (s : Option (List Nat)), s = none → (sevS plS (ctS s).1 (ctS s).2).2 = none ∧ (sevS plS (tkS s).1 (tkS s).2).2 = none := fun s e => by subst e; exact ⟨sevS_none _ _, sevS_none _ _⟩
  rcases sev_count (f := gnS) (fun s => gnS_sh) b3 with e | ⟨e1, e2⟩
  · have hd : drR b = drS b := e
    have bd : ∀ l, (drS b).2 = some l → By l := by
      have hc := ctS_sh b3
      exact (sevS_sm (fun s => gnS_sh) _ _ (hc.sm.by b3)).by (hc.sm.by b3)
    rcases sev_count (f := plS) (fun s => plS_sh) bd with e | ⟨e1, e2⟩
    · have ha : adR b = adS b := by unfold adR; rw [hd]; exact e
      unfold decO
      rw [ha, hd]
    · have a1 : (adS b).2 = none := e2
      have a2 : (adR b).2 = none := by unfold adR; rw [hd]; exact e1
      unfold decO
      rw [if_neg (by rw [a1]; simp), if_neg (by rw [a2]; simp)]
  · have a1 : (adS b).2 = none := (none_ad _ e2).1
    have a2 : (adR b).2 = none := (none_ad _ e1).2
    unfold decO
    rw [if_neg (by rw [a1]; simp), if_neg (by rw [a2]; simp)]
end Go.Proofs.YtegbngbhmgbocaaGreatDoor
