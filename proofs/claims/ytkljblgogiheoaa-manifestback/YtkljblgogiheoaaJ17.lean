/-
  DERIVED: THE SHELF's CONTRACTS AT THIS DUMP, IN PLAIN WORDS (tools/lay-plain.mjs out of 'YtkljblgogiheoaaLay.lean', which tools/lay-shelf.mjs wrote): THE SAME DECLARATIONS UNDER THE SAME NAMES: 'import', 'namespace', 'open', 'def', 'theorem' AND NOTHING ELSE: no command of the shelf's: FOR A HAND-IN. Each laying: the table of numbers ('.._ren') and one theorem, a field a fact of the dump's own or the kernel's comparison; each contract: ONE APPLICATION.
-/
import Derived.Shelf.SlSortCmp.WholeK
import Derived.Shelf.SlSortCmp.NoneTotal
import Derived.Ground.SlsfProg
import Derived.Test.YtkljblgogiheoaaProg
import Derived.Test.YtkljblgogiheoaaJ16
namespace Go.Proofs
open Go.Shelf
def Try.sortF_ren : Go.Shelf.Ren := ⟨fun | 6 => 49 | 15 => 67 | 14 => 66 | 28 => 84 | 29 => 85 | 20 => 76 | 21 => 77 | 22 => 78 | 23 => 79 | 24 => 80 | 25 => 81 | 26 => 82 | 27 => 83 | 46 => 91 | 47 => 92 | 48 => 93 | 49 => 94 | 50 => 95 | 57 => 97 | n => n, fun | 22 => 23 | 24 => 55 | 25 => 91 | 3 => 3 | 39 => 100 | 0 => 0 | 53 => 127 | 55 => 22 | 4 => 4 | 46 => 120 | 45 => 119 | 50 => 124 | 5 => 5 | 9 => 9 | 66 => 131 | 70 => 134 | 76 => 137 | 77 => 138 | n => n, fun | n => n⟩
theorem Try.sortF : Go.Proofs.SlLaysF0.n6 Try.prog Try.sortF_ren := {
  mixed := by kernel_rfl
  f6 := ⟨Try.f49.name, by decide, Try.func49.trans (congrArg some (by kernel_rfl))⟩
  f14 := ⟨Try.f66.name, by decide, Try.func66.trans (congrArg some (by kernel_rfl))⟩
  f15 := Try.func67.trans (congrArg some (by kernel_rfl))
  f20 := ⟨Try.f76.name, by decide, Try.func76.trans (congrArg some (by kernel_rfl))⟩
  f21 := ⟨Try.f77.name, by decide, Try.func77.trans (congrArg some (by kernel_rfl))⟩
  f22 := ⟨Try.f78.name, by decide, Try.func78.trans (congrArg some (by kernel_rfl))⟩
  f23 := ⟨Try.f79.name, by decide, Try.func79.trans (congrArg some (by kernel_rfl))⟩
  f24 := ⟨Try.f80.name, by decide, Try.func80.trans (congrArg some (by kernel_rfl))⟩
  f25 := ⟨Try.f81.name, by decide, Try.func81.trans (congrArg some (by kernel_rfl))⟩
  f26 := ⟨Try.f82.name, by decide, Try.func82.trans (congrArg some (by kernel_rfl))⟩
  f27 := ⟨Try.f83.name, by decide, Try.func83.trans (congrArg some (by kernel_rfl))⟩
  f28 := Try.func84.trans (congrArg some (by kernel_rfl))
  f29 := Try.func85.trans (congrArg some (by kernel_rfl))
  f46 := ⟨Try.f91.name, by decide, Try.func91.trans (congrArg some (by kernel_rfl))⟩
  f47 := Try.func92.trans (congrArg some (by kernel_rfl))
  f48 := Try.func93.trans (congrArg some (by kernel_rfl))
  f49 := ⟨Try.f94.name, by decide, Try.func94.trans (congrArg some (by kernel_rfl))⟩
  f50 := ⟨Try.f95.name, by decide, Try.func95.trans (congrArg some (by kernel_rfl))⟩
  f57 := ⟨Try.f97.name, by decide, Try.func97.trans (congrArg some (by kernel_rfl))⟩
  t0 := Try.underlying0
  a0 := Try.isAgg0
  z0 := Try.sizeOf0
  v0 := Try.zeroValue0
  t3 := Try.underlying3
  a3 := Try.isAgg3
  z3 := Try.sizeOf3
  v3 := Try.zeroValue3
  t4 := Try.underlying4
  a4 := Try.isAgg4
  z4 := Try.sizeOf4
  v4 := Try.zeroValue4
  t5 := Try.underlying5
  a5 := Try.isAgg5
  z5 := Try.sizeOf5
  v5 := Try.zeroValue5
  t9 := Try.underlying9
  a9 := Try.isAgg9
  z9 := Try.sizeOf9
  v9 := Try.zeroValue9
  t22 := Try.underlying23
  a22 := Try.isAgg23
  z22 := Try.sizeOf23
  v22 := Try.zeroValue23
  t25 := Try.underlying91
  a25 := Try.isAgg91
  z25 := Try.sizeOf91
  v25 := Try.zeroValue91
  t39 := Try.underlying100
  a39 := Try.isAgg100
  z39 := Try.sizeOf100
  v39 := Try.zeroValue100
  t45 := Try.underlying119
  a45 := Try.isAgg119
  z45 := Try.sizeOf119
  v45 := Try.zeroValue119
  t46 := Try.underlying120
  a46 := Try.isAgg120
  z46 := Try.sizeOf120
  v46 := Try.zeroValue120
  t50 := Try.underlying124
  a50 := Try.isAgg124
  z50 := Try.sizeOf124
  v50 := Try.zeroValue124
  t53 := Try.underlying127
  a53 := Try.isAgg127
  z53 := Try.sizeOf127
  v53 := Try.zeroValue127
  t55 := Try.underlying22
  a55 := Try.isAgg22
  z55 := Try.sizeOf22
  v55 := Try.zeroValue22
  t66 := Try.underlying131
  a66 := Try.isAgg131
  z66 := Try.sizeOf131
  v66 := Try.zeroValue131
  t70 := Try.underlying134
  a70 := Try.isAgg134
  z70 := Try.sizeOf134
  v70 := Try.zeroValue134
  t76 := Try.underlying137
  a76 := Try.isAgg137
  z76 := Try.sizeOf137
  v76 := Try.zeroValue137
  t77 := Try.underlying138
  a77 := Try.isAgg138
  z77 := Try.sizeOf138
  v77 := Try.zeroValue138 }
end Go.Proofs
namespace Go.Proofs.Ytkljblgogiheoaa
open Go.ChangeShapes Go.WideShapes Go.ChangeAt Go.RowKit Go.Shelf Go.Sort

/-- A table with the places of its keys. -/
structure Fx where
  f : Fl
  la : Option Addr
  lc : Nat
  ma : Option Addr
  mc : Nat
def encX (x : Fx) : List Value := [.int .i64 x.f.num, .int .i64 x.f.size, .slice x.la x.f.least.length x.lc, .slice x.ma x.f.most.length x.mc]
def RX (wb : World) (x : Fx) : Prop := FRd wb x.f x.la x.lc x.ma x.mc ∧ okF x.f = true
theorem RX.fr {w w' : World} {x : Fx} (h : RX w x) (f : Fr [] w w') : RX w' x := ⟨h.1.fr f, h.2⟩
theorem encX_one (x : Fx) : ∀ v ∈ encX x, v.oneCell' = true := by
  intro v hv
  simp [encX] at hv
  rcases hv with rfl | rfl | rfl | rfl <;> rfl
theorem flat4_len : ∀ (xs : List Fx), (xs.flatMap encX).length = xs.length * 4
  | [] => rfl
  | x :: r => by rw [List.flatMap_cons, List.length_append, flat4_len r]; simp [encX]; omega
theorem flat4_at : ∀ (xs : List Fx) (t : Nat) (x : Fx), xs[t / 4]? = some x → (xs.flatMap encX)[t]? = (encX x)[t % 4]?
  | [], t, x, h => by simp at h
  | y :: r, t, x, h => by
    rw [List.flatMap_cons]
    have hl : (encX y).length = 4 := rfl
    rcases Nat.lt_or_ge t 4 with h4 | h4
    · have h0 : t / 4 = 0 := by omega
      rw [h0] at h
      simp at h
      subst h
      rw [List.getElem?_append_left (by rw [hl]; exact h4), Nat.mod_eq_of_lt h4]
    · rw [List.getElem?_append_right (by rw [hl]; exact h4), hl, flat4_at r (t - 4) x (by
        have : t / 4 = (t - 4) / 4 + 1 := by omega
        rw [this] at h
        simpa using h), show (t - 4) % 4 = t % 4 from by omega]
theorem cmpI_neg (x y : Int) : cmpI y x = -cmpI x y := by unfold cmpI; split <;> split <;> first | omega | (split <;> omega)
theorem cmpI_lt (x y : Int) : cmpI x y < 0 ↔ x < y := by unfold cmpI; split <;> first | (constructor <;> omega) | (split <;> constructor <;> omega)
theorem cmpF_irr (i : Nat) (a : Fl) : ¬ cmpF i a a < 0 := by
  unfold cmpF
  split
  · simp [cmpI]
  · have := ordK_neg a.least a.least
    omega
theorem cmpF_neg (i : Nat) (a b : Fl) : cmpF i b a = -cmpF i a b := by
  unfold cmpF
  split
  · exact cmpI_neg _ _
  · exact ordK_neg _ _
theorem cmpF_le (i : Nat) {a b c : Fl} (h1 : cmpF i a b ≤ 0) (h2 : cmpF i b c ≤ 0) : cmpF i a c ≤ 0 := by
  unfold cmpF at *
  by_cases h : i = 0
  · rw [if_pos h] at h1 h2 ⊢
    unfold cmpI at *
    split at h1 <;> split at h2 <;> split <;> first | omega | (split <;> omega) | skip
    all_goals (try (split at h1)) <;> (try (split at h2)) <;> (try split) <;> omega
  · rw [if_neg h] at h1 h2 ⊢
    exact ordK_trans _ _ _ h1 h2
theorem cmpF_lt (i : Nat) {a b c : Fl} (h1 : cmpF i a b < 0) (h2 : cmpF i b c < 0) : cmpF i a c < 0 := by
  have h3 := cmpF_le i (a := a) (b := b) (c := c) (by omega) (by omega)
  rcases Int.lt_or_eq_of_le h3 with h | h
  · exact h
  · exfalso
    have e1 := cmpF_neg i a c
    have e2 := cmpF_neg i a b
    have h4 := cmpF_le i (a := b) (b := c) (c := a) (by omega) (by omega)
    omega
theorem cmpF_nlt (i : Nat) {a b c : Fl} (h1 : ¬ cmpF i a b < 0) (h2 : ¬ cmpF i b c < 0) : ¬ cmpF i a c < 0 := by
  have e1 := cmpF_neg i a c
  have e2 := cmpF_neg i a b
  have e3 := cmpF_neg i b c
  have h4 := cmpF_le i (a := c) (b := b) (c := a) (by omega) (by omega)
  omega
theorem cmpF_swo {α : Type} (i : Nat) (p : α → Fl) : SWO (ltOf fun x y : α => cmpF i (p x) (p y)) where
  irrefl x := decide_eq_false (cmpF_irr i (p x))
  trans _ _ _ h1 h2 := decide_eq_true (cmpF_lt i (of_decide_eq_true h1) (of_decide_eq_true h2))
  ntrans _ _ _ h1 h2 := decide_eq_false (cmpF_nlt i (of_decide_eq_false h1) (of_decide_eq_false h2))
/-- The comparison that a level has. -/
def cmpG (i : Nat) : Nat := if i = 0 then 68 else 70
theorem cmpG_c (i : Nat) (W : World) {x y : Fx} (hx : RX W x) (hy : RX W y) : Calls Try.prog (cmpG i) #[.agg (encX x).toArray, .agg (encX y).toArray] W fun r W' => r = .returned (.int .i64 (cmpF i x.f y.f)) ∧ Fr [] W W' ∧ W'.drawn = W.drawn := by
  unfold cmpG cmpF
  by_cases h : i = 0
  · rw [if_pos h, if_pos h]
    exact ord0_c W _ _ _ _ _ _ _ _
  · rw [if_neg h, if_neg h]
    exact ord1_c W hx.1 hy.1 (okF_keys hx.2).1 (okF_keys hy.2).1
theorem cmpG_enters (i : Nat) : ∀ args w, (callFunc (cmpG i) args).run Try.prog w = .ok (.enter (cmpG i) args) w := by
  unfold cmpG
  by_cases h : i = 0
  · rw [if_pos h]; exact enters_of Try.func68 (by kernel_rfl) rfl
  · rw [if_neg h]; exact enters_of Try.func70 (by kernel_rfl) rfl
/-- The worlds that a sort passes through. -/
theorem sortW_fr {α : Type} [Inhabited α] {enc : α → List Value} {wb W : World} (f : Fr [] wb W) {g : Nat} (hg : wb.heap.size ≤ g) (m : Nat) (dk : Array α) (os : Array Obj) : Fr [] wb (sortWorldK enc 4 W g 0 m dk os) := by
  unfold sortWorldK putRowK putRow mapBlock Sort.grow Sort.ahead
  refine ⟨f.os, f.tape, f.output, ?_, fun k hk hn => ?_⟩
  · simp; have := f.size; omega
  · have hs := f.size
    rw [Array.getElem?_append_left (by simp; omega), Array.getElem?_modify, if_neg (by omega)]
    exact f.block k hk hn
theorem sortW_other {α : Type} [Inhabited α] {enc : α → List Value} {W : World} {g m k : Nat} {dk : Array α} {os : Array Obj} (hk : k < W.heap.size) (hne : k ≠ g) : (sortWorldK enc 4 W g 0 m dk os).heap[k]? = W.heap[k]? := by
  unfold sortWorldK putRowK putRow mapBlock Sort.grow Sort.ahead
  show ((W.heap.modify g _) ++ os)[k]? = W.heap[k]?
  rw [Array.getElem?_append_left (by simpa using hk), Array.getElem?_modify, if_neg (by omega)]
theorem sortW_row {α : Type} [Inhabited α] {enc : α → List Value} {W : World} {g m : Nat} {dk : Array α} {os : Array Obj} {cur : Array Value} {e : TypeId} (hb : W.heap[g]? = some (.cells cur e (0, 0))) : (sortWorldK enc 4 W g 0 m dk os).heap[g]? = some (.cells (putCells id 0 (flatK enc 4 dk) cur) e (0, 0)) := by
  have hlt := blk_lt hb
  unfold sortWorldK putRowK putRow mapBlock Sort.grow Sort.ahead
  show ((W.heap.modify g _) ++ os)[g]? = _
  rw [Array.getElem?_append_left (by simpa using hlt), Array.getElem?_modify, if_pos rfl, hb]
  rfl
/-- A level's tables, sorted. -/
def SortX (i : Nat) (ys : List Fx) : Prop := ys.Pairwise (fun x y => ¬ cmpF i y.f x.f < 0)
theorem sort_c (wb W : World) (i : Nat) {xs : List Fx} {ad : Option Addr} {n c : Nat} (hn : n = xs.length) (own : W.ownsRow wb.heap.size 55 4 (.slice ad n c) xs.length (xs.flatMap encX)) (fr : Fr [] wb W) (hx : ∀ x ∈ xs, RX wb x) (hl : n ≤ 1000000) :
    Calls Try.prog 49 #[.slice ad n c, .func (.func (cmpG i)) #[] #[]] W fun r W' => r = .returned (.tuple #[]) ∧ ∃ ys : List Fx, ys.Perm xs ∧ SortX i ys ∧ W'.ownsRow wb.heap.size 55 4 (.slice ad n c) ys.length (ys.flatMap encX) ∧ W.grownBy W' (Value.slice ad n c).ownBlock ∧ Fr [] wb W' := by
  rcases Nat.eq_zero_or_pos n with h0 | h0
  · subst h0
    have hx0 : xs = [] := List.eq_nil_of_length_eq_zero hn.symm
    subst hx0
    refine (AnyF.slices_SortFunc_none Try.sortF ad c _ W).mono ?_
    rintro e W' ⟨rfl, rfl⟩
    exact ⟨rfl, [], List.Perm.refl _, List.Pairwise.nil, own, ⟨rfl, rfl, rfl, Nat.le_refl _, fun _ _ _ => rfl⟩, fr⟩
  · obtain ⟨x0, r0, hxs⟩ : ∃ x0 r0, xs = x0 :: r0 := by
      cases xs with
      | nil => simp at hn; omega
      | cons a l => exact ⟨a, l, rfl⟩
    haveI : Inhabited {x : Fx // RX wb x} := ⟨⟨x0, hx x0 (by rw [hxs]; simp)⟩⟩
    obtain ⟨d, hd⟩ : ∃ d : Array {x : Fx // RX wb x}, d.toList.map (·.1) = xs := ⟨(xs.pmap (fun x h => ⟨x, h⟩) hx).toArray, by simp [List.map_pmap]⟩
    have hds : d.size = n := by rw [hn, ← hd]; simp
    rcases own.2 with ⟨h1, h2⟩ | ⟨g, cap, cur, h1, h2, h3, h4, h5, h6, h7⟩
    · simp at h1; omega
    · simp only [Value.slice.injEq] at h1
      obtain ⟨rfl, _, rfl⟩ := h1
      have hat : ∀ t, t < d.size * 4 → (xs.flatMap encX)[t]? = some (flatK (fun x : {x : Fx // RX wb x} => encX x.1) 4 d)[t]! := by
        intro t ht
        have hlt : t / 4 < d.size := by omega
        have e1 : xs[t / 4]? = some (d[t / 4]!).1 := by
          rw [← hd, List.getElem?_map, Array.getElem?_toList, Array.getElem?_eq_getElem hlt, getElem!_pos d _ hlt]; rfl
        rw [flat4_at xs t _ e1, get_flatK _ _ _ _ ht]
        have h4' : t % 4 < (encX (d[t / 4]!).1).length := by have : (encX (d[t / 4]!).1).length = 4 := rfl; omega
        rw [List.getElem?_eq_getElem h4', getElem!_pos (encX (d[t / 4]!).1) (t % 4) h4']
      have hH : HoldsK (fun x : {x : Fx // RX wb x} => encX x.1) 4 W g 0 d := by
        intro j hj
        rw [size_flatK] at hj
        refine ⟨?_, blk_frozen h3 _⟩
        rw [blk_cell h3, Nat.zero_add, ← Array.getElem?_toList]
        have e2 := hat j hj
        rw [← h7, List.getElem?_take, if_pos (by rw [hn] at hds; omega)] at e2
        exact e2
      have hcmp : CmpLays Try.prog (cmpG i) #[] (fun x : {x : Fx // RX wb x} => encX x.1) 4 (fun x y => cmpF i x.1.f y.1.f) g 0 d.size W := by
        intro m os dk _ x y
        have ff := sortW_fr (enc := fun x : {x : Fx // RX wb x} => encX x.1) fr h2 m dk os
        refine (cmpG_c i _ (x.2.fr ff) (y.2.fr ff)).mono ?_
        rintro e W' ⟨rfl, f1, d1⟩
        exact ⟨rfl, grow_of f1 d1⟩
      have hc := AnyQ.slices_SortFunc Try.sortF 4 (fun w => by kernel_rfl) (fun w => by kernel_rfl) (fun x : {x : Fx // RX wb x} => encX x.1) (fun _ => rfl) (fun x => encX_one x.1) (fun x y => cmpF i x.1.f y.1.f) (cmpF_swo i (fun x : {x : Fx // RX wb x} => x.1.f)) (cmpG i) #[] g 0 c d W (cmpG_enters i) hcmp hH (blk_lt h3) (by omega)
      rw [hds] at hc
      refine hc.mono ?_
      rintro e W' ⟨rfl, d', m, os, hp, hs, rfl⟩
      obtain ⟨p1, p2, p3⟩ := hp
      rw [hds] at p1
      have pe : d'.toList.Perm d.toList := by
        have q1 : (d'.extract 0 n) = d' := by rw [← p1]; simp
        have q2 : (d.extract 0 n) = d := by rw [← hds]; simp
        rw [q1, q2] at p3
        exact p3
      have hyl : (d'.toList.map (·.1)).length = n := by simp [p1]
      refine ⟨rfl, d'.toList.map (·.1), by rw [← hd]; exact pe.map _, ?_, ?_, ?_, sortW_fr fr h2 _ _ _⟩
      · unfold SortX
        rw [List.pairwise_iff_getElem]
        intro a b ha hb hab
        simp only [List.length_map, Array.length_toList] at ha hb
        have := hs a b (Nat.zero_le _) hab (by omega)
        rw [getElem!_pos d' b (by omega), getElem!_pos d' a (by omega)] at this
        simpa using of_decide_eq_false this
      · refine ⟨by rw [flat4_len], .inr ⟨g, c, _, by rw [hyl], h2, sortW_row h3, by rw [hyl]; omega, h5, by simp [putCells]; exact h6, ?_⟩⟩
        rw [hyl]
        apply List.ext_getElem?
        intro t
        rw [List.getElem?_take]
        by_cases ht : t < n * 4
        · rw [if_pos ht]
          have hlt : t / 4 < d'.size := by omega
          have e1 : (d'.toList.map (·.1))[t / 4]? = some (d'[t / 4]!).1 := by
            rw [List.getElem?_map, Array.getElem?_toList, Array.getElem?_eq_getElem hlt, getElem!_pos d' _ hlt]; rfl
          have h4' : t % 4 < (encX (d'[t / 4]!).1).length := by have : (encX (d'[t / 4]!).1).length = 4 := rfl; omega
          rw [flat4_at _ t _ e1, List.getElem?_eq_getElem h4']
          rw [Array.getElem?_toList]
          have hcs : t < cur.size := by rw [h6]; omega
          unfold putCells
          rw [Array.getElem?_mapIdx, Array.getElem?_eq_getElem hcs]
          simp only [Option.map_some]
          rw [if_pos ⟨Nat.zero_le _, by rw [size_flatK, p1]; omega⟩, Nat.sub_zero, get_flatK _ _ _ _ (by rw [p1]; exact ht), getElem!_pos (encX (d'[t / 4]!).1) (t % 4) h4']
          rfl
        · rw [if_neg ht, List.getElem?_eq_none (by rw [flat4_len, hyl]; omega)]
      · refine ⟨rfl, rfl, rfl, ?_, fun k hk hne => sortW_other hk (fun e => hne (by rw [e]; rfl))⟩
        unfold sortWorldK putRowK putRow mapBlock Sort.grow Sort.ahead
        simp
end Go.Proofs.Ytkljblgogiheoaa
