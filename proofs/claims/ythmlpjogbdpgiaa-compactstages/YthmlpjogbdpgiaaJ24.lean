/-
  DERIVED: THE SHELF's CONTRACTS AT THIS DUMP, IN PLAIN WORDS (tools/lay-plain.mjs out of 'YthmlpjogbdpgiaaLay.lean', which tools/lay-shelf.mjs wrote): THE SAME DECLARATIONS UNDER THE SAME NAMES: 'import', 'namespace', 'open', 'def', 'theorem' AND NOTHING ELSE: no command of the shelf's: FOR A HAND-IN. Each laying: the table of numbers ('.._ren') and one theorem, a field a fact of the dump's own or the kernel's comparison; each contract: ONE APPLICATION.
-/
import Derived.Shelf.SlSortCmp.WholeK
import Derived.Shelf.SlSortCmp.NoneTotal
import Derived.Ground.SlsfProg
import Derived.Test.YthmlpjogbdpgiaaProg
import Derived.Test.YthmlpjogbdpgiaaCL9
import Derived.Test.YthmlpjogbdpgiaaJ05
namespace Go.Proofs
open Go.Shelf
def Try.sortF_ren : Go.Shelf.Ren := ⟨fun | 6 => 52 | 15 => 63 | 14 => 62 | 28 => 75 | 29 => 76 | 20 => 67 | 21 => 68 | 22 => 69 | 23 => 70 | 24 => 71 | 25 => 72 | 26 => 73 | 27 => 74 | 46 => 77 | 47 => 78 | 48 => 79 | 49 => 80 | 50 => 81 | 57 => 82 | n => n, fun | 22 => 24 | 24 => 58 | 25 => 97 | 3 => 3 | 39 => 91 | 0 => 0 | 53 => 118 | 55 => 23 | 4 => 4 | 46 => 111 | 45 => 110 | 50 => 115 | 5 => 5 | 9 => 9 | 66 => 120 | 70 => 124 | 76 => 126 | 77 => 127 | n => n, fun | n => n⟩
theorem Try.sortF : Go.Proofs.SlLaysF0.n6 Try.prog Try.sortF_ren := {
  mixed := by kernel_rfl
  f6 := ⟨Try.f52.name, by decide, Try.func52.trans (congrArg some (by kernel_rfl))⟩
  f14 := ⟨Try.f62.name, by decide, Try.func62.trans (congrArg some (by kernel_rfl))⟩
  f15 := Try.func63.trans (congrArg some (by kernel_rfl))
  f20 := ⟨Try.f67.name, by decide, Try.func67.trans (congrArg some (by kernel_rfl))⟩
  f21 := ⟨Try.f68.name, by decide, Try.func68.trans (congrArg some (by kernel_rfl))⟩
  f22 := ⟨Try.f69.name, by decide, Try.func69.trans (congrArg some (by kernel_rfl))⟩
  f23 := ⟨Try.f70.name, by decide, Try.func70.trans (congrArg some (by kernel_rfl))⟩
  f24 := ⟨Try.f71.name, by decide, Try.func71.trans (congrArg some (by kernel_rfl))⟩
  f25 := ⟨Try.f72.name, by decide, Try.func72.trans (congrArg some (by kernel_rfl))⟩
  f26 := ⟨Try.f73.name, by decide, Try.func73.trans (congrArg some (by kernel_rfl))⟩
  f27 := ⟨Try.f74.name, by decide, Try.func74.trans (congrArg some (by kernel_rfl))⟩
  f28 := Try.func75.trans (congrArg some (by kernel_rfl))
  f29 := Try.func76.trans (congrArg some (by kernel_rfl))
  f46 := ⟨Try.f77.name, by decide, Try.func77.trans (congrArg some (by kernel_rfl))⟩
  f47 := Try.func78.trans (congrArg some (by kernel_rfl))
  f48 := Try.func79.trans (congrArg some (by kernel_rfl))
  f49 := ⟨Try.f80.name, by decide, Try.func80.trans (congrArg some (by kernel_rfl))⟩
  f50 := ⟨Try.f81.name, by decide, Try.func81.trans (congrArg some (by kernel_rfl))⟩
  f57 := ⟨Try.f82.name, by decide, Try.func82.trans (congrArg some (by kernel_rfl))⟩
  t0 := Try.underlying0
  a0 := Try.isAgg0
  z0 := Try.sizeOf0
  v0 := Try.zeroValue0
  t3 := Try.underlying3
  a3 := Try.isAgg3
  z3 := Try.sizeOf3
  v3 := Try.zeroValue3
  t4 := Try.underlying4
  a4 := Try.isAgg4
  z4 := Try.sizeOf4
  v4 := Try.zeroValue4
  t5 := Try.underlying5
  a5 := Try.isAgg5
  z5 := Try.sizeOf5
  v5 := Try.zeroValue5
  t9 := Try.underlying9
  a9 := Try.isAgg9
  z9 := Try.sizeOf9
  v9 := Try.zeroValue9
  t22 := Try.underlying24
  a22 := Try.isAgg24
  z22 := Try.sizeOf24
  v22 := Try.zeroValue24
  t25 := Try.underlying97
  a25 := Try.isAgg97
  z25 := Try.sizeOf97
  v25 := Try.zeroValue97
  t39 := Try.underlying91
  a39 := Try.isAgg91
  z39 := Try.sizeOf91
  v39 := Try.zeroValue91
  t45 := Try.underlying110
  a45 := Try.isAgg110
  z45 := Try.sizeOf110
  v45 := Try.zeroValue110
  t46 := Try.underlying111
  a46 := Try.isAgg111
  z46 := Try.sizeOf111
  v46 := Try.zeroValue111
  t50 := Try.underlying115
  a50 := Try.isAgg115
  z50 := Try.sizeOf115
  v50 := Try.zeroValue115
  t53 := Try.underlying118
  a53 := Try.isAgg118
  z53 := Try.sizeOf118
  v53 := Try.zeroValue118
  t55 := Try.underlying23
  a55 := Try.isAgg23
  z55 := Try.sizeOf23
  v55 := Try.zeroValue23
  t66 := Try.underlying120
  a66 := Try.isAgg120
  z66 := Try.sizeOf120
  v66 := Try.zeroValue120
  t70 := Try.underlying124
  a70 := Try.isAgg124
  z70 := Try.sizeOf124
  v70 := Try.zeroValue124
  t76 := Try.underlying126
  a76 := Try.isAgg126
  z76 := Try.sizeOf126
  v76 := Try.zeroValue126
  t77 := Try.underlying127
  a77 := Try.isAgg127
  z77 := Try.sizeOf127
  v77 := Try.zeroValue127 }
end Go.Proofs
namespace Go.Proofs.Ythmlpjogbdpgiaa
open Go.ChangeShapes Go.WideShapes Go.ChangeAt Go.RowKit Go.Shelf Go.Sort

/-- A span with the places of its keys. -/
structure Sx where
  s : List Nat × List Nat
  la : Option Addr
  lc : Nat
  ma : Option Addr
  mc : Nat
def encS (x : Sx) : List Value := [.slice x.la x.s.1.length x.lc, .slice x.ma x.s.2.length x.mc]
def RS9 (wb : World) (x : Sx) : Prop := Rd wb (.slice x.la x.s.1.length x.lc) (bv x.s.1) ∧ Rd wb (.slice x.ma x.s.2.length x.mc) (bv x.s.2) ∧ By x.s.1 ∧ By x.s.2
theorem RS9.fr {w w' : World} {x : Sx} (h : RS9 w x) (f : Fr [] w w') : RS9 w' x := ⟨h.1.fr f, h.2.1.fr f, h.2.2⟩
theorem encS_one (x : Sx) : ∀ v ∈ encS x, v.oneCell' = true := by
  intro v hv
  simp [encS] at hv
  rcases hv with rfl | rfl <;> rfl
theorem flat2_len : ∀ (xs : List Sx), (xs.flatMap encS).length = xs.length * 2
  | [] => rfl
  | x :: r => by rw [List.flatMap_cons, List.length_append, flat2_len r]; simp [encS]; omega
theorem flat2_at : ∀ (xs : List Sx) (t : Nat) (x : Sx), xs[t / 2]? = some x → (xs.flatMap encS)[t]? = (encS x)[t % 2]?
  | [], t, x, h => by simp at h
  | y :: r, t, x, h => by
    rw [List.flatMap_cons]
    have hl : (encS y).length = 2 := rfl
    rcases Nat.lt_or_ge t 2 with h4 | h4
    · have h0 : t / 2 = 0 := by omega
      rw [h0] at h
      simp at h
      subst h
      rw [List.getElem?_append_left (by rw [hl]; exact h4), Nat.mod_eq_of_lt h4]
    · rw [List.getElem?_append_right (by rw [hl]; exact h4), hl, flat2_at r (t - 2) x (by
        have : t / 2 = (t - 2) / 2 + 1 := by omega
        rw [this] at h
        simpa using h), show (t - 2) % 2 = t % 2 from by omega]
theorem cmpN_self (a : List Nat) : ¬ cmpN a a < 0 := by rw [(cmpN_eq _ _).2 rfl]; omega
theorem cmpN_lt2 {a b c : List Nat} (h1 : cmpN a b < 0) (h2 : cmpN b c < 0) : cmpN a c < 0 := by
  have h3 := cmpN_trans a b c (by omega) (by omega)
  rcases Int.lt_or_eq_of_le h3 with h | h
  · exact h
  · have e := (cmpN_eq _ _).1 h
    subst e
    rw [cmpN_neg] at h2
    omega
theorem cmpN_nlt {a b c : List Nat} (h1 : ¬ cmpN a b < 0) (h2 : ¬ cmpN b c < 0) : ¬ cmpN a c < 0 := by
  have e1 := cmpN_neg a b
  have e2 := cmpN_neg b c
  have e3 := cmpN_neg a c
  have h4 := cmpN_trans c b a (by omega) (by omega)
  omega
theorem cmpS_swo {α : Type} (p : α → Sx) : SWO (ltOf fun x y : α => cmpN (p x).s.1 (p y).s.1) where
  irrefl x := decide_eq_false (cmpN_self (p x).s.1)
  trans _ _ _ h1 h2 := decide_eq_true (cmpN_lt2 (of_decide_eq_true h1) (of_decide_eq_true h2))
  ntrans _ _ _ h1 h2 := decide_eq_false (cmpN_nlt (of_decide_eq_false h1) (of_decide_eq_false h2))
set_option maxRecDepth 20000 in
set_option maxHeartbeats 800000 in
theorem within1_c (W : World) {x y : Sx} (hx : RS9 W x) (hy : RS9 W y) : Calls Try.prog 53 #[.agg (encS x).toArray, .agg (encS y).toArray] W fun r W' => r = .returned (.int .i64 (cmpN x.s.1 y.s.1)) ∧ Fr [] W W' ∧ W'.drawn = W.drawn := by
  have BC : Hid (∀ W', Fr [] W W' → Calls Try.prog 54 #[.slice x.la x.s.1.length x.lc, .slice y.la y.s.1.length y.lc] W' fun e w' => e = .returned (.int .i64 (cmpN x.s.1 y.s.1)) ∧ w' = W') := hid (fun W' f => bcmp_c (hx.1.fr f) (hy.1.fr f) hx.2.2.1 hy.2.2.1)
  have FF : Hid (Fr [] W ((W.alloc (.cells (encS x).toArray 58)).alloc (.cells (encS y).toArray 58))) := hid (((Fr.refl _ _).alloc _).alloc _)
  clear hx hy
  unfold encS at *
  go_enter Try.func53, Try.ntmps53
  go_wp2_with (go_at_call 54; refine (BC.out _ FF.out).mono ?_; rintro e w1 ⟨rfl, h⟩; rw [h]; clear h)
  go_ret
  exact ⟨rfl, FF.out, rfl⟩
theorem within1_enters : ∀ args w, (callFunc 53 args).run Try.prog w = .ok (.enter 53 args) w := enters_of Try.func53 (by kernel_rfl) rfl
theorem grow_ofS {w w' : World} (f : Fr [] w w') (d : w'.drawn = w.drawn) : ∃ q os', w' = Sort.grow (w.drewN q) os' := by
  refine ⟨0, w'.heap.extract w.heap.size w'.heap.size, ?_⟩
  have hh : w'.heap = w.heap ++ w'.heap.extract w.heap.size w'.heap.size := by
    apply Array.ext_getElem?
    intro i
    by_cases hi : i < w.heap.size
    · rw [Array.getElem?_append_left hi]
      exact f.block i hi (by simp)
    · rw [Array.getElem?_append_right (by omega), Array.getElem?_extract]
      have := f.size
      by_cases h2 : i < w'.heap.size
      · rw [if_pos (by omega)]
        congr 1
        omega
      · rw [if_neg (by omega)]
        simp; omega
  obtain ⟨h1, t1, d1, o1, p1⟩ := w'
  have e1 := f.os; have e2 := f.tape; have e3 := f.output
  simp only at hh d e1 e2 e3
  subst d e1 e2 e3
  simp only [Sort.grow, World.drewN, Nat.add_zero]
  congr 1
/-- The worlds that a sort passes through. -/
theorem sortS_fr {α : Type} [Inhabited α] {enc : α → List Value} {wb W : World} (f : Fr [] wb W) {g : Nat} (hg : wb.heap.size ≤ g) (m : Nat) (dk : Array α) (os : Array Obj) : Fr [] wb (sortWorldK enc 2 W g 0 m dk os) := by
  unfold sortWorldK putRowK putRow mapBlock Sort.grow Sort.ahead
  refine ⟨f.os, f.tape, f.output, ?_, fun k hk hn => ?_⟩
  · simp; have := f.size; omega
  · have hs := f.size
    rw [Array.getElem?_append_left (by simp; omega), Array.getElem?_modify, if_neg (by omega)]
    exact f.block k hk hn
theorem sortS_other {α : Type} [Inhabited α] {enc : α → List Value} {W : World} {g m k : Nat} {dk : Array α} {os : Array Obj} (hk : k < W.heap.size) (hne : k ≠ g) : (sortWorldK enc 2 W g 0 m dk os).heap[k]? = W.heap[k]? := by
  unfold sortWorldK putRowK putRow mapBlock Sort.grow Sort.ahead
  show ((W.heap.modify g _) ++ os)[k]? = W.heap[k]?
  rw [Array.getElem?_append_left (by simpa using hk), Array.getElem?_modify, if_neg (by omega)]
theorem sortS_row {α : Type} [Inhabited α] {enc : α → List Value} {W : World} {g m : Nat} {dk : Array α} {os : Array Obj} {cur : Array Value} {e : TypeId} (hb : W.heap[g]? = some (.cells cur e (0, 0))) : (sortWorldK enc 2 W g 0 m dk os).heap[g]? = some (.cells (putCells id 0 (flatK enc 2 dk) cur) e (0, 0)) := by
  have hlt := blk_lt hb
  unfold sortWorldK putRowK putRow mapBlock Sort.grow Sort.ahead
  show ((W.heap.modify g _) ++ os)[g]? = _
  rw [Array.getElem?_append_left (by simpa using hlt), Array.getElem?_modify, if_pos rfl, hb]
  rfl
/-- Spans, sorted. -/
def SortS (ys : List Sx) : Prop := ys.Pairwise (fun x y => ¬ cmpN y.s.1 x.s.1 < 0)
theorem sortSp_c (wb W : World) {xs : List Sx} {ad : Option Addr} {n c : Nat} (hn : n = xs.length) (own : W.ownsRow wb.heap.size 58 2 (.slice ad n c) xs.length (xs.flatMap encS)) (fr : Fr [] wb W) (hx : ∀ x ∈ xs, RS9 wb x) (hl : n ≤ 1000000) :
    Calls Try.prog 52 #[.slice ad n c, .func (.func 53) #[] #[]] W fun r W' => r = .returned (.tuple #[]) ∧ ∃ ys : List Sx, ys.Perm xs ∧ SortS ys ∧ W'.ownsRow wb.heap.size 58 2 (.slice ad n c) ys.length (ys.flatMap encS) ∧ W.grownBy W' (Value.slice ad n c).ownBlock ∧ Fr [] wb W' := by
  rcases Nat.eq_zero_or_pos n with h0 | h0
  · subst h0
    have hx0 : xs = [] := List.eq_nil_of_length_eq_zero hn.symm
    subst hx0
    refine (AnyF.slices_SortFunc_none Try.sortF ad c _ W).mono ?_
    rintro e W' ⟨rfl, rfl⟩
    exact ⟨rfl, [], List.Perm.refl _, List.Pairwise.nil, own, ⟨rfl, rfl, rfl, Nat.le_refl _, fun _ _ _ => rfl⟩, fr⟩
  · obtain ⟨x0, r0, hxs⟩ : ∃ x0 r0, xs = x0 :: r0 := by
      cases xs with
      | nil => simp at hn; omega
      | cons a l => exact ⟨a, l, rfl⟩
    haveI : Inhabited {x : Sx // RS9 wb x} := ⟨⟨x0, hx x0 (by rw [hxs]; simp)⟩⟩
    obtain ⟨d, hd⟩ : ∃ d : Array {x : Sx // RS9 wb x}, d.toList.map (·.1) = xs := ⟨(xs.pmap (fun x h => ⟨x, h⟩) hx).toArray, by simp [List.map_pmap]⟩
    have hds : d.size = n := by rw [hn, ← hd]; simp
    rcases own.2 with ⟨h1, h2⟩ | ⟨g, cap, cur, h1, h2, h3, h4, h5, h6, h7⟩
    · simp at h1; omega
    · simp only [Value.slice.injEq] at h1
      obtain ⟨rfl, _, rfl⟩ := h1
      have hat : ∀ t, t < d.size * 2 → (xs.flatMap encS)[t]? = some (flatK (fun x : {x : Sx // RS9 wb x} => encS x.1) 2 d)[t]! := by
        intro t ht
        have hlt : t / 2 < d.size := by omega
        have e1 : xs[t / 2]? = some (d[t / 2]!).1 := by
          rw [← hd, List.getElem?_map, Array.getElem?_toList, Array.getElem?_eq_getElem hlt, getElem!_pos d _ hlt]; rfl
        rw [flat2_at xs t _ e1, get_flatK _ _ _ _ ht]
        have h2' : t % 2 < (encS (d[t / 2]!).1).length := by have : (encS (d[t / 2]!).1).length = 2 := rfl; omega
        rw [List.getElem?_eq_getElem h2', getElem!_pos (encS (d[t / 2]!).1) (t % 2) h2']
      have hH : HoldsK (fun x : {x : Sx // RS9 wb x} => encS x.1) 2 W g 0 d := by
        intro j hj
        rw [size_flatK] at hj
        refine ⟨?_, blk_frozen h3 _⟩
        rw [blk_cell h3, Nat.zero_add, ← Array.getElem?_toList]
        have e2 := hat j hj
        rw [← h7, List.getElem?_take, if_pos (by rw [hn] at hds; omega)] at e2
        exact e2
      have hcmp : CmpLays Try.prog 53 #[] (fun x : {x : Sx // RS9 wb x} => encS x.1) 2 (fun x y => cmpN x.1.s.1 y.1.s.1) g 0 d.size W := by
        intro m os dk _ x y
        have ff := sortS_fr (enc := fun x : {x : Sx // RS9 wb x} => encS x.1) fr h2 m dk os
        refine (within1_c _ (x.2.fr ff) (y.2.fr ff)).mono ?_
        rintro e W' ⟨rfl, f1, d1⟩
        exact ⟨rfl, grow_ofS f1 d1⟩
      have hc := AnyQ.slices_SortFunc Try.sortF 2 (fun w => by kernel_rfl) (fun w => by kernel_rfl) (fun x : {x : Sx // RS9 wb x} => encS x.1) (fun _ => rfl) (fun x => encS_one x.1) (fun x y => cmpN x.1.s.1 y.1.s.1) (cmpS_swo (fun x : {x : Sx // RS9 wb x} => x.1)) 53 #[] g 0 c d W within1_enters hcmp hH (blk_lt h3) (by omega)
      rw [hds] at hc
      refine hc.mono ?_
      rintro e W' ⟨rfl, d', m, os, hp, hs, rfl⟩
      obtain ⟨p1, p2, p3⟩ := hp
      rw [hds] at p1
      have pe : d'.toList.Perm d.toList := by
        have q1 : (d'.extract 0 n) = d' := by rw [← p1]; simp
        have q2 : (d.extract 0 n) = d := by rw [← hds]; simp
        rw [q1, q2] at p3
        exact p3
      have hyl : (d'.toList.map (·.1)).length = n := by simp [p1]
      refine ⟨rfl, d'.toList.map (·.1), by rw [← hd]; exact pe.map _, ?_, ?_, ?_, sortS_fr fr h2 _ _ _⟩
      · unfold SortS
        rw [List.pairwise_iff_getElem]
        intro a b ha hb hab
        simp only [List.length_map, Array.length_toList] at ha hb
        have := hs a b (Nat.zero_le _) hab (by omega)
        rw [getElem!_pos d' b (by omega), getElem!_pos d' a (by omega)] at this
        simpa using of_decide_eq_false this
      · refine ⟨by rw [flat2_len], .inr ⟨g, c, _, by rw [hyl], h2, sortS_row h3, by rw [hyl]; omega, h5, by simp [putCells]; exact h6, ?_⟩⟩
        rw [hyl]
        apply List.ext_getElem?
        intro t
        rw [List.getElem?_take]
        by_cases ht : t < n * 2
        · rw [if_pos ht]
          have hlt : t / 2 < d'.size := by omega
          have e1 : (d'.toList.map (·.1))[t / 2]? = some (d'[t / 2]!).1 := by
            rw [List.getElem?_map, Array.getElem?_toList, Array.getElem?_eq_getElem hlt, getElem!_pos d' _ hlt]; rfl
          have h2' : t % 2 < (encS (d'[t / 2]!).1).length := by have : (encS (d'[t / 2]!).1).length = 2 := rfl; omega
          rw [flat2_at _ t _ e1, List.getElem?_eq_getElem h2']
          rw [Array.getElem?_toList]
          have hcs : t < cur.size := by rw [h6]; omega
          unfold putCells
          rw [Array.getElem?_mapIdx, Array.getElem?_eq_getElem hcs]
          simp only [Option.map_some]
          rw [if_pos ⟨Nat.zero_le _, by rw [size_flatK, p1]; omega⟩, Nat.sub_zero, get_flatK _ _ _ _ (by rw [p1]; exact ht), getElem!_pos (encS (d'[t / 2]!).1) (t % 2) h2']
          rfl
        · rw [if_neg ht, List.getElem?_eq_none (by rw [flat2_len, hyl]; omega)]
      · refine ⟨rfl, rfl, rfl, ?_, fun k hk hne => sortS_other hk (fun e => hne (by rw [e]; rfl))⟩
        unfold sortWorldK putRowK putRow mapBlock Sort.grow Sort.ahead
        simp
end Go.Proofs.Ythmlpjogbdpgiaa
