/-
  The order of internal keys, without the program: it goes both ways, and on from one to another.
-/
import Derived.Test.YtkljblgogiheoaaJ06
import Derived.Test.YtkljblgogiheoaaNum
import Derived.Shelf.SlSortCmp.WholeK
import Derived.Shelf.SlSortCmp.NoneTotal
import Derived.Ground.SlsfProg
import Derived.Test.YtkljblgogiheoaaProg
namespace Go.Proofs.Ytkljblgogiheoaa
open Go.ChangeShapes Go.WideShapes Go.ChangeAt Go.RowKit

/-- Of the same user key: the greater moment ahead. -/
def ord2 (s t k l : Int) : Int := if cmpI t s = 0 then cmpI l k else cmpI t s
theorem cmpI_cases (x y : Int) : (x < y ∧ cmpI x y = -1) ∨ (y < x ∧ cmpI x y = 1) ∨ (x = y ∧ cmpI x y = 0) := by
  unfold cmpI
  rcases (show x < y ∨ y < x ∨ x = y from by omega) with h | h | h
  · exact .inl ⟨h, by rw [if_pos h]⟩
  · exact .inr (.inl ⟨h, by rw [if_neg (by omega), if_pos h]⟩)
  · exact .inr (.inr ⟨h, by rw [if_neg (by omega), if_neg (by omega)]⟩)
theorem ord2_cases (s t k l : Int) : ((t < s ∨ s = t ∧ l < k) ∧ ord2 s t k l = -1) ∨ ((s < t ∨ s = t ∧ k < l) ∧ ord2 s t k l = 1) ∨ (s = t ∧ k = l ∧ ord2 s t k l = 0) := by
  unfold ord2
  rcases cmpI_cases t s with ⟨h, e⟩ | ⟨h, e⟩ | ⟨h, e⟩
  · rw [e, if_neg (by omega)]; exact .inl ⟨.inl h, rfl⟩
  · rw [e, if_neg (by omega)]; exact .inr (.inl ⟨.inl h, rfl⟩)
  · rw [e, if_pos rfl]
    rcases cmpI_cases l k with ⟨g, f⟩ | ⟨g, f⟩ | ⟨g, f⟩
    · exact .inl ⟨.inr ⟨h.symm, g⟩, f⟩
    · exact .inr (.inl ⟨.inr ⟨h.symm, g⟩, f⟩)
    · exact .inr (.inr ⟨h.symm, g.symm, f⟩)
theorem ordP_def (u v : List Nat) (s t k l : Int) : ordP u v s t k l = if cmpN u v = 0 then ord2 s t k l else cmpN u v := rfl
theorem ordP_val (u v : List Nat) (s t k l : Int) : -1 ≤ ordP u v s t k l ∧ ordP u v s t k l ≤ 1 := by
  rw [ordP_def]
  have h1 := cmpN_val u v
  have h2 := ord2_cases s t k l
  split <;> omega
theorem ordP_neg (u v : List Nat) (s t k l : Int) : ordP v u t s l k = -ordP u v s t k l := by
  rw [ordP_def, ordP_def, cmpN_neg u v]
  have h1 := cmpN_val u v
  have h2 := ord2_cases s t k l
  have h3 := ord2_cases t s l k
  by_cases h : cmpN u v = 0
  · rw [if_pos (by omega), if_pos h]; omega
  · rw [if_neg (by omega), if_neg h]
theorem ordP_trans (u v z : List Nat) (s t r k l m : Int) (h1 : ordP u v s t k l ≤ 0) (h2 : ordP v z t r l m ≤ 0) : ordP u z s r k m ≤ 0 := by
  rw [ordP_def] at h1 h2 ⊢
  have c1 : cmpN u v ≤ 0 := by
    by_cases e : cmpN u v = 0
    · omega
    · rw [if_neg e] at h1; exact h1
  have c2 : cmpN v z ≤ 0 := by
    by_cases e : cmpN v z = 0
    · omega
    · rw [if_neg e] at h2; exact h2
  have c3 := cmpN_trans u v z c1 c2
  by_cases e : cmpN u z = 0
  · have euz := (cmpN_eq u z).1 e
    subst euz
    have c4 := cmpN_neg u v
    have e1 : cmpN u v = 0 := by omega
    have e2 : cmpN v u = 0 := by omega
    rw [if_pos e1] at h1
    rw [if_pos e2] at h2
    rw [if_pos e]
    have o1 := ord2_cases s t k l
    have o2 := ord2_cases t r l m
    have o3 := ord2_cases s r k m
    omega
  · rw [if_neg e]; exact c3

theorem ordK_val (a b : List Nat) : -1 ≤ ordK a b ∧ ordK a b ≤ 1 := ordP_val _ _ _ _ _ _
theorem ordK_neg (a b : List Nat) : ordK b a = -ordK a b := ordP_neg _ _ _ _ _ _
theorem ordK_trans (a b c : List Nat) (h1 : ordK a b ≤ 0) (h2 : ordK b c ≤ 0) : ordK a c ≤ 0 := ordP_trans _ _ _ _ _ _ _ _ _ h1 h2
theorem unf_inj' {a b : List Nat} (ha : By a) (hb : By b) (hl : a.length = b.length) (h : unf a = unf b) : a = b := by
  rw [← fixL_unf a ha, ← fixL_unf b hb, h, hl]
theorem ordK_eq {a b : List Nat} (ha : By a) (hb : By b) (ka : 8 ≤ a.length) (kb : 8 ≤ b.length) (h : ordK a b = 0) : a = b := by
  unfold ordK at h
  rw [ordP_def] at h
  have e : cmpN (userL a) (userL b) = 0 := by
    by_cases e : cmpN (userL a) (userL b) = 0
    · exact e
    · rw [if_neg e] at h; exact h
  rw [if_pos e] at h
  have eu := (cmpN_eq _ _).1 e
  have o := ord2_cases ((tailN a / 256 : Nat) : Int) ((tailN b / 256 : Nat) : Int) ((tailN a % 256 : Nat) : Int) ((tailN b % 256 : Nat) : Int)
  have et : tailN a = tailN b := by omega
  have ed : a.drop (a.length - 8) = b.drop (b.length - 8) := unf_inj' (ha.drop _) (hb.drop _) (by rw [List.length_drop, List.length_drop]; omega) et
  rw [← List.take_append_drop (a.length - 8) a, ← List.take_append_drop (b.length - 8) b, ed]
  have eu' : a.take (a.length - 8) = b.take (b.length - 8) := eu
  rw [eu']
end Go.Proofs.Ytkljblgogiheoaa
namespace Go.Proofs
open Go.Shelf
def Try.sortF_ren : Go.Shelf.Ren := ⟨fun | 6 => 49 | 15 => 67 | 14 => 66 | 28 => 84 | 29 => 85 | 20 => 76 | 21 => 77 | 22 => 78 | 23 => 79 | 24 => 80 | 25 => 81 | 26 => 82 | 27 => 83 | 46 => 91 | 47 => 92 | 48 => 93 | 49 => 94 | 50 => 95 | 57 => 97 | n => n, fun | 22 => 23 | 24 => 55 | 25 => 91 | 3 => 3 | 39 => 100 | 0 => 0 | 53 => 127 | 55 => 22 | 4 => 4 | 46 => 120 | 45 => 119 | 50 => 124 | 5 => 5 | 9 => 9 | 66 => 131 | 70 => 134 | 76 => 137 | 77 => 138 | n => n, fun | n => n⟩
theorem Try.sortF : Go.Proofs.SlLaysF0.n6 Try.prog Try.sortF_ren := {
  mixed := by kernel_rfl
  f6 := ⟨Try.f49.name, by decide, Try.func49.trans (congrArg some (by kernel_rfl))⟩
  f14 := ⟨Try.f66.name, by decide, Try.func66.trans (congrArg some (by kernel_rfl))⟩
  f15 := Try.func67.trans (congrArg some (by kernel_rfl))
  f20 := ⟨Try.f76.name, by decide, Try.func76.trans (congrArg some (by kernel_rfl))⟩
  f21 := ⟨Try.f77.name, by decide, Try.func77.trans (congrArg some (by kernel_rfl))⟩
  f22 := ⟨Try.f78.name, by decide, Try.func78.trans (congrArg some (by kernel_rfl))⟩
  f23 := ⟨Try.f79.name, by decide, Try.func79.trans (congrArg some (by kernel_rfl))⟩
  f24 := ⟨Try.f80.name, by decide, Try.func80.trans (congrArg some (by kernel_rfl))⟩
  f25 := ⟨Try.f81.name, by decide, Try.func81.trans (congrArg some (by kernel_rfl))⟩
  f26 := ⟨Try.f82.name, by decide, Try.func82.trans (congrArg some (by kernel_rfl))⟩
  f27 := ⟨Try.f83.name, by decide, Try.func83.trans (congrArg some (by kernel_rfl))⟩
  f28 := Try.func84.trans (congrArg some (by kernel_rfl))
  f29 := Try.func85.trans (congrArg some (by kernel_rfl))
  f46 := ⟨Try.f91.name, by decide, Try.func91.trans (congrArg some (by kernel_rfl))⟩
  f47 := Try.func92.trans (congrArg some (by kernel_rfl))
  f48 := Try.func93.trans (congrArg some (by kernel_rfl))
  f49 := ⟨Try.f94.name, by decide, Try.func94.trans (congrArg some (by kernel_rfl))⟩
  f50 := ⟨Try.f95.name, by decide, Try.func95.trans (congrArg some (by kernel_rfl))⟩
  f57 := ⟨Try.f97.name, by decide, Try.func97.trans (congrArg some (by kernel_rfl))⟩
  t0 := Try.underlying0
  a0 := Try.isAgg0
  z0 := Try.sizeOf0
  v0 := Try.zeroValue0
  t3 := Try.underlying3
  a3 := Try.isAgg3
  z3 := Try.sizeOf3
  v3 := Try.zeroValue3
  t4 := Try.underlying4
  a4 := Try.isAgg4
  z4 := Try.sizeOf4
  v4 := Try.zeroValue4
  t5 := Try.underlying5
  a5 := Try.isAgg5
  z5 := Try.sizeOf5
  v5 := Try.zeroValue5
  t9 := Try.underlying9
  a9 := Try.isAgg9
  z9 := Try.sizeOf9
  v9 := Try.zeroValue9
  t22 := Try.underlying23
  a22 := Try.isAgg23
  z22 := Try.sizeOf23
  v22 := Try.zeroValue23
  t25 := Try.underlying91
  a25 := Try.isAgg91
  z25 := Try.sizeOf91
  v25 := Try.zeroValue91
  t39 := Try.underlying100
  a39 := Try.isAgg100
  z39 := Try.sizeOf100
  v39 := Try.zeroValue100
  t45 := Try.underlying119
  a45 := Try.isAgg119
  z45 := Try.sizeOf119
  v45 := Try.zeroValue119
  t46 := Try.underlying120
  a46 := Try.isAgg120
  z46 := Try.sizeOf120
  v46 := Try.zeroValue120
  t50 := Try.underlying124
  a50 := Try.isAgg124
  z50 := Try.sizeOf124
  v50 := Try.zeroValue124
  t53 := Try.underlying127
  a53 := Try.isAgg127
  z53 := Try.sizeOf127
  v53 := Try.zeroValue127
  t55 := Try.underlying22
  a55 := Try.isAgg22
  z55 := Try.sizeOf22
  v55 := Try.zeroValue22
  t66 := Try.underlying131
  a66 := Try.isAgg131
  z66 := Try.sizeOf131
  v66 := Try.zeroValue131
  t70 := Try.underlying134
  a70 := Try.isAgg134
  z70 := Try.sizeOf134
  v70 := Try.zeroValue134
  t76 := Try.underlying137
  a76 := Try.isAgg137
  z76 := Try.sizeOf137
  v76 := Try.zeroValue137
  t77 := Try.underlying138
  a77 := Try.isAgg138
  z77 := Try.sizeOf138
  v77 := Try.zeroValue138 }
end Go.Proofs
