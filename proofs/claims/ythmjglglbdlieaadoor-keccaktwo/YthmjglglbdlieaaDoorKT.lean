/-
  A sponge in memory: its block, and what turns a part of it.
-/
import Derived.Test.YthmjglglbdlieaaDoorKM
import Derived.Test.YthmjglglbdlieaaDoorKS
import Derived.Laws.CopyRow
namespace Go.Proofs.YthmjglglbdlieaaDoor
open Go.ChangeShapes Go.WideShapes Go.ChangeAt Go.RowKit

/-- A sponge's cells. -/
def spc (f : Nat → BitVec 64) (g : Nat → BitVec 8) (n : Nat) : Array Value := Array.ofFn (n := 162) fun i => if i.1 < 25 then .int .u64 ((f i.1).toNat : Int) else if i.1 < 161 then .int .u8 ((g (i.1 - 25)).toNat : Int) else .int .i64 (n : Int)
theorem spc_size (f : Nat → BitVec 64) (g : Nat → BitVec 8) (n : Nat) : (spc f g n).size = 162 := Array.size_ofFn
theorem spc_at (f : Nat → BitVec 64) (g : Nat → BitVec 8) (n : Nat) {i : Nat} (h : i < 162) : (spc f g n)[i]? = some (if i < 25 then .int .u64 ((f i).toNat : Int) else if i < 161 then .int .u8 ((g (i - 25)).toNat : Int) else .int .i64 (n : Int)) := by
  unfold spc
  rw [Array.getElem?_ofFn]
  simp [h]
theorem spc_none (f : Nat → BitVec 64) (g : Nat → BitVec 8) (n : Nat) {i : Nat} (h : 162 ≤ i) : (spc f g n)[i]? = none := by
  rw [Array.getElem?_eq_none]; rw [spc_size]; omega
theorem spc_one (f : Nat → BitVec 64) (g : Nat → BitVec 8) (n : Nat) : (spc f g n).all (·.oneCell') = true := by
  rw [Array.all_eq_true]
  intro i hi
  simp only [spc, Array.getElem_ofFn]
  split
  · rfl
  · split <;> rfl
/-- An array that agrees with a sponge's cells is one. -/
theorem spc_ext {c : Array Value} {f : Nat → BitVec 64} {g : Nat → BitVec 8} {n : Nat} (hs : c.size = 162) (h : ∀ i, i < 162 → c[i]? = some (if i < 25 then .int .u64 ((f i).toNat : Int) else if i < 161 then .int .u8 ((g (i - 25)).toNat : Int) else .int .i64 (n : Int))) : c = spc f g n := by
  apply Array.ext_getElem?
  intro i
  by_cases hi : i < 162
  · rw [h i hi, spc_at _ _ _ hi]
  · rw [spc_none _ _ _ (by omega), Array.getElem?_eq_none (by omega)]
theorem spc_congr {f f' : Nat → BitVec 64} {g g' : Nat → BitVec 8} {n : Nat} (h1 : ∀ i, i < 25 → f i = f' i) (h2 : ∀ i, i < 136 → g i = g' i) : spc f g n = spc f' g' n := by
  refine spc_ext (spc_size _ _ _) fun i hi => ?_
  rw [spc_at _ _ _ hi]
  by_cases a : i < 25
  · rw [if_pos a, if_pos a, h1 i a]
  · rw [if_neg a, if_neg a]
    by_cases b : i < 161
    · rw [if_pos b, if_pos b, h2 _ (by omega)]
    · rw [if_neg b, if_neg b]

/-- A sponge lies in block p. -/
def IsSp (w : World) (p : Nat) (s : Sp) : Prop := w.heap[p]? = some (.cells (spc s.f s.g s.n) 46 (0, 0))
theorem IsSp.lane {w : World} {p : Nat} {s : Sp} (h : IsSp w p s) {i : Nat} (hi : i < 25) : w.cell? ⟨p, i, none⟩ = some (.int .u64 ((s.f i).toNat : Int)) := by
  rw [blk_cell h, spc_at _ _ _ (by omega), if_pos hi]
theorem IsSp.byte {w : World} {p : Nat} {s : Sp} (h : IsSp w p s) {i : Nat} (hi : i < 136) : w.cell? ⟨p, 25 + i, none⟩ = some (.int .u8 ((s.g i).toNat : Int)) := by
  rw [blk_cell h, spc_at _ _ _ (by omega), if_neg (by omega), if_pos (by omega), show 25 + i - 25 = i by omega]
theorem IsSp.fill {w : World} {p : Nat} {s : Sp} (h : IsSp w p s) : w.cell? ⟨p, 161, none⟩ = some (.int .i64 (s.n : Int)) := by
  rw [blk_cell h, spc_at _ _ _ (by omega)]; rfl
theorem IsSp.fz {w : World} {p : Nat} {s : Sp} (h : IsSp w p s) (i : Nat) : w.frozen? ⟨p, i, none⟩ = false := blk_frozen h i
theorem IsSp.fr {w w' : World} {p : Nat} {s : Sp} {S : List Nat} (h : IsSp w p s) (f : Fr S w w') (hp : p ∉ S) : IsSp w' p s := f.at h hp
theorem IsSp.setLane {w : World} {p : Nat} {s : Sp} (h : IsSp w p s) {k : Nat} (hk : k < 25) (x : BitVec 64) : IsSp (w.setCell ⟨p, k, none⟩ (.int .u64 (x.toNat : Int))) p ⟨up s.f k x, s.g, s.n⟩ := by
  refine (blk_set h k _).trans (congrArg (fun c => some (Obj.cells c 46 (0, 0))) (spc_ext (by rw [Array.size_setIfInBounds, spc_size]) fun i hi => ?_))
  rw [Array.getElem?_setIfInBounds, spc_size, spc_at _ _ _ hi]
  by_cases e : k = i
  · subst e
    rw [if_pos rfl, if_pos hi, if_pos hk]
    simp only [up_same]
  · rw [if_neg e]
    simp only [up_ne _ _ (fun h => e h.symm)]
theorem IsSp.setByte {w : World} {p : Nat} {s : Sp} (h : IsSp w p s) {k : Nat} (hk : k < 136) (x : BitVec 8) : IsSp (w.setCell ⟨p, 25 + k, none⟩ (.int .u8 (x.toNat : Int))) p ⟨s.f, up s.g k x, s.n⟩ := by
  refine (blk_set h (25 + k) _).trans (congrArg (fun c => some (Obj.cells c 46 (0, 0))) (spc_ext (by rw [Array.size_setIfInBounds, spc_size]) fun i hi => ?_))
  rw [Array.getElem?_setIfInBounds, spc_size, spc_at _ _ _ hi]
  by_cases e : 25 + k = i
  · subst e
    rw [if_pos rfl, if_pos hi, if_neg (by omega), if_pos (by omega), show 25 + k - 25 = k by omega]
    simp only [up_same]
  · rw [if_neg e]
    by_cases a : i < 25
    · rw [if_pos a, if_pos a]
    · rw [if_neg a, if_neg a]
      by_cases b : i < 161
      · rw [if_pos b, if_pos b]
        simp only [up_ne _ _ (show i - 25 ≠ k by omega)]
      · rw [if_neg b, if_neg b]
theorem IsSp.setFill {w : World} {p : Nat} {s : Sp} (h : IsSp w p s) (x : Nat) : IsSp (w.setCell ⟨p, 161, none⟩ (.int .i64 (x : Int))) p ⟨s.f, s.g, x⟩ := by
  refine (blk_set h 161 _).trans (congrArg (fun c => some (Obj.cells c 46 (0, 0))) (spc_ext (by rw [Array.size_setIfInBounds, spc_size]) fun i hi => ?_))
  rw [Array.getElem?_setIfInBounds, spc_size, spc_at _ _ _ hi]
  by_cases e : 161 = i
  · subst e
    rw [if_pos rfl, if_pos hi]; rfl
  · rw [if_neg e]
    by_cases a : i < 25
    · rw [if_pos a, if_pos a]
    · rw [if_neg a, if_neg a, if_pos (by omega), if_pos (by omega)]
/-- Many cells laid anew. -/
def setA (c : Array Value) : Nat → List Value → Array Value
  | _, [] => c
  | o, v :: r => setA (c.setIfInBounds o v) (o + 1) r
theorem setA_size : ∀ (vs : List Value) (c : Array Value) (o : Nat), (setA c o vs).size = c.size
  | [], _, _ => rfl
  | v :: r, c, o => by unfold setA; rw [setA_size r]; simp
theorem setA_at : ∀ (vs : List Value) (c : Array Value) (o i : Nat), i < c.size → (setA c o vs)[i]? = if o ≤ i ∧ i < o + vs.length then vs[i - o]? else c[i]?
  | [], c, o, i, _ => by unfold setA; rw [if_neg (by simp)]
  | v :: r, c, o, i, h => by
    unfold setA
    rw [setA_at r _ _ _ (by simpa using h), Array.getElem?_setIfInBounds]
    simp only [List.length_cons]
    by_cases h1 : o + 1 ≤ i ∧ i < o + 1 + r.length
    · rw [if_pos h1, if_pos (by omega), show i - o = (i - (o + 1)) + 1 by omega, List.getElem?_cons_succ]
    · rw [if_neg h1]
      by_cases h2 : o = i
      · subst h2
        rw [if_pos rfl, if_pos h, if_pos (by omega), Nat.sub_self]; rfl
      · rw [if_neg h2, if_neg (by omega)]
theorem blk_setCells {b : Nat} {t : TypeId} : ∀ (vs : List Value) (o : Nat) (c : Array Value) (w : World), w.heap[b]? = some (.cells c t (0, 0)) → (w.setCells b o vs).heap[b]? = some (.cells (setA c o vs) t (0, 0))
  | [], _, _, _, h => h
  | v :: r, o, _, _, h => blk_setCells r (o + 1) _ _ (blk_set h o v)
theorem blk_setCells_ne {b k : Nat} (hk : k ≠ b) : ∀ (vs : List Value) (o : Nat) (w : World), (w.setCells b o vs).heap[k]? = w.heap[k]?
  | [], _, _ => rfl
  | _ :: r, o, _ => (blk_setCells_ne hk r (o + 1) _).trans (blk_setne _ _ _ hk)
theorem Fr.cells {S : List Nat} {b : Nat} {a : World} (hp : b ∈ S ∨ a.heap.size ≤ b) : ∀ (vs : List Value) (o : Nat) (w : World), Fr S a w → Fr S a (w.setCells b o vs)
  | [], _, _, h => h
  | v :: r, o, _, h => Fr.cells hp r (o + 1) _ (h.set o v hp)
/-- A sponge's lanes, its block laid anew. -/
theorem IsSp.setLanes {w : World} {p : Nat} {s : Sp} (h : IsSp w p s) (F : Nat → BitVec 64) : IsSp (w.setCells p 0 (vals 25 F).toList) p ⟨F, s.g, s.n⟩ := by
  refine (blk_setCells _ _ _ _ h).trans (congrArg (fun c => some (Obj.cells c 46 (0, 0))) (spc_ext (by rw [setA_size, spc_size]) fun i hi => ?_))
  rw [setA_at _ _ _ _ (by rw [spc_size]; exact hi), spc_at _ _ _ hi, Array.length_toList, vals_size]
  by_cases a : i < 25
  · rw [if_pos (by omega), if_pos a, Nat.sub_zero, Array.getElem?_toList, vals_at _ a]; rfl
  · rw [if_neg (by omega), if_neg a, if_neg a]
def b8vals (g : Nat → BitVec 8) : Array Value := bvals 136 fun i => (g i).toNat
theorem IsSp.setBlock {w : World} {p : Nat} {s : Sp} (h : IsSp w p s) (G : Nat → BitVec 8) : IsSp (w.setCells p 25 (b8vals G).toList) p ⟨s.f, G, s.n⟩ := by
  refine (blk_setCells _ _ _ _ h).trans (congrArg (fun c => some (Obj.cells c 46 (0, 0))) (spc_ext (by rw [setA_size, spc_size]) fun i hi => ?_))
  rw [setA_at _ _ _ _ (by rw [spc_size]; exact hi), spc_at _ _ _ hi, Array.length_toList, b8vals, bvals_size]
  by_cases a : i < 25
  · rw [if_neg (by omega), if_pos a, if_pos a]
  · by_cases b : i < 161
    · rw [if_pos (by omega), if_neg a, if_pos b, Array.getElem?_toList, bvals_at _ (by omega)]
    · rw [if_neg (by omega), if_neg a, if_neg b, if_neg a, if_neg b]
/-- Bytes copied into the block. -/
theorem IsSp.laid {w : World} {p : Nat} {s : Sp} (h : IsSp w p s) {ns : List Nat} (hb : ∀ x ∈ ns, x < 256) (hn : s.n + ns.length ≤ 136) : IsSp (w.setCells p (25 + s.n) (ns.map fun n : Nat => Value.int .u8 (n : Int))) p ⟨s.f, lay s.g s.n ns, s.n⟩ := by
  refine (blk_setCells _ _ _ _ h).trans (congrArg (fun c => some (Obj.cells c 46 (0, 0))) (spc_ext (by rw [setA_size, spc_size]) fun i hi => ?_))
  rw [setA_at _ _ _ _ (by rw [spc_size]; exact hi), spc_at _ _ _ hi, List.length_map]
  by_cases c : 25 + s.n ≤ i ∧ i < 25 + s.n + ns.length
  · rw [if_pos c, if_neg (by omega), if_pos (by omega), List.getElem?_map]
    have hlt : i - (25 + s.n) < ns.length := by omega
    rw [List.getElem?_eq_getElem hlt]
    simp only [Option.map_some]
    unfold lay
    rw [if_pos (by omega)]
    have hx := hb _ (List.getElem_mem hlt)
    simp only [List.getD_eq_getElem?_getD, show i - 25 - s.n = i - (25 + s.n) by omega, List.getElem?_eq_getElem hlt, Option.getD_some, BitVec.toNat_ofNat]
    rw [Nat.mod_eq_of_lt (by omega)]
  · rw [if_neg c]
    by_cases a : i < 25
    · rw [if_pos a, if_pos a]
    · rw [if_neg a, if_neg a]
      by_cases b : i < 161
      · rw [if_pos b, if_pos b]
        unfold lay
        simp only
        rw [if_neg (by omega)]
      · rw [if_neg b, if_neg b]
end Go.Proofs.YthmjglglbdlieaaDoor
