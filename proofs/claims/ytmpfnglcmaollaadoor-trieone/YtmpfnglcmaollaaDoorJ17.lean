/-
  A sponge in memory: its block, and what turns a part of it.
-/
import Derived.Test.YtmpfnglcmaollaaDoorJ16
import Derived.Test.YtmpfnglcmaollaaDoorJ11
import Derived.Laws.CopyRow
namespace Go.Proofs.YtmpfnglcmaollaaDoor
open Go.ChangeShapes Go.WideShapes Go.ChangeAt Go.RowKit

/-- A sponge's cells. -/
def spc (f : Nat → BitVec 64) (g : Nat → BitVec 8) (n : Nat) : Array Value := Array.ofFn (n := 162) fun i => if i.1 < 25 then .int .u64 ((f i.1).toNat : Int) else if i.1 < 161 then .int .u8 ((g (i.1 - 25)).toNat : Int) else .int .i64 (n : Int)
theorem spc_size (f : Nat → BitVec 64) (g : Nat → BitVec 8) (n : Nat) : (spc f g n).size = 162 := Array.size_ofFn
theorem spc_at (f : Nat → BitVec 64) (g : Nat → BitVec 8) (n : Nat) {i : Nat} (h : i < 162) : (spc f g n)[i]? = some (if i < 25 then .int .u64 ((f i).toNat : Int) else if i < 161 then .int .u8 ((g (i - 25)).toNat : Int) else .int .i64 (n : Int)) := by
  unfold spc
  rw [Array.getElem?_ofFn]
  simp [h]
theorem spc_none (f : Nat → BitVec 64) (g : Nat → BitVec 8) (n : Nat) {i : Nat} (h : 162 ≤ i) : (spc f g n)[i]? = none := by
  rw [Array.getElem?_eq_none]; rw [spc_size]; omega
theorem spc_one (f : Nat → BitVec 64) (g : Nat → BitVec 8) (n : Nat) : (spc f g n).all (·.oneCell') = true := by
  rw [Array.all_eq_true]
  intro i hi
  simp only [spc, Array.getElem_ofFn]
  split
  · rfl
  · split <;> rfl
/-- An array that agrees with a sponge's cells is one. -/
theorem spc_ext {c : Array Value} {f : Nat → BitVec 64} {g : Nat → BitVec 8} {n : Nat} (hs : c.size = 162) (h : ∀ i, i < 162 → c[i]? = some (if i < 25 then .int .u64 ((f i).toNat : Int) else if i < 161 then .int .u8 ((g (i - 25)).toNat : Int) else .int .i64 (n : Int))) : c = spc f g n := by
  apply Array.ext_getElem?
  intro i
  by_cases hi : i < 162
  · rw [h i hi, spc_at _ _ _ hi]
  · rw [spc_none _ _ _ (by omega), Array.getElem?_eq_none (by omega)]
theorem spc_congr {f f' : Nat → BitVec 64} {g g' : Nat → BitVec 8} {n : Nat} (h1 : ∀ i, i < 25 → f i = f' i) (h2 : ∀ i, i < 136 → g i = g' i) : spc f g n = spc f' g' n := by
  refine spc_ext (spc_size _ _ _) fun i hi => ?_
  rw [spc_at _ _ _ hi]
  by_cases a : i < 25
  · rw [if_pos a, if_pos a, h1 i a]
  · rw [if_neg a, if_neg a]
    by_cases b : i < 161
    · rw [if_pos b, if_pos b, h2 _ (by omega)]
    · rw [if_neg b, if_neg b]

/-- A sponge lies in block p. -/
def IsSp (w : World) (p : Nat) (s : Sp) : Prop := w.heap[p]? = some (.cells (spc s.f s.g s.n) 120 (0, 0))
theorem IsSp.lane {w : World} {p : Nat} {s : Sp} (h : IsSp w p s) {i : Nat} (hi : i < 25) : w.cell? ⟨p, i, none⟩ = some (.int .u64 ((s.f i).toNat : Int)) := by
  rw [blk_cell h, spc_at _ _ _ (by omega), if_pos hi]
theorem IsSp.byte {w : World} {p : Nat} {s : Sp} (h : IsSp w p s) {i : Nat} (hi : i < 136) : w.cell? ⟨p, 25 + i, none⟩ = some (.int .u8 ((s.g i).toNat : Int)) := by
  rw [blk_cell h, spc_at _ _ _ (by omega), if_neg (by omega), if_pos (by omega), show 25 + i - 25 = i by omega]
theorem IsSp.fill {w : World} {p : Nat} {s : Sp} (h : IsSp w p s) : w.cell? ⟨p, 161, none⟩ = some (.int .i64 (s.n : Int)) := by
  rw [blk_cell h, spc_at _ _ _ (by omega)]; rfl
theorem IsSp.fz {w : World} {p : Nat} {s : Sp} (h : IsSp w p s) (i : Nat) : w.frozen? ⟨p, i, none⟩ = false := blk_frozen h i
theorem IsSp.fr {w w' : World} {p : Nat} {s : Sp} {S : List Nat} (h : IsSp w p s) (f : Fr S w w') (hp : p ∉ S) : IsSp w' p s := f.at h hp
theorem IsSp.setLane {w : World} {p : Nat} {s : Sp} (h : IsSp w p s) {k : Nat} (hk : k < 25) (x : BitVec 64) : IsSp (w.setCell ⟨p, k, none⟩ (.int .u64 (x.toNat : Int))) p ⟨up s.f k x, s.g, s.n⟩ := by
  refine (blk_set h k _).trans (congrArg (fun c => some (Obj.cells c 120 (0, 0))) (spc_ext (by rw [Array.size_setIfInBounds, spc_size]) fun i hi => ?_))
  rw [Array.getElem?_setIfInBounds, spc_size, spc_at _ _ _ hi]
  by_cases e : k = i
  · subst e
    rw [if_pos rfl, if_pos hi, if_pos hk]
    simp only [up_same]
  · rw [if_neg e]
    simp only [up_ne _ _ (fun h => e h.symm)]
theorem IsSp.setByte {w : World} {p : Nat} {s : Sp} (h : IsSp w p s) {k : Nat} (hk : k < 136) (x : BitVec 8) : IsSp (w.setCell ⟨p, 25 + k, none⟩ (.int .u8 (x.toNat : Int))) p ⟨s.f, up s.g k x, s.n⟩ := by
  refine (blk_set h (25 + k) _).trans (congrArg (fun c => some (Obj.cells c 120 (0, 0))) (spc_ext (by rw [Array.size_setIfInBounds, spc_size]) fun i hi => ?_))
  rw [Array.getElem?_setIfInBounds, spc_size, spc_at _ _ _ hi]
  by_cases e : 25 + k = i
  · subst e
    rw [if_pos rfl, if_pos hi, if_neg (by omega), if_pos (by omega), show 25 + k - 25 = k by omega]
    simp only [up_same]
  · rw [if_neg e]
    by_cases a : i < 25
    · rw [if_pos a, if_pos a]
    · rw [if_neg a, if_neg a]
      by_cases b : i < 161
      · rw [if_pos b, if_pos b]
        simp only [up_ne _ _ (show i - 25 ≠ k by omega)]
      · rw [if_neg b, if_neg b]
theorem IsSp.setFill {w : World} {p : Nat} {s : Sp} (h : IsSp w p s) (x : Nat) : IsSp (w.setCell ⟨p, 161, none⟩ (.int .i64 (x : Int))) p ⟨s.f, s.g, x⟩ := by
  refine (blk_set h 161 _).trans (congrArg (fun c => some (Obj.cells c 120 (0, 0))) (spc_ext (by rw [Array.size_setIfInBounds, spc_size]) fun i hi => ?_))
  rw [Array.getElem?_setIfInBounds, spc_size, spc_at _ _ _ hi]
  by_cases e : 161 = i
  · subst e
    rw [if_pos rfl, if_pos hi]; rfl
  · rw [if_neg e]
    by_cases a : i < 25
    · rw [if_pos a, if_pos a]
    · rw [if_neg a, if_neg a, if_pos (by omega), if_pos (by omega)]
/-- Many cells laid anew. -/
def setA (c : Array Value) : Nat → List Value → Array Value
  | _, [] => c
  | o, v :: r => setA (c.setIfInBounds o v) (o + 1) r
theorem setA_size : ∀ (vs : List Value) (c : Array Value) (o : Nat), (setA c o vs).size = c.size
  | [], _, _ => rfl
  | v :: r, c, o => by unfold setA; rw [setA_size r]; simp
theorem setA_at : ∀ (vs : List Value) (c : Array Value) (o i : Nat), i < c.size → (setA c o vs)[i]? = if o ≤ i ∧ i < o + vs.length then vs[i - o]? else c[i]?
  | [], c, o, i, _ => by unfold setA; rw [if_neg (by simp)]
  | v :: r, c, o, i, h => by
    unfold setA
    rw [setA_at r _ _ _ (by simpa using h), Array.getElem?_setIfInBounds]
    simp only [List.length_cons]
    by_cases h1 : o + 1 ≤ i ∧ i < o + 1 + r.length
    · rw [if_pos h1, if_pos (by omega), show i - o = (i - (o + 1)) + 1 by omega, List.getElem?_cons_succ]
    · rw [if_neg h1]
      by_cases h2 : o = i
      · subst h2
        rw [if_pos rfl, if_pos h, if_pos (by omega), Nat.sub_self]; rfl
      · rw [if_neg h2, if_neg (by omega)]
theorem blk_setCells {b : Nat} {t : TypeId} : ∀ (vs : List Value) (o : Nat) (c : Array Value) (w : World), w.heap[b]? = some (.cells c t (0, 0)) → (w.setCells b o vs).heap[b]? = some (.cells (setA c o vs) t (0, 0))
  | [], _, _, _, h => h
  | v :: r, o, _, _, h => blk_setCells r (o + 1) _ _ (blk_set h o v)
theorem blk_setCells_ne {b k : Nat} (hk : k ≠ b) : ∀ (vs : List Value) (o : Nat) (w : World), (w.setCells b o vs).heap[k]? = w.heap[k]?
  | [], _, _ => rfl
  | _ :: r, o, _ => (blk_setCells_ne hk r (o + 1) _).trans (blk_setne _ _ _ hk)
theorem Fr.cells {S : List Nat} {b : Nat} {a : World} (hp : b ∈ S ∨ a.heap.size ≤ b) : ∀ (vs : List Value) (o : Nat) (w : World), Fr S a w → Fr S a (w.setCells b o vs)
  | [], _, _, h => h
  | v :: r, o, _, h => Fr.cells hp r (o + 1) _ (h.set o v hp)
/-- A sponge's lanes, its block laid anew. -/
theorem IsSp.setLanes {w : World} {p : Nat} {s : Sp} (h : IsSp w p s) (F : Nat → BitVec 64) : IsSp (w.setCells p 0 (vals 25 F).toList) p ⟨F, s.g, s.n⟩ := by
  refine (blk_setCells _ _ _ _ h).trans (congrArg (fun c => some (Obj.cells c 120 (0, 0))) (spc_ext (by rw [setA_size, spc_size]) fun i hi => ?_))
  rw [setA_at _ _ _ _ (by rw [spc_size]; exact hi), spc_at _ _ _ hi, Array.length_toList, vals_size]
  by_cases a : i < 25
  · rw [if_pos (by omega), if_pos a, Nat.sub_zero, Array.getElem?_toList, vals_at _ a]; rfl
  · rw [if_neg (by omega), if_neg a, if_neg a]
def b8vals (g : Nat → BitVec 8) : Array Value := bvals 136 fun i => (g i).toNat
theorem IsSp.setBlock {w : World} {p : Nat} {s : Sp} (h : IsSp w p s) (G : Nat → BitVec 8) : IsSp (w.setCells p 25 (b8vals G).toList) p ⟨s.f, G, s.n⟩ := by
  refine (blk_setCells _ _ _ _ h).trans (congrArg (fun c => some (Obj.cells c 120 (0, 0))) (spc_ext (by rw [setA_size, spc_size]) fun i hi => ?_))
  rw [setA_at _ _ _ _ (by rw [spc_size]; exact hi), spc_at _ _ _ hi, Array.length_toList, b8vals, bvals_size]
  by_cases a : i < 25
  · rw [if_neg (by omega), if_pos a, if_pos a]
  · by_cases b : i < 161
    · rw [if_pos (by omega), if_neg a, if_pos b, Array.getElem?_toList, bvals_at _ (by omega)]
    · rw [if_neg (by omega), if_neg a, if_neg b, if_neg a, if_neg b]
/-- Bytes copied into the block. -/
theorem IsSp.laid {w : World} {p : Nat} {s : Sp} (h : IsSp w p s) {ns : List Nat} (hb : ∀ x ∈ ns, x < 256) (hn : s.n + ns.length ≤ 136) : IsSp (w.setCells p (25 + s.n) (ns.map fun n : Nat => Value.int .u8 (n : Int))) p ⟨s.f, lay s.g s.n ns, s.n⟩ := by
  refine (blk_setCells _ _ _ _ h).trans (congrArg (fun c => some (Obj.cells c 120 (0, 0))) (spc_ext (by rw [setA_size, spc_size]) fun i hi => ?_))
  rw [setA_at _ _ _ _ (by rw [spc_size]; exact hi), spc_at _ _ _ hi, List.length_map]
  by_cases c : 25 + s.n ≤ i ∧ i < 25 + s.n + ns.length
  · rw [if_pos c, if_neg (by omega), if_pos (by omega), List.getElem?_map]
    have hlt : i - (25 + s.n) < ns.length := by omega
    rw [List.getElem?_eq_getElem hlt]
    simp only [Option.map_some]
    unfold lay
    rw [if_pos (by omega)]
    have hx := hb _ (List.getElem_mem hlt)
    simp only [List.getD_eq_getElem?_getD, show i - 25 - s.n = i - (25 + s.n) by omega, List.getElem?_eq_getElem hlt, Option.getD_some, BitVec.toNat_ofNat]
    rw [Nat.mod_eq_of_lt (by omega)]
  · rw [if_neg c]
    by_cases a : i < 25
    · rw [if_pos a, if_pos a]
    · rw [if_neg a, if_neg a]
      by_cases b : i < 161
      · rw [if_pos b, if_pos b]
        unfold lay
        simp only
        rw [if_neg (by omega)]
      · rw [if_neg b, if_neg b]
end Go.Proofs.YtmpfnglcmaollaaDoor
namespace Go.Proofs.YtmpfnglcmaollaaDoor
open Go.ChangeShapes Go.WideShapes Go.ChangeAt Go.RowKit

/-- A sponge's block from a place on. -/
theorem sliceB (w : World) (p l : Nat) (hl : l < 136) : (Instr.sliceAt 118 (.pointer (some ⟨p, 25, none⟩)) (some (.int .i64 (l : Int))) none none).run Tryd.prog w = .ok (.slice (some ⟨p, 25 + l, none⟩) (136 - l) (136 - l)) w := by
  have h1 : Tryd.prog.arrayLen 118 = 136 := by kernel_rfl
  have h3 : (sizeOf (Tryd.prog.elem 118)).run Tryd.prog w = .ok 1 w := by kernel_rfl
  have := run_sliceAt_array_l (P := Tryd.prog) w 118 ⟨p, 25, none⟩ (by kernel_rfl) .i64 (l : Int) (by omega) (by rw [h1]; omega)
  rw [this, h3, h1]
  simp only [Result.andThen_ok, slicedAt, Int.toNat_natCast, Nat.mul_one]
  rw [if_neg (by omega), Addr.add_mid]
theorem lane_val (g : Nat → BitVec 8) (o k : Nat) : bits .or .u64 ((laneO g o k).toNat : Int) (IntKind.u64.wrap (((g (o + k)).toNat : Int) * 2 ^ (8 * k))) = ((laneO g o (k + 1)).toNat : Int) := by
  have h : ((g (o + k)).toNat : Int) = (((g (o + k)).setWidth 64).toNat : Int) := by
    have := (g (o + k)).isLt
    rw [BitVec.toNat_setWidth]
    omega
  rw [h, bits_shl, bits_or]
  rfl
set_option maxRecDepth 20000 in
set_option maxHeartbeats 400000 in
theorem lane_c (w : World) {p : Nat} {s : Sp} (h : IsSp w p s) {i : Nat} (hi : i < 17) :
    Calls Tryd.prog 107 #[.slice (some ⟨p, 25 + 8 * i, none⟩) (136 - 8 * i) (136 - 8 * i)] w fun e w' => e = .returned (.int .u64 ((laneO s.g (8 * i) 8).toNat : Int)) ∧ w' = w := by
  have HS := hid h
  clear h
  go_enter Tryd.func107, Tryd.ntmps107
  go_wp2
  go_loop [3, 9] (fun v3 v9 => ∃ k : Nat, k ≤ 8 ∧ v9 = .int .i64 (k : Int) ∧ v3 = .int .u64 ((laneO s.g (8 * i) k).toNat : Int)) (fun _ v9 => 8 - (intOf v9).toNat)
  case atStart => exact ⟨0, by omega, rfl, rfl⟩
  case round =>
    obtain ⟨k, hk, rfl, rfl⟩ := hrel
    by_cases hlt : k < 8
    · have e0 := HS.out.byte (i := 8 * i + k) (by omega)
      rw [← Nat.add_assoc] at e0
      have hv := lane_val s.g (8 * i) k
      go_wp2
      go_round
      case rel => exact ⟨k + 1, by omega, by go_num, by first | rfl | rw [hv]⟩
      case measure => simp [intOf]; omega
    · have hk8 : k = 8 := by omega
      subst hk8
      go_wp2
      go_ret
      exact ⟨rfl, rfl⟩
end Go.Proofs.YtmpfnglcmaollaaDoor
namespace Go.Proofs.YtmpfnglcmaollaaDoor
open Go.ChangeShapes Go.WideShapes Go.ChangeAt Go.RowKit

/-- Rows below y are mixed. -/
def chiTo (f : Nat → BitVec 64) (y : Nat) : Nat → BitVec 64 := fun i => if i < y then chi f i else f i
theorem chi_step {wr : World} {b m : Nat} {f : Nat → BitVec 64} {t : TypeId} (h5 : m % 5 = 0) (hb : wr.heap[b]? = some (.cells (vals 25 (chiTo f m)) t (0, 0))) :
    (((((wr.setCell ⟨b, m, none⟩ (.int .u64 ((f m ^^^ (~~~ f (m + 1) &&& f (m + 2))).toNat : Int))).setCell ⟨b, m + 1, none⟩ (.int .u64 ((f (m + 1) ^^^ (~~~ f (m + 2) &&& f (m + 3))).toNat : Int))).setCell ⟨b, m + 2, none⟩ (.int .u64 ((f (m + 2) ^^^ (~~~ f (m + 3) &&& f (m + 4))).toNat : Int))).setCell ⟨b, m + 3, none⟩ (.int .u64 ((f (m + 3) ^^^ (~~~ f (m + 4) &&& f m)).toNat : Int))).setCell ⟨b, m + 4, none⟩ (.int .u64 ((f (m + 4) ^^^ (~~~ f m &&& f (m + 1))).toNat : Int))).heap[b]? = some (.cells (vals 25 (chiTo f (m + 5))) t (0, 0)) := by
  refine (blk_up (blk_up (blk_up (blk_up (blk_up hb m _) (m + 1) _) (m + 2) _) (m + 3) _) (m + 4) _).trans (congrArg (fun c => some (Obj.cells c t (0, 0))) (vals_congr fun i hi => ?_))
  have hnx : nx m 1 = m + 1 ∧ nx m 2 = m + 2 ∧ nx (m + 1) 1 = m + 2 ∧ nx (m + 1) 2 = m + 3 ∧ nx (m + 2) 1 = m + 3 ∧ nx (m + 2) 2 = m + 4 ∧ nx (m + 3) 1 = m + 4 ∧ nx (m + 3) 2 = m ∧ nx (m + 4) 1 = m ∧ nx (m + 4) 2 = m + 1 := by
    unfold nx; omega
  obtain ⟨n1, n2, n3, n4, n5, n6, n7, n8, n9, n10⟩ := hnx
  have c0 : chi f m = f m ^^^ (~~~ f (m + 1) &&& f (m + 2)) := by unfold chi; rw [n1, n2]
  have c1 : chi f (m + 1) = f (m + 1) ^^^ (~~~ f (m + 2) &&& f (m + 3)) := by unfold chi; rw [n3, n4]
  have c2 : chi f (m + 2) = f (m + 2) ^^^ (~~~ f (m + 3) &&& f (m + 4)) := by unfold chi; rw [n5, n6]
  have c3 : chi f (m + 3) = f (m + 3) ^^^ (~~~ f (m + 4) &&& f m) := by unfold chi; rw [n7, n8]
  have c4 : chi f (m + 4) = f (m + 4) ^^^ (~~~ f m &&& f (m + 1)) := by unfold chi; rw [n9, n10]
  rw [← c0, ← c1, ← c2, ← c3, ← c4]
  unfold up chiTo
  by_cases g4 : i = m + 4
  · rw [if_pos g4, if_pos (by omega), g4]
  by_cases g3 : i = m + 3
  · rw [if_neg g4, if_pos g3, if_pos (by omega), g3]
  by_cases g2 : i = m + 2
  · rw [if_neg g4, if_neg g3, if_pos g2, if_pos (by omega), g2]
  by_cases g1 : i = m + 1
  · rw [if_neg g4, if_neg g3, if_neg g2, if_pos g1, if_pos (by omega), g1]
  by_cases g0 : i = m
  · rw [if_neg g4, if_neg g3, if_neg g2, if_neg g1, if_pos g0, if_pos (by omega), g0]
  rw [if_neg g4, if_neg g3, if_neg g2, if_neg g1, if_neg g0]
  by_cases gl : i < m
  · rw [if_pos gl, if_pos (by omega)]
  · rw [if_neg gl, if_neg (by omega)]

set_option maxRecDepth 20000 in
set_option maxHeartbeats 400000 in
theorem mixRows_c (w : World) (f : Nat → BitVec 64) :
    Calls Tryd.prog 114 #[.agg (vals 25 f)] w fun e w' => e = .returned (.agg (vals 25 (chi f))) ∧ Fr [] w w' := by
  go_enter Tryd.func114, Tryd.ntmps114
  go_wp2
  go_loopw [3] (fun v3 wr => ∃ m : Nat, m ≤ 25 ∧ m % 5 = 0 ∧ v3 = .int .i64 (m : Int) ∧ wr.heap[w.heap.size]? = some (.cells (vals 25 (chiTo f m)) 96 (0, 0)) ∧ (∃ z, wr.heap[w.heap.size + 1]? = some (.cells (vals 25 z) 96 (0, 0))) ∧ Fr [] w wr) (fun v3 _ => 25 - (intOf v3).toNat)
  case atStart =>
    refine ⟨0, by omega, rfl, rfl, ?_, ⟨fun _ => 0, ?_⟩, ((Fr.refl _ _).alloc _).alloc _⟩
    · rw [blk_old _ _ (by simp)]
      rw [blk_new]
      rfl
    · exact new_at _ _ (by simp)
  case round =>
    obtain ⟨m, hm, hm5, rfl, hb, ⟨z, hz⟩, hfr⟩ := hrel
    have HB := hid hb
    have HZ := hid hz
    have HF := hid hfr
    have H5 := hid hm5
    clear hz hfr hm5
    by_cases hlt : m < 25
    · have hm20 : m ≤ 20 := by have := H5.out; omega
      have e0 : wr.cell? ⟨w.heap.size, m, none⟩ = some (.int .u64 ((f m).toNat : Int)) := by rw [lane_at hb (by omega), chiTo, if_neg (by omega)]
      have e1 : wr.cell? ⟨w.heap.size, m + 1, none⟩ = some (.int .u64 ((f (m + 1)).toNat : Int)) := by rw [lane_at hb (by omega), chiTo, if_neg (by omega)]
      have e2 : wr.cell? ⟨w.heap.size, m + 2, none⟩ = some (.int .u64 ((f (m + 2)).toNat : Int)) := by rw [lane_at hb (by omega), chiTo, if_neg (by omega)]
      have e3 : wr.cell? ⟨w.heap.size, m + 3, none⟩ = some (.int .u64 ((f (m + 3)).toNat : Int)) := by rw [lane_at hb (by omega), chiTo, if_neg (by omega)]
      have e4 : wr.cell? ⟨w.heap.size, m + 4, none⟩ = some (.int .u64 ((f (m + 4)).toNat : Int)) := by rw [lane_at hb (by omega), chiTo, if_neg (by omega)]
      have fz := blk_frozen hb
      clear hb
      go_wp2
      go_region
      go_wp2
      go_roundw
      case rel =>
        simp only [bits_not, bits_and, bits_xor]
        refine ⟨m + 5, by omega, by have := H5.out; omega, by go_num, ?_, ⟨z, ?_⟩, ?_⟩
        · exact (blk_drew _ _).trans (chi_step H5.out HB.out)
        · rw [blk_drew, blk_setne _ _ _ (by omega), blk_setne _ _ _ (by omega), blk_setne _ _ _ (by omega), blk_setne _ _ _ (by omega), blk_setne _ _ _ (by omega)]
          exact HZ.out
        · exact (((((HF.out.set _ _ (.inr (Nat.le_refl _))).set _ _ (.inr (Nat.le_refl _))).set _ _ (.inr (Nat.le_refl _))).set _ _ (.inr (Nat.le_refl _))).set _ _ (.inr (Nat.le_refl _))).drew
      case measure => simp [intOf]; omega
    · have hm25 : m = 25 := by omega
      subst hm25
      clear hb
      go_upto_region 10 with fail
      apply wp_region_lit
      refine wpList_ld rfl (.tmp 1) rfl HB.out (by simp [Act.eval]) ?_
      refine wpList_st (g := chiTo f 25) rfl (.tmp 2) (.tmp 76) rfl HZ.out (by simp [Act.eval, Act.put]) (by simp [Act.eval, Act.put]) ?_
      have RH := hid (row_heap (g := chiTo f 25) HZ.out)
      have RF := hid (HF.out.row (vals 25 (chiTo f 25)) (.inr (Nat.le_succ w.heap.size)))
      have he : Hid (vals 25 (chiTo f 25) = vals 25 (chi f)) := vals_congr fun i hi => by unfold chiTo; rw [if_pos hi]
      rw [he.out] at RH RF ⊢
      generalize wr.setRow (w.heap.size + 1) (vals 25 (chi f)) = w2 at RH RF ⊢
      go_wp2
      exact bodyPost_ret (v := .agg (vals 25 (chi f))) (ret25 rfl RH.out rfl) rfl ⟨rfl, RF.out⟩
end Go.Proofs.YtmpfnglcmaollaaDoor
namespace Go.Proofs.YtmpfnglcmaollaaDoor
open Go.ChangeShapes Go.WideShapes Go.ChangeAt Go.RowKit

def colTo (f : Nat → BitVec 64) (k : Nat) : Nat → BitVec 64 := fun x => if x < k then col f x else 0
def thTo (f : Nat → BitVec 64) (x : Nat) : Nat → BitVec 64 := fun i => if i % 5 < x then theta f i else f i
def thIn (f : Nat → BitVec 64) (x p : Nat) : Nat → BitVec 64 := fun i => if i % 5 < x ∨ (i % 5 = x ∧ i < p) then theta f i else f i

set_option maxRecDepth 20000 in
set_option maxHeartbeats 400000 in
theorem mixColumns_c (w : World) (f : Nat → BitVec 64) :
    Calls Tryd.prog 116 #[.agg (vals 25 f)] w fun e w' => e = .returned (.agg (vals 25 (theta f))) ∧ Fr [] w w' := by
  go_enter Tryd.func116, Tryd.ntmps116
  go_wp2
  go_loopw [8] (fun v8 wr => ∃ k : Nat, k ≤ 5 ∧ v8 = .int .i64 (k : Int) ∧ wr.heap[w.heap.size]? = some (.cells (vals 25 f) 96 (0, 0)) ∧ (∃ z, wr.heap[w.heap.size + 1]? = some (.cells (vals 25 z) 96 (0, 0))) ∧ wr.heap[w.heap.size + 2]? = some (.cells (vals 5 (colTo f k)) 135 (0, 0)) ∧ Fr [] w wr) (fun v8 _ => 5 - (intOf v8).toNat)
  case atStart =>
    refine ⟨0, by omega, rfl, ?_, ⟨fun _ => 0, ?_⟩, ?_, (((Fr.refl _ _).alloc _).alloc _).alloc _⟩
    · rw [blk_old _ _ (by simp; omega), blk_old _ _ (by simp), blk_new]
    · rw [blk_old _ _ (by simp)]; exact new_at _ _ (by simp)
    · exact new_at _ _ (by simp)
  case round =>
    obtain ⟨k, hk, rfl, hb, ⟨z, hz⟩, hc, hfr⟩ := hrel
    have HB := hid hb
    have HZ := hid hz
    have HC := hid hc
    have HF := hid hfr
    clear hz hfr
    by_cases hlt : k < 5
    · have e0 := lane_at hb (i := k) (by omega)
      have e1 := lane_at hb (i := k + 5) (by omega)
      have e2 := lane_at hb (i := k + 10) (by omega)
      have e3 := lane_at hb (i := k + 15) (by omega)
      have e4 := lane_at hb (i := k + 20) (by omega)
      have e5 := lane_at hc (i := k) (by omega)
      have fz := blk_frozen hc
      clear hb hc
      go_wp2
      go_region
      go_wp2
      go_roundw
      case rel =>
        simp only [bits_xor]
        refine ⟨k + 1, by omega, by go_num, ?_, ⟨z, ?_⟩, ?_, ?_⟩
        · exact (blk_drew _ _).trans ((blk_setne _ _ _ (by omega)).trans HB.out)
        · exact (blk_drew _ _).trans ((blk_setne _ _ _ (by omega)).trans HZ.out)
        · refine (blk_drew _ _).trans ((blk_up HC.out k _).trans (congrArg (fun c => some (Obj.cells c 135 (0, 0))) (vals_congr fun i hi => ?_)))
          unfold up colTo
          by_cases g : i = k
          · rw [if_pos g, if_pos (by omega), g]; rfl
          · rw [if_neg g]
            by_cases g1 : i < k
            · rw [if_pos g1, if_pos (by omega)]
            · rw [if_neg g1, if_neg (by omega)]
        · exact (HF.out.set _ _ (.inr (by omega))).drew
      case measure => simp [intOf]; omega
    · have hk5 : k = 5 := by omega
      subst hk5
      have HC5 : Hid (wr.heap[w.heap.size + 2]? = some (.cells (vals 5 (col f)) 135 (0, 0))) := by
        refine HC.out.trans (congrArg (fun c => some (Obj.cells c 135 (0, 0))) (vals_congr fun i hi => ?_))
        unfold colTo; rw [if_pos hi]
      clear hb hc HC
      go_wp2
      go_loopw [37] (fun v37 wr => ∃ x : Nat, x ≤ 5 ∧ v37 = .int .i64 (x : Int) ∧ wr.heap[w.heap.size]? = some (.cells (vals 25 (thTo f x)) 96 (0, 0)) ∧ wr.heap[w.heap.size + 1]? = some (.cells (vals 25 z) 96 (0, 0)) ∧ wr.heap[w.heap.size + 2]? = some (.cells (vals 5 (col f)) 135 (0, 0)) ∧ Fr [] w wr) (fun v37 _ => 5 - (intOf v37).toNat)
      case atStart =>
        exact ⟨0, by omega, rfl, HB.out.trans (congrArg (fun c => some (Obj.cells c 96 (0, 0))) (vals_congr fun i hi => by unfold thTo; rw [if_neg (by omega)])), HZ.out, HC5.out, HF.out⟩
      case round =>
        clear HB HZ HC5 HF
        rename_i wx hrel
        obtain ⟨x, hx, rfl, hb, hz, hc, hfr⟩ := hrel
        have HB := hid hb
        have HZ := hid hz
        have HC := hid hc
        have HF := hid hfr
        clear hz hfr
        by_cases hlt : x < 5
        · have e0 := lane_at hc (i := (x + 4) % 5) (by omega)
          have e1 := lane_at hc (i := (x + 1) % 5) (by omega)
          have hbo : bits .xor .u64 ((col f ((x + 4) % 5)).toNat : Int) ((rl (col f ((x + 1) % 5)) 1).toNat : Int) = ((both f x).toNat : Int) := bits_xor _ _
          clear hb hc
          go_wp2
          go_quiet ((go_at_call 120; exact Calls.quiet_of_same (rotate1_c _ _)))
          go_wp2
          go_loopw [7] (fun v7 wr => ∃ p : Nat, p % 5 = x ∧ p < 30 ∧ v7 = .int .i64 (p : Int) ∧ wr.heap[w.heap.size]? = some (.cells (vals 25 (thIn f x p)) 96 (0, 0)) ∧ wr.heap[w.heap.size + 1]? = some (.cells (vals 25 z) 96 (0, 0)) ∧ wr.heap[w.heap.size + 2]? = some (.cells (vals 5 (col f)) 135 (0, 0)) ∧ Fr [] w wr) (fun v7 _ => 25 - (intOf v7).toNat)
          case atStart =>
            refine ⟨x, by omega, by omega, rfl, ?_, ?_, ?_, ?_⟩
            · rw [blk_drewN]
              exact blk_as HB.out fun i hi => by
                unfold thTo thIn
                by_cases g : i % 5 < x
                · rw [if_pos g, if_pos (.inl g)]
                · rw [if_neg g, if_neg (by rintro (h | ⟨h1, h2⟩) <;> omega)]
            · rw [blk_drewN]; exact HZ.out
            · rw [blk_drewN]; exact HC.out
            · exact HF.out.drewN _
          case round =>
            clear HB HZ HC HF e0 e1 hbo
            rename_i wy hrel
            obtain ⟨p, hp5, hp, rfl, hb, hz, hc, hfr⟩ := hrel
            have HB := hid hb
            have HZ := hid hz
            have HC := hid hc
            have HF := hid hfr
            have H5 := hid hp5
            clear hz hfr hc hp5
            by_cases hlp : p < 25
            · have e0 := lane_at hb (i := p) hlp
              have fz := blk_frozen hb
              have hv : bits .xor .u64 ((thIn f x p p).toNat : Int) ((both f x).toNat : Int) = ((theta f p).toNat : Int) := by
                have : thIn f x p p = f p := by unfold thIn; rw [if_neg (by have := H5.out; omega)]
                rw [this, bits_xor]; unfold theta; rw [H5.out]
              clear hb
              go_wp2
              go_roundw
              case rel =>
                refine ⟨p + 5, by have := H5.out; omega, by omega, by go_num, ?_, ?_, ?_, ?_⟩
                · refine blk_as (blk_up HB.out p (theta f p)) fun i hi => ?_
                  have := H5.out
                  unfold up thIn
                  by_cases g : i = p
                  · rw [if_pos g, if_pos (by omega), g]
                  · rw [if_neg g]
                    by_cases g1 : i % 5 < x ∨ (i % 5 = x ∧ i < p)
                    · rw [if_pos g1, if_pos (by omega)]
                    · rw [if_neg g1, if_neg (by omega)]
                · exact (blk_setne _ _ _ (by omega)).trans HZ.out
                · exact (blk_setne _ _ _ (by omega)).trans HC.out
                · exact HF.out.set _ _ (.inr (Nat.le_refl _))
              case measure => simp [intOf]; omega
            · clear hb
              go_wp2
              go_roundw
              case rel =>
                refine ⟨x + 1, by omega, by go_num, ?_, HZ.out, HC.out, HF.out⟩
                refine blk_as HB.out fun i hi => ?_
                unfold thTo thIn
                by_cases g1 : i % 5 < x ∨ (i % 5 = x ∧ i < p)
                · rw [if_pos g1, if_pos (by omega)]
                · rw [if_neg g1, if_neg (by omega)]
              case measure => simp [intOf]; omega
        · have hx5 : x = 5 := by omega
          subst hx5
          have HE := hid (blk_as hb (g := theta f) fun i hi => by unfold thTo; rw [if_pos (by omega)])
          clear hb hc HB HC
          go_upto_region 16 with fail
          apply wp_region_lit
          refine wpList_ld rfl (.tmp 1) rfl HE.out (by simp [Act.eval]) ?_
          refine wpList_st (g := theta f) rfl (.tmp 2) (.tmp 64) rfl HZ.out (by simp [Act.eval, Act.put]) (by simp [Act.eval, Act.put]) ?_
          have RH := hid (row_heap (g := theta f) HZ.out)
          have RF := hid (HF.out.row (vals 25 (theta f)) (.inr (Nat.le_succ w.heap.size)))
          generalize World.setRow _ (w.heap.size + 1) (vals 25 (theta f)) = w2 at RH RF ⊢
          go_wp2
          exact bodyPost_ret (v := .agg (vals 25 (theta f))) (ret25 rfl RH.out rfl) rfl ⟨rfl, RF.out⟩
end Go.Proofs.YtmpfnglcmaollaaDoor
