/-
  A table laid into the middle of a row.
-/
import Derived.Test.YtckdcaegnbgomaaWAF
import Derived.Laws.CopyRow
namespace Go.Proofs.Ytckdcaegnbgomaa
open Go.ChangeShapes Go.WideShapes Go.ChangeAt Go.RowKit

theorem set4 (C R : List Value) (x0 x1 x2 x3 a b c d : Value) : ((((C ++ x0 :: x1 :: x2 :: x3 :: R).set C.length a).set (C.length + 1) b).set (C.length + 2) c).set (C.length + 3) d = C ++ a :: b :: c :: d :: R := by
  induction C with
  | nil => rfl
  | cons y C ih => simp only [List.cons_append, List.length_cons, List.set_cons_succ, Nat.add_right_comm _ 1, ih]
/-- The row behind the copy. -/
def cur4 (cur : Array Value) (n p : Nat) : Array Value := (cur.toList.take ((p + 1) * 4) ++ (cur.toList.drop (p * 4)).take ((n - p) * 4) ++ cur.toList.drop ((p + 1) * 4 + (n - p) * 4)).toArray
theorem cur4_eq {cur : Array Value} {cs z : List Value} {n p : Nat} (hcs : cs.length = n * 4) (hz : z.length = 4) (ht : cur.toList.take ((n + 1) * 4) = cs ++ z) (hp : p ≤ n) :
    ∃ x0 x1 x2 x3, (cur4 cur n p).toList = cs.take (p * 4) ++ x0 :: x1 :: x2 :: x3 :: (cs.drop (p * 4) ++ cur.toList.drop ((n + 1) * 4)) := by
  have hsplit : cur.toList = cs.take (p * 4) ++ (cs.drop (p * 4) ++ z) ++ cur.toList.drop ((n + 1) * 4) := by
    rw [← List.append_assoc, List.take_append_drop, ← ht, List.take_append_drop]
  have hC : (cs.take (p * 4)).length = p * 4 := by rw [List.length_take]; omega
  have hD : (cs.drop (p * 4)).length = (n - p) * 4 := by rw [List.length_drop]; omega
  generalize hr : cur.toList.drop ((n + 1) * 4) = R at hsplit
  generalize cs.take (p * 4) = C at *
  generalize cs.drop (p * 4) = D at *
  obtain ⟨X, X', hX, hXl⟩ : ∃ X X', D ++ z = X ++ X' ∧ X.length = 4 := ⟨(D ++ z).take 4, (D ++ z).drop 4, (List.take_append_drop _ _).symm, by rw [List.length_take, List.length_append]; omega⟩
  match X, hXl with
  | [x0, x1, x2, x3], _ =>
    refine ⟨x0, x1, x2, x3, ?_⟩
    have h1 : cur.toList.take ((p + 1) * 4) = C ++ [x0, x1, x2, x3] := by
      rw [hsplit, hX, show C ++ ([x0, x1, x2, x3] ++ X') ++ R = (C ++ [x0, x1, x2, x3]) ++ (X' ++ R) from by simp, List.take_left' (by rw [List.length_append, hC]; simp; omega)]
    have h2 : (cur.toList.drop (p * 4)).take ((n - p) * 4) = D := by
      rw [hsplit, List.append_assoc, List.drop_left' hC, List.append_assoc, List.take_left' hD]
    have h3 : cur.toList.drop ((p + 1) * 4 + (n - p) * 4) = R := by
      rw [show (p + 1) * 4 + (n - p) * 4 = (n + 1) * 4 from by omega]; exact hr
    unfold cur4
    rw [h1, h2, h3]
    simp
theorem ins_row4 {cur : Array Value} {cs z : List Value} {n p cap : Nat} (hcs : cs.length = n * 4) (hz : z.length = 4) (ht : cur.toList.take ((n + 1) * 4) = cs ++ z) (hp : p ≤ n) (hsz : cur.size = cap * 4) (hcap : n + 1 ≤ cap) (a b c d : Value) :
    ((((((cur4 cur n p).setIfInBounds (p * 4) a).setIfInBounds (p * 4 + 1) b).setIfInBounds (p * 4 + 2) c).setIfInBounds (p * 4 + 3) d).size = cap * 4) ∧ (((((cur4 cur n p).setIfInBounds (p * 4) a).setIfInBounds (p * 4 + 1) b).setIfInBounds (p * 4 + 2) c).setIfInBounds (p * 4 + 3) d).toList.take ((n + 1) * 4) = cs.take (p * 4) ++ [a, b, c, d] ++ cs.drop (p * 4) := by
  obtain ⟨x0, x1, x2, x3, h1⟩ := cur4_eq hcs hz ht hp
  have hC : (cs.take (p * 4)).length = p * 4 := by rw [List.length_take]; omega
  have hD : (cs.drop (p * 4)).length = (n - p) * 4 := by rw [List.length_drop]; omega
  have hR : (cur.toList.drop ((n + 1) * 4)).length = cap * 4 - (n + 1) * 4 := by rw [List.length_drop, Array.length_toList, hsz]
  constructor
  · rw [Array.size_setIfInBounds, Array.size_setIfInBounds, Array.size_setIfInBounds, Array.size_setIfInBounds, ← Array.length_toList, h1, List.length_append, List.length_cons, List.length_cons, List.length_cons, List.length_cons, List.length_append, hC, hD, hR]
    omega
  · rw [Array.toList_setIfInBounds, Array.toList_setIfInBounds, Array.toList_setIfInBounds, Array.toList_setIfInBounds, h1]
    have h2 := set4 (cs.take (p * 4)) (cs.drop (p * 4) ++ cur.toList.drop ((n + 1) * 4)) x0 x1 x2 x3 a b c d
    rw [hC] at h2
    rw [h2, show cs.take (p * 4) ++ a :: b :: c :: d :: (cs.drop (p * 4) ++ cur.toList.drop ((n + 1) * 4)) = (cs.take (p * 4) ++ [a, b, c, d] ++ cs.drop (p * 4)) ++ cur.toList.drop ((n + 1) * 4) from by simp]
    rw [List.take_left']
    rw [List.length_append, List.length_append, hC, hD]; simp; omega
/-- copy(l[p+1:], l[p:]). -/
theorem copy4 {w : World} {g n p c1 c2 : Nat} {cur : Array Value} {T : TypeId} (hg : w.heap[g]? = some (.cells cur T (0, 0))) (hsz : (n + 1) * 4 ≤ cur.size) (ha : p ≤ n) (A : Addr) (hA : p < n → A = ⟨g, (p + 1) * 4, none⟩) (h1 : ∀ x ∈ cur.toList.take ((n + 1) * 4), x.oneCell' = true) :
    ∀ ty, (Builtin.copy_ #[23, 23] ty #[.slice (some A) (n - p) c1, .slice (some ⟨g, p * 4, none⟩) (n + 1 - p) c2]).run Try.prog w = .ok (goInt ((n - p) : Nat)) (w.setRow g (cur4 cur n p)) := by
  intro ty
  obtain ⟨i0, hi, hz0, hz1, hz2⟩ := info_parts9 infoFile
  have hmin : Nat.min (n + 1 - p) (n - p) = n - p := Nat.min_eq_right (by omega)
  unfold cur4
  by_cases hlt : p < n
  · rw [hA hlt]
    obtain ⟨cs, hcs⟩ : ∃ cs, cs = (cur.toList.drop (p * 4)).take ((n - p) * 4) := ⟨_, rfl⟩
    have hcl : cs.length = (n - p) * 4 := by rw [hcs, List.length_take, List.length_drop, Array.length_toList]; omega
    have hsrc : ∀ j v, cs[j]? = some v → w.cell? ((⟨g, p * 4, none⟩ : Addr).add j) = some v := fun j v hj => by
      rw [Addr.add_lit, blk_cell hg, ← Array.getElem?_toList]
      rw [hcs, List.getElem?_take] at hj
      split at hj
      · rw [List.getElem?_drop] at hj; exact hj
      · cases hj
    have h1' : ∀ v ∈ cs, v.oneCell' = true := fun v hv => by
      obtain ⟨j, hj⟩ := List.getElem?_of_mem hv
      have hjl := (List.getElem?_eq_some_iff.1 hj).1
      rw [hcs, List.getElem?_take] at hj
      split at hj
      · rw [List.getElem?_drop] at hj
        refine h1 v (List.mem_of_getElem? (i := p * 4 + j) ?_)
        rw [List.getElem?_take, if_pos (by omega)]; exact hj
      · cases hj
    have hl := run_loadCells_list (P := Try.prog) w ⟨g, p * 4, none⟩ cs hsrc
    have hst := run_storeCells_at Try.prog g ((p + 1) * 4) T cs 0 cur w hg (by omega) h1'
    rw [← hcs]
    rw [hcl] at hl
    rw [Nat.add_zero, hcl] at hst
    simp [Builtin.copy_, run_underlying Try.underlying23, Builtin.lenOf, Builtin.firstCells, sizeOf, typeInfo, hi, hz1, hmin, hl, hst]
  · have he : n - p = 0 := by omega
    have hz : (cur.toList.take ((p + 1) * 4) ++ (cur.toList.drop (p * 4)).take ((n - p) * 4) ++ cur.toList.drop ((p + 1) * 4 + (n - p) * 4)).toArray = cur := by
      rw [he]; simp
    rw [hz, setRow_self w g cur T (0, 0) hg, he]
    have hl0 : (loadCells ⟨g, p * 4, none⟩ 0).run Try.prog w = .ok #[] w := run_loadCells_list (P := Try.prog) w ⟨g, p * 4, none⟩ [] (fun j v h => by simp at h)
    simp [Builtin.copy_, run_underlying Try.underlying23, Builtin.lenOf, Builtin.firstCells, sizeOf, typeInfo, hi, hl0, storeCells]
theorem step_copyF {ops : Array Oper} {o : Oper} {a : Act} {w w' : World} {K : Act → World → Prop} {Q : Exit → Act → World → Prop} {E : Prop} {vs vx v' : Value} (hg : o.guard = none) (s x : Operand) (hop : o.op = Op.call { callee := Callee.builtin Builtin.copy, args := #[s, x], argTypes := #[23, 23] }) (hs : a.eval s = vs) (hx : a.eval x = vx)
    (hrun : ∀ ty, (Builtin.copy_ #[23, 23] ty #[vs, vx]).run Try.prog w = .ok v' w') (hK : K (a.put o.dst v') w') :
    if Region.wanted o (yielded ops a.tmps) = true then Oper.wp Try.prog o a w K Q else E := by
  have hw : Region.wanted o (yielded ops a.tmps) = true := by simp [Region.wanted, hg]
  rw [if_pos hw]
  unfold Oper.wp
  simp [execOp, hop, resolve, invoke, builtin, hs, hx, hrun, Result.andThen]
  exact hK
/-- append at an operation within a region that draws. -/
theorem step_appR {ops : Array Oper} {o : Oper} {a : Act} {w : World} {K : Act → World → Prop} {Q : Exit → Act → World → Prop} {E : Prop} {vs vx v' : Value} {w' : World} (hg : o.guard = none) (s x : Operand) (hop : o.op = Op.call { callee := Callee.builtin Builtin.append, args := #[s, x], argTypes := #[23, 23] }) (hs : a.eval s = vs) (hx : a.eval x = vx)
    (hrun : (Builtin.append_ #[23, 23] o.type #[vs, vx]).run Try.prog w = .ok v' w') (hK : K (a.put o.dst v') w') :
    if Region.wanted o (yielded ops a.tmps) = true then Oper.wp Try.prog o a w K Q else E := by
  have hw : Region.wanted o (yielded ops a.tmps) = true := by simp [Region.wanted, hg]
  rw [if_pos hw]
  unfold Oper.wp
  simp [execOp, hop, resolve, invoke, builtin, hs, hx, hrun, Result.andThen]
  exact hK
theorem wpList_appR {w w' : World} {ops : Array Oper} {rest : List Oper} {o : Oper} {a : Act} {Q : Exit → Act → World → Prop} {vs vx v' : Value} (hgd : o.guard = none) (s x : Operand) (ho : o.op = .call { callee := .builtin .append, args := #[s, x], argTypes := #[23, 23] }) (hs : a.eval s = vs) (hx : a.eval x = vx)
    (hrun : (Builtin.append_ #[23, 23] o.type #[vs, vx]).run Try.prog w = .ok v' w') (h : wpList Try.prog ops Q rest (a.put o.dst v') w') : wpList Try.prog ops Q (o :: rest) a w := by
  refine wpList_plain hgd fun K hK => ?_
  unfold Oper.wp execOp
  simp only [ho, resolve, invoke, builtin, Sem.run_bind, Sem.run_pure, Result.andThen_ok, List.map_toArray, List.map_cons, List.map_nil, hs, hx, hrun]
  exact hK _ _ h
theorem Fr.row4 {S : List Nat} {a b : World} (h : Fr S a b) {p : Nat} (c : Array Value) (hp : p ∈ S ∨ a.heap.size ≤ p) : Fr S a (b.setRow p c) :=
  ⟨h.os, h.tape, h.output, by simpa using h.size, fun k hk hn => by
    rw [setRow_other b p k c (fun e => by subst e; rcases hp with hp | hp; exact hn hp; omega)]
    exact h.block k hk hn⟩
/-- The row behind append, copy and store. -/
theorem ins_own {W2 : World} {B g n p cap : Nat} {cur : Array Value} {ys : List Fx} {z : List Value} {x : Fx} (hB : B ≤ g) (hy : ys.length = n) (hz : z.length = 4) (ht : cur.toList.take ((n + 1) * 4) = ys.flatMap encX ++ z) (hp : p ≤ n) (hsz : cur.size = cap * 4) (hcap : n + 1 ≤ cap) (hm : cap ≤ maxLen) (h2 : W2.heap[g]? = some (.cells (cur4 cur n p) 55 (0, 0))) :
    ((((W2.setCell ⟨g, p * 4, none⟩ (.int .i64 x.f.num)).setCell ⟨g, p * 4 + 1, none⟩ (.int .i64 x.f.size)).setCell ⟨g, p * 4 + 2, none⟩ (.slice x.la x.f.least.length x.lc)).setCell ⟨g, p * 4 + 3, none⟩ (.slice x.ma x.f.most.length x.mc)).ownsRow B 55 4 (.slice (some ⟨g, 0, none⟩) (n + 1) cap) (n + 1) ((ys.take p ++ x :: ys.drop p).flatMap encX) := by
  obtain ⟨q1, q2⟩ := ins_row4 (cs := ys.flatMap encX) (by rw [flat4_len, hy]) hz ht hp hsz hcap (.int .i64 x.f.num) (.int .i64 x.f.size) (.slice x.la x.f.least.length x.lc) (.slice x.ma x.f.most.length x.mc)
  refine ⟨?_, .inr ⟨g, cap, _, rfl, hB, blk_set (blk_set (blk_set (blk_set h2 _ _) _ _) _ _) _ _, hcap, hm, q1, ?_⟩⟩
  · rw [flat4_len, List.length_append, List.length_cons, List.length_take, List.length_drop]; omega
  · rw [q2, flat4_take, flat4_drop, List.flatMap_append, List.flatMap_cons, List.append_assoc]
    rfl
end Go.Proofs.Ytckdcaegnbgomaa
namespace Go.Proofs.Ytckdcaegnbgomaa
open Go.ChangeShapes Go.WideShapes Go.ChangeAt Go.RowKit

theorem LvV.new {wb W : World} {K : Nat} {a b c : Int} (hb : W.heap[K]? = some (.cells #[.int .i64 a, .int .i64 b, .int .u64 c, .slice none 0 0, .slice none 0 0, .slice none 0 0, .slice none 0 0, .slice none 0 0] 26 (0, 0))) (f : Fr [] wb W) (hk : wb.heap.size ≤ K) : LvV wb W K a b c (fun _ => []) (fun _ => none) (fun _ => 0) (fun _ => 0) :=
  ⟨hb, fun _ _ => rfl, fun _ _ => ⟨rfl, .inl ⟨rfl, rfl, rfl⟩⟩, fun i j _ _ _ g e => by simp [Value.ownBlock] at e, f, hk, fun _ _ x hx => by simp at hx, fun _ _ x hx => by simp at hx⟩
theorem XO.keep {B B' : Nat} {W W' : World} {f : Fl} {la ma : Option Addr} {lc mc : Nat} (h : XO B W f la lc ma mc) {a : Option Addr} {n c : Nat} {xs : List Value} (o : OwnP W B' a n c xs) (sb : ∀ k, k < W.heap.size → (Value.slice a n c).ownBlock ≠ some k → W'.heap[k]? = W.heap[k]?) : XO B W' f la lc ma mc := by
  have rowW : ∀ {v : Value} {n : Nat} {xs : List Value}, W.ownsRow B 5 1 v n xs → W'.ownsRow B 5 1 v n xs := fun {v n xs} oo => ownsRow_of_block oo fun k hk => by
    rcases oo.2 with ⟨h1, _⟩ | ⟨g', cap, cur, h1, _, h3, _⟩
    · rw [h1] at hk; simp [Value.ownBlock] at hk
    · rw [h1] at hk
      simp [Value.ownBlock] at hk
      subst hk
      exact sb _ (blk_lt h3) (o.not h3 (by decide))
  exact ⟨rowW h.ol, rowW h.om⟩
/-- One table more. -/
theorem LvV.app1 {wb W : World} {K : Nat} {a b c : Int} {Y : Nat → List Fx} {kd : Nat → Option Addr} {kl kc : Nat → Nat} (h : LvV wb W K a b c Y kd kl kc) {i : Nat} (hi : i < 5) {x : Fx} (xo : XO wb.heap.size W x.f x.la x.lc x.ma x.mc) (hb : Bys x.f) (hl : kl i ≤ 1000000) {G : Nat} (hG : W.heap[G]? = some (.cells #[.int .i64 x.f.num, .int .i64 x.f.size, .slice x.la x.f.least.length x.lc, .slice x.ma x.f.most.length x.mc] 55 (0, 0))) :
    ∃ a6 c6 w6, (Builtin.append_ #[23, 23] 23 #[(.slice (kd i) (kl i) (kc i)), .slice (some ⟨G, 0, none⟩) 1 1]).run Try.prog W = .ok (.slice a6 (kl i + 1) c6) w6 ∧ Fr [] wb w6 ∧ (w6.cell? ⟨K, 3 + i, none⟩ = some (.slice (kd i) (kl i) (kc i)) ∧ w6.frozen? ⟨K, 3 + i, none⟩ = false) ∧ LvV wb (w6.setCell ⟨K, 3 + i, none⟩ (.slice a6 (kl i + 1) c6)) K a b c (upA Y i (Y i ++ [x])) (upA kd i a6) (upA kl i (kl i + 1)) (upA kc i c6) := by
  obtain ⟨a6, c6, w6, hr, o6, g6, q6⟩ := run_appP (h.own i hi) hG (encX_one x) hl h.fr.size 23
  have sb : ∀ k, k < W.heap.size → (Value.slice (kd i) (kl i) (kc i)).ownBlock ≠ some k → w6.heap[k]? = W.heap[k]? := fun k hk hne => g6.block k hk (fun e => hne e.symm)
  have fw : Fr [] wb w6 := h.fr.grown g6 (fun k e => .inr ((h.own i hi).lt e).2)
  obtain ⟨u1, u2⟩ := h.upd hi (ys := Y i ++ [x]) (n' := kl i + 1) (by rw [List.length_append, h.len i hi]; rfl) (OwnP.of (by rw [List.flatMap_append, show [x].flatMap encX = encX x from by simp]; exact o6)) fw sb (q6.imp id (fun e => ⟨_, e, Nat.le_refl _⟩)) (fun y hy => by
    rcases List.mem_append.1 hy with hy | hy
    · exact .inl hy
    · have e : y = x := by simpa using hy
      subst e
      exact .inr ⟨xo.keep (h.own i hi) sb, hb⟩)
  exact ⟨a6, c6, w6, hr, fw, ⟨vn_cell u1 hi, blk_frozen u1 _⟩, u2⟩
/-- One table less. -/
theorem LvV.del1 {wb W : World} {K : Nat} {a b c : Int} {Y : Nat → List Fx} {kd : Nat → Option Addr} {kl kc : Nat → Nat} (h : LvV wb W K a b c Y kd kl kc) {i k g off : Nat} (hi : i < 5) (ha : kd i = some ⟨g, off, none⟩) (hk : k < kl i) {A : Addr} {c2 : Nat} (hA : k + 1 < kl i → A = ⟨g, (k + 1) * 4, none⟩) (hl : kl i ≤ 1000000) :
    ∃ a6 c6 w6, (Builtin.append_ #[23, 23] 23 #[.slice (some ⟨g, off, none⟩) k k, .slice (some A) (kl i - (k + 1)) c2]).run Try.prog W = .ok (.slice a6 (kl i - 1) c6) w6 ∧ Fr [] wb w6 ∧ (w6.cell? ⟨K, 3 + i, none⟩ = some (.slice (kd i) (kl i) (kc i)) ∧ w6.frozen? ⟨K, 3 + i, none⟩ = false) ∧ LvV wb (w6.setCell ⟨K, 3 + i, none⟩ (.slice a6 (kl i - 1) c6)) K a b c (upA Y i ((Y i).take k ++ (Y i).drop (k + 1))) (upA kd i a6) (upA kl i (kl i - 1)) (upA kc i c6) := by
  have ow := h.own i hi
  have hlen := h.len i hi
  rw [ha] at ow
  obtain ⟨a6, c6, w6, hr, o6, g6, q6⟩ := run_delP ow hk (c2 := c2) hA hl h.fr.size 23
  have sb : ∀ k, k < W.heap.size → (Value.slice (kd i) (kl i) (kc i)).ownBlock ≠ some k → w6.heap[k]? = W.heap[k]? := fun k hk _ => g6.block k hk (by simp)
  have fw : Fr [] wb w6 := h.fr.grown g6 (fun k e => by cases e)
  obtain ⟨u1, u2⟩ := h.upd hi (ys := (Y i).take k ++ (Y i).drop (k + 1)) (n' := kl i - 1) (by rw [List.length_append, List.length_take, List.length_drop]; omega) (by rw [List.flatMap_append, ← flat4_take, ← flat4_drop]; exact o6) fw sb (q6.imp (fun e => by rw [e, ha]; rfl) (fun e => ⟨_, e, Nat.le_refl _⟩)) (fun y hy => by
    rcases List.mem_append.1 hy with hy | hy
    · exact .inl (List.mem_of_mem_take hy)
    · exact .inl (List.mem_of_mem_drop hy))
  exact ⟨a6, c6, w6, hr, fw, ⟨vn_cell u1 hi, blk_frozen u1 _⟩, u2⟩
/-- All but the block of a list, and one of the call's own, is as it was. -/
structure Apt (wb W W' : World) (v : Value) (g : Nat) : Prop where
  fr : Fr [] wb W'
  sz : W.heap.size ≤ W'.heap.size
  sb : ∀ k, k < W.heap.size → v.ownBlock ≠ some k → W'.heap[k]? = W.heap[k]?
  lies : v.ownBlock = some g ∨ W.heap.size ≤ g
  ge : wb.heap.size ≤ g
theorem Apt.fr' {wb W W' W'' : World} {v : Value} {g : Nat} (h : Apt wb W W' v g) (f : Fr [] W' W'') : Apt wb W W'' v g :=
  ⟨h.fr.trans f, Nat.le_trans h.sz f.size, fun k hk hne => (f.block k (Nat.lt_of_lt_of_le hk h.sz) (by simp)).trans (h.sb k hk hne), h.lies, h.ge⟩
theorem Apt.off {wb W W' : World} {v : Value} {g : Nat} (h : Apt wb W W' v g) {k : Nat} (hk : k < W.heap.size) (hne : v.ownBlock ≠ some k) : k ≠ g := by
  intro e
  subst e
  rcases h.lies with h1 | h1
  · exact hne h1
  · omega
theorem Apt.set {wb W W' : World} {v : Value} {g : Nat} (h : Apt wb W W' v g) (i : Nat) (u : Value) : Apt wb W (W'.setCell ⟨g, i, none⟩ u) v g :=
  ⟨h.fr.set _ _ (.inr h.ge), by simpa [World.setCell] using h.sz, fun k hk hne => by rw [blk_setne _ _ _ (h.off hk hne)]; exact h.sb k hk hne, h.lies, h.ge⟩
theorem Apt.row {wb W W' : World} {v : Value} {g : Nat} (h : Apt wb W W' v g) (c : Array Value) : Apt wb W (W'.setRow g c) v g :=
  ⟨h.fr.row4 _ (.inr h.ge), by simpa [World.setRow] using h.sz, fun k hk hne => by rw [setRow_other W' g k c (h.off hk hne)]; exact h.sb k hk hne, h.lies, h.ge⟩
theorem Apt.at {wb W W' : World} {v : Value} {g : Nat} (h : Apt wb W W' v g) {k : Nat} {o : Obj} (hk : W.heap[k]? = some o) (hne : v.ownBlock ≠ some k) : W'.heap[k]? = some o := (h.sb k (blk_lt hk) hne).trans hk
/-- append(l, File{}). -/
theorem LvV.ins0 {wb W : World} {K : Nat} {a b c : Int} {Y : Nat → List Fx} {kd : Nat → Option Addr} {kl kc : Nat → Nat} (h : LvV wb W K a b c Y kd kl kc) {i : Nat} (hi : i < 5) (hl : kl i ≤ 1000000) {G : Nat} (hG : W.heap[G]? = some (.cells #[.int .i64 0, .int .i64 0, .slice none 0 0, .slice none 0 0] 55 (0, 0))) :
    ∃ g cap cur w6, (Builtin.append_ #[23, 23] 23 #[(.slice (kd i) (kl i) (kc i)), .slice (some ⟨G, 0, none⟩) 1 1]).run Try.prog W = .ok (.slice (some ⟨g, 0, none⟩) (kl i + 1) cap) w6 ∧ Apt wb W w6 (Value.slice (kd i) (kl i) (kc i)) g ∧ (w6.heap[g]? = some (.cells cur 55 (0, 0)) ∧ cur.size = cap * 4 ∧ kl i + 1 ≤ cap ∧ cap ≤ maxLen) ∧ cur.toList.take ((kl i + 1) * 4) = (Y i).flatMap encX ++ [.int .i64 0, .int .i64 0, .slice none 0 0, .slice none 0 0] := by
  obtain ⟨a6, c6, w6, hr, o6, g6, q6⟩ := run_appP (h.own i hi) hG (fun u hu => by simp at hu; rcases hu with rfl | rfl | rfl | rfl <;> rfl) hl h.fr.size 23
  rcases o6.2 with ⟨_, h2⟩ | ⟨g, cap, cur, h1, h2, h3, h4, h5, h6, h7⟩
  · omega
  · simp only [Value.slice.injEq] at h1
    obtain ⟨rfl, _, rfl⟩ := h1
    refine ⟨g, c6, cur, w6, hr, ⟨h.fr.grown g6 (fun k e => .inr ((h.own i hi).lt e).2), g6.size, fun k hk hne => g6.block k hk (fun e => hne e.symm), ?_, h2⟩, ⟨h3, h6, h4, h5⟩, h7⟩
    rcases q6 with q | q
    · exact .inl (by rw [← q]; rfl)
    · exact .inr (by simp [Value.ownBlock] at q; omega)
theorem LvV.one {wb W : World} {K : Nat} {a b c : Int} {Y : Nat → List Fx} {kd : Nat → Option Addr} {kl kc : Nat → Nat} (h : LvV wb W K a b c Y kd kl kc) {i : Nat} : ∀ u ∈ (Y i).flatMap encX ++ [.int .i64 0, .int .i64 0, .slice none 0 0, .slice none 0 0], u.oneCell' = true := by
  have _ := h.ge
  intro u hu
  rcases List.mem_append.1 hu with hu | hu
  · obtain ⟨x, _, hx⟩ := List.mem_flatMap.1 hu
    exact encX_one x u hx
  · simp at hu
    rcases hu with rfl | rfl | rfl | rfl <;> rfl
/-- .. and a table laid into its place. -/
theorem LvV.ins1 {wb W : World} {K : Nat} {a b c : Int} {Y : Nat → List Fx} {kd : Nat → Option Addr} {kl kc : Nat → Nat} (h : LvV wb W K a b c Y kd kl kc) {i g p cap : Nat} (hi : i < 5) {W' : World} (A : Apt wb W W' (Value.slice (kd i) (kl i) (kc i)) g) {cur : Array Value} (ht : cur.toList.take ((kl i + 1) * 4) = (Y i).flatMap encX ++ [.int .i64 0, .int .i64 0, .slice none 0 0, .slice none 0 0]) (hp : p ≤ kl i) (hsz : cur.size = cap * 4) (hcap : kl i + 1 ≤ cap) (hm : cap ≤ maxLen) (h2 : W'.heap[g]? = some (.cells (cur4 cur (kl i) p) 55 (0, 0))) {x : Fx} (xo : XO wb.heap.size W' x.f x.la x.lc x.ma x.mc) (hb : Bys x.f) :
    (((((W'.setCell ⟨g, p * 4, none⟩ (.int .i64 x.f.num)).setCell ⟨g, p * 4 + 1, none⟩ (.int .i64 x.f.size)).setCell ⟨g, p * 4 + 2, none⟩ (.slice x.la x.f.least.length x.lc)).setCell ⟨g, p * 4 + 3, none⟩ (.slice x.ma x.f.most.length x.mc)).heap[K]? = some (.cells #[.int .i64 a, .int .i64 b, .int .u64 c, .slice (kd 0) (kl 0) (kc 0), .slice (kd 1) (kl 1) (kc 1), .slice (kd 2) (kl 2) (kc 2), .slice (kd 3) (kl 3) (kc 3), .slice (kd 4) (kl 4) (kc 4)] 26 (0, 0))) ∧
    LvV wb (((((W'.setCell ⟨g, p * 4, none⟩ (.int .i64 x.f.num)).setCell ⟨g, p * 4 + 1, none⟩ (.int .i64 x.f.size)).setCell ⟨g, p * 4 + 2, none⟩ (.slice x.la x.f.least.length x.lc)).setCell ⟨g, p * 4 + 3, none⟩ (.slice x.ma x.f.most.length x.mc)).setCell ⟨K, 3 + i, none⟩ (.slice (some ⟨g, 0, none⟩) (kl i + 1) cap)) K a b c (upA Y i ((Y i).take p ++ x :: (Y i).drop p)) (upA kd i (some ⟨g, 0, none⟩)) (upA kl i (kl i + 1)) (upA kc i cap) := by
  have o := ins_own (x := x) A.ge (h.len i hi).symm (by rfl) ht hp hsz hcap hm h2
  have A4 := (((A.set (p * 4) (.int .i64 x.f.num)).set (p * 4 + 1) (.int .i64 x.f.size)).set (p * 4 + 2) (.slice x.la x.f.least.length x.lc)).set (p * 4 + 3) (.slice x.ma x.f.most.length x.mc)
  have hlen := h.len i hi
  exact h.upd hi (ys := (Y i).take p ++ x :: (Y i).drop p) (n' := kl i + 1) (by rw [List.length_append, List.length_cons, List.length_take, List.length_drop]; omega) (OwnP.of o) A4.fr A4.sb (by
    rcases A.lies with e | e
    · exact .inl (by rw [e]; rfl)
    · exact .inr ⟨g, rfl, e⟩) (fun y hy => by
    rcases List.mem_append.1 hy with hy | hy
    · exact .inl (List.mem_of_mem_take hy)
    · rcases List.mem_cons.1 hy with rfl | hy
      · exact .inr ⟨xo.put4 h2 _ _ _ _ _ _ _ _, hb⟩
      · exact .inl (List.mem_of_mem_drop hy))
/-- The lists so far. -/
def cpL (L : Nat → List Fl) (i j k : Nat) : List Fl := if k < i then L k else if k = i then (L i).take j else []
theorem cpL_step {L : Nat → List Fl} {i j : Nat} {f : Fl} (hf : (L i)[j]? = some f) (k : Nat) : cpL L i (j + 1) k = upA (cpL L i j) i (cpL L i j i ++ [f]) k := by
  unfold upA cpL
  by_cases e : k = i
  · subst e
    rw [if_neg (by omega), if_pos rfl, if_pos rfl, if_neg (by omega), if_pos rfl, List.take_add_one, hf]
    rfl
  · by_cases e2 : k < i
    · simp [e, e2]
    · simp [e, e2]
theorem cpL_end (L : Nat → List Fl) (i k : Nat) : cpL L i (L i).length k = cpL L (i + 1) 0 k := by
  unfold cpL
  by_cases e : k = i
  · subst e
    rw [if_neg (by omega), if_pos rfl, if_pos (by omega), List.take_length]
  · by_cases e2 : k < i
    · rw [if_pos e2, if_pos (by omega)]
    · rw [if_neg e2, if_neg e, if_neg (by omega)]
      split <;> simp
end Go.Proofs.Ytckdcaegnbgomaa
