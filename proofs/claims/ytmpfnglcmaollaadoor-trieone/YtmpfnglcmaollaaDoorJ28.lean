/-
  Maps whose keys are hashes: one entry put, sought and taken away.
-/
import Derived.Test.YtmpfnglcmaollaaDoorJ27
import Derived.ChangeMaps4
import Derived.MapKept
namespace Go.Proofs.YtmpfnglcmaollaaDoor
open Go.ChangeShapes Go.WideShapes Go.ChangeAt Go.RowKit

theorem ckHash (b : Bool) (f : Nat → Nat) (W : World) : (Instr.checkKey b 10000 28 (.agg (bvals 32 f))).run Tryd.prog W = .ok () W := by cases b <;> kernel_rfl
theorem fkNone (f : Nat → Nat) (W : World) : (Instr.findKey 28 (.agg (bvals 32 f)) []).run Tryd.prog W = .ok none W := by
  simp [Instr.findKey, run_underlying hUnd, Instr.findNow]
theorem fkOne (f : Nat → Nat) (v : Value) (c : Nat) (W : World) : (Instr.findKey 28 (.agg (bvals 32 f)) [⟨.agg (bvals 32 f), v, c⟩]).run Tryd.prog W = .ok (some (0, v)) W := by
  have e := eqIn32 W f f (fun _ _ => rfl)
  change (Op.equalIn Op.maxDepth _ _ _).run _ _ = _ at e
  simp [Instr.findKey, run_underlying hUnd, Instr.findNow, Instr.sameNow, Instr.findAsking, Op.equal, e, Result.andThen]
theorem upd_one {W : World} {r c : Nat} (h : W.heap[r]? = some (.map #[] c)) (f : Nat → Nat) (v : Value) : (Instr.mapUpdate 80 (.map (some r)) (.agg (bvals 32 f)) v).run Tryd.prog W = .ok () (ChangeMaps.setBlock W r (.map #[⟨.agg (bvals 32 f), v, c⟩] (c + 1))) := by
  simp [Instr.mapUpdate, run_underlying Tryd.underlying80, MapKept.run_getObj_map h, ckHash, fkNone, MapKept.run_setObj_map _ h, Result.andThen, ChangeMaps.setBlock]
theorem look_one {W : World} {r c d : Nat} {f : Nat → Nat} {v : Value} (h : W.heap[r]? = some (.map #[⟨.agg (bvals 32 f), v, c⟩] d)) : (Instr.lookup 80 (.map (some r)) (.agg (bvals 32 f)) true).run Tryd.prog W = .ok (.tuple #[v, .bool true]) W := by
  simp [Instr.lookup, run_underlying Tryd.underlying80, MapKept.run_getObj_map h, ckHash, fkOne, Result.andThen]
theorem look_no {W : World} {r d : Nat} (f : Nat → Nat) (h : W.heap[r]? = some (.map #[] d)) : (Instr.lookup 80 (.map (some r)) (.agg (bvals 32 f)) true).run Tryd.prog W = .ok (.tuple #[.nilIface, .bool false]) W := by
  have hz : ∀ w, (zeroValue 84).run Tryd.prog w = .ok .nilIface w := fun w => by kernel_rfl
  simp [Instr.lookup, run_underlying Tryd.underlying80, MapKept.run_getObj_map h, ckHash, fkNone, hz, Result.andThen]
theorem del_one {W : World} {r c d : Nat} {f : Nat → Nat} {v : Value} (h : W.heap[r]? = some (.map #[⟨.agg (bvals 32 f), v, c⟩] d)) (T : TypeId) : (Builtin.delete_ #[80, 28] T #[.map (some r), .agg (bvals 32 f)]).run Tryd.prog W = .ok (.tuple #[]) (ChangeMaps.setBlock W r (.map #[] d)) := by
  simp [Builtin.delete_, run_underlying Tryd.underlying80, MapKept.run_getObj_map h, ckHash, fkOne, MapKept.run_setObj_map _ h, Result.andThen, ChangeMaps.setBlock]
end Go.Proofs.YtmpfnglcmaollaaDoor
namespace Go.Proofs.YtmpfnglcmaollaaDoor
open Go.ChangeShapes Go.WideShapes Go.ChangeAt Go.RowKit

/-- What is left of a path behind another one; nothing, where it doesn't begin so. -/
def strip : List Nat → List Nat → Option (List Nat)
  | [], p => some p
  | _ :: _, [] => none
  | a :: q, b :: p => if a = b then strip q p else none
theorem strip_some : ∀ {q p r : List Nat}, strip q p = some r ↔ p = q ++ r
  | [], p, r => by
    show some p = some r ↔ p = r
    constructor
    · intro h; exact Option.some.inj h
    · rintro rfl; rfl
  | a :: q, [], r => by
    constructor
    · intro h; cases h
    · intro h; cases h
  | a :: q, b :: p, r => by
    show (if a = b then strip q p else none) = some r ↔ _
    by_cases h : a = b
    · subst h
      rw [if_pos rfl, strip_some]
      constructor
      · rintro rfl; rfl
      · intro h; exact (List.cons.inj h).2
    · rw [if_neg h]
      constructor
      · intro h'; cases h'
      · intro h'; exact absurd (List.cons.inj h').1.symm h
theorem strip_app : ∀ (a b p : List Nat), strip (a ++ b) p = (strip a p).bind (strip b)
  | [], _, _ => rfl
  | _ :: _, _, [] => rfl
  | x :: a, b, y :: p => by
    show (if x = y then strip (a ++ b) p else none) = (if x = y then strip a p else none).bind (strip b)
    by_cases h : x = y
    · rw [if_pos h, if_pos h, strip_app a b p]
    · rw [if_neg h, if_neg h]; rfl
theorem strip_cp : ∀ (q p : List Nat), strip q p = if cpN q p = q.length then some (p.drop q.length) else none
  | [], p => by simp [strip, cpN]
  | a :: q, [] => by simp [strip, cpN]
  | a :: q, b :: p => by
    show (if a = b then strip q p else none) = if (if a = b then cpN q p + 1 else 0) = q.length + 1 then _ else _
    by_cases h : a = b
    · rw [if_pos h, if_pos h, strip_cp q p]
      by_cases h2 : cpN q p = q.length
      · rw [if_pos h2, if_pos (by omega)]; rfl
      · rw [if_neg h2, if_neg (by omega)]
    · rw [if_neg h, if_neg h, if_neg (by omega)]
theorem strip_self (q : List Nat) : strip q q = some [] := strip_some.2 (by simp)
theorem find_leaf (q x p : List Nat) : findN (.leaf q x) p = if strip q p = some [] then x else [] := by
  show (if q = p then x else []) = _
  by_cases h : q = p
  · subst h; rw [if_pos rfl, if_pos (strip_self q)]
  · rw [if_neg h, if_neg (fun e => h (by have := strip_some.1 e; rw [this]; simp))]
/-- What is found where a path has been stripped. -/
def atO (n : Nd) : Option (List Nat) → List Nat
  | some r => findN n r
  | none => []
theorem find_stem (q : List Nat) (t : Nd) (p : List Nat) : findN (.stem q t) p = atO t (strip q p) := by
  show (if cpN q p = q.length then findN t (p.drop (cpN q p)) else []) = _
  rw [strip_cp]
  by_cases h : cpN q p = q.length
  · rw [if_pos h, if_pos h, h]; rfl
  · rw [if_neg h, if_neg h]; rfl
theorem find_lead : ∀ (n : Nd) (q p : List Nat), (∀ x, n ≠ .far x) → findN (leadN q n) p = atO n (strip q p)
  | .nil, q, p, _ => by
    show [] = atO .nil (strip q p)
    cases strip q p <;> rfl
  | .far x, _, _, h => absurd rfl (h x)
  | .leaf r x, q, p, _ => by
    show findN (.leaf (q ++ r) x) p = _
    rw [find_leaf, strip_app]
    cases strip q p with
    | none => rfl
    | some s => exact (find_leaf r x s).symm
  | .stem r t, q, p, _ => by
    by_cases h : q = []
    · subst h
      show findN (if ([] : List Nat) = [] then Nd.stem r t else _) p = _
      rw [if_pos rfl]; rfl
    · show findN (if q = [] then Nd.stem r t else leadN (q ++ r) t) p = _
      rw [if_neg h]
      by_cases hf : ∃ x, t = .far x
      · obtain ⟨x, rfl⟩ := hf
        have hne : q ++ r ≠ [] := by simp [h]
        show findN (if q ++ r = [] then Nd.far x else Nd.stem (q ++ r) (.far x)) p = _
        rw [if_neg hne, find_stem, strip_app]
        cases strip q p with
        | none => rfl
        | some s => exact (find_stem r _ s).symm
      · rw [find_lead t (q ++ r) p (fun x e => hf ⟨x, e⟩), strip_app]
        cases strip q p with
        | none => rfl
        | some s => exact (find_stem r t s).symm
  | .fork c x, q, p, _ => by
    by_cases h : q = []
    · subst h
      show findN (if ([] : List Nat) = [] then Nd.fork c x else _) p = _
      rw [if_pos rfl]; rfl
    · rw [leadN_fork h, find_stem]
theorem find_add (c : Nat → Nd) (y q x p : List Nat) (hc : ∀ j s, q = j :: s → c j = .nil) : findN (.fork (addC c q x) (addV y q x)) p = if q = p then x else findN (.fork c y) p := by
  cases q with
  | nil =>
    cases p with
    | nil => rw [if_pos rfl]; rfl
    | cons i r => rw [if_neg (by simp)]; rfl
  | cons j s =>
    cases p with
    | nil => rw [if_neg (by simp)]; rfl
    | cons i r =>
      show findN (updN c j (.leaf s x) i) r = _
      unfold updN
      by_cases h : i = j
      · subst h
        rw [if_pos rfl]
        show (if s = r then x else []) = _
        by_cases h2 : s = r
        · subst h2; rw [if_pos rfl, if_pos rfl]
        · rw [if_neg h2, if_neg (by simp [h2])]
          show [] = findN (c i) r
          rw [hc i s rfl]
          rfl
      · rw [if_neg h, if_neg (by intro e; exact h (List.cons.inj e).1.symm)]
        rfl
theorem find_no (r : List Nat) : findN (.fork noN []) r = [] := by cases r <;> rfl
theorem drop_cp {q p : List Nat} {s : Nat} (h : q.take s = p.take s) {r : List Nat} : q.drop s = r ↔ q = p.take s ++ r := by
  constructor
  · rintro rfl
    rw [← h, List.take_append_drop]
  · intro e
    have e2 := List.take_append_drop s q
    rw [h] at e2
    rw [← e2] at e
    exact List.append_cancel_left e
/-- Paths that part: what stands next is unlike. -/
theorem cp_next {q p : List Nat} {i j : Nat} {a b : List Nat} (hq : q.drop (cpN q p) = i :: a) (hp : p.drop (cpN q p) = j :: b) : i ≠ j := by
  have h1 : q[cpN q p]? = some i := by
    have := congrArg (·[0]?) hq
    simpa [List.getElem?_drop] using this
  have h2 : p[cpN q p]? = some j := by
    have := congrArg (·[0]?) hp
    simpa [List.getElem?_drop] using this
  exact cpN_ne q p i j h1 h2
theorem find_put : ∀ {n : Nd} {d : Nat}, okN d n → ∀ (p v p' : List Nat), Nb p → findN (putN n p v) p' = if p = p' then v else findN n p'
  | .nil, _, _, p, v, p', _ => by
    show (if p = p' then v else []) = _
    rfl
  | .far _, _, h, _, _, _, _ => h.elim
  | .leaf q x, d, h, p, v, p', _ => by
    by_cases hqp : q = p
    · subst hqp
      show findN (if q = q then _ else _) p' = _
      rw [if_pos rfl]
      show (if q = p' then v else []) = if q = p' then v else (if q = p' then x else [])
      by_cases h2 : q = p'
      · rw [if_pos h2, if_pos h2]
      · rw [if_neg h2, if_neg h2, if_neg h2]
    · show findN (if q = p then _ else _) p' = _
      rw [if_neg hqp]
      have ht : q.take (cpN q p) = p.take (cpN q p) := cpN_take q p
      unfold growN
      rw [find_lead _ _ _ (fun x e => by cases e)]
      cases hs : strip (p.take (cpN q p)) p' with
      | none =>
        have hn : ∀ r, p' ≠ p.take (cpN q p) ++ r := fun r e => by rw [strip_some.2 e] at hs; cases hs
        have h1 : p ≠ p' := fun e => hn (p.drop (cpN q p)) (by rw [List.take_append_drop]; exact e.symm)
        have h2 : q ≠ p' := fun e => hn (q.drop (cpN q p)) (by rw [← ht, List.take_append_drop]; exact e.symm)
        rw [if_neg h1]
        show [] = if q = p' then x else []
        rw [if_neg h2]
      | some r =>
        have e := strip_some.1 hs
        show findN (.fork _ _) r = _
        rw [find_add _ _ _ _ _ (fun j b hp => by
          cases hq : q.drop (cpN q p) with
          | nil => rfl
          | cons i a =>
            show updN noN i _ j = .nil
            unfold updN
            rw [if_neg (fun e => cp_next hq hp e.symm)]
            rfl), find_add noN [] (q.drop (cpN q p)) x r (fun _ _ _ => rfl), find_no]
        have d1 : p.drop (cpN q p) = r ↔ p = p' := by rw [e]; exact drop_cp rfl
        have d2 : q.drop (cpN q p) = r ↔ q = p' := by rw [e]; exact drop_cp ht
        by_cases h1 : p = p'
        · rw [if_pos h1, if_pos (d1.2 h1)]
        · rw [if_neg h1, if_neg (fun e => h1 (d1.1 e))]
          show _ = if q = p' then x else []
          by_cases h2 : q = p'
          · rw [if_pos h2, if_pos (d2.2 h2)]
          · rw [if_neg h2, if_neg (fun e => h2 (d2.1 e))]
  | .stem q t, d, h, p, v, p', hb => by
    obtain ⟨g1, g2, g3, g4, g5⟩ := h
    have hfar : ∀ (n : Nd) x, isFk n → n ≠ .far x := fun n x hf e => by subst e; exact hf.elim
    by_cases hin : cpN q p = q.length
    · show findN (if cpN q p = q.length then _ else _) p' = _
      rw [if_pos hin, find_lead _ _ _ (fun x => hfar _ x (putN_fk g4 _ _)), find_stem]
      have ep := cpN_full hin
      rw [hin]
      cases hs : strip q p' with
      | none =>
        rw [if_neg (fun e => by rw [← e, strip_some.2 ep] at hs; cases hs)]
        rfl
      | some r =>
        have e := strip_some.1 hs
        show findN (putN t (p.drop q.length) v) r = if p = p' then v else findN t r
        rw [find_put g5 _ _ _ (hb.drop _)]
        have d1 : p.drop q.length = r ↔ p = p' := by
          constructor
          · intro h; rw [ep, h, e]
          · intro h; rw [ep, e] at h; exact List.append_cancel_left h
        by_cases h1 : p = p'
        · rw [if_pos h1, if_pos (d1.2 h1)]
        · rw [if_neg h1, if_neg (fun e => h1 (d1.1 e))]
    · show findN (if cpN q p = q.length then _ else _) p' = _
      rw [if_neg hin]
      have ht : q.take (cpN q p) = p.take (cpN q p) := cpN_take q p
      have hlt : cpN q p < q.length := by have := cpN_le q p; omega
      obtain ⟨i, hi⟩ : ∃ i, q.drop (cpN q p) = i :: q.drop (cpN q p + 1) := ⟨q[cpN q p], by rw [List.drop_eq_getElem_cons hlt]⟩
      have hgi : q.getD (cpN q p) 0 = i := by
        have := congrArg (·[0]?) hi
        simp only [List.getElem?_drop, Nat.add_zero, List.getElem?_cons_zero] at this
        rw [List.getD_eq_getElem?_getD, this]
        rfl
      rw [hgi]
      have eq : q = p.take (cpN q p) ++ i :: q.drop (cpN q p + 1) := by
        rw [← hi, ← ht, List.take_append_drop]
      unfold growN
      rw [find_lead _ _ _ (fun x e => by cases e), find_stem]
      cases hs : strip (p.take (cpN q p)) p' with
      | none =>
        have hn : ∀ r, p' ≠ p.take (cpN q p) ++ r := fun r e => by rw [strip_some.2 e] at hs; cases hs
        have h1 : p ≠ p' := fun e => hn (p.drop (cpN q p)) (by rw [List.take_append_drop]; exact e.symm)
        rw [if_neg h1]
        have h2 : strip q p' = none := by
          cases h3 : strip q p' with
          | none => rfl
          | some r =>
            have e := strip_some.1 h3
            exact absurd (by rw [e]; conv => lhs; rw [eq]
                             rw [List.append_assoc]) (hn (i :: q.drop (cpN q p + 1) ++ r))
        rw [h2]
        rfl
      | some r =>
        have e := strip_some.1 hs
        have h2 : strip q p' = strip (i :: q.drop (cpN q p + 1)) r := by
          conv => lhs; rw [eq]
          rw [strip_app, hs]
          rfl
        rw [h2]
        show findN (.fork _ _) r = _
        rw [find_add _ _ _ _ _ (fun j b hp => by
          show updN noN i _ j = .nil
          unfold updN
          rw [if_neg (fun e => cp_next hi hp e.symm)]
          rfl)]
        have d1 : p.drop (cpN q p) = r ↔ p = p' := by rw [e]; exact drop_cp rfl
        by_cases h1 : p = p'
        · rw [if_pos h1, if_pos (d1.2 h1)]
        · rw [if_neg h1, if_neg (fun e => h1 (d1.1 e))]
          cases r with
          | nil => rfl
          | cons j r =>
            show findN (updN noN i (leadN (q.drop (cpN q p + 1)) t) j) r = atO t (if i = j then strip (q.drop (cpN q p + 1)) r else none)
            unfold updN
            by_cases hj : j = i
            · rw [if_pos hj, if_pos hj.symm, find_lead _ _ _ (fun x => hfar t x g4)]
            · rw [if_neg hj, if_neg (fun e => hj e.symm)]
              rfl
  | .fork c x, d, h, p, v, p', hb => by
    obtain ⟨g1, g2, g3, g4⟩ := h
    cases p with
    | nil =>
      cases p' with
      | nil => rw [if_pos rfl]; rfl
      | cons i r => rw [if_neg (by simp)]; rfl
    | cons i r =>
      cases p' with
      | nil => rw [if_neg (by simp)]; rfl
      | cons j s =>
        show findN (updN c i (putN (c i) r v) j) s = _
        unfold updN
        by_cases hj : j = i
        · subst hj
          rw [if_pos rfl]
          rw [find_put (g2 j (hb j (by simp))) _ _ _ (fun z hz => hb z (by simp [hz]))]
          by_cases h2 : r = s
          · subst h2; rw [if_pos rfl, if_pos rfl]
          · rw [if_neg h2, if_neg (by simp [h2])]
            rfl
        · rw [if_neg hj, if_neg (by intro e; exact hj (List.cons.inj e).1.symm)]
          rfl
end Go.Proofs.YtmpfnglcmaollaaDoor
namespace Go.Proofs.YtmpfnglcmaollaaDoor
open Go.ChangeShapes Go.WideShapes Go.ChangeAt Go.RowKit

def nilB : Nd → Bool
  | .nil => true
  | _ => false
theorem nilB_iff {n : Nd} : nilB n = true ↔ n = .nil := by cases n <;> simp [nilB]
/-- The slots of a fork that are filled. -/
def fillF (c : Nat → Nd) : List Nat := (List.range 16).filter (fun i => !nilB (c i))
theorem mem_fill {c : Nat → Nd} {i : Nat} : i ∈ fillF c ↔ i < 16 ∧ c i ≠ .nil := by
  unfold fillF
  rw [List.mem_filter, List.mem_range]
  constructor
  · rintro ⟨h, k⟩
    refine ⟨h, fun e => ?_⟩
    rw [e] at k
    simp [nilB] at k
  · rintro ⟨h, k⟩
    refine ⟨h, ?_⟩
    cases hn : nilB (c i) with
    | false => rfl
    | true => exact absurd (nilB_iff.1 hn) k
theorem filter_less {p q : Nat → Bool} {i : Nat} : ∀ {l : List Nat}, l.Nodup → i ∈ l → p i = true → q i = false → (∀ j, j ≠ i → q j = p j) → (l.filter q).length + 1 = (l.filter p).length
  | [], _, h, _, _, _ => by cases h
  | k :: l, hn, hi, hp, hq, hj => by
    rw [List.nodup_cons] at hn
    by_cases hk : k = i
    · subst hk
      have : l.filter q = l.filter p := List.filter_congr fun j hjl => hj j (fun e => hn.1 (e ▸ hjl))
      simp [hp, hq, this]
    · have hil : i ∈ l := by
        rcases List.mem_cons.1 hi with h | h
        · exact absurd h.symm hk
        · exact h
      have ih := filter_less hn.2 hil hp hq hj
      have hkk := hj k hk
      by_cases hpk : p k = true
      · rw [List.filter_cons_of_pos (by rw [hkk]; exact hpk), List.filter_cons_of_pos hpk]
        simp only [List.length_cons]
        omega
      · rw [List.filter_cons_of_neg (by rw [hkk]; exact hpk), List.filter_cons_of_neg hpk]
        exact ih
theorem fill_less {c : Nat → Nd} {i : Nat} (hi : i < 16) (hc : c i ≠ .nil) : (fillF (updN c i .nil)).length + 1 = (fillF c).length := by
  unfold fillF
  refine filter_less (i := i) List.nodup_range (List.mem_range.2 hi) ?_ ?_ ?_
  · cases hn : nilB (c i) with
    | false => rfl
    | true => exact absurd (nilB_iff.1 hn) hc
  · simp [updN, nilB]
  · intro j hj
    simp [updN, hj]
theorem fill_same {c : Nat → Nd} {i : Nat} {n : Nd} (hc : c i ≠ .nil) (hn : n ≠ .nil) : fillF (updN c i n) = fillF c := by
  unfold fillF
  refine List.filter_congr fun j _ => ?_
  unfold updN
  by_cases h : j = i
  · subst h
    rw [if_pos rfl]
    cases h1 : nilB n with
    | true => exact absurd (nilB_iff.1 h1) hn
    | false =>
      cases h2 : nilB (c j) with
      | true => exact absurd (nilB_iff.1 h2) hc
      | false => rfl
  · rw [if_neg h]
theorem fill_more {c : Nat → Nd} {i : Nat} {n : Nd} (hi : i < 16) (hn : n ≠ .nil) : (fillF c).length ≤ (fillF (updN c i n)).length := by
  by_cases hc : c i = .nil
  · have h := fill_less (c := updN c i n) hi (by unfold updN; rw [if_pos rfl]; exact hn)
    have e : fillF (updN (updN c i n) i .nil) = fillF c := by
      unfold fillF
      refine List.filter_congr fun j _ => ?_
      unfold updN
      by_cases hj : j = i
      · subst hj; rw [if_pos rfl, hc]
      · rw [if_neg hj, if_neg hj]
    rw [e] at h
    omega
  · rw [fill_same hc hn]
    exact Nat.le_refl _
/-- What a fork is left with. -/
def thinN (c : Nat → Nd) (x : List Nat) : Nd :=
  match fillF c with
  | [] => .leaf [] x
  | [i] => if x = [] then leadN [i] (c i) else .fork c x
  | _ => .fork c x
def remN : Nd → List Nat → Nd
  | .nil, _ => .nil
  | .far h, _ => .far h
  | .leaf q x, p => if q = p then .nil else .leaf q x
  | .stem q t, p => if cpN q p = q.length then leadN q (remN t (p.drop (cpN q p))) else .stem q t
  | .fork c x, p => match p with
    | [] => thinN c []
    | i :: r => thinN (updN c i (remN (c i) r)) x
/-- Forks have two at least. -/
def canN : Nd → Prop
  | .stem _ t => canN t
  | .fork c x => (∀ i, i < 16 → canN (c i)) ∧ 2 ≤ (fillF c).length + (if x = [] then 0 else 1)
  | _ => True
theorem leadN_can : ∀ {n : Nd} {p : List Nat}, canN n → canN (leadN p n)
  | .nil, _, _ => trivial
  | .far x, p, _ => by
    show canN (if p = [] then Nd.far x else Nd.stem p (.far x))
    split <;> trivial
  | .leaf _ _, _, _ => trivial
  | .stem q t, p, h => by
    show canN (if p = [] then Nd.stem q t else leadN (p ++ q) t)
    split
    · exact h
    · exact leadN_can (n := t) h
  | .fork c x, p, h => by
    show canN (if p = [] then Nd.fork c x else Nd.stem p (.fork c x))
    split
    · exact h
    · exact h
theorem find_thin (c : Nat → Nd) (x : List Nat) (hf : ∀ i, i < 16 → ∀ y, c i ≠ .far y) {p : List Nat} (hp : Nb p) : findN (thinN c x) p = findN (.fork c x) p := by
  have hnil : ∀ i, i < 16 → i ∉ fillF c → c i = .nil := fun i hi h => by
    by_cases hc : c i = .nil
    · exact hc
    · exact absurd (mem_fill.2 ⟨hi, hc⟩) h
  unfold thinN
  split
  · rename_i h
    cases p with
    | nil => rfl
    | cons i r =>
      show (if ([] : List Nat) = i :: r then x else []) = findN (c i) r
      rw [if_neg (by simp), hnil i (hp i (by simp)) (by rw [h]; simp)]
      rfl
  · rename_i j h
    have hj := (mem_fill (c := c) (i := j)).1 (by rw [h]; simp)
    split
    · rename_i hx
      rw [find_lead _ _ _ (hf j hj.1)]
      cases p with
      | nil => rw [hx]; rfl
      | cons i r =>
        show atO (c j) (if j = i then strip [] r else none) = findN (c i) r
        by_cases hji : j = i
        · subst hji; rw [if_pos rfl]; rfl
        · rw [if_neg hji, hnil i (hp i (by simp)) (by rw [h]; simp; exact fun e => hji e.symm)]
          rfl
    · rfl
  · rfl
end Go.Proofs.YtmpfnglcmaollaaDoor
