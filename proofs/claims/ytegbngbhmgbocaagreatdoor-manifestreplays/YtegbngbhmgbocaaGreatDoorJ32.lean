/-
  ManifestUndoes: what is added and dropped again.
-/
import Derived.Test.YtegbngbhmgbocaaGreatDoorJ31
import Derived.Test.YtegbngbhmgbocaaGreatDoorJ28
import Derived.Test.YtegbngbhmgbocaaGreatDoorJ17
namespace Go.Proofs.YtegbngbhmgbocaaGreatDoor
open Go.ChangeShapes Go.WideShapes Go.ChangeAt Go.RowKit

theorem step_buildG {ops : Array Oper} {o : Oper} {a : Act} {w : World} {K : Act → World → Prop} {Q : Exit → Act → World → Prop} {E : Prop} (hg : o.guard = none) (y : Operand) (hop : o.op = Op.buildSlice 38 1 #[(0, y)]) {g1 g2 : Int} (hx : a.eval y = .agg #[.int .i64 g1, .int .i64 g2])
    (hK : K (a.put o.dst (.slice (some ⟨w.heap.size, 0, none⟩) 1 1)) (w.alloc (.cells #[.int .i64 g1, .int .i64 g2] 45))) :
    if Region.wanted o (yielded ops a.tmps) = true then Oper.wp Tryz.prog o a w K Q else E := by
  have hw : Region.wanted o (yielded ops a.tmps) = true := by simp [Region.wanted, hg]
  rw [if_pos hw]
  unfold Oper.wp
  simp [execOp, hop, hx]
  go_simp
  exact hK
theorem step_appG {ops : Array Oper} {o : Oper} {a : Act} {w : World} {K : Act → World → Prop} {Q : Exit → Act → World → Prop} {E : Prop} (hg : o.guard = none) (s y : Operand) (hop : o.op = Op.call { callee := Callee.builtin Builtin.append, args := #[s, y], argTypes := #[38, 38] }) (base : Nat) {ad : Option Addr} {n c : Nat} {gs : List (Int × Int)} (hn : n = gs.length) (hs : a.eval s = .slice ad n c) (hown : w.ownsRow base 45 2 (.slice ad n c) gs.length (cellsD gs)) {G : Nat} (hx : a.eval y = .slice (some ⟨G, 0, none⟩) 1 1) {g1 g2 : Int} (hG : w.heap[G]? = some (.cells #[.int .i64 g1, .int .i64 g2] 45 (0, 0)))
    (hl : n ≤ 100000) (hbase : base ≤ w.heap.size)
    (hK : ∀ a' c' w', w'.ownsRow base 45 2 (.slice a' (n + 1) c') (gs ++ [(g1, g2)]).length (cellsD (gs ++ [(g1, g2)])) → w.grownBy w' (Value.slice ad n c).ownBlock → K (a.put o.dst (.slice a' (n + 1) c')) w') :
    if Region.wanted o (yielded ops a.tmps) = true then Oper.wp Tryz.prog o a w K Q else E := by
  obtain ⟨i0, hi0, hz0, hz1, hz2⟩ := info_parts9 infoGone
  subst hn
  refine step_append_own hg s y 38 hop base 45 i0 _ 2 16 Tryz.underlying38 hi0 hz0 hz1 hz2 rfl (by decide) _ gs.length (cellsD gs) hs hown ⟨G, 0, none⟩ 1 1 [.int .i64 g1, .int .i64 g2] hx rfl (fun j u hj => by rw [Addr.add_lit, Nat.zero_add, blk_cell hG, ← Array.getElem?_toList]; exact hj) (fun u hu => by simp at hu; rcases hu with rfl | rfl <;> rfl) (by unfold maxLen; omega) (by omega) hbase (fun v' w' o' g' q' => ?_)
  obtain ⟨a', c', rfl, _⟩ := ownsRow_slice o'
  refine hK a' c' w' ?_ g'
  rw [cellsD_snoc, List.length_append]
  exact o'
/-- What Apply answers, in one form. -/
structure AFm (w w' : World) (v : Vn) (e : Ed) (a0 a1 a2 : Int) (kd : Nat → Option Addr) (kl kc : Nat → Nat) (c : Int) : Prop where
  fr : Fr [] w w'
  out : c ≠ 0 ∨ (c = 0 ∧ ∃ U, (a0 = e.log ∧ a1 = e.next ∧ a2 = (e.seq : Int)) ∧ chkV v = 0 ∧ okE e = true ∧ okA9 v e U ∧ OwnV w.heap.size w' U kd kl kc)
theorem AOut.form {w w' : World} {v : Vn} {e : Ed} {r : Ending} (h : AOut w w' v e r) : ∃ a0 a1 a2 kd kl kc c, r = .returned (.tuple #[.agg #[.int .i64 a0, .int .i64 a1, .int .u64 a2, .slice (kd 0) (kl 0) (kc 0), .slice (kd 1) (kl 1) (kc 1), .slice (kd 2) (kl 2) (kc 2), .slice (kd 3) (kl 3) (kc 3), .slice (kd 4) (kl 4) (kc 4)], .int .i64 c]) ∧ AFm w w' v e a0 a1 a2 kd kl kc c := by
  rcases h.out with ⟨h1, rfl⟩ | ⟨h1, h2, rfl⟩ | ⟨h1, h2, ⟨c, h3, h4, rfl⟩ | ⟨U, kd, kl, kc, h3, rfl, h4⟩⟩
  · exact ⟨0, 0, 0, fun _ => none, fun _ => 0, fun _ => 0, _, rfl, h.fr, .inl h1⟩
  · exact ⟨0, 0, 0, fun _ => none, fun _ => 0, fun _ => 0, _, rfl, h.fr, .inl (by omega)⟩
  · exact ⟨0, 0, 0, fun _ => none, fun _ => 0, fun _ => 0, _, rfl, h.fr, .inl h4⟩
  · exact ⟨_, _, _, kd, kl, kc, 0, rfl, h.fr, .inr ⟨rfl, U, ⟨rfl, rfl, rfl⟩, h1, h2, h3, h4⟩⟩
theorem VAt.congr {w : World} {L L' : Nat → List Fl} {ad : Nat → Option Addr} {ln ln' cp : Nat → Nat} (h : VAt w L ad ln cp) (h1 : ∀ i, i < 5 → L i = L' i) (h2 : ∀ i, i < 5 → ln i = ln' i) : VAt w L' ad ln' cp :=
  ⟨fun i hi => by rw [← h2 i hi, ← h1 i hi]; exact h.len i hi, fun i hi => by rw [← h2 i hi]; exact h.small i hi, fun i hi h0 => by rw [← h2 i hi] at h0; rw [← h1 i hi]; exact h.rd i hi h0⟩
/-- The second edit brings the first version back. -/
structure A2Out (w w' : World) (vl nx : Int) (vs : Nat) (L : Nat → List Fl) (ln : Nat → Nat) (r : Ending) : Prop where
  fr : Fr [] w w'
  out : ∃ kd kc, r = .returned (.tuple #[.agg #[.int .i64 vl, .int .i64 nx, .int .u64 (vs : Int), .slice (kd 0) (ln 0) (kc 0), .slice (kd 1) (ln 1) (kc 1), .slice (kd 2) (ln 2) (kc 2), .slice (kd 3) (ln 3) (kc 3), .slice (kd 4) (ln 4) (kc 4)], .int .i64 0]) ∧ VAt w' L kd ln kc
theorem AOut.undo {w w' : World} {v : Vn} {nx : Int} {ps : List (Int × Fl)} {U : Nat → List Fl} {ln : Nat → Nat} {r : Ending} (hu : Undo v nx ps U) (hl : ∀ i, i < 5 → ln i = (v.lv i).length) (h : AOut w w' ⟨v.log, nx, v.seq, U⟩ (dropE v nx ps) r) : A2Out w w' v.log nx v.seq v.lv ln r := by
  refine ⟨h.fr, ?_⟩
  rcases h.out with ⟨h1, _⟩ | ⟨_, h2, _⟩ | ⟨_, _, ⟨c, h3, h4, _⟩ | ⟨U2, kd, kl, kc, h3, rfl, h4⟩⟩
  · exact absurd hu.made.chk h1
  · rw [hu.ok2] at h2; cases h2
  · exfalso
    rcases h3 with ⟨h5, _⟩ | ⟨_, h5, _⟩ | ⟨_, _, U2, h5, h6, _⟩
    · exact h5 hu.cnt
    · exact hu.back2 h5
    · exact h6 (hu.chk2 h5)
  · have he : ∀ i, i < 5 → kl i = ln i := fun i hi => by
      have := h4.vat.len i hi
      rw [this, hu.back h3.comes hi, hl i hi]
    refine ⟨kd, kc, ?_, h4.vat.congr (fun i hi => hu.back h3.comes hi) he⟩
    rw [he 0 (by omega), he 1 (by omega), he 2 (by omega), he 3 (by omega), he 4 (by omega)]
    rfl
/-- The second edit, as it is made. -/
structure DS (W0 W : World) (QA Q8 : Nat) (c0 c1 c2 : Int) (gs : List (Int × Int)) (n : Nat) (gd : Option Addr) (gc : Nat) (cv : Array Value) (U : Nat → List Fl) (kd : Nat → Option Addr) (kl kc : Nat → Nat) : Prop where
  blk : W.heap[QA]? = some (.cells #[.int .i64 c0, .int .i64 c1, .int .u64 c2, .slice gd n gc, .slice none 0 0] 41 (0, 0))
  own : W.ownsRow W0.heap.size 45 2 (.slice gd n gc) gs.length (cellsD gs)
  hn : n = gs.length
  fr : Fr [] W0 W
  n8 : W.heap[Q8]? = some (.cells cv 28 (0, 0))
  ov : OwnV W0.heap.size W U kd kl kc
  ge : W0.heap.size ≤ QA
theorem OwnV.keep {B : Nat} {W W' : World} {U : Nat → List Fl} {kd : Nat → Option Addr} {kl kc : Nat → Nat} (h : OwnV B W U kd kl kc) (hk : ∀ k, k < W.heap.size → (∃ cs, W.heap[k]? = some (.cells cs 62 (0, 0))) ∨ (∃ cs, W.heap[k]? = some (.cells cs 5 (0, 0))) → W'.heap[k]? = W.heap[k]?) : OwnV B W' U kd kl kc := by
  obtain ⟨⟨Z, h1, h2, h3, h4⟩, h5, h6⟩ := h
  have ob : ∀ {e : TypeId} {s n : Nat} {v : Value} {xs : List Value}, (e = 62 ∨ e = 5) → W.ownsRow B e s v n xs → W'.ownsRow B e s v n xs := fun {e s n v xs} he o => ownsRow_of_block o fun b hb => by
    rcases o.2 with ⟨q1, _⟩ | ⟨g, cap, cur, q1, _, q3, _⟩
    · rw [q1] at hb; simp [Value.ownBlock] at hb
    · rw [q1] at hb
      simp [Value.ownBlock] at hb
      subst hb
      rcases he with rfl | rfl
      · exact hk _ (blk_lt q3) (.inl ⟨_, q3⟩)
      · exact hk _ (blk_lt q3) (.inr ⟨_, q3⟩)
  exact ⟨⟨Z, h1, h2, fun k hk' => ob (.inl rfl) (h3 k hk'), fun k hk' x hx => ⟨ob (.inr rfl) (h4 k hk' x hx).ol, ob (.inr rfl) (h4 k hk' x hx).om⟩⟩, h5, h6⟩
theorem DS.fr' {W0 W W' : World} {QA Q8 : Nat} {c0 c1 c2 : Int} {gs : List (Int × Int)} {n : Nat} {gd : Option Addr} {gc : Nat} {cv : Array Value} {U : Nat → List Fl} {kd : Nat → Option Addr} {kl kc : Nat → Nat} (h : DS W0 W QA Q8 c0 c1 c2 gs n gd gc cv U kd kl kc) (f : Fr [] W W') : DS W0 W' QA Q8 c0 c1 c2 gs n gd gc cv U kd kl kc :=
  ⟨f.at h.blk (by simp), ownsRow_fr h.own f, h.hn, h.fr.trans f, f.at h.n8 (by simp), h.ov.fr' f, h.ge⟩
theorem DS.app {W0 W W' : World} {QA Q8 : Nat} {c0 c1 c2 : Int} {gs : List (Int × Int)} {n : Nat} {gd : Option Addr} {gc : Nat} {cv : Array Value} {U : Nat → List Fl} {kd : Nat → Option Addr} {kl kc : Nat → Nat} (h : DS W0 W QA Q8 c0 c1 c2 gs n gd gc cv U kd kl kc) {g : Int × Int} {a' : Option Addr} {c' : Nat}
    (o : W'.ownsRow W0.heap.size 45 2 (.slice a' (n + 1) c') (gs ++ [g]).length (cellsD (gs ++ [g]))) (gr : W.grownBy W' (Value.slice gd n gc).ownBlock) :
    W'.heap[QA]? = some (.cells #[.int .i64 c0, .int .i64 c1, .int .u64 c2, .slice gd n gc, .slice none 0 0] 41 (0, 0)) ∧ Fr [] W0 W' ∧ DS W0 (W'.setCell ⟨QA, 3, none⟩ (.slice a' (n + 1) c')) QA Q8 c0 c1 c2 (gs ++ [g]) (n + 1) a' c' cv U kd kl kc := by
  have kb : ∀ {k : Nat} {cs : Array Value} {T : TypeId}, T ≠ 45 → W.heap[k]? = some (.cells cs T (0, 0)) → W'.heap[k]? = W.heap[k]? := fun {k cs T} hT hk => gr.block k (blk_lt hk) (fun e => own_not h.own hk hT e.symm)
  have hq : W'.heap[QA]? = some (.cells #[.int .i64 c0, .int .i64 c1, .int .u64 c2, .slice gd n gc, .slice none 0 0] 41 (0, 0)) := by rw [kb (by decide) h.blk]; exact h.blk
  have h8 : W'.heap[Q8]? = some (.cells cv 28 (0, 0)) := by rw [kb (by decide) h.n8]; exact h.n8
  have fw : Fr [] W0 W' := h.fr.grown gr (fun k e => by
    rcases h.own.2 with ⟨q1, _⟩ | ⟨g', cap, cur, q1, q2, q3, _⟩
    · rw [q1] at e; simp [Value.ownBlock] at e
    · rw [q1] at e; simp [Value.ownBlock] at e; subst e; exact .inr q2)
  have ne8 : Q8 ≠ QA := fun e => by rw [e, hq] at h8; simp at h8
  refine ⟨hq, fw, ⟨by rw [blk_set hq]; rfl, ?_, by rw [List.length_append, h.hn]; rfl, fw.set _ _ (.inr h.ge), by rw [blk_setne _ _ _ ne8]; exact h8, ?_, h.ge⟩⟩
  · exact ownsRow_of_block o fun k hk => blk_setne _ _ _ (fun e => by subst e; exact own_not o hq (by decide) hk)
  · have o1 : OwnV W0.heap.size W' U kd kl kc := h.ov.keep (fun k hk hc => by
      rcases hc with ⟨cs, hc⟩ | ⟨cs, hc⟩
      · exact kb (by decide) hc
      · exact kb (by decide) hc)
    refine o1.keep (fun k hk hc => blk_setne _ _ _ (fun e => ?_))
    subst e
    rcases hc with ⟨cs, hc⟩ | ⟨cs, hc⟩
    · rw [hq] at hc; simp at hc
    · rw [hq] at hc; simp at hc
end Go.Proofs.YtegbngbhmgbocaaGreatDoor
namespace Go.Proofs.YtegbngbhmgbocaaGreatDoor
open Go.ChangeShapes Go.WideShapes Go.ChangeAt Go.RowKit

/-- All tables of a version, each with its level. -/
def tagL (i : Nat) (l : List Fl) : List (Int × Fl) := l.map (fun f => ((i : Int), f))
def allA (L : Nat → List Fl) (i : Nat) : List (Int × Fl) := (List.range i).flatMap (fun k => tagL k (L k))
theorem allA_succ (L : Nat → List Fl) (i : Nat) : allA L (i + 1) = allA L i ++ tagL i (L i) := by
  unfold allA; rw [List.range_succ, List.flatMap_append]; simp
theorem tag_take {i j : Nat} {l : List Fl} {f : Fl} (h : l[j]? = some f) : tagL i (l.take (j + 1)) = tagL i (l.take j) ++ [((i : Int), f)] := by
  unfold tagL; rw [List.take_add_one, h]; simp
theorem allA_len (L : Nat → List Fl) (h : ∀ i, i < 5 → (L i).length ≤ 100) : ∀ i, i ≤ 5 → (allA L i).length ≤ i * 100
  | 0, _ => by simp [allA]
  | i + 1, hi => by
    have h1 := allA_len L h i (by omega)
    have h2 := h i (by omega)
    rw [allA_succ, List.length_append]
    unfold tagL
    rw [List.length_map]
    omega
theorem step_buildP {ops : Array Oper} {o : Oper} {a : Act} {w : World} {K : Act → World → Prop} {Q : Exit → Act → World → Prop} {E : Prop} (hg : o.guard = none) (y : Operand) (hop : o.op = Op.buildSlice 39 1 #[(0, y)]) {g0 g1 g2 : Int} {la ma : Option Addr} {ll lc lm mc : Nat} (hx : a.eval y = .agg #[.int .i64 g0, .int .i64 g1, .int .i64 g2, .slice la ll lc, .slice ma lm mc])
    (hK : K (a.put o.dst (.slice (some ⟨w.heap.size, 0, none⟩) 1 1)) (w.alloc (.cells #[.int .i64 g0, .int .i64 g1, .int .i64 g2, .slice la ll lc, .slice ma lm mc] 64))) :
    if Region.wanted o (yielded ops a.tmps) = true then Oper.wp Tryz.prog o a w K Q else E := by
  have hw : Region.wanted o (yielded ops a.tmps) = true := by simp [Region.wanted, hg]
  rw [if_pos hw]
  unfold Oper.wp
  simp [execOp, hop, hx]
  go_simp
  exact hK
theorem step_appP {ops : Array Oper} {o : Oper} {a : Act} {w : World} {K : Act → World → Prop} {Q : Exit → Act → World → Prop} {E : Prop} (hg : o.guard = none) (s y : Operand) (hop : o.op = Op.call { callee := Callee.builtin Builtin.append, args := #[s, y], argTypes := #[39, 39] }) (base : Nat) {ad : Option Addr} {n c : Nat} {xs : List Value} (hs : a.eval s = .slice ad n c) (hown : w.ownsRow base 64 5 (.slice ad n c) n xs) {G : Nat} (hx : a.eval y = .slice (some ⟨G, 0, none⟩) 1 1) {g0 g1 g2 : Int} {la ma : Option Addr} {ll lc lm mc : Nat} (hG : w.heap[G]? = some (.cells #[.int .i64 g0, .int .i64 g1, .int .i64 g2, .slice la ll lc, .slice ma lm mc] 64 (0, 0)))
    (hl : n ≤ 100000) (hbase : base ≤ w.heap.size)
    (hK : ∀ a' c' w', w'.ownsRow base 64 5 (.slice a' (n + 1) c') (n + 1) (xs ++ [.int .i64 g0, .int .i64 g1, .int .i64 g2, .slice la ll lc, .slice ma lm mc]) → w.grownBy w' (Value.slice ad n c).ownBlock → K (a.put o.dst (.slice a' (n + 1) c')) w') :
    if Region.wanted o (yielded ops a.tmps) = true then Oper.wp Tryz.prog o a w K Q else E := by
  obtain ⟨i0, hi0, hz0, hz1, hz2⟩ := info_parts9 infoPlaced
  refine step_append_own hg s y 39 hop base 64 i0 _ 5 72 Tryz.underlying39 hi0 hz0 hz1 hz2 rfl (by decide) _ n xs hs hown ⟨G, 0, none⟩ 1 1 [.int .i64 g0, .int .i64 g1, .int .i64 g2, .slice la ll lc, .slice ma lm mc] hx rfl (fun j u hj => by rw [Addr.add_lit, Nat.zero_add, blk_cell hG, ← Array.getElem?_toList]; exact hj) (fun u hu => by simp at hu; rcases hu with rfl | rfl | rfl | rfl | rfl <;> rfl) (by unfold maxLen; omega) (by omega) hbase (fun v' w' o' g' q' => ?_)
  obtain ⟨a', c', rfl, _⟩ := ownsRow_slice o'
  exact hK a' c' w' o' g'
/-- The edit, as it is made. -/
structure WhS (W0 W : World) (Q5 : Nat) (c0 c1 c2 : Int) (ps : List (Int × Fl)) (aa : Option Addr) (al ac : Nat) : Prop where
  blk : W.heap[Q5]? = some (.cells #[.int .i64 c0, .int .i64 c1, .int .u64 c2, .slice none 0 0, .slice aa al ac] 41 (0, 0))
  ao : AO W W0.heap.size (.slice aa al ac) ps
  hl : al = ps.length
  fr : Fr [] W0 W
  ge : W0.heap.size ≤ Q5
theorem WhS.fr' {W0 W W' : World} {Q5 : Nat} {c0 c1 c2 : Int} {ps : List (Int × Fl)} {aa : Option Addr} {al ac : Nat} (h : WhS W0 W Q5 c0 c1 c2 ps aa al ac) (f : Fr [] W W') : WhS W0 W' Q5 c0 c1 c2 ps aa al ac :=
  ⟨f.at h.blk (by simp), h.ao.step (fun k _ hk => f.block k hk (by simp)), h.hl, h.fr.trans f, h.ge⟩
theorem AO.setE {W : World} {B : Nat} {v : Value} {ps : List (Int × Fl)} (h : AO W B v ps) {p : Nat} {cs : Array Value} (hp : W.heap[p]? = some (.cells cs 41 (0, 0))) (i : Nat) (u : Value) : AO (W.setCell ⟨p, i, none⟩ u) B v ps := by
  obtain ⟨xs, o, h2⟩ := h
  have st : ∀ {e : TypeId} {s n : Nat} {v : Value} {xs : List Value}, 41 ≠ e → W.ownsRow B e s v n xs → (W.setCell ⟨p, i, none⟩ u).ownsRow B e s v n xs := fun hne o => ownsRow_of_block o fun k hk => blk_setne _ _ _ (fun e => by subst e; exact own_not o hp hne hk)
  refine ⟨xs, st (by decide) o, fun j q hj => ?_⟩
  obtain ⟨la, lc, ma, mc, d0, d1, d2, d3, d4, q0, q1⟩ := h2 j q hj
  exact ⟨la, lc, ma, mc, d0, d1, d2, d3, d4, st (by decide) q0, st (by decide) q1⟩
theorem WhS.app {W0 W W' : World} {Q5 : Nat} {c0 c1 c2 : Int} {ps : List (Int × Fl)} {aa : Option Addr} {al ac : Nat} (h : WhS W0 W Q5 c0 c1 c2 ps aa al ac) {xs : List Value} (ho : W.ownsRow W0.heap.size 64 5 (.slice aa al ac) ps.length xs)
    (hx : ∀ (j : Nat) (p : Int × Fl), ps[j]? = some p → ∃ la lc ma mc, xs[j * 5]? = some (.int .i64 p.1) ∧ xs[j * 5 + 1]? = some (.int .i64 p.2.num) ∧ xs[j * 5 + 2]? = some (.int .i64 p.2.size) ∧ xs[j * 5 + 3]? = some (.slice la p.2.least.length lc) ∧ xs[j * 5 + 4]? = some (.slice ma p.2.most.length mc) ∧ W.ownsRow W0.heap.size 5 1 (.slice la p.2.least.length lc) p.2.least.length (bv p.2.least) ∧ W.ownsRow W0.heap.size 5 1 (.slice ma p.2.most.length mc) p.2.most.length (bv p.2.most))
    {p : Int × Fl} {la ma : Option Addr} {lc mc : Nat} (xo : XO W0.heap.size W p.2 la lc ma mc) {a' : Option Addr} {c' : Nat}
    (o : W'.ownsRow W0.heap.size 64 5 (.slice a' (al + 1) c') (al + 1) (xs ++ [.int .i64 p.1, .int .i64 p.2.num, .int .i64 p.2.size, .slice la p.2.least.length lc, .slice ma p.2.most.length mc])) (gr : W.grownBy W' (Value.slice aa al ac).ownBlock) :
    W'.heap[Q5]? = some (.cells #[.int .i64 c0, .int .i64 c1, .int .u64 c2, .slice none 0 0, .slice aa al ac] 41 (0, 0)) ∧ WhS W0 (W'.setCell ⟨Q5, 4, none⟩ (.slice a' (al + 1) c')) Q5 c0 c1 c2 (ps ++ [p]) a' (al + 1) c' := by
  have hq : W'.heap[Q5]? = some (.cells #[.int .i64 c0, .int .i64 c1, .int .u64 c2, .slice none 0 0, .slice aa al ac] 41 (0, 0)) := by
    rw [gr.block Q5 (blk_lt h.blk) (fun e => own_not ho h.blk (by decide) e.symm)]; exact h.blk
  have fw : Fr [] W0 W' := h.fr.grown gr (fun k e => by
    rcases ho.2 with ⟨q1, _⟩ | ⟨g', cap, cur, q1, q2, q3, _⟩
    · rw [q1] at e; simp [Value.ownBlock] at e
    · rw [q1] at e; simp [Value.ownBlock] at e; subst e; exact .inr q2)
  refine ⟨hq, ⟨by rw [blk_set hq]; rfl, AO.setE ?_ hq 4 _, by rw [List.length_append, h.hl]; rfl, fw.set _ _ (.inr h.ge), h.ge⟩⟩
  have o2 := o
  rw [h.hl] at o2
  rw [h.hl]
  exact AO.app ho hx xo.ol xo.om o2 gr
/-- What Whole answers. -/
structure WhOut (w w' : World) (v : Vn) (r : Ending) : Prop where
  fr : Fr [] w w'
  out : (chkV v ≠ 0 ∧ r = .returned (.tuple #[.agg #[.int .i64 0, .int .i64 0, .int .u64 0, .slice none 0 0, .slice none 0 0], .int .i64 (chkV v)])) ∨ (chkV v = 0 ∧ ∃ aa al ac, r = .returned (.tuple #[.agg #[.int .i64 v.log, .int .i64 v.next, .int .u64 (v.seq : Int), .slice none 0 0, .slice aa al ac], .int .i64 0]) ∧ al = (allA v.lv 5).length ∧ RdA w' (.slice aa al ac) (allA v.lv 5))
theorem load30k {w : World} {g : Nat} {t : TypeId} {c0 c1 c2 c3 c4 : Value} (hg : w.heap[g]? = some (.cells #[c0, c1, c2, c3, c4] t (0, 0))) : (loadVar 41 ⟨g, 0, none⟩).run Tryz.prog w = .ok (.agg #[c0, c1, c2, c3, c4]) w :=
  run_loadVar_row w g t 41 #[c0, c1, c2, c3, c4] (0, 0) _ hg Tryz.underlying41 rfl (by kernel_rfl)
theorem FAt.by4 {w : World} {b o : Nat} {f : Fl} {la ma : Option Addr} {lc mc : Nat} (h : FAt w b o f la lc ma mc) : (By f.least ∧ f.least.length ≤ 140737488355328) ∧ By f.most ∧ f.most.length ≤ 140737488355328 := ⟨⟨h.rd.bl, h.rd.ll⟩, h.rd.bm, h.rd.lm⟩
theorem VAt.bys {w : World} {L : Nat → List Fl} {ad : Nat → Option Addr} {ln cp : Nat → Nat} (h : VAt w L ad ln cp) : ∀ p ∈ allA L 5, (By p.2.least ∧ p.2.least.length ≤ 140737488355328) ∧ By p.2.most ∧ p.2.most.length ≤ 140737488355328 := by
  intro p hp
  unfold allA at hp
  obtain ⟨i, hi, hpi⟩ := List.mem_flatMap.1 hp
  have hi5 : i < 5 := by simpa using hi
  obtain ⟨f, hf, rfl⟩ := List.mem_map.1 hpi
  obtain ⟨j, hj⟩ := List.getElem?_of_mem hf
  have hl := h.len i hi5
  have hjl := (List.getElem?_eq_some_iff.1 hj).1
  obtain ⟨b, off, _, k⟩ := h.rd i hi5 (by omega)
  obtain ⟨la, lc, ma, mc, q⟩ := k j f hj
  exact q.by4
end Go.Proofs.YtegbngbhmgbocaaGreatDoor
namespace Go.Proofs.YtegbngbhmgbocaaGreatDoor

theorem tk_inv9 : ∀ (b : List Nat), By b → ∀ (i v n k : Nat), tk i v b = (n, k, 0) → ∃ m, n = v + m * 2 ^ (7 * i) ∧ i + (putL m).length = k ∧ b = putL m ++ b.drop (k - i) ∧ (0 < i → m ≠ 0)
  | [], _, i, v, n, k, h => by rw [tk_nil] at h; simp at h
  | x :: r, hb, i, v, n, k, h => by
    by_cases h1 : i = 9 ∧ 1 < x ∨ 0 < i ∧ x = 0
    · rw [tk_bad h1] at h; simp at h
    · have hx : x < 256 := hb x (by simp)
      by_cases h2 : x < 128
      · rw [tk_end h1 h2] at h
        simp only [Prod.mk.injEq, and_true] at h
        obtain ⟨h3, h4⟩ := h
        refine ⟨x, by rw [← h3, Nat.mod_eq_of_lt h2], by rw [putL_lt h2]; exact h4, ?_, fun hi e => h1 (.inr ⟨hi, e⟩)⟩
        rw [putL_lt h2, ← h4, show i + 1 - i = 1 from by omega]; rfl
      · rw [tk_on h1 h2] at h
        obtain ⟨m, m1, m2, m3, m4⟩ := tk_inv9 r (fun y hy => hb y (List.mem_cons_of_mem _ hy)) _ _ _ _ h
        have hm := m4 (by omega)
        have hp : putL (x % 128 + 128 * m) = x :: putL m := by
          rw [putL_ge (by omega), show (x % 128 + 128 * m) % 128 + 128 = x from by omega, show (x % 128 + 128 * m) / 128 = m from by omega]
        refine ⟨x % 128 + 128 * m, ?_, by rw [hp, List.length_cons]; omega, ?_, fun _ => by omega⟩
        · rw [m1, show 7 * (i + 1) = 7 * i + 7 from by omega, Nat.pow_add, Nat.add_mul, show (2 : Nat) ^ 7 = 128 from rfl, Nat.add_assoc, Nat.mul_comm 128 m, Nat.mul_assoc m 128, Nat.mul_comm 128]
        · rw [hp, show k - i = (k - (i + 1)) + 1 from by omega, List.drop_succ_cons, List.cons_append, ← m3]
theorem takeL_inv9 {b : List Nat} (hb : By b) {n k : Nat} (h : takeL b = (n, k, 0)) : b = putL n ++ b.drop k ∧ k = (putL n).length := by
  obtain ⟨m, m1, m2, m3, _⟩ := tk_inv9 b hb 0 0 n k h
  have e : m = n := by rw [m1]; simp
  subst e
  exact ⟨by simpa using m3, by omega⟩

section
variable {s : Option (List Nat)} {r : List Nat}
theorem tkS_put {n : Nat} (h : n < 18446744073709551616) (r : List Nat) : tkS (some (putL n ++ r)) = (n, some r) := by
  have e := takeL_put h r
  rw [tkS_ok (by rw [e]), e]
  simp
theorem nmS_put {n : Int} (h : okN n = true) (r : List Nat) : nmS (some (nb n ++ r)) = (n.toNat, some r) := by
  have hn := okN_iff.1 h
  unfold nmS nb
  rw [tkS_put (by omega)]
  rw [if_neg (by show ¬ 2147483647 < n.toNat; omega)]
theorem ctS_put {n : Nat} (h : n < 18446744073709551616) {r : List Nat} (hr : n ≤ r.length) : ctS (some (putL n ++ r)) = (n, some r) := by
  unfold ctS
  rw [tkS_put h]
  show (if r.length < n then (0, none) else (n, some r)) = (n, some r)
  rw [if_neg (by omega)]
theorem kyS_put {k : List Nat} (h : k.length < 18446744073709551616) (r : List Nat) : kyS (some (putL k.length ++ (k ++ r))) = (k, some r) := by
  unfold kyS
  rw [ctS_put h (by rw [List.length_append]; omega)]
  simp [cutS]
theorem okV_N {n : Int} (h : okV n = true) : okN n = true := by
  have := okV_iff.1 h
  rw [okN_iff]; omega
theorem cast_toNat {n : Int} (h : okN n = true) : ((n.toNat : Nat) : Int) = n := by have := okN_iff.1 h; omega
theorem gnS_put {g : Int × Int} (h : okD g = true) (r : List Nat) : gnS (some (encD g ++ r)) = (g, some r) := by
  unfold okD at h
  rw [Bool.and_eq_true] at h
  have h1 := okV_N h.1
  unfold gnS encD
  rw [List.append_assoc, nmS_put h1]
  simp only
  rw [nmS_put h.2]
  simp only
  rw [cast_toNat h1, cast_toNat h.2]
theorem plS_put {p : Int × Fl} (h : okA p = true) (r : List Nat) : plS (some (encA p ++ r)) = (p, some r) := by
  unfold okA at h
  rw [Bool.and_eq_true] at h
  have h1 := okV_N h.1
  have hl := okF_len h.2
  have hf := h.2
  unfold okF at hf
  simp only [Bool.and_eq_true] at hf
  have h2 := hf.2.2.2.1
  have h3 := hf.2.2.2.2
  unfold plS encA
  simp only [List.append_assoc]
  rw [nmS_put h1]
  simp only
  rw [nmS_put h2]
  simp only
  rw [nmS_put h3]
  simp only
  rw [kyS_put (by omega)]
  simp only
  rw [kyS_put (by omega)]
  simp only
  rw [cast_toNat h1, cast_toNat h2, cast_toNat h3]
theorem sevS_put {α : Type} {f : Option (List Nat) → α × Option (List Nat)} {enc : α → List Nat} {ok : α → Bool} (hf : ∀ x, ok x = true → ∀ r, f (some (enc x ++ r)) = (x, some r)) : ∀ (xs : List α), xs.all ok = true → ∀ r, sevS f xs.length (some (xs.flatMap enc ++ r)) = (xs, some r)
  | [], _, r => rfl
  | x :: xs, h, r => by
    rw [List.all_cons, Bool.and_eq_true] at h
    rw [List.flatMap_cons, List.append_assoc, List.length_cons]
    show ((f (some (enc x ++ (xs.flatMap enc ++ r)))).1 :: (sevS f xs.length (f (some (enc x ++ (xs.flatMap enc ++ r)))).2).1, (sevS f xs.length (f (some (enc x ++ (xs.flatMap enc ++ r)))).2).2) = _
    rw [hf x h.1]
    simp only
    rw [sevS_put hf xs h.2 r]
theorem flat_len9 {α : Type} {enc : α → List Nat} (h : ∀ x, 0 < (enc x).length) : ∀ xs : List α, xs.length ≤ (xs.flatMap enc).length
  | [] => Nat.le_refl _
  | x :: xs => by rw [List.flatMap_cons, List.length_append, List.length_cons]; have := h x; have := flat_len9 h xs; omega
theorem encD_pos (g : Int × Int) : 0 < (encD g).length := by unfold encD nb; rw [List.length_append]; have := putL_pos g.1.toNat; omega
theorem encA_pos (p : Int × Fl) : 0 < (encA p).length := by unfold encA nb; rw [List.length_append]; have := putL_pos p.1.toNat; omega
/-- An edit comes back from its bytes. -/
theorem decO_enc {e : Ed} (h : okE e = true) (hd : e.drop.length < 18446744073709551616) (ha : e.add.length < 18446744073709551616) : decO (encE e) = some e := by
  have h' := h
  unfold okE okH at h
  simp only [Bool.and_eq_true] at h
  obtain ⟨hD, hA, hl, hn, hs⟩ := h
  have hs' : e.seq < 18446744073709551616 := by have := of_decide_eq_true hs; omega
  have e1 : nmS (some (encE e)) = (e.log.toNat, some (nb e.next ++ (putL e.seq ++ (putL e.drop.length ++ (e.drop.flatMap encD ++ (putL e.add.length ++ e.add.flatMap encA)))))) := nmS_put hl _
  have e2 : nmS (nmS (some (encE e))).2 = (e.next.toNat, some (putL e.seq ++ (putL e.drop.length ++ (e.drop.flatMap encD ++ (putL e.add.length ++ e.add.flatMap encA))))) := by rw [e1]; exact nmS_put hn _
  have e3 : tkS (nmS (nmS (some (encE e))).2).2 = (e.seq, some (putL e.drop.length ++ (e.drop.flatMap encD ++ (putL e.add.length ++ e.add.flatMap encA)))) := by rw [e2]; exact tkS_put hs' _
  have e4 : hdS (encE e) = some (putL e.drop.length ++ (e.drop.flatMap encD ++ (putL e.add.length ++ e.add.flatMap encA))) := by unfold hdS; rw [e3]
  have e5 : drS (encE e) = (e.drop, some (putL e.add.length ++ e.add.flatMap encA)) := by
    unfold drS
    rw [e4, ctS_put hd (by rw [List.length_append]; have := flat_len9 encD_pos e.drop; omega)]
    exact sevS_put (ok := okD) (fun g hg r => gnS_put hg r) e.drop hD _
  have e6 : adS (encE e) = (e.add, some []) := by
    unfold adS
    rw [e5]
    rw [ctS_put ha (flat_len9 encA_pos e.add)]
    have := sevS_put (f := plS) (enc := encA) (ok := okA) (fun p hp r => plS_put hp r) e.add hA []
    rw [List.append_nil] at this
    exact this
  have e7 : edS (encE e) e.drop e.add = e := by
    unfold edS
    rw [e3, e2, e1]
    simp only
    rw [cast_toNat hl, cast_toNat hn]
  unfold decO
  rw [e6, e5]
  simp only
  rw [e7, if_pos ⟨trivial, h'⟩]
/-- What was read, stands there. -/
theorem tkS_inv (hb : ∀ l, s = some l → By l) (h : (tkS s).2 = some r) : ∃ l, s = some l ∧ l = putL (tkS s).1 ++ r := by
  rcases s with _ | l
  · cases h
  · by_cases h0 : (takeL l).2.2 = 0
    · rw [tkS_ok h0] at h ⊢
      simp only [Option.some.injEq] at h
      have := takeL_inv9 (hb l rfl) (n := (takeL l).1) (k := (takeL l).2.1) (by rw [← h0])
      exact ⟨l, rfl, by rw [← h]; exact this.1⟩
    · rw [tkS_no h0] at h; cases h
theorem nmS_inv (hb : ∀ l, s = some l → By l) (h : (nmS s).2 = some r) : ∃ l, s = some l ∧ l = nb ((nmS s).1 : Int) ++ r := by
  unfold nmS at h ⊢
  by_cases hn : 2147483647 < (tkS s).1
  · rw [if_pos hn] at h; cases h
  · rw [if_neg hn] at h ⊢
    obtain ⟨l, h1, h2⟩ := tkS_inv hb h
    exact ⟨l, h1, by unfold nb; simpa using h2⟩
theorem ctS_inv (hb : ∀ l, s = some l → By l) (h : (ctS s).2 = some r) : ∃ l, s = some l ∧ l = putL (ctS s).1 ++ r ∧ (ctS s).1 ≤ r.length := by
  unfold ctS at h ⊢
  rcases hs : (tkS s).2 with _ | l'
  · rw [hs] at h; cases h
  · try rw [hs] at h
    unfold fitS at h ⊢
    by_cases hl : l'.length < (tkS s).1
    · simp only [hl, if_true] at h; cases h
    · simp only [hl, if_false] at h ⊢
      simp only [Option.some.injEq] at h
      subst h
      obtain ⟨l, h1, h2⟩ := tkS_inv hb hs
      exact ⟨l, h1, h2, by omega⟩
theorem kyS_inv (hb : ∀ l, s = some l → By l) (h : (kyS s).2 = some r) : ∃ l, s = some l ∧ l = putL (kyS s).1.length ++ ((kyS s).1 ++ r) := by
  unfold kyS at h ⊢
  rcases hs : (ctS s).2 with _ | l'
  · rw [hs] at h; cases h
  · try rw [hs] at h
    simp only [cutS, Option.some.injEq] at h ⊢
    obtain ⟨l, h1, h2, h3⟩ := ctS_inv hb hs
    refine ⟨l, h1, ?_⟩
    rw [List.length_take, Nat.min_eq_left h3, ← h, List.take_append_drop]
    exact h2
theorem gnS_inv (hb : ∀ l, s = some l → By l) (h : (gnS s).2 = some r) : ∃ l, s = some l ∧ l = encD (gnS s).1 ++ r := by
  have b1 := (nmS_sh hb).sm.by hb
  obtain ⟨l1, h1, h2⟩ := nmS_inv b1 h
  obtain ⟨l0, h3, h4⟩ := nmS_inv hb h1
  refine ⟨l0, h3, ?_⟩
  rw [h4, h2]
  unfold gnS encD
  rw [List.append_assoc]
theorem plS_inv (hb : ∀ l, s = some l → By l) (h : (plS s).2 = some r) : ∃ l, s = some l ∧ l = encA (plS s).1 ++ r := by
  have b1 := (nmS_sh hb).sm.by hb
  have b2 := (nmS_sh b1).sm.by b1
  have b3 := (nmS_sh b2).sm.by b2
  have b4 := (kyS_sh b3).sm.by b3
  obtain ⟨l4, a4, c4⟩ := kyS_inv b4 h
  obtain ⟨l3, a3, c3⟩ := kyS_inv b3 a4
  obtain ⟨l2, a2, c2⟩ := nmS_inv b2 a3
  obtain ⟨l1, a1, c1⟩ := nmS_inv b1 a2
  obtain ⟨l0, a0, c0⟩ := nmS_inv hb a1
  refine ⟨l0, a0, ?_⟩
  rw [c0, c1, c2, c3, c4]
  unfold plS encA
  simp only [List.append_assoc]
theorem sevS_inv {α : Type} {f : Option (List Nat) → α × Option (List Nat)} {enc : α → List Nat} (hs : ∀ s, (∀ l, s = some l → By l) → Sh s (f s).2) (hf : ∀ s r, (∀ l, s = some l → By l) → (f s).2 = some r → ∃ l, s = some l ∧ l = enc (f s).1 ++ r) : ∀ (n : Nat) (s : Option (List Nat)) (r : List Nat), (∀ l, s = some l → By l) → (sevS f n s).2 = some r → ∃ l, s = some l ∧ l = (sevS f n s).1.flatMap enc ++ r ∧ (sevS f n s).1.length = n
  | 0, s, r, _, h => ⟨r, h, rfl, rfl⟩
  | n + 1, none, r, _, h => by cases h
  | n + 1, some l, r, hb, h => by
    have b1 := (hs (some l) hb).sm.by hb
    obtain ⟨l1, h1, h2, h3⟩ := sevS_inv hs hf n (f (some l)).2 r b1 h
    obtain ⟨l0, h4, h5⟩ := hf (some l) l1 hb h1
    refine ⟨l0, h4, ?_, ?_⟩
    · rw [h5, h2]
      show _ = ((f (some l)).1 :: (sevS f n (f (some l)).2).1).flatMap enc ++ r
      rw [List.flatMap_cons, List.append_assoc]
    · show ((f (some l)).1 :: (sevS f n (f (some l)).2).1).length = n + 1
      rw [List.length_cons, h3]
/-- There is one spelling. -/
theorem enc_decO {b : List Nat} {e : Ed} (hb : By b) (h : decO b = some e) : encE e = b := by
  unfold decO at h
  by_cases hc : (adS b).2 = some [] ∧ okE (edS b (drS b).1 (adS b).1) = true
  · rw [if_pos hc] at h
    simp only [Option.some.injEq] at h
    have b0 : ∀ l, some b = some l → By l := fun l e => by cases e; exact hb
    have b1 := (nmS_sh b0).sm.by b0
    have b2 := (nmS_sh b1).sm.by b1
    have b3 : ∀ l, hdS b = some l → By l := (tkS_sh b2).sm.by b2
    have b4 := (ctS_sh b3).sm.by b3
    have b5 : ∀ l, (drS b).2 = some l → By l := (sevS_sm (fun s => gnS_sh) _ _ b4).by b4
    have b6 := (ctS_sh b5).sm.by b5
    obtain ⟨l6, a6, c6, n6⟩ := sevS_inv (enc := encA) (fun s => plS_sh) (fun s r => plS_inv) _ _ _ b6 hc.1
    obtain ⟨l5, a5, c5, _⟩ := ctS_inv b5 a6
    obtain ⟨l4, a4, c4, n4⟩ := sevS_inv (enc := encD) (fun s => gnS_sh) (fun s r => gnS_inv) _ _ _ b4 a5
    obtain ⟨l3, a3, c3, _⟩ := ctS_inv b3 a4
    obtain ⟨l2, a2, c2⟩ := tkS_inv b2 a3
    obtain ⟨l1, a1, c1⟩ := nmS_inv b1 a2
    obtain ⟨l0, a0, c0⟩ := nmS_inv b0 a1
    cases a0
    have m4 : (drS b).1.length = (ctS (hdS b)).1 := n4
    have m6 : (adS b).1.length = (ctS (drS b).2).1 := n6
    rw [← h]
    unfold encE edS
    simp only
    rw [m4, m6]
    refine Eq.symm (c0.trans ?_)
    rw [c1, c2, c3, c4, c5, c6, List.append_nil]
    rfl
  · rw [if_neg hc] at h; cases h
end
end Go.Proofs.YtegbngbhmgbocaaGreatDoor
