/-
  The document's Sorted: where its loops stand.
-/
import Derived.Test.YthmlpjogbdpgiaaCS9
import Derived.Deep.CutRange
namespace Go.Proofs.Ythmlpjogbdpgiaa
open Go.ChangeShapes Go.WideShapes Go.ChangeAt Go.RowKit

/-- Entries of others, in a row of the call's own. -/
def ColR (w0 W : World) (B : Nat) (v : Value) (ps : Ps) : Prop := ∃ cs, W.ownsRow B 50 2 v ps.length cs ∧ ∀ (j : Nat) (p : List Nat × List Nat), ps[j]? = some p → ∃ ka kc va vc, cs[j * 2]? = some (.slice ka p.1.length kc) ∧ cs[j * 2 + 1]? = some (.slice va p.2.length vc) ∧ Rd w0 (.slice ka p.1.length kc) (bv p.1) ∧ Rd w0 (.slice va p.2.length vc) (bv p.2) ∧ By p.1 ∧ By p.2 ∧ p.1.length ≤ 140737488355328 ∧ p.2.length ≤ 140737488355328
theorem ColR.nil (w0 W : World) (B : Nat) : ColR w0 W B (.slice none 0 0) [] := ⟨[], World.ownsRow_nil _ _ _ _, fun j p h => by simp at h⟩
theorem ColR.keep {w0 W W' : World} {B : Nat} {v : Value} {ps : Ps} {S : List Nat} (h : ColR w0 W B v ps) (f : Fr S W W') (hS : ∀ k, v.ownBlock = some k → k ∉ S) : ColR w0 W' B v ps := by
  obtain ⟨cs, o, h2⟩ := h
  exact ⟨cs, own_keepF o f hS, h2⟩
theorem ColR.rd {w0 W : World} {B : Nat} {v : Value} {ps : Ps} (h : ColR w0 W B v ps) (f : Fr [] w0 W) : RdK W v ps := by
  obtain ⟨cs, o, h2⟩ := h
  rcases o.2 with ⟨rfl, h0⟩ | ⟨g, cap, cur, rfl, _, h3, h4, h5⟩
  · have : ps = [] := List.eq_nil_of_length_eq_zero h0
    subst this
    exact RdK.nil W
  · refine ⟨_, cap, rfl, h4, fun _ => ⟨g, 0, rfl, fun j p hj => ?_⟩⟩
    obtain ⟨ka, kc, va, vc, c0, c1, r0, r1, b0, b1, l0, l1⟩ := h2 j p hj
    have d0 := o.cells rfl _ _ c0
    have d1 := o.cells rfl _ _ c1
    rw [Addr.add_lit] at d0 d1
    exact ⟨ka, kc, va, vc, d0, by rw [show 0 + j * 2 + 1 = 0 + (j * 2 + 1) from by omega]; exact d1, r0.fr f, r1.fr f, b0, b1, l0, l1⟩
theorem ColR.app {w0 W' : World} {B : Nat} {v' : Value} {ps : Ps} {p : List Nat × List Nat} {cs : List Value} {ka va : Option Addr} {kc vc : Nat} (hcl : cs.length = ps.length * 2) (h : ∀ (j : Nat) (p : List Nat × List Nat), ps[j]? = some p → ∃ ka kc va vc, cs[j * 2]? = some (.slice ka p.1.length kc) ∧ cs[j * 2 + 1]? = some (.slice va p.2.length vc) ∧ Rd w0 (.slice ka p.1.length kc) (bv p.1) ∧ Rd w0 (.slice va p.2.length vc) (bv p.2) ∧ By p.1 ∧ By p.2 ∧ p.1.length ≤ 140737488355328 ∧ p.2.length ≤ 140737488355328)
    (rk : Rd w0 (.slice ka p.1.length kc) (bv p.1)) (rv : Rd w0 (.slice va p.2.length vc) (bv p.2)) (bk : By p.1) (bw : By p.2) (lk : p.1.length ≤ 140737488355328) (lv : p.2.length ≤ 140737488355328)
    (o' : W'.ownsRow B 50 2 v' (ps.length + 1) (cs ++ [.slice ka p.1.length kc, .slice va p.2.length vc])) : ColR w0 W' B v' (ps ++ [p]) := by
  refine ⟨cs ++ [.slice ka p.1.length kc, .slice va p.2.length vc], by rw [List.length_append]; exact o', fun j p' hj => ?_⟩
  rcases Nat.lt_or_ge j ps.length with hlt | hge
  · rw [List.getElem?_append_left hlt] at hj
    obtain ⟨ka', kc', va', vc', c0, c1, r⟩ := h j p' hj
    exact ⟨ka', kc', va', vc', by rw [List.getElem?_append_left (by omega)]; exact c0, by rw [List.getElem?_append_left (by omega)]; exact c1, r⟩
  · have hjl := (List.getElem?_eq_some_iff.1 hj).1
    simp at hjl
    have : j = ps.length := by omega
    subst this
    rw [List.getElem?_append_right (by omega)] at hj
    simp at hj
    subst hj
    exact ⟨ka, kc, va, vc, by rw [List.getElem?_append_right (by omega), hcl]; simp, by rw [List.getElem?_append_right (by omega), hcl, show ps.length * 2 + 1 - ps.length * 2 = 1 by omega]; rfl, rk, rv, bk, bw, lk, lv⟩
def rowI (ix : Nat → Nat) (n : Nat) : List Value := (List.range n).map (fun i => .int .i64 (ix i : Int))
/-- Where Sorted's second loop stands. -/
structure SoI (w0 wr : World) (G n : Nat) (LL : List Ps) (A0 : Ps) (v6 : Value) (rs : List Ps) (ix : Nat → Nat) (T : Ps) : Prop where
  fr : Fr [] w0 wr
  at' : wr.ownsRow w0.heap.size 3 1 (.slice (some ⟨G, 0, none⟩) n n) n (rowI ix n)
  out : ColR w0 wr w0.heap.size v6 T
  rl : rs.length = n
  ri : ∀ i p, LL[i]? = some p → rs[i]? = some (p.drop (ix i)) ∧ ix i ≤ p.length
  mi : MI A0 rs.flatten T
  ln : T.length + rs.flatten.length = A0.length
  by' : ByP T
  ik : ∀ t ∈ T, isK t.1 = true
def SoO (w0 w' : World) (LL : List Ps) (e : Ending) : Prop :=
  (∃ S v, (∀ p ∈ LL, Rises p) ∧ MgS LL.flatten S ∧ e = .returned (.tuple #[v, .bool true]) ∧ ColR w0 w' w0.heap.size v S ∧ ∀ t ∈ S, isK t.1 = true) ∨
  (((∃ p ∈ LL, ¬ Rises p) ∨ ∀ S, ¬ MgS LL.flatten S) ∧ e = .returned (.tuple #[.slice none 0 0, .bool false]))
/-- The head of one of the rows. -/
theorem SoI.head {w0 wr : World} {G n : Nat} {LL : List Ps} {A0 : Ps} {v6 : Value} {rs : List Ps} {ix : Nat → Nat} {T : Ps} (S : SoI w0 wr G n LL A0 v6 rs ix T) {b off : Nat} (m : ∀ i p, LL[i]? = some p → ∃ ua uc, w0.cell? ⟨b, off + i, none⟩ = some (.slice ua p.length uc) ∧ RdK w0 (.slice ua p.length uc) p) (ra : ∀ p ∈ LL, Rises p) (hn : n = LL.length) {i : Nat} (hi : i < n) :
    ∃ p ua uc, LL[i]? = some p ∧ wr.cell? ⟨b, off + i, none⟩ = some (.slice ua p.length uc) ∧ wr.cell? ⟨G, i, none⟩ = some (.int .i64 (ix i : Int)) ∧ ((ix i = p.length ∧ rs[i]? = some []) ∨ (ix i < p.length ∧ ∃ x ub uo ka kc va vc, rs[i]? = some (x :: p.drop (ix i + 1)) ∧ ua = some ⟨ub, uo, none⟩ ∧ p.length ≤ uc ∧ PAt w0 ub (uo + ix i * 2) x ka kc va vc ∧ isK x.1 = true ∧ Rises p)) := by
  obtain ⟨p, hp⟩ : ∃ p, LL[i]? = some p := ⟨_, List.getElem?_eq_getElem (by rw [← hn]; exact hi)⟩
  obtain ⟨ua, uc, z, rk⟩ := m i p hp
  obtain ⟨e1, e2⟩ := S.ri i p hp
  have hg := S.at'.cells (g := G) rfl i (.int .i64 (ix i : Int)) (by unfold rowI; rw [List.getElem?_map, List.getElem?_range hi]; rfl)
  rw [Addr.add_lit, Nat.zero_add] at hg
  refine ⟨p, ua, uc, hp, cell_fr S.fr z, hg, ?_⟩
  by_cases he : ix i = p.length
  · left
    refine ⟨he, ?_⟩
    rw [e1, he, List.drop_length]
  · right
    have hlt : ix i < p.length := by omega
    obtain ⟨a, ec, e, hc, k1⟩ := rk
    obtain ⟨ub, uo, ha, k2⟩ := k1 (by omega)
    obtain ⟨ka, kc, va, vc, P⟩ := k2 (ix i) p[ix i] (List.getElem?_eq_getElem hlt)
    simp only [Value.slice.injEq, true_and] at e
    refine ⟨hlt, p[ix i], ub, uo, ka, kc, va, vc, by rw [e1, List.drop_eq_getElem_cons hlt], by rw [e.1, ha], by rw [e.2]; exact hc, P, ?_, ra p (List.mem_of_getElem? hp)⟩
    have := rises_isK (ra p (List.mem_of_getElem? hp)) hlt
    rwa [(kA_at (List.getElem?_eq_getElem hlt)).1] at this
/-- The least of the heads seen. -/
def BestI (rs : List Ps) (i : Nat) (v : Value) : Prop :=
  (v = .int .i64 (-1) ∧ ∀ (j : Nat), j < i → ∀ q, rs[j]? = some q → q = []) ∨
  ∃ (b : Nat) (x : List Nat × List Nat) (r : Ps), v = .int .i64 (b : Int) ∧ b < i ∧ rs[b]? = some (x :: r) ∧ ∀ (j : Nat), j < i → ∀ y r', rs[j]? = some (y :: r') → ordK x.1 y.1 ≤ 0
theorem BestI.skip {rs : List Ps} {j : Nat} {v : Value} (h : BestI rs j v) (hr : rs[j]? = some []) : BestI rs (j + 1) v := by
  rcases h with ⟨e, h1⟩ | ⟨b, x, r, e, hb, h0, h1⟩
  · refine .inl ⟨e, fun k hk q hq => ?_⟩
    rcases Nat.lt_or_ge k j with hlt | hge
    · exact h1 k hlt q hq
    · have : k = j := by omega
      subst this; rw [hr] at hq; cases hq; rfl
  · refine .inr ⟨b, x, r, e, by omega, h0, fun k hk y r' hq => ?_⟩
    rcases Nat.lt_or_ge k j with hlt | hge
    · exact h1 k hlt y r' hq
    · have : k = j := by omega
      subst this; rw [hr] at hq; cases hq
theorem BestI.first {rs : List Ps} {j : Nat} {x : List Nat × List Nat} {r : Ps} (h : ∀ (k : Nat), k < j → ∀ q, rs[k]? = some q → q = []) (hr : rs[j]? = some (x :: r)) : BestI rs (j + 1) (.int .i64 (j : Int)) := by
  refine .inr ⟨j, x, r, rfl, by omega, hr, fun k hk y r' hq => ?_⟩
  rcases Nat.lt_or_ge k j with hlt | hge
  · exact absurd (h k hlt _ hq) (by simp)
  · have : k = j := by omega
    subst this; rw [hr] at hq; cases hq
    exact ordK_refl _
theorem BestI.less {rs : List Ps} {j : Nat} {x z : List Nat × List Nat} {rz : Ps} (h1 : ∀ (k : Nat), k < j → ∀ y r', rs[k]? = some (y :: r') → ordK x.1 y.1 ≤ 0) (hr : rs[j]? = some (z :: rz)) (hl : ordK z.1 x.1 < 0) : BestI rs (j + 1) (.int .i64 (j : Int)) := by
  refine .inr ⟨j, z, rz, rfl, by omega, hr, fun k hk y r' hq => ?_⟩
  rcases Nat.lt_or_ge k j with hlt | hge
  · exact ordK_trans _ _ _ (by omega) (h1 k hlt y r' hq)
  · have : k = j := by omega
    subst this; rw [hr] at hq; cases hq
    exact ordK_refl _
theorem BestI.more {rs : List Ps} {j b : Nat} {x z : List Nat × List Nat} {r rz : Ps} (hb : b < j) (h0 : rs[b]? = some (x :: r)) (h1 : ∀ (k : Nat), k < j → ∀ y r', rs[k]? = some (y :: r') → ordK x.1 y.1 ≤ 0) (hr : rs[j]? = some (z :: rz)) (hl : ¬ ordK z.1 x.1 < 0) : BestI rs (j + 1) (.int .i64 (b : Int)) := by
  refine .inr ⟨b, x, r, rfl, by omega, h0, fun k hk y r' hq => ?_⟩
  rcases Nat.lt_or_ge k j with hlt | hge
  · exact h1 k hlt y r' hq
  · have : k = j := by omega
    subst this; rw [hr] at hq; cases hq
    have := ordK_neg x.1 z.1
    omega
theorem SoI.draw {w0 wr w' : World} {G n : Nat} {LL : List Ps} {A0 : Ps} {v6 : Value} {rs : List Ps} {ix : Nat → Nat} {T : Ps} (S : SoI w0 wr G n LL A0 v6 rs ix T) (f : Fr [] wr w') : SoI w0 w' G n LL A0 v6 rs ix T :=
  ⟨S.fr.trans f, ownsRow_fr S.at' f, S.out.keep f (fun _ _ h => by cases h), S.rl, S.ri, S.mi, S.ln, S.by', S.ik⟩
theorem infoI9 : (Try.prog.info? 3).map (fun i => (i.zero, i.size, i.bytes)) = some (some (.int .i64 0), 1, 8) := by kernel_rfl
theorem makeI_run (w : World) {n : Nat} (hc : n ≤ 1000000000) : (Instr.makeSlice 71 (.int .i64 (n : Int)) (.int .i64 (n : Int))).run Try.prog w = .ok (.slice (some ⟨w.heap.size, 0, none⟩) n n) (w.alloc (.cells (madeCells #[.int .i64 0] n) 3)) := by
  obtain ⟨i0, hi, hz0, hz1, hz2⟩ := info_parts infoI9
  have h := run_make (P := Try.prog) w 71 3 i0 (.int .i64 0) Try.underlying71 hi hz0 .i64 .i64 (n : Int) (n : Int) (by omega) (by omega) (by rw [hz2]; omega) (by omega)
  simpa [hz1, Value.cells] using h
theorem makeI_own (w : World) {n : Nat} (hc : n ≤ 1000000000) : (w.alloc (.cells (madeCells #[.int .i64 0] n) 3)).ownsRow w.heap.size 3 1 (.slice (some ⟨w.heap.size, 0, none⟩) n n) n (rowI (fun _ => 0) n) := by
  have := World.ownsRow_lit (base := w.heap.size) (e := 3) (size := 1) w (madeCells #[.int .i64 0] n) n (Nat.le_refl _) (by unfold maxLen; omega) (by simp [madeCells])
  rw [toList_madeCells_one] at this
  have e : rowI (fun _ => 0) n = List.replicate n (.int .i64 0) := by
    unfold rowI
    apply List.ext_getElem?
    intro i
    rw [List.getElem?_map]
    by_cases hi : i < n
    · rw [List.getElem?_range hi, List.getElem?_replicate, if_pos hi]; rfl
    · rw [List.getElem?_eq_none (by simp; omega), List.getElem?_eq_none (by simp; omega)]; rfl
  rw [e]; exact this
theorem flat_minI {rs : List Ps} {x : List Nat × List Nat} (hk : ∀ q ∈ rs, Rises q) (hmin : ∀ (k : Nat), k < rs.length → ∀ y r', rs[k]? = some (y :: r') → ordK x.1 y.1 ≤ 0) : ∀ y ∈ rs.flatten, ordK x.1 y.1 ≤ 0 := fun y hy => by
  obtain ⟨q, hq, hyq⟩ := List.mem_flatten.1 hy
  obtain ⟨k, hk'⟩ := List.getElem?_of_mem hq
  have hkl := (List.getElem?_eq_some_iff.1 hk').1
  obtain ⟨j, hj⟩ := List.getElem?_of_mem hyq
  have hjl := (List.getElem?_eq_some_iff.1 hj).1
  have hyj := (kA_at hj).1
  rcases q with _ | ⟨z, r⟩
  · cases hyq
  have h1 := hmin k hkl z r hk'
  by_cases h2 : j = 0
  · subst h2
    simp only [List.getElem?_cons_zero, Option.some.injEq] at hj
    rw [← hj]; exact h1
  · have h3 := rises_ij (hk _ hq) (show 0 < j by omega) hjl
    rw [hyj] at h3
    exact ordK_trans _ _ _ h1 (by have : kA (z :: r) 0 = z.1 := rfl; rw [this] at h3; omega)
theorem SoI.rises {w0 wr : World} {G n : Nat} {LL : List Ps} {A0 : Ps} {v6 : Value} {rs : List Ps} {ix : Nat → Nat} {T : Ps} (S : SoI w0 wr G n LL A0 v6 rs ix T) (ra : ∀ p ∈ LL, Rises p) (hn : n = LL.length) : ∀ q ∈ rs, Rises q := fun q hq => by
  obtain ⟨k, hk⟩ := List.getElem?_of_mem hq
  have hkl := (List.getElem?_eq_some_iff.1 hk).1
  rw [S.rl, hn] at hkl
  have h1 := (S.ri k _ (List.getElem?_eq_getElem hkl)).1
  rw [hk] at h1
  cases h1
  exact (ra _ (List.getElem_mem hkl)).sub (List.drop_sublist _ _)
/-- One entry more. -/
theorem SoI.step {w0 wr w6 : World} {G n : Nat} {LL : List Ps} {A0 : Ps} {v6 v6' : Value} {rs : List Ps} {ix : Nat → Nat} {T : Ps} (S : SoI w0 wr G n LL A0 v6 rs ix T) (ra : ∀ p ∈ LL, Rises p) (hn : n = LL.length) {bb : Nat} (hbb : bb < n) {x : List Nat × List Nat} {r : Ps} (h0 : rs[bb]? = some (x :: r)) (hmin : ∀ (k : Nat), k < n → ∀ y r', rs[k]? = some (y :: r') → ordK x.1 y.1 ≤ 0)
    (hl : ∀ t, T.getLast? = some t → ordK t.1 x.1 ≠ 0) (bx : By x.1) (bw : By x.2) (kx : isK x.1 = true) (f : Fr v6.ownBlock.toList wr w6) (o : ColR w0 w6 w0.heap.size v6' (T ++ [x])) :
    SoI w0 (w6.setCell ⟨G, bb, none⟩ (.int .i64 ((ix bb + 1 : Nat) : Int))) G n LL A0 v6' (rs.set bb r) (fun k => if k = bb then ix bb + 1 else ix k) (T ++ [x]) := by
  obtain ⟨cs, oc, _⟩ := S.out
  obtain ⟨cs', oc', _⟩ := id o
  have hown : ∀ y ∈ v6.ownBlock.toList, v6.ownBlock = some y := fun y hy => by
    cases hu : v6.ownBlock with
    | none => rw [hu] at hy; simp at hy
    | some q => rw [hu] at hy; simp at hy; rw [hy]
  have hat := S.at'
  have hG0 := hat.lt G rfl
  obtain ⟨cur, hcur⟩ : ∃ cur, wr.heap[G]? = some (.cells cur 3 (0, 0)) := by
    rcases hat.2 with ⟨e, _⟩ | ⟨q, cap, cur, e, _, h3, _⟩
    · simp at e
    · simp only [Value.slice.injEq, Option.some.injEq, Addr.mk.injEq, and_true] at e
      obtain ⟨rfl, _⟩ := e
      exact ⟨cur, h3⟩
  have hGn : G ∉ v6.ownBlock.toList := fun hm => own_not oc hcur (by decide) (hown _ hm)
  have hcur6 := f.at hcur hGn
  have at6 := own_keepF hat f (fun k hk => by simp [Value.ownBlock] at hk; subst hk; exact hGn)
  have st := at6.stored bb (.int .i64 ((ix bb + 1 : Nat) : Int))
  have F6 : Fr [] w0 w6 := S.fr.wide f (fun k hk => (oc.lt k (hown k hk)).1)
  have F7 : Fr [G] w6 (w6.setCell ⟨G, bb, none⟩ (.int .i64 ((ix bb + 1 : Nat) : Int))) := (Fr.refl [G] w6).set _ _ (.inl (by simp))
  have hrl : bb < rs.length := by rw [S.rl]; exact hbb
  have hpm := flat_set h0
  have hi0 := S.ri bb
  refine ⟨F6.wide F7 (by simp; exact hG0.1), ?_, ?_, by rw [List.length_set]; exact S.rl, fun k p hp => ?_, ?_, ?_, fun t ht => ?_, fun t ht => ?_⟩
  · have e : (rowI (fun k => if k = bb then ix bb + 1 else ix k) n) = (rowI ix n).set bb (.int .i64 ((ix bb + 1 : Nat) : Int)) := by
      unfold rowI
      apply List.ext_getElem?
      intro k
      rw [List.getElem?_set, List.getElem?_map, List.getElem?_map, List.length_map, List.length_range]
      by_cases hk : k < n
      · rw [List.getElem?_range hk]
        by_cases e : bb = k
        · subst e; simp [hk]
        · rw [if_neg e]
          have : ¬ k = bb := fun h => e h.symm
          simp [this]
      · rw [List.getElem?_eq_none (by simp; omega)]
        by_cases e : bb = k
        · omega
        · rw [if_neg e]; rfl
    rw [e]; exact st.1
  · exact o.keep F7 (fun k hk hm => by
      rw [List.mem_singleton] at hm
      subst hm
      exact own_not oc' hcur6 (by decide) hk)
  · have h1 := S.ri k p hp
    rw [List.getElem?_set]
    by_cases e : bb = k
    · subst e
      rw [h0] at h1
      simp only [Option.some.injEq] at h1
      have h2 : ix bb < p.length := by
        rcases Nat.lt_or_ge (ix bb) p.length with h | h
        · exact h
        · rw [List.drop_eq_nil_of_le h] at h1; cases h1.1
      have h3 := h1.1
      rw [List.drop_eq_getElem_cons h2] at h3
      rw [if_pos rfl, if_pos hrl, if_pos rfl, (List.cons.inj h3).2]
      exact ⟨rfl, h2⟩
    · rw [if_neg e, if_neg (fun h => e h.symm)]; exact h1
  · exact S.mi.step hpm (flat_minI (S.rises ra hn) (fun k hk => hmin k (by rw [← S.rl]; exact hk))) hl
  · have h1 := hpm.length_eq
    have h2 := S.ln
    rw [List.length_cons] at h1
    rw [List.length_append, List.length_singleton]
    omega
  · rcases List.mem_append.1 ht with h | h
    · exact S.by' t h
    · rw [List.mem_singleton] at h; rw [h]; exact ⟨bx, bw⟩
  · rcases List.mem_append.1 ht with h | h
    · exact S.ik t h
    · rw [List.mem_singleton] at h; rw [h]; exact kx
theorem SoI.gblk {w0 wr w6 : World} {G n : Nat} {LL : List Ps} {A0 : Ps} {v6 : Value} {rs : List Ps} {ix : Nat → Nat} {T : Ps} (S : SoI w0 wr G n LL A0 v6 rs ix T) {i : Nat} (hi : i < n) (f : Fr v6.ownBlock.toList wr w6) : ∃ cur, w6.heap[G]? = some (.cells cur 3 (0, 0)) ∧ w6.cell? ⟨G, i, none⟩ = some (.int .i64 (ix i : Int)) := by
  obtain ⟨cs, oc, _⟩ := S.out
  have hown : ∀ y ∈ v6.ownBlock.toList, v6.ownBlock = some y := fun y hy => by
    cases hu : v6.ownBlock with
    | none => rw [hu] at hy; simp at hy
    | some q => rw [hu] at hy; simp at hy; rw [hy]
  have hat := S.at'
  obtain ⟨cur, hcur⟩ : ∃ cur, wr.heap[G]? = some (.cells cur 3 (0, 0)) := by
    rcases hat.2 with ⟨e, _⟩ | ⟨q, cap, cur, e, _, h3, _⟩
    · simp at e
    · simp only [Value.slice.injEq, Option.some.injEq, Addr.mk.injEq, and_true] at e
      obtain ⟨rfl, _⟩ := e
      exact ⟨cur, h3⟩
  have hGn : G ∉ v6.ownBlock.toList := fun hm => own_not oc hcur (by decide) (hown _ hm)
  have hg := hat.cells (g := G) rfl i (.int .i64 (ix i : Int)) (by unfold rowI; rw [List.getElem?_map, List.getElem?_range hi]; rfl)
  rw [Addr.add_lit, Nat.zero_add] at hg
  exact ⟨cur, f.at hcur hGn, cell_frS f hGn hg⟩
end Go.Proofs.Ythmlpjogbdpgiaa
