/-
  A fork that isn't made yet: what is added to it, and what becomes of it.
-/
import Derived.Test.YtmpfnglcmaollaaDoorJ21
import Derived.Test.YtmpfnglcmaollaaDoorJ06
namespace Go.Proofs.YtmpfnglcmaollaaDoor
open Go.ChangeShapes Go.WideShapes Go.ChangeAt Go.RowKit

theorem InS.agrG {S : Nat → Prop} {w w' : World} {G : Nat} (h : InS S w) (hG : ¬ S G) (f : Fr [G] w w') : Agr S w w' := fun k hk => f.block k (h k hk) (by simp; intro e; subst e; exact hG hk)
theorem InS.upS {S : Nat → Prop} {w w' : World} (h : InS S w) (f : w.heap.size ≤ w'.heap.size) : InS (Up S w w') w' := fun k hk => by
  rcases hk with hk | hk
  · exact Nat.lt_of_lt_of_le (h k hk) f
  · exact hk.2
theorem Un.upG {S : Nat → Prop} {w w' : World} {G : Nat} {P : World → Prop} (h : Un S w P) (hi : InS S w) (hG : ¬ S G) (f : Fr [G] w w') : Un (Up S w w') w' P := fun _ ha => h _ ((hi.agrG hG f).trans (ha.sub fun _ hk => Up.old hk))
theorem NdV.upG {S : Nat → Prop} {w w' : World} {G : Nat} {n : Nd} {v : Value} (h : NdV S w n v) (hi : InS S w) (hG : ¬ S G) (f : Fr [G] w w') : NdV (Up S w w') w' n v := (h.step (hi.agrG hG f)).sub fun _ hk => Up.old hk
/-- Behind a place, wherever the blocks are. -/
theorem cutU {S : Nat → Prop} {w : World} {a : Option Addr} {n c l : Nat} {b : List Nat} (hr : Un S w (fun w' => Rd w' (.slice a n c) (bv b))) (hn : b.length = n) (hl : l ≤ n) :
    ∃ a', (∀ W', (Instr.sliceAt 33 (.slice a n c) (some (.int .i64 (l : Int))) none none).run Tryd.prog W' = .ok (.slice a' (n - l) (c - l)) W') ∧ Un S w (fun w' => Rd w' (.slice a' (n - l) (c - l)) (bv (b.drop l))) := by
  obtain ⟨a', h1, _⟩ := cutBT hr.now hn hl
  refine ⟨a', h1, fun w' ha => ?_⟩
  obtain ⟨a'', h2, h3⟩ := cutBT (hr w' ha) hn hl
  have e := (h1 w).symm.trans (h2 w)
  simp only [Result.ok.injEq, Value.slice.injEq, and_true] at e
  rw [e]
  exact h3
theorem headU {S : Nat → Prop} {w : World} {a : Option Addr} {n c l : Nat} {b : List Nat} (hr : Un S w (fun w' => Rd w' (.slice a n c) (bv b))) (hn : b.length = n) (hl : l ≤ n) :
    (∀ W', (Instr.sliceAt 33 (.slice a n c) none (some (.int .i64 (l : Int))) none).run Tryd.prog W' = .ok (.slice a l c) W') ∧ Un S w (fun w' => Rd w' (.slice a l c) (bv (b.take l))) :=
  ⟨(headBT hr.now hn hl).1, fun w' ha => (headBT (hr w' ha) hn hl).2⟩
def updV (V : Nat → Value) (i : Nat) (v : Value) : Nat → Value := fun j => if j = i then v else V j
theorem fk_put {W : World} {q : Nat} {T : TypeId} {V : Nat → Value} {x y z v r : Value} (h : W.heap[q]? = some (.cells #[x, y, z, V 0, V 1, V 2, V 3, V 4, V 5, V 6, V 7, V 8, V 9, V 10, V 11, V 12, V 13, V 14, V 15, v] T (0, 0))) {i : Nat} (hi : i < 16) : (W.setCell ⟨q, 3 + i, none⟩ r).heap[q]? = some (.cells #[x, y, z, updV V i r 0, updV V i r 1, updV V i r 2, updV V i r 3, updV V i r 4, updV V i r 5, updV V i r 6, updV V i r 7, updV V i r 8, updV V i r 9, updV V i r 10, updV V i r 11, updV V i r 12, updV V i r 13, updV V i r 14, updV V i r 15, v] T (0, 0)) := by
  rw [blk_set h]
  rcases i with _ | _ | _ | _ | _ | _ | _ | _ | _ | _ | _ | _ | _ | _ | _ | _ | i
  all_goals first | omega | simp [updV]
theorem fk_val {W : World} {q : Nat} {T : TypeId} {V : Nat → Value} {x y z v r : Value} (h : W.heap[q]? = some (.cells #[x, y, z, V 0, V 1, V 2, V 3, V 4, V 5, V 6, V 7, V 8, V 9, V 10, V 11, V 12, V 13, V 14, V 15, v] T (0, 0))) : (W.setCell ⟨q, 19, none⟩ r).heap[q]? = some (.cells #[x, y, z, V 0, V 1, V 2, V 3, V 4, V 5, V 6, V 7, V 8, V 9, V 10, V 11, V 12, V 13, V 14, V 15, r] T (0, 0)) := by
  rw [blk_set h]
  simp
theorem fk_cell {W : World} {q : Nat} {T : TypeId} {V : Nat → Value} {x y z v : Value} (h : W.heap[q]? = some (.cells #[x, y, z, V 0, V 1, V 2, V 3, V 4, V 5, V 6, V 7, V 8, V 9, V 10, V 11, V 12, V 13, V 14, V 15, v] T (0, 0))) {i : Nat} (hi : i < 16) : W.cell? ⟨q, 3 + i, none⟩ = some (V i) := by
  rw [blk_cell h]
  rcases i with _ | _ | _ | _ | _ | _ | _ | _ | _ | _ | _ | _ | _ | _ | _ | _ | i
  all_goals first | omega | rfl
theorem step_put1 {ops : Array Oper} {o : Oper} {a : Act} {w : World} {K : Act → World → Prop} {Q : Exit → Act → World → Prop} {E : Prop} (hg : o.guard = none) (hd : o.dst = none) (x y : Operand) (hop : o.op = Op.store 84 x y) {q k : Nat} {u r : Value} (hc : w.cell? ⟨q, k, none⟩ = some u) (hz : w.frozen? ⟨q, k, none⟩ = false) (hx : a.eval x = .pointer (some ⟨q, k, none⟩)) (hy : a.eval y = r) (hr : (∃ T x, r = .iface T x) ∨ r = .nilIface)
    (hK : K a (w.setCell ⟨q, k, none⟩ r)) :
    if Region.wanted o (yielded ops a.tmps) = true then Oper.wp Tryd.prog o a w K Q else E := by
  have hw : Region.wanted o (yielded ops a.tmps) = true := by simp [Region.wanted, hg]
  rw [if_pos hw]
  unfold Oper.wp
  rcases hr with ⟨T, x', rfl⟩ | rfl
  · simp [execOp, hop, hx, hy]
    go_simp
    exact hK
  · simp [execOp, hop, hx, hy]
    go_simp
    exact hK
theorem NdV.form {S : Nat → Prop} {w : World} {n : Nd} {v : Value} (h : NdV S w n v) : (∃ T x, v = .iface T x) ∨ v = .nilIface := by
  cases n with
  | nil => exact .inr h
  | far x => exact .inl ⟨_, _, h.2.2⟩
  | leaf p x => obtain ⟨_, _, _, _, _, _, e, _⟩ := h; exact .inl ⟨_, _, e⟩
  | stem p t => obtain ⟨_, _, _, _, _, _, e, _⟩ := h; exact .inl ⟨_, _, e⟩
  | fork c x => obtain ⟨_, _, _, _, _, _, e, _⟩ := h; exact .inl ⟨_, _, e⟩
set_option maxRecDepth 20000 in
set_option maxHeartbeats 1600000 in
theorem add_c (w : World) {S : Nat → Prop} (HT : Tabs w) (hi : InS S w) {G : Nat} (hG : ¬ S G) {V : Nat → Value} {z0 z1 z2 pv vv v0 : Value} {T : TypeId} (hB : w.heap[G]? = some (.cells #[z0, z1, z2, V 0, V 1, V 2, V 3, V 4, V 5, V 6, V 7, V 8, V 9, V 10, V 11, V 12, V 13, V 14, V 15, v0] T (0, 0))) {c : Nat → Nd} {x p v : List Nat} (hc : ∀ i, i < 16 → NdV S w (c i) (V i)) (hv0 : Un S w (fun w' => Rd w' v0 (bv x))) (hp : Un S w (fun w' => Rd w' pv (bv p))) (hb : Nb p) (hl : p.length ≤ 128) (hv : Un S w (fun w' => Rd w' vv (bv v))) (hvb : By v) (hv1 : 1 ≤ v.length) (hvl : v.length ≤ 1024) :
    Calls Tryd.prog 94 #[.pointer (some ⟨G, 0, none⟩), pv, vv] w fun e w' => e = .returned (.int .i64 0) ∧ ∃ (V' : Nat → Value) (v' : Value), w'.heap[G]? = some (.cells #[z0, z1, z2, V' 0, V' 1, V' 2, V' 3, V' 4, V' 5, V' 6, V' 7, V' 8, V' 9, V' 10, V' 11, V' 12, V' 13, V' 14, V' 15, v'] T (0, 0)) ∧ (∀ i, i < 16 → NdV (Up S w w') w' (addC c p v i) (V' i)) ∧ Un (Up S w w') w' (fun w'' => Rd w'' v' (bv (addV x p v))) ∧ Fr [G] w w' := by
  obtain ⟨pa, pc, e1⟩ := RdS.slice hp
  obtain ⟨va, vc, e2⟩ := RdS.slice hv
  subst e1 e2
  cases p with
  | nil =>
    have y := blk_cell hB 19
    have z := blk_frozen hB 19
    simp at y
    obtain ⟨nx, hnx⟩ : ∃ nx, nx = v.length := ⟨_, rfl⟩
    rw [← hnx] at hv ⊢
    have FT : Hid (Fr [G] w (w.setCell ⟨G, 19, none⟩ (.slice va nx vc))) := hid ((Fr.refl _ _).set _ _ (.inl (by simp)))
    have BT := hid (fk_val (r := .slice va nx vc) hB)
    have HC : Hid (∀ i, i < 16 → NdV (Up S w (w.setCell ⟨G, 19, none⟩ (.slice va nx vc))) (w.setCell ⟨G, 19, none⟩ (.slice va nx vc)) (c i) (V i)) := hid fun i h => (hc i h).upG hi hG FT.out
    have HV := hid (hv.upG hi hG FT.out)
    clear hp hv hv0 hc hB hnx HT hi
    go_enter Tryd.func94, Tryd.ntmps94
    go_wp2_with fail
    go_ret
    exact ⟨rfl, V, _, BT.out, HC.out, HV.out, FT.out⟩
  | cons i r =>
    obtain ⟨a', s1, hr⟩ := cutU (l := 1) hp rfl (by simp)
    have s1 : ∀ W', (Instr.sliceAt 33 (.slice pa (i :: r).length pc) (some (.int .i64 1)) none none).run Tryd.prog W' = .ok (.slice a' ((i :: r).length - 1) (pc - 1)) W' := s1
    have hi16 : i < 16 := hb i (by simp)
    have hS : ∀ w', Agr S w w' → ∃ q o, pa = some ⟨q, o, none⟩ ∧ w'.cell? ⟨q, o, none⟩ = some (.int .u8 (i : Int)) := fun w' ha => by
      rcases (hp w' ha).split with ⟨h0, _⟩ | ⟨q, o, c2, e, _, _, hcc⟩
      · cases h0
      · simp only [Value.slice.injEq] at e
        exact ⟨q, o, e.1, by have := hcc 0 i rfl; rw [Nat.add_zero] at this; exact this⟩
    obtain ⟨q, o, rfl, _⟩ := hS w (Agr.refl S w)
    have SK : Hid (∀ w', Agr S w w' → w'.cell? ⟨q, o, none⟩ = some (.int .u8 (i : Int))) := hid fun w' ha => by
      obtain ⟨q', o', e, h⟩ := hS w' ha
      cases e
      exact h
    clear hS
    obtain ⟨np, hnp⟩ : ∃ np, np = (i :: r).length := ⟨_, rfl⟩
    obtain ⟨nx, hnx⟩ : ∃ nx, nx = v.length := ⟨_, rfl⟩
    have hnp1 : 1 ≤ np := by rw [hnp]; simp
    have hz : ((np : Int) == 0) = false := beq_eq_false_iff_ne.2 (by omega)
    rw [← hnp] at hp s1 hr hl
    rw [← hnx] at hv ⊢
    rw [← hnp]
    have MK : Hid (∀ w', Fr [] w w' → _) := hid (fun w' (f : Fr [] w w') => makeLeaf_c w' (HT.fr f) (hi.fr f) (hr.step (hi.agr f)) (okP_of (hb.drop 1) (by rw [List.length_drop, ← hnp]; omega)) (hv.step (hi.agr f)) hvb hv1 (by omega))
    have HI := hid hi
    have HC := hid hc
    have HV0 := hid hv0
    have HB := hid hB
    have HG := hid hG
    have GW : Hid (G < w.heap.size) := hid (Array.getElem?_eq_some_iff.1 hB).1
    clear hi hc hv0 hB hG hp hnp hnx hr hv HT hb hvb hv1 hvl hl
    go_enter Tryd.func94, Tryd.ntmps94
    go_upto_region 5 with fail
    refine wp_region_held_drew (S := fun w' => w'.cell? ⟨q, o, none⟩ = some (.int .u8 (i : Int))) (by kernel_rfl) (SK.out _ (HI.out.agr (Fr.refl _ _).drew)) (fun hS => ?_)
    refine wpAnyH_take (i := 0) (v := .pointer (some ⟨G, 0, none⟩)) rfl (by kernel_rfl) (by kernel_rfl) (by kernel_rfl) (fun _ _ _ h => h) (.inl ⟨by rfl, fun wx _ => by go_simp⟩) hS ?_
    simp only [Act.put]
    refine wpAnyH_take (i := 1) (v := .slice (some ⟨q, o, none⟩) np pc) rfl (by kernel_rfl) (by kernel_rfl) (by kernel_rfl) (fun _ _ _ h => h) (.inl ⟨by rfl, fun wx _ => by go_simp⟩) hS ?_
    simp only [Act.put]
    refine wpAnyH_take (i := 2) (v := .pointer (some ⟨q, o, none⟩)) rfl (by kernel_rfl) (by kernel_rfl) (by kernel_rfl) (fun _ _ _ h => h) (.inl ⟨by rfl, fun wx _ => by go_simp; intro h; omega⟩) hS ?_
    simp only [Act.put]
    refine wpAnyH_take (i := 3) (v := .int .u8 (i : Int)) rfl (by kernel_rfl) (by kernel_rfl) (by kernel_rfl) (fun _ _ _ h => h) (.inl ⟨by rfl, fun wx hX => by have x0 := hX; go_simp⟩) hS ?_
    simp only [Act.put]
    refine wpAnyH_take (i := 4) (v := .slice (some ⟨q, o, none⟩) np pc) rfl (by kernel_rfl) (by kernel_rfl) (by kernel_rfl) (fun _ _ _ h => h) (.inl ⟨by rfl, fun wx _ => by go_simp⟩) hS ?_
    simp only [Act.put]
    refine wpAnyH_take (i := 5) (v := (.slice a' (np - 1) (pc - 1))) rfl (by kernel_rfl) (by kernel_rfl) (by kernel_rfl) (fun _ _ _ h => h) (.inl ⟨by rfl, fun wx _ => by have x1 := s1 wx; go_simp⟩) hS ?_
    simp only [Act.put]
    refine wpAnyH_take (i := 6) (v := .slice va nx vc) rfl (by kernel_rfl) (by kernel_rfl) (by kernel_rfl) (fun _ _ _ h => h) (.inl ⟨by rfl, fun wx _ => by go_simp⟩) hS ?_
    simp only [Act.put]
    refine wpAnyH_take (i := 11) (v := .pointer (some ⟨G, 0, none⟩)) rfl (by kernel_rfl) (by kernel_rfl) (by kernel_rfl) (fun _ _ _ h => h) (.inl ⟨by rfl, fun wx _ => by go_simp⟩) hS ?_
    simp only [Act.put, List.getElem_toArray, List.getElem_cons_succ, List.getElem_cons_zero, List.setIfInBounds_toArray, List.set_cons_succ, List.set_cons_zero]
    refine wpAnyH_take (i := 12) (v := .pointer (some ⟨G, 3, none⟩)) rfl (by kernel_rfl) (by kernel_rfl) (by kernel_rfl) (fun _ _ _ h => h) (.inl ⟨by rfl, fun wx _ => by go_simp⟩) hS ?_
    simp only [Act.put, List.getElem_toArray, List.getElem_cons_succ, List.getElem_cons_zero, List.setIfInBounds_toArray, List.set_cons_succ, List.set_cons_zero]
    clear hS
    have FD : Hid (Fr [] w w.drew) := hid (Fr.refl _ _).drew
    refine wpAnyH_ready (rs := [7]) (by kernel_rfl) (by simp) ?_
    refine AllReadyH.cons rfl (fun K hK => ?_) AllReadyH.nil
    go_simp
    go_at_call 77
    refine (MK.out _ FD.out).mono ?_
    rintro e w5 ⟨rv, rfl, hN, f5⟩
    have HN := hid hN
    have F5 := hid (FD.out.trans f5)
    clear f5 hN MK
    go_simp
    have hS5 := SK.out _ (HI.out.agr F5.out)
    refine hK.out _ _ hS5 (fun _ => ?_)
    clear hK K
    refine wpAnyH_take (i := 8) (v := .tuple #[rv, .int .i64 0]) rfl (by kernel_rfl) (by kernel_rfl) (by kernel_rfl) (fun _ _ _ h => h) (.inl ⟨by rfl, fun wx _ => by go_simp⟩) hS5 ?_
    simp only [Act.put, List.getElem_toArray, List.getElem_cons_succ, List.getElem_cons_zero, List.setIfInBounds_toArray, List.set_cons_succ, List.set_cons_zero]
    refine wpAnyH_take (i := 9) (v := rv) rfl (by kernel_rfl) (by kernel_rfl) (by kernel_rfl) (fun _ _ _ h => h) (.inl ⟨by rfl, fun wx _ => by go_simp⟩) hS5 ?_
    simp only [Act.put, List.getElem_toArray, List.getElem_cons_succ, List.getElem_cons_zero, List.setIfInBounds_toArray, List.set_cons_succ, List.set_cons_zero]
    refine wpAnyH_take (i := 10) (v := .int .i64 0) rfl (by kernel_rfl) (by kernel_rfl) (by kernel_rfl) (fun _ _ _ h => h) (.inl ⟨by rfl, fun wx _ => by go_simp⟩) hS5 ?_
    simp only [Act.put, List.getElem_toArray, List.getElem_cons_succ, List.getElem_cons_zero, List.setIfInBounds_toArray, List.set_cons_succ, List.set_cons_zero]
    refine wpAnyH_take (i := 13) (v := .pointer (some ⟨G, 3 + i, none⟩)) rfl (by kernel_rfl) (by kernel_rfl) (by kernel_rfl) (fun _ _ _ h => h) (.inl ⟨by rfl, fun wx _ => by go_simp; intro h; omega⟩) hS5 ?_
    simp only [Act.put, List.getElem_toArray, List.getElem_cons_succ, List.getElem_cons_zero, List.setIfInBounds_toArray, List.set_cons_succ, List.set_cons_zero]
    clear hS5
    have B5 := hid (F5.out.at HB.out (by simp))
    have FT : Hid (Fr [G] w (w5.setCell ⟨G, 3 + i, none⟩ rv)) := hid ((F5.out.mono (by simp)).set _ _ (.inl (by simp)))
    refine wpAnyH_ready (rs := [14]) (by kernel_rfl) (by simp) ?_
    refine AllReadyH.cons rfl (fun K hK => ?_) AllReadyH.nil
    refine step_put1 (q := G) (k := 3 + i) (u := V i) (r := rv) rfl rfl (.tmp 28) (.tmp 24) rfl (fk_cell B5.out hi16) (blk_frozen B5.out _) (by simp [Act.eval]) (by simp [Act.eval]) HN.out.form ?_
    refine hK.out _ _ (SK.out _ (HI.out.agrG HG.out FT.out)) (fun hS6 => ?_)
    clear hK K
    refine wpAnyH_take (i := 15) (v := .int .i64 0) rfl (by kernel_rfl) (by kernel_rfl) (by kernel_rfl) (fun _ _ _ h => h) (.inl ⟨by rfl, fun wx _ => by go_simp⟩) hS6 ?_
    simp only [Act.put, List.getElem_toArray, List.getElem_cons_succ, List.getElem_cons_zero, List.setIfInBounds_toArray, List.set_cons_succ, List.set_cons_zero]
    refine wpAnyH_done (by kernel_rfl) ?_ _
    clear hS6
    go_wp2
    go_ret
    refine ⟨rfl, updV V i rv, v0, fk_put B5.out hi16, fun j hj => ?_, HV0.out.upG HI.out HG.out FT.out, FT.out⟩
    show NdV _ _ (if j = i then _ else _) (if j = i then _ else _)
    split
    · refine (HN.out.step fun k hk => ?_).sub fun k hk => ?_
      · rw [blk_setne]
        rintro rfl
        rcases hk with hk | hk
        · exact HG.out hk
        · have := GW.out; have := FD.out.size; omega
      · rcases hk with hk | hk
        · exact .inl hk
        · exact .inr ⟨by have := FD.out.size; omega, by simpa [World.setCell] using hk.2⟩
    · exact (HC.out j hj).upG HI.out HG.out FT.out
end Go.Proofs.YtmpfnglcmaollaaDoor
namespace Go.Proofs.YtmpfnglcmaollaaDoor
open Go.ChangeShapes Go.WideShapes Go.ChangeAt Go.RowKit

set_option maxRecDepth 20000 in
set_option maxHeartbeats 3200000 in
theorem growF_c (w : World) {S : Nat → Prop} (HT : Tabs w) (hi : InS S w) {G : Nat} (hG : ¬ S G) (h3G : 3 ≤ G) {V : Nat → Value} {z0 z1 z2 pv vv v0 : Value} {T : TypeId} (hB : w.heap[G]? = some (.cells #[z0, z1, z2, V 0, V 1, V 2, V 3, V 4, V 5, V 6, V 7, V 8, V 9, V 10, V 11, V 12, V 13, V 14, V 15, v0] T (0, 0))) {c : Nat → Nd} {x p v : List Nat} {s : Nat} (hc : ∀ i, i < 16 → NdV S w (c i) (V i)) (hv0 : Un S w (fun w' => Rd w' v0 (bv x))) (hp : Un S w (fun w' => Rd w' pv (bv p))) (hb : Nb p) (hl : p.length ≤ 128) (hs : s ≤ p.length) (hv : Un S w (fun w' => Rd w' vv (bv v))) (hvb : By v) (hv1 : 1 ≤ v.length) (hvl : v.length ≤ 1024) (hok : okN (128 - s) (.fork (addC c (p.drop s) v) (addV x (p.drop s) v))) :
    Calls Tryd.prog 95 #[.pointer (some ⟨G, 0, none⟩), pv, .int .i64 (s : Int), vv] w fun e w' => ∃ r, e = .returned (.tuple #[r, .int .i64 0]) ∧ NdV (Up S w w') w' (growN c x p s v) r ∧ Fr [G] w w' := by
  obtain ⟨pa, pc, e1⟩ := RdS.slice hp
  subst e1
  obtain ⟨np, hnp⟩ : ∃ np, np = p.length := ⟨_, rfl⟩
  rw [← hnp] at hp hl hs ⊢
  obtain ⟨a', s1, hr⟩ := cutU hp hnp.symm hs
  obtain ⟨s2, hd⟩ := headU hp hnp.symm hs
  have AD := hid (add_c w HT hi hG hB hc hv0 hr (hb.drop s) (by rw [List.length_drop]; omega) hv hvb hv1 hvl)
  have GW : Hid (G < w.heap.size) := hid (Array.getElem?_eq_some_iff.1 hB).1
  have HTH := hid HT
  have HI := hid hi
  have HG := hid hG
  have HD := hid hd
  have HTL : Hid ((p.take s).length = s) := hid (by rw [List.length_take]; omega)
  have HNB := hid (hb.take s)
  have HOK := hid hok
  have h128 : s ≤ 128 := by omega
  clear HT hi hG hB hc hv0 hp hr hb hl hv hvb hv1 hvl hok hd hnp hs
  go_enter Tryd.func95, Tryd.ntmps95
  go_upto_region 2 with (go_at_call 94; refine AD.out.mono ?_; rintro e w1 ⟨rfl, V', v', B1, N1, U1, f1⟩; have HB1 := hid B1; have HN1 := hid N1; have HU1 := hid U1; have F1 := hid f1; clear B1 N1 U1 f1 AD)
  obtain ⟨va, vc, e2⟩ := RdS.slice HU1.out
  subst e2
  obtain ⟨nv, hnv⟩ : ∃ nv, nv = (addV x (p.drop s) v).length := ⟨_, rfl⟩
  rw [← hnv] at HB1 HU1
  clear hnv
  have HI1 := hid (HI.out.upS F1.out.size)
  have HT1 : Hid (Tabs w1) := hid (HTH.out.fr1 F1.out (by simpa using h3G))
  have FD : Hid (Fr [] w1 w1.drew) := hid (Fr.refl _ _).drew
  have MF := hid (makeFork_c w1.drew (HT1.out.fr FD.out) (HI1.out.fr FD.out) (fun i h => (HN1.out i h).step (HI1.out.agr FD.out)) (fun i h y e => by have := HOK.out.2.1 i h; rw [e] at this; exact this) (HU1.out.step (HI1.out.agr FD.out)) HOK.out.2.2.1 HOK.out.2.2.2)
  go_upto_region 4 with fail
  refine wp_region_held_drew (S := fun w' => w'.heap[G]? = some (.cells #[z0, z1, z2, V' 0, V' 1, V' 2, V' 3, V' 4, V' 5, V' 6, V' 7, V' 8, V' 9, V' 10, V' 11, V' 12, V' 13, V' 14, V' 15, .slice va nv vc] T (0, 0))) (by kernel_rfl) (by rw [blk_drew]; exact HB1.out) (fun hS => ?_)
  refine wpAnyH_take (i := 0) (v := .pointer (some ⟨G, 0, none⟩)) rfl (by kernel_rfl) (by kernel_rfl) (by kernel_rfl) (fun _ _ _ h => h) (.inl ⟨by rfl, fun wx _ => by go_simp⟩) hS ?_
  simp only [Act.put]
  refine wpAnyH_take (i := 1) (v := .pointer (some ⟨G, 0, none⟩)) rfl (by kernel_rfl) (by kernel_rfl) (by kernel_rfl) (fun _ _ _ h => h) (.inl ⟨by rfl, fun wx _ => by go_simp⟩) hS ?_
  simp only [Act.put]
  refine wpAnyH_take (i := 2) (v := .pointer (some ⟨G, 3, none⟩)) rfl (by kernel_rfl) (by kernel_rfl) (by kernel_rfl) (fun _ _ _ h => h) (.inl ⟨by rfl, fun wx _ => by go_simp⟩) hS ?_
  simp only [Act.put]
  refine wpAnyH_take (i := 3) (v := .agg #[V' 0, V' 1, V' 2, V' 3, V' 4, V' 5, V' 6, V' 7, V' 8, V' 9, V' 10, V' 11, V' 12, V' 13, V' 14, V' 15]) rfl (by kernel_rfl) (by kernel_rfl) (by kernel_rfl) (fun _ _ _ h => h) (.inl ⟨by rfl, fun wx hX => by obtain ⟨⟨x3, x4, x5, x6, x7, x8, x9, x10, x11, x12, x13, x14, x15, x16, x17, x18⟩, x19⟩ := cellsV hX; go_simp⟩) hS ?_
  simp only [Act.put]
  refine wpAnyH_take (i := 4) (v := .pointer (some ⟨G, 0, none⟩)) rfl (by kernel_rfl) (by kernel_rfl) (by kernel_rfl) (fun _ _ _ h => h) (.inl ⟨by rfl, fun wx _ => by go_simp⟩) hS ?_
  simp only [Act.put]
  refine wpAnyH_take (i := 5) (v := .pointer (some ⟨G, 0, none⟩)) rfl (by kernel_rfl) (by kernel_rfl) (by kernel_rfl) (fun _ _ _ h => h) (.inl ⟨by rfl, fun wx _ => by go_simp⟩) hS ?_
  simp only [Act.put]
  refine wpAnyH_take (i := 6) (v := .pointer (some ⟨G, 19, none⟩)) rfl (by kernel_rfl) (by kernel_rfl) (by kernel_rfl) (fun _ _ _ h => h) (.inl ⟨by rfl, fun wx _ => by go_simp⟩) hS ?_
  simp only [Act.put]
  refine wpAnyH_take (i := 7) (v := .slice va nv vc) rfl (by kernel_rfl) (by kernel_rfl) (by kernel_rfl) (fun _ _ _ h => h) (.inl ⟨by rfl, fun wx hX => by obtain ⟨⟨x3, x4, x5, x6, x7, x8, x9, x10, x11, x12, x13, x14, x15, x16, x17, x18⟩, x19⟩ := cellsV hX; go_simp⟩) hS ?_
  simp only [Act.put]
  have hSS := hid hS
  clear hS
  refine wpAnyH_ready (rs := [8]) (by kernel_rfl) (by simp) ?_
  refine AllReadyH.cons rfl (fun K hK => ?_) AllReadyH.nil
  go_simp
  go_at_call 96
  refine MF.out.mono ?_
  rintro e w2 ⟨r2, rfl, hN, f2⟩
  have HN2 := hid hN
  have F2 := hid f2
  have hS2 : w2.heap[G]? = some (.cells #[z0, z1, z2, V' 0, V' 1, V' 2, V' 3, V' 4, V' 5, V' 6, V' 7, V' 8, V' 9, V' 10, V' 11, V' 12, V' 13, V' 14, V' 15, .slice va nv vc] T (0, 0)) := blk_frT hSS.out f2
  clear hN f2 MF
  go_simp
  refine hK.out _ _ hS2 (fun _ => ?_)
  clear hK K
  refine wpAnyH_take (i := 9) (v := .tuple #[r2, .int .i64 0]) rfl (by kernel_rfl) (by kernel_rfl) (by kernel_rfl) (fun _ _ _ h => h) (.inl ⟨by rfl, fun wx _ => by go_simp⟩) hS2 ?_
  simp only [Act.put, List.getElem_toArray, List.getElem_cons_succ, List.getElem_cons_zero, List.setIfInBounds_toArray, List.set_cons_succ, List.set_cons_zero]
  refine wpAnyH_take (i := 10) (v := r2) rfl (by kernel_rfl) (by kernel_rfl) (by kernel_rfl) (fun _ _ _ h => h) (.inl ⟨by rfl, fun wx _ => by go_simp⟩) hS2 ?_
  simp only [Act.put, List.getElem_toArray, List.getElem_cons_succ, List.getElem_cons_zero, List.setIfInBounds_toArray, List.set_cons_succ, List.set_cons_zero]
  refine wpAnyH_take (i := 11) (v := .int .i64 0) rfl (by kernel_rfl) (by kernel_rfl) (by kernel_rfl) (fun _ _ _ h => h) (.inl ⟨by rfl, fun wx _ => by go_simp⟩) hS2 ?_
  simp only [Act.put, List.getElem_toArray, List.getElem_cons_succ, List.getElem_cons_zero, List.setIfInBounds_toArray, List.set_cons_succ, List.set_cons_zero]
  refine wpAnyH_take (i := 12) (v := r2) rfl (by kernel_rfl) (by kernel_rfl) (by kernel_rfl) (fun _ _ _ h => h) (.inl ⟨by rfl, fun wx _ => by go_simp⟩) hS2 ?_
  simp only [Act.put, List.getElem_toArray, List.getElem_cons_succ, List.getElem_cons_zero, List.setIfInBounds_toArray, List.set_cons_succ, List.set_cons_zero]
  refine wpAnyH_take (i := 13) (v := .int .i64 0) rfl (by kernel_rfl) (by kernel_rfl) (by kernel_rfl) (fun _ _ _ h => h) (.inl ⟨by rfl, fun wx _ => by go_simp⟩) hS2 ?_
  simp only [Act.put, List.getElem_toArray, List.getElem_cons_succ, List.getElem_cons_zero, List.setIfInBounds_toArray, List.set_cons_succ, List.set_cons_zero]
  refine wpAnyH_done (by kernel_rfl) ?_ _
  have hSS2 := hid hS2
  clear hS2
  have F12 := hid (FD.out.trans F2.out)
  have FG2 := hid (F1.out.trans (F12.out.mono (S' := [G]) (by simp)))
  have HI2 := hid ((HI1.out.fr FD.out).upS F2.out.size)
  have LD := hid (lead_c w2 (HT1.out.fr F12.out) HI2.out (n := .fork (addC c (p.drop s) v) (addV x (p.drop s) v)) (v := r2) (((HD.out.upG HI.out HG.out FG2.out).sub (T := Up (Up S w w1) w1.drew w2) fun k hk => by
    rcases hk with hk | hk
    · exact .inl (.inl hk)
    · rcases Nat.lt_or_ge k w1.heap.size with h | h
      · exact .inl (.inr ⟨hk.1, h⟩)
      · exact .inr ⟨by simpa using h, hk.2⟩)) HNB.out (by rw [HTL.out]; exact h128) HN2.out (by rw [HTL.out]; exact HOK.out))
  go_upto_region 7 with fail
  go_wp2_with (go_at_call 80; refine LD.out.mono ?_; rintro e w3 ⟨r3, rfl, hN3, f3⟩; have HN3 := hid hN3; have F3 := hid f3; clear hN3 f3)
  go_ret2
  refine ⟨r3, rfl, HN3.out.sub fun k hk => ?_, FG2.out.trans (F3.out.mono (by simp))⟩
  have z1 := F1.out.size
  have z2 := F12.out.size
  have z3 := F3.out.size
  rcases hk with ((hk | hk) | hk) | hk
  · exact .inl hk
  · exact .inr ⟨hk.1, by omega⟩
  · exact .inr ⟨by have := FD.out.size; omega, by omega⟩
  · exact .inr ⟨by omega, hk.2⟩
end Go.Proofs.YtmpfnglcmaollaaDoor
namespace Go.Proofs.YtmpfnglcmaollaaDoor
open Go.ChangeShapes Go.WideShapes Go.ChangeAt Go.RowKit

set_option maxHeartbeats 400000 in
theorem bytesEqual_c {w : World} {v1 v2 : Value} {a b : List Nat} (h1 : Rd w v1 (bv a)) (h2 : Rd w v2 (bv b)) (ha : By a) (hb : By b) :
    Calls Tryd.prog 78 #[v1, v2] w fun e w' => e = .returned (.bool (decide (a = b))) ∧ w' = w := by
  have e1 := run_conv h1
  have e2 := run_conv h2
  obtain ⟨a1, c1, rfl⟩ := h1.form
  obtain ⟨a2, c2, rfl⟩ := h2.form
  by_cases hab : a = b
  · subst hab
    have e3 := ba_beq (strOf a)
    rw [decide_eq_true rfl]
    clear h1 h2
    go_enter Tryd.func78, Tryd.ntmps78
    go_wp2
    go_ret
    exact ⟨rfl, rfl⟩
  · have e3 : ((strOf a).toList == (strOf b).toList) = false := beq_eq_false_iff_ne.2 fun h => hab (strOf_inj ha hb (by
      rw [ByteArray.toList_eq, ByteArray.toList_eq] at h
      exact ByteArray.ext (Array.toList_inj.1 h)))
    rw [decide_eq_false hab]
    clear h1 h2 hab
    go_enter Tryd.func78, Tryd.ntmps78
    go_wp2
    go_ret
    exact ⟨by simp, rfl⟩

theorem encB_by {n : Nat} {t : Tr n} (h : byT n t) : By (encB t) := by
  unfold encB
  split
  · exact enc_by n t h
  · intro u hu; simp at hu
theorem encE_le {n : Nat} (t : Tr n) : encE t ≤ 100 := by
  have := bad_le n 1 t
  unfold encE; split <;> (try split) <;> omega

end Go.Proofs.YtmpfnglcmaollaaDoor
