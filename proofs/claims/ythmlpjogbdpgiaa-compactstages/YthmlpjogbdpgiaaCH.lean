/-
  container/heap's Push, Pop and Fix over what is left of lists.
-/
import Derived.Test.YthmlpjogbdpgiaaJ18
namespace Go.Proofs.Ythmlpjogbdpgiaa
open Go.ChangeShapes Go.WideShapes Go.ChangeAt Go.RowKit

theorem infoRw : (Try.prog.info? 27).map (fun i => (i.zero, i.size, i.bytes)) = some (some (.slice none 0 0), 1, 24) := by kernel_rfl
theorem step_appR {ops : Array Oper} {o : Oper} {a : Act} {w : World} {K : Act → World → Prop} {Q : Exit → Act → World → Prop} {E : Prop} (hg : o.guard = none) (s y : Operand) (hop : o.op = Op.call { callee := Callee.builtin Builtin.append, args := #[s, y], argTypes := #[60, 60] }) (base : Nat) {ad : Option Addr} {n c : Nat} {xs : List Value} (hs : a.eval s = .slice ad n c) (hown : w.ownsRow base 27 1 (.slice ad n c) n xs) {G : Nat} (hx : a.eval y = .slice (some ⟨G, 0, none⟩) 1 1) {a0 : Option Addr} {n0 c0 : Nat} (hG : w.heap[G]? = some (.cells #[.slice a0 n0 c0] 27 (0, 0)))
    (hl : n ≤ 1000000) (hbase : base ≤ w.heap.size)
    (hK : ∀ a' c' w', w'.ownsRow base 27 1 (.slice a' (n + 1) c') (n + 1) (xs ++ [.slice a0 n0 c0]) → w.grownBy w' (Value.slice ad n c).ownBlock → K (a.put o.dst (.slice a' (n + 1) c')) w') :
    if Region.wanted o (yielded ops a.tmps) = true then Oper.wp Try.prog o a w K Q else E := by
  obtain ⟨i0, hi0, hz0, hz1, hz2⟩ := info_parts infoRw
  refine step_append_own hg s y 60 hop base 27 i0 _ 1 24 Try.underlying60 hi0 hz0 hz1 hz2 rfl (by decide) _ n xs hs hown ⟨G, 0, none⟩ 1 1 [.slice a0 n0 c0] hx rfl (fun j u hj => by rw [Addr.add_lit, Nat.zero_add, blk_cell hG, ← Array.getElem?_toList]; exact hj) (fun u hu => by simp at hu; subst hu; rfl) (by unfold maxLen; omega) (by omega) hbase (fun v' w' o' g' q' => ?_)
  obtain ⟨a', c', rfl, _⟩ := ownsRow_slice o'
  exact hK a' c' w' o' g'
theorem own_cutR {w : World} {base : Nat} {e : TypeId} {a : Option Addr} {n c k : Nat} {xs : List Value} (h : w.ownsRow base e 1 (.slice a n c) n xs) (hk : k ≤ n) : w.ownsRow base e 1 (.slice a k c) k (xs.take k) := by
  have hl := h.1
  refine ⟨by rw [List.length_take]; omega, ?_⟩
  rcases h.2 with ⟨h1, h2⟩ | ⟨g, cap, cur, h1, h2, h3, h4, h5, h6, h7⟩
  · simp only [Value.slice.injEq] at h1
    obtain ⟨rfl, _, rfl⟩ := h1
    left
    exact ⟨by rw [show k = 0 by omega], by omega⟩
  · simp only [Value.slice.injEq] at h1
    obtain ⟨rfl, _, rfl⟩ := h1
    right
    refine ⟨g, c, cur, rfl, h2, h3, by omega, h5, h6, ?_⟩
    rw [← h7, List.take_take]
    congr 1
    omega
/-- P's slice set anew over a row that stands. -/
theorem RW.set {w0 W : World} {P : Nat} {a a' : Option Addr} {n c c' : Nat} {vs' : List Value} {hs' : List Ps} (hp : W.heap[P]? = some (.cells #[.slice a n c] 60 (0, 0))) (bp : w0.heap.size ≤ P) (fr : Fr [] w0 W) (o : W.ownsRow w0.heap.size 27 1 (.slice a' hs'.length c') hs'.length vs') (el : ∀ (i : Nat) (p : Ps), hs'[i]? = some p → ∃ v, vs'[i]? = some v ∧ RdK w0 v p) : RW w0 (W.setCell ⟨P, 0, none⟩ (.slice a' hs'.length c')) P a' c' vs' hs' :=
  ⟨by rw [blk_set hp _ _]; rfl, ownsRow_of_block o fun k hk => blk_setne _ _ _ (fun e => own_not o hp (by decide) (by rw [← e]; exact hk)), el, bp, fr.set _ _ (.inr bp)⟩
set_option maxRecDepth 20000 in
set_option maxHeartbeats 3200000 in
theorem mpop_c {w0 W : World} {P g c : Nat} {vs : List Value} {hs : List Ps} (h : RW w0 W P (some ⟨g, 0, none⟩) c vs hs) (hpos : 0 < hs.length) (hl : hs.length ≤ 1000000) :
    Calls Try.prog 102 #[.pointer (some ⟨P, 0, none⟩)] W fun e w' => ∃ u vs', e = .returned u ∧ RW w0 w' P (some ⟨g, 0, none⟩) c vs' (hs.take (hs.length - 1)) ∧ Fr [P] W w' := by
  obtain ⟨N, hN⟩ : ∃ N, N = hs.length - 1 := ⟨_, rfl⟩
  have hN1 : hs.length = N + 1 := by omega
  obtain ⟨g', cur, he, hbg, hg, hnc⟩ := h.blk hpos
  simp only [Option.some.injEq, Addr.mk.injEq, and_true] at he
  obtain rfl := he
  have hNl : N ≤ 1000000 := by omega
  have hvl : vs.length = hs.length := by have := h.own.1; omega
  obtain ⟨v, hv⟩ : ∃ v, vs[N]? = some v := ⟨_, List.getElem?_eq_getElem (by omega)⟩
  have c1 := h.own.cells (g := g) rfl _ _ hv
  rw [Addr.add_lit, Nat.zero_add] at c1
  obtain ⟨p, hp⟩ : ∃ p, hs[N]? = some p := ⟨_, List.getElem?_eq_getElem (by omega)⟩
  obtain ⟨v', hv', hr⟩ := h.el N p hp
  rw [hv] at hv'
  cases hv'
  obtain ⟨va, vn, vc, rfl⟩ : ∃ a n c, v = .slice a n c := by obtain ⟨a, c, e, _⟩ := hr; exact ⟨_, _, _, e⟩
  have htl : (hs.take N).length = N := by rw [List.length_take]; omega
  have RS : Hid (RW w0 (W.setCell ⟨P, 0, none⟩ (.slice (some ⟨g, 0, none⟩) N c)) P (some ⟨g, 0, none⟩) c (vs.take N) (hs.take N)) := hid (by
    have := RW.set (a' := some ⟨g, 0, none⟩) (c' := c) (vs' := vs.take N) (hs' := hs.take N) h.hp h.bp h.fr (by rw [htl]; exact own_cutR h.own (by omega)) (fun i q hq => by
      have hi : i < N := by have := (List.getElem?_eq_some_iff.1 hq).1; omega
      rw [List.getElem?_take_of_lt hi] at hq
      obtain ⟨u, hu, hr⟩ := h.el i q hq
      exact ⟨u, by rw [List.getElem?_take_of_lt hi]; exact hu, hr⟩)
    rw [htl] at this
    exact this)
  have FS : Hid (Fr [P] W (W.setCell ⟨P, 0, none⟩ (.slice (some ⟨g, 0, none⟩) N c))) := hid ((Fr.refl [P] W).set _ _ (.inl (by simp)))
  have c0 := h.cell
  have cf := blk_frozen h.hp 0
  rw [hN1] at c0 hnc
  rw [← hN]
  have hN1i : IntKind.i64.wrap ((N : Int) + 1 - 1) = (N : Int) := by rw [IntKind.wrap_i64]; omega
  have hnci : (N : Int) ≤ (c : Int) := by omega
  clear h hv hp hr hvl htl hN hpos hbg hg
  clear hN1
  go_enter Try.func102, Try.ntmps102
  go_wp2
  go_ret
  exact ⟨_, _, rfl, RS.out, FS.out⟩
set_option maxRecDepth 20000 in
set_option maxHeartbeats 3200000 in
theorem mpush_c {w0 W : World} {P : Nat} {a : Option Addr} {c : Nat} {vs : List Value} {hs : List Ps} (h : RW w0 W P a c vs hs) {pv : Value} {p : Ps} (hr : RdK w0 pv p) (hl : hs.length ≤ 1000000) :
    Calls Try.prog 103 #[.pointer (some ⟨P, 0, none⟩), .iface 27 pv] W fun e w' => ∃ u a' c' vs', e = .returned u ∧ RW w0 w' P a' c' vs' (hs ++ [p]) := by
  obtain ⟨pa, pl, pc, rfl⟩ : ∃ a n c, pv = .slice a n c := by obtain ⟨a, c, e, _⟩ := hr; exact ⟨_, _, _, e⟩
  obtain ⟨X, hX⟩ : ∃ X, X = W.alloc (.cells #[.slice pa pl pc] 27) := ⟨_, rfl⟩
  have FX : Fr [] W X := by rw [hX]; exact (Fr.refl _ _).alloc _
  have HXD : Hid (RW w0 X.drew P a c vs hs) := hid (h.quiet FX.drew)
  have HG : Hid (X.drew.heap[W.heap.size]? = some (.cells #[.slice pa pl pc] 27 (0, 0))) := hid (by rw [hX]; exact blk_new _ _)
  have BS : Hid (w0.heap.size ≤ X.drew.heap.size) := hid HXD.out.fr.size
  have ND : Hid (∀ a' c' (W3 : World), W3.ownsRow w0.heap.size 27 1 (.slice a' (hs.length + 1) c') (hs.length + 1) (vs ++ [.slice pa pl pc]) → X.drew.grownBy W3 (Value.slice a hs.length c).ownBlock → RW w0 (W3.setCell ⟨P, 0, none⟩ (.slice a' (hs.length + 1) c')) P a' c' (vs ++ [.slice pa pl pc]) (hs ++ [p]) ∧ W3.cell? ⟨P, 0, none⟩ = some (.slice a hs.length c) ∧ W3.frozen? ⟨P, 0, none⟩ = false) := hid (fun a' c' W3 o3 g3 => by
    have hb := HXD.out.hp
    have hp3 : W3.heap[P]? = some (.cells #[.slice a hs.length c] 60 (0, 0)) := by
      rw [g3.block P (blk_lt hb) (fun e => own_not HXD.out.own hb (by decide) e.symm)]; exact hb
    have hln : (hs ++ [p]).length = hs.length + 1 := by simp
    have hvl : vs.length = hs.length := by have := h.own.1; omega
    have := RW.set (a' := a') (c' := c') (vs' := vs ++ [.slice pa pl pc]) (hs' := hs ++ [p]) hp3 h.bp (HXD.out.fr.grown g3 (fun k e => .inr (HXD.out.own.lt k e).1)) (by rw [hln]; exact o3) (fun i q hq => by
      by_cases hi : i < hs.length
      · rw [List.getElem?_append_left hi] at hq
        obtain ⟨u, hu, hr⟩ := h.el i q hq
        exact ⟨u, by rw [List.getElem?_append_left (by omega)]; exact hu, hr⟩
      · have hi2 : i < (hs ++ [p]).length := (List.getElem?_eq_some_iff.1 hq).1
        have : i = hs.length := by omega
        subst this
        rw [List.getElem?_append_right (by omega)] at hq
        simp at hq
        subst hq
        exact ⟨_, by rw [List.getElem?_append_right (by omega), hvl]; simp, hr⟩)
    rw [hln] at this
    exact ⟨this, by rw [blk_cell hp3]; rfl, blk_frozen hp3 0⟩)
  have c0 := h.cell
  have c1 : X.cell? ⟨P, 0, none⟩ = some (.slice a hs.length c) := cell_fr FX c0
  have OW := hid HXD.out.own
  have C0 := hid c0
  have C1 := hid c1
  clear h FX hr c0 c1 HXD
  generalize hs.length = n at *
  go_enter Try.func103, Try.ntmps103
  refine wp_region_held_drew (S := fun _ => True) (by kernel_rfl) trivial (fun hS => ?_)
  refine wpAnyH_take (i := 0) (v := .pointer (some ⟨P, 0, none⟩)) rfl (by kernel_rfl) (by kernel_rfl) (by kernel_rfl) (fun _ _ _ h => h) (.inl ⟨by rfl, fun wx _ => by go_simp⟩) hS ?_
  simp only [Act.put, List.getElem_toArray, List.getElem_cons_zero, List.set_cons_succ, List.set_cons_zero, List.setIfInBounds_toArray]
  refine wpAnyH_take (i := 1) (v := .pointer (some ⟨P, 0, none⟩)) rfl (by kernel_rfl) (by kernel_rfl) (by kernel_rfl) (fun _ _ _ h => h) (.inl ⟨by rfl, fun wx _ => by go_simp⟩) hS ?_
  simp only [Act.put, List.getElem_toArray, List.getElem_cons_succ, List.getElem_cons_zero, List.set_cons_succ, List.set_cons_zero, List.setIfInBounds_toArray]
  refine wpAnyH_take (i := 2) (v := .pointer (some ⟨P, 0, none⟩)) rfl (by kernel_rfl) (by kernel_rfl) (by kernel_rfl) (fun _ _ _ h => h) (.inl ⟨by rfl, fun wx _ => by go_simp⟩) hS ?_
  simp only [Act.put, List.getElem_toArray, List.getElem_cons_succ, List.getElem_cons_zero, List.set_cons_succ, List.set_cons_zero, List.setIfInBounds_toArray]
  refine wpAnyH_take (i := 4) (v := .iface 27 (.slice pa pl pc)) rfl (by kernel_rfl) (by kernel_rfl) (by kernel_rfl) (fun _ _ _ h => h) (.inl ⟨by rfl, fun wx _ => by go_simp⟩) hS ?_
  simp only [Act.put, List.getElem_toArray, List.getElem_cons_succ, List.getElem_cons_zero, List.set_cons_succ, List.set_cons_zero, List.setIfInBounds_toArray]
  refine wpAnyH_take (i := 5) (v := .slice pa pl pc) rfl (by kernel_rfl) (by kernel_rfl) (by kernel_rfl) (fun _ _ _ h => h) (.inl ⟨by rfl, fun wx _ => by have hta : Sem.run Try.prog (Instr.typeAssert (.iface 27 (.slice pa pl pc)) 20 27 false) wx = .ok (.slice pa pl pc) wx := (by kernel_rfl); go_simp⟩) hS ?_
  simp only [Act.put, List.getElem_toArray, List.getElem_cons_succ, List.getElem_cons_zero, List.set_cons_succ, List.set_cons_zero, List.setIfInBounds_toArray]
  refine wpAnyH_ready (rs := [3, 6]) (by kernel_rfl) (by simp) ?_
  refine AllReadyH.cons rfl (fun K hK => ?_) (AllReadyH.cons rfl (fun K hK => ?_) AllReadyH.nil)
  · have q1 := C0.out
    go_simp
    refine hK.out _ _ trivial (fun hS => ?_)
    clear hK K q1
    refine wpAnyH_ready (rs := [6]) (by kernel_rfl) (by simp) ?_
    refine AllReadyH.cons rfl (fun K hK => ?_) AllReadyH.nil
    go_simp
    rw [← hX]
    clear hX
    refine hK.out _ _ trivial (fun hS => ?_)
    clear hK K
    refine wpAnyH_ready (rs := [7]) (by kernel_rfl) (by simp) ?_
    refine AllReadyH.cons rfl (fun K hK => ?_) AllReadyH.nil
    refine step_appR rfl (.tmp 7) (.tmp 10) rfl w0.heap.size (by first | (simp [Act.eval]; done) | simp [Act.eval, Act.put]) OW.out (G := W.heap.size) (by first | (simp [Act.eval]; done) | simp [Act.eval, Act.put]) HG.out hl BS.out ?_
    intro a2 c2 W3 o3 g3
    obtain ⟨r3, q1, q2⟩ := ND.out a2 c2 W3 o3 g3
    have R3 := hid r3
    refine hK.out _ _ trivial (fun hS => ?_)
    clear hK K r3 o3 g3
    refine wpAnyH_take (i := 8) (v := .pointer (some ⟨P, 0, none⟩)) rfl (by kernel_rfl) (by kernel_rfl) (by kernel_rfl) (fun _ _ _ h => h) (.inl ⟨by rfl, fun wx _ => by go_simp⟩) hS ?_
    simp only [Act.put, List.getElem_toArray, List.getElem_cons_succ, List.getElem_cons_zero, List.set_cons_succ, List.set_cons_zero, List.setIfInBounds_toArray]
    refine wpAnyH_ready (rs := [9]) (by kernel_rfl) (by simp) ?_
    refine AllReadyH.cons rfl (fun K hK => ?_) AllReadyH.nil
    go_simp
    refine hK.out _ _ trivial (fun hS => ?_)
    clear hK K
    refine wpAnyH_done (by kernel_rfl) ?_ _
    go_end0
    exact ⟨_, a2, c2, _, rfl, R3.out⟩
  · go_simp
    rw [← hX]
    clear hX
    refine hK.out _ _ trivial (fun hS => ?_)
    clear hK K
    have q1 := C1.out
    refine wpAnyH_ready (rs := [3]) (by kernel_rfl) (by simp) ?_
    refine AllReadyH.cons rfl (fun K hK => ?_) AllReadyH.nil
    go_simp
    refine hK.out _ _ trivial (fun hS => ?_)
    clear hK K
    clear q1
    refine wpAnyH_ready (rs := [7]) (by kernel_rfl) (by simp) ?_
    refine AllReadyH.cons rfl (fun K hK => ?_) AllReadyH.nil
    refine step_appR rfl (.tmp 7) (.tmp 10) rfl w0.heap.size (by first | (simp [Act.eval]; done) | simp [Act.eval, Act.put]) OW.out (G := W.heap.size) (by first | (simp [Act.eval]; done) | simp [Act.eval, Act.put]) HG.out hl BS.out ?_
    intro a2 c2 W3 o3 g3
    obtain ⟨r3, q1, q2⟩ := ND.out a2 c2 W3 o3 g3
    have R3 := hid r3
    refine hK.out _ _ trivial (fun hS => ?_)
    clear hK K r3 o3 g3
    refine wpAnyH_take (i := 8) (v := .pointer (some ⟨P, 0, none⟩)) rfl (by kernel_rfl) (by kernel_rfl) (by kernel_rfl) (fun _ _ _ h => h) (.inl ⟨by rfl, fun wx _ => by go_simp⟩) hS ?_
    simp only [Act.put, List.getElem_toArray, List.getElem_cons_succ, List.getElem_cons_zero, List.set_cons_succ, List.set_cons_zero, List.setIfInBounds_toArray]
    refine wpAnyH_ready (rs := [9]) (by kernel_rfl) (by simp) ?_
    refine AllReadyH.cons rfl (fun K hK => ?_) AllReadyH.nil
    go_simp
    refine hK.out _ _ trivial (fun hS => ?_)
    clear hK K
    refine wpAnyH_done (by kernel_rfl) ?_ _
    go_end0
    exact ⟨_, a2, c2, _, rfl, R3.out⟩
theorem HeapB.congr {q q' : Nat → List Nat} {n : Nat} (h : HeapB q n) (e : ∀ k, k < n → q' k = q k) : HeapB q' n := fun k h0 h1 => by
  rw [e k h1, e _ (by omega)]; exact h k h0 h1
set_option maxRecDepth 20000 in
set_option maxHeartbeats 3200000 in
theorem hpush_c {w0 W : World} {P : Nat} {a : Option Addr} {c : Nat} {vs : List Value} {hs : List Ps} (h : RW w0 W P a c vs hs) (ok : OkR hs) (hb : HeapB (hk hs) hs.length) {pv : Value} {p : Ps} (hr : RdK w0 pv p) (hp : p ≠ [] ∧ Rises p) (hl : hs.length ≤ 100000) :
    Calls Try.prog 26 #[HV P, .iface 27 pv] W fun e w' => ∃ u a' c' vs' hs', e = .returned u ∧ RW w0 w' P a' c' vs' hs' ∧ hs'.Perm (hs ++ [p]) ∧ HeapB (hk hs') hs'.length := by
  have MP := hid (mpush_c h hr (by omega))
  have ok2 : OkR (hs ++ [p]) := fun q hq => by
    rcases List.mem_append.1 hq with h1 | h1
    · exact ok q h1
    · rw [List.mem_singleton] at h1; rw [h1]; exact hp
  have OK2 := hid ok2
  have hln : (hs ++ [p]).length = hs.length + 1 := by simp
  have hu : UpI (hk (hs ++ [p])) (hs ++ [p]).length hs.length := by
    rw [hln]
    exact heap_up (hb.congr (fun k hk' => by unfold hk; rw [List.getElem?_append_left hk']))
  have HU := hid hu
  have HLN := hid hln
  clear h ok hb hr hp ok2 hu hln
  generalize hs ++ [p] = hs2 at *
  generalize hs.length = n at *
  go_enter Try.func26, Try.ntmps26
  go_upto_region 1 with (go_at_call 103; refine MP.out.mono ?_; rintro e w2 ⟨u, a2, c2, vs2, rfl, r2⟩; have R2 := hid r2; clear r2)
  have r2 := R2.out
  obtain ⟨g, cur, rfl, _, _, _⟩ := r2.blk (by rw [HLN.out]; omega)
  have UP := hid (up_c r2 OK2.out (j := n) (by rw [HLN.out]; omega) HU.out (by rw [HLN.out]; omega))
  have mL := meth_len w2 P c2 hs2.length _ r2.cell
  have LC := hid (rlen_c w2 (some ⟨g, 0, none⟩) hs2.length c2)
  rw [HLN.out] at mL LC
  have hw1 : IntKind.i64.wrap ((n : Int) + 1 - 1) = (n : Int) := by rw [IntKind.wrap_i64]; omega
  clear r2
  go_wp2_with (first
    | (go_at_call 40; refine UP.out.mono ?_; rintro e w3 ⟨u3, hs3, vs3, rfl, si, hb3⟩; have SI3 := hid si; have HB3 := hid hb3; clear si hb3)
    | (go_at_call 43; refine LC.out.mono ?_; rintro e w' ⟨rfl, hw'⟩; have hw'' := hw'.symm; clear hw'; subst hw''))
  go_end0
  exact ⟨_, _, _, vs3, hs3, rfl, SI3.out.rw, SI3.out.pm, HB3.out⟩
set_option maxRecDepth 20000 in
set_option maxHeartbeats 3200000 in
theorem hpop_c {w0 W : World} {P g c : Nat} {vs : List Value} {hs : List Ps} (h : RW w0 W P (some ⟨g, 0, none⟩) c vs hs) (ok : OkR hs) (hb : HeapB (hk hs) hs.length) (hpos : 0 < hs.length) (hl : hs.length ≤ 100000) :
    Calls Try.prog 44 #[HV P] W fun e w' => ∃ u vs' hs', e = .returned u ∧ RW w0 w' P (some ⟨g, 0, none⟩) c vs' hs' ∧ (∀ t, hs[0]? = some t → (t :: hs').Perm hs) ∧ HeapB (hk hs') hs'.length ∧ Fr [P, g] W w' := by
  obtain ⟨N, hN⟩ : ∃ N, hs.length = N + 1 := ⟨hs.length - 1, by omega⟩
  have SW := hid (swap_c h (i := 0) (k := N) (by omega) (by omega))
  rw [hN, show ((0 : Nat) : Int) = 0 from rfl] at SW
  have ok1 : OkR (swL hs 0 N) := ok.perm (swL_perm (by omega) (by omega))
  have hd : DnI (hk (swL hs 0 N)) N 0 := heap_dn0 hb (by omega) (fun k h0 h1 => by rw [hk_sw (by omega) (by omega), sw_o _ (by omega) (by omega)])
  have HD := hid hd
  have OK1 := hid ok1
  have PM1 := hid (swL_perm (hs := hs) (i := 0) (j := N) (by omega) (by omega))
  have LS1 : Hid ((swL hs 0 N).length = N + 1) := hid (by rw [swL_len]; exact hN)
  have TL1 : Hid ((swL hs 0 N)[N]? = hs[0]?) := hid (by rw [swL_at (by omega) (by omega), if_pos rfl])
  have mL := meth_len W P c hs.length _ h.cell
  have mS := meth_swap W P c hs.length _ h.cell
  have LC := hid (rlen_c W (some ⟨g, 0, none⟩) hs.length c)
  rw [hN] at mL mS LC
  have hw1 : IntKind.i64.wrap ((N : Int) + 1 - 1) = (N : Int) := by rw [IntKind.wrap_i64]; omega
  have hl' : N ≤ 100000 := by omega
  clear h ok hb ok1 hd hN hpos hl
  generalize swL hs 0 N = hs1 at *
  go_enter Try.func44, Try.ntmps44
  go_upto_region 3 with (first
    | (go_at_call 101; refine SW.out.mono ?_; rintro e w2 ⟨u, vs2, rfl, r2, f2⟩; have R2 := hid r2; have f2' : Fr [g] W w2 := f2; have F2 := hid (f2'.mono (S' := [P, g]) (by simp)); clear r2 f2 f2')
    | (go_at_call 43; refine LC.out.mono ?_; rintro e w' ⟨rfl, hw'⟩; have hw'' := hw'.symm; clear hw'; subst hw''))
  have DC := hid (down_c R2.out OK1.out (i := 0) (m := N) (by omega) (by rw [LS1.out]; omega) HD.out (by rw [LS1.out]; omega))
  rw [show ((0 : Nat) : Int) = 0 from rfl] at DC
  clear mL mS
  go_upto_region 4 with (go_at_call 56; refine DC.out.mono ?_; rintro e w3 ⟨b, hs3, vs3, rfl, si, hb3, tl3⟩; have SI3 := hid si; have HB3 := hid hb3; have TL3 := hid (tl3 N (Nat.le_refl _)); clear si hb3 tl3)
  have hl3 : hs3.length = N + 1 := SI3.out.len.trans LS1.out
  have MP := hid (mpop_c SI3.out.rw (by omega) (by omega))
  rw [hl3, Nat.add_sub_cancel] at MP
  clear DC
  go_wp2_with (go_at_call 102; refine MP.out.mono ?_; rintro e w4 ⟨u4, vs4, rfl, r4, f4⟩; have R4 := hid r4; have F4 := hid ((F2.out.trans (SI3.out.fr.mono (by simp))).trans (f4.mono (by simp))); clear r4 f4)
  go_ret
  have htl : (hs3.take N).length = N := by rw [List.length_take]; omega
  refine ⟨_, vs4, _, rfl, R4.out, fun t ht => ?_, ?_, F4.out⟩
  · have h1 : hs3[N]? = some t := by rw [TL3.out, TL1.out]; exact ht
    have h2 : hs3 = hs3.take N ++ [t] := by
      obtain ⟨hlt, he⟩ := List.getElem?_eq_some_iff.1 h1
      rw [← he, ← List.take_succ_eq_append_getElem hlt, List.take_of_length_le (by omega)]
    have h3 : (t :: hs3.take N).Perm hs3 := by
      conv => rhs; rw [h2]
      exact (List.perm_append_comm (l₁ := [t]) (l₂ := hs3.take N))
    exact (h3.trans SI3.out.pm).trans PM1.out
  · rw [htl]
    exact HB3.out.congr (fun k hk' => by unfold hk; rw [List.getElem?_take_of_lt hk'])
set_option maxRecDepth 20000 in
set_option maxHeartbeats 3200000 in
theorem hfix_c {w0 W : World} {P g c : Nat} {vs : List Value} {hs : List Ps} (h : RW w0 W P (some ⟨g, 0, none⟩) c vs hs) (ok : OkR hs) (hd : DnI (hk hs) hs.length 0) (hpos : 0 < hs.length) (hl : hs.length ≤ 100000) :
    Calls Try.prog 45 #[HV P, .int .i64 0] W fun e w' => ∃ u vs' hs', e = .returned u ∧ RW w0 w' P (some ⟨g, 0, none⟩) c vs' hs' ∧ hs'.Perm hs ∧ HeapB (hk hs') hs'.length ∧ Fr [g] W w' := by
  have DC := hid (down_c h ok (i := 0) (m := hs.length) (by omega) (Nat.le_refl _) hd (by omega))
  have mL := meth_len W P c hs.length _ h.cell
  have LC := hid (rlen_c W (some ⟨g, 0, none⟩) hs.length c)
  have OK0 := hid ok
  clear h hd ok
  obtain ⟨n, hn⟩ : ∃ n, n = hs.length := ⟨_, rfl⟩
  have HN := hid hn
  rw [← hn] at DC mL LC hpos hl
  clear hn
  go_enter Try.func45, Try.ntmps45
  go_upto_if 9 with (first
    | (go_at_call 56; refine DC.out.mono ?_; rintro e w3 ⟨b, hs3, vs3, rfl, si, hb3, tl3⟩; have SI3 := hid si; have HB3 := hid hb3; clear si hb3 tl3)
    | (go_at_call 43; refine LC.out.mono ?_; rintro e w' ⟨rfl, hw'⟩; have hw'' := hw'.symm; clear hw'; subst hw''))
  have hl3 : hs3.length = n := SI3.out.len.trans HN.out.symm
  have HL3 := hid hl3
  rcases b with _ | _
  · have UP := hid (up_c SI3.out.rw (OK0.out.perm SI3.out.pm) (j := 0) (by omega) (by rw [hl3]; exact up0 HB3.out) (by omega))
    clear hl3
    go_wp2_with (go_at_call 40; refine UP.out.mono ?_; rintro e w4 ⟨u4, hs4, vs4, rfl, si, hb4⟩; have SI4 := hid si; have HB4 := hid hb4; clear si hb4)
    go_end0
    exact ⟨_, vs4, hs4, rfl, SI4.out.rw, SI4.out.pm.trans SI3.out.pm, HB4.out, SI3.out.fr.trans SI4.out.fr⟩
  · clear hl3
    go_wp2
    go_end0
    exact ⟨_, vs3, hs3, rfl, SI3.out.rw, SI3.out.pm, by rw [HL3.out]; exact HB3.out, SI3.out.fr⟩
end Go.Proofs.Ythmlpjogbdpgiaa
