/-
  A key put where a stem stands.
-/
import Derived.Test.YtmpfnglcmaollaaDoorJ23
namespace Go.Proofs.YtmpfnglcmaollaaDoor
open Go.ChangeShapes Go.WideShapes Go.ChangeAt Go.RowKit

/-- What put tells: nothing has changed, or the node that it becomes. -/
def PutR (S : Nat → Prop) (w : World) (n : Nd) (p x : List Nat) (e : Ending) (w' : World) : Prop :=
  ((findN n p = x ∧ e = .returned (.tuple #[.nilIface, .int .i64 (-1)])) ∨ (findN n p ≠ x ∧ ∃ r, e = .returned (.tuple #[r, .int .i64 0]) ∧ NdV (Up S w w') w' (putN n p x) r)) ∧ Fr [] w w'
/-- put does what is asked, wherever this node stands. -/
def PutOk (n : Nd) : Prop := ∀ (w : World) (S : Nat → Prop) (tv v pv vv : Value) (p x : List Nat) (d : Nat), Tabs w → InS S w → NdV S w n v → d ≤ 128 → okN d n → Un S w (fun w' => Rd w' pv (bv p)) → Nb p → p.length ≤ d → Un S w (fun w' => Rd w' vv (bv x)) → By x → 1 ≤ x.length → x.length ≤ 1024 →
  Calls Tryd.prog 56 #[tv, v, pv, vv] w (PutR S w n p x)
set_option maxRecDepth 20000 in
set_option maxHeartbeats 3200000 in
theorem putStemIn_c (w : World) {S : Nat → Prop} (HT : Tabs w) (hi : InS S w) {b : Nat} {tv pv vv : Value} {q p v : List Nat} {t : Nd} {d : Nat} (hn : NdV S w (.stem q t) (.iface 121 (.pointer (some ⟨b, 0, none⟩)))) (hd : d ≤ 128) (hok : okN d (.stem q t)) (hp : Un S w (fun w' => Rd w' pv (bv p))) (hb : Nb p) (hl : p.length ≤ d) (hv : Un S w (fun w' => Rd w' vv (bv v))) (hvb : By v) (hv1 : 1 ≤ v.length) (hvl : v.length ≤ 1024) (ih : PutOk t) (hin : cpN q p = q.length) :
    Calls Tryd.prog 75 #[tv, .pointer (some ⟨b, 0, none⟩), pv, vv] w (PutR S w (.stem q t) p v) := by
  obtain ⟨pa, pc, e1⟩ := RdS.slice hp
  obtain ⟨va, vc, e2⟩ := RdS.slice hv
  subst e1 e2
  have h1 := hn
  obtain ⟨b', _, _, _, qv, bl, e, hbS, h1, h2, h3, h4⟩ := h1
  simp only [Value.iface.injEq, true_and, Value.pointer.injEq, Option.some.injEq, Addr.mk.injEq, and_true] at e
  subst e
  obtain ⟨qa, qc, e3⟩ := RdS.slice h2
  subst e3
  obtain ⟨g1, g2, g3, g4, g5⟩ := hok
  obtain ⟨c, x, rfl⟩ : ∃ c x, t = .fork c x := by
    cases t with
    | fork c x => exact ⟨c, x, rfl⟩
    | nil => exact g4.elim
    | far _ => exact g4.elim
    | leaf _ _ => exact g4.elim
    | stem _ _ => exact g4.elim
  obtain ⟨bT, bx, rfl⟩ : ∃ T x, bl = .iface T x := by
    obtain ⟨b', _, _, _, _, _, e, _⟩ := h3
    exact ⟨_, _, e⟩
  have c3 := blk_cell h1 3
  have c4 := blk_cell h1 4
  simp at c3 c4
  have hcp := cpN_le q p
  rw [hin] at hcp
  have SH := hid (shared_c w h2.now hp.now (by omega))
  rw [hin] at SH
  have FN : findN (.stem q (.fork c x)) p = findN (.fork c x) (p.drop q.length) := by
    show (if cpN q p = q.length then findN (.fork c x) (p.drop (cpN q p)) else []) = _
    rw [if_pos hin, hin]
  have PN : putN (.stem q (.fork c x)) p v = leadN q (putN (.fork c x) (p.drop q.length) v) := by
    show (if cpN q p = q.length then leadN q (putN (.fork c x) (p.drop (cpN q p)) v) else _) = _
    rw [if_pos hin, hin]
  obtain ⟨a', s1, hr⟩ := cutU hp rfl hcp.2
  have PT := hid (fun (w1 : World) (f : Fr [] w w1) => ih w1 S tv (.iface bT bx) _ _ (p.drop q.length) v (d - q.length) (HT.fr f) (hi.fr f) (h3.step (hi.agr f)) (by omega) g5 (hr.step (hi.agr f)) (hb.drop _) (by rw [List.length_drop]; omega) (hv.step (hi.agr f)) hvb hv1 hvl)
  have HOK := hid (putN_ok g5 (hb.drop q.length) (by rw [List.length_drop]; omega) hvb hv1 hvl)
  have LD := hid (fun (w1 w2 w3 : World) (r : Value) (f1 : Fr [] w w1) (f2 : Fr [] w1 w2) (f3 : Fr [] w2 w3) (N : NdV (Up S w1 w2) w2 (putN (.fork c x) (p.drop q.length) v) r) =>
    lead_c w3 (S := Up S w1 w2) (HT.fr ((f1.trans f2).trans f3)) (((hi.fr f1).up f2).fr f3) (((h2.step (hi.agr f1)).up (hi.fr f1) f2).step (((hi.fr f1).up f2).agr f3)) g1 (by omega) (N.step (((hi.fr f1).up f2).agr f3)) (HOK.out.mono (by omega)))
  obtain ⟨nq, hnq⟩ : ∃ n, n = q.length := ⟨_, rfl⟩
  obtain ⟨np, hnp⟩ : ∃ n, n = p.length := ⟨_, rfl⟩
  obtain ⟨nv, hnv⟩ : ∃ n, n = v.length := ⟨_, rfl⟩
  have HFN := hid FN
  have HPN := hid PN
  rw [← hnq] at c3 SH s1 PT LD HFN HPN hcp
  rw [← hnp] at SH s1 PT hcp
  rw [← hnv] at PT
  rw [← hnp, ← hnv]
  have SK : Hid (∀ w', Fr [] w w' → w'.cell? ⟨b, 3, none⟩ = some (.slice qa nq qc) ∧ w'.cell? ⟨b, 4, none⟩ = some (.iface bT bx)) := hid fun w' f => ⟨cell_fr c3 f, cell_fr c4 f⟩
  clear hp hv h1 h2 h3 h4 hnq hnp hnv HT hi hl hv1 hvl hr hbS HOK FN PN hin ih hn g5 g4
  go_enter Tryd.func75, Tryd.ntmps75
  go_upto_region 2 with (go_at_call 93; refine SH.out.mono ?_; rintro e w1 ⟨rfl, f1⟩; have F1 := hid f1; clear f1 SH c3 c4; obtain ⟨c3, c4⟩ := SK.out _ F1.out)
  go_upto_region 3 with fail
  clear c3 c4
  refine wp_region_held_drew (S := fun w' => w'.cell? ⟨b, 3, none⟩ = some (.slice qa nq qc) ∧ w'.cell? ⟨b, 4, none⟩ = some (.iface bT bx)) (by kernel_rfl) (SK.out _ F1.out.drew) (fun hS => ?_)
  refine wpAnyH_take (i := 0) (v := tv) rfl (by kernel_rfl) (by kernel_rfl) (by kernel_rfl) (fun _ _ _ h => h) (.inl ⟨by rfl, fun wx _ => by go_simp⟩) hS ?_
  simp only [Act.put]
  refine wpAnyH_take (i := 1) (v := .pointer (some ⟨b, 0, none⟩)) rfl (by kernel_rfl) (by kernel_rfl) (by kernel_rfl) (fun _ _ _ h => h) (.inl ⟨by rfl, fun wx _ => by go_simp⟩) hS ?_
  simp only [Act.put]
  refine wpAnyH_take (i := 2) (v := .pointer (some ⟨b, 0, none⟩)) rfl (by kernel_rfl) (by kernel_rfl) (by kernel_rfl) (fun _ _ _ h => h) (.inl ⟨by rfl, fun wx _ => by go_simp⟩) hS ?_
  simp only [Act.put]
  refine wpAnyH_take (i := 3) (v := .pointer (some ⟨b, 4, none⟩)) rfl (by kernel_rfl) (by kernel_rfl) (by kernel_rfl) (fun _ _ _ h => h) (.inl ⟨by rfl, fun wx _ => by go_simp⟩) hS ?_
  simp only [Act.put]
  refine wpAnyH_take (i := 4) (v := .iface bT bx) rfl (by kernel_rfl) (by kernel_rfl) (by kernel_rfl) (fun _ _ _ h => h) (.inl ⟨by rfl, fun wx hX => by obtain ⟨x0, x1⟩ := hX; go_simp⟩) hS ?_
  simp only [Act.put]
  refine wpAnyH_take (i := 5) (v := .slice pa np pc) rfl (by kernel_rfl) (by kernel_rfl) (by kernel_rfl) (fun _ _ _ h => h) (.inl ⟨by rfl, fun wx _ => by go_simp⟩) hS ?_
  simp only [Act.put]
  refine wpAnyH_take (i := 6) (v := .int .i64 (nq : Int)) rfl (by kernel_rfl) (by kernel_rfl) (by kernel_rfl) (fun _ _ _ h => h) (.inl ⟨by rfl, fun wx _ => by go_simp⟩) hS ?_
  simp only [Act.put]
  refine wpAnyH_take (i := 7) (v := (.slice a' (np - nq) (pc - nq))) rfl (by kernel_rfl) (by kernel_rfl) (by kernel_rfl) (fun _ _ _ h => h) (.inl ⟨by rfl, fun wx _ => by have x1 := s1 wx; go_simp⟩) hS ?_
  simp only [Act.put]
  refine wpAnyH_take (i := 8) (v := .slice va nv vc) rfl (by kernel_rfl) (by kernel_rfl) (by kernel_rfl) (fun _ _ _ h => h) (.inl ⟨by rfl, fun wx _ => by go_simp⟩) hS ?_
  simp only [Act.put]
  clear hS
  refine wpAnyH_ready (rs := [9]) (by kernel_rfl) (by simp) ?_
  refine AllReadyH.cons rfl (fun K hK => ?_) AllReadyH.nil
  go_simp
  go_at_call 56
  refine (PT.out _ F1.out.drew).mono ?_
  rintro e w2 ⟨(⟨hfx, rfl⟩ | ⟨hfx, r, rfl, hN⟩), f2⟩
  · have F2 := hid (F1.out.drew.trans f2)
    clear f2 PT LD
    go_simp
    have hS2 := SK.out _ F2.out
    refine hK.out _ _ hS2 (fun _ => ?_)
    clear hK K
    refine wpAnyH_take (i := 10) (v := .tuple #[.nilIface, .int .i64 (-1)]) rfl (by kernel_rfl) (by kernel_rfl) (by kernel_rfl) (fun _ _ _ h => h) (.inl ⟨by rfl, fun wx _ => by go_simp⟩) hS2 ?_
    simp only [Act.put, List.getElem_toArray, List.getElem_cons_succ, List.getElem_cons_zero, List.setIfInBounds_toArray, List.set_cons_succ, List.set_cons_zero]
    refine wpAnyH_take (i := 11) (v := .nilIface) rfl (by kernel_rfl) (by kernel_rfl) (by kernel_rfl) (fun _ _ _ h => h) (.inl ⟨by rfl, fun wx _ => by go_simp⟩) hS2 ?_
    simp only [Act.put, List.getElem_toArray, List.getElem_cons_succ, List.getElem_cons_zero, List.setIfInBounds_toArray, List.set_cons_succ, List.set_cons_zero]
    refine wpAnyH_take (i := 12) (v := .int .i64 (-1)) rfl (by kernel_rfl) (by kernel_rfl) (by kernel_rfl) (fun _ _ _ h => h) (.inl ⟨by rfl, fun wx _ => by go_simp⟩) hS2 ?_
    simp only [Act.put, List.getElem_toArray, List.getElem_cons_succ, List.getElem_cons_zero, List.setIfInBounds_toArray, List.set_cons_succ, List.set_cons_zero]
    refine wpAnyH_take (i := 13) (v := .nilIface) rfl (by kernel_rfl) (by kernel_rfl) (by kernel_rfl) (fun _ _ _ h => h) (.inl ⟨by rfl, fun wx _ => by go_simp⟩) hS2 ?_
    simp only [Act.put, List.getElem_toArray, List.getElem_cons_succ, List.getElem_cons_zero, List.setIfInBounds_toArray, List.set_cons_succ, List.set_cons_zero]
    refine wpAnyH_take (i := 14) (v := .int .i64 (-1)) rfl (by kernel_rfl) (by kernel_rfl) (by kernel_rfl) (fun _ _ _ h => h) (.inl ⟨by rfl, fun wx _ => by go_simp⟩) hS2 ?_
    simp only [Act.put, List.getElem_toArray, List.getElem_cons_succ, List.getElem_cons_zero, List.setIfInBounds_toArray, List.set_cons_succ, List.set_cons_zero]
    refine wpAnyH_done (by kernel_rfl) ?_ _
    clear hS2
    go_wp2
    go_ret2
    exact ⟨.inl ⟨by rw [HFN.out]; exact hfx, rfl⟩, F2.out⟩
  · have F2 := hid (F1.out.drew.trans f2)
    have LD2 := hid (fun w3 f3 => LD.out _ _ w3 r F1.out.drew f2 f3 hN)
    clear hN PT LD f2
    go_simp
    have hS2 := SK.out _ F2.out
    refine hK.out _ _ hS2 (fun _ => ?_)
    clear hK K
    refine wpAnyH_take (i := 10) (v := .tuple #[r, .int .i64 0]) rfl (by kernel_rfl) (by kernel_rfl) (by kernel_rfl) (fun _ _ _ h => h) (.inl ⟨by rfl, fun wx _ => by go_simp⟩) hS2 ?_
    simp only [Act.put, List.getElem_toArray, List.getElem_cons_succ, List.getElem_cons_zero, List.setIfInBounds_toArray, List.set_cons_succ, List.set_cons_zero]
    refine wpAnyH_take (i := 11) (v := r) rfl (by kernel_rfl) (by kernel_rfl) (by kernel_rfl) (fun _ _ _ h => h) (.inl ⟨by rfl, fun wx _ => by go_simp⟩) hS2 ?_
    simp only [Act.put, List.getElem_toArray, List.getElem_cons_succ, List.getElem_cons_zero, List.setIfInBounds_toArray, List.set_cons_succ, List.set_cons_zero]
    refine wpAnyH_take (i := 12) (v := .int .i64 0) rfl (by kernel_rfl) (by kernel_rfl) (by kernel_rfl) (fun _ _ _ h => h) (.inl ⟨by rfl, fun wx _ => by go_simp⟩) hS2 ?_
    simp only [Act.put, List.getElem_toArray, List.getElem_cons_succ, List.getElem_cons_zero, List.setIfInBounds_toArray, List.set_cons_succ, List.set_cons_zero]
    refine wpAnyH_take (i := 13) (v := r) rfl (by kernel_rfl) (by kernel_rfl) (by kernel_rfl) (fun _ _ _ h => h) (.inl ⟨by rfl, fun wx _ => by go_simp⟩) hS2 ?_
    simp only [Act.put, List.getElem_toArray, List.getElem_cons_succ, List.getElem_cons_zero, List.setIfInBounds_toArray, List.set_cons_succ, List.set_cons_zero]
    refine wpAnyH_take (i := 14) (v := .int .i64 0) rfl (by kernel_rfl) (by kernel_rfl) (by kernel_rfl) (fun _ _ _ h => h) (.inl ⟨by rfl, fun wx _ => by go_simp⟩) hS2 ?_
    simp only [Act.put, List.getElem_toArray, List.getElem_cons_succ, List.getElem_cons_zero, List.setIfInBounds_toArray, List.set_cons_succ, List.set_cons_zero]
    refine wpAnyH_done (by kernel_rfl) ?_ _
    obtain ⟨c3, c4⟩ := hS2
    go_wp2_with (go_at_call 80; refine (LD2.out _ (Fr.refl _ _)).mono ?_; rintro e w4 ⟨r4, rfl, N4, f4⟩; have HN := hid N4; have F4 := hid f4; clear N4 f4)
    go_ret2
    refine ⟨.inr ⟨by rw [HFN.out]; exact hfx, r4, rfl, ?_⟩, F2.out.trans F4.out⟩
    rw [HPN.out]
    refine HN.out.sub fun k hk => ?_
    have z1 := F1.out.drew.size
    have z2 := F2.out.size
    have z4 := F4.out.size
    rcases hk with (hk | hk) | hk
    · exact .inl hk
    · exact .inr ⟨by omega, by omega⟩
    · exact .inr ⟨by omega, hk.2⟩
end Go.Proofs.YtmpfnglcmaollaaDoor
namespace Go.Proofs.YtmpfnglcmaollaaDoor
open Go.ChangeShapes Go.WideShapes Go.ChangeAt Go.RowKit

theorem NdV.iface {S : Nat → Prop} {w : World} {n : Nd} {v : Value} (h : NdV S w n v) (hn : n ≠ .nil) : ∃ T x, v = .iface T x := by
  cases n with
  | nil => exact absurd rfl hn
  | far x => exact ⟨_, _, h.2.2⟩
  | leaf p x => obtain ⟨_, _, _, _, _, _, e, _⟩ := h; exact ⟨_, _, e⟩
  | stem p t => obtain ⟨_, _, _, _, _, _, e, _⟩ := h; exact ⟨_, _, e⟩
  | fork c x => obtain ⟨_, _, _, _, _, _, e, _⟩ := h; exact ⟨_, _, e⟩
theorem leadN_ne (p : List Nat) (c : Nat → Nd) (x : List Nat) : leadN p (.fork c x) ≠ .nil := by
  by_cases h : p = []
  · subst h; intro e; cases e
  · rw [leadN_fork h]; intro e; cases e
set_option maxRecDepth 20000 in
set_option maxHeartbeats 6400000 in
theorem putStemOut_c (w : World) {S : Nat → Prop} (HT : Tabs w) (hi : InS S w) {b : Nat} {tv pv vv : Value} {q p v : List Nat} {t : Nd} {d : Nat} (hn : NdV S w (.stem q t) (.iface 121 (.pointer (some ⟨b, 0, none⟩)))) (hd : d ≤ 128) (hok : okN d (.stem q t)) (hp : Un S w (fun w' => Rd w' pv (bv p))) (hb : Nb p) (hl : p.length ≤ d) (hv : Un S w (fun w' => Rd w' vv (bv v))) (hvb : By v) (hv1 : 1 ≤ v.length) (hvl : v.length ≤ 1024) (hin : cpN q p ≠ q.length) :
    Calls Tryd.prog 75 #[tv, .pointer (some ⟨b, 0, none⟩), pv, vv] w (PutR S w (.stem q t) p v) := by
  obtain ⟨pa, pc, e1⟩ := RdS.slice hp
  obtain ⟨va, vc, e2⟩ := RdS.slice hv
  subst e1 e2
  have h1 := hn
  obtain ⟨b', _, _, _, qv, bl, e, hbS, h1, h2, h3, h4⟩ := h1
  simp only [Value.iface.injEq, true_and, Value.pointer.injEq, Option.some.injEq, Addr.mk.injEq, and_true] at e
  subst e
  obtain ⟨qa, qc, e3⟩ := RdS.slice h2
  subst e3
  obtain ⟨g1, g2, g3, g4, g5⟩ := hok
  obtain ⟨c, x, rfl⟩ : ∃ c x, t = .fork c x := by
    cases t with
    | fork c x => exact ⟨c, x, rfl⟩
    | nil => exact g4.elim
    | far _ => exact g4.elim
    | leaf _ _ => exact g4.elim
    | stem _ _ => exact g4.elim
  obtain ⟨bT, bx, rfl⟩ : ∃ T x, bl = .iface T x := by
    obtain ⟨b', _, _, _, _, _, e, _⟩ := h3
    exact ⟨_, _, e⟩
  have c3 := blk_cell h1 3
  have c4 := blk_cell h1 4
  simp at c3 c4
  have hcp := cpN_le q p
  have hsq : cpN q p < q.length := by omega
  have SH := hid (shared_c w h2.now hp.now (by omega))
  have HFN : Hid (findN (.stem q (.fork c x)) p ≠ v) := hid (by
    rw [show findN (.stem q (.fork c x)) p = [] from if_neg hin]
    intro e; rw [← e] at hv1; simp at hv1)
  have PN : putN (.stem q (.fork c x)) p v = growN (updN noN (q.getD (cpN q p) 0) (leadN (q.drop (cpN q p + 1)) (.fork c x))) [] p (cpN q p) v := if_neg hin
  unfold PutR
  rw [PN]
  clear PN
  obtain ⟨s, hsd⟩ : ∃ s, s = cpN q p := ⟨_, rfl⟩
  rw [← hsd] at SH hcp hsq ⊢
  clear hsd
  have hsb : s ≤ 1000 := by omega
  obtain ⟨i, hi0⟩ : ∃ i, i = q.getD s 0 := ⟨_, rfl⟩
  rw [← hi0]
  have hqs : q[s]? = some i := by rw [hi0, List.getD_eq_getElem?_getD, List.getElem?_eq_getElem hsq]; rfl
  have hi16 : i < 16 := g1 i (List.mem_of_getElem? hqs)
  clear hi0
  have h2d : okN (d - (s + 1)) (leadN (q.drop (s + 1)) (.fork c x)) := leadN_ok (g1.drop _) (by rw [List.length_drop]; omega) (by rw [List.length_drop]; exact g5.mono (by omega))
  have HPRE := hid (grow_pre (c := updN noN i (leadN (q.drop (s + 1)) (.fork c x))) (x := []) (s := s) (d := 128) (v := v) (by omega) (updN_ok (noN_ok _) (h2d.mono (by omega))) (fun x hx => by cases hx) (by simp) hb (by omega) hvb hv1 hvl)
  have hGS : ∀ w1, Fr [] w w1 → ¬ S w1.heap.size := fun w1 f h => by have := hi _ h; have := f.size; omega
  obtain ⟨a', s1, hr⟩ := cutU (l := s + 1) h2 rfl hsq
  have CQ : Hid (∀ w', Agr S w w' → ∃ qb qo, qa = some ⟨qb, qo, none⟩ ∧ w'.cell? ⟨qb, qo + s, none⟩ = some (.int .u8 (i : Int))) := hid fun w' ha => by
    rcases (h2 w' ha).split with ⟨h0, _⟩ | ⟨qb, qo, c2, e, _, _, hcc⟩
    · rw [h0] at hqs; simp at hqs
    · simp only [Value.slice.injEq] at e
      exact ⟨qb, qo, e.1, hcc s i hqs⟩
  have FACT : Hid (∀ w1, Fr [] w w1 → Calls Tryd.prog 80 #[.slice a' (q.length - (s + 1)) (qc - (s + 1)), .iface bT bx] (w1.alloc (.cells #[.bool false, .slice none 0 0, .slice none 0 0, .nilIface, .nilIface, .nilIface, .nilIface, .nilIface, .nilIface, .nilIface, .nilIface, .nilIface, .nilIface, .nilIface, .nilIface, .nilIface, .nilIface, .nilIface, .nilIface, .slice none 0 0] 129)).drew fun e w2 => ∃ T y, e = .returned (.tuple #[.iface T y, .int .i64 0]) ∧ Fr [] (w1.alloc (.cells #[.bool false, .slice none 0 0, .slice none 0 0, .nilIface, .nilIface, .nilIface, .nilIface, .nilIface, .nilIface, .nilIface, .nilIface, .nilIface, .nilIface, .nilIface, .nilIface, .nilIface, .nilIface, .nilIface, .nilIface, .slice none 0 0] 129)).drew w2 ∧ w2.heap[w1.heap.size]? = some (.cells #[.bool false, .slice none 0 0, .slice none 0 0, .nilIface, .nilIface, .nilIface, .nilIface, .nilIface, .nilIface, .nilIface, .nilIface, .nilIface, .nilIface, .nilIface, .nilIface, .nilIface, .nilIface, .nilIface, .nilIface, .slice none 0 0] 129 (0, 0)) ∧ Calls Tryd.prog 95 #[.pointer (some ⟨w1.heap.size, 0, none⟩), .slice pa p.length pc, .int .i64 (s : Int), .slice va v.length vc] (w2.setCell ⟨w1.heap.size, 3 + i, none⟩ (.iface T y)) fun e w3 => ∃ r, e = .returned (.tuple #[r, .int .i64 0]) ∧ NdV (Up S w w3) w3 (growN (updN noN i (leadN (q.drop (s + 1)) (.fork c x))) [] p s v) r ∧ Fr [w1.heap.size] w2 w3) := hid fun w1 f => by
    obtain ⟨W, hW⟩ : ∃ W, W = w1.alloc (.cells #[.bool false, .slice none 0 0, .slice none 0 0, .nilIface, .nilIface, .nilIface, .nilIface, .nilIface, .nilIface, .nilIface, .nilIface, .nilIface, .nilIface, .nilIface, .nilIface, .nilIface, .nilIface, .nilIface, .nilIface, .slice none 0 0] 129) := ⟨_, rfl⟩
    rw [← hW]
    have F : Fr [] w W := by rw [hW]; exact f.alloc _
    have Y : W.drew.heap[w1.heap.size]? = some (.cells #[.bool false, .slice none 0 0, .slice none 0 0, .nilIface, .nilIface, .nilIface, .nilIface, .nilIface, .nilIface, .nilIface, .nilIface, .nilIface, .nilIface, .nilIface, .nilIface, .nilIface, .nilIface, .nilIface, .nilIface, .slice none 0 0] 129 (0, 0)) := by rw [blk_drew, hW]; exact blk_new _ _
    have aD := hi.agr F.drew
    have hG := hGS w1 f
    have hT3 := HT.lt
    have hsz := f.size
    refine (lead_c W.drew (HT.fr F.drew) (hi.fr F.drew) (hr.step aD) (g1.drop _) (by rw [List.length_drop]; omega) (h3.step aD) (by rw [List.length_drop]; exact g5.mono (by omega))).mono ?_
    rintro e w2 ⟨r, rfl, N, f2⟩
    obtain ⟨T, y, rfl⟩ := N.iface (leadN_ne _ _ _)
    have Y2 := blk_frT Y f2
    have hGW := (Array.getElem?_eq_some_iff.1 Y).1
    have f3 : Fr [w1.heap.size] W.drew (w2.setCell ⟨w1.heap.size, 3 + i, none⟩ (.iface T y)) := (f2.mono (by simp)).set _ _ (.inl (by simp))
    have f23 : Fr [w1.heap.size] w2 (w2.setCell ⟨w1.heap.size, 3 + i, none⟩ (.iface T y)) := (Fr.refl _ _).set _ _ (.inl (by simp))
    have hG2 : ¬ Up S W.drew w2 w1.heap.size := fun h => by
      rcases h with h | h
      · exact hG h
      · omega
    have hI2 : InS (Up S W.drew w2) w2 := (hi.fr F.drew).up f2
    have zs : (w2.setCell ⟨w1.heap.size, 3 + i, none⟩ (.iface T y)).heap.size = w2.heap.size := by simp [World.setCell]
    refine ⟨T, y, rfl, f2, Y2, ?_⟩
    refine (growF_c _ (S := Up S W.drew w2) (V := updV (fun _ => .nilIface) i (.iface T y)) (v0 := .slice none 0 0) ((HT.fr F.drew).fr1 f3 (by simp; omega)) (fun k hk => by rw [zs]; exact hI2 k hk) hG2 (by omega) (fk_put (V := fun _ => .nilIface) Y2 hi16) (c := updN noN i (leadN (q.drop (s + 1)) (.fork c x))) (x := []) (fun j hj => ?_) (fun _ _ => .inl ⟨rfl, rfl⟩) (((hp.step aD).up (hi.fr F.drew) f2).step (hI2.agrG hG2 f23)) hb (by omega) hcp.2 (((hv.step aD).up (hi.fr F.drew) f2).step (hI2.agrG hG2 f23)) hvb hv1 hvl HPRE.out).mono ?_
    · show NdV _ _ (if j = i then _ else _) (if j = i then _ else _)
      split
      · exact N.step (hI2.agrG hG2 f23)
      · exact rfl
    · rintro e w3 ⟨r3, rfl, N3, f4⟩
      refine ⟨r3, rfl, N3.sub fun k hk => ?_, f23.trans f4⟩
      have z1 := F.drew.size
      have z2 := f2.size
      have z3 := f4.size
      rw [zs] at z3
      rcases hk with (hk | hk) | hk
      · exact .inl hk
      · exact .inr ⟨by omega, by omega⟩
      · exact .inr ⟨by have := hk.1; rw [zs] at this; omega, hk.2⟩
  obtain ⟨qb, qo, rfl, _⟩ := CQ.out w (Agr.refl S w)
  obtain ⟨nq, hnq⟩ : ∃ n, n = q.length := ⟨_, rfl⟩
  obtain ⟨np, hnp⟩ : ∃ n, n = p.length := ⟨_, rfl⟩
  obtain ⟨nv, hnv⟩ : ∃ n, n = v.length := ⟨_, rfl⟩
  rw [← hnq] at c3 SH s1 FACT hsq
  rw [← hnp] at SH FACT
  rw [← hnv] at FACT
  rw [← hnp, ← hnv]
  have SK : Hid (∀ w', Fr [] w w' → w'.cell? ⟨b, 3, none⟩ = some (.slice (some ⟨qb, qo, none⟩) nq qc) ∧ w'.cell? ⟨b, 4, none⟩ = some (.iface bT bx) ∧ w'.cell? ⟨qb, qo + s, none⟩ = some (.int .u8 (i : Int))) := hid fun w' f => ⟨cell_fr c3 f, cell_fr c4 f, by
    obtain ⟨qb', qo', e, h⟩ := CQ.out w' (hi.agr f)
    cases e
    exact h⟩
  have s1 : ∀ W', (Instr.sliceAt 33 (.slice (some ⟨qb, qo, none⟩) nq qc) (some (.int .i64 ((s : Int) + 1))) none none).run Tryd.prog W' = .ok (.slice a' (nq - (s + 1)) (qc - (s + 1))) W' := fun W' => s1 W'
  have hzs : ((s : Int) == (nq : Int)) = false := beq_eq_false_iff_ne.2 (by omega)
  clear hp hv h1 h2 h3 h4 hnq hnp hnv HT hi hl hv1 hvl hr hbS hn g5 g4 h2d hcp hin hGS CQ
  go_enter Tryd.func75, Tryd.ntmps75
  go_upto_region 2 with (go_at_call 93; refine SH.out.mono ?_; rintro e w1 ⟨rfl, f1⟩; have F1 := hid f1; clear f1 SH c3 c4; obtain ⟨c3, c4, _⟩ := SK.out _ F1.out)
  go_upto_region 7 with fail
  clear c3 c4
  have FC := hid (FACT.out w1 F1.out)
  obtain ⟨W, hW⟩ : ∃ W, W = w1.alloc (.cells #[.bool false, .slice none 0 0, .slice none 0 0, .nilIface, .nilIface, .nilIface, .nilIface, .nilIface, .nilIface, .nilIface, .nilIface, .nilIface, .nilIface, .nilIface, .nilIface, .nilIface, .nilIface, .nilIface, .nilIface, .slice none 0 0] 129) := ⟨_, rfl⟩
  rw [← hW] at FC
  have F : Hid (Fr [] w W) := hid (by rw [hW]; exact F1.out.alloc _)
  have SZ : Hid (w.heap.size ≤ w1.heap.size) := hid F1.out.size
  clear FACT
  go_upto_region 8 with fail
  rw [← hW]
  clear hW
  refine wp_region_held_drew (S := fun w' => w'.cell? ⟨b, 3, none⟩ = some (.slice (some ⟨qb, qo, none⟩) nq qc) ∧ w'.cell? ⟨b, 4, none⟩ = some (.iface bT bx) ∧ w'.cell? ⟨qb, qo + s, none⟩ = some (.int .u8 (i : Int))) (by kernel_rfl) (SK.out _ F.out.drew) (fun hS => ?_)
  refine wpAnyH_take (i := 0) (v := .pointer (some ⟨b, 0, none⟩)) rfl (by kernel_rfl) (by kernel_rfl) (by kernel_rfl) (fun _ _ _ h => h) (.inl ⟨by rfl, fun wx _ => by go_simp⟩) hS ?_
  simp only [Act.put]
  refine wpAnyH_take (i := 1) (v := .pointer (some ⟨b, 0, none⟩)) rfl (by kernel_rfl) (by kernel_rfl) (by kernel_rfl) (fun _ _ _ h => h) (.inl ⟨by rfl, fun wx _ => by go_simp⟩) hS ?_
  simp only [Act.put]
  refine wpAnyH_take (i := 2) (v := .pointer (some ⟨b, 3, none⟩)) rfl (by kernel_rfl) (by kernel_rfl) (by kernel_rfl) (fun _ _ _ h => h) (.inl ⟨by rfl, fun wx _ => by go_simp⟩) hS ?_
  simp only [Act.put]
  refine wpAnyH_take (i := 3) (v := .slice (some ⟨qb, qo, none⟩) nq qc) rfl (by kernel_rfl) (by kernel_rfl) (by kernel_rfl) (fun _ _ _ h => h) (.inl ⟨by rfl, fun wx hX => by obtain ⟨x0, x1, _⟩ := hX; go_simp⟩) hS ?_
  simp only [Act.put]
  refine wpAnyH_take (i := 4) (v := .int .i64 (s : Int)) rfl (by kernel_rfl) (by kernel_rfl) (by kernel_rfl) (fun _ _ _ h => h) (.inl ⟨by rfl, fun wx _ => by go_simp⟩) hS ?_
  simp only [Act.put]
  refine wpAnyH_take (i := 5) (v := .int .i64 ((s : Int) + 1)) rfl (by kernel_rfl) (by kernel_rfl) (by kernel_rfl) (fun _ _ _ h => h) (.inl ⟨by rfl, fun wx _ => by go_simp; simp (disch := omega) only [IntWalk.i64_in]⟩) hS ?_
  simp only [Act.put]
  refine wpAnyH_take (i := 6) (v := (.slice a' (nq - (s + 1)) (qc - (s + 1)))) rfl (by kernel_rfl) (by kernel_rfl) (by kernel_rfl) (fun _ _ _ h => h) (.inl ⟨by rfl, fun wx _ => by have x1 := s1 wx; go_simp⟩) hS ?_
  simp only [Act.put]
  refine wpAnyH_take (i := 7) (v := .pointer (some ⟨b, 0, none⟩)) rfl (by kernel_rfl) (by kernel_rfl) (by kernel_rfl) (fun _ _ _ h => h) (.inl ⟨by rfl, fun wx _ => by go_simp⟩) hS ?_
  simp only [Act.put]
  refine wpAnyH_take (i := 8) (v := .pointer (some ⟨b, 0, none⟩)) rfl (by kernel_rfl) (by kernel_rfl) (by kernel_rfl) (fun _ _ _ h => h) (.inl ⟨by rfl, fun wx _ => by go_simp⟩) hS ?_
  simp only [Act.put]
  refine wpAnyH_take (i := 9) (v := .pointer (some ⟨b, 4, none⟩)) rfl (by kernel_rfl) (by kernel_rfl) (by kernel_rfl) (fun _ _ _ h => h) (.inl ⟨by rfl, fun wx _ => by go_simp⟩) hS ?_
  simp only [Act.put]
  refine wpAnyH_take (i := 10) (v := .iface bT bx) rfl (by kernel_rfl) (by kernel_rfl) (by kernel_rfl) (fun _ _ _ h => h) (.inl ⟨by rfl, fun wx hX => by obtain ⟨x0, x1, _⟩ := hX; go_simp⟩) hS ?_
  simp only [Act.put, List.getElem_toArray, List.getElem_cons_succ, List.getElem_cons_zero, List.setIfInBounds_toArray, List.set_cons_succ, List.set_cons_zero]
  clear hS
  refine wpAnyH_ready (rs := [11]) (by kernel_rfl) (by simp) ?_
  refine AllReadyH.cons rfl (fun K hK => ?_) AllReadyH.nil
  go_simp
  go_at_call 80
  refine FC.out.mono ?_
  rintro e w2 ⟨T, y, rfl, f2, y2, g2⟩
  have F2 := hid (F.out.drew.trans f2)
  have GR := hid g2
  have Y2 := hid y2
  clear f2 g2 FC y2
  go_simp
  have hS2 := SK.out _ F2.out
  refine hK.out _ _ hS2 (fun _ => ?_)
  clear hK K
  refine wpAnyH_take (i := 12) (v := .tuple #[.iface T y, .int .i64 0]) rfl (by kernel_rfl) (by kernel_rfl) (by kernel_rfl) (fun _ _ _ h => h) (.inl ⟨by rfl, fun wx _ => by go_simp⟩) hS2 ?_
  simp only [Act.put, List.getElem_toArray, List.getElem_cons_succ, List.getElem_cons_zero, List.setIfInBounds_toArray, List.set_cons_succ, List.set_cons_zero]
  refine wpAnyH_take (i := 13) (v := .iface T y) rfl (by kernel_rfl) (by kernel_rfl) (by kernel_rfl) (fun _ _ _ h => h) (.inl ⟨by rfl, fun wx _ => by go_simp⟩) hS2 ?_
  simp only [Act.put, List.getElem_toArray, List.getElem_cons_succ, List.getElem_cons_zero, List.setIfInBounds_toArray, List.set_cons_succ, List.set_cons_zero]
  refine wpAnyH_take (i := 14) (v := .int .i64 0) rfl (by kernel_rfl) (by kernel_rfl) (by kernel_rfl) (fun _ _ _ h => h) (.inl ⟨by rfl, fun wx _ => by go_simp⟩) hS2 ?_
  simp only [Act.put, List.getElem_toArray, List.getElem_cons_succ, List.getElem_cons_zero, List.setIfInBounds_toArray, List.set_cons_succ, List.set_cons_zero]
  refine wpAnyH_take (i := 15) (v := .iface T y) rfl (by kernel_rfl) (by kernel_rfl) (by kernel_rfl) (fun _ _ _ h => h) (.inl ⟨by rfl, fun wx _ => by go_simp⟩) hS2 ?_
  simp only [Act.put, List.getElem_toArray, List.getElem_cons_succ, List.getElem_cons_zero, List.setIfInBounds_toArray, List.set_cons_succ, List.set_cons_zero]
  refine wpAnyH_take (i := 16) (v := .int .i64 0) rfl (by kernel_rfl) (by kernel_rfl) (by kernel_rfl) (fun _ _ _ h => h) (.inl ⟨by rfl, fun wx _ => by go_simp⟩) hS2 ?_
  simp only [Act.put, List.getElem_toArray, List.getElem_cons_succ, List.getElem_cons_zero, List.setIfInBounds_toArray, List.set_cons_succ, List.set_cons_zero]
  refine wpAnyH_done (by kernel_rfl) ?_ _
  obtain ⟨c3, c4, c5⟩ := hS2
  have k1 := fk_cell (V := fun _ => .nilIface) Y2.out hi16
  have k2 := blk_frozen Y2.out (3 + i)
  go_wp2_with (go_at_call 95; refine GR.out.mono ?_; rintro e w3 ⟨r, rfl, N3, f3⟩; have HN := hid N3; have F3 := hid (F2.out.overT f3 SZ.out); clear N3 f3)
  go_ret2
  exact ⟨.inr ⟨HFN.out, r, rfl, HN.out⟩, F3.out⟩
end Go.Proofs.YtmpfnglcmaollaaDoor
