/-
  A key put where a stem stands.
-/
import Derived.Test.YtdcocgjlfhicaaaDoorTrW
namespace Go.Proofs.YtdcocgjlfhicaaaDoor
open Go.ChangeShapes Go.WideShapes Go.ChangeAt Go.RowKit

/-- What put tells: nothing has changed, or the node that it becomes. -/
def PutR (S : Nat → Prop) (w : World) (n : Nd) (p x : List Nat) (e : Ending) (w' : World) : Prop :=
  ((findN n p = x ∧ e = .returned (.tuple #[.nilIface, .int .i64 (-1)])) ∨ (findN n p ≠ x ∧ ∃ r, e = .returned (.tuple #[r, .int .i64 0]) ∧ NdV (Up S w w') w' (putN n p x) r)) ∧ Fr [] w w'
/-- put does what is asked, wherever this node stands. -/
def PutOk (n : Nd) : Prop := ∀ (w : World) (S : Nat → Prop) (tv v pv vv : Value) (p x : List Nat) (d : Nat), Tabs w → InS S w → NdV S w n v → d ≤ 128 → okN d n → Un S w (fun w' => Rd w' pv (bv p)) → Nb p → p.length ≤ d → Un S w (fun w' => Rd w' vv (bv x)) → By x → 1 ≤ x.length → x.length ≤ 1024 →
  Calls Tryd.prog 46 #[tv, v, pv, vv] w (PutR S w n p x)
set_option maxRecDepth 20000 in
set_option maxHeartbeats 3200000 in
theorem putStemIn_c (w : World) {S : Nat → Prop} (HT : Tabs w) (hi : InS S w) {b : Nat} {tv pv vv : Value} {q p v : List Nat} {t : Nd} {d : Nat} (hn : NdV S w (.stem q t) (.iface 129 (.pointer (some ⟨b, 0, none⟩)))) (hd : d ≤ 128) (hok : okN d (.stem q t)) (hp : Un S w (fun w' => Rd w' pv (bv p))) (hb : Nb p) (hl : p.length ≤ d) (hv : Un S w (fun w' => Rd w' vv (bv v))) (hvb : By v) (hv1 : 1 ≤ v.length) (hvl : v.length ≤ 1024) (ih : PutOk t) (hin : cpN q p = q.length) :
    Calls Tryd.prog 71 #[tv, .pointer (some ⟨b, 0, none⟩), pv, vv] w (PutR S w (.stem q t) p v) := by
  obtain ⟨pa, pc, e1⟩ := RdS.slice hp
  obtain ⟨va, vc, e2⟩ := RdS.slice hv
  subst e1 e2
  have h1 := hn
  obtain ⟨b', _, _, _, qv, bl, e, hbS, h1, h2, h3, h4⟩ := h1
  simp only [Value.iface.injEq, true_and, Value.pointer.injEq, Option.some.injEq, Addr.mk.injEq, and_true] at e
  subst e
  obtain ⟨qa, qc, e3⟩ := RdS.slice h2
  subst e3
  obtain ⟨g1, g2, g3, g4, g5⟩ := hok
  obtain ⟨c, x, rfl⟩ : ∃ c x, t = .fork c x := by
    cases t with
    | fork c x => exact ⟨c, x, rfl⟩
    | nil => exact g4.elim
    | far _ => exact g4.elim
    | leaf _ _ => exact g4.elim
    | stem _ _ => exact g4.elim
  obtain ⟨bT, bx, rfl⟩ : ∃ T x, bl = .iface T x := by
    obtain ⟨b', _, _, _, _, _, e, _⟩ := h3
    exact ⟨_, _, e⟩
  have c3 := blk_cell h1 3
  have c4 := blk_cell h1 4
  simp at c3 c4
  have hcp := cpN_le q p
  rw [hin] at hcp
  have SH := hid (shared_c w h2.now hp.now (by omega))
  rw [hin] at SH
  have FN : findN (.stem q (.fork c x)) p = findN (.fork c x) (p.drop q.length) := by
    show (if cpN q p = q.length then findN (.fork c x) (p.drop (cpN q p)) else []) = _
    rw [if_pos hin, hin]
  have PN : putN (.stem q (.fork c x)) p v = leadN q (putN (.fork c x) (p.drop q.length) v) := by
    show (if cpN q p = q.length then leadN q (putN (.fork c x) (p.drop (cpN q p)) v) else _) = _
    rw [if_pos hin, hin]
  obtain ⟨a', s1, hr⟩ := cutU hp rfl hcp.2
  have PT := hid (fun (w1 : World) (f : Fr [] w w1) => ih w1 S tv (.iface bT bx) _ _ (p.drop q.length) v (d - q.length) (HT.fr f) (hi.fr f) (h3.step (hi.agr f)) (by omega) g5 (hr.step (hi.agr f)) (hb.drop _) (by rw [List.length_drop]; omega) (hv.step (hi.agr f)) hvb hv1 hvl)
  have HOK := hid (putN_ok g5 (hb.drop q.length) (by rw [List.length_drop]; omega) hvb hv1 hvl)
  have LD := hid (fun (w1 w2 w3 : World) (r : Value) (f1 : Fr [] w w1) (f2 : Fr [] w1 w2) (f3 : Fr [] w2 w3) (N : NdV (Up S w1 w2) w2 (putN (.fork c x) (p.drop q.length) v) r) =>
    lead_c w3 (S := Up S w1 w2) (HT.fr ((f1.trans f2).trans f3)) (((hi.fr f1).up f2).fr f3) (((h2.step (hi.agr f1)).up (hi.fr f1) f2).step (((hi.fr f1).up f2).agr f3)) g1 (by omega) (N.step (((hi.fr f1).up f2).agr f3)) (HOK.out.mono (by omega)))
  obtain ⟨nq, hnq⟩ : ∃ n, n = q.length := ⟨_, rfl⟩
  obtain ⟨np, hnp⟩ : ∃ n, n = p.length := ⟨_, rfl⟩
  obtain ⟨nv, hnv⟩ : ∃ n, n = v.length := ⟨_, rfl⟩
  have HFN := hid FN
  have HPN := hid PN
  rw [← hnq] at c3 SH s1 PT LD HFN HPN hcp
  rw [← hnp] at SH s1 PT hcp
  rw [← hnv] at PT
  rw [← hnp, ← hnv]
  have SK : Hid (∀ w', Fr [] w w' → w'.cell? ⟨b, 3, none⟩ = some (.slice qa nq qc) ∧ w'.cell? ⟨b, 4, none⟩ = some (.iface bT bx)) := hid fun w' f => ⟨cell_fr c3 f, cell_fr c4 f⟩
  clear hp hv h1 h2 h3 h4 hnq hnp hnv HT hi hl hv1 hvl hr hbS HOK FN PN hin ih hn g5 g4
  go_enter Tryd.func71, Tryd.ntmps71
  go_upto_region 2 with (go_at_call 90; refine SH.out.mono ?_; rintro e w1 ⟨rfl, f1⟩; have F1 := hid f1; clear f1 SH c3 c4; obtain ⟨c3, c4⟩ := SK.out _ F1.out)
  go_upto_region 3 with fail
  clear c3 c4
  refine wp_region_held_drew (S := fun w' => w'.cell? ⟨b, 3, none⟩ = some (.slice qa nq qc) ∧ w'.cell? ⟨b, 4, none⟩ = some (.iface bT bx)) (by kernel_rfl) (SK.out _ F1.out.drew) (fun hS => ?_)
  refine wpAnyH_take (i := 0) (v := tv) rfl (by kernel_rfl) (by kernel_rfl) (by kernel_rfl) (fun _ _ _ h => h) (.inl ⟨by rfl, fun wx _ => by go_simp⟩) hS ?_
  simp only [Act.put]
  refine wpAnyH_take (i := 1) (v := .pointer (some ⟨b, 0, none⟩)) rfl (by kernel_rfl) (by kernel_rfl) (by kernel_rfl) (fun _ _ _ h => h) (.inl ⟨by rfl, fun wx _ => by go_simp⟩) hS ?_
  simp only [Act.put]
  refine wpAnyH_take (i := 2) (v := .pointer (some ⟨b, 0, none⟩)) rfl (by kernel_rfl) (by kernel_rfl) (by kernel_rfl) (fun _ _ _ h => h) (.inl ⟨by rfl, fun wx _ => by go_simp⟩) hS ?_
  simp only [Act.put]
  refine wpAnyH_take (i := 3) (v := .pointer (some ⟨b, 4, none⟩)) rfl (by kernel_rfl) (by kernel_rfl) (by kernel_rfl) (fun _ _ _ h => h) (.inl ⟨by rfl, fun wx _ => by go_simp⟩) hS ?_
  simp only [Act.put]
  refine wpAnyH_take (i := 4) (v := .iface bT bx) rfl (by kernel_rfl) (by kernel_rfl) (by kernel_rfl) (fun _ _ _ h => h) (.inl ⟨by rfl, fun wx hX => by obtain ⟨x0, x1⟩ := hX; go_simp⟩) hS ?_
  simp only [Act.put]
  refine wpAnyH_take (i := 5) (v := .slice pa np pc) rfl (by kernel_rfl) (by kernel_rfl) (by kernel_rfl) (fun _ _ _ h => h) (.inl ⟨by rfl, fun wx _ => by go_simp⟩) hS ?_
  simp only [Act.put]
  refine wpAnyH_take (i := 6) (v := .int .i64 (nq : Int)) rfl (by kernel_rfl) (by kernel_rfl) (by kernel_rfl) (fun _ _ _ h => h) (.inl ⟨by rfl, fun wx _ => by go_simp⟩) hS ?_
  simp only [Act.put]
  refine wpAnyH_take (i := 7) (v := (.slice a' (np - nq) (pc - nq))) rfl (by kernel_rfl) (by kernel_rfl) (by kernel_rfl) (fun _ _ _ h => h) (.inl ⟨by rfl, fun wx _ => by have x1 := s1 wx; go_simp⟩) hS ?_
  simp only [Act.put]
  refine wpAnyH_take (i := 8) (v := .slice va nv vc) rfl (by kernel_rfl) (by kernel_rfl) (by kernel_rfl) (fun _ _ _ h => h) (.inl ⟨by rfl, fun wx _ => by go_simp⟩) hS ?_
  simp only [Act.put]
  clear hS
  refine wpAnyH_ready (rs := [9]) (by kernel_rfl) (by simp) ?_
  refine AllReadyH.cons rfl (fun K hK => ?_) AllReadyH.nil
  go_simp
  go_at_call 46
  refine (PT.out _ F1.out.drew).mono ?_
  rintro e w2 ⟨(⟨hfx, rfl⟩ | ⟨hfx, r, rfl, hN⟩), f2⟩
  · have F2 := hid (F1.out.drew.trans f2)
    clear f2 PT LD
    go_simp
    have hS2 := SK.out _ F2.out
    refine hK.out _ _ hS2 (fun _ => ?_)
    clear hK K
    refine wpAnyH_take (i := 10) (v := .tuple #[.nilIface, .int .i64 (-1)]) rfl (by kernel_rfl) (by kernel_rfl) (by kernel_rfl) (fun _ _ _ h => h) (.inl ⟨by rfl, fun wx _ => by go_simp⟩) hS2 ?_
    simp only [Act.put, List.getElem_toArray, List.getElem_cons_succ, List.getElem_cons_zero, List.setIfInBounds_toArray, List.set_cons_succ, List.set_cons_zero]
    refine wpAnyH_take (i := 11) (v := .nilIface) rfl (by kernel_rfl) (by kernel_rfl) (by kernel_rfl) (fun _ _ _ h => h) (.inl ⟨by rfl, fun wx _ => by go_simp⟩) hS2 ?_
    simp only [Act.put, List.getElem_toArray, List.getElem_cons_succ, List.getElem_cons_zero, List.setIfInBounds_toArray, List.set_cons_succ, List.set_cons_zero]
    refine wpAnyH_take (i := 12) (v := .int .i64 (-1)) rfl (by kernel_rfl) (by kernel_rfl) (by kernel_rfl) (fun _ _ _ h => h) (.inl ⟨by rfl, fun wx _ => by go_simp⟩) hS2 ?_
    simp only [Act.put, List.getElem_toArray, List.getElem_cons_succ, List.getElem_cons_zero, List.setIfInBounds_toArray, List.set_cons_succ, List.set_cons_zero]
    refine wpAnyH_take (i := 13) (v := .nilIface) rfl (by kernel_rfl) (by kernel_rfl) (by kernel_rfl) (fun _ _ _ h => h) (.inl ⟨by rfl, fun wx _ => by go_simp⟩) hS2 ?_
    simp only [Act.put, List.getElem_toArray, List.getElem_cons_succ, List.getElem_cons_zero, List.setIfInBounds_toArray, List.set_cons_succ, List.set_cons_zero]
    refine wpAnyH_take (i := 14) (v := .int .i64 (-1)) rfl (by kernel_rfl) (by kernel_rfl) (by kernel_rfl) (fun _ _ _ h => h) (.inl ⟨by rfl, fun wx _ => by go_simp⟩) hS2 ?_
    simp only [Act.put, List.getElem_toArray, List.getElem_cons_succ, List.getElem_cons_zero, List.setIfInBounds_toArray, List.set_cons_succ, List.set_cons_zero]
    refine wpAnyH_done (by kernel_rfl) ?_ _
    clear hS2
    go_wp2
    go_ret2
    exact ⟨.inl ⟨by rw [HFN.out]; exact hfx, rfl⟩, F2.out⟩
  · have F2 := hid (F1.out.drew.trans f2)
    have LD2 := hid (fun w3 f3 => LD.out _ _ w3 r F1.out.drew f2 f3 hN)
    clear hN PT LD f2
    go_simp
    have hS2 := SK.out _ F2.out
    refine hK.out _ _ hS2 (fun _ => ?_)
    clear hK K
    refine wpAnyH_take (i := 10) (v := .tuple #[r, .int .i64 0]) rfl (by kernel_rfl) (by kernel_rfl) (by kernel_rfl) (fun _ _ _ h => h) (.inl ⟨by rfl, fun wx _ => by go_simp⟩) hS2 ?_
    simp only [Act.put, List.getElem_toArray, List.getElem_cons_succ, List.getElem_cons_zero, List.setIfInBounds_toArray, List.set_cons_succ, List.set_cons_zero]
    refine wpAnyH_take (i := 11) (v := r) rfl (by kernel_rfl) (by kernel_rfl) (by kernel_rfl) (fun _ _ _ h => h) (.inl ⟨by rfl, fun wx _ => by go_simp⟩) hS2 ?_
    simp only [Act.put, List.getElem_toArray, List.getElem_cons_succ, List.getElem_cons_zero, List.setIfInBounds_toArray, List.set_cons_succ, List.set_cons_zero]
    refine wpAnyH_take (i := 12) (v := .int .i64 0) rfl (by kernel_rfl) (by kernel_rfl) (by kernel_rfl) (fun _ _ _ h => h) (.inl ⟨by rfl, fun wx _ => by go_simp⟩) hS2 ?_
    simp only [Act.put, List.getElem_toArray, List.getElem_cons_succ, List.getElem_cons_zero, List.setIfInBounds_toArray, List.set_cons_succ, List.set_cons_zero]
    refine wpAnyH_take (i := 13) (v := r) rfl (by kernel_rfl) (by kernel_rfl) (by kernel_rfl) (fun _ _ _ h => h) (.inl ⟨by rfl, fun wx _ => by go_simp⟩) hS2 ?_
    simp only [Act.put, List.getElem_toArray, List.getElem_cons_succ, List.getElem_cons_zero, List.setIfInBounds_toArray, List.set_cons_succ, List.set_cons_zero]
    refine wpAnyH_take (i := 14) (v := .int .i64 0) rfl (by kernel_rfl) (by kernel_rfl) (by kernel_rfl) (fun _ _ _ h => h) (.inl ⟨by rfl, fun wx _ => by go_simp⟩) hS2 ?_
    simp only [Act.put, List.getElem_toArray, List.getElem_cons_succ, List.getElem_cons_zero, List.setIfInBounds_toArray, List.set_cons_succ, List.set_cons_zero]
    refine wpAnyH_done (by kernel_rfl) ?_ _
    obtain ⟨c3, c4⟩ := hS2
    go_wp2_with (go_at_call 78; refine (LD2.out _ (Fr.refl _ _)).mono ?_; rintro e w4 ⟨r4, rfl, N4, f4⟩; have HN := hid N4; have F4 := hid f4; clear N4 f4)
    go_ret2
    refine ⟨.inr ⟨by rw [HFN.out]; exact hfx, r4, rfl, ?_⟩, F2.out.trans F4.out⟩
    rw [HPN.out]
    refine HN.out.sub fun k hk => ?_
    have z1 := F1.out.drew.size
    have z2 := F2.out.size
    have z4 := F4.out.size
    rcases hk with (hk | hk) | hk
    · exact .inl hk
    · exact .inr ⟨by omega, by omega⟩
    · exact .inr ⟨by omega, hk.2⟩
end Go.Proofs.YtdcocgjlfhicaaaDoor
