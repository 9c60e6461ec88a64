/-
  A fork grows by one key.
-/
import Derived.Test.YtdcocgjlfhicaaaDoorTrT
import Derived.Test.YtdcocgjlfhicaaaDoorJ08
namespace Go.Proofs.YtdcocgjlfhicaaaDoor
open Go.ChangeShapes Go.WideShapes Go.ChangeAt Go.RowKit

set_option maxRecDepth 20000 in
set_option maxHeartbeats 3200000 in
theorem growF_c (w : World) {S : Nat → Prop} (HT : Tabs w) (hi : InS S w) {G : Nat} (hG : ¬ S G) (h3G : 3 ≤ G) {V : Nat → Value} {z0 z1 z2 pv vv v0 : Value} {T : TypeId} (hB : w.heap[G]? = some (.cells #[z0, z1, z2, V 0, V 1, V 2, V 3, V 4, V 5, V 6, V 7, V 8, V 9, V 10, V 11, V 12, V 13, V 14, V 15, v0] T (0, 0))) {c : Nat → Nd} {x p v : List Nat} {s : Nat} (hc : ∀ i, i < 16 → NdV S w (c i) (V i)) (hv0 : Un S w (fun w' => Rd w' v0 (bv x))) (hp : Un S w (fun w' => Rd w' pv (bv p))) (hb : Nb p) (hl : p.length ≤ 128) (hs : s ≤ p.length) (hv : Un S w (fun w' => Rd w' vv (bv v))) (hvb : By v) (hv1 : 1 ≤ v.length) (hvl : v.length ≤ 1024) (hok : okN (128 - s) (.fork (addC c (p.drop s) v) (addV x (p.drop s) v))) :
    Calls Tryd.prog 92 #[.pointer (some ⟨G, 0, none⟩), pv, .int .i64 (s : Int), vv] w fun e w' => ∃ r, e = .returned (.tuple #[r, .int .i64 0]) ∧ NdV (Up S w w') w' (growN c x p s v) r ∧ Fr [G] w w' := by
  obtain ⟨pa, pc, e1⟩ := RdS.slice hp
  subst e1
  obtain ⟨np, hnp⟩ : ∃ np, np = p.length := ⟨_, rfl⟩
  rw [← hnp] at hp hl hs ⊢
  obtain ⟨a', s1, hr⟩ := cutU hp hnp.symm hs
  obtain ⟨s2, hd⟩ := headU hp hnp.symm hs
  have AD := hid (add_c w HT hi hG hB hc hv0 hr (hb.drop s) (by rw [List.length_drop]; omega) hv hvb hv1 hvl)
  have GW : Hid (G < w.heap.size) := hid (Array.getElem?_eq_some_iff.1 hB).1
  have HTH := hid HT
  have HI := hid hi
  have HG := hid hG
  have HD := hid hd
  have HTL : Hid ((p.take s).length = s) := hid (by rw [List.length_take]; omega)
  have HNB := hid (hb.take s)
  have HOK := hid hok
  have h128 : s ≤ 128 := by omega
  clear HT hi hG hB hc hv0 hp hr hb hl hv hvb hv1 hvl hok hd hnp hs
  go_enter Tryd.func92, Tryd.ntmps92
  go_upto_region 2 with (go_at_call 91; refine AD.out.mono ?_; rintro e w1 ⟨rfl, V', v', B1, N1, U1, f1⟩; have HB1 := hid B1; have HN1 := hid N1; have HU1 := hid U1; have F1 := hid f1; clear B1 N1 U1 f1 AD)
  obtain ⟨va, vc, e2⟩ := RdS.slice HU1.out
  subst e2
  obtain ⟨nv, hnv⟩ : ∃ nv, nv = (addV x (p.drop s) v).length := ⟨_, rfl⟩
  rw [← hnv] at HB1 HU1
  clear hnv
  have HI1 := hid (HI.out.upS F1.out.size)
  have HT1 : Hid (Tabs w1) := hid (HTH.out.fr1 F1.out (by simpa using h3G))
  have FD : Hid (Fr [] w1 w1.drew) := hid (Fr.refl _ _).drew
  have MF := hid (makeFork_c w1.drew (HT1.out.fr FD.out) (HI1.out.fr FD.out) (fun i h => (HN1.out i h).step (HI1.out.agr FD.out)) (fun i h y e => by have := HOK.out.2.1 i h; rw [e] at this; exact this) (HU1.out.step (HI1.out.agr FD.out)) HOK.out.2.2.1 HOK.out.2.2.2)
  go_upto_region 4 with fail
  refine wp_region_held_drew (S := fun w' => w'.heap[G]? = some (.cells #[z0, z1, z2, V' 0, V' 1, V' 2, V' 3, V' 4, V' 5, V' 6, V' 7, V' 8, V' 9, V' 10, V' 11, V' 12, V' 13, V' 14, V' 15, .slice va nv vc] T (0, 0))) (by kernel_rfl) (by rw [blk_drew]; exact HB1.out) (fun hS => ?_)
  refine wpAnyH_take (i := 0) (v := .pointer (some ⟨G, 0, none⟩)) rfl (by kernel_rfl) (by kernel_rfl) (by kernel_rfl) (fun _ _ _ h => h) (.inl ⟨by rfl, fun wx _ => by go_simp⟩) hS ?_
  simp only [Act.put]
  refine wpAnyH_take (i := 1) (v := .pointer (some ⟨G, 0, none⟩)) rfl (by kernel_rfl) (by kernel_rfl) (by kernel_rfl) (fun _ _ _ h => h) (.inl ⟨by rfl, fun wx _ => by go_simp⟩) hS ?_
  simp only [Act.put]
  refine wpAnyH_take (i := 2) (v := .pointer (some ⟨G, 3, none⟩)) rfl (by kernel_rfl) (by kernel_rfl) (by kernel_rfl) (fun _ _ _ h => h) (.inl ⟨by rfl, fun wx _ => by go_simp⟩) hS ?_
  simp only [Act.put]
  refine wpAnyH_take (i := 3) (v := .agg #[V' 0, V' 1, V' 2, V' 3, V' 4, V' 5, V' 6, V' 7, V' 8, V' 9, V' 10, V' 11, V' 12, V' 13, V' 14, V' 15]) rfl (by kernel_rfl) (by kernel_rfl) (by kernel_rfl) (fun _ _ _ h => h) (.inl ⟨by rfl, fun wx hX => by obtain ⟨⟨x3, x4, x5, x6, x7, x8, x9, x10, x11, x12, x13, x14, x15, x16, x17, x18⟩, x19⟩ := cellsV hX; go_simp⟩) hS ?_
  simp only [Act.put]
  refine wpAnyH_take (i := 4) (v := .pointer (some ⟨G, 0, none⟩)) rfl (by kernel_rfl) (by kernel_rfl) (by kernel_rfl) (fun _ _ _ h => h) (.inl ⟨by rfl, fun wx _ => by go_simp⟩) hS ?_
  simp only [Act.put]
  refine wpAnyH_take (i := 5) (v := .pointer (some ⟨G, 0, none⟩)) rfl (by kernel_rfl) (by kernel_rfl) (by kernel_rfl) (fun _ _ _ h => h) (.inl ⟨by rfl, fun wx _ => by go_simp⟩) hS ?_
  simp only [Act.put]
  refine wpAnyH_take (i := 6) (v := .pointer (some ⟨G, 19, none⟩)) rfl (by kernel_rfl) (by kernel_rfl) (by kernel_rfl) (fun _ _ _ h => h) (.inl ⟨by rfl, fun wx _ => by go_simp⟩) hS ?_
  simp only [Act.put]
  refine wpAnyH_take (i := 7) (v := .slice va nv vc) rfl (by kernel_rfl) (by kernel_rfl) (by kernel_rfl) (fun _ _ _ h => h) (.inl ⟨by rfl, fun wx hX => by obtain ⟨⟨x3, x4, x5, x6, x7, x8, x9, x10, x11, x12, x13, x14, x15, x16, x17, x18⟩, x19⟩ := cellsV hX; go_simp⟩) hS ?_
  simp only [Act.put]
  have hSS := hid hS
  clear hS
  refine wpAnyH_ready (rs := [8]) (by kernel_rfl) (by simp) ?_
  refine AllReadyH.cons rfl (fun K hK => ?_) AllReadyH.nil
  go_simp
  go_at_call 93
  refine MF.out.mono ?_
  rintro e w2 ⟨r2, rfl, hN, f2⟩
  have HN2 := hid hN
  have F2 := hid f2
  have hS2 : w2.heap[G]? = some (.cells #[z0, z1, z2, V' 0, V' 1, V' 2, V' 3, V' 4, V' 5, V' 6, V' 7, V' 8, V' 9, V' 10, V' 11, V' 12, V' 13, V' 14, V' 15, .slice va nv vc] T (0, 0)) := blk_frT hSS.out f2
  clear hN f2 MF
  go_simp
  refine hK.out _ _ hS2 (fun _ => ?_)
  clear hK K
  refine wpAnyH_take (i := 9) (v := .tuple #[r2, .int .i64 0]) rfl (by kernel_rfl) (by kernel_rfl) (by kernel_rfl) (fun _ _ _ h => h) (.inl ⟨by rfl, fun wx _ => by go_simp⟩) hS2 ?_
  simp only [Act.put, List.getElem_toArray, List.getElem_cons_succ, List.getElem_cons_zero, List.setIfInBounds_toArray, List.set_cons_succ, List.set_cons_zero]
  refine wpAnyH_take (i := 10) (v := r2) rfl (by kernel_rfl) (by kernel_rfl) (by kernel_rfl) (fun _ _ _ h => h) (.inl ⟨by rfl, fun wx _ => by go_simp⟩) hS2 ?_
  simp only [Act.put, List.getElem_toArray, List.getElem_cons_succ, List.getElem_cons_zero, List.setIfInBounds_toArray, List.set_cons_succ, List.set_cons_zero]
  refine wpAnyH_take (i := 11) (v := .int .i64 0) rfl (by kernel_rfl) (by kernel_rfl) (by kernel_rfl) (fun _ _ _ h => h) (.inl ⟨by rfl, fun wx _ => by go_simp⟩) hS2 ?_
  simp only [Act.put, List.getElem_toArray, List.getElem_cons_succ, List.getElem_cons_zero, List.setIfInBounds_toArray, List.set_cons_succ, List.set_cons_zero]
  refine wpAnyH_take (i := 12) (v := r2) rfl (by kernel_rfl) (by kernel_rfl) (by kernel_rfl) (fun _ _ _ h => h) (.inl ⟨by rfl, fun wx _ => by go_simp⟩) hS2 ?_
  simp only [Act.put, List.getElem_toArray, List.getElem_cons_succ, List.getElem_cons_zero, List.setIfInBounds_toArray, List.set_cons_succ, List.set_cons_zero]
  refine wpAnyH_take (i := 13) (v := .int .i64 0) rfl (by kernel_rfl) (by kernel_rfl) (by kernel_rfl) (fun _ _ _ h => h) (.inl ⟨by rfl, fun wx _ => by go_simp⟩) hS2 ?_
  simp only [Act.put, List.getElem_toArray, List.getElem_cons_succ, List.getElem_cons_zero, List.setIfInBounds_toArray, List.set_cons_succ, List.set_cons_zero]
  refine wpAnyH_done (by kernel_rfl) ?_ _
  have hSS2 := hid hS2
  clear hS2
  have F12 := hid (FD.out.trans F2.out)
  have FG2 := hid (F1.out.trans (F12.out.mono (S' := [G]) (by simp)))
  have HI2 := hid ((HI1.out.fr FD.out).upS F2.out.size)
  have LD := hid (lead_c w2 (HT1.out.fr F12.out) HI2.out (n := .fork (addC c (p.drop s) v) (addV x (p.drop s) v)) (v := r2) (((HD.out.upG HI.out HG.out FG2.out).sub (T := Up (Up S w w1) w1.drew w2) fun k hk => by
    rcases hk with hk | hk
    · exact .inl (.inl hk)
    · rcases Nat.lt_or_ge k w1.heap.size with h | h
      · exact .inl (.inr ⟨hk.1, h⟩)
      · exact .inr ⟨by simpa using h, hk.2⟩)) HNB.out (by rw [HTL.out]; exact h128) HN2.out (by rw [HTL.out]; exact HOK.out))
  go_upto_region 7 with fail
  go_wp2_with (go_at_call 78; refine LD.out.mono ?_; rintro e w3 ⟨r3, rfl, hN3, f3⟩; have HN3 := hid hN3; have F3 := hid f3; clear hN3 f3)
  go_ret2
  refine ⟨r3, rfl, HN3.out.sub fun k hk => ?_, FG2.out.trans (F3.out.mono (by simp))⟩
  have z1 := F1.out.size
  have z2 := F12.out.size
  have z3 := F3.out.size
  rcases hk with ((hk | hk) | hk) | hk
  · exact .inl hk
  · exact .inr ⟨hk.1, by omega⟩
  · exact .inr ⟨by have := FD.out.size; omega, by omega⟩
  · exact .inr ⟨by omega, hk.2⟩
end Go.Proofs.YtdcocgjlfhicaaaDoor
namespace Go.Proofs.YtdcocgjlfhicaaaDoor
open Go.ChangeShapes Go.WideShapes Go.ChangeAt Go.RowKit

set_option maxHeartbeats 400000 in
theorem bytesEqual_c {w : World} {v1 v2 : Value} {a b : List Nat} (h1 : Rd w v1 (bv a)) (h2 : Rd w v2 (bv b)) (ha : By a) (hb : By b) :
    Calls Tryd.prog 76 #[v1, v2] w fun e w' => e = .returned (.bool (decide (a = b))) ∧ w' = w := by
  have e1 := run_conv h1
  have e2 := run_conv h2
  obtain ⟨a1, c1, rfl⟩ := h1.form
  obtain ⟨a2, c2, rfl⟩ := h2.form
  by_cases hab : a = b
  · subst hab
    have e3 := ba_beq (strOf a)
    rw [decide_eq_true rfl]
    clear h1 h2
    go_enter Tryd.func76, Tryd.ntmps76
    go_wp2
    go_ret
    exact ⟨rfl, rfl⟩
  · have e3 : ((strOf a).toList == (strOf b).toList) = false := beq_eq_false_iff_ne.2 fun h => hab (strOf_inj ha hb (by
      rw [ByteArray.toList_eq, ByteArray.toList_eq] at h
      exact ByteArray.ext (Array.toList_inj.1 h)))
    rw [decide_eq_false hab]
    clear h1 h2 hab
    go_enter Tryd.func76, Tryd.ntmps76
    go_wp2
    go_ret
    exact ⟨by simp, rfl⟩

theorem encB_by {n : Nat} {t : Tr n} (h : byT n t) : By (encB t) := by
  unfold encB
  split
  · exact enc_by n t h
  · intro u hu; simp at hu
theorem encE_le {n : Nat} (t : Tr n) : encE t ≤ 100 := by
  have := bad_le n 1 t
  unfold encE; split <;> (try split) <;> omega

end Go.Proofs.YtdcocgjlfhicaaaDoor
