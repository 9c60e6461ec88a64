/-
  copied; what Merge's loops keep.
-/
import Derived.Test.YthmlpjogbdpgiaaCN9
import Derived.Test.YthmlpjogbdpgiaaTB
import Derived.Test.YthmlpjogbdpgiaaJ04
namespace Go.Proofs.Ythmlpjogbdpgiaa
open Go.ChangeShapes Go.WideShapes Go.ChangeAt Go.RowKit

theorem ret_cK {fn : Func} {p : Tmp} {ty : TypeId} (h : fn.results = #[.cell p ty]) {tmps : Array Value} {w : World} {g : Nat} {cs : Array Value} (hp : tmps.getD p undef = .pointer (some ⟨g, 0, none⟩)) (hg : (loadVar ty ⟨g, 0, none⟩).run Try.prog w = .ok (.agg cs) w) :
    (results fn tmps).run Try.prog w = .ok (.agg cs) w := by
  have hp' : tmps[p]?.getD undef = .pointer (some ⟨g, 0, none⟩) := by simpa using hp
  simp [results, h, hp', asAddr, hg]
set_option maxRecDepth 20000 in
set_option maxHeartbeats 3200000 in
theorem copied_c (w : World) {ka va : Option Addr} {kc vc kl vl : Nat} {x : List Nat × List Nat} (rk : Rd w (.slice ka kl kc) (bv x.1)) (rv : Rd w (.slice va vl vc) (bv x.2)) (hkl : x.1.length = kl) (hvl : x.2.length = vl) (lk : kl ≤ 140737488355328) (lv : vl ≤ 140737488355328) :
    Calls Try.prog 30 #[.agg #[.slice ka kl kc, .slice va vl vc]] w fun e w' => ∃ ka' kc' va' vc', e = .returned (.agg #[.slice ka' kl kc', .slice va' vl vc']) ∧ w'.ownsRow w.heap.size 5 1 (.slice ka' kl kc') kl (bv x.1) ∧ w'.ownsRow w.heap.size 5 1 (.slice va' vl vc') vl (bv x.2) ∧ Fr [] w w' := by
  obtain ⟨W1, hW1⟩ : ∃ W1, W1 = (w.alloc (.cells #[.slice ka kl kc, .slice va vl vc] 50)).alloc (.cells #[.slice none 0 0, .slice none 0 0] 50) := ⟨_, rfl⟩
  have F1 : Fr [] w W1 := by rw [hW1]; exact ((Fr.refl _ _).alloc _).alloc _
  have b0 : W1.heap[w.heap.size]? = some (.cells #[.slice ka kl kc, .slice va vl vc] 50 (0, 0)) := by rw [hW1, blk_old _ _ (by simp)]; exact blk_new _ _
  have b1 : W1.heap[w.heap.size + 1]? = some (.cells #[.slice none 0 0, .slice none 0 0] 50 (0, 0)) := by rw [hW1]; exact new_at _ _ (by simp)
  have CK : Hid (∀ W, Fr [] w W → Calls Try.prog 33 #[.slice ka kl kc] W fun e w' => ∃ v', e = .returned v' ∧ w'.ownsRow W.heap.size 5 1 v' kl (bv x.1) ∧ Fr [] W w') := hid (fun W f => by have := clone_c (w := W) (rk.fr f) (by omega); rwa [hkl] at this)
  have CV : Hid (∀ W, Fr [] w W → Calls Try.prog 33 #[.slice va vl vc] W fun e w' => ∃ v', e = .returned v' ∧ w'.ownsRow W.heap.size 5 1 v' vl (bv x.2) ∧ Fr [] W w') := hid (fun W f => by have := clone_c (w := W) (rv.fr f) (by omega); rwa [hvl] at this)
  have SK : Hid (∀ w', Fr [] W1 w' → w'.cell? ⟨w.heap.size, 0, none⟩ = some (.slice ka kl kc) ∧ w'.cell? ⟨w.heap.size, 1, none⟩ = some (.slice va vl vc)) := hid (fun w' f => ⟨by rw [blk_cell (f.at b0 (by simp))]; rfl, by rw [blk_cell (f.at b0 (by simp))]; rfl⟩)
  have B1 := hid b1
  have FW := hid F1
  clear rk rv F1 b0 b1
  go_enter Try.func30, Try.ntmps30
  go_upto_region 1 with fail
  rw [← hW1]
  clear hW1
  refine wp_region_held_drew (S := fun w' => w'.cell? ⟨w.heap.size, 0, none⟩ = some (.slice ka kl kc) ∧ w'.cell? ⟨w.heap.size, 1, none⟩ = some (.slice va vl vc)) (by kernel_rfl) (SK.out _ (Fr.refl _ _).drew) (fun hS => ?_)
  refine wpAnyH_take (i := 0) (v := .pointer (some ⟨w.heap.size, 0, none⟩)) rfl (by kernel_rfl) (by kernel_rfl) (by kernel_rfl) (fun _ _ _ h => h) (.inl ⟨by rfl, fun wx _ => by go_simp⟩) hS ?_
  simp only [Act.put, List.getElem_toArray, List.getElem_cons_zero, List.set_cons_succ, List.set_cons_zero, List.setIfInBounds_toArray]
  refine wpAnyH_take (i := 1) (v := .slice ka kl kc) rfl (by kernel_rfl) (by kernel_rfl) (by kernel_rfl) (fun _ _ _ h => h) (.inl ⟨by rfl, fun wx hX => by obtain ⟨x0, x1⟩ := hX; go_simp⟩) hS ?_
  simp only [Act.put, List.getElem_toArray, List.getElem_cons_succ, List.getElem_cons_zero, List.set_cons_succ, List.set_cons_zero, List.setIfInBounds_toArray]
  refine wpAnyH_take (i := 3) (v := .pointer (some ⟨w.heap.size, 1, none⟩)) rfl (by kernel_rfl) (by kernel_rfl) (by kernel_rfl) (fun _ _ _ h => h) (.inl ⟨by rfl, fun wx _ => by go_simp⟩) hS ?_
  simp only [Act.put, List.getElem_toArray, List.getElem_cons_succ, List.getElem_cons_zero, List.set_cons_succ, List.set_cons_zero, List.setIfInBounds_toArray]
  refine wpAnyH_take (i := 4) (v := .slice va vl vc) rfl (by kernel_rfl) (by kernel_rfl) (by kernel_rfl) (fun _ _ _ h => h) (.inl ⟨by rfl, fun wx hX => by obtain ⟨x0, x1⟩ := hX; go_simp⟩) hS ?_
  simp only [Act.put, List.getElem_toArray, List.getElem_cons_succ, List.getElem_cons_zero, List.set_cons_succ, List.set_cons_zero, List.setIfInBounds_toArray]
  clear hS
  refine wpAnyH_ready (rs := [2]) (by kernel_rfl) (by simp) ?_
  refine AllReadyH.cons rfl (fun K hK => ?_) AllReadyH.nil
  go_simp
  have fd := hid ((Fr.refl [] W1).drew)
  refine (CK.out _ (FW.out.trans fd.out)).mono ?_
  rintro e w2 ⟨v2, rfl, o2, f2⟩
  obtain ⟨ka2, kc2, rfl, _⟩ := ownsRow_slice o2
  have F2 := hid (fd.out.trans f2)
  have O2 := hid (own_baseC o2 (B' := w.heap.size) (FW.out.trans fd.out).size)
  refine hK.out _ _ (SK.out w2 F2.out) (fun hS => ?_)
  clear hK K f2 o2
  refine wpAnyH_ready (rs := [5]) (by kernel_rfl) (by simp) ?_
  refine AllReadyH.cons rfl (fun K hK => ?_) AllReadyH.nil
  go_simp
  refine (CV.out _ (FW.out.trans F2.out)).mono ?_
  rintro e w3 ⟨v3, rfl, o3, f3⟩
  obtain ⟨va3, vc3, rfl, _⟩ := ownsRow_slice o3
  have F3 := hid (F2.out.trans f3)
  have O3 := hid (own_baseC o3 (B' := w.heap.size) (FW.out.trans F2.out).size)
  have O23 := hid (ownsRow_fr O2.out f3)
  refine hK.out _ _ (SK.out w3 F3.out) (fun hS => ?_)
  clear hK K f3 o3
  refine wpAnyH_take (i := 6) (v := .agg #[.slice ka2 kl kc2, .slice va3 vl vc3]) rfl (by kernel_rfl) (by kernel_rfl) (by kernel_rfl) (fun _ _ _ h => h) (.inl ⟨by rfl, fun wx _ => by go_simp⟩) hS ?_
  simp only [Act.put, List.getElem_toArray, List.getElem_cons_succ, List.getElem_cons_zero, List.set_cons_succ, List.set_cons_zero, List.setIfInBounds_toArray]
  clear hS
  have B3 := hid (F3.out.at B1.out (by simp))
  have z0 := blk_frozen B3.out 0
  have z1 := blk_frozen B3.out 1
  have y0 : w3.cell? ⟨w.heap.size + 1, 0, none⟩ = some (.slice none 0 0) := by rw [blk_cell B3.out]; rfl
  have y1 : w3.cell? ⟨w.heap.size + 1, 1, none⟩ = some (.slice none 0 0) := by rw [blk_cell B3.out]; rfl
  have FS : Hid (Fr [] w ((w3.setCell ⟨w.heap.size + 1, 0, none⟩ (.slice ka2 kl kc2)).setCell ⟨w.heap.size + 1, 1, none⟩ (.slice va3 vl vc3))) := hid (((FW.out.trans F3.out).set _ _ (.inr (by simp))).set _ _ (.inr (by simp)))
  have BS : Hid (∀ k, k ≠ w.heap.size + 1 → ((w3.setCell ⟨w.heap.size + 1, 0, none⟩ (.slice ka2 kl kc2)).setCell ⟨w.heap.size + 1, 1, none⟩ (.slice va3 vl vc3)).heap[k]? = w3.heap[k]?) := hid (fun k hk => by rw [blk_setne _ _ _ hk, blk_setne _ _ _ hk])
  have SK2 : Hid (((w3.setCell ⟨w.heap.size + 1, 0, none⟩ (.slice ka2 kl kc2)).setCell ⟨w.heap.size + 1, 1, none⟩ (.slice va3 vl vc3)).cell? ⟨w.heap.size, 0, none⟩ = some (.slice ka kl kc) ∧ ((w3.setCell ⟨w.heap.size + 1, 0, none⟩ (.slice ka2 kl kc2)).setCell ⟨w.heap.size + 1, 1, none⟩ (.slice va3 vl vc3)).cell? ⟨w.heap.size, 1, none⟩ = some (.slice va vl vc)) := hid (by
    obtain ⟨h0, h1⟩ := SK.out w3 F3.out
    exact ⟨by rw [World.cell?_of_block (w := w3) (BS.out _ (show w.heap.size ≠ w.heap.size + 1 by omega))]; exact h0, by rw [World.cell?_of_block (w := w3) (BS.out _ (show w.heap.size ≠ w.heap.size + 1 by omega))]; exact h1⟩)
  refine wpAnyH_ready (rs := [7]) (by kernel_rfl) (by simp) ?_
  refine AllReadyH.cons rfl (fun K hK => ?_) AllReadyH.nil
  go_simp
  refine hK.out _ _ SK2.out (fun hS => ?_)
  clear hK K z0 z1 y0 y1
  refine wpAnyH_done (by kernel_rfl) ?_ _
  go_wp2
  refine bodyPost_ret (ret_cK rfl rfl (load_kv (two_set B3.out))) rfl ?_
  refine ⟨ka2, kc2, va3, vc3, rfl, ?_, ?_, FS.out⟩
  · exact ownsRow_of_block O23.out fun k hk => BS.out k (fun e => own_not O23.out B3.out (by decide) (by rw [← e]; exact hk))
  · exact ownsRow_of_block O3.out fun k hk => BS.out k (fun e => own_not O3.out B3.out (by decide) (by rw [← e]; exact hk))
/-- The last key taken. -/
def lst (T : Ps) : List Nat := if T.length = 0 then [] else kA T (T.length - 1)
theorem lst_app (T : Ps) (x : List Nat × List Nat) : lst (T ++ [x]) = x.1 := by
  unfold lst
  rw [if_neg (by simp), show (T ++ [x]).length - 1 = T.length from by simp, kA_last]
theorem lst_get {T : Ps} {x : List Nat × List Nat} (h : x.1 = lst T) (hx : x.1 ≠ []) : ∃ t, T.getLast? = some t ∧ ordK t.1 x.1 = 0 := by
  rcases List.eq_nil_or_concat T with e | ⟨T', z, e⟩
  · rw [e] at h; exact absurd h hx
  · rw [List.concat_eq_append] at e
    subst e
    rw [lst_app] at h
    exact ⟨z, by simp, by rw [h]; have := ordK_neg z.1 z.1; omega⟩
theorem lst_ne {T : Ps} {x : List Nat × List Nat} (h : x.1 ≠ lst T) (bT : ByP T) (kT : ∀ t ∈ T, isK t.1 = true) (bx : By x.1) (kx : isK x.1 = true) : ∀ t, T.getLast? = some t → ordK t.1 x.1 ≠ 0 := fun t ht e => by
  rcases List.eq_nil_or_concat T with e2 | ⟨T', z, e2⟩
  · rw [e2] at ht; cases ht
  · rw [List.concat_eq_append] at e2
    subst e2
    simp at ht
    subst ht
    rw [lst_app] at h
    exact h (ordK_eq (bT z (by simp)).1 bx (isK_len (kT z (by simp))).1 (isK_len kx).1 e).symm
theorem kept_sp {old : Nat} {L sp S : Ps} (h : ∀ u, inSp L u = inSp sp u) : ∀ i, kept old L S i = kept old sp S i
  | 0 => rfl
  | i + 1 => by
    have e : stay old L S i = stay old sp S i := by unfold stay; rw [h]
    rw [kept, kept, kept_sp h i, e]
theorem ColO.keepL {W W' : World} {B : Nat} {v : Value} {ps : Ps} {S : List Nat} (h : ColO W B v ps) (f : Fr S W W') (hS : ∀ k ∈ S, k < B) : ColO W' B v ps := by
  have key : ∀ {e : TypeId} {s n : Nat} {u : Value} {xs : List Value}, W.ownsRow B e s u n xs → W'.ownsRow B e s u n xs := fun o => own_keepF o f (fun k hk hm => by have := hS k hm; have := (o.lt k hk).1; omega)
  obtain ⟨cs, o, h2⟩ := h
  refine ⟨cs, key o, fun j p hj => ?_⟩
  obtain ⟨kv, vv, c0, c1, r0, r1, b0⟩ := h2 j p hj
  exact ⟨kv, vv, c0, c1, key r0, key r1, b0⟩
theorem ColO.lower {W : World} {B B' : Nat} {v : Value} {ps : Ps} (h : ColO W B v ps) (hb : B' ≤ B) : ColO W B' v ps := by
  obtain ⟨cs, o, h2⟩ := h
  refine ⟨cs, own_baseC o hb, fun j p hj => ?_⟩
  obtain ⟨kv, vv, c0, c1, r0, r1, b0⟩ := h2 j p hj
  exact ⟨kv, vv, c0, c1, own_baseC r0 hb, own_baseC r1 hb, b0⟩
theorem RW.keepF {w0 W W' : World} {P : Nat} {a : Option Addr} {c : Nat} {vs : List Value} {hs : List Ps} {S : List Nat} (h : RW w0 W P a c vs hs) (f : Fr S W W') (hS : ∀ x ∈ S, w0.heap.size ≤ x ∧ x ≠ P ∧ ∀ k, (Value.slice a hs.length c).ownBlock = some k → x ≠ k) : RW w0 W' P a c vs hs :=
  ⟨f.at h.hp (fun m => (hS P m).2.1 rfl), own_keepF h.own f (fun k hk m => (hS k m).2.2 k hk rfl), h.el, h.bp, h.fr.wide f (fun x hx => (hS x hx).1)⟩
end Go.Proofs.Ythmlpjogbdpgiaa
