/-
  What a trie of one leaf has of its own.
-/
import Derived.Test.YtmpfnglcmaollaaDoorJ28
import Derived.Test.YtmpfnglcmaollaaDoorJ33
namespace Go.Proofs.YtmpfnglcmaollaaDoor
open Go.ChangeShapes Go.WideShapes Go.ChangeAt Go.RowKit

/-- The hash of what refers to a node: what is asked for, and what is told. -/
theorem hashRef_c (w : World) {S : Nat → Prop} {n : Nd} {v : Value} (HT : Tabs w) (hi : InS S w) (hN : NdV S w n v) (hok : okN 128 n) (hn : n ≠ .nil) :
    ∃ T x l a1 n1 c1 a2 n2 c2, v = .iface T x ∧ (∀ w', Agr S w w' → Sem.run Tryd.prog (Go.method 297 T x "moraine/trie.reference") w' = .ok (137, .agg #[.bool l, .slice a1 n1 c1, .slice a2 n2 c2]) w') ∧
      ∀ w', Fr [] w w' → Calls Tryd.prog 47 #[.agg #[.bool l, .slice a1 n1 c1, .slice a2 n2 c2]] w' fun e w'' => e = .returned (.agg (bvals 32 (hashOf (encN n)))) ∧ Fr [] w' w'' := by
  obtain ⟨h1, z, hz⟩ := ref_enc hn hok.own
  obtain ⟨T, x, l, a1, n1, c1, a2, n2, c2, rfl, hm, d, hd9, _, hI⟩ := hN.meth hn hok.own
  refine ⟨T, x, l, a1, n1, c1, a2, n2, c2, rfl, hm, fun w' f => ?_⟩
  have hsl := slN_le n
  by_cases h : (encN n).length < 32
  · have hy : refE n = encN n := by rw [h1]; exact if_pos h
    rw [hy] at hI
    have hI2 := hI.now
    rw [hz] at hI2
    obtain ⟨b0, i0, e⟩ := hI2.list (by rw [← hz]; omega)
    simp only [Value.agg.injEq, Array.mk.injEq, List.cons.injEq, and_true, Value.bool.injEq] at e
    obtain ⟨rfl, rfl, rfl⟩ := e
    exact hashOfLst_c w' (HT.fr f) (fun w'' f' => hI w'' (hi.agr (f.trans f'))) (by rw [hy] at hd9; omega) (by omega)
  · have hy : refE n = strL (hshF (encN n)) := by rw [h1]; exact if_neg h
    rw [hy] at hI
    obtain ⟨a, k, i, e, _⟩ := hI.now.hash (hshF_len _)
    simp only [Value.agg.injEq, Array.mk.injEq, List.cons.injEq, and_true, Value.bool.injEq, Value.slice.injEq] at e
    obtain ⟨rfl, ⟨rfl, rfl, rfl⟩, rfl⟩ := e
    exact hashOfStr_c (a2 := a2) (n2 := n2) (c2 := c2) w' (a := a) (c := c1) (y := encN n) (by
      obtain ⟨a', k', i', e, h⟩ := (hI w' (hi.agr f)).hash (hshF_len _)
      simp only [Value.agg.injEq, Array.mk.injEq, List.cons.injEq, and_true, true_and, Value.slice.injEq, Option.some.injEq] at e
      obtain ⟨⟨rfl, rfl⟩, _⟩ := e
      exact h)
theorem asStem_l (w : World) (b : Nat) : (Instr.typeAssert (.iface 130 (.pointer (some ⟨b, 0, none⟩))) 84 121 true).run Tryd.prog w = .ok (.tuple #[.pointer none, .bool false]) w := by
  kernel_rfl
set_option maxRecDepth 20000 in
theorem partsLeaf_c (w : World) (b : Nat) :
    Calls Tryd.prog 45 #[.iface 130 (.pointer (some ⟨b, 0, none⟩))] w fun e w' => e = .returned (.slice none 0 0) ∧ Fr [] w w' := by
  have t1 := asStem_l w b
  have t2 := asFork_l w b
  go_enter Tryd.func45, Tryd.ntmps45
  go_wp2_with fail
  go_ret
  exact ⟨rfl, Fr.refl _ _⟩
theorem sb_neT (w : World) {m k : Nat} (o : Obj) (h : k ≠ m) : (ChangeMaps.setBlock w m o).heap[k]? = w.heap[k]? := by
  simp [ChangeMaps.setBlock, Ne.symm h]
theorem sb_frT {a b : World} {S : List Nat} (h : Fr S a b) {p : Nat} (o : Obj) (hp : p ∈ S ∨ a.heap.size ≤ p) : Fr S a (ChangeMaps.setBlock b p o) :=
  ⟨h.os, h.tape, h.output, by simpa [ChangeMaps.setBlock] using h.size, fun k hk hn => by
    rw [sb_neT _ _ (by rcases hp with hp | hp <;> intro e <;> subst e; exact hn hp; omega)]; exact h.block k hk hn⟩
theorem sb_self (w : World) {m : Nat} {o o' : Obj} (h : w.heap[m]? = some o') : (ChangeMaps.setBlock w m o).heap[m]? = some o := by
  have hm := (Array.getElem?_eq_some_iff.1 h).1
  simp [ChangeMaps.setBlock, hm]
set_option maxRecDepth 20000 in
set_option maxHeartbeats 6400000 in
theorem gatherLeaf_c (w : World) {S : Nat → Prop} {p x : List Nat} {v gp : Value} {Fd m : Nat} {T : TypeId} (HT : Tabs w) (hi : InS S w) (hN : NdV S w (.leaf p x) v) (hok : okN 128 (.leaf p x)) (hF : w.heap[Fd]? = some (.cells #[.map (some m)] T (0, 0))) (hm : w.heap[m]? = some (.map #[] 0)) (hFm : Fd ≠ m) :
    Calls Tryd.prog 66 #[v, .pointer (some ⟨Fd, 0, none⟩), gp] w fun e w' => (∃ u, e = .returned u) ∧ w'.heap[m]? = some (.map #[⟨.agg (bvals 32 (hashOf (encN (.leaf p x)))), v, 0⟩] 1) ∧ Fr [m] w w' := by
  obtain ⟨T0, x0, l, a1, n1, c1, a2, n2, c2, e0, hme, hho⟩ := hashRef_c w HT hi hN hok (fun e => by cases e)
  obtain ⟨b, r0, r1, r2, pv, vv, e1, _, _, _, _, _⟩ := hN
  rw [e1] at e0
  simp only [Value.iface.injEq] at e0
  obtain ⟨rfl, rfl⟩ := e0
  subst e1
  obtain ⟨G, hG⟩ : ∃ G, G = hashOf (encN (.leaf p x)) := ⟨_, rfl⟩
  rw [← hG] at hho ⊢
  clear hG
  have HM := hid (fun (w' : World) (f : Fr [] w w') => hme w' (hi.agr f))
  have HO := hid hho
  have SK := hid (fun (w' : World) (f : Fr [] w w') => (show w'.cell? ⟨Fd, 0, none⟩ = some (.map (some m)) ∧ w'.heap[m]? = some (.map #[] 0) from by
    have c := blk_cell (blk_frT hF f) 0
    simp at c
    exact ⟨c, blk_frT hm f⟩))
  have HFM := hid hFm
  clear hF hm hFm hme hho hok HT hi
  have ta := asFar_leaf w b
  go_enter Tryd.func66, Tryd.ntmps66
  go_upto_region 0 with fail
  apply wp_region_lit
  refine wpList_val (v := (.iface 130 (.pointer (some ⟨b, 0, none⟩)))) (w' := w) rfl (by go_simp) ?_
  refine wpList_val (v := .tuple #[.agg z32, .bool false]) (w' := w) rfl (by go_simp) ?_
  refine wpList_val (v := .tuple #[.agg z32, .bool false]) (w' := w) rfl (by go_simp) ?_
  refine wpList_val (v := .agg z32) (w' := w) rfl (by go_simp) ?_
  refine wpList_val (v := .bool false) (w' := w) rfl (by go_simp) ?_
  refine wpList_allocF rfl rfl ?_
  refine wpList_stF rfl (.tmp 4) (.tmp 11) rfl (blk_new _ _) (by simp [Act.eval, Act.put]) (by simp [Act.eval, Act.put]) ?_
  have F : Hid (Fr [] w ((w.alloc (.cells z32 101)).setRow w.heap.size z32)) := hid (((Fr.refl _ _).alloc _).rowT _ (.inr (Nat.le_refl _)))
  generalize (w.alloc (.cells z32 101)).setRow w.heap.size z32 = W at F ⊢
  refine wpList_val (v := .bool false) (w' := W) rfl (by go_simp) ?_
  simp only [wpList, Act.put]
  clear ta
  go_upto_region 2 with fail
  have FD : Hid (Fr [] w W.drew) := hid F.out.drew
  refine wp_region_held_drew (S := fun w' => w'.cell? ⟨Fd, 0, none⟩ = some (.map (some m))) (by kernel_rfl) (SK.out _ FD.out).1 (fun hS => ?_)
  refine wpAnyH_take (i := 0) (v := .map (some m)) rfl (by kernel_rfl) (by kernel_rfl) (by kernel_rfl) (fun _ _ _ h => h) (.inl ⟨by rfl, fun wx hX => by have x0 := hX; go_simp⟩) hS ?_
  simp only [Act.put, List.getElem_toArray, List.getElem_cons_zero, List.setIfInBounds_toArray, List.set_cons_succ, List.set_cons_zero]
  refine wpAnyH_take (i := 1) (v := .iface 130 (.pointer (some ⟨b, 0, none⟩))) rfl (by kernel_rfl) (by kernel_rfl) (by kernel_rfl) (fun _ _ _ h => h) (.inl ⟨by rfl, fun wx _ => by go_simp⟩) hS ?_
  simp only [Act.put, List.getElem_toArray, List.getElem_cons_succ, List.getElem_cons_zero, List.setIfInBounds_toArray, List.set_cons_succ, List.set_cons_zero]
  refine wpAnyH_take (i := 4) (v := .iface 130 (.pointer (some ⟨b, 0, none⟩))) rfl (by kernel_rfl) (by kernel_rfl) (by kernel_rfl) (fun _ _ _ h => h) (.inl ⟨by rfl, fun wx _ => by go_simp⟩) hS ?_
  simp only [Act.put, List.getElem_toArray, List.getElem_cons_succ, List.getElem_cons_zero, List.setIfInBounds_toArray, List.set_cons_succ, List.set_cons_zero]
  clear hS
  have mL := HM.out _ FD.out
  refine wpAnyH_ready (rs := [2]) (by kernel_rfl) (by simp) ?_
  refine AllReadyH.cons rfl (fun K hK => ?_) AllReadyH.nil
  go_simp
  refine (sealedRef_c _).mono ?_
  rintro e w2 ⟨rfl, f2⟩
  have F2 := hid (FD.out.trans f2)
  clear f2 mL
  go_simp
  refine hK.out _ _ (SK.out _ F2.out).1 (fun _ => ?_)
  clear hK K
  refine wpAnyH_ready (rs := [3]) (by kernel_rfl) (by simp) ?_
  refine AllReadyH.cons rfl (fun K hK => ?_) AllReadyH.nil
  go_simp
  go_at_call 47
  refine (HO.out _ F2.out).mono ?_
  rintro e w3 ⟨rfl, f3⟩
  have F3 := hid (F2.out.trans f3)
  clear f3
  go_simp
  refine hK.out _ _ (SK.out _ F3.out).1 (fun _ => ?_)
  clear hK K
  have hu := upd_one (SK.out _ F3.out).2 G (.iface 130 (.pointer (some ⟨b, 0, none⟩)))
  refine wpAnyH_ready (rs := [5]) (by kernel_rfl) (by simp) ?_
  refine AllReadyH.cons rfl (fun K hK => ?_) AllReadyH.nil
  go_simp
  have W3 := SK.out _ F3.out
  have FM : Hid (Fr [m] w (ChangeMaps.setBlock w3 m (.map #[⟨.agg (bvals 32 G), .iface 130 (.pointer (some ⟨b, 0, none⟩)), 0⟩] 1))) := hid (sb_frT (F3.out.mono (by simp)) _ (.inl (by simp)))
  have HX : Hid ((ChangeMaps.setBlock w3 m (.map #[⟨.agg (bvals 32 G), .iface 130 (.pointer (some ⟨b, 0, none⟩)), 0⟩] 1)).heap[m]? = some (.map #[⟨.agg (bvals 32 G), .iface 130 (.pointer (some ⟨b, 0, none⟩)), 0⟩] 1)) := hid (sb_self w3 W3.2)
  have HC : (ChangeMaps.setBlock w3 m (.map #[⟨.agg (bvals 32 G), .iface 130 (.pointer (some ⟨b, 0, none⟩)), 0⟩] 1)).cell? ⟨Fd, 0, none⟩ = some (.map (some m)) := by
    rw [World.cell?_of_block (w := w3) (sb_neT w3 _ HFM.out)]
    exact W3.1
  generalize ChangeMaps.setBlock w3 m (.map #[⟨.agg (bvals 32 G), .iface 130 (.pointer (some ⟨b, 0, none⟩)), 0⟩] 1) = w4 at FM HX HC ⊢
  refine hK.out _ _ HC (fun _ => ?_)
  clear hK K W3 HC hu
  refine wpAnyH_done (by kernel_rfl) ?_ _
  go_wp2_with (go_at_call 45; refine (partsLeaf_c _ b).mono ?_; rintro e w5 ⟨rfl, f5⟩; have HX5 := hid (blk_frT HX.out f5); have F5 := hid (FM.out.trans (f5.mono (show ∀ k ∈ ([] : List Nat), k ∈ [m] by simp))); clear f5)
  refine wp_loop_rounds 1 ?_
  rw [rounds_succ]
  go_wp2
  go_end0
  exact ⟨⟨_, rfl⟩, HX5.out, F5.out⟩
end Go.Proofs.YtmpfnglcmaollaaDoor
namespace Go.Proofs.YtmpfnglcmaollaaDoor
open Go.ChangeShapes Go.WideShapes Go.ChangeAt Go.RowKit

set_option maxRecDepth 20000 in
set_option maxHeartbeats 6400000 in
theorem ownLeaf_c (w : World) {S : Nat → Prop} {tb : Nat} {g : Value} {p x : List Nat} (HT : Tabs w) (ht : TrieI S w tb g (.leaf p x)) :
    Calls Tryd.prog 43 #[.pointer (some ⟨tb, 0, none⟩)] w fun e w' => ∃ m v, e = .returned (.map (some m)) ∧ w.heap.size ≤ m ∧ w'.heap[m]? = some (.map #[⟨.agg (bvals 32 (hashOf (encN (.leaf p x)))), v, 0⟩] 1) ∧ NdV S w (.leaf p x) v ∧ Fr [] w w' := by
  have hmm := @run_makeMap Tryd.prog
  obtain ⟨⟨rv, hB, hN⟩, hno, hi, hok⟩ := ht
  have hbt := (Array.getElem?_eq_some_iff.1 hB).1
  obtain ⟨m, hm⟩ : ∃ m, m = w.heap.size := ⟨_, rfl⟩
  obtain ⟨W, hW⟩ : ∃ W, W = ((w.alloc (.map #[] 0)).alloc (.cells #[.map (some m)] 80)).alloc (.cells #[.func (.func 66) #[] #[.pointer (some ⟨m + 1, 0, none⟩), .pointer (some ⟨m + 1 + 1, 0, none⟩)]] 100) := ⟨_, rfl⟩
  have FW : Hid (Fr [] w W) := hid (by rw [hW]; exact (((Fr.refl _ _).alloc _).alloc _).alloc _)
  have M0 : Hid (W.heap[m]? = some (.map #[] 0)) := hid (by
    rw [hW, hm, blk_old _ _ (by simp; omega), blk_old _ _ (by simp)]; exact blk_new _ _)
  have M1 : Hid (W.heap[m + 1]? = some (.cells #[.map (some m)] 80 (0, 0))) := hid (by
    rw [hW, hm, blk_old _ _ (by simp)]; have := blk_new (w.alloc (.map #[] 0)) (.cells #[.map (some w.heap.size)] 80); simpa using this)
  have M2 : Hid (W.heap[m + 1 + 1]? = some (.cells #[.func (.func 66) #[] #[.pointer (some ⟨m + 1, 0, none⟩), .pointer (some ⟨m + 1 + 1, 0, none⟩)]] 100 (0, 0))) := hid (by
    rw [hW, hm]; have := blk_new ((w.alloc (.map #[] 0)).alloc (.cells #[.map (some w.heap.size)] 80)) (.cells #[.func (.func 66) #[] #[.pointer (some ⟨w.heap.size + 1, 0, none⟩), .pointer (some ⟨w.heap.size + 1 + 1, 0, none⟩)]] 100); simpa using this)
  have HB := hid hB
  have HBT := hid hbt
  have HM := hid hm
  have HN := hid hN
  have GA := hid (fun (w1 : World) (f : Fr [] w w1) (Fd m' : Nat) (gp : Value) (T : TypeId) (h1 : w1.heap[Fd]? = some (.cells #[.map (some m')] T (0, 0))) (h2 : w1.heap[m']? = some (.map #[] 0)) (h3 : Fd ≠ m') => gatherLeaf_c w1 (gp := gp) (HT.fr f) (hi.fr f) (hN.step (hi.agr f)) hok h1 h2 h3)
  clear hB hbt hN hno hi hok
  go_enter Tryd.func43, Tryd.ntmps43
  go_upto_region 4 with fail
  rw [← hm, ← hW]
  clear hW hmm hm
  have SK := hid (fun (w' : World) (f : Fr [m] W w') => (show w'.cell? ⟨m + 1 + 1, 0, none⟩ = some (.func (.func 66) #[] #[.pointer (some ⟨m + 1, 0, none⟩), .pointer (some ⟨m + 1 + 1, 0, none⟩)]) ∧ w'.cell? ⟨tb, 0, none⟩ = some rv ∧ w'.cell? ⟨m + 1, 0, none⟩ = some (.map (some m)) from by
    have b2 := blk_cell (f.at M2.out (by intro h; have := List.mem_singleton.1 h; omega)) 0
    have b0 := blk_cell (f.at (blk_frT HB.out FW.out) (by have := HBT.out; have := HM.out; intro h; have := List.mem_singleton.1 h; omega)) 0
    have b1 := blk_cell (f.at M1.out (by intro h; have := List.mem_singleton.1 h; omega)) 0
    simp at b0 b1 b2
    exact ⟨b2, b0, b1⟩))
  have FD : Hid (Fr [] W W.drew) := hid (Fr.refl _ _).drew
  have FWD := hid (FW.out.trans FD.out)
  refine wp_region_held_drew (S := fun w' => w'.cell? ⟨m + 1 + 1, 0, none⟩ = some (.func (.func 66) #[] #[.pointer (some ⟨m + 1, 0, none⟩), .pointer (some ⟨m + 1 + 1, 0, none⟩)]) ∧ w'.cell? ⟨tb, 0, none⟩ = some rv ∧ w'.cell? ⟨m + 1, 0, none⟩ = some (.map (some m))) (by kernel_rfl) (SK.out _ (FD.out.mono (by simp))) (fun hS => ?_)
  refine wpAnyH_take (i := 0) (v := .func (.func 66) #[] #[.pointer (some ⟨m + 1, 0, none⟩), .pointer (some ⟨m + 1 + 1, 0, none⟩)]) rfl (by kernel_rfl) (by kernel_rfl) (by kernel_rfl) (fun _ _ _ h => h) (.inl ⟨by rfl, fun wx hX => by obtain ⟨x0, x1, x2⟩ := hX; go_simp⟩) hS ?_
  simp only [Act.put, List.getElem_toArray, List.getElem_cons_zero, List.setIfInBounds_toArray, List.set_cons_succ, List.set_cons_zero]
  refine wpAnyH_take (i := 1) (v := .pointer (some ⟨tb, 0, none⟩)) rfl (by kernel_rfl) (by kernel_rfl) (by kernel_rfl) (fun _ _ _ h => h) (.inl ⟨by rfl, fun wx _ => by go_simp⟩) hS ?_
  simp only [Act.put, List.getElem_toArray, List.getElem_cons_succ, List.getElem_cons_zero, List.setIfInBounds_toArray, List.set_cons_succ, List.set_cons_zero]
  refine wpAnyH_take (i := 2) (v := .pointer (some ⟨tb, 0, none⟩)) rfl (by kernel_rfl) (by kernel_rfl) (by kernel_rfl) (fun _ _ _ h => h) (.inl ⟨by rfl, fun wx _ => by go_simp⟩) hS ?_
  simp only [Act.put, List.getElem_toArray, List.getElem_cons_succ, List.getElem_cons_zero, List.setIfInBounds_toArray, List.set_cons_succ, List.set_cons_zero]
  refine wpAnyH_take (i := 3) (v := .pointer (some ⟨tb, 0, none⟩)) rfl (by kernel_rfl) (by kernel_rfl) (by kernel_rfl) (fun _ _ _ h => h) (.inl ⟨by rfl, fun wx _ => by go_simp⟩) hS ?_
  simp only [Act.put, List.getElem_toArray, List.getElem_cons_succ, List.getElem_cons_zero, List.setIfInBounds_toArray, List.set_cons_succ, List.set_cons_zero]
  refine wpAnyH_take (i := 4) (v := rv) rfl (by kernel_rfl) (by kernel_rfl) (by kernel_rfl) (fun _ _ _ h => h) (.inl ⟨by rfl, fun wx hX => by obtain ⟨x0, x1, x2⟩ := hX; go_simp⟩) hS ?_
  simp only [Act.put, List.getElem_toArray, List.getElem_cons_succ, List.getElem_cons_zero, List.setIfInBounds_toArray, List.set_cons_succ, List.set_cons_zero]
  clear hS
  refine wpAnyH_ready (rs := [5]) (by kernel_rfl) (by simp) ?_
  refine AllReadyH.cons rfl (fun K hK => ?_) AllReadyH.nil
  go_simp
  go_at_call 66
  refine (GA.out _ FWD.out _ _ _ _ (blk_frT M1.out FD.out) (blk_frT M0.out FD.out) (by omega)).mono ?_
  rintro e w4 ⟨⟨u, rfl⟩, hmap, fg⟩
  have HMAP := hid hmap
  clear hmap GA
  have FT := hid ((FD.out.mono (show ∀ k ∈ ([] : List Nat), k ∈ [m] by simp)).trans fg)
  have F4 := hid (FWD.out.more fg (fun k hk => .inr (by have := List.mem_singleton.1 hk; have := HM.out; omega)))
  clear fg
  go_simp
  have hS := SK.out _ FT.out
  refine hK.out _ _ hS (fun _ => ?_)
  clear hK K
  refine wpAnyH_done (by kernel_rfl) ?_ _
  have z2 := hS.2.2
  clear hS
  go_wp2
  go_ret
  exact ⟨m, rv, rfl, Nat.le_of_eq HM.out.symm, HMAP.out, HN.out, F4.out⟩
set_option maxRecDepth 20000 in
set_option maxHeartbeats 3200000 in
theorem gatherNil_c (w : World) (u0 u1 : Value) :
    Calls Tryd.prog 66 #[.nilIface, u0, u1] w fun e w' => (∃ u, e = .returned u) ∧ Fr [] w w' := by
  have ta : (Instr.typeAssert .nilIface 84 101 true).run Tryd.prog w = .ok (.tuple #[.agg z32, .bool false]) w := by kernel_rfl
  go_enter Tryd.func66, Tryd.ntmps66
  go_upto_region 0 with fail
  apply wp_region_lit
  refine wpList_val (v := .nilIface) (w' := w) rfl (by go_simp) ?_
  refine wpList_val (v := .tuple #[.agg z32, .bool false]) (w' := w) rfl (by go_simp) ?_
  refine wpList_val (v := .tuple #[.agg z32, .bool false]) (w' := w) rfl (by go_simp) ?_
  refine wpList_val (v := .agg z32) (w' := w) rfl (by go_simp) ?_
  refine wpList_val (v := .bool false) (w' := w) rfl (by go_simp) ?_
  refine wpList_allocF rfl rfl ?_
  refine wpList_stF rfl (.tmp 4) (.tmp 11) rfl (blk_new _ _) (by simp [Act.eval, Act.put]) (by simp [Act.eval, Act.put]) ?_
  have F : Hid (Fr [] w ((w.alloc (.cells z32 101)).setRow w.heap.size z32)) := hid (((Fr.refl _ _).alloc _).rowT _ (.inr (Nat.le_refl _)))
  generalize (w.alloc (.cells z32 101)).setRow w.heap.size z32 = W at F ⊢
  refine wpList_val (v := .bool false) (w' := W) rfl (by go_simp) ?_
  simp only [wpList, Act.put]
  clear ta
  go_wp2_with fail
  refine bodyPost_ret (results_none rfl _ _ _) rfl ?_
  exact ⟨⟨_, rfl⟩, F.out⟩
set_option maxRecDepth 20000 in
set_option maxHeartbeats 6400000 in
theorem ownNil_c (w : World) {S : Nat → Prop} {tb : Nat} {g : Value} (ht : TrieI S w tb g .nil) :
    Calls Tryd.prog 43 #[.pointer (some ⟨tb, 0, none⟩)] w fun e w' => ∃ m, e = .returned (.map (some m)) ∧ w.heap.size ≤ m ∧ w'.heap[m]? = some (.map #[] 0) ∧ Fr [] w w' := by
  have hmm := @run_makeMap Tryd.prog
  obtain ⟨⟨rv, hB, hN⟩, hno, hi, hok⟩ := ht
  have hbt := (Array.getElem?_eq_some_iff.1 hB).1
  obtain ⟨m, hm⟩ : ∃ m, m = w.heap.size := ⟨_, rfl⟩
  obtain ⟨W, hW⟩ : ∃ W, W = ((w.alloc (.map #[] 0)).alloc (.cells #[.map (some m)] 80)).alloc (.cells #[.func (.func 66) #[] #[.pointer (some ⟨m + 1, 0, none⟩), .pointer (some ⟨m + 1 + 1, 0, none⟩)]] 100) := ⟨_, rfl⟩
  have FW : Hid (Fr [] w W) := hid (by rw [hW]; exact (((Fr.refl _ _).alloc _).alloc _).alloc _)
  have M0 : Hid (W.heap[m]? = some (.map #[] 0)) := hid (by
    rw [hW, hm, blk_old _ _ (by simp; omega), blk_old _ _ (by simp)]; exact blk_new _ _)
  have M1 : Hid (W.heap[m + 1]? = some (.cells #[.map (some m)] 80 (0, 0))) := hid (by
    rw [hW, hm, blk_old _ _ (by simp)]; have := blk_new (w.alloc (.map #[] 0)) (.cells #[.map (some w.heap.size)] 80); simpa using this)
  have M2 : Hid (W.heap[m + 1 + 1]? = some (.cells #[.func (.func 66) #[] #[.pointer (some ⟨m + 1, 0, none⟩), .pointer (some ⟨m + 1 + 1, 0, none⟩)]] 100 (0, 0))) := hid (by
    rw [hW, hm]; have := blk_new ((w.alloc (.map #[] 0)).alloc (.cells #[.map (some w.heap.size)] 80)) (.cells #[.func (.func 66) #[] #[.pointer (some ⟨w.heap.size + 1, 0, none⟩), .pointer (some ⟨w.heap.size + 1 + 1, 0, none⟩)]] 100); simpa using this)
  have HB := hid hB
  have HBT := hid hbt
  have HM := hid hm
  have HRV := hid (show rv = .nilIface from hN)
  clear hB hbt hN hno hi hok
  go_enter Tryd.func43, Tryd.ntmps43
  go_upto_region 4 with fail
  rw [← hm, ← hW]
  clear hW hmm hm
  have SK := hid (fun (w' : World) (f : Fr [m] W w') => (show w'.cell? ⟨m + 1 + 1, 0, none⟩ = some (.func (.func 66) #[] #[.pointer (some ⟨m + 1, 0, none⟩), .pointer (some ⟨m + 1 + 1, 0, none⟩)]) ∧ w'.cell? ⟨tb, 0, none⟩ = some rv ∧ w'.cell? ⟨m + 1, 0, none⟩ = some (.map (some m)) from by
    have b2 := blk_cell (f.at M2.out (by intro h; have := List.mem_singleton.1 h; omega)) 0
    have b0 := blk_cell (f.at (blk_frT HB.out FW.out) (by have := HBT.out; have := HM.out; intro h; have := List.mem_singleton.1 h; omega)) 0
    have b1 := blk_cell (f.at M1.out (by intro h; have := List.mem_singleton.1 h; omega)) 0
    simp at b0 b1 b2
    exact ⟨b2, b0, b1⟩))
  have FD : Hid (Fr [] W W.drew) := hid (Fr.refl _ _).drew
  have FWD := hid (FW.out.trans FD.out)
  refine wp_region_held_drew (S := fun w' => w'.cell? ⟨m + 1 + 1, 0, none⟩ = some (.func (.func 66) #[] #[.pointer (some ⟨m + 1, 0, none⟩), .pointer (some ⟨m + 1 + 1, 0, none⟩)]) ∧ w'.cell? ⟨tb, 0, none⟩ = some rv ∧ w'.cell? ⟨m + 1, 0, none⟩ = some (.map (some m))) (by kernel_rfl) (SK.out _ (FD.out.mono (by simp))) (fun hS => ?_)
  refine wpAnyH_take (i := 0) (v := .func (.func 66) #[] #[.pointer (some ⟨m + 1, 0, none⟩), .pointer (some ⟨m + 1 + 1, 0, none⟩)]) rfl (by kernel_rfl) (by kernel_rfl) (by kernel_rfl) (fun _ _ _ h => h) (.inl ⟨by rfl, fun wx hX => by obtain ⟨x0, x1, x2⟩ := hX; go_simp⟩) hS ?_
  simp only [Act.put, List.getElem_toArray, List.getElem_cons_zero, List.setIfInBounds_toArray, List.set_cons_succ, List.set_cons_zero]
  refine wpAnyH_take (i := 1) (v := .pointer (some ⟨tb, 0, none⟩)) rfl (by kernel_rfl) (by kernel_rfl) (by kernel_rfl) (fun _ _ _ h => h) (.inl ⟨by rfl, fun wx _ => by go_simp⟩) hS ?_
  simp only [Act.put, List.getElem_toArray, List.getElem_cons_succ, List.getElem_cons_zero, List.setIfInBounds_toArray, List.set_cons_succ, List.set_cons_zero]
  refine wpAnyH_take (i := 2) (v := .pointer (some ⟨tb, 0, none⟩)) rfl (by kernel_rfl) (by kernel_rfl) (by kernel_rfl) (fun _ _ _ h => h) (.inl ⟨by rfl, fun wx _ => by go_simp⟩) hS ?_
  simp only [Act.put, List.getElem_toArray, List.getElem_cons_succ, List.getElem_cons_zero, List.setIfInBounds_toArray, List.set_cons_succ, List.set_cons_zero]
  refine wpAnyH_take (i := 3) (v := .pointer (some ⟨tb, 0, none⟩)) rfl (by kernel_rfl) (by kernel_rfl) (by kernel_rfl) (fun _ _ _ h => h) (.inl ⟨by rfl, fun wx _ => by go_simp⟩) hS ?_
  simp only [Act.put, List.getElem_toArray, List.getElem_cons_succ, List.getElem_cons_zero, List.setIfInBounds_toArray, List.set_cons_succ, List.set_cons_zero]
  refine wpAnyH_take (i := 4) (v := rv) rfl (by kernel_rfl) (by kernel_rfl) (by kernel_rfl) (fun _ _ _ h => h) (.inl ⟨by rfl, fun wx hX => by obtain ⟨x0, x1, x2⟩ := hX; go_simp⟩) hS ?_
  simp only [Act.put, List.getElem_toArray, List.getElem_cons_succ, List.getElem_cons_zero, List.setIfInBounds_toArray, List.set_cons_succ, List.set_cons_zero]
  clear hS
  refine wpAnyH_ready (rs := [5]) (by kernel_rfl) (by simp) ?_
  refine AllReadyH.cons rfl (fun K hK => ?_) AllReadyH.nil
  go_simp
  go_at_call 66
  rw [HRV.out]
  refine (gatherNil_c _ _ _).mono ?_
  rintro e w4 ⟨⟨u, rfl⟩, fg0⟩
  have HMAP := hid (blk_frT (blk_frT M0.out FD.out) fg0)
  have fg := fg0.mono (show ∀ k ∈ ([] : List Nat), k ∈ [m] by simp)
  clear fg0
  have FT := hid ((FD.out.mono (show ∀ k ∈ ([] : List Nat), k ∈ [m] by simp)).trans fg)
  have F4 := hid (FWD.out.more fg (fun k hk => .inr (by have := List.mem_singleton.1 hk; have := HM.out; omega)))
  clear fg
  go_simp
  have hS := SK.out _ FT.out
  refine hK.out _ _ hS (fun _ => ?_)
  clear hK K
  refine wpAnyH_done (by kernel_rfl) ?_ _
  have z2 := hS.2.2
  clear hS
  go_wp2
  go_ret
  exact ⟨m, rfl, Nat.le_of_eq HM.out.symm, HMAP.out, F4.out⟩
end Go.Proofs.YtmpfnglcmaollaaDoor
