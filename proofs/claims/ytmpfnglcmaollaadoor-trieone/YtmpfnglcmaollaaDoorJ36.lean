/-
  The nodes of a trie of one leaf, of none.
-/
import Derived.Test.YtmpfnglcmaollaaDoorJ35
import Derived.Deep.Cut
import Derived.Test.YtmpfnglcmaollaaDoorJ32
namespace Go.Proofs.YtmpfnglcmaollaaDoor
open Go.ChangeShapes Go.WideShapes Go.ChangeAt Go.RowKit

set_option maxRecDepth 20000 in
set_option maxHeartbeats 3200000 in
theorem tellNil_c (w : World) {gp : Value} {Fl Lc m d : Nat} {T1 : TypeId} {G : Nat → Nat} (hF : w.heap[Fl]? = some (.cells #[.map (some m)] T1 (0, 0))) (hM : w.heap[m]? = some (.map #[] d)) :
    Calls Tryd.prog 44 #[.agg (bvals 32 G), .pointer (some ⟨Fl, 0, none⟩), gp, .pointer (some ⟨Lc, 0, none⟩)] w fun e w' => (∃ u, e = .returned u) ∧ Fr [] w w' := by
  obtain ⟨W, hW⟩ : ∃ W, W = w.alloc (.cells (bvals 32 G) 28) := ⟨_, rfl⟩
  have FW : Hid (Fr [] w W) := hid (by rw [hW]; exact (Fr.refl _ _).alloc _)
  have B0 : Hid (W.heap[w.heap.size]? = some (.cells (bvals 32 G) 28 (0, 0))) := hid (by rw [hW]; exact blk_new _ _)
  have c0 := blk_cell (blk_frT hF FW.out) 0
  simp at c0
  have hlk := look_no G (blk_frT hM FW.out)
  clear hF hM
  go_enter Tryd.func44, Tryd.ntmps44
  go_upto_region 1 with fail
  rw [← hW]
  clear hW
  apply wp_region_lit
  refine wpList_val (v := .map (some m)) (w' := W) rfl (by go_simp) ?_
  refine wpList_ldH rfl (.tmp 4) rfl B0.out (by simp [Act.eval, Act.put]) ?_
  simp only [Act.put]
  go_wp2_with fail
  refine bodyPost_ret (results_none rfl _ _ _) rfl ?_
  exact ⟨⟨_, rfl⟩, FW.out⟩
set_option maxRecDepth 20000 in
set_option maxHeartbeats 6400000 in
theorem NodesLeaf_c (w : World) {S : Nat → Prop} {tb : Nat} {g : Value} {p x : List Nat} (HT : Tabs w) (ht : TrieI S w tb g (.leaf p x)) :
    Calls Tryd.prog 14 #[.pointer (some ⟨tb, 0, none⟩)] w fun e w' => ∃ q k, e = .returned (.slice (some ⟨q, 0, none⟩) 1 k) ∧ NodeAt w' q (encN (.leaf p x)) ∧ Fr [] w w' := by
  have OW := hid (ownLeaf_c w HT ht)
  have HTI := hid ht
  have HTT := hid HT
  clear HT ht
  go_enter Tryd.func14, Tryd.ntmps14
  go_upto_region 1 with fail
  go_upto_region 5 with (go_at_call 43; refine OW.out.mono ?_; rintro e w1 ⟨m, v, rfl, hm, hmap, hN, f1⟩)
  have F1 := hid f1
  have HMAP := hid hmap
  have HMM := hid hm
  have HN := hid hN
  clear hN
  clear f1 hmap hm OW
  obtain ⟨z, hz⟩ : ∃ z, z = w1.heap.size := ⟨_, rfl⟩
  obtain ⟨W, hW⟩ : ∃ W, W = ((w1.alloc (.cells #[.map (some m)] 80)).alloc (.cells #[.slice none 0 0] 36)).alloc (.cells #[.func (.func 44) #[] #[.pointer (some ⟨z, 0, none⟩), .pointer (some ⟨z + 1 + 1, 0, none⟩), .pointer (some ⟨z + 1, 0, none⟩)]] 82) := ⟨_, rfl⟩
  have FW : Hid (Fr [] w1 W) := hid (by rw [hW]; exact (((Fr.refl _ _).alloc _).alloc _).alloc _)
  have M0 : Hid (W.heap[z]? = some (.cells #[.map (some m)] 80 (0, 0))) := hid (by
    rw [hW, hz, blk_old _ _ (by simp; omega), blk_old _ _ (by simp)]; exact blk_new _ _)
  have M1 : Hid (W.heap[z + 1]? = some (.cells #[.slice none 0 0] 36 (0, 0))) := hid (by
    rw [hW, hz, blk_old _ _ (by simp)]; have := blk_new (w1.alloc (.cells #[.map (some m)] 80)) (.cells #[.slice none 0 0] 36); simpa using this)
  have M2 : Hid (W.heap[z + 1 + 1]? = some (.cells #[.func (.func 44) #[] #[.pointer (some ⟨z, 0, none⟩), .pointer (some ⟨z + 1 + 1, 0, none⟩), .pointer (some ⟨z + 1, 0, none⟩)]] 82 (0, 0))) := hid (by
    rw [hW, hz]; have := blk_new ((w1.alloc (.cells #[.map (some m)] 80)).alloc (.cells #[.slice none 0 0] 36)) (.cells #[.func (.func 44) #[] #[.pointer (some ⟨w1.heap.size, 0, none⟩), .pointer (some ⟨w1.heap.size + 1 + 1, 0, none⟩), .pointer (some ⟨w1.heap.size + 1, 0, none⟩)]] 82); simpa using this)
  have MZ : Hid (m < z) := hid (by rw [hz]; exact (Array.getElem?_eq_some_iff.1 HMAP.out).1)
  have HZ : Hid (w.heap.size ≤ z) := hid (by rw [hz]; exact F1.out.size)
  rw [← hz, ← hW]
  clear hW hz
  have FD : Hid (Fr [] W W.drew) := hid (Fr.refl _ _).drew
  have FWD := hid ((F1.out.trans FW.out).trans FD.out)
  have SK := hid (fun (w' : World) (f : Fr [] W w') => (show w'.cell? ⟨z + 1 + 1, 0, none⟩ = some (.func (.func 44) #[] #[.pointer (some ⟨z, 0, none⟩), .pointer (some ⟨z + 1 + 1, 0, none⟩), .pointer (some ⟨z + 1, 0, none⟩)]) from by
    have b2 := blk_cell (blk_frT M2.out f) 0
    simpa using b2))
  have SK2 := hid (fun (w' : World) (f : Fr [m, z + 1] W w') => (show w'.cell? ⟨z + 1 + 1, 0, none⟩ = some (.func (.func 44) #[] #[.pointer (some ⟨z, 0, none⟩), .pointer (some ⟨z + 1 + 1, 0, none⟩), .pointer (some ⟨z + 1, 0, none⟩)]) from by
    have b2 := blk_cell (f.at M2.out (by have := MZ.out; intro h; simp at h; omega)) 0
    simpa using b2))
  have RT := hid (rootAll_c _ (HTI.out.fr FWD.out) (HTT.out.fr FWD.out))
  refine wp_region_held_drew (S := fun w' => w'.cell? ⟨z + 1 + 1, 0, none⟩ = some (.func (.func 44) #[] #[.pointer (some ⟨z, 0, none⟩), .pointer (some ⟨z + 1 + 1, 0, none⟩), .pointer (some ⟨z + 1, 0, none⟩)])) (by kernel_rfl) (SK.out _ FD.out) (fun hS => ?_)
  refine wpAnyH_take (i := 0) (v := .func (.func 44) #[] #[.pointer (some ⟨z, 0, none⟩), .pointer (some ⟨z + 1 + 1, 0, none⟩), .pointer (some ⟨z + 1, 0, none⟩)]) rfl (by kernel_rfl) (by kernel_rfl) (by kernel_rfl) (fun _ _ _ h => h) (.inl ⟨by rfl, fun wx hX => by have x0 := hX; go_simp⟩) hS ?_
  simp only [Act.put, List.getElem_toArray, List.getElem_cons_zero, List.setIfInBounds_toArray, List.set_cons_succ, List.set_cons_zero]
  refine wpAnyH_take (i := 1) (v := .pointer (some ⟨tb, 0, none⟩)) rfl (by kernel_rfl) (by kernel_rfl) (by kernel_rfl) (fun _ _ _ h => h) (.inl ⟨by rfl, fun wx _ => by go_simp⟩) hS ?_
  simp only [Act.put, List.getElem_toArray, List.getElem_cons_succ, List.getElem_cons_zero, List.setIfInBounds_toArray, List.set_cons_succ, List.set_cons_zero]
  clear hS
  refine wpAnyH_ready (rs := [2]) (by kernel_rfl) (by simp) ?_
  refine AllReadyH.cons rfl (fun K hK => ?_) AllReadyH.nil
  go_simp
  go_at_call 15
  refine RT.out.mono ?_
  rintro e w3 ⟨rfl, f3⟩
  have F3 := hid (FD.out.trans f3)
  have F3w := hid (FWD.out.trans f3)
  clear f3 RT
  go_simp
  refine hK.out _ _ (SK.out _ F3.out) (fun _ => ?_)
  clear hK K
  refine wpAnyH_ready (rs := [3]) (by kernel_rfl) (by simp) ?_
  refine AllReadyH.cons rfl (fun K hK => ?_) AllReadyH.nil
  go_simp
  go_at_call 44
  refine (tellLeaf_c w3 (HTT.out.fr F3w.out) (HTI.out.ins.fr F3w.out) (HN.out.step (HTI.out.ins.agr F3w.out)) HTI.out.ok rfl (blk_frT M0.out F3.out) (blk_frT (blk_frT HMAP.out FW.out) F3.out) (blk_frT M1.out F3.out) (by have := MZ.out; omega) (by have := MZ.out; omega) (fun h => by have := HTI.out.ins m h; have := HMM.out; omega)).mono ?_
  rintro e w4 ⟨⟨u, rfl⟩, ⟨q, ⟨k, hl⟩, hn⟩, fg⟩
  have LL := hid hl
  have NN := hid hn
  clear hl hn
  have FT := hid ((F3.out.mono (show ∀ k ∈ ([] : List Nat), k ∈ [m, z + 1] by simp)).trans fg)
  have F4 := hid (F3w.out.more fg (fun k hk => .inr (by have := HMM.out; have := HZ.out; simp at hk; omega)))
  clear fg
  go_simp
  refine hK.out _ _ (SK2.out _ FT.out) (fun _ => ?_)
  clear hK K
  refine wpAnyH_done (by kernel_rfl) ?_ _
  have y0 := blk_cell LL.out 0
  simp at y0
  go_wp2
  go_ret
  exact ⟨q, k, rfl, NN.out, F4.out⟩
set_option maxRecDepth 20000 in
set_option maxHeartbeats 6400000 in
theorem NodesNil_c (w : World) {S : Nat → Prop} {tb : Nat} {g : Value} (HT : Tabs w) (ht : TrieI S w tb g .nil) :
    Calls Tryd.prog 14 #[.pointer (some ⟨tb, 0, none⟩)] w fun e w' => e = .returned (.slice none 0 0) ∧ Fr [] w w' := by
  have OW := hid (ownNil_c w ht)
  have HTI := hid ht
  have HTT := hid HT
  clear HT ht
  go_enter Tryd.func14, Tryd.ntmps14
  go_upto_region 1 with fail
  go_upto_region 5 with (go_at_call 43; refine OW.out.mono ?_; rintro e w1 ⟨m, rfl, hm, hmap, f1⟩)
  have F1 := hid f1
  have HMAP := hid hmap
  have HMM := hid hm
  clear f1 hmap hm OW
  obtain ⟨z, hz⟩ : ∃ z, z = w1.heap.size := ⟨_, rfl⟩
  obtain ⟨W, hW⟩ : ∃ W, W = ((w1.alloc (.cells #[.map (some m)] 80)).alloc (.cells #[.slice none 0 0] 36)).alloc (.cells #[.func (.func 44) #[] #[.pointer (some ⟨z, 0, none⟩), .pointer (some ⟨z + 1 + 1, 0, none⟩), .pointer (some ⟨z + 1, 0, none⟩)]] 82) := ⟨_, rfl⟩
  have FW : Hid (Fr [] w1 W) := hid (by rw [hW]; exact (((Fr.refl _ _).alloc _).alloc _).alloc _)
  have M0 : Hid (W.heap[z]? = some (.cells #[.map (some m)] 80 (0, 0))) := hid (by
    rw [hW, hz, blk_old _ _ (by simp; omega), blk_old _ _ (by simp)]; exact blk_new _ _)
  have M1 : Hid (W.heap[z + 1]? = some (.cells #[.slice none 0 0] 36 (0, 0))) := hid (by
    rw [hW, hz, blk_old _ _ (by simp)]; have := blk_new (w1.alloc (.cells #[.map (some m)] 80)) (.cells #[.slice none 0 0] 36); simpa using this)
  have M2 : Hid (W.heap[z + 1 + 1]? = some (.cells #[.func (.func 44) #[] #[.pointer (some ⟨z, 0, none⟩), .pointer (some ⟨z + 1 + 1, 0, none⟩), .pointer (some ⟨z + 1, 0, none⟩)]] 82 (0, 0))) := hid (by
    rw [hW, hz]; have := blk_new ((w1.alloc (.cells #[.map (some m)] 80)).alloc (.cells #[.slice none 0 0] 36)) (.cells #[.func (.func 44) #[] #[.pointer (some ⟨w1.heap.size, 0, none⟩), .pointer (some ⟨w1.heap.size + 1 + 1, 0, none⟩), .pointer (some ⟨w1.heap.size + 1, 0, none⟩)]] 82); simpa using this)
  have MZ : Hid (m < z) := hid (by rw [hz]; exact (Array.getElem?_eq_some_iff.1 HMAP.out).1)
  have HZ : Hid (w.heap.size ≤ z) := hid (by rw [hz]; exact F1.out.size)
  rw [← hz, ← hW]
  clear hW hz
  have FD : Hid (Fr [] W W.drew) := hid (Fr.refl _ _).drew
  have FWD := hid ((F1.out.trans FW.out).trans FD.out)
  have SK := hid (fun (w' : World) (f : Fr [] W w') => (show w'.cell? ⟨z + 1 + 1, 0, none⟩ = some (.func (.func 44) #[] #[.pointer (some ⟨z, 0, none⟩), .pointer (some ⟨z + 1 + 1, 0, none⟩), .pointer (some ⟨z + 1, 0, none⟩)]) from by
    have b2 := blk_cell (blk_frT M2.out f) 0
    simpa using b2))
  have SK2 := hid (fun (w' : World) (f : Fr [m, z + 1] W w') => (show w'.cell? ⟨z + 1 + 1, 0, none⟩ = some (.func (.func 44) #[] #[.pointer (some ⟨z, 0, none⟩), .pointer (some ⟨z + 1 + 1, 0, none⟩), .pointer (some ⟨z + 1, 0, none⟩)]) from by
    have b2 := blk_cell (f.at M2.out (by have := MZ.out; intro h; simp at h; omega)) 0
    simpa using b2))
  have RT := hid (rootAll_c _ (HTI.out.fr FWD.out) (HTT.out.fr FWD.out))
  refine wp_region_held_drew (S := fun w' => w'.cell? ⟨z + 1 + 1, 0, none⟩ = some (.func (.func 44) #[] #[.pointer (some ⟨z, 0, none⟩), .pointer (some ⟨z + 1 + 1, 0, none⟩), .pointer (some ⟨z + 1, 0, none⟩)])) (by kernel_rfl) (SK.out _ FD.out) (fun hS => ?_)
  refine wpAnyH_take (i := 0) (v := .func (.func 44) #[] #[.pointer (some ⟨z, 0, none⟩), .pointer (some ⟨z + 1 + 1, 0, none⟩), .pointer (some ⟨z + 1, 0, none⟩)]) rfl (by kernel_rfl) (by kernel_rfl) (by kernel_rfl) (fun _ _ _ h => h) (.inl ⟨by rfl, fun wx hX => by have x0 := hX; go_simp⟩) hS ?_
  simp only [Act.put, List.getElem_toArray, List.getElem_cons_zero, List.setIfInBounds_toArray, List.set_cons_succ, List.set_cons_zero]
  refine wpAnyH_take (i := 1) (v := .pointer (some ⟨tb, 0, none⟩)) rfl (by kernel_rfl) (by kernel_rfl) (by kernel_rfl) (fun _ _ _ h => h) (.inl ⟨by rfl, fun wx _ => by go_simp⟩) hS ?_
  simp only [Act.put, List.getElem_toArray, List.getElem_cons_succ, List.getElem_cons_zero, List.setIfInBounds_toArray, List.set_cons_succ, List.set_cons_zero]
  clear hS
  refine wpAnyH_ready (rs := [2]) (by kernel_rfl) (by simp) ?_
  refine AllReadyH.cons rfl (fun K hK => ?_) AllReadyH.nil
  go_simp
  go_at_call 15
  refine RT.out.mono ?_
  rintro e w3 ⟨rfl, f3⟩
  have F3 := hid (FD.out.trans f3)
  have F3w := hid (FWD.out.trans f3)
  clear f3 RT
  go_simp
  refine hK.out _ _ (SK.out _ F3.out) (fun _ => ?_)
  clear hK K
  refine wpAnyH_ready (rs := [3]) (by kernel_rfl) (by simp) ?_
  refine AllReadyH.cons rfl (fun K hK => ?_) AllReadyH.nil
  go_simp
  go_at_call 44
  refine (tellNil_c w3 (blk_frT M0.out F3.out) (blk_frT (blk_frT HMAP.out FW.out) F3.out)).mono ?_
  rintro e w4 ⟨⟨u, rfl⟩, fg0⟩
  have LL := hid (blk_frT (blk_frT M1.out F3.out) fg0)
  have fg := fg0.mono (show ∀ k ∈ ([] : List Nat), k ∈ [m, z + 1] by simp)
  clear fg0
  have FT := hid ((F3.out.mono (show ∀ k ∈ ([] : List Nat), k ∈ [m, z + 1] by simp)).trans fg)
  have F4 := hid (F3w.out.more fg (fun k hk => .inr (by have := HMM.out; have := HZ.out; simp at hk; omega)))
  clear fg
  go_simp
  refine hK.out _ _ (SK2.out _ FT.out) (fun _ => ?_)
  clear hK K
  refine wpAnyH_done (by kernel_rfl) ?_ _
  have y0 := blk_cell LL.out 0
  simp at y0
  go_wp2
  go_ret
  exact ⟨rfl, F4.out⟩
end Go.Proofs.YtmpfnglcmaollaaDoor
namespace Go.Proofs.YtmpfnglcmaollaaDoor
open Go.ChangeShapes Go.WideShapes Go.ChangeAt Go.RowKit

theorem str_beq {a b : List Nat} (ha : By a) (hb : By b) : ((strOf a).toList == (strOf b).toList) = decide (a = b) := by
  by_cases h : a = b
  · subst h; simp
  · rw [decide_eq_false h]
    exact beq_eq_false_iff_ne.2 fun e => h (strOf_inj ha hb (by
      rw [ByteArray.toList_eq, ByteArray.toList_eq] at e
      exact ByteArray.ext (Array.toList_inj.1 e)))
/-- What Find tells: a value of the row, or nothing. -/
def FindO (es : List En) (k : List Nat) (v : Value) (b : Bool) : Prop :=
  (b = true ∧ ∃ e ∈ es, e.k = k ∧ v = e.vv) ∨ (b = false ∧ ∀ e ∈ es, e.k ≠ k)
set_option maxRecDepth 20000 in
set_option maxHeartbeats 3200000 in
theorem rfind_c (w : World) {B : Nat} {lv kv : Value} {es : List En} {k : List Nat} (h : EsO w B lv es) (hn : es.length ≤ 1000000) (hk : Rd w kv (bv k)) (hkb : By k) :
    Calls Tryd.prog 30 #[lv, kv] w fun e w' => (∃ v b, e = .returned (.tuple #[v, .bool b]) ∧ FindO es k v b) ∧ Fr [] w w' := by
  obtain ⟨ka, kc, e1⟩ := hk.form
  rw [bv_len] at e1
  subst e1
  have AT := hid (fun (i : Nat) (x : En) (hx : es[i]? = some x) => h.at' hx)
  have H := hid h
  have HK := hid hk
  have HKB := hid hkb
  obtain ⟨la, lc, hlv⟩ : ∃ la lc, lv = .slice la es.length lc := by
    rcases h.1.2 with ⟨rfl, h0⟩ | ⟨g, cap, cur, e0, _⟩
    · exact ⟨none, 0, by rw [h0]⟩
    · exact ⟨_, _, e0⟩
  subst hlv
  clear h hk hkb
  obtain ⟨n, hnn⟩ : ∃ n, n = es.length := ⟨_, rfl⟩
  have HN := hid hnn
  rw [← hnn] at hn AT ⊢
  clear hnn
  obtain ⟨nk, hnk⟩ : ∃ n, n = k.length := ⟨_, rfl⟩
  have HNK := hid hnk
  rw [← hnk] at HK ⊢
  clear hnk
  go_enter Tryd.func30, Tryd.ntmps30
  go_wp2_with fail
  go_loopw [6] (fun v6 wr => ∃ i : Nat, i ≤ n ∧ v6 = .int .i64 (i : Int) ∧ (∀ j x, j < i → es[j]? = some x → x.k ≠ k) ∧ Fr [] w wr) (fun v6 _ => n - (intOf v6).toNat)
  case atStart => exact ⟨0, Nat.zero_le _, rfl, (fun j x h => by omega), Fr.refl _ _⟩
  case round =>
    obtain ⟨i, hi, rfl, hlo, hf⟩ := hrel
    have HF := hid hf
    have HLO := hid hlo
    clear hf hlo
    by_cases hlt : i < n
    · obtain ⟨x, hx⟩ : ∃ x, es[i]? = some x := ⟨_, List.getElem?_eq_getElem (by rw [← HN.out]; exact hlt)⟩
      obtain ⟨g', c', e', c0, c1, hen⟩ := AT.out i x hx
      simp only [Value.slice.injEq, true_and] at e'
      obtain ⟨rfl, _⟩ := e'
      have z0 := cell_fr c0 HF.out
      have z1 := cell_fr c1 HF.out
      obtain ⟨xa, xc, hxk, _⟩ := ownsRow_slice hen.ok
      have EN := hid hen
      have HX := hid hx
      have RX : Hid (Rd w (.slice xa x.k.length xc) (bv x.k)) := hid (by rw [← hxk]; exact Rd.ownB hen.ok)
      rw [hxk] at z0
      have hii : (i : Int) < (n : Int) := by omega
      have g1 := fun m : Nat => run_conv ((RX.out.fr HF.out).fr ((Fr.refl [] wr).drewN m))
      have g2 := fun m : Nat => run_conv ((HK.out.fr HF.out).fr ((Fr.refl [] wr).drewN m))
      have HB := hid (str_beq hen.bk HKB.out)
      clear c0 c1 hen hx hxk
      by_cases hq : x.k = k
      · have hb : ((strOf x.k).toList == (strOf k).toList) = true := by rw [HB.out]; exact decide_eq_true hq
        clear HB RX EN
        generalize strOf x.k = s1 at *
        generalize strOf k = s2 at *
        generalize x.k.length = nx at *
        go_upto_region 4 with fail
        go_quiet (fail)
        go_wp2_with fail
        go_ret2
        exact ⟨⟨x.vv, true, rfl, .inl ⟨rfl, x, List.mem_of_getElem? HX.out, hq, rfl⟩⟩, HF.out.drewN _⟩
      · have hb : ((strOf x.k).toList == (strOf k).toList) = false := by rw [HB.out]; exact decide_eq_false hq
        clear HB RX EN
        generalize strOf x.k = s1 at *
        generalize strOf k = s2 at *
        generalize x.k.length = nx at *
        go_upto_region 4 with fail
        go_quiet (fail)
        go_wp2
        refine ⟨⟨i + 1, by omega, by go_num, fun j y hj hy => ?_, HF.out.drewN _⟩, by simp [intOf]; omega⟩
        rcases Nat.lt_or_ge j i with h | h
        · exact HLO.out j y h hy
        · obtain rfl : j = i := by omega
          rw [HX.out] at hy
          cases hy
          exact hq
    · have hin : i = n := by omega
      go_wp2_with fail
      go_ret2
      refine ⟨⟨_, false, rfl, .inr ⟨rfl, fun e he hk => ?_⟩⟩, HF.out⟩
      obtain ⟨j, hj⟩ := List.getElem?_of_mem he
      exact HLO.out j e (by have := (List.getElem?_eq_some_iff.1 hj).1; have := HN.out; omega) hj hk
end Go.Proofs.YtmpfnglcmaollaaDoor
namespace Go.Proofs.YtmpfnglcmaollaaDoor
open Go.ChangeShapes Go.WideShapes Go.ChangeAt Go.RowKit

set_option maxRecDepth 20000 in
set_option maxHeartbeats 3200000 in
theorem open_c (w : World) (HT : Tabs w) (f : Nat → Nat) (hf : f = hashOf [128]) (fn : Fn) (fs cs : Array Value) :
    Calls Tryd.prog 38 #[.agg (bvals 32 f), .func fn fs cs] w fun e w' => ∃ tb, e = .returned (.pointer (some ⟨tb, 0, none⟩)) ∧ w.heap.size ≤ tb ∧ w'.heap[tb]? = some (.cells #[.nilIface, .func fn fs cs] 94 (0, 0)) ∧ Fr [] w w' := by
  obtain ⟨W0, hW0⟩ : ∃ W0, W0 = w.alloc (.cells (bvals 32 f) 28) := ⟨_, rfl⟩
  obtain ⟨W1, hW1⟩ : ∃ W1, W1 = W0.alloc (.cells #[.nilIface, .func fn fs cs] 94) := ⟨_, rfl⟩
  have F0 : Hid (Fr [] w W0) := hid (by rw [hW0]; exact (Fr.refl _ _).alloc _)
  have F1 : Hid (Fr [] w W1) := hid (by rw [hW1]; exact F0.out.alloc _)
  have B0 : Hid (W1.heap[w.heap.size]? = some (.cells (bvals 32 f) 28 (0, 0))) := hid (by rw [hW1, blk_old _ _ (by rw [hW0]; simp), hW0]; exact blk_new _ _)
  have B1 : Hid (W1.heap[W0.heap.size]? = some (.cells #[.nilIface, .func fn fs cs] 94 (0, 0))) := hid (by rw [hW1]; exact blk_new _ _)
  have EM := hid (empty_c W1.drew (HT.fr F1.out.drew))
  rw [← hf] at EM
  clear HT hf
  go_enter Tryd.func38, Tryd.ntmps38
  go_upto_region 1 with fail
  rw [← hW0]
  clear hW0
  go_upto_region 2 with fail
  rw [← hW1]
  clear hW1
  refine wp_region_held_drew (S := fun w' => w'.heap[w.heap.size]? = some (.cells (bvals 32 f) 28 (0, 0))) (by kernel_rfl) (by rw [blk_drew]; exact B0.out) (fun hS => ?_)
  refine wpAnyH_take (i := 0) (v := .agg (bvals 32 f)) rfl (by kernel_rfl) (by kernel_rfl) (by kernel_rfl) (fun _ _ _ h => h) (.inl ⟨by rfl, fun wx hX => by
    have x0 := ldVar32 hX
    simp [execOp, Act.eval, Instr.loadAt, Instr.sureAddr, x0]⟩) hS ?_
  simp only [Act.put]
  refine wpAnyH_ready (rs := [1]) (by kernel_rfl) (by simp) ?_
  refine AllReadyH.cons rfl (fun K hK => ?_) AllReadyH.nil
  go_simp
  refine EM.out.mono ?_
  rintro e w2 ⟨rfl, f2⟩
  have F2 := hid (F1.out.drew.trans f2)
  have hS2 : w2.heap[w.heap.size]? = some (.cells (bvals 32 f) 28 (0, 0)) := blk_frT hS f2
  have B2 : Hid (w2.heap[W0.heap.size]? = some (.cells #[.nilIface, .func fn fs cs] 94 (0, 0))) := hid (blk_frT (by rw [blk_drew]; exact B1.out) f2)
  clear f2
  go_simp
  refine hK.out _ _ hS2 (fun _ => ?_)
  clear hK K
  refine wpAnyH_take (i := 2) (v := .bool false) rfl (by kernel_rfl) (by kernel_rfl) (by kernel_rfl) (fun _ _ _ h => h) (.inl ⟨by rfl, fun wx _ => by
    have x0 := eqIn32 wx f f (fun _ _ => rfl)
    go_simp⟩) hS2 ?_
  simp only [Act.put]
  refine wpAnyH_done (by kernel_rfl) ?_ _
  clear hS hS2
  go_wp2
  go_ret
  exact ⟨_, rfl, F0.out.size, B2.out, F2.out⟩
set_option maxRecDepth 20000 in
set_option maxHeartbeats 3200000 in
theorem new_cT (w : World) (HT : Tabs w) (f : Nat → Nat) (hf : f = hashOf [128]) :
    Calls Tryd.prog 11 #[.agg (bvals 32 f), .slice none 0 0] w fun e w' => ∃ tb g, e = .returned (.pointer (some ⟨tb, 0, none⟩)) ∧ TrieI (fun _ => False) w' tb g .nil ∧ w.heap.size ≤ tb ∧ Fr [] w w' := by
  have hmm := @run_makeMap Tryd.prog
  obtain ⟨W0, hW0⟩ : ∃ W0, W0 = w.alloc (.cells (bvals 32 f) 28) := ⟨_, rfl⟩
  have F0 : Hid (Fr [] w W0) := hid (by rw [hW0]; exact (Fr.refl _ _).alloc _)
  have B0 : Hid (W0.heap[w.heap.size]? = some (.cells (bvals 32 f) 28 (0, 0))) := hid (by rw [hW0]; exact blk_new _ _)
  have HTH := hid HT
  have HFH := hid hf
  clear HT hf
  go_enter Tryd.func11, Tryd.ntmps11
  go_upto_region 1 with fail
  rw [← hW0]
  clear hW0
  go_upto_region 2 with fail
  obtain ⟨W2, hW2⟩ : ∃ W2, W2 = (W0.alloc (.map #[] 0)).alloc (.cells #[.map (some W0.heap.size)] 71) := ⟨_, rfl⟩
  have F2 : Hid (Fr [] w W2) := hid (by rw [hW2]; exact (F0.out.alloc _).alloc _)
  have B2 : Hid (W2.heap[w.heap.size]? = some (.cells (bvals 32 f) 28 (0, 0))) := hid (by
    have h1 := (Array.getElem?_eq_some_iff.1 B0.out).1
    rw [hW2, blk_old _ _ (by simp; omega), blk_old _ _ h1]; exact B0.out)
  rw [← hW2]
  clear hW2 hmm
  go_wp2_with fail
  go_loopw [13] (fun v13 wr => v13 = .int .i64 0 ∧ Fr [] W2 wr) (fun _ _ => 0)
  case atStart => exact ⟨rfl, Fr.refl _ _⟩
  case round =>
    obtain ⟨rfl, hf⟩ := hrel
    have F3 := hid (F2.out.trans hf)
    have B3 := hid (blk_frT B2.out hf)
    clear hf F2 B2 F0 B0
    go_upto_region 9 with fail
    apply wp_region_lit
    refine wpList_ldH rfl (.tmp 2) rfl B3.out (by simp [Act.eval]) ?_
    simp only [Act.put]
    have OP := hid (open_c wr (HTH.out.fr F3.out) f HFH.out (.func 39) #[] #[.pointer (some ⟨W0.heap.size + 1, 0, none⟩)])
    go_wp2_with (go_at_call 38; refine OP.out.mono ?_; rintro e w4 ⟨tb, rfl, hb, B4, f4⟩; have HB := hid hb; have HB4 := hid B4; have F4 := hid (F3.out.trans f4); clear hb B4 f4)
    go_ret
    refine ⟨tb, _, rfl, ⟨⟨_, HB4.out, rfl⟩, fun h => h, fun k h => h.elim, trivial⟩, by have := HB.out; have := F3.out.size; omega, F4.out⟩
end Go.Proofs.YtmpfnglcmaollaaDoor
