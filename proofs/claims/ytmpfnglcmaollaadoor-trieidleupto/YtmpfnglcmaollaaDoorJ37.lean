/-
  A step on a trie, and on the document's map.
-/
import Derived.Test.YtmpfnglcmaollaaDoorJ07
import Derived.Test.YtmpfnglcmaollaaDoorJ36
import Derived.Test.YtmpfnglcmaollaaDoorJ04
import Derived.Deep.Cut
namespace Go.Proofs.YtmpfnglcmaollaaDoor
open Go.ChangeShapes Go.WideShapes Go.ChangeAt Go.RowKit

/-- A trie stays where blocks change that are none of its own. -/
theorem TrieI.spoil {S : Nat → Prop} {w w' : World} {tb : Nat} {g : Value} {n : Nd} {T : List Nat} (h : TrieI S w tb g n) (f : Fr T w w') (hT : ∀ k ∈ T, ¬ S k ∧ k ≠ tb) : TrieI S w' tb g n := by
  have hb : tb < w.heap.size := by obtain ⟨⟨rv, h1, _⟩, _, _, _⟩ := h; exact (Array.getElem?_eq_some_iff.1 h1).1
  refine h.keep f.size fun k hk => f.block k ?_ (fun hm => ?_)
  · rcases hk with hk | rfl
    · exact h.ins k hk
    · exact hb
  · rcases hk with hk | rfl
    · exact (hT k hm).1 hk
    · exact (hT k hm).2 rfl
/-- What a step leaves: the trie, the map, and that they agree. -/
def StepO (w w' : World) (B tb : Nat) (g : Value) (m : Nat) (e : Ending) : Prop :=
  ∃ mv', e = .returned (.tuple #[.bool true, mv']) ∧ ∃ S' es' n', TrieI S' w' tb g n' ∧ EsO w' B mv' es' ∧ IsMap (es'.map En.p) n' ∧ es'.length ≤ m + 1 ∧ Fr [tb] w w'
theorem putM_len (ps : Mp) (k v : List Nat) : (putM ps k v).length ≤ ps.length + 1 := by
  unfold putM newM
  simp only [List.length_append, List.length_take, List.length_drop]
  split <;> simp <;> omega
theorem map_len {es es' : List En} {k v : List Nat} (h : es'.map En.p = putM (es.map En.p) k v) : es'.length ≤ es.length + 1 := by
  have := congrArg List.length h
  rw [List.length_map] at this
  have h2 := putM_len (es.map En.p) k v
  rw [List.length_map] at h2
  omega
/-- What was copied for a step is written over: the trie stays. -/
theorem after_spoil {S S4 : Nat → Prop} {w W1 w2 w3 w4 w5 w6 : World} {tb : Nat} {g : Value} {n : Nd} {A B : List Nat} (f3 : Fr [] w w3) (fw3 : Fr [] W1 w3) (htb : tb < w.heap.size) (z1 : w.heap.size ≤ W1.heap.size) (z2 : W1.heap.size ≤ w2.heap.size) (z3 : w2.heap.size ≤ w3.heap.size) (f4 : Fr [tb] w3 w4) (hS : ∀ j, S j → j < w.heap.size) (hS4 : ∀ j, S4 j → S j ∨ w3.heap.size ≤ j) (ti : TrieI S4 w4 tb g n) (f5 : Fr A w4 w5) (f6 : Fr B w5 w6) (hA : ∀ x ∈ A, W1.heap.size ≤ x ∧ x < w2.heap.size) (hB : ∀ x ∈ B, w2.heap.size ≤ x ∧ x < w3.heap.size) : TrieI S4 w6 tb g n ∧ Fr [tb] w w6 ∧ Fr [tb] W1 w6 := by
  have t5 := ti.spoil f5 (fun x hx => ⟨fun h => by have := hA x hx; rcases hS4 x h with a | a; have := hS x a; omega; omega, fun h => by have := hA x hx; omega⟩)
  have t6 := t5.spoil f6 (fun x hx => ⟨fun h => by have := hB x hx; rcases hS4 x h with a | a; have := hS x a; omega; omega, fun h => by have := hB x hx; omega⟩)
  exact ⟨t6, ((((f3.mono (by simp)).trans f4).more f5 (fun x hx => .inr (by have := hA x hx; omega))).more f6 (fun x hx => .inr (by have := hB x hx; omega))), ((((fw3.mono (by simp)).trans f4).more f5 (fun x hx => .inr (by have := hA x hx; omega))).more f6 (fun x hx => .inr (by have := hB x hx; omega)))⟩
set_option maxRecDepth 20000 in
set_option maxHeartbeats 12800000 in
theorem does_c (w : World) {S : Nat → Prop} {tb B : Nat} {g mv : Value} {n : Nd} {es : List En} {k v : List Nat} {ka va : Option Addr} {kc vc : Nat} (HT : ∀ w', Fr [tb] w w' → Tabs w') (ht : TrieI S w tb g n) (hm : EsO w B mv es) (im : IsMap (es.map En.p) n) (htb : tb < B) (hB : B ≤ w.heap.size) (hn : es.length ≤ 900)
    (hk : ∀ w', Fr [tb] w w' → Rd w' (.slice ka k.length kc) (bv k)) (hkb : By k) (hkl : k.length ≤ 140737488355328) (hv : ∀ w', Fr [tb] w w' → Rd w' (.slice va v.length vc) (bv v)) (hvb : By v) (hvl : v.length ≤ 140737488355328) :
    Calls Tryd.prog 13 #[.pointer (some ⟨tb, 0, none⟩), mv, .agg #[.slice ka k.length kc, .slice va v.length vc]] w fun e w' => StepO w w' B tb g es.length e := by
  have HTT := hid HT
  have HTI := hid ht
  have HM := hid hm
  have HIM := hid im
  have HTB := hid htb
  have HBB := hid hB
  have HNN := hid hn
  have HK := hid hk
  have HKB := hid hkb
  have HV := hid hv
  have HVB := hid hvb
  clear HT ht hm im htb hB hn hk hkb hv hvb
  obtain ⟨nk, hnk⟩ : ∃ n, n = k.length := ⟨_, rfl⟩
  have HNK := hid hnk
  obtain ⟨nv, hnv⟩ : ∃ n, n = v.length := ⟨_, rfl⟩
  have HNV := hid hnv
  rw [← hnk] at HK hkl ⊢
  rw [← hnv] at HV hvl ⊢
  clear hnk hnv
  obtain ⟨W1, hW1⟩ : ∃ W1, W1 = w.alloc (.cells #[.slice ka nk kc, .slice va nv vc] 35) := ⟨_, rfl⟩
  have F1 : Hid (Fr [] w W1) := hid (by rw [hW1]; exact (Fr.refl _ _).alloc _)
  have Z1 : Hid (w.heap.size < W1.heap.size) := hid (by rw [hW1, World.size_alloc]; omega)
  have B1 : Hid (W1.heap[w.heap.size]? = some (.cells #[.slice ka nk kc, .slice va nv vc] 35 (0, 0))) := hid (by rw [hW1]; exact blk_new _ _)
  have CX := hid (fun (w' : World) (f : Fr [tb] W1 w') => show w'.cell? ⟨w.heap.size, 0, none⟩ = some (.slice ka nk kc) ∧ w'.cell? ⟨w.heap.size, 1, none⟩ = some (.slice va nv vc) from by
    have hb := f.at B1.out (by intro hm; have := List.mem_singleton.1 hm; have := HTB.out; have := HBB.out; omega)
    have c0 := blk_cell hb 0
    have c1 := blk_cell hb 1
    simp at c0 c1
    exact ⟨c0, c1⟩)
  go_enter Tryd.func13, Tryd.ntmps13
  go_upto_region 1 with fail
  rw [← hW1]
  clear hW1
  have FQ : Hid (Fr [tb] W1 W1.drew) := hid (Fr.refl _ _).drew
  refine wp_region_held_drew (S := fun w' => w'.cell? ⟨w.heap.size, 0, none⟩ = some (.slice ka nk kc) ∧ w'.cell? ⟨w.heap.size, 1, none⟩ = some (.slice va nv vc)) (by kernel_rfl) (CX.out _ FQ.out) (fun HSS => ?_)
  refine wpAnyH_take (i := 0) (v := .pointer (some ⟨w.heap.size, 0, none⟩)) rfl (by kernel_rfl) (by kernel_rfl) (by kernel_rfl) (fun _ _ _ h => h) (.inl ⟨by rfl, fun wx _ => by go_simp⟩) HSS ?_
  simp only [Act.put, List.getElem_toArray, List.getElem_cons_zero, List.setIfInBounds_toArray, List.set_cons_succ, List.set_cons_zero]
  refine wpAnyH_take (i := 1) (v := .slice ka nk kc) rfl (by kernel_rfl) (by kernel_rfl) (by kernel_rfl) (fun _ _ _ h => h) (.inl ⟨by rfl, fun wx hX => by obtain ⟨x0, x1⟩ := hX; go_simp⟩) HSS ?_
  simp only [Act.put, List.getElem_toArray, List.getElem_cons_succ, List.getElem_cons_zero, List.setIfInBounds_toArray, List.set_cons_succ, List.set_cons_zero]
  refine wpAnyH_take (i := 3) (v := .pointer (some ⟨w.heap.size, 1, none⟩)) rfl (by kernel_rfl) (by kernel_rfl) (by kernel_rfl) (fun _ _ _ h => h) (.inl ⟨by rfl, fun wx _ => by go_simp⟩) HSS ?_
  simp only [Act.put, List.getElem_toArray, List.getElem_cons_succ, List.getElem_cons_zero, List.setIfInBounds_toArray, List.set_cons_succ, List.set_cons_zero]
  refine wpAnyH_take (i := 4) (v := .slice va nv vc) rfl (by kernel_rfl) (by kernel_rfl) (by kernel_rfl) (fun _ _ _ h => h) (.inl ⟨by rfl, fun wx hX => by obtain ⟨x0, x1⟩ := hX; go_simp⟩) HSS ?_
  simp only [Act.put, List.getElem_toArray, List.getElem_cons_succ, List.getElem_cons_zero, List.setIfInBounds_toArray, List.set_cons_succ, List.set_cons_zero]
  clear HSS
  have F1d : Hid (Fr [] w W1.drew) := hid F1.out.drew
  have FW1 : Hid (Fr [] W1 W1.drew) := hid (Fr.refl _ _).drew
  refine wpAnyH_ready (rs := [2]) (by kernel_rfl) (by simp) ?_
  refine AllReadyH.cons rfl (fun K hK => ?_) AllReadyH.nil
  refine step_append_nilS (sx := .slice ka nk kc) rfl (.const (.slice none 0 0)) (.tmp 13) rfl (by simp only [Act.eval]) (by simp [Act.eval]) (ns := k) (HK.out _ (F1d.out.mono (by simp))) (by rw [← HNK.out]; exact hkl) HNK.out ?_
  intro a2 c2 w2 o2 f2
  have O2 := hid o2
  have F2 := hid (F1d.out.trans f2)
  have FW2 := hid (FW1.out.trans f2)
  have Z2 : Hid (W1.heap.size ≤ w2.heap.size) := hid FW2.out.size
  refine hK.out _ _ (CX.out _ (FW2.out.mono (by simp))) (fun HSS => ?_)
  clear hK K o2 f2 HSS
  refine wpAnyH_ready (rs := [5]) (by kernel_rfl) (by simp) ?_
  refine AllReadyH.cons rfl (fun K hK => ?_) AllReadyH.nil
  refine step_append_nilS (sx := .slice va nv vc) rfl (.const (.slice none 0 0)) (.tmp 16) rfl (by simp only [Act.eval]) (by simp [Act.eval, Act.put]) (ns := v) (HV.out _ (F2.out.mono (by simp))) (by rw [← HNV.out]; exact hvl) HNV.out ?_
  intro a3 c3 w3 o3 f3
  have O3 := hid o3
  have O23 := hid (ownsRow_fr O2.out f3)
  have F3 := hid (F2.out.trans f3)
  have FW3 := hid (FW2.out.trans f3)
  have Z3 : Hid (w2.heap.size ≤ w3.heap.size) := hid f3.size
  refine hK.out _ _ (CX.out _ (FW3.out.mono (by simp))) (fun HSS => ?_)
  clear hK K o3 f3
  refine wpAnyH_take (i := 6) (v := .slice a2 nk c2) rfl (by kernel_rfl) (by kernel_rfl) (by kernel_rfl) (fun _ _ _ h => h) (.inl ⟨by rfl, fun wx _ => by go_simp⟩) HSS ?_
  simp only [Act.put, List.getElem_toArray, List.getElem_cons_succ, List.getElem_cons_zero, List.setIfInBounds_toArray, List.set_cons_succ, List.set_cons_zero]
  refine wpAnyH_take (i := 7) (v := .slice a3 nv c3) rfl (by kernel_rfl) (by kernel_rfl) (by kernel_rfl) (fun _ _ _ h => h) (.inl ⟨by rfl, fun wx _ => by go_simp⟩) HSS ?_
  simp only [Act.put, List.getElem_toArray, List.getElem_cons_succ, List.getElem_cons_zero, List.setIfInBounds_toArray, List.set_cons_succ, List.set_cons_zero]
  refine wpAnyH_done (by kernel_rfl) ?_ _
  clear HSS
  have X3 := CX.out _ (FW3.out.mono (show ∀ k ∈ ([] : List Nat), k ∈ [tb] by simp))
  obtain ⟨x0, x1⟩ := X3
  have R2 : Hid (Rd w3 (.slice a2 nk c2) (bv k)) := hid (Rd.ownN (by have := O23.out; rw [← HNK.out] at this; exact this) HNK.out)
  have R3 : Hid (Rd w3 (.slice a3 nv c3) (bv v)) := hid (Rd.ownN (by have := O3.out; rw [← HNV.out] at this; exact this) HNV.out)
  have S2 : Hid (∀ x ∈ (Value.slice a2 nk c2).ownBlock.toList, W1.heap.size ≤ x ∧ x < w2.heap.size) := hid (fun x hx => by have := O2.out.lt x (by simpa using hx); have := FW1.out.size; exact ⟨by omega, by omega⟩)
  have S3 : Hid (∀ x ∈ (Value.slice a3 nv c3).ownBlock.toList, w2.heap.size ≤ x ∧ x < w3.heap.size) := hid (fun x hx => by have := O3.out.lt x (by simpa using hx); exact ⟨by omega, by omega⟩)
  by_cases hk64 : 64 < nk
  · have hk2 : (64 : Int) < (nk : Int) := by omega
    by_cases hv0 : nv = 0
    · subst hv0
      go_wp2_with (first | (go_at_call 31; refine (DelKey_c _ tb hk64).mono ?_; rintro e w4 ⟨rfl, f4⟩; have F34 : Hid (Fr [tb] w3 w4) := hid (f4.mono (by simp)); have TI4 := hid (HTI.out.fr (F3.out.trans f4)); have HS4 : Hid (∀ j, S j → S j ∨ w3.heap.size ≤ j) := hid (fun j h => .inl h); clear f4; have X4 := CX.out _ ((FW3.out.mono (by simp)).trans F34.out); obtain ⟨y0, y1⟩ := X4) | (go_at_call_of 42 (Value.slice a2 nk c2); refine (spoilO_c _ (own_keepF O23.out F34.out (fun x hx hm => by have h1 := S2.out x (by simpa using hx); have := HTB.out; have := HBB.out; have := Z1.out; have := List.mem_singleton.1 hm; omega)) (by have := HNK.out; omega)).mono ?_; rintro e w5 ⟨⟨u5, rfl⟩, f5⟩; have F5 := hid f5; clear f5) | (go_at_call_of 42 (Value.slice a3 0 c3); refine (spoilO_c _ (own_keepF (own_keepF O3.out F34.out (fun x hx hm => by have h1 := S3.out x (by simpa using hx); have := HTB.out; have := HBB.out; have := Z1.out; have := Z2.out; have := List.mem_singleton.1 hm; omega)) F5.out (fun x hx hm => by have h1 := S3.out x (by simpa using hx); have h2 := S2.out x hm; omega)) (by have := HNV.out; omega)).mono ?_; rintro e w6 ⟨⟨u6, rfl⟩, f6⟩; have AS := after_spoil F3.out FW3.out (by have := HTB.out; have := HBB.out; omega) (Nat.le_of_lt Z1.out) Z2.out Z3.out F34.out (fun j hj => HTI.out.ins j hj) HS4.out TI4.out F5.out f6 S2.out S3.out; obtain ⟨ti6, fa6, fb6⟩ := AS; have TI6 := hid ti6; have FA6 := hid fa6; have FB6 := hid fb6; have X6 := CX.out _ fb6; obtain ⟨q0, q1⟩ := X6; clear f6 ti6 fa6 fb6))
      go_ret2
      exact ⟨_, rfl, S, es, n, TI6.out, HM.out.keep FA6.out (fun x hx => by have := List.mem_singleton.1 hx; have := HTB.out; omega), HIM.out, by omega, FA6.out⟩
    · have hv02 : ¬ (nv : Int) = 0 := by omega
      by_cases hv1 : 1024 < nv
      · have hv2 : (1024 : Int) < (nv : Int) := by omega
        go_wp2_with (first | (go_at_call 29; refine (PutKey_c _ tb hk64).mono ?_; rintro e w4 ⟨rfl, f4⟩; have F34 : Hid (Fr [tb] w3 w4) := hid (f4.mono (by simp)); have TI4 := hid (HTI.out.fr (F3.out.trans f4)); have HS4 : Hid (∀ j, S j → S j ∨ w3.heap.size ≤ j) := hid (fun j h => .inl h); clear f4; have X4 := CX.out _ ((FW3.out.mono (by simp)).trans F34.out); obtain ⟨y0, y1⟩ := X4) | (go_at_call_of 42 (Value.slice a2 nk c2); refine (spoilO_c _ (own_keepF O23.out F34.out (fun x hx hm => by have h1 := S2.out x (by simpa using hx); have := HTB.out; have := HBB.out; have := Z1.out; have := List.mem_singleton.1 hm; omega)) (by have := HNK.out; omega)).mono ?_; rintro e w5 ⟨⟨u5, rfl⟩, f5⟩; have F5 := hid f5; clear f5) | (go_at_call_of 42 (Value.slice a3 nv c3); refine (spoilO_c _ (own_keepF (own_keepF O3.out F34.out (fun x hx hm => by have h1 := S3.out x (by simpa using hx); have := HTB.out; have := HBB.out; have := Z1.out; have := Z2.out; have := List.mem_singleton.1 hm; omega)) F5.out (fun x hx hm => by have h1 := S3.out x (by simpa using hx); have h2 := S2.out x hm; omega)) (by have := HNV.out; omega)).mono ?_; rintro e w6 ⟨⟨u6, rfl⟩, f6⟩; have AS := after_spoil F3.out FW3.out (by have := HTB.out; have := HBB.out; omega) (Nat.le_of_lt Z1.out) Z2.out Z3.out F34.out (fun j hj => HTI.out.ins j hj) HS4.out TI4.out F5.out f6 S2.out S3.out; obtain ⟨ti6, fa6, fb6⟩ := AS; have TI6 := hid ti6; have FA6 := hid fa6; have FB6 := hid fb6; have X6 := CX.out _ fb6; obtain ⟨q0, q1⟩ := X6; clear f6 ti6 fa6 fb6))
        go_ret2
        exact ⟨_, rfl, S, es, n, TI6.out, HM.out.keep FA6.out (fun x hx => by have := List.mem_singleton.1 hx; have := HTB.out; omega), HIM.out, by omega, FA6.out⟩
      · have hv2 : ¬ (1024 : Int) < (nv : Int) := by omega
        go_wp2_with (first | (go_at_call 29; refine (PutKey_c _ tb hk64).mono ?_; rintro e w4 ⟨rfl, f4⟩; have F34 : Hid (Fr [tb] w3 w4) := hid (f4.mono (by simp)); have TI4 := hid (HTI.out.fr (F3.out.trans f4)); have HS4 : Hid (∀ j, S j → S j ∨ w3.heap.size ≤ j) := hid (fun j h => .inl h); clear f4; have X4 := CX.out _ ((FW3.out.mono (by simp)).trans F34.out); obtain ⟨y0, y1⟩ := X4) | (go_at_call_of 42 (Value.slice a2 nk c2); refine (spoilO_c _ (own_keepF O23.out F34.out (fun x hx hm => by have h1 := S2.out x (by simpa using hx); have := HTB.out; have := HBB.out; have := Z1.out; have := List.mem_singleton.1 hm; omega)) (by have := HNK.out; omega)).mono ?_; rintro e w5 ⟨⟨u5, rfl⟩, f5⟩; have F5 := hid f5; clear f5) | (go_at_call_of 42 (Value.slice a3 nv c3); refine (spoilO_c _ (own_keepF (own_keepF O3.out F34.out (fun x hx hm => by have h1 := S3.out x (by simpa using hx); have := HTB.out; have := HBB.out; have := Z1.out; have := Z2.out; have := List.mem_singleton.1 hm; omega)) F5.out (fun x hx hm => by have h1 := S3.out x (by simpa using hx); have h2 := S2.out x hm; omega)) (by have := HNV.out; omega)).mono ?_; rintro e w6 ⟨⟨u6, rfl⟩, f6⟩; have AS := after_spoil F3.out FW3.out (by have := HTB.out; have := HBB.out; omega) (Nat.le_of_lt Z1.out) Z2.out Z3.out F34.out (fun j hj => HTI.out.ins j hj) HS4.out TI4.out F5.out f6 S2.out S3.out; obtain ⟨ti6, fa6, fb6⟩ := AS; have TI6 := hid ti6; have FA6 := hid fa6; have FB6 := hid fb6; have X6 := CX.out _ fb6; obtain ⟨q0, q1⟩ := X6; clear f6 ti6 fa6 fb6))
        go_ret2
        exact ⟨_, rfl, S, es, n, TI6.out, HM.out.keep FA6.out (fun x hx => by have := List.mem_singleton.1 hx; have := HTB.out; omega), HIM.out, by omega, FA6.out⟩
  · have hk2 : ¬ (64 : Int) < (nk : Int) := by omega
    by_cases hv0 : nv = 0
    · subst hv0
      have hvn : v = [] := List.eq_nil_of_length_eq_zero HNV.out.symm
      go_wp2_with (first | (go_at_call 31; refine (Delete_c _ (HTT.out _ (F3.out.mono (by simp))) (HTI.out.fr F3.out) HIM.out.can R2.out HKB.out (by have := HNK.out; omega)).mono ?_; rintro e w4 ⟨rfl, ⟨S4, ti4, hs4⟩, f4⟩; have F34 := hid f4; have TI4 := hid ti4; have HS4 := hid hs4; clear f4 ti4 hs4; have X4 := CX.out _ ((FW3.out.mono (by simp)).trans F34.out); obtain ⟨y0, y1⟩ := X4) | (go_at_call_of 42 (Value.slice a2 nk c2); refine (spoilO_c _ (own_keepF O23.out F34.out (fun x hx hm => by have h1 := S2.out x (by simpa using hx); have := HTB.out; have := HBB.out; have := Z1.out; have := List.mem_singleton.1 hm; omega)) (by have := HNK.out; omega)).mono ?_; rintro e w5 ⟨⟨u5, rfl⟩, f5⟩; have F5 := hid f5; clear f5) | (go_at_call_of 42 (Value.slice a3 0 c3); refine (spoilO_c _ (own_keepF (own_keepF O3.out F34.out (fun x hx hm => by have h1 := S3.out x (by simpa using hx); have := HTB.out; have := HBB.out; have := Z1.out; have := Z2.out; have := List.mem_singleton.1 hm; omega)) F5.out (fun x hx hm => by have h1 := S3.out x (by simpa using hx); have h2 := S2.out x hm; omega)) (by have := HNV.out; omega)).mono ?_; rintro e w6 ⟨⟨u6, rfl⟩, f6⟩; have AS := after_spoil F3.out FW3.out (by have := HTB.out; have := HBB.out; omega) (Nat.le_of_lt Z1.out) Z2.out Z3.out F34.out (fun j hj => HTI.out.ins j hj) HS4.out TI4.out F5.out f6 S2.out S3.out; obtain ⟨ti6, fa6, fb6⟩ := AS; have TI6 := hid ti6; have FA6 := hid fa6; have FB6 := hid fb6; have X6 := CX.out _ fb6; obtain ⟨q0, q1⟩ := X6; clear f6 ti6 fa6 fb6) | (go_at_call 28; refine (rput_c _ (HM.out.keep FA6.out (fun x hx => by have := List.mem_singleton.1 hx; have := HTB.out; omega)) (Nat.le_trans HBB.out FA6.out.size) (by have := HNN.out; omega) (HK.out _ FA6.out) HKB.out (by have := HNK.out; omega) (HV.out _ FA6.out) HVB.out (by have := HNV.out; omega)).mono ?_; rintro e w7 ⟨mv7, rfl, es7, h7, e7, f7⟩; have H7 := hid h7; have E7 := hid e7; have F7 := hid f7; clear h7 e7 f7))
      go_ret2
      exact ⟨mv7, rfl, S4, es7, remT n (nibF k), TI6.out.fr F7.out, H7.out, by rw [E7.out]; rw [hvn]; exact HIM.out.rem HKB.out (by have := HNK.out; omega), map_len E7.out, FA6.out.trans (F7.out.mono (by simp))⟩
    · have hv02 : ¬ (nv : Int) = 0 := by omega
      by_cases hv1 : 1024 < nv
      · have hv2 : (1024 : Int) < (nv : Int) := by omega
        go_wp2_with (first | (go_at_call 29; refine (PutVal_c _ tb (by omega) hv1).mono ?_; rintro e w4 ⟨rfl, f4⟩; have F34 : Hid (Fr [tb] w3 w4) := hid (f4.mono (by simp)); have TI4 := hid (HTI.out.fr (F3.out.trans f4)); have HS4 : Hid (∀ j, S j → S j ∨ w3.heap.size ≤ j) := hid (fun j h => .inl h); clear f4; have X4 := CX.out _ ((FW3.out.mono (by simp)).trans F34.out); obtain ⟨y0, y1⟩ := X4) | (go_at_call_of 42 (Value.slice a2 nk c2); refine (spoilO_c _ (own_keepF O23.out F34.out (fun x hx hm => by have h1 := S2.out x (by simpa using hx); have := HTB.out; have := HBB.out; have := Z1.out; have := List.mem_singleton.1 hm; omega)) (by have := HNK.out; omega)).mono ?_; rintro e w5 ⟨⟨u5, rfl⟩, f5⟩; have F5 := hid f5; clear f5) | (go_at_call_of 42 (Value.slice a3 nv c3); refine (spoilO_c _ (own_keepF (own_keepF O3.out F34.out (fun x hx hm => by have h1 := S3.out x (by simpa using hx); have := HTB.out; have := HBB.out; have := Z1.out; have := Z2.out; have := List.mem_singleton.1 hm; omega)) F5.out (fun x hx hm => by have h1 := S3.out x (by simpa using hx); have h2 := S2.out x hm; omega)) (by have := HNV.out; omega)).mono ?_; rintro e w6 ⟨⟨u6, rfl⟩, f6⟩; have AS := after_spoil F3.out FW3.out (by have := HTB.out; have := HBB.out; omega) (Nat.le_of_lt Z1.out) Z2.out Z3.out F34.out (fun j hj => HTI.out.ins j hj) HS4.out TI4.out F5.out f6 S2.out S3.out; obtain ⟨ti6, fa6, fb6⟩ := AS; have TI6 := hid ti6; have FA6 := hid fa6; have FB6 := hid fb6; have X6 := CX.out _ fb6; obtain ⟨q0, q1⟩ := X6; clear f6 ti6 fa6 fb6))
        go_ret2
        exact ⟨_, rfl, S, es, n, TI6.out, HM.out.keep FA6.out (fun x hx => by have := List.mem_singleton.1 hx; have := HTB.out; omega), HIM.out, by omega, FA6.out⟩
      · have hv2 : ¬ (1024 : Int) < (nv : Int) := by omega
        go_wp2_with (first | (go_at_call 29; refine (Put_c _ (HTT.out _ (F3.out.mono (by simp))) (HTI.out.fr F3.out) R2.out HKB.out (by have := HNK.out; omega) R3.out HVB.out (by have := HNV.out; omega) (by have := HNV.out; omega)).mono ?_; rintro e w4 ⟨rfl, ⟨S4, ti4, hs4⟩, f4⟩; have F34 := hid f4; have TI4 := hid ti4; have HS4 := hid hs4; clear f4 ti4 hs4; have X4 := CX.out _ ((FW3.out.mono (by simp)).trans F34.out); obtain ⟨y0, y1⟩ := X4) | (go_at_call_of 42 (Value.slice a2 nk c2); refine (spoilO_c _ (own_keepF O23.out F34.out (fun x hx hm => by have h1 := S2.out x (by simpa using hx); have := HTB.out; have := HBB.out; have := Z1.out; have := List.mem_singleton.1 hm; omega)) (by have := HNK.out; omega)).mono ?_; rintro e w5 ⟨⟨u5, rfl⟩, f5⟩; have F5 := hid f5; clear f5) | (go_at_call_of 42 (Value.slice a3 nv c3); refine (spoilO_c _ (own_keepF (own_keepF O3.out F34.out (fun x hx hm => by have h1 := S3.out x (by simpa using hx); have := HTB.out; have := HBB.out; have := Z1.out; have := Z2.out; have := List.mem_singleton.1 hm; omega)) F5.out (fun x hx hm => by have h1 := S3.out x (by simpa using hx); have h2 := S2.out x hm; omega)) (by have := HNV.out; omega)).mono ?_; rintro e w6 ⟨⟨u6, rfl⟩, f6⟩; have AS := after_spoil F3.out FW3.out (by have := HTB.out; have := HBB.out; omega) (Nat.le_of_lt Z1.out) Z2.out Z3.out F34.out (fun j hj => HTI.out.ins j hj) HS4.out TI4.out F5.out f6 S2.out S3.out; obtain ⟨ti6, fa6, fb6⟩ := AS; have TI6 := hid ti6; have FA6 := hid fa6; have FB6 := hid fb6; have X6 := CX.out _ fb6; obtain ⟨q0, q1⟩ := X6; clear f6 ti6 fa6 fb6) | (go_at_call 28; refine (rput_c _ (HM.out.keep FA6.out (fun x hx => by have := List.mem_singleton.1 hx; have := HTB.out; omega)) (Nat.le_trans HBB.out FA6.out.size) (by have := HNN.out; omega) (HK.out _ FA6.out) HKB.out (by have := HNK.out; omega) (HV.out _ FA6.out) HVB.out (by have := HNV.out; omega)).mono ?_; rintro e w7 ⟨mv7, rfl, es7, h7, e7, f7⟩; have H7 := hid h7; have E7 := hid e7; have F7 := hid f7; clear h7 e7 f7))
        go_ret2
        exact ⟨mv7, rfl, S4, es7, putT n (nibF k) v, TI6.out.fr F7.out, H7.out, by rw [E7.out]; exact HIM.out.put HKB.out (by have := HNK.out; omega) HVB.out (by have := HNV.out; omega) (by have := HNV.out; omega), map_len E7.out, FA6.out.trans (F7.out.mono (by simp))⟩
end Go.Proofs.YtmpfnglcmaollaaDoor
namespace Go.Proofs.YtmpfnglcmaollaaDoor
open Go.ChangeShapes Go.WideShapes Go.ChangeAt Go.RowKit

theorem str_beq {a b : List Nat} (ha : By a) (hb : By b) : ((strOf a).toList == (strOf b).toList) = decide (a = b) := by
  by_cases h : a = b
  · subst h; simp
  · rw [decide_eq_false h]
    exact beq_eq_false_iff_ne.2 fun e => h (strOf_inj ha hb (by
      rw [ByteArray.toList_eq, ByteArray.toList_eq] at e
      exact ByteArray.ext (Array.toList_inj.1 e)))
/-- What Find tells: a value of the row, or nothing. -/
def FindO (es : List En) (k : List Nat) (v : Value) (b : Bool) : Prop :=
  (b = true ∧ ∃ e ∈ es, e.k = k ∧ v = e.vv) ∨ (b = false ∧ ∀ e ∈ es, e.k ≠ k)
set_option maxRecDepth 20000 in
set_option maxHeartbeats 3200000 in
theorem rfind_c (w : World) {B : Nat} {lv kv : Value} {es : List En} {k : List Nat} (h : EsO w B lv es) (hn : es.length ≤ 1000000) (hk : Rd w kv (bv k)) (hkb : By k) :
    Calls Tryd.prog 30 #[lv, kv] w fun e w' => (∃ v b, e = .returned (.tuple #[v, .bool b]) ∧ FindO es k v b) ∧ Fr [] w w' := by
  obtain ⟨ka, kc, e1⟩ := hk.form
  rw [bv_len] at e1
  subst e1
  have AT := hid (fun (i : Nat) (x : En) (hx : es[i]? = some x) => h.at' hx)
  have H := hid h
  have HK := hid hk
  have HKB := hid hkb
  obtain ⟨la, lc, hlv⟩ : ∃ la lc, lv = .slice la es.length lc := by
    rcases h.1.2 with ⟨rfl, h0⟩ | ⟨g, cap, cur, e0, _⟩
    · exact ⟨none, 0, by rw [h0]⟩
    · exact ⟨_, _, e0⟩
  subst hlv
  clear h hk hkb
  obtain ⟨n, hnn⟩ : ∃ n, n = es.length := ⟨_, rfl⟩
  have HN := hid hnn
  rw [← hnn] at hn AT ⊢
  clear hnn
  obtain ⟨nk, hnk⟩ : ∃ n, n = k.length := ⟨_, rfl⟩
  have HNK := hid hnk
  rw [← hnk] at HK ⊢
  clear hnk
  go_enter Tryd.func30, Tryd.ntmps30
  go_wp2_with fail
  go_loopw [6] (fun v6 wr => ∃ i : Nat, i ≤ n ∧ v6 = .int .i64 (i : Int) ∧ (∀ j x, j < i → es[j]? = some x → x.k ≠ k) ∧ Fr [] w wr) (fun v6 _ => n - (intOf v6).toNat)
  case atStart => exact ⟨0, Nat.zero_le _, rfl, (fun j x h => by omega), Fr.refl _ _⟩
  case round =>
    obtain ⟨i, hi, rfl, hlo, hf⟩ := hrel
    have HF := hid hf
    have HLO := hid hlo
    clear hf hlo
    by_cases hlt : i < n
    · obtain ⟨x, hx⟩ : ∃ x, es[i]? = some x := ⟨_, List.getElem?_eq_getElem (by rw [← HN.out]; exact hlt)⟩
      obtain ⟨g', c', e', c0, c1, hen⟩ := AT.out i x hx
      simp only [Value.slice.injEq, true_and] at e'
      obtain ⟨rfl, _⟩ := e'
      have z0 := cell_fr c0 HF.out
      have z1 := cell_fr c1 HF.out
      obtain ⟨xa, xc, hxk, _⟩ := ownsRow_slice hen.ok
      have EN := hid hen
      have HX := hid hx
      have RX : Hid (Rd w (.slice xa x.k.length xc) (bv x.k)) := hid (by rw [← hxk]; exact Rd.ownB hen.ok)
      rw [hxk] at z0
      have hii : (i : Int) < (n : Int) := by omega
      have g1 := fun m : Nat => run_conv ((RX.out.fr HF.out).fr ((Fr.refl [] wr).drewN m))
      have g2 := fun m : Nat => run_conv ((HK.out.fr HF.out).fr ((Fr.refl [] wr).drewN m))
      have HB := hid (str_beq hen.bk HKB.out)
      clear c0 c1 hen hx hxk
      by_cases hq : x.k = k
      · have hb : ((strOf x.k).toList == (strOf k).toList) = true := by rw [HB.out]; exact decide_eq_true hq
        clear HB RX EN
        generalize strOf x.k = s1 at *
        generalize strOf k = s2 at *
        generalize x.k.length = nx at *
        go_upto_region 4 with fail
        go_quiet (fail)
        go_wp2_with fail
        go_ret2
        exact ⟨⟨x.vv, true, rfl, .inl ⟨rfl, x, List.mem_of_getElem? HX.out, hq, rfl⟩⟩, HF.out.drewN _⟩
      · have hb : ((strOf x.k).toList == (strOf k).toList) = false := by rw [HB.out]; exact decide_eq_false hq
        clear HB RX EN
        generalize strOf x.k = s1 at *
        generalize strOf k = s2 at *
        generalize x.k.length = nx at *
        go_upto_region 4 with fail
        go_quiet (fail)
        go_wp2
        refine ⟨⟨i + 1, by omega, by go_num, fun j y hj hy => ?_, HF.out.drewN _⟩, by simp [intOf]; omega⟩
        rcases Nat.lt_or_ge j i with h | h
        · exact HLO.out j y h hy
        · obtain rfl : j = i := by omega
          rw [HX.out] at hy
          cases hy
          exact hq
    · have hin : i = n := by omega
      go_wp2_with fail
      go_ret2
      refine ⟨⟨_, false, rfl, .inr ⟨rfl, fun e he hk => ?_⟩⟩, HF.out⟩
      obtain ⟨j, hj⟩ := List.getElem?_of_mem he
      exact HLO.out j e (by have := (List.getElem?_eq_some_iff.1 hj).1; have := HN.out; omega) hj hk
end Go.Proofs.YtmpfnglcmaollaaDoor
