/-
  Root and Get.
-/
import Derived.Test.YtdcocgjlfhicaaaDoorJ41
namespace Go.Proofs.YtdcocgjlfhicaaaDoor
open Go.ChangeShapes Go.WideShapes Go.ChangeAt Go.RowKit

theorem strL_32 {h : List Nat} (hl : h.length = 32) : strL h = 160 :: h := by
  unfold strL headL
  rw [if_neg (by omega), if_pos (by omega), hl]
  rfl
theorem headL_at (b n : Nat) : ∃ x r, headL b n = x :: r ∧ b ≤ x := by
  unfold headL
  split
  · exact ⟨_, _, rfl, by omega⟩
  · exact ⟨_, _, rfl, by omega⟩
theorem strL_inj32 {b h : List Nat} (hl : h.length = 32) (e : strL b = strL h) : b = h := by
  have e2 := congrArg List.length e
  rw [strL_32 hl] at e e2
  simp only [List.length_cons, hl] at e2
  unfold strL at e e2
  split at e
  · rename_i hc
    rw [if_pos hc] at e2
    omega
  · rename_i hc
    rw [if_neg hc, List.length_append] at e2
    unfold headL at e e2
    split at e
    · rename_i h55
      rw [if_pos h55] at e2
      simp at e
      exact e.2
    · rename_i h55
      rw [if_neg h55] at e2
      simp at e2
      omega
/-- A reference by hash, in memory. -/
theorem ItV.hash {n : Nat} {w : World} {v : Value} {h : List Nat} {d c : Nat} (it : ItV (n + 1) w v (strL h) d c) (hl : h.length = 32) : ∃ a k i, v = .agg #[.bool false, .slice (some a) 32 k, i] ∧ Rd w (.slice (some a) 32 k) (bv h) := by
  obtain ⟨t, ⟨bs, ka, kc, h1, h2, _⟩, e, _⟩ := it
  have e' : (if tL t = true then headL 192 ((tK t).flatMap (enc n)).length ++ (tK t).flatMap (enc n) else strL (tB t)) = strL h := e
  by_cases hL : tL t = true
  · rw [if_pos hL, strL_32 hl] at e'
    obtain ⟨x, r, e1, e2⟩ := headL_at 192 ((tK t).flatMap (enc n)).length
    rw [e1] at e'
    simp at e'
    omega
  · rw [if_neg hL] at e'
    have eb := strL_inj32 hl e'
    rw [eb] at h2
    have hLf : tL t = false := by cases hx : tL t <;> simp_all
    rw [hLf] at h1
    rcases h2 with ⟨rfl, h0⟩ | ⟨a, k, rfl, h3, h4⟩
    · have := congrArg List.length h0
      rw [bv_len, hl] at this
      cases this
    · rw [bv_len, hl] at h1
      refine ⟨a, k, _, h1, ?_⟩
      refine .inr ⟨a, k, by rw [bv_len, hl], h3, h4⟩
set_option maxRecDepth 20000 in
set_option maxHeartbeats 3200000 in
theorem Root_c (w : World) {S : Nat → Prop} {tb : Nat} {g : Value} {n : Nd} (ht : TrieI S w tb g n) (hn : n ≠ .nil) {y : List Nat} (hy : refE n = strL (hshF y)) :
    Calls Tryd.prog 25 #[.pointer (some ⟨tb, 0, none⟩)] w fun e w' => e = .returned (.agg (bvals 32 (hashOf y))) ∧ Fr [] w w' := by
  obtain ⟨⟨rv, hB, hN⟩, hno, hi, hok⟩ := ht
  obtain ⟨T, x, l, a1, n1, c1, a2, n2, c2, rfl, hm, d, _, _, hI⟩ := hN.meth hn hok.own
  rw [hy] at hI
  obtain ⟨a, k, i, e, _⟩ := hI.now.hash (hshF_len y)
  simp only [Value.agg.injEq, Array.mk.injEq, List.cons.injEq, and_true, Value.bool.injEq, Value.slice.injEq] at e
  obtain ⟨rfl, ⟨rfl, rfl, rfl⟩, rfl⟩ := e
  have c0 := blk_cell hB 0
  simp at c0
  have C0 := hid (fun (w' : World) (f : Fr [] w w') => cell_fr c0 f)
  have HM := hid (fun (w' : World) (f : Fr [] w w') => hm w' (hi.agr f))
  have HO := hid (fun (w' : World) (f : Fr [] w w') => hashOfStr_c (a2 := a2) (n2 := n2) (c2 := c2) w' (a := a) (c := c1) (y := y) (by
    obtain ⟨a', k', i', e, h⟩ := (hI w' (hi.agr f)).hash (hshF_len y)
    simp only [Value.agg.injEq, Array.mk.injEq, List.cons.injEq, and_true, true_and, Value.slice.injEq, Option.some.injEq] at e
    obtain ⟨⟨rfl, rfl⟩, _⟩ := e
    exact h))
  clear hB hN hno hi hok hm hI c0 hn hy
  go_enter Tryd.func25, Tryd.ntmps25
  go_upto_region 1 with fail
  rw [zero32]
  have HR : Hid ((w.alloc (.cells (bvals 32 (fun _ => 0)) 36)).heap[w.heap.size]? = some (.cells (bvals 32 (fun _ => 0)) 36 (0, 0))) := blk_new _ _
  have HF : Hid (Fr [] w (w.alloc (.cells (bvals 32 (fun _ => 0)) 36))) := (Fr.refl _ _).alloc _
  generalize w.alloc (.cells (bvals 32 (fun _ => 0)) 36) = w1 at HR HF ⊢
  have c0 := C0.out _ HF.out
  have mL := HM.out _ HF.out
  go_wp2_with fail
  refine (sealedRef_c _).mono ?_
  rintro e w2 ⟨rfl, f2⟩
  have HR2 := hid (blk_frT HR.out f2)
  have F2 := hid (HF.out.trans f2)
  clear f2 mL c0
  rename_i hK
  refine hK _ _ ?_
  clear hK
  go_wp2_with fail
  refine (HO.out _ F2.out).mono ?_
  rintro e w3 ⟨rfl, f3⟩
  have HR3 := hid (blk_frT HR2.out f3)
  have F3 := hid (F2.out.trans f3)
  clear f3
  rename_i hK
  refine hK _ _ ?_
  refine wpList_stH (g := hashOf y) rfl (.tmp 2) (.tmp 14) rfl HR3.out (by simp [Act.eval]) (by simp [Act.eval]) ?_
  have RH := hid (brow_heap (g := hashOf y) HR3.out)
  have RF := hid (F3.out.rowT (bvals 32 (hashOf y)) (.inr (Nat.le_refl w.heap.size)))
  generalize World.setRow w3 w.heap.size (bvals 32 (hashOf y)) = w7 at RH RF ⊢
  clear HR3 F3 hK
  go_wp2
  exact bodyPost_ret (v := .agg (bvals 32 (hashOf y))) (retH rfl RH.out rfl) rfl ⟨rfl, RF.out⟩
set_option maxRecDepth 20000 in
set_option maxHeartbeats 3200000 in
theorem Get_c (w : World) {S : Nat → Prop} {tb : Nat} {g : Value} {n : Nd} (ht : TrieI S w tb g n) {kv : Value} {k : List Nat} (hk : Rd w kv (bv k)) (hkb : By k) (hkl : k.length ≤ 64) (hfl : (findN n (nibF k)).length ≤ 100000) :
    Calls Tryd.prog 36 #[.pointer (some ⟨tb, 0, none⟩), kv] w fun e w' => ∃ v', e = .returned (.tuple #[v', .bool (decide (0 < (findN n (nibF k)).length)), .int .i64 0]) ∧ Rd w' v' (bv (findN n (nibF k))) ∧ Fr [] w w' := by
  obtain ⟨ka, kc, e1⟩ := hk.form
  rw [bv_len] at e1
  subst e1
  have hnl := nibF_len k
  have NB := hid (nib_c w hk hkb (by omega))
  have FI := hid (fun (w1 : World) (f : Fr [] w w1) (v : Value) (h : Rd w1 v (bv (nibF k))) => find_c w1 (ht.fr f) h (nibF_nb hkb) (by omega))
  obtain ⟨nk, hnk⟩ : ∃ n, n = k.length := ⟨_, rfl⟩
  rw [← hnk] at NB hkl
  rw [← hnk]
  have h64 : ¬ (64 : Int) < (nk : Int) := by omega
  obtain ⟨xs, hxs⟩ : ∃ xs, xs = findN n (nibF k) := ⟨_, rfl⟩
  rw [← hxs] at FI hfl ⊢
  have HFL := hid hfl
  clear hk ht hkb hnl hnk hxs hkl hfl
  go_enter Tryd.func36, Tryd.ntmps36
  go_upto_region 4 with (first
    | (go_at_call 13; refine NB.out.mono ?_; rintro e w1 ⟨pv, rfl, O1, f1⟩; have F1 := hid f1; have R1 := hid (Rd.ownB O1); clear O1 f1 NB)
    | (go_at_call 61; refine (FI.out _ F1.out _ R1.out).mono ?_; rintro e w2 ⟨xv, rfl, r2, f2⟩; have F2 := hid (F1.out.trans f2); have R2 := hid r2; clear r2 f2 FI))
  obtain ⟨xa, xc, e2⟩ := R2.out.form
  rw [bv_len] at e2
  subst e2
  have CL := hid (clone_c R2.out (by have := HFL.out; omega))
  obtain ⟨nx, hnx⟩ : ∃ n, n = xs.length := ⟨_, rfl⟩
  rw [← hnx] at R2 CL ⊢
  have HNX := hid hnx
  clear hnx
  by_cases h0 : 0 < nx
  · have h0' : (0 : Int) < (nx : Int) := by omega
    go_wp2_with (go_at_call 42; refine CL.out.mono ?_; rintro e w3 ⟨v', rfl, O3, f3⟩; have F3 := hid (F2.out.trans f3); have R3 := hid (Rd.ownB (HNX.out ▸ O3)); clear O3 f3)
    go_ret3
    exact ⟨_, by rw [← HNX.out, decide_eq_true h0]; rfl, R3.out, F3.out⟩
  · have h0' : ¬ (0 : Int) < (nx : Int) := by omega
    go_wp2_with (go_at_call 42; refine CL.out.mono ?_; rintro e w3 ⟨v', rfl, O3, f3⟩; have F3 := hid (F2.out.trans f3); have R3 := hid (Rd.ownB (HNX.out ▸ O3)); clear O3 f3)
    go_ret3
    exact ⟨_, by rw [← HNX.out, decide_eq_false h0]; rfl, R3.out, F3.out⟩
end Go.Proofs.YtdcocgjlfhicaaaDoor
namespace Go.Proofs.YtdcocgjlfhicaaaDoor
open Go.ChangeShapes Go.WideShapes Go.ChangeAt Go.RowKit

set_option maxRecDepth 20000 in
set_option maxHeartbeats 3200000 in
theorem open_c (w : World) (HT : Tabs w) (f : Nat → Nat) (hf : f = hashOf [128]) (fn : Fn) (fs cs : Array Value) :
    Calls Tryd.prog 43 #[.agg (bvals 32 f), .func fn fs cs] w fun e w' => ∃ tb, e = .returned (.pointer (some ⟨tb, 0, none⟩)) ∧ w.heap.size ≤ tb ∧ w'.heap[tb]? = some (.cells #[.nilIface, .func fn fs cs] 91 (0, 0)) ∧ Fr [] w w' := by
  obtain ⟨W0, hW0⟩ : ∃ W0, W0 = w.alloc (.cells (bvals 32 f) 36) := ⟨_, rfl⟩
  obtain ⟨W1, hW1⟩ : ∃ W1, W1 = W0.alloc (.cells #[.nilIface, .func fn fs cs] 91) := ⟨_, rfl⟩
  have F0 : Hid (Fr [] w W0) := hid (by rw [hW0]; exact (Fr.refl _ _).alloc _)
  have F1 : Hid (Fr [] w W1) := hid (by rw [hW1]; exact F0.out.alloc _)
  have B0 : Hid (W1.heap[w.heap.size]? = some (.cells (bvals 32 f) 36 (0, 0))) := hid (by rw [hW1, blk_old _ _ (by rw [hW0]; simp), hW0]; exact blk_new _ _)
  have B1 : Hid (W1.heap[W0.heap.size]? = some (.cells #[.nilIface, .func fn fs cs] 91 (0, 0))) := hid (by rw [hW1]; exact blk_new _ _)
  have EM := hid (empty_c W1.drew (HT.fr F1.out.drew))
  rw [← hf] at EM
  clear HT hf
  go_enter Tryd.func43, Tryd.ntmps43
  go_upto_region 1 with fail
  rw [← hW0]
  clear hW0
  go_upto_region 2 with fail
  rw [← hW1]
  clear hW1
  refine wp_region_held_drew (S := fun w' => w'.heap[w.heap.size]? = some (.cells (bvals 32 f) 36 (0, 0))) (by kernel_rfl) (by rw [blk_drew]; exact B0.out) (fun hS => ?_)
  refine wpAnyH_take (i := 0) (v := .agg (bvals 32 f)) rfl (by kernel_rfl) (by kernel_rfl) (by kernel_rfl) (fun _ _ _ h => h) (.inl ⟨by rfl, fun wx hX => by
    have x0 := ldVar32 hX
    simp [execOp, Act.eval, Instr.loadAt, Instr.sureAddr, x0]⟩) hS ?_
  simp only [Act.put]
  refine wpAnyH_ready (rs := [1]) (by kernel_rfl) (by simp) ?_
  refine AllReadyH.cons rfl (fun K hK => ?_) AllReadyH.nil
  go_simp
  refine EM.out.mono ?_
  rintro e w2 ⟨rfl, f2⟩
  have F2 := hid (F1.out.drew.trans f2)
  have hS2 : w2.heap[w.heap.size]? = some (.cells (bvals 32 f) 36 (0, 0)) := blk_frT hS f2
  have B2 : Hid (w2.heap[W0.heap.size]? = some (.cells #[.nilIface, .func fn fs cs] 91 (0, 0))) := hid (blk_frT (by rw [blk_drew]; exact B1.out) f2)
  clear f2
  go_simp
  refine hK.out _ _ hS2 (fun _ => ?_)
  clear hK K
  refine wpAnyH_take (i := 2) (v := .bool false) rfl (by kernel_rfl) (by kernel_rfl) (by kernel_rfl) (fun _ _ _ h => h) (.inl ⟨by rfl, fun wx _ => by
    have x0 := eqIn32 wx f f (fun _ _ => rfl)
    go_simp⟩) hS2 ?_
  simp only [Act.put]
  refine wpAnyH_done (by kernel_rfl) ?_ _
  clear hS hS2
  go_wp2
  go_ret
  exact ⟨_, rfl, F0.out.size, B2.out, F2.out⟩
set_option maxRecDepth 20000 in
set_option maxHeartbeats 3200000 in
theorem new_cT (w : World) (HT : Tabs w) (f : Nat → Nat) (hf : f = hashOf [128]) :
    Calls Tryd.prog 19 #[.agg (bvals 32 f), .slice none 0 0] w fun e w' => ∃ tb g, e = .returned (.pointer (some ⟨tb, 0, none⟩)) ∧ TrieI (fun _ => False) w' tb g .nil ∧ w.heap.size ≤ tb ∧ Fr [] w w' := by
  have hmm := @run_makeMap Tryd.prog
  obtain ⟨W0, hW0⟩ : ∃ W0, W0 = w.alloc (.cells (bvals 32 f) 36) := ⟨_, rfl⟩
  have F0 : Hid (Fr [] w W0) := hid (by rw [hW0]; exact (Fr.refl _ _).alloc _)
  have B0 : Hid (W0.heap[w.heap.size]? = some (.cells (bvals 32 f) 36 (0, 0))) := hid (by rw [hW0]; exact blk_new _ _)
  have HTH := hid HT
  have HFH := hid hf
  clear HT hf
  go_enter Tryd.func19, Tryd.ntmps19
  go_upto_region 1 with fail
  rw [← hW0]
  clear hW0
  go_upto_region 2 with fail
  obtain ⟨W2, hW2⟩ : ∃ W2, W2 = (W0.alloc (.map #[] 0)).alloc (.cells #[.map (some W0.heap.size)] 79) := ⟨_, rfl⟩
  have F2 : Hid (Fr [] w W2) := hid (by rw [hW2]; exact (F0.out.alloc _).alloc _)
  have B2 : Hid (W2.heap[w.heap.size]? = some (.cells (bvals 32 f) 36 (0, 0))) := hid (by
    have h1 := (Array.getElem?_eq_some_iff.1 B0.out).1
    rw [hW2, blk_old _ _ (by simp; omega), blk_old _ _ h1]; exact B0.out)
  rw [← hW2]
  clear hW2 hmm
  go_wp2_with fail
  go_loopw [13] (fun v13 wr => v13 = .int .i64 0 ∧ Fr [] W2 wr) (fun _ _ => 0)
  case atStart => exact ⟨rfl, Fr.refl _ _⟩
  case round =>
    obtain ⟨rfl, hf⟩ := hrel
    have F3 := hid (F2.out.trans hf)
    have B3 := hid (blk_frT B2.out hf)
    clear hf F2 B2 F0 B0
    go_upto_region 9 with fail
    apply wp_region_lit
    refine wpList_ldH rfl (.tmp 2) rfl B3.out (by simp [Act.eval]) ?_
    simp only [Act.put]
    have OP := hid (open_c wr (HTH.out.fr F3.out) f HFH.out (.func 44) #[] #[.pointer (some ⟨W0.heap.size + 1, 0, none⟩)])
    go_wp2_with (go_at_call 43; refine OP.out.mono ?_; rintro e w4 ⟨tb, rfl, hb, B4, f4⟩; have HB := hid hb; have HB4 := hid B4; have F4 := hid (F3.out.trans f4); clear hb B4 f4)
    go_ret
    refine ⟨tb, _, rfl, ⟨⟨_, HB4.out, rfl⟩, fun h => h, fun k h => h.elim, trivial⟩, by have := HB.out; have := F3.out.size; omega, F4.out⟩
end Go.Proofs.YtdcocgjlfhicaaaDoor
