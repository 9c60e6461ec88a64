/-
  Root and Get.
-/
import Derived.Test.YtmpfnglcmaollaaDoorJ27
import Derived.Test.YtmpfnglcmaollaaDoorJ31
import Derived.Test.YtmpfnglcmaollaaDoorJ01
import Derived.Lib.Bytealg
import Derived.Lib.BytesEntry
import Derived.Laws.Externs
namespace Go.Proofs.YtmpfnglcmaollaaDoor
open Go.ChangeShapes Go.WideShapes Go.ChangeAt Go.RowKit

theorem strL_32 {h : List Nat} (hl : h.length = 32) : strL h = 160 :: h := by
  unfold strL headL
  rw [if_neg (by omega), if_pos (by omega), hl]
  rfl
theorem headL_at (b n : Nat) : ∃ x r, headL b n = x :: r ∧ b ≤ x := by
  unfold headL
  split
  · exact ⟨_, _, rfl, by omega⟩
  · exact ⟨_, _, rfl, by omega⟩
theorem strL_inj32 {b h : List Nat} (hl : h.length = 32) (e : strL b = strL h) : b = h := by
  have e2 := congrArg List.length e
  rw [strL_32 hl] at e e2
  simp only [List.length_cons, hl] at e2
  unfold strL at e e2
  split at e
  · rename_i hc
    rw [if_pos hc] at e2
    omega
  · rename_i hc
    rw [if_neg hc, List.length_append] at e2
    unfold headL at e e2
    split at e
    · rename_i h55
      rw [if_pos h55] at e2
      simp at e
      exact e.2
    · rename_i h55
      rw [if_neg h55] at e2
      simp at e2
      omega
/-- A reference by hash, in memory. -/
theorem ItV.hash {n : Nat} {w : World} {v : Value} {h : List Nat} {d c : Nat} (it : ItV (n + 1) w v (strL h) d c) (hl : h.length = 32) : ∃ a k i, v = .agg #[.bool false, .slice (some a) 32 k, i] ∧ Rd w (.slice (some a) 32 k) (bv h) := by
  obtain ⟨t, ⟨bs, ka, kc, h1, h2, _⟩, e, _⟩ := it
  have e' : (if tL t = true then headL 192 ((tK t).flatMap (enc n)).length ++ (tK t).flatMap (enc n) else strL (tB t)) = strL h := e
  by_cases hL : tL t = true
  · rw [if_pos hL, strL_32 hl] at e'
    obtain ⟨x, r, e1, e2⟩ := headL_at 192 ((tK t).flatMap (enc n)).length
    rw [e1] at e'
    simp at e'
    omega
  · rw [if_neg hL] at e'
    have eb := strL_inj32 hl e'
    rw [eb] at h2
    have hLf : tL t = false := by cases hx : tL t <;> simp_all
    rw [hLf] at h1
    rcases h2 with ⟨rfl, h0⟩ | ⟨a, k, rfl, h3, h4⟩
    · have := congrArg List.length h0
      rw [bv_len, hl] at this
      cases this
    · rw [bv_len, hl] at h1
      refine ⟨a, k, _, h1, ?_⟩
      refine .inr ⟨a, k, by rw [bv_len, hl], h3, h4⟩
set_option maxRecDepth 20000 in
set_option maxHeartbeats 3200000 in
theorem Root_c (w : World) {S : Nat → Prop} {tb : Nat} {g : Value} {n : Nd} (ht : TrieI S w tb g n) (hn : n ≠ .nil) {y : List Nat} (hy : refE n = strL (hshF y)) :
    Calls Tryd.prog 15 #[.pointer (some ⟨tb, 0, none⟩)] w fun e w' => e = .returned (.agg (bvals 32 (hashOf y))) ∧ Fr [] w w' := by
  obtain ⟨⟨rv, hB, hN⟩, hno, hi, hok⟩ := ht
  obtain ⟨T, x, l, a1, n1, c1, a2, n2, c2, rfl, hm, d, _, _, hI⟩ := hN.meth hn hok.own
  rw [hy] at hI
  obtain ⟨a, k, i, e, _⟩ := hI.now.hash (hshF_len y)
  simp only [Value.agg.injEq, Array.mk.injEq, List.cons.injEq, and_true, Value.bool.injEq, Value.slice.injEq] at e
  obtain ⟨rfl, ⟨rfl, rfl, rfl⟩, rfl⟩ := e
  have c0 := blk_cell hB 0
  simp at c0
  have C0 := hid (fun (w' : World) (f : Fr [] w w') => cell_fr c0 f)
  have HM := hid (fun (w' : World) (f : Fr [] w w') => hm w' (hi.agr f))
  have HO := hid (fun (w' : World) (f : Fr [] w w') => hashOfStr_c (a2 := a2) (n2 := n2) (c2 := c2) w' (a := a) (c := c1) (y := y) (by
    obtain ⟨a', k', i', e, h⟩ := (hI w' (hi.agr f)).hash (hshF_len y)
    simp only [Value.agg.injEq, Array.mk.injEq, List.cons.injEq, and_true, true_and, Value.slice.injEq, Option.some.injEq] at e
    obtain ⟨⟨rfl, rfl⟩, _⟩ := e
    exact h))
  clear hB hN hno hi hok hm hI c0 hn hy
  go_enter Tryd.func15, Tryd.ntmps15
  go_upto_region 1 with fail
  rw [zero32]
  have HR : Hid ((w.alloc (.cells (bvals 32 (fun _ => 0)) 28)).heap[w.heap.size]? = some (.cells (bvals 32 (fun _ => 0)) 28 (0, 0))) := blk_new _ _
  have HF : Hid (Fr [] w (w.alloc (.cells (bvals 32 (fun _ => 0)) 28))) := (Fr.refl _ _).alloc _
  generalize w.alloc (.cells (bvals 32 (fun _ => 0)) 28) = w1 at HR HF ⊢
  have c0 := C0.out _ HF.out
  have mL := HM.out _ HF.out
  go_wp2_with fail
  refine (sealedRef_c _).mono ?_
  rintro e w2 ⟨rfl, f2⟩
  have HR2 := hid (blk_frT HR.out f2)
  have F2 := hid (HF.out.trans f2)
  clear f2 mL c0
  rename_i hK
  refine hK _ _ ?_
  clear hK
  go_wp2_with fail
  refine (HO.out _ F2.out).mono ?_
  rintro e w3 ⟨rfl, f3⟩
  have HR3 := hid (blk_frT HR2.out f3)
  have F3 := hid (F2.out.trans f3)
  clear f3
  rename_i hK
  refine hK _ _ ?_
  refine wpList_stH (g := hashOf y) rfl (.tmp 2) (.tmp 14) rfl HR3.out (by simp [Act.eval]) (by simp [Act.eval]) ?_
  have RH := hid (brow_heap (g := hashOf y) HR3.out)
  have RF := hid (F3.out.rowT (bvals 32 (hashOf y)) (.inr (Nat.le_refl w.heap.size)))
  generalize World.setRow w3 w.heap.size (bvals 32 (hashOf y)) = w7 at RH RF ⊢
  clear HR3 F3 hK
  go_wp2
  exact bodyPost_ret (v := .agg (bvals 32 (hashOf y))) (retH rfl RH.out rfl) rfl ⟨rfl, RF.out⟩
set_option maxRecDepth 20000 in
set_option maxHeartbeats 3200000 in
theorem Get_c (w : World) {S : Nat → Prop} {tb : Nat} {g : Value} {n : Nd} (ht : TrieI S w tb g n) {kv : Value} {k : List Nat} (hk : Rd w kv (bv k)) (hkb : By k) (hkl : k.length ≤ 64) (hfl : (findN n (nibF k)).length ≤ 100000) :
    Calls Tryd.prog 36 #[.pointer (some ⟨tb, 0, none⟩), kv] w fun e w' => ∃ v', e = .returned (.tuple #[v', .bool (decide (0 < (findN n (nibF k)).length)), .int .i64 0]) ∧ Rd w' v' (bv (findN n (nibF k))) ∧ Fr [] w w' := by
  obtain ⟨ka, kc, e1⟩ := hk.form
  rw [bv_len] at e1
  subst e1
  have hnl := nibF_len k
  have NB := hid (nib_c w hk hkb (by omega))
  have FI := hid (fun (w1 : World) (f : Fr [] w w1) (v : Value) (h : Rd w1 v (bv (nibF k))) => find_c w1 (ht.fr f) h (nibF_nb hkb) (by omega))
  obtain ⟨nk, hnk⟩ : ∃ n, n = k.length := ⟨_, rfl⟩
  rw [← hnk] at NB hkl
  rw [← hnk]
  have h64 : ¬ (64 : Int) < (nk : Int) := by omega
  obtain ⟨xs, hxs⟩ : ∃ xs, xs = findN n (nibF k) := ⟨_, rfl⟩
  rw [← hxs] at FI hfl ⊢
  have HFL := hid hfl
  clear hk ht hkb hnl hnk hxs hkl hfl
  go_enter Tryd.func36, Tryd.ntmps36
  go_upto_region 4 with (first
    | (go_at_call 23; refine NB.out.mono ?_; rintro e w1 ⟨pv, rfl, O1, f1⟩; have F1 := hid f1; have R1 := hid (Rd.ownB O1); clear O1 f1 NB)
    | (go_at_call 61; refine (FI.out _ F1.out _ R1.out).mono ?_; rintro e w2 ⟨xv, rfl, r2, f2⟩; have F2 := hid (F1.out.trans f2); have R2 := hid r2; clear r2 f2 FI))
  obtain ⟨xa, xc, e2⟩ := R2.out.form
  rw [bv_len] at e2
  subst e2
  have CL := hid (clone_c R2.out (by have := HFL.out; omega))
  obtain ⟨nx, hnx⟩ : ∃ n, n = xs.length := ⟨_, rfl⟩
  rw [← hnx] at R2 CL ⊢
  have HNX := hid hnx
  clear hnx
  by_cases h0 : 0 < nx
  · have h0' : (0 : Int) < (nx : Int) := by omega
    go_wp2_with (go_at_call 37; refine CL.out.mono ?_; rintro e w3 ⟨v', rfl, O3, f3⟩; have F3 := hid (F2.out.trans f3); have R3 := hid (Rd.ownB (HNX.out ▸ O3)); clear O3 f3)
    go_ret3
    exact ⟨_, by rw [← HNX.out, decide_eq_true h0]; rfl, R3.out, F3.out⟩
  · have h0' : ¬ (0 : Int) < (nx : Int) := by omega
    go_wp2_with (go_at_call 37; refine CL.out.mono ?_; rintro e w3 ⟨v', rfl, O3, f3⟩; have F3 := hid (F2.out.trans f3); have R3 := hid (Rd.ownB (HNX.out ▸ O3)); clear O3 f3)
    go_ret3
    exact ⟨_, by rw [← HNX.out, decide_eq_false h0]; rfl, R3.out, F3.out⟩
end Go.Proofs.YtmpfnglcmaollaaDoor
namespace Go.Proofs.YtmpfnglcmaollaaDoor
open Go.ChangeShapes Go.WideShapes Go.ChangeAt Go.RowKit

theorem strL_head (b : List Nat) (hb : b.length ≤ 1000) (hby : By b) : ∃ x r, strL b = x :: r ∧ x < 192 := by
  unfold strL
  split
  · rename_i h
    cases b with
    | nil => simp at h
    | cons a l => exact ⟨a, l, rfl, by simp at h; omega⟩
  · unfold headL
    split
    · exact ⟨_, _, rfl, by omega⟩
    · refine ⟨_, _, rfl, ?_⟩
      have : (digs b.length).length ≤ 8 := digF_len 8 _
      omega
/-- An item whose bytes are a list's, in memory. -/
theorem ItV.list {n : Nat} {w : World} {v : Value} {y : List Nat} {d c : Nat} (it : ItV (n + 1) w v (lstF y) d c) (hl : (lstF y).length ≤ 1000) : ∃ b i, v = .agg #[.bool true, b, i] := by
  obtain ⟨t, ⟨bs, ka, kc, h1, h2, h3, _⟩, e, _⟩ := it
  have e' : (if tL t = true then headL 192 ((tK t).flatMap (enc n)).length ++ (tK t).flatMap (enc n) else strL (tB t)) = lstF y := e
  by_cases hL : tL t = true
  · rw [hL] at h1
    exact ⟨_, _, h1⟩
  · exfalso
    rw [if_neg hL] at e'
    have hlen : (tB t).length ≤ 1000 := by
      have := (strL_len (tB t)).1
      rw [e'] at this
      omega
    obtain ⟨x, r, hx, hx2⟩ := strL_head (tB t) hlen h3
    obtain ⟨z, s, hz, hz2⟩ := headL_at 192 y.length
    unfold lstF at e'
    rw [hx, hz] at e'
    simp at e'
    omega
set_option maxRecDepth 20000 in
set_option maxHeartbeats 1600000 in
theorem hashOfLst_c (w : World) (HT : Tabs w) {a1 a2 : Option Addr} {n1 c1 n2 c2 : Nat} {x : List Nat} {d : Nat} (it : ∀ w', Fr [] w w' → ItV 20 w' (.agg #[.bool true, .slice a1 n1 c1, .slice a2 n2 c2]) x d x.length) (hd : d ≤ 16) (hx : x.length ≤ 4000) :
    Calls Tryd.prog 47 #[.agg #[.bool true, .slice a1 n1 c1, .slice a2 n2 c2]] w fun e w' => e = .returned (.agg (bvals 32 (hashOf x))) ∧ Fr [] w w' := by
  have HTH := hid HT
  have EC := hid (fun (w1 : World) (f : Fr [] w w1) => encIt_c w1 (it w1 f) (by omega) hd hx)
  have HXB := hid (EC.out w (Fr.refl _ _)).1
  clear HT it hd
  go_enter Tryd.func47, Tryd.ntmps47
  go_upto_region 1 with fail
  rw [zero32]
  have F0 : Hid (Fr [] w (w.alloc (.cells #[.bool true, .slice a1 n1 c1, .slice a2 n2 c2] 77))) := (Fr.refl _ _).alloc _
  have X0 : Hid ((w.alloc (.cells #[.bool true, .slice a1 n1 c1, .slice a2 n2 c2] 77)).heap[w.heap.size]? = some (.cells #[.bool true, .slice a1 n1 c1, .slice a2 n2 c2] 77 (0, 0))) := blk_new _ _
  have z0 : Hid ((w.alloc (.cells #[.bool true, .slice a1 n1 c1, .slice a2 n2 c2] 77)).heap.size = w.heap.size + 1) := by unfold Hid; simp
  generalize w.alloc (.cells #[.bool true, .slice a1 n1 c1, .slice a2 n2 c2] 77) = W at F0 X0 z0 ⊢
  obtain ⟨W2, hW2⟩ : ∃ W2, W2 = W.alloc (.cells (bvals 32 (fun _ => 0)) 28) := ⟨_, rfl⟩
  have HR : Hid (W2.heap[w.heap.size + 1]? = some (.cells (bvals 32 (fun _ => 0)) 28 (0, 0))) := hid (by rw [hW2]; exact new_at _ _ z0.out.symm)
  have F2 : Hid (Fr [] w W2) := hid (by rw [hW2]; exact F0.out.alloc _)
  have X2 : Hid (W2.heap[w.heap.size]? = some (.cells #[.bool true, .slice a1 n1 c1, .slice a2 n2 c2] 77 (0, 0))) := hid (by rw [hW2, blk_old _ _ (by rw [z0.out]; omega)]; exact X0.out)
  rw [← hW2]
  clear hW2
  have c0 := blk_cell X2.out 0
  have k1 := blk_cell X2.out 1
  have k2 := blk_cell X2.out 2
  simp at c0 k1 k2
  go_upto_region 4 with (go_at_call 40; refine (EC.out _ F2.out).2.mono ?_; rintro e w3 ⟨v', rfl, O, f3⟩; have OO := hid O; have HR3 := hid (blk_frT HR.out f3); have F3 := hid (F2.out.trans f3); clear O f3)
  have RV : Hid (Rd w3 v' (bv x)) := hid (Rd.ownB OO.out)
  obtain ⟨a3, c3, e3⟩ := RV.out.form
  subst e3
  have RO := hid (Rows2.oneT RV.out HXB.out (by omega))
  have FA : Hid (Fr [] w3 (w3.alloc (.cells #[.slice a3 (bv x).length c3] 33))) := hid ((Fr.refl _ _).alloc _)
  have SC := hid (sum_c _ (HTH.out.fr (F3.out.trans FA.out)) RO.out (by simp))
  rw [show ([x] : List (List Nat)).flatten = x by simp] at SC
  have HR4 := hid (blk_frT HR3.out FA.out)
  have F4 := hid (F3.out.trans FA.out)
  clear FA RO RV OO
  generalize (bv x).length = nx at SC HR4 F4 ⊢
  go_wp2_with fail
  refine SC.out.mono ?_
  rintro e w5 ⟨rfl, f5⟩
  have HR5 := hid (blk_frT HR4.out f5)
  have F5 := hid (F4.out.trans f5)
  clear f5
  rename_i hK
  refine hK _ _ ?_
  refine wpList_stH (g := hashOf x) rfl (.tmp 2) (.tmp 19) rfl HR5.out (by simp [Act.eval]) (by simp [Act.eval]) ?_
  have RH := hid (brow_heap (g := hashOf x) HR5.out)
  have RF := hid (F5.out.rowT (p := w.heap.size + 1) (bvals 32 (hashOf x)) (.inr (by omega)))
  generalize World.setRow w5 (w.heap.size + 1) (bvals 32 (hashOf x)) = w7 at RH RF ⊢
  clear HR5 F5 hK
  go_wp2
  exact bodyPost_ret (v := .agg (bvals 32 (hashOf x))) (retH rfl RH.out rfl) rfl ⟨rfl, RF.out⟩
end Go.Proofs.YtmpfnglcmaollaaDoor
namespace Go.Proofs.YtmpfnglcmaollaaDoor
open Go.ChangeShapes Go.WideShapes Go.ChangeAt Go.RowKit

set_option maxRecDepth 20000 in
set_option maxHeartbeats 3200000 in
theorem RootIn_c (w : World) {S : Nat → Prop} {tb : Nat} {g : Value} {n : Nd} (ht : TrieI S w tb g n) (HT : Tabs w) (hn : n ≠ .nil) {y z : List Nat} (hy : refE n = y) (hz : y = lstF z) (hy32 : y.length < 32) :
    Calls Tryd.prog 15 #[.pointer (some ⟨tb, 0, none⟩)] w fun e w' => e = .returned (.agg (bvals 32 (hashOf y))) ∧ Fr [] w w' := by
  obtain ⟨⟨rv, hB, hN⟩, hno, hi, hok⟩ := ht
  obtain ⟨T, x, l, a1, n1, c1, a2, n2, c2, rfl, hm, d, hd9, _, hI⟩ := hN.meth hn hok.own
  rw [hy] at hI
  have hI2 := hI.now
  rw [hz] at hI2
  obtain ⟨b0, i0, e⟩ := hI2.list (by rw [← hz]; omega)
  simp only [Value.agg.injEq, Array.mk.injEq, List.cons.injEq, and_true, Value.bool.injEq] at e
  obtain ⟨rfl, rfl, rfl⟩ := e
  have c0 := blk_cell hB 0
  simp at c0
  have C0 := hid (fun (w' : World) (f : Fr [] w w') => cell_fr c0 f)
  have HM := hid (fun (w' : World) (f : Fr [] w w') => hm w' (hi.agr f))
  have hsl := slN_le n
  have HO := hid (fun (w' : World) (f : Fr [] w w') => hashOfLst_c w' (HT.fr f) (fun w'' f' => hI w'' (hi.agr (f.trans f'))) (by rw [hy] at hd9; omega) (by omega))
  clear hB hN hno hi hok hm hI hI2 c0 hn hy hz hy32 HT hd9 hsl
  go_enter Tryd.func15, Tryd.ntmps15
  go_upto_region 1 with fail
  rw [zero32]
  have HR : Hid ((w.alloc (.cells (bvals 32 (fun _ => 0)) 28)).heap[w.heap.size]? = some (.cells (bvals 32 (fun _ => 0)) 28 (0, 0))) := blk_new _ _
  have HF : Hid (Fr [] w (w.alloc (.cells (bvals 32 (fun _ => 0)) 28))) := (Fr.refl _ _).alloc _
  generalize w.alloc (.cells (bvals 32 (fun _ => 0)) 28) = w1 at HR HF ⊢
  have c0 := C0.out _ HF.out
  have mL := HM.out _ HF.out
  go_wp2_with fail
  refine (sealedRef_c _).mono ?_
  rintro e w2 ⟨rfl, f2⟩
  have HR2 := hid (blk_frT HR.out f2)
  have F2 := hid (HF.out.trans f2)
  clear f2 mL c0
  rename_i hK
  refine hK _ _ ?_
  clear hK
  go_wp2_with fail
  refine (HO.out _ F2.out).mono ?_
  rintro e w3 ⟨rfl, f3⟩
  have HR3 := hid (blk_frT HR2.out f3)
  have F3 := hid (F2.out.trans f3)
  clear f3
  rename_i hK
  refine hK _ _ ?_
  refine wpList_stH (g := hashOf y) rfl (.tmp 2) (.tmp 14) rfl HR3.out (by simp [Act.eval]) (by simp [Act.eval]) ?_
  have RH := hid (brow_heap (g := hashOf y) HR3.out)
  have RF := hid (F3.out.rowT (bvals 32 (hashOf y)) (.inr (Nat.le_refl w.heap.size)))
  generalize World.setRow w3 w.heap.size (bvals 32 (hashOf y)) = w7 at RH RF ⊢
  clear HR3 F3 hK
  go_wp2
  exact bodyPost_ret (v := .agg (bvals 32 (hashOf y))) (retH rfl RH.out rfl) rfl ⟨rfl, RF.out⟩
theorem ref_enc {n : Nd} (hn : n ≠ .nil) (hf : ∀ x, n ≠ .far x) : refE n = shtF (encN n) ∧ ∃ z, encN n = lstF z := by
  cases n with
  | nil => exact absurd rfl hn
  | far x => exact absurd rfl (hf x)
  | leaf p v => exact ⟨rfl, _, rfl⟩
  | stem p t => exact ⟨rfl, _, rfl⟩
  | fork c v => exact ⟨rfl, _, rfl⟩
/-- The root of a trie that isn't empty: its node's hash. -/
theorem rootAny_c (w : World) {S : Nat → Prop} {tb : Nat} {g : Value} {n : Nd} (ht : TrieI S w tb g n) (HT : Tabs w) (hn : n ≠ .nil) :
    Calls Tryd.prog 15 #[.pointer (some ⟨tb, 0, none⟩)] w fun e w' => e = .returned (.agg (bvals 32 (hashOf (encN n)))) ∧ Fr [] w w' := by
  obtain ⟨h1, z, hz⟩ := ref_enc hn ht.ok.own
  by_cases h : (encN n).length < 32
  · exact RootIn_c w ht HT hn (by rw [h1]; exact if_pos h) hz h
  · exact Root_c w ht hn (by rw [h1]; exact if_neg h)
end Go.Proofs.YtmpfnglcmaollaaDoor
namespace Go.Proofs.YtmpfnglcmaollaaDoor
open Go.ChangeShapes Go.WideShapes Go.ChangeAt Go.RowKit

/-- How two rows of bytes stand. -/
def cmpN : List Nat → List Nat → Int
  | [], [] => 0
  | [], _ :: _ => -1
  | _ :: _, [] => 1
  | x :: a, y :: b => if x < y then -1 else if y < x then 1 else cmpN a b
theorem cmpN_val : ∀ (a b : List Nat), cmpN a b = -1 ∨ cmpN a b = 0 ∨ cmpN a b = 1
  | [], [] => .inr (.inl rfl)
  | [], _ :: _ => .inl rfl
  | _ :: _, [] => .inr (.inr rfl)
  | x :: a, y :: b => by
    unfold cmpN
    split
    · exact .inl rfl
    · split
      · exact .inr (.inr rfl)
      · exact cmpN_val a b
theorem cmpN_neg : ∀ (a b : List Nat), cmpN b a = -cmpN a b
  | [], [] => rfl
  | [], _ :: _ => rfl
  | _ :: _, [] => rfl
  | x :: a, y :: b => by
    unfold cmpN
    rcases Nat.lt_trichotomy x y with h | h | h
    · rw [if_neg (by omega), if_pos h, if_pos h]; rfl
    · rw [if_neg (by omega), if_neg (by omega), if_neg (by omega), if_neg (by omega), cmpN_neg a b]
    · rw [if_pos h, if_neg (by omega), if_pos h]
theorem cmpN_eq : ∀ (a b : List Nat), cmpN a b = 0 ↔ a = b
  | [], [] => by simp [cmpN]
  | [], _ :: _ => by simp [cmpN]
  | _ :: _, [] => by simp [cmpN]
  | x :: a, y :: b => by
    unfold cmpN
    rcases Nat.lt_trichotomy x y with h | h | h
    · rw [if_pos h]; simp; omega
    · rw [if_neg (by omega), if_neg (by omega), cmpN_eq a b]; simp [h]
    · rw [if_neg (by omega), if_pos h]; simp; omega
theorem cmpN_trans : ∀ (a b c : List Nat), cmpN a b ≤ 0 → cmpN b c ≤ 0 → cmpN a c ≤ 0
  | [], _, [], _, _ => by simp [cmpN]
  | [], _, _ :: _, _, _ => by simp [cmpN]
  | _ :: _, [], _, h, _ => by simp [cmpN] at h
  | _ :: _, _ :: _, [], _, h => by simp [cmpN] at h
  | x :: a, y :: b, z :: c, h1, h2 => by
    unfold cmpN at h1 h2 ⊢
    rcases Nat.lt_trichotomy x y with e1 | e1 | e1
    · rcases Nat.lt_trichotomy y z with e2 | e2 | e2
      · rw [if_pos (by omega)]; omega
      · rw [if_pos (by omega)]; omega
      · rw [if_neg (by omega), if_pos e2] at h2; omega
    · rcases Nat.lt_trichotomy y z with e2 | e2 | e2
      · rw [if_pos (by omega)]; omega
      · rw [if_neg (by omega), if_neg (by omega)] at h1 h2 ⊢
        exact cmpN_trans a b c h1 h2
      · rw [if_neg (by omega), if_pos e2] at h2; omega
    · rw [if_neg (by omega), if_pos e1] at h1; omega

theorem cmp_bytes : ∀ (a b : List Nat), By a → By b → Lib.compareBytes (a.map UInt8.ofNat) (b.map UInt8.ofNat) = cmpN a b
  | [], [], _, _ => rfl
  | [], _ :: _, _, _ => rfl
  | _ :: _, [], _, _ => rfl
  | x :: a, y :: b, ha, hb => by
    have hx := ha x (by simp); have hy := hb y (by simp)
    have e : ∀ {p q : Nat}, p < 256 → q < 256 → (UInt8.ofNat p < UInt8.ofNat q ↔ p < q) := by
      intro p q hp hq
      rw [UInt8.lt_iff_toNat_lt, UInt8.toNat_ofNat', UInt8.toNat_ofNat', Nat.mod_eq_of_lt hp, Nat.mod_eq_of_lt hq]
    have ih := cmp_bytes a b (fun n hn => ha n (List.mem_cons_of_mem _ hn)) (fun n hn => hb n (List.mem_cons_of_mem _ hn))
    simp only [List.map_cons, Lib.compareBytes, cmpN, e hx hy, e hy hx, ih]

theorem run_bytesOf {w : World} {v : Value} {a : List Nat} (h : Rd w v (bv a)) : (Extern.Bytes.bytesOf v).run Tryd.prog w = .ok ⟨(a.map UInt8.ofNat).toArray⟩ w := by
  rcases h with ⟨rfl, h⟩ | ⟨ad, c, rfl, _, h5⟩
  · have : a = [] := by simpa [bv] using h
    subst this
    rfl
  · have h := Lib.run_loadBytesX (P := Tryd.prog) w (a.map fun n : Nat => (n : Int)) ad .empty (fun j x hx => by
      rw [List.getElem?_map] at hx
      cases hn : a[j]? with
      | none => rw [hn] at hx; cases hx
      | some n => rw [hn] at hx; cases hx; exact h5 j _ (bv_at hn))
    rw [List.length_map] at h
    show (Extern.Bytes.loadBytes ad (bv a).length .empty).run Tryd.prog w = _
    rw [bv_len, h]
    congr 1
    apply ByteArray.ext
    simp [Lib.bytesOf, List.map_map, Function.comp_def]

/-- How two numbers stand. -/
def cmpI (x y : Int) : Int := if x < y then -1 else if y < x then 1 else 0

end Go.Proofs.YtmpfnglcmaollaaDoor
