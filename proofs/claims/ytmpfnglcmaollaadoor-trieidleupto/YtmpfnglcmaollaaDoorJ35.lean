/-
  The empty root, and the hash that a reference is.
-/
import Derived.Test.YtmpfnglcmaollaaDoorJ30
import Derived.Test.YtmpfnglcmaollaaDoorJ34
import Derived.Test.YtmpfnglcmaollaaDoorJ05
namespace Go.Proofs.YtmpfnglcmaollaaDoor
open Go.ChangeShapes Go.WideShapes Go.ChangeAt Go.RowKit

theorem encIt_c (w : World) {n : Nat} {v : Value} {x : List Nat} {d c : Nat} (h : ItV n w v x d c) (hn : 16 ≤ n) (hd : d ≤ 16) (hx : x.length ≤ 4000) :
    By x ∧ Calls Tryd.prog 40 #[v] w fun e w' => ∃ v', e = .returned (.tuple #[v', .int .i64 0]) ∧ w'.ownsRow w.heap.size 5 1 v' x.length (bv x) ∧ Fr [] w w' := by
  obtain ⟨t, t1, t2, t3, t4, t5, _⟩ := h
  have hct := cnt_len n t t4
  rw [t2] at hct
  have hbd := bad_ok n t d 1 t4 t5 (by omega)
  have hE0 : encE t = 0 := by unfold encE; rw [if_neg (by omega), if_neg (by rw [t2]; omega)]
  have hEB : encB t = x := by unfold encB; rw [if_pos hE0]; exact t2
  have EC := encode_c w t1 (by omega) (by omega) (by rw [t2]; omega)
  have HXB := enc_by n t t3
  rw [t2] at HXB
  rw [hE0, hEB] at EC
  exact ⟨HXB, EC⟩
theorem ldRd {w : World} {a : Addr} {c : Nat} {l : List Nat} (hl : l.length = 32) (h : Rd w (.slice (some a) 32 c) (bv l)) : (loadVar 28 a).run Tryd.prog w = .ok (.agg (bv l).toArray) w := by
  have hc : ∀ (j : Nat) (v : Value), (bv l)[j]? = some v → w.cell? (a.add j) = some v := by
    rcases h with ⟨h0, _⟩ | ⟨a', c', h1, _, h3⟩
    · cases h0
    · simp only [Value.slice.injEq, Option.some.injEq] at h1
      rw [← h1.1] at h3
      exact h3
  have hl2 : (loadCells a (bv l).length).run Tryd.prog w = .ok (bv l).toArray w := run_loadCells_list (P := Tryd.prog) w a (bv l) (fun j v hv => hc j v hv)
  rw [bv_len, hl] at hl2
  have hi := info32
  cases hq : Tryd.prog.info? 28 with
  | none => rw [hq] at hi; cases hi
  | some i =>
    rw [hq] at hi
    have hs : i.size = 32 := by simpa using hi
    have hagg : (isAgg 28).run Tryd.prog w = .ok true w := by kernel_rfl
    simp [loadVar, Sem.run_bind, hagg, sizeOf, typeInfo, hq, hs, hl2]
theorem arr_at (w : World) (a : Addr) (c : Nat) : (Instr.arrayAt 28 (.slice (some a) 32 c)).run Tryd.prog w = .ok (.pointer (some a)) w := by kernel_rfl
set_option maxRecDepth 20000 in
set_option maxHeartbeats 1600000 in
theorem empty_c (w : World) (HT : Tabs w) :
    Calls Tryd.prog 12 #[] w fun e w' => e = .returned (.agg (bvals 32 (hashOf [128]))) ∧ Fr [] w w' := by
  have HTH := hid HT
  have EC := hid (fun (w1 : World) => encIt_c w1 (ItV.str (n := 20) (w := w1) (bs := .slice none 0 0) (b := []) (.inl ⟨rfl, rfl⟩) (fun x hx => by cases hx) (by simp)) (by omega) (by omega) (by simp [strL, headL]))
  rw [show strL [] = [128] from rfl] at EC
  clear HT
  go_enter Tryd.func12, Tryd.ntmps12
  go_upto_region 1 with fail
  rw [zero32]
  have HR : Hid ((w.alloc (.cells (bvals 32 (fun _ => 0)) 28)).heap[w.heap.size]? = some (.cells (bvals 32 (fun _ => 0)) 28 (0, 0))) := blk_new _ _
  have HF : Hid (Fr [] w (w.alloc (.cells (bvals 32 (fun _ => 0)) 28))) := (Fr.refl _ _).alloc _
  generalize w.alloc (.cells (bvals 32 (fun _ => 0)) 28) = w1 at HR HF ⊢
  go_upto_region 2 with (go_at_call 40; refine (EC.out _).2.mono ?_; rintro e w2 ⟨v', rfl, O, f2⟩; have OO := hid O; have HR2 := hid (blk_frT HR.out f2); have F2 := hid (HF.out.trans f2); clear O f2)
  have RV : Hid (Rd w2 v' (bv [128])) := hid (Rd.ownB OO.out)
  obtain ⟨a3, c3, e3⟩ := RV.out.form
  rw [bv_len] at e3
  subst e3
  have RO := hid (Rows2.oneT RV.out (fun x hx => by simp at hx; omega) (by simp))
  have FA : Hid (Fr [] w2 (w2.alloc (.cells #[.slice a3 ([128] : List Nat).length c3] 33))) := hid ((Fr.refl _ _).alloc _)
  have SC := hid (sum_c _ (HTH.out.fr (F2.out.trans FA.out)) RO.out (by simp))
  rw [show ([[128]] : List (List Nat)).flatten = [128] by simp] at SC
  have HR3 := hid (blk_frT HR2.out FA.out)
  have F3 := hid (F2.out.trans FA.out)
  clear FA
  go_wp2_with fail
  refine SC.out.mono ?_
  rintro e w5 ⟨rfl, f5⟩
  have HR5 := hid (blk_frT HR3.out f5)
  have F5 := hid (F3.out.trans f5)
  clear f5
  rename_i hK
  refine hK _ _ ?_
  refine wpList_stH (g := hashOf [128]) rfl (.tmp 0) (.tmp 10) rfl HR5.out (by simp [Act.eval]) (by simp [Act.eval]) ?_
  have RH := hid (brow_heap (g := hashOf [128]) HR5.out)
  have RF := hid (F5.out.rowT (bvals 32 (hashOf [128])) (.inr (Nat.le_refl w.heap.size)))
  generalize World.setRow w5 w.heap.size (bvals 32 (hashOf [128])) = w7 at RH RF ⊢
  clear HR5 F5 hK
  go_wp2
  exact bodyPost_ret (v := .agg (bvals 32 (hashOf [128]))) (retH rfl RH.out rfl) rfl ⟨rfl, RF.out⟩
set_option maxRecDepth 20000 in
set_option maxHeartbeats 1600000 in
theorem hashOfStr_c (w : World) {a : Addr} {c : Nat} {y : List Nat} {a2 : Option Addr} {n2 c2 : Nat} (hr : Rd w (.slice (some a) 32 c) (bv (hshF y))) :
    Calls Tryd.prog 47 #[.agg #[.bool false, .slice (some a) 32 c, .slice a2 n2 c2]] w fun e w' => e = .returned (.agg (bvals 32 (hashOf y))) ∧ Fr [] w w' := by
  have HRD := hid (fun (w1 : World) (f : Fr [] w w1) => ldRd (hshF_len y) (hr.fr f))
  rw [← hash_bv] at HRD
  clear hr
  go_enter Tryd.func47, Tryd.ntmps47
  go_upto_region 1 with fail
  rw [zero32]
  have F0 : Hid (Fr [] w (w.alloc (.cells #[.bool false, .slice (some a) 32 c, .slice a2 n2 c2] 77))) := (Fr.refl _ _).alloc _
  have X0 : Hid ((w.alloc (.cells #[.bool false, .slice (some a) 32 c, .slice a2 n2 c2] 77)).heap[w.heap.size]? = some (.cells #[.bool false, .slice (some a) 32 c, .slice a2 n2 c2] 77 (0, 0))) := blk_new _ _
  have z0 : Hid ((w.alloc (.cells #[.bool false, .slice (some a) 32 c, .slice a2 n2 c2] 77)).heap.size = w.heap.size + 1) := by unfold Hid; simp
  generalize w.alloc (.cells #[.bool false, .slice (some a) 32 c, .slice a2 n2 c2] 77) = W at F0 X0 z0 ⊢
  obtain ⟨W2, hW2⟩ : ∃ W2, W2 = W.alloc (.cells (bvals 32 (fun _ => 0)) 28) := ⟨_, rfl⟩
  have HR : Hid (W2.heap[w.heap.size + 1]? = some (.cells (bvals 32 (fun _ => 0)) 28 (0, 0))) := hid (by rw [hW2]; exact new_at _ _ z0.out.symm)
  have F2 : Hid (Fr [] w W2) := hid (by rw [hW2]; exact F0.out.alloc _)
  have X2 : Hid (W2.heap[w.heap.size]? = some (.cells #[.bool false, .slice (some a) 32 c, .slice a2 n2 c2] 77 (0, 0))) := hid (by rw [hW2, blk_old _ _ (by rw [z0.out]; omega)]; exact X0.out)
  rw [← hW2]
  clear hW2
  have c0 := blk_cell X2.out 0
  have c1 := blk_cell X2.out 1
  simp at c0 c1
  go_upto_region 2 with fail
  have hld := HRD.out _ F2.out
  have har := arr_at W2 a c
  apply wp_region_lit
  refine wpList_val (v := .pointer (some ⟨w.heap.size, 1, none⟩)) (w' := W2) rfl (by go_simp) ?_
  refine wpList_val (v := .slice (some a) 32 c) (w' := W2) rfl (by go_simp) ?_
  refine wpList_val (v := .pointer (some a)) (w' := W2) rfl (by go_simp) ?_
  refine wpList_val (v := .agg (bvals 32 (hashOf y))) (w' := W2) rfl (by unfold execOp; simp [Act.eval, Act.put, Instr.loadAt, Instr.sureAddr, Result.andThen_ok, hld]) ?_
  refine wpList_stH (g := hashOf y) rfl (.tmp 2) (.tmp 11) rfl HR.out (by simp [Act.eval, Act.put]) (by simp [Act.eval, Act.put]) ?_
  have RH := hid (brow_heap (g := hashOf y) HR.out)
  have RF := hid (F2.out.rowT (p := w.heap.size + 1) (bvals 32 (hashOf y)) (.inr (by omega)))
  generalize World.setRow W2 (w.heap.size + 1) (bvals 32 (hashOf y)) = w7 at RH RF ⊢
  clear HR F2 X2 c0 c1 hld har
  simp only [wpList, Act.put]
  go_wp2
  exact bodyPost_ret (v := .agg (bvals 32 (hashOf y))) (retH rfl RH.out (by simp)) rfl ⟨rfl, RF.out⟩
end Go.Proofs.YtmpfnglcmaollaaDoor
namespace Go.Proofs.YtmpfnglcmaollaaDoor
open Go.ChangeShapes Go.WideShapes Go.ChangeAt Go.RowKit

theorem strL_32 {h : List Nat} (hl : h.length = 32) : strL h = 160 :: h := by
  unfold strL headL
  rw [if_neg (by omega), if_pos (by omega), hl]
  rfl
theorem headL_at (b n : Nat) : ∃ x r, headL b n = x :: r ∧ b ≤ x := by
  unfold headL
  split
  · exact ⟨_, _, rfl, by omega⟩
  · exact ⟨_, _, rfl, by omega⟩
theorem strL_inj32 {b h : List Nat} (hl : h.length = 32) (e : strL b = strL h) : b = h := by
  have e2 := congrArg List.length e
  rw [strL_32 hl] at e e2
  simp only [List.length_cons, hl] at e2
  unfold strL at e e2
  split at e
  · rename_i hc
    rw [if_pos hc] at e2
    omega
  · rename_i hc
    rw [if_neg hc, List.length_append] at e2
    unfold headL at e e2
    split at e
    · rename_i h55
      rw [if_pos h55] at e2
      simp at e
      exact e.2
    · rename_i h55
      rw [if_neg h55] at e2
      simp at e2
      omega
/-- A reference by hash, in memory. -/
theorem ItV.hash {n : Nat} {w : World} {v : Value} {h : List Nat} {d c : Nat} (it : ItV (n + 1) w v (strL h) d c) (hl : h.length = 32) : ∃ a k i, v = .agg #[.bool false, .slice (some a) 32 k, i] ∧ Rd w (.slice (some a) 32 k) (bv h) := by
  obtain ⟨t, ⟨bs, ka, kc, h1, h2, _⟩, e, _⟩ := it
  have e' : (if tL t = true then headL 192 ((tK t).flatMap (enc n)).length ++ (tK t).flatMap (enc n) else strL (tB t)) = strL h := e
  by_cases hL : tL t = true
  · rw [if_pos hL, strL_32 hl] at e'
    obtain ⟨x, r, e1, e2⟩ := headL_at 192 ((tK t).flatMap (enc n)).length
    rw [e1] at e'
    simp at e'
    omega
  · rw [if_neg hL] at e'
    have eb := strL_inj32 hl e'
    rw [eb] at h2
    have hLf : tL t = false := by cases hx : tL t <;> simp_all
    rw [hLf] at h1
    rcases h2 with ⟨rfl, h0⟩ | ⟨a, k, rfl, h3, h4⟩
    · have := congrArg List.length h0
      rw [bv_len, hl] at this
      cases this
    · rw [bv_len, hl] at h1
      refine ⟨a, k, _, h1, ?_⟩
      refine .inr ⟨a, k, by rw [bv_len, hl], h3, h4⟩
set_option maxRecDepth 20000 in
set_option maxHeartbeats 3200000 in
theorem Root_c (w : World) {S : Nat → Prop} {tb : Nat} {g : Value} {n : Nd} (ht : TrieI S w tb g n) (hn : n ≠ .nil) {y : List Nat} (hy : refE n = strL (hshF y)) :
    Calls Tryd.prog 15 #[.pointer (some ⟨tb, 0, none⟩)] w fun e w' => e = .returned (.agg (bvals 32 (hashOf y))) ∧ Fr [] w w' := by
  obtain ⟨⟨rv, hB, hN⟩, hno, hi, hok⟩ := ht
  obtain ⟨T, x, l, a1, n1, c1, a2, n2, c2, rfl, hm, d, _, _, hI⟩ := hN.meth hn hok.own
  rw [hy] at hI
  obtain ⟨a, k, i, e, _⟩ := hI.now.hash (hshF_len y)
  simp only [Value.agg.injEq, Array.mk.injEq, List.cons.injEq, and_true, Value.bool.injEq, Value.slice.injEq] at e
  obtain ⟨rfl, ⟨rfl, rfl, rfl⟩, rfl⟩ := e
  have c0 := blk_cell hB 0
  simp at c0
  have C0 := hid (fun (w' : World) (f : Fr [] w w') => cell_fr c0 f)
  have HM := hid (fun (w' : World) (f : Fr [] w w') => hm w' (hi.agr f))
  have HO := hid (fun (w' : World) (f : Fr [] w w') => hashOfStr_c (a2 := a2) (n2 := n2) (c2 := c2) w' (a := a) (c := c1) (y := y) (by
    obtain ⟨a', k', i', e, h⟩ := (hI w' (hi.agr f)).hash (hshF_len y)
    simp only [Value.agg.injEq, Array.mk.injEq, List.cons.injEq, and_true, true_and, Value.slice.injEq, Option.some.injEq] at e
    obtain ⟨⟨rfl, rfl⟩, _⟩ := e
    exact h))
  clear hB hN hno hi hok hm hI c0 hn hy
  go_enter Tryd.func15, Tryd.ntmps15
  go_upto_region 1 with fail
  rw [zero32]
  have HR : Hid ((w.alloc (.cells (bvals 32 (fun _ => 0)) 28)).heap[w.heap.size]? = some (.cells (bvals 32 (fun _ => 0)) 28 (0, 0))) := blk_new _ _
  have HF : Hid (Fr [] w (w.alloc (.cells (bvals 32 (fun _ => 0)) 28))) := (Fr.refl _ _).alloc _
  generalize w.alloc (.cells (bvals 32 (fun _ => 0)) 28) = w1 at HR HF ⊢
  have c0 := C0.out _ HF.out
  have mL := HM.out _ HF.out
  go_wp2_with fail
  refine (sealedRef_c _).mono ?_
  rintro e w2 ⟨rfl, f2⟩
  have HR2 := hid (blk_frT HR.out f2)
  have F2 := hid (HF.out.trans f2)
  clear f2 mL c0
  rename_i hK
  refine hK _ _ ?_
  clear hK
  go_wp2_with fail
  refine (HO.out _ F2.out).mono ?_
  rintro e w3 ⟨rfl, f3⟩
  have HR3 := hid (blk_frT HR2.out f3)
  have F3 := hid (F2.out.trans f3)
  clear f3
  rename_i hK
  refine hK _ _ ?_
  refine wpList_stH (g := hashOf y) rfl (.tmp 2) (.tmp 14) rfl HR3.out (by simp [Act.eval]) (by simp [Act.eval]) ?_
  have RH := hid (brow_heap (g := hashOf y) HR3.out)
  have RF := hid (F3.out.rowT (bvals 32 (hashOf y)) (.inr (Nat.le_refl w.heap.size)))
  generalize World.setRow w3 w.heap.size (bvals 32 (hashOf y)) = w7 at RH RF ⊢
  clear HR3 F3 hK
  go_wp2
  exact bodyPost_ret (v := .agg (bvals 32 (hashOf y))) (retH rfl RH.out rfl) rfl ⟨rfl, RF.out⟩
set_option maxRecDepth 20000 in
set_option maxHeartbeats 3200000 in
theorem Get_c (w : World) {S : Nat → Prop} {tb : Nat} {g : Value} {n : Nd} (ht : TrieI S w tb g n) {kv : Value} {k : List Nat} (hk : Rd w kv (bv k)) (hkb : By k) (hkl : k.length ≤ 64) (hfl : (findN n (nibF k)).length ≤ 100000) :
    Calls Tryd.prog 36 #[.pointer (some ⟨tb, 0, none⟩), kv] w fun e w' => ∃ v', e = .returned (.tuple #[v', .bool (decide (0 < (findN n (nibF k)).length)), .int .i64 0]) ∧ Rd w' v' (bv (findN n (nibF k))) ∧ Fr [] w w' := by
  obtain ⟨ka, kc, e1⟩ := hk.form
  rw [bv_len] at e1
  subst e1
  have hnl := nibF_len k
  have NB := hid (nib_c w hk hkb (by omega))
  have FI := hid (fun (w1 : World) (f : Fr [] w w1) (v : Value) (h : Rd w1 v (bv (nibF k))) => find_c w1 (ht.fr f) h (nibF_nb hkb) (by omega))
  obtain ⟨nk, hnk⟩ : ∃ n, n = k.length := ⟨_, rfl⟩
  rw [← hnk] at NB hkl
  rw [← hnk]
  have h64 : ¬ (64 : Int) < (nk : Int) := by omega
  obtain ⟨xs, hxs⟩ : ∃ xs, xs = findN n (nibF k) := ⟨_, rfl⟩
  rw [← hxs] at FI hfl ⊢
  have HFL := hid hfl
  clear hk ht hkb hnl hnk hxs hkl hfl
  go_enter Tryd.func36, Tryd.ntmps36
  go_upto_region 4 with (first
    | (go_at_call 23; refine NB.out.mono ?_; rintro e w1 ⟨pv, rfl, O1, f1⟩; have F1 := hid f1; have R1 := hid (Rd.ownB O1); clear O1 f1 NB)
    | (go_at_call 61; refine (FI.out _ F1.out _ R1.out).mono ?_; rintro e w2 ⟨xv, rfl, r2, f2⟩; have F2 := hid (F1.out.trans f2); have R2 := hid r2; clear r2 f2 FI))
  obtain ⟨xa, xc, e2⟩ := R2.out.form
  rw [bv_len] at e2
  subst e2
  have CL := hid (clone_c R2.out (by have := HFL.out; omega))
  obtain ⟨nx, hnx⟩ : ∃ n, n = xs.length := ⟨_, rfl⟩
  rw [← hnx] at R2 CL ⊢
  have HNX := hid hnx
  clear hnx
  by_cases h0 : 0 < nx
  · have h0' : (0 : Int) < (nx : Int) := by omega
    go_wp2_with (go_at_call 37; refine CL.out.mono ?_; rintro e w3 ⟨v', rfl, O3, f3⟩; have F3 := hid (F2.out.trans f3); have R3 := hid (Rd.ownB (HNX.out ▸ O3)); clear O3 f3)
    go_ret3
    exact ⟨_, by rw [← HNX.out, decide_eq_true h0]; rfl, R3.out, F3.out⟩
  · have h0' : ¬ (0 : Int) < (nx : Int) := by omega
    go_wp2_with (go_at_call 37; refine CL.out.mono ?_; rintro e w3 ⟨v', rfl, O3, f3⟩; have F3 := hid (F2.out.trans f3); have R3 := hid (Rd.ownB (HNX.out ▸ O3)); clear O3 f3)
    go_ret3
    exact ⟨_, by rw [← HNX.out, decide_eq_false h0]; rfl, R3.out, F3.out⟩
end Go.Proofs.YtmpfnglcmaollaaDoor
namespace Go.Proofs.YtmpfnglcmaollaaDoor
open Go.ChangeShapes Go.WideShapes Go.ChangeAt Go.RowKit

theorem strL_head (b : List Nat) (hb : b.length ≤ 1000) (hby : By b) : ∃ x r, strL b = x :: r ∧ x < 192 := by
  unfold strL
  split
  · rename_i h
    cases b with
    | nil => simp at h
    | cons a l => exact ⟨a, l, rfl, by simp at h; omega⟩
  · unfold headL
    split
    · exact ⟨_, _, rfl, by omega⟩
    · refine ⟨_, _, rfl, ?_⟩
      have : (digs b.length).length ≤ 8 := digF_len 8 _
      omega
/-- An item whose bytes are a list's, in memory. -/
theorem ItV.list {n : Nat} {w : World} {v : Value} {y : List Nat} {d c : Nat} (it : ItV (n + 1) w v (lstF y) d c) (hl : (lstF y).length ≤ 1000) : ∃ b i, v = .agg #[.bool true, b, i] := by
  obtain ⟨t, ⟨bs, ka, kc, h1, h2, h3, _⟩, e, _⟩ := it
  have e' : (if tL t = true then headL 192 ((tK t).flatMap (enc n)).length ++ (tK t).flatMap (enc n) else strL (tB t)) = lstF y := e
  by_cases hL : tL t = true
  · rw [hL] at h1
    exact ⟨_, _, h1⟩
  · exfalso
    rw [if_neg hL] at e'
    have hlen : (tB t).length ≤ 1000 := by
      have := (strL_len (tB t)).1
      rw [e'] at this
      omega
    obtain ⟨x, r, hx, hx2⟩ := strL_head (tB t) hlen h3
    obtain ⟨z, s, hz, hz2⟩ := headL_at 192 y.length
    unfold lstF at e'
    rw [hx, hz] at e'
    simp at e'
    omega
set_option maxRecDepth 20000 in
set_option maxHeartbeats 1600000 in
theorem hashOfLst_c (w : World) (HT : Tabs w) {a1 a2 : Option Addr} {n1 c1 n2 c2 : Nat} {x : List Nat} {d : Nat} (it : ∀ w', Fr [] w w' → ItV 20 w' (.agg #[.bool true, .slice a1 n1 c1, .slice a2 n2 c2]) x d x.length) (hd : d ≤ 16) (hx : x.length ≤ 4000) :
    Calls Tryd.prog 47 #[.agg #[.bool true, .slice a1 n1 c1, .slice a2 n2 c2]] w fun e w' => e = .returned (.agg (bvals 32 (hashOf x))) ∧ Fr [] w w' := by
  have HTH := hid HT
  have EC := hid (fun (w1 : World) (f : Fr [] w w1) => encIt_c w1 (it w1 f) (by omega) hd hx)
  have HXB := hid (EC.out w (Fr.refl _ _)).1
  clear HT it hd
  go_enter Tryd.func47, Tryd.ntmps47
  go_upto_region 1 with fail
  rw [zero32]
  have F0 : Hid (Fr [] w (w.alloc (.cells #[.bool true, .slice a1 n1 c1, .slice a2 n2 c2] 77))) := (Fr.refl _ _).alloc _
  have X0 : Hid ((w.alloc (.cells #[.bool true, .slice a1 n1 c1, .slice a2 n2 c2] 77)).heap[w.heap.size]? = some (.cells #[.bool true, .slice a1 n1 c1, .slice a2 n2 c2] 77 (0, 0))) := blk_new _ _
  have z0 : Hid ((w.alloc (.cells #[.bool true, .slice a1 n1 c1, .slice a2 n2 c2] 77)).heap.size = w.heap.size + 1) := by unfold Hid; simp
  generalize w.alloc (.cells #[.bool true, .slice a1 n1 c1, .slice a2 n2 c2] 77) = W at F0 X0 z0 ⊢
  obtain ⟨W2, hW2⟩ : ∃ W2, W2 = W.alloc (.cells (bvals 32 (fun _ => 0)) 28) := ⟨_, rfl⟩
  have HR : Hid (W2.heap[w.heap.size + 1]? = some (.cells (bvals 32 (fun _ => 0)) 28 (0, 0))) := hid (by rw [hW2]; exact new_at _ _ z0.out.symm)
  have F2 : Hid (Fr [] w W2) := hid (by rw [hW2]; exact F0.out.alloc _)
  have X2 : Hid (W2.heap[w.heap.size]? = some (.cells #[.bool true, .slice a1 n1 c1, .slice a2 n2 c2] 77 (0, 0))) := hid (by rw [hW2, blk_old _ _ (by rw [z0.out]; omega)]; exact X0.out)
  rw [← hW2]
  clear hW2
  have c0 := blk_cell X2.out 0
  have k1 := blk_cell X2.out 1
  have k2 := blk_cell X2.out 2
  simp at c0 k1 k2
  go_upto_region 4 with (go_at_call 40; refine (EC.out _ F2.out).2.mono ?_; rintro e w3 ⟨v', rfl, O, f3⟩; have OO := hid O; have HR3 := hid (blk_frT HR.out f3); have F3 := hid (F2.out.trans f3); clear O f3)
  have RV : Hid (Rd w3 v' (bv x)) := hid (Rd.ownB OO.out)
  obtain ⟨a3, c3, e3⟩ := RV.out.form
  subst e3
  have RO := hid (Rows2.oneT RV.out HXB.out (by omega))
  have FA : Hid (Fr [] w3 (w3.alloc (.cells #[.slice a3 (bv x).length c3] 33))) := hid ((Fr.refl _ _).alloc _)
  have SC := hid (sum_c _ (HTH.out.fr (F3.out.trans FA.out)) RO.out (by simp))
  rw [show ([x] : List (List Nat)).flatten = x by simp] at SC
  have HR4 := hid (blk_frT HR3.out FA.out)
  have F4 := hid (F3.out.trans FA.out)
  clear FA RO RV OO
  generalize (bv x).length = nx at SC HR4 F4 ⊢
  go_wp2_with fail
  refine SC.out.mono ?_
  rintro e w5 ⟨rfl, f5⟩
  have HR5 := hid (blk_frT HR4.out f5)
  have F5 := hid (F4.out.trans f5)
  clear f5
  rename_i hK
  refine hK _ _ ?_
  refine wpList_stH (g := hashOf x) rfl (.tmp 2) (.tmp 19) rfl HR5.out (by simp [Act.eval]) (by simp [Act.eval]) ?_
  have RH := hid (brow_heap (g := hashOf x) HR5.out)
  have RF := hid (F5.out.rowT (p := w.heap.size + 1) (bvals 32 (hashOf x)) (.inr (by omega)))
  generalize World.setRow w5 (w.heap.size + 1) (bvals 32 (hashOf x)) = w7 at RH RF ⊢
  clear HR5 F5 hK
  go_wp2
  exact bodyPost_ret (v := .agg (bvals 32 (hashOf x))) (retH rfl RH.out rfl) rfl ⟨rfl, RF.out⟩
end Go.Proofs.YtmpfnglcmaollaaDoor
namespace Go.Proofs.YtmpfnglcmaollaaDoor
open Go.ChangeShapes Go.WideShapes Go.ChangeAt Go.RowKit

set_option maxRecDepth 20000 in
set_option maxHeartbeats 3200000 in
theorem RootIn_c (w : World) {S : Nat → Prop} {tb : Nat} {g : Value} {n : Nd} (ht : TrieI S w tb g n) (HT : Tabs w) (hn : n ≠ .nil) {y z : List Nat} (hy : refE n = y) (hz : y = lstF z) (hy32 : y.length < 32) :
    Calls Tryd.prog 15 #[.pointer (some ⟨tb, 0, none⟩)] w fun e w' => e = .returned (.agg (bvals 32 (hashOf y))) ∧ Fr [] w w' := by
  obtain ⟨⟨rv, hB, hN⟩, hno, hi, hok⟩ := ht
  obtain ⟨T, x, l, a1, n1, c1, a2, n2, c2, rfl, hm, d, hd9, _, hI⟩ := hN.meth hn hok.own
  rw [hy] at hI
  have hI2 := hI.now
  rw [hz] at hI2
  obtain ⟨b0, i0, e⟩ := hI2.list (by rw [← hz]; omega)
  simp only [Value.agg.injEq, Array.mk.injEq, List.cons.injEq, and_true, Value.bool.injEq] at e
  obtain ⟨rfl, rfl, rfl⟩ := e
  have c0 := blk_cell hB 0
  simp at c0
  have C0 := hid (fun (w' : World) (f : Fr [] w w') => cell_fr c0 f)
  have HM := hid (fun (w' : World) (f : Fr [] w w') => hm w' (hi.agr f))
  have hsl := slN_le n
  have HO := hid (fun (w' : World) (f : Fr [] w w') => hashOfLst_c w' (HT.fr f) (fun w'' f' => hI w'' (hi.agr (f.trans f'))) (by rw [hy] at hd9; omega) (by omega))
  clear hB hN hno hi hok hm hI hI2 c0 hn hy hz hy32 HT hd9 hsl
  go_enter Tryd.func15, Tryd.ntmps15
  go_upto_region 1 with fail
  rw [zero32]
  have HR : Hid ((w.alloc (.cells (bvals 32 (fun _ => 0)) 28)).heap[w.heap.size]? = some (.cells (bvals 32 (fun _ => 0)) 28 (0, 0))) := blk_new _ _
  have HF : Hid (Fr [] w (w.alloc (.cells (bvals 32 (fun _ => 0)) 28))) := (Fr.refl _ _).alloc _
  generalize w.alloc (.cells (bvals 32 (fun _ => 0)) 28) = w1 at HR HF ⊢
  have c0 := C0.out _ HF.out
  have mL := HM.out _ HF.out
  go_wp2_with fail
  refine (sealedRef_c _).mono ?_
  rintro e w2 ⟨rfl, f2⟩
  have HR2 := hid (blk_frT HR.out f2)
  have F2 := hid (HF.out.trans f2)
  clear f2 mL c0
  rename_i hK
  refine hK _ _ ?_
  clear hK
  go_wp2_with fail
  refine (HO.out _ F2.out).mono ?_
  rintro e w3 ⟨rfl, f3⟩
  have HR3 := hid (blk_frT HR2.out f3)
  have F3 := hid (F2.out.trans f3)
  clear f3
  rename_i hK
  refine hK _ _ ?_
  refine wpList_stH (g := hashOf y) rfl (.tmp 2) (.tmp 14) rfl HR3.out (by simp [Act.eval]) (by simp [Act.eval]) ?_
  have RH := hid (brow_heap (g := hashOf y) HR3.out)
  have RF := hid (F3.out.rowT (bvals 32 (hashOf y)) (.inr (Nat.le_refl w.heap.size)))
  generalize World.setRow w3 w.heap.size (bvals 32 (hashOf y)) = w7 at RH RF ⊢
  clear HR3 F3 hK
  go_wp2
  exact bodyPost_ret (v := .agg (bvals 32 (hashOf y))) (retH rfl RH.out rfl) rfl ⟨rfl, RF.out⟩
theorem ref_enc {n : Nd} (hn : n ≠ .nil) (hf : ∀ x, n ≠ .far x) : refE n = shtF (encN n) ∧ ∃ z, encN n = lstF z := by
  cases n with
  | nil => exact absurd rfl hn
  | far x => exact absurd rfl (hf x)
  | leaf p v => exact ⟨rfl, _, rfl⟩
  | stem p t => exact ⟨rfl, _, rfl⟩
  | fork c v => exact ⟨rfl, _, rfl⟩
/-- The root of a trie that isn't empty: its node's hash. -/
theorem rootAny_c (w : World) {S : Nat → Prop} {tb : Nat} {g : Value} {n : Nd} (ht : TrieI S w tb g n) (HT : Tabs w) (hn : n ≠ .nil) :
    Calls Tryd.prog 15 #[.pointer (some ⟨tb, 0, none⟩)] w fun e w' => e = .returned (.agg (bvals 32 (hashOf (encN n)))) ∧ Fr [] w w' := by
  obtain ⟨h1, z, hz⟩ := ref_enc hn ht.ok.own
  by_cases h : (encN n).length < 32
  · exact RootIn_c w ht HT hn (by rw [h1]; exact if_pos h) hz h
  · exact Root_c w ht hn (by rw [h1]; exact if_neg h)
end Go.Proofs.YtmpfnglcmaollaaDoor
namespace Go.Proofs.YtmpfnglcmaollaaDoor
open Go.ChangeShapes Go.WideShapes Go.ChangeAt Go.RowKit

/-- A trie's nodes tell a map. -/
structure IsMap (ps : Mp) (n : Nd) : Prop where
  sort : SortM ps
  can : canN n
  ok : okN 128 n
  lens : ∀ p ∈ ps, By p.1 ∧ p.1.length ≤ 64 ∧ By p.2 ∧ 1 ≤ p.2.length ∧ p.2.length ≤ 1024
  is : ∀ k, By k → k.length ≤ 64 → findN n (nibF k) = mapV ps k
theorem nibF_inj : ∀ {a b : List Nat}, nibF a = nibF b → a = b
  | [], [], _ => rfl
  | [], y :: b, h => by simp [nibF] at h
  | x :: a, [], h => by simp [nibF] at h
  | x :: a, y :: b, h => by
    simp only [nibF, List.cons.injEq] at h
    obtain ⟨h1, h2, h3⟩ := h
    rw [show x = y by omega, nibF_inj h3]
theorem IsMap.nil : IsMap [] .nil := ⟨List.Pairwise.nil, trivial, trivial, fun p h => (by cases h), fun k _ _ => rfl⟩
theorem IsMap.put {ps : Mp} {n : Nd} (h : IsMap ps n) {k v : List Nat} (hk : By k) (hkl : k.length ≤ 64) (hv : By v) (hv1 : 1 ≤ v.length) (hvl : v.length ≤ 1024) : IsMap (putM ps k v) (putT n (nibF k) v) := by
  have hvne : v ≠ [] := fun e => by rw [e] at hv1; simp at hv1
  have hlen := nibF_len k
  have hl : ∀ p ∈ putM ps k v, By p.1 ∧ p.1.length ≤ 64 ∧ By p.2 ∧ 1 ≤ p.2.length ∧ p.2.length ≤ 1024 := fun p hp => by
    rcases mem_putM hp with hp | ⟨rfl, _⟩
    · exact h.lens p hp
    · exact ⟨hk, hkl, hv, hv1, hvl⟩
  unfold putT
  by_cases hf : findN n (nibF k) = v
  · rw [if_pos hf]
    refine ⟨sort_put h.sort k v, h.can, h.ok, hl, fun k' hk' hl' => ?_⟩
    rw [mapV_put h.sort, h.is k' hk' hl']
    by_cases e : k' = k
    · rw [if_pos e, e, ← h.is k hk hkl, hf]
    · rw [if_neg e]
  · rw [if_neg hf]
    refine ⟨sort_put h.sort k v, put_can h.ok h.can (nibF_nb hk) hvne, putN_ok h.ok (nibF_nb hk) (by omega) hv hv1 hvl, hl, fun k' hk' hl' => ?_⟩
    rw [mapV_put h.sort, find_put h.ok _ _ _ (nibF_nb hk), h.is k' hk' hl']
    by_cases e : k' = k
    · rw [if_pos e, if_pos (by rw [e])]
    · rw [if_neg e, if_neg (fun e2 => e (nibF_inj e2.symm))]
theorem IsMap.rem {ps : Mp} {n : Nd} (h : IsMap ps n) {k : List Nat} (hk : By k) (hkl : k.length ≤ 64) : IsMap (putM ps k []) (remT n (nibF k)) := by
  have hlen := nibF_len k
  have hl : ∀ p ∈ putM ps k [], By p.1 ∧ p.1.length ≤ 64 ∧ By p.2 ∧ 1 ≤ p.2.length ∧ p.2.length ≤ 1024 := fun p hp => by
    rcases mem_putM hp with hp | ⟨_, e⟩
    · exact h.lens p hp
    · exact absurd rfl e
  unfold remT
  by_cases hf : findN n (nibF k) = []
  · rw [if_pos hf]
    refine ⟨sort_put h.sort k [], h.can, h.ok, hl, fun k' hk' hl' => ?_⟩
    rw [mapV_put h.sort, h.is k' hk' hl']
    by_cases e : k' = k
    · rw [if_pos e, e, ← h.is k hk hkl, hf]
    · rw [if_neg e]
  · rw [if_neg hf]
    have hr := rem_ok h.ok h.can (nibF_nb hk) hf
    refine ⟨sort_put h.sort k [], hr.2, hr.1, hl, fun k' hk' hl' => ?_⟩
    rw [mapV_put h.sort, find_rem h.ok h.can (nibF_nb hk) hf _ (nibF_nb hk'), h.is k' hk' hl']
    by_cases e : k' = k
    · rw [if_pos e, if_pos (by rw [e])]
    · rw [if_neg e, if_neg (fun e2 => e (nibF_inj e2.symm))]
/-- What is there is put again. -/
theorem IsMap.same {ps : Mp} {n : Nd} (h : IsMap ps n) {p : List Nat × List Nat} (hp : p ∈ ps) : putT n (nibF p.1) p.2 = n := by
  have hl := h.lens p hp
  unfold putT
  rw [if_pos (by rw [h.is p.1 hl.1 hl.2.1, mapV_mem h.sort hp])]
/-- What isn't there is taken out. -/
theorem IsMap.gone {ps : Mp} {n : Nd} (h : IsMap ps n) {k : List Nat} (hk : By k) (hkl : k.length ≤ 64) (ho : ∀ p ∈ ps, p.1 ≠ k) : remT n (nibF k) = n := by
  unfold remT
  rw [if_pos (by rw [h.is k hk hkl, mapV_out ho])]
end Go.Proofs.YtmpfnglcmaollaaDoor
