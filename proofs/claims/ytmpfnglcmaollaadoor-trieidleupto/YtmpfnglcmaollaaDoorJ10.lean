/-
  Nibbles, walked: the program's and the document's.
-/
import Derived.Test.YtmpfnglcmaollaaDoorJ07
import Derived.Test.YtmpfnglcmaollaaDoorJ01
import Derived.Test.YtmpfnglcmaollaaDoorJ09
import Derived.Test.YtmpfnglcmaollaaDoorJ04
import Derived.Lib.AppendZeros
namespace Go.Proofs.YtmpfnglcmaollaaDoor
open Go.ChangeShapes Go.WideShapes Go.ChangeAt Go.RowKit

theorem nib_take {b : List Nat} {i x : Nat} (h : b[i]? = some x) : nibF (b.take (i + 1)) = nibF (b.take i) ++ [x / 16, x % 16] := by
  obtain ⟨hl, he⟩ := List.getElem?_eq_some_iff.1 h
  rw [List.take_succ_eq_append_getElem hl, he, nibF_app]; rfl
theorem Rd_lit2 (w : World) (x y : Nat) : Rd (w.alloc (.cells #[.int .u8 (x : Int), .int .u8 (y : Int)] 5)) (.slice (some ⟨w.heap.size, 0, none⟩) 2 2) (bv [x, y]) :=
  Rd.own (World.ownsRow_lit (base := 0) w #[.int .u8 (x : Int), .int .u8 (y : Int)] 2 (Nat.zero_le _) (by unfold maxLen; omega) rfl)
set_option maxRecDepth 20000 in
set_option maxHeartbeats 1600000 in
theorem nib_c (w : World) {v : Value} {b : List Nat} (hr : Rd w v (bv b)) (hb : By b) (hl : b.length ≤ 100000) :
    Calls Tryd.prog 23 #[v] w fun e w' => ∃ v', e = .returned v' ∧ w'.ownsRow w.heap.size 5 1 v' (nibF b).length (bv (nibF b)) ∧ Fr [] w w' := by
  obtain ⟨a, c, hv⟩ := hr.form
  rw [bv_len] at hv
  subst hv
  have HR := hid hr
  have HB := hid hb
  obtain ⟨n, hn⟩ : ∃ n, n = b.length := ⟨_, rfl⟩
  have HN := hid hn
  rw [← hn] at hl HR ⊢
  obtain ⟨m, hm⟩ : ∃ m, m = 2 * n := ⟨_, rfl⟩
  have e1 : 2 * (n : Int) = (m : Int) := by omega
  have hmk := make0 w m (by omega)
  have F0 : Hid (Fr [] w (w.alloc (.cells (madeCells #[.int .u8 0] m) 5))) := hid ((Fr.refl _ _).alloc _)
  have OM := hid (own_make w m (by omega))
  clear hr hb hn hm
  go_enter Tryd.func23, Tryd.ntmps23
  go_wp2_with fail
  go_loopw [3, 12] (fun v3 v12 wr => ∃ (i : Nat), i ≤ n ∧ v12 = .int .i64 (i : Int) ∧ wr.ownsRow w.heap.size 5 1 v3 (nibF (b.take i)).length (bv (nibF (b.take i))) ∧ Fr [] w wr) (fun _ v12 _ => n - (intOf v12).toNat)
  case atStart => exact ⟨0, Nat.zero_le _, rfl, OM.out, F0.out⟩
  case round =>
    obtain ⟨i, hi, rfl, ho, hf⟩ := hrel
    have HO := hid ho
    have HF := hid hf
    clear hf ho
    by_cases hlt : i < n
    · have hlt' : (i : Int) < (n : Int) := by omega
      obtain ⟨x, hx⟩ : ∃ x, b[i]? = some x := ⟨_, List.getElem?_eq_getElem (by rw [← HN.out]; exact hlt)⟩
      have hx256 : x < 256 := HB.out x (List.mem_of_getElem? hx)
      rcases HR.out.split with ⟨h0, _⟩ | ⟨q, o, c2, e, hc2, h0, hc⟩
      · rw [h0] at hx; simp at hx
      simp only [Value.slice.injEq] at e
      obtain ⟨rfl, e2, rfl⟩ := e
      have z := cell_fr (hc i x hx) HF.out
      have NT := hid (nib_take hx)
      clear e2 hc hx
      obtain ⟨xd, hxd⟩ : ∃ d, d = x / 16 := ⟨_, rfl⟩
      obtain ⟨xm, hxm⟩ : ∃ d, d = x % 16 := ⟨_, rfl⟩
      have eD : (x : Int) / 16 = (xd : Int) := by omega
      have eM : (x : Int) % 16 = (xm : Int) := by omega
      rw [← hxd, ← hxm] at NT
      clear hxd hxm
      have HO2 := hid (ownsRow_fr HO.out ((Fr.refl [] wr).alloc (.cells #[.int .u8 (xd : Int), .int .u8 (xm : Int)] 5)))
      have HF2 := hid (HF.out.alloc (.cells #[.int .u8 (xd : Int), .int .u8 (xm : Int)] 5))
      have hil : (nibF (b.take i)).length ≤ 200000 := by rw [nibF_len, List.length_take]; omega
      go_upto_region 6 with (at_builtin; refine wpList_append_bv rfl _ _ rfl (base := w.heap.size) HO2.out rfl HF2.out (Nat.le_refl _) HF2.out.size _ (Rd_lit2 wr xd xm) rfl (by simp; omega) ?_; intro v8 w8 o8 f8; have O8 := hid o8; have F8 := hid f8; clear o8 f8)
      have O9 : Hid (w8.ownsRow w.heap.size 5 1 v8 (nibF (b.take (i + 1))).length (bv (nibF (b.take (i + 1))))) := hid (by rw [NT.out, List.length_append]; exact O8.out)
      go_wp2
      go_roundw
      case rel => exact ⟨i + 1, by omega, by go_num, O9.out, F8.out⟩
      case measure => simp [intOf]; omega
    · have hie : i = n := by omega
      have hlt' : ¬ (i : Int) < (n : Int) := by omega
      have TK : Hid (b.take i = b) := hid (List.take_of_length_le (by rw [← HN.out]; omega))
      rw [TK.out] at HO
      clear hie
      go_wp2
      go_ret
      exact ⟨_, rfl, HO.out, HF.out⟩
/-- Some bytes, in a block of their own, appended to a row of bytes of the call's own. -/
theorem step_append_lit {ops : Array Oper} {o : Oper} {a : Act} {w : World} {K : Act → World → Prop} {Q : Exit → Act → World → Prop} {E : Prop}
    (hg : o.guard = none) (s x : Operand) (hop : o.op = Op.call { callee := Callee.builtin Builtin.append, args := #[s, x], argTypes := #[33, 33] })
    (base : Nat) {v : Value} {xs : List Nat} (hown : w.ownsRow base 5 1 v xs.length (bv xs)) (hs : a.eval s = v)
    (g m c : Nat) {ns : List Nat} {T : TypeId} (hm : m = ns.length) (hx : a.eval x = .slice (some ⟨g, 0, none⟩) m c) (hc : w.heap[g]? = some (.cells (bv ns).toArray T (0, 0))) (hl : xs.length + ns.length ≤ 1000000) (hbase : base ≤ w.heap.size)
    (hK : ∀ v' w', w'.ownsRow base 5 1 v' (xs ++ ns).length (bv (xs ++ ns)) → w.grownBy w' v.ownBlock → K (a.put o.dst v') w') :
    if Region.wanted o (yielded ops a.tmps) = true then Oper.wp Tryd.prog o a w K Q else E := by
  obtain ⟨i0, hi, hz0, hz1, hz2⟩ := info_parts infoB
  refine step_append_own hg s x 33 hop base 5 i0 (.int .u8 0) 1 1 Tryd.underlying33 hi hz0 hz1 hz2 rfl (by decide) v xs.length (bv xs) hs hown ⟨g, 0, none⟩ m c (bv ns) hx (by rw [bv_len, hm, Nat.mul_one]) ?_ bv_one (by unfold maxLen; omega) (by omega) hbase fun v' w' h1 h2 _ => hK v' w' (by rw [List.length_append, bv_append, ← hm]; exact h1) h2
  intro j u hj
  rw [Addr.add_lit, Nat.zero_add, blk_cell hc, ← Array.getElem?_toList]
  exact hj
set_option maxRecDepth 20000 in
set_option maxHeartbeats 1600000 in
theorem rnib_c (w : World) {v : Value} {b : List Nat} (hr : Rd w v (bv b)) (hb : By b) (hl : b.length ≤ 100000) :
    Calls Tryd.prog 24 #[v] w fun e w' => ∃ v', e = .returned v' ∧ w'.ownsRow w.heap.size 5 1 v' (nibF b).length (bv (nibF b)) ∧ Fr [] w w' := by
  obtain ⟨a, c, hv⟩ := hr.form
  rw [bv_len] at hv
  subst hv
  have HR := hid hr
  have HB := hid hb
  obtain ⟨n, hn⟩ : ∃ n, n = b.length := ⟨_, rfl⟩
  have HN := hid hn
  rw [← hn] at hl HR ⊢
  clear hr hb hn
  go_enter Tryd.func24, Tryd.ntmps24
  go_wp2_with fail
  go_loopw [3, 4] (fun v3 v4 wr => ∃ (i : Nat), i ≤ n ∧ v4 = .int .i64 (i : Int) ∧ wr.ownsRow w.heap.size 5 1 v3 (nibF (b.take i)).length (bv (nibF (b.take i))) ∧ Fr [] w wr) (fun _ v4 _ => n - (intOf v4).toNat)
  case atStart => exact ⟨0, Nat.zero_le _, rfl, World.ownsRow_nil _ _ _ _, Fr.refl _ _⟩
  case round =>
    obtain ⟨i, hi, rfl, ho, hf⟩ := hrel
    have HO := hid ho
    have HF := hid hf
    clear hf ho
    by_cases hlt : i < n
    · have hlt' : (i : Int) < (n : Int) := by omega
      obtain ⟨x, hx⟩ : ∃ x, b[i]? = some x := ⟨_, List.getElem?_eq_getElem (by rw [← HN.out]; exact hlt)⟩
      have hx256 : x < 256 := HB.out x (List.mem_of_getElem? hx)
      rcases HR.out.split with ⟨h0, _⟩ | ⟨q, o, c2, e, hc2, h0, hc⟩
      · rw [h0] at hx; simp at hx
      simp only [Value.slice.injEq] at e
      obtain ⟨rfl, e2, rfl⟩ := e
      have z0 := hc i x hx
      have z := cell_fr z0 HF.out
      have NT := hid (nib_take hx)
      clear e2 hc hx
      obtain ⟨xd, hxd⟩ : ∃ d, d = x / 16 := ⟨_, rfl⟩
      obtain ⟨xm, hxm⟩ : ∃ d, d = x % 16 := ⟨_, rfl⟩
      have eD : (x : Int) / 16 = (xd : Int) := by omega
      have eM : (x : Int) % 16 = (xm : Int) := by omega
      have eT : (x : Int).tmod 16 = (xm : Int) := by rw [Int.tmod_eq_emod_of_nonneg (by omega)]; omega
      have wD : IntKind.u8.wrap (xd : Int) = (xd : Int) := by rw [IntKind.wrap_u8]; omega
      have wM : IntKind.u8.wrap (xm : Int) = (xm : Int) := by rw [IntKind.wrap_u8]; omega
      rw [← hxd, ← hxm] at NT
      clear hxd hxm
      obtain ⟨a3, c3, e3, _⟩ := ownsRow_slice HO.out
      obtain ⟨l3, hl3⟩ : ∃ q, q = (nibF (b.take i)).length := ⟨_, rfl⟩
      have HL3 := hid hl3
      rw [← hl3] at e3
      subst e3
      clear hl3
      have hil : (nibF (b.take i)).length ≤ 200000 := by rw [nibF_len, List.length_take]; omega
      obtain ⟨X, hX⟩ : ∃ X, X = wr.alloc (.cells (bv [xd, xm]).toArray 5) := ⟨_, rfl⟩
      have FX : Hid (Fr [] wr X.drew) := hid (by rw [hX]; exact ((Fr.refl _ _).alloc _).drew)
      have HX : Hid (X.drew.heap[wr.heap.size]? = some (.cells (bv [xd, xm]).toArray 5 (0, 0))) := hid (by rw [hX]; exact blk_new _ _)
      have SK : Hid (∀ wx, Fr [] wr wx → wx.cell? ⟨q, o + i, none⟩ = some (.int .u8 (x : Int))) := hid (fun wx f => cell_fr z f)
      have HO2 := hid (ownsRow_fr HO.out FX.out)
      have HF2 := hid (HF.out.trans FX.out)
      have SW : Hid (∀ w8, Fr [] w w8 → w8.cell? ⟨q, o + i, none⟩ = some (.int .u8 (x : Int))) := hid (fun w8 f => cell_fr z0 f)
      clear z z0
      go_upto_region 5 with fail
      refine wp_region_held_drew (S := fun wx => wx.cell? ⟨q, o + i, none⟩ = some (.int .u8 (x : Int))) (by kernel_rfl) (SK.out _ (Fr.refl [] wr).drew) (fun hS => ?_)
      refine wpAnyH_take (i := 0) (v := (.slice a3 l3 c3)) rfl (by kernel_rfl) (by kernel_rfl) (by kernel_rfl) (fun _ _ _ h => h) (.inl ⟨by rfl, fun wx hX => by go_simp⟩) hS ?_
      simp only [Act.put]
      refine wpAnyH_take (i := 1) (v := (.slice (some ⟨q, o, none⟩) n c)) rfl (by kernel_rfl) (by kernel_rfl) (by kernel_rfl) (fun _ _ _ h => h) (.inl ⟨by rfl, fun wx hX => by go_simp⟩) hS ?_
      simp only [Act.put]
      refine wpAnyH_take (i := 2) (v := (.int .i64 (i : Int))) rfl (by kernel_rfl) (by kernel_rfl) (by kernel_rfl) (fun _ _ _ h => h) (.inl ⟨by rfl, fun wx hX => by go_simp⟩) hS ?_
      simp only [Act.put]
      refine wpAnyH_take (i := 3) (v := (.pointer (some ⟨q, o + i, none⟩))) rfl (by kernel_rfl) (by kernel_rfl) (by kernel_rfl) (fun _ _ _ h => h) (.inl ⟨by rfl, fun wx hX => by go_simp⟩) hS ?_
      simp only [Act.put]
      refine wpAnyH_take (i := 4) (v := (.int .u8 (x : Int))) rfl (by kernel_rfl) (by kernel_rfl) (by kernel_rfl) (fun _ _ _ h => h) (.inl ⟨by rfl, fun wx hX => by have q0 : wx.cell? ⟨q, o + i, none⟩ = some (.int .u8 (x : Int)) := hX; go_simp⟩) hS ?_
      simp only [Act.put]
      refine wpAnyH_take (i := 5) (v := (.int .u8 (xd : Int))) rfl (by kernel_rfl) (by kernel_rfl) (by kernel_rfl) (fun _ _ _ h => h) (.inl ⟨by rfl, fun wx hX => by go_simp⟩) hS ?_
      simp only [Act.put]
      refine wpAnyH_take (i := 6) (v := (.slice (some ⟨q, o, none⟩) n c)) rfl (by kernel_rfl) (by kernel_rfl) (by kernel_rfl) (fun _ _ _ h => h) (.inl ⟨by rfl, fun wx hX => by go_simp⟩) hS ?_
      simp only [Act.put]
      refine wpAnyH_take (i := 7) (v := (.int .i64 (i : Int))) rfl (by kernel_rfl) (by kernel_rfl) (by kernel_rfl) (fun _ _ _ h => h) (.inl ⟨by rfl, fun wx hX => by go_simp⟩) hS ?_
      simp only [Act.put]
      refine wpAnyH_take (i := 8) (v := (.pointer (some ⟨q, o + i, none⟩))) rfl (by kernel_rfl) (by kernel_rfl) (by kernel_rfl) (fun _ _ _ h => h) (.inl ⟨by rfl, fun wx hX => by go_simp⟩) hS ?_
      simp only [Act.put]
      refine wpAnyH_take (i := 9) (v := (.int .u8 (x : Int))) rfl (by kernel_rfl) (by kernel_rfl) (by kernel_rfl) (fun _ _ _ h => h) (.inl ⟨by rfl, fun wx hX => by have q0 : wx.cell? ⟨q, o + i, none⟩ = some (.int .u8 (x : Int)) := hX; go_simp⟩) hS ?_
      simp only [Act.put]
      refine wpAnyH_take (i := 10) (v := (.int .u8 (xm : Int))) rfl (by kernel_rfl) (by kernel_rfl) (by kernel_rfl) (fun _ _ _ h => h) (.inl ⟨by rfl, fun wx hX => by go_simp⟩) hS ?_
      simp only [Act.put]
      clear hS
      refine wpAnyH_ready (rs := [11]) (by kernel_rfl) (by simp) ?_
      refine AllReadyH.cons rfl (fun K hK => ?_) AllReadyH.nil
      go_simp
      have eX : wr.alloc (.cells #[.int .u8 (xd : Int), .int .u8 (xm : Int)] 5) = X := hX.symm
      rw [eX]
      clear hX eX
      refine hK.out _ _ (SK.out _ FX.out) (fun hS => ?_)
      clear hK K
      refine wpAnyH_ready (rs := [12]) (by kernel_rfl) (by simp) ?_
      refine AllReadyH.cons rfl (fun K hK => ?_) AllReadyH.nil
      refine step_append_lit rfl (.tmp 11) (.tmp 22) rfl w.heap.size HO2.out (by first | (simp [Act.eval, HL3.out]; done) | simp [Act.eval, Act.put, HL3.out]) wr.heap.size 2 2 (ns := [xd, xm]) rfl (by first | (simp [Act.eval]; done) | simp [Act.eval, Act.put]) HX.out (by simp; omega) HF2.out.size ?_
      intro v8 w8 o8 g8
      have F8 := hid (HF2.out.grew HO2.out (Nat.le_refl _) g8)
      have O8 := hid o8
      clear o8 g8
      refine hK.out _ _ (SW.out _ F8.out) (fun hS => ?_)
      clear hK K
      obtain ⟨a8, c8, e8, _⟩ := ownsRow_slice O8.out
      obtain ⟨l8, hl8⟩ : ∃ q, q = (nibF (b.take i) ++ [xd, xm]).length := ⟨_, rfl⟩
      have HL8 := hid hl8
      rw [← hl8] at e8
      subst e8
      rw [← hl8] at O8
      clear hl8
      refine wpAnyH_ready (rs := [13]) (by kernel_rfl) (by simp) ?_
      refine AllReadyH.cons rfl (fun K hK => ?_) AllReadyH.nil
      go_simp
      refine hK.out _ _ (SW.out _ F8.out) (fun hS => ?_)
      clear hK K
      refine wpAnyH_done (by kernel_rfl) ?_ _
      go_wp2
      go_roundw
      case rel => exact ⟨i + 1, by omega, by go_num, by rw [NT.out, ← HL8.out]; exact O8.out, F8.out⟩
      case measure => simp [intOf]; omega
    · have hie : i = n := by omega
      have hlt' : ¬ (i : Int) < (n : Int) := by omega
      have TK : Hid (b.take i = b) := hid (List.take_of_length_le (by rw [← HN.out]; omega))
      rw [TK.out] at HO
      clear hie
      go_wp2
      go_ret
      exact ⟨_, rfl, HO.out, HF.out⟩
end Go.Proofs.YtmpfnglcmaollaaDoor
namespace Go.Proofs.YtmpfnglcmaollaaDoor
open Go.ChangeShapes Go.WideShapes Go.ChangeAt Go.RowKit

set_option maxHeartbeats 400000 in
theorem clone_c {w : World} {v : Value} {ns : List Nat} (hr : Rd w v (bv ns)) (hl : ns.length ≤ 140737488355328) :
    Calls Tryd.prog 37 #[v] w fun e w' => ∃ v', e = .returned v' ∧ w'.ownsRow w.heap.size 5 1 v' ns.length (bv ns) ∧ Fr [] w w' := by
  have heq := fun (w : World) (a : Option Addr) (n c : Nat) => Lib.run_eql_slice_nil (P := Tryd.prog) w 33 5 a n c 0 0 Tryd.underlying33
  rcases hr with ⟨rfl, h0⟩ | ⟨a, c, rfl, h4, hc⟩
  · have : ns = [] := by simpa [bv] using h0
    subst this
    go_enter Tryd.func37, Tryd.ntmps37
    go_wp2
    go_ret
    exact ⟨_, rfl, World.ownsRow_nil _ _ _ _, Fr.refl _ _⟩
  · have hown : (w.alloc (.cells #[] 5)).ownsRow w.heap.size 5 1 (.slice (some ⟨w.heap.size, 0, none⟩) 0 0) 0 [] := World.ownsRow_lit w #[] 0 (Nat.le_refl _) (by unfold maxLen; omega) rfl
    have hr' : Rd (w.alloc (.cells #[] 5)) (.slice (some a) (bv ns).length c) (bv ns) := Rd.fr (w := w) (.inr ⟨a, c, rfl, h4, hc⟩) ((Fr.refl _ _).alloc _)
    have HO := hid hown
    have HR := hid hr'
    clear hown hr' hc h4
    rw [bv_len] at HR ⊢
    go_enter Tryd.func37, Tryd.ntmps37
    go_wp2_with (at_builtin; refine wpList_append_rd rfl _ _ rfl w.heap.size (by simp) _ _ _ rfl HO.out _ _ rfl HR.out bv_one (by rw [bv_len]; omega) ?_; intro v' w1 o1 o2 o3)
    go_ret
    rw [bv_len, Nat.zero_add, List.nil_append] at o1
    exact ⟨v', rfl, o1, ((Fr.refl _ _).alloc _).grew HO.out (Nat.le_refl _) o2⟩

theorem grow_own (w : World) (n : Nat) (hn : n ≤ maxLen) : (w.drew.alloc (.cells (Builtin.zeroCells (Value.int .u8 0).cells n ++ Builtin.zeroCells (Value.int .u8 0).cells (grownCap w n 0 5 - n)) 5)).ownsRow w.heap.size 5 1 (.slice (some ⟨w.heap.size, 0, none⟩) 0 (grownCap w n 0 5)) 0 [] := by
  have h1 := grownCap_ge w n 0 5
  refine ⟨rfl, .inr ⟨w.heap.size, grownCap w n 0 5, _, rfl, Nat.le_refl _, blk_new w.drew _, Nat.zero_le _, grownCap_le_maxLen w n 0 _ hn, ?_, by simp⟩⟩
  simp only [Array.size_append, size_zeroCells, Value.cells]
  simp; omega

set_option maxRecDepth 20000 in
set_option maxHeartbeats 400000 in
theorem grow_c (w : World) (n : Nat) (hn : n ≤ 140737488355328) :
    Calls Tryd.prog 72 #[.slice none 0 0, .int .i64 (n : Int)] w fun e w' => ∃ v, e = .returned v ∧ w'.ownsRow w.heap.size 5 1 v 0 [] ∧ Fr [] w w' := by
  obtain ⟨i0, hi, hz0, hz1, hz2⟩ := info_parts infoB
  by_cases h0 : 0 < n
  · have hr := fun ty => Lib.run_append_nil_zeros (P := Tryd.prog) w 33 3 ty 5 i0 (.int .u8 0) .i64 .i64 Tryd.underlying33 Tryd.underlying3 hi hz0 n h0 (by rw [hz1]; omega) (by omega) (by rw [hz2]; omega)
    have HO := hid (grow_own w n (by unfold maxLen; omega))
    clear hi hz0 hz1 hz2
    go_enter Tryd.func72, Tryd.ntmps72
    go_wp2_with (at_builtin; refine Lib.wpList_append_run _ rfl _ _ _ _ rfl _ _ rfl rfl _ _ (hr _) ?_)
    go_ret
    exact ⟨_, rfl, HO.out, ((Fr.refl _ _).drew).alloc _⟩
  · have : n = 0 := by omega
    subst this
    clear hi hz0 hz1 hz2
    go_enter Tryd.func72, Tryd.ntmps72
    go_wp2
    go_ret
    exact ⟨_, rfl, World.ownsRow_nil _ _ _ _, Fr.refl _ _⟩

/-- Lists of bytes one behind the other. -/
def catN (X : Nat → List Nat) : Nat → List Nat
  | 0 => []
  | k + 1 => catN X k ++ X k

set_option maxRecDepth 20000 in
set_option maxHeartbeats 800000 in
theorem concat_c {w : World} (q m : Nat) (V : Nat → Value) (X : Nat → List Nat) (hm : 0 < m) (hm1 : m ≤ 8) (hc : ∀ j, j < m → w.cell? ⟨q, j, none⟩ = some (V j)) (hr : ∀ j, j < m → Rd w (V j) (bv (X j))) (hl : ∀ j, j ≤ m → (catN X j).length ≤ 140737488355328) :
    Calls Tryd.prog 54 #[.slice (some ⟨q, 0, none⟩) m m] w fun e w' => ∃ v, e = .returned v ∧ w'.ownsRow w.heap.size 5 1 v (catN X m).length (bv (catN X m)) ∧ Fr [] w w' := by
  have HC := hid hc
  have HR := hid hr
  have HL := hid hl
  clear hc hr hl
  go_enter Tryd.func54, Tryd.ntmps54
  go_wp2
  go_loop [3, 11] (fun v3 v11 => ∃ (k s : Nat), k ≤ m ∧ v11 = .int .i64 (k : Int) ∧ v3 = .int .i64 (s : Int) ∧ s = (catN X k).length) (fun _ v11 => m - (intOf v11).toNat)
  case atStart => exact ⟨0, 0, by omega, rfl, rfl, rfl⟩
  case round =>
    obtain ⟨k, s, hk, rfl, rfl, hs⟩ := hrel
    have HS := hid hs
    have hs1 : s ≤ 140737488355328 := by rw [hs]; exact HL.out k hk
    clear hs
    by_cases hlt : k < m
    · obtain ⟨a, c, hv⟩ := (HR.out k hlt).form
      rw [bv_len] at hv
      have hcell := HC.out k hlt
      rw [hv] at hcell
      have hs2 : s + (X k).length ≤ 140737488355328 := by
        have := HL.out (k + 1) hlt
        rw [catN, List.length_append, ← HS.out] at this; exact this
      clear hv
      go_wp2
      go_round
      case rel => exact ⟨k + 1, s + (X k).length, by omega, by go_num, by go_num, by rw [catN, List.length_append, HS.out]⟩
      case measure => simp [intOf]; omega
    · have : k = m := by omega
      subst this
      go_wp2_with (go_at_call 72; refine (grow_c _ s hs1).mono ?_; rintro e w1 ⟨v1, rfl, o1, f1⟩)
      have O1 := hid o1
      have F1 := hid f1
      clear o1 f1
      go_loopw [6, 27] (fun v6 v27 wr => ∃ j : Nat, j ≤ k ∧ v27 = .int .i64 (j : Int) ∧ wr.ownsRow w.heap.size 5 1 v6 (catN X j).length (bv (catN X j)) ∧ Fr [] w wr) (fun _ v27 _ => k - (intOf v27).toNat)
      case atStart => exact ⟨0, by omega, rfl, O1.out, F1.out⟩
      case round =>
        obtain ⟨j, hj, rfl, ho, hf⟩ := hrel
        have RO := hid ho
        have RF := hid hf
        have hsz := hf.size
        clear ho hf
        by_cases hjk : j < k
        · obtain ⟨a, c, hv⟩ := (HR.out j hjk).form
          rw [bv_len] at hv
          have hr1 := (HR.out j hjk).fr RF.out
          have hcell : wr.cell? ⟨q, j, none⟩ = some (V j) := by
            have h6 := HC.out j hjk
            rw [World.cell?_of_block (w := w) (RF.out.block _ (World.block_lt_of_cell? w _ h6) (by simp))]; exact h6
          rw [hv] at hcell hr1
          have R1 := hid hr1
          have hs2 : (catN X j).length + (X j).length ≤ 140737488355328 := by
            have := HL.out (j + 1) hjk
            rw [catN, List.length_append] at this; exact this
          clear hv hr1
          go_wp2_with (at_builtin; refine wpList_append_rd rfl _ _ rfl w.heap.size hsz _ _ _ rfl RO.out _ _ rfl R1.out bv_one (by rw [bv_len]; exact hs2) ?_; intro v' w2 o1 o2 o3)
          have B : Hid (w2.ownsRow w.heap.size 5 1 v' (catN X (j + 1)).length (bv (catN X (j + 1))) ∧ Fr [] w w2) := by
            refine ⟨?_, RF.out.grew RO.out (Nat.le_refl _) o2⟩
            rw [catN, List.length_append, bv_append]
            rw [bv_len] at o1; exact o1
          clear o1 o2 o3
          go_wp2
          go_roundw
          case rel => exact ⟨j + 1, by omega, by go_num, B.out⟩
          case measure => simp [intOf]; omega
        · have : j = k := by omega
          subst this
          go_wp2
          go_ret
          exact ⟨_, rfl, RO.out, RF.out⟩

theorem concat2_c {w : World} {v0 v1 : Value} {x0 x1 : List Nat} (h0 : Rd w v0 (bv x0)) (h1 : Rd w v1 (bv x1)) (hl : x0.length + x1.length ≤ 140737488355328) :
    Calls Tryd.prog 54 #[.slice (some ⟨w.heap.size, 0, none⟩) 2 2] (w.alloc (.cells #[v0, v1] 33)) fun e w' => ∃ v, e = .returned v ∧ w'.ownsRow w.heap.size 5 1 v (x0 ++ x1).length (bv (x0 ++ x1)) ∧ Fr [] w w' := by
  have hf : Fr [] w (w.alloc (.cells #[v0, v1] 33)) := (Fr.refl _ _).alloc _
  refine (concat_c w.heap.size 2 (fun j => if j = 0 then v0 else v1) (fun j => if j = 0 then x0 else x1) (by omega) (by omega) (fun j hj => ?_) (fun j hj => ?_) (fun j hj => ?_)).mono ?_
  · rw [blk_cell (blk_new _ _)]
    rcases (show j = 0 ∨ j = 1 from by omega) with rfl | rfl <;> rfl
  · rcases (show j = 0 ∨ j = 1 from by omega) with rfl | rfl
    · exact h0.fr hf
    · exact h1.fr hf
  · rcases (show j = 0 ∨ j = 1 ∨ j = 2 from by omega) with rfl | rfl | rfl <;> simp [catN] <;> omega
  · rintro e w' ⟨v, rfl, o, f⟩
    exact ⟨v, rfl, by simpa [catN] using ownsRow_base o (by simp), hf.trans f⟩
theorem concat3_c {w : World} {v0 v1 v2 : Value} {x0 x1 x2 : List Nat} (h0 : Rd w v0 (bv x0)) (h1 : Rd w v1 (bv x1)) (h2 : Rd w v2 (bv x2)) (hl : x0.length + x1.length + x2.length ≤ 140737488355328) :
    Calls Tryd.prog 54 #[.slice (some ⟨w.heap.size, 0, none⟩) 3 3] (w.alloc (.cells #[v0, v1, v2] 33)) fun e w' => ∃ v, e = .returned v ∧ w'.ownsRow w.heap.size 5 1 v (x0 ++ x1 ++ x2).length (bv (x0 ++ x1 ++ x2)) ∧ Fr [] w w' := by
  have hf : Fr [] w (w.alloc (.cells #[v0, v1, v2] 33)) := (Fr.refl _ _).alloc _
  refine (concat_c w.heap.size 3 (fun j => if j = 0 then v0 else if j = 1 then v1 else v2) (fun j => if j = 0 then x0 else if j = 1 then x1 else x2) (by omega) (by omega) (fun j hj => ?_) (fun j hj => ?_) (fun j hj => ?_)).mono ?_
  · rw [blk_cell (blk_new _ _)]
    rcases (show j = 0 ∨ j = 1 ∨ j = 2 from by omega) with rfl | rfl | rfl <;> rfl
  · rcases (show j = 0 ∨ j = 1 ∨ j = 2 from by omega) with rfl | rfl | rfl
    · exact h0.fr hf
    · exact h1.fr hf
    · exact h2.fr hf
  · rcases (show j = 0 ∨ j = 1 ∨ j = 2 ∨ j = 3 from by omega) with rfl | rfl | rfl | rfl <;> simp [catN] <;> omega
  · rintro e w' ⟨v, rfl, o, f⟩
    exact ⟨v, rfl, by simpa [catN] using ownsRow_base o (by simp), hf.trans f⟩
end Go.Proofs.YtmpfnglcmaollaaDoor
