/-
  What Encode of package rlp answers.
-/
import Derived.Test.YtmpfnglcmaollaaDoorJ05
import Derived.Deep.RegionHeld
import Derived.Test.YtmpfnglcmaollaaDoorJ01
import Derived.Deep.RegionLaw
import Derived.Test.YtmpfnglcmaollaaDoorJ00
namespace Go.Proofs.YtmpfnglcmaollaaDoor
open Go.ChangeShapes Go.WideShapes Go.ChangeAt Go.RowKit

/-- What Encode tells of an item: its bytes, or its first fault. -/
def encE {n : Nat} (t : Tr n) : Nat := if bad n 1 t ≠ 0 then bad n 1 t else if 65536 < (enc n t).length then 44 else 0
def encB {n : Nat} (t : Tr n) : List Nat := if encE t = 0 then enc n t else []

theorem make0 (w : World) (n : Nat) (hn : n ≤ 1000000) : (Instr.makeSlice 33 (.int .i64 0) (.int .i64 (n : Int))).run Tryd.prog w = .ok (.slice (some ⟨w.heap.size, 0, none⟩) 0 n) (w.alloc (.cells (madeCells #[.int .u8 0] n) 5)) := by
  obtain ⟨i0, hi, hz0, hz1, hz2⟩ := info_parts infoB
  have h := run_make (P := Tryd.prog) w 33 5 i0 (.int .u8 0) Tryd.underlying33 hi hz0 .i64 .i64 0 (n : Int) (by omega) (by omega) (by rw [hz2]; omega) (by omega)
  simpa [hz1, Value.cells] using h
theorem own_make (w : World) (n : Nat) (hn : n ≤ 1000000) : (w.alloc (.cells (madeCells #[.int .u8 0] n) 5)).ownsRow w.heap.size 5 1 (.slice (some ⟨w.heap.size, 0, none⟩) 0 n) 0 (bv []) :=
  ⟨rfl, .inr ⟨w.heap.size, n, _, rfl, Nat.le_refl _, blk_new _ _, Nat.zero_le _, by unfold maxLen; omega, by simp [madeCells], by simp [bv]⟩⟩

set_option maxRecDepth 20000 in
set_option maxHeartbeats 800000 in
theorem encode_c (w : World) {v : Value} {n : Nat} {t : Tr n} (hv : IsV w n v t) (hn : 16 ≤ n) (hc : cnt n t ≤ 4096) (he : (enc n t).length ≤ 1000000) :
    Calls Tryd.prog 40 #[v] w fun r w' => ∃ v', r = .returned (.tuple #[v', .int .i64 (encE t : Int)]) ∧ w'.ownsRow w.heap.size 5 1 v' (encB t).length (bv (encB t)) ∧ Fr [] w w' := by
  obtain ⟨l, a1, n1, c1, a2, n2, c2, rfl⟩ := hv.agg
  have HV := hid hv
  have HN := hid (blk_new w (.cells #[.bool l, .slice a1 n1 c1, .slice a2 n2 c2] 77))
  obtain ⟨E, hE⟩ : ∃ E, E = (enc n t).length := ⟨_, rfl⟩
  obtain ⟨B, hB⟩ : ∃ B, B = bad n 1 t := ⟨_, rfl⟩
  obtain ⟨R, hR⟩ : ∃ R, R = encE t := ⟨_, rfl⟩
  obtain ⟨O, hO⟩ : ∃ O, O = encB t := ⟨_, rfl⟩
  have hbl := bad_le n 1 t
  rw [← hB] at hbl
  rw [← hR, ← hO]
  have hr1 : R = if B ≠ 0 then B else if 65536 < E then 44 else 0 := by rw [hR, hB, hE]; rfl
  have ho1 : O = if R = 0 then enc n t else [] := by rw [hO, hR]; rfl
  have HE := hid hE
  have HB := hid hB
  have HR := hid hr1
  have HO := hid ho1
  rw [← hE] at he
  clear hv hE hB hR hO hr1 ho1
  have F0 := hid ((Fr.refl [] w).alloc (.cells #[.bool l, .slice a1 n1 c1, .slice a2 n2 c2] 77))
  go_enter Tryd.func40, Tryd.ntmps40
  go_wp2_with fail
  refine (measure_c _ (HV.out.fr F0.out) hn hc (by rw [← HE.out]; exact he)).mono ?_
  rintro r w1 ⟨hT, f1⟩
  rw [← HE.out, ← HB.out] at hT
  have F1 := hid (F0.out.trans f1)
  have hbk := f1.at HN.out (by simp)
  have hd0 := blk_cell hbk 0
  have hd1 := blk_cell hbk 1
  have hd2 := blk_cell hbk 2
  simp at hd0 hd1 hd2
  have V1 := hid (HV.out.fr F1.out)
  clear f1
  rcases hT with ⟨t1, rfl⟩ | ⟨t1, rfl⟩
  · have HT := hid t1
    by_cases hlong : 65536 < E
    · have hR : R = 44 := by rw [HR.out, if_neg (by rw [HT.out]; simp), if_pos hlong]
      have hO : O = [] := by rw [HO.out, if_neg (by omega)]
      subst hR
      subst hO
      clear t1 hbk
      go_wp2
      go_ret2
      exact ⟨_, rfl, World.ownsRow_nil _ _ _ _, F1.out⟩
    · have hR : R = 0 := by rw [HR.out, if_neg (by rw [HT.out]; simp), if_neg hlong]
      have hO : O = enc n t := by rw [HO.out, if_pos hR]
      subst hR
      have HOO := hid hO
      clear t1 hO
      go_wp2_with fail
      have HD := hid (And.intro hd0 (And.intro hd1 hd2))
      have hmk := make0 w1.drew E (by omega)
      clear hd0 hd1 hd2
      refine wp_region_held_drew (S := fun w' => Fr [] w1 w') (by kernel_rfl) (Fr.refl [] w1).drew (fun hH => ?_)
      refine wpAnyH_take (i := 0) (v := .int .i64 (E : Int)) rfl (by kernel_rfl) (by kernel_rfl) (by kernel_rfl) (fun _ _ _ h => h) (.inl ⟨by rfl, fun wx _ => by go_simp⟩) hH ?_
      simp only [Act.put]
      refine wpAnyH_take (i := 2) (v := .agg #[.bool l, .slice a1 n1 c1, .slice a2 n2 c2]) rfl (by kernel_rfl) (by kernel_rfl) (by kernel_rfl) (fun _ _ _ h => h) (.inl ⟨by rfl, fun wx h => by
        have g0 := cell_fr HD.out.1 h
        have g1 := cell_fr HD.out.2.1 h
        have g2 := cell_fr HD.out.2.2 h
        go_simp⟩) hH ?_
      simp only [Act.put]
      refine wpAnyH_ready (rs := [1]) (by kernel_rfl) (by simp) ?_
      refine AllReadyH.cons rfl (fun K hK => ?_) AllReadyH.nil
      have HH := hid hH
      clear hH
      go_simp
      have FM := hid (HH.out.alloc (.cells (madeCells #[.int .u8 0] E) 5))
      refine hK.out _ _ FM.out (fun _ => ?_)
      clear hK K
      refine wpAnyH_ready (rs := [3]) (by kernel_rfl) (by simp) ?_
      refine AllReadyH.cons rfl (fun K hK => ?_) AllReadyH.nil
      go_simp
      refine (writeI_c n w1 t 1 _ _ _ [] (by rw [← HB.out]; exact HT.out) (base := w1.heap.size) (Nat.le_refl _) V1.out FM.out (by simp) (own_make w1.drew E (by omega)) (by rw [← HE.out]; simp; omega)).mono ?_
      rintro r w2 ⟨v2, rfl, o2, f2, k2⟩
      rw [List.nil_append, ← HOO.out] at o2
      have O2 := hid (ownsRow_base (B' := w.heap.size) o2 F1.out.size)
      have F2 := hid f2
      refine hK.out _ _ f2 (fun _ => ?_)
      clear hK K o2 f2 k2
      refine wpAnyH_ready (rs := [4]) (by kernel_rfl) (by simp) ?_
      refine AllReadyH.cons rfl (fun K hK => ?_) AllReadyH.nil
      go_simp
      refine hK.out _ _ F2.out (fun _ => ?_)
      clear hK K
      refine wpAnyH_ready (rs := [5]) (by kernel_rfl) (by simp) ?_
      refine AllReadyH.cons rfl (fun K hK => ?_) AllReadyH.nil
      go_simp
      refine hK.out _ _ F2.out (fun _ => ?_)
      clear hK K
      refine wpAnyH_done (by kernel_rfl) ?_ _
      clear hmk
      go_wp2
      go_ret2
      exact ⟨v2, rfl, O2.out, F1.out.trans F2.out⟩
  · have HT := hid t1
    have hR : R = B := by rw [HR.out, if_pos HT.out]
    have hO : O = [] := by rw [HO.out, if_neg (by omega)]
    subst hR
    subst hO
    have hz : ((R : Int) == 0) = false := beq_eq_false_iff_ne.2 (by omega)
    clear t1 hbk
    go_wp2
    go_ret2
    exact ⟨_, rfl, World.ownsRow_nil _ _ _ _, F1.out⟩
end Go.Proofs.YtmpfnglcmaollaaDoor
namespace Go.Proofs.YtmpfnglcmaollaaDoor
open Go.ChangeShapes Go.WideShapes Go.ChangeAt Go.RowKit

theorem step_append_own {P : Program} {ops : Array Oper} {o : Oper} {a : Act} {w : World} {K : Act → World → Prop} {Q : Exit → Act → World → Prop} {E : Prop}
    (hg : o.guard = none) (s x : Operand) (t : TypeId) (hop : o.op = Op.call { callee := Callee.builtin Builtin.append, args := #[s, x], argTypes := #[t, t] })
    (base : Nat) (e : TypeId) (i : TypeInfo) (z : Value) (size bytes : Nat) (ht : P.underlying t = some (.slice e)) (hi : P.info? e = some i) (hz : i.zero = some z)
    (hsize : i.size = size) (hby : i.bytes = bytes) (hzs : z.cells.size = size) (hsz : 0 < size)
    (v : Value) (n : Nat) (xs : List Value) (hs : a.eval s = v) (hown : w.ownsRow base e size v n xs)
    (ad : Addr) (m c : Nat) (news : List Value) (hx : a.eval x = .slice (some ad) m c) (hl : news.length = m * size) (hnews : ∀ j u, news[j]? = some u → w.cell? (ad.add j) = some u) (h1 : ∀ u ∈ news, u.oneCell' = true)
    (h63 : n + m ≤ maxLen) (hbytes : (n + m) * bytes ≤ 140737488355328) (hbase : base ≤ w.heap.size)
    (hK : ∀ v' w', w'.ownsRow base e size v' (n + m) (xs ++ news) → w.grownBy w' v.ownBlock → (v'.ownBlock = v.ownBlock ∨ v'.ownBlock = some w.heap.size) → K (a.put o.dst v') w') :
    if Region.wanted o (yielded ops a.tmps) = true then Oper.wp P o a w K Q else E := by
  have hw : Region.wanted o (yielded ops a.tmps) = true := by simp [Region.wanted, hg]
  rw [if_pos hw]
  obtain ⟨v', w', hr, h2, h3, _, h5⟩ := run_append_own_at (P := P) w base t o.type e i z size bytes ht hi hz hsize hby hzs hsz v n xs hown ad m c news hl hnews h1 h63 hbytes hbase
  unfold Oper.wp
  simp [execOp, hop, resolve, invoke, builtin, hs, hx, hr, Result.andThen]
  exact hK v' w' h2 h3 h5

/-- One byte appended to a row of bytes of the call's own. -/
theorem step_append_one {ops : Array Oper} {o : Oper} {a : Act} {w : World} {K : Act → World → Prop} {Q : Exit → Act → World → Prop} {E : Prop} {z : Int}
    (hg : o.guard = none) (s x : Operand) (hop : o.op = Op.call { callee := Callee.builtin Builtin.append, args := #[s, x], argTypes := #[33, 33] })
    (base : Nat) {v : Value} {n : Nat} {xs : List Value} (hown : w.ownsRow base 5 1 v n xs) (hs : a.eval s = v)
    (g : Nat) (hx : a.eval x = .slice (some ⟨g, 0, none⟩) 1 1) (hc : w.cell? ⟨g, 0, none⟩ = some (.int .u8 z)) (hl : n + 1 ≤ 100000) (hbase : base ≤ w.heap.size)
    (hK : ∀ v' w', w'.ownsRow base 5 1 v' (n + 1) (xs ++ [.int .u8 z]) → w.grownBy w' v.ownBlock → K (a.put o.dst v') w') :
    if Region.wanted o (yielded ops a.tmps) = true then Oper.wp Tryd.prog o a w K Q else E := by
  obtain ⟨i0, hi, hz0, hz1, hz2⟩ := info_parts infoB
  refine step_append_own hg s x 33 hop base 5 i0 (.int .u8 0) 1 1 Tryd.underlying33 hi hz0 hz1 hz2 rfl (by decide) v n xs hs hown ⟨g, 0, none⟩ 1 1 [.int .u8 z] hx rfl ?_ (by simp [Value.oneCell']) (by unfold maxLen; omega) (by omega) hbase fun v' w' h1 h2 _ => hK v' w' h1 h2
  intro j u hj
  cases j with
  | zero => simp at hj; subst hj; rw [Addr.add_lit]; exact hc
  | succ j => simp at hj
end Go.Proofs.YtmpfnglcmaollaaDoor
namespace Go.Proofs.YtmpfnglcmaollaaDoor
open Go.ChangeShapes Go.WideShapes Go.ChangeAt Go.RowKit

theorem nib_take {b : List Nat} {i x : Nat} (h : b[i]? = some x) : nibF (b.take (i + 1)) = nibF (b.take i) ++ [x / 16, x % 16] := by
  obtain ⟨hl, he⟩ := List.getElem?_eq_some_iff.1 h
  rw [List.take_succ_eq_append_getElem hl, he, nibF_app]; rfl
theorem Rd_lit2 (w : World) (x y : Nat) : Rd (w.alloc (.cells #[.int .u8 (x : Int), .int .u8 (y : Int)] 5)) (.slice (some ⟨w.heap.size, 0, none⟩) 2 2) (bv [x, y]) :=
  Rd.own (World.ownsRow_lit (base := 0) w #[.int .u8 (x : Int), .int .u8 (y : Int)] 2 (Nat.zero_le _) (by unfold maxLen; omega) rfl)
set_option maxRecDepth 20000 in
set_option maxHeartbeats 1600000 in
theorem nib_c (w : World) {v : Value} {b : List Nat} (hr : Rd w v (bv b)) (hb : By b) (hl : b.length ≤ 100000) :
    Calls Tryd.prog 23 #[v] w fun e w' => ∃ v', e = .returned v' ∧ w'.ownsRow w.heap.size 5 1 v' (nibF b).length (bv (nibF b)) ∧ Fr [] w w' := by
  obtain ⟨a, c, hv⟩ := hr.form
  rw [bv_len] at hv
  subst hv
  have HR := hid hr
  have HB := hid hb
  obtain ⟨n, hn⟩ : ∃ n, n = b.length := ⟨_, rfl⟩
  have HN := hid hn
  rw [← hn] at hl HR ⊢
  obtain ⟨m, hm⟩ : ∃ m, m = 2 * n := ⟨_, rfl⟩
  have e1 : 2 * (n : Int) = (m : Int) := by omega
  have hmk := make0 w m (by omega)
  have F0 : Hid (Fr [] w (w.alloc (.cells (madeCells #[.int .u8 0] m) 5))) := hid ((Fr.refl _ _).alloc _)
  have OM := hid (own_make w m (by omega))
  clear hr hb hn hm
  go_enter Tryd.func23, Tryd.ntmps23
  go_wp2_with fail
  go_loopw [3, 12] (fun v3 v12 wr => ∃ (i : Nat), i ≤ n ∧ v12 = .int .i64 (i : Int) ∧ wr.ownsRow w.heap.size 5 1 v3 (nibF (b.take i)).length (bv (nibF (b.take i))) ∧ Fr [] w wr) (fun _ v12 _ => n - (intOf v12).toNat)
  case atStart => exact ⟨0, Nat.zero_le _, rfl, OM.out, F0.out⟩
  case round =>
    obtain ⟨i, hi, rfl, ho, hf⟩ := hrel
    have HO := hid ho
    have HF := hid hf
    clear hf ho
    by_cases hlt : i < n
    · have hlt' : (i : Int) < (n : Int) := by omega
      obtain ⟨x, hx⟩ : ∃ x, b[i]? = some x := ⟨_, List.getElem?_eq_getElem (by rw [← HN.out]; exact hlt)⟩
      have hx256 : x < 256 := HB.out x (List.mem_of_getElem? hx)
      rcases HR.out.split with ⟨h0, _⟩ | ⟨q, o, c2, e, hc2, h0, hc⟩
      · rw [h0] at hx; simp at hx
      simp only [Value.slice.injEq] at e
      obtain ⟨rfl, e2, rfl⟩ := e
      have z := cell_fr (hc i x hx) HF.out
      have NT := hid (nib_take hx)
      clear e2 hc hx
      obtain ⟨xd, hxd⟩ : ∃ d, d = x / 16 := ⟨_, rfl⟩
      obtain ⟨xm, hxm⟩ : ∃ d, d = x % 16 := ⟨_, rfl⟩
      have eD : (x : Int) / 16 = (xd : Int) := by omega
      have eM : (x : Int) % 16 = (xm : Int) := by omega
      rw [← hxd, ← hxm] at NT
      clear hxd hxm
      have HO2 := hid (ownsRow_fr HO.out ((Fr.refl [] wr).alloc (.cells #[.int .u8 (xd : Int), .int .u8 (xm : Int)] 5)))
      have HF2 := hid (HF.out.alloc (.cells #[.int .u8 (xd : Int), .int .u8 (xm : Int)] 5))
      have hil : (nibF (b.take i)).length ≤ 200000 := by rw [nibF_len, List.length_take]; omega
      go_upto_region 6 with (at_builtin; refine wpList_append_bv rfl _ _ rfl (base := w.heap.size) HO2.out rfl HF2.out (Nat.le_refl _) HF2.out.size _ (Rd_lit2 wr xd xm) rfl (by simp; omega) ?_; intro v8 w8 o8 f8; have O8 := hid o8; have F8 := hid f8; clear o8 f8)
      have O9 : Hid (w8.ownsRow w.heap.size 5 1 v8 (nibF (b.take (i + 1))).length (bv (nibF (b.take (i + 1))))) := hid (by rw [NT.out, List.length_append]; exact O8.out)
      go_wp2
      go_roundw
      case rel => exact ⟨i + 1, by omega, by go_num, O9.out, F8.out⟩
      case measure => simp [intOf]; omega
    · have hie : i = n := by omega
      have hlt' : ¬ (i : Int) < (n : Int) := by omega
      have TK : Hid (b.take i = b) := hid (List.take_of_length_le (by rw [← HN.out]; omega))
      rw [TK.out] at HO
      clear hie
      go_wp2
      go_ret
      exact ⟨_, rfl, HO.out, HF.out⟩
/-- Some bytes, in a block of their own, appended to a row of bytes of the call's own. -/
theorem step_append_lit {ops : Array Oper} {o : Oper} {a : Act} {w : World} {K : Act → World → Prop} {Q : Exit → Act → World → Prop} {E : Prop}
    (hg : o.guard = none) (s x : Operand) (hop : o.op = Op.call { callee := Callee.builtin Builtin.append, args := #[s, x], argTypes := #[33, 33] })
    (base : Nat) {v : Value} {xs : List Nat} (hown : w.ownsRow base 5 1 v xs.length (bv xs)) (hs : a.eval s = v)
    (g m c : Nat) {ns : List Nat} {T : TypeId} (hm : m = ns.length) (hx : a.eval x = .slice (some ⟨g, 0, none⟩) m c) (hc : w.heap[g]? = some (.cells (bv ns).toArray T (0, 0))) (hl : xs.length + ns.length ≤ 1000000) (hbase : base ≤ w.heap.size)
    (hK : ∀ v' w', w'.ownsRow base 5 1 v' (xs ++ ns).length (bv (xs ++ ns)) → w.grownBy w' v.ownBlock → K (a.put o.dst v') w') :
    if Region.wanted o (yielded ops a.tmps) = true then Oper.wp Tryd.prog o a w K Q else E := by
  obtain ⟨i0, hi, hz0, hz1, hz2⟩ := info_parts infoB
  refine step_append_own hg s x 33 hop base 5 i0 (.int .u8 0) 1 1 Tryd.underlying33 hi hz0 hz1 hz2 rfl (by decide) v xs.length (bv xs) hs hown ⟨g, 0, none⟩ m c (bv ns) hx (by rw [bv_len, hm, Nat.mul_one]) ?_ bv_one (by unfold maxLen; omega) (by omega) hbase fun v' w' h1 h2 _ => hK v' w' (by rw [List.length_append, bv_append, ← hm]; exact h1) h2
  intro j u hj
  rw [Addr.add_lit, Nat.zero_add, blk_cell hc, ← Array.getElem?_toList]
  exact hj
set_option maxRecDepth 20000 in
set_option maxHeartbeats 1600000 in
theorem rnib_c (w : World) {v : Value} {b : List Nat} (hr : Rd w v (bv b)) (hb : By b) (hl : b.length ≤ 100000) :
    Calls Tryd.prog 24 #[v] w fun e w' => ∃ v', e = .returned v' ∧ w'.ownsRow w.heap.size 5 1 v' (nibF b).length (bv (nibF b)) ∧ Fr [] w w' := by
  obtain ⟨a, c, hv⟩ := hr.form
  rw [bv_len] at hv
  subst hv
  have HR := hid hr
  have HB := hid hb
  obtain ⟨n, hn⟩ : ∃ n, n = b.length := ⟨_, rfl⟩
  have HN := hid hn
  rw [← hn] at hl HR ⊢
  clear hr hb hn
  go_enter Tryd.func24, Tryd.ntmps24
  go_wp2_with fail
  go_loopw [3, 4] (fun v3 v4 wr => ∃ (i : Nat), i ≤ n ∧ v4 = .int .i64 (i : Int) ∧ wr.ownsRow w.heap.size 5 1 v3 (nibF (b.take i)).length (bv (nibF (b.take i))) ∧ Fr [] w wr) (fun _ v4 _ => n - (intOf v4).toNat)
  case atStart => exact ⟨0, Nat.zero_le _, rfl, World.ownsRow_nil _ _ _ _, Fr.refl _ _⟩
  case round =>
    obtain ⟨i, hi, rfl, ho, hf⟩ := hrel
    have HO := hid ho
    have HF := hid hf
    clear hf ho
    by_cases hlt : i < n
    · have hlt' : (i : Int) < (n : Int) := by omega
      obtain ⟨x, hx⟩ : ∃ x, b[i]? = some x := ⟨_, List.getElem?_eq_getElem (by rw [← HN.out]; exact hlt)⟩
      have hx256 : x < 256 := HB.out x (List.mem_of_getElem? hx)
      rcases HR.out.split with ⟨h0, _⟩ | ⟨q, o, c2, e, hc2, h0, hc⟩
      · rw [h0] at hx; simp at hx
      simp only [Value.slice.injEq] at e
      obtain ⟨rfl, e2, rfl⟩ := e
      have z0 := hc i x hx
      have z := cell_fr z0 HF.out
      have NT := hid (nib_take hx)
      clear e2 hc hx
      obtain ⟨xd, hxd⟩ : ∃ d, d = x / 16 := ⟨_, rfl⟩
      obtain ⟨xm, hxm⟩ : ∃ d, d = x % 16 := ⟨_, rfl⟩
      have eD : (x : Int) / 16 = (xd : Int) := by omega
      have eM : (x : Int) % 16 = (xm : Int) := by omega
      have eT : (x : Int).tmod 16 = (xm : Int) := by rw [Int.tmod_eq_emod_of_nonneg (by omega)]; omega
      have wD : IntKind.u8.wrap (xd : Int) = (xd : Int) := by rw [IntKind.wrap_u8]; omega
      have wM : IntKind.u8.wrap (xm : Int) = (xm : Int) := by rw [IntKind.wrap_u8]; omega
      rw [← hxd, ← hxm] at NT
      clear hxd hxm
      obtain ⟨a3, c3, e3, _⟩ := ownsRow_slice HO.out
      obtain ⟨l3, hl3⟩ : ∃ q, q = (nibF (b.take i)).length := ⟨_, rfl⟩
      have HL3 := hid hl3
      rw [← hl3] at e3
      subst e3
      clear hl3
      have hil : (nibF (b.take i)).length ≤ 200000 := by rw [nibF_len, List.length_take]; omega
      obtain ⟨X, hX⟩ : ∃ X, X = wr.alloc (.cells (bv [xd, xm]).toArray 5) := ⟨_, rfl⟩
      have FX : Hid (Fr [] wr X.drew) := hid (by rw [hX]; exact ((Fr.refl _ _).alloc _).drew)
      have HX : Hid (X.drew.heap[wr.heap.size]? = some (.cells (bv [xd, xm]).toArray 5 (0, 0))) := hid (by rw [hX]; exact blk_new _ _)
      have SK : Hid (∀ wx, Fr [] wr wx → wx.cell? ⟨q, o + i, none⟩ = some (.int .u8 (x : Int))) := hid (fun wx f => cell_fr z f)
      have HO2 := hid (ownsRow_fr HO.out FX.out)
      have HF2 := hid (HF.out.trans FX.out)
      have SW : Hid (∀ w8, Fr [] w w8 → w8.cell? ⟨q, o + i, none⟩ = some (.int .u8 (x : Int))) := hid (fun w8 f => cell_fr z0 f)
      clear z z0
      go_upto_region 5 with fail
      refine wp_region_held_drew (S := fun wx => wx.cell? ⟨q, o + i, none⟩ = some (.int .u8 (x : Int))) (by kernel_rfl) (SK.out _ (Fr.refl [] wr).drew) (fun hS => ?_)
      refine wpAnyH_take (i := 0) (v := (.slice a3 l3 c3)) rfl (by kernel_rfl) (by kernel_rfl) (by kernel_rfl) (fun _ _ _ h => h) (.inl ⟨by rfl, fun wx hX => by go_simp⟩) hS ?_
      simp only [Act.put]
      refine wpAnyH_take (i := 1) (v := (.slice (some ⟨q, o, none⟩) n c)) rfl (by kernel_rfl) (by kernel_rfl) (by kernel_rfl) (fun _ _ _ h => h) (.inl ⟨by rfl, fun wx hX => by go_simp⟩) hS ?_
      simp only [Act.put]
      refine wpAnyH_take (i := 2) (v := (.int .i64 (i : Int))) rfl (by kernel_rfl) (by kernel_rfl) (by kernel_rfl) (fun _ _ _ h => h) (.inl ⟨by rfl, fun wx hX => by go_simp⟩) hS ?_
      simp only [Act.put]
      refine wpAnyH_take (i := 3) (v := (.pointer (some ⟨q, o + i, none⟩))) rfl (by kernel_rfl) (by kernel_rfl) (by kernel_rfl) (fun _ _ _ h => h) (.inl ⟨by rfl, fun wx hX => by go_simp⟩) hS ?_
      simp only [Act.put]
      refine wpAnyH_take (i := 4) (v := (.int .u8 (x : Int))) rfl (by kernel_rfl) (by kernel_rfl) (by kernel_rfl) (fun _ _ _ h => h) (.inl ⟨by rfl, fun wx hX => by have q0 : wx.cell? ⟨q, o + i, none⟩ = some (.int .u8 (x : Int)) := hX; go_simp⟩) hS ?_
      simp only [Act.put]
      refine wpAnyH_take (i := 5) (v := (.int .u8 (xd : Int))) rfl (by kernel_rfl) (by kernel_rfl) (by kernel_rfl) (fun _ _ _ h => h) (.inl ⟨by rfl, fun wx hX => by go_simp⟩) hS ?_
      simp only [Act.put]
      refine wpAnyH_take (i := 6) (v := (.slice (some ⟨q, o, none⟩) n c)) rfl (by kernel_rfl) (by kernel_rfl) (by kernel_rfl) (fun _ _ _ h => h) (.inl ⟨by rfl, fun wx hX => by go_simp⟩) hS ?_
      simp only [Act.put]
      refine wpAnyH_take (i := 7) (v := (.int .i64 (i : Int))) rfl (by kernel_rfl) (by kernel_rfl) (by kernel_rfl) (fun _ _ _ h => h) (.inl ⟨by rfl, fun wx hX => by go_simp⟩) hS ?_
      simp only [Act.put]
      refine wpAnyH_take (i := 8) (v := (.pointer (some ⟨q, o + i, none⟩))) rfl (by kernel_rfl) (by kernel_rfl) (by kernel_rfl) (fun _ _ _ h => h) (.inl ⟨by rfl, fun wx hX => by go_simp⟩) hS ?_
      simp only [Act.put]
      refine wpAnyH_take (i := 9) (v := (.int .u8 (x : Int))) rfl (by kernel_rfl) (by kernel_rfl) (by kernel_rfl) (fun _ _ _ h => h) (.inl ⟨by rfl, fun wx hX => by have q0 : wx.cell? ⟨q, o + i, none⟩ = some (.int .u8 (x : Int)) := hX; go_simp⟩) hS ?_
      simp only [Act.put]
      refine wpAnyH_take (i := 10) (v := (.int .u8 (xm : Int))) rfl (by kernel_rfl) (by kernel_rfl) (by kernel_rfl) (fun _ _ _ h => h) (.inl ⟨by rfl, fun wx hX => by go_simp⟩) hS ?_
      simp only [Act.put]
      clear hS
      refine wpAnyH_ready (rs := [11]) (by kernel_rfl) (by simp) ?_
      refine AllReadyH.cons rfl (fun K hK => ?_) AllReadyH.nil
      go_simp
      have eX : wr.alloc (.cells #[.int .u8 (xd : Int), .int .u8 (xm : Int)] 5) = X := hX.symm
      rw [eX]
      clear hX eX
      refine hK.out _ _ (SK.out _ FX.out) (fun hS => ?_)
      clear hK K
      refine wpAnyH_ready (rs := [12]) (by kernel_rfl) (by simp) ?_
      refine AllReadyH.cons rfl (fun K hK => ?_) AllReadyH.nil
      refine step_append_lit rfl (.tmp 11) (.tmp 22) rfl w.heap.size HO2.out (by first | (simp [Act.eval, HL3.out]; done) | simp [Act.eval, Act.put, HL3.out]) wr.heap.size 2 2 (ns := [xd, xm]) rfl (by first | (simp [Act.eval]; done) | simp [Act.eval, Act.put]) HX.out (by simp; omega) HF2.out.size ?_
      intro v8 w8 o8 g8
      have F8 := hid (HF2.out.grew HO2.out (Nat.le_refl _) g8)
      have O8 := hid o8
      clear o8 g8
      refine hK.out _ _ (SW.out _ F8.out) (fun hS => ?_)
      clear hK K
      obtain ⟨a8, c8, e8, _⟩ := ownsRow_slice O8.out
      obtain ⟨l8, hl8⟩ : ∃ q, q = (nibF (b.take i) ++ [xd, xm]).length := ⟨_, rfl⟩
      have HL8 := hid hl8
      rw [← hl8] at e8
      subst e8
      rw [← hl8] at O8
      clear hl8
      refine wpAnyH_ready (rs := [13]) (by kernel_rfl) (by simp) ?_
      refine AllReadyH.cons rfl (fun K hK => ?_) AllReadyH.nil
      go_simp
      refine hK.out _ _ (SW.out _ F8.out) (fun hS => ?_)
      clear hK K
      refine wpAnyH_done (by kernel_rfl) ?_ _
      go_wp2
      go_roundw
      case rel => exact ⟨i + 1, by omega, by go_num, by rw [NT.out, ← HL8.out]; exact O8.out, F8.out⟩
      case measure => simp [intOf]; omega
    · have hie : i = n := by omega
      have hlt' : ¬ (i : Int) < (n : Int) := by omega
      have TK : Hid (b.take i = b) := hid (List.take_of_length_le (by rw [← HN.out]; omega))
      rw [TK.out] at HO
      clear hie
      go_wp2
      go_ret
      exact ⟨_, rfl, HO.out, HF.out⟩
end Go.Proofs.YtmpfnglcmaollaaDoor
namespace Go.Proofs.YtmpfnglcmaollaaDoor
open Go.ChangeShapes Go.WideShapes Go.ChangeAt Go.RowKit

theorem u8_of (n : Nat) : IntKind.u8.wrap (n : Int) = ((n % 256 : Nat) : Int) := by rw [IntKind.wrap_u8']; omega
theorem or128 (n : Nat) : bits .or .u8 ((n % 256 : Nat) : Int) 128 = ((n % 128 + 128 : Nat) : Int) := by
  have h := u8_or_nat (n % 256) 128 (by omega) (by omega)
  have e : n % 256 ||| 128 = n % 128 + 128 := by
    rcases Nat.lt_or_ge (n % 256) 128 with hl | hl
    · rw [Nat.or_comm]
      have := nat_join 7 128 (n % 256) (by decide) (by omega)
      omega
    · have h1 : n % 256 = 128 ||| (n % 128) := by
        have := nat_join 7 128 (n % 128) (by decide) (by omega)
        omega
      rw [h1, Nat.or_comm, ← Nat.or_assoc, Nat.or_self]
      have := nat_join 7 128 (n % 128) (by decide) (by omega)
      omega
  rw [e] at h
  exact h

end Go.Proofs.YtmpfnglcmaollaaDoor
