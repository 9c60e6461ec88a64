/-
  Nibbles, walked: the program's and the document's.
-/
import Derived.Test.YtdcocgjlfhicaaaDoorJ01
import Derived.Test.YtdcocgjlfhicaaaDoorJ02
import Derived.Test.YtdcocgjlfhicaaaDoorJ08
namespace Go.Proofs.YtdcocgjlfhicaaaDoor
open Go.ChangeShapes Go.WideShapes Go.ChangeAt Go.RowKit

theorem nib_take {b : List Nat} {i x : Nat} (h : b[i]? = some x) : nibF (b.take (i + 1)) = nibF (b.take i) ++ [x / 16, x % 16] := by
  obtain ⟨hl, he⟩ := List.getElem?_eq_some_iff.1 h
  rw [List.take_succ_eq_append_getElem hl, he, nibF_app]; rfl
theorem Rd_lit2 (w : World) (x y : Nat) : Rd (w.alloc (.cells #[.int .u8 (x : Int), .int .u8 (y : Int)] 5)) (.slice (some ⟨w.heap.size, 0, none⟩) 2 2) (bv [x, y]) :=
  Rd.own (World.ownsRow_lit (base := 0) w #[.int .u8 (x : Int), .int .u8 (y : Int)] 2 (Nat.zero_le _) (by unfold maxLen; omega) rfl)
set_option maxRecDepth 20000 in
set_option maxHeartbeats 1600000 in
theorem nib_c (w : World) {v : Value} {b : List Nat} (hr : Rd w v (bv b)) (hb : By b) (hl : b.length ≤ 100000) :
    Calls Tryd.prog 13 #[v] w fun e w' => ∃ v', e = .returned v' ∧ w'.ownsRow w.heap.size 5 1 v' (nibF b).length (bv (nibF b)) ∧ Fr [] w w' := by
  obtain ⟨a, c, hv⟩ := hr.form
  rw [bv_len] at hv
  subst hv
  have HR := hid hr
  have HB := hid hb
  obtain ⟨n, hn⟩ : ∃ n, n = b.length := ⟨_, rfl⟩
  have HN := hid hn
  rw [← hn] at hl HR ⊢
  obtain ⟨m, hm⟩ : ∃ m, m = 2 * n := ⟨_, rfl⟩
  have e1 : 2 * (n : Int) = (m : Int) := by omega
  have hmk := make0 w m (by omega)
  have F0 : Hid (Fr [] w (w.alloc (.cells (madeCells #[.int .u8 0] m) 5))) := hid ((Fr.refl _ _).alloc _)
  have OM := hid (own_make w m (by omega))
  clear hr hb hn hm
  go_enter Tryd.func13, Tryd.ntmps13
  go_wp2_with fail
  go_loopw [3, 12] (fun v3 v12 wr => ∃ (i : Nat), i ≤ n ∧ v12 = .int .i64 (i : Int) ∧ wr.ownsRow w.heap.size 5 1 v3 (nibF (b.take i)).length (bv (nibF (b.take i))) ∧ Fr [] w wr) (fun _ v12 _ => n - (intOf v12).toNat)
  case atStart => exact ⟨0, Nat.zero_le _, rfl, OM.out, F0.out⟩
  case round =>
    obtain ⟨i, hi, rfl, ho, hf⟩ := hrel
    have HO := hid ho
    have HF := hid hf
    clear hf ho
    by_cases hlt : i < n
    · have hlt' : (i : Int) < (n : Int) := by omega
      obtain ⟨x, hx⟩ : ∃ x, b[i]? = some x := ⟨_, List.getElem?_eq_getElem (by rw [← HN.out]; exact hlt)⟩
      have hx256 : x < 256 := HB.out x (List.mem_of_getElem? hx)
      rcases HR.out.split with ⟨h0, _⟩ | ⟨q, o, c2, e, hc2, h0, hc⟩
      · rw [h0] at hx; simp at hx
      simp only [Value.slice.injEq] at e
      obtain ⟨rfl, e2, rfl⟩ := e
      have z := cell_fr (hc i x hx) HF.out
      have NT := hid (nib_take hx)
      clear e2 hc hx
      obtain ⟨xd, hxd⟩ : ∃ d, d = x / 16 := ⟨_, rfl⟩
      obtain ⟨xm, hxm⟩ : ∃ d, d = x % 16 := ⟨_, rfl⟩
      have eD : (x : Int) / 16 = (xd : Int) := by omega
      have eM : (x : Int) % 16 = (xm : Int) := by omega
      rw [← hxd, ← hxm] at NT
      clear hxd hxm
      have HO2 := hid (ownsRow_fr HO.out ((Fr.refl [] wr).alloc (.cells #[.int .u8 (xd : Int), .int .u8 (xm : Int)] 5)))
      have HF2 := hid (HF.out.alloc (.cells #[.int .u8 (xd : Int), .int .u8 (xm : Int)] 5))
      have hil : (nibF (b.take i)).length ≤ 200000 := by rw [nibF_len, List.length_take]; omega
      go_upto_region 6 with (at_builtin; refine wpList_append_bv rfl _ _ rfl (base := w.heap.size) HO2.out rfl HF2.out (Nat.le_refl _) HF2.out.size _ (Rd_lit2 wr xd xm) rfl (by simp; omega) ?_; intro v8 w8 o8 f8; have O8 := hid o8; have F8 := hid f8; clear o8 f8)
      have O9 : Hid (w8.ownsRow w.heap.size 5 1 v8 (nibF (b.take (i + 1))).length (bv (nibF (b.take (i + 1))))) := hid (by rw [NT.out, List.length_append]; exact O8.out)
      go_wp2
      go_roundw
      case rel => exact ⟨i + 1, by omega, by go_num, O9.out, F8.out⟩
      case measure => simp [intOf]; omega
    · have hie : i = n := by omega
      have hlt' : ¬ (i : Int) < (n : Int) := by omega
      have TK : Hid (b.take i = b) := hid (List.take_of_length_le (by rw [← HN.out]; omega))
      rw [TK.out] at HO
      clear hie
      go_wp2
      go_ret
      exact ⟨_, rfl, HO.out, HF.out⟩
/-- Some bytes, in a block of their own, appended to a row of bytes of the call's own. -/
theorem step_append_lit {ops : Array Oper} {o : Oper} {a : Act} {w : World} {K : Act → World → Prop} {Q : Exit → Act → World → Prop} {E : Prop}
    (hg : o.guard = none) (s x : Operand) (hop : o.op = Op.call { callee := Callee.builtin Builtin.append, args := #[s, x], argTypes := #[22, 22] })
    (base : Nat) {v : Value} {xs : List Nat} (hown : w.ownsRow base 5 1 v xs.length (bv xs)) (hs : a.eval s = v)
    (g m c : Nat) {ns : List Nat} {T : TypeId} (hm : m = ns.length) (hx : a.eval x = .slice (some ⟨g, 0, none⟩) m c) (hc : w.heap[g]? = some (.cells (bv ns).toArray T (0, 0))) (hl : xs.length + ns.length ≤ 1000000) (hbase : base ≤ w.heap.size)
    (hK : ∀ v' w', w'.ownsRow base 5 1 v' (xs ++ ns).length (bv (xs ++ ns)) → w.grownBy w' v.ownBlock → K (a.put o.dst v') w') :
    if Region.wanted o (yielded ops a.tmps) = true then Oper.wp Tryd.prog o a w K Q else E := by
  obtain ⟨i0, hi, hz0, hz1, hz2⟩ := info_parts infoB
  refine step_append_own hg s x 22 hop base 5 i0 (.int .u8 0) 1 1 Tryd.underlying22 hi hz0 hz1 hz2 rfl (by decide) v xs.length (bv xs) hs hown ⟨g, 0, none⟩ m c (bv ns) hx (by rw [bv_len, hm, Nat.mul_one]) ?_ bv_one (by unfold maxLen; omega) (by omega) hbase fun v' w' h1 h2 _ => hK v' w' (by rw [List.length_append, bv_append, ← hm]; exact h1) h2
  intro j u hj
  rw [Addr.add_lit, Nat.zero_add, blk_cell hc, ← Array.getElem?_toList]
  exact hj
set_option maxRecDepth 20000 in
set_option maxHeartbeats 1600000 in
theorem rnib_c (w : World) {v : Value} {b : List Nat} (hr : Rd w v (bv b)) (hb : By b) (hl : b.length ≤ 100000) :
    Calls Tryd.prog 14 #[v] w fun e w' => ∃ v', e = .returned v' ∧ w'.ownsRow w.heap.size 5 1 v' (nibF b).length (bv (nibF b)) ∧ Fr [] w w' := by
  obtain ⟨a, c, hv⟩ := hr.form
  rw [bv_len] at hv
  subst hv
  have HR := hid hr
  have HB := hid hb
  obtain ⟨n, hn⟩ : ∃ n, n = b.length := ⟨_, rfl⟩
  have HN := hid hn
  rw [← hn] at hl HR ⊢
  clear hr hb hn
  go_enter Tryd.func14, Tryd.ntmps14
  go_wp2_with fail
  go_loopw [3, 4] (fun v3 v4 wr => ∃ (i : Nat), i ≤ n ∧ v4 = .int .i64 (i : Int) ∧ wr.ownsRow w.heap.size 5 1 v3 (nibF (b.take i)).length (bv (nibF (b.take i))) ∧ Fr [] w wr) (fun _ v4 _ => n - (intOf v4).toNat)
  case atStart => exact ⟨0, Nat.zero_le _, rfl, World.ownsRow_nil _ _ _ _, Fr.refl _ _⟩
  case round =>
    obtain ⟨i, hi, rfl, ho, hf⟩ := hrel
    have HO := hid ho
    have HF := hid hf
    clear hf ho
    by_cases hlt : i < n
    · have hlt' : (i : Int) < (n : Int) := by omega
      obtain ⟨x, hx⟩ : ∃ x, b[i]? = some x := ⟨_, List.getElem?_eq_getElem (by rw [← HN.out]; exact hlt)⟩
      have hx256 : x < 256 := HB.out x (List.mem_of_getElem? hx)
      rcases HR.out.split with ⟨h0, _⟩ | ⟨q, o, c2, e, hc2, h0, hc⟩
      · rw [h0] at hx; simp at hx
      simp only [Value.slice.injEq] at e
      obtain ⟨rfl, e2, rfl⟩ := e
      have z0 := hc i x hx
      have z := cell_fr z0 HF.out
      have NT := hid (nib_take hx)
      clear e2 hc hx
      obtain ⟨xd, hxd⟩ : ∃ d, d = x / 16 := ⟨_, rfl⟩
      obtain ⟨xm, hxm⟩ : ∃ d, d = x % 16 := ⟨_, rfl⟩
      have eD : (x : Int) / 16 = (xd : Int) := by omega
      have eM : (x : Int) % 16 = (xm : Int) := by omega
      have eT : (x : Int).tmod 16 = (xm : Int) := by rw [Int.tmod_eq_emod_of_nonneg (by omega)]; omega
      have wD : IntKind.u8.wrap (xd : Int) = (xd : Int) := by rw [IntKind.wrap_u8]; omega
      have wM : IntKind.u8.wrap (xm : Int) = (xm : Int) := by rw [IntKind.wrap_u8]; omega
      rw [← hxd, ← hxm] at NT
      clear hxd hxm
      obtain ⟨a3, c3, e3, _⟩ := ownsRow_slice HO.out
      obtain ⟨l3, hl3⟩ : ∃ q, q = (nibF (b.take i)).length := ⟨_, rfl⟩
      have HL3 := hid hl3
      rw [← hl3] at e3
      subst e3
      clear hl3
      have hil : (nibF (b.take i)).length ≤ 200000 := by rw [nibF_len, List.length_take]; omega
      obtain ⟨X, hX⟩ : ∃ X, X = wr.alloc (.cells (bv [xd, xm]).toArray 5) := ⟨_, rfl⟩
      have FX : Hid (Fr [] wr X.drew) := hid (by rw [hX]; exact ((Fr.refl _ _).alloc _).drew)
      have HX : Hid (X.drew.heap[wr.heap.size]? = some (.cells (bv [xd, xm]).toArray 5 (0, 0))) := hid (by rw [hX]; exact blk_new _ _)
      have SK : Hid (∀ wx, Fr [] wr wx → wx.cell? ⟨q, o + i, none⟩ = some (.int .u8 (x : Int))) := hid (fun wx f => cell_fr z f)
      have HO2 := hid (ownsRow_fr HO.out FX.out)
      have HF2 := hid (HF.out.trans FX.out)
      have SW : Hid (∀ w8, Fr [] w w8 → w8.cell? ⟨q, o + i, none⟩ = some (.int .u8 (x : Int))) := hid (fun w8 f => cell_fr z0 f)
      clear z z0
      go_upto_region 5 with fail
      refine wp_region_held_drew (S := fun wx => wx.cell? ⟨q, o + i, none⟩ = some (.int .u8 (x : Int))) (by kernel_rfl) (SK.out _ (Fr.refl [] wr).drew) (fun hS => ?_)
      refine wpAnyH_take (i := 0) (v := (.slice a3 l3 c3)) rfl (by kernel_rfl) (by kernel_rfl) (by kernel_rfl) (fun _ _ _ h => h) (.inl ⟨by rfl, fun wx hX => by go_simp⟩) hS ?_
      simp only [Act.put]
      refine wpAnyH_take (i := 1) (v := (.slice (some ⟨q, o, none⟩) n c)) rfl (by kernel_rfl) (by kernel_rfl) (by kernel_rfl) (fun _ _ _ h => h) (.inl ⟨by rfl, fun wx hX => by go_simp⟩) hS ?_
      simp only [Act.put]
      refine wpAnyH_take (i := 2) (v := (.int .i64 (i : Int))) rfl (by kernel_rfl) (by kernel_rfl) (by kernel_rfl) (fun _ _ _ h => h) (.inl ⟨by rfl, fun wx hX => by go_simp⟩) hS ?_
      simp only [Act.put]
      refine wpAnyH_take (i := 3) (v := (.pointer (some ⟨q, o + i, none⟩))) rfl (by kernel_rfl) (by kernel_rfl) (by kernel_rfl) (fun _ _ _ h => h) (.inl ⟨by rfl, fun wx hX => by go_simp⟩) hS ?_
      simp only [Act.put]
      refine wpAnyH_take (i := 4) (v := (.int .u8 (x : Int))) rfl (by kernel_rfl) (by kernel_rfl) (by kernel_rfl) (fun _ _ _ h => h) (.inl ⟨by rfl, fun wx hX => by have q0 : wx.cell? ⟨q, o + i, none⟩ = some (.int .u8 (x : Int)) := hX; go_simp⟩) hS ?_
      simp only [Act.put]
      refine wpAnyH_take (i := 5) (v := (.int .u8 (xd : Int))) rfl (by kernel_rfl) (by kernel_rfl) (by kernel_rfl) (fun _ _ _ h => h) (.inl ⟨by rfl, fun wx hX => by go_simp⟩) hS ?_
      simp only [Act.put]
      refine wpAnyH_take (i := 6) (v := (.slice (some ⟨q, o, none⟩) n c)) rfl (by kernel_rfl) (by kernel_rfl) (by kernel_rfl) (fun _ _ _ h => h) (.inl ⟨by rfl, fun wx hX => by go_simp⟩) hS ?_
      simp only [Act.put]
      refine wpAnyH_take (i := 7) (v := (.int .i64 (i : Int))) rfl (by kernel_rfl) (by kernel_rfl) (by kernel_rfl) (fun _ _ _ h => h) (.inl ⟨by rfl, fun wx hX => by go_simp⟩) hS ?_
      simp only [Act.put]
      refine wpAnyH_take (i := 8) (v := (.pointer (some ⟨q, o + i, none⟩))) rfl (by kernel_rfl) (by kernel_rfl) (by kernel_rfl) (fun _ _ _ h => h) (.inl ⟨by rfl, fun wx hX => by go_simp⟩) hS ?_
      simp only [Act.put]
      refine wpAnyH_take (i := 9) (v := (.int .u8 (x : Int))) rfl (by kernel_rfl) (by kernel_rfl) (by kernel_rfl) (fun _ _ _ h => h) (.inl ⟨by rfl, fun wx hX => by have q0 : wx.cell? ⟨q, o + i, none⟩ = some (.int .u8 (x : Int)) := hX; go_simp⟩) hS ?_
      simp only [Act.put]
      refine wpAnyH_take (i := 10) (v := (.int .u8 (xm : Int))) rfl (by kernel_rfl) (by kernel_rfl) (by kernel_rfl) (fun _ _ _ h => h) (.inl ⟨by rfl, fun wx hX => by go_simp⟩) hS ?_
      simp only [Act.put]
      clear hS
      refine wpAnyH_ready (rs := [11]) (by kernel_rfl) (by simp) ?_
      refine AllReadyH.cons rfl (fun K hK => ?_) AllReadyH.nil
      go_simp
      have eX : wr.alloc (.cells #[.int .u8 (xd : Int), .int .u8 (xm : Int)] 5) = X := hX.symm
      rw [eX]
      clear hX eX
      refine hK.out _ _ (SK.out _ FX.out) (fun hS => ?_)
      clear hK K
      refine wpAnyH_ready (rs := [12]) (by kernel_rfl) (by simp) ?_
      refine AllReadyH.cons rfl (fun K hK => ?_) AllReadyH.nil
      refine step_append_lit rfl (.tmp 11) (.tmp 22) rfl w.heap.size HO2.out (by first | (simp [Act.eval, HL3.out]; done) | simp [Act.eval, Act.put, HL3.out]) wr.heap.size 2 2 (ns := [xd, xm]) rfl (by first | (simp [Act.eval]; done) | simp [Act.eval, Act.put]) HX.out (by simp; omega) HF2.out.size ?_
      intro v8 w8 o8 g8
      have F8 := hid (HF2.out.grew HO2.out (Nat.le_refl _) g8)
      have O8 := hid o8
      clear o8 g8
      refine hK.out _ _ (SW.out _ F8.out) (fun hS => ?_)
      clear hK K
      obtain ⟨a8, c8, e8, _⟩ := ownsRow_slice O8.out
      obtain ⟨l8, hl8⟩ : ∃ q, q = (nibF (b.take i) ++ [xd, xm]).length := ⟨_, rfl⟩
      have HL8 := hid hl8
      rw [← hl8] at e8
      subst e8
      rw [← hl8] at O8
      clear hl8
      refine wpAnyH_ready (rs := [13]) (by kernel_rfl) (by simp) ?_
      refine AllReadyH.cons rfl (fun K hK => ?_) AllReadyH.nil
      go_simp
      refine hK.out _ _ (SW.out _ F8.out) (fun hS => ?_)
      clear hK K
      refine wpAnyH_done (by kernel_rfl) ?_ _
      go_wp2
      go_roundw
      case rel => exact ⟨i + 1, by omega, by go_num, by rw [NT.out, ← HL8.out]; exact O8.out, F8.out⟩
      case measure => simp [intOf]; omega
    · have hie : i = n := by omega
      have hlt' : ¬ (i : Int) < (n : Int) := by omega
      have TK : Hid (b.take i = b) := hid (List.take_of_length_le (by rw [← HN.out]; omega))
      rw [TK.out] at HO
      clear hie
      go_wp2
      go_ret
      exact ⟨_, rfl, HO.out, HF.out⟩
end Go.Proofs.YtdcocgjlfhicaaaDoor
namespace Go.Proofs.YtdcocgjlfhicaaaDoor
open Go.ChangeShapes Go.WideShapes Go.ChangeAt Go.RowKit

theorem u8_of (n : Nat) : IntKind.u8.wrap (n : Int) = ((n % 256 : Nat) : Int) := by rw [IntKind.wrap_u8']; omega
theorem or128 (n : Nat) : bits .or .u8 ((n % 256 : Nat) : Int) 128 = ((n % 128 + 128 : Nat) : Int) := by
  have h := u8_or_nat (n % 256) 128 (by omega) (by omega)
  have e : n % 256 ||| 128 = n % 128 + 128 := by
    rcases Nat.lt_or_ge (n % 256) 128 with hl | hl
    · rw [Nat.or_comm]
      have := nat_join 7 128 (n % 256) (by decide) (by omega)
      omega
    · have h1 : n % 256 = 128 ||| (n % 128) := by
        have := nat_join 7 128 (n % 128) (by decide) (by omega)
        omega
      rw [h1, Nat.or_comm, ← Nat.or_assoc, Nat.or_self]
      have := nat_join 7 128 (n % 128) (by decide) (by omega)
      omega
  rw [e] at h
  exact h

end Go.Proofs.YtdcocgjlfhicaaaDoor
namespace Go.Proofs.YtdcocgjlfhicaaaDoor
open Go.ChangeShapes Go.WideShapes Go.ChangeAt Go.RowKit

theorem drop_at {ns : List Nat} {k : Nat} (h : k < ns.length) : ∃ x, ns[k]? = some x ∧ ns.drop k = x :: ns.drop (k + 1) :=
  ⟨ns[k], List.getElem?_eq_getElem h, List.drop_eq_getElem_cons h⟩
theorem tk_nil (i v : Nat) : tk i v [] = (0, 0, 20) := rfl
theorem tk_bad {i v x : Nat} {r : List Nat} (h : i = 9 ∧ 1 < x ∨ 0 < i ∧ x = 0) : tk i v (x :: r) = (0, 0, 21) := by rw [tk, if_pos h]
theorem tk_end {i v x : Nat} {r : List Nat} (h : ¬ (i = 9 ∧ 1 < x ∨ 0 < i ∧ x = 0)) (hx : x < 128) : tk i v (x :: r) = (v + x % 128 * 2 ^ (7 * i), i + 1, 0) := by rw [tk, if_neg h, if_pos hx]
theorem tk_on {i v x : Nat} {r : List Nat} (h : ¬ (i = 9 ∧ 1 < x ∨ 0 < i ∧ x = 0)) (hx : ¬ x < 128) : tk i v (x :: r) = tk (i + 1) (v + x % 128 * 2 ^ (7 * i)) r := by rw [tk, if_neg h, if_neg hx]

/-- A result of Take as the program hands it over. -/
def tkv (t : Nat × Nat × Nat) : Value := .tuple #[.int .u64 (t.1 : Int), .int .i64 (t.2.1 : Int), .int .i64 (t.2.2 : Int)]

theorem andNot128 {x : Nat} (hx : x < 256) : bits .andNot .u8 (x : Int) 128 = ((x % 128 : Nat) : Int) := by
  have h := u8_andNot_nat x 128 hx (by omega)
  have e : x &&& (255 - 128) = x % 128 := nat_mask7 x
  rw [e] at h; exact h
theorem wrap64_nat {n : Nat} (h : n < 18446744073709551616) : IntKind.u64.wrap (n : Int) = (n : Int) := by rw [IntKind.wrap_u64]; omega
theorem shl_lt {k m x : Nat} (hk : k ≤ 9) (hm : m < 2 ^ (7 * k)) (h9 : k = 9 → x ≤ 1) : m + x % 128 * 2 ^ (7 * k) < 18446744073709551616 := by
  have e2 : 2 ^ (7 * (k + 1)) = 128 * 2 ^ (7 * k) := by rw [show (128 : Nat) = 2 ^ 7 from rfl, ← Nat.pow_add]; congr 1; omega
  rcases Nat.lt_or_ge k 9 with h3 | h3
  · have h1 : 2 ^ (7 * (k + 1)) ≤ 2 ^ 63 := Nat.pow_le_pow_right (by omega) (by omega)
    have h2 : x % 128 * 2 ^ (7 * k) ≤ 127 * 2 ^ (7 * k) := Nat.mul_le_mul_right _ (by omega)
    omega
  · have h : k = 9 := by omega
    have := h9 h
    subst h
    have h4 : x % 128 ≤ 1 := by omega
    have h2 : x % 128 * 2 ^ (7 * 9) ≤ 1 * 2 ^ (7 * 9) := Nat.mul_le_mul_right _ h4
    omega
theorem or_add {a b i : Nat} (hb : b < 2 ^ i) (ha : a % 2 ^ i = 0) : b ||| a = b + a := by rw [Nat.or_comm, nat_join i a b ha hb, Nat.add_comm]
theorem take_val {k m x : Nat} (hk : k ≤ 9) (hm : m < 2 ^ (7 * k)) (hx : x < 256) (h9 : k = 9 → x ≤ 1) :
    bits .or .u64 (m : Int) (IntKind.u64.wrap (IntKind.u64.wrap (bits .andNot .u8 (x : Int) 128) * 2 ^ (7 * k))) = ((m + x % 128 * 2 ^ (7 * k) : Nat) : Int) := by
  have hlt := shl_lt hk hm h9
  rw [andNot128 hx, wrap64_nat (by omega), show (((x % 128 : Nat) : Int) * 2 ^ (7 * k)) = ((x % 128 * 2 ^ (7 * k) : Nat) : Int) from by simp, wrap64_nat (by omega), u64_or_nat _ _ (by omega) (by omega), or_add hm (Nat.mul_mod_left _ _)]

theorem take_ret {k m x : Nat} (hk : k ≤ 9) (hm : m < 2 ^ (7 * k)) (hx : x < 256) (h9 : k = 9 → x ≤ 1) :
    Ending.returned (.tuple #[.int .u64 (bits .or .u64 (m : Int) (IntKind.u64.wrap (IntKind.u64.wrap (bits .andNot .u8 (x : Int) 128) * 2 ^ (7 * k)))), .int .i64 ((k : Int) + 1), .int .i64 0]) = .returned (tkv (m + x % 128 * 2 ^ (7 * k), k + 1, 0)) := by
  rw [take_val hk hm hx h9]; rfl
theorem take_ret9 {k m x : Nat} (hk : k = 9) (hm : m < 2 ^ (7 * k)) (hx : x < 256) (h9 : x ≤ 1) :
    Ending.returned (.tuple #[.int .u64 (bits .or .u64 (m : Int) (IntKind.u64.wrap (IntKind.u64.wrap (bits .andNot .u8 (x : Int) 128) * 9223372036854775808))), .int .i64 10, .int .i64 0]) = .returned (tkv (m + x % 128 * 2 ^ (7 * k), k + 1, 0)) := by
  subst hk
  exact take_ret (k := 9) (by omega) hm hx fun _ => h9

end Go.Proofs.YtdcocgjlfhicaaaDoor
