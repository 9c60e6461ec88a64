/-
  Pairs appended to a row of the call's own; the statement's Copy.
-/
import Derived.Test.YtdlnfcepknoigaaBE
import Derived.Test.YtdlnfcepknoigaaSt
namespace Go.Proofs.Ytdlnfcepknoigaa
open Go.ChangeShapes Go.WideShapes Go.ChangeAt Go.RowKit

/-- append([]byte(nil), x...) within a region that draws. -/
theorem step_append_nilB {ops : Array Oper} {o : Oper} {a : Act} {w : World} {K : Act → World → Prop} {Q : Exit → Act → World → Prop} {E : Prop} (hg : o.guard = none) (s x : Operand) (hop : o.op = Op.call { callee := Callee.builtin Builtin.append, args := #[s, x], argTypes := #[26, 26] }) (hs : a.eval s = .slice none 0 0) {sx : Value} (hx : a.eval x = sx) {ns : List Nat} (hr : Rd w sx (bv ns)) (hl : ns.length ≤ 140737488355328)
    (hK : ∀ v' w', w'.ownsRow w.heap.size 5 1 v' ns.length (bv ns) → Fr [] w w' → K (a.put o.dst v') w') :
    if Region.wanted o (yielded ops a.tmps) = true then Oper.wp Try.prog o a w K Q else E := by
  have hw : Region.wanted o (yielded ops a.tmps) = true := by simp [Region.wanted, hg]
  rw [if_pos hw]
  obtain ⟨i0, hi, hz0, hz1, hz2⟩ := info_parts infoB
  rcases hr with ⟨rfl, h0⟩ | ⟨ad, c, rfl, h4, h5⟩
  · have hn0 : ns = [] := by cases ns with | nil => rfl | cons => simp [bv] at h0
    subst hn0
    have hrun : ∀ ty, (Builtin.append_ #[26, 26] ty #[.slice none 0 0, .slice none 0 0]).run Try.prog w = .ok (.slice none 0 0) w := fun ty => by
      simp [Builtin.append_, Builtin.firstCells, go_sem]
    unfold Oper.wp
    simp [execOp, hop, resolve, invoke, builtin, hs, hx, hrun, Result.andThen]
    exact hK _ _ (World.ownsRow_nil _ _ _ _) (Fr.refl _ _)
  · obtain ⟨v', w', hrun, h2, h3, _, h6⟩ := run_append_own_at (P := Try.prog) w w.heap.size 26 o.type 5 i0 (.int .u8 0) 1 1 Try.underlying26 hi hz0 hz1 hz2 rfl (by decide) (.slice none 0 0) 0 [] (World.ownsRow_nil _ _ _ _) ad (bv ns).length c (bv ns) (by simp) h5 bv_one (by rw [bv_len]; unfold maxLen; omega) (by rw [bv_len]; omega) (Nat.le_refl _)
    unfold Oper.wp
    simp [execOp, hop, resolve, invoke, builtin, hs, hx, hrun, Result.andThen]
    refine hK _ _ ?_ ((Fr.refl _ _).grown h3 (by simp [Value.ownBlock]))
    rw [bv_len, Nat.zero_add, List.nil_append] at h2
    exact h2
theorem step_append_nilS {ops : Array Oper} {o : Oper} {a : Act} {w : World} {K : Act → World → Prop} {Q : Exit → Act → World → Prop} {E : Prop} (hg : o.guard = none) (s x : Operand) (hop : o.op = Op.call { callee := Callee.builtin Builtin.append, args := #[s, x], argTypes := #[26, 26] }) (hs : a.eval s = .slice none 0 0) {sx : Value} (hx : a.eval x = sx) {ns : List Nat} (hr : Rd w sx (bv ns)) (hl : ns.length ≤ 140737488355328) {l : Nat} (hln : l = ns.length)
    (hK : ∀ a' c' w', w'.ownsRow w.heap.size 5 1 (.slice a' l c') ns.length (bv ns) → Fr [] w w' → K (a.put o.dst (.slice a' l c')) w') :
    if Region.wanted o (yielded ops a.tmps) = true then Oper.wp Try.prog o a w K Q else E := by
  subst hln
  refine step_append_nilB hg s x hop hs hx hr hl fun v' w' o' f' => ?_
  obtain ⟨a', c', rfl, _⟩ := ownsRow_slice o'
  exact hK a' c' w' o' f'
theorem step_build1 {ops : Array Oper} {o : Oper} {a : Act} {w : World} {K : Act → World → Prop} {Q : Exit → Act → World → Prop} {E : Prop} (hg : o.guard = none) (x : Operand) (hop : o.op = Op.buildSlice 22 1 #[(0, x)]) {a0 a1 : Option Addr} {n0 n1 c0 c1 : Nat} (hx : a.eval x = .agg #[.slice a0 n0 c0, .slice a1 n1 c1])
    (hK : K (a.put o.dst (.slice (some ⟨w.heap.size, 0, none⟩) 1 1)) (w.alloc (.cells #[.slice a0 n0 c0, .slice a1 n1 c1] 40))) :
    if Region.wanted o (yielded ops a.tmps) = true then Oper.wp Try.prog o a w K Q else E := by
  have hw : Region.wanted o (yielded ops a.tmps) = true := by simp [Region.wanted, hg]
  rw [if_pos hw]
  unfold Oper.wp
  simp [execOp, hop, hx]
  go_simp
  exact hK
theorem step_append_kv {ops : Array Oper} {o : Oper} {a : Act} {w : World} {K : Act → World → Prop} {Q : Exit → Act → World → Prop} {E : Prop} (hg : o.guard = none) (s x : Operand) (hop : o.op = Op.call { callee := Callee.builtin Builtin.append, args := #[s, x], argTypes := #[22, 22] }) (base : Nat) {v : Value} {n : Nat} {xs : List Value} (hs : a.eval s = v) (hown : w.ownsRow base 40 2 v n xs) {G : Nat} (hx : a.eval x = .slice (some ⟨G, 0, none⟩) 1 1) {u0 u1 : Value} {T : TypeId} (hG : w.heap[G]? = some (.cells #[u0, u1] T (0, 0)))
    (hu : ∀ u ∈ [u0, u1], u.oneCell' = true) (hl : n ≤ 1000000000) (hbase : base ≤ w.heap.size)
    (hK : ∀ v' w', w'.ownsRow base 40 2 v' (n + 1) (xs ++ [u0, u1]) → w.grownBy w' v.ownBlock → K (a.put o.dst v') w') :
    if Region.wanted o (yielded ops a.tmps) = true then Oper.wp Try.prog o a w K Q else E := by
  obtain ⟨i0, hi0, hz0, hz1, hz2⟩ := info_parts infoP
  exact step_append_own hg s x 22 hop base 40 i0 _ 2 48 Try.underlying22 hi0 hz0 hz1 hz2 rfl (by decide) v n xs hs hown ⟨G, 0, none⟩ 1 1 [u0, u1] hx rfl (fun j u hj => by rw [Addr.add_lit, Nat.zero_add, blk_cell hG, ← Array.getElem?_toList]; exact hj) hu (by unfold maxLen; omega) (by omega) hbase (fun v' w' o' g' _ => hK v' w' o' g')
/-- Pairs of the call's own, their bytes too. -/
def ColO (W : World) (B : Nat) (v : Value) (ps : Ps) : Prop := ∃ cs, W.ownsRow B 40 2 v ps.length cs ∧
  ∀ (j : Nat) (p : List Nat × List Nat), ps[j]? = some p → ∃ kv vv, cs[j * 2]? = some kv ∧ cs[j * 2 + 1]? = some vv ∧ W.ownsRow B 5 1 kv p.1.length (bv p.1) ∧ W.ownsRow B 5 1 vv p.2.length (bv p.2) ∧ By p.1 ∧ By p.2 ∧ p.1.length ≤ 140737488355328 ∧ p.2.length ≤ 140737488355328
theorem ColO.nil (W : World) (B : Nat) : ColO W B (.slice none 0 0) [] := ⟨[], World.ownsRow_nil _ _ _ _, fun j p h => by simp at h⟩
theorem ColO.fr {W W' : World} {B : Nat} {v : Value} {ps : Ps} (h : ColO W B v ps) (f : Fr [] W W') : ColO W' B v ps := by
  obtain ⟨cs, o, h2⟩ := h
  refine ⟨cs, ownsRow_fr o f, fun j p hj => ?_⟩
  obtain ⟨kv, vv, c0, c1, r0, r1, b0⟩ := h2 j p hj
  exact ⟨kv, vv, c0, c1, ownsRow_fr r0 f, ownsRow_fr r1 f, b0⟩
theorem ColO.rd {w : World} {B : Nat} {v : Value} {ps : Ps} (h : ColO w B v ps) : RdK w v ps := by
  obtain ⟨cs, o, h2⟩ := h
  rcases o.2 with ⟨rfl, h0⟩ | ⟨g, cap, cur, rfl, _, h3, h4, h5⟩
  · have : ps = [] := List.eq_nil_of_length_eq_zero h0
    subst this
    exact RdK.nil w
  · refine ⟨_, cap, rfl, h4, fun _ => ⟨g, 0, rfl, fun j p hj => ?_⟩⟩
    obtain ⟨kv, vv, c0, c1, q0, q1, b0, b1, l0, l1⟩ := h2 j p hj
    have r0 := Rd.ownB q0
    have r1 := Rd.ownB q1
    have d0 := o.cells rfl _ _ c0
    have d1 := o.cells rfl _ _ c1
    rw [Addr.add_lit] at d0 d1
    obtain ⟨a0, k0, e0⟩ := r0.form
    obtain ⟨a1, k1, e1⟩ := r1.form
    rw [bv_len] at e0 e1
    subst e0
    subst e1
    exact ⟨a0, k0, a1, k1, d0, by rw [show 0 + j * 2 + 1 = 0 + (j * 2 + 1) from by omega]; exact d1, r0, r1, b0, b1, l0, l1⟩
/-- A row of bytes stays while a row of another kind grows. -/
theorem own_stays {W W' : World} {B B' s n m : Nat} {e : TypeId} {v u : Value} {xs ys : List Value} (o : W.ownsRow B e s v n xs) (g : W.grownBy W' v.ownBlock) (q : W.ownsRow B' 5 1 u m ys) (hne : 5 ≠ e) : W'.ownsRow B' 5 1 u m ys := by
  refine ownsRow_of_block q fun k hk => ?_
  rcases q.2 with ⟨rfl, _⟩ | ⟨h, cap, cur, rfl, _, h3, _⟩
  · simp [Value.ownBlock] at hk
  · simp [Value.ownBlock] at hk
    subst hk
    exact g.block _ (blk_lt h3) (fun e' => own_not o h3 hne e'.symm)
theorem own_base {W : World} {B B' s n : Nat} {e : TypeId} {v : Value} {xs : List Value} (h : W.ownsRow B e s v n xs) (hb : B' ≤ B) : W.ownsRow B' e s v n xs := by
  refine ⟨h.1, ?_⟩
  rcases h.2 with h0 | ⟨g, cap, cur, h1, h2, h3⟩
  · exact .inl h0
  · exact .inr ⟨g, cap, cur, h1, by omega, h3⟩
theorem ColO.app {W W' : World} {B : Nat} {v v' kv vv : Value} {ps : Ps} {p : List Nat × List Nat} {cs : List Value} (o : W.ownsRow B 40 2 v ps.length cs)
    (h : ∀ (j : Nat) (p : List Nat × List Nat), ps[j]? = some p → ∃ kv vv, cs[j * 2]? = some kv ∧ cs[j * 2 + 1]? = some vv ∧ W.ownsRow B 5 1 kv p.1.length (bv p.1) ∧ W.ownsRow B 5 1 vv p.2.length (bv p.2) ∧ By p.1 ∧ By p.2 ∧ p.1.length ≤ 140737488355328 ∧ p.2.length ≤ 140737488355328)
    (ok : W.ownsRow B 5 1 kv p.1.length (bv p.1)) (ov : W.ownsRow B 5 1 vv p.2.length (bv p.2)) (bk : By p.1) (bw : By p.2) (lk : p.1.length ≤ 140737488355328) (lv : p.2.length ≤ 140737488355328)
    (o' : W'.ownsRow B 40 2 v' (ps.length + 1) (cs ++ [kv, vv])) (g : W.grownBy W' v.ownBlock) : ColO W' B v' (ps ++ [p]) := by
  refine ⟨cs ++ [kv, vv], by rw [List.length_append]; exact o', fun j p' hj => ?_⟩
  have hcl := o.1
  rcases Nat.lt_or_ge j ps.length with hlt | hge
  · rw [List.getElem?_append_left hlt] at hj
    obtain ⟨a, b, c0, c1, q0, q1, b0⟩ := h j p' hj
    exact ⟨a, b, by rw [List.getElem?_append_left (by omega)]; exact c0, by rw [List.getElem?_append_left (by omega)]; exact c1, own_stays o g q0 (by decide), own_stays o g q1 (by decide), b0⟩
  · rw [List.getElem?_append_right hge] at hj
    have hjj : j = ps.length := by
      rcases Nat.lt_or_ge (j - ps.length) 1 with h1 | h1
      · omega
      · rw [List.getElem?_eq_none (by simpa using h1)] at hj; cases hj
    subst hjj
    simp at hj
    subst hj
    exact ⟨kv, vv, by rw [List.getElem?_append_right (by omega), hcl, Nat.sub_self]; rfl, by rw [List.getElem?_append_right (by omega), hcl, show ps.length * 2 + 1 - ps.length * 2 = 1 from by omega]; rfl, own_stays o g ok (by decide), own_stays o g ov (by decide), bk, bw, lk, lv⟩
set_option maxRecDepth 20000 in
set_option maxHeartbeats 1600000 in
theorem copy_c (w : World) {v : Value} {ps : Ps} (h : RdK w v ps) (hl : ps.length ≤ 1000000) :
    Calls Try.prog 7 #[v] w fun e w' => ∃ v', e = .returned v' ∧ ColO w' w.heap.size v' ps ∧ Fr [] w w' := by
  obtain ⟨a, c, rfl, hc, k1⟩ := h
  have H1 := hid k1
  clear k1
  obtain ⟨n, hn⟩ : ∃ n, n = ps.length := ⟨_, rfl⟩
  have HN := hid hn
  rw [← hn] at hl hc ⊢
  clear hn
  go_enter Try.func7, Try.ntmps7
  go_wp2_with fail
  go_loopw [3, 4] (fun v3 v4 wr => ∃ i : Nat, i ≤ n ∧ v4 = .int .i64 (i : Int) ∧ ColO wr w.heap.size v3 (ps.take i) ∧ Fr [] w wr) (fun _ v4 _ => n - (intOf v4).toNat)
  case atStart => exact ⟨0, Nat.zero_le _, rfl, by rw [List.take_zero]; exact ColO.nil _ _, Fr.refl _ _⟩
  case round =>
    obtain ⟨i, hi, rfl, hr, hf⟩ := hrel
    have HF := hid hf
    clear hf
    by_cases hlt : i < n
    · have hil : i < ps.length := by rw [← HN.out]; exact hlt
      obtain ⟨b, off, rfl, m1⟩ := H1.out (by omega)
      obtain ⟨ka, kc, va, vc, P⟩ := m1 i _ (ps_at hil)
      have z1 := cell_fr HF.out P.ck
      have z2 := cell_fr HF.out P.cv
      have RK := hid (P.rk.fr HF.out)
      have RV := hid (P.rv.fr HF.out)
      have HP := hid P
      have hlk0 := P.lk
      have hlv0 := P.lv
      dsimp only at z1 z2 RK RV hlk0 hlv0
      have HTK : Hid (ps.take (i + 1) = ps.take i ++ [(kA ps i, vA ps i)]) := hid (by rw [List.take_add_one, ps_at hil]; rfl)
      have htl : (ps.take i).length = i := by rw [List.length_take]; omega
      obtain ⟨cs, oc, hcs⟩ := hr
      rw [htl] at oc
      have OC := hid oc
      have HCS := hid hcs
      obtain ⟨a3, c3, hv3, _⟩ := ownsRow_slice oc
      subst hv3
      obtain ⟨lk, hlk⟩ : ∃ l, l = (kA ps i).length := ⟨_, rfl⟩
      obtain ⟨lv, hlv⟩ : ∃ l, l = (vA ps i).length := ⟨_, rfl⟩
      rw [← hlk] at z1 hlk0
      rw [← hlv] at z2 hlv0
      have HLK := hid hlk
      have HLV := hid hlv
      clear P m1 hil oc hcs hlk hlv
      have ib : (i : Int) < (n : Int) := by omega
      have SK : Hid (∀ w', Fr [] wr w' → w'.cell? ⟨b, off + i * 2, none⟩ = some (.slice ka lk kc) ∧ w'.cell? ⟨b, off + i * 2 + 1, none⟩ = some (.slice va lv vc)) := hid fun w' f => ⟨cell_fr f z1, cell_fr f z2⟩
      go_upto_region 5 with fail
      refine wp_region_held_drew (S := fun w' => w'.cell? ⟨b, off + i * 2, none⟩ = some (.slice ka lk kc) ∧ w'.cell? ⟨b, off + i * 2 + 1, none⟩ = some (.slice va lv vc)) (by kernel_rfl) (SK.out _ ((Fr.refl _ _).drew)) (fun hS => ?_)
      refine wpAnyH_take (i := 0) (v := .slice a3 i c3) rfl (by kernel_rfl) (by kernel_rfl) (by kernel_rfl) (fun _ _ _ h => h) (.inl ⟨by rfl, fun wx _ => by go_simp⟩) hS ?_
      simp only [Act.put]
      refine wpAnyH_take (i := 1) (v := .slice (some ⟨b, off, none⟩) n c) rfl (by kernel_rfl) (by kernel_rfl) (by kernel_rfl) (fun _ _ _ h => h) (.inl ⟨by rfl, fun wx _ => by go_simp⟩) hS ?_
      simp only [Act.put]
      refine wpAnyH_take (i := 2) (v := .int .i64 (i : Int)) rfl (by kernel_rfl) (by kernel_rfl) (by kernel_rfl) (fun _ _ _ h => h) (.inl ⟨by rfl, fun wx _ => by go_simp⟩) hS ?_
      simp only [Act.put]
      refine wpAnyH_take (i := 3) (v := .pointer (some ⟨b, off + i * 2, none⟩)) rfl (by kernel_rfl) (by kernel_rfl) (by kernel_rfl) (fun _ _ _ h => h) (.inl ⟨by rfl, fun wx _ => by go_simp⟩) hS ?_
      simp only [Act.put]
      refine wpAnyH_take (i := 4) (v := .pointer (some ⟨b, off + i * 2, none⟩)) rfl (by kernel_rfl) (by kernel_rfl) (by kernel_rfl) (fun _ _ _ h => h) (.inl ⟨by rfl, fun wx _ => by go_simp⟩) hS ?_
      simp only [Act.put]
      refine wpAnyH_take (i := 5) (v := .slice ka lk kc) rfl (by kernel_rfl) (by kernel_rfl) (by kernel_rfl) (fun _ _ _ h => h) (.inl ⟨by rfl, fun wx hX => by obtain ⟨x0, x1⟩ := hX; go_simp⟩) hS ?_
      simp only [Act.put]
      refine wpAnyH_take (i := 7) (v := .slice (some ⟨b, off, none⟩) n c) rfl (by kernel_rfl) (by kernel_rfl) (by kernel_rfl) (fun _ _ _ h => h) (.inl ⟨by rfl, fun wx _ => by go_simp⟩) hS ?_
      simp only [Act.put]
      refine wpAnyH_take (i := 8) (v := .int .i64 (i : Int)) rfl (by kernel_rfl) (by kernel_rfl) (by kernel_rfl) (fun _ _ _ h => h) (.inl ⟨by rfl, fun wx _ => by go_simp⟩) hS ?_
      simp only [Act.put]
      refine wpAnyH_take (i := 9) (v := .pointer (some ⟨b, off + i * 2, none⟩)) rfl (by kernel_rfl) (by kernel_rfl) (by kernel_rfl) (fun _ _ _ h => h) (.inl ⟨by rfl, fun wx _ => by go_simp⟩) hS ?_
      simp only [Act.put]
      refine wpAnyH_take (i := 10) (v := .pointer (some ⟨b, off + i * 2 + 1, none⟩)) rfl (by kernel_rfl) (by kernel_rfl) (by kernel_rfl) (fun _ _ _ h => h) (.inl ⟨by rfl, fun wx _ => by go_simp⟩) hS ?_
      simp only [Act.put]
      refine wpAnyH_take (i := 11) (v := .slice va lv vc) rfl (by kernel_rfl) (by kernel_rfl) (by kernel_rfl) (fun _ _ _ h => h) (.inl ⟨by rfl, fun wx hX => by obtain ⟨x0, x1⟩ := hX; go_simp⟩) hS ?_
      simp only [Act.put]
      clear hS
      refine wpAnyH_ready (rs := [6]) (by kernel_rfl) (by simp) ?_
      refine AllReadyH.cons rfl (fun K hK => ?_) AllReadyH.nil
      refine step_append_nilS (sx := .slice ka lk kc) rfl (.const (.slice none 0 0)) (.tmp 16) rfl (by simp only [Act.eval]) (by simp [Act.eval]) (ns := kA ps i) (by rw [HLK.out]; exact RK.out.fr ((Fr.refl _ _).drew)) (by rw [← HLK.out]; exact hlk0) HLK.out ?_
      intro ka1 kc1 W1 o1 f1
      have F1 := hid ((Fr.refl [] wr).drew.trans f1)
      have O1 := hid o1
      refine hK.out _ _ (SK.out _ F1.out) (fun _ => ?_)
      clear hK K o1 f1
      refine wpAnyH_ready (rs := [12]) (by kernel_rfl) (by simp) ?_
      refine AllReadyH.cons rfl (fun K hK => ?_) AllReadyH.nil
      refine step_append_nilS (sx := .slice va lv vc) rfl (.const (.slice none 0 0)) (.tmp 22) rfl (by simp only [Act.eval]) (by simp [Act.eval, Act.put]) (ns := vA ps i) (by rw [HLV.out]; exact RV.out.fr F1.out) (by rw [← HLV.out]; exact hlv0) HLV.out ?_
      intro va1 vc1 W2 o2 f2
      have F2 := hid (F1.out.trans f2)
      have O2 := hid o2
      have O12 := hid (ownsRow_fr O1.out f2)
      have hS2 := SK.out _ F2.out
      refine hK.out _ _ hS2 (fun _ => ?_)
      clear hK K o2 f2
      refine wpAnyH_take (i := 13) (v := .agg #[.slice ka1 lk kc1, .slice va1 lv vc1]) rfl (by kernel_rfl) (by kernel_rfl) (by kernel_rfl) (fun _ _ _ h => h) (.inl ⟨by rfl, fun wx _ => by go_simp⟩) hS2 ?_
      simp only [Act.put]
      have F23 : Hid (Fr [] W2 (W2.alloc (.cells #[.slice ka1 lk kc1, .slice va1 lv vc1] 40))) := hid ((Fr.refl _ _).alloc _)
      have X3 : Hid ((W2.alloc (.cells #[.slice ka1 lk kc1, .slice va1 lv vc1] 40)).heap[W2.heap.size]? = some (.cells #[.slice ka1 lk kc1, .slice va1 lv vc1] 40 (0, 0))) := hid (blk_new _ _)
      have F3 := hid (F2.out.trans F23.out)
      clear hS2
      refine wpAnyH_ready (rs := [14]) (by kernel_rfl) (by simp) ?_
      refine AllReadyH.cons rfl (fun K hK => ?_) AllReadyH.nil
      refine step_build1 (a0 := ka1) (n0 := lk) (c0 := kc1) (a1 := va1) (n1 := lv) (c1 := vc1) rfl (.tmp 24) rfl (by simp [Act.eval]) ?_
      refine hK.out _ _ (SK.out _ F3.out) (fun _ => ?_)
      clear hK K
      refine wpAnyH_ready (rs := [15]) (by kernel_rfl) (by simp) ?_
      refine AllReadyH.cons rfl (fun K hK => ?_) AllReadyH.nil
      refine step_append_kv (v := .slice a3 i c3) (G := W2.heap.size) rfl (.tmp 11) (.tmp 25) rfl w.heap.size (by simp [Act.eval, Act.put]) (ownsRow_fr OC.out F3.out) (by simp [Act.eval, Act.put]) X3.out (fun u hu => by simp at hu; rcases hu with rfl | rfl <;> rfl) (by omega) (by have := HF.out.size; have := F3.out.size; omega) ?_
      intro v5 W5 o5 g5
      have hb0 : w.heap.size ≤ wr.heap.size := HF.out.size
      have CO : Hid (ColO W5 w.heap.size v5 (ps.take (i + 1))) := by
        refine hid ?_
        rw [HTK.out]
        refine ColO.app (W := W2.alloc (.cells #[.slice ka1 lk kc1, .slice va1 lv vc1] 40)) (cs := cs) (by rw [htl]; exact ownsRow_fr OC.out F3.out) (fun j p hj => ?_) (?_) (?_) HP.out.bk HP.out.bv' HP.out.lk HP.out.lv (by rw [htl]; exact o5) g5
        · obtain ⟨kv, vv, c0, c1, q0, q1, b0⟩ := HCS.out j p hj
          exact ⟨kv, vv, c0, c1, ownsRow_fr q0 F3.out, ownsRow_fr q1 F3.out, b0⟩
        · have := ownsRow_fr O12.out F23.out
          exact own_base this (by have := (Fr.refl [] wr).drew.size; omega)
        · have := ownsRow_fr O2.out F23.out
          exact own_base this (by have := F1.out.size; omega)
      have F5 : Hid (Fr [] w W5) := hid ((HF.out.trans F3.out).grown g5 (fun k hk => .inr ((ownsRow_fr OC.out F3.out).lt k hk).1))
      refine hK.out _ _ (by
        have hf5 : Fr [] w W5 := F5.out
        exact ⟨cell_fr hf5 (by rw [HLK.out]; exact HP.out.ck), cell_fr hf5 (by rw [HLV.out]; exact HP.out.cv)⟩) (fun hS5 => ?_)
      clear hK K o5 g5
      refine wpAnyH_take (i := 16) (v := v5) rfl (by kernel_rfl) (by kernel_rfl) (by kernel_rfl) (fun _ _ _ h => h) (.inl ⟨by rfl, fun wx _ => by go_simp⟩) hS5 ?_
      simp only [Act.put]
      refine wpAnyH_done (by kernel_rfl) ?_ _
      clear hS5
      go_wp2
      go_roundw
      case rel => exact ⟨i + 1, by omega, by go_num, CO.out, F5.out⟩
      case measure => simp [intOf]; omega
    · have hie : i = n := by omega
      subst hie
      go_wp2
      go_ret
      refine ⟨_, rfl, ?_, HF.out⟩
      rw [List.take_of_length_le (by rw [HN.out]; exact Nat.le_refl _)] at hr
      exact hr
end Go.Proofs.Ytdlnfcepknoigaa
