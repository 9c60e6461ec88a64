/-
  TableBack, walked.
-/
import Derived.Test.YtobdegmlijnogaaJ40
namespace Go.Proofs.Ytobdegmlijnogaa
open Go.ChangeShapes Go.WideShapes Go.ChangeAt Go.RowKit

/-- Lists of bytes that lay there, gathered in a row of the call's own. -/
def Asks (w wr : World) (v : Value) (us : List (List Nat)) : Prop := ∃ cs, wr.ownsRow w.heap.size 27 1 v us.length cs ∧ ∀ (j : Nat) (r : List Nat), us[j]? = some r → ∃ a c, cs[j]? = some (.slice a r.length c) ∧ Rd w (.slice a r.length c) (bv r) ∧ By r ∧ r.length ≤ 140737488355328
theorem Asks.fr {w wr W : World} {v : Value} {us : List (List Nat)} (h : Asks w wr v us) (f : Fr [] wr W) : Asks w W v us := by
  obtain ⟨cs, o, r⟩ := h
  exact ⟨cs, ownsRow_fr o f, r⟩
theorem Asks.first (w : World) {a : Option Addr} {c : Nat} {u : List Nat} (h : Rd w (.slice a u.length c) (bv u)) (hb : By u) (hl : u.length ≤ 140737488355328) : Asks w (w.alloc (.cells #[.slice a u.length c] 27)) (.slice (some ⟨w.heap.size, 0, none⟩) 1 1) [u] := by
  refine ⟨[.slice a u.length c], World.ownsRow_lit (base := w.heap.size) w #[.slice a u.length c] 1 (Nat.le_refl _) (by unfold maxLen; omega) rfl, fun j r hj => ?_⟩
  have h0 : j = 0 := by
    rcases Nat.lt_or_ge j 1 with h | h
    · omega
    · rw [List.getElem?_eq_none (by simpa using h)] at hj; cases hj
  subst h0
  simp at hj
  subst hj
  exact ⟨a, c, rfl, h, hb, hl⟩
theorem Asks.at {w wr : World} {v : Value} {us : List (List Nat)} (h : Asks w wr v us) {j : Nat} {r : List Nat} (hj : us[j]? = some r) : ∃ g cap a c, v = .slice (some ⟨g, 0, none⟩) us.length cap ∧ wr.cell? ⟨g, j, none⟩ = some (.slice a r.length c) ∧ Rd w (.slice a r.length c) (bv r) ∧ By r ∧ r.length ≤ 140737488355328 := by
  obtain ⟨cs, o, hr⟩ := h
  obtain ⟨a, c, h1, h2⟩ := hr j r hj
  rcases o.2 with ⟨rfl, h0⟩ | ⟨g, cap, cur, rfl, _, h3, h4, h5⟩
  · have := (List.getElem?_eq_some_iff.1 hj).1; omega
  · have := o.cells rfl _ _ h1
    rw [Addr.add_lit, Nat.zero_add] at this
    exact ⟨g, cap, a, c, rfl, this, h2⟩
theorem Asks.app {w W' : World} {v' : Value} {us : List (List Nat)} {cs : List Value} {a : Option Addr} {c : Nat} {u : List Nat} (hr : ∀ (j : Nat) (r : List Nat), us[j]? = some r → ∃ a c, cs[j]? = some (.slice a r.length c) ∧ Rd w (.slice a r.length c) (bv r) ∧ By r ∧ r.length ≤ 140737488355328) (hcl : cs.length = us.length)
    (o' : W'.ownsRow w.heap.size 27 1 v' (us.length + 1) (cs ++ [.slice a u.length c])) (h : Rd w (.slice a u.length c) (bv u)) (hb : By u) (hl : u.length ≤ 140737488355328) : Asks w W' v' (us ++ [u]) := by
  refine ⟨cs ++ [.slice a u.length c], by rw [List.length_append]; exact o', fun j r hj => ?_⟩
  rcases Nat.lt_or_ge j us.length with hlt | hge
  · rw [List.getElem?_append_left hlt] at hj
    obtain ⟨a', c', h1, h2⟩ := hr j r hj
    exact ⟨a', c', by rw [List.getElem?_append_left (by omega)]; exact h1, h2⟩
  · rw [List.getElem?_append_right hge] at hj
    have hjj : j = us.length := by
      rcases Nat.lt_or_ge (j - us.length) 1 with h1 | h1
      · omega
      · rw [List.getElem?_eq_none (by simpa using h1)] at hj; cases hj
    subst hjj
    simp at hj
    subst hj
    exact ⟨a, c, by rw [List.getElem?_append_right (by omega), hcl, Nat.sub_self]; rfl, h, hb, hl⟩
/-- Pairs that lay there, gathered in a row of the call's own. -/
def Wants (w wr : World) (v : Value) (ps : Ps) : Prop := ∃ cs, wr.ownsRow w.heap.size 41 2 v ps.length cs ∧ ∀ (j : Nat) (p : List Nat × List Nat), ps[j]? = some p → ∃ ka kc va vc, cs[j * 2]? = some (.slice ka p.1.length kc) ∧ cs[j * 2 + 1]? = some (.slice va p.2.length vc) ∧ Rd w (.slice ka p.1.length kc) (bv p.1) ∧ Rd w (.slice va p.2.length vc) (bv p.2) ∧ By p.1 ∧ By p.2 ∧ p.1.length ≤ 140737488355328 ∧ p.2.length ≤ 140737488355328
theorem Wants.nil (w wr : World) : Wants w wr (.slice none 0 0) [] := ⟨[], World.ownsRow_nil _ _ _ _, fun j p h => by simp at h⟩
theorem Wants.fr {w wr W : World} {v : Value} {ps : Ps} (h : Wants w wr v ps) (f : Fr [] wr W) : Wants w W v ps := by
  obtain ⟨cs, o, r⟩ := h
  exact ⟨cs, ownsRow_fr o f, r⟩
theorem Wants.rd {w wr : World} {v : Value} {ps : Ps} (h : Wants w wr v ps) (f : Fr [] w wr) : RdK wr v ps := by
  obtain ⟨cs, o, r⟩ := h
  rcases o.2 with ⟨rfl, h0⟩ | ⟨g, cap, cur, rfl, _, h3, h4, h5⟩
  · have : ps = [] := List.eq_nil_of_length_eq_zero h0
    subst this
    exact RdK.nil wr
  · refine ⟨_, cap, rfl, h4, fun _ => ⟨g, 0, rfl, fun j p hj => ?_⟩⟩
    obtain ⟨ka, kc, va, vc, c0, c1, q0, q1, b0, b1, l0, l1⟩ := r j p hj
    have d0 := o.cells rfl _ _ c0
    have d1 := o.cells rfl _ _ c1
    rw [Addr.add_lit] at d0 d1
    exact ⟨ka, kc, va, vc, d0, by rw [show 0 + j * 2 + 1 = 0 + (j * 2 + 1) from by omega]; exact d1, q0.fr f, q1.fr f, b0, b1, l0, l1⟩
theorem Wants.app {w W' : World} {v' : Value} {ps : Ps} {cs : List Value} {ka va : Option Addr} {kc vc : Nat} {p : List Nat × List Nat} (hr : ∀ (j : Nat) (p : List Nat × List Nat), ps[j]? = some p → ∃ ka kc va vc, cs[j * 2]? = some (.slice ka p.1.length kc) ∧ cs[j * 2 + 1]? = some (.slice va p.2.length vc) ∧ Rd w (.slice ka p.1.length kc) (bv p.1) ∧ Rd w (.slice va p.2.length vc) (bv p.2) ∧ By p.1 ∧ By p.2 ∧ p.1.length ≤ 140737488355328 ∧ p.2.length ≤ 140737488355328) (hcl : cs.length = ps.length * 2)
    (o' : W'.ownsRow w.heap.size 41 2 v' (ps.length + 1) (cs ++ [.slice ka p.1.length kc, .slice va p.2.length vc])) (h0 : Rd w (.slice ka p.1.length kc) (bv p.1)) (h1 : Rd w (.slice va p.2.length vc) (bv p.2)) (b0 : By p.1) (b1 : By p.2) (l0 : p.1.length ≤ 140737488355328) (l1 : p.2.length ≤ 140737488355328) : Wants w W' v' (ps ++ [p]) := by
  refine ⟨_, by rw [List.length_append]; exact o', fun j q hj => ?_⟩
  rcases Nat.lt_or_ge j ps.length with hlt | hge
  · rw [List.getElem?_append_left hlt] at hj
    obtain ⟨a1, a2, a3, a4, h3, h4, h5⟩ := hr j q hj
    exact ⟨a1, a2, a3, a4, by rw [List.getElem?_append_left (by omega)]; exact h3, by rw [List.getElem?_append_left (by omega)]; exact h4, h5⟩
  · rw [List.getElem?_append_right hge] at hj
    have hjj : j = ps.length := by
      rcases Nat.lt_or_ge (j - ps.length) 1 with h1 | h1
      · omega
      · rw [List.getElem?_eq_none (by simpa using h1)] at hj; cases hj
    subst hjj
    simp at hj
    subst hj
    exact ⟨ka, kc, va, vc, by rw [List.getElem?_append_right (by omega), hcl, Nat.sub_self]; rfl, by rw [List.getElem?_append_right (by omega), hcl, show ps.length * 2 + 1 - ps.length * 2 = 1 from by omega]; rfl, h0, h1, b0, b1, l0, l1⟩
theorem step_append_ask {ops : Array Oper} {o : Oper} {a : Act} {w : World} {K : Act → World → Prop} {Q : Exit → Act → World → Prop} {E : Prop} (hg : o.guard = none) (s x : Operand) (hop : o.op = Op.call { callee := Callee.builtin Builtin.append, args := #[s, x], argTypes := #[39, 39] }) (base : Nat) {v : Value} {n : Nat} {xs : List Value} (hs : a.eval s = v) (hown : w.ownsRow base 27 1 v n xs) {G : Nat} (hx : a.eval x = .slice (some ⟨G, 0, none⟩) 1 1) {a0 : Option Addr} {n0 c0 : Nat} {T : TypeId} (hG : w.heap[G]? = some (.cells #[.slice a0 n0 c0] T (0, 0)))
    (hl : n ≤ 1000000000) (hbase : base ≤ w.heap.size)
    (hK : ∀ a' c' w', w'.ownsRow base 27 1 (.slice a' (n + 1) c') (n + 1) (xs ++ [.slice a0 n0 c0]) → w.grownBy w' v.ownBlock → K (a.put o.dst (.slice a' (n + 1) c')) w') :
    if Region.wanted o (yielded ops a.tmps) = true then Oper.wp Try.prog o a w K Q else E := by
  obtain ⟨i0, hi0, hz0, hz1, hz2⟩ := info_parts infoR
  exact step_append_own hg s x 39 hop base 27 i0 _ 1 24 Try.underlying39 hi0 hz0 hz1 hz2 rfl (by decide) v n xs hs hown ⟨G, 0, none⟩ 1 1 [.slice a0 n0 c0] hx rfl (fun j u hj => by rw [Addr.add_lit, Nat.zero_add, blk_cell hG, ← Array.getElem?_toList]; exact hj) (by simp [Value.oneCell']) (by unfold maxLen; omega) (by omega) hbase (fun v' w' o' g' _ => by
    obtain ⟨a', c', rfl, _⟩ := ownsRow_slice o'
    exact hK a' c' w' o' g')
theorem step_build_ask {ops : Array Oper} {o : Oper} {a : Act} {w : World} {K : Act → World → Prop} {Q : Exit → Act → World → Prop} {E : Prop} (hg : o.guard = none) (x : Operand) (hop : o.op = Op.buildSlice 39 1 #[(0, x)]) {a0 : Option Addr} {n0 c0 : Nat} (hx : a.eval x = .slice a0 n0 c0)
    (hK : K (a.put o.dst (.slice (some ⟨w.heap.size, 0, none⟩) 1 1)) (w.alloc (.cells #[.slice a0 n0 c0] 27))) :
    if Region.wanted o (yielded ops a.tmps) = true then Oper.wp Try.prog o a w K Q else E := by
  have hw : Region.wanted o (yielded ops a.tmps) = true := by simp [Region.wanted, hg]
  rw [if_pos hw]
  unfold Oper.wp
  simp [execOp, hop, hx]
  go_simp
  exact hK
/-- The user keys that are asked for. -/
def askL (user : List Nat) (ps : Ps) (i : Nat) : List (List Nat) := user :: (List.range i).map fun j => userL (kA ps j)
theorem askL_len (user : List Nat) (ps : Ps) (i : Nat) : (askL user ps i).length = i + 1 := by unfold askL; simp
theorem askL_succ (user : List Nat) (ps : Ps) (i : Nat) : askL user ps (i + 1) = askL user ps i ++ [userL (kA ps i)] := by unfold askL; rw [List.range_succ, List.map_append]; rfl
theorem askL_at {user : List Nat} {ps : Ps} {n j : Nat} (h : j < n) : (askL user ps n)[j + 1]? = some (userL (kA ps j)) := by unfold askL; simp [h]
theorem Asks.all {w wr : World} {v : Value} {us : List (List Nat)} (h : Asks w wr v us) (h0 : 0 < us.length) : ∃ g cap, v = .slice (some ⟨g, 0, none⟩) us.length cap ∧ ∀ (j : Nat) (r : List Nat), us[j]? = some r → ∃ a c, wr.cell? ⟨g, j, none⟩ = some (.slice a r.length c) ∧ Rd w (.slice a r.length c) (bv r) ∧ By r ∧ r.length ≤ 140737488355328 := by
  obtain ⟨cs, o, hr⟩ := h
  rcases o.2 with ⟨rfl, h0'⟩ | ⟨g, cap, cur, rfl, _, h3, h4, h5⟩
  · omega
  · refine ⟨g, cap, rfl, fun j r hj => ?_⟩
    obtain ⟨a, c, h1, h2⟩ := hr j r hj
    have := o.cells rfl _ _ h1
    rw [Addr.add_lit, Nat.zero_add] at this
    exact ⟨a, c, this, h2⟩
theorem may_of {ps : Ps} (bits : Nat) {j : Nat} (hj : j < ps.length) : mayF (fltL bits (usN ps ps.length)) (userL (kA ps j)) = true := by
  have hm := usN_mem ps ps.length j hj
  obtain ⟨k, hk⟩ := List.getElem?_of_mem hm
  have := may_flt (bits := bits) (rs := usN ps ps.length) (List.getElem?_eq_some_iff.1 hk).1
  rwa [show rA (usN ps ps.length) k = userL (kA ps j) from by unfold rA; rw [hk]; rfl] at this
theorem ask_some {user : List Nat} {ps : Ps} {n j : Nat} (h : j ≤ n) : ∃ r, (askL user ps n)[j]? = some r ∧ (0 < j → r = userL (kA ps (j - 1))) := by
  cases j with
  | zero => exact ⟨user, rfl, fun h => by omega⟩
  | succ j => exact ⟨_, askL_at (by omega), fun _ => rfl⟩
set_option maxRecDepth 20000 in
set_option maxHeartbeats 6400000 in
theorem tback_c (w : World) {v : Value} {ps : Ps} (h : RdK w v ps) (hl : ps.length ≤ 140737488355328) (b r iP t : Int) {uv : Value} {u : List Nat} (ru : Rd w uv (bv u)) (bu : By u) (lu : u.length ≤ 140737488351232) (seq : Nat) {lev mov : Value} {least most : List Nat} (rl : Rd w lev (bv least)) (bl : By least) (ll : least.length ≤ 140737488351232) (rm : Rd w mov (bv most)) (bm : By most) (lm : most.length ≤ 140737488351232) :
    Calls Try.prog 4 #[v, .agg #[.int .i64 b, .int .i64 r, .int .i64 iP, .int .i64 t], uv, .int .u64 (seq : Int), lev, mov] w fun e w' => e = .returned (.bool true) ∧ Fr [] w w' := by
  have HK := hid h
  obtain ⟨a, c, rfl, hnc, _⟩ := h
  generalize hnn : ps.length = n at *
  have HN := hid hnn
  clear hnn
  have HU := hid ru
  obtain ⟨ua, uc, hue⟩ := ru.form
  rw [bv_len] at hue
  subst hue
  obtain ⟨ul, hul⟩ : ∃ ul, ul = u.length := ⟨_, rfl⟩
  have HUL := hid hul
  rw [← hul] at lu ⊢
  have BU := hid bu
  have RL := hid rl
  have RM := hid rm
  have BL := hid bl
  have BM' := hid bm
  obtain ⟨la0, lc0, hle⟩ := rl.form
  obtain ⟨ma0, mc0, hme⟩ := rm.form
  rw [bv_len] at hle hme
  subst hle
  subst hme
  clear hul ru bu rl rm bl bm
  obtain ⟨W0, hW0⟩ : ∃ W0, W0 = w.alloc (.cells #[.int .i64 b, .int .i64 r, .int .i64 iP, .int .i64 t] 24) := ⟨_, rfl⟩
  have F0 : Hid (Fr [] w W0) := hid (by rw [hW0]; exact (Fr.refl _ _).alloc _)
  have B0 : Hid (W0.heap[w.heap.size]? = some (.cells #[.int .i64 b, .int .i64 r, .int .i64 iP, .int .i64 t] 24 (0, 0))) := hid (by rw [hW0]; exact blk_new _ _)
  have PLC : Hid (∀ W, Fr [] W0 W → W.cell? ⟨w.heap.size, 0, none⟩ = some (.int .i64 b) ∧ W.cell? ⟨w.heap.size, 1, none⟩ = some (.int .i64 r) ∧ W.cell? ⟨w.heap.size, 2, none⟩ = some (.int .i64 iP) ∧ W.cell? ⟨w.heap.size, 3, none⟩ = some (.int .i64 t)) := hid (fun W f => by
    have k := f.at B0.out (by simp)
    exact ⟨by rw [blk_cell k]; rfl, by rw [blk_cell k]; rfl, by rw [blk_cell k]; rfl, by rw [blk_cell k]; rfl⟩)
  have KN := hid (known8_c W0)
  obtain ⟨ll0, hll0⟩ : ∃ ll0, ll0 = least.length := ⟨_, rfl⟩
  obtain ⟨lm0, hlm0⟩ : ∃ lm0, lm0 = most.length := ⟨_, rfl⟩
  have HLL := hid hll0
  have HLM := hid hlm0
  rw [← hll0] at ll RL ⊢
  rw [← hlm0] at lm RM ⊢
  clear hll0 hlm0
  go_enter Try.func4, Try.ntmps4
  go_wp2_with fail
  rw [← hW0]
  clear hW0
  refine KN.out.mono ?_
  rintro e w1 ⟨rfl, f1⟩
  have F1 := hid f1
  have FC := hid (few8_c w1 ((HK.out.fr F0.out).fr f1) (by rw [HN.out]; exact hl))
  clear f1 KN
  go_wp2_with fail
  refine FC.out.mono ?_
  rintro e w2 ⟨hq, f2⟩
  have F2 := hid (F1.out.trans f2)
  clear f2 FC
  rcases hq with rfl | ⟨rfl, hfew⟩
  · go_wp2
    go_ret
    exact ⟨rfl, F0.out.trans F2.out⟩
  have LM := hid (few_lim hfew)
  have hn60 : n ≤ 60 := by rw [← HN.out]; exact hfew.n
  clear hfew
  obtain ⟨p0, p1, p2, p3⟩ := PLC.out w2 F2.out
  obtain ⟨x, X, hT⟩ := tbr_ex b r iP t ps
  have HT := hid hT
  have TB := hid (tbuild_g w2 ((HK.out.fr F0.out).fr F2.out) LM.out hT)
  clear hT
  go_wp2_with fail
  refine TB.out.mono ?_
  rintro e w3 ⟨v3, rfl, r3, f3⟩
  have R3 := hid r3
  have F3 := hid (F2.out.trans f3)
  obtain ⟨a3, c3, h3⟩ := r3.form
  rw [bv_len] at h3
  subst h3
  clear r3 f3 TB p0 p1 p2 p3
  by_cases hx : x = 0
  rotate_left
  · have hx1 : ((x : Int) == 0) = false := by rw [beq_eq_false_iff_ne]; omega
    go_wp2
    go_ret
    exact ⟨rfl, F0.out.trans F3.out⟩
  subst hx
  rcases HT.out with ⟨e, _⟩ | ⟨e, _⟩ | ⟨e, _⟩ | ⟨_, hp, h0, hr, hX⟩
  · omega
  · omega
  · omega
  subst hX
  have hr0 := hp.r0
  have hr1 := hp.r1
  have hi1 := hp.i1
  have hby := HK.out.by
  have OP := hid (topen_built w3 R3.out LM.out hr hby h0 (by omega))
  have HR := hid hr
  have HRR : Hid (1 ≤ r.toNat ∧ r.toNat ≤ 64 ∧ iP.toNat ≤ 64) := hid ⟨by omega, by omega, by omega⟩
  have HBY := hid hby
  clear hp h0 hr hby hr0 hr1 hi1 R3 HT
  generalize (tblL r.toNat b.toNat iP.toNat ps).length = XL at *
  go_wp2_with fail
  refine OP.out.mono ?_
  rintro e w4 ⟨p, da, dc, fa, fc, G, rfl, tab, f4⟩
  have F4 := hid (F3.out.trans f4)
  have HTB := hid tab
  have AB := hid (all_built w4 tab LM.out HR.out HBY.out HRR.out.1 HRR.out.2.1)
  clear tab f4 OP
  go_wp2_with fail
  refine AB.out.mono ?_
  rintro e w5 ⟨v5, rfl, co5, f5⟩
  have CO5 := hid co5.rd
  have F5 := hid (F4.out.trans f5)
  have HTB5 := hid (HTB.out.fr f5)
  obtain ⟨a5, c5, h5, _⟩ := co5.rd
  subst h5
  rw [HN.out] at CO5 ⊢
  clear co5 f5 AB HTB
  have HK5 := hid ((HK.out.fr F0.out).fr F5.out)
  have KV := hid (kvs_c HK5.out CO5.out (by rw [HN.out]; omega))
  go_upto_region 14 with (go_at_call 12; refine KV.out.mono ?_; rintro e w6 ⟨rfl, f6⟩; have F6 := hid ((F0.out.trans F5.out).trans f6); have T6 := hid (HTB5.out.fr f6); have K6 := hid (HK5.out.fr f6); clear f6)
  clear HTB5 HK5 CO5 KV
  have AF := hid (Asks.first w6 (HU.out.fr F6.out) BU.out (by rw [← HUL.out]; omega))
  rw [← HUL.out] at AF
  obtain ⟨w7, hw7⟩ : ∃ w7, w7 = w6.alloc (.cells #[.slice ua ul uc] 27) := ⟨_, rfl⟩
  have F7 : Hid (Fr [] w6 w7) := hid (by rw [hw7]; exact (Fr.refl _ _).alloc _)
  rw [← hw7] at AF
  go_wp2_with fail
  rw [← hw7]
  clear hw7
  have HKI : Hid (∀ p ∈ ps, isK p.1 = true) := hid (asc_of HR.out).1
  go_loopw [17, 18] (fun v17 v18 wr => ∃ i : Nat, i ≤ n ∧ v18 = .int .i64 (i : Int) ∧ Asks w6 wr v17 (askL u ps i) ∧ Fr [] w6 wr) (fun _ v18 _ => n - (intOf v18).toNat)
  case atStart => exact ⟨0, Nat.zero_le _, rfl, AF.out, F7.out⟩
  case round =>
    obtain ⟨i, hi, rfl, hA, hf⟩ := hrel
    have HF := hid hf
    have HA := hid hA
    clear hf AF
    by_cases hlt : i < n
    · have hil : i < ps.length := by rw [HN.out]; exact hlt
      obtain ⟨cs, oc, hcs⟩ := hA
      rw [askL_len] at oc
      obtain ⟨a17, c17, h17, _⟩ := ownsRow_slice oc
      subst h17
      have OC := hid oc
      have HCS := hid hcs
      clear oc hcs
      obtain ⟨a', c', e', hc', k1⟩ := K6.out
      simp only [Value.slice.injEq] at e'
      obtain ⟨rfl, hx1, rfl⟩ := e'
      clear hx1
      obtain ⟨pb, po, rfl, m1⟩ := k1 (by omega)
      obtain ⟨ka, kc, va, vc, P⟩ := m1 i _ (ps_at hil)
      have hki := HKI.out _ (List.mem_of_getElem? (ps_at hil))
      have hkl := isK_len hki
      have z1 := cell_fr HF.out P.ck
      have Z6 := hid P.ck
      have RK := hid P.rk
      have BK := hid P.bk
      have hlk := P.lk
      dsimp only at z1 Z6 RK BK hki hkl hlk
      clear P m1 k1
      obtain ⟨q, o, c0, hp0, hc0⟩ := RK.out.place (by omega)
      simp only [Value.slice.injEq] at hp0
      obtain ⟨rfl, hx0, rfl⟩ := hp0
      clear hx0
      have RF := hid (RK.out.front (q := (kA ps i).length - 8) (by omega))
      have ULN : Hid ((kA ps i).length - 8 = (userL (kA ps i)).length) := hid (by unfold userL; rw [List.length_take]; omega)
      rw [ULN.out, show (kA ps i).take (userL (kA ps i)).length = userL (kA ps i) from by rw [← ULN.out]; rfl] at RF
      have BF : Hid (By (userL (kA ps i))) := hid (BK.out.take _)
      have LFF : Hid ((userL (kA ps i)).length ≤ 140737488355328) := hid (by rw [← ULN.out]; omega)
      obtain ⟨kl, hkl2⟩ : ∃ kl, kl = (kA ps i).length := ⟨_, rfl⟩
      rw [← hkl2] at z1 Z6 hkl hc0 ULN
      clear hkl2 RK hlk hki
      have hk8 : 8 ≤ kl := hkl.1
      have SK : Hid (∀ w', Fr [] wr w' → w'.cell? ⟨pb, po + i * 2, none⟩ = some (.slice (some ⟨q, o, none⟩) kl kc)) := hid (fun w' f => cell_fr f z1)
      have g1 : IntKind.i64.wrap ((kl : Int) - 8) = (kl : Int) - 8 := by rw [IntKind.wrap_i64]; omega
      have g2 : ((kl : Int) - 8).toNat = kl - 8 := by omega
      have g3 : (0 : Int) ≤ (kl : Int) - 8 := by omega
      have g4 : (kl : Int) - 8 ≤ (kc : Int) := by omega
      have g5 : (i : Int) < (n : Int) := by omega
      have g6 : (8 : Int) ≤ (kl : Int) := by omega
      have g7 : ¬ ((kl : Int) < 8) := by omega
      clear z1
      go_upto_region 18 with fail
      have FA : Hid (Fr [] wr (wr.drew.alloc (.cells #[.slice (some ⟨q, o, none⟩) (kl - 8) kc] 27))) := hid ((Fr.refl _ _).drew.alloc _)
      have NA : Hid ((wr.drew.alloc (.cells #[.slice (some ⟨q, o, none⟩) (kl - 8) kc] 27)).heap[wr.drew.heap.size]? = some (.cells #[.slice (some ⟨q, o, none⟩) (kl - 8) kc] 27 (0, 0))) := hid (blk_new wr.drew _)
      have OA : Hid ((wr.drew.alloc (.cells #[.slice (some ⟨q, o, none⟩) (kl - 8) kc] 27)).ownsRow w6.heap.size 27 1 (.slice a17 (i + 1) c17) (i + 1) cs) := hid (ownsRow_fr OC.out FA.out)
      have SZA : Hid (w6.heap.size ≤ (wr.drew.alloc (.cells #[.slice (some ⟨q, o, none⟩) (kl - 8) kc] 27)).heap.size) := hid (Nat.le_trans HF.out.size FA.out.size)
      have FIN : Hid (∀ a' c' w', w'.ownsRow w6.heap.size 27 1 (.slice a' (i + 1 + 1) c') (i + 1 + 1) (cs ++ [.slice (some ⟨q, o, none⟩) (kl - 8) kc]) → (wr.drew.alloc (.cells #[.slice (some ⟨q, o, none⟩) (kl - 8) kc] 27)).grownBy w' (Value.slice a17 (i + 1) c17).ownBlock → Asks w6 w' (.slice a' (i + 1 + 1) c') (askL u ps (i + 1)) ∧ Fr [] w6 w') := hid (fun a' c' w' o' g' => by
        refine ⟨?_, (HF.out.trans FA.out).grown g' (fun k e => .inr (OA.out.lt k e).1)⟩
        rw [askL_succ]
        have hcl := OC.out.1
        rw [ULN.out] at o'
        exact Asks.app HCS.out (by rw [askL_len]; omega) (by rw [askL_len]; exact o') RF.out BF.out LFF.out)
      have IH : Hid (i + 1 ≤ 1000000000) := hid (by omega)
      refine wp_region_held_drew (S := fun w' => w'.cell? ⟨pb, po + i * 2, none⟩ = some (.slice (some ⟨q, o, none⟩) kl kc)) (by kernel_rfl) (SK.out _ (Fr.refl [] wr).drew) (fun hS => ?_)
      refine wpAnyH_take (i := 0) (v := .slice a17 (i + 1) c17) rfl (by kernel_rfl) (by kernel_rfl) (by kernel_rfl) (fun _ _ _ h => h) (.inl ⟨by rfl, fun wx _ => by go_simp⟩) hS ?_
      simp only [Act.put]
      refine wpAnyH_take (i := 1) (v := .slice (some ⟨pb, po, none⟩) n c) rfl (by kernel_rfl) (by kernel_rfl) (by kernel_rfl) (fun _ _ _ h => h) (.inl ⟨by rfl, fun wx _ => by go_simp⟩) hS ?_
      simp only [Act.put]
      refine wpAnyH_take (i := 2) (v := .int .i64 (i : Int)) rfl (by kernel_rfl) (by kernel_rfl) (by kernel_rfl) (fun _ _ _ h => h) (.inl ⟨by rfl, fun wx _ => by go_simp⟩) hS ?_
      simp only [Act.put]
      refine wpAnyH_take (i := 3) (v := .pointer (some ⟨pb, po + i * 2, none⟩)) rfl (by kernel_rfl) (by kernel_rfl) (by kernel_rfl) (fun _ _ _ h => h) (.inl ⟨by rfl, fun wx _ => by go_simp⟩) hS ?_
      simp only [Act.put]
      refine wpAnyH_take (i := 4) (v := .pointer (some ⟨pb, po + i * 2, none⟩)) rfl (by kernel_rfl) (by kernel_rfl) (by kernel_rfl) (fun _ _ _ h => h) (.inl ⟨by rfl, fun wx _ => by go_simp⟩) hS ?_
      simp only [Act.put]
      refine wpAnyH_take (i := 5) (v := .slice (some ⟨q, o, none⟩) kl kc) rfl (by kernel_rfl) (by kernel_rfl) (by kernel_rfl) (fun _ _ _ h => h) (.inl ⟨by rfl, fun wx hX => by have x0 := hX; go_simp⟩) hS ?_
      simp only [Act.put]
      refine wpAnyH_take (i := 6) (v := .slice (some ⟨pb, po, none⟩) n c) rfl (by kernel_rfl) (by kernel_rfl) (by kernel_rfl) (fun _ _ _ h => h) (.inl ⟨by rfl, fun wx _ => by go_simp⟩) hS ?_
      simp only [Act.put]
      refine wpAnyH_take (i := 7) (v := .int .i64 (i : Int)) rfl (by kernel_rfl) (by kernel_rfl) (by kernel_rfl) (fun _ _ _ h => h) (.inl ⟨by rfl, fun wx _ => by go_simp⟩) hS ?_
      simp only [Act.put]
      refine wpAnyH_take (i := 8) (v := .pointer (some ⟨pb, po + i * 2, none⟩)) rfl (by kernel_rfl) (by kernel_rfl) (by kernel_rfl) (fun _ _ _ h => h) (.inl ⟨by rfl, fun wx _ => by go_simp⟩) hS ?_
      simp only [Act.put]
      refine wpAnyH_take (i := 9) (v := .pointer (some ⟨pb, po + i * 2, none⟩)) rfl (by kernel_rfl) (by kernel_rfl) (by kernel_rfl) (fun _ _ _ h => h) (.inl ⟨by rfl, fun wx _ => by go_simp⟩) hS ?_
      simp only [Act.put]
      refine wpAnyH_take (i := 10) (v := .slice (some ⟨q, o, none⟩) kl kc) rfl (by kernel_rfl) (by kernel_rfl) (by kernel_rfl) (fun _ _ _ h => h) (.inl ⟨by rfl, fun wx hX => by have x0 := hX; go_simp⟩) hS ?_
      simp only [Act.put]
      refine wpAnyH_take (i := 11) (v := .int .i64 (kl : Int)) rfl (by kernel_rfl) (by kernel_rfl) (by kernel_rfl) (fun _ _ _ h => h) (.inl ⟨by rfl, fun wx _ => by go_simp⟩) hS ?_
      simp only [Act.put]
      refine wpAnyH_take (i := 12) (v := .int .i64 ((kl : Int) - 8)) rfl (by kernel_rfl) (by kernel_rfl) (by kernel_rfl) (fun _ _ _ h => h) (.inl ⟨by rfl, fun wx _ => by go_simp⟩) hS ?_
      simp only [Act.put]
      refine wpAnyH_take (i := 13) (v := .slice (some ⟨q, o, none⟩) (kl - 8) kc) rfl (by kernel_rfl) (by kernel_rfl) (by kernel_rfl) (fun _ _ _ h => h) (.inl ⟨by rfl, fun wx _ => by go_simp⟩) hS ?_
      simp only [Act.put]
      clear hS
      refine wpAnyH_ready (rs := [14]) (by kernel_rfl) (by simp) ?_
      refine AllReadyH.cons rfl (fun K hK => ?_) AllReadyH.nil
      refine step_build_ask (a0 := some ⟨q, o, none⟩) (n0 := kl - 8) (c0 := kc) rfl (.tmp 88) rfl (by simp [Act.eval]) ?_
      refine hK.out _ _ (SK.out _ FA.out) (fun _ => ?_)
      clear hK K
      refine wpAnyH_ready (rs := [15]) (by kernel_rfl) (by simp) ?_
      refine AllReadyH.cons rfl (fun K hK => ?_) AllReadyH.nil
      refine step_append_ask (v := .slice a17 (i + 1) c17) (G := wr.drew.heap.size) rfl (.tmp 75) (.tmp 89) rfl w6.heap.size (by simp [Act.eval, Act.put]) OA.out (by simp [Act.eval, Act.put]) NA.out IH.out SZA.out ?_
      intro a5' c5' W5 o5 g5
      have F5' := hid (FIN.out a5' c5' W5 o5 g5)
      refine hK.out _ _ (cell_fr F5'.out.2 Z6.out) (fun hS5 => ?_)
      clear hK K o5 g5
      refine wpAnyH_take (i := 16) (v := .slice a5' (i + 1 + 1) c5') rfl (by kernel_rfl) (by kernel_rfl) (by kernel_rfl) (fun _ _ _ h => h) (.inl ⟨by rfl, fun wx _ => by go_simp⟩) hS5 ?_
      simp only [Act.put]
      refine wpAnyH_done (by kernel_rfl) ?_ _
      clear hS5
      go_wp2
      go_roundw
      case rel => exact ⟨i + 1, by omega, by go_num, F5'.out.1, F5'.out.2⟩
      case measure => simp [intOf]; omega
    · have hin : i = n := by omega
      subst hin
      obtain ⟨w8, h8⟩ : ∃ W, W = wr := ⟨_, rfl⟩
      subst h8
      obtain ⟨g, cap, h17, AT⟩ := hA.all (by rw [askL_len]; omega)
      rw [askL_len] at h17
      subst h17
      have HAT := hid AT
      have F8 := HF
      clear AT hA HA HF
      have T8 := hid (T6.out.fr F8.out)
      have K8 := hid (K6.out.fr F8.out)
      go_wp2_with fail
      go_loopw [19] (fun v19 wr => ∃ j : Nat, j ≤ i + 1 ∧ v19 = .int .i64 (j : Int) ∧ Fr [] w8 wr) (fun v19 _ => i + 1 - (intOf v19).toNat)
      case atStart => exact ⟨0, Nat.zero_le _, rfl, Fr.refl _ _⟩
      case round =>
        obtain ⟨j, hj, rfl, hf2⟩ := hrel
        have HF2 := hid hf2
        clear hf2
        by_cases hjl : j < i + 1
        · obtain ⟨rj, hrj, hru⟩ := ask_some (user := u) (ps := ps) (n := i) (j := j) (by omega)
          obtain ⟨aj, cj0, cj1, rdj, byj, lnj⟩ := HAT.out j rj hrj
          have cj := cell_fr HF2.out cj1
          have RJ := hid ((rdj.fr F8.out).fr HF2.out)
          have GB := hid (get_built wr (T8.out.fr HF2.out) LM.out HR.out HBY.out HRR.out.1 HRR.out.2.1 HRR.out.2.2 byj (seq := seq) RJ.out)
          have VB : Hid (∀ W, Fr [] wr W → _) := hid (fun W f => view_c W ((K8.out.fr HF2.out).fr f) HKI.out (by rw [HN.out]; omega) (RJ.out.fr f) byj lnj seq)
          have MY : Hid (0 < j → ∀ W, Fr [] wr W → Calls Try.prog 16 #[.pointer (some ⟨p, 0, none⟩), .slice aj rj.length cj0] W fun e w' => e = .returned (.bool true) ∧ w' = W) := hid (fun h0 W f => by
            have hlf := fltL_bd (bits := iP.toNat) (rs := usN ps ps.length) HRR.out.2.2 (by have := usN_len ps ps.length; rw [HN.out] at this ⊢; omega)
            have := tmay_c W ((T8.out.fr HF2.out).fr f) (fltL_by _ _) (by have := usN_len ps ps.length; rw [HN.out] at this hlf ⊢; omega) (RJ.out.fr f) byj lnj
            rw [hru h0, may_of _ (by rw [HN.out]; omega)] at this
            rw [hru h0]
            exact this)
          have hjI2 : (j : Int) < (i : Int) + 1 := by omega
          clear cj1 rdj hrj byj
          generalize rj.length = rl at *
          rcases hvw : vw ps rj seq with _ | q
          · rw [hvw] at GB VB
            clear hvw
            go_upto_region 24 with (first
              | (go_at_call 13; refine GB.out.mono ?_; rintro e wA ⟨hg, fA⟩; have hg1 : e = .returned (.tuple #[.slice none 0 0, .int .i64 0, .bool false, .int .i64 0]) := hg; subst hg1; have cA := cell_fr fA cj; have FA := hid fA; clear hg fA)
              | (go_at_call 14; refine (VB.out wA FA.out).mono ?_; rintro e wB ⟨hg, fB⟩; have hg1 : e = .returned (.tuple #[.slice none 0 0, .bool false]) := hg; subst hg1; have cB := cell_fr fB cA; have FB := hid (FA.out.trans fB); have FAB := hid fB; clear hg fB))
            go_upto_region 26 with (first | fail)
            rcases Nat.eq_zero_or_pos j with hj0 | hj0
            · subst hj0
              go_wp2
              go_roundw
              case rel => exact ⟨1, by omega, by go_num, HF2.out.trans FB.out⟩
              case measure => simp [intOf] <;> omega
            · have hjI : (0 : Int) < (j : Int) := by omega
              have MB := hid (MY.out hj0 wB FB.out)
              go_wp2_with (go_at_call 16; refine MB.out.mono ?_; rintro e wD ⟨rfl, h⟩; rw [h]; clear h)
              go_roundw
              case rel => exact ⟨j + 1, by omega, by go_num, HF2.out.trans FB.out⟩
              case measure => simp [intOf]; omega
          · have HQM : Hid (q ∈ ps) := hid (List.mem_of_find?_eq_some hvw)
            have hk2 := (isK_len (HKI.out q HQM.out)).2.2
            have HQB := hid ((HBY.out q HQM.out).2)
            rw [hvw] at GB VB
            clear hvw
            rcases (show tailN q.1 % 256 = 1 ∨ tailN q.1 % 256 = 0 from by omega) with hk1 | hk1
            · go_upto_region 24 with (first
                | (go_at_call 13; refine GB.out.mono ?_; rintro e wA ⟨hg, fA⟩; obtain ⟨vv, hg1, rv⟩ := hg; rw [hk1] at hg1; subst hg1; obtain ⟨va1, vc1, hv1⟩ := rv.form; subst hv1; have RV := hid rv; clear rv; have cA := cell_fr fA cj; have FA := hid fA; clear fA)
                | (go_at_call 14; refine (VB.out wA FA.out).mono ?_; rintro e wB ⟨hg, fB⟩; rcases hg with ⟨_, vv, hg1, rv⟩ | ⟨hn1, _⟩; rotate_left; exact absurd hk1 hn1; subst hg1; obtain ⟨va2, vc2, hv2⟩ := rv.form; subst hv2; have RW := hid rv; clear rv; have cB := cell_fr fB cA; have FB := hid (FA.out.trans fB); have FAB := hid fB; clear fB))
              have BYT : Hid (Calls Try.prog 15 #[.slice va1 (bv q.2).length vc1, .slice va2 (bv q.2).length vc2] wB fun e w' => e = .returned (.bool true) ∧ w' = wB) := hid (by
                have := bytes_c (w := wB) (RV.out.fr FAB.out) RW.out HQB.out HQB.out
                rw [decide_eq_true rfl] at this
                exact this)
              go_upto_region 26 with (first | fail     | (go_at_call 15; refine (BYT.out).mono ?_; rintro e wC ⟨rfl, h⟩; rw [h]; clear h))
              rcases Nat.eq_zero_or_pos j with hj0 | hj0
              · subst hj0
                go_wp2
                go_roundw
                case rel => exact ⟨1, by omega, by go_num, HF2.out.trans FB.out⟩
                case measure => simp [intOf] <;> omega
              · have hjI : (0 : Int) < (j : Int) := by omega
                have MB := hid (MY.out hj0 wB FB.out)
                go_wp2_with (go_at_call 16; refine MB.out.mono ?_; rintro e wD ⟨rfl, h⟩; rw [h]; clear h)
                go_roundw
                case rel => exact ⟨j + 1, by omega, by go_num, HF2.out.trans FB.out⟩
                case measure => simp [intOf]; omega
            · go_upto_region 24 with (first
                | (go_at_call 13; refine GB.out.mono ?_; rintro e wA ⟨hg, fA⟩; obtain ⟨vv, hg1, rv⟩ := hg; rw [hk1] at hg1; subst hg1; obtain ⟨va1, vc1, hv1⟩ := rv.form; subst hv1; clear rv; have cA := cell_fr fA cj; have FA := hid fA; clear fA)
                | (go_at_call 14; refine (VB.out wA FA.out).mono ?_; rintro e wB ⟨hg, fB⟩; rcases hg with ⟨hn1, _⟩ | ⟨_, hg1⟩; exact absurd hn1 (by omega); subst hg1; have cB := cell_fr fB cA; have FB := hid (FA.out.trans fB); have FAB := hid fB; clear fB))
              go_upto_region 26 with (first | fail)
              rcases Nat.eq_zero_or_pos j with hj0 | hj0
              · subst hj0
                go_wp2
                go_roundw
                case rel => exact ⟨1, by omega, by go_num, HF2.out.trans FB.out⟩
                case measure => simp [intOf] <;> omega
              · have hjI : (0 : Int) < (j : Int) := by omega
                have MB := hid (MY.out hj0 wB FB.out)
                go_wp2_with (go_at_call 16; refine MB.out.mono ?_; rintro e wD ⟨rfl, h⟩; rw [h]; clear h)
                go_roundw
                case rel => exact ⟨j + 1, by omega, by go_num, HF2.out.trans FB.out⟩
                case measure => simp [intOf]; omega
        · have hjn : j = i + 1 := by omega
          subst hjn
          rw [show ((i + 1 : Nat) : Int) = (i : Int) + 1 from rfl]
          obtain ⟨w9, h9⟩ : ∃ W, W = wr := ⟨_, rfl⟩
          subst h9
          have F9 := hid (F8.out.trans HF2.out)
          have T9 := hid (T8.out.fr HF2.out)
          have K9 := hid (K8.out.fr HF2.out)
          clear HAT T8 K8 HF2
          go_wp2_with fail
          by_cases h2 : lm0 = 0
          · subst h2
            go_loopw [26, 27] (fun v26 v27 wr => ∃ k : Nat, k ≤ i ∧ v27 = .int .i64 (k : Int) ∧ Wants w9 wr v26 ((ps.take k).filter (inR least most)) ∧ Fr [] w9 wr) (fun _ v27 _ => i - (intOf v27).toNat)
            case atStart => exact ⟨0, Nat.zero_le _, rfl, Wants.nil _ _, Fr.refl _ _⟩
            case round =>
              obtain ⟨k, hk, rfl, hW, hf3⟩ := hrel
              have HF3 := hid hf3
              have HWT := hid hW
              clear hf3
              by_cases hkl : k < i
              · have hkl' : k < ps.length := by rw [HN.out]; exact hkl
                obtain ⟨a', c', e', hc', k1⟩ := K9.out
                simp only [Value.slice.injEq] at e'
                obtain ⟨rfl, hx1, rfl⟩ := e'
                clear hx1
                obtain ⟨pb, po, rfl, m1⟩ := k1 (by omega)
                obtain ⟨ka, kc, va, vc, P⟩ := m1 k _ (ps_at hkl')
                have hki := HKI.out _ (List.mem_of_getElem? (ps_at hkl'))
                have hkl2 := isK_len hki
                have z1 := cell_fr HF3.out P.ck
                have z2 := cell_fr HF3.out P.cv
                have RK := hid P.rk
                have RV := hid P.rv
                have BK := hid (And.intro P.bk (And.intro P.bv' (And.intro P.lk P.lv)))
                have hlk := P.lk
                dsimp only at z1 z2 RK RV BK hki hkl2 hlk
                clear P m1 k1 hW
                obtain ⟨q, o, c0, hp0, hc0⟩ := RK.out.place (by omega)
                simp only [Value.slice.injEq] at hp0
                obtain ⟨rfl, hx0, rfl⟩ := hp0
                clear hx0
                have RF := hid (RK.out.front (q := (kA ps k).length - 8) (by omega))
                have ULN : Hid ((kA ps k).length - 8 = (userL (kA ps k)).length) := hid (by unfold userL; rw [List.length_take]; omega)
                rw [show (kA ps k).take ((kA ps k).length - 8) = userL (kA ps k) from rfl] at RF
                have BF : Hid (By (userL (kA ps k))) := hid (BK.out.1.take _)
                have LFF : Hid ((userL (kA ps k)).length ≤ 140737488355328) := hid (by rw [← ULN.out]; omega)
                have CB1 : Hid (∀ W, Fr [] wr W → _) := hid (fun W f => refbytes_c (((RF.out.fr HF3.out)).fr f) ((((RL.out.fr F6.out).fr F9.out).fr HF3.out).fr f) BF.out BL.out LFF.out (by rw [← HLL.out]; omega))
                have CB2 : Hid (∀ W, Fr [] wr W → _) := hid (fun W f => refbytes_c (((RF.out.fr HF3.out)).fr f) ((((RM.out.fr F6.out).fr F9.out).fr HF3.out).fr f) BF.out BM'.out LFF.out (by rw [← HLM.out]; omega))
                have EI : Hid (inR least most (kA ps k, vA ps k) = (decide (0 ≤ cmpN (userL (kA ps k)) least) && !(decide (0 < 0) && decide (0 < cmpN (userL (kA ps k)) most)))) := hid (by unfold inR beh; rw [← HLM.out])
                obtain ⟨cv1, hcv1⟩ : ∃ cv, cv = cmpN (userL (kA ps k)) least := ⟨_, rfl⟩
                obtain ⟨cv2, hcv2⟩ : ∃ cv, cv = cmpN (userL (kA ps k)) most := ⟨_, rfl⟩
                rw [← hcv1] at CB1 EI
                rw [← hcv2] at CB2 EI
                clear hcv1 hcv2
                obtain ⟨kl, hkl3⟩ : ∃ kl, kl = (kA ps k).length := ⟨_, rfl⟩
                obtain ⟨vl, hvl3⟩ : ∃ vl, vl = (vA ps k).length := ⟨_, rfl⟩
                have HKL := hid hkl3
                have HVL := hid hvl3
                rw [← hkl3] at z1 hkl2 hc0 CB1 CB2
                rw [← hvl3] at z2
                clear hkl3 hvl3 hlk hki RF
                have hk8 : 8 ≤ kl := hkl2.1
                have g1 : IntKind.i64.wrap ((kl : Int) - 8) = (kl : Int) - 8 := by rw [IntKind.wrap_i64]; omega
                have g2 : ((kl : Int) - 8).toNat = kl - 8 := by omega
                have g3 : (0 : Int) ≤ (kl : Int) - 8 := by omega
                have g4 : (kl : Int) - 8 ≤ (kc : Int) := by omega
                have g5 : (k : Int) < (i : Int) := by omega
                have g6 : (8 : Int) ≤ (kl : Int) := by omega
                have g7 : ¬ ((kl : Int) < 8) := by omega
                go_upto_region 32 with fail
                go_quiet (fail)
                have FX := hid ((Fr.refl [] wr).drewN nq)
                have CB1 : Hid (∀ W, Fr [] (wr.drewN nq) W → _) := hid (fun W f => CB1.out W (FX.out.trans f))
                have CB2 : Hid (∀ W, Fr [] (wr.drewN nq) W → _) := hid (fun W f => CB2.out W (FX.out.trans f))
                have x1 := cell_fr FX.out z1
                have x2 := cell_fr FX.out z2
                clear z1 z2 g1 g2 g3 g4 g6 g7
                generalize wr.drewN nq = wx at *
                by_cases h1 : 0 ≤ cv1
                · rw [decide_eq_true h1, Bool.true_and] at EI
                  rw [decide_eq_false (by omega), Bool.false_and, Bool.not_false] at EI
                  obtain ⟨cs, oc, hcs⟩ := HWT.out
                  obtain ⟨a26, c26, h26, _⟩ := ownsRow_slice oc
                  subst h26
                  have OC := hid oc
                  have HCS := hid hcs
                  obtain ⟨al, hal⟩ : ∃ al, al = ((ps.take k).filter (inR least most)).length := ⟨_, rfl⟩
                  have HAL := hid hal
                  have hal1 : al ≤ 60 := by rw [hal]; exact Nat.le_trans (List.length_filter_le _ _) (by rw [List.length_take]; omega)
                  rw [← hal] at OC ⊢
                  clear oc hcs hal
                  go_wp2_with (first
                    | (go_at_call 17; refine (CB1.out _ (Fr.refl _ _)).mono ?_; rintro e wA ⟨rfl, fA⟩; have FA := hid fA; have y1 := cell_fr fA x1; have y2 := cell_fr fA x2; clear fA)
                    | (at_builtin; refine wpList_app_kv rfl _ _ rfl w9.heap.size (Nat.le_trans HF3.out.size (Nat.le_trans FX.out.size (Nat.le_trans FA.out.size (by simp)))) (.slice a26 al c26) al cs (by simp [Act.eval]) (ownsRow_fr OC.out (FX.out.trans (FA.out.alloc _))) wA.heap.size (by simp [Act.eval]) (blk_new _ _) (by omega) ?_; intro v5' W5 o5 g5 _; obtain ⟨a5', c5', h5', _⟩ := ownsRow_slice o5; subst h5'; have O5 := hid o5; have G5 := hid g5; clear o5 g5))
                  go_roundw
                  case rel =>
                    refine ⟨k + 1, by omega, by go_num, ?_, ?_⟩
                    · rw [List.take_add_one, ps_at hkl', Option.toList_some, List.filter_append, List.filter_cons_of_pos EI.out, List.filter_nil]
                      have h1 := O5.out
                      rw [HAL.out] at h1
                      refine Wants.app HCS.out (by have := OC.out.1; rw [HAL.out] at this; exact this) (p := (kA ps k, vA ps k)) (ka := some ⟨q, o, none⟩) (kc := kc) (va := va) (vc := vc) (by have h2 := O5.out; rw [HKL.out, HVL.out] at h2; have h3 := HAL.out; subst h3; exact h2) ?_ ?_ BK.out.1 BK.out.2.1 BK.out.2.2.1 BK.out.2.2.2
                      · exact RK.out
                      · exact RV.out
                    · exact ((HF3.out.trans FX.out).trans (FA.out.alloc _)).grown G5.out (fun j hj => .inr (OC.out.lt j hj).1)
                  case measure => simp [intOf]; omega
                · have h1b : cv1 < 0 := by omega
                  rw [decide_eq_false h1, Bool.false_and] at EI
                  go_wp2_with (go_at_call 17; refine (CB1.out _ (Fr.refl _ _)).mono ?_; rintro e wA ⟨rfl, fA⟩; have FA := hid fA; clear fA)
                  go_roundw
                  case rel =>
                    refine ⟨k + 1, by omega, by go_num, ?_, (HF3.out.trans FX.out).trans FA.out⟩
                    rw [List.take_add_one, ps_at hkl', Option.toList_some, List.filter_append, List.filter_cons_of_neg (by rw [EI.out]; simp), List.filter_nil, List.append_nil]
                    exact (HWT.out.fr FX.out).fr FA.out
                  case measure => simp [intOf]; omega
              · have hki : k = i := by omega
                subst hki
                have hall : (ps.take k).filter (inR least most) = ps.filter (inR least most) := by rw [List.take_of_length_le (by rw [HN.out]; exact Nat.le_refl _)]
                rw [hall] at HWT hW
                obtain ⟨cs, oc, hcs⟩ := hW
                obtain ⟨a26, c26, h26, _⟩ := ownsRow_slice oc
                subst h26
                have RWT := hid (HWT.out.rd HF3.out)
                have RB := hid (range_built wr (T9.out.fr HF3.out) LM.out HR.out HBY.out HRR.out.1 HRR.out.2.1 (((RL.out.fr F6.out).fr F9.out).fr HF3.out) (((RM.out.fr F6.out).fr F9.out).fr HF3.out) BL.out BM'.out)
                clear oc hcs hall HWT T9 K9
                have hfl : (ps.filter (inR least most)).length ≤ 1000000 := Nat.le_trans (List.length_filter_le _ _) (by rw [HN.out]; omega)
                obtain ⟨fl, hfl2⟩ : ∃ fl, fl = ps.filter (inR least most) := ⟨_, rfl⟩
                rw [← hfl2] at RWT RB hfl ⊢
                clear hfl2
                go_upto_region 36 with (go_at_call 18; refine RB.out.mono ?_; rintro e wA ⟨vA1, rfl, coA, fA⟩; obtain ⟨aA, cA1, hA1, _⟩ := coA.rd; have RA := hid coA.rd; subst hA1; have FA := hid fA; clear fA coA)
                have KV := hid (kvs_c RA.out (RWT.out.fr FA.out) hfl)
                go_wp2_with (go_at_call 12; refine KV.out.mono ?_; rintro e wB ⟨rfl, fB⟩; have FB := hid (FA.out.trans fB); clear fB)
                go_ret
                exact ⟨rfl, ((F6.out.trans F9.out).trans HF3.out).trans FB.out⟩

          · have h2b : ((lm0 : Int) == 0) = false := by rw [beq_eq_false_iff_ne]; omega
            go_loopw [26, 27] (fun v26 v27 wr => ∃ k : Nat, k ≤ i ∧ v27 = .int .i64 (k : Int) ∧ Wants w9 wr v26 ((ps.take k).filter (inR least most)) ∧ Fr [] w9 wr) (fun _ v27 _ => i - (intOf v27).toNat)
            case atStart => exact ⟨0, Nat.zero_le _, rfl, Wants.nil _ _, Fr.refl _ _⟩
            case round =>
              obtain ⟨k, hk, rfl, hW, hf3⟩ := hrel
              have HF3 := hid hf3
              have HWT := hid hW
              clear hf3
              by_cases hkl : k < i
              · have hkl' : k < ps.length := by rw [HN.out]; exact hkl
                obtain ⟨a', c', e', hc', k1⟩ := K9.out
                simp only [Value.slice.injEq] at e'
                obtain ⟨rfl, hx1, rfl⟩ := e'
                clear hx1
                obtain ⟨pb, po, rfl, m1⟩ := k1 (by omega)
                obtain ⟨ka, kc, va, vc, P⟩ := m1 k _ (ps_at hkl')
                have hki := HKI.out _ (List.mem_of_getElem? (ps_at hkl'))
                have hkl2 := isK_len hki
                have z1 := cell_fr HF3.out P.ck
                have z2 := cell_fr HF3.out P.cv
                have RK := hid P.rk
                have RV := hid P.rv
                have BK := hid (And.intro P.bk (And.intro P.bv' (And.intro P.lk P.lv)))
                have hlk := P.lk
                dsimp only at z1 z2 RK RV BK hki hkl2 hlk
                clear P m1 k1 hW
                obtain ⟨q, o, c0, hp0, hc0⟩ := RK.out.place (by omega)
                simp only [Value.slice.injEq] at hp0
                obtain ⟨rfl, hx0, rfl⟩ := hp0
                clear hx0
                have RF := hid (RK.out.front (q := (kA ps k).length - 8) (by omega))
                have ULN : Hid ((kA ps k).length - 8 = (userL (kA ps k)).length) := hid (by unfold userL; rw [List.length_take]; omega)
                rw [show (kA ps k).take ((kA ps k).length - 8) = userL (kA ps k) from rfl] at RF
                have BF : Hid (By (userL (kA ps k))) := hid (BK.out.1.take _)
                have LFF : Hid ((userL (kA ps k)).length ≤ 140737488355328) := hid (by rw [← ULN.out]; omega)
                have CB1 : Hid (∀ W, Fr [] wr W → _) := hid (fun W f => refbytes_c (((RF.out.fr HF3.out)).fr f) ((((RL.out.fr F6.out).fr F9.out).fr HF3.out).fr f) BF.out BL.out LFF.out (by rw [← HLL.out]; omega))
                have CB2 : Hid (∀ W, Fr [] wr W → _) := hid (fun W f => refbytes_c (((RF.out.fr HF3.out)).fr f) ((((RM.out.fr F6.out).fr F9.out).fr HF3.out).fr f) BF.out BM'.out LFF.out (by rw [← HLM.out]; omega))
                have EI : Hid (inR least most (kA ps k, vA ps k) = (decide (0 ≤ cmpN (userL (kA ps k)) least) && !(decide (0 < lm0) && decide (0 < cmpN (userL (kA ps k)) most)))) := hid (by rw [HLM.out]; rfl)
                obtain ⟨cv1, hcv1⟩ : ∃ cv, cv = cmpN (userL (kA ps k)) least := ⟨_, rfl⟩
                obtain ⟨cv2, hcv2⟩ : ∃ cv, cv = cmpN (userL (kA ps k)) most := ⟨_, rfl⟩
                rw [← hcv1] at CB1 EI
                rw [← hcv2] at CB2 EI
                clear hcv1 hcv2
                obtain ⟨kl, hkl3⟩ : ∃ kl, kl = (kA ps k).length := ⟨_, rfl⟩
                obtain ⟨vl, hvl3⟩ : ∃ vl, vl = (vA ps k).length := ⟨_, rfl⟩
                have HKL := hid hkl3
                have HVL := hid hvl3
                rw [← hkl3] at z1 hkl2 hc0 CB1 CB2
                rw [← hvl3] at z2
                clear hkl3 hvl3 hlk hki RF
                have hk8 : 8 ≤ kl := hkl2.1
                have g1 : IntKind.i64.wrap ((kl : Int) - 8) = (kl : Int) - 8 := by rw [IntKind.wrap_i64]; omega
                have g2 : ((kl : Int) - 8).toNat = kl - 8 := by omega
                have g3 : (0 : Int) ≤ (kl : Int) - 8 := by omega
                have g4 : (kl : Int) - 8 ≤ (kc : Int) := by omega
                have g5 : (k : Int) < (i : Int) := by omega
                have g6 : (8 : Int) ≤ (kl : Int) := by omega
                have g7 : ¬ ((kl : Int) < 8) := by omega
                go_upto_region 32 with fail
                go_quiet (fail)
                have FX := hid ((Fr.refl [] wr).drewN nq)
                have CB1 : Hid (∀ W, Fr [] (wr.drewN nq) W → _) := hid (fun W f => CB1.out W (FX.out.trans f))
                have CB2 : Hid (∀ W, Fr [] (wr.drewN nq) W → _) := hid (fun W f => CB2.out W (FX.out.trans f))
                have x1 := cell_fr FX.out z1
                have x2 := cell_fr FX.out z2
                clear z1 z2 g1 g2 g3 g4 g6 g7
                generalize wr.drewN nq = wx at *
                by_cases h1 : 0 ≤ cv1
                · rw [decide_eq_true h1, Bool.true_and] at EI
                  rw [decide_eq_true (by omega), Bool.true_and] at EI
                  by_cases h3 : cv2 ≤ 0
                  · rw [decide_eq_false (by omega), Bool.not_false] at EI
                    obtain ⟨cs, oc, hcs⟩ := HWT.out
                    obtain ⟨a26, c26, h26, _⟩ := ownsRow_slice oc
                    subst h26
                    have OC := hid oc
                    have HCS := hid hcs
                    obtain ⟨al, hal⟩ : ∃ al, al = ((ps.take k).filter (inR least most)).length := ⟨_, rfl⟩
                    have HAL := hid hal
                    have hal1 : al ≤ 60 := by rw [hal]; exact Nat.le_trans (List.length_filter_le _ _) (by rw [List.length_take]; omega)
                    rw [← hal] at OC ⊢
                    clear oc hcs hal
                    go_upto_region 34 with (first
                      | (go_at_call 17; have zz := FA.out; clear zz; refine (CB2.out _ FA.out).mono ?_; rintro e wB ⟨rfl, fB⟩; have FB := hid (FA.out.trans fB); clear fB)
                      | (go_at_call 17; refine (CB1.out _ (Fr.refl _ _)).mono ?_; rintro e wA ⟨rfl, fA⟩; have FA := hid fA; clear fA))
                    have u1 := cell_fr FB.out x1
                    have u2 := cell_fr FB.out x2
                    clear CB1 CB2 x1 x2
                    go_wp2_with (at_builtin; refine wpList_app_kv rfl _ _ rfl w9.heap.size (Nat.le_trans HF3.out.size (Nat.le_trans FX.out.size (Nat.le_trans FB.out.size (by simp)))) (.slice a26 al c26) al cs (by simp [Act.eval]) (ownsRow_fr OC.out (FX.out.trans (FB.out.alloc _))) wB.heap.size (by simp [Act.eval]) (blk_new _ _) (by omega) ?_; intro v5' W5 o5 g5 _; obtain ⟨a5', c5', h5', _⟩ := ownsRow_slice o5; subst h5'; have O5 := hid o5; have G5 := hid g5; clear o5 g5)
                    go_roundw
                    case rel =>
                      refine ⟨k + 1, by omega, by go_num, ?_, ?_⟩
                      · rw [List.take_add_one, ps_at hkl', Option.toList_some, List.filter_append, List.filter_cons_of_pos EI.out, List.filter_nil]
                        have h1 := O5.out
                        rw [HAL.out] at h1
                        refine Wants.app HCS.out (by have := OC.out.1; rw [HAL.out] at this; exact this) (p := (kA ps k, vA ps k)) (ka := some ⟨q, o, none⟩) (kc := kc) (va := va) (vc := vc) (by have h2 := O5.out; rw [HKL.out, HVL.out] at h2; have h3 := HAL.out; subst h3; exact h2) ?_ ?_ BK.out.1 BK.out.2.1 BK.out.2.2.1 BK.out.2.2.2
                        · exact RK.out
                        · exact RV.out
                      · exact ((HF3.out.trans FX.out).trans (FB.out.alloc _)).grown G5.out (fun j hj => .inr (OC.out.lt j hj).1)
                    case measure => simp [intOf]; omega
                  · have h3b : 0 < cv2 := by omega
                    rw [decide_eq_true h3b, Bool.not_true] at EI
                    go_wp2_with (first
                      | (go_at_call 17; have zz := FA.out; clear zz; refine (CB2.out _ FA.out).mono ?_; rintro e wB ⟨rfl, fB⟩; have FB := hid (FA.out.trans fB); clear fB)
                      | (go_at_call 17; refine (CB1.out _ (Fr.refl _ _)).mono ?_; rintro e wA ⟨rfl, fA⟩; have FA := hid fA; clear fA))
                    go_roundw
                    case rel =>
                      refine ⟨k + 1, by omega, by go_num, ?_, (HF3.out.trans FX.out).trans FB.out⟩
                      rw [List.take_add_one, ps_at hkl', Option.toList_some, List.filter_append, List.filter_cons_of_neg (by rw [EI.out]; simp), List.filter_nil, List.append_nil]
                      exact (HWT.out.fr FX.out).fr FB.out
                    case measure => simp [intOf]; omega
                · have h1b : cv1 < 0 := by omega
                  rw [decide_eq_false h1, Bool.false_and] at EI
                  go_wp2_with (go_at_call 17; refine (CB1.out _ (Fr.refl _ _)).mono ?_; rintro e wA ⟨rfl, fA⟩; have FA := hid fA; clear fA)
                  go_roundw
                  case rel =>
                    refine ⟨k + 1, by omega, by go_num, ?_, (HF3.out.trans FX.out).trans FA.out⟩
                    rw [List.take_add_one, ps_at hkl', Option.toList_some, List.filter_append, List.filter_cons_of_neg (by rw [EI.out]; simp), List.filter_nil, List.append_nil]
                    exact (HWT.out.fr FX.out).fr FA.out
                  case measure => simp [intOf]; omega
              · have hki : k = i := by omega
                subst hki
                have hall : (ps.take k).filter (inR least most) = ps.filter (inR least most) := by rw [List.take_of_length_le (by rw [HN.out]; exact Nat.le_refl _)]
                rw [hall] at HWT hW
                obtain ⟨cs, oc, hcs⟩ := hW
                obtain ⟨a26, c26, h26, _⟩ := ownsRow_slice oc
                subst h26
                have RWT := hid (HWT.out.rd HF3.out)
                have RB := hid (range_built wr (T9.out.fr HF3.out) LM.out HR.out HBY.out HRR.out.1 HRR.out.2.1 (((RL.out.fr F6.out).fr F9.out).fr HF3.out) (((RM.out.fr F6.out).fr F9.out).fr HF3.out) BL.out BM'.out)
                clear oc hcs hall HWT T9 K9
                have hfl : (ps.filter (inR least most)).length ≤ 1000000 := Nat.le_trans (List.length_filter_le _ _) (by rw [HN.out]; omega)
                obtain ⟨fl, hfl2⟩ : ∃ fl, fl = ps.filter (inR least most) := ⟨_, rfl⟩
                rw [← hfl2] at RWT RB hfl ⊢
                clear hfl2
                go_upto_region 36 with (go_at_call 18; refine RB.out.mono ?_; rintro e wA ⟨vA1, rfl, coA, fA⟩; obtain ⟨aA, cA1, hA1, _⟩ := coA.rd; have RA := hid coA.rd; subst hA1; have FA := hid fA; clear fA coA)
                have KV := hid (kvs_c RA.out (RWT.out.fr FA.out) hfl)
                go_wp2_with (go_at_call 12; refine KV.out.mono ?_; rintro e wB ⟨rfl, fB⟩; have FB := hid (FA.out.trans fB); clear fB)
                go_ret
                exact ⟨rfl, ((F6.out.trans F9.out).trans HF3.out).trans FB.out⟩
end Go.Proofs.Ytobdegmlijnogaa
