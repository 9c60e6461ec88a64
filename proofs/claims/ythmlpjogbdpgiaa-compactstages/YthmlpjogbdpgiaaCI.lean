/-
  rows.next: the first entry of all that are left.
-/
import Derived.Test.YthmlpjogbdpgiaaCH
import Derived.Test.YthmlpjogbdpgiaaJ09
namespace Go.Proofs.Ythmlpjogbdpgiaa
open Go.ChangeShapes Go.WideShapes Go.ChangeAt Go.RowKit

theorem ret_ctN {fn : Func} {p u : Tmp} {ty : TypeId} (h : fn.results = #[.cell p ty, .tmp u]) {tmps : Array Value} {w : World} {g : Nat} {cs : Array Value} (hp : tmps.getD p undef = .pointer (some ⟨g, 0, none⟩)) (hg : (loadVar ty ⟨g, 0, none⟩).run Try.prog w = .ok (.agg cs) w) :
    (results fn tmps).run Try.prog w = .ok (.tuple #[.agg cs, tmps.getD u undef]) w := by
  have hp' : tmps[p]?.getD undef = .pointer (some ⟨g, 0, none⟩) := by simpa using hp
  simp [results, h, hp', asAddr, hg]
theorem load_kv {w : World} {g : Nat} {a b : Value} (hg : w.heap[g]? = some (.cells #[a, b] 50 (0, 0))) : (loadVar 50 ⟨g, 0, none⟩).run Try.prog w = .ok (.agg #[a, b]) w :=
  run_loadVar_row w g _ 50 #[a, b] (0, 0) _ hg Try.underlying50 rfl (by kernel_rfl)
theorem RdK.tail {w : World} {b off ec : Nat} {x : List Nat × List Nat} {ps : Ps} (h : RdK w (.slice (some ⟨b, off, none⟩) (x :: ps).length ec) (x :: ps)) : RdK w (.slice (some ⟨b, off + 2, none⟩) ps.length (ec - 1)) ps := by
  obtain ⟨a, c, h1, h2, h3⟩ := h
  simp only [Value.slice.injEq, true_and] at h1
  obtain ⟨rfl, rfl⟩ := h1
  simp only [List.length_cons] at h2
  obtain ⟨b', off', h4, h5⟩ := h3 (by simp)
  simp only [Option.some.injEq, Addr.mk.injEq, and_true] at h4
  obtain ⟨rfl, rfl⟩ := h4
  refine ⟨_, _, rfl, by omega, fun _ => ⟨b, off + 2, rfl, fun j p hj => ?_⟩⟩
  obtain ⟨ka, kc, va, vc, h6⟩ := h5 (j + 1) p (by simpa using hj)
  exact ⟨ka, kc, va, vc, by rw [show off + 2 + j * 2 = off + (j + 1) * 2 from by omega]; exact h6⟩
theorem rises_tail {x : List Nat × List Nat} {ps : Ps} (h : Rises (x :: ps)) : Rises ps := h.sub (List.sublist_cons_self x ps)
/-- The least of all. -/
theorem flat_min {hs : List Ps} {x : List Nat × List Nat} {r : Ps} (ok : OkR hs) (hb : HeapB (hk hs) hs.length) (h0 : hs[0]? = some (x :: r)) : ∀ y ∈ hs.flatten, ordK x.1 y.1 ≤ 0 := fun y hy => by
  obtain ⟨p, hp, hyp⟩ := List.mem_flatten.1 hy
  obtain ⟨k, hk'⟩ := List.getElem?_of_mem hp
  have hkl := (List.getElem?_eq_some_iff.1 hk').1
  have h1 := heap_min hb k k (Nat.le_refl _) hkl
  rw [hk_at h0, hk_at hk', show kA (x :: r) 0 = x.1 from rfl] at h1
  obtain ⟨j, hj⟩ := List.getElem?_of_mem hyp
  have hjl := (List.getElem?_eq_some_iff.1 hj).1
  have hyj := (kA_at hj).1
  by_cases h2 : j = 0
  · subst h2; rw [← hyj]; exact h1
  · have h3 := rises_ij (ok p hp).2 (show 0 < j by omega) hjl
    rw [hyj] at h3
    exact ordK_trans _ _ _ h1 (by omega)
theorem flat_one {hs hs' : List Ps} {x : List Nat × List Nat} (h : ([x] :: hs').Perm hs) : (x :: hs'.flatten).Perm hs.flatten := by
  have := h.flatten
  simpa using this
theorem flat_more {hs hs' : List Ps} {x : List Nat × List Nat} {r : Ps} (h0 : hs[0]? = some (x :: r)) (h : hs'.Perm (hs.set 0 r)) : (x :: hs'.flatten).Perm hs.flatten := by
  rcases hs with _ | ⟨t, tl⟩
  · cases h0
  · simp only [List.getElem?_cons_zero, Option.some.injEq] at h0
    subst h0
    have := h.flatten
    rw [List.set_cons_zero] at this
    simp only [List.flatten_cons, List.cons_append] at this ⊢
    exact List.Perm.cons x this
/-- What next tells where an entry is left. -/
structure NX (w0 w w' : World) (P g c : Nat) (hs : List Ps) (e : Ending) (x : List Nat × List Nat) (ka : Option Addr) (kc : Nat) (va : Option Addr) (vc : Nat) (hs' : List Ps) (vs' : List Value) : Prop where
  re : e = .returned (.tuple #[.agg #[.slice ka x.1.length kc, .slice va x.2.length vc], .bool true])
  rk : Rd w0 (.slice ka x.1.length kc) (bv x.1)
  rv : Rd w0 (.slice va x.2.length vc) (bv x.2)
  bk : By x.1
  bv' : By x.2
  lk : x.1.length ≤ 140737488355328
  lv : x.2.length ≤ 140737488355328
  ik : isK x.1 = true
  rw : RW w0 w' P (some ⟨g, 0, none⟩) c vs' hs'
  ok : OkR hs'
  hb : HeapB (hk hs') hs'.length
  pm : (x :: hs'.flatten).Perm hs.flatten
  mn : ∀ y ∈ hs.flatten, ordK x.1 y.1 ≤ 0
  fr : Fr [P, g] w w'
  ln : hs'.length ≤ hs.length
theorem RW.setO {w0 W : World} {P : Nat} {a : Option Addr} {c : Nat} {vs : List Value} {hs : List Ps} (h : RW w0 W P a c vs hs) {q j : Nat} {v : Value} (hq : w0.heap.size ≤ q) (hP : q ≠ P) (ho : ∀ k, (Value.slice a hs.length c).ownBlock = some k → k ≠ q) : RW w0 (W.setCell ⟨q, j, none⟩ v) P a c vs hs :=
  ⟨by rw [blk_setne _ _ _ (fun e => hP e.symm)]; exact h.hp, ownsRow_of_block h.own fun k hk => blk_setne _ _ _ (ho k hk), h.el, h.bp, h.fr.set _ _ (.inr hq)⟩
theorem RW.set0 {w0 W : World} {P g : Nat} {c : Nat} {vs : List Value} {hs : List Ps} (h : RW w0 W P (some ⟨g, 0, none⟩) c vs hs) (h0 : 0 < hs.length) {v : Value} {r : Ps} (hr : RdK w0 v r) : RW w0 (W.setCell ⟨g, 0, none⟩ v) P (some ⟨g, 0, none⟩) c (vs.set 0 v) (hs.set 0 r) ∧ Fr [g] W (W.setCell ⟨g, 0, none⟩ v) := by
  obtain ⟨g', cur, he, hbg, hg, hnc⟩ := h.blk h0
  simp only [Option.some.injEq, Addr.mk.injEq, and_true] at he
  obtain rfl := he
  have S1 := h.own.stored 0 v
  have hPg : P ≠ g := fun e => by
    have h1 := h.hp
    rw [e, hg] at h1
    simp at h1
  have F1 : Fr [g] W (W.setCell ⟨g, 0, none⟩ v) := (Fr.refl [g] W).set _ _ (.inl (by simp))
  refine ⟨⟨?_, ?_, ?_, h.bp, h.fr.wide F1 (by simp; exact hbg)⟩, F1⟩
  · rw [List.length_set]; exact F1.at h.hp (by simpa using hPg)
  · rw [List.length_set]; exact S1.1
  · intro j q hj
    have hvl : vs.length = hs.length := by have := h.own.1; omega
    rw [List.getElem?_set] at hj ⊢
    by_cases e : 0 = j
    · subst e
      rw [if_pos rfl, if_pos h0] at hj
      cases hj
      exact ⟨v, by rw [if_pos rfl, if_pos (by omega)], hr⟩
    · rw [if_neg e] at hj ⊢
      exact h.el j q hj
theorem two_set {W : World} {q : Nat} {T : TypeId} {x y u v : Value} (h : W.heap[q]? = some (.cells #[x, y] T (0, 0))) : ((W.setCell ⟨q, 0, none⟩ u).setCell ⟨q, 1, none⟩ v).heap[q]? = some (.cells #[u, v] T (0, 0)) := by
  rw [blk_set (blk_set h _ _) _ _]; rfl
theorem OkR.set {hs : List Ps} (ok : OkR hs) {r : Ps} (h1 : r ≠ []) (h2 : Rises r) : OkR (hs.set 0 r) := fun p hp => by
  rcases List.mem_or_eq_of_mem_set hp with h | h
  · exact ok p h
  · rw [h]; exact ⟨h1, h2⟩
set_option maxRecDepth 20000 in
set_option maxHeartbeats 3200000 in
theorem next_no {w0 W : World} {P : Nat} {a : Option Addr} {c : Nat} {vs : List Value} (h : RW w0 W P a c vs []) :
    Calls Try.prog 28 #[.pointer (some ⟨P, 0, none⟩)] W fun e w' => e = .returned (.tuple #[.agg #[.slice none 0 0, .slice none 0 0], .bool false]) ∧ Fr [] W w' := by
  obtain ⟨W1, hW1⟩ : ∃ W1, W1 = W.alloc (.cells #[.slice none 0 0, .slice none 0 0] 50) := ⟨_, rfl⟩
  have F1 : Hid (Fr [] W W1) := hid (by rw [hW1]; exact (Fr.refl _ _).alloc _)
  have B1 : W1.heap[W.heap.size]? = some (.cells #[.slice none 0 0, .slice none 0 0] 50 (0, 0)) := by rw [hW1]; exact blk_new _ _
  have c0 := (h.quiet F1.out).cell
  simp only [List.length_nil] at c0
  have LC := hid (rlen_c W1 a 0 c)
  have z0 := blk_frozen B1 0
  have z1 := blk_frozen B1 1
  have y0 : W1.cell? ⟨W.heap.size, 0, none⟩ = some (.slice none 0 0) := by rw [blk_cell B1]; rfl
  have y1 : W1.cell? ⟨W.heap.size, 1, none⟩ = some (.slice none 0 0) := by rw [blk_cell B1]; rfl
  have B2 : Hid (((W1.setCell ⟨W.heap.size, 0, none⟩ (.slice none 0 0)).setCell ⟨W.heap.size, 1, none⟩ (.slice none 0 0)).heap[W.heap.size]? = some (.cells #[.slice none 0 0, .slice none 0 0] 50 (0, 0))) := hid (by rw [blk_set (blk_set B1 _ _) _ _]; rfl)
  have F2 : Hid (Fr [] W ((W1.setCell ⟨W.heap.size, 0, none⟩ (.slice none 0 0)).setCell ⟨W.heap.size, 1, none⟩ (.slice none 0 0))) := hid ((F1.out.set _ _ (.inr (Nat.le_refl _))).set _ _ (.inr (Nat.le_refl _)))
  clear h B1
  go_enter Try.func28, Try.ntmps28
  go_upto_region 1 with fail
  rw [← hW1]
  clear hW1
  go_wp2_with (go_at_call 43; refine LC.out.mono ?_; rintro e w' ⟨rfl, hw'⟩; have hw'' := hw'.symm; clear hw'; subst hw'')
  refine bodyPost_ret (ret_ctN rfl rfl (load_kv B2.out)) rfl ?_
  exact ⟨rfl, F2.out⟩
set_option maxRecDepth 20000 in
set_option maxHeartbeats 6400000 in
theorem next_yes {w0 W : World} {P g : Nat} {c : Nat} {vs : List Value} {hs : List Ps} (h : RW w0 W P (some ⟨g, 0, none⟩) c vs hs) (ok : OkR hs) (hb : HeapB (hk hs) hs.length) (hpos : 0 < hs.length) (hl : hs.length ≤ 100000) :
    Calls Try.prog 28 #[.pointer (some ⟨P, 0, none⟩)] W fun e w' => ∃ x ka kc va vc hs' vs', NX w0 W w' P g c hs e x ka kc va vc hs' vs' := by
  obtain ⟨W1, hW1⟩ : ∃ W1, W1 = W.alloc (.cells #[.slice none 0 0, .slice none 0 0] 50) := ⟨_, rfl⟩
  have F1 : Hid (Fr [] W W1) := hid (by rw [hW1]; exact (Fr.refl _ _).alloc _)
  have B1 : Hid (W1.heap[W.heap.size]? = some (.cells #[.slice none 0 0, .slice none 0 0] 50 (0, 0))) := hid (by rw [hW1]; exact blk_new _ _)
  have R1 := hid (h.quiet F1.out)
  obtain ⟨p, v, b, off, ec, ka0, kc0, hp, hv, hke, hrp, E1⟩ := R1.out.one ok hpos
  have hpok := ok p (List.mem_of_getElem? hp)
  obtain ⟨x, r, rfl⟩ : ∃ x r, p = x :: r := by
    rcases p with _ | ⟨x, r⟩
    · exact absurd rfl hpok.1
    · exact ⟨x, r, rfl⟩
  obtain rfl := E1.ev
  have hrp' := hrp
  obtain ⟨a9, c9, e9, hcap, k9⟩ := hrp'
  simp only [Value.slice.injEq, true_and] at e9
  obtain ⟨rfl, rfl⟩ := e9
  obtain ⟨b', off', h4, h5⟩ := k9 (by simp)
  simp only [Option.some.injEq, Addr.mk.injEq, and_true] at h4
  obtain ⟨rfl, rfl⟩ := h4
  obtain ⟨ka, kc, va, vc, PA⟩ := h5 0 x rfl
  rw [Nat.zero_mul, Nat.add_zero] at PA
  clear h5 k9
  have MN := hid (flat_min ok hb hp)
  have IK : Hid (isK x.1 = true) := hid E1.ik
  have PAH := hid PA
  have HP0 := hid hp
  have HRP := hid hrp
  have c0 := R1.out.cell
  have c1 := E1.cl
  obtain ⟨g', cur, he, hbg, hg, hnc⟩ := R1.out.blk hpos
  simp only [Option.some.injEq, Addr.mk.injEq, and_true] at he
  obtain rfl := he
  have HBP := hid h.bp
  have HBG := hid hbg
  have HW0 := hid (h.fr.size)
  have hPs : Hid (P < W.heap.size ∧ g < W.heap.size) := hid ⟨blk_lt h.hp, (h.own.lt g rfl).2⟩
  have OK := hid ok
  have HB := hid hb
  have LC := hid (rlen_c W1 (some ⟨g, 0, none⟩) hs.length c)
  have hlen0 : ((hs.length : Int) == 0) = false := by rw [beq_eq_false_iff_ne]; omega
  have hpos' : (0 : Int) < (hs.length : Int) := by omega
  -- the entry is stored into the result's block, and handed back
  have FIN : Hid (∀ (W3 : World), Fr [P, g] W1 W3 → (W3.cell? ⟨b, off, none⟩ = some (.slice ka x.1.length kc) ∧ W3.cell? ⟨b, off + 1, none⟩ = some (.slice va x.2.length vc)) ∧ W3.heap[W.heap.size]? = some (.cells #[.slice none 0 0, .slice none 0 0] 50 (0, 0))) := hid (fun W3 f => by
    have f0 : Fr [] w0 W3 := R1.out.fr.wide f (by have := HBP.out; have := HBG.out; simp; omega)
    refine ⟨⟨cell_fr f0 PAH.out.ck, cell_fr f0 PAH.out.cv⟩, f.at B1.out (by have := hPs.out; simp; omega)⟩)
  have END : Hid (∀ (W3 : World) (vs3 : List Value) (hs3 : List Ps), Fr [P, g] W1 W3 → RW w0 W3 P (some ⟨g, 0, none⟩) c vs3 hs3 → RW w0 ((W3.setCell ⟨W.heap.size, 0, none⟩ (.slice ka x.1.length kc)).setCell ⟨W.heap.size, 1, none⟩ (.slice va x.2.length vc)) P (some ⟨g, 0, none⟩) c vs3 hs3 ∧ Fr [P, g] W ((W3.setCell ⟨W.heap.size, 0, none⟩ (.slice ka x.1.length kc)).setCell ⟨W.heap.size, 1, none⟩ (.slice va x.2.length vc))) := hid (fun W3 vs3 hs3 f r => by
    have k1 := hPs.out
    have k2 := HW0.out
    exact ⟨(r.setO k2 (by omega) (fun k hk => by simp [Value.ownBlock] at hk; omega)).setO k2 (by omega) (fun k hk => by simp [Value.ownBlock] at hk; omega), (((F1.out.mono (by simp)).trans f).set _ _ (.inr (Nat.le_refl _))).set _ _ (.inr (Nat.le_refl _))⟩)
  clear h ok hb hp hv hke hrp E1 hpok PA hbg hg hnc
  go_enter Try.func28, Try.ntmps28
  go_upto_region 1 with fail
  rw [← hW1]
  clear hW1
  by_cases hr : r = []
  · subst hr
    have PC := hid (hpop_c R1.out OK.out HB.out hpos hl)
    simp only [List.length_cons, List.length_nil] at c1 hcap
    generalize hs.length = n at *
    go_upto_region 6 with (first
      | (go_at_call 44; refine PC.out.mono ?_; rintro e w3 ⟨u3, vs3, hs3, rfl, r3, pm3, hb3, f3⟩; have R3 := hid r3; have PM3 := hid (pm3 _ HP0.out); have HB3 := hid hb3; have F3 := hid f3; clear r3 pm3 hb3 f3)
      | (go_at_call 43; refine LC.out.mono ?_; rintro e w' ⟨rfl, hw'⟩; have hw'' := hw'.symm; clear hw'; subst hw''))
    obtain ⟨W3, hW3⟩ : ∃ W, W = w3 := ⟨_, rfl⟩
    rw [← hW3] at R3 F3 ⊢
    clear hW3
    have OKP : OkR hs3 := fun q hq => OK.out q (PM3.out.subset (List.mem_cons_of_mem _ hq))
    have OK3 := hid OKP
    have LN3 : Hid (hs3.length ≤ hs.length) := hid (by have := PM3.out.length_eq; simp at this; omega)
    have PM4 := hid (flat_one PM3.out)
    have F13 := F3
    clear PM3 OKP
    have PM3 := PM4
    have f13 := F13.out
    obtain ⟨⟨y0, y1⟩, b3⟩ := FIN.out W3 f13
    have B3 := hid b3
    have z0 := blk_frozen b3 0
    have z1 := blk_frozen b3 1
    have q0 : W3.cell? ⟨W.heap.size, 0, none⟩ = some (.slice none 0 0) := by rw [blk_cell b3]; rfl
    have q1 : W3.cell? ⟨W.heap.size, 1, none⟩ = some (.slice none 0 0) := by rw [blk_cell b3]; rfl
    obtain ⟨rwE, frE⟩ := END.out W3 _ _ f13 R3.out
    have RE := hid rwE
    have FE := hid frE
    clear b3 f13 rwE frE
    obtain ⟨l1, hl1⟩ : ∃ l, l = x.1.length := ⟨_, rfl⟩
    obtain ⟨l2, hl2⟩ : ∃ l, l = x.2.length := ⟨_, rfl⟩
    rw [← hl1] at y0 RE FE
    rw [← hl2] at y1 RE FE
    have HL1 := hid hl1
    have HL2 := hid hl2
    clear hl1 hl2
    go_wp2
    refine bodyPost_ret (ret_ctN rfl rfl (load_kv (two_set B3.out))) rfl ?_
    exact ⟨x, ka, kc, va, vc, hs3, vs3, ⟨by rw [← HL1.out, ← HL2.out]; rfl, PAH.out.rk, PAH.out.rv, PAH.out.bk, PAH.out.bv', PAH.out.lk, PAH.out.lv, IK.out, RE.out, OK3.out, HB3.out, PM3.out, MN.out, FE.out, LN3.out⟩⟩
  · obtain ⟨m, hm⟩ : ∃ m, r.length = m + 1 := ⟨r.length - 1, by have := List.length_pos_iff.2 hr; omega⟩
    have hxl : (x :: r).length = m + 2 := by simp; omega
    have RT := HRP.out.tail
    rw [hxl] at c1 hcap
    have hec : ¬ ec = 1 := by omega
    have hne2 : (((m : Int) + 2) == 1) = false := by rw [beq_eq_false_iff_ne]; omega
    have hri : Rises r := rises_tail (OK.out _ (List.mem_of_getElem? HP0.out)).2
    have S0 := R1.out.set0 hpos RT
    rw [hm] at S0
    have LSL : (hs.set 0 r).length = hs.length := List.length_set
    have hd : DnI (hk (hs.set 0 r)) (hs.set 0 r).length 0 := by
      rw [LSL]
      exact heap_dn0 HB.out (Nat.le_refl _) (fun k h0 _ => by unfold hk; rw [List.getElem?_set_ne (by omega)])
    have OKS := OK.out.set hr hri
    have FX := hid (hfix_c (S0.1.quiet (Fr.refl _ _).drew) OKS hd (by rw [LSL]; exact hpos) (by rw [LSL]; exact hl))
    have FS := hid S0.2
    have OKH := hid OKS
    have y2 : ∃ u, W1.cell? ⟨g, 0, none⟩ = some u := ⟨_, c1⟩
    have zf := R1.out.own.frozenAt 0
    have ZF := hid zf
    have HRN := hid hr
    have LSLH := hid LSL
    clear S0 hd OKS zf RT hxl hri hr y2 hm LSL
    obtain ⟨n, hn⟩ : ∃ n, n = hs.length := ⟨_, rfl⟩
    have HNN := hid hn
    rw [← hn] at c0 LC hlen0 hpos' hl hpos
    clear hn
    go_upto_region 7 with (go_at_call 43; refine LC.out.mono ?_; rintro e w' ⟨rfl, hw'⟩; have hw'' := hw'.symm; clear hw'; subst hw'')
    refine wp_region_held_drew (S := fun _ => True) (by kernel_rfl) trivial (fun hS => ?_)
    refine wpAnyH_take (i := 0) (v := .pointer (some ⟨P, 0, none⟩)) rfl (by kernel_rfl) (by kernel_rfl) (by kernel_rfl) (fun _ _ _ h => h) (.inl ⟨by rfl, fun wx _ => by go_simp⟩) hS ?_
    simp only [Act.put, List.getElem_toArray, List.getElem_cons_zero, List.set_cons_succ, List.set_cons_zero, List.setIfInBounds_toArray]
    refine wpAnyH_take (i := 1) (v := .pointer (some ⟨P, 0, none⟩)) rfl (by kernel_rfl) (by kernel_rfl) (by kernel_rfl) (fun _ _ _ h => h) (.inl ⟨by rfl, fun wx _ => by go_simp⟩) hS ?_
    simp only [Act.put, List.getElem_toArray, List.getElem_cons_succ, List.getElem_cons_zero, List.set_cons_succ, List.set_cons_zero, List.setIfInBounds_toArray]
    refine wpAnyH_take (i := 3) (v := .slice (some ⟨b, off, none⟩) (m + 2) ec) rfl (by kernel_rfl) (by kernel_rfl) (by kernel_rfl) (fun _ _ _ h => h) (.inl ⟨by rfl, fun wx _ => by go_simp⟩) hS ?_
    simp only [Act.put, List.getElem_toArray, List.getElem_cons_succ, List.getElem_cons_zero, List.set_cons_succ, List.set_cons_zero, List.setIfInBounds_toArray]
    refine wpAnyH_take (i := 4) (v := .slice (some ⟨b, off + 2, none⟩) (m + 1) (ec - 1)) rfl (by kernel_rfl) (by kernel_rfl) (by kernel_rfl) (fun _ _ _ h => h) (.inl ⟨by rfl, fun wx _ => by go_simp; intro h; omega⟩) hS ?_
    simp only [Act.put, List.getElem_toArray, List.getElem_cons_succ, List.getElem_cons_zero, List.set_cons_succ, List.set_cons_zero, List.setIfInBounds_toArray]
    refine wpAnyH_ready (rs := [2]) (by kernel_rfl) (by simp) ?_
    refine AllReadyH.cons rfl (fun K hK => ?_) AllReadyH.nil
    go_simp
    refine hK.out _ _ trivial (fun hS => ?_)
    clear hK K
    refine wpAnyH_take (i := 5) (v := .pointer (some ⟨g, 0, none⟩)) rfl (by kernel_rfl) (by kernel_rfl) (by kernel_rfl) (fun _ _ _ h => h) (.inl ⟨by rfl, fun wx _ => by go_simp⟩) hS ?_
    simp only [Act.put, List.getElem_toArray, List.getElem_cons_succ, List.getElem_cons_zero, List.set_cons_succ, List.set_cons_zero, List.setIfInBounds_toArray]
    refine wpAnyH_ready (rs := [6]) (by kernel_rfl) (by simp) ?_
    refine AllReadyH.cons rfl (fun K hK => ?_) AllReadyH.nil
    have zf := ZF.out
    go_simp
    refine hK.out _ _ trivial (fun hS => ?_)
    clear hK K
    refine wpAnyH_done (by kernel_rfl) ?_ _
    go_upto_region 9 with (go_at_call 45; refine FX.out.mono ?_; rintro e w3 ⟨u3, vs3, hs3, rfl, r3, pm3, hb3, f3⟩; have R3 := hid r3; have PM3 := hid pm3; have HB3 := hid hb3; have F3 := hid (((FS.out.drew).trans f3).mono (S' := [P, g]) (by simp)); clear r3 pm3 hb3 f3)
    obtain ⟨W3, hW3⟩ : ∃ W, W = w3 := ⟨_, rfl⟩
    rw [← hW3] at R3 F3 ⊢
    clear hW3
    have OK3 := hid (OKH.out.perm PM3.out)
    have LN3 : Hid (hs3.length ≤ hs.length) := hid (by have := PM3.out.length_eq; have := LSLH.out; omega)
    have PM4 := hid (flat_more HP0.out PM3.out)
    have F13 := F3
    clear PM3
    have PM3 := PM4
    have f13 := F13.out
    obtain ⟨⟨y0, y1⟩, b3⟩ := FIN.out W3 f13
    have B3 := hid b3
    have z0 := blk_frozen b3 0
    have z1 := blk_frozen b3 1
    have q0 : W3.cell? ⟨W.heap.size, 0, none⟩ = some (.slice none 0 0) := by rw [blk_cell b3]; rfl
    have q1 : W3.cell? ⟨W.heap.size, 1, none⟩ = some (.slice none 0 0) := by rw [blk_cell b3]; rfl
    obtain ⟨rwE, frE⟩ := END.out W3 _ _ f13 R3.out
    have RE := hid rwE
    have FE := hid frE
    clear b3 f13 rwE frE
    obtain ⟨l1, hl1⟩ : ∃ l, l = x.1.length := ⟨_, rfl⟩
    obtain ⟨l2, hl2⟩ : ∃ l, l = x.2.length := ⟨_, rfl⟩
    rw [← hl1] at y0 RE FE
    rw [← hl2] at y1 RE FE
    have HL1 := hid hl1
    have HL2 := hid hl2
    clear hl1 hl2
    go_wp2
    refine bodyPost_ret (ret_ctN rfl rfl (load_kv (two_set B3.out))) rfl ?_
    exact ⟨x, ka, kc, va, vc, hs3, vs3, ⟨by rw [← HL1.out, ← HL2.out]; rfl, PAH.out.rk, PAH.out.rv, PAH.out.bk, PAH.out.bv', PAH.out.lk, PAH.out.lv, IK.out, RE.out, OK3.out, HB3.out, PM3.out, MN.out, FE.out, LN3.out⟩⟩
end Go.Proofs.Ythmlpjogbdpgiaa
