/-
  A leaf's item.
-/
import Derived.Test.YtmpfnglcmaollaaDoorJ12
import Derived.Deep.RegionHeldLaw
namespace Go.Proofs.YtmpfnglcmaollaaDoor
open Go.ChangeShapes Go.WideShapes Go.ChangeAt Go.RowKit

theorem ItV.agg {n : Nat} {w : World} {v : Value} {x : List Nat} {d c : Nat} (h : ItV n w v x d c) : ∃ l a1 n1 c1 a2 n2 c2, v = .agg #[.bool l, .slice a1 n1 c1, .slice a2 n2 c2] := by
  obtain ⟨t, h1, _⟩ := h
  exact h1.agg
theorem ret_ctU {fn : Func} {p u : Tmp} {ty : TypeId} (h : fn.results = #[.cell p ty, .tmp u]) {tmps : Array Value} {w : World} {g : Nat} {cs : Array Value} {y : Value} (hp : tmps.getD p undef = .pointer (some ⟨g, 0, none⟩)) (hu : tmps.getD u undef = y) (hg : (loadVar ty ⟨g, 0, none⟩).run Tryd.prog w = .ok (.agg cs) w) :
    (results fn tmps).run Tryd.prog w = .ok (.tuple #[.agg cs, y]) w := by
  rw [← hu]
  exact ret_ct h hp hg
theorem asLeaf_y (w : World) (b : Nat) : (Instr.typeAssert (.iface 130 (.pointer (some ⟨b, 0, none⟩))) 84 130 true).run Tryd.prog w = .ok (.tuple #[.pointer (some ⟨b, 0, none⟩), .bool true]) w := by
  kernel_rfl
theorem asLeaf_s (w : World) (b : Nat) : (Instr.typeAssert (.iface 121 (.pointer (some ⟨b, 0, none⟩))) 84 130 true).run Tryd.prog w = .ok (.tuple #[.pointer none, .bool false]) w := by
  kernel_rfl
theorem step_store3 {ops : Array Oper} {o : Oper} {a : Act} {w : World} {K : Act → World → Prop} {Q : Exit → Act → World → Prop} {E : Prop} (hg : o.guard = none) (hd : o.dst = none) (x y : Operand) (hop : o.op = Op.store 77 x y) {q : Nat} {T : TypeId} {u0 u1 u2 : Value} (hq : w.heap[q]? = some (.cells #[u0, u1, u2] T (0, 0))) (hx : a.eval x = .pointer (some ⟨q, 0, none⟩)) {l : Bool} {a0 a1 : Option Addr} {n0 n1 c0 c1 : Nat} (hy : a.eval y = .agg #[.bool l, .slice a0 n0 c0, .slice a1 n1 c1])
    (hK : K a (((w.setCell ⟨q, 0, none⟩ (.bool l)).setCell ⟨q, 1, none⟩ (.slice a0 n0 c0)).setCell ⟨q, 2, none⟩ (.slice a1 n1 c1))) :
    if Region.wanted o (yielded ops a.tmps) = true then Oper.wp Tryd.prog o a w K Q else E := by
  have hw : Region.wanted o (yielded ops a.tmps) = true := by simp [Region.wanted, hg]
  have y0 := blk_cell hq 0
  have y1 := blk_cell hq 1
  have y2 := blk_cell hq 2
  have z0 := blk_frozen hq 0
  have z1 := blk_frozen hq 1
  have z2 := blk_frozen hq 2
  simp at y0 y1 y2
  rw [if_pos hw]
  unfold Oper.wp
  simp [execOp, hop, hx, hy]
  go_simp
  exact hK
set_option maxRecDepth 20000 in
set_option maxHeartbeats 1600000 in
theorem itemLeaf_c (w : World) {b : Nat} {T : TypeId} {r0 r1 r2 pv vv : Value} (hB : w.heap[b]? = some (.cells #[r0, r1, r2, pv, vv] T (0, 0))) {p v : List Nat} (hp : Rd w pv (bv p)) (hok : okP p = true) (hv : Rd w vv (bv v)) (hvb : By v) (hvl : v.length ≤ 140737488355328) (m : Nat) :
    Calls Tryd.prog 48 #[.iface 130 (.pointer (some ⟨b, 0, none⟩))] w fun e w' => ∃ iv, e = .returned (.tuple #[iv, .int .i64 0]) ∧ (∀ w'', (∀ k, w.heap.size ≤ k → k < w'.heap.size → w''.heap[k]? = w'.heap[k]?) → Rd w'' vv (bv v) → ItV (m + 2) w'' iv (lstF (strL (packF p true) ++ strL v)) 2 3) ∧ (∃ l a1 n1 c1 a2 n2 c2, iv = .agg #[.bool l, .slice a1 n1 c1, .slice a2 n2 c2]) ∧ Fr [] w w' := by
  obtain ⟨pa, pc, e1⟩ := hp.form
  obtain ⟨va, vc, e2⟩ := hv.form
  rw [bv_len] at e1 e2
  subst e1 e2
  obtain ⟨np, hnp⟩ : ∃ np, np = p.length := ⟨_, rfl⟩
  obtain ⟨nv, hnv⟩ : ∃ nv, nv = v.length := ⟨_, rfl⟩
  rw [← hnp] at hp hB
  rw [← hnv] at hv hB
  have c3 := blk_cell hB 3
  have c4 := blk_cell hB 4
  simp at c3 c4
  obtain ⟨W, hW⟩ : ∃ W, W = w.alloc (.cells #[.bool false, .slice none 0 0, .slice none 0 0] 77) := ⟨_, rfl⟩
  have F : Hid (Fr [] w W) := hid (by rw [hW]; exact (Fr.refl _ w).alloc _)
  have Y : Hid (W.heap[w.heap.size]? = some (.cells #[.bool false, .slice none 0 0, .slice none 0 0] 77 (0, 0))) := hid (by rw [hW]; exact blk_new _ _)
  have PC : Hid (∀ W', Fr [] w W' → Calls Tryd.prog 67 #[.slice pa np pc, .bool true, .agg #[.bool false, .slice va nv vc, .slice none 0 0]] W' fun e w' => ∃ iv, e = .returned (.tuple #[iv, .int .i64 0]) ∧ (∀ w'', (∀ k, W'.heap.size ≤ k → k < w'.heap.size → w''.heap[k]? = w'.heap[k]?) → Rd w'' (.slice va nv vc) (bv v) → ItV (m + 2) w'' iv (lstF (strL (packF p true) ++ strL v)) 2 3) ∧ (∃ l a1 n1 c1 a2 n2 c2, iv = .agg #[.bool l, .slice a1 n1 c1, .slice a2 n2 c2]) ∧ Fr [] W' w') := hid (fun W' f => (pair_c W' (hp.fr f) true hok (ItV.str (n := m) (hv.fr f) hvb hvl) (Nat.le_refl _)).mono (by
    rintro e w' ⟨iv, rfl, q1, q2, q3⟩
    exact ⟨iv, rfl, fun w'' h1 h2 => q1 w'' h1 (ItV.str h2 hvb hvl), q2, q3⟩))
  have SK : Hid (∀ w', Fr [] w w' → w'.cell? ⟨b, 3, none⟩ = some (.slice pa np pc) ∧ w'.cell? ⟨b, 4, none⟩ = some (.slice va nv vc)) := hid fun w' f => ⟨cell_fr c3 f, cell_fr c4 f⟩
  have YD : Hid (W.drew.heap[w.heap.size]? = some (.cells #[.bool false, .slice none 0 0, .slice none 0 0] 77 (0, 0))) := hid (by rw [blk_drew]; exact Y.out)
  have HNV := hid hnv
  clear hp hv hB c3 c4 hnp hnv hok hvb hvl
  go_enter Tryd.func48, Tryd.ntmps48
  go_upto_region 1 with fail
  rw [← hW]
  clear hW
  have ta := asLeaf_y W b
  go_upto_region 4 with fail
  clear ta
  refine wp_region_held_drew (S := fun w' => w'.cell? ⟨b, 3, none⟩ = some (.slice pa np pc) ∧ w'.cell? ⟨b, 4, none⟩ = some (.slice va nv vc)) (by kernel_rfl) (SK.out _ F.out.drew) (fun hS => ?_)
  refine wpAnyH_take (i := 0) (v := .pointer (some ⟨b, 0, none⟩)) rfl (by kernel_rfl) (by kernel_rfl) (by kernel_rfl) (fun _ _ _ h => h) (.inl ⟨by rfl, fun wx _ => by go_simp⟩) hS ?_
  simp only [Act.put]
  refine wpAnyH_take (i := 1) (v := .pointer (some ⟨b, 0, none⟩)) rfl (by kernel_rfl) (by kernel_rfl) (by kernel_rfl) (fun _ _ _ h => h) (.inl ⟨by rfl, fun wx _ => by go_simp⟩) hS ?_
  simp only [Act.put]
  refine wpAnyH_take (i := 2) (v := .pointer (some ⟨b, 3, none⟩)) rfl (by kernel_rfl) (by kernel_rfl) (by kernel_rfl) (fun _ _ _ h => h) (.inl ⟨by rfl, fun wx _ => by go_simp⟩) hS ?_
  simp only [Act.put]
  refine wpAnyH_take (i := 3) (v := .slice pa np pc) rfl (by kernel_rfl) (by kernel_rfl) (by kernel_rfl) (fun _ _ _ h => h) (.inl ⟨by rfl, fun wx hX => by obtain ⟨x0, x1⟩ := hX; go_simp⟩) hS ?_
  simp only [Act.put]
  refine wpAnyH_take (i := 4) (v := .pointer (some ⟨b, 0, none⟩)) rfl (by kernel_rfl) (by kernel_rfl) (by kernel_rfl) (fun _ _ _ h => h) (.inl ⟨by rfl, fun wx _ => by go_simp⟩) hS ?_
  simp only [Act.put]
  refine wpAnyH_take (i := 5) (v := .pointer (some ⟨b, 0, none⟩)) rfl (by kernel_rfl) (by kernel_rfl) (by kernel_rfl) (fun _ _ _ h => h) (.inl ⟨by rfl, fun wx _ => by go_simp⟩) hS ?_
  simp only [Act.put]
  refine wpAnyH_take (i := 6) (v := .pointer (some ⟨b, 4, none⟩)) rfl (by kernel_rfl) (by kernel_rfl) (by kernel_rfl) (fun _ _ _ h => h) (.inl ⟨by rfl, fun wx _ => by go_simp⟩) hS ?_
  simp only [Act.put]
  refine wpAnyH_take (i := 7) (v := .slice va nv vc) rfl (by kernel_rfl) (by kernel_rfl) (by kernel_rfl) (fun _ _ _ h => h) (.inl ⟨by rfl, fun wx hX => by obtain ⟨x0, x1⟩ := hX; go_simp⟩) hS ?_
  simp only [Act.put]
  refine wpAnyH_take (i := 8) (v := .agg #[.bool false, .slice va nv vc, .slice none 0 0]) rfl (by kernel_rfl) (by kernel_rfl) (by kernel_rfl) (fun _ _ _ h => h) (.inl ⟨by rfl, fun wx _ => by go_simp⟩) hS ?_
  simp only [Act.put]
  clear hS
  refine wpAnyH_ready (rs := [9]) (by kernel_rfl) (by simp) ?_
  refine AllReadyH.cons rfl (fun K hK => ?_) AllReadyH.nil
  go_simp
  go_at_call 67
  refine (PC.out _ F.out.drew).mono ?_
  rintro e w2 ⟨iv, rfl, hI, ⟨l1, a1, n1, c1, a2, n2, c2, rfl⟩, f2⟩
  have HI := hid hI
  have F2 := hid (F.out.drew.trans f2)
  have Y2 := hid (blk_frT YD.out f2)
  clear hI f2
  go_simp
  have hS2 := SK.out _ F2.out
  refine hK.out _ _ hS2 (fun _ => ?_)
  clear hK K
  refine wpAnyH_take (i := 10) (v := .agg #[.bool l1, .slice a1 n1 c1, .slice a2 n2 c2]) rfl (by kernel_rfl) (by kernel_rfl) (by kernel_rfl) (fun _ _ _ h => h) (.inl ⟨by rfl, fun wx _ => by go_simp⟩) hS2 ?_
  simp only [Act.put]
  refine wpAnyH_take (i := 11) (v := .int .i64 0) rfl (by kernel_rfl) (by kernel_rfl) (by kernel_rfl) (fun _ _ _ h => h) (.inl ⟨by rfl, fun wx _ => by go_simp⟩) hS2 ?_
  simp only [Act.put, List.getElem_toArray, List.getElem_cons_succ, List.getElem_cons_zero]
  clear hS2
  have FT := hid (((F2.out.set (p := w.heap.size) 0 (.bool l1) (.inr (Nat.le_refl _))).set (p := w.heap.size) 1 (.slice a1 n1 c1) (.inr (Nat.le_refl _))).set (p := w.heap.size) 2 (.slice a2 n2 c2) (.inr (Nat.le_refl _)))
  have T3 := hid (three_set (u := .bool l1) (v := .slice a1 n1 c1) (t := .slice a2 n2 c2) Y2.out)
  have FI : Hid (Fr [w.heap.size] w2 (((w2.setCell ⟨w.heap.size, 0, none⟩ (.bool l1)).setCell ⟨w.heap.size, 1, none⟩ (.slice a1 n1 c1)).setCell ⟨w.heap.size, 2, none⟩ (.slice a2 n2 c2))) := hid ((((Fr.refl _ _).set _ _ (.inl (by simp))).set _ _ (.inl (by simp))).set _ _ (.inl (by simp)))
  refine wpAnyH_ready (rs := [12]) (by kernel_rfl) (by simp) ?_
  refine AllReadyH.cons rfl (fun K hK => ?_) AllReadyH.nil
  refine step_store3 (l := l1) (a0 := a1) (n0 := n1) (c0 := c1) (a1 := a2) (n1 := n2) (c1 := c2) rfl rfl (.tmp 2) (.tmp 24) rfl Y2.out (by simp [Act.eval]) (by simp [Act.eval]) ?_
  refine hK.out _ _ (SK.out _ FT.out) (fun hS3 => ?_)
  clear hK K
  refine wpAnyH_take (i := 13) (v := .int .i64 0) rfl (by kernel_rfl) (by kernel_rfl) (by kernel_rfl) (fun _ _ _ h => h) (.inl ⟨by rfl, fun wx _ => by go_simp⟩) hS3 ?_
  simp only [Act.put, List.getElem_toArray, List.getElem_cons_succ, List.getElem_cons_zero]
  refine wpAnyH_done (by kernel_rfl) ?_ _
  clear hS3
  go_wp2
  refine bodyPost_ret (v := .tuple #[.agg #[.bool l1, .slice a1 n1 c1, .slice a2 n2 c2], .int .i64 0]) (ret_ctU (p := 2) (u := 3) rfl (by kernel_rfl) (by kernel_rfl) (load_it T3.out)) rfl ?_
  refine ⟨_, rfl, fun w'' hk hR => HI.out w'' (fun k h1 h2 => ?_) (by rw [HNV.out]; exact hR), ⟨_, _, _, _, _, _, _, rfl⟩, FT.out⟩
  have hne : k ≠ w.heap.size := by have := (Array.getElem?_eq_some_iff.1 YD.out).1; omega
  rw [hk k (by have := F.out.drew.size; omega) (Nat.lt_of_lt_of_le h2 FI.out.size), blk_setne _ _ _ hne, blk_setne _ _ _ hne, blk_setne _ _ _ hne]
end Go.Proofs.YtmpfnglcmaollaaDoor
namespace Go.Proofs.YtmpfnglcmaollaaDoor
open Go.ChangeShapes Go.WideShapes Go.ChangeAt Go.RowKit

/-- Worlds that are alike at some blocks. -/
def Agr (S : Nat → Prop) (w w' : World) : Prop := ∀ k, S k → w'.heap[k]? = w.heap[k]?
theorem Agr.refl (S : Nat → Prop) (w : World) : Agr S w w := fun _ _ => rfl
theorem Agr.trans {S : Nat → Prop} {a b c : World} (h : Agr S a b) (g : Agr S b c) : Agr S a c := fun k hk => (g k hk).trans (h k hk)
theorem Agr.sub {S T : Nat → Prop} {a b : World} (h : Agr T a b) (hs : ∀ k, S k → T k) : Agr S a b := fun k hk => h k (hs k hk)
/-- Blocks of S, and those that were made since. -/
def Up (S : Nat → Prop) (w w' : World) : Nat → Prop := fun k => S k ∨ (w.heap.size ≤ k ∧ k < w'.heap.size)
def InS (S : Nat → Prop) (w : World) : Prop := ∀ k, S k → k < w.heap.size
theorem InS.agr {S : Nat → Prop} {w w' : World} (h : InS S w) (f : Fr [] w w') : Agr S w w' := fun k hk => f.block k (h k hk) (by simp)
theorem InS.fr {S : Nat → Prop} {w w' : World} (h : InS S w) (f : Fr [] w w') : InS S w' := fun k hk => Nat.lt_of_lt_of_le (h k hk) f.size
theorem InS.up {S : Nat → Prop} {w w' : World} (h : InS S w) (f : Fr [] w w') : InS (Up S w w') w' := fun k hk => by
  rcases hk with hk | hk
  · exact Nat.lt_of_lt_of_le (h k hk) f.size
  · exact hk.2
theorem Up.old {S : Nat → Prop} {w w' : World} {k : Nat} (h : S k) : Up S w w' k := .inl h
theorem Up.two {S : Nat → Prop} {a b c : World} (f : a.heap.size ≤ b.heap.size) (g : b.heap.size ≤ c.heap.size) {k : Nat} (h : Up (Up S a b) b c k) : Up S a c k := by
  rcases h with (h | h) | h
  · exact .inl h
  · exact .inr ⟨h.1, by omega⟩
  · exact .inr ⟨by omega, h.2⟩
theorem Up.mid {S : Nat → Prop} {a b c d : World} (f : a.heap.size ≤ b.heap.size) (g : c.heap.size ≤ d.heap.size) {k : Nat} (h : Up S b c k) : Up S a d k := by
  rcases h with h | h
  · exact .inl h
  · exact .inr ⟨by omega, by omega⟩
/-- What holds wherever the blocks of S are as they are. -/
def Un (S : Nat → Prop) (w : World) (P : World → Prop) : Prop := ∀ w', Agr S w w' → P w'
theorem Un.now {S : Nat → Prop} {w : World} {P : World → Prop} (h : Un S w P) : P w := h w (Agr.refl S w)
theorem Un.step {S : Nat → Prop} {w w' : World} {P : World → Prop} (h : Un S w P) (a : Agr S w w') : Un S w' P := fun _ b => h _ (a.trans b)
theorem Un.sub {S T : Nat → Prop} {w : World} {P : World → Prop} (h : Un S w P) (hs : ∀ k, S k → T k) : Un T w P := fun _ b => h _ (b.sub hs)
theorem Un.imp {S : Nat → Prop} {w : World} {P Q : World → Prop} (h : Un S w P) (g : ∀ w, P w → Q w) : Un S w Q := fun _ b => g _ (h _ b)
/-- Bytes of the call's own, behind it. -/
theorem Un.own {S : Nat → Prop} {w W w' : World} {base : Nat} {v : Value} {p : List Nat} (h : W.ownsRow base 5 1 v p.length (bv p)) (hb : w.heap.size ≤ base) (f : Fr [] W w') : Un (Up S w w') w' (fun w'' => Rd w'' v (bv p)) := fun w'' ha => (Rd.ownB h : Rd W v (bv p)).stepT fun k hk => by
  have h1 := own_ltT h hk
  have h2 := (h.lt k hk).1
  rw [ha k (.inr ⟨by omega, Nat.lt_of_lt_of_le h1 f.size⟩), f.block k h1 (by simp)]
theorem cnt_len : ∀ (n : Nat) (t : Tr n), okT n t → cnt n t ≤ (enc n t).length
  | 0, _, _ => Nat.zero_le _
  | n + 1, t, h => by
    have hs : ∀ (l : List (Tr n)), (∀ c ∈ l, okT n c) → (l.map (cnt n)).sum ≤ (l.flatMap (enc n)).length := by
      intro l
      induction l with
      | nil => intro _; exact Nat.le_refl _
      | cons c l ih =>
        intro hl
        simp only [List.map_cons, List.sum_cons, List.flatMap_cons, List.length_append]
        have := cnt_len n c (hl c (by simp))
        have := ih (fun d hd => hl d (by simp [hd]))
        omega
    have h2 := hs (tK t) h.2
    show 1 + ((tK t).map (cnt n)).sum ≤ (if tL t = true then headL 192 ((tK t).flatMap (enc n)).length ++ (tK t).flatMap (enc n) else strL (tB t)).length
    rcases h.1 with ⟨h1, _⟩ | ⟨h1, h3⟩
    · rw [if_pos h1, List.length_append]
      have := (headL_len 192 ((tK t).flatMap (enc n)).length).1
      omega
    · rw [if_neg (by rw [h1]; decide), h3]
      have := (strL_len (tB t)).2.2
      simp only [List.map_nil, List.sum_nil]
      omega
theorem ItV.len {n : Nat} {w : World} {v : Value} {x : List Nat} {d c : Nat} (h : ItV n w v x d c) : ItV n w v x d x.length := by
  obtain ⟨t, h1, h2, h3, h4, h5, h6⟩ := h
  refine ⟨t, h1, h2, h3, h4, h5, ?_⟩
  have := cnt_len n t h4
  rw [h2] at this
  exact this
theorem ItV.by {n : Nat} {w : World} {v : Value} {x : List Nat} {d c : Nat} (h : ItV n w v x d c) (hn : n ≤ 40) : 1 ≤ x.length ∨ n = 0 := by
  rcases n with _ | n
  · exact .inr rfl
  obtain ⟨t, h1, h2, _⟩ := h
  left
  rw [← h2]
  show 1 ≤ (if tL t = true then headL 192 ((tK t).flatMap (enc n)).length ++ (tK t).flatMap (enc n) else strL (tB t)).length
  split
  · rw [List.length_append]
    have := (headL_len 192 ((tK t).flatMap (enc n)).length).1
    omega
  · exact (strL_len (tB t)).2.2
/-- An item that stands in S, with these bytes. -/
def RfS (S : Nat → Prop) (w : World) (v : Value) (x : List Nat) (e : Nat) : Prop := ∃ d, 9 * d ≤ x.length + e ∧ 1 ≤ d ∧ Un S w (fun w' => ItV 20 w' v x d x.length)
theorem RfS.step {S : Nat → Prop} {w w' : World} {v : Value} {x : List Nat} {e : Nat} (h : RfS S w v x e) (a : Agr S w w') : RfS S w' v x e := by
  obtain ⟨d, h1, h2, h3⟩ := h
  exact ⟨d, h1, h2, h3.step a⟩
theorem RfS.sub {S T : Nat → Prop} {w : World} {v : Value} {x : List Nat} {e : Nat} (h : RfS S w v x e) (hs : ∀ k, S k → T k) : RfS T w v x e := by
  obtain ⟨d, h1, h2, h3⟩ := h
  exact ⟨d, h1, h2, h3.sub hs⟩
theorem RfS.mono {S : Nat → Prop} {w : World} {v : Value} {x : List Nat} {e e' : Nat} (h : RfS S w v x e) (he : e ≤ e') : RfS S w v x e' := by
  obtain ⟨d, h1, h2, h3⟩ := h
  exact ⟨d, by omega, h2, h3⟩
theorem RfS.agg {S : Nat → Prop} {w : World} {v : Value} {x : List Nat} {e : Nat} (h : RfS S w v x e) : ∃ l a1 n1 c1 a2 n2 c2, v = .agg #[.bool l, .slice a1 n1 c1, .slice a2 n2 c2] := by
  obtain ⟨d, _, _, h3⟩ := h
  exact h3.now.agg
/-- How deep a node's reference may be. -/
def slN : Nd → Nat
  | .fork _ _ => 7
  | _ => 15
/-- A node in memory, all of it in blocks of S. -/
def NdV (S : Nat → Prop) (w : World) : Nd → Value → Prop
  | .nil, v => v = .nilIface
  | .far h, v => h.length = 32 ∧ By h ∧ v = .iface 101 (.agg (bv h).toArray)
  | .leaf p x, v => ∃ b r0 r1 r2 pv vv, v = .iface 130 (.pointer (some ⟨b, 0, none⟩)) ∧ S b ∧ w.heap[b]? = some (.cells #[r0, r1, r2, pv, vv] 133 (0, 0)) ∧ Un S w (fun w' => Rd w' pv (bv p)) ∧ Un S w (fun w' => Rd w' vv (bv x)) ∧ RfS S w (.agg #[r0, r1, r2]) (refE (.leaf p x)) 15
  | .stem p t, v => ∃ b r0 r1 r2 pv bl, v = .iface 121 (.pointer (some ⟨b, 0, none⟩)) ∧ S b ∧ w.heap[b]? = some (.cells #[r0, r1, r2, pv, bl] 125 (0, 0)) ∧ Un S w (fun w' => Rd w' pv (bv p)) ∧ NdV S w t bl ∧ RfS S w (.agg #[r0, r1, r2]) (refE (.stem p t)) 15
  | .fork c x, v => ∃ (b : Nat) (r0 r1 r2 : Value) (V : Nat → Value) (vv : Value), v = .iface 126 (.pointer (some ⟨b, 0, none⟩)) ∧ S b ∧ w.heap[b]? = some (.cells #[r0, r1, r2, V 0, V 1, V 2, V 3, V 4, V 5, V 6, V 7, V 8, V 9, V 10, V 11, V 12, V 13, V 14, V 15, vv] 129 (0, 0)) ∧ (∀ i, i < 16 → NdV S w (c i) (V i)) ∧ Un S w (fun w' => Rd w' vv (bv x)) ∧ RfS S w (.agg #[r0, r1, r2]) (refE (.fork c x)) 7
theorem NdV.step {S : Nat → Prop} {w w' : World} (a : Agr S w w') : ∀ {n : Nd} {v : Value}, NdV S w n v → NdV S w' n v
  | .nil, _, h => h
  | .far _, _, h => h
  | .leaf p x, v, h => by
    obtain ⟨b, r0, r1, r2, pv, vv, e, hb, h1, h2, h3, h4⟩ := h
    exact ⟨b, r0, r1, r2, pv, vv, e, hb, by rw [a b hb]; exact h1, h2.step a, h3.step a, h4.step a⟩
  | .stem p t, v, h => by
    obtain ⟨b, r0, r1, r2, pv, bl, e, hb, h1, h2, h3, h4⟩ := h
    exact ⟨b, r0, r1, r2, pv, bl, e, hb, by rw [a b hb]; exact h1, h2.step a, NdV.step a h3, h4.step a⟩
  | .fork c x, v, h => by
    obtain ⟨b, r0, r1, r2, V, vv, e, hb, h1, h2, h3, h4⟩ := h
    exact ⟨b, r0, r1, r2, V, vv, e, hb, by rw [a b hb]; exact h1, fun i hi => NdV.step a (h2 i hi), h3.step a, h4.step a⟩
theorem NdV.sub {S T : Nat → Prop} {w : World} (hs : ∀ k, S k → T k) : ∀ {n : Nd} {v : Value}, NdV S w n v → NdV T w n v
  | .nil, _, h => h
  | .far _, _, h => h
  | .leaf p x, v, h => by
    obtain ⟨b, r0, r1, r2, pv, vv, e, hb, h1, h2, h3, h4⟩ := h
    exact ⟨b, r0, r1, r2, pv, vv, e, hs b hb, h1, h2.sub hs, h3.sub hs, h4.sub hs⟩
  | .stem p t, v, h => by
    obtain ⟨b, r0, r1, r2, pv, bl, e, hb, h1, h2, h3, h4⟩ := h
    exact ⟨b, r0, r1, r2, pv, bl, e, hs b hb, h1, h2.sub hs, NdV.sub hs h3, h4.sub hs⟩
  | .fork c x, v, h => by
    obtain ⟨b, r0, r1, r2, V, vv, e, hb, h1, h2, h3, h4⟩ := h
    exact ⟨b, r0, r1, r2, V, vv, e, hs b hb, h1, fun i hi => NdV.sub hs (h2 i hi), h3.sub hs, h4.sub hs⟩
/-- Nodes of maps: paths are no longer than what is left of a key's. -/
def isFk : Nd → Prop
  | .fork _ _ => True
  | _ => False
def okN : Nat → Nd → Prop
  | _, .nil => True
  | _, .far _ => False
  | d, .leaf p x => Nb p ∧ p.length ≤ d ∧ By x ∧ 1 ≤ x.length ∧ x.length ≤ 1024
  | d, .stem p t => Nb p ∧ p.length ≤ d ∧ 1 ≤ p.length ∧ isFk t ∧ okN (d - p.length) t
  | d, .fork c x => 1 ≤ d ∧ (∀ i, i < 16 → okN (d - 1) (c i)) ∧ By x ∧ x.length ≤ 1024
theorem okN.mono : ∀ {n : Nd} {d d' : Nat}, okN d n → d ≤ d' → okN d' n
  | .nil, _, _, _, _ => trivial
  | .far _, _, _, h, _ => h.elim
  | .leaf _ _, _, _, h, hd => ⟨h.1, Nat.le_trans h.2.1 hd, h.2.2⟩
  | .stem p t, _, _, h, hd => ⟨h.1, Nat.le_trans h.2.1 hd, h.2.2.1, h.2.2.2.1, okN.mono h.2.2.2.2 (by omega)⟩
  | .fork c x, _, _, h, hd => ⟨Nat.le_trans h.1 hd, fun i hi => okN.mono (h.2.1 i hi) (by omega), h.2.2⟩
theorem okP_of {p : List Nat} (h : Nb p) (hl : p.length ≤ 128) : okP p = true := by
  unfold okP
  simp only [Bool.and_eq_true, decide_eq_true_eq, List.all_eq_true]
  exact ⟨hl, fun x hx => by have := h x hx; omega⟩
end Go.Proofs.YtmpfnglcmaollaaDoor
