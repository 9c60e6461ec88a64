/-
  A key put where a leaf stands.
-/
import Derived.Test.YtmpfnglcmaollaaDoorJ22
namespace Go.Proofs.YtmpfnglcmaollaaDoor
open Go.ChangeShapes Go.WideShapes Go.ChangeAt Go.RowKit

theorem Fr.overT {w w4 w5 : World} {g : Nat} (h : Fr [] w w4) (f : Fr [g] w4 w5) (hg : w.heap.size ≤ g) : Fr [] w w5 :=
  ((h.mono (S' := [g]) (by simp)).trans f).shed (fun k hk hl => by simp at hk; omega)
theorem grow_pre {c : Nat → Nd} {x p v : List Nat} {s d : Nat} (hs : s < d) (h : ∀ j, j < 16 → okN (d - s - 1) (c j)) (hx : By x) (hx2 : x.length ≤ 1024) (hp : Nb p) (hl : p.length ≤ d) (hv : By v) (h1 : 1 ≤ v.length) (h2 : v.length ≤ 1024) : okN (d - s) (.fork (addC c (p.drop s) v) (addV x (p.drop s) v)) := by
  have a := addV_ok (p := p.drop s) hx hx2 hv h2
  exact ⟨by omega, addC_ok h (hp.drop s) (by rw [List.length_drop]; omega) hv h1 h2, a.1, a.2⟩
set_option maxRecDepth 20000 in
set_option maxHeartbeats 3200000 in
theorem putLeaf_c (w : World) {S : Nat → Prop} (HT : Tabs w) (hi : InS S w) {b : Nat} {pv vv : Value} {q x p v : List Nat} (hn : NdV S w (.leaf q x) (.iface 130 (.pointer (some ⟨b, 0, none⟩)))) (hok : okN 128 (.leaf q x)) (hp : Un S w (fun w' => Rd w' pv (bv p))) (hb : Nb p) (hl : p.length ≤ 128) (hv : Un S w (fun w' => Rd w' vv (bv v))) (hvb : By v) (hv1 : 1 ≤ v.length) (hvl : v.length ≤ 1024) :
    Calls Tryd.prog 74 #[.pointer (some ⟨b, 0, none⟩), pv, vv] w fun e w' => ((q = p ∧ x = v ∧ e = .returned (.tuple #[.nilIface, .int .i64 (-1)])) ∨ (¬ (q = p ∧ x = v) ∧ ∃ r, e = .returned (.tuple #[r, .int .i64 0]) ∧ NdV (Up S w w') w' (putN (.leaf q x) p v) r)) ∧ Fr [] w w' := by
  obtain ⟨pa, pc, e1⟩ := RdS.slice hp
  obtain ⟨va, vc, e2⟩ := RdS.slice hv
  subst e1 e2
  obtain ⟨b', _, _, _, qv, xv, e, hbS, h1, h2, h3, h4⟩ := hn
  simp only [Value.iface.injEq, true_and, Value.pointer.injEq, Option.some.injEq, Addr.mk.injEq, and_true] at e
  subst e
  obtain ⟨qa, qc, e3⟩ := RdS.slice h2
  obtain ⟨xa, xc, e4⟩ := RdS.slice h3
  subst e3 e4
  have c3 := blk_cell h1 3
  have c4 := blk_cell h1 4
  simp at c3 c4
  have hqb := hok.1
  have hql := hok.2.1
  have hxb := hok.2.2.1
  have hx1 := hok.2.2.2.1
  have hxl := hok.2.2.2.2
  by_cases hqp : q = p
  · subst hqp
    have E1 := hid (bytesEqual_c h2.now hp.now hqb.by hqb.by)
    rw [decide_eq_true rfl] at E1
    by_cases hxv : x = v
    · subst hxv
      have E2 := hid (bytesEqual_c h3.now hv.now hxb hxb)
      rw [decide_eq_true rfl] at E2
      obtain ⟨nq, hnq⟩ : ∃ n, n = q.length := ⟨_, rfl⟩
      obtain ⟨nx, hnx⟩ : ∃ n, n = x.length := ⟨_, rfl⟩
      rw [← hnq] at E1 c3
      rw [← hnx] at E2 c4
      rw [← hnq, ← hnx]
      clear hp hv h1 h2 h3 h4 hnq hnx HT hi hl hql hx1 hxl hv1 hvl
      go_enter Tryd.func74, Tryd.ntmps74
      go_wp2_with (first
        | (go_at_call 78; refine E1.out.mono ?_; rintro e w1 ⟨rfl, h⟩; rw [h]; clear h E1)
        | (go_at_call 78; refine E2.out.mono ?_; rintro e w1 ⟨rfl, h⟩; rw [h]; clear h))
      go_ret2
      exact ⟨.inl (by simp), Fr.refl _ _⟩
    · have E2 := hid (bytesEqual_c h3.now hv.now hxb hvb)
      rw [decide_eq_false hxv] at E2
      have MK := hid (makeLeaf_c w HT hi hp (okP_of hb hl) hv hvb hv1 hvl)
      obtain ⟨nq, hnq⟩ : ∃ n, n = q.length := ⟨_, rfl⟩
      obtain ⟨nx, hnx⟩ : ∃ n, n = x.length := ⟨_, rfl⟩
      obtain ⟨nv, hnv⟩ : ∃ n, n = v.length := ⟨_, rfl⟩
      rw [← hnq] at E1 c3 MK
      rw [← hnx] at E2 c4
      rw [← hnv] at E2 MK
      rw [← hnq, ← hnv]
      clear hp hv h1 h2 h3 h4 hnq hnx hnv HT hi hl hql hx1 hxl hv1 hvl
      go_enter Tryd.func74, Tryd.ntmps74
      go_wp2_with (first
        | (go_at_call 78; refine E1.out.mono ?_; rintro e w1 ⟨rfl, h⟩; rw [h]; clear h E1)
        | (go_at_call 78; refine E2.out.mono ?_; rintro e w1 ⟨rfl, h⟩; rw [h]; clear h)
        | (go_at_call 77; refine MK.out.mono ?_; rintro e w1 ⟨r, rfl, hN, f1⟩; have HN := hid hN; have F1 := hid f1; clear hN f1))
      go_ret2
      exact ⟨.inr ⟨fun h => hxv h.2, r, rfl, by rw [show putN (.leaf q x) q v = .leaf q v from if_pos rfl]; exact HN.out⟩, F1.out⟩
  · have E1 := hid (bytesEqual_c h2.now hp.now hqb.by hb.by)
    rw [decide_eq_false hqp] at E1
    have SH := hid (shared_c w h2.now hp.now (by omega))
    have hs := cpN_lt hql hl hqp
    have hsl := cpN_le q p
    have PN : putN (.leaf q x) p v = growN (addC noN (q.drop (cpN q p)) x) (addV [] (q.drop (cpN q p)) x) p (cpN q p) v := if_neg hqp
    rw [PN]
    clear PN
    obtain ⟨s, hsd⟩ : ∃ s, s = cpN q p := ⟨_, rfl⟩
    rw [← hsd] at SH hs hsl ⊢
    clear hsd
    have hpre := grow_pre (c := addC noN (q.drop s) x) (x := addV [] (q.drop s) x) hs (addC_ok (noN_ok _) (hqb.drop s) (by rw [List.length_drop]; omega) hxb hx1 hxl) (addV_ok (x := []) (p := q.drop s) (fun x hx => by cases hx) (by simp) hxb hxl).1 (addV_ok (x := []) (p := q.drop s) (fun x hx => by cases hx) (by simp) hxb hxl).2 hb hl hvb hv1 hvl
    have HPRE := hid hpre
    clear hpre
    have hGS : ∀ w1, Fr [] w w1 → ¬ S w1.heap.size := fun w1 f h => by have := hi _ h; have := f.size; omega
    obtain ⟨a', s1, hr⟩ := cutU h2 rfl hsl.1
    have FACT : Hid (∀ w1, Fr [] w w1 → Calls Tryd.prog 94 #[.pointer (some ⟨w1.heap.size, 0, none⟩), .slice a' (q.length - s) (qc - s), .slice xa x.length xc] (w1.alloc (.cells #[.bool false, .slice none 0 0, .slice none 0 0, .nilIface, .nilIface, .nilIface, .nilIface, .nilIface, .nilIface, .nilIface, .nilIface, .nilIface, .nilIface, .nilIface, .nilIface, .nilIface, .nilIface, .nilIface, .nilIface, .slice none 0 0] 129)).drew fun e w2 => e = .returned (.int .i64 0) ∧ Fr [w1.heap.size] (w1.alloc (.cells #[.bool false, .slice none 0 0, .slice none 0 0, .nilIface, .nilIface, .nilIface, .nilIface, .nilIface, .nilIface, .nilIface, .nilIface, .nilIface, .nilIface, .nilIface, .nilIface, .nilIface, .nilIface, .nilIface, .nilIface, .slice none 0 0] 129)).drew w2 ∧ Calls Tryd.prog 95 #[.pointer (some ⟨w1.heap.size, 0, none⟩), .slice pa p.length pc, .int .i64 (s : Int), .slice va v.length vc] w2 fun e w3 => ∃ r, e = .returned (.tuple #[r, .int .i64 0]) ∧ NdV (Up S w w3) w3 (growN (addC noN (q.drop s) x) (addV [] (q.drop s) x) p s v) r ∧ Fr [w1.heap.size] w2 w3) := hid fun w1 f => by
      obtain ⟨W, hW⟩ : ∃ W, W = w1.alloc (.cells #[.bool false, .slice none 0 0, .slice none 0 0, .nilIface, .nilIface, .nilIface, .nilIface, .nilIface, .nilIface, .nilIface, .nilIface, .nilIface, .nilIface, .nilIface, .nilIface, .nilIface, .nilIface, .nilIface, .nilIface, .slice none 0 0] 129) := ⟨_, rfl⟩
      rw [← hW]
      have F : Fr [] w W := by rw [hW]; exact f.alloc _
      have Y : W.drew.heap[w1.heap.size]? = some (.cells #[.bool false, .slice none 0 0, .slice none 0 0, .nilIface, .nilIface, .nilIface, .nilIface, .nilIface, .nilIface, .nilIface, .nilIface, .nilIface, .nilIface, .nilIface, .nilIface, .nilIface, .nilIface, .nilIface, .nilIface, .slice none 0 0] 129 (0, 0)) := by rw [blk_drew, hW]; exact blk_new _ _
      have aD := hi.agr F.drew
      have hG := hGS w1 f
      refine (add_c W.drew (HT.fr F.drew) (hi.fr F.drew) hG (V := fun _ => .nilIface) (v0 := .slice none 0 0) Y (c := noN) (x := []) (fun _ _ => rfl) (fun _ _ => .inl ⟨rfl, rfl⟩) (hr.step aD) (hqb.drop s) (by rw [List.length_drop]; omega) (h3.step aD) hxb hx1 hxl).mono ?_
      rintro e w2 ⟨rfl, V', v', B, N, U, f2⟩
      refine ⟨rfl, f2, ?_⟩
      refine (growF_c w2 (S := Up S W.drew w2) ((HT.fr F.drew).fr1 f2 (by have := HT.lt; have := f.size; simp; omega)) ((hi.fr F.drew).upS f2.size) (fun h => ?_) (by have := HT.lt; have := f.size; omega) B N U ((hp.step aD).upG (hi.fr F.drew) hG f2) hb hl hsl.2 ((hv.step aD).upG (hi.fr F.drew) hG f2) hvb hv1 hvl HPRE.out).mono ?_
      · rcases h with h | h
        · exact hG h
        · have := (Array.getElem?_eq_some_iff.1 Y).1; omega
      · rintro e w3 ⟨r, rfl, N3, f3⟩
        refine ⟨r, rfl, N3.sub fun k hk => ?_, f3⟩
        have z1 := F.drew.size
        have z2 := f2.size
        have z3 := f3.size
        rcases hk with (hk | hk) | hk
        · exact .inl hk
        · exact .inr ⟨by omega, by omega⟩
        · exact .inr ⟨by omega, by omega⟩
    obtain ⟨nq, hnq⟩ : ∃ n, n = q.length := ⟨_, rfl⟩
    obtain ⟨np, hnp⟩ : ∃ n, n = p.length := ⟨_, rfl⟩
    obtain ⟨nx, hnx⟩ : ∃ n, n = x.length := ⟨_, rfl⟩
    obtain ⟨nv, hnv⟩ : ∃ n, n = v.length := ⟨_, rfl⟩
    rw [← hnq] at E1 c3 SH s1 FACT hsl
    rw [← hnp] at E1 SH FACT
    rw [← hnx] at c4 FACT
    rw [← hnv] at FACT
    rw [← hnp, ← hnv]
    have SK : Hid (∀ w', Fr [] w w' → w'.cell? ⟨b, 3, none⟩ = some (.slice qa nq qc) ∧ w'.cell? ⟨b, 4, none⟩ = some (.slice xa nx xc)) := hid fun w' f => ⟨cell_fr c3 f, cell_fr c4 f⟩
    have HSL := hid hsl
    have HBW : Hid (b < w.heap.size) := hid (hi b hbS)
    clear hp hv h1 h2 h3 h4 hnq hnx hnv hnp HT hi hl hql hx1 hxl hv1 hvl hr hbS hok hs hsl hGS
    go_enter Tryd.func74, Tryd.ntmps74
    go_upto_region 6 with (first
      | (go_at_call 78; refine E1.out.mono ?_; rintro e w1 ⟨rfl, h⟩; rw [h]; clear h E1)
      | (go_at_call 93; refine SH.out.mono ?_; rintro e w1 ⟨rfl, f1⟩; have F1 := hid f1; clear f1 SH))
    have FC := hid (FACT.out w1 F1.out)
    obtain ⟨W, hW⟩ : ∃ W, W = w1.alloc (.cells #[.bool false, .slice none 0 0, .slice none 0 0, .nilIface, .nilIface, .nilIface, .nilIface, .nilIface, .nilIface, .nilIface, .nilIface, .nilIface, .nilIface, .nilIface, .nilIface, .nilIface, .nilIface, .nilIface, .nilIface, .slice none 0 0] 129) := ⟨_, rfl⟩
    rw [← hW] at FC
    have F : Hid (Fr [] w W) := hid (by rw [hW]; exact F1.out.alloc _)
    have SZ : Hid (w.heap.size ≤ w1.heap.size) := hid F1.out.size
    clear c3 c4 FACT
    go_upto_region 7 with fail
    rw [← hW]
    clear hW
    refine wp_region_held_drew (S := fun w' => w'.cell? ⟨b, 3, none⟩ = some (.slice qa nq qc) ∧ w'.cell? ⟨b, 4, none⟩ = some (.slice xa nx xc)) (by kernel_rfl) (SK.out _ F.out.drew) (fun hS => ?_)
    refine wpAnyH_take (i := 0) (v := .pointer (some ⟨b, 0, none⟩)) rfl (by kernel_rfl) (by kernel_rfl) (by kernel_rfl) (fun _ _ _ h => h) (.inl ⟨by rfl, fun wx _ => by go_simp⟩) hS ?_
    simp only [Act.put]
    refine wpAnyH_take (i := 1) (v := .pointer (some ⟨b, 0, none⟩)) rfl (by kernel_rfl) (by kernel_rfl) (by kernel_rfl) (fun _ _ _ h => h) (.inl ⟨by rfl, fun wx _ => by go_simp⟩) hS ?_
    simp only [Act.put]
    refine wpAnyH_take (i := 2) (v := .pointer (some ⟨b, 3, none⟩)) rfl (by kernel_rfl) (by kernel_rfl) (by kernel_rfl) (fun _ _ _ h => h) (.inl ⟨by rfl, fun wx _ => by go_simp⟩) hS ?_
    simp only [Act.put]
    refine wpAnyH_take (i := 3) (v := .slice qa nq qc) rfl (by kernel_rfl) (by kernel_rfl) (by kernel_rfl) (fun _ _ _ h => h) (.inl ⟨by rfl, fun wx hX => by obtain ⟨x0, x1⟩ := hX; go_simp⟩) hS ?_
    simp only [Act.put]
    refine wpAnyH_take (i := 4) (v := .int .i64 (s : Int)) rfl (by kernel_rfl) (by kernel_rfl) (by kernel_rfl) (fun _ _ _ h => h) (.inl ⟨by rfl, fun wx _ => by go_simp⟩) hS ?_
    simp only [Act.put]
    refine wpAnyH_take (i := 5) (v := (.slice a' (nq - s) (qc - s))) rfl (by kernel_rfl) (by kernel_rfl) (by kernel_rfl) (fun _ _ _ h => h) (.inl ⟨by rfl, fun wx _ => by have x1 := s1 wx; go_simp⟩) hS ?_
    simp only [Act.put]
    refine wpAnyH_take (i := 6) (v := .pointer (some ⟨b, 0, none⟩)) rfl (by kernel_rfl) (by kernel_rfl) (by kernel_rfl) (fun _ _ _ h => h) (.inl ⟨by rfl, fun wx _ => by go_simp⟩) hS ?_
    simp only [Act.put]
    refine wpAnyH_take (i := 7) (v := .pointer (some ⟨b, 0, none⟩)) rfl (by kernel_rfl) (by kernel_rfl) (by kernel_rfl) (fun _ _ _ h => h) (.inl ⟨by rfl, fun wx _ => by go_simp⟩) hS ?_
    simp only [Act.put]
    refine wpAnyH_take (i := 8) (v := .pointer (some ⟨b, 4, none⟩)) rfl (by kernel_rfl) (by kernel_rfl) (by kernel_rfl) (fun _ _ _ h => h) (.inl ⟨by rfl, fun wx _ => by go_simp⟩) hS ?_
    simp only [Act.put]
    refine wpAnyH_take (i := 9) (v := .slice xa nx xc) rfl (by kernel_rfl) (by kernel_rfl) (by kernel_rfl) (fun _ _ _ h => h) (.inl ⟨by rfl, fun wx hX => by obtain ⟨x0, x1⟩ := hX; go_simp⟩) hS ?_
    simp only [Act.put]
    clear hS
    refine wpAnyH_ready (rs := [10]) (by kernel_rfl) (by simp) ?_
    refine AllReadyH.cons rfl (fun K hK => ?_) AllReadyH.nil
    go_simp
    go_at_call 94
    refine FC.out.mono ?_
    rintro e w2 ⟨rfl, f2, g2⟩
    have F2 := hid (F.out.drew.overT f2 SZ.out)
    have GR := hid g2
    clear f2 g2 FC
    go_simp
    have hS2 := SK.out _ F2.out
    refine hK.out _ _ hS2 (fun _ => ?_)
    clear hK K
    refine wpAnyH_take (i := 11) (v := .int .i64 0) rfl (by kernel_rfl) (by kernel_rfl) (by kernel_rfl) (fun _ _ _ h => h) (.inl ⟨by rfl, fun wx _ => by go_simp⟩) hS2 ?_
    simp only [Act.put, List.getElem_toArray, List.getElem_cons_succ, List.getElem_cons_zero, List.setIfInBounds_toArray, List.set_cons_succ, List.set_cons_zero]
    refine wpAnyH_done (by kernel_rfl) ?_ _
    clear hS2
    go_wp2_with (go_at_call 95; refine GR.out.mono ?_; rintro e w3 ⟨r, rfl, N3, f3⟩; have HN := hid N3; have F3 := hid (F2.out.overT f3 SZ.out); clear N3 f3)
    go_ret2
    exact ⟨.inr ⟨fun h => hqp h.1, r, rfl, HN.out⟩, F3.out⟩
end Go.Proofs.YtmpfnglcmaollaaDoor
namespace Go.Proofs.YtmpfnglcmaollaaDoor
open Go.ChangeShapes Go.WideShapes Go.ChangeAt Go.RowKit

def z32 : Array Value := bvals 32 (fun _ => 0)
theorem infoFar : (Tryd.prog.info? 101).map (·.size) = some 32 := by kernel_rfl
theorem z32_size : z32.size = 32 := bvals_size _ _
theorem z32_one : z32.all (·.oneCell') = true := by kernel_rfl
theorem allocF (w : World) : (Instr.alloc 101 true (.tuple #[])).run Tryd.prog w = .ok (.pointer (some ⟨w.heap.size, 0, none⟩)) (w.alloc (.cells z32 101)) := by kernel_rfl
theorem stVarF {w : World} {p : Nat} (h : w.heap[p]? = some (.cells z32 101 (0, 0))) : (storeVar 101 ⟨p, 0, none⟩ (.agg z32)).run Tryd.prog w = .ok () (w.setRow p z32) :=
  run_storeVar_row w p _ _ _ _ h (by rw [z32_size]; exact infoFar) rfl z32_one
theorem wpList_allocF {ops : Array Oper} {rest : List Oper} {op : Oper} {a : Act} {w : World} {Q : Exit → Act → World → Prop} (hgd : op.guard = none) (ho : op.op = .alloc 101)
    (h : wpList Tryd.prog ops Q rest (a.put op.dst (.pointer (some ⟨w.heap.size, 0, none⟩))) (w.alloc (.cells z32 101))) : wpList Tryd.prog ops Q (op :: rest) a w :=
  wpList_plain hgd fun K hK => by
    unfold Oper.wp execOp
    simp only [ho, Sem.run_bind, allocF, Result.andThen_ok, Sem.run_pure]
    rw [Oper.upon_value]
    exact hK _ _ h
theorem wpList_stF {ops : Array Oper} {rest : List Oper} {op : Oper} {a : Act} {w : World} {Q : Exit → Act → World → Prop} (hgd : op.guard = none) (x y : Operand) (ho : op.op = .store 101 x y)
    {p : Nat} (h0 : w.heap[p]? = some (.cells z32 101 (0, 0))) (hx : a.eval x = .pointer (some ⟨p, 0, none⟩)) (hy : a.eval y = .agg z32) (h : wpList Tryd.prog ops Q rest (a.put op.dst undef) (w.setRow p z32)) : wpList Tryd.prog ops Q (op :: rest) a w :=
  wpList_plain hgd fun K hK => by
    unfold Oper.wp execOp
    simp only [ho, hx, hy, Instr.storeAt, Instr.sureAddr, Sem.run_bind, Sem.run_pure, Result.andThen_ok, stVarF h0]
    exact hK _ _ h
theorem Fr.rowT {S : List Nat} {a b : World} (h : Fr S a b) {p : Nat} (c : Array Value) (hp : p ∈ S ∨ a.heap.size ≤ p) : Fr S a (b.setRow p c) :=
  ⟨h.os, h.tape, h.output, by simpa [World.setRow] using h.size, fun k hk hn => by
    rw [setRow_other _ _ _ _ (by rcases hp with hp | hp <;> intro e <;> subst e; exact hn hp; omega)]; exact h.block k hk hn⟩
theorem asFar_leaf (w : World) (b : Nat) : (Instr.typeAssert (.iface 130 (.pointer (some ⟨b, 0, none⟩))) 84 101 true).run Tryd.prog w = .ok (.tuple #[.agg z32, .bool false]) w := by
  kernel_rfl
set_option maxRecDepth 20000 in
set_option maxHeartbeats 1600000 in
theorem look_leaf (w : World) (tv : Value) (b : Nat) :
    Calls Tryd.prog 73 #[tv, (.iface 130 (.pointer (some ⟨b, 0, none⟩)))] w fun e w' => e = .returned (.tuple #[(.iface 130 (.pointer (some ⟨b, 0, none⟩))), .int .i64 0]) ∧ Fr [] w w' := by
  have ta := asFar_leaf w b
  go_enter Tryd.func73, Tryd.ntmps73
  go_upto_region 1 with fail
  apply wp_region_lit
  refine wpList_val (v := (.iface 130 (.pointer (some ⟨b, 0, none⟩)))) (w' := w) rfl (by go_simp) ?_
  refine wpList_val (v := .tuple #[.agg z32, .bool false]) (w' := w) rfl (by go_simp) ?_
  refine wpList_val (v := .tuple #[.agg z32, .bool false]) (w' := w) rfl (by go_simp) ?_
  refine wpList_val (v := .agg z32) (w' := w) rfl (by go_simp) ?_
  refine wpList_val (v := .bool false) (w' := w) rfl (by go_simp) ?_
  refine wpList_allocF rfl rfl ?_
  refine wpList_stF rfl (.tmp 6) (.tmp 13) rfl (blk_new _ _) (by simp [Act.eval, Act.put]) (by simp [Act.eval, Act.put]) ?_
  have F : Hid (Fr [] w ((w.alloc (.cells z32 101)).setRow w.heap.size z32)) := hid (((Fr.refl _ _).alloc _).rowT _ (.inr (Nat.le_refl _)))
  generalize (w.alloc (.cells z32 101)).setRow w.heap.size z32 = W at F ⊢
  refine wpList_val (v := .bool false) (w' := W) rfl (by go_simp) ?_
  simp only [wpList, Act.put]
  clear ta
  go_wp2
  go_ret2
  exact ⟨rfl, F.out⟩
theorem asFar_stem (w : World) (b : Nat) : (Instr.typeAssert (.iface 121 (.pointer (some ⟨b, 0, none⟩))) 84 101 true).run Tryd.prog w = .ok (.tuple #[.agg z32, .bool false]) w := by
  kernel_rfl
set_option maxRecDepth 20000 in
set_option maxHeartbeats 1600000 in
theorem look_stem (w : World) (tv : Value) (b : Nat) :
    Calls Tryd.prog 73 #[tv, (.iface 121 (.pointer (some ⟨b, 0, none⟩)))] w fun e w' => e = .returned (.tuple #[(.iface 121 (.pointer (some ⟨b, 0, none⟩))), .int .i64 0]) ∧ Fr [] w w' := by
  have ta := asFar_stem w b
  go_enter Tryd.func73, Tryd.ntmps73
  go_upto_region 1 with fail
  apply wp_region_lit
  refine wpList_val (v := (.iface 121 (.pointer (some ⟨b, 0, none⟩)))) (w' := w) rfl (by go_simp) ?_
  refine wpList_val (v := .tuple #[.agg z32, .bool false]) (w' := w) rfl (by go_simp) ?_
  refine wpList_val (v := .tuple #[.agg z32, .bool false]) (w' := w) rfl (by go_simp) ?_
  refine wpList_val (v := .agg z32) (w' := w) rfl (by go_simp) ?_
  refine wpList_val (v := .bool false) (w' := w) rfl (by go_simp) ?_
  refine wpList_allocF rfl rfl ?_
  refine wpList_stF rfl (.tmp 6) (.tmp 13) rfl (blk_new _ _) (by simp [Act.eval, Act.put]) (by simp [Act.eval, Act.put]) ?_
  have F : Hid (Fr [] w ((w.alloc (.cells z32 101)).setRow w.heap.size z32)) := hid (((Fr.refl _ _).alloc _).rowT _ (.inr (Nat.le_refl _)))
  generalize (w.alloc (.cells z32 101)).setRow w.heap.size z32 = W at F ⊢
  refine wpList_val (v := .bool false) (w' := W) rfl (by go_simp) ?_
  simp only [wpList, Act.put]
  clear ta
  go_wp2
  go_ret2
  exact ⟨rfl, F.out⟩
theorem asFar_fork (w : World) (b : Nat) : (Instr.typeAssert (.iface 126 (.pointer (some ⟨b, 0, none⟩))) 84 101 true).run Tryd.prog w = .ok (.tuple #[.agg z32, .bool false]) w := by
  kernel_rfl
set_option maxRecDepth 20000 in
set_option maxHeartbeats 1600000 in
theorem look_fork (w : World) (tv : Value) (b : Nat) :
    Calls Tryd.prog 73 #[tv, (.iface 126 (.pointer (some ⟨b, 0, none⟩)))] w fun e w' => e = .returned (.tuple #[(.iface 126 (.pointer (some ⟨b, 0, none⟩))), .int .i64 0]) ∧ Fr [] w w' := by
  have ta := asFar_fork w b
  go_enter Tryd.func73, Tryd.ntmps73
  go_upto_region 1 with fail
  apply wp_region_lit
  refine wpList_val (v := (.iface 126 (.pointer (some ⟨b, 0, none⟩)))) (w' := w) rfl (by go_simp) ?_
  refine wpList_val (v := .tuple #[.agg z32, .bool false]) (w' := w) rfl (by go_simp) ?_
  refine wpList_val (v := .tuple #[.agg z32, .bool false]) (w' := w) rfl (by go_simp) ?_
  refine wpList_val (v := .agg z32) (w' := w) rfl (by go_simp) ?_
  refine wpList_val (v := .bool false) (w' := w) rfl (by go_simp) ?_
  refine wpList_allocF rfl rfl ?_
  refine wpList_stF rfl (.tmp 6) (.tmp 13) rfl (blk_new _ _) (by simp [Act.eval, Act.put]) (by simp [Act.eval, Act.put]) ?_
  have F : Hid (Fr [] w ((w.alloc (.cells z32 101)).setRow w.heap.size z32)) := hid (((Fr.refl _ _).alloc _).rowT _ (.inr (Nat.le_refl _)))
  generalize (w.alloc (.cells z32 101)).setRow w.heap.size z32 = W at F ⊢
  refine wpList_val (v := .bool false) (w' := W) rfl (by go_simp) ?_
  simp only [wpList, Act.put]
  clear ta
  go_wp2
  go_ret2
  exact ⟨rfl, F.out⟩
theorem asFar_nil (w : World) : (Instr.typeAssert .nilIface 84 101 true).run Tryd.prog w = .ok (.tuple #[.agg z32, .bool false]) w := by
  kernel_rfl
set_option maxRecDepth 20000 in
set_option maxHeartbeats 1600000 in
theorem look_nil (w : World) (tv : Value) :
    Calls Tryd.prog 73 #[tv, .nilIface] w fun e w' => e = .returned (.tuple #[.nilIface, .int .i64 0]) ∧ Fr [] w w' := by
  have ta := asFar_nil w
  go_enter Tryd.func73, Tryd.ntmps73
  go_upto_region 1 with fail
  apply wp_region_lit
  refine wpList_val (v := .nilIface) (w' := w) rfl (by go_simp) ?_
  refine wpList_val (v := .tuple #[.agg z32, .bool false]) (w' := w) rfl (by go_simp) ?_
  refine wpList_val (v := .tuple #[.agg z32, .bool false]) (w' := w) rfl (by go_simp) ?_
  refine wpList_val (v := .agg z32) (w' := w) rfl (by go_simp) ?_
  refine wpList_val (v := .bool false) (w' := w) rfl (by go_simp) ?_
  refine wpList_allocF rfl rfl ?_
  refine wpList_stF rfl (.tmp 6) (.tmp 13) rfl (blk_new _ _) (by simp [Act.eval, Act.put]) (by simp [Act.eval, Act.put]) ?_
  have F : Hid (Fr [] w ((w.alloc (.cells z32 101)).setRow w.heap.size z32)) := hid (((Fr.refl _ _).alloc _).rowT _ (.inr (Nat.le_refl _)))
  generalize (w.alloc (.cells z32 101)).setRow w.heap.size z32 = W at F ⊢
  refine wpList_val (v := .bool false) (w' := W) rfl (by go_simp) ?_
  simp only [wpList, Act.put]
  clear ta
  go_wp2
  go_ret2
  exact ⟨rfl, F.out⟩
theorem look_c {S : Nat → Prop} {w : World} {n : Nd} {v : Value} (tv : Value) (h : NdV S w n v) (hf : ∀ x, n ≠ .far x) :
    Calls Tryd.prog 73 #[tv, v] w fun e w' => e = .returned (.tuple #[v, .int .i64 0]) ∧ Fr [] w w' := by
  cases n with
  | nil => obtain rfl : v = .nilIface := h; exact look_nil w tv
  | far x => exact absurd rfl (hf x)
  | leaf p x => obtain ⟨b, _, _, _, _, _, rfl, _⟩ := h; exact look_leaf w tv b
  | stem p t => obtain ⟨b, _, _, _, _, _, rfl, _⟩ := h; exact look_stem w tv b
  | fork c x => obtain ⟨b, _, _, _, _, _, rfl, _⟩ := h; exact look_fork w tv b
theorem okN.own {n : Nd} {d : Nat} (h : okN d n) : ∀ x, n ≠ .far x := fun x e => by subst e; exact h.elim
end Go.Proofs.YtmpfnglcmaollaaDoor
