/-
  Data blocks laid down.
-/
import Derived.Test.YtnnookkcnmgbfaaGreatJ07
import Derived.Test.YtnnookkcnmgbfaaGreatJ08
import Derived.Test.YtnnookkcnmgbfaaGreatJ14
import Derived.Deep.RegionHeldLaw
import Derived.Test.YtnnookkcnmgbfaaGreatBL
namespace Go.Proofs.YtnnookkcnmgbfaaGreat
open Go.ChangeShapes Go.WideShapes Go.ChangeAt Go.RowKit

theorem RdK.front {w : World} {a : Option Addr} {n c : Nat} {ps : Ps} (h : RdK w (.slice a n c) ps) {k : Nat} (hk : k ≤ ps.length) : RdK w (.slice a k c) (ps.take k) := by
  obtain ⟨a', c', e, hc, h3⟩ := h
  simp only [Value.slice.injEq] at e
  obtain ⟨rfl, rfl, rfl⟩ := e
  have hl : (ps.take k).length = k := by rw [List.length_take]; omega
  refine ⟨a, c, by rw [hl], by omega, fun h0 => ?_⟩
  obtain ⟨b, off, h4, h5⟩ := h3 (by omega)
  refine ⟨b, off, h4, fun j p hj => h5 j p ?_⟩
  rw [List.getElem?_take] at hj
  split at hj
  · exact hj
  · cases hj
theorem RdK.back {w : World} {b off n c : Nat} {ps : Ps} (h : RdK w (.slice (some ⟨b, off, none⟩) n c) ps) {k : Nat} (hk : k ≤ ps.length) : RdK w (.slice (some ⟨b, off + k * 2, none⟩) (n - k) (c - k)) (ps.drop k) := by
  obtain ⟨a', c', e, hc, h3⟩ := h
  simp only [Value.slice.injEq] at e
  obtain ⟨rfl, rfl, rfl⟩ := e
  refine ⟨_, _, by rw [List.length_drop], by rw [List.length_drop]; omega, fun h0 => ?_⟩
  rw [List.length_drop] at h0
  obtain ⟨b', off', h4, h5⟩ := h3 (by omega)
  simp only [Option.some.injEq, Addr.mk.injEq] at h4
  obtain ⟨rfl, rfl, _⟩ := h4
  refine ⟨b, _, rfl, fun j p hj => ?_⟩
  rw [List.getElem?_drop] at hj
  have := h5 _ p hj
  rw [show off + k * 2 + j * 2 = off + (k + j) * 2 from by omega]; exact this
theorem RdK.back0 {w : World} {a : Option Addr} {n c : Nat} {ps : Ps} (h : RdK w (.slice a n c) ps) {k c2 : Nat} (hk : ps.length ≤ k) (a2 : Option Addr) : RdK w (.slice a2 (n - k) c2) (ps.drop k) := by
  obtain ⟨a', c', e, hc, h3⟩ := h
  simp only [Value.slice.injEq] at e
  obtain ⟨rfl, rfl, rfl⟩ := e
  refine ⟨a2, c2, by rw [List.length_drop], by rw [List.length_drop]; omega, fun h0 => ?_⟩
  rw [List.length_drop] at h0; omega

/-- Entries of the index, their keys as they came, their values of the call's own and apart from the file. -/
def IdxC (w0 W : World) (B : Nat) (fv iv : Value) (qs : Ps) : Prop := ∃ cs, W.ownsRow B 47 2 iv qs.length cs ∧
  ∀ (j : Nat) (p : List Nat × List Nat), qs[j]? = some p → ∃ kv vv, cs[j * 2]? = some kv ∧ cs[j * 2 + 1]? = some vv ∧ Rd w0 kv (bv p.1) ∧ W.ownsRow B 5 1 vv p.2.length (bv p.2) ∧ (∀ k, vv.ownBlock = some k → fv.ownBlock ≠ some k) ∧ By p.1 ∧ By p.2 ∧ p.1.length ≤ 140737488355328 ∧ p.2.length ≤ 140737488355328
theorem IdxC.nil (w0 W : World) (B : Nat) (fv : Value) : IdxC w0 W B fv (.slice none 0 0) [] := ⟨[], World.ownsRow_nil _ _ _ _, fun j p h => by simp at h⟩
theorem IdxC.fr {w0 W W' : World} {B : Nat} {fv iv : Value} {qs : Ps} (h : IdxC w0 W B fv iv qs) (f : Fr [] W W') : IdxC w0 W' B fv iv qs := by
  obtain ⟨cs, o, h2⟩ := h
  refine ⟨cs, ownsRow_fr o f, fun j p hj => ?_⟩
  obtain ⟨kv, vv, c0, c1, r0, r1, b0⟩ := h2 j p hj
  exact ⟨kv, vv, c0, c1, r0, ownsRow_fr r1 f, b0⟩
/-- The file has grown. -/
theorem IdxC.grow {w0 W W' : World} {B p : Nat} {fv fv' iv : Value} {qs : Ps} {xs ys : List Nat} (h : IdxC w0 W B fv iv qs) (hw : Wt W B p fv ys) (g : WtG W W' B p fv fv' xs) : IdxC w0 W' B fv' iv qs := by
  obtain ⟨cs, o, h2⟩ := h
  refine ⟨cs, ownsRow_of_block o fun k hk => g.fr.block k (o.lt k hk).2 ?_, fun j q hj => ?_⟩
  · simp only [List.mem_cons, Option.mem_toList, not_or]
    exact ⟨fun e => own_not o hw.at' (by decide) (by rw [← e]; exact hk), fun e => own_types o hw.own (by decide) k hk e⟩
  · obtain ⟨kv, vv, c0, c1, r0, r1, d, b0⟩ := h2 j q hj
    refine ⟨kv, vv, c0, c1, r0, g.keep r1 (own_not r1 hw.at' (by decide)) d, fun k hk => ?_, b0⟩
    rcases g.blk with e | e
    · rw [e]; exact d k hk
    · intro e2
      have := e k e2
      have := (r1.lt k hk).2
      omega
theorem IdxC.rd {w0 w : World} {B : Nat} {fv iv : Value} {qs : Ps} (h : IdxC w0 w B fv iv qs) (f : Fr [] w0 w) : RdK w iv qs := by
  obtain ⟨cs, o, h2⟩ := h
  rcases o.2 with ⟨rfl, h0⟩ | ⟨g, cap, cur, rfl, _, h3, h4, h5⟩
  · have : qs = [] := List.eq_nil_of_length_eq_zero h0
    subst this
    exact RdK.nil w
  · refine ⟨_, cap, rfl, h4, fun _ => ⟨g, 0, rfl, fun j p hj => ?_⟩⟩
    obtain ⟨kv, vv, c0, c1, r0, r1, _, b0, b1, l0, l1⟩ := h2 j p hj
    have q0 := o.cells rfl _ _ c0
    have q1 := o.cells rfl _ _ c1
    rw [Addr.add_lit, Nat.zero_add] at q0 q1
    obtain ⟨ka, kc, rfl⟩ := r0.form
    obtain ⟨va, vc, rfl, _⟩ := ownsRow_slice r1
    rw [bv_len] at q0
    refine ⟨ka, kc, va, vc, by rw [Nat.zero_add]; exact q0, by rw [Nat.zero_add]; exact q1, by have := r0.fr f; rwa [bv_len] at this, Rd.ownB r1, b0, b1, l0, l1⟩
theorem IdxC.app {w0 W W' : World} {B : Nat} {fv iv iv' kv vv : Value} {qs : Ps} {p : List Nat × List Nat} {cs : List Value} (o : W.ownsRow B 47 2 iv qs.length cs)
    (h : ∀ (j : Nat) (p : List Nat × List Nat), qs[j]? = some p → ∃ kv vv, cs[j * 2]? = some kv ∧ cs[j * 2 + 1]? = some vv ∧ Rd w0 kv (bv p.1) ∧ W.ownsRow B 5 1 vv p.2.length (bv p.2) ∧ (∀ k, vv.ownBlock = some k → fv.ownBlock ≠ some k) ∧ By p.1 ∧ By p.2 ∧ p.1.length ≤ 140737488355328 ∧ p.2.length ≤ 140737488355328)
    (rk : Rd w0 kv (bv p.1)) (ov : W.ownsRow B 5 1 vv p.2.length (bv p.2)) (hd : ∀ k, vv.ownBlock = some k → fv.ownBlock ≠ some k) (bk : By p.1) (bw : By p.2) (lk : p.1.length ≤ 140737488355328) (lv : p.2.length ≤ 140737488355328)
    (o' : W'.ownsRow B 47 2 iv' (qs.length + 1) (cs ++ [kv, vv])) (g : W.grownBy W' iv.ownBlock) : IdxC w0 W' B fv iv' (qs ++ [p]) := by
  refine ⟨cs ++ [kv, vv], by rw [List.length_append]; exact o', fun j p' hj => ?_⟩
  have hcl := o.1
  by_cases hjl : j < qs.length
  · rw [List.getElem?_append_left hjl] at hj
    obtain ⟨k1, v1, c0, c1, r0, r1, d, b0⟩ := h j p' hj
    exact ⟨k1, v1, by rw [List.getElem?_append_left (by omega)]; exact c0, by rw [List.getElem?_append_left (by omega)]; exact c1, r0, own_stays o g r1 (by decide), d, b0⟩
  · have hje : j = qs.length := by
      rcases Nat.lt_or_ge j (qs.length + 1) with h' | h'
      · omega
      · rw [List.getElem?_eq_none (by simp; omega)] at hj; cases hj
    subst hje
    rw [List.getElem?_append_right (Nat.le_refl _), Nat.sub_self] at hj
    simp at hj
    subst hj
    refine ⟨kv, vv, ?_, ?_, rk, own_stays o g ov (by decide), hd, bk, bw, lk, lv⟩
    · rw [List.getElem?_append_right (by omega), show qs.length * 2 - cs.length = 0 from by omega]; rfl
    · rw [List.getElem?_append_right (by omega), show qs.length * 2 + 1 - cs.length = 1 from by omega]; rfl

/-- append(own, x) for a pair. -/
theorem wpList_append_kv {w : World} {ops : Array Oper} {rest : List Oper} {o : Oper} {a : Act} {Q : Exit → Act → World → Prop} (hgd : o.guard = none) (s x : Operand)
    (ho : o.op = .call { callee := .builtin .append, args := #[s, x], argTypes := #[36, 36] }) (base : Nat) (hbase : base ≤ w.heap.size) (v : Value) (n : Nat) (xs : List Value) (hs : a.eval s = v) (hown : w.ownsRow base 47 2 v n xs) (G : Nat) (hx : a.eval x = .slice (some ⟨G, 0, none⟩) 1 1) {a1 a2 : Option Addr} {n1 c1 n2 c2 : Nat} {T : TypeId} (hG : w.heap[G]? = some (.cells #[.slice a1 n1 c1, .slice a2 n2 c2] T (0, 0)))
    (hl : n ≤ 1000000000)
    (h : ∀ v' w', w'.ownsRow base 47 2 v' (n + 1) (xs ++ [.slice a1 n1 c1, .slice a2 n2 c2]) → w.grownBy w' v.ownBlock → (v'.ownBlock = v.ownBlock ∨ v'.ownBlock = some w.heap.size) → wpList Tryz.prog ops Q rest (a.put o.dst v') w') :
    wpList Tryz.prog ops Q (o :: rest) a w := by
  obtain ⟨i0, hi, hz0, hz1, hz2⟩ := info_parts infoP
  refine wpList_append_own_at w hgd s x 36 ho base 47 i0 _ 2 48 Tryz.underlying36 hi hz0 hz1 hz2 rfl (by decide) v n xs hs hown ⟨G, 0, none⟩ 1 1 [.slice a1 n1 c1, .slice a2 n2 c2] hx rfl ?_ ?_ (by unfold maxLen; omega) (by omega) hbase fun v' w' h1 h2 _ h3 => h v' w' h1 h2 h3
  · intro j u hj
    rw [Addr.add_lit, Nat.zero_add, blk_cell hG, ← Array.getElem?_toList]
    exact hj
  · intro u hu
    simp at hu
    rcases hu with rfl | rfl <;> rfl
def sl : Value → Nat
  | .slice _ n _ => n
  | _ => 0
/-- What dataBlocks holds ahead of a round. -/
structure DB (w0 wr : World) (p N most r : Nat) (bits tab : Int) (ps : Ps) (D : List Ps) (R : Ps) (lv iv fv : Value) : Prop where
  eq : D ++ chs most R = chs most ps
  rd : RdK w0 lv R
  sub : R.Sublist ps
  wt : Wt wr w0.heap.size p fv (datL r D)
  ix : IdxC w0 wr w0.heap.size fv iv (idxF r 0 D)
  pb : wr.heap[N]? = some (.cells #[.int .i64 (most : Int), .int .i64 (r : Int), .int .i64 bits, .int .i64 tab] 38 (0, 0))
  fr : Fr [] w0 wr
theorem Lim.sub {ps qs : Ps} (h : Lim ps) (hs : qs.Sublist ps) : Lim qs := by
  refine ⟨Nat.le_trans hs.length_le h.n, ?_⟩
  rw [tot_all]
  refine Nat.le_trans ?_ h.t
  rw [tot_all]
  exact sub_sum (hs.map _)
theorem DB.quiet {w0 wr W : World} {p N most r : Nat} {bits tab : Int} {ps : Ps} {D : List Ps} {R : Ps} {lv iv fv : Value} (h : DB w0 wr p N most r bits tab ps D R lv iv fv) (f : Fr [] wr W) : DB w0 W p N most r bits tab ps D R lv iv fv :=
  ⟨h.eq, h.rd, h.sub, h.wt.fr f, h.ix.fr f, f.at h.pb (by simp), h.fr.trans f⟩
set_option maxRecDepth 20000 in
set_option maxHeartbeats 6400000 in
theorem dataBlocks_c (w0 w : World) {v : Value} {ps : Ps} (h : RdK w0 v ps) (F0 : Fr [] w0 w) (p : Nat) (hp : w0.heap.size ≤ p) (hw : Wt w w0.heap.size p (.slice none 0 0) []) (hl : Lim ps) (hr : Rises ps) (most r : Nat) (hm : most ≤ 65536) (hr1 : 1 ≤ r) (hr2 : r ≤ 64) (bits tab : Int) :
    Calls Tryz.prog 47 #[.pointer (some ⟨p, 0, none⟩), v, .agg #[.int .i64 (most : Int), .int .i64 (r : Int), .int .i64 bits, .int .i64 tab]] w fun e w' => ∃ iv fv, e = .returned iv ∧ Wt w' w0.heap.size p fv (datL r (chs most ps)) ∧ IdxC w0 w' w0.heap.size fv iv (idxF r 0 (chs most ps)) ∧ Fr [] w0 w' := by
  have HL := hid hl
  have HR := hid hr
  have HBY := hid h.by
  have N0 : Hid ((w.alloc (.cells #[.int .i64 (most : Int), .int .i64 (r : Int), .int .i64 bits, .int .i64 tab] 38)).heap[w.heap.size]? = some (.cells #[.int .i64 (most : Int), .int .i64 (r : Int), .int .i64 bits, .int .i64 tab] 38 (0, 0))) := hid (blk_new _ _)
  have FA : Fr [] w (w.alloc (.cells #[.int .i64 (most : Int), .int .i64 (r : Int), .int .i64 bits, .int .i64 tab] 38)) := (Fr.refl _ _).alloc _
  have D0 : Hid (DB w0 (w.alloc (.cells #[.int .i64 (most : Int), .int .i64 (r : Int), .int .i64 bits, .int .i64 tab] 38)) p w.heap.size most r bits tab ps [] ps v (.slice none 0 0) (.slice none 0 0)) := hid ⟨rfl, h, List.Sublist.refl _, hw.fr FA, IdxC.nil _ _ _ _, N0.out, F0.trans FA⟩
  obtain ⟨va, vc, hv, _⟩ := h
  clear hl hr hw FA N0
  subst hv
  go_enter Tryz.func47, Tryz.ntmps47
  go_wp2_with fail
  go_loopw [1, 7] (fun v1 v7 wr => ∃ D R fv, DB w0 wr p w.heap.size most r bits tab ps D R v1 v7 fv) (fun v1 _ _ => sl v1)
  case atStart => exact ⟨[], ps, _, D0.out⟩
  case round =>
    obtain ⟨D, R, fv, hdb⟩ := hrel
    have HD := hid hdb
    obtain ⟨la, lc, hlv, hlc, k1⟩ := hdb.rd
    subst hlv
    clear D0 hdb
    by_cases h0 : R = []
    · have hz : R.length = 0 := by rw [h0]; rfl
      have HE : Hid (D = chs most ps) := hid (by have := HD.out.eq; rw [h0, chs_nil, List.append_nil] at this; exact this)
      clear h0
      obtain ⟨ia, ic, hi, _⟩ := ownsRow_slice HD.out.ix.choose_spec.1
      subst hi
      go_wp2
      go_ret
      refine ⟨_, fv, rfl, ?_, ?_, HD.out.fr⟩
      · rw [← HE.out]; exact HD.out.wt
      · rw [← HE.out]; exact HD.out.ix
    · have hpos : 0 < R.length := List.length_pos_iff.2 h0
      obtain ⟨b, off, hab, m1⟩ := k1 hpos
      subst hab
      have hn1 := fil_pos (most := most) h0
      have hn2 := fil_le most R
      have HCH := hid (chs_cons (most := most) h0)
      have LR := hid (HL.out.sub HD.out.sub)
      have FC := hid (filling_c wr (HD.out.rd.fr HD.out.fr) LR.out most (by omega))
      have hlR := LR.out.n
      obtain ⟨n, hn⟩ : ∃ n, n = fil most R := ⟨_, rfl⟩
      rw [← hn] at hn1 hn2 HCH FC
      have HNF := hid hn
      have c0 : wr.cell? ⟨w.heap.size, 0, none⟩ = some (.int .i64 (most : Int)) := by rw [blk_cell HD.out.pb]; rfl
      have M1 := hid m1
      clear h0 k1 hn m1
      go_upto_region 4 with (go_at_call 87; refine FC.out.mono ?_; rintro e W1 ⟨rfl, f1⟩; have D1 := hid (HD.out.quiet f1); clear f1)
      have q1 : W1.cell? ⟨w.heap.size, 1, none⟩ = some (.int .i64 (r : Int)) := by rw [blk_cell D1.out.pb]; rfl
      have hnc : (n : Int) ≤ (lc : Int) := by omega
      have hnc2 : n ≤ lc := by omega
      have RC := hid (HR.out.sub ((List.take_sublist n R).trans HD.out.sub))
      have LC := hid (HL.out.sub ((List.take_sublist n R).trans HD.out.sub))
      have hcl := LC.out.n
      have hcb := (blk_len_le (ps := R.take n) (r := r) (by have := LC.out.t; omega))
      have hct := LC.out.t
      have BC := hid (build_ok W1.drew (((HD.out.rd.front hn2).fr D1.out.fr).fr (Fr.refl _ _).drew) hcl r hr1 hr2 RC.out (by omega))
      clear FC c0
      go_region_with (go_at_call 46; refine BC.out.mono ?_; rintro e W2 ⟨bvl, rfl, o2, f2⟩; have O2 := hid o2; have D2 := hid (D1.out.quiet ((Fr.refl [] W1).drew.trans f2)); have FS := hid (show W1.heap.size ≤ W2.heap.size from f2.size); clear o2 f2)
      obtain ⟨ba, bc, hbv, _⟩ := ownsRow_slice O2.out
      subst hbv
      have hde := HD.out.eq
      have hdl := (HL.out.dat r most).1
      have hmem : Hid (R.take n ∈ chs most ps) := hid (by rw [← hde, HCH.out]; simp)
      have hdat : (datL r D).length + ((blk r (R.take n)).length + 4) ≤ 142000000 := by
        refine Nat.le_trans ?_ hdl
        rw [← hde, HCH.out, datL_append, datL_cons, List.length_append, List.length_append, sealL_len]
        omega
      have BYC := hid (show By (blk r (R.take n)) from blk_by (HBY.out.sub ((List.take_sublist n R).trans HD.out.sub)) r)
      have hs2 : w0.heap.size ≤ W2.heap.size := D2.out.fr.size
      have SC := hid (sealed_c W2 hs2 D2.out.wt O2.out (fun k hk => by
        intro e
        have h1 := (O2.out.lt k hk).1
        have h2 := (D1.out.wt.own.lt k e).2
        have h3 : W1.drew.heap.size = W1.heap.size := rfl
        omega) BYC.out (by omega))
      obtain ⟨dl, hdl2⟩ : ∃ dl, dl = (datL r D).length := ⟨_, rfl⟩
      obtain ⟨bl, hbl2⟩ : ∃ bl, bl = (blk r (R.take n)).length := ⟨_, rfl⟩
      have HDL := hid hdl2
      have HBL := hid hbl2
      rw [← hdl2, ← hbl2] at hdat SC
      rw [← hbl2] at ⊢
      clear hdl2 hbl2 hde hdl BC q1 hcb
      go_upto_region 6 with (go_at_call 51; refine SC.out.mono ?_; rintro e W3 ⟨fv2, rfl, g3⟩; have G3 := hid g3; clear g3)
      have WT3 : Hid (Wt W3 w0.heap.size p fv2 (datL r (D ++ [R.take n]))) := hid (by rw [datL_snoc]; exact G3.out.wt)
      have IX3 := hid (D2.out.ix.grow D2.out.wt G3.out)
      have PB3 : Hid (W3.heap[w.heap.size]? = some (.cells #[.int .i64 (most : Int), .int .i64 (r : Int), .int .i64 bits, .int .i64 tab] 38 (0, 0))) := hid (G3.out.fr.at D2.out.pb (by
        simp only [List.mem_cons, Option.mem_toList, not_or]
        refine ⟨fun e => ?_, fun e => own_not D2.out.wt.own D2.out.pb (by decide) e⟩
        have h1 := D2.out.pb
        have h2 := D2.out.wt.at'
        rw [e, h2] at h1
        simp at h1))
      have FR3 : Hid (Fr [] w0 W3) := hid (((D2.out.fr.mono (by simp)).trans G3.out.fr).shed (fun k hk hlt => by
        simp only [List.mem_cons, Option.mem_toList] at hk
        rcases hk with e | e
        · omega
        · have := (D2.out.wt.own.lt k e).1; omega))
      obtain ⟨W4, hW4⟩ : ∃ W4, W4 = W3.alloc (.cells #[.int .u64 (dl : Int), .int .u64 (bl : Int)] 52) := ⟨_, rfl⟩
      rw [← hW4]
      have F4 : Hid (Fr [] W3 W4) := hid (by rw [hW4]; exact (Fr.refl _ _).alloc _)
      have B4 : Hid (W4.heap[W3.heap.size]? = some (.cells #[.int .u64 (dl : Int), .int .u64 (bl : Int)] 52 (0, 0))) := hid (by rw [hW4]; exact blk_new _ _)
      clear hW4 SC D1 D2 G3 O2 FS hs2
      have SK : Hid (∀ w', Fr [] W4 w' → w'.cell? ⟨W3.heap.size, 0, none⟩ = some (.int .u64 (dl : Int)) ∧ w'.cell? ⟨W3.heap.size, 1, none⟩ = some (.int .u64 (bl : Int))) := hid fun w' f => by
        have := f.at B4.out (by simp)
        exact ⟨by rw [blk_cell this]; rfl, by rw [blk_cell this]; rfl⟩
      have hY1 := hid (show (putL dl).length + (putL bl).length ≤ 140737488355328 from by have := putL_len10 (n := dl) (by omega); have := putL_len10 (n := bl) (by omega); omega)
      obtain ⟨Z, hZ⟩ : ∃ Z, Z = (putL dl ++ putL bl).length := ⟨_, rfl⟩
      have HZ := hid hZ
      clear hZ
      go_region_held_law (fun w' => w'.cell? ⟨W3.heap.size, 0, none⟩ = some (.int .u64 (dl : Int)) ∧ w'.cell? ⟨W3.heap.size, 1, none⟩ = some (.int .u64 (bl : Int)))
        (first | exact SK.out _ (Fr.refl [] W4).drew | exact SK.out _ F7.out | exact SK.out _ F6.out | exact SK.out _ F5.out)
        (first
          | (refine step_append_rdZ rfl _ _ rfl W4.drew.heap.size (ownsRow_fr O5.out G6.out) rfl (Rd.ownB O6.out) rfl hY1.out F6.out.size Z rfl HZ.out ?_; intro a7 k7 W7 o7 g7 q7; have O7 := hid o7; have F7 := hid (F6.out.grown g7 (fun k hk => .inr (O5.out.lt k hk).1)); clear o7 g7 q7)
          | (go_at_call 88; have ff := F5.out; clear ff; refine (put_c _ bl (by omega)).mono ?_; rintro e W6 ⟨v6, rfl, o6, f6⟩; obtain ⟨a6, k6, rfl, _⟩ := ownsRow_slice o6; have O6 := hid o6; have G6 := hid f6; have F6 := hid (F5.out.trans f6); clear o6 f6)
          | (go_at_call 88; refine (put_c _ dl (by omega)).mono ?_; rintro e W5 ⟨v5, rfl, o5, f5⟩; obtain ⟨a5, k5, rfl, _⟩ := ownsRow_slice o5; have O5 := hid o5; have F5 := hid ((Fr.refl [] W4).drew.trans f5); clear o5 f5))
      have F37 := hid (F4.out.trans F7.out)
      have FR7 := hid (FR3.out.trans F37.out)
      have hil : n - 1 < R.length := by omega
      obtain ⟨ka, kc, va, vc, P⟩ := M1.out (n - 1) _ (ps_at hil)
      have z1 := cell_fr FR7.out P.ck
      have RK := hid P.rk
      have BK := hid P.bk
      have LK := hid P.lk
      dsimp only at z1 RK BK LK
      have hni : ((n : Int) - 1).toNat = n - 1 := by omega
      have hni2 : (0 : Int) ≤ (n : Int) - 1 := by omega
      have hni3 : (n : Int) - 1 < (R.length : Int) := by omega
      obtain ⟨cs7, ow7, ix7⟩ := IX3.out.fr F37.out
      obtain ⟨il, hil2⟩ : ∃ il, il = (idxF r 0 D).length := ⟨_, rfl⟩
      have HIL := hid hil2
      rw [← hil2] at ow7
      clear hil2
      have hDl : il ≤ 1000000 := by
        have h1 := (HL.out.dat r most).2
        have h2 := HL.out.n
        have h3 := congrArg List.length HD.out.eq
        have h4 := idxF_len r D 0
        rw [HIL.out]
        rw [List.length_append] at h3; omega
      clear P M1
      obtain ⟨W8, hW8⟩ : ∃ W8, W8 = W7.alloc (.cells #[.slice ka (kA R (n - 1)).length kc, .slice a7 Z k7] 47) := ⟨_, rfl⟩
      have F8 : Hid (Fr [] W7 W8) := hid (by rw [hW8]; exact (Fr.refl _ _).alloc _)
      have B8 : Hid (W8.heap[W7.heap.size]? = some (.cells #[.slice ka (kA R (n - 1)).length kc, .slice a7 Z k7] 47 (0, 0))) := hid (by rw [hW8]; exact blk_new _ _)
      have hb8 : w0.heap.size ≤ W8.heap.size := Nat.le_trans FR7.out.size F8.out.size
      have OW8 := hid (ownsRow_fr ow7 F8.out)
      have IX7 := hid ix7
      obtain ⟨ia, ic, hiv, _⟩ := ownsRow_slice ow7
      subst hiv
      clear ow7 ix7 SK
      generalize hkl : (kA R (n - 1)).length = kl at *
      have HKL := hid hkl
      clear hkl
      go_upto_region 8 with (at_builtin; rw [← hW8]; refine wpList_append_kv rfl _ _ rfl w0.heap.size hb8 _ _ _ rfl OW8.out W7.heap.size rfl B8.out (by omega) ?_; intro v9 W9 o9 g9 q9; have O9 := hid o9; have G9 := hid g9; clear o9 g9 q9)
      have FIN : Hid (∀ lv, RdK w0 lv (R.drop n) → DB w0 W9 p w.heap.size most r bits tab ps (D ++ [R.take n]) (R.drop n) lv v9 fv2) := hid fun lv hlv => by
        have hcl2 : (R.take n).length = n := by rw [List.length_take]; omega
        have F38 := F37.out.trans F8.out
        have hkv : v9.ownBlock = v9.ownBlock := rfl
        have hne : ∀ k, (Value.slice ia il ic).ownBlock = some k → fv2.ownBlock ≠ some k := own_types OW8.out (WT3.out.fr F38).own (by decide)
        have e1 : idxF r 0 (D ++ [R.take n]) = idxF r 0 D ++ [(kA R (n - 1), putL dl ++ putL bl)] := by
          rw [idxF_snoc, Nat.zero_add, ← HDL.out, ← HBL.out]
          congr 1
          unfold lastK
          rw [hcl2, (kA_take R (show n - 1 < n by omega)).1]
        have ow9 := O9.out
        have ow8 := OW8.out
        rw [HIL.out] at ow8 ow9
        refine ⟨?_, hlv, (List.drop_sublist n R).trans HD.out.sub, ?_, ?_, ?_, ?_⟩
        · rw [List.append_assoc, List.singleton_append, ← HD.out.eq, HCH.out]
        · refine ⟨?_, ?_⟩
          · rw [G9.out.block p (blk_lt (WT3.out.fr F38).at') (fun e => own_not OW8.out (WT3.out.fr F38).at' (by decide) e.symm)]
            exact (WT3.out.fr F38).at'
          · refine ownsRow_of_block (WT3.out.fr F38).own fun k hk => G9.out.block k ((WT3.out.fr F38).own.lt k hk).2 (fun e => hne k e.symm hk)
        · rw [e1]
          refine IdxC.app (kv := .slice ka kl kc) (vv := .slice a7 Z k7) (p := (kA R (n - 1), putL dl ++ putL bl)) ow8 (fun j q hj => ?_) (by have := RK.out; exact this) ?_ ?_ BK.out ((putL_by _).append (putL_by _)) (by have h1 := LK.out; have h2 := HKL.out; show (kA R (n - 1)).length ≤ _; omega) (by rw [List.length_append]; exact hY1.out) ow9 (by rw [← HIL.out]; exact G9.out)
          · obtain ⟨kv, vv, c0, c1, r0, r1, d, b0⟩ := IX7.out j q hj
            exact ⟨kv, vv, c0, c1, r0, ownsRow_fr r1 F8.out, d, b0⟩
          · exact own_base (ownsRow_fr O7.out F8.out) (by have h1 := F4.out.size; have h2 := FR3.out.size; have h3 : W4.drew.heap.size = W4.heap.size := rfl; omega)
          · intro k hk e
            have h1 := (O7.out.lt k hk).1
            have h2 := (WT3.out.own.lt k e).2
            have h3 : W4.drew.heap.size = W4.heap.size := rfl
            have h4 := F4.out.size
            omega
        · rw [G9.out.block _ (blk_lt (F38.at PB3.out (by simp))) (fun e => own_not OW8.out (F38.at PB3.out (by simp)) (by decide) e.symm)]
          exact F38.at PB3.out (by simp)
        · exact (FR7.out.trans F8.out).grown G9.out (fun k hk => .inr (OW8.out.lt k hk).1)
      have RDB := hid HD.out.rd
      have hRn : R.length - n < R.length := by omega
      clear HD HDL HBL WT3 IX3 PB3 FR3 F4 B4 O5 F5 O6 G6 F6 O7 F7 F37 FR7 z1 RK BK LK F8 B8 OW8 IX7 O9 G9 hW8
      by_cases hec : lc = n
      · have hRl : R.length = n := by omega
        have FF := hid (fun (a2 : Option Addr) (c2 : Nat) => FIN.out _ (RDB.out.back0 (k := n) (c2 := c2) (by omega) a2))
        have hR0 : Hid (R.length - n = 0) := hid (by omega)
        clear hec
        go_wp2
        go_roundw
        case rel => exact ⟨_, _, _, by have := FF.out (if lc = n then some { block := b, off := off } else some { block := b, off := off + n * 2 }) (lc - n); rw [hR0.out] at this; exact this⟩
        case measure => simp only [sl]; omega
      · have FF := hid (FIN.out _ (RDB.out.back hn2))
        go_wp2
        go_roundw
        case rel => exact ⟨_, _, _, FF.out⟩
        case measure => simp only [sl]; omega
end Go.Proofs.YtnnookkcnmgbfaaGreat
namespace Go.Proofs.YtnnookkcnmgbfaaGreat
open Go.ChangeShapes Go.WideShapes Go.ChangeAt Go.RowKit

theorem sizeKV : (Tryz.prog.info? 47).map (·.size) = some 2 := by kernel_rfl
theorem sizeCo : (Tryz.prog.info? 157).map (·.size) = some 2 := by kernel_rfl
/-- An entry of its own memory. -/
structure EnT (w w' : World) (k v : List Nat) (kv vv : Value) : Prop where
  ok : w'.ownsRow w.heap.size 5 1 kv k.length (bv k)
  ov : w'.ownsRow w.heap.size 5 1 vv v.length (bv v)
  fr : Fr [] w w'
theorem EnT.set {w X : World} {k v : List Nat} {kv vv : Value} (h : EnT w X k v kv vv) {R : Nat} (hR : w.heap.size ≤ R) (z1 : kv.ownBlock ≠ some R) (z2 : vv.ownBlock ≠ some R) (j : Nat) (x : Value) : EnT w (X.setCell ⟨R, j, none⟩ x) k v kv vv :=
  ⟨ownsRow_of_block h.ok fun q hq => blk_setne _ _ _ (fun e => by subst e; exact z1 hq), ownsRow_of_block h.ov fun q hq => blk_setne _ _ _ (fun e => by subst e; exact z2 hq), h.fr.set _ _ (.inr hR)⟩
set_option maxRecDepth 20000 in
set_option maxHeartbeats 6400000 in
theorem entry_c (w : World) {p s : Int} {ka va : Option Addr} {kc vc : Nat} {k v : List Nat} (rk : Rd w (.slice ka k.length kc) (bv k)) (rv : Rd w (.slice va v.length vc) (bv v)) (hk : k.length ≤ 1000000000) (hv : v.length ≤ 1000000000) :
    Calls Tryz.prog 100 #[.agg #[.int .i64 p, .int .i64 s, .slice ka k.length kc, .slice va v.length vc]] w fun e w' => ∃ kv vv, e = .returned (.agg #[kv, vv]) ∧ EnT w w' k v kv vv := by
  obtain ⟨W, hW⟩ : ∃ W, W = ((w.alloc (.cells #[.int .i64 p, .int .i64 s, .slice ka k.length kc, .slice va v.length vc] 161)).alloc (.cells #[.slice none 0 0, .slice none 0 0] 47)).drew := ⟨_, rfl⟩
  have FA : Hid (Fr [] w W) := by refine hid ?_; rw [hW]; exact (((Fr.refl [] w).alloc _).alloc _).drew
  have X0 : W.heap[w.heap.size]? = some (.cells #[.int .i64 p, .int .i64 s, .slice ka k.length kc, .slice va v.length vc] 161 (0, 0)) := by
    rw [hW, blk_drew, blk_old _ _ (by simp)]; exact blk_new _ _
  have HR : Hid (W.heap[w.heap.size + 1]? = some (.cells #[.slice none 0 0, .slice none 0 0] 47 (0, 0))) := by
    refine hid ?_
    rw [hW, blk_drew]; exact new_at _ _ (by simp)
  have hsz : w.heap.size + 1 < W.heap.size := blk_lt HR.out
  have SK : Hid (∀ w', Fr [] W w' → w'.cell? ⟨w.heap.size, 2, none⟩ = some (.slice ka k.length kc) ∧ w'.cell? ⟨w.heap.size, 3, none⟩ = some (.slice va v.length vc)) := hid fun w' f => by
    have hx := f.at X0 (by simp)
    exact ⟨by rw [blk_cell hx]; rfl, by rw [blk_cell hx]; rfl⟩
  have SY : Hid (∀ w' j x j' x', Fr [] W w' → ((w'.setCell ⟨w.heap.size + 1, j, none⟩ x).setCell ⟨w.heap.size + 1, j', none⟩ x').cell? ⟨w.heap.size, 2, none⟩ = some (.slice ka k.length kc) ∧ ((w'.setCell ⟨w.heap.size + 1, j, none⟩ x).setCell ⟨w.heap.size + 1, j', none⟩ x').cell? ⟨w.heap.size, 3, none⟩ = some (.slice va v.length vc)) := hid fun w' j x j' x' f => by
    have hx : ((w'.setCell ⟨w.heap.size + 1, j, none⟩ x).setCell ⟨w.heap.size + 1, j', none⟩ x').heap[w.heap.size]? = some (.cells #[.int .i64 p, .int .i64 s, .slice ka k.length kc, .slice va v.length vc] 161 (0, 0)) := by rw [blk_setne _ _ _ (by omega), blk_setne _ _ _ (by omega)]; exact f.at X0 (by simp)
    exact ⟨by rw [blk_cell hx]; rfl, by rw [blk_cell hx]; rfl⟩
  have RK := hid rk
  have RV := hid rv
  clear rk rv X0
  go_enter Tryz.func100, Tryz.ntmps100
  go_upto_region 1 with fail
  refine wp_region_held_drew (S := fun w' => w'.cell? ⟨w.heap.size, 2, none⟩ = some (.slice ka k.length kc) ∧ w'.cell? ⟨w.heap.size, 3, none⟩ = some (.slice va v.length vc)) (by kernel_rfl) (by rw [← hW]; exact SK.out _ (Fr.refl _ _)) (fun hS => ?_)
  rw [← hW] at hS ⊢
  clear hW
  refine wpAnyH_take (i := 0) (v := .pointer (some ⟨w.heap.size, 2, none⟩)) rfl (by kernel_rfl) (by kernel_rfl) (by kernel_rfl) (fun _ _ _ h => h) (.inl ⟨by rfl, fun wx _ => by go_simp⟩) hS ?_
  simp only [Act.put]
  refine wpAnyH_take (i := 1) (v := .slice ka k.length kc) rfl (by kernel_rfl) (by kernel_rfl) (by kernel_rfl) (fun _ _ _ h => h) (.inl ⟨by rfl, fun wx hX => by obtain ⟨x0, x1⟩ := hX; go_simp⟩) hS ?_
  simp only [Act.put]
  refine wpAnyH_take (i := 3) (v := .pointer (some ⟨w.heap.size, 3, none⟩)) rfl (by kernel_rfl) (by kernel_rfl) (by kernel_rfl) (fun _ _ _ h => h) (.inl ⟨by rfl, fun wx _ => by go_simp⟩) hS ?_
  simp only [Act.put]
  refine wpAnyH_take (i := 4) (v := .slice va v.length vc) rfl (by kernel_rfl) (by kernel_rfl) (by kernel_rfl) (fun _ _ _ h => h) (.inl ⟨by rfl, fun wx hX => by obtain ⟨x0, x1⟩ := hX; go_simp⟩) hS ?_
  simp only [Act.put]
  clear hS
  refine wpAnyH_ready (rs := [2]) (by kernel_rfl) (by simp) ?_
  refine AllReadyH.cons rfl (fun K hK => ?_) AllReadyH.nil
  go_simp
  refine (clone_c (w := W) (RK.out.fr FA.out) (by omega)).mono ?_
  rintro e' w4 ⟨ck, rfl, ok, fk⟩
  have F4 := hid (FA.out.trans fk)
  obtain ⟨ak, qk, rfl, _⟩ := ownsRow_slice ok
  refine hK.out _ _ (SK.out _ fk) (fun _ => ?_)
  clear hK K
  refine wpAnyH_ready (rs := [5]) (by kernel_rfl) (by simp) ?_
  refine AllReadyH.cons rfl (fun K hK => ?_) AllReadyH.nil
  go_simp
  refine (clone_c (w := w4) (RV.out.fr F4.out) (by omega)).mono ?_
  rintro e' w5 ⟨cv, rfl, ov, fv⟩
  obtain ⟨av, qv, rfl, _⟩ := ownsRow_slice ov
  have s4 : W.heap.size ≤ w4.heap.size := fk.size
  have T5 : EnT w w5 k v (.slice ak k.length qk) (.slice av v.length qv) := ⟨ownsRow_base (ownsRow_fr ok fv) (by omega), ownsRow_base ov (by omega), F4.out.trans fv⟩
  have n1 : (Value.slice ak k.length qk).ownBlock ≠ some (w.heap.size + 1) := fun e => by have := (ok.lt _ e).1; omega
  have n2 : (Value.slice av v.length qv).ownBlock ≠ some (w.heap.size + 1) := fun e => by have := (ov.lt _ e).1; omega
  have HR5 := fv.at (fk.at HR.out (by simp)) (by simp)
  have y0 : w5.cell? ⟨w.heap.size + 1, 0, none⟩ = some (.slice none 0 0) := by rw [blk_cell HR5]; rfl
  have y1 : w5.cell? ⟨w.heap.size + 1, 1, none⟩ = some (.slice none 0 0) := by rw [blk_cell HR5]; rfl
  have yz := blk_frozen HR5
  have HRB : Hid (((w5.setCell ⟨w.heap.size + 1, 0, none⟩ (.slice ak k.length qk)).setCell ⟨w.heap.size + 1, 1, none⟩ (.slice av v.length qv)).heap[w.heap.size + 1]? = some (.cells #[.slice ak k.length qk, .slice av v.length qv] 47 (0, 0))) := by
    refine hid ?_
    rw [blk_set (blk_set HR5 0 _)]; rfl
  have TF := hid ((T5.set (by omega) n1 n2 0 (.slice ak k.length qk)).set (by omega) n1 n2 1 (.slice av v.length qv))
  have S5 := hid (SK.out _ (fk.trans fv))
  have S6 := hid (SY.out w5 0 (.slice ak k.length qk) 1 (.slice av v.length qv) (fk.trans fv))
  clear ok ov fk fv HR5 T5 n1 n2 SY SK
  refine hK.out _ _ S5.out (fun _ => ?_)
  clear hK K
  refine wpAnyH_ready (rs := [6]) (by kernel_rfl) (by simp) ?_
  refine AllReadyH.cons rfl (fun K hK => ?_) AllReadyH.nil
  go_simp
  refine hK.out _ _ S5.out (fun _ => ?_)
  clear hK K
  refine wpAnyH_ready (rs := [7]) (by kernel_rfl) (by simp) ?_
  refine AllReadyH.cons rfl (fun K hK => ?_) AllReadyH.nil
  go_simp
  refine hK.out _ _ S6.out (fun _ => ?_)
  clear hK K y0 y1 yz
  refine wpAnyH_done (by kernel_rfl) ?_ _
  have r0 := blk_cell HRB.out 0
  have r1 := blk_cell HRB.out 1
  generalize (w5.setCell ⟨w.heap.size + 1, 0, none⟩ (.slice ak k.length qk)).setCell ⟨w.heap.size + 1, 1, none⟩ (.slice av v.length qv) = w6 at *
  simp at r0 r1
  go_wp2
  refine bodyPost_ret (v := .agg #[.slice ak k.length qk, .slice av v.length qv]) (results_cell_row rfl _ w6 (w.heap.size + 1) 47 _ (0, 0) _ (by simp) HRB.out Tryz.underlying47 rfl sizeKV) rfl ⟨_, _, rfl, TF.out⟩

/-- What is told of bytes that may be a block. -/
structure RdB (w w' : World) (b : List Nat) (lv : Value) (r : Nat) (ls : List Ln) : Prop where
  blk : Blk b (psL ls) r
  col : ColN w' w.heap.size lv ls
  ok : ∀ x ∈ ls, OkLn x
  len : ls.length ≤ b.length
theorem blk_lens {b : List Nat} {ps : Ps} {r : Nat} (B : Blk b ps r) (hb : b.length ≤ 1000000000) : ps.length < 1073741824 ∧ (bod r ps ps.length).length < 1073741824 := by
  have h1 : ∀ i, i ≤ (bod r ps i).length := by
    intro i
    induction i with
    | zero => simp
    | succ i ih => have := bod_lt r ps (i := i) (j := i + 1) (by omega); omega
  have h2 := h1 ps.length
  have h3 : (Go.Proofs.YtnnookkcnmgbfaaGreat.blk r ps).length = b.length := by rw [B.eq]
  unfold Go.Proofs.YtnnookkcnmgbfaaGreat.blk at h3
  rw [List.length_append] at h3
  omega
theorem no_half {b : List Nat} (hb : b.length ≤ 1000000000) (h : halfL b = none) : ∀ ps r, ¬ Blk b ps r := fun ps r B => by
  have := read_blk B (blk_lens B hb).1 (by have := (blk_lens B hb).2; omega) (f := (bod r ps ps.length).length + 1) (by omega)
  rw [h] at this
  cases this.1
theorem no_lines {b : List Nat} (hb : b.length ≤ 1000000000) {k : Nat} (h : halfL b = some k) (hk : k + 4 ≤ b.length) (hl : linesF ((bodL b k).length + 1) (bodL b k) 0 [] = none) : ∀ ps r, ¬ Blk b ps r := fun ps r B => by
  have := read_blk B (blk_lens B hb).1 (by have := (blk_lens B hb).2; omega) (f := (bodL b k).length + 1)
  rw [h] at this
  have hkl : (bodL b k).length = k := by unfold bodL; rw [List.length_take]; omega
  have h0 := read_blk B (blk_lens B hb).1 (by have := (blk_lens B hb).2; omega) (f := (bod r ps ps.length).length + 1) (by omega)
  rw [h, Option.some.injEq] at h0
  have h1 := this (by rw [hkl, h0.1]; omega)
  rw [← h0.1, hl] at h1
  cases h1.2.1
theorem no_good {b : List Nat} (hb : b.length ≤ 1000000000) {k c : Nat} {ls : List Ln} (h : halfL b = some k) (hk : k + 4 ≤ b.length) (hl : linesF ((bodL b k).length + 1) (bodL b k) 0 [] = some ls) (hr : RsO ls (plcL b k) c) (hg : ¬ Good c ls (plcL b k)) : ∀ ps r, ¬ Blk b ps r := fun ps r B => by
  have hkl : (bodL b k).length = k := by unfold bodL; rw [List.length_take]; omega
  have h0 := read_blk B (blk_lens B hb).1 (by have := (blk_lens B hb).2; omega) (f := (bod r ps ps.length).length + 1) (by omega)
  rw [h, Option.some.injEq] at h0
  have h1 := read_blk B (blk_lens B hb).1 (by have := (blk_lens B hb).2; omega) (f := (bodL b k).length + 1) (by rw [hkl, h0.1]; omega)
  rw [← h0.1, hl, Option.some.injEq] at h1
  exact hg (by rw [h1.2.1]; exact h1.2.2 c (by rw [← h1.2.1]; exact hr))
end Go.Proofs.YtnnookkcnmgbfaaGreat
