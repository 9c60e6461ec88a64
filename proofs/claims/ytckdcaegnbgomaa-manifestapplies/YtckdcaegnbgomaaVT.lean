/-
  A version told as one edit.
-/
import Derived.Test.YtckdcaegnbgomaaJ26
namespace Go.Proofs.Ytckdcaegnbgomaa
open Go.ChangeShapes Go.WideShapes Go.ChangeAt Go.RowKit

/-- All tables of a version, each with its level. -/
def tagL (i : Nat) (l : List Fl) : List (Int × Fl) := l.map (fun f => ((i : Int), f))
def allA (L : Nat → List Fl) (i : Nat) : List (Int × Fl) := (List.range i).flatMap (fun k => tagL k (L k))
theorem allA_succ (L : Nat → List Fl) (i : Nat) : allA L (i + 1) = allA L i ++ tagL i (L i) := by
  unfold allA; rw [List.range_succ, List.flatMap_append]; simp
theorem tag_take {i j : Nat} {l : List Fl} {f : Fl} (h : l[j]? = some f) : tagL i (l.take (j + 1)) = tagL i (l.take j) ++ [((i : Int), f)] := by
  unfold tagL; rw [List.take_add_one, h]; simp
theorem allA_len (L : Nat → List Fl) (h : ∀ i, i < 5 → (L i).length ≤ 100) : ∀ i, i ≤ 5 → (allA L i).length ≤ i * 100
  | 0, _ => by simp [allA]
  | i + 1, hi => by
    have h1 := allA_len L h i (by omega)
    have h2 := h i (by omega)
    rw [allA_succ, List.length_append]
    unfold tagL
    rw [List.length_map]
    omega
theorem step_buildP {ops : Array Oper} {o : Oper} {a : Act} {w : World} {K : Act → World → Prop} {Q : Exit → Act → World → Prop} {E : Prop} (hg : o.guard = none) (y : Operand) (hop : o.op = Op.buildSlice 28 1 #[(0, y)]) {g0 g1 g2 : Int} {la ma : Option Addr} {ll lc lm mc : Nat} (hx : a.eval y = .agg #[.int .i64 g0, .int .i64 g1, .int .i64 g2, .slice la ll lc, .slice ma lm mc])
    (hK : K (a.put o.dst (.slice (some ⟨w.heap.size, 0, none⟩) 1 1)) (w.alloc (.cells #[.int .i64 g0, .int .i64 g1, .int .i64 g2, .slice la ll lc, .slice ma lm mc] 57))) :
    if Region.wanted o (yielded ops a.tmps) = true then Oper.wp Try.prog o a w K Q else E := by
  have hw : Region.wanted o (yielded ops a.tmps) = true := by simp [Region.wanted, hg]
  rw [if_pos hw]
  unfold Oper.wp
  simp [execOp, hop, hx]
  go_simp
  exact hK
theorem step_appP {ops : Array Oper} {o : Oper} {a : Act} {w : World} {K : Act → World → Prop} {Q : Exit → Act → World → Prop} {E : Prop} (hg : o.guard = none) (s y : Operand) (hop : o.op = Op.call { callee := Callee.builtin Builtin.append, args := #[s, y], argTypes := #[28, 28] }) (base : Nat) {ad : Option Addr} {n c : Nat} {xs : List Value} (hs : a.eval s = .slice ad n c) (hown : w.ownsRow base 57 5 (.slice ad n c) n xs) {G : Nat} (hx : a.eval y = .slice (some ⟨G, 0, none⟩) 1 1) {g0 g1 g2 : Int} {la ma : Option Addr} {ll lc lm mc : Nat} (hG : w.heap[G]? = some (.cells #[.int .i64 g0, .int .i64 g1, .int .i64 g2, .slice la ll lc, .slice ma lm mc] 57 (0, 0)))
    (hl : n ≤ 100000) (hbase : base ≤ w.heap.size)
    (hK : ∀ a' c' w', w'.ownsRow base 57 5 (.slice a' (n + 1) c') (n + 1) (xs ++ [.int .i64 g0, .int .i64 g1, .int .i64 g2, .slice la ll lc, .slice ma lm mc]) → w.grownBy w' (Value.slice ad n c).ownBlock → K (a.put o.dst (.slice a' (n + 1) c')) w') :
    if Region.wanted o (yielded ops a.tmps) = true then Oper.wp Try.prog o a w K Q else E := by
  obtain ⟨i0, hi0, hz0, hz1, hz2⟩ := info_parts9 infoPlaced
  refine step_append_own hg s y 28 hop base 57 i0 _ 5 72 Try.underlying28 hi0 hz0 hz1 hz2 rfl (by decide) _ n xs hs hown ⟨G, 0, none⟩ 1 1 [.int .i64 g0, .int .i64 g1, .int .i64 g2, .slice la ll lc, .slice ma lm mc] hx rfl (fun j u hj => by rw [Addr.add_lit, Nat.zero_add, blk_cell hG, ← Array.getElem?_toList]; exact hj) (fun u hu => by simp at hu; rcases hu with rfl | rfl | rfl | rfl | rfl <;> rfl) (by unfold maxLen; omega) (by omega) hbase (fun v' w' o' g' q' => ?_)
  obtain ⟨a', c', rfl, _⟩ := ownsRow_slice o'
  exact hK a' c' w' o' g'
/-- The edit, as it is made. -/
structure WhS (W0 W : World) (Q5 : Nat) (c0 c1 c2 : Int) (ps : List (Int × Fl)) (aa : Option Addr) (al ac : Nat) : Prop where
  blk : W.heap[Q5]? = some (.cells #[.int .i64 c0, .int .i64 c1, .int .u64 c2, .slice none 0 0, .slice aa al ac] 30 (0, 0))
  ao : AO W W0.heap.size (.slice aa al ac) ps
  hl : al = ps.length
  fr : Fr [] W0 W
  ge : W0.heap.size ≤ Q5
theorem WhS.fr' {W0 W W' : World} {Q5 : Nat} {c0 c1 c2 : Int} {ps : List (Int × Fl)} {aa : Option Addr} {al ac : Nat} (h : WhS W0 W Q5 c0 c1 c2 ps aa al ac) (f : Fr [] W W') : WhS W0 W' Q5 c0 c1 c2 ps aa al ac :=
  ⟨f.at h.blk (by simp), h.ao.step (fun k _ hk => f.block k hk (by simp)), h.hl, h.fr.trans f, h.ge⟩
theorem AO.setE {W : World} {B : Nat} {v : Value} {ps : List (Int × Fl)} (h : AO W B v ps) {p : Nat} {cs : Array Value} (hp : W.heap[p]? = some (.cells cs 30 (0, 0))) (i : Nat) (u : Value) : AO (W.setCell ⟨p, i, none⟩ u) B v ps := by
  obtain ⟨xs, o, h2⟩ := h
  have st : ∀ {e : TypeId} {s n : Nat} {v : Value} {xs : List Value}, 30 ≠ e → W.ownsRow B e s v n xs → (W.setCell ⟨p, i, none⟩ u).ownsRow B e s v n xs := fun hne o => ownsRow_of_block o fun k hk => blk_setne _ _ _ (fun e => by subst e; exact own_not o hp hne hk)
  refine ⟨xs, st (by decide) o, fun j q hj => ?_⟩
  obtain ⟨la, lc, ma, mc, d0, d1, d2, d3, d4, q0, q1⟩ := h2 j q hj
  exact ⟨la, lc, ma, mc, d0, d1, d2, d3, d4, st (by decide) q0, st (by decide) q1⟩
theorem WhS.app {W0 W W' : World} {Q5 : Nat} {c0 c1 c2 : Int} {ps : List (Int × Fl)} {aa : Option Addr} {al ac : Nat} (h : WhS W0 W Q5 c0 c1 c2 ps aa al ac) {xs : List Value} (ho : W.ownsRow W0.heap.size 57 5 (.slice aa al ac) ps.length xs)
    (hx : ∀ (j : Nat) (p : Int × Fl), ps[j]? = some p → ∃ la lc ma mc, xs[j * 5]? = some (.int .i64 p.1) ∧ xs[j * 5 + 1]? = some (.int .i64 p.2.num) ∧ xs[j * 5 + 2]? = some (.int .i64 p.2.size) ∧ xs[j * 5 + 3]? = some (.slice la p.2.least.length lc) ∧ xs[j * 5 + 4]? = some (.slice ma p.2.most.length mc) ∧ W.ownsRow W0.heap.size 5 1 (.slice la p.2.least.length lc) p.2.least.length (bv p.2.least) ∧ W.ownsRow W0.heap.size 5 1 (.slice ma p.2.most.length mc) p.2.most.length (bv p.2.most))
    {p : Int × Fl} {la ma : Option Addr} {lc mc : Nat} (xo : XO W0.heap.size W p.2 la lc ma mc) {a' : Option Addr} {c' : Nat}
    (o : W'.ownsRow W0.heap.size 57 5 (.slice a' (al + 1) c') (al + 1) (xs ++ [.int .i64 p.1, .int .i64 p.2.num, .int .i64 p.2.size, .slice la p.2.least.length lc, .slice ma p.2.most.length mc])) (gr : W.grownBy W' (Value.slice aa al ac).ownBlock) :
    W'.heap[Q5]? = some (.cells #[.int .i64 c0, .int .i64 c1, .int .u64 c2, .slice none 0 0, .slice aa al ac] 30 (0, 0)) ∧ WhS W0 (W'.setCell ⟨Q5, 4, none⟩ (.slice a' (al + 1) c')) Q5 c0 c1 c2 (ps ++ [p]) a' (al + 1) c' := by
  have hq : W'.heap[Q5]? = some (.cells #[.int .i64 c0, .int .i64 c1, .int .u64 c2, .slice none 0 0, .slice aa al ac] 30 (0, 0)) := by
    rw [gr.block Q5 (blk_lt h.blk) (fun e => own_not ho h.blk (by decide) e.symm)]; exact h.blk
  have fw : Fr [] W0 W' := h.fr.grown gr (fun k e => by
    rcases ho.2 with ⟨q1, _⟩ | ⟨g', cap, cur, q1, q2, q3, _⟩
    · rw [q1] at e; simp [Value.ownBlock] at e
    · rw [q1] at e; simp [Value.ownBlock] at e; subst e; exact .inr q2)
  refine ⟨hq, ⟨by rw [blk_set hq]; rfl, AO.setE ?_ hq 4 _, by rw [List.length_append, h.hl]; rfl, fw.set _ _ (.inr h.ge), h.ge⟩⟩
  have o2 := o
  rw [h.hl] at o2
  rw [h.hl]
  exact AO.app ho hx xo.ol xo.om o2 gr
/-- What Whole answers. -/
structure WhOut (w w' : World) (v : Vn) (r : Ending) : Prop where
  fr : Fr [] w w'
  out : (chkV v ≠ 0 ∧ r = .returned (.tuple #[.agg #[.int .i64 0, .int .i64 0, .int .u64 0, .slice none 0 0, .slice none 0 0], .int .i64 (chkV v)])) ∨ (chkV v = 0 ∧ ∃ aa al ac, r = .returned (.tuple #[.agg #[.int .i64 v.log, .int .i64 v.next, .int .u64 (v.seq : Int), .slice none 0 0, .slice aa al ac], .int .i64 0]) ∧ al = (allA v.lv 5).length ∧ RdA w' (.slice aa al ac) (allA v.lv 5))
theorem load30k {w : World} {g : Nat} {t : TypeId} {c0 c1 c2 c3 c4 : Value} (hg : w.heap[g]? = some (.cells #[c0, c1, c2, c3, c4] t (0, 0))) : (loadVar 30 ⟨g, 0, none⟩).run Try.prog w = .ok (.agg #[c0, c1, c2, c3, c4]) w :=
  run_loadVar_row w g t 30 #[c0, c1, c2, c3, c4] (0, 0) _ hg Try.underlying30 rfl (by kernel_rfl)
theorem FAt.by4 {w : World} {b o : Nat} {f : Fl} {la ma : Option Addr} {lc mc : Nat} (h : FAt w b o f la lc ma mc) : (By f.least ∧ f.least.length ≤ 140737488355328) ∧ By f.most ∧ f.most.length ≤ 140737488355328 := ⟨⟨h.rd.bl, h.rd.ll⟩, h.rd.bm, h.rd.lm⟩
theorem VAt.bys {w : World} {L : Nat → List Fl} {ad : Nat → Option Addr} {ln cp : Nat → Nat} (h : VAt w L ad ln cp) : ∀ p ∈ allA L 5, (By p.2.least ∧ p.2.least.length ≤ 140737488355328) ∧ By p.2.most ∧ p.2.most.length ≤ 140737488355328 := by
  intro p hp
  unfold allA at hp
  obtain ⟨i, hi, hpi⟩ := List.mem_flatMap.1 hp
  have hi5 : i < 5 := by simpa using hi
  obtain ⟨f, hf, rfl⟩ := List.mem_map.1 hpi
  obtain ⟨j, hj⟩ := List.getElem?_of_mem hf
  have hl := h.len i hi5
  have hjl := (List.getElem?_eq_some_iff.1 hj).1
  obtain ⟨b, off, _, k⟩ := h.rd i hi5 (by omega)
  obtain ⟨la, lc, ma, mc, q⟩ := k j f hj
  exact q.by4
set_option maxRecDepth 20000 in
set_option maxHeartbeats 6400000 in
theorem whole_c (w : World) {v : Vn} {ad : Nat → Option Addr} {ln cp : Nat → Nat} (hv : VAt w v.lv ad ln cp) (hsm : ∀ i, i < 5 → ln i ≤ 100) :
    Calls Try.prog 11 #[.agg #[.int .i64 v.log, .int .i64 v.next, .int .u64 (v.seq : Int), .slice (ad 0) (ln 0) (cp 0), .slice (ad 1) (ln 1) (cp 1), .slice (ad 2) (ln 2) (cp 2), .slice (ad 3) (ln 3) (cp 3), .slice (ad 4) (ln 4) (cp 4)]] w fun r w' => WhOut w w' v r := by
  obtain ⟨vl, hvl⟩ : ∃ x, x = v.log := ⟨_, rfl⟩
  obtain ⟨vn, hvn⟩ : ∃ x, x = v.next := ⟨_, rfl⟩
  obtain ⟨vs, hvs⟩ : ∃ x, x = v.seq := ⟨_, rfl⟩
  obtain ⟨W0, hW0⟩ : ∃ W0, W0 = (w.alloc (.cells #[.int .i64 vl, .int .i64 vn, .int .u64 (vs : Int), .slice (ad 0) (ln 0) (cp 0), .slice (ad 1) (ln 1) (cp 1), .slice (ad 2) (ln 2) (cp 2), .slice (ad 3) (ln 3) (cp 3), .slice (ad 4) (ln 4) (cp 4)] 26)).alloc (.cells #[.int .i64 0, .int .i64 0, .int .u64 0, .slice none 0 0, .slice none 0 0] 30) := ⟨_, rfl⟩
  have F0 : Hid (Fr [] w W0) := hid (by rw [hW0]; exact ((Fr.refl _ _).alloc _).alloc _)
  have N0 : Hid (W0.heap[w.heap.size]? = some (.cells #[.int .i64 vl, .int .i64 vn, .int .u64 (vs : Int), .slice (ad 0) (ln 0) (cp 0), .slice (ad 1) (ln 1) (cp 1), .slice (ad 2) (ln 2) (cp 2), .slice (ad 3) (ln 3) (cp 3), .slice (ad 4) (ln 4) (cp 4)] 26 (0, 0))) := hid (by rw [hW0, blk_old _ _ (by simp)]; exact blk_new _ _)
  have N1 : Hid (W0.heap[w.heap.size + 1]? = some (.cells #[.int .i64 0, .int .i64 0, .int .u64 0, .slice none 0 0, .slice none 0 0] 30 (0, 0))) := hid (by rw [hW0]; exact new_at _ _ (by simp))
  have CK := hid (check_c W0 (hv.fr F0.out))
  rw [← hvl, ← hvn, ← hvs] at CK ⊢
  have HVE := hid (And.intro hvl (And.intro hvn hvs))
  obtain ⟨C, hC⟩ : ∃ C, C = chkV v := ⟨_, rfl⟩
  rw [← hC] at CK
  have HC := hid hC
  have HV := hid (hv.fr F0.out)
  have HSM := hid hsm
  have HX : Hid (∀ i : Nat, i < 5 → ∀ W : World, (Instr.index 24 (.agg #[.slice (ad 0) (ln 0) (cp 0), .slice (ad 1) (ln 1) (cp 1), .slice (ad 2) (ln 2) (cp 2), .slice (ad 3) (ln 3) (cp 3), .slice (ad 4) (ln 4) (cp 4)]) (.int .i64 (i : Int))).run Try.prog W = .ok (.slice (ad i) (ln i) (cp i)) W) := hid (fun i hi W => ixs hi ad ln cp W)
  have CV : Hid (∀ W, Fr [] W0 W → _) := hid (fun W f => vn_cells (f.at N0.out (by simp)))
  clear hv hvl hvn hvs hC hsm
  obtain ⟨z0, z1, z2, z3, z4, z5, z6, z7⟩ := CV.out W0 (Fr.refl _ _)
  go_enter Try.func11, Try.ntmps11
  go_upto_region 1 with fail
  rw [← hW0]
  clear hW0
  go_upto_region 2 with (go_at_call 14; refine CK.out.mono ?_; rintro r W1 ⟨rfl, f1⟩; have F1 := hid f1; clear f1)
  clear z0 z1 z2 z3 z4 z5 z6 z7 CK
  have M1 := hid (F1.out.at N1.out (by simp))
  by_cases hC0 : C = 0
  · subst hC0
    have HC0 : Hid (chkV v = 0) := hid HC.out.symm
    clear HC
    obtain ⟨z0, z1, z2, z3, z4, z5, z6, z7⟩ := CV.out W1 F1.out
    obtain ⟨Q5, hQ5⟩ : ∃ Q5, Q5 = W1.heap.size := ⟨_, rfl⟩
    obtain ⟨W5, hW5⟩ : ∃ W5, W5 = W1.alloc (.cells #[.int .i64 vl, .int .i64 vn, .int .u64 (vs : Int), .slice none 0 0, .slice none 0 0] 30) := ⟨_, rfl⟩
    have D5 : Hid (WhS W0 W5 Q5 vl vn (vs : Int) (allA v.lv 0 ++ tagL 0 ((v.lv 0).take 0)) none 0 0) := hid (by
      have f5 : Fr [] W1 W5 := by rw [hW5]; exact (Fr.refl _ _).alloc _
      exact ⟨by rw [hW5, hQ5]; exact blk_new _ _, AO.nil _ _, rfl, F1.out.trans f5, by rw [hQ5]; exact F1.out.size⟩)
    go_upto_region 5 with fail
    rw [← hW5, ← hQ5]
    clear hW5 hQ5 z0 z1 z2 z3 z4 z5 z6 z7 M1 F1
    obtain ⟨z0, z1, z2, z3, z4, z5, z6, z7⟩ := CV.out W5 D5.out.fr
    go_wp2_with fail
    clear z0 z1 z2 z3 z4 z5 z6 z7
    have HLL : Hid (∀ i, i < 5 → (v.lv i).length ≤ 100) := hid (fun i hi => by rw [← HV.out.len i hi]; exact HSM.out i hi)
    go_loopw [25] (fun v25 wr => ∃ (i : Nat) (aa : Option Addr) (al ac : Nat), i ≤ 5 ∧ v25 = .int .i64 (i : Int) ∧ WhS W0 wr Q5 vl vn (vs : Int) (allA v.lv i) aa al ac) (fun v25 _ => 5 - (intOf v25).toNat)
    case atStart => exact ⟨0, none, 0, 0, by omega, rfl, D5.out⟩
    case round =>
      obtain ⟨i, aa, al, ac, hi, rfl, hds⟩ := hrel
      have DS0 := hid hds
      clear hds D5
      by_cases hlt : i < 5
      · have hlt' : (i : Int) < 5 := by omega
        have ixi := HX.out i hlt
        have HLN := hid (HV.out.len i hlt)
        have hli := HSM.out i hlt
        have HRD := hid (HV.out.rd i hlt)
        obtain ⟨li, hli'⟩ : ∃ li, li = ln i := ⟨_, rfl⟩
        obtain ⟨ai, hai⟩ : ∃ ai, ai = ad i := ⟨_, rfl⟩
        obtain ⟨ci, hci⟩ : ∃ ci, ci = cp i := ⟨_, rfl⟩
        rw [← hli'] at ixi HLN hli HRD
        rw [← hai] at ixi HRD
        rw [← hci] at ixi
        clear hli' hai hci
        obtain ⟨W6, h6⟩ : ∃ W, W = wr := ⟨_, rfl⟩
        subst h6
        go_wp2_with fail
        clear ixi
        go_loopw [31] (fun v31 wr => ∃ (j : Nat) (aa : Option Addr) (al ac : Nat), j ≤ li ∧ v31 = .int .i64 (j : Int) ∧ WhS W0 wr Q5 vl vn (vs : Int) (allA v.lv i ++ tagL i ((v.lv i).take j)) aa al ac) (fun v31 _ => li - (intOf v31).toNat)
        case atStart => exact ⟨0, aa, al, ac, by omega, rfl, by have := DS0.out; simpa [tagL] using this⟩
        case round =>
          obtain ⟨j, aa, al, ac, hj, rfl, hds⟩ := hrel
          have D1 := hid hds
          clear hds DS0
          by_cases hjl : j < li
          · have hjl' : (j : Int) < (li : Int) := by omega
            obtain ⟨f, hf⟩ : ∃ f, (v.lv i)[j]? = some f := ⟨_, List.getElem?_eq_getElem (by rw [← HLN.out]; exact hjl)⟩
            obtain ⟨b, off, hab, m1⟩ := HRD.out (by omega)
            subst hab
            obtain ⟨la, lc, ma, mc, k1⟩ := m1 j f hf
            have k2 := k1.fr D1.out.fr
            have HF := hid hf
            clear m1 k1 hf
            obtain ⟨x0, x1, x2, x3, xr⟩ := k2
            obtain ⟨P, hP⟩ : ∃ P, P = wr.heap.size := ⟨_, rfl⟩
            obtain ⟨W8, hW8⟩ : ∃ W8, W8 = wr.alloc (.cells #[.int .i64 f.num, .int .i64 f.size, .slice la f.least.length lc, .slice ma f.most.length mc] 55) := ⟨_, rfl⟩
            have f8 : Fr [] wr W8 := by rw [hW8]; exact (Fr.refl _ _).alloc _
            have NP : Hid (W8.heap[P]? = some (.cells #[.int .i64 f.num, .int .i64 f.size, .slice la f.least.length lc, .slice ma f.most.length mc] 55 (0, 0))) := hid (by rw [hW8, hP]; exact blk_new _ _)
            have D8 := hid (D1.out.fr' f8)
            have CP : Hid (∀ W', Fr [] W8 W' → _) := hid (fun W' g => copied_c W' ((xr.fr f8).fr g))
            obtain ⟨ps, hps⟩ : ∃ ps, ps = allA v.lv i ++ tagL i ((v.lv i).take j) := ⟨_, rfl⟩
            have hal : al ≤ 1000 := by
              rw [D1.out.hl, List.length_append]
              have q1 := allA_len v.lv HLL.out i (by omega)
              have q2 := HLL.out i hlt
              unfold tagL
              rw [List.length_map, List.length_take]
              omega
            go_upto_region 11 with fail
            rw [← hW8, ← hP]
            clear hW8 hP x0 x1 x2 x3 xr D1 f8
            have MK : Hid (∀ (w4 : World) (la' : Option Addr) (lc' : Nat) (ma' : Option Addr) (mc' : Nat), Fr [] W8 w4 → XO W8.drew.heap.size w4 f la' lc' ma' mc' → ∃ xs, (w4.alloc (.cells #[.int .i64 (i : Int), .int .i64 f.num, .int .i64 f.size, .slice la' f.least.length lc', .slice ma' f.most.length mc'] 57)).ownsRow W0.heap.size 57 5 (.slice aa al ac) al xs ∧
                (∀ a6 c6 w6, w6.ownsRow W0.heap.size 57 5 (.slice a6 (al + 1) c6) (al + 1) (xs ++ [.int .i64 (i : Int), .int .i64 f.num, .int .i64 f.size, .slice la' f.least.length lc', .slice ma' f.most.length mc']) → (w4.alloc (.cells #[.int .i64 (i : Int), .int .i64 f.num, .int .i64 f.size, .slice la' f.least.length lc', .slice ma' f.most.length mc'] 57)).grownBy w6 (Value.slice aa al ac).ownBlock → w6.heap[Q5]? = some (.cells #[.int .i64 vl, .int .i64 vn, .int .u64 (vs : Int), .slice none 0 0, .slice aa al ac] 30 (0, 0)) ∧ WhS W0 (w6.setCell ⟨Q5, 4, none⟩ (.slice a6 (al + 1) c6)) Q5 vl vn (vs : Int) (allA v.lv i ++ tagL i ((v.lv i).take j) ++ [((i : Int), f)]) a6 (al + 1) c6) ∧
                (∀ w6, (w4.alloc (.cells #[.int .i64 (i : Int), .int .i64 f.num, .int .i64 f.size, .slice la' f.least.length lc', .slice ma' f.most.length mc'] 57)).grownBy w6 (Value.slice aa al ac).ownBlock → w6.heap[P]? = some (.cells #[.int .i64 f.num, .int .i64 f.size, .slice la f.least.length lc, .slice ma f.most.length mc] 55 (0, 0))) ∧ W0.heap.size ≤ (w4.alloc (.cells #[.int .i64 (i : Int), .int .i64 f.num, .int .i64 f.size, .slice la' f.least.length lc', .slice ma' f.most.length mc'] 57)).heap.size ∧ (w4.cell? ⟨Q5, 4, none⟩ = some (.slice aa al ac) ∧ (w4.alloc (.cells #[.int .i64 (i : Int), .int .i64 f.num, .int .i64 f.size, .slice la' f.least.length lc', .slice ma' f.most.length mc'] 57)).cell? ⟨Q5, 4, none⟩ = some (.slice aa al ac))) := hid (fun w4 la' lc' ma' mc' f4 xo => by
              have d4 := D8.out.fr' f4
              have fa : Fr [] w4 (w4.alloc (.cells #[.int .i64 (i : Int), .int .i64 f.num, .int .i64 f.size, .slice la' f.least.length lc', .slice ma' f.most.length mc'] 57)) := (Fr.refl _ _).alloc _
              have d5 := d4.fr' fa
              obtain ⟨xs, o5, h5⟩ := d5.ao
              have hb : W0.heap.size ≤ W8.drew.heap.size := D8.out.fr.size
              refine ⟨xs, by have := o5; rw [← d5.hl] at this; exact this, fun a6 c6 w6 o6 g6 => ?_, fun w6 g6 => ?_, d5.fr.size, (ed5_cells d4.blk).2.2.2.2, (ed5_cells d5.blk).2.2.2.2⟩
              · exact d5.app (p := ((i : Int), f)) o5 h5 ((⟨own_base9 xo.ol hb, own_base9 xo.om hb⟩ : XO W0.heap.size w4 f la' lc' ma' mc').fr fa) o6 g6
              · have np := fa.at (f4.at NP.out (by simp)) (by simp)
                rw [g6.block P (blk_lt np) (fun e => own_not o5 np (by decide) e.symm)]; exact np)
            have PS : Hid (∀ (w6 : World) (u : Value), w6.heap[P]? = some (.cells #[.int .i64 f.num, .int .i64 f.size, .slice la f.least.length lc, .slice ma f.most.length mc] 55 (0, 0)) → (w6.setCell ⟨Q5, 4, none⟩ u).heap[P]? = some (.cells #[.int .i64 f.num, .int .i64 f.size, .slice la f.least.length lc, .slice ma f.most.length mc] 55 (0, 0))) := hid (fun w6 u h => by
              rw [blk_setne _ _ _ (fun e => by
                have h1 := D8.out.blk
                rw [← e, NP.out] at h1
                simp at h1)]; exact h)
            have za : W8.drew.cell? ⟨Q5, 4, none⟩ = some (.slice aa al ac) := (ed5_cells D8.out.blk).2.2.2.2
            clear D8
            refine wp_region_held_drew (S := fun w' => w'.heap[P]? = some (.cells #[.int .i64 f.num, .int .i64 f.size, .slice la f.least.length lc, .slice ma f.most.length mc] 55 (0, 0))) (by kernel_rfl) NP.out (fun hS => ?_)
            refine wpAnyH_take (i := 0) (v := .pointer (some ⟨Q5, 4, none⟩)) rfl (by kernel_rfl) (by kernel_rfl) (by kernel_rfl) (fun _ _ _ h => h) (.inl ⟨by rfl, fun wx _ => by go_simp⟩) hS ?_
            simp only [Act.put]
            refine wpAnyH_take (i := 2) (v := .int .i64 (i : Int)) rfl (by kernel_rfl) (by kernel_rfl) (by kernel_rfl) (fun _ _ _ h => h) (.inl ⟨by rfl, fun wx _ => by go_simp⟩) hS ?_
            simp only [Act.put]
            refine wpAnyH_take (i := 3) (v := .agg #[.int .i64 f.num, .int .i64 f.size, .slice la f.least.length lc, .slice ma f.most.length mc]) rfl (by kernel_rfl) (by kernel_rfl) (by kernel_rfl) (fun _ _ _ h => h) (.inl ⟨by rfl, fun wx hX => by obtain ⟨s0, s1, s2, s3⟩ := fl_cells hX; go_simp⟩) hS ?_
            simp only [Act.put]
            clear hS
            refine wpAnyH_ready (rs := [1, 4]) (by kernel_rfl) (by simp) ?_
            refine AllReadyH.cons rfl (fun K hK => ?_) (AllReadyH.cons rfl (fun K hK => ?_) AllReadyH.nil)
            · go_simp
              refine hK.out _ _ NP.out (fun _ => ?_)
              clear hK K
              refine wpAnyH_ready (rs := [4]) (by kernel_rfl) (by simp) ?_
              refine AllReadyH.cons rfl (fun K hK => ?_) AllReadyH.nil
              go_simp
              refine (CP.out W8.drew (Fr.refl _ _).drew).mono ?_
              intro r w4 co
              obtain ⟨⟨la', lc', ma', mc', hr, xo⟩, f4⟩ := co
              subst hr
              have F4 : Hid (Fr [] W8 w4) := hid ((Fr.refl _ _).drew.trans f4)
              have N4 := hid (F4.out.at NP.out (by simp))
              have XO4 := hid xo
              refine hK.out _ _ N4.out (fun hS => ?_)
              clear hK K xo f4
              refine wpAnyH_take (i := 5) (v := .agg #[.int .i64 (i : Int), .int .i64 f.num, .int .i64 f.size, .slice la' f.least.length lc', .slice ma' f.most.length mc']) rfl (by kernel_rfl) (by kernel_rfl) (by kernel_rfl) (fun _ _ _ h => h) (.inl ⟨by rfl, fun wx _ => by go_simp⟩) hS ?_
              simp only [Act.put]
              clear hS
              have MM := hid (MK.out w4 la' lc' ma' mc' F4.out XO4.out)
              obtain ⟨xs, OW', AQ', PA', FS', zb'⟩ := MM.out
              have OW := hid OW'
              have AQ := hid AQ'
              have PA := hid PA'
              have FS := hid FS'
              have NG : Hid ((w4.alloc (.cells #[.int .i64 (i : Int), .int .i64 f.num, .int .i64 f.size, .slice la' f.least.length lc', .slice ma' f.most.length mc'] 57)).heap[w4.heap.size]? = some (.cells #[.int .i64 (i : Int), .int .i64 f.num, .int .i64 f.size, .slice la' f.least.length lc', .slice ma' f.most.length mc'] 57 (0, 0))) := hid (blk_new _ _)
              have N5 : Hid ((w4.alloc (.cells #[.int .i64 (i : Int), .int .i64 f.num, .int .i64 f.size, .slice la' f.least.length lc', .slice ma' f.most.length mc'] 57)).heap[P]? = some (.cells #[.int .i64 f.num, .int .i64 f.size, .slice la f.least.length lc, .slice ma f.most.length mc] 55 (0, 0))) := hid (((Fr.refl [] w4).alloc _).at N4.out (by simp))
              clear OW' AQ' PA' FS' MM
              refine wpAnyH_ready (rs := [6]) (by kernel_rfl) (by simp) ?_
              refine AllReadyH.cons rfl (fun K hK => ?_) AllReadyH.nil
              refine step_buildP rfl (.tmp 40) rfl (g0 := (i : Int)) (g1 := f.num) (g2 := f.size) (la := la') (ma := ma') (ll := f.least.length) (lc := lc') (lm := f.most.length) (mc := mc') (by first | (simp [Act.eval]; done) | simp [Act.eval, Act.put]) ?_
              refine hK.out _ _ N5.out (fun _ => ?_)
              clear hK K zb'
              refine wpAnyH_ready (rs := [7]) (by kernel_rfl) (by simp) ?_
              refine AllReadyH.cons rfl (fun K hK => ?_) AllReadyH.nil
              refine step_appP rfl (.tmp 36) (.tmp 41) rfl W0.heap.size (ad := aa) (n := al) (c := ac) (xs := xs) (by first | (simp [Act.eval]; done) | simp [Act.eval, Act.put]) OW.out (G := w4.heap.size) (by first | (simp [Act.eval]; done) | simp [Act.eval, Act.put]) NG.out (by omega) FS.out ?_
              intro a6 c6 w6 o6 g6
              have P6 := hid (PA.out w6 g6)
              have AP := hid (AQ.out a6 c6 w6 o6 g6)
              refine hK.out _ _ P6.out (fun _ => ?_)
              clear hK K o6 g6
              have kf := blk_frozen AP.out.1 4
              have kq := (ed5_cells AP.out.1).2.2.2.2
              refine wpAnyH_ready (rs := [8]) (by kernel_rfl) (by simp) ?_
              refine AllReadyH.cons rfl (fun K hK => ?_) AllReadyH.nil
              go_simp
              refine hK.out _ _ P6.out (fun _ => ?_)
              clear hK K
              refine wpAnyH_ready (rs := [9]) (by kernel_rfl) (by simp) ?_
              refine AllReadyH.cons rfl (fun K hK => ?_) AllReadyH.nil
              go_simp
              refine hK.out _ _ (PS.out _ _ P6.out) (fun _ => ?_)
              clear hK K
              refine wpAnyH_done (by kernel_rfl) ?_ _
              go_wp2_with fail
              go_roundw
              case rel => exact ⟨j + 1, _, _, _, by omega, by go_num, by rw [tag_take HF.out, ← List.append_assoc]; exact AP.out.2⟩
              case measure => simp [intOf]; omega
            · go_simp
              refine (CP.out W8.drew (Fr.refl _ _).drew).mono ?_
              intro r w4 co
              obtain ⟨⟨la', lc', ma', mc', hr, xo⟩, f4⟩ := co
              subst hr
              have F4 : Hid (Fr [] W8 w4) := hid ((Fr.refl _ _).drew.trans f4)
              have N4 := hid (F4.out.at NP.out (by simp))
              have XO4 := hid xo
              refine hK.out _ _ N4.out (fun hS => ?_)
              clear hK K xo f4
              refine wpAnyH_take (i := 5) (v := .agg #[.int .i64 (i : Int), .int .i64 f.num, .int .i64 f.size, .slice la' f.least.length lc', .slice ma' f.most.length mc']) rfl (by kernel_rfl) (by kernel_rfl) (by kernel_rfl) (fun _ _ _ h => h) (.inl ⟨by rfl, fun wx _ => by go_simp⟩) hS ?_
              simp only [Act.put]
              clear hS
              have MM := hid (MK.out w4 la' lc' ma' mc' F4.out XO4.out)
              obtain ⟨xs, OW', AQ', PA', FS', zb'⟩ := MM.out
              have OW := hid OW'
              have AQ := hid AQ'
              have PA := hid PA'
              have FS := hid FS'
              have NG : Hid ((w4.alloc (.cells #[.int .i64 (i : Int), .int .i64 f.num, .int .i64 f.size, .slice la' f.least.length lc', .slice ma' f.most.length mc'] 57)).heap[w4.heap.size]? = some (.cells #[.int .i64 (i : Int), .int .i64 f.num, .int .i64 f.size, .slice la' f.least.length lc', .slice ma' f.most.length mc'] 57 (0, 0))) := hid (blk_new _ _)
              have N5 : Hid ((w4.alloc (.cells #[.int .i64 (i : Int), .int .i64 f.num, .int .i64 f.size, .slice la' f.least.length lc', .slice ma' f.most.length mc'] 57)).heap[P]? = some (.cells #[.int .i64 f.num, .int .i64 f.size, .slice la f.least.length lc, .slice ma f.most.length mc] 55 (0, 0))) := hid (((Fr.refl [] w4).alloc _).at N4.out (by simp))
              clear OW' AQ' PA' FS' MM
              refine wpAnyH_ready (rs := [1, 6]) (by kernel_rfl) (by simp) ?_
              refine AllReadyH.cons rfl (fun K hK => ?_) (AllReadyH.cons rfl (fun K hK => ?_) AllReadyH.nil)
              · have zc := zb'.1
                go_simp
                refine hK.out _ _ N4.out (fun _ => ?_)
                clear hK K zb'
                refine wpAnyH_ready (rs := [6]) (by kernel_rfl) (by simp) ?_
                refine AllReadyH.cons rfl (fun K hK => ?_) AllReadyH.nil
                refine step_buildP rfl (.tmp 40) rfl (g0 := (i : Int)) (g1 := f.num) (g2 := f.size) (la := la') (ma := ma') (ll := f.least.length) (lc := lc') (lm := f.most.length) (mc := mc') (by first | (simp [Act.eval]; done) | simp [Act.eval, Act.put]) ?_
                refine hK.out _ _ N5.out (fun _ => ?_)
                clear hK K
                refine wpAnyH_ready (rs := [7]) (by kernel_rfl) (by simp) ?_
                refine AllReadyH.cons rfl (fun K hK => ?_) AllReadyH.nil
                refine step_appP rfl (.tmp 36) (.tmp 41) rfl W0.heap.size (ad := aa) (n := al) (c := ac) (xs := xs) (by first | (simp [Act.eval]; done) | simp [Act.eval, Act.put]) OW.out (G := w4.heap.size) (by first | (simp [Act.eval]; done) | simp [Act.eval, Act.put]) NG.out (by omega) FS.out ?_
                intro a6 c6 w6 o6 g6
                have P6 := hid (PA.out w6 g6)
                have AP := hid (AQ.out a6 c6 w6 o6 g6)
                refine hK.out _ _ P6.out (fun _ => ?_)
                clear hK K o6 g6
                have kf := blk_frozen AP.out.1 4
                have kq := (ed5_cells AP.out.1).2.2.2.2
                refine wpAnyH_ready (rs := [8]) (by kernel_rfl) (by simp) ?_
                refine AllReadyH.cons rfl (fun K hK => ?_) AllReadyH.nil
                go_simp
                refine hK.out _ _ P6.out (fun _ => ?_)
                clear hK K
                refine wpAnyH_ready (rs := [9]) (by kernel_rfl) (by simp) ?_
                refine AllReadyH.cons rfl (fun K hK => ?_) AllReadyH.nil
                go_simp
                refine hK.out _ _ (PS.out _ _ P6.out) (fun _ => ?_)
                clear hK K
                refine wpAnyH_done (by kernel_rfl) ?_ _
                go_wp2_with fail
                go_roundw
                case rel => exact ⟨j + 1, _, _, _, by omega, by go_num, by rw [tag_take HF.out, ← List.append_assoc]; exact AP.out.2⟩
                case measure => simp [intOf]; omega
              · refine step_buildP rfl (.tmp 40) rfl (g0 := (i : Int)) (g1 := f.num) (g2 := f.size) (la := la') (ma := ma') (ll := f.least.length) (lc := lc') (lm := f.most.length) (mc := mc') (by first | (simp [Act.eval]; done) | simp [Act.eval, Act.put]) ?_
                refine hK.out _ _ N5.out (fun _ => ?_)
                clear hK K
                have zc := zb'.2
                refine wpAnyH_ready (rs := [1]) (by kernel_rfl) (by simp) ?_
                refine AllReadyH.cons rfl (fun K hK => ?_) AllReadyH.nil
                go_simp
                refine hK.out _ _ N5.out (fun _ => ?_)
                clear hK K
                clear zb' zc
                refine wpAnyH_ready (rs := [7]) (by kernel_rfl) (by simp) ?_
                refine AllReadyH.cons rfl (fun K hK => ?_) AllReadyH.nil
                refine step_appP rfl (.tmp 36) (.tmp 41) rfl W0.heap.size (ad := aa) (n := al) (c := ac) (xs := xs) (by first | (simp [Act.eval]; done) | simp [Act.eval, Act.put]) OW.out (G := w4.heap.size) (by first | (simp [Act.eval]; done) | simp [Act.eval, Act.put]) NG.out (by omega) FS.out ?_
                intro a6 c6 w6 o6 g6
                have P6 := hid (PA.out w6 g6)
                have AP := hid (AQ.out a6 c6 w6 o6 g6)
                refine hK.out _ _ P6.out (fun _ => ?_)
                clear hK K o6 g6
                have kf := blk_frozen AP.out.1 4
                have kq := (ed5_cells AP.out.1).2.2.2.2
                refine wpAnyH_ready (rs := [8]) (by kernel_rfl) (by simp) ?_
                refine AllReadyH.cons rfl (fun K hK => ?_) AllReadyH.nil
                go_simp
                refine hK.out _ _ P6.out (fun _ => ?_)
                clear hK K
                refine wpAnyH_ready (rs := [9]) (by kernel_rfl) (by simp) ?_
                refine AllReadyH.cons rfl (fun K hK => ?_) AllReadyH.nil
                go_simp
                refine hK.out _ _ (PS.out _ _ P6.out) (fun _ => ?_)
                clear hK K
                refine wpAnyH_done (by kernel_rfl) ?_ _
                go_wp2_with fail
                go_roundw
                case rel => exact ⟨j + 1, _, _, _, by omega, by go_num, by rw [tag_take HF.out, ← List.append_assoc]; exact AP.out.2⟩
                case measure => simp [intOf]; omega
          · have hjn : j = li := by omega
            subst hjn
            have D2 : Hid (WhS W0 wr Q5 vl vn (vs : Int) (allA v.lv (i + 1)) aa al ac) := hid (by rw [allA_succ]; have := D1.out; rw [HLN.out, List.take_length] at this; exact this)
            go_wp2_with fail
            go_roundw
            case rel => exact ⟨i + 1, aa, al, ac, by omega, by go_num, D2.out⟩
            case measure => simp [intOf]; omega
      · have hin : i = 5 := by omega
        subst hin
        have M5 := hid (DS0.out.fr.at N1.out (by simp))
        obtain ⟨z0, z1, z2, z3, z4⟩ := ed5_cells DS0.out.blk
        obtain ⟨q0, q1, q2, q3, q4⟩ := ed5_cells M5.out
        have qf0 := blk_frozen M5.out 0
        have qf1 := blk_frozen M5.out 1
        have qf2 := blk_frozen M5.out 2
        have qf3 := blk_frozen M5.out 3
        have qf4 := blk_frozen M5.out 4
        go_wp2_with fail
        refine bodyPost_ret (ret_ct9 rfl (g := w.heap.size + 1) (by simp) (load30k (by rw [blk_set (blk_set (blk_set (blk_set (blk_set M5.out 0 _) 1 _) 2 _) 3 _) 4 _]; rfl))) rfl ?_
        have ge5 := DS0.out.ge
        have hlt1 := blk_lt N1.out
        refine ⟨((((((F0.out.trans DS0.out.fr).set _ _ (.inr (by omega))).set _ _ (.inr (by omega))).set _ _ (.inr (by omega))).set _ _ (.inr (by omega))).set _ _ (.inr (by omega))), .inr ⟨HC0.out, aa, al, ac, by rw [← HVE.out.1, ← HVE.out.2.1, ← HVE.out.2.2]; rfl, DS0.out.hl, ?_⟩⟩
        have ao := ((((DS0.out.ao.setE M5.out 0 (.int .i64 vl)).setE (blk_set M5.out 0 _) 1 (.int .i64 vn)).setE (blk_set (blk_set M5.out 0 _) 1 _) 2 (.int .u64 (vs : Int))).setE (blk_set (blk_set (blk_set M5.out 0 _) 1 _) 2 _) 3 (.slice none 0 0)).setE (blk_set (blk_set (blk_set (blk_set M5.out 0 _) 1 _) 2 _) 3 _) 4 (.slice aa al ac)
        exact ao.rd (Nat.le_refl _) HV.out.bys
  · have hC1 : (C == 0) = false := by simpa using hC0
    have HC0 := hid hC0
    clear hC0
    obtain ⟨q0, q1, q2, q3, q4⟩ := ed5_cells M1.out
    have qf0 := blk_frozen M1.out 0
    have qf1 := blk_frozen M1.out 1
    have qf2 := blk_frozen M1.out 2
    have qf3 := blk_frozen M1.out 3
    have qf4 := blk_frozen M1.out 4
    go_wp2_with fail
    refine bodyPost_ret (ret_ct9 rfl (g := w.heap.size + 1) (by simp) (load30k (by rw [blk_set (blk_set (blk_set (blk_set (blk_set M1.out 0 _) 1 _) 2 _) 3 _) 4 _]; rfl))) rfl ?_
    exact ⟨((((((F0.out.trans F1.out).set _ _ (.inr (by omega))).set _ _ (.inr (by omega))).set _ _ (.inr (by omega))).set _ _ (.inr (by omega))).set _ _ (.inr (by omega))), .inl ⟨by rw [← HC.out]; exact HC0.out, by rw [← HC.out]; rfl⟩⟩
end Go.Proofs.Ytckdcaegnbgomaa
