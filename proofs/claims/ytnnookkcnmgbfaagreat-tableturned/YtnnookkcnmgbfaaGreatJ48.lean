/-
  TableReads: the walk.
-/
import Derived.Test.YtnnookkcnmgbfaaGreatJ41
import Derived.Test.YtnnookkcnmgbfaaGreatZG
import Derived.Test.YtnnookkcnmgbfaaGreatJ44
import Derived.Test.YtnnookkcnmgbfaaGreatJ46
import Derived.Test.YtnnookkcnmgbfaaGreatXT
import Derived.Test.YtnnookkcnmgbfaaGreatJ02
import Derived.Test.YtnnookkcnmgbfaaGreatJ00
import Derived.ShutString
import Derived.ChangeOld
import Derived.SizedLaws
import Derived.Deep.Matrix
namespace Go.Proofs.YtnnookkcnmgbfaaGreat
open Go.ChangeShapes Go.WideShapes Go.ChangeAt Go.RowKit

set_option maxRecDepth 20000 in
set_option maxHeartbeats 2000000 in
theorem spoilO_c (w : World) {B n : Nat} {v : Value} {xs : List Value} (o : w.ownsRow B 5 1 v n xs) (hn : n ≤ 9223372036854775807) :
    Calls Tryz.prog 9 #[v] w fun e w' => (∃ u, e = .returned u) ∧ Fr v.ownBlock.toList w w' := by
  rcases o.2 with ⟨rfl, h0⟩ | ⟨g, cap, cur, rfl, _, h3, h4, h5⟩
  · subst h0
    clear o
    go_enter Tryz.func9, Tryz.ntmps9
    go_wp2_with fail
    go_loopw [2] (fun v2 wr => v2 = .int .i64 0 ∧ wr = w) (fun _ _ => 0)
    case atStart => exact ⟨rfl, rfl⟩
    case round =>
      obtain ⟨rfl, rfl⟩ := hrel
      go_wp2
      go_end0
      exact ⟨⟨_, rfl⟩, Fr.refl _ _⟩
  · have hsz : n ≤ cur.size := by
      have hx := o.1
      have := o.cells (g := g) rfl
      by_cases h0 : n = 0
      · omega
      · obtain ⟨x, hx⟩ : ∃ x, xs[n - 1]? = some x := ⟨_, List.getElem?_eq_getElem (by omega)⟩
        have h6 := this _ _ hx
        rw [Addr.add_lit, blk_cell h3] at h6
        have := (Array.getElem?_eq_some_iff.1 h6).1
        omega
    have H3 := hid h3
    clear h5 o h3
    go_enter Tryz.func9, Tryz.ntmps9
    go_wp2_with fail
    go_loopw [2] (fun v2 wr => ∃ k : Nat, k ≤ n ∧ v2 = .int .i64 (k : Int) ∧ Fr [g] w wr ∧ ∃ cs, wr.heap[g]? = some (.cells cs 5 (0, 0)) ∧ n ≤ cs.size) (fun v2 _ => n - (intOf v2).toNat)
    case atStart => exact ⟨0, Nat.zero_le _, rfl, Fr.refl _ _, cur, H3.out, hsz⟩
    case round =>
      obtain ⟨k, hk, rfl, hf, cs, hc, hcs⟩ := hrel
      have HF := hid hf
      have HC := hid hc
      by_cases hlt : k < n
      · obtain ⟨x, hx⟩ : ∃ x, wr.cell? ⟨g, k, none⟩ = some x := ⟨cs[k]'(by omega), by rw [blk_cell hc]; exact Array.getElem?_eq_getElem (by omega)⟩
        have hz := blk_frozen hc k
        clear hf hc
        go_wp2
        go_roundw
        case rel => exact ⟨k + 1, by omega, by go_num, HF.out.set _ _ (.inl (by simp)), _, blk_set HC.out _ _, by simpa using hcs⟩
        case measure => simp [intOf]; omega
      · have hk' : k = n := by omega
        subst hk'
        clear hf hc
        go_wp2
        go_end0
        exact ⟨⟨_, rfl⟩, HF.out⟩
theorem byP_of {ps : Ps} (h : ∀ i, By (kA ps i) ∧ By (vA ps i)) : ByP ps := fun p hp => by
  obtain ⟨i, hi⟩ := List.getElem?_of_mem hp
  have := h i
  rw [(kA_at hi).1, (kA_at hi).2] at this
  exact this
theorem noopn_one {b : List Nat} {x y : Nat} (h : NoOpn b x) (k : NoOpn b y) : x = y := by
  rcases h with ⟨rfl, h1⟩ | ⟨rfl, h1, h2⟩ | ⟨rfl, h1, h2, h3⟩ | ⟨rfl, h1, h2, h3, h4⟩ | ⟨rfl, h1, h2, h3, h4, h5, h6⟩ <;> rcases k with ⟨rfl, k1⟩ | ⟨rfl, k1, k2⟩ | ⟨rfl, k1, k2, k3⟩ | ⟨rfl, k1, k2, k3, k4⟩ | ⟨rfl, k1, k2, k3, k4, k5, k6⟩ <;> first | rfl | (exact absurd h1 k1) | (exact absurd k1 h1) | (exact absurd h2 k2) | (exact absurd k2 h2) | (exact absurd h3 k3) | (exact absurd k3 h3) | (exact absurd ⟨k4, k5⟩ h4) | (exact absurd ⟨h4, h5⟩ k4)
theorem opn_no {b : List Nat} {ips : Ps} {r x : Nat} (h : Opn b ips r) (k : NoOpn b x) : False := by
  rcases k with ⟨_, k1⟩ | ⟨_, k1, k2⟩ | ⟨_, k1, k2, k3⟩ | ⟨_, k1, k2, k3, k4⟩ | ⟨_, k1, k2, k3, k4, k5, k6⟩
  · exact k1 h.foot
  · exact k2 h.sum
  · exact k3 h.plc
  · exact k4 ⟨h.isum, h.fsum⟩
  · exact k6 ips r h.bl h.sp
theorem ropen_c (w0 w : World) {a : Option Addr} {L c : Nat} {b : List Nat} (hr : Rd w0 (.slice a L c) (bv b)) (h0 : Fr [] w0 w) (hL : b.length = L) (hb : By b) (hl : L ≤ 20000) :
    Calls Tryz.prog 7 #[.slice a L c] w fun e w' => ROut w0 w w' b a L c e ∧ Fr [] w w' := by
  by_cases h : 44 ≤ L
  · exact ropen_long w0 w hr h0 hL hb hl h
  · exact ropen_short w0 w h0 hL (by omega)
/-- What alike asks of two tables that were opened of the same bytes. -/
theorem alike_opn (W : World) {w0 : World} {B B2 p : Nat} {b : List Nat} {ips : Ps} {r : Nat} {da fa : Option Addr} {dc fc G : Nat} {p2 : Nat} {a : Option Addr} {L c q pc : Nat} {fa2 : Option Addr} {fn2 fc2 : Nat} (O : Opn b ips r) (T : TabO B W p (b.take (fAt b)) (wn b (fAt b) (fSz b)) ips da dc fa fc G) (R : RTO w0 B2 W p2 b a L c ips q ips.length pc fa2 fn2 fc2) (hL : b.length = L) (hb : By b) (hl : L ≤ 20000)
    {ua sa ma : Option Addr} {ul uc sn sc mn mc : Nat} {user least most : List Nat} (ru : Rd W (.slice ua ul uc) (bv user)) (bu : By user) (lu : user.length = ul) (lu2 : ul ≤ 140737488355328)
    (rs : Rd W (.slice sa sn sc) (bv least)) (bs : By least) (ls : least.length ≤ 140737488355328) (rm : Rd W (.slice ma mn mc) (bv most)) (bm : By most) (lm : most.length = mn) (lm2 : mn ≤ 140737488355328) {sq : Nat} (hsq : sq < 18446744073709551616) :
    Calls Tryz.prog 10 #[.pointer (some ⟨p, 0, none⟩), .pointer (some ⟨p2, 0, none⟩), .slice ua ul uc, .int .u64 (sq : Int), .slice sa sn sc, .slice ma mn mc] W fun e w' => e = .returned (.bool true) ∧ Fr [] W w' := by
  have h1 := O.plc.hi
  have h2 := O.plc.hf
  have h3 := O.foot.len
  have hdl : (b.take (fAt b)).length = fAt b := by rw [List.length_take]; omega
  have hsp : ∀ i, i < ips.length → nxN ips i + szA ips i + 4 ≤ fAt b := fun i hi => by rw [← O.sp.all]; exact nx_le _ hi
  have hcn := blk_count O.bl
  rw [wn_len (by omega)] at hcn
  exact alike_c W T.tab R.rt (R.f0.fr R.fw) O.bl.rises (byP_of fun i => blk_byp O.bl (wn_by hb _ _) i) (fun i hi => rises_isK O.bl.rises hi) (by omega) (hb.take _) (by rw [hdl]; omega) (wn_by hb _ _) (by rw [wn_len (by omega)]; omega) hL hb hl (fun i hi => by rw [hdl]; exact hsp i hi) (by rw [hdl]; omega)
    (X := fun i => (look_ex b (nxN ips i) (szA ips i) (kA ips i)).choose) (Q := fun i => (look_ex b (nxN ips i) (szA ips i) (kA ips i)).choose_spec.choose)
    (fun i hi => (look_take (hsp i hi)).2 (look_ex b (nxN ips i) (szA ips i) (kA ips i)).choose_spec.choose_spec) (fun i _ => (look_ex b (nxN ips i) (szA ips i) (kA ips i)).choose_spec.choose_spec)
    ru bu lu lu2 rs bs ls rm bm lm lm2 hsq
theorem opn_one {b : List Nat} {ips ips' : Ps} {r r' : Nat} (h : Opn b ips r) (k : Opn b ips' r') (hb : b.length ≤ 20000) : ips' = ips :=
  blk_one k.bl h.bl (by rw [wn_len (by have := h.plc.hi; omega)]; have := h.plc.hi; omega)
theorem rout_opn {w0 w w' : World} {b : List Nat} {a : Option Addr} {L c : Nat} {e : Ending} {ips : Ps} {r : Nat} (h : ROut w0 w w' b a L c e) (O : Opn b ips r) (hb : b.length ≤ 20000) : ∃ p q pc fa fn fc, e = .returned (.tuple #[.pointer (some ⟨p, 0, none⟩), .int .i64 0]) ∧ RTO w0 w.heap.size w' p b a L c ips q ips.length pc fa fn fc := by
  rcases h with ⟨x, hno, _⟩ | ⟨ips', r', p, q, pc, fa, fn, fc, O', he, R⟩
  · exact (opn_no O hno).elim
  · obtain rfl := opn_one O O' hb
    exact ⟨p, q, pc, fa, fn, fc, he, R⟩
theorem rout_no {w0 w w' : World} {b : List Nat} {a : Option Addr} {L c : Nat} {e : Ending} {x : Nat} (h : ROut w0 w w' b a L c e) (k : NoOpn b x) : e = .returned (.tuple #[.pointer none, .int .i64 (x : Int)]) := by
  rcases h with ⟨y, hno, he⟩ | ⟨ips', r', p, q, pc, fa, fn, fc, O', he, R⟩
  · rw [noopn_one k hno]; exact he
  · exact (opn_no O' k).elim
theorem Fr.over {w w4 w5 : World} {g : Nat} (h : Fr [] w w4) (f : Fr [g] w4 w5) (hg : w.heap.size ≤ g) : Fr [] w w5 :=
  ⟨f.os.trans h.os, f.tape.trans h.tape, f.output.trans h.output, Nat.le_trans h.size f.size, fun k hk hn => (f.block k (Nat.lt_of_lt_of_le hk h.size) (by simp; omega)).trans (h.block k hk hn)⟩
set_option maxRecDepth 20000 in
set_option maxHeartbeats 3200000 in
theorem treads_c (w : World) {a : Option Addr} {L c : Nat} {b : List Nat} (hr : Rd w (.slice a L c) (bv b)) (hL : b.length = L) (hb : By b) (hl : L ≤ 140737488355328)
    {ua sa ma : Option Addr} {ul uc sn sc mn mc : Nat} {user least most : List Nat} (ru : Rd w (.slice ua ul uc) (bv user)) (bu : By user) (lu : user.length = ul) (lu2 : ul ≤ 140737488355328)
    (rs : Rd w (.slice sa sn sc) (bv least)) (bs : By least) (ls : least.length ≤ 140737488355328) (rm : Rd w (.slice ma mn mc) (bv most)) (bm : By most) (lm : most.length = mn) (lm2 : mn ≤ 140737488355328) {sq : Nat} (hsq : sq < 18446744073709551616) :
    Calls Tryz.prog 3 #[.slice a L c, .slice ua ul uc, .int .u64 (sq : Int), .slice sa sn sc, .slice ma mn mc] w fun e w' => e = .returned (.bool true) ∧ Fr [] w w' := by
  have KC := hid (known8_c w)
  have HR := hid hr
  have HB := hid hb
  have HL := hid hL
  have AL : Hid (∀ {W w0 : World} {B B2 p : Nat} {ips : Ps} {r : Nat} {da fa : Option Addr} {dc fc G : Nat} {p2 q pc : Nat} {fa2 : Option Addr} {fn2 fc2 : Nat}, Opn b ips r → L ≤ 20000 → Fr [] w W → TabO B W p (b.take (fAt b)) (wn b (fAt b) (fSz b)) ips da dc fa fc G → RTO w0 B2 W p2 b a L c ips q ips.length pc fa2 fn2 fc2 → Calls Tryz.prog 10 #[.pointer (some ⟨p, 0, none⟩), .pointer (some ⟨p2, 0, none⟩), .slice ua ul uc, .int .u64 (sq : Int), .slice sa sn sc, .slice ma mn mc] W fun e w' => e = .returned (.bool true) ∧ Fr [] W w') :=
    hid (fun O hl f T R => alike_opn _ O T R hL hb hl (ru.fr f) bu lu lu2 (rs.fr f) bs ls (rm.fr f) bm lm lm2 hsq)
  clear hr hb hL ru bu lu rs bs ls rm bm lm
  by_cases h3 : 8000 < L
  · have h3' : (8000 : Int) < (L : Int) := by omega
    go_enter Tryz.func3, Tryz.ntmps3
    go_wp2_with fail
    refine KC.out.mono ?_
    rintro e w1 ⟨rfl, f1⟩
    have F1 := hid f1
    clear f1
    go_wp2
    go_ret
    exact ⟨rfl, F1.out⟩
  have h3' : ¬ (8000 : Int) < (L : Int) := by omega
  go_enter Tryz.func3, Tryz.ntmps3
  go_wp2_with fail
  refine KC.out.mono ?_
  rintro e w1 ⟨rfl, f1⟩
  have F1 := hid f1
  have R1 := hid (HR.out.fr f1)
  have hbl3 : b.length ≤ 8000 := by have := HL.out; omega
  have hbl : b.length ≤ 140737488355328 := by omega
  clear f1 KC
  go_upto_region 6 with (at_builtin; refine wpList_append_nil rfl _ _ rfl rfl F1.out _ R1.out rfl hbl ?_; intro v2 w2 o2 f12 f2; rw [HL.out] at o2; obtain ⟨xa, xc, rfl, _⟩ := ownsRow_slice o2; have O2 := hid o2; have F2 := hid f2; clear o2 f2 f12)
  clear R1
  rcases opn_or b with ⟨ips, r, O⟩ | ⟨x, hno⟩
  · have h44 := O.foot.len
    have HO := hid O
    have hL44 := HL.out
    rcases O2.out.2 with ⟨_, h0⟩ | ⟨g, cap, cur, he, hbg, hg1, hcap, _⟩
    · omega
    simp only [Value.slice.injEq, true_and] at he
    obtain ⟨rfl, rfl⟩ := he
    have HG : Hid (w.heap.size ≤ g ∧ g < w2.heap.size) := hid ⟨Nat.le_trans F1.out.size hbg, blk_lt hg1⟩
    have RL2 : Hid (Rd w2 (.slice (some ⟨g, 0, none⟩) b.length xc) (bv b)) := hid (by rw [HL.out]; exact Rd.ownN O2.out HL.out.symm)
    have OP := hid (open_own w2 RL2.out HB.out (by omega) HO.out)
    rw [HL.out] at OP RL2
    clear O h44 hg1 hcap hbg hL44
    go_upto_region 7 with (go_at_call 6; refine OP.out.mono ?_; rintro e w3 ⟨p, da, dc, fa, fc, G, rfl, tab, f3⟩; have T3 := hid tab; have F23 := hid f3; have F3 := hid (F2.out.trans f3); clear tab f3)
    have RO := hid (ropen_c w w3 HR.out F3.out HL.out HB.out (by omega))
    clear OP
    go_upto_region 8 with (go_at_call 7; refine RO.out.mono ?_; rintro e w4 ⟨ho, f4⟩; obtain ⟨p2, q, pc, fa2, fn2, fc2, rfl, rto⟩ := rout_opn ho HO.out (by omega); have T4 := hid (T3.out.keep f4 (by simp)); have R4 := hid rto; have F24 := hid (F23.out.trans f4); have F4 := hid (F3.out.trans f4); have S3 := hid F23.out.size; clear ho rto f4)
    have BC := bytes_c (RL2.out.fr F24.out) (HR.out.fr F4.out) HB.out HB.out
    rw [decide_eq_true rfl] at BC
    have BC := hid BC
    have SP := hid (spoilO_c w4 (ownsRow_fr O2.out F24.out) (by omega))
    clear RO T3 F23 RL2
    go_upto_region 12 with (go_at_call 8; refine BC.out.mono ?_; rintro e w' ⟨rfl, hw'⟩; have hw'' := hw'.symm; clear hw'; subst hw'')
    clear BC
    go_upto_region 13 with (go_at_call 9; refine SP.out.mono ?_; rintro e w5 ⟨⟨u, rfl⟩, f5'⟩; have f5 : Fr [g] w4 w5 := f5'; have F5 := hid (F4.out.over f5 HG.out.1); have T5 := hid (T4.out.keep f5 (by have := HG.out.2; simp; omega)); have R5 := hid (R4.out.keep f5 (by have := HG.out.2; have := S3.out; simp; omega) F5.out); clear f5 f5')
    have A1 := hid (AL.out HO.out (by omega) F5.out T5.out R5.out)
    clear SP T4 R4
    go_wp2_with (first
      | (have zz := F6; clear zz; go_at_call 10; refine A2.out.mono ?_; rintro e w7 ⟨rfl, f7⟩; have F7 := hid (F6.out.trans f7); clear f7)
      | (go_at_call 10; refine A1.out.mono ?_; rintro e w6 ⟨rfl, f6⟩; have F6 := hid (F5.out.trans f6); have A2 := hid (AL.out HO.out (by omega) F6.out (T5.out.keep f6 (by simp)) (R5.out.keep f6 (by simp) F6.out)); clear f6))
    go_ret
    exact ⟨rfl, F7.out⟩
  · have hx := noopn_x hno
    have RL2 : Hid (Rd w2 (.slice xa L xc) (bv b)) := hid (Rd.ownN O2.out HL.out.symm)
    have OP := hid (open_no w2 RL2.out HB.out (by omega) hno)
    have HNO := hid hno
    clear hno
    go_upto_region 7 with (go_at_call 6; refine OP.out.mono ?_; rintro e w3 ⟨rfl, f3⟩; have F23 := hid f3; have F3 := hid (F2.out.trans f3); clear f3)
    have RO := hid (ropen_c w w3 HR.out F3.out HL.out HB.out (by omega))
    clear OP
    go_upto_region 8 with (go_at_call 7; refine RO.out.mono ?_; rintro e w4 ⟨ho, f4⟩; have he := rout_no ho HNO.out; subst he; have F24 := hid (F23.out.trans f4); have F4 := hid (F3.out.trans f4); clear ho f4)
    have BC := bytes_c (RL2.out.fr F24.out) (HR.out.fr F4.out) HB.out HB.out
    rw [decide_eq_true rfl] at BC
    have BC := hid BC
    clear RO F23 RL2 HNO
    rcases hx with rfl | rfl
    all_goals
      go_wp2_with (go_at_call 8; refine BC.out.mono ?_; rintro e w' ⟨rfl, hw'⟩; have hw'' := hw'.symm; clear hw'; subst hw'')
      go_ret
      exact ⟨rfl, F4.out⟩
end Go.Proofs.YtnnookkcnmgbfaaGreat
namespace Go.Proofs.YtnnookkcnmgbfaaGreat
open Go.ChangeShapes Go.WideShapes Go.ChangeAt Go.RowKit

theorem rtbuild_own (w : World) {v : Value} {ps : Ps} (h : RdK w v ps) (hl : Lim ps) {b r i t : Int} {x : Nat} {X : List Nat} (hT : TbR b r i t ps x X) :
    Calls Tryz.prog 12 #[v, .agg #[.int .i64 b, .int .i64 r, .int .i64 i, .int .i64 t]] w fun e w' => ∃ v', e = .returned (.tuple #[v', .int .i64 (x : Int)]) ∧ w'.ownsRow w.heap.size 5 1 v' X.length (bv X) ∧ Fr [] w w' := by
  rcases hT with ⟨rfl, hp, rfl⟩ | ⟨rfl, hp, h0, rfl⟩ | ⟨rfl, hp, h0, hr, rfl⟩ | ⟨rfl, hp, h0, hr, rfl⟩
  · obtain ⟨a, c, rfl, _⟩ := h
    exact (rtbuild_plan w b r i t hp).mono fun e w' ⟨e1, f⟩ => ⟨_, e1, World.ownsRow_nil _ _ _ _, f⟩
  · obtain ⟨a, c, rfl, _⟩ := h
    subst h0
    exact (rtbuild_none w b r i t hp).mono fun e w' ⟨e1, f⟩ => ⟨_, e1, World.ownsRow_nil _ _ _ _, f⟩
  · exact (rtbuild_order w h hl.n h0 b r i t hp hr).mono fun e w' ⟨e1, f⟩ => ⟨_, e1, World.ownsRow_nil _ _ _ _, f⟩
  · have hb := hp.b0
    have hr0 := hp.r0
    have hi := hp.i0
    obtain ⟨b', rfl⟩ : ∃ b' : Nat, b = (b' : Int) := ⟨b.toNat, by omega⟩
    obtain ⟨r', rfl⟩ : ∃ r' : Nat, r = (r' : Int) := ⟨r.toNat, by omega⟩
    obtain ⟨i', rfl⟩ : ∃ i' : Nat, i = (i' : Int) := ⟨i.toNat, by omega⟩
    simp only [Int.toNat_natCast]
    exact (rtbuild_ok w h hl h0 b' r' i' t hp hr).mono fun e w' ⟨v', e1, o, f⟩ => ⟨_, e1, o, f⟩
theorem own_cut8 {w : World} {base : Nat} {e : TypeId} {a : Option Addr} {n c k : Nat} {xs : List Value} (h : w.ownsRow base e 1 (.slice a n c) n xs) (hk : k ≤ n) : w.ownsRow base e 1 (.slice a k c) k (xs.take k) := by
  have hl := h.1
  refine ⟨by rw [List.length_take]; omega, ?_⟩
  rcases h.2 with ⟨h1, h2⟩ | ⟨g, cap, cur, h1, h2, h3, h4, h5, h6, h7⟩
  · simp only [Value.slice.injEq] at h1
    obtain ⟨rfl, _, rfl⟩ := h1
    left
    exact ⟨by rw [show k = 0 by omega], by omega⟩
  · simp only [Value.slice.injEq] at h1
    obtain ⟨rfl, _, rfl⟩ := h1
    right
    refine ⟨g, c, cur, rfl, h2, h3, by omega, h5, h6, ?_⟩
    rw [← h7, List.take_take]
    congr 1
    omega
/-- Bytes of the law's own. -/
def BRow (w : World) (B : Nat) (v : Value) (W : World) : Prop := ∃ a n c Y, v = .slice a n c ∧ W.ownsRow B 5 1 (.slice a n c) n (bv Y) ∧ Y.length = n ∧ By Y ∧ n ≤ 1000000000 ∧ Fr [] w W ∧ B ≤ W.heap.size
set_option maxRecDepth 20000 in
set_option maxHeartbeats 3200000 in
theorem tturned_c (w : World) {v : Value} {ps : Ps} (h : RdK w v ps) (hl : ps.length ≤ 140737488355328) (b r i t : Int) (k : Int) (hk : -9223372036854775808 ≤ k ∧ k ≤ 9223372036854775807) (y : Nat) (hy : y < 256) (m : Int) (hm : -9223372036854775808 ≤ m ∧ m ≤ 9223372036854775807)
    {ga : Option Addr} {gl gc : Nat} {more : List Nat} (rg : Rd w (.slice ga gl gc) (bv more)) (bg : By more) (lg : more.length = gl) {ua : Option Addr} {ul uc : Nat} {user : List Nat} (ru : Rd w (.slice ua ul uc) (bv user)) (bu : By user) (lu : user.length = ul) (lu2 : ul ≤ 140737488355328) {sq : Nat} (hsq : sq < 18446744073709551616) :
    Calls Tryz.prog 4 #[v, .agg #[.int .i64 b, .int .i64 r, .int .i64 i, .int .i64 t], .int .i64 k, .int .u8 (y : Int), .int .i64 m, .slice ga gl gc, .slice ua ul uc, .int .u64 (sq : Int)] w fun e w' => e = .returned (.bool true) ∧ Fr [] w w' := by
  have HK := hid h
  have HG := hid rg
  have HLG := hid lg
  have TR : Hid (∀ {W : World} {a : Option Addr} {N c : Nat} {Y : List Nat}, Fr [] w W → Rd W (.slice a N c) (bv Y) → Y.length = N → By Y → N ≤ 140737488355328 → Calls Tryz.prog 3 #[.slice a N c, .slice ua ul uc, .int .u64 (sq : Int), .slice none 0 0, .slice none 0 0] W fun e w' => e = .returned (.bool true) ∧ Fr [] W w') :=
    hid (fun f hr hL hb hl => treads_c _ hr hL hb hl (ru.fr f) bu lu lu2 (least := []) (most := []) (.inl ⟨rfl, rfl⟩) (fun x hx => by cases hx) (by simp) (.inl ⟨rfl, rfl⟩) (fun x hx => by cases hx) rfl (by omega) hsq)
  obtain ⟨a, c, rfl, hnc, _⟩ := h
  generalize hnn : ps.length = n at *
  have HN := hid hnn
  clear hnn rg lg ru bu lu
  obtain ⟨W0, hW0⟩ : ∃ W0, W0 = w.alloc (.cells #[.int .i64 b, .int .i64 r, .int .i64 i, .int .i64 t] 38) := ⟨_, rfl⟩
  have F0 : Hid (Fr [] w W0) := hid (by rw [hW0]; exact (Fr.refl _ _).alloc _)
  have B0 : Hid (W0.heap[w.heap.size]? = some (.cells #[.int .i64 b, .int .i64 r, .int .i64 i, .int .i64 t] 38 (0, 0))) := hid (by rw [hW0]; exact blk_new _ _)
  have PLC : Hid (∀ W, Fr [] W0 W → W.cell? ⟨w.heap.size, 0, none⟩ = some (.int .i64 b) ∧ W.cell? ⟨w.heap.size, 1, none⟩ = some (.int .i64 r) ∧ W.cell? ⟨w.heap.size, 2, none⟩ = some (.int .i64 i) ∧ W.cell? ⟨w.heap.size, 3, none⟩ = some (.int .i64 t)) := hid (fun W f => by
    have k := f.at B0.out (by simp)
    exact ⟨by rw [blk_cell k]; rfl, by rw [blk_cell k]; rfl, by rw [blk_cell k]; rfl, by rw [blk_cell k]; rfl⟩)
  have KN := hid (known8_c W0)
  go_enter Tryz.func4, Tryz.ntmps4
  go_wp2_with fail
  rw [← hW0]
  clear hW0
  refine KN.out.mono ?_
  rintro e w1 ⟨rfl, f1⟩
  have F1 := hid f1
  have FC := hid (few8_c w1 ((HK.out.fr F0.out).fr f1) (by rw [HN.out]; exact hl))
  clear f1 KN
  go_wp2_with fail
  refine FC.out.mono ?_
  rintro e w2 ⟨hq, f2⟩
  have F2 := hid (F1.out.trans f2)
  clear f2 FC
  rcases hq with rfl | ⟨rfl, hfew⟩
  · go_wp2
    go_ret
    exact ⟨rfl, F0.out.trans F2.out⟩
  have LM := hid (few_lim hfew)
  have hn60 : n ≤ 60 := by rw [← HN.out]; exact hfew.n
  clear hfew
  by_cases h100 : (100 : Int) < (gl : Int)
  · go_wp2
    go_ret
    exact ⟨rfl, F0.out.trans F2.out⟩
  obtain ⟨p0, p1, p2, p3⟩ := PLC.out w2 F2.out
  obtain ⟨x, X, hT⟩ := tbr_ex b r i t ps
  have HT := hid hT
  have TB := hid (rtbuild_own w2 ((HK.out.fr F0.out).fr F2.out) LM.out hT)
  have BX := hid (hT.by HK.out.by)
  clear hT
  go_wp2_with fail
  refine TB.out.mono ?_
  rintro e w3 ⟨v3, rfl, o3, f3⟩
  have O3 := hid o3
  have F3 := hid ((F0.out.trans F2.out).trans f3)
  have S2 := hid (Nat.le_trans F0.out.size F2.out.size)
  have S3 := hid f3.size
  obtain ⟨a3, c3, h3, _⟩ := ownsRow_slice o3
  subst h3
  clear o3 f3 TB p0 p1 p2 p3 B0 PLC
  by_cases hx : x = 0
  rotate_left
  · have hx1 : ((x : Int) == 0) = false := by rw [beq_eq_false_iff_ne]; omega
    go_wp2
    go_ret
    exact ⟨rfl, F3.out⟩
  subst hx
  have XLN : Hid (X.length ≤ 1000000000) := hid (by
    rcases HT.out with ⟨e, _⟩ | ⟨e, _⟩ | ⟨e, _⟩ | ⟨_, hp, h0, hr, hX⟩
    · omega
    · omega
    · omega
    · have hr0 := hp.r0
      have hr1 := hp.r1
      have hi0 := hp.i0
      have hi1 := hp.i1
      rw [hX]
      exact (tbl_open (r := r.toNat) (most := b.toNat) (bits := i.toNat) LM.out hr HK.out.by h0 (by omega)).len)
  obtain ⟨XL, hXL⟩ : ∃ XL, XL = X.length := ⟨_, rfl⟩
  have HXL := hid hXL
  rw [← hXL] at O3 ⊢
  clear hXL HT
  go_upto_region 8 with fail
  obtain ⟨tb, htb⟩ : ∃ tb : Bool, tb = true ↔ 0 ≤ k ∧ k < (XL : Int) := ⟨decide (0 ≤ k ∧ k < (XL : Int)), decide_eq_true_iff⟩
  have HTB := hid htb
  clear htb
  go_cut [44] from 19 to 43 (fun v44 W => v44 = .bool tb ∧ w3 = W)
  case first =>
    by_cases hk0 : k < 0
    · have hb : tb = false := by
        rcases ht : tb with _ | _
        · rfl
        · have := HTB.out.1 ht; omega
      subst hb
      go_wp2
      go_meet
      case rel => exact ⟨rfl, rfl⟩
    by_cases hk1 : (XL : Int) ≤ k
    · have hb : tb = false := by
        rcases ht : tb with _ | _
        · rfl
        · have := HTB.out.1 ht; omega
      have hk2 : ¬ k < (XL : Int) := by omega
      subst hb
      go_wp2
      go_meet
      case rel => exact ⟨rfl, rfl⟩
    · have hb : tb = true := HTB.out.2 (by omega)
      have hk2 : k < (XL : Int) := by omega
      have hk3 : 0 ≤ k := by omega
      subst hb
      go_wp2
      go_meet
      case rel => exact ⟨rfl, rfl⟩
  case rest =>
    obtain ⟨rfl, hw⟩ := hcut
    subst hw
    go_upto_if 44 with fail
    go_cut [17] from 44 to 53 (fun v17 W => BRow w w2.heap.size v17 W)
    case first =>
      rcases ht : tb with _ | _
      · go_wp2
        go_meet
        case rel => exact ⟨_, _, _, X, rfl, O3.out, HXL.out.symm, BX.out, by rw [HXL.out]; exact XLN.out, F3.out, S3.out⟩
      have ht2 := HTB.out.1 ht
      obtain ⟨q, rfl⟩ : ∃ q : Nat, k = (q : Int) := ⟨k.toNat, by omega⟩
      have hqX : q < X.length := by rw [← HXL.out]; omega
      obtain ⟨z, hz⟩ : ∃ z, X[q]? = some z := ⟨_, List.getElem?_eq_getElem hqX⟩
      have hz256 : z < 256 := BX.out _ (List.mem_of_getElem? hz)
      have hxr := u8_xor_nat z y hz256 hy
      have hq256 : z ^^^ y < 256 := Nat.xor_lt_two_pow (n := 8) hz256 hy
      rcases O3.out.2 with ⟨_, h0'⟩ | ⟨g1, c1', cur1, hv1, hbg1, _, hc1', _⟩
      · omega
      simp only [Value.slice.injEq, true_and] at hv1
      obtain ⟨rfl, rfl⟩ := hv1
      have S1 := O3.out.stored q (.int .u8 ((z ^^^ y : Nat) : Int))
      have hset : (bv X).set q (.int .u8 ((z ^^^ y : Nat) : Int)) = bv (X.set q (z ^^^ y)) := by unfold bv; rw [List.map_set]
      rw [hset] at S1
      have hcp := O3.out.cells rfl q _ (bv_at hz)
      rw [Addr.add_lit, Nat.zero_add] at hcp
      have hzp := O3.out.frozenAt q
      have F4 := hid (F3.out.grown S1.2 fun j hj => .inr (by cases hj; have := S2.out; omega))
      have HCT : Hid ((X.set q (z ^^^ y)).length = XL) := hid (by rw [List.length_set]; exact HXL.out.symm)
      have HBT := hid (BX.out.set8 hq256 q)
      have O4 := hid S1.1
      have hqi : (q : Int) < (XL : Int) := ht2.2
      clear S1 hset hz hqX hbg1 O3 ht2 ht HTB
      generalize X.set q (z ^^^ y) = X' at *
      generalize z ^^^ y = zy at *
      go_wp2
      go_meet
      case rel => exact ⟨_, _, _, X', rfl, O4.out, HCT.out, HBT.out, by rw [HXL.out]; exact XLN.out, F4.out, Nat.le_trans S3.out (by simp [World.setCell])⟩
    case rest =>
     clear O3 F3 HXL XLN BX HTB
     obtain ⟨a4, n4, c4, Y, rfl, o4, hY, bY, l4, f4, s4⟩ := hcut
     have S4 := hid s4
     have O4 := hid o4
     have HY := hid hY
     have BY := hid bY
     have F4 := hid f4
     clear o4 hY bY f4 s4
     go_upto_region 10 with fail
     obtain ⟨tb, htb⟩ : ∃ tb : Bool, tb = true ↔ 0 ≤ m ∧ m < (n4 : Int) := ⟨decide (0 ≤ m ∧ m < (n4 : Int)), decide_eq_true_iff⟩
     have HTB := hid htb
     clear htb
     obtain ⟨w4, hw4⟩ : ∃ w4, w4 = wc := ⟨_, rfl⟩
     rw [← hw4] at O4 F4 S4 ⊢
     clear hw4
     go_cut [61] from 54 to 60 (fun v61 W => v61 = .bool tb ∧ w4 = W)
     case first =>
       by_cases hm0 : m < 0
       · have hb : tb = false := by
           rcases ht : tb with _ | _
           · rfl
           · have := HTB.out.1 ht; omega
         subst hb
         go_wp2
         go_meet
         case rel => exact ⟨rfl, rfl⟩
       by_cases hm1 : (n4 : Int) ≤ m
       · have hb : tb = false := by
           rcases ht : tb with _ | _
           · rfl
           · have := HTB.out.1 ht; omega
         have hm2 : ¬ m < (n4 : Int) := by omega
         subst hb
         go_wp2
         go_meet
         case rel => exact ⟨rfl, rfl⟩
       · have hb : tb = true := HTB.out.2 (by omega)
         have hm2 : m < (n4 : Int) := by omega
         have hm3 : 0 ≤ m := by omega
         subst hb
         go_wp2
         go_meet
         case rel => exact ⟨rfl, rfl⟩
     case rest =>
      obtain ⟨rfl, hw⟩ := hcut
      subst hw
      go_upto_if 61 with fail
      go_cut [17] from 61 to 64 (fun v17 W => BRow w w2.heap.size v17 W)
      case first =>
        rcases ht : tb with _ | _
        · go_wp2
          go_meet
          case rel => exact ⟨_, _, _, Y, rfl, O4.out, HY.out, BY.out, l4, F4.out, S4.out⟩
        have ht2 := HTB.out.1 ht
        obtain ⟨q, rfl⟩ : ∃ q : Nat, m = (q : Int) := ⟨m.toNat, by omega⟩
        have hqn : q < n4 := by omega
        rcases O4.out.2 with ⟨_, h0'⟩ | ⟨g1, c1', cur1, hv1, hbg1, _, hc1', _⟩
        · omega
        simp only [Value.slice.injEq, true_and] at hv1
        obtain ⟨rfl, rfl⟩ := hv1
        have O5 := hid (own_cut8 O4.out (k := q) (by omega))
        have HCT : Hid ((Y.take q).length = q) := hid (by rw [List.length_take, HY.out]; omega)
        have hb5 : (bv Y).take q = bv (Y.take q) := by unfold bv; rw [List.map_take]
        rw [hb5] at O5
        have HB5 := hid (BY.out.take q)
        have hq4 : (q : Int) ≤ (c4 : Int) := by omega
        clear hb5 hbg1 O4 HY BY ht2 ht HTB
        generalize Y.take q = Y' at *
        go_wp2
        go_meet
        case rel => exact ⟨_, _, _, Y', rfl, O5.out, HCT.out, HB5.out, by omega, F4.out, S4.out⟩
      case rest =>
        clear O4 HY BY F4 HTB
        obtain ⟨a5, n5, c5, Z, rfl, o5, hZ, bZ, l5, f5, s5⟩ := hcut
        have S5 := hid s5
        have O5 := hid o5
        have HZ := hid hZ
        have BZ := hid bZ
        have F5 := hid f5
        have RG := hid (HG.out.fr f5)
        clear o5 hZ bZ f5 s5
        have hn7 : Z.length + more.length ≤ 140737488355328 := by have := HZ.out; have := HLG.out; omega
        go_wp2_with (first
          | (go_at_call 3; refine RD.out.mono ?_; rintro e w7 ⟨rfl, f7⟩; have F7 := hid (F6.out.trans f7); clear f7)
          | (at_builtin; refine wpList_append_bv rfl _ _ rfl (by rw [HZ.out]; exact O5.out) rfl F5.out S2.out S5.out _ RG.out rfl hn7 ?_; intro v6 w6 o6 f6; obtain ⟨N6, hN6⟩ : ∃ x, x = Z.length + more.length := ⟨_, rfl⟩; rw [← hN6] at o6; obtain ⟨a6, c6, rfl, _⟩ := ownsRow_slice o6; have F6 := hid f6; have RD := hid (TR.out f6 (Rd.ownN o6 (by rw [hN6, List.length_append])) (by rw [hN6, List.length_append]) (BZ.out.append bg) (by rw [hN6]; exact hn7)); clear o6 f6 hN6))
        go_ret
        exact ⟨rfl, F7.out⟩
end Go.Proofs.YtnnookkcnmgbfaaGreat
namespace Go.Proofs.YtnnookkcnmgbfaaGreat
open Go.ChangeShapes Go.WideShapes Go.ChangeAt Go.RowKit Go.Deep

theorem ownKnobs : ownKnob Tryz.prog.godebug = none := by kernel_rfl
theorem laidOut : laidOutB Tryz.prog = true := by kernel_rfl

theorem nat_of {n : Int} (h : 0 ≤ n) : ∃ m : Nat, n = (m : Int) := ⟨n.toNat, by omega⟩

/-- Bytes that came in. -/
theorem bytes_of {H : Type} {enc : TypeId × Value → H} {W : World} {ua : Option Addr} {len uc : Nat} {d : DataW H} {ps : List MemPlace} (h : DataW.Trod enc Tryz.prog W 0 (fun _ => true) true 22 (.slice ua len uc) d ps)
    (hw : ∀ n ∈ d.weights Tryz.prog 22, n ≤ reachBytes) : ∃ ns : List Nat, ns.length = len ∧ Rd W (.slice ua len uc) (bv ns) ∧ By ns ∧ len ≤ 140737488351232 := by
  obtain ⟨fuel, hf⟩ := h
  rcases open_ints Tryz.underlying22 Tryz.underlying5 (by kernel_rfl) hf with ⟨hcs, _⟩ | ⟨a, l, c, zs, hcs, _, hl, hm, hz, hx, hcell, hwf⟩
  · simp [Value.cells] at hcs
    obtain ⟨rfl, rfl, rfl⟩ := hcs
    exact ⟨[], rfl, .inl ⟨rfl, rfl⟩, fun u hu => by simp at hu, by omega⟩
  · simp [Value.cells] at hcs
    obtain ⟨rfl, rfl, rfl⟩ := hcs
    simp only [Prod.mk.injEq] at hx
    obtain ⟨rfl, _⟩ := hx
    simp only [if_true] at hz
    have hXl : ((zs.take len).map Int.toNat).length = len := by rw [List.length_map, List.length_take]; omega
    have hb : ∀ z ∈ zs, 0 ≤ z ∧ z ≤ 255 := fun z hz' => bounds_u8 (hwf z hz')
    refine ⟨(zs.take len).map Int.toNat, hXl, .inr ⟨a, uc, by rw [bv_len, hXl], by rw [bv_len, hXl]; exact hl, fun j u hj => ?_⟩, fun u hu => ?_, ?_⟩
    · have hjl : j < len := by
        rcases Nat.lt_or_ge j len with h | h
        · exact h
        · rw [List.getElem?_eq_none (by rw [bv_len, hXl]; omega)] at hj; cases hj
      have hjz : j < zs.length := by omega
      rw [hcell j hjz]
      unfold bv at hj
      rw [List.getElem?_map, List.getElem?_map, List.getElem?_take, if_pos hjl, List.getElem?_eq_getElem hjz] at hj
      simp only [Option.map_some, Option.some.injEq] at hj
      rw [← hj]
      have h0 := hb _ (List.getElem_mem hjz)
      simp only [List.getD, List.getElem?_eq_getElem hjz, Option.getD_some, Int.toNat_of_nonneg h0.1]
    · obtain ⟨n, hn, rfl⟩ := List.mem_map.1 hu
      have := hb n (List.mem_of_mem_take hn)
      omega
    · have h1 := hw (uc * Tryz.prog.bytesOf 5) (by
        simp only [DataW.weights, Tryz.underlying22]
        refine List.mem_cons.2 (.inl ?_)
        rw [lits, lits, List.length_map, List.length_map, List.length_take, List.length_drop, hz]
        congr 1; omega)
      rw [show Tryz.prog.bytesOf 5 = 1 from by kernel_rfl] at h1
      unfold reachBytes at h1
      omega
end Go.Proofs.YtnnookkcnmgbfaaGreat
