/-
  What was built is opened, and its ranges are told.
-/
import Derived.Test.YtobdegmlijnogaaXZ
import Derived.Test.YtobdegmlijnogaaJ43
import Derived.Test.YtobdegmlijnogaaJ45
import Derived.Test.YtobdegmlijnogaaJ00
import Derived.Test.YtobdegmlijnogaaJ01
import Derived.ShutString
import Derived.ChangeOld
import Derived.SizedLaws
import Derived.Deep.Matrix
namespace Go.Proofs.Ytobdegmlijnogaa
open Go.ChangeShapes Go.WideShapes Go.ChangeAt Go.RowKit

/-- The blocks, one by one. -/
def blkA (D : List Ps) (i : Nat) : Ps := D[i]?.getD []
theorem blkA_at {D : List Ps} {i : Nat} {c : Ps} (h : D[i]? = some c) : blkA D i = c := by unfold blkA; rw [h]; rfl
theorem built_look {r : Nat} {D : List Ps} (hby : ByP D.flatten) (hr : Rises D.flatten) (hne : ∀ c ∈ D, c ≠ []) (hl : (datL r D).length ≤ 1000000000) (h1 : 1 ≤ r) (h2 : r ≤ 64) {i : Nat} (hi : i < (idxF r 0 D).length) :
    LookR (datL r D) (nxN (idxF r 0 D) i) (szA (idxF r 0 D) i) (kA (idxF r 0 D) i) 0 (blkA D i) ∧ nxN (idxF r 0 D) i + szA (idxF r 0 D) i + 4 ≤ (datL r D).length := by
  rw [idxF_len] at hi
  have hc : D[i]? = some D[i] := List.getElem?_eq_getElem hi
  have lk := idx_look (r := r) hby (by omega) hc
  have hle := dat_le (r := r) hc
  have hm := List.mem_of_getElem? hc
  rw [blkA_at hc]
  refine ⟨.inr (.inr ⟨rfl, lk.1, ⟨r, ?_⟩, hne _ hm, ((idx_val (by omega) hc).2).symm⟩), ?_⟩
  · rw [lk.2]
    exact ⟨chunk_rises hr hm, h1, h2, rfl⟩
  · rw [idx_nx (by omega) i (by omega), idx_sz (by omega) hc]
    exact hle
theorem range_built (w : World) {p r most : Nat} {ps : Ps} {flt : List Nat} {da fa : Option Addr} {dc fc G : Nat} (T : Tab w p (datL r (chs most ps)) flt (idxF r 0 (chs most ps)) da dc fa fc G) (hl : Lim ps) (hr : Rises ps) (hb : ByP ps) (h1 : 1 ≤ r) (h2 : r ≤ 64) {lev mov : Value} {least mk : List Nat} (rl : Rd w lev (bv least)) (rm : Rd w mov (bv mk)) (bl : By least) (bm : By mk) :
    Calls Try.prog 18 #[.pointer (some ⟨p, 0, none⟩), lev, mov] w fun e w' => ∃ v', e = .returned (.tuple #[v', .int .i64 0]) ∧ ColO w' w.heap.size v' (ps.filter (inR least mk)) ∧ Fr [] w w' := by
  have hf := chs_flat most ps
  have hD := hl.dat r most
  have hn := hl.n
  have hrD : Rises (chs most ps).flatten := by rw [hf.1]; exact hr
  have hbD : ByP (chs most ps).flatten := by rw [hf.1]; exact hb
  have bi := idx_by (r := r) _ 0 hbD hf.2
  refine (range_c w T (datL_by hbD) (by omega) bi (by rw [idxF_len]; omega) (fun i hi => (built_look hbD hrD hf.2 (by omega) h1 h2 hi).2) (X := fun _ => 0) (Q := blkA (chs most ps)) (fun i hi => (built_look hbD hrD hf.2 (by omega) h1 h2 hi).1) rl rm bl bm).mono ?_
  rintro e w' ⟨I, v', ⟨hI, _, hI2⟩, rfl, co, f⟩
  rw [idxF_len] at hI co ⊢
  have hR := rng_all hrD hf.2 (X := fun _ => 0) (Q := blkA (chs most ps)) (U := fun i => userL (kA (idxF r 0 (chs most ps)) i)) (fun i c hc => ⟨rfl, blkA_at hc, by rw [(idx_val (by omega) hc).2]⟩) least mk hI (fun h => by
    have := hI2 h
    unfold atU at this
    simp only [decide_eq_false_iff_not] at this
    omega)
  rw [hR, hf.1] at co
  rw [hR]
  exact ⟨v', rfl, co, f⟩
theorem all_built (w : World) {p r most : Nat} {ps : Ps} {flt : List Nat} {da fa : Option Addr} {dc fc G : Nat} (T : Tab w p (datL r (chs most ps)) flt (idxF r 0 (chs most ps)) da dc fa fc G) (hl : Lim ps) (hr : Rises ps) (hb : ByP ps) (h1 : 1 ≤ r) (h2 : r ≤ 64) :
    Calls Try.prog 11 #[.pointer (some ⟨p, 0, none⟩)] w fun e w' => ∃ v', e = .returned (.tuple #[v', .int .i64 0]) ∧ ColO w' w.heap.size v' ps ∧ Fr [] w w' := by
  have hf := chs_flat most ps
  have hD := hl.dat r most
  have hn := hl.n
  have hrD : Rises (chs most ps).flatten := by rw [hf.1]; exact hr
  have hbD : ByP (chs most ps).flatten := by rw [hf.1]; exact hb
  have bi := idx_by (r := r) _ 0 hbD hf.2
  refine (tall_c w T (datL_by hbD) (by omega) bi (by rw [idxF_len]; omega) (fun i hi => (built_look hbD hrD hf.2 (by omega) h1 h2 hi).2) (X := fun _ => 0) (Q := blkA (chs most ps)) (fun i hi => (built_look hbD hrD hf.2 (by omega) h1 h2 hi).1)).mono ?_
  rintro e w' ⟨v', rfl, co, f⟩
  rw [idxF_len] at co ⊢
  have hR := rng_all hrD hf.2 (X := fun _ => 0) (Q := blkA (chs most ps)) (U := fun i => userL (kA (idxF r 0 (chs most ps)) i)) (fun i c hc => ⟨rfl, blkA_at hc, by rw [(idx_val (by omega) hc).2]⟩) [] [] (Nat.zero_le _) (fun h => by omega)
  rw [Nat.sub_zero] at hR
  rw [hR, hf.1, filter_nil] at co
  rw [hR]
  exact ⟨v', rfl, co, f⟩
theorem topen_built (w : World) {r most bits : Nat} {ps : Ps} {v : Value} (o : Rd w v (bv (tblL r most bits ps))) (hl : Lim ps) (hr : Rises ps) (hb : ByP ps) (h0 : ps ≠ []) (hbits : bits ≤ 64) :
    Calls Try.prog 10 #[v] w fun e w' => ∃ p da dc fa fc G, e = .returned (.tuple #[.pointer (some ⟨p, 0, none⟩), .int .i64 0]) ∧ Tab w' p (datL r (chs most ps)) (fltL bits (usN ps ps.length)) (idxF r 0 (chs most ps)) da dc fa fc G ∧ Fr [] w w' := by
  have TO := tbl_open (r := r) (most := most) (bits := bits) hl hr hb h0 hbits
  rcases o.split with ⟨e, _⟩ | ⟨q, off, c, rfl, _⟩
  · have := TO.l44; rw [e] at this; simp at this
  · refine (open_ok w o (tblL_by hb) TO.len TO.op).mono ?_
    rintro e w' ⟨p, da, dc, fa, fc, G, rfl, tab, f⟩
    rw [TO.dat, TO.flt] at tab
    exact ⟨p, da, dc, fa, fc, G, rfl, tab, f⟩
end Go.Proofs.Ytobdegmlijnogaa
namespace Go.Proofs.Ytobdegmlijnogaa
open Go.ChangeShapes Go.WideShapes Go.ChangeAt Go.RowKit

theorem wpList_wanted {P : Program} {w : World} {ops : Array Oper} {rest : List Oper} {o : Oper} {a : Act} {Q : Exit → Act → World → Prop} (h : Region.wanted o (yielded ops a.tmps) = true) (k : wpList P ops Q ({ o with guard := none } :: rest) a w) : wpList P ops Q (o :: rest) a w := by
  unfold wpList at k ⊢
  rw [if_pos h]
  rw [if_pos (by simp [Region.wanted])] at k
  exact k
end Go.Proofs.Ytobdegmlijnogaa
namespace Go.Proofs.Ytobdegmlijnogaa
open Go.ChangeShapes Go.WideShapes Go.ChangeAt Go.RowKit

theorem ColO.one {W : World} {B : Nat} {v : Value} {ps : Ps} {cs : List Value} (o : W.ownsRow B 41 2 v ps.length cs)
    (h : ∀ (j : Nat) (p : List Nat × List Nat), ps[j]? = some p → ∃ kv vv, cs[j * 2]? = some kv ∧ cs[j * 2 + 1]? = some vv ∧ W.ownsRow B 5 1 kv p.1.length (bv p.1) ∧ W.ownsRow B 5 1 vv p.2.length (bv p.2) ∧ By p.1 ∧ By p.2 ∧ p.1.length ≤ 140737488355328 ∧ p.2.length ≤ 140737488355328) : ∀ u ∈ cs, u.oneCell' = true := fun u hu => by
  obtain ⟨i, hi⟩ := List.getElem?_of_mem hu
  have hl := (List.getElem?_eq_some_iff.1 hi).1
  have hcl := o.1
  have hj : i / 2 < ps.length := by omega
  obtain ⟨kv, vv, c0, c1, r0, r1, _⟩ := h (i / 2) _ (ps_at hj)
  obtain ⟨_, _, rfl, _⟩ := ownsRow_slice r0
  obtain ⟨_, _, rfl, _⟩ := ownsRow_slice r1
  rcases Nat.mod_two_eq_zero_or_one i with e | e
  · rw [show i / 2 * 2 = i from by omega, hi, Option.some.injEq] at c0
    rw [c0]; rfl
  · rw [show i / 2 * 2 + 1 = i from by omega, hi, Option.some.injEq] at c1
    rw [c1]; rfl
theorem wpList_app_kvs {w w0 : World} {ops : Array Oper} {rest : List Oper} {o : Oper} {a : Act} {Q : Exit → Act → World → Prop} (hgd : o.guard = none) (s x : Operand)
    (ho : o.op = .call { callee := .builtin .append, args := #[s, x], argTypes := #[22, 22] }) {B B2 : Nat} (hB0 : w0.heap.size ≤ B) (hbase : B ≤ w.heap.size) (f : Fr [] w0 w) {v mv : Value} {ps qs : Ps} (h1 : ColO w B v ps) (h2 : ColO w B2 mv qs) (hs : a.eval s = v) (hx : a.eval x = mv)
    (hl1 : ps.length ≤ 1000000) (hl2 : qs.length ≤ 1000000)
    (h : ∀ v' w', RdK w' v' (ps ++ qs) → Fr [] w0 w' → wpList Try.prog ops Q rest (a.put o.dst v') w') :
    wpList Try.prog ops Q (o :: rest) a w := by
  obtain ⟨i0, hi, hz0, hz1, hz2⟩ := info_parts infoP
  have h1' := h1
  obtain ⟨cs, oc, rc⟩ := h1
  obtain ⟨ds, od, rd⟩ := h2
  have one := ColO.one od rd
  rcases od.2 with ⟨rfl, h0⟩ | ⟨g, cap, cur, rfl, _, h3, h4, h5⟩
  · have : qs = [] := List.eq_nil_of_length_eq_zero h0
    subst this
    exact wpList_append_own_none hgd s x 22 ho B 41 i0 2 Try.underlying22 hi v ps.length cs hs oc hx (h v w (by rw [List.append_nil]; exact h1'.rd) f)
  · refine wpList_append_own_at w hgd s x 22 ho B 41 i0 _ 2 48 Try.underlying22 hi hz0 hz1 hz2 rfl (by decide) v ps.length cs hs oc ⟨g, 0, none⟩ qs.length cap ds hx od.1 (od.cells rfl) one (by unfold maxLen; omega) (by omega) hbase fun v' w' o' g' _ _ => h v' w' ?_ (f.grown g' (fun k e => .inr (Nat.le_trans hB0 (oc.lt k e).1)))
    refine ColO.rd (B := 0) ⟨cs ++ ds, own_base (by rw [List.length_append]; exact o') (Nat.zero_le _), fun j p hj => ?_⟩
    have hcl := oc.1
    by_cases hjl : j < ps.length
    · rw [List.getElem?_append_left hjl] at hj
      obtain ⟨kv, vv, c0, c1, q0, q1, b0⟩ := rc j p hj
      exact ⟨kv, vv, by rw [List.getElem?_append_left (by omega)]; exact c0, by rw [List.getElem?_append_left (by omega)]; exact c1, own_base (own_stays oc g' q0 (by decide)) (Nat.zero_le _), own_base (own_stays oc g' q1 (by decide)) (Nat.zero_le _), b0⟩
    · rw [List.getElem?_append_right (by omega)] at hj
      obtain ⟨kv, vv, c0, c1, q0, q1, b0⟩ := rd _ p hj
      exact ⟨kv, vv, by rw [List.getElem?_append_right (by omega), show j * 2 - cs.length = (j - ps.length) * 2 from by omega]; exact c0, by rw [List.getElem?_append_right (by omega), show j * 2 + 1 - cs.length = (j - ps.length) * 2 + 1 from by omega]; exact c1, own_base (own_stays oc g' q0 (by decide)) (Nat.zero_le _), own_base (own_stays oc g' q1 (by decide)) (Nat.zero_le _), b0⟩
set_option maxRecDepth 20000 in
set_option maxHeartbeats 3200000 in
theorem tparts_c (w : World) {v : Value} {ps : Ps} (h : RdK w v ps) (hl : ps.length ≤ 140737488355328) (b r i t : Int) {uv : Value} {u : List Nat} (ru : Rd w uv (bv u)) (bu : By u) (lu : u.length ≤ 140737488355328) :
    Calls Try.prog 6 #[v, .agg #[.int .i64 b, .int .i64 r, .int .i64 i, .int .i64 t], uv] w fun e w' => e = .returned (.bool true) ∧ Fr [] w w' := by
  have HK := hid h
  obtain ⟨a, c, rfl, hnc, _⟩ := h
  generalize hnn : ps.length = n at *
  have HN := hid hnn
  clear hnn
  have HU := hid ru
  obtain ⟨ua, uc, hue⟩ := ru.form
  rw [bv_len] at hue
  subst hue
  obtain ⟨ul, hul⟩ : ∃ ul, ul = u.length := ⟨_, rfl⟩
  have HUL := hid hul
  rw [← hul] at HU lu ⊢
  have BU := hid bu
  clear hul ru bu
  obtain ⟨W0, hW0⟩ : ∃ W0, W0 = w.alloc (.cells #[.int .i64 b, .int .i64 r, .int .i64 i, .int .i64 t] 24) := ⟨_, rfl⟩
  have F0 : Hid (Fr [] w W0) := hid (by rw [hW0]; exact (Fr.refl _ _).alloc _)
  have B0 : Hid (W0.heap[w.heap.size]? = some (.cells #[.int .i64 b, .int .i64 r, .int .i64 i, .int .i64 t] 24 (0, 0))) := hid (by rw [hW0]; exact blk_new _ _)
  have PLC : Hid (∀ W, Fr [] W0 W → W.cell? ⟨w.heap.size, 0, none⟩ = some (.int .i64 b) ∧ W.cell? ⟨w.heap.size, 1, none⟩ = some (.int .i64 r) ∧ W.cell? ⟨w.heap.size, 2, none⟩ = some (.int .i64 i) ∧ W.cell? ⟨w.heap.size, 3, none⟩ = some (.int .i64 t)) := hid (fun W f => by
    have k := f.at B0.out (by simp)
    exact ⟨by rw [blk_cell k]; rfl, by rw [blk_cell k]; rfl, by rw [blk_cell k]; rfl, by rw [blk_cell k]; rfl⟩)
  have KN := hid (known8_c W0)
  go_enter Try.func6, Try.ntmps6
  go_wp2_with fail
  rw [← hW0]
  clear hW0
  refine KN.out.mono ?_
  rintro e w1 ⟨rfl, f1⟩
  have F1 := hid f1
  have FC := hid (few8_c w1 ((HK.out.fr F0.out).fr f1) (by rw [HN.out]; exact hl))
  clear f1 KN
  go_wp2_with fail
  refine FC.out.mono ?_
  rintro e w2 ⟨hq, f2⟩
  have F2 := hid (F1.out.trans f2)
  clear f2 FC
  rcases hq with rfl | ⟨rfl, hfew⟩
  · go_wp2
    go_ret
    exact ⟨rfl, F0.out.trans F2.out⟩
  have LM := hid (few_lim hfew)
  have hn60 : n ≤ 60 := by rw [← HN.out]; exact hfew.n
  clear hfew
  by_cases hu0 : ul = 0
  · subst hu0
    go_wp2
    go_ret
    exact ⟨rfl, F0.out.trans F2.out⟩
  have hu1 : ((ul : Int) == 0) = false := by rw [beq_eq_false_iff_ne]; omega
  by_cases hu2 : 128 < ul
  · have hu3 : (128 : Int) < (ul : Int) := by omega
    go_wp2
    go_ret
    exact ⟨rfl, F0.out.trans F2.out⟩
  have hu3 : (ul : Int) ≤ 128 := by omega
  obtain ⟨p0, p1, p2, p3⟩ := PLC.out w2 F2.out
  obtain ⟨x, X, hT⟩ := tbr_ex b r i t ps
  have HT := hid hT
  have TB := hid (tbuild_g w2 ((HK.out.fr F0.out).fr F2.out) LM.out hT)
  clear hT
  go_wp2_with fail
  refine TB.out.mono ?_
  rintro e w3 ⟨v3, rfl, r3, f3⟩
  have R3 := hid r3
  have F3 := hid (F2.out.trans f3)
  obtain ⟨a3, c3, h3⟩ := r3.form
  rw [bv_len] at h3
  subst h3
  clear r3 f3 TB p0 p1 p2 p3
  by_cases hx : x = 0
  · subst hx
    rcases HT.out with ⟨e, _⟩ | ⟨e, _⟩ | ⟨e, _⟩ | ⟨_, hp, h0, hr, hX⟩
    · omega
    · omega
    · omega
    subst hX
    have hr0 := hp.r0
    have hr1 := hp.r1
    have hi1 := hp.i1
    have hby := HK.out.by
    have OP := hid (topen_built w3 R3.out LM.out hr hby h0 (by omega))
    have RB : Hid (∀ (W : World) (p : Nat) (da fa : Option Addr) (dc fc G : Nat), Tab W p (datL r.toNat (chs b.toNat ps)) (fltL i.toNat (usN ps ps.length)) (idxF r.toNat 0 (chs b.toNat ps)) da dc fa fc G → ∀ (lev mov : Value) (least mk : List Nat), Rd W lev (bv least) → Rd W mov (bv mk) → By least → By mk → Calls Try.prog 18 #[.pointer (some ⟨p, 0, none⟩), lev, mov] W fun e w' => ∃ v', e = .returned (.tuple #[v', .int .i64 0]) ∧ ColO w' W.heap.size v' (ps.filter (inR least mk)) ∧ Fr [] W w') :=
      hid (fun W p da fa dc fc G T lev mov least mk rl rm bl bm => range_built W T LM.out hr hby (by omega) (by omega) rl rm bl bm)
    have HAS := hid (asc_of hr)
    clear hp h0 hr hby hr0 hr1 hi1 R3
    generalize (tblL r.toNat b.toNat i.toNat ps).length = XL at *
    go_wp2_with fail
    refine OP.out.mono ?_
    rintro e w4 ⟨p, da, dc, fa, fc, G, rfl, tab, f4⟩
    have F4 := hid (F3.out.trans f4)
    have HTB := hid tab
    have R1 := hid (RB.out w4 p da fa dc fc G tab (.slice none 0 0) (.slice ua ul uc) [] u (.inl ⟨rfl, rfl⟩) ((HU.out.fr F0.out).fr F4.out) (fun x h => by simp at h) BU.out)
    clear tab f4 OP
    go_wp2_with fail
    refine R1.out.mono ?_
    rintro e w5 ⟨v5, rfl, co5, f5⟩
    have CO5 := hid co5
    have F5 := hid (F4.out.trans f5)
    have F45 := hid f5
    have HTB5 := hid (HTB.out.fr f5)
    obtain ⟨cs5, o5, _⟩ := co5
    obtain ⟨a5, c5, h5, _⟩ := ownsRow_slice o5
    subst h5
    clear o5 f5 R1 HTB
    have RU5 := hid ((HU.out.fr F0.out).fr F5.out)
    go_upto_region 13 with (first
      | (at_builtin; refine wpList_append_nil rfl _ _ rfl rfl (Fr.refl _ w5) _ RU5.out rfl (by rw [← HUL.out]; exact lu) ?_; intro v6 w6 o6 f6 _; rw [← HUL.out] at o6; obtain ⟨a6, c6, hv6, _⟩ := ownsRow_slice o6; subst hv6; have O6 := hid o6; have F6 := hid f6; have O6' := hid (show (w6.alloc (.cells #[.int .u8 0] 5)).ownsRow w5.heap.size 5 1 (.slice a6 ul c6) u.length (bv u) from by rw [← HUL.out]; exact ownsRow_fr o6 ((Fr.refl _ _).alloc _)); clear o6 f6)
      | (at_builtin; refine wpList_append_bv rfl _ _ rfl O6'.out rfl (F6.out.alloc _) (Nat.le_refl _) (Nat.le_trans F6.out.size (by simp)) _ (ns := [0]) (Rd_lit1 w6 _) rfl (by rw [← HUL.out]; simp; omega) ?_; intro v7 w7 o7 f7; have RV7 := hid (Rd.ownN o7 (by simp)); have F7 := hid f7; obtain ⟨a7, c7, hv7, _⟩ := ownsRow_slice o7; subst hv7; clear o7 f7)
      | (go_at_call 18; refine (RB.out w7 p da fa dc fc G (HTB5.out.fr F7.out) _ (.slice none 0 0) (u ++ [0]) [] RV7.out (.inl ⟨rfl, rfl⟩) (BU.out.append (by unfold By; decide)) (fun x h => by simp at h)).mono ?_; rintro e w8 ⟨v8, rfl, co8, f8⟩; have CO8 := hid co8; have F58 := hid (F7.out.trans f8); obtain ⟨cs8, o8, _⟩ := co8; obtain ⟨a8, c8, h8, _⟩ := ownsRow_slice o8; subst h8; clear o8 f8))
    have CO5' := hid (CO5.out.fr F58.out)
    have F8 := hid (F5.out.trans F58.out)
    have HU0 : Hid (0 < u.length) := hid (by rw [← HUL.out]; omega)
    have PA := hid (parts_all HU0.out ps HAS.out)
    have L1 : Hid ((ps.filter (inR [] u)).length ≤ 1000000) := hid (Nat.le_trans (List.length_filter_le _ _) (by rw [HN.out]; omega))
    have L2 : Hid ((ps.filter (inR (u ++ [0]) [])).length ≤ 1000000) := hid (Nat.le_trans (List.length_filter_le _ _) (by rw [HN.out]; omega))
    obtain ⟨p1, hp1⟩ : ∃ p1, p1 = ps.filter (inR [] u) := ⟨_, rfl⟩
    obtain ⟨p2, hp2⟩ : ∃ p2, p2 = ps.filter (inR (u ++ [0]) []) := ⟨_, rfl⟩
    rw [← hp1] at CO5' PA L1 ⊢
    rw [← hp2] at CO8 PA L2 ⊢
    clear hp1 hp2 CO5 HTB5 RB
    go_wp2_with (first
      | (at_builtin; refine wpList_wanted rfl ?_; refine wpList_app_kvs rfl _ _ rfl (w0 := w4) (Nat.le_refl _) (Nat.le_trans F45.out.size F58.out.size) (F45.out.trans F58.out) CO5'.out CO8.out rfl rfl L1.out L2.out ?_; intro v9 w9 r9 f9; rw [PA.out] at r9; have R9 := hid r9; have F9 := hid (F4.out.trans f9); obtain ⟨a9, c9, h9, _⟩ := r9; subst h9; rw [HN.out] at R9 ⊢; clear f9)
      | (go_at_call 12; refine (kvs_c R9.out ((HK.out.fr F0.out).fr F9.out) (by rw [HN.out]; omega)).mono ?_; rintro e w10 ⟨rfl, f10⟩; have F10 := hid (F9.out.trans f10); clear f10))
    go_ret
    exact ⟨rfl, F0.out.trans F10.out⟩
  · have hx1 : ((x : Int) == 0) = false := by rw [beq_eq_false_iff_ne]; omega
    go_wp2
    go_ret
    exact ⟨rfl, F0.out.trans F3.out⟩
end Go.Proofs.Ytobdegmlijnogaa
namespace Go.Proofs.Ytobdegmlijnogaa
open Go.ChangeShapes Go.WideShapes Go.ChangeAt Go.RowKit Go.Deep

theorem ownKnobs : ownKnob Try.prog.godebug = none := by kernel_rfl
theorem laidOut : laidOutB Try.prog = true := by kernel_rfl

theorem nat_of {n : Int} (h : 0 ≤ n) : ∃ m : Nat, n = (m : Int) := ⟨n.toNat, by omega⟩

/-- Bytes that came in. -/
theorem bytes_of {H : Type} {enc : TypeId × Value → H} {W : World} {ua : Option Addr} {len uc : Nat} {d : DataW H} {ps : List MemPlace} (h : DataW.Trod enc Try.prog W 0 (fun _ => true) true 27 (.slice ua len uc) d ps)
    (hw : ∀ n ∈ d.weights Try.prog 27, n ≤ reachBytes) : ∃ ns : List Nat, ns.length = len ∧ Rd W (.slice ua len uc) (bv ns) ∧ By ns ∧ len ≤ 140737488351232 := by
  obtain ⟨fuel, hf⟩ := h
  rcases open_ints Try.underlying27 Try.underlying5 (by kernel_rfl) hf with ⟨hcs, _⟩ | ⟨a, l, c, zs, hcs, _, hl, hm, hz, hx, hcell, hwf⟩
  · simp [Value.cells] at hcs
    obtain ⟨rfl, rfl, rfl⟩ := hcs
    exact ⟨[], rfl, .inl ⟨rfl, rfl⟩, fun u hu => by simp at hu, by omega⟩
  · simp [Value.cells] at hcs
    obtain ⟨rfl, rfl, rfl⟩ := hcs
    simp only [Prod.mk.injEq] at hx
    obtain ⟨rfl, _⟩ := hx
    simp only [if_true] at hz
    have hXl : ((zs.take len).map Int.toNat).length = len := by rw [List.length_map, List.length_take]; omega
    have hb : ∀ z ∈ zs, 0 ≤ z ∧ z ≤ 255 := fun z hz' => bounds_u8 (hwf z hz')
    refine ⟨(zs.take len).map Int.toNat, hXl, .inr ⟨a, uc, by rw [bv_len, hXl], by rw [bv_len, hXl]; exact hl, fun j u hj => ?_⟩, fun u hu => ?_, ?_⟩
    · have hjl : j < len := by
        rcases Nat.lt_or_ge j len with h | h
        · exact h
        · rw [List.getElem?_eq_none (by rw [bv_len, hXl]; omega)] at hj; cases hj
      have hjz : j < zs.length := by omega
      rw [hcell j hjz]
      unfold bv at hj
      rw [List.getElem?_map, List.getElem?_map, List.getElem?_take, if_pos hjl, List.getElem?_eq_getElem hjz] at hj
      simp only [Option.map_some, Option.some.injEq] at hj
      rw [← hj]
      have h0 := hb _ (List.getElem_mem hjz)
      simp only [List.getD, List.getElem?_eq_getElem hjz, Option.getD_some, Int.toNat_of_nonneg h0.1]
    · obtain ⟨n, hn, rfl⟩ := List.mem_map.1 hu
      have := hb n (List.mem_of_mem_take hn)
      omega
    · have h1 := hw (uc * Try.prog.bytesOf 5) (by
        simp only [DataW.weights, Try.underlying27]
        refine List.mem_cons.2 (.inl ?_)
        rw [lits, lits, List.length_map, List.length_map, List.length_take, List.length_drop, hz]
        congr 1; omega)
      rw [show Try.prog.bytesOf 5 = 1 from by kernel_rfl] at h1
      unfold reachBytes at h1
      omega
end Go.Proofs.Ytobdegmlijnogaa
