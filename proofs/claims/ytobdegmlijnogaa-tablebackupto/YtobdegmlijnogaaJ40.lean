/-
  The document's View.
-/
import Derived.Test.YtobdegmlijnogaaJ39
import Derived.Test.YtobdegmlijnogaaJ35
import Derived.Test.YtobdegmlijnogaaJ00
import Derived.Test.YtobdegmlijnogaaJ37
namespace Go.Proofs.Ytobdegmlijnogaa
open Go.ChangeShapes Go.WideShapes Go.ChangeAt Go.RowKit

/-- What View tells. -/
def ViewR (e : Ending) (w : World) (o : Option (List Nat × List Nat)) : Prop := match o with
  | none => e = .returned (.tuple #[.slice none 0 0, .bool false])
  | some p => (tailN p.1 % 256 = 1 ∧ ∃ vv, e = .returned (.tuple #[vv, .bool true]) ∧ Rd w vv (bv p.2)) ∨ (tailN p.1 % 256 ≠ 1 ∧ e = .returned (.tuple #[.slice none 0 0, .bool false]))
theorem vw_drop {ps : Ps} {u : List Nat} {s i : Nat} (hi : i < ps.length) : vw (ps.drop i) u s = if userL (kA ps i) = u ∧ tailN (kA ps i) / 256 ≤ s then some (kA ps i, vA ps i) else vw (ps.drop (i + 1)) u s := by
  have e : ps.drop i = (kA ps i, vA ps i) :: ps.drop (i + 1) := by
    obtain ⟨hl, he⟩ := List.getElem?_eq_some_iff.1 (ps_at hi)
    rw [List.drop_eq_getElem_cons hl, he]
  unfold vw
  rw [e, List.find?_cons]
  by_cases h : userL (kA ps i) = u ∧ tailN (kA ps i) / 256 ≤ s
  · rw [if_pos h, decide_eq_true h.1, decide_eq_true h.2]; rfl
  · rw [if_neg h]
    have : (decide (userL (kA ps i) = u) && decide (tailN (kA ps i) / 256 ≤ s)) = false := by
      rcases Decidable.not_and_iff_or_not.1 h with h | h
      · rw [decide_eq_false h]; rfl
      · rw [decide_eq_false h, Bool.and_false]
    dsimp only
    rw [this]
set_option maxRecDepth 20000 in
set_option maxHeartbeats 3200000 in
theorem view_c (w : World) {v : Value} {ps : Ps} (h : RdK w v ps) (hk : ∀ p ∈ ps, isK p.1 = true) (hn : ps.length ≤ 1000000) {kv : Value} {user : List Nat} (ru : Rd w kv (bv user)) (bu : By user) (lu : user.length ≤ 140737488355328) (seq : Nat) :
    Calls Try.prog 14 #[v, kv, .int .u64 (seq : Int)] w fun e w' => ViewR e w' (vw ps user seq) ∧ Fr [] w w' := by
  obtain ⟨a, c, rfl, hc, k1⟩ := h
  have H1 := hid k1
  have HK := hid hk
  have HU := hid ru
  have BU := hid bu
  clear k1 hk bu
  obtain ⟨ua, uc, hue⟩ := ru.form
  rw [bv_len] at hue
  subst hue
  clear ru
  obtain ⟨n, hnn⟩ : ∃ n, n = ps.length := ⟨_, rfl⟩
  have HN := hid hnn
  rw [← hnn] at hn hc ⊢
  clear hnn
  obtain ⟨R, hR⟩ : ∃ R, R = vw ps user seq := ⟨_, rfl⟩
  rw [← hR]
  have HR := hid hR
  clear hR
  obtain ⟨UL, hUL⟩ : ∃ UL, UL = user.length := ⟨_, rfl⟩
  have HUL := hid hUL
  rw [← hUL] at HU lu ⊢
  clear hUL
  go_enter Try.func14, Try.ntmps14
  go_wp2_with fail
  go_loopw [8] (fun v8 wr => ∃ i : Nat, i ≤ n ∧ v8 = .int .i64 (i : Int) ∧ R = vw (ps.drop i) user seq ∧ Fr [] w wr) (fun v8 _ => n - (intOf v8).toNat)
  case atStart => exact ⟨0, Nat.zero_le _, rfl, HR.out, Fr.refl _ _⟩
  case round =>
    obtain ⟨i, hi, rfl, hv, hf⟩ := hrel
    have HF := hid hf
    have HV := hid hv
    clear hf hv
    by_cases hlt : i < n
    · have hil : i < ps.length := by rw [← HN.out]; exact hlt
      obtain ⟨b, off, rfl, m1⟩ := H1.out (by omega)
      obtain ⟨ka, kc, va, vc, P⟩ := m1 i _ (ps_at hil)
      have hki := HK.out _ (List.mem_of_getElem? (ps_at hil))
      have hkl := isK_len hki
      have z1 := cell_fr HF.out P.ck
      have z2 := cell_fr HF.out P.cv
      have RK := hid (P.rk.fr HF.out)
      have RV := hid (P.rv.fr HF.out)
      have BK := hid P.bk
      have hlk := P.lk
      have VD := hid (vw_drop (ps := ps) (u := user) (s := seq) hil)
      dsimp only at z1 z2 RK RV BK hki hkl hlk
      clear P m1
      obtain ⟨k, hkk⟩ : ∃ k, k = kA ps i := ⟨_, rfl⟩
      obtain ⟨vl, hvl⟩ : ∃ vl, vl = vA ps i := ⟨_, rfl⟩
      rw [← hkk] at z1 RK BK hki hkl VD hlk
      rw [← hvl] at z2 RV VD
      clear hkk hvl
      obtain ⟨q, o, c0, hp0, hc0⟩ := RK.out.place (by omega)
      simp only [Value.slice.injEq] at hp0
      obtain ⟨rfl, hx0, rfl⟩ := hp0
      clear hx0
      have SP := hid (refsplit_yes wr RK.out BK.out hc0 hki)
      have RF := hid (RK.out.front (q := k.length - 8) (by omega))
      have HUS : Hid (k.take (k.length - 8) = userL k) := hid rfl
      rw [HUS.out] at RF
      have BF : Hid (By (userL k)) := hid (BK.out.take _)
      have LFF : Hid ((userL k).length ≤ 140737488355328) := hid (by unfold userL; rw [List.length_take]; omega)
      have RB := hid (refbytes_c RF.out (HU.out.fr HF.out) BF.out BU.out LFF.out (by rw [← HUL.out]; exact lu))
      obtain ⟨sq, hsq⟩ : ∃ sq, sq = tailN k / 256 := ⟨_, rfl⟩
      obtain ⟨kd, hkd⟩ : ∃ kd, kd = tailN k % 256 := ⟨_, rfl⟩
      have HKD := hid hkd
      rw [← hsq, ← hkd] at SP
      rw [← hsq] at VD
      have HVD := hid VD.out
      clear hsq hkd VD RK hki hlk
      obtain ⟨cm, hcm⟩ : ∃ cm, cm = cmpN (userL k) user := ⟨_, rfl⟩
      have HCM := hid hcm
      rw [← hcm] at RB
      clear hcm
      obtain ⟨kl, hkl2⟩ : ∃ kl, kl = k.length := ⟨_, rfl⟩
      obtain ⟨wl, hwl2⟩ : ∃ wl, wl = vl.length := ⟨_, rfl⟩
      have HWL := hid hwl2
      rw [← hkl2] at z1 SP RB hkl hc0
      rw [← hwl2] at z2 RV
      clear hkl2 hwl2
      have hkl8 : 8 ≤ kl := hkl.1
      go_upto_region 5 with (go_at_call 38; refine SP.out.mono ?_; rintro e w2 ⟨rfl, h⟩; rw [h]; clear h)
      by_cases hu : userL k = user
      · have hc00 : cm = 0 := by rw [HCM.out]; exact (cmpN_eq _ _).2 hu
        subst hc00
        by_cases hs : sq ≤ seq
        · have hsI : (sq : Int) ≤ (seq : Int) := by omega
          have ER : Hid (R = some (k, vl)) := hid (by rw [HV.out, HVD.out, if_pos ⟨hu, hs⟩])
          clear hu
          by_cases h1 : kd = 1
          · subst h1
            go_wp2_with (go_at_call 17; refine RB.out.mono ?_; rintro e w3 ⟨rfl, f3⟩; have z2 := cell_fr f3 z2; have F3 := hid f3; clear f3)
            go_ret2
            refine ⟨?_, HF.out.trans F3.out⟩
            rw [ER.out]
            exact .inl ⟨HKD.out.symm, _, rfl, RV.out.fr F3.out⟩
          · have h1b : ((kd : Int) == 1) = false := by rw [beq_eq_false_iff_ne]; omega
            go_wp2_with (go_at_call 17; refine RB.out.mono ?_; rintro e w3 ⟨rfl, f3⟩; have F3 := hid f3; clear f3)
            go_ret2
            refine ⟨?_, HF.out.trans F3.out⟩
            rw [ER.out]
            exact .inr ⟨fun e => h1 (by rw [HKD.out]; exact e), rfl⟩
        · have hsI : (seq : Int) < (sq : Int) := by omega
          have ER : Hid (R = vw (ps.drop (i + 1)) user seq) := hid (by rw [HV.out, HVD.out, if_neg (fun h => hs h.2)])
          clear hu
          go_wp2_with (go_at_call 17; refine RB.out.mono ?_; rintro e w3 ⟨rfl, f3⟩; have F3 := hid f3; clear f3)
          go_roundw
          case rel => exact ⟨i + 1, by omega, by go_num, ER.out, HF.out.trans F3.out⟩
          case measure => simp [intOf]; omega
      · have hc00 : (cm == 0) = false := by rw [beq_eq_false_iff_ne, HCM.out]; exact fun e => hu ((cmpN_eq _ _).1 e)
        have ER : Hid (R = vw (ps.drop (i + 1)) user seq) := hid (by rw [HV.out, HVD.out, if_neg (fun h => hu h.1)])
        clear hu
        go_wp2_with (go_at_call 17; refine RB.out.mono ?_; rintro e w3 ⟨rfl, f3⟩; have F3 := hid f3; clear f3)
        go_roundw
        case rel => exact ⟨i + 1, by omega, by go_num, ER.out, HF.out.trans F3.out⟩
        case measure => simp [intOf]; omega
    · have hin : i = n := by omega
      subst hin
      go_wp2
      go_ret2
      refine ⟨?_, HF.out⟩
      rw [HV.out, List.drop_eq_nil_of_le (by rw [HN.out]; exact Nat.le_refl _)]
      rfl
end Go.Proofs.Ytobdegmlijnogaa
namespace Go.Proofs.Ytobdegmlijnogaa
open Go.ChangeShapes Go.WideShapes Go.ChangeAt Go.RowKit

theorem wpList_wanted {P : Program} {w : World} {ops : Array Oper} {rest : List Oper} {o : Oper} {a : Act} {Q : Exit → Act → World → Prop} (h : Region.wanted o (yielded ops a.tmps) = true) (k : wpList P ops Q ({ o with guard := none } :: rest) a w) : wpList P ops Q (o :: rest) a w := by
  unfold wpList at k ⊢
  rw [if_pos h]
  rw [if_pos (by simp [Region.wanted])] at k
  exact k
end Go.Proofs.Ytobdegmlijnogaa
namespace Go.Proofs.Ytobdegmlijnogaa
open Go.ChangeShapes Go.WideShapes Go.ChangeAt Go.RowKit

theorem ColO.one {W : World} {B : Nat} {v : Value} {ps : Ps} {cs : List Value} (o : W.ownsRow B 41 2 v ps.length cs)
    (h : ∀ (j : Nat) (p : List Nat × List Nat), ps[j]? = some p → ∃ kv vv, cs[j * 2]? = some kv ∧ cs[j * 2 + 1]? = some vv ∧ W.ownsRow B 5 1 kv p.1.length (bv p.1) ∧ W.ownsRow B 5 1 vv p.2.length (bv p.2) ∧ By p.1 ∧ By p.2 ∧ p.1.length ≤ 140737488355328 ∧ p.2.length ≤ 140737488355328) : ∀ u ∈ cs, u.oneCell' = true := fun u hu => by
  obtain ⟨i, hi⟩ := List.getElem?_of_mem hu
  have hl := (List.getElem?_eq_some_iff.1 hi).1
  have hcl := o.1
  have hj : i / 2 < ps.length := by omega
  obtain ⟨kv, vv, c0, c1, r0, r1, _⟩ := h (i / 2) _ (ps_at hj)
  obtain ⟨_, _, rfl, _⟩ := ownsRow_slice r0
  obtain ⟨_, _, rfl, _⟩ := ownsRow_slice r1
  rcases Nat.mod_two_eq_zero_or_one i with e | e
  · rw [show i / 2 * 2 = i from by omega, hi, Option.some.injEq] at c0
    rw [c0]; rfl
  · rw [show i / 2 * 2 + 1 = i from by omega, hi, Option.some.injEq] at c1
    rw [c1]; rfl
theorem wpList_app_kvs {w w0 : World} {ops : Array Oper} {rest : List Oper} {o : Oper} {a : Act} {Q : Exit → Act → World → Prop} (hgd : o.guard = none) (s x : Operand)
    (ho : o.op = .call { callee := .builtin .append, args := #[s, x], argTypes := #[22, 22] }) {B B2 : Nat} (hB0 : w0.heap.size ≤ B) (hbase : B ≤ w.heap.size) (f : Fr [] w0 w) {v mv : Value} {ps qs : Ps} (h1 : ColO w B v ps) (h2 : ColO w B2 mv qs) (hs : a.eval s = v) (hx : a.eval x = mv)
    (hl1 : ps.length ≤ 1000000) (hl2 : qs.length ≤ 1000000)
    (h : ∀ v' w', RdK w' v' (ps ++ qs) → Fr [] w0 w' → wpList Try.prog ops Q rest (a.put o.dst v') w') :
    wpList Try.prog ops Q (o :: rest) a w := by
  obtain ⟨i0, hi, hz0, hz1, hz2⟩ := info_parts infoP
  have h1' := h1
  obtain ⟨cs, oc, rc⟩ := h1
  obtain ⟨ds, od, rd⟩ := h2
  have one := ColO.one od rd
  rcases od.2 with ⟨rfl, h0⟩ | ⟨g, cap, cur, rfl, _, h3, h4, h5⟩
  · have : qs = [] := List.eq_nil_of_length_eq_zero h0
    subst this
    exact wpList_append_own_none hgd s x 22 ho B 41 i0 2 Try.underlying22 hi v ps.length cs hs oc hx (h v w (by rw [List.append_nil]; exact h1'.rd) f)
  · refine wpList_append_own_at w hgd s x 22 ho B 41 i0 _ 2 48 Try.underlying22 hi hz0 hz1 hz2 rfl (by decide) v ps.length cs hs oc ⟨g, 0, none⟩ qs.length cap ds hx od.1 (od.cells rfl) one (by unfold maxLen; omega) (by omega) hbase fun v' w' o' g' _ _ => h v' w' ?_ (f.grown g' (fun k e => .inr (Nat.le_trans hB0 (oc.lt k e).1)))
    refine ColO.rd (B := 0) ⟨cs ++ ds, own_base (by rw [List.length_append]; exact o') (Nat.zero_le _), fun j p hj => ?_⟩
    have hcl := oc.1
    by_cases hjl : j < ps.length
    · rw [List.getElem?_append_left hjl] at hj
      obtain ⟨kv, vv, c0, c1, q0, q1, b0⟩ := rc j p hj
      exact ⟨kv, vv, by rw [List.getElem?_append_left (by omega)]; exact c0, by rw [List.getElem?_append_left (by omega)]; exact c1, own_base (own_stays oc g' q0 (by decide)) (Nat.zero_le _), own_base (own_stays oc g' q1 (by decide)) (Nat.zero_le _), b0⟩
    · rw [List.getElem?_append_right (by omega)] at hj
      obtain ⟨kv, vv, c0, c1, q0, q1, b0⟩ := rd _ p hj
      exact ⟨kv, vv, by rw [List.getElem?_append_right (by omega), show j * 2 - cs.length = (j - ps.length) * 2 from by omega]; exact c0, by rw [List.getElem?_append_right (by omega), show j * 2 + 1 - cs.length = (j - ps.length) * 2 + 1 from by omega]; exact c1, own_base (own_stays oc g' q0 (by decide)) (Nat.zero_le _), own_base (own_stays oc g' q1 (by decide)) (Nat.zero_le _), b0⟩
set_option maxRecDepth 20000 in
set_option maxHeartbeats 3200000 in
theorem tparts_c (w : World) {v : Value} {ps : Ps} (h : RdK w v ps) (hl : ps.length ≤ 140737488355328) (b r i t : Int) {uv : Value} {u : List Nat} (ru : Rd w uv (bv u)) (bu : By u) (lu : u.length ≤ 140737488355328) :
    Calls Try.prog 6 #[v, .agg #[.int .i64 b, .int .i64 r, .int .i64 i, .int .i64 t], uv] w fun e w' => e = .returned (.bool true) ∧ Fr [] w w' := by
  have HK := hid h
  obtain ⟨a, c, rfl, hnc, _⟩ := h
  generalize hnn : ps.length = n at *
  have HN := hid hnn
  clear hnn
  have HU := hid ru
  obtain ⟨ua, uc, hue⟩ := ru.form
  rw [bv_len] at hue
  subst hue
  obtain ⟨ul, hul⟩ : ∃ ul, ul = u.length := ⟨_, rfl⟩
  have HUL := hid hul
  rw [← hul] at HU lu ⊢
  have BU := hid bu
  clear hul ru bu
  obtain ⟨W0, hW0⟩ : ∃ W0, W0 = w.alloc (.cells #[.int .i64 b, .int .i64 r, .int .i64 i, .int .i64 t] 24) := ⟨_, rfl⟩
  have F0 : Hid (Fr [] w W0) := hid (by rw [hW0]; exact (Fr.refl _ _).alloc _)
  have B0 : Hid (W0.heap[w.heap.size]? = some (.cells #[.int .i64 b, .int .i64 r, .int .i64 i, .int .i64 t] 24 (0, 0))) := hid (by rw [hW0]; exact blk_new _ _)
  have PLC : Hid (∀ W, Fr [] W0 W → W.cell? ⟨w.heap.size, 0, none⟩ = some (.int .i64 b) ∧ W.cell? ⟨w.heap.size, 1, none⟩ = some (.int .i64 r) ∧ W.cell? ⟨w.heap.size, 2, none⟩ = some (.int .i64 i) ∧ W.cell? ⟨w.heap.size, 3, none⟩ = some (.int .i64 t)) := hid (fun W f => by
    have k := f.at B0.out (by simp)
    exact ⟨by rw [blk_cell k]; rfl, by rw [blk_cell k]; rfl, by rw [blk_cell k]; rfl, by rw [blk_cell k]; rfl⟩)
  have KN := hid (known8_c W0)
  go_enter Try.func6, Try.ntmps6
  go_wp2_with fail
  rw [← hW0]
  clear hW0
  refine KN.out.mono ?_
  rintro e w1 ⟨rfl, f1⟩
  have F1 := hid f1
  have FC := hid (few8_c w1 ((HK.out.fr F0.out).fr f1) (by rw [HN.out]; exact hl))
  clear f1 KN
  go_wp2_with fail
  refine FC.out.mono ?_
  rintro e w2 ⟨hq, f2⟩
  have F2 := hid (F1.out.trans f2)
  clear f2 FC
  rcases hq with rfl | ⟨rfl, hfew⟩
  · go_wp2
    go_ret
    exact ⟨rfl, F0.out.trans F2.out⟩
  have LM := hid (few_lim hfew)
  have hn60 : n ≤ 60 := by rw [← HN.out]; exact hfew.n
  clear hfew
  by_cases hu0 : ul = 0
  · subst hu0
    go_wp2
    go_ret
    exact ⟨rfl, F0.out.trans F2.out⟩
  have hu1 : ((ul : Int) == 0) = false := by rw [beq_eq_false_iff_ne]; omega
  by_cases hu2 : 128 < ul
  · have hu3 : (128 : Int) < (ul : Int) := by omega
    go_wp2
    go_ret
    exact ⟨rfl, F0.out.trans F2.out⟩
  have hu3 : (ul : Int) ≤ 128 := by omega
  obtain ⟨p0, p1, p2, p3⟩ := PLC.out w2 F2.out
  obtain ⟨x, X, hT⟩ := tbr_ex b r i t ps
  have HT := hid hT
  have TB := hid (tbuild_g w2 ((HK.out.fr F0.out).fr F2.out) LM.out hT)
  clear hT
  go_wp2_with fail
  refine TB.out.mono ?_
  rintro e w3 ⟨v3, rfl, r3, f3⟩
  have R3 := hid r3
  have F3 := hid (F2.out.trans f3)
  obtain ⟨a3, c3, h3⟩ := r3.form
  rw [bv_len] at h3
  subst h3
  clear r3 f3 TB p0 p1 p2 p3
  by_cases hx : x = 0
  · subst hx
    rcases HT.out with ⟨e, _⟩ | ⟨e, _⟩ | ⟨e, _⟩ | ⟨_, hp, h0, hr, hX⟩
    · omega
    · omega
    · omega
    subst hX
    have hr0 := hp.r0
    have hr1 := hp.r1
    have hi1 := hp.i1
    have hby := HK.out.by
    have OP := hid (topen_built w3 R3.out LM.out hr hby h0 (by omega))
    have RB : Hid (∀ (W : World) (p : Nat) (da fa : Option Addr) (dc fc G : Nat), Tab W p (datL r.toNat (chs b.toNat ps)) (fltL i.toNat (usN ps ps.length)) (idxF r.toNat 0 (chs b.toNat ps)) da dc fa fc G → ∀ (lev mov : Value) (least mk : List Nat), Rd W lev (bv least) → Rd W mov (bv mk) → By least → By mk → Calls Try.prog 18 #[.pointer (some ⟨p, 0, none⟩), lev, mov] W fun e w' => ∃ v', e = .returned (.tuple #[v', .int .i64 0]) ∧ ColO w' W.heap.size v' (ps.filter (inR least mk)) ∧ Fr [] W w') :=
      hid (fun W p da fa dc fc G T lev mov least mk rl rm bl bm => range_built W T LM.out hr hby (by omega) (by omega) rl rm bl bm)
    have HAS := hid (asc_of hr)
    clear hp h0 hr hby hr0 hr1 hi1 R3
    generalize (tblL r.toNat b.toNat i.toNat ps).length = XL at *
    go_wp2_with fail
    refine OP.out.mono ?_
    rintro e w4 ⟨p, da, dc, fa, fc, G, rfl, tab, f4⟩
    have F4 := hid (F3.out.trans f4)
    have HTB := hid tab
    have R1 := hid (RB.out w4 p da fa dc fc G tab (.slice none 0 0) (.slice ua ul uc) [] u (.inl ⟨rfl, rfl⟩) ((HU.out.fr F0.out).fr F4.out) (fun x h => by simp at h) BU.out)
    clear tab f4 OP
    go_wp2_with fail
    refine R1.out.mono ?_
    rintro e w5 ⟨v5, rfl, co5, f5⟩
    have CO5 := hid co5
    have F5 := hid (F4.out.trans f5)
    have F45 := hid f5
    have HTB5 := hid (HTB.out.fr f5)
    obtain ⟨cs5, o5, _⟩ := co5
    obtain ⟨a5, c5, h5, _⟩ := ownsRow_slice o5
    subst h5
    clear o5 f5 R1 HTB
    have RU5 := hid ((HU.out.fr F0.out).fr F5.out)
    go_upto_region 13 with (first
      | (at_builtin; refine wpList_append_nil rfl _ _ rfl rfl (Fr.refl _ w5) _ RU5.out rfl (by rw [← HUL.out]; exact lu) ?_; intro v6 w6 o6 f6 _; rw [← HUL.out] at o6; obtain ⟨a6, c6, hv6, _⟩ := ownsRow_slice o6; subst hv6; have O6 := hid o6; have F6 := hid f6; have O6' := hid (show (w6.alloc (.cells #[.int .u8 0] 5)).ownsRow w5.heap.size 5 1 (.slice a6 ul c6) u.length (bv u) from by rw [← HUL.out]; exact ownsRow_fr o6 ((Fr.refl _ _).alloc _)); clear o6 f6)
      | (at_builtin; refine wpList_append_bv rfl _ _ rfl O6'.out rfl (F6.out.alloc _) (Nat.le_refl _) (Nat.le_trans F6.out.size (by simp)) _ (ns := [0]) (Rd_lit1 w6 _) rfl (by rw [← HUL.out]; simp; omega) ?_; intro v7 w7 o7 f7; have RV7 := hid (Rd.ownN o7 (by simp)); have F7 := hid f7; obtain ⟨a7, c7, hv7, _⟩ := ownsRow_slice o7; subst hv7; clear o7 f7)
      | (go_at_call 18; refine (RB.out w7 p da fa dc fc G (HTB5.out.fr F7.out) _ (.slice none 0 0) (u ++ [0]) [] RV7.out (.inl ⟨rfl, rfl⟩) (BU.out.append (by unfold By; decide)) (fun x h => by simp at h)).mono ?_; rintro e w8 ⟨v8, rfl, co8, f8⟩; have CO8 := hid co8; have F58 := hid (F7.out.trans f8); obtain ⟨cs8, o8, _⟩ := co8; obtain ⟨a8, c8, h8, _⟩ := ownsRow_slice o8; subst h8; clear o8 f8))
    have CO5' := hid (CO5.out.fr F58.out)
    have F8 := hid (F5.out.trans F58.out)
    have HU0 : Hid (0 < u.length) := hid (by rw [← HUL.out]; omega)
    have PA := hid (parts_all HU0.out ps HAS.out)
    have L1 : Hid ((ps.filter (inR [] u)).length ≤ 1000000) := hid (Nat.le_trans (List.length_filter_le _ _) (by rw [HN.out]; omega))
    have L2 : Hid ((ps.filter (inR (u ++ [0]) [])).length ≤ 1000000) := hid (Nat.le_trans (List.length_filter_le _ _) (by rw [HN.out]; omega))
    obtain ⟨p1, hp1⟩ : ∃ p1, p1 = ps.filter (inR [] u) := ⟨_, rfl⟩
    obtain ⟨p2, hp2⟩ : ∃ p2, p2 = ps.filter (inR (u ++ [0]) []) := ⟨_, rfl⟩
    rw [← hp1] at CO5' PA L1 ⊢
    rw [← hp2] at CO8 PA L2 ⊢
    clear hp1 hp2 CO5 HTB5 RB
    go_wp2_with (first
      | (at_builtin; refine wpList_wanted rfl ?_; refine wpList_app_kvs rfl _ _ rfl (w0 := w4) (Nat.le_refl _) (Nat.le_trans F45.out.size F58.out.size) (F45.out.trans F58.out) CO5'.out CO8.out rfl rfl L1.out L2.out ?_; intro v9 w9 r9 f9; rw [PA.out] at r9; have R9 := hid r9; have F9 := hid (F4.out.trans f9); obtain ⟨a9, c9, h9, _⟩ := r9; subst h9; rw [HN.out] at R9 ⊢; clear f9)
      | (go_at_call 12; refine (kvs_c R9.out ((HK.out.fr F0.out).fr F9.out) (by rw [HN.out]; omega)).mono ?_; rintro e w10 ⟨rfl, f10⟩; have F10 := hid (F9.out.trans f10); clear f10))
    go_ret
    exact ⟨rfl, F0.out.trans F10.out⟩
  · have hx1 : ((x : Int) == 0) = false := by rw [beq_eq_false_iff_ne]; omega
    go_wp2
    go_ret
    exact ⟨rfl, F0.out.trans F3.out⟩
end Go.Proofs.Ytobdegmlijnogaa
