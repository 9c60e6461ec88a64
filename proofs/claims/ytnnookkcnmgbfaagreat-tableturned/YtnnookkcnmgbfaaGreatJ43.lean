/-
  The user keys of entries, each once.
-/
import Derived.Test.YtnnookkcnmgbfaaGreatJ06
import Derived.Test.YtnnookkcnmgbfaaGreatJ05
import Derived.Test.YtnnookkcnmgbfaaGreatBL
import Derived.Test.YtnnookkcnmgbfaaGreatJ07
import Derived.Lib.AppendStr
namespace Go.Proofs.YtnnookkcnmgbfaaGreat
open Go.ChangeShapes Go.WideShapes Go.ChangeAt Go.RowKit

theorem usN_at {ps : Ps} {i : Nat} (h0 : 0 < (usN ps i).length) : ∃ r, (usN ps i)[(usN ps i).length - 1]? = some r ∧ (usN ps i).getLast? = some r := by
  refine ⟨(usN ps i)[(usN ps i).length - 1], List.getElem?_eq_getElem (by omega), ?_⟩
  rw [List.getLast?_eq_getElem?]
  exact List.getElem?_eq_getElem (by omega)
theorem OwnL.snoc {W W' : World} {v v' u : Value} {rs : List (List Nat)} {r : List Nat} {cs : List Value} {B : Nat} (o : W.ownsRow B 22 1 v rs.length cs) (l : Lst W B [v.ownBlock] rs cs) (o' : W'.ownsRow B 22 1 v' (rs.length + 1) (cs ++ [u])) (g : W.grownBy W' v.ownBlock) (q : v'.ownBlock = v.ownBlock ∨ v'.ownBlock = some W.heap.size) {n B2 : Nat} {us : List Value} (ou : W.ownsRow B2 5 1 u n us) (hB : B ≤ B2) (ru : Rd W u (bv r)) (hb : By r) (hl : r.length ≤ 140737488355328) : OwnL W' B v' (rs ++ [r]) := by
  have hne : ∀ k, u.ownBlock = some k → v.ownBlock ≠ some k := own_types ou o (by decide)
  have l2 : Lst W B [v.ownBlock] (rs ++ [r]) (cs ++ [u]) := l.snoc ru hb hl (fun k hk => ⟨by have := (ou.lt k hk).1; omega, (ou.lt k hk).2, fun q hq => by simp at hq; rw [hq]; exact hne k hk⟩)
  refine ⟨cs ++ [u], by rw [List.length_append]; exact o', l2.step g.size (fun k _ k2 k3 => g.block k k2 (fun e => k3 _ (by simp) e.symm)) (fun q' hq' => ?_)⟩
  simp at hq'
  rcases q with e | e
  · left; simp [hq', e]
  · right; intro k hk; rw [hq', e] at hk; simp at hk; omega

set_option maxRecDepth 20000 in
set_option maxHeartbeats 3200000 in
theorem usersOf_c (w : World) {v : Value} {ps : Ps} (h : RdK w v ps) (hl : ps.length ≤ 1000000) (hr : Rises ps) :
    Calls Tryz.prog 49 #[v] w fun e w' => ∃ v', e = .returned v' ∧ OwnL w' w.heap.size v' (usN ps ps.length) ∧ Fr [] w w' := by
  obtain ⟨a, c, rfl, hc, k1⟩ := h
  have H1 := hid k1
  have HR := hid hr
  clear k1 hr
  obtain ⟨n, hn⟩ : ∃ n, n = ps.length := ⟨_, rfl⟩
  have HN := hid hn
  rw [← hn] at hl hc ⊢
  clear hn
  go_enter Tryz.func49, Tryz.ntmps49
  go_wp2_with fail
  go_loopw [3, 13] (fun v3 v13 wr => ∃ i : Nat, i ≤ n ∧ v13 = .int .i64 (i : Int) ∧ OwnL wr w.heap.size v3 (usN ps i) ∧ Fr [] w wr) (fun _ v13 _ => n - (intOf v13).toNat)
  case atStart => exact ⟨0, Nat.zero_le _, rfl, ⟨[], World.ownsRow_nil _ _ _ _, Lst.nil _ _ _⟩, Fr.refl _ _⟩
  case round =>
    obtain ⟨i, hi, rfl, ho, hf⟩ := hrel
    have HO := hid ho
    have HF := hid hf
    obtain ⟨cs, ow, ls⟩ := ho
    obtain ⟨ua, uc, hu, _⟩ := ownsRow_slice ow
    subst hu
    have hul := usN_len ps i
    clear hf ow ls
    by_cases hlt : i < n
    · have hil : i < ps.length := by rw [← HN.out]; exact hlt
      obtain ⟨b, off, rfl, m1⟩ := H1.out (by omega)
      obtain ⟨ka, kc, va, vc, P⟩ := m1 i _ (ps_at hil)
      have P2 := P.fr HF.out
      have z1 := P2.ck
      have z2 := P2.cv
      dsimp only at z1 z2
      have hK : isK (kA ps i) = true := rises_isK HR.out hil
      have hkl := isK_len hK
      have RK := hid P2.rk
      have BK := hid P2.bk
      have hun : usN ps (i + 1) = if (usN ps i).getLast? = some (userL (kA ps i)) then usN ps i else usN ps i ++ [userL (kA ps i)] := rfl
      have HU := hid hun
      have HK := hid hK
      dsimp only at RK BK
      clear P P2 m1 hil hun hK
      obtain ⟨W0, hW0⟩ : ∃ W0, W0 = wr.alloc (.cells #[.slice ka (kA ps i).length kc, .slice va (vA ps i).length vc] 47) := ⟨_, rfl⟩
      have F0 : Hid (Fr [] wr W0) := hid (by rw [hW0]; exact (Fr.refl _ _).alloc _)
      have hlu : (userL (kA ps i)).length ≤ 140737488355328 := by unfold userL; rw [List.length_take]; omega
      have BU := hid (show By (userL (kA ps i)) from BK.out.take _)
      have HSP := hid (Split_yes W0 (RK.out.fr F0.out) BK.out HK.out)
      generalize (kA ps i).length = lk at *
      generalize (vA ps i).length = lv at *
      go_upto_region 6 with (go_at_call 57; rw [← hW0]; refine HSP.out.mono ?_; rintro e W1 ⟨v1, rfl, o1, f1⟩; have O1 := hid o1; have F1 := hid (F0.out.trans f1); obtain ⟨a1, c1, rfl, _⟩ := ownsRow_slice o1; clear o1 f1)
      have O2 := hid (HO.out.fr F1.out)
      have F2 := hid (HF.out.trans F1.out)
      have RU := hid (Rd.ownB O1.out)
      have HS0 := hid (show w.heap.size ≤ W0.heap.size from Nat.le_trans HF.out.size F0.out.size)
      clear HSP hW0 z1 z2 F0
      obtain ⟨X, hX⟩ : ∃ X, X = usN ps i := ⟨_, rfl⟩
      obtain ⟨U, hU⟩ : ∃ U, U = userL (kA ps i) := ⟨_, rfl⟩
      have HX := hid hX
      rw [← hX] at O2 hul HU ⊢
      rw [← hU] at HU O1 BU hlu RU ⊢
      clear hU
      have E1 : Hid (0 < X.length → ∃ r, X[X.length - 1]? = some r ∧ X.getLast? = some r) := hid (fun h => by rw [hX] at h ⊢; exact usN_at h)
      clear hX
      by_cases hm : 0 < X.length
      · obtain ⟨r, e1, e2⟩ := E1.out hm
        obtain ⟨ra, rc, q1, q2⟩ := O2.out.rd
        simp only [Value.slice.injEq] at q1
        obtain ⟨rfl, _, rfl⟩ := q1
        obtain ⟨gb, go, rfl, q3⟩ := q2 hm
        obtain ⟨la, lc, q4, q5, q6, q7⟩ := q3 _ _ e1
        have hm1 : (0 : Int) < (X.length : Int) := by omega
        have hm2 : ((X.length : Int) == 0) = false := by rw [beq_eq_false_iff_ne]; omega
        have hm3 : ((X.length : Int) - 1).toNat = X.length - 1 := by omega
        have HEQ := hid (bytesEqual_c q5 RU.out q6 BU.out)
        clear q2 q3 q5 q6 E1
        by_cases hq : r = U
        · rw [decide_eq_true hq] at HEQ
          have HU2 : Hid (usN ps (i + 1) = X) := hid (by rw [HU.out, if_pos (by rw [e2, hq])])
          clear hq
          go_wp2_with (go_at_call 58; refine HEQ.out.mono ?_; rintro e w3 ⟨rfl, hw3⟩; rw [hw3]; clear hw3)
          go_roundw
          case rel => exact ⟨i + 1, by omega, by go_num, by rw [HU2.out]; exact O2.out, F2.out⟩
          case measure => simp [intOf]; omega
        · rw [decide_eq_false hq] at HEQ
          have HU2 : Hid (usN ps (i + 1) = X ++ [U]) := hid (by rw [HU.out, if_neg (by rw [e2]; simp; exact hq)])
          clear hq
          obtain ⟨cs2, ow2, ls2⟩ := O2.out
          obtain ⟨W3, hW3⟩ : ∃ W3, W3 = W1.alloc (.cells #[.slice a1 U.length c1] 22) := ⟨_, rfl⟩
          have F3 : Hid (Fr [] W1 W3) := hid (by rw [hW3]; exact (Fr.refl _ _).alloc _)
          have B3 : Hid (W3.heap[W1.heap.size]? = some (.cells #[.slice a1 U.length c1] 22 (0, 0))) := hid (by rw [hW3]; exact blk_new _ _)
          have OW := hid (ownsRow_fr ow2 F3.out)
          have LS := hid (show Lst W3 w.heap.size [(Value.slice (some ⟨gb, go, none⟩) X.length uc).ownBlock] X cs2 from ls2.step F3.out.size (fun k _ k2 _ => F3.out.block k k2 (by simp)) (fun q hq => .inl hq))
          have hb3 : w.heap.size ≤ W3.heap.size := Nat.le_trans F2.out.size F3.out.size
          have O13 := hid (ownsRow_fr O1.out F3.out)
          clear ow2 ls2
          go_wp2_with (first
            | (go_at_call 58; refine HEQ.out.mono ?_; rintro e w3 ⟨rfl, hw3⟩; rw [hw3]; clear hw3)
            | (at_builtin; rw [← hW3]; refine wpList_append_row rfl _ _ rfl w.heap.size hb3 _ _ _ rfl OW.out W1.heap.size rfl B3.out rfl (by omega) ?_; intro v4 W4 o4 g4 q4; have R4 := hid (OwnL.snoc OW.out LS.out o4 g4 q4 O13.out HS0.out (RU.out.fr F3.out) BU.out hlu); have F4 := hid ((F2.out.trans F3.out).grown g4 (fun k hk => .inr (OW.out.lt k hk).1)); clear o4 g4 q4))
          go_roundw
          case rel => exact ⟨i + 1, by omega, by go_num, by rw [HU2.out]; exact R4.out, F4.out⟩
          case measure => simp [intOf]; omega
      · have hm1 : X.length = 0 := by omega
        have hm2 : ((X.length : Int) == 0) = true := by rw [beq_iff_eq]; omega
        have HU2 : Hid (usN ps (i + 1) = X ++ [U]) := hid (by rw [HU.out, if_neg (by rw [List.eq_nil_of_length_eq_zero hm1]; simp)])
        obtain ⟨cs2, ow2, ls2⟩ := O2.out
        obtain ⟨W3, hW3⟩ : ∃ W3, W3 = W1.alloc (.cells #[.slice a1 U.length c1] 22) := ⟨_, rfl⟩
        have F3 : Hid (Fr [] W1 W3) := hid (by rw [hW3]; exact (Fr.refl _ _).alloc _)
        have B3 : Hid (W3.heap[W1.heap.size]? = some (.cells #[.slice a1 U.length c1] 22 (0, 0))) := hid (by rw [hW3]; exact blk_new _ _)
        have OW := hid (ownsRow_fr ow2 F3.out)
        have LS := hid (show Lst W3 w.heap.size [(Value.slice ua X.length uc).ownBlock] X cs2 from ls2.step F3.out.size (fun k _ k2 _ => F3.out.block k k2 (by simp)) (fun q hq => .inl hq))
        have hb3 : w.heap.size ≤ W3.heap.size := Nat.le_trans F2.out.size F3.out.size
        have O13 := hid (ownsRow_fr O1.out F3.out)
        clear ow2 ls2 hm1 hm
        go_wp2_with (at_builtin; rw [← hW3]; refine wpList_append_row rfl _ _ rfl w.heap.size hb3 _ _ _ rfl OW.out W1.heap.size rfl B3.out rfl (by omega) ?_; intro v4 W4 o4 g4 q4; have R4 := hid (OwnL.snoc OW.out LS.out o4 g4 q4 O13.out HS0.out (RU.out.fr F3.out) BU.out hlu); have F4 := hid ((F2.out.trans F3.out).grown g4 (fun k hk => .inr (OW.out.lt k hk).1)); clear o4 g4 q4)
        go_roundw
        case rel => exact ⟨i + 1, by omega, by go_num, by rw [HU2.out]; exact R4.out, F4.out⟩
        case measure => simp [intOf]; omega
    · have hin : i = n := by omega
      subst hin
      go_wp2
      go_ret
      exact ⟨_, rfl, HO.out, HF.out⟩
end Go.Proofs.YtnnookkcnmgbfaaGreat
namespace Go.Proofs.YtnnookkcnmgbfaaGreat
open Go.ChangeShapes Go.WideShapes Go.ChangeAt Go.RowKit

def q4 (a b c d i : Nat) : Nat := if i = 0 then a else if i = 1 then b else if i = 2 then c else d
def p4 (a b c d : Nat) : Nat → List Nat
  | 0 => []
  | i + 1 => p4 a b c d i ++ fixL (q4 a b c d i) 8
theorem p4_len (a b c d : Nat) : ∀ i, (p4 a b c d i).length = 8 * i
  | 0 => rfl
  | i + 1 => by rw [p4, List.length_append, p4_len a b c d i, fixL_len]; omega
theorem p4_all (a b c d : Nat) : p4 a b c d 4 = numsL a b c d := by
  simp [p4, q4, numsL]
theorem magic_cells : Lib.strCells { data := #[109, 111, 114, 97, 105, 110, 101, 49] } = bv magicL := by rfl

set_option maxRecDepth 20000 in
set_option maxHeartbeats 3200000 in
theorem footer_c (w : World) {B p : Nat} {v : Value} {xs : List Nat} (hB : B ≤ w.heap.size) (h : Wt w B p v xs) (hl : xs.length ≤ 1000000000) (a b c d : Nat) (ha : a < 18446744073709551616) (hb : b < 18446744073709551616) (hc : c < 18446744073709551616) (hd : d < 18446744073709551616) :
    Calls Tryz.prog 50 #[.pointer (some ⟨p, 0, none⟩), .agg #[.int .u64 (a : Int), .int .u64 (b : Int)], .agg #[.int .u64 (c : Int), .int .u64 (d : Int)]] w fun e w' => (∃ u, e = .returned u) ∧ ∃ v', Wt w' B p v' (xs ++ footL a b c d) ∧ Fr (p :: v.ownBlock.toList) w w' := by
  obtain ⟨fa, fc, hv, _⟩ := ownsRow_slice h.own
  subst hv
  have hp0 := h.at'
  have hlt := blk_lt hp0
  have H := hid h
  clear h
  obtain ⟨X, hX⟩ : ∃ X, X = xs.length := ⟨_, rfl⟩
  have HX := hid hX
  rw [← hX] at hl hp0 H ⊢
  clear hX
  have c0 : w.cell? ⟨p, 0, none⟩ = some (.slice fa X fc) := by rw [blk_cell hp0]; rfl
  clear hp0
  obtain ⟨W2, hW2⟩ : ∃ W2, W2 = ((w.alloc (.cells #[.int .u64 (a : Int), .int .u64 (b : Int)] 52)).alloc (.cells #[.int .u64 (c : Int), .int .u64 (d : Int)] 52)).alloc (.cells #[.int .u64 (a : Int), .int .u64 (b : Int), .int .u64 (c : Int), .int .u64 (d : Int)] 23) := ⟨_, rfl⟩
  have F2 : Hid (Fr [] w W2) := hid (by rw [hW2]; exact (((Fr.refl _ _).alloc _).alloc _).alloc _)
  have A2 : Hid (W2.heap[w.heap.size + 2]? = some (.cells #[.int .u64 (a : Int), .int .u64 (b : Int), .int .u64 (c : Int), .int .u64 (d : Int)] 23 (0, 0))) := hid (by rw [hW2]; exact new_at _ _ (by simp))
  have H2 := hid (H.out.fr F2.out)
  have hB2 : B ≤ W2.heap.size := Nat.le_trans hB F2.out.size
  have HNB : Hid (∀ k, (Value.slice fa X fc).ownBlock = some k → k < w.heap.size) := hid (fun k hk => (H.out.own.lt k hk).2)
  have q4b : ∀ i, q4 a b c d i < 18446744073709551616 := fun i => by unfold q4; split; exact ha; split; exact hb; split; exact hc; exact hd
  have HQ := hid q4b
  go_enter Tryz.func50, Tryz.ntmps50
  go_wp2_with fail
  try rw [← hW2]
  clear hW2 ha hb hc hd q4b
  go_loopw [25] (fun v25 wr => ∃ (i : Nat) (v' : Value), i ≤ 4 ∧ v25 = .int .i64 (i : Int) ∧ WtG W2 wr B p (.slice fa X fc) v' (xs ++ p4 a b c d i)) (fun v25 _ => 4 - (intOf v25).toNat)
  case atStart => exact ⟨0, _, by omega, rfl, by simp only [p4, List.append_nil]; exact H2.out.refl⟩
  case round =>
    obtain ⟨i, v', hi, rfl, hg⟩ := hrel
    have HG := hid hg
    obtain ⟨fa2, fc2, hv2, _⟩ := ownsRow_slice hg.wt.own
    have hl2 : (xs ++ p4 a b c d i).length = X + 8 * i := by rw [List.length_append, p4_len, HX.out]
    have HL2 := hid hl2
    rw [hl2] at hv2
    subst hv2
    have hB3 : B ≤ wr.heap.size := Nat.le_trans hB2 hg.fr.size
    have c1 : wr.cell? ⟨p, 0, none⟩ = some (.slice fa2 (X + 8 * i) fc2) := by rw [blk_cell hg.wt.at']; rfl
    clear hg hl2
    by_cases hlt4 : i < 4
    · have A3 : wr.heap[w.heap.size + 2]? = some (.cells #[.int .u64 (a : Int), .int .u64 (b : Int), .int .u64 (c : Int), .int .u64 (d : Int)] 23 (0, 0)) := HG.out.fr.at A2.out (by
        simp only [List.mem_cons, Option.mem_toList, not_or]
        exact ⟨by omega, fun e => by have := HNB.out _ e; omega⟩)
      have ci : wr.cell? ⟨w.heap.size + 2, i, none⟩ = some (.int .u64 (q4 a b c d i : Int)) := by
        rw [blk_cell A3]
        rcases (show i = 0 ∨ i = 1 ∨ i = 2 ∨ i = 3 from by omega) with e | e | e | e
        all_goals (subst e; rfl)
      have hqi := HQ.out i
      have HP : Hid (xs ++ p4 a b c d (i + 1) = (xs ++ p4 a b c d i) ++ fixL (q4 a b c d i) 8) := hid (by rw [p4, List.append_assoc])
      have hlz : Hid ((xs ++ p4 a b c d i).length + (fixL (q4 a b c d i) 8).length ≤ 140737488355328) := hid (by rw [HL2.out, fixL_len]; omega)
      have HZ : Hid (X + 8 * (i + 1) = (xs ++ p4 a b c d (i + 1)).length) := hid (by rw [List.length_append, p4_len, HX.out])
      generalize q4 a b c d i = nn at *
      clear A3 c0
      go_upto_region 5 with fail
      go_region_law (first
        | (go_simp
           go_at_call 44
           refine (fixed8_c _ nn hqi).mono ?_
           rintro e W4 ⟨v4, rfl, o4, f4⟩
           obtain ⟨a4, k4, rfl, _⟩ := ownsRow_slice o4
           have F4 := hid ((Fr.refl [] wr).drew.trans f4)
           have R4 := hid (Rd.ownN o4 (fixL_len _ _).symm)
           have c4 := cell_fr F4.out c1
           have hB4 := hid (Nat.le_trans hB3 F4.out.size)
           clear o4 f4)
        | (refine step_append_rdZ rfl (.tmp 33) (.tmp 35) rfl B (ownsRow_fr HG.out.wt.own F4.out) (by simp [Act.eval]) R4.out (by simp [Act.eval]) hlz.out hB4.out (X + 8 * (i + 1)) HP.out HZ.out ?_
           intro a5 k5 W5 o5 g5 q5
           have S4 := HG.out.quiet F4.out
           have b5 := (show W5.heap[p]? = some (.cells #[.slice fa2 (X + 8 * i) fc2] 99 (0, 0)) from (by rw [g5.block p (blk_lt S4.wt.at') (fun e => S4.wt.ne e.symm)]; exact S4.wt.at'))
           have c5 := (show W5.cell? ⟨p, 0, none⟩ = some (.slice fa2 (X + 8 * i) fc2) from (by rw [blk_cell b5]; rfl))
           have f5 := blk_frozen b5 0
           have S5 := hid (S4.step o5 g5 q5)
           clear o5 g5 q5 b5 S4))
      all_goals (
        clear c4 c5 f5 c1 ci
        go_wp2
        go_roundw
        case rel => exact ⟨i + 1, _, by omega, by go_num, S5.out⟩
        case measure => simp [intOf]; omega)
    · have hi4 : i = 4 := by omega
      subst hi4
      rw [p4_all] at HG HL2
      obtain ⟨nm, hnm⟩ : ∃ nm, nm = numsL a b c d := ⟨_, rfl⟩
      have HNM := hid hnm
      have hnl : nm.length = 32 := by rw [hnm, numsL_len]
      have BYN := hid (show By nm by rw [hnm]; exact numsL_by _ _ _ _)
      rw [← hnm] at HG HL2
      clear hnm
      rcases HG.out.wt.own.2 with ⟨e, _⟩ | ⟨g, cap, cur, e, _, _, hcap, _⟩
      · simp only [Value.slice.injEq] at e
        omega
      simp only [Value.slice.injEq] at e
      obtain ⟨rfl, hx1, rfl⟩ := e
      clear hx1
      have RT : Hid (Rd wr (.slice (some ⟨g, X, none⟩) 32 (fc2 - X)) (bv nm)) := hid (by
        have h1 := Rd.ownB HG.out.wt.own
        rw [← HL2.out] at h1
        have := h1.back (q := X) (by rw [HL2.out]; omega)
        rw [HX.out, List.drop_left, ← HX.out, HL2.out, Nat.zero_add, show X + 8 * 4 - X = 32 from by omega] at this
        exact this)
      have hcr := crc_lt BYN.out
      have SC := hid (sum_c RT.out BYN.out (by rw [hnl]; omega))
      have hcap2 : X + 32 ≤ fc2 := by rw [HL2.out] at hcap; omega
      clear hcap
      obtain ⟨cr, hcr'⟩ : ∃ cr, cr = crc nm := ⟨_, rfl⟩
      have HCR := hid hcr'
      rw [← hcr'] at hcr SC
      clear hcr' c0
      have hXc : ¬ fc2 = X := by omega
      have HP : Hid (xs ++ (nm ++ fixL cr 4) = (xs ++ nm) ++ fixL cr 4) := hid (by rw [List.append_assoc])
      have hlz : Hid ((xs ++ nm).length + (fixL cr 4).length ≤ 140737488355328) := hid (by rw [HL2.out, fixL_len]; omega)
      have HZ : Hid (X + 36 = (xs ++ (nm ++ fixL cr 4)).length) := hid (by rw [HP.out, List.length_append, HL2.out, fixL_len])
      go_upto_region 8 with (go_at_call 63; refine SC.out.mono ?_; rintro e w5 ⟨rfl, hw5⟩; rw [hw5]; clear hw5)
      go_region_law (first
        | (go_simp
           go_at_call 84
           refine (fixed4_c _ cr hcr).mono ?_
           rintro e W4 ⟨v4, rfl, o4, f4⟩
           obtain ⟨a4, k4, rfl, _⟩ := ownsRow_slice o4
           have F4 := hid ((Fr.refl [] wr).drew.trans f4)
           have R4 := hid (Rd.ownN o4 (fixL_len _ _).symm)
           have c4 := cell_fr F4.out c1
           have hB4 := hid (Nat.le_trans hB3 F4.out.size)
           clear o4 f4)
        | (refine step_append_rdZ rfl (.tmp 51) (.tmp 53) rfl B (ownsRow_fr HG.out.wt.own F4.out) (by simp [Act.eval]) R4.out (by simp [Act.eval]) hlz.out hB4.out (X + 36) HP.out HZ.out ?_
           intro a5 k5 W5 o5 g5 q5
           have S4 := HG.out.quiet F4.out
           have b5 := (show W5.heap[p]? = some (.cells #[.slice (some ⟨g, 0, none⟩) (X + 8 * 4) fc2] 99 (0, 0)) from (by rw [g5.block p (blk_lt S4.wt.at') (fun e => S4.wt.ne e.symm)]; exact S4.wt.at'))
           have c5 := (show W5.cell? ⟨p, 0, none⟩ = some (.slice (some ⟨g, 0, none⟩) (X + 8 * 4) fc2) from (by rw [blk_cell b5]; rfl))
           have f5 := blk_frozen b5 0
           have S5 := hid (S4.step o5 g5 q5)
           clear o5 g5 q5 b5 S4))
      all_goals (
        obtain ⟨W6, hW6⟩ : ∃ W6, W6 = W5.setCell ⟨p, 0, none⟩ (.slice a5 (X + 36) k5) := ⟨_, rfl⟩
        rw [← hW6] at S5 ⊢
        clear hW6 c5 f5 c4 c1
        have c6 : W6.cell? ⟨p, 0, none⟩ = some (.slice a5 (X + 36) k5) := by rw [blk_cell S5.out.wt.at']; rfl
        have hB6 : B ≤ W6.heap.size := Nat.le_trans hB2 S5.out.fr.size
        have HZ2 := HZ.out
        obtain ⟨i0, hi0, hz0, hz1, hz2⟩ := info_parts infoB
        have OW := hid S5.out.wt.own
        rw [← HZ2] at OW
        clear HZ2
        go_wp2_with (at_builtin; refine Lib.wpList_append_own_string _ rfl _ _ 22 9 rfl B 5 i0 Tryz.underlying22 Tryz.underlying9 hi0 hz0 hz1 hz2 _ _ _ rfl OW.out _ rfl (by unfold maxLen; simp only [ByteArray.size]; simp; omega) (by simp only [ByteArray.size]; simp; omega) hB6 ?_; intro v7 W7 o7 g7 _; obtain ⟨a7, k7, rfl, _⟩ := ownsRow_slice o7; have b7 := (show W7.heap[p]? = some (.cells #[.slice a5 (X + 36) k5] 99 (0, 0)) from (by rw [g7.block p (blk_lt S5.out.wt.at') (fun e => S5.out.wt.ne e.symm)]; exact S5.out.wt.at')); have c7 := (show W7.cell? ⟨p, 0, none⟩ = some (.slice a5 (X + 36) k5) from (by rw [blk_cell b7]; rfl)); have f7 := blk_frozen b7 0; have O7 := hid o7; have G7 := hid (show W6.grownBy W7 (Value.slice a5 (X + 36) k5).ownBlock from g7); have B7 := hid b7; clear o7 g7 b7))
      all_goals (
        go_end0
        have e1 : xs ++ footL a b c d = xs ++ (nm ++ fixL cr 4) ++ magicL := by
          unfold footL; rw [← HNM.out, ← HCR.out]; simp only [List.append_assoc]
        have o8 := O7.out
        rw [magic_cells, ← bv_append, ← e1] at o8
        have e2 : X + 36 + ({ data := #[109, 111, 114, 97, 105, 110, 101, 49] } : ByteArray).size = (xs ++ footL a b c d).length := by
          rw [e1, List.length_append, ← HZ.out]; rfl
        have hne : (Value.slice a7 (X + 36 + ({ data := #[109, 111, 114, 97, 105, 110, 101, 49] } : ByteArray).size) k7).ownBlock ≠ some p := own_not o8 B7.out (by decide)
        refine ⟨⟨_, rfl⟩, .slice a7 (X + 36 + 8) k7, ⟨by rw [blk_set B7.out]; rfl, ?_⟩, ?_⟩
        · refine ownsRow_of_block (w := W7) ?_ fun k hk => blk_setne _ _ _ (fun e => hne (by rw [← e]; exact hk))
          have := o8
          rw [show X + 36 + ({ data := #[109, 111, 114, 97, 105, 110, 101, 49] } : ByteArray).size = X + 36 + 8 from rfl] at this e2
          rw [← e2]; exact this
        · have f1 : Fr (p :: (Value.slice fa X fc).ownBlock.toList) W2 W7 := S5.out.fr.grown G7.out (fun k hk => by
            rcases S5.out.blk with e | e
            · left; rw [e] at hk; rw [hk]; simp
            · right; exact e k hk)
          exact ((F2.out.mono (by simp)).trans f1).set _ _ (.inl (by simp)))
end Go.Proofs.YtnnookkcnmgbfaaGreat
