/-
  The statements' comparison of pairs.
-/
import Derived.Test.YtnnookkcnmgbfaaGreatJ06
import Derived.Test.YtnnookkcnmgbfaaGreatJ37
import Derived.Test.YtnnookkcnmgbfaaGreatJ38
import Derived.Test.YtnnookkcnmgbfaaGreatXZ
import Derived.Test.YtnnookkcnmgbfaaGreatJ05
namespace Go.Proofs.YtnnookkcnmgbfaaGreat
open Go.ChangeShapes Go.WideShapes Go.ChangeAt Go.RowKit

set_option maxRecDepth 20000 in
set_option maxHeartbeats 4000000 in
theorem kvs_c {w : World} {v1 v2 : Value} {ps : Ps} (h1 : RdK w v1 ps) (h2 : RdK w v2 ps) (hl : ps.length ≤ 1000000) :
    Calls Tryz.prog 29 #[v1, v2] w fun e w' => e = .returned (.bool true) ∧ Fr [] w w' := by
  obtain ⟨a1, c1, rfl, _, k1⟩ := h1
  obtain ⟨a2, c2, rfl, _, k2⟩ := h2
  have H1 := hid k1
  have H2 := hid k2
  clear k1 k2
  obtain ⟨n, hn⟩ : ∃ n, n = ps.length := ⟨_, rfl⟩
  have HN := hid hn
  rw [← hn] at hl ⊢
  clear hn
  go_enter Tryz.func29, Tryz.ntmps29
  go_wp2_with fail
  go_loopw [5] (fun v5 wr => ∃ k : Nat, k ≤ n ∧ v5 = .int .i64 (k : Int) ∧ Fr [] w wr) (fun v5 _ => n - (intOf v5).toNat)
  case atStart => exact ⟨0, Nat.zero_le _, rfl, Fr.refl _ _⟩
  case round =>
    obtain ⟨k, hk, rfl, hf⟩ := hrel
    have HF := hid hf
    clear hf
    by_cases hlt : k < n
    · obtain ⟨p, hp⟩ : ∃ p, ps[k]? = some p := ⟨_, List.getElem?_eq_getElem (by rw [← HN.out]; exact hlt)⟩
      obtain ⟨b1, o1, rfl, m1⟩ := H1.out (by have := HN.out; omega)
      obtain ⟨b2, o2, rfl, m2⟩ := H2.out (by have := HN.out; omega)
      obtain ⟨ka1, kc1, va1, vc1, P1⟩ := m1 k p hp
      obtain ⟨ka2, kc2, va2, vc2, P2⟩ := m2 k p hp
      have hs1 : ((strOf p.1).toList == (strOf p.1).toList) = true := (by simp)
      have hs2 : ((strOf p.2).toList == (strOf p.2).toList) = true := (by simp)
      have z1 := cell_fr HF.out P1.ck
      have z2 := cell_fr HF.out P1.cv
      have z3 := cell_fr HF.out P2.ck
      have z4 := cell_fr HF.out P2.cv
      have g1 := fun m : Nat => run_conv ((P1.rk.fr HF.out).fr ((Fr.refl [] wr).drewN m))
      have g2 := fun m : Nat => run_conv ((P1.rv.fr HF.out).fr ((Fr.refl [] wr).drewN m))
      have g3 := fun m : Nat => run_conv ((P2.rk.fr HF.out).fr ((Fr.refl [] wr).drewN m))
      have g4 := fun m : Nat => run_conv ((P2.rv.fr HF.out).fr ((Fr.refl [] wr).drewN m))
      have hlt' : (k : Int) < (n : Int) := by omega
      clear m1 m2 hp P1 P2
      generalize p.1.length = l1 at *
      generalize p.2.length = l2 at *
      generalize strOf p.1 = s1 at *
      generalize strOf p.2 = s2 at *
      go_upto_region 6 with fail
      go_quiet (fail)
      go_wp2
      go_roundw
      case rel => exact ⟨k + 1, by omega, by go_num, HF.out.drewN _⟩
      case measure => simp [intOf]; omega
    · have hk' : k = n := by omega
      subst hk'
      go_wp2
      go_ret
      exact ⟨rfl, HF.out⟩
theorem RdK.one {w : World} {b off n c : Nat} {ps : Ps} (h : RdK w (.slice (some ⟨b, off, none⟩) n c) ps) {i : Nat} (hi : i < ps.length) : RdK w (.slice (some ⟨b, off + i * 2, none⟩) 1 (c - i)) [(kA ps i, vA ps i)] := by
  obtain ⟨a, c', e, hc, k1⟩ := h
  obtain ⟨b', off', e', m1⟩ := k1 (by omega)
  subst e'
  simp only [Value.slice.injEq, Option.some.injEq, Addr.mk.injEq] at e
  obtain ⟨⟨rfl, rfl, _⟩, _, rfl⟩ := e
  refine ⟨_, _, rfl, by simp; omega, fun _ => ⟨_, _, rfl, fun j p hj => ?_⟩⟩
  have h0 : j = 0 := by
    rcases Nat.lt_or_ge j 1 with h | h
    · omega
    · rw [List.getElem?_eq_none (by simpa using h)] at hj; cases hj
  subst h0
  simp at hj
  subst hj
  have := m1 i _ (ps_at hi)
  simpa using this
theorem RdK.lit {w : World} {X : Nat} {ka va : Option Addr} {kc vc : Nat} {k v : List Nat} (hX : w.heap[X]? = some (.cells #[.slice ka k.length kc, .slice va v.length vc] 47 (0, 0))) (rk : Rd w (.slice ka k.length kc) (bv k)) (rv : Rd w (.slice va v.length vc) (bv v)) (bk : By k) (bv' : By v) (lk : k.length ≤ 140737488355328) (lv : v.length ≤ 140737488355328) : RdK w (.slice (some ⟨X, 0, none⟩) 1 1) [(k, v)] := by
  refine ⟨_, _, rfl, Nat.le_refl _, fun _ => ⟨_, _, rfl, fun j p hj => ?_⟩⟩
  have h0 : j = 0 := by
    rcases Nat.lt_or_ge j 1 with h | h
    · omega
    · rw [List.getElem?_eq_none (by simpa using h)] at hj; cases hj
  subst h0
  simp at hj
  subst hj
  exact ⟨ka, kc, va, vc, by rw [blk_cell hX]; rfl, by rw [blk_cell hX]; rfl, rk, rv, bk, bv', lk, lv⟩
end Go.Proofs.YtnnookkcnmgbfaaGreat
namespace Go.Proofs.YtnnookkcnmgbfaaGreat
open Go.ChangeShapes Go.WideShapes Go.ChangeAt Go.RowKit

theorem nx_step {ips : Ps} {i j : Nat} (h : i ≤ j) : nxN ips i ≤ nxN ips j := by
  rcases Nat.lt_or_ge i j with h1 | h1
  · have := nx_le (ips := ips) (i := i) j h1
    omega
  · rw [show i = j by omega]; exact Nat.le_refl _
theorem rngS_len {X : Nat → Nat} {Q : Nat → Ps} {ips : Ps} {least most : List Nat} {n : Nat} (hQ : ∀ k, k < n → (Q k).length ≤ szA ips k) : ∀ (d i : Nat) (acc : Ps), i + d ≤ n → (rngS X Q (fun i => userL (kA ips i)) least most d i acc).2.length + nxN ips i ≤ acc.length + nxN ips (i + d)
  | 0, i, acc, _ => by rw [rngS]; simp
  | d + 1, i, acc, h => by
    have h1 : nxN ips (i + 1) = nxN ips i + szA ips i + 4 := rfl
    have h2 := nx_step (ips := ips) (i := i + 1) (j := i + (d + 1)) (by omega)
    have h3 := hQ i (by omega)
    have h4 : ∀ f : List Nat × List Nat → Bool, ((Q i).filter f).length ≤ (Q i).length := fun f => List.length_filter_le _ _
    have ih := rngS_len (X := X) (least := least) (most := most) hQ d (i + 1)
    rw [rngS]
    split
    · have := ih acc (by omega)
      rw [show i + 1 + d = i + (d + 1) by omega] at this
      omega
    · split
      · split
        · have := h4 (inR least most)
          simp only [List.length_append]
          omega
        · have := ih (acc ++ (Q i).filter (inR least most)) (by omega)
          rw [show i + 1 + d = i + (d + 1) by omega, List.length_append] at this
          have := h4 (inR least most)
          omega
      · simp; omega
set_option maxRecDepth 20000 in
set_option maxHeartbeats 6400000 in
theorem alike_c (w : World) {p : Nat} {dat flt : List Nat} {ips : Ps} {da fa : Option Addr} {dc fc G : Nat} (T : Tab w p dat flt ips da dc fa fc G) {p2 : Nat} {b : List Nat} {a : Option Addr} {L c : Nat} {q off m pc : Nat} {fa2 : Option Addr} {fn2 fc2 : Nat} (R : RT w p2 b a L c ips q off m pc fa2 fn2 fc2) (rf : Rd w (.slice fa2 fn2 fc2) (bv flt))
    (ri : Rises ips) (bi : ByP ips) (ki : ∀ i, i < ips.length → isK (kA ips i) = true) (li : ips.length ≤ 20000) (bd : By dat) (ld : dat.length ≤ 20000) (bf : By flt) (lf : flt.length ≤ 20000) (hL : b.length = L) (hb : By b) (hl : L ≤ 20000)
    (hsp : ∀ i, i < ips.length → nxN ips i + szA ips i + 4 ≤ dat.length) (hsL : dat.length ≤ L)
    {X : Nat → Nat} {Q : Nat → Ps} (hLd : ∀ i, i < ips.length → LookR dat (nxN ips i) (szA ips i) (kA ips i) (X i) (Q i)) (hLb : ∀ i, i < ips.length → LookR b (nxN ips i) (szA ips i) (kA ips i) (X i) (Q i))
    {ua sa ma : Option Addr} {ul uc sn sc mn mc : Nat} {user least most : List Nat} (ru : Rd w (.slice ua ul uc) (bv user)) (bu : By user) (lu : user.length = ul) (lu2 : ul ≤ 140737488355328)
    (rs : Rd w (.slice sa sn sc) (bv least)) (bs : By least) (ls : least.length ≤ 140737488355328) (rm : Rd w (.slice ma mn mc) (bv most)) (bm : By most) (lm : most.length = mn) (lm2 : mn ≤ 140737488355328) {sq : Nat} (hsq : sq < 18446744073709551616) :
    Calls Tryz.prog 10 #[.pointer (some ⟨p, 0, none⟩), .pointer (some ⟨p2, 0, none⟩), .slice ua ul uc, .int .u64 (sq : Int), .slice sa sn sc, .slice ma mn mc] w fun e w' => e = .returned (.bool true) ∧ Fr [] w w' := by
  obtain ⟨n, hn⟩ : ∃ n, n = ips.length := ⟨_, rfl⟩
  have hmn : m = n := by rw [hn]; exact R.len
  have bk : ∀ i, i < ips.length → By (kA ips i) := fun i _ => (kA_by bi i).1
  have hQ : ∀ i, i < ips.length → (Q i).length ≤ szA ips i ∧ ∀ j, j < (Q i).length → isK (kA (Q i) j) = true := fun i hi => by
    have h := look_facts (hLb i hi) (by have := hsp i hi; omega)
    refine ⟨h.1, fun j hj => ?_⟩
    have := h.2.1 _ (List.mem_of_getElem? (ps_at hj))
    exact this
  have ht : ∀ i, i < ips.length → nxN ips i + szA ips i + 4 ≤ L := fun i hi => by have := hsp i hi; omega
  have hmon : ∀ i j, i ≤ j → j < ips.length → cmpN (userL (kA ips i)) (userL (kA ips j)) ≤ 0 := fun i j hij hj => by
    by_cases e : i = j
    · rw [e, (cmpN_eq _ _).2 rfl]; omega
    · exact ordU (rises_ij ri (show i < j by omega) hj)
  have lenS : ∀ least most, (rngS X Q (fun i => userL (kA ips i)) least most ips.length 0 []).2.length ≤ 1000000 := fun le mo => by
    have h := rngS_len (X := X) (least := le) (most := mo) (n := ips.length) (fun k hk => (hQ k hk).1) ips.length 0 [] (by omega)
    rw [Nat.zero_add] at h
    simp only [List.length_nil] at h
    rcases Nat.eq_zero_or_pos ips.length with h0 | h0
    · rw [h0] at h
      have : nxN ips 0 = 0 := rfl
      rw [h0]
      omega
    · have h1 := hsp (ips.length - 1) (by omega)
      have h2 : nxN ips (ips.length - 1 + 1) = nxN ips (ips.length - 1) + szA ips (ips.length - 1) + 4 := rfl
      rw [show ips.length - 1 + 1 = ips.length by omega] at h2
      omega
  have allS : rngF X Q (fun i => userL (kA ips i)) [] [] ips.length 0 [] = rngS X Q (fun i => userL (kA ips i)) [] [] ips.length 0 [] :=
    (rngS_high ips.length 0 [] (fun k _ _ => by have := cmpN_nil (userL (kA ips k)); omega)).symm
  have GT : Hid (∀ W, Fr [] w W → Calls Tryz.prog 15 #[.pointer (some ⟨p, 0, none⟩), .slice ua ul uc, .int .u64 (sq : Int)] W fun e w' => GetT W w' flt ips X Q user sq e) := hid (fun W f => tget_c W (T.fr f) ri bi li bd ld bf (by omega) hsp hLd bu (ru.fr f))
  have GR : Hid (∀ W, Fr [] w W → Calls Tryz.prog 26 #[.pointer (some ⟨p2, 0, none⟩), .slice ua ul uc, .int .u64 (sq : Int)] W fun e w' => GetO W w' flt ips X Q user sq e) := hid (fun W f => rget_c W (R.fr f) hL hb hl (by omega) ht bk ki hLb hQ (rf.fr f) bf (by omega) (ru.fr f) bu lu lu2 hsq)
  obtain ⟨EA, hEA⟩ : ∃ x, x = (rngS X Q (fun i => userL (kA ips i)) [] [] ips.length 0 []).1 := ⟨_, rfl⟩
  obtain ⟨LA, hLA⟩ : ∃ x, x = (rngS X Q (fun i => userL (kA ips i)) [] [] ips.length 0 []).2 := ⟨_, rfl⟩
  have AT : Hid (∀ W, Fr [] w W → Calls Tryz.prog 27 #[.pointer (some ⟨p, 0, none⟩)] W fun e w' => ∃ v', e = .returned (.tuple #[v', .int .i64 (EA : Int)]) ∧ ColO w' W.heap.size v' LA ∧ Fr [] W w') := hid (fun W f => by
    have h := tall_c W (T.fr f) bd (by omega) bi (by omega) hsp hLd
    rw [allS, ← hEA, ← hLA] at h
    exact h)
  have AR : Hid (∀ W, Fr [] w W → Calls Tryz.prog 28 #[.pointer (some ⟨p2, 0, none⟩)] W fun e w' => ∃ v', e = .returned (.tuple #[v', .int .i64 (EA : Int)]) ∧ ColO w' W.heap.size v' LA ∧ Fr [] W w') := hid (fun W f => by
    have h := rall_c W (R.fr f) hL hb hl (by omega) ht bk ki hLb (fun i hi => (hQ i hi).1) (fun i => userL (kA ips i))
    rw [allS, ← hEA, ← hLA] at h
    exact h)
  obtain ⟨ER, hER⟩ : ∃ x, x = (rngS X Q (fun i => userL (kA ips i)) least most ips.length 0 []).1 := ⟨_, rfl⟩
  obtain ⟨LR, hLR⟩ : ∃ x, x = (rngS X Q (fun i => userL (kA ips i)) least most ips.length 0 []).2 := ⟨_, rfl⟩
  have RT1 : Hid (∀ W, Fr [] w W → Calls Tryz.prog 31 #[.pointer (some ⟨p, 0, none⟩), .slice sa sn sc, .slice ma mn mc] W fun e w' => ∃ v', e = .returned (.tuple #[v', .int .i64 (ER : Int)]) ∧ ColO w' W.heap.size v' LR ∧ Fr [] W w') := hid (fun W f => (range_c W (T.fr f) bd (by omega) bi (by omega) hsp hLd (rs.fr f) (rm.fr f) bs bm).mono fun e w' h => by
    obtain ⟨I, v', ⟨i1, i2, i3⟩, h1, h2, h3⟩ := h
    rw [← rngS_at hmon i1 i2 i3, ← hER] at h1
    rw [← rngS_at hmon i1 i2 i3, ← hLR] at h2
    exact ⟨v', h1, h2, h3⟩)
  have RR1 : Hid (∀ W, Fr [] w W → Calls Tryz.prog 32 #[.pointer (some ⟨p2, 0, none⟩), .slice sa sn sc, .slice ma mn mc] W fun e w' => ∃ v', e = .returned (.tuple #[v', .int .i64 (ER : Int)]) ∧ ColO w' W.heap.size v' LR ∧ Fr [] W w') := hid (fun W f => by
    have h := rrange_c W (R.fr f) hL hb hl (by omega) ht bk ki hLb hQ (rs.fr f) (rm.fr f) bs bm ls lm lm2
    rw [← hER, ← hLR] at h
    exact h)
  have HLA : Hid (LA.length ≤ 1000000) := hid (by rw [hLA]; exact lenS _ _)
  have HLR : Hid (LR.length ≤ 1000000) := hid (by rw [hLR]; exact lenS _ _)
  have BK : Hid (∀ W, Fr [] w W → Calls Tryz.prog 16 #[.pointer (some ⟨p, 0, none⟩)] W fun e w' => e = .returned (.int .i64 (n : Int)) ∧ w' = W) := hid (fun W f => by rw [hn]; exact blocks_c W (T.fr f))
  have RB : Hid (w.heap[p2]? = some (.cells #[.slice a L c, .slice (some ⟨q, off, none⟩) n pc, .slice fa2 fn2 fc2] 71 (0, 0))) := hid (by rw [← hmn]; exact R.blk)
  clear T R rf ri bi ki li bd ld bf lf hL hb hsp hLd hLb ru bu lu rs bs ls rm bm lm hn hmn bk hQ ht hmon lenS allS hEA hLA hER hLR
  go_enter Tryz.func10, Tryz.ntmps10
  have G1 := hid (GT.out w (Fr.refl _ _))
  go_upto_region 2 with (go_at_call 15; refine G1.out.mono ?_; rintro e W1 ⟨v, kd, ok, x, va, vc, rfl, r1, s1, f1⟩; have RV1 := hid r1; have S1 := hid s1; have F1 := hid f1; clear r1 s1 f1)
  clear G1 GT
  have G2 := hid (GR.out W1 F1.out)
  go_upto_region 3 with (go_at_call 26; refine G2.out.mono ?_; rintro e W2 ⟨v2, kd2, ok2, x2, va2, vc2, rfl, r2, b2, l2, s2, f2⟩; have RV2 := hid r2; have B2 := hid b2; have S2 := hid s2; have F2 := hid f2; clear r2 b2 l2 s2 f2)
  clear G2 GR
  obtain ⟨e0, e1, e2, e3⟩ := S1.out.one S2.out
  subst e0 e1 e2 e3
  have BC := hid (bytes_c (RV1.out.fr F2.out) RV2.out B2.out B2.out)
  rw [decide_eq_true (rfl : v = v)] at BC
  generalize v.length = vl at BC
  have F12 := hid (F1.out.trans F2.out)
  clear S1 S2 RV1 RV2 B2 F1 F2
  go_upto_region 5 with (go_at_call 8; refine BC.out.mono ?_; rintro e w1 ⟨rfl, hw1⟩; have hw2 := hw1.symm; clear hw1; subst hw2)
  clear BC
  have A1 := hid (AT.out W2 F12.out)
  go_upto_region 6 with (go_at_call 27; refine A1.out.mono ?_; rintro e W3 ⟨v3, rfl, c3, f3⟩; obtain ⟨ta, tc, hv3⟩ : ∃ la lc, v3 = .slice la LA.length lc := (by obtain ⟨cs, oo, _⟩ := c3; obtain ⟨x, y, e, _⟩ := ownsRow_slice oo; exact ⟨x, y, e⟩); subst hv3; have C3 := hid c3; have F3 := hid f3; clear c3 f3)
  clear A1 AT
  have A2 := hid (AR.out W3 (F12.out.trans F3.out))
  go_upto_region 7 with (go_at_call 28; refine A2.out.mono ?_; rintro e W4 ⟨v4, rfl, c4, f4⟩; obtain ⟨sa4, sc4, hv4⟩ : ∃ la lc, v4 = .slice la LA.length lc := (by obtain ⟨cs, oo, _⟩ := c4; obtain ⟨x, y, e, _⟩ := ownsRow_slice oo; exact ⟨x, y, e⟩); subst hv4; have C4 := hid c4; have F34 := hid f4; clear c4 f4)
  clear A2 AR
  have F24 := hid (F3.out.trans F34.out)
  have F4 := hid (F12.out.trans F24.out)
  obtain ⟨D, hD⟩ : ∃ W, W = W4.drew := ⟨_, rfl⟩
  have DF : Hid (Fr [] W4 D) := hid (by rw [hD]; exact (Fr.refl _ _).drew)
  have KC := hid (kvs_c ((C3.out.fr (F34.out.trans DF.out)).rd) ((C4.out.fr DF.out).rd) HLA.out)
  obtain ⟨N3, hN3⟩ : ∃ z, z = LA.length := ⟨_, rfl⟩
  have HN3 := hid hN3
  rw [← hN3] at C3 KC ⊢
  clear hN3 C4
  have FD := hid (F4.out.trans DF.out)
  have SB : Hid (∀ W, Fr [] w W → W.heap[p2]? = some (.cells #[.slice a L c, .slice (some ⟨q, off, none⟩) n pc, .slice fa2 fn2 fc2] 71 (0, 0))) := hid (fun W f => f.at RB.out (by simp))
  refine wp_region_held_drew (S := fun w' => w'.heap[p2]? = some (.cells #[.slice a L c, .slice (some ⟨q, off, none⟩) n pc, .slice fa2 fn2 fc2] 71 (0, 0))) (by kernel_rfl) (by rw [← hD]; exact SB.out D FD.out) (fun hS => ?_)
  rw [← hD] at hS ⊢
  clear hD
  refine wpAnyH_take (i := 0) (v := .int .i64 (EA : Int)) rfl (by kernel_rfl) (by kernel_rfl) (by kernel_rfl) (fun _ _ _ h => h) (.inl ⟨by rfl, fun wx _ => by go_simp⟩) hS ?_
  simp only [Act.put, List.getElem_toArray, List.getElem_cons_zero, List.set_cons_succ, List.set_cons_zero, List.setIfInBounds_toArray]
  refine wpAnyH_take (i := 1) (v := .int .i64 (EA : Int)) rfl (by kernel_rfl) (by kernel_rfl) (by kernel_rfl) (fun _ _ _ h => h) (.inl ⟨by rfl, fun wx _ => by go_simp⟩) hS ?_
  simp only [Act.put, List.getElem_toArray, List.getElem_cons_succ, List.getElem_cons_zero, List.set_cons_succ, List.set_cons_zero, List.setIfInBounds_toArray]
  refine wpAnyH_take (i := 2) (v := .bool false) rfl (by kernel_rfl) (by kernel_rfl) (by kernel_rfl) (fun _ _ _ h => h) (.inl ⟨by rfl, fun wx _ => by go_simp⟩) hS ?_
  simp only [Act.put, List.getElem_toArray, List.getElem_cons_succ, List.getElem_cons_zero, List.set_cons_succ, List.set_cons_zero, List.setIfInBounds_toArray]
  refine wpAnyH_take (i := 3) (v := .bool false) rfl (by kernel_rfl) (by kernel_rfl) (by kernel_rfl) (fun _ _ _ h => h) (.inl ⟨by rfl, fun wx _ => by go_simp⟩) hS ?_
  simp only [Act.put, List.getElem_toArray, List.getElem_cons_succ, List.getElem_cons_zero, List.set_cons_succ, List.set_cons_zero, List.setIfInBounds_toArray]
  refine wpAnyH_take (i := 4) (v := .slice ta N3 tc) rfl (by kernel_rfl) (by kernel_rfl) (by kernel_rfl) (fun _ _ _ h => h) (.inl ⟨by kernel_rfl, fun wx _ => by go_simp⟩) hS ?_
  simp only [Act.put, List.getElem_toArray, List.getElem_cons_succ, List.getElem_cons_zero, List.set_cons_succ, List.set_cons_zero, List.setIfInBounds_toArray]
  refine wpAnyH_take (i := 5) (v := .slice sa4 N3 sc4) rfl (by kernel_rfl) (by kernel_rfl) (by kernel_rfl) (fun _ _ _ h => h) (.inl ⟨by kernel_rfl, fun wx _ => by go_simp⟩) hS ?_
  simp only [Act.put, List.getElem_toArray, List.getElem_cons_succ, List.getElem_cons_zero, List.set_cons_succ, List.set_cons_zero, List.setIfInBounds_toArray]
  clear hS
  refine wpAnyH_ready (rs := [6]) (by kernel_rfl) (by simp) ?_
  refine AllReadyH.cons rfl (fun K hK => ?_) AllReadyH.nil
  go_simp
  refine KC.out.mono ?_
  rintro e D1 ⟨rfl, f6⟩
  have F41 := hid (DF.out.trans f6)
  have FD1 := hid (F4.out.trans F41.out)
  refine hK.out _ _ (SB.out D1 FD1.out) (fun hS => ?_)
  clear hK K f6 KC
  refine wpAnyH_take (i := 7) (v := .bool false) rfl (by kernel_rfl) (by kernel_rfl) (by kernel_rfl) (fun _ _ _ h => h) (.inl ⟨by kernel_rfl, fun wx _ => by go_simp⟩) hS ?_
  simp only [Act.put, List.getElem_toArray, List.getElem_cons_succ, List.getElem_cons_zero, List.set_cons_succ, List.set_cons_zero, List.setIfInBounds_toArray]
  refine wpAnyH_take (i := 8) (v := .bool false) rfl (by kernel_rfl) (by kernel_rfl) (by kernel_rfl) (fun _ _ _ h => h) (.inl ⟨by rfl, fun wx _ => by go_simp⟩) hS ?_
  simp only [Act.put, List.getElem_toArray, List.getElem_cons_succ, List.getElem_cons_zero, List.set_cons_succ, List.set_cons_zero, List.setIfInBounds_toArray]
  refine wpAnyH_take (i := 9) (v := .bool false) rfl (by kernel_rfl) (by kernel_rfl) (by kernel_rfl) (fun _ _ _ h => h) (.inl ⟨by rfl, fun wx _ => by go_simp⟩) hS ?_
  simp only [Act.put, List.getElem_toArray, List.getElem_cons_succ, List.getElem_cons_zero, List.set_cons_succ, List.set_cons_zero, List.setIfInBounds_toArray]
  refine wpAnyH_take (i := 10) (v := .pointer (some ⟨p, 0, none⟩)) rfl (by kernel_rfl) (by kernel_rfl) (by kernel_rfl) (fun _ _ _ h => h) (.inl ⟨by kernel_rfl, fun wx _ => by go_simp⟩) hS ?_
  simp only [Act.put, List.getElem_toArray, List.getElem_cons_succ, List.getElem_cons_zero, List.set_cons_succ, List.set_cons_zero, List.setIfInBounds_toArray]
  refine wpAnyH_take (i := 12) (v := .pointer (some ⟨p2, 0, none⟩)) rfl (by kernel_rfl) (by kernel_rfl) (by kernel_rfl) (fun _ _ _ h => h) (.inl ⟨by kernel_rfl, fun wx _ => by go_simp⟩) hS ?_
  simp only [Act.put, List.getElem_toArray, List.getElem_cons_succ, List.getElem_cons_zero, List.set_cons_succ, List.set_cons_zero, List.setIfInBounds_toArray]
  refine wpAnyH_take (i := 13) (v := .pointer (some ⟨p2, 0, none⟩)) rfl (by kernel_rfl) (by kernel_rfl) (by kernel_rfl) (fun _ _ _ h => h) (.inl ⟨by kernel_rfl, fun wx _ => by go_simp⟩) hS ?_
  simp only [Act.put, List.getElem_toArray, List.getElem_cons_succ, List.getElem_cons_zero, List.set_cons_succ, List.set_cons_zero, List.setIfInBounds_toArray]
  refine wpAnyH_take (i := 14) (v := .pointer (some ⟨p2, 1, none⟩)) rfl (by kernel_rfl) (by kernel_rfl) (by kernel_rfl) (fun _ _ _ h => h) (.inl ⟨by kernel_rfl, fun wx _ => by go_simp⟩) hS ?_
  simp only [Act.put, List.getElem_toArray, List.getElem_cons_succ, List.getElem_cons_zero, List.set_cons_succ, List.set_cons_zero, List.setIfInBounds_toArray]
  refine wpAnyH_take (i := 15) (v := .slice (some ⟨q, off, none⟩) n pc) rfl (by kernel_rfl) (by kernel_rfl) (by kernel_rfl) (fun _ _ _ h => h) (.inl ⟨by kernel_rfl, fun wx hX => by have hy : wx.cell? ⟨p2, 1, none⟩ = some (.slice (some ⟨q, off, none⟩) n pc) := (by rw [blk_cell hX]; rfl); go_simp⟩) hS ?_
  simp only [Act.put, List.getElem_toArray, List.getElem_cons_succ, List.getElem_cons_zero, List.set_cons_succ, List.set_cons_zero, List.setIfInBounds_toArray]
  refine wpAnyH_take (i := 16) (v := .int .i64 (n : Int)) rfl (by kernel_rfl) (by kernel_rfl) (by kernel_rfl) (fun _ _ _ h => h) (.inl ⟨by kernel_rfl, fun wx _ => by go_simp⟩) hS ?_
  simp only [Act.put, List.getElem_toArray, List.getElem_cons_succ, List.getElem_cons_zero, List.set_cons_succ, List.set_cons_zero, List.setIfInBounds_toArray]
  clear hS
  refine wpAnyH_ready (rs := [11]) (by kernel_rfl) (by simp) ?_
  refine AllReadyH.cons rfl (fun K hK => ?_) AllReadyH.nil
  go_simp
  refine (BK.out D1 FD1.out).mono ?_
  rintro e D2 ⟨rfl, hd2⟩
  have hd3 := hd2.symm
  clear hd2
  subst hd3
  refine hK.out _ _ (SB.out D1 FD1.out) (fun hS => ?_)
  clear hK K
  refine wpAnyH_take (i := 17) (v := .bool false) rfl (by kernel_rfl) (by kernel_rfl) (by kernel_rfl) (fun _ _ _ h => h) (.inl ⟨by kernel_rfl, fun wx _ => by go_simp⟩) hS ?_
  simp only [Act.put, List.getElem_toArray, List.getElem_cons_succ, List.getElem_cons_zero, List.set_cons_succ, List.set_cons_zero, List.setIfInBounds_toArray]
  refine wpAnyH_take (i := 18) (v := .bool false) rfl (by kernel_rfl) (by kernel_rfl) (by kernel_rfl) (fun _ _ _ h => h) (.inl ⟨by rfl, fun wx _ => by go_simp⟩) hS ?_
  simp only [Act.put, List.getElem_toArray, List.getElem_cons_succ, List.getElem_cons_zero, List.set_cons_succ, List.set_cons_zero, List.setIfInBounds_toArray]
  clear hS
  refine wpAnyH_done (by kernel_rfl) ?_ _
  have SP := hid (spoilAll_c D1 (C3.out.fr (F34.out.trans F41.out)) HN3.out (by rw [HN3.out]; exact HLA.out))
  have F21 := hid (F24.out.trans F41.out)
  clear BK SB RB C3 DF FD F41 FD1 HLA
  go_upto_region 10 with (go_at_call 30; refine SP.out.mono ?_; rintro e W6 ⟨⟨u6, rfl⟩, k6⟩; have F6 := hid (F12.out.trans (k6.frame F21.out (Nat.le_refl _))); clear k6)
  clear SP
  have G1 := hid (RT1.out W6 F6.out)
  go_upto_region 11 with (go_at_call 31; refine G1.out.mono ?_; rintro e W7 ⟨v7, rfl, c7, f7⟩; obtain ⟨a7, d7, hv7⟩ : ∃ la lc, v7 = .slice la LR.length lc := (by obtain ⟨cs, oo, _⟩ := c7; obtain ⟨x, y, e, _⟩ := ownsRow_slice oo; exact ⟨x, y, e⟩); subst hv7; have C7 := hid c7; have F7 := hid (F6.out.trans f7); clear c7 f7)
  clear G1 RT1
  have G2 := hid (RR1.out W7 F7.out)
  go_upto_region 12 with (go_at_call 32; refine G2.out.mono ?_; rintro e W8 ⟨v8, rfl, c8, f8⟩; obtain ⟨a8, d8, hv8⟩ : ∃ la lc, v8 = .slice la LR.length lc := (by obtain ⟨cs, oo, _⟩ := c8; obtain ⟨x, y, e, _⟩ := ownsRow_slice oo; exact ⟨x, y, e⟩); subst hv8; have C8 := hid c8; have F78 := hid f8; clear c8 f8)
  clear G2 RR1
  have KC := hid (kvs_c ((C7.out.fr F78.out).rd) C8.out.rd HLR.out)
  generalize LR.length = N8 at KC ⊢
  go_wp2_with (go_at_call 29; refine KC.out.mono ?_; rintro e W9 ⟨rfl, f9⟩; have F9 := hid (F7.out.trans (F78.out.trans f9)); clear f9)
  go_ret
  exact ⟨rfl, F9.out⟩
end Go.Proofs.YtnnookkcnmgbfaaGreat
