/-
  The document's Get.
-/
import Derived.Test.YtnnookkcnmgbfaaGreatJ35
import Derived.Test.YtnnookkcnmgbfaaGreatJ36
import Derived.Test.YtnnookkcnmgbfaaGreatJ29
import Derived.Test.YtnnookkcnmgbfaaGreatJ24
import Derived.Test.YtnnookkcnmgbfaaGreatXQ3
namespace Go.Proofs.YtnnookkcnmgbfaaGreat
open Go.ChangeShapes Go.WideShapes Go.ChangeAt Go.RowKit

/-- Nothing is told. -/
def NoV (v : List Nat) (kd : Nat) (ok : Bool) : Prop := v = [] ∧ kd = 0 ∧ ok = false
/-- What Get tells of an opened table: X, Q what looking at each block tells. -/
def GetS (flt : List Nat) (ips : Ps) (X : Nat → Nat) (Q : Nat → Ps) (user : List Nat) (sq : Nat) (v : List Nat) (kd : Nat) (ok : Bool) (x : Nat) : Prop :=
  ((128 < user.length ∨ mayF flt user = false) ∧ NoV v kd ok ∧ x = 0) ∨
  (user.length ≤ 128 ∧ mayF flt user = true ∧ ∃ I, (∀ j, j < I → ordK (kA ips j) (keyL user (min sq 72057594037927935) 1) < 0) ∧
    ((I = ips.length ∧ NoV v kd ok ∧ x = 0) ∨ (I < ips.length ∧ 0 ≤ ordK (kA ips I) (keyL user (min sq 72057594037927935) 1) ∧
      ((X I ≠ 0 ∧ NoV v kd ok ∧ x = X I) ∨ (X I = 0 ∧ x = 0 ∧ ∃ J, (∀ j, j < J → ordK (kA (Q I) j) (keyL user (min sq 72057594037927935) 1) < 0) ∧
        ((J = (Q I).length ∧ NoV v kd ok) ∨ (J < (Q I).length ∧ 0 ≤ ordK (kA (Q I) J) (keyL user (min sq 72057594037927935) 1) ∧
          ((cmpN (userL (kA (Q I) J)) user ≠ 0 ∧ NoV v kd ok) ∨ (cmpN (userL (kA (Q I) J)) user = 0 ∧ v = vA (Q I) J ∧ kd = tailN (kA (Q I) J) % 256 ∧ ok = true)))))))))
theorem first_one {n I J : Nat} {f : Nat → Int} (h1 : ∀ j, j < I → f j < 0) (h2 : I = n ∨ (I < n ∧ 0 ≤ f I)) (k1 : ∀ j, j < J → f j < 0) (k2 : J = n ∨ (J < n ∧ 0 ≤ f J)) : I = J := by
  rcases Nat.lt_trichotomy I J with h | h | h
  · have := k1 I h
    rcases h2 with h2 | h2
    · rcases k2 with k2 | k2 <;> omega
    · omega
  · exact h
  · have := h1 J h
    rcases k2 with k2 | k2
    · rcases h2 with h2 | h2 <;> omega
    · omega
/-- One answer. -/
theorem GetS.one {flt : List Nat} {ips : Ps} {X : Nat → Nat} {Q : Nat → Ps} {user : List Nat} {sq : Nat} {v v' : List Nat} {kd kd' : Nat} {ok ok' : Bool} {x x' : Nat} (h : GetS flt ips X Q user sq v kd ok x) (h' : GetS flt ips X Q user sq v' kd' ok' x') : v = v' ∧ kd = kd' ∧ ok = ok' ∧ x = x' := by
  have no : ∀ {v v' : List Nat} {kd kd' : Nat} {ok ok' : Bool}, NoV v kd ok → NoV v' kd' ok' → v = v' ∧ kd = kd' ∧ ok = ok' := fun a b => ⟨a.1.trans b.1.symm, a.2.1.trans b.2.1.symm, a.2.2.trans b.2.2.symm⟩
  rcases h with ⟨h1, h2, h3⟩ | ⟨h1, h2, I, h3, h4⟩ <;> rcases h' with ⟨k1, k2, k3⟩ | ⟨k1, k2, I', k3, k4⟩
  · exact ⟨(no h2 k2).1, (no h2 k2).2.1, (no h2 k2).2.2, by rw [h3, k3]⟩
  · rcases h1 with h1 | h1
    · omega
    · rw [h1] at k2; cases k2
  · rcases k1 with k1 | k1
    · omega
    · rw [k1] at h2; cases h2
  · have e : I = I' := first_one (n := ips.length) h3 (by rcases h4 with h | h; exact .inl h.1; exact .inr ⟨h.1, h.2.1⟩) k3 (by rcases k4 with h | h; exact .inl h.1; exact .inr ⟨h.1, h.2.1⟩)
    subst e
    rcases h4 with ⟨a1, a2, a3⟩ | ⟨a1, a2, a3⟩ <;> rcases k4 with ⟨b1, b2, b3⟩ | ⟨b1, b2, b3⟩
    · exact ⟨(no a2 b2).1, (no a2 b2).2.1, (no a2 b2).2.2, by rw [a3, b3]⟩
    · omega
    · omega
    · rcases a3 with ⟨c1, c2, c3⟩ | ⟨c1, c2, J, c3, c4⟩ <;> rcases b3 with ⟨d1, d2, d3⟩ | ⟨d1, d2, J', d3, d4⟩
      · exact ⟨(no c2 d2).1, (no c2 d2).2.1, (no c2 d2).2.2, by rw [c3, d3]⟩
      · exact absurd d1 c1
      · exact absurd c1 d1
      · have e : J = J' := first_one (n := (Q I).length) c3 (by rcases c4 with h | h; exact .inl h.1; exact .inr ⟨h.1, h.2.1⟩) d3 (by rcases d4 with h | h; exact .inl h.1; exact .inr ⟨h.1, h.2.1⟩)
        subst e
        rcases c4 with ⟨e1, e2⟩ | ⟨e1, e2, e3⟩ <;> rcases d4 with ⟨f1, f2⟩ | ⟨f1, f2, f3⟩
        · exact ⟨(no e2 f2).1, (no e2 f2).2.1, (no e2 f2).2.2, by rw [c2, d2]⟩
        · omega
        · omega
        · rcases e3 with ⟨g1, g2⟩ | ⟨g1, g2, g3, g4⟩ <;> rcases f3 with ⟨i1, i2⟩ | ⟨i1, i2, i3, i4⟩
          · exact ⟨(no g2 i2).1, (no g2 i2).2.1, (no g2 i2).2.2, by rw [c2, d2]⟩
          · exact absurd i1 g1
          · exact absurd g1 i1
          · exact ⟨by rw [g2, i2], by rw [g3, i3], by rw [g4, i4], by rw [c2, d2]⟩
/-- What Get answers, in memory. -/
def GetO (w w' : World) (flt : List Nat) (ips : Ps) (X : Nat → Nat) (Q : Nat → Ps) (user : List Nat) (sq : Nat) (e : Ending) : Prop :=
  ∃ (v : List Nat) (kd : Nat) (ok : Bool) (x : Nat) (va : Option Addr) (vc : Nat), e = .returned (.tuple #[.slice va v.length vc, .int .i64 (kd : Int), .bool ok, .int .i64 (x : Int)]) ∧ Rd w' (.slice va v.length vc) (bv v) ∧ By v ∧ v.length ≤ 140737488355328 ∧ GetS flt ips X Q user sq v kd ok x ∧ Fr [] w w'
theorem GetO.no {w w' : World} {flt : List Nat} {ips : Ps} {X : Nat → Nat} {Q : Nat → Ps} {user : List Nat} {sq x : Nat} (h : GetS flt ips X Q user sq [] 0 false x) (f : Fr [] w w') : GetO w w' flt ips X Q user sq (.returned (.tuple #[.slice none 0 0, .int .i64 0, .bool false, .int .i64 (x : Int)])) :=
  ⟨[], 0, false, x, none, 0, rfl, .inl ⟨rfl, rfl⟩, fun _ h => (by cases h), by simp, h, f⟩
set_option maxRecDepth 20000 in
set_option maxHeartbeats 6400000 in
theorem rget_c (w : World) {p : Nat} {b : List Nat} {a : Option Addr} {L c : Nat} {ips : Ps} {q off m pc : Nat} {fa : Option Addr} {fn fc : Nat} (T : RT w p b a L c ips q off m pc fa fn fc) (hL : b.length = L) (hb : By b) (hl : L ≤ 20000) (hm : m ≤ 20000) (ht : ∀ i, i < ips.length → nxN ips i + szA ips i + 4 ≤ L) (bk : ∀ i, i < ips.length → By (kA ips i)) (hk : ∀ i, i < ips.length → isK (kA ips i) = true)
    {X : Nat → Nat} {Q : Nat → Ps} (hLk : ∀ i, i < ips.length → LookR b (nxN ips i) (szA ips i) (kA ips i) (X i) (Q i)) (hQ : ∀ i, i < ips.length → (Q i).length ≤ szA ips i ∧ ∀ j, j < (Q i).length → isK (kA (Q i) j) = true)
    {flt : List Nat} (rf : Rd w (.slice fa fn fc) (bv flt)) (bf : By flt) (lf : flt.length ≤ 1000000) {ua : Option Addr} {ul uc : Nat} {user : List Nat} (ru : Rd w (.slice ua ul uc) (bv user)) (bu : By user) (lu : user.length = ul) (lu2 : ul ≤ 140737488355328) {sq : Nat} (_hsq : sq < 18446744073709551616) :
    Calls Tryz.prog 26 #[.pointer (some ⟨p, 0, none⟩), .slice ua ul uc, .int .u64 (sq : Int)] w fun e w' => GetO w w' flt ips X Q user sq e := by
  have HT := hid T
  have HLK := hid hLk
  have HQ := hid hQ
  have HTT := hid ht
  have HBK := hid bk
  have HKK := hid hk
  have HB := hid hb
  have HL := hid hL
  have HRU := hid ru
  have HBU := hid bu
  have HLU := hid lu
  have hml : Hid (m = ips.length) := hid T.len
  have MC := hid (rmay_c w rf bf (by omega) ru bu (by omega))
  obtain ⟨my, hmy⟩ : ∃ z, z = mayF flt user := ⟨_, rfl⟩
  rw [← hmy] at MC
  have HMY := hid hmy
  have y1 : w.cell? ⟨p, 1, none⟩ = some (.slice (some ⟨q, off, none⟩) m pc) := by rw [blk_cell T.blk]; rfl
  have y2 : w.cell? ⟨p, 2, none⟩ = some (.slice fa fn fc) := by rw [blk_cell T.blk]; rfl
  clear T hLk hQ ht bk hk hb hL ru bu lu rf bf lf hmy
  go_enter Tryz.func26, Tryz.ntmps26
  by_cases hlong : 128 < ul
  · have hlong' : (128 : Int) < (ul : Int) := by omega
    have NO : Hid (GetS flt ips X Q user sq [] 0 false 0) := hid (.inl ⟨.inl (by rw [HLU.out]; exact hlong), ⟨rfl, rfl, rfl⟩, rfl⟩)
    go_wp2
    refine bodyPost_ret (results_tmp4' rfl _ _ _) rfl ?_
    exact GetO.no NO.out (Fr.refl _ _)
  have hlong' : ¬ (128 : Int) < (ul : Int) := by omega
  cases my
  case false =>
    have NO : Hid (GetS flt ips X Q user sq [] 0 false 0) := hid (.inl ⟨.inr HMY.out.symm, ⟨rfl, rfl, rfl⟩, rfl⟩)
    go_wp2_with (go_at_call 68; refine MC.out.mono ?_; rintro e W1 ⟨rfl, f1⟩; have F1 := hid f1; clear f1)
    refine bodyPost_ret (results_tmp4' rfl _ _ _) rfl ?_
    exact GetO.no NO.out F1.out
  obtain ⟨sm, hsm⟩ : ∃ z, z = min sq 72057594037927935 := ⟨_, rfl⟩
  have hmin : (if (72057594037927935 : Int) < (sq : Int) then (72057594037927935 : Int) else (sq : Int)) = (sm : Int) := by split <;> omega
  have hsl : sm ≤ 72057594037927935 := by omega
  obtain ⟨key, hkey⟩ : ∃ k, k = keyL user sm 1 := ⟨_, rfl⟩
  have KC : Hid (∀ W, Fr [] w W → Calls Tryz.prog 69 #[.slice ua ul uc, .int .u64 (sm : Int), .int .i64 1] W fun e w' => ∃ ka kc, e = .returned (.tuple #[.slice ka key.length kc, .int .i64 0]) ∧ Rd w' (.slice ka key.length kc) (bv key) ∧ Fr [] W w') := hid (fun W f => by
    refine (refkey_ok W (HRU.out.fr f) (by rw [HLU.out]; omega) sm 1 hsl (by omega)).mono fun e w' h => ?_
    obtain ⟨v', rfl, o, fr⟩ := h
    obtain ⟨ka, kc, rfl, _⟩ := ownsRow_slice o
    rw [← hkey] at o ⊢
    exact ⟨ka, kc, rfl, Rd.ownN o rfl, fr⟩)
  have HKEY : Hid (key = keyL user (min sq 72057594037927935) 1) := hid (by rw [hkey, hsm])
  have IKY : Hid (isK key = true) := hid (by rw [hkey]; exact keyL_is (by rw [HLU.out]; omega) hsl (by omega))
  have BKY : Hid (By key) := hid (by rw [hkey]; exact keyL_by HBU.out _ _)
  obtain ⟨kn, hkn⟩ : ∃ z, z = key.length := ⟨_, rfl⟩
  rw [← hkn] at KC
  have HKN := hid hkn
  clear hkn hkey hsm
  go_upto_region 3 with (go_at_call 68; refine MC.out.mono ?_; rintro e W1 ⟨rfl, f1⟩; have F1 := hid f1; clear f1)
  clear MC
  go_upto_region 4 with (go_at_call 69; refine (KC.out W1 F1.out).mono ?_; rintro e W2 ⟨ka, kc, rfl, rk, f2⟩; have RK := hid rk; have F2 := hid (F1.out.trans f2); clear rk f2)
  clear KC F1 hmin
  have HSTOP : Hid (∀ I, I ≤ ips.length → (∀ j, j < I → ordK (kA ips j) key < 0) → I = ips.length → GetS flt ips X Q user sq [] 0 false 0) := hid (fun I _ h e => .inr ⟨by rw [HLU.out]; omega, HMY.out.symm, I, by rw [← HKEY.out]; exact h, .inl ⟨e, ⟨rfl, rfl, rfl⟩, rfl⟩⟩)
  have HSEE : Hid (∀ I v kd ok x, I < ips.length → (∀ j, j < I → ordK (kA ips j) key < 0) → 0 ≤ ordK (kA ips I) key → ((X I ≠ 0 ∧ NoV v kd ok ∧ x = X I) ∨ (X I = 0 ∧ x = 0 ∧ ∃ J, (∀ j, j < J → ordK (kA (Q I) j) key < 0) ∧
        ((J = (Q I).length ∧ NoV v kd ok) ∨ (J < (Q I).length ∧ 0 ≤ ordK (kA (Q I) J) key ∧
          ((cmpN (userL (kA (Q I) J)) user ≠ 0 ∧ NoV v kd ok) ∨ (cmpN (userL (kA (Q I) J)) user = 0 ∧ v = vA (Q I) J ∧ kd = tailN (kA (Q I) J) % 256 ∧ ok = true)))))) → GetS flt ips X Q user sq v kd ok x) := hid (fun I v kd ok x h0 h1 h2 h3 => .inr ⟨by rw [HLU.out]; omega, HMY.out.symm, I, by rw [← HKEY.out]; exact h1, .inr ⟨h0, by rw [← HKEY.out]; exact h2, by rw [← HKEY.out]; exact h3⟩⟩)
  clear HMY HKEY y1 y2
  go_wp2_with fail
  go_loopw [12] (fun v12 wr => ∃ i : Nat, v12 = .int .i64 (i : Int) ∧ i ≤ m ∧ (∀ j, j < i → ordK (kA ips j) key < 0) ∧ Fr [] W2 wr) (fun v12 _ => m - (intOf v12).toNat)
  case atStart => exact ⟨0, rfl, by omega, fun j hj => by omega, Fr.refl _ _⟩
  case round =>
    obtain ⟨i, rfl, him, hlo, hfr⟩ := hrel
    have HLO := hid hlo
    have FR := hid (F2.out.trans hfr)
    have RK1 := hid (RK.out.fr hfr)
    have F2R := hid hfr
    clear hlo hfr
    have T1 := HT.out.fr FR.out
    have y1 : wr.cell? ⟨p, 1, none⟩ = some (.slice (some ⟨q, off, none⟩) m pc) := by rw [blk_cell T1.blk]; rfl
    have HT1 := hid T1
    clear T1
    by_cases hi : i < m
    · have hi' : (i : Int) < (m : Int) := by omega
      have HI : Hid (i < ips.length) := hid (by rw [← hml.out]; exact hi)
      obtain ⟨ja, jc, z0, z1, z2, rj⟩ := HT1.out.pts i HI.out
      have OC := hid (order_c wr rj (HBK.out i HI.out) (HKK.out i HI.out) RK1.out BKY.out IKY.out)
      obtain ⟨jl, hjl⟩ : ∃ z, z = (kA ips i).length := ⟨_, rfl⟩
      rw [← hjl] at z0 OC
      obtain ⟨o, ho⟩ : ∃ z, z = ordK (kA ips i) key := ⟨_, rfl⟩
      rw [← ho] at OC
      have HO := hid ho
      clear rj ho hjl z1 z2
      by_cases hneg : o < 0
      · have HL1 : Hid (∀ j, j < i + 1 → ordK (kA ips j) key < 0) := hid (fun j hj => by
          by_cases h : j < i
          · exact HLO.out j h
          · rw [show j = i by omega, ← HO.out]; exact hneg)
        go_wp2_with (go_at_call 70; refine OC.out.mono ?_; rintro e W3 ⟨rfl, f3⟩; have F3 := hid f3; clear f3)
        go_roundw
        case rel => exact ⟨i + 1, by go_num, by omega, HL1.out, F2R.out.trans F3.out⟩
        case measure => simp [intOf]; omega
      · have hpos : Hid (0 ≤ o) := hid (by omega)
        go_upto_region 8 with (go_at_call 70; refine OC.out.mono ?_; rintro e W3 ⟨rfl, f3⟩; have F3 := hid f3; clear f3)
        clear OC hneg
        have LC := hid (rlook_c W3 (HT1.out.fr F3.out) HL.out HB.out (by omega) HI.out (by omega) (HTT.out i HI.out) (HBK.out i HI.out) (HKK.out i HI.out) (HLK.out i HI.out))
        go_upto_region 9 with (go_at_call 71; refine LC.out.mono ?_; rintro e W4 ⟨v4, rfl, co4, f4⟩; obtain ⟨la, lc, hv4⟩ : ∃ la lc, v4 = .slice la (Q i).length lc := (by obtain ⟨cs, oo, _⟩ := co4; obtain ⟨x, y, e, _⟩ := ownsRow_slice oo; exact ⟨x, y, e⟩); subst hv4; have CO4 := hid co4; have F4 := hid (F3.out.trans f4); clear co4 f4)
        clear LC y1 z0
        have FW4 := hid (FR.out.trans F4.out)
        have RK4 := hid (RK1.out.fr F4.out)
        obtain ⟨x, hx⟩ : ∃ z, z = X i := ⟨_, rfl⟩
        have HX := hid hx
        rw [← hx]
        clear hx
        by_cases hx0 : x = 0
        case neg =>
          have hne : ¬ ((x : Int) = 0) := by omega
          have NO : Hid (GetS flt ips X Q user sq [] 0 false x) := hid (HSEE.out i _ _ _ _ HI.out HLO.out (by rw [← HO.out]; exact hpos.out) (.inl ⟨by rw [← HX.out]; exact hx0, ⟨rfl, rfl, rfl⟩, HX.out⟩))
          clear hx0
          go_wp2
          refine bodyPost_ret (results_tmp4' rfl _ _ _) rfl ?_
          exact GetO.no NO.out FW4.out
        have hz : (x : Int) = 0 := by omega
        have HX0 : Hid (X i = 0) := hid (by rw [← HX.out]; exact hx0)
        clear hx0
        obtain ⟨n, hn⟩ : ∃ z, z = (Q i).length := ⟨_, rfl⟩
        have HN := hid hn
        rw [← hn] at CO4 ⊢
        clear hn
        go_upto_region 11 with fail
        clear hz
        have hn6 : n ≤ 20000 := by have := (HQ.out i HI.out).1; have := HTT.out i HI.out; have := HN.out; omega
        go_wp2_with fail
        go_loopw [15] (fun v15 wr => ∃ j : Nat, v15 = .int .i64 (j : Int) ∧ j ≤ n ∧ (∀ k, k < j → ordK (kA (Q i) k) key < 0) ∧ Fr [] W4 wr) (fun v15 _ => n - (intOf v15).toNat)
        case atStart => exact ⟨0, rfl, by omega, fun k hk => by omega, Fr.refl _ _⟩
        case round =>
          obtain ⟨j, rfl, hjn, hlo2, hfr2⟩ := hrel
          have HLO2 := hid hlo2
          have FS := hid hfr2
          clear hlo2 hfr2
          by_cases hj : j < n
          · have hj' : (j : Int) < (n : Int) := by omega
            have HJ : Hid (j < (Q i).length) := hid (by rw [← HN.out]; exact hj)
            obtain ⟨g, ea, ec, va, vc, hla, c0, c1, oo0, oo1, by0, by1, ln0, ln1⟩ := (CO4.out.fr FS.out).atD HJ.out
            subst hla
            have ISJ := hid ((HQ.out i HI.out).2 j HJ.out)
            obtain ⟨gk, ok, hea, hec⟩ : ∃ gk ok, ea = some ⟨gk, ok, none⟩ ∧ (kA (Q i) j).length ≤ ec := by
              rcases (Rd.ownN oo0 rfl).split with ⟨h, _⟩ | ⟨p', off', c', e, hc, _, _⟩
              · exfalso
                obtain ⟨k1, _, _⟩ := isK_len ISJ.out
                rw [h] at k1
                simp at k1
              · simp only [Value.slice.injEq] at e
                exact ⟨p', off', e.1, by rw [e.2.2]; exact hc⟩
            subst hea
            have RKJ := hid (Rd.ownN oo0 rfl)
            have RVJ := hid (Rd.ownN oo1 rfl)
            have BJ := hid by0
            have BV := hid by1
            have LV := hid ln1
            have OC2 := hid (order_c wr RKJ.out by0 ISJ.out (RK4.out.fr FS.out) BKY.out IKY.out)
            have SP : Hid (∀ W, Fr [] wr W → Calls Tryz.prog 72 #[.slice (some ⟨gk, ok, none⟩) (kA (Q i) j).length ec] W fun e w' => e = .returned (.tuple #[.slice (some ⟨gk, ok, none⟩) ((kA (Q i) j).length - 8) ec, .int .u64 ((tailN (kA (Q i) j) / 256 : Nat) : Int), .int .i64 ((tailN (kA (Q i) j) % 256 : Nat) : Int), .int .i64 0]) ∧ w' = W) := hid (fun W f => refsplit_yes W (RKJ.out.fr f) BJ.out hec ISJ.out)
            have BC : Hid (∀ W, Fr [] wr W → Calls Tryz.prog 35 #[.slice (some ⟨gk, ok, none⟩) ((kA (Q i) j).length - 8) ec, .slice ua ul uc] W fun e w' => e = .returned (.int .i64 (cmpN (userL (kA (Q i) j)) user)) ∧ Fr [] W w') := hid (fun W f => refbytes_c ((RKJ.out.fr f).front (q := (kA (Q i) j).length - 8) (by omega)) (HRU.out.fr (FW4.out.trans (FS.out.trans f))) (BJ.out.take _) HBU.out (by unfold userL; rw [List.length_take]; omega) (by rw [HLU.out]; exact lu2))
            obtain ⟨el, hel⟩ : ∃ z, z = (kA (Q i) j).length := ⟨_, rfl⟩
            obtain ⟨e8, he8⟩ : ∃ z, z = (kA (Q i) j).length - 8 := ⟨_, rfl⟩
            obtain ⟨vl, hvl⟩ : ∃ z, z = (vA (Q i) j).length := ⟨_, rfl⟩
            obtain ⟨o2, ho2⟩ : ∃ z, z = ordK (kA (Q i) j) key := ⟨_, rfl⟩
            obtain ⟨t1, ht1⟩ : ∃ z, z = tailN (kA (Q i) j) / 256 := ⟨_, rfl⟩
            obtain ⟨t2, ht2⟩ : ∃ z, z = tailN (kA (Q i) j) % 256 := ⟨_, rfl⟩
            obtain ⟨z, hz⟩ : ∃ z, z = cmpN (userL (kA (Q i) j)) user := ⟨_, rfl⟩
            rw [← he8] at SP BC
            rw [← hel] at c0 OC2 SP
            rw [← hvl] at c1
            rw [← ho2] at OC2
            rw [← ht1, ← ht2] at SP
            rw [← hz] at BC
            have HO2 := hid ho2
            have HT2 := hid ht2
            have HZ := hid hz
            have HVL := hid hvl
            clear oo0 oo1 by0 by1 ln0 ln1 hec hel he8 hvl ho2 ht1 ht2 hz
            by_cases hneg2 : o2 < 0
            · have hn2 : ¬ (0 : Int) ≤ o2 := by omega
              have HL2 : Hid (∀ k, k < j + 1 → ordK (kA (Q i) k) key < 0) := hid (fun k hk => by
                by_cases h : k < j
                · exact HLO2.out k h
                · rw [show k = j by omega, ← HO2.out]; exact hneg2)
              clear SP BC
              go_wp2_with (go_at_call 70; refine OC2.out.mono ?_; rintro e W5 ⟨rfl, f5⟩; have F5 := hid f5; clear f5)
              go_roundw
              case rel => exact ⟨j + 1, by go_num, by omega, HL2.out, FS.out.trans F5.out⟩
              case measure => simp [intOf]; omega
            · have hp2 : (0 : Int) ≤ o2 := by omega
              have HP2 := hid hp2
              have CF : Hid (∀ W, Fr [] wr W → W.cell? ⟨g, j * 2, none⟩ = some (.slice (some ⟨gk, ok, none⟩) el ec) ∧ W.cell? ⟨g, j * 2 + 1, none⟩ = some (.slice va vl vc)) := hid (fun W f => ⟨cell_fr f c0, cell_fr f c1⟩)
              go_upto_region 15 with (go_at_call 70; refine OC2.out.mono ?_; rintro e W5 ⟨rfl, f5⟩; have F5 := hid f5; clear f5)
              clear OC2 c0 c1 hneg2 hp2
              obtain ⟨c0, c1⟩ := CF.out W5 F5.out
              go_upto_region 16 with (go_at_call 72; refine (SP.out W5 F5.out).mono ?_; rintro e W6 ⟨rfl, hw6⟩; have hw7 := hw6.symm; clear hw6; subst hw7)
              clear SP
              have SEE : Hid (∀ v kd ok, ((z ≠ 0 ∧ NoV v kd ok) ∨ (z = 0 ∧ v = vA (Q i) j ∧ kd = t2 ∧ ok = true)) → GetS flt ips X Q user sq v kd ok 0) := hid (fun v kd ok h => HSEE.out i _ _ _ _ HI.out HLO.out (by rw [← HO.out]; exact hpos.out) (.inr ⟨HX0.out, rfl, j, HLO2.out, .inr ⟨HJ.out, by rw [← HO2.out]; exact HP2.out, by rw [← HZ.out, ← HT2.out]; exact h⟩⟩))
              have FW5 := hid (FW4.out.trans (FS.out.trans F5.out))
              by_cases hz0 : z = 0
              case neg =>
                have NO := hid (SEE.out [] 0 false (.inl ⟨hz0, ⟨rfl, rfl, rfl⟩⟩))
                go_wp2_with (go_at_call 35; refine (BC.out W5 F5.out).mono ?_; rintro e W6 ⟨rfl, f6⟩; have F6 := hid f6; clear f6)
                refine bodyPost_ret (results_tmp4' rfl _ _ _) rfl ?_
                exact GetO.no NO.out (FW5.out.trans F6.out)
              have YES := hid (SEE.out (vA (Q i) j) t2 true (.inr ⟨hz0, rfl, rfl, rfl⟩))
              go_wp2_with (go_at_call 35; refine (BC.out W5 F5.out).mono ?_; rintro e W6 ⟨rfl, f6⟩; have F6 := hid f6; obtain ⟨d0, d1⟩ := CF.out W6 (F5.out.trans f6); clear f6)
              refine bodyPost_ret (results_tmp4' rfl _ _ _) rfl ?_
              have r1 := RVJ.out.fr (F5.out.trans F6.out)
              refine ⟨vA (Q i) j, t2, true, 0, va, vc, ?_, r1, BV.out, LV.out, YES.out, FW5.out.trans F6.out⟩
              rw [← HVL.out]
              rfl
          · have hge : ¬ ((j : Int) < (n : Int)) := by omega
            have NO : Hid (GetS flt ips X Q user sq [] 0 false 0) := hid (HSEE.out i _ _ _ _ HI.out HLO.out (by rw [← HO.out]; exact hpos.out) (.inr ⟨HX0.out, rfl, j, HLO2.out, .inl ⟨by rw [← HN.out]; omega, ⟨rfl, rfl, rfl⟩⟩⟩))
            have FW5 := hid (FW4.out.trans FS.out)
            go_wp2
            refine bodyPost_ret (results_tmp4' rfl _ _ _) rfl ?_
            exact GetO.no NO.out FW5.out
    · have hge : ¬ ((i : Int) < (m : Int)) := by omega
      have NO : Hid (GetS flt ips X Q user sq [] 0 false 0) := hid (HSTOP.out i (by rw [← hml.out]; exact him) HLO.out (by rw [← hml.out]; omega))
      go_wp2
      refine bodyPost_ret (results_tmp4' rfl _ _ _) rfl ?_
      exact GetO.no NO.out FR.out
end Go.Proofs.YtnnookkcnmgbfaaGreat
namespace Go.Proofs.YtnnookkcnmgbfaaGreat
open Go.ChangeShapes Go.WideShapes Go.ChangeAt Go.RowKit

theorem wn_take {b : List Nat} {f t n : Nat} (h : t + n ≤ f) : wn (b.take f) t n = wn b t n := by
  unfold wn
  rw [List.drop_take, List.take_take]
  congr 1
  omega
theorem sum_take {b : List Nat} {f t n : Nat} (h : t + n + 4 ≤ f) : SumAt (b.take f) t n ↔ SumAt b t n := by
  unfold SumAt
  rw [wn_take (by omega), wn_take (by omega)]
/-- Looking at a block, its bytes cut off behind it. -/
theorem look_take {b : List Nat} {f t n : Nat} {k : List Nat} {x : Nat} {qs : Ps} (h : t + n + 4 ≤ f) : LookR (b.take f) t n k x qs ↔ LookR b t n k x qs := by
  unfold LookR
  rw [sum_take h, wn_take (by omega)]
/-- Where a search ends. -/
theorem srchD {n : Nat} {P : Nat → Bool} (hm : ∀ i j, i ≤ j → j < n → P i = true → P j = true) : ∃ I, I ≤ n ∧ (I < n → P I = true) ∧ (∀ j, j < I → P j = false) ∧ ∀ k, k ≤ n → (k < n → P k = true) → (0 < k → P (k - 1) = false) → k = I := by
  have ex : ∀ m, ∃ I, I ≤ m ∧ (I < m → P I = true) ∧ ∀ j, j < I → P j = false := by
    intro m
    induction m with
    | zero => exact ⟨0, Nat.le_refl _, fun h => by omega, fun j h => by omega⟩
    | succ m ih =>
      obtain ⟨I, h1, h2, h3⟩ := ih
      by_cases hI : I < m
      · exact ⟨I, by omega, fun _ => h2 hI, h3⟩
      · have e : I = m := by omega
        subst e
        cases hp : P I with
        | true => exact ⟨I, by omega, fun _ => hp, h3⟩
        | false => exact ⟨I + 1, Nat.le_refl _, fun h => by omega, fun j hj => by
            by_cases e : j = I
            · rw [e]; exact hp
            · exact h3 j (by omega)⟩
  obtain ⟨I, h1, h2, h3⟩ := ex n
  refine ⟨I, h1, h2, h3, fun k k1 k2 k3 => ?_⟩
  rcases Nat.lt_trichotomy k I with h | h | h
  · have := h3 k h; rw [k2 (by omega)] at this; cases this
  · exact h
  · have := hm I (k - 1) (by omega) (by omega) (h2 (by omega)); rw [k3 (by omega)] at this; cases this
theorem ord_monoD {qs : Ps} (hr : Rises qs) {key : List Nat} : ∀ i j, i ≤ j → j < qs.length → (!decide (ordK (kA qs i) key < 0)) = true → (!decide (ordK (kA qs j) key < 0)) = true := fun i j hij hj h => by
  by_cases e : i = j
  · rw [← e]; exact h
  · have := rises_ij hr (show i < j by omega) hj
    simp only [Bool.not_eq_true', decide_eq_false_iff_not] at h ⊢
    exact fun h2 => h (ord_lt this h2)
/-- What Get answers of the program's table, in memory. -/
def GetT (w w' : World) (flt : List Nat) (ips : Ps) (X : Nat → Nat) (Q : Nat → Ps) (user : List Nat) (sq : Nat) (e : Ending) : Prop :=
  ∃ (v : List Nat) (kd : Nat) (ok : Bool) (x : Nat) (va : Option Addr) (vc : Nat), e = .returned (.tuple #[.slice va v.length vc, .int .i64 (kd : Int), .bool ok, .int .i64 (x : Int)]) ∧ Rd w' (.slice va v.length vc) (bv v) ∧ GetS flt ips X Q user sq v kd ok x ∧ Fr [] w w'
theorem GetT.no {w w' : World} {flt : List Nat} {ips : Ps} {X : Nat → Nat} {Q : Nat → Ps} {user : List Nat} {sq x : Nat} {e : Ending} (h : GetS flt ips X Q user sq [] 0 false x) (he : e = .returned (.tuple #[.slice none 0 0, .int .i64 0, .bool false, .int .i64 (x : Int)]) ∧ Fr [] w w') : GetT w w' flt ips X Q user sq e :=
  ⟨[], 0, false, x, none, 0, he.1, .inl ⟨rfl, rfl⟩, h, he.2⟩
theorem tget_c (w : World) {p : Nat} {dat flt : List Nat} {ips : Ps} {da fa : Option Addr} {dc fc G : Nat} (T : Tab w p dat flt ips da dc fa fc G) (ri : Rises ips) (bi : ByP ips) (li : ips.length ≤ 20000) (bd : By dat) (ld : dat.length ≤ 20000) (bf : By flt) (lf : flt.length ≤ 1000000) (hsp : ∀ i, i < ips.length → nxN ips i + szA ips i + 4 ≤ dat.length)
    {X : Nat → Nat} {Q : Nat → Ps} (hLk : ∀ i, i < ips.length → LookR dat (nxN ips i) (szA ips i) (kA ips i) (X i) (Q i)) {user : List Nat} (bu : By user) {uv : Value} (ru : Rd w uv (bv user)) {sq : Nat} :
    Calls Tryz.prog 15 #[.pointer (some ⟨p, 0, none⟩), uv, .int .u64 (sq : Int)] w fun e w' => GetT w w' flt ips X Q user sq e := by
  by_cases hu : 128 < user.length
  · exact (get_long w hu ru).mono fun e w' h => GetT.no (x := 0) (.inl ⟨.inl hu, ⟨rfl, rfl, rfl⟩, rfl⟩) h
  have lu : user.length ≤ 128 := by omega
  cases hmay : mayF flt user with
  | false =>
    have no : GetS flt ips X Q user sq [] 0 false 0 := .inl ⟨.inr hmay, ⟨rfl, rfl, rfl⟩, rfl⟩
    by_cases hq : sq ≤ 72057594037927935
    · exact (get_nomay w T hq bf (by omega) bu lu hmay ru).mono fun e w' h => GetT.no no h
    · exact (get_nomayG w T (by omega) bf (by omega) bu lu hmay ru).mono fun e w' h => GetT.no no h
  | true =>
    obtain ⟨s', hs'⟩ : ∃ s', s' = min sq 72057594037927935 := ⟨_, rfl⟩
    have hsl : s' ≤ 72057594037927935 := by omega
    obtain ⟨I, i1, i2, i3, i4⟩ := srchD (ord_monoD ri (key := keyL user s' 1))
    have lo : ∀ j, j < I → ordK (kA ips j) (keyL user s' 1) < 0 := fun j hj => by simpa using i3 j hj
    by_cases hIn : I = ips.length
    · have no : GetS flt ips X Q user sq [] 0 false 0 := .inr ⟨lu, hmay, I, by rw [← hs']; exact lo, .inl ⟨hIn, ⟨rfl, rfl, rfl⟩, rfl⟩⟩
      rw [hIn] at i4
      by_cases hq : sq ≤ 72057594037927935
      · have e : s' = sq := by omega
        rw [e] at i4
        exact (get_end w T hq bf (by omega) bu lu hmay ri bi (by omega) i4 ru).mono fun e w' h => GetT.no no h
      · have e : s' = 72057594037927935 := by omega
        rw [e] at i4
        exact (get_endG w T (by omega) bf (by omega) bu lu hmay ri bi (by omega) i4 ru).mono fun e w' h => GetT.no no h
    · have hi : I < ips.length := by omega
      have hge : 0 ≤ ordK (kA ips I) (keyL user s' 1) := by have := i2 hi; simp at this; omega
      have see : ∀ v kd ok x, ((X I ≠ 0 ∧ NoV v kd ok ∧ x = X I) ∨ (X I = 0 ∧ x = 0 ∧ ∃ J, (∀ j, j < J → ordK (kA (Q I) j) (keyL user s' 1) < 0) ∧
        ((J = (Q I).length ∧ NoV v kd ok) ∨ (J < (Q I).length ∧ 0 ≤ ordK (kA (Q I) J) (keyL user s' 1) ∧
          ((cmpN (userL (kA (Q I) J)) user ≠ 0 ∧ NoV v kd ok) ∨ (cmpN (userL (kA (Q I) J)) user = 0 ∧ v = vA (Q I) J ∧ kd = tailN (kA (Q I) J) % 256 ∧ ok = true)))))) → GetS flt ips X Q user sq v kd ok x := fun v kd ok x h => .inr ⟨lu, hmay, I, by rw [← hs']; exact lo, .inr ⟨hi, by rw [← hs']; exact hge, by rw [← hs']; exact h⟩⟩
      have lk := hLk I hi
      have ht := hsp I hi
      by_cases hx : X I = 0
      · rcases id lk with ⟨h, _⟩ | ⟨h, _⟩ | ⟨_, hsm, ⟨r, hB⟩, hne, hla⟩
        · omega
        · omega
        obtain ⟨J, j1, j2, j3, j4⟩ := srchD (ord_monoD hB.1 (key := keyL user s' 1))
        have hql := List.length_pos_iff.2 hne
        have hJ : J < (Q I).length := by
          rcases Nat.lt_or_ge J (Q I).length with h | h
          · exact h
          · have h3 := j3 ((Q I).length - 1) (by omega)
            have h4 := i2 hi
            rw [show kA (Q I) ((Q I).length - 1) = lastK (Q I) from rfl, hla, h4] at h3
            cases h3
        have lo2 : ∀ j, j < J → ordK (kA (Q I) j) (keyL user s' 1) < 0 := fun j hj => by simpa using j3 j hj
        have hge2 : 0 ≤ ordK (kA (Q I) J) (keyL user s' 1) := by have := j2 hJ; simp at this; omega
        by_cases hus : userL (kA (Q I) J) = user
        · have yes : GetS flt ips X Q user sq (vA (Q I) J) (tailN (kA (Q I) J) % 256) true 0 := see _ _ _ _ (.inr ⟨hx, rfl, J, lo2, .inr ⟨hJ, hge2, .inr ⟨by rw [hus]; exact (cmpN_eq _ _).2 rfl, rfl, rfl, rfl⟩⟩⟩)
          have fin : ∀ e w', (∃ vv, e = Ending.returned (.tuple #[vv, .int .i64 ((tailN (kA (Q I) J) % 256 : Nat) : Int), .bool true, .int .i64 0]) ∧ Rd w' vv (bv (vA (Q I) J)) ∧ Fr [] w w') → GetT w w' flt ips X Q user sq e := fun e w' ⟨vv, e1, r1, f1⟩ => by
            obtain ⟨va, vc, hv⟩ := r1.form
            rw [bv_len] at hv
            subst hv
            exact ⟨_, _, _, _, va, vc, e1, r1, yes, f1⟩
          by_cases hq : sq ≤ 72057594037927935
          · have e : s' = sq := by omega
            subst e
            exact (get_found w T (I := I) (J := J) (qs := Q I) (r := r) ⟨bd, by omega, bf, by omega, ri, bi, by omega, bu, lu, hsl, hmay, i4, hi, ht, hsm, hB, hne, hla, j4, hJ, hus⟩ ru).mono fin
          · have e : s' = 72057594037927935 := by omega
            rw [e] at i4 j4
            exact (get_foundG w T (by omega) (I := I) (J := J) (qs := Q I) (r := r) ⟨bd, by omega, bf, by omega, ri, bi, by omega, bu, lu, by omega, hmay, i4, hi, ht, hsm, hB, hne, hla, j4, hJ, hus⟩ ru).mono fin
        · have no : GetS flt ips X Q user sq [] 0 false 0 := see _ _ _ _ (.inr ⟨hx, rfl, J, lo2, .inr ⟨hJ, hge2, .inl ⟨fun h => hus ((cmpN_eq _ _).1 h), ⟨rfl, rfl, rfl⟩⟩⟩⟩)
          by_cases hq : sq ≤ 72057594037927935
          · have e : s' = sq := by omega
            subst e
            exact (get_other w T (I := I) (J := J) (qs := Q I) (r := r) ⟨bd, by omega, bf, by omega, ri, bi, by omega, bu, lu, hsl, hmay, i4, hi, ht, hsm, hB, hne, hla, j4, hJ, hus⟩ ru).mono fun e w' h => GetT.no no h
          · have e : s' = 72057594037927935 := by omega
            rw [e] at i4 j4
            exact (get_otherG w T (by omega) (I := I) (J := J) (qs := Q I) (r := r) ⟨bd, by omega, bf, by omega, ri, bi, by omega, bu, lu, by omega, hmay, i4, hi, ht, hsm, hB, hne, hla, j4, hJ, hus⟩ ru).mono fun e w' h => GetT.no no h
      · have no : GetS flt ips X Q user sq [] 0 false (X I) := see _ _ _ _ (.inl ⟨hx, ⟨rfl, rfl, rfl⟩, rfl⟩)
        by_cases hq : sq ≤ 72057594037927935
        · have e : s' = sq := by omega
          rw [e] at i4
          exact (get_fault w T hq bf (by omega) bu lu hmay ri bi (by omega) bd (by omega) i4 hi ht hx lk ru).mono fun e w' h => GetT.no no h
        · have e : s' = 72057594037927935 := by omega
          rw [e] at i4
          exact (get_faultG w T (by omega) bf (by omega) bu lu hmay ri bi (by omega) bd (by omega) i4 hi ht hx lk ru).mono fun e w' h => GetT.no no h
end Go.Proofs.YtnnookkcnmgbfaaGreat
