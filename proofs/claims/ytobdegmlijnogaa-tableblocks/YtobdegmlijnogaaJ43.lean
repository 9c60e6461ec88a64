/-
  What was built is opened; what the statements know.
-/
import Derived.Test.YtobdegmlijnogaaXF
import Derived.Test.YtobdegmlijnogaaXQ
import Derived.Test.YtobdegmlijnogaaJ29
import Derived.Test.YtobdegmlijnogaaJ04
namespace Go.Proofs.Ytobdegmlijnogaa
open Go.ChangeShapes Go.WideShapes Go.ChangeAt Go.RowKit

theorem chs_ne {most : Nat} {ps : Ps} (h : ps ≠ []) : chs most ps ≠ [] := by rw [chs_cons h]; simp
/-- What was built is opened as what it was built from. -/
structure TOp (r most bits : Nat) (ps : Ps) : Prop where
  op : Opn (tblL r most bits ps) (idxF r 0 (chs most ps)) 1
  dat : (tblL r most bits ps).take (fAt (tblL r most bits ps)) = datL r (chs most ps)
  flt : wn (tblL r most bits ps) (fAt (tblL r most bits ps)) (fSz (tblL r most bits ps)) = fltL bits (usN ps ps.length)
  len : (tblL r most bits ps).length ≤ 1000000000
  l44 : 44 ≤ (tblL r most bits ps).length
theorem tbl_open {r most bits : Nat} {ps : Ps} (hl : Lim ps) (hr : Rises ps) (hb : ByP ps) (h0 : ps ≠ []) (hbits : bits ≤ 64) : TOp r most bits ps := by
  have hf := chs_flat most ps
  have hD := hl.dat r most
  have hI := hl.idx hr r most
  have hn := hl.n
  have hri := idx_rises (r := r) (t := 0) hf.2 (by rw [hf.1]; exact hr)
  have hbi := idx_by (r := r) _ 0 (by rw [hf.1]; exact hb) hf.2
  have hF := fltL_bd (bits := bits) (rs := usN ps ps.length) hbits (by have := usN_len ps ps.length; omega)
  have hX := (blk_len_le (ps := idxF r 0 (chs most ps)) (r := 1) (by omega)).2
  have L := lay_open (d := datL r (chs most ps)) (f := fltL bits (usN ps ps.length)) (x := blk 1 (idxF r 0 (chs most ps))) (datL_by (by rw [hf.1]; exact hb)) (fltL_by _ _) (blk_by hbi 1) (by omega) (by omega) (by omega)
  have hlen := layL_len (datL r (chs most ps)) (fltL bits (usN ps ps.length)) (blk 1 (idxF r 0 (chs most ps)))
  refine ⟨⟨L.foot, L.sum, L.plc, L.isum, L.fsum, ?_, ?_⟩, L.dat, L.flt, ?_, ?_⟩
  · have e : Blk (blk 1 (idxF r 0 (chs most ps))) (idxF r 0 (chs most ps)) 1 := ⟨hri, by omega, by omega, rfl⟩
    have e2 := L.idx
    rw [← e2] at e
    have e3 : blk 1 (idxF r 0 (chs most ps)) = wn (tblL r most bits ps) (iAt (tblL r most bits ps)) (iSz (tblL r most bits ps)) := e2.symm
    rw [← e3]
    exact ⟨hri, by omega, by omega, rfl⟩
  · have e := L.fa
    have e3 : fAt (tblL r most bits ps) = (datL r (chs most ps)).length := e
    rw [e3]
    exact idx_spans (chs_ne h0) (by omega)
  · show (layL _ _ _).length ≤ _
    rw [hlen]; omega
  · show 44 ≤ (layL _ _ _).length
    rw [hlen]; omega
theorem lim0 : Lim ps0 := ⟨by simp [ps0], by simp [ps0, tot, kA, vA, keyL_len]⟩
theorem ps0_ne : ps0 ≠ [] := by simp [ps0]
theorem chs0 : chs 16 ps0 = [ps0] := by
  have h1 := fil_pos (most := 16) ps0_ne
  have h2 := fil_le 16 ps0
  have h3 : ps0.length = 1 := rfl
  have h4 : fil 16 ps0 = 1 := by omega
  rw [chs_cons ps0_ne, h4]; rfl
theorem idx0 : kA (idxF 1 0 [ps0]) 0 = keyL [97] 1 1 ∧ (idxF 1 0 [ps0]).length = 1 := ⟨rfl, rfl⟩
theorem us0 : usN ps0 1 = [[97]] := by
  show (if (usN ps0 0).getLast? = some (userL (kA ps0 0)) then usN ps0 0 else usN ps0 0 ++ [userL (kA ps0 0)]) = _
  rw [show usN ps0 0 = [] from rfl, if_neg (by simp), show kA ps0 0 = keyL [97] 1 1 from rfl, keyL_user]; rfl
theorem ord0 : ordK (keyL [97] 1 1) (keyL [97] 5 1) = 1 := by
  rw [ordK_key _ _ (by omega) (by omega) (by omega)]
  exact ordP_s2 (x := 0) (by decide) rfl (by omega)
theorem fnd0 : Fnd (datL 1 [ps0]) (fltL 10 (usN ps0 1)) (idxF 1 0 [ps0]) ps0 [97] 5 0 0 1 := by
  have hf := chs_flat 16 ps0
  rw [chs0] at hf
  have hby : ByP [ps0].flatten := by rw [hf.1]; exact by0
  have hri : Rises [ps0].flatten := by rw [hf.1]; exact ps0_rises
  have hld : (datL 1 [ps0]).length ≤ 142000000 := by have := (lim0.dat 1 16).1; rw [chs0] at this; exact this
  have h0 : [ps0][0]? = some ps0 := rfl
  have lk := idx_look (r := 1) (D := [ps0]) hby (by omega) h0
  have hnx := idx_nx (r := 1) (D := [ps0]) (by omega) 0 (by simp)
  have hsz := idx_sz (r := 1) (D := [ps0]) (by omega) h0
  have hle := dat_le (r := 1) (D := [ps0]) h0
  have one : ∀ (P : Nat → Bool), P 0 = true → ∀ k, k ≤ 1 → (k < 1 → P k = true) → (0 < k → P (k - 1) = false) → k = 0 := fun P h k hk _ h2 => by
    rcases Nat.lt_or_ge 0 k with h' | h'
    · have e : k = 1 := by omega
      have := h2 h'
      rw [e, show 1 - 1 = 0 from rfl, h] at this; cases this
    · omega
  have hp : (!decide (ordK (keyL [97] 1 1) (keyL [97] 5 1) < 0)) = true := by rw [ord0]; rfl
  refine ⟨datL_by hby, by omega, fltL_by _ _, ?_, idx_rises hf.2 hri, idx_by _ _ hby hf.2, by rw [idx0.2]; omega, by unfold By; decide, by simp, by omega, ?_, ?_, by rw [idx0.2]; omega, ?_, lk.1, ?_, ps0_ne, rfl, ?_, by simp [ps0], ?_⟩
  · have := fltL_bd (bits := 10) (rs := usN ps0 1) (by omega) (by rw [us0]; simp)
    omega
  · rw [us0]
    exact may_flt (bits := 10) (rs := [[97]]) (i := 0) (by simp)
  · exact one (fun k => !decide (ordK (kA (idxF 1 0 [ps0]) k) (keyL [97] 5 1) < 0)) hp
  · rw [hnx, hsz]; exact hle
  · rw [lk.2]; exact ⟨ps0_rises, by omega, by omega, rfl⟩
  · exact one (fun k => !decide (ordK (kA ps0 k) (keyL [97] 5 1) < 0)) hp
  · show userL (keyL [97] 1 1) = _
    exact keyL_user _ _ _
theorem rd_x (w : World) (x : Nat) : Rd (w.alloc (.cells #[.int .u8 (x : Int)] 5 (1, 2))) (.slice (some ⟨w.heap.size, 0, none⟩) 1 1) (bv [x]) := rd_mark w x
set_option maxRecDepth 20000 in
set_option maxHeartbeats 6400000 in
theorem known8_c (w : World) : Calls Try.prog 7 #[] w fun e w' => e = .returned (.bool true) ∧ Fr [] w w' := by
  have kc := fun (w : World) (C : Array Value) (n c : Nat) => Lib.run_convert_bytes_const (P := Try.prog) w 27 5 C n c Try.underlying27 Try.underlying5
  go_enter Try.func7, Try.ntmps7
  go_wp2_with fail
  refine (key_ok _ (rd_mark w 97) (by simp) 1 1 (by omega) (by omega)).mono ?_
  rintro e w1 ⟨kv, rfl, o1, f1⟩
  obtain ⟨ka, kcp, rfl, hkc⟩ := ownsRow_slice o1
  have O1 := hid o1
  have F1 := hid (((Fr.refl [] w).alloc (.cells #[.int .u8 97] 5 (1, 2))).trans f1)
  have hkl : (keyL [97] 1 1).length = 9 := keyL_len _ _ _
  rw [hkl] at hkc ⊢
  clear o1 f1
  obtain ⟨W2, hW2⟩ : ∃ W, W = (w1.alloc (.cells #[.int .u8 120] 5 (1, 2))).alloc (.cells #[.slice ka 9 kcp, .slice (some ⟨w1.heap.size, 0, none⟩) 1 1] 41) := ⟨_, rfl⟩
  have F12 : Fr [] w1 W2 := by rw [hW2]; exact ((Fr.refl _ _).alloc _).alloc _
  have X2 : W2.heap[w1.heap.size + 1]? = some (.cells #[.slice ka 9 kcp, .slice (some ⟨w1.heap.size, 0, none⟩) 1 1] 41 (0, 0)) := by rw [hW2]; exact new_at _ _ (by simp)
  have RX : Rd W2 (.slice (some ⟨w1.heap.size, 0, none⟩) 1 1) (bv [120]) := by rw [hW2]; exact (rd_mark w1 120).fr ((Fr.refl _ _).alloc _)
  have RKK : RdK W2 (.slice (some ⟨w1.heap.size + 1, 0, none⟩) 1 1) ps0 := by
    refine ⟨_, _, rfl, Nat.le_refl _, fun _ => ⟨_, _, rfl, fun j p hj => ?_⟩⟩
    have h0 : j = 0 := by
      rcases Nat.lt_or_ge j 1 with h | h
      · omega
      · rw [List.getElem?_eq_none (show ps0.length ≤ j from h)] at hj; cases hj
    subst h0
    have hp : (keyL [97] 1 1, [120]) = p := by simpa [ps0] using hj
    subst hp
    refine ⟨ka, kcp, some ⟨w1.heap.size, 0, none⟩, 1, ?_, ?_, ?_, RX, keyL_by (by unfold By; decide) 1 1, by unfold By; decide, by dsimp only; rw [hkl]; omega, by simp⟩
    · dsimp only; rw [blk_cell X2, hkl]; rfl
    · dsimp only; rw [blk_cell X2]; rfl
    · exact (Rd.ownB O1.out).fr F12
  have TO := tbl_open (r := 1) (most := 16) (bits := 10) lim0 ps0_rises by0 ps0_ne (by omega)
  have BO := hid (tbuild_ok W2 RKK lim0 ps0_ne 16 1 10 16 ⟨by omega, by omega, by omega, by omega, by omega, by omega, by omega, by omega⟩ ps0_rises)
  have hby := tblL_by (r := 1) (most := 16) (bits := 10) by0
  have F2 := hid (F1.out.trans F12)
  have HTO := hid TO
  have HBY := hid hby
  clear F12 X2 RX RKK O1 TO hby
  generalize htb : tblL 1 16 10 ps0 = tb at *
  have HTB := hid htb
  clear htb
  go_wp2_with fail
  rw [← hW2]
  clear hW2
  refine BO.out.mono ?_
  rintro e W3 ⟨bvv, rfl, o3, f3⟩
  rcases o3.2 with ⟨e, h0⟩ | ⟨g, cap, cur, e, _⟩
  · have := HTO.out.l44; rw [HTB.out] at this; omega
  subst e
  have F3 := hid (F2.out.trans f3)
  have OP : Hid _ := hid (open_ok W3 (Rd.ownB o3) HBY.out (by have := HTO.out.len; rw [HTB.out] at this; exact this) (by have := HTO.out.op; rw [HTB.out] at this; exact this))
  have OO := hid (Rd.ownB o3)
  clear o3 f3 BO
  go_wp2_with fail
  refine OP.out.mono ?_
  rintro e W4 ⟨p, da, dc, fa, fc, G, rfl, tab, f4⟩
  have hd := HTO.out.dat
  have hfl := HTO.out.flt
  rw [HTB.out] at hd hfl
  rw [hd, hfl, chs0, show ps0.length = 1 from rfl] at tab
  have F4 := hid (F3.out.trans f4)
  have TB := hid tab
  have RU : Hid (Rd (W4.alloc (.cells #[.int .u8 97] 5 (1, 2))) (.slice (some ⟨W4.heap.size, 0, none⟩) 1 1) (bv [97])) := hid (rd_mark W4 97)
  have FA : Hid (Fr [] W4 (W4.alloc (.cells #[.int .u8 97] 5 (1, 2)))) := hid ((Fr.refl _ _).alloc _)
  have GF := hid (get_found _ (TB.out.fr FA.out) fnd0 RU.out)
  have e1 : kA ps0 0 = keyL [97] 1 1 := rfl
  have e2 : vA ps0 0 = [120] := rfl
  rw [e1, e2, keyL_tail [97] (by omega) (by omega)] at GF
  clear tab f4 hd hfl OP OO e1 e2
  go_wp2_with fail
  refine GF.out.mono ?_
  rintro e W5 ⟨vv, rfl, rv, f5⟩
  have F5 := hid ((F4.out.trans FA.out).trans f5)
  have BC := hid (blocks_c W5 ((TB.out.fr FA.out).fr f5))
  rw [idx0.2] at BC
  have cv := run_conv rv
  have hs : strOf [120] = ⟨#[120]⟩ := by decide
  rw [hs] at cv
  obtain ⟨va, vc, hvv⟩ := rv.form
  subst hvv
  have hbeq := ba_beq (⟨#[120]⟩ : ByteArray)
  clear rv f5 GF
  go_wp2_with (go_at_call 20; refine BC.out.mono ?_; rintro e wb ⟨rfl, h⟩; rw [h]; clear h)
  go_ret
  exact ⟨rfl, F5.out⟩
end Go.Proofs.Ytobdegmlijnogaa
namespace Go.Proofs.Ytobdegmlijnogaa
open Go.ChangeShapes Go.WideShapes Go.ChangeAt Go.RowKit

theorem results_tmp4' {fn : Func} {p q r s : Tmp} (h : fn.results = #[.tmp p, .tmp q, .tmp r, .tmp s]) (tmps : Array Value) (P : Program) (w : World) :
    (results fn tmps).run P w = .ok (.tuple #[tmps.getD p undef, tmps.getD q undef, tmps.getD r undef, tmps.getD s undef]) w := by
  simp only [results, h]
  simp

theorem take8 (b : List Nat) : (b.drop (b.length - 8)).take 8 = b.drop (b.length - 8) := List.take_of_length_le (by rw [List.length_drop]; omega)

set_option maxRecDepth 20000 in
set_option maxHeartbeats 800000 in
theorem refsplit_no (w : World) {v : Value} {b : List Nat} (hr : Rd w v (bv b)) (hb : By b) (hl : b.length ≤ 140737488355328) (h : isK b = false) :
    Calls Try.prog 38 #[v] w fun e w' => e = .returned (.tuple #[.slice none 0 0, .int .u64 0, .int .i64 0, .int .i64 23]) ∧ w' = w := by
  rcases (show b.length < 8 ∨ 136 < b.length ∨ (8 ≤ b.length ∧ b.length ≤ 136) from by omega) with q1 | q1 | ⟨q1, q2⟩
  · obtain ⟨a, c, hv⟩ := hr.form
    rw [bv_len] at hv
    subst hv
    clear hr hb h
    go_enter Try.func38, Try.ntmps38
    go_wp2
    exact bodyPost_ret (results_tmp4' rfl _ _ _) rfl ⟨rfl, rfl⟩
  · obtain ⟨a, c, hv⟩ := hr.form
    rw [bv_len] at hv
    subst hv
    clear hr hb h
    go_enter Try.func38, Try.ntmps38
    go_wp2
    exact bodyPost_ret (results_tmp4' rfl _ _ _) rfl ⟨rfl, rfl⟩
  · obtain ⟨qq, off, c, hv, h1⟩ := hr.place (by omega)
    subst hv
    have hf := refunfixed_c hr hb (b.length - 8) 8 (by omega) (by omega) hl
    rw [take8, show unf (b.drop (b.length - 8)) = tailN b from rfl, show ((b.length - 8 : Nat) : Int) = (b.length : Int) - 8 from by omega] at hf
    have ht1 := tailN_lt hb q1
    have ht2 : 1 < tailN b % 256 := by
      unfold isK at h
      rw [decide_eq_true q1, decide_eq_true q2, Bool.true_and, Bool.true_and, decide_eq_false_iff_not] at h
      have : ¬ tailN b % 256 ≤ 1 := h
      omega
    generalize tailN b = t at hf ht1 ht2
    have HF := hid hf
    clear hr hb h hf
    go_enter Try.func38, Try.ntmps38
    go_wp2_with fail
    refine HF.out.mono ?_
    rintro e w1 ⟨rfl, rfl⟩
    go_wp2
    exact bodyPost_ret (results_tmp4' rfl _ _ _) rfl ⟨rfl, rfl⟩

set_option maxRecDepth 20000 in
set_option maxHeartbeats 800000 in
theorem refsplit_yes (w : World) {q off c : Nat} {b : List Nat} (hr : Rd w (.slice (some ⟨q, off, none⟩) b.length c) (bv b)) (hb : By b) (h1 : b.length ≤ c) (h : isK b = true) :
    Calls Try.prog 38 #[.slice (some ⟨q, off, none⟩) b.length c] w fun e w' => e = .returned (.tuple #[.slice (some ⟨q, off, none⟩) (b.length - 8) c, .int .u64 ((tailN b / 256 : Nat) : Int), .int .i64 ((tailN b % 256 : Nat) : Int), .int .i64 0]) ∧ w' = w := by
  obtain ⟨k1, k2, k3⟩ := isK_len h
  have hf := refunfixed_c hr hb (b.length - 8) 8 (by omega) (by omega) (by omega)
  rw [take8, show unf (b.drop (b.length - 8)) = tailN b from rfl, show ((b.length - 8 : Nat) : Int) = (b.length : Int) - 8 from by omega] at hf
  have ht1 := tailN_lt hb k1
  generalize tailN b = t at hf ht1 k3 ⊢
  have HF := hid hf
  clear hr hb h hf
  go_enter Try.func38, Try.ntmps38
  go_wp2_with fail
  refine HF.out.mono ?_
  rintro e w1 ⟨rfl, rfl⟩
  go_wp2
  refine bodyPost_ret (results_tmp4' rfl _ _ _) rfl ⟨?_, rfl⟩
  rw [show ((t / 256 : Nat) : Int) = (t : Int) / 256 from by omega, show ((t % 256 : Nat) : Int) = (t : Int) % 256 from by omega]
  rfl
end Go.Proofs.Ytobdegmlijnogaa
namespace Go.Proofs.Ytobdegmlijnogaa
open Go.ChangeShapes Go.WideShapes Go.ChangeAt Go.RowKit

set_option maxRecDepth 20000 in
set_option maxHeartbeats 1600000 in
theorem refbytes_c {w : World} {v1 v2 : Value} {a b : List Nat} (h1 : Rd w v1 (bv a)) (h2 : Rd w v2 (bv b)) (ha : By a) (hb : By b) (hl1 : a.length ≤ 140737488355328) (hl2 : b.length ≤ 140737488355328) :
    Calls Try.prog 17 #[v1, v2] w fun e w' => e = .returned (.int .i64 (cmpN a b)) ∧ Fr [] w w' := by
  have hlo : a = [] ∨ b = [] ∨ (0 < a.length ∧ 0 < b.length) := by
    cases a with
    | nil => exact .inl rfl
    | cons => cases b with
      | nil => exact .inr (.inl rfl)
      | cons => exact .inr (.inr (by simp))
  rcases hlo with rfl | rfl | ⟨p1, p2⟩
  · obtain ⟨a1, c1, hv1⟩ := h1.form
    obtain ⟨a2, c2, hv2⟩ := h2.form
    rw [bv_len] at hv1 hv2
    subst hv1
    subst hv2
    clear h1 h2 ha hb
    cases b with
    | nil =>
      go_enter Try.func17, Try.ntmps17
      go_wp2
      refine wp_loop_rounds 1 ?_
      rw [rounds_succ]
      go_wp2
      go_ret
      exact ⟨rfl, Fr.refl _ _⟩
    | cons y b =>
      have hc : cmpN [] (y :: b) = -1 := rfl
      rw [hc]
      have hp : 0 < (y :: b).length := by simp
      generalize (y :: b).length = n at *
      go_enter Try.func17, Try.ntmps17
      go_wp2
      refine wp_loop_rounds 1 ?_
      rw [rounds_succ]
      go_wp2
      go_ret
      exact ⟨rfl, Fr.refl _ _⟩
  · obtain ⟨a1, c1, hv1⟩ := h1.form
    obtain ⟨a2, c2, hv2⟩ := h2.form
    rw [bv_len] at hv1 hv2
    subst hv1
    subst hv2
    clear h1 h2 ha hb
    cases a with
    | nil =>
      go_enter Try.func17, Try.ntmps17
      go_wp2
      refine wp_loop_rounds 1 ?_
      rw [rounds_succ]
      go_wp2
      go_ret
      exact ⟨rfl, Fr.refl _ _⟩
    | cons y a =>
      have hc : cmpN (y :: a) [] = 1 := rfl
      rw [hc]
      have hp : 0 < (y :: a).length := by simp
      generalize (y :: a).length = n at *
      go_enter Try.func17, Try.ntmps17
      go_wp2
      refine wp_loop_rounds 1 ?_
      rw [rounds_succ]
      go_wp2
      go_ret
      exact ⟨rfl, Fr.refl _ _⟩
  · rcases h1.split with ⟨rfl, _⟩ | ⟨q, off, c, rfl, g1, _, hc⟩
    · simp at p1
    rcases h2.split with ⟨rfl, _⟩ | ⟨q2, off2, c2, rfl, g2, _, hc2⟩
    · simp at p2
    have HC := hid hc
    have HC2 := hid hc2
    clear h1 h2 ha hb hc hc2
    go_enter Try.func17, Try.ntmps17
    go_wp2
    go_loopw [5] (fun v5 wr => ∃ i : Nat, i ≤ a.length ∧ i ≤ b.length ∧ v5 = .int .i64 (i : Int) ∧ cmpN (a.drop i) (b.drop i) = cmpN a b ∧ Fr [] w wr) (fun v5 _ => a.length - (intOf v5).toNat)
    case atStart => exact ⟨0, by omega, by omega, rfl, rfl, Fr.refl _ _⟩
    case round =>
      obtain ⟨i, hi1, hi2, rfl, hcm, hf⟩ := hrel
      have HCM := hid hcm
      have HF := hid hf
      clear hcm hf
      by_cases hlt : i < a.length
      · by_cases hlt2 : i < b.length
        · obtain ⟨x, hx, hd⟩ := drop_at hlt
          obtain ⟨y, hy, hd2⟩ := drop_at hlt2
          have k1 : wr.cell? ⟨q, off + i, none⟩ = some (.int .u8 (x : Int)) := by
            have h6 := HC.out i x hx
            rw [World.cell?_of_block (w := w) (HF.out.block _ (World.block_lt_of_cell? w _ h6) (by simp))]; exact h6
          have k2 : wr.cell? ⟨q2, off2 + i, none⟩ = some (.int .u8 (y : Int)) := by
            have h6 := HC2.out i y hy
            rw [World.cell?_of_block (w := w) (HF.out.block _ (World.block_lt_of_cell? w _ h6) (by simp))]; exact h6
          have j1 : (i : Int) < (a.length : Int) := by omega
          have j2 : (i : Int) < (b.length : Int) := by omega
          have HD := hid hd
          have HD2 := hid hd2
          clear hd hd2 hx hy
          rcases Nat.lt_trichotomy x y with hxy | hxy | hxy
          · have e0 : ((x : Int) == (y : Int)) = false := by simp; omega
            have e1 : (x : Int) < (y : Int) := by omega
            have HR : Hid (cmpN a b = -1) := by unfold Hid; rw [← HCM.out, HD.out, HD2.out, cmpN, if_pos hxy]
            clear hxy
            go_wp2_with fail
            go_quiet (fail)
            go_wp2_with fail
            go_quiet (fail)
            go_wp2
            go_ret
            exact ⟨by rw [HR.out]; rfl, (HF.out.drewN _).drewN _⟩
          · have e0 : ((x : Int) == (y : Int)) = true := by simp; omega
            have HR : Hid (cmpN (a.drop (i + 1)) (b.drop (i + 1)) = cmpN a b) := by unfold Hid; rw [← HCM.out, HD.out, HD2.out, cmpN, if_neg (by omega), if_neg (by omega)]
            clear hxy
            go_wp2_with fail
            go_quiet (fail)
            go_wp2
            go_roundw
            case rel => exact ⟨i + 1, by omega, by omega, by go_num, HR.out, HF.out.drewN _⟩
            case measure => simp [intOf]; omega
          · have e0 : ((x : Int) == (y : Int)) = false := by simp; omega
            have e1 : decide ((x : Int) < (y : Int)) = false := by simp; omega
            have e2 : decide (x < y) = false := by simp; omega
            have HR : Hid (cmpN a b = 1) := by unfold Hid; rw [← HCM.out, HD.out, HD2.out, cmpN, if_neg (by omega), if_pos hxy]
            clear hxy
            go_wp2_with fail
            go_quiet (fail)
            go_wp2_with fail
            go_quiet (fail)
            go_wp2
            go_ret
            exact ⟨by rw [HR.out]; rfl, (HF.out.drewN _).drewN _⟩
        · have hib : i = b.length := by omega
          have HR : Hid (cmpN a b = 1) := by
            obtain ⟨x, hx, hd⟩ := drop_at hlt
            have hn : b.drop i = [] := List.drop_eq_nil_of_le (by omega)
            unfold Hid; rw [← HCM.out, hd, hn]; rfl
          have j1 : (i : Int) < (a.length : Int) := by omega
          have j2 : (b.length : Int) < (a.length : Int) := by omega
          go_wp2
          go_ret
          exact ⟨by rw [HR.out]; rfl, HF.out⟩
      · have hia : i = a.length := by omega
        by_cases hlt2 : i < b.length
        · have HR : Hid (cmpN a b = -1) := by
            obtain ⟨x, hx, hd⟩ := drop_at hlt2
            have hn : a.drop i = [] := List.drop_eq_nil_of_le (by omega)
            unfold Hid; rw [← HCM.out, hd, hn]; rfl
          have j2 : (a.length : Int) < (b.length : Int) := by omega
          go_wp2
          go_ret
          exact ⟨by rw [HR.out]; rfl, HF.out⟩
        · have HR : Hid (cmpN a b = 0) := by
            have hn : a.drop i = [] := List.drop_eq_nil_of_le (by omega)
            have hn2 : b.drop i = [] := List.drop_eq_nil_of_le (by omega)
            unfold Hid; rw [← HCM.out, hn, hn2]; rfl
          have j2 : b.length ≤ a.length := by omega
          have j3 : a.length ≤ b.length := by omega
          go_wp2
          go_ret
          exact ⟨by rw [HR.out]; rfl, HF.out⟩
end Go.Proofs.Ytobdegmlijnogaa
namespace Go.Proofs.Ytobdegmlijnogaa
open Go.ChangeShapes Go.WideShapes Go.ChangeAt Go.RowKit


end Go.Proofs.Ytobdegmlijnogaa
