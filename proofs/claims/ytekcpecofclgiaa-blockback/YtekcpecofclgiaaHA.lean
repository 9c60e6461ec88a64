/-
  BlockOnce: the walk.
-/
import Derived.Test.YtekcpecofclgiaaFA
namespace Go.Proofs.Ytekcpecofclgiaa
open Go.ChangeShapes Go.WideShapes Go.ChangeAt Go.RowKit

theorem tot_bd {ps : Ps} {M : Nat} (h : ∀ i, (kA ps i).length + (vA ps i).length ≤ M) : ∀ n, tot ps n ≤ n * M
  | 0 => by simp [tot]
  | n + 1 => by
    have := tot_bd h n
    have := h n
    rw [tot, Nat.add_mul, Nat.one_mul]; omega
theorem blk_bd {b : List Nat} {ps : Ps} {r : Nat} (B : Blk b ps r) : ps.length ≤ b.length ∧ ∀ i, (kA ps i).length + (vA ps i).length ≤ 136 + b.length := by
  have h1 : ∀ i, i ≤ (bod r ps i).length := by
    intro i
    induction i with
    | zero => simp
    | succ i ih => have := bod_lt r ps (i := i) (j := i + 1) (by omega); omega
  have h3 : (blk r ps).length = b.length := by rw [B.eq]
  unfold blk at h3
  rw [List.length_append] at h3
  refine ⟨by have := h1 ps.length; omega, fun i => ?_⟩
  have hk := kA_len B.rises i
  by_cases hi : i < ps.length
  · have h5 := bod_le r ps (i := i + 1) (j := ps.length) (by omega)
    rw [bod, List.length_append] at h5
    have := (ent_len (shd r ps i) (kA ps i) (vA ps i)).2
    omega
  · rw [(kA_out (ps := ps) (i := i) (by omega)).2]; simp; omega
theorem blk_small {b : List Nat} {ps : Ps} {r : Nat} (B : Blk b ps r) (hb : b.length ≤ 3000) (j : Nat) : (bod j ps ps.length).length ≤ 1000000000 := by
  obtain ⟨h1, h2⟩ := blk_bd B
  have h3 := bod_tot (ps := ps) (r := j) (fun i => by have := h2 i; omega) ps.length
  have h4 := tot_bd h2 ps.length
  have h5 : ps.length * (136 + b.length) ≤ 3000 * 3136 := Nat.mul_le_mul (by omega) (by omega)
  omega

set_option maxRecDepth 20000 in
set_option maxHeartbeats 3200000 in
theorem once_c (w : World) {v : Value} {b : List Nat} (hr : Rd w v (bv b)) (hb : By b) (hl : b.length ≤ 140737488355328) :
    Calls Try.prog 6 #[v] w fun e w' => e = .returned (.bool true) ∧ Fr [] w w' := by
  have KN := hid (known_c w)
  have HR := hid hr
  have HB := hid hb
  obtain ⟨va, vc, hv⟩ := hr.form
  rw [bv_len] at hv
  subst hv
  clear hr hb
  by_cases h3 : 3000 < b.length
  · generalize b.length = n at *
    go_enter Try.func6, Try.ntmps6
    go_wp2_with fail
    refine KN.out.mono ?_
    rintro e w1 ⟨rfl, f1⟩
    go_wp2
    go_ret
    exact ⟨rfl, f1⟩
  by_cases hB : ∃ ps r, Blk b ps r
  · obtain ⟨ps, r, B⟩ := hB
    have HBL := hid B
    have hlo := B.lo
    have hhi := B.hi
    have hpl := (blk_bd B).1
    clear B
    have PO : Hid (∀ W, Fr [] w W → Calls Try.prog 16 #[.slice va b.length vc] W fun e w' => ∃ v', e = .returned (.tuple #[v', .int .i64 0]) ∧ ColK w' W.heap.size v' ps ∧ Fr [] W w') := hid fun W f => parse_ok W (HR.out.fr f) HB.out (by omega) HBL.out
    have BO : Hid (∀ W j v', RdK W v' ps → 1 ≤ j → j ≤ 64 → Calls Try.prog 12 #[v', .int .i64 ((j : Nat) : Int)] W fun e w' => ∃ v'', e = .returned (.tuple #[v'', .int .i64 0]) ∧ w'.ownsRow W.heap.size 5 1 v'' (blk j ps).length (bv (blk j ps)) ∧ Fr [] W w') := hid fun W j v' hk h1 h2 => build_ok W hk (by omega) j h1 h2 HBL.out.rises (blk_small HBL.out (by omega) j)
    generalize hbn : b.length = n at *
    have HBN := hid hbn
    clear hbn
    go_enter Try.func6, Try.ntmps6
    go_wp2_with fail
    refine KN.out.mono ?_
    rintro e w1 ⟨rfl, f1⟩
    have F1 := hid f1
    clear f1 KN
    go_wp2_with fail
    refine (PO.out w1 F1.out).mono ?_
    rintro e w2 ⟨lv, rfl, col, f2⟩
    have F2 := hid (F1.out.trans f2)
    have byP := col.rd.by
    obtain ⟨la, lc, hlv, _⟩ := col.rd
    subst hlv
    have HC := hid col
    have HBP := hid byP
    clear col f2 PO byP
    go_wp2_with fail
    go_loopw [5] (fun v8 wr => ∃ j : Nat, 1 ≤ j ∧ j ≤ r ∧ v8 = .int .i64 (j : Int) ∧ Fr [] w2 wr) (fun v8 _ => 64 - (intOf v8).toNat)
    case atStart => exact ⟨1, by omega, hlo, rfl, Fr.refl _ _⟩
    case round =>
      obtain ⟨j, hj1, hjr, rfl, fj⟩ := hrel
      have FJ := hid fj
      have BJ := hid (BO.out wr j _ (HC.out.rd.fr fj) hj1 (by omega))
      clear fj
      go_wp2_with fail
      refine BJ.out.mono ?_
      rintro e w3 ⟨cv, rfl, o3, f3⟩
      have F3 := hid (FJ.out.trans f3)
      obtain ⟨ca, cc, rfl, _⟩ := ownsRow_slice o3
      have BC := hid (bytes_c (w := w3) (HR.out.fr (F2.out.trans F3.out)) (Rd.ownB o3) HB.out (blk_by HBP.out j))
      clear o3 f3 BJ
      go_wp2_with fail
      refine BC.out.mono ?_
      rintro e w4 ⟨rfl, rfl⟩
      clear BC
      by_cases hq : b = blk j ps
      · rw [decide_eq_true hq]
        clear hq
        go_wp2
        go_ret
        exact ⟨rfl, F2.out.trans F3.out⟩
      · rw [decide_eq_false hq]
        have hne : j ≠ r := fun e => hq (by rw [e]; exact HBL.out.eq.symm)
        clear hq
        go_wp2
        go_roundw
        case rel => exact ⟨j + 1, by omega, by omega, by go_num, F3.out⟩
        case measure => simp [intOf]; omega
  · have PN : Hid (∀ W, Fr [] w W → Calls Try.prog 16 #[.slice va b.length vc] W fun e w' => e = .returned (.tuple #[.slice none 0 0, .int .i64 72]) ∧ Fr [] W w') := hid fun W f => parse_no W (HR.out.fr f) HB.out (by omega) (fun ps r B => hB ⟨ps, r, B⟩)
    clear hB
    generalize b.length = n at *
    go_enter Try.func6, Try.ntmps6
    go_wp2_with fail
    refine KN.out.mono ?_
    rintro e w1 ⟨rfl, f1⟩
    have F1 := hid f1
    clear f1 KN
    go_wp2_with fail
    refine (PN.out w1 F1.out).mono ?_
    rintro e w2 ⟨rfl, f2⟩
    have F2 := hid (F1.out.trans f2)
    clear f2 PN
    go_wp2
    go_ret
    exact ⟨rfl, F2.out⟩
end Go.Proofs.Ytekcpecofclgiaa
