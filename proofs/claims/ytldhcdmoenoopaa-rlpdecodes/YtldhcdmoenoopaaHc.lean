/-
  The document's walk of an item: its first fault.
-/
import Derived.Test.YtldhcdmoenoopaaCt
import Derived.Deep.CutRange
namespace Go.Proofs.Ytldhcdmoenoopaa
open Go.ChangeShapes Go.WideShapes Go.ChangeAt Go.RowKit

/-- How many items were met, and the first fault. -/
def Wk (w : World) (p C B : Nat) : Prop := w.heap[p]? = some (.cells #[.int .i64 (C : Int), .int .i64 (B : Int)] 53 (0, 0))
def WkR (w w' : World) (p M B : Nat) : Prop := ∃ C, Wk w' p C B ∧ C ≤ M ∧ Fr [p] w w'
theorem Wk.cells {w : World} {p C B : Nat} (h : Wk w p C B) : w.cell? ⟨p, 0, none⟩ = some (.int .i64 (C : Int)) ∧ w.cell? ⟨p, 1, none⟩ = some (.int .i64 (B : Int)) ∧ w.frozen? ⟨p, 0, none⟩ = false ∧ w.frozen? ⟨p, 1, none⟩ = false :=
  ⟨by rw [blk_cell h]; rfl, by rw [blk_cell h]; rfl, blk_frozen h 0, blk_frozen h 1⟩
theorem Wk.alloc {w : World} {p C B : Nat} (h : Wk w p C B) (o : Obj) : Wk (w.alloc o) p C B := by unfold Wk at *; rw [blk_old _ _ (blk_lt h)]; exact h
theorem Wk.more {w : World} {p C B : Nat} (h : Wk w p C B) : Wk (w.setCell ⟨p, 0, none⟩ (.int .i64 ((C : Int) + 1))) p (C + 1) B := by unfold Wk at *; rw [blk_set h]; simp
theorem Wk.fault {w : World} {p C B : Nat} (h : Wk w p C B) (b : Nat) : Wk (w.setCell ⟨p, 1, none⟩ (.int .i64 (b : Int))) p C b := by unfold Wk at *; rw [blk_set h]; simp
theorem firstBad_take {α : Type} {f : α → Nat} : ∀ {ks : List α} {j : Nat} {k : α}, ks[j]? = some k → firstBad f (ks.take j) = 0 → firstBad f (ks.take (j + 1)) = f k
  | [], _, _, h, _ => by simp at h
  | x :: r, 0, k, h, _ => by
    simp at h; subst h
    simp [firstBad]; intro h; exact h.symm
  | x :: r, j + 1, k, h, h0 => by
    simp only [List.take_succ_cons, firstBad] at h0 ⊢
    by_cases hx : f x = 0
    · rw [if_pos hx] at h0 ⊢
      exact firstBad_take (by simpa using h) h0
    · rw [if_neg hx] at h0; exact absurd h0 hx
theorem firstBad_stop {α : Type} {f : α → Nat} : ∀ {ks : List α} {j : Nat}, firstBad f (ks.take j) ≠ 0 → firstBad f ks = firstBad f (ks.take j)
  | [], _, h => by simp [firstBad] at h
  | x :: r, 0, h => by simp [firstBad] at h
  | x :: r, j + 1, h => by
    simp only [List.take_succ_cons, firstBad] at h ⊢
    by_cases hx : f x = 0
    · rw [if_pos hx] at h ⊢
      rw [if_pos hx]
      exact firstBad_stop h
    · rw [if_neg hx, if_neg hx]

set_option maxRecDepth 20000 in
set_option maxHeartbeats 800000 in
theorem ritem_deep (w : World) {p C d : Nat} (hb : Wk w p C 0) (hd : 16 < d) (hd2 : d ≤ 100000) {l : Bool} {ba ka : Option Addr} {bl bc kl kc : Nat} :
    Calls Try.prog 22 #[.pointer (some ⟨p, 0, none⟩), .agg #[.bool l, .slice ba bl bc, .slice ka kl kc], .int .i64 (d : Int)] w fun e w' => (∃ u, e = .returned u) ∧ WkR w w' p C 43 := by
  obtain ⟨W, hW⟩ : ∃ W, W = w.alloc (.cells #[.bool l, .slice ba bl bc, .slice ka kl kc] 25) := ⟨_, rfl⟩
  have F : Hid (Fr [p] w W) := hid (by rw [hW]; exact (Fr.refl _ w).alloc _)
  have B : Hid (Wk W p C 0) := hid (by rw [hW]; exact hb.alloc _)
  obtain ⟨c0, c1, z0, z1⟩ := B.out.cells
  have h1 : (16 : Int) < (d : Int) := by omega
  go_enter Try.func22, Try.ntmps22
  go_upto_region 1 with fail
  rw [← hW]
  clear hW
  go_wp2
  refine bodyPost_ret (results_none rfl _ _ _) rfl ?_
  exact ⟨⟨_, rfl⟩, C, B.out.fault 43, Nat.le_refl _, F.out.set _ _ (.inl (by simp))⟩

set_option maxRecDepth 20000 in
set_option maxHeartbeats 800000 in
theorem ritem_form (w : World) {p C d : Nat} (hb : Wk w p C 0) (hd : d ≤ 16) (hC : C < 4096) {l : Bool} {ba ka : Option Addr} {bl bc kl kc : Nat} (h : (l = true ∧ 0 < bl) ∨ (l = false ∧ 0 < kl)) :
    Calls Try.prog 22 #[.pointer (some ⟨p, 0, none⟩), .agg #[.bool l, .slice ba bl bc, .slice ka kl kc], .int .i64 (d : Int)] w fun e w' => (∃ u, e = .returned u) ∧ WkR w w' p (C + 1) 40 := by
  obtain ⟨W, hW⟩ : ∃ W, W = w.alloc (.cells #[.bool l, .slice ba bl bc, .slice ka kl kc] 25) := ⟨_, rfl⟩
  have F : Hid (Fr [p] w W) := hid (by rw [hW]; exact (Fr.refl _ w).alloc _)
  have B : Hid (Wk W p C 0) := hid (by rw [hW]; exact hb.alloc _)
  have X : Hid (W.heap[w.heap.size]? = some (.cells #[.bool l, .slice ba bl bc, .slice ka kl kc] 25 (0, 0))) := hid (by rw [hW]; exact blk_new _ _)
  obtain ⟨W2, hW2⟩ : ∃ W2, W2 = W.setCell ⟨p, 0, none⟩ (.int .i64 ((C : Int) + 1)) := ⟨_, rfl⟩
  have F2 : Hid (Fr [p] w W2) := hid (by rw [hW2]; exact F.out.set _ _ (.inl (by simp)))
  have B2 : Hid (Wk W2 p (C + 1) 0) := hid (by rw [hW2]; exact B.out.more)
  have X2 : Hid (W2.heap[w.heap.size]? = some (.cells #[.bool l, .slice ba bl bc, .slice ka kl kc] 25 (0, 0))) := hid (by rw [hW2, blk_setne _ _ _ (by have := blk_lt hb; omega)]; exact X.out)
  obtain ⟨c0, c1, z0, z1⟩ := B.out.cells
  obtain ⟨d0, d1, y0, y1⟩ := B2.out.cells
  have x0 := blk_cell X2.out 0
  have x1 := blk_cell X2.out 1
  have x2 := blk_cell X2.out 2
  simp at x0 x1 x2
  have h1 : ¬ (16 : Int) < (d : Int) := by omega
  have h2 : ((C : Int) == 4096) = false := beq_eq_false_iff_ne.2 (by omega)
  have h3 : IntKind.i64.wrap ((C : Int) + 1) = (C : Int) + 1 := by rw [IntKind.wrap_i64]; omega
  clear hb
  rcases h with ⟨rfl, h⟩ | ⟨rfl, h⟩
  · have h' : (0 : Int) < (bl : Int) := by omega
    go_enter Try.func22, Try.ntmps22
    go_upto_region 1 with fail
    rw [← hW]
    clear hW
    go_upto_region 5 with fail
    rw [← hW2]
    clear hW2
    go_wp2
    refine bodyPost_ret (results_none rfl _ _ _) rfl ?_
    exact ⟨⟨_, rfl⟩, C + 1, B2.out.fault 40, Nat.le_refl _, F2.out.set _ _ (.inl (by simp))⟩
  · have h' : (0 : Int) < (kl : Int) := by omega
    go_enter Try.func22, Try.ntmps22
    go_upto_region 1 with fail
    rw [← hW]
    clear hW
    go_upto_region 5 with fail
    rw [← hW2]
    clear hW2
    go_wp2
    refine bodyPost_ret (results_none rfl _ _ _) rfl ?_
    exact ⟨⟨_, rfl⟩, C + 1, B2.out.fault 40, Nat.le_refl _, F2.out.set _ _ (.inl (by simp))⟩

/-- Behind so many items of a list. -/
def RIt {n : Nat} (w w0 wr : World) (p d : Nat) (l : Bool) (ba : Option Addr) (bl bc : Nat) (ka : Option Addr) (L kc : Nat) (ks : List (Tr n)) (C i : Nat) : Prop :=
  ∃ C1, Wk wr p C1 (firstBad (bad n (d + 1)) (ks.take i)) ∧ C1 ≤ C + 1 + ((ks.take i).map (cnt n)).sum ∧ Fr [p] w wr ∧ wr.heap[w.heap.size]? = some (.cells #[.bool l, .slice ba bl bc, .slice ka L kc] 25 (0, 0)) ∧ Fr [] w0 wr

set_option maxRecDepth 20000 in
set_option maxHeartbeats 1600000 in
theorem ritem_list (w0 w : World) (f0 : Fr [] w0 w) {p C d n : Nat} (hp : w0.heap.size ≤ p) (hb : Wk w p C 0) (hd : d ≤ 16) {l : Bool} {ba ka : Option Addr} {bl bc kc : Nat} {ks : List (Tr n)} (h : (l = true ∧ bl = 0) ∨ (l = false ∧ ks.length = 0))
    (hkl : ks.length ≤ kc) (hk : ks.length ≤ 140737488355328) (hC : C + 1 + (ks.map (cnt n)).sum ≤ 4096)
    (hel : 0 < ks.length → ∃ kb ko, ka = some ⟨kb, ko, none⟩ ∧ ∀ (j : Nat) (x : Tr n), ks[j]? = some x → ∃ l bs' is', w0.cell? ⟨kb, ko + j * 3, none⟩ = some (.bool l) ∧ w0.cell? ⟨kb, ko + j * 3 + 1, none⟩ = some bs' ∧ w0.cell? ⟨kb, ko + j * 3 + 2, none⟩ = some is' ∧ IsV w0 n (.agg #[.bool l, bs', is']) x)
    (ih : ∀ x ∈ ks, ∀ (w1 : World) (v1 : Value) (C1 : Nat), IsV w0 n v1 x → Fr [] w0 w1 → Wk w1 p C1 0 → C1 + cnt n x ≤ 4096 → Calls Try.prog 22 #[.pointer (some ⟨p, 0, none⟩), v1, .int .i64 ((d : Int) + 1)] w1 fun e w' => (∃ u, e = .returned u) ∧ WkR w1 w' p (C1 + cnt n x) (bad n (d + 1) x)) :
    Calls Try.prog 22 #[.pointer (some ⟨p, 0, none⟩), .agg #[.bool l, .slice ba bl bc, .slice ka ks.length kc], .int .i64 (d : Int)] w fun e w' => (∃ u, e = .returned u) ∧ WkR w w' p (C + 1 + (ks.map (cnt n)).sum) (firstBad (bad n (d + 1)) ks) := by
  obtain ⟨L, hL⟩ : ∃ L, L = ks.length := ⟨_, rfl⟩
  rw [← hL] at h hkl hk hel ⊢
  have HL := hid hL
  have HEL := hid hel
  have IH := hid ih
  have F0 := hid f0
  obtain ⟨M, hM⟩ : ∃ M, M = C + 1 + (ks.map (cnt n)).sum := ⟨_, rfl⟩
  obtain ⟨B0, hB0⟩ : ∃ B0, B0 = firstBad (bad n (d + 1)) ks := ⟨_, rfl⟩
  rw [← hM] at hC ⊢
  rw [← hB0]
  have HM := hid hM
  have HB0 := hid hB0
  have HSM := hid (fun j => sumc_le (cnt n) ks j)
  obtain ⟨W, hW⟩ : ∃ W, W = w.alloc (.cells #[.bool l, .slice ba bl bc, .slice ka L kc] 25) := ⟨_, rfl⟩
  have F : Hid (Fr [p] w W) := hid (by rw [hW]; exact (Fr.refl _ w).alloc _)
  have B : Hid (Wk W p C 0) := hid (by rw [hW]; exact hb.alloc _)
  have X : Hid (W.heap[w.heap.size]? = some (.cells #[.bool l, .slice ba bl bc, .slice ka L kc] 25 (0, 0))) := hid (by rw [hW]; exact blk_new _ _)
  obtain ⟨W2, hW2⟩ : ∃ W2, W2 = W.setCell ⟨p, 0, none⟩ (.int .i64 ((C : Int) + 1)) := ⟨_, rfl⟩
  have F2 : Hid (Fr [p] w W2) := hid (by rw [hW2]; exact F.out.set _ _ (.inl (by simp)))
  have B2 : Hid (Wk W2 p (C + 1) 0) := hid (by rw [hW2]; exact B.out.more)
  have hpw : w.heap.size ≠ p := by have := blk_lt hb; omega
  have X2 : Hid (W2.heap[w.heap.size]? = some (.cells #[.bool l, .slice ba bl bc, .slice ka L kc] 25 (0, 0))) := hid (by rw [hW2, blk_setne _ _ _ hpw]; exact X.out)
  obtain ⟨c0, c1, z0, z1⟩ := B.out.cells
  have x0 := blk_cell X2.out 0
  have x1 := blk_cell X2.out 1
  have x2 := blk_cell X2.out 2
  simp at x0 x1 x2
  have h1 : ¬ (16 : Int) < (d : Int) := by omega
  have h2 : ((C : Int) == 4096) = false := beq_eq_false_iff_ne.2 (by omega)
  have h3 : IntKind.i64.wrap ((C : Int) + 1) = (C : Int) + 1 := by rw [IntKind.wrap_i64]; omega
  have HPW := hid hpw
  have RF : Hid (∀ (W' : World), Fr [p] w W' → Fr [] w0 W') := hid (fun W' f => ((f0.mono (S' := [p]) (by simp)).trans f).shed (fun k hk hlt => by simp at hk; omega))
  have HP := hid hp
  have HC := hid hC
  clear hb hel ih f0 hM hB0 hL hpw hp
  go_enter Try.func22, Try.ntmps22
  go_upto_region 1 with fail
  rw [← hW]
  clear hW
  go_upto_region 5 with fail
  rw [← hW2]
  clear hW2 c0 c1 z0 z1
  go_cut [49] from 31 to 48 (fun v W' => v = .bool false ∧ W' = W2)
  case first =>
    rcases h with ⟨rfl, rfl⟩ | ⟨rfl, rfl⟩
    · go_wp2
      go_meet
      exact ⟨rfl, rfl⟩
    · go_wp2
      go_meet
      exact ⟨rfl, rfl⟩
  case rest =>
    obtain ⟨rfl, rfl⟩ := hcut
    clear x0 x1 x2
    go_wp2_with fail
    go_loopw [6] (fun v6 wr => ∃ i : Nat, i ≤ L ∧ v6 = .int .i64 (i : Int) ∧ RIt w w0 wr p d l ba bl bc ka L kc ks C i) (fun v6 _ => L - (intOf v6).toNat)
    case atStart => exact ⟨0, by omega, rfl, C + 1, B2.out, by simp, F2.out, X2.out, RF.out _ F2.out⟩
    case round =>
      obtain ⟨i, hi, rfl, C1, hb1, hc1, hf1, hx1, hv1⟩ := hrel
      obtain ⟨bb, hbb⟩ : ∃ bb, bb = firstBad (bad n (d + 1)) (ks.take i) := ⟨_, rfl⟩
      rw [← hbb] at hb1
      have HBB := hid hbb
      have HB1 := hid hb1
      have HC1 := hid hc1
      have HF1 := hid hf1
      have HX1 := hid hx1
      have HV1 := hid hv1
      obtain ⟨c0, c1, z0, z1⟩ := hb1.cells
      have m2 := blk_cell hx1 2
      simp at m2
      have hsum := HSM.out i
      clear hb1 hc1 hf1 hx1 hv1 hbb
      by_cases hgo : i < L ∧ bb = 0
      · obtain ⟨h1', h2'⟩ := hgo
        subst h2'
        obtain ⟨x, hx⟩ : ∃ x, ks[i]? = some x := ⟨_, List.getElem?_eq_getElem (by rw [← HL.out]; exact h1')⟩
        have hxm : Hid (x ∈ ks) := List.mem_of_getElem? hx
        obtain ⟨kb, ko, hka, hl2⟩ := HEL.out (by omega)
        subst hka
        obtain ⟨l1, b1', i1', p1, p2, p3, p4⟩ := hl2 i x hx
        obtain ⟨x1, x2, x3, x4, x5, x6, rfl, rfl⟩ := p4.cells
        have q1 := cell_fr p1 HV1.out
        have q2 := cell_fr p2 HV1.out
        have q3 := cell_fr p3 HV1.out
        have HST := hid (sumc_take (cnt n) hx)
        have HFT := hid (firstBad_take (f := bad n (d + 1)) hx HBB.out.symm)
        have CT : Hid (C1 + cnt n x ≤ 4096) := by
          have a1 := HSM.out (i + 1)
          have a2 := HC1.out
          have a3 := HC.out
          rw [HM.out] at a3
          rw [HST.out] at a1
          unfold Hid
          omega
        have IT := hid (IH.out x hxm.out wr _ C1 p4 HV1.out HB1.out CT.out)
        have hil : (i : Int) < (L : Int) := by omega
        have hdd : IntKind.i64.wrap ((d : Int) + 1) = (d : Int) + 1 := by rw [IntKind.wrap_i64]; omega
        clear p1 p2 p3 p4 hl2 hx
        go_wp2_with fail
        refine IT.out.mono ?_
        rintro e w5 ⟨⟨u5, rfl⟩, C5, b5, c5, f5⟩
        have B5 : Hid (Wk w5 p C5 (firstBad (bad n (d + 1)) (ks.take (i + 1)))) := hid (by rw [HFT.out]; exact b5)
        have C5' : Hid (C5 ≤ C + 1 + ((ks.take (i + 1)).map (cnt n)).sum) := hid (by rw [HST.out]; have := HC1.out; omega)
        have F5 := hid (HF1.out.trans f5)
        have X5 := hid (f5.at HX1.out (by simp; exact HPW.out))
        clear b5 c5 f5
        go_wp2_with fail
        go_roundw
        case rel => go_light; exact ⟨i + 1, by omega, by go_num, C5, B5.out, C5'.out, F5.out, X5.out, RF.out _ F5.out⟩
        case measure => go_light; simp [intOf]; omega
      · have hend : Hid (bb = B0 ∧ C1 ≤ M) := by
          unfold Hid
          refine ⟨?_, by have := HC1.out; rw [HM.out]; omega⟩
          by_cases hb0 : bb = 0
          · have hiL : i = L := by omega
            rw [HBB.out, HB0.out, List.take_of_length_le (by rw [← HL.out]; omega)]
          · rw [HB0.out, firstBad_stop (j := i) (by rw [← HBB.out]; exact hb0), HBB.out]
        by_cases h1' : i < L
        · have h2' : ((bb : Int) == 0) = false := beq_eq_false_iff_ne.2 (by omega)
          have hil : (i : Int) < (L : Int) := by omega
          go_wp2
          go_end0
          exact ⟨⟨_, rfl⟩, C1, by rw [← hend.out.1]; exact HB1.out, hend.out.2, HF1.out⟩
        · have hil : ¬ (i : Int) < (L : Int) := by omega
          go_wp2
          go_end0
          exact ⟨⟨_, rfl⟩, C1, by rw [← hend.out.1]; exact HB1.out, hend.out.2, HF1.out⟩

theorem ritem_c : ∀ (n : Nat) (w0 w : World) (v : Value) (t : Tr n) (p C d : Nat), IsV w0 n v t → Fr [] w0 w → w0.heap.size ≤ p → Wk w p C 0 → 17 ≤ n + d → d ≤ 20 → C + cnt n t ≤ 4096 →
    Calls Try.prog 22 #[.pointer (some ⟨p, 0, none⟩), v, .int .i64 (d : Int)] w fun e w' => (∃ u, e = .returned u) ∧ WkR w w' p (C + cnt n t) (bad n d t)
  | 0, w0, w, v, t, p, C, d, hv, f, hp, hb, hn, hd, hc => by
    obtain ⟨l, a1, n1, c1, a2, n2, c2, rfl⟩ := hv.agg
    exact ritem_deep w hb (by omega) (by omega)
  | n + 1, w0, w, v, t, p, C, d, hv, f, hp, hb, hn, hd, hc => by
    have hcn : cnt (n + 1) t = 1 + ((tK t).map (cnt n)).sum := rfl
    by_cases hd16 : 16 < d
    · obtain ⟨l, a1, n1, c1, a2, n2, c2, rfl⟩ := hv.agg
      have e : bad (n + 1) d t = 43 := by unfold bad; rw [if_pos hd16]
      rw [e]
      refine (ritem_deep w hb hd16 (by omega)).mono ?_
      rintro e w' ⟨hu, C', h1, h2, h3⟩
      exact ⟨hu, C', h1, by omega, h3⟩
    · obtain ⟨bs, ka, kc, rfl, p2, p3, p4, p5, p5', p6⟩ := hv
      obtain ⟨a, c, hbs⟩ := p2.form
      rw [bv_len] at hbs
      subst hbs
      by_cases hm : (tL t = true ∧ tB t ≠ []) ∨ (tL t = false ∧ tK t ≠ [])
      · have e : bad (n + 1) d t = 40 := by unfold bad; rw [if_neg hd16, if_pos hm]
        rw [e]
        refine (ritem_form w hb (by omega) (by omega) (hm.imp (fun h => ⟨h.1, List.length_pos_iff.2 h.2⟩) (fun h => ⟨h.1, List.length_pos_iff.2 h.2⟩))).mono ?_
        rintro e w' ⟨hu, C', h1, h2, h3⟩
        exact ⟨hu, C', h1, by omega, h3⟩
      · have e : bad (n + 1) d t = firstBad (bad n (d + 1)) (tK t) := by unfold bad; rw [if_neg hd16, if_neg hm]
        rw [e, hcn, ← Nat.add_assoc]
        refine ritem_list w0 w f hp hb (by omega) ?_ p5 p5' (by omega) p6 fun x hx w1 v1 C1 i1 f1 b1 c1 => ?_
        · rcases hl : tL t with _ | _
          · right
            refine ⟨rfl, ?_⟩
            rcases hk : tK t with _ | _
            · rfl
            · exact absurd (.inr ⟨hl, by simp [hk]⟩) hm
          · left
            refine ⟨rfl, ?_⟩
            rcases hk : tB t with _ | _
            · rfl
            · exact absurd (.inl ⟨hl, by simp [hk]⟩) hm
        · have := ritem_c n w0 w1 v1 x p C1 (d + 1) i1 f1 hp b1 (by omega) (by omega) c1
          rw [show (((d + 1 : Nat)) : Int) = (d : Int) + 1 by omega] at this
          exact this
end Go.Proofs.Ytldhcdmoenoopaa
