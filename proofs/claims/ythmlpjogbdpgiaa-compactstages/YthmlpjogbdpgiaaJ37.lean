/-
  CompactCuts, walked.
-/
import Derived.Test.YthmlpjogbdpgiaaCXE
import Derived.Test.YthmlpjogbdpgiaaJ36
import Derived.Test.YthmlpjogbdpgiaaCR9
namespace Go.Proofs.Ythmlpjogbdpgiaa
open Go.ChangeShapes Go.WideShapes Go.ChangeAt Go.RowKit

def vwOk : Option (List Nat × List Nat) → Bool
  | none => false
  | some p => decide (tailN p.1 % 256 = 1)
def vwX : Option (List Nat × List Nat) → List Nat
  | none => []
  | some p => if tailN p.1 % 256 = 1 then p.2 else []
/-- What both Views tell, in one form. -/
theorem ViewR.form {e : Ending} {w : World} {o : Option (List Nat × List Nat)} (h : ViewR e w o) (ho : ∀ p, o = some p → By p.2) : ∃ (vv : Value) (ok : Bool) (x : List Nat), e = .returned (.tuple #[vv, .bool ok]) ∧ Rd w vv (bv x) ∧ By x ∧ ok = vwOk o ∧ x = vwX o := by
  have nil : Rd w (.slice none 0 0) (bv []) := .inl ⟨rfl, rfl⟩
  cases o with
  | none => exact ⟨_, _, [], h, nil, (fun n hn => by cases hn), rfl, rfl⟩
  | some p =>
    rcases h with ⟨h1, vv, e1, r⟩ | ⟨h1, e1⟩
    · exact ⟨vv, true, p.2, e1, r, ho p rfl, by simp [vwOk, h1], by simp [vwX, h1]⟩
    · exact ⟨_, false, [], e1, nil, (fun n hn => by cases hn), by simp [vwOk, h1], by simp [vwX, h1]⟩
theorem vwG_by {ps : Ps} {u : List Nat} {s : Nat} (h : ByP ps) : ∀ p, vwG ps u s = some p → By p.2 := fun p hp => (h p (List.mem_of_find?_eq_some hp)).2
theorem cutF_len {sz : Nat} {ps : Ps} (hs : 0 < sz) : (cutF sz ps).length ≤ ps.length ∧ ∀ p ∈ cutF sz ps, p.length ≤ ps.length := by
  have h := cutF_cuts (sz := sz) (ps := ps) hs
  have hal := h.all
  have key : ∀ (L : List Ps), (∀ p ∈ L, p ≠ []) → L.length ≤ L.flatten.length ∧ ∀ p ∈ L, p.length ≤ L.flatten.length := by
    intro L
    induction L with
    | nil => intro _; simp
    | cons a L ih =>
      intro hp
      obtain ⟨h1, h2⟩ := ih (fun p hm => hp p (List.mem_cons_of_mem _ hm))
      have h3 := List.length_pos_iff.2 (hp a (by simp))
      simp only [List.flatten_cons, List.length_append, List.length_cons]
      refine ⟨by omega, fun p hm => ?_⟩
      rcases List.mem_cons.1 hm with rfl | hm
      · omega
      · have := h2 p hm; omega
  have h1 := key (cutF sz ps) (fun p hp => by
    obtain ⟨i, hi⟩ := List.getElem?_of_mem hp
    exact h.pos i p hi)
  rw [hal] at h1
  exact h1
set_option maxRecDepth 20000 in
set_option maxHeartbeats 6400000 in
theorem ccuts_c (w : World) {lv uv : Value} {ps : Ps} {us : List Nat} (h : RdK w lv ps) (ru : Rd w uv (bv us)) (bu : By us) (lu : us.length ≤ 140737488355328) (hp : ps.length ≤ 140737488355328) (size : Int) (seq : Nat) :
    Calls Try.prog 4 #[lv, .int .i64 size, uv, .int .u64 (seq : Int)] w fun e w' => e = .returned (.bool true) ∧ Fr [] w w' := by
  obtain ⟨sz, hsz0⟩ : ∃ sz : Nat, (sz : Int) = if size < 1 then 1 else size := ⟨(if size < 1 then 1 else size).toNat, by split <;> omega⟩
  have HSZ := hid hsz0
  have SZ1 : Hid (0 < sz) := hid (by split at hsz0 <;> omega)
  clear hsz0
  have HL := hid h
  have RU := hid ru
  have BU := hid bu
  have BYP := hid h.by
  obtain ⟨la, lc, rfl, hlc, _⟩ := h
  obtain ⟨ua, uc, hue⟩ := ru.form
  rw [bv_len] at hue
  subst hue
  clear ru bu
  obtain ⟨n, hnn⟩ : ∃ n, n = ps.length := ⟨_, rfl⟩
  have HN := hid hnn
  rw [← hnn] at hp hlc HL ⊢
  clear hnn
  obtain ⟨UL, hUL⟩ : ∃ UL, UL = us.length := ⟨_, rfl⟩
  have HUL := hid hUL
  rw [← hUL] at RU lu ⊢
  clear hUL
  have KN := hid (known10_c w)
  go_enter Try.func4, Try.ntmps4
  go_upto_if 19 with (go_at_call 8; refine KN.out.mono ?_; rintro e w1 ⟨rfl, f1, hz⟩)
  have F1 := hid f1
  clear f1 hz KN
  by_cases h80 : n ≤ 80
  · have h80' : ¬ (80 : Int) < (n : Int) := by omega
    have CC := hid (ccut_c w1 (HL.out.fr F1.out) (by have := HN.out; omega) size sz HSZ.out)
    go_upto_region 6 with (go_at_call 13; refine CC.out.mono ?_; rintro e w2 ⟨hq, f2⟩; rcases hq with ⟨hr, v9, rfl, p9⟩ | ⟨hr, rfl⟩)
    · have F2 := hid (F1.out.trans f2)
      have HR := hid hr
      have RC := hid (rcut_c w2 (HL.out.fr F2.out) (by have := HN.out; omega) size sz HSZ.out)
      have P9 := hid p9
      clear f2 hr p9
      obtain ⟨a9, c9, e9, _⟩ := P9.out
      subst e9
      obtain ⟨N, hN⟩ : ∃ N, N = (cutF sz ps).length := ⟨_, rfl⟩
      have HNN := hid hN
      have CLN := hid (cutF_len (ps := ps) SZ1.out)
      rw [← hN] at P9 ⊢
      clear hN
      have hNb : N ≤ 80 := by have h1 := CLN.out.1; have := HN.out; rw [← HNN.out] at h1; omega
      go_upto_region 7 with (go_at_call 14; refine RC.out.mono ?_; rintro e w3 ⟨hq, f3⟩; rcases hq with ⟨hr', v11, rfl, p11⟩ | ⟨hr', rfl⟩)
      · have F3 := hid (F2.out.trans f3)
        have P93 := hid (P9.out.fr f3)
        have P11 := hid p11
        clear f3 p11 hr'
        obtain ⟨a11, c11, e11, hc11, k11⟩ := P11.out
        obtain ⟨a9', c9', e9', hc9, k9⟩ := P93.out
        subst e11
        rw [← HNN.out] at e9' hc11 hc9 k11 k9
        simp only [Value.slice.injEq, true_and] at e9'
        obtain ⟨rfl, rfl⟩ := e9'
        have K11 := hid k11
        have K9 := hid k9
        rw [← HNN.out]
        clear k11 k9 P11 P9 P93 RC CC
        have hbN : ((N : Int) == (N : Int)) = true := by simp
        go_wp2_with fail
        go_loopw [13] (fun v13 wr => ∃ i : Nat, i ≤ N ∧ v13 = .int .i64 (i : Int) ∧ Fr [] w3 wr) (fun v13 _ => N - (intOf v13).toNat)
        case atStart => exact ⟨0, Nat.zero_le _, rfl, Fr.refl _ _⟩
        case round =>
          obtain ⟨i, hi, rfl, hf⟩ := hrel
          have HF := hid hf
          clear hf
          by_cases hlt : i < N
          · obtain ⟨q, hq⟩ : ∃ q, (cutF sz ps)[i]? = some q := ⟨_, List.getElem?_eq_getElem (by rw [← HNN.out]; exact hlt)⟩
            obtain ⟨b1, o1, rfl, m1⟩ := K9.out (by omega)
            obtain ⟨b2, o2, rfl, m2⟩ := K11.out (by omega)
            obtain ⟨ua1, uc1, y1, r1⟩ := m1 i q hq
            obtain ⟨ua2, uc2, y2, r2⟩ := m2 i q hq
            have z1 := cell_fr HF.out y1
            have z2 := cell_fr HF.out y2
            have hql : q.length ≤ 1000000 := by
              have h1 := CLN.out.2 q (List.mem_of_getElem? hq)
              have := HN.out; omega
            have KV := hid (fun m : Nat => kvsd_q (wr.drewN m) ((r1.fr HF.out).fr ((Fr.refl [] wr).drewN m)) ((r2.fr HF.out).fr ((Fr.refl [] wr).drewN m)) hql hql)
            rw [decide_eq_true rfl] at KV
            have hlt' : (i : Int) < (N : Int) := by omega
            clear m1 m2 y1 y2 r1 r2 hq
            generalize q.length = ql at *
            go_upto_region 12 with fail
            go_quiet ((go_at_call 12; exact Calls.quiet_of (KV.out _)))
            go_wp2
            go_roundw
            case rel => exact ⟨i + 1, by omega, by go_num, HF.out.drewN _⟩
            case measure => simp [intOf]; omega
          · have hin : i = N := by omega
            have FN := hid (F3.out.trans HF.out)
            subst hin
            have hlt' : ¬ (i : Int) < (i : Int) := by omega
            have VC := hid (cview_c wr (HL.out.fr FN.out) (by rw [← HN.out]; omega) (RU.out.fr FN.out) BU.out seq)
            go_upto_region 15 with (go_at_call 15; refine VC.out.mono ?_; rintro e w5 ⟨hq, f5⟩; obtain ⟨vv, okv, x5, rfl, r5, b5, o5, y5⟩ := ViewR.form hq (vwG_by BYP.out); have R5 := hid r5; have B5 := hid b5; have O5 := hid o5; have Y5 := hid y5; have F5 := hid (FN.out.trans f5); clear r5 b5 o5 y5 f5 hq)
            have RV := hid (rview_c w5 (HL.out.fr F5.out) (by rw [← HN.out]; omega) (RU.out.fr F5.out) BU.out (by rw [← HUL.out]; exact lu) seq)
            go_upto_region 16 with (go_at_call 16; refine RV.out.mono ?_; rintro e w6 ⟨hq, f6⟩; obtain ⟨vw, okw, x6, rfl, r6, b6, o6, y6⟩ := ViewR.form hq (vwG_by BYP.out); have eok : okw = okv := o6.trans O5.out.symm; have ex : x6 = x5 := y6.trans Y5.out.symm; subst eok; subst ex; have R6 := hid r6; have B6 := hid b6; have R56 := hid (R5.out.fr f6); have F6 := hid (F5.out.trans f6); clear r6 b6 o6 y6 f6 hq)
            have BE := hid (bytes_c R56.out R6.out B6.out B6.out)
            rw [decide_eq_true rfl] at BE
            have hbb : (okw == okw) = true := by simp
            go_wp2_with (go_at_call 17; refine BE.out.mono ?_; rintro e w7 ⟨rfl, h⟩; rw [h]; clear h)
            go_ret
            exact ⟨rfl, F6.out⟩
      · exact absurd HR.out hr'
    · have F2 := hid (F1.out.trans f2)
      have HR := hid hr
      have RC := hid (rcut_c w2 (HL.out.fr F2.out) (by have := HN.out; omega) size sz HSZ.out)
      clear f2 hr
      go_upto_region 7 with (go_at_call 14; refine RC.out.mono ?_; rintro e w3 ⟨hq, f3⟩; rcases hq with ⟨hr', v11, rfl, p11⟩ | ⟨hr', rfl⟩)
      · exact absurd hr' HR.out
      · have F3 := hid (F2.out.trans f3)
        clear f3 RC CC
        go_wp2_with fail
        go_loopw [13] (fun v13 wr => v13 = .int .i64 0 ∧ Fr [] w3 wr) (fun _ _ => 0)
        case atStart => exact ⟨rfl, Fr.refl _ _⟩
        case round =>
          obtain ⟨rfl, hf⟩ := hrel
          have FN := hid (F3.out.trans hf)
          clear hf
          have VC := hid (cview_c wr (HL.out.fr FN.out) (by rw [← HN.out]; omega) (RU.out.fr FN.out) BU.out seq)
          go_upto_region 15 with (go_at_call 15; refine VC.out.mono ?_; rintro e w5 ⟨hq, f5⟩; obtain ⟨vv, okv, x5, rfl, r5, b5, o5, y5⟩ := ViewR.form hq (vwG_by BYP.out); have R5 := hid r5; have B5 := hid b5; have O5 := hid o5; have Y5 := hid y5; have F5 := hid (FN.out.trans f5); clear r5 b5 o5 y5 f5 hq)
          have RV := hid (rview_c w5 (HL.out.fr F5.out) (by rw [← HN.out]; omega) (RU.out.fr F5.out) BU.out (by rw [← HUL.out]; exact lu) seq)
          go_upto_region 16 with (go_at_call 16; refine RV.out.mono ?_; rintro e w6 ⟨hq, f6⟩; obtain ⟨vw, okw, x6, rfl, r6, b6, o6, y6⟩ := ViewR.form hq (vwG_by BYP.out); have eok : okw = okv := o6.trans O5.out.symm; have ex : x6 = x5 := y6.trans Y5.out.symm; subst eok; subst ex; have R6 := hid r6; have B6 := hid b6; have R56 := hid (R5.out.fr f6); have F6 := hid (F5.out.trans f6); clear r6 b6 o6 y6 f6 hq)
          have BE := hid (bytes_c R56.out R6.out B6.out B6.out)
          rw [decide_eq_true rfl] at BE
          have hbb : (okw == okw) = true := by simp
          go_wp2_with (go_at_call 17; refine BE.out.mono ?_; rintro e w7 ⟨rfl, h⟩; rw [h]; clear h)
          go_ret
          exact ⟨rfl, F6.out⟩
  · have h80' : (80 : Int) < (n : Int) := by omega
    go_wp2
    go_ret
    exact ⟨rfl, F1.out⟩
end Go.Proofs.Ythmlpjogbdpgiaa
namespace Go.Proofs.Ythmlpjogbdpgiaa

theorem find_app {α : Type} (f : α → Bool) (a b : List α) : (a ++ b).find? f = (a.find? f).or (b.find? f) := by
  rw [List.find?_append]
theorem kept_succ (old : Nat) (sp S : Ps) (i : Nat) : kept old sp S (i + 1) = kept old sp S i ++ (if stay old sp S i then [(kA S i, vA S i)] else []) := rfl
theorem take_kA {S : Ps} {i : Nat} (hi : i < S.length) : S.take (i + 1) = S.take i ++ [(kA S i, vA S i)] := by
  have h0 := ps_at hi
  obtain ⟨hl, he⟩ := List.getElem?_eq_some_iff.1 h0
  rw [List.take_succ_eq_append_getElem hl, he]
/-- Whether an entry is the one that is seen. -/
def mtc (u : List Nat) (s : Nat) (p : List Nat × List Nat) : Bool := isK p.1 && (decide (userL p.1 = u) && decide (tailN p.1 / 256 ≤ s))
theorem vwG_mtc (ps : Ps) (u : List Nat) (s : Nat) : vwG ps u s = ps.find? (mtc u s) := rfl
theorem same_user {S : Ps} (h : S.Pairwise Lt) {i j k : Nat} (hij : i ≤ j) (hjk : j ≤ k) (hk : k < S.length) (e : userL (kA S i) = userL (kA S k)) : userL (kA S j) = userL (kA S k) := by
  have h1 := user_rises h hij (by omega : j < S.length)
  have h2 := user_rises h hjk hk
  rw [e] at h1
  have h3 := cmpN_neg (userL (kA S j)) (userL (kA S k))
  exact (cmpN_eq _ _).1 (by omega)
theorem seq_falls_le {S : Ps} (h : S.Pairwise Lt) {i : Nat} : ∀ {k : Nat}, i ≤ k → k < S.length → userL (kA S i) = userL (kA S k) → seqA S k ≤ seqA S i
  | 0, hik, _, _ => by rw [show i = 0 by omega]; exact Nat.le_refl _
  | k + 1, hik, hk, e => by
    rcases Nat.lt_or_ge i (k + 1) with hlt | hge
    · have e1 := same_user h (show i ≤ k by omega) (Nat.le_succ k) hk e
      exact Nat.le_trans (seq_falls h hk e1.symm) (seq_falls_le h (by omega) (by omega) (e.trans e1.symm))
    · rw [show i = k + 1 by omega]; exact Nat.le_refl _
/-- The view of what is kept, against the view of all, as far as it has come. -/
theorem view_step {old : Nat} {sp S : Ps} {u : List Nat} {s : Nat} (hS : S.Pairwise Lt) (hk : ∀ t ∈ S, isK t.1 = true) (hs : old ≤ s) : ∀ n, n ≤ S.length →
    (vwG (S.take n) u s = none ∧ vwG (kept old sp S n) u s = none) ∨ (∃ p, vwG (S.take n) u s = some p ∧ vwG (kept old sp S n) u s = some p) ∨
    (∃ j, j < n ∧ vwG (S.take n) u s = some (kA S j, vA S j) ∧ tailN (kA S j) % 256 = 0 ∧ seqA S j ≤ old ∧ userL (kA S j) = u ∧ inSp sp u = false ∧ vwG (kept old sp S n) u s = none) := by
  intro n
  induction n with
  | zero => intro _; left; simp [kept, vwG]
  | succ n ih =>
    intro hn
    have hkn : isK (kA S n) = true := hk _ (List.mem_of_getElem? (ps_at (show n < S.length by omega)))
    rw [take_kA (show n < S.length by omega), kept_succ]
    rcases ih (by omega) with ⟨h1, h2⟩ | ⟨p, h1, h2⟩ | ⟨j, hj, h1, h2, h3, h4, h5, h6⟩
    · by_cases hm : mtc u s (kA S n, vA S n) = true
      · have hm0 := hm
        unfold mtc at hm0
        simp only [Bool.and_eq_true, decide_eq_true_eq] at hm0
        obtain ⟨_, hu, hq⟩ := hm0
        have hpred : (decide (0 < n) && (decide (userL (kA S n) = userL (kA S (n - 1))) && decide (seqA S (n - 1) ≤ old))) = false := by
          rw [Bool.eq_false_iff]
          intro hc
          simp only [Bool.and_eq_true, decide_eq_true_eq] at hc
          obtain ⟨c1, c2, c3⟩ := hc
          have hx : mtc u s (kA S (n - 1), vA S (n - 1)) = true := by
            unfold mtc
            simp only [Bool.and_eq_true, decide_eq_true_eq]
            exact ⟨hk _ (List.mem_of_getElem? (ps_at (show n - 1 < S.length by omega))), by rw [← c2]; exact hu, by unfold seqA at c3; omega⟩
          rw [vwG_mtc, List.find?_eq_none] at h1
          refine h1 (kA S (n - 1), vA S (n - 1)) ?_ hx
          refine List.mem_of_getElem? (i := n - 1) ?_
          rw [List.getElem?_take_of_lt (by omega)]
          exact ps_at (by omega)
        have hT : vwG (S.take n ++ [(kA S n, vA S n)]) u s = some (kA S n, vA S n) := by
          rw [vwG_mtc, find_app, ← vwG_mtc, h1]
          simp [hm]
        by_cases hst : stay old sp S n = true
        · right; left
          refine ⟨_, hT, ?_⟩
          rw [if_pos hst, vwG_mtc, find_app, ← vwG_mtc, h2]
          simp [hm]
        · right; right
          have hst2 : (decide (tailN (kA S n) % 256 = 0) && (decide (seqA S n ≤ old) && !inSp sp (userL (kA S n)))) = true := by
            rw [← Bool.not_eq_false]
            intro hf
            refine hst ?_
            unfold stay
            rw [hpred, hf]; rfl
          simp only [Bool.and_eq_true, decide_eq_true_eq, Bool.not_eq_true'] at hst2
          obtain ⟨q1, q2, q3⟩ := hst2
          refine ⟨n, by omega, hT, q1, q2, hu, by rw [← hu]; exact q3, ?_⟩
          rw [if_neg hst, List.append_nil]
          exact h2
      · have hm' : mtc u s (kA S n, vA S n) = false := by simpa using hm
        left
        refine ⟨by rw [vwG_mtc, find_app, ← vwG_mtc, h1]; simp [hm'], ?_⟩
        split
        · rw [vwG_mtc, find_app, ← vwG_mtc, h2]; simp [hm']
        · rw [List.append_nil]; exact h2
    · right; left
      exact ⟨p, by rw [vwG_mtc, find_app, ← vwG_mtc, h1]; rfl, by rw [vwG_mtc, find_app, ← vwG_mtc, h2]; rfl⟩
    · right; right
      refine ⟨j, by omega, by rw [vwG_mtc, find_app, ← vwG_mtc, h1]; rfl, h2, h3, h4, h5, ?_⟩
      by_cases hu : userL (kA S n) = u
      · have e1 : userL (kA S j) = userL (kA S n) := h4.trans hu.symm
        have e2 := same_user hS (show j ≤ n - 1 by omega) (show n - 1 ≤ n by omega) (by omega) e1
        have e3 := seq_falls_le hS (show j ≤ n - 1 by omega) (show n - 1 < S.length by omega) (e1.trans e2.symm)
        have hst : stay old sp S n = false := by
          unfold stay
          have : (decide (0 < n) && (decide (userL (kA S n) = userL (kA S (n - 1))) && decide (seqA S (n - 1) ≤ old))) = true := by
            simp only [Bool.and_eq_true, decide_eq_true_eq]
            exact ⟨by omega, e2.symm, by omega⟩
          rw [this]; rfl
        rw [hst]
        simp only [Bool.false_eq_true, if_false, List.append_nil]
        exact h6
      · have hm' : mtc u s (kA S n, vA S n) = false := by
          unfold mtc
          simp [hu]
        split
        · rw [vwG_mtc, find_app, ← vwG_mtc, h6]; simp [hm']
        · rw [List.append_nil]; exact h6
theorem keeps_in {old : Nat} {sp S : Ps} {u : List Nat} {s : Nat} (hS : S.Pairwise Lt) (hk : ∀ t ∈ S, isK t.1 = true) (hs : old ≤ s) (hi : inSp sp u = true) (y : Ps) : vwG (kept old sp S S.length ++ y) u s = vwG (S ++ y) u s := by
  have h := view_step (u := u) (sp := sp) hS hk hs S.length (Nat.le_refl _)
  rw [List.take_length] at h
  have e1 : ∀ x : Ps, vwG (x ++ y) u s = (vwG x u s).or (vwG y u s) := fun x => find_app _ _ _
  rw [e1, e1]
  rcases h with ⟨h1, h2⟩ | ⟨p, h1, h2⟩ | ⟨j, hj, _, _, _, _, h5, _⟩
  · rw [h1, h2]
  · rw [h1, h2]
  · rw [hi] at h5; cases h5
theorem keeps_out {old : Nat} {sp S : Ps} {u : List Nat} {s : Nat} (hS : S.Pairwise Lt) (hk : ∀ t ∈ S, isK t.1 = true) (hs : old ≤ s) : vwOk (vwG (kept old sp S S.length) u s) = vwOk (vwG S u s) ∧ vwX (vwG (kept old sp S S.length) u s) = vwX (vwG S u s) := by
  have h := view_step (u := u) (sp := sp) hS hk hs S.length (Nat.le_refl _)
  rw [List.take_length] at h
  rcases h with ⟨h1, h2⟩ | ⟨p, h1, h2⟩ | ⟨j, hj, h1, h2, _, _, _, h6⟩
  · rw [h1, h2]; exact ⟨rfl, rfl⟩
  · rw [h1, h2]; exact ⟨rfl, rfl⟩
  · rw [h1, h6]
    constructor
    · simp [vwOk, h2]
    · simp [vwX, h2]
/-- What is kept is a part, in order. -/
theorem kept_sub (old : Nat) (sp S : Ps) : ∀ i, i ≤ S.length → (kept old sp S i).Sublist (S.take i)
  | 0, _ => by simp [kept]
  | i + 1, h => by
    rw [take_kA (by omega), kept_succ]
    refine List.Sublist.append (kept_sub old sp S i (by omega)) ?_
    split
    · exact List.Sublist.refl _
    · exact List.nil_sublist _
end Go.Proofs.Ythmlpjogbdpgiaa
