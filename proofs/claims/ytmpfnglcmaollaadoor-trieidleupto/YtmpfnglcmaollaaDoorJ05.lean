/-
  How the document compares bytes, in tries' statements.
-/
import Derived.Test.YtmpfnglcmaollaaDoorJ04
namespace Go.Proofs.YtmpfnglcmaollaaDoor
open Go.ChangeShapes Go.WideShapes Go.ChangeAt Go.RowKit

set_option maxRecDepth 20000 in
set_option maxHeartbeats 1600000 in
theorem refbytes_c {w : World} {v1 v2 : Value} {a b : List Nat} (h1 : Rd w v1 (bv a)) (h2 : Rd w v2 (bv b)) (ha : By a) (hb : By b) (hl1 : a.length ≤ 140737488355328) (hl2 : b.length ≤ 140737488355328) :
    Calls Tryd.prog 55 #[v1, v2] w fun e w' => e = .returned (.int .i64 (cmpN a b)) ∧ Fr [] w w' := by
  have hlo : a = [] ∨ b = [] ∨ (0 < a.length ∧ 0 < b.length) := by
    cases a with
    | nil => exact .inl rfl
    | cons => cases b with
      | nil => exact .inr (.inl rfl)
      | cons => exact .inr (.inr (by simp))
  rcases hlo with rfl | rfl | ⟨p1, p2⟩
  · obtain ⟨a1, c1, hv1⟩ := h1.form
    obtain ⟨a2, c2, hv2⟩ := h2.form
    rw [bv_len] at hv1 hv2
    subst hv1
    subst hv2
    clear h1 h2 ha hb
    cases b with
    | nil =>
      go_enter Tryd.func55, Tryd.ntmps55
      go_wp2
      refine wp_loop_rounds 1 ?_
      rw [rounds_succ]
      go_wp2
      go_ret
      exact ⟨rfl, Fr.refl _ _⟩
    | cons y b =>
      have hc : cmpN [] (y :: b) = -1 := rfl
      rw [hc]
      have hp : 0 < (y :: b).length := by simp
      generalize (y :: b).length = n at *
      go_enter Tryd.func55, Tryd.ntmps55
      go_wp2
      refine wp_loop_rounds 1 ?_
      rw [rounds_succ]
      go_wp2
      go_ret
      exact ⟨rfl, Fr.refl _ _⟩
  · obtain ⟨a1, c1, hv1⟩ := h1.form
    obtain ⟨a2, c2, hv2⟩ := h2.form
    rw [bv_len] at hv1 hv2
    subst hv1
    subst hv2
    clear h1 h2 ha hb
    cases a with
    | nil =>
      go_enter Tryd.func55, Tryd.ntmps55
      go_wp2
      refine wp_loop_rounds 1 ?_
      rw [rounds_succ]
      go_wp2
      go_ret
      exact ⟨rfl, Fr.refl _ _⟩
    | cons y a =>
      have hc : cmpN (y :: a) [] = 1 := rfl
      rw [hc]
      have hp : 0 < (y :: a).length := by simp
      generalize (y :: a).length = n at *
      go_enter Tryd.func55, Tryd.ntmps55
      go_wp2
      refine wp_loop_rounds 1 ?_
      rw [rounds_succ]
      go_wp2
      go_ret
      exact ⟨rfl, Fr.refl _ _⟩
  · rcases h1.split with ⟨rfl, _⟩ | ⟨q, off, c, rfl, g1, _, hc⟩
    · simp at p1
    rcases h2.split with ⟨rfl, _⟩ | ⟨q2, off2, c2, rfl, g2, _, hc2⟩
    · simp at p2
    have HC := hid hc
    have HC2 := hid hc2
    clear h1 h2 ha hb hc hc2
    go_enter Tryd.func55, Tryd.ntmps55
    go_wp2
    go_loopw [5] (fun v5 wr => ∃ i : Nat, i ≤ a.length ∧ i ≤ b.length ∧ v5 = .int .i64 (i : Int) ∧ cmpN (a.drop i) (b.drop i) = cmpN a b ∧ Fr [] w wr) (fun v5 _ => a.length - (intOf v5).toNat)
    case atStart => exact ⟨0, by omega, by omega, rfl, rfl, Fr.refl _ _⟩
    case round =>
      obtain ⟨i, hi1, hi2, rfl, hcm, hf⟩ := hrel
      have HCM := hid hcm
      have HF := hid hf
      clear hcm hf
      by_cases hlt : i < a.length
      · by_cases hlt2 : i < b.length
        · obtain ⟨x, hx, hd⟩ := drop_at hlt
          obtain ⟨y, hy, hd2⟩ := drop_at hlt2
          have k1 : wr.cell? ⟨q, off + i, none⟩ = some (.int .u8 (x : Int)) := by
            have h6 := HC.out i x hx
            rw [World.cell?_of_block (w := w) (HF.out.block _ (World.block_lt_of_cell? w _ h6) (by simp))]; exact h6
          have k2 : wr.cell? ⟨q2, off2 + i, none⟩ = some (.int .u8 (y : Int)) := by
            have h6 := HC2.out i y hy
            rw [World.cell?_of_block (w := w) (HF.out.block _ (World.block_lt_of_cell? w _ h6) (by simp))]; exact h6
          have j1 : (i : Int) < (a.length : Int) := by omega
          have j2 : (i : Int) < (b.length : Int) := by omega
          have HD := hid hd
          have HD2 := hid hd2
          clear hd hd2 hx hy
          rcases Nat.lt_trichotomy x y with hxy | hxy | hxy
          · have e0 : ((x : Int) == (y : Int)) = false := by simp; omega
            have e1 : (x : Int) < (y : Int) := by omega
            have HR : Hid (cmpN a b = -1) := by unfold Hid; rw [← HCM.out, HD.out, HD2.out, cmpN, if_pos hxy]
            clear hxy
            go_wp2_with fail
            go_quiet (fail)
            go_wp2_with fail
            go_quiet (fail)
            go_wp2
            go_ret
            exact ⟨by rw [HR.out]; rfl, (HF.out.drewN _).drewN _⟩
          · have e0 : ((x : Int) == (y : Int)) = true := by simp; omega
            have HR : Hid (cmpN (a.drop (i + 1)) (b.drop (i + 1)) = cmpN a b) := by unfold Hid; rw [← HCM.out, HD.out, HD2.out, cmpN, if_neg (by omega), if_neg (by omega)]
            clear hxy
            go_wp2_with fail
            go_quiet (fail)
            go_wp2
            go_roundw
            case rel => exact ⟨i + 1, by omega, by omega, by go_num, HR.out, HF.out.drewN _⟩
            case measure => simp [intOf]; omega
          · have e0 : ((x : Int) == (y : Int)) = false := by simp; omega
            have e1 : decide ((x : Int) < (y : Int)) = false := by simp; omega
            have e2 : decide (x < y) = false := by simp; omega
            have HR : Hid (cmpN a b = 1) := by unfold Hid; rw [← HCM.out, HD.out, HD2.out, cmpN, if_neg (by omega), if_pos hxy]
            clear hxy
            go_wp2_with fail
            go_quiet (fail)
            go_wp2_with fail
            go_quiet (fail)
            go_wp2
            go_ret
            exact ⟨by rw [HR.out]; rfl, (HF.out.drewN _).drewN _⟩
        · have hib : i = b.length := by omega
          have HR : Hid (cmpN a b = 1) := by
            obtain ⟨x, hx, hd⟩ := drop_at hlt
            have hn : b.drop i = [] := List.drop_eq_nil_of_le (by omega)
            unfold Hid; rw [← HCM.out, hd, hn]; rfl
          have j1 : (i : Int) < (a.length : Int) := by omega
          have j2 : (b.length : Int) < (a.length : Int) := by omega
          go_wp2
          go_ret
          exact ⟨by rw [HR.out]; rfl, HF.out⟩
      · have hia : i = a.length := by omega
        by_cases hlt2 : i < b.length
        · have HR : Hid (cmpN a b = -1) := by
            obtain ⟨x, hx, hd⟩ := drop_at hlt2
            have hn : a.drop i = [] := List.drop_eq_nil_of_le (by omega)
            unfold Hid; rw [← HCM.out, hd, hn]; rfl
          have j2 : (a.length : Int) < (b.length : Int) := by omega
          go_wp2
          go_ret
          exact ⟨by rw [HR.out]; rfl, HF.out⟩
        · have HR : Hid (cmpN a b = 0) := by
            have hn : a.drop i = [] := List.drop_eq_nil_of_le (by omega)
            have hn2 : b.drop i = [] := List.drop_eq_nil_of_le (by omega)
            unfold Hid; rw [← HCM.out, hn, hn2]; rfl
          have j2 : b.length ≤ a.length := by omega
          have j3 : a.length ≤ b.length := by omega
          go_wp2
          go_ret
          exact ⟨by rw [HR.out]; rfl, HF.out⟩
end Go.Proofs.YtmpfnglcmaollaaDoor
namespace Go.Proofs.YtmpfnglcmaollaaDoor
open Go.ChangeShapes Go.WideShapes Go.ChangeAt Go.RowKit

abbrev Mp := List (List Nat × List Nat)
/-- Keys rise. -/
def SortM (ps : Mp) : Prop := ps.Pairwise (fun a b => cmpN a.1 b.1 < 0)
theorem cmpN_lt2 {a b c : List Nat} (h1 : cmpN a b < 0) (h2 : cmpN b c < 0) : cmpN a c < 0 := by
  have h := cmpN_trans a b c (by omega) (by omega)
  rcases Int.lt_or_eq_of_le h with h | h
  · exact h
  · exfalso
    have e := (cmpN_eq a c).1 h
    subst e
    have := cmpN_neg a b
    omega
theorem cmpN_le_lt {a b c : List Nat} (h1 : cmpN a b ≤ 0) (h2 : cmpN b c < 0) : cmpN a c < 0 := by
  rcases Int.lt_or_eq_of_le h1 with h | h
  · exact cmpN_lt2 h h2
  · have e := (cmpN_eq a b).1 h
    subst e; exact h2
theorem cmpN_irr (a : List Nat) : ¬ cmpN a a < 0 := by rw [(cmpN_eq _ _).2 rfl]; omega
/-- How many entries stand ahead of a key. -/
def atM : Mp → List Nat → Nat
  | [], _ => 0
  | p :: ps, k => if cmpN p.1 k < 0 then atM ps k + 1 else 0
theorem atM_le : ∀ (ps : Mp) (k : List Nat), atM ps k ≤ ps.length
  | [], _ => Nat.le_refl _
  | p :: ps, k => by
    unfold atM
    split
    · have := atM_le ps k
      simp; omega
    · omega
theorem atM_lo : ∀ {ps : Mp} {k : List Nat} {j : Nat} {p : List Nat × List Nat}, j < atM ps k → ps[j]? = some p → cmpN p.1 k < 0
  | [], k, j, p, h, _ => by simp [atM] at h
  | q :: ps, k, j, p, h, hj => by
    unfold atM at h
    by_cases hc : cmpN q.1 k < 0
    · rw [if_pos hc] at h
      cases j with
      | zero => simp at hj; subst hj; exact hc
      | succ j =>
        have hj' : ps[j]? = some p := by simpa using hj
        exact atM_lo (ps := ps) (k := k) (by omega) hj'
    · rw [if_neg hc] at h; omega
theorem atM_hi : ∀ {ps : Mp} {k : List Nat} {p : List Nat × List Nat}, ps[atM ps k]? = some p → ¬ cmpN p.1 k < 0
  | [], k, p, h => by simp at h
  | q :: ps, k, p, h => by
    unfold atM at h
    by_cases hc : cmpN q.1 k < 0
    · rw [if_pos hc] at h
      exact atM_hi (by simpa using h)
    · rw [if_neg hc] at h
      simp at h; subst h; exact hc
/-- What is told of a row: where a scan stands. -/
theorem atM_scan {ps : Mp} {k : List Nat} {i : Nat} (hlo : ∀ j, j < i → ∀ p, ps[j]? = some p → cmpN p.1 k < 0) (hi : i ≤ ps.length) (hhi : ∀ p, ps[i]? = some p → ¬ cmpN p.1 k < 0) : i = atM ps k := by
  rcases Nat.lt_trichotomy i (atM ps k) with h | h | h
  · have hl := atM_le ps k
    have := atM_lo h (List.getElem?_eq_getElem (by omega))
    exact absurd this (hhi _ (List.getElem?_eq_getElem (by omega)))
  · exact h
  · have hlt : atM ps k < ps.length := by omega
    exact absurd (hlo _ h _ (List.getElem?_eq_getElem hlt)) (atM_hi (List.getElem?_eq_getElem hlt))
def thereM (ps : Mp) (k : List Nat) : Bool :=
  match ps[atM ps k]? with
  | some p => decide (p.1 = k)
  | none => false
def newM (k v : List Nat) : Mp := if v = [] then [] else [(k, v)]
def putM (ps : Mp) (k v : List Nat) : Mp := ps.take (atM ps k) ++ newM k v ++ ps.drop (atM ps k + (if thereM ps k = true then 1 else 0))
/-- A key's value in a row of pairs; none where there is none. -/
def mapV : Mp → List Nat → List Nat
  | [], _ => []
  | p :: ps, k => if p.1 = k then p.2 else mapV ps k
theorem putM_cons (q : List Nat × List Nat) (ps : Mp) (k v : List Nat) : putM (q :: ps) k v = if cmpN q.1 k < 0 then q :: putM ps k v else newM k v ++ (if q.1 = k then ps else q :: ps) := by
  by_cases hc : cmpN q.1 k < 0
  · have e : atM (q :: ps) k = atM ps k + 1 := if_pos hc
    have e2 : thereM (q :: ps) k = thereM ps k := by unfold thereM; rw [e]; rfl
    rw [if_pos hc]
    unfold putM
    rw [e, e2, show atM ps k + 1 + (if thereM ps k = true then 1 else 0) = (atM ps k + (if thereM ps k = true then 1 else 0)) + 1 by omega]
    rfl
  · have e : atM (q :: ps) k = 0 := if_neg hc
    rw [if_neg hc]
    unfold putM
    rw [e]
    have e2 : thereM (q :: ps) k = decide (q.1 = k) := by unfold thereM; rw [e]; rfl
    rw [e2]
    by_cases h : q.1 = k
    · simp [h]
    · simp [h]
theorem putM_nil (k v : List Nat) : putM [] k v = newM k v := by unfold putM; simp [atM, thereM]
theorem mapV_no {ps : Mp} {k : List Nat} (h : ∀ p ∈ ps, cmpN k p.1 < 0) : mapV ps k = [] := by
  induction ps with
  | nil => rfl
  | cons q ps ih =>
    unfold mapV
    rw [if_neg (fun e => by have := h q (by simp); rw [e] at this; exact cmpN_irr _ this)]
    exact ih fun p hp => h p (by simp [hp])
theorem mapV_newM (k v k' : List Nat) (r : Mp) : mapV (newM k v ++ r) k' = if k' = k ∧ v ≠ [] then v else mapV r k' := by
  unfold newM
  by_cases hv : v = []
  · rw [if_pos hv, if_neg (by simp [hv])]; rfl
  · rw [if_neg hv]
    show (if k = k' then v else mapV r k') = _
    by_cases hk : k' = k
    · rw [if_pos hk.symm, if_pos ⟨hk, hv⟩]
    · rw [if_neg (fun e => hk e.symm), if_neg (fun e => hk e.1)]
theorem mapV_put : ∀ {ps : Mp}, SortM ps → ∀ (k v k' : List Nat), mapV (putM ps k v) k' = if k' = k then v else mapV ps k'
  | [], _, k, v, k' => by
    rw [putM_nil]
    have := mapV_newM k v k' []
    rw [List.append_nil] at this
    rw [this]
    by_cases hk : k' = k
    · rw [if_pos hk]
      by_cases hv : v = []
      · rw [if_neg (by simp [hv]), hv]; rfl
      · rw [if_pos ⟨hk, hv⟩]
    · rw [if_neg hk, if_neg (fun e => hk e.1)]
  | q :: ps, h, k, v, k' => by
    have hs := List.pairwise_cons.1 h
    rw [putM_cons]
    by_cases hc : cmpN q.1 k < 0
    · rw [if_pos hc]
      show (if q.1 = k' then q.2 else mapV (putM ps k v) k') = if k' = k then v else (if q.1 = k' then q.2 else mapV ps k')
      rw [mapV_put hs.2]
      by_cases hq : q.1 = k'
      · rw [if_pos hq, if_neg (fun e => by rw [hq, e] at hc; exact cmpN_irr _ hc), if_pos hq]
      · rw [if_neg hq, if_neg hq]
    · rw [if_neg hc, mapV_newM]
      by_cases hk : k' = k
      · rw [if_pos hk]
        by_cases hv : v = []
        · rw [if_neg (by simp [hv]), hv, hk]
          by_cases hqk : q.1 = k
          · rw [if_pos hqk]
            exact mapV_no fun p hp => by rw [← hqk]; exact hs.1 p hp
          · rw [if_neg hqk]
            have hlt : cmpN k q.1 < 0 := by
              have h1 := cmpN_neg q.1 k
              have h2 : cmpN q.1 k ≠ 0 := fun e => hqk ((cmpN_eq _ _).1 e)
              omega
            exact mapV_no fun p hp => by
              rcases List.mem_cons.1 hp with rfl | hp
              · exact hlt
              · exact cmpN_lt2 hlt (hs.1 p hp)
        · rw [if_pos ⟨hk, hv⟩]
      · rw [if_neg hk, if_neg (fun e => hk e.1)]
        by_cases hqk : q.1 = k
        · rw [if_pos hqk]
          show _ = if q.1 = k' then q.2 else mapV ps k'
          rw [if_neg (fun e => hk (e.symm.trans hqk))]
        · rw [if_neg hqk]
theorem mem_putM {ps : Mp} {k v : List Nat} {p : List Nat × List Nat} (h : p ∈ putM ps k v) : p ∈ ps ∨ (p = (k, v) ∧ v ≠ []) := by
  unfold putM at h
  rcases List.mem_append.1 h with h | h
  · rcases List.mem_append.1 h with h | h
    · exact .inl (List.mem_of_mem_take h)
    · unfold newM at h
      by_cases hv : v = []
      · rw [if_pos hv] at h; cases h
      · rw [if_neg hv] at h; exact .inr ⟨List.mem_singleton.1 h, hv⟩
  · exact .inl (List.mem_of_mem_drop h)
theorem sort_put : ∀ {ps : Mp}, SortM ps → ∀ (k v : List Nat), SortM (putM ps k v)
  | [], _, k, v => by
    rw [putM_nil]
    unfold newM SortM
    split
    · exact List.Pairwise.nil
    · exact List.pairwise_singleton _ _
  | q :: ps, h, k, v => by
    have hs := List.pairwise_cons.1 h
    rw [putM_cons]
    by_cases hc : cmpN q.1 k < 0
    · rw [if_pos hc]
      refine List.pairwise_cons.2 ⟨fun p hp => ?_, sort_put hs.2 k v⟩
      rcases mem_putM hp with hp | ⟨rfl, _⟩
      · exact hs.1 p hp
      · exact hc
    · rw [if_neg hc]
      have hr : SortM (if q.1 = k then ps else q :: ps) ∧ ∀ p ∈ (if q.1 = k then ps else q :: ps), cmpN k p.1 < 0 := by
        by_cases hqk : q.1 = k
        · rw [if_pos hqk]
          exact ⟨hs.2, fun p hp => by rw [← hqk]; exact hs.1 p hp⟩
        · rw [if_neg hqk]
          have hlt : cmpN k q.1 < 0 := by
            have h1 := cmpN_neg q.1 k
            have h2 : cmpN q.1 k ≠ 0 := fun e => hqk ((cmpN_eq _ _).1 e)
            omega
          refine ⟨h, fun p hp => ?_⟩
          rcases List.mem_cons.1 hp with rfl | hp
          · exact hlt
          · exact cmpN_lt2 hlt (hs.1 p hp)
      unfold newM
      by_cases hv : v = []
      · rw [if_pos hv]; exact hr.1
      · rw [if_neg hv]
        exact List.pairwise_cons.2 ⟨hr.2, hr.1⟩
/-- An entry's value is what is told of its key. -/
theorem mapV_mem : ∀ {ps : Mp}, SortM ps → ∀ {p : List Nat × List Nat}, p ∈ ps → mapV ps p.1 = p.2
  | [], _, _, h => by cases h
  | q :: ps, h, p, hp => by
    have hs := List.pairwise_cons.1 h
    unfold mapV
    rcases List.mem_cons.1 hp with rfl | hp
    · rw [if_pos rfl]
    · rw [if_neg (fun e => by have := hs.1 p hp; rw [e] at this; exact cmpN_irr _ this)]
      exact mapV_mem hs.2 hp
theorem mapV_out : ∀ {ps : Mp} {k : List Nat}, (∀ p ∈ ps, p.1 ≠ k) → mapV ps k = []
  | [], _, _ => rfl
  | q :: ps, k, h => by
    unfold mapV
    rw [if_neg (h q (by simp))]
    exact mapV_out fun p hp => h p (by simp [hp])
end Go.Proofs.YtmpfnglcmaollaaDoor
