/-
  The document's In; what its Sorted keeps, without the program.
-/
import Derived.Test.YthmlpjogbdpgiaaCR9
import Derived.Test.YthmlpjogbdpgiaaJ13
import Derived.Test.YthmlpjogbdpgiaaJ12
namespace Go.Proofs.Ythmlpjogbdpgiaa
open Go.ChangeShapes Go.WideShapes Go.ChangeAt Go.RowKit

set_option maxRecDepth 20000 in
set_option maxHeartbeats 3200000 in
theorem in_c (w : World) {uv v : Value} {u : List Nat} {sp : Ps} (ru : Rd w uv (bv u)) (bu : By u) (lu : u.length ≤ 140737488355328) (h : RdK w v sp) (hl : sp.length ≤ 1000000) :
    Calls Try.prog 19 #[uv, v] w fun e w' => e = .returned (.bool (inSp sp u)) ∧ Fr [] w w' := by
  obtain ⟨a, c, rfl, hc, k1⟩ := h
  have H1 := hid k1
  have HU := hid ru
  obtain ⟨n, hn⟩ : ∃ n, n = sp.length := ⟨_, rfl⟩
  have HN := hid hn
  rw [← hn] at hc hl ⊢
  clear k1 hn ru
  go_enter Try.func19, Try.ntmps19
  go_wp2_with fail
  go_loopw [5] (fun v5 wr => ∃ i : Nat, i ≤ n ∧ v5 = .int .i64 (i : Int) ∧ (∀ j s, j < i → sp[j]? = some s → ¬ (cmpN s.1 u ≤ 0 ∧ cmpN u s.2 ≤ 0)) ∧ Fr [] w wr) (fun v5 _ => n - (intOf v5).toNat)
  case atStart => exact ⟨0, Nat.zero_le _, rfl, fun j s h => by omega, Fr.refl _ _⟩
  case round =>
    obtain ⟨i, hi, rfl, hno, hf⟩ := hrel
    have HF := hid hf
    have HNO := hid hno
    clear hf hno
    by_cases hlt : i < n
    · have hil : i < sp.length := by rw [← HN.out]; exact hlt
      obtain ⟨b, off, rfl, m⟩ := H1.out (by omega)
      obtain ⟨ka, kc, va, vc, P⟩ := m i _ (ps_at hil)
      have z1 := cell_fr HF.out P.ck
      have z2 := cell_fr HF.out P.cv
      dsimp only at z1 z2
      have B1 : Hid (∀ W, Fr [] w W → Calls Try.prog 21 #[.slice ka (kA sp i).length kc, uv] W fun e w' => e = .returned (.int .i64 (cmpN (kA sp i) u)) ∧ Fr [] W w') := hid (fun W f => refbytes_c (P.rk.fr f) (HU.out.fr f) P.bk bu P.lk lu)
      have B2 : Hid (∀ W, Fr [] w W → Calls Try.prog 21 #[uv, .slice va (vA sp i).length vc] W fun e w' => e = .returned (.int .i64 (cmpN u (vA sp i))) ∧ Fr [] W w') := hid (fun W f => refbytes_c (HU.out.fr f) (P.rv.fr f) bu P.bv' lu P.lv)
      have hlt' : (i : Int) < (n : Int) := by omega
      have YES : Hid (cmpN (kA sp i) u ≤ 0 → cmpN u (vA sp i) ≤ 0 → inSp sp u = true) := hid (fun h1 h2 => (inSp_iff sp u).2 ⟨_, List.mem_of_getElem? (ps_at hil), h1, h2⟩)
      have NO : Hid (¬ (cmpN (kA sp i) u ≤ 0 ∧ cmpN u (vA sp i) ≤ 0) → ∀ j s, j < i + 1 → sp[j]? = some s → ¬ (cmpN s.1 u ≤ 0 ∧ cmpN u s.2 ≤ 0)) := hid (fun h j s hj hs => by
        by_cases e : j = i
        · subst e
          rw [ps_at hil] at hs
          cases hs
          exact h
        · exact HNO.out j s (by omega) hs)
      clear m P
      generalize (kA sp i).length = kl at *
      generalize (vA sp i).length = vl at *
      generalize cmpN (kA sp i) u = o1 at *
      generalize cmpN u (vA sp i) = o2 at *
      by_cases h1 : o1 ≤ 0
      · by_cases h2 : o2 ≤ 0
        · have Y := hid (YES.out h1 h2)
          go_wp2_with (first
            | (have zz := F2; clear zz; go_at_call 21; refine (B2.out _ F2.out).mono ?_; rintro e w3 ⟨rfl, f3⟩; have F3 := hid (F2.out.trans f3); clear f3)
            | (go_at_call 21; refine (B1.out _ HF.out).mono ?_; rintro e w2 ⟨rfl, f2⟩; have F2 := hid (HF.out.trans f2); have z3 := cell_fr f2 z2; clear f2))
          go_ret
          exact ⟨by rw [Y.out]; rfl, F3.out⟩
        · have N := hid (NO.out (fun h => h2 h.2))
          go_wp2_with (first
            | (have zz := F2; clear zz; go_at_call 21; refine (B2.out _ F2.out).mono ?_; rintro e w3 ⟨rfl, f3⟩; have F3 := hid (F2.out.trans f3); clear f3)
            | (go_at_call 21; refine (B1.out _ HF.out).mono ?_; rintro e w2 ⟨rfl, f2⟩; have F2 := hid (HF.out.trans f2); have z3 := cell_fr f2 z2; clear f2))
          go_roundw
          case rel => exact ⟨i + 1, by omega, by go_num, N.out, F3.out⟩
          case measure => simp [intOf]; omega
      · have N := hid (NO.out (fun h => h1 h.1))
        go_wp2_with (go_at_call 21; refine (B1.out _ HF.out).mono ?_; rintro e w2 ⟨rfl, f2⟩; have F2 := hid (HF.out.trans f2); clear f2)
        go_roundw
        case rel => exact ⟨i + 1, by omega, by go_num, N.out, F2.out⟩
        case measure => simp [intOf]; omega
    · have hie : i = n := by omega
      have Y : Hid (inSp sp u = false) := hid (by
        rcases hx : inSp sp u with _ | _
        · rfl
        · obtain ⟨s, hs, hc⟩ := (inSp_iff sp u).1 hx
          obtain ⟨j, hj⟩ := List.getElem?_of_mem hs
          have := (List.getElem?_eq_some_iff.1 hj).1
          exact absurd hc (HNO.out j s (by rw [hie, HN.out]; exact this) hj))
      have hlt' : ¬ (i : Int) < (n : Int) := by omega
      clear hie
      go_wp2
      go_ret
      exact ⟨by rw [Y.out]; rfl, HF.out⟩
theorem flat_set {rs : List Ps} {b : Nat} {x : List Nat × List Nat} {r : Ps} (h : rs[b]? = some (x :: r)) : (x :: (rs.set b r).flatten).Perm rs.flatten := by
  obtain ⟨hl, he⟩ := List.getElem?_eq_some_iff.1 h
  have e1 : rs = rs.take b ++ (x :: r) :: rs.drop (b + 1) := by rw [← he, ← List.drop_eq_getElem_cons hl, List.take_append_drop]
  have e2 : rs.set b r = rs.take b ++ r :: rs.drop (b + 1) := List.set_eq_take_append_cons_drop.trans (if_pos hl)
  rw [e2]
  conv => rhs; rw [e1]
  simp only [List.flatten_append, List.flatten_cons, List.cons_append]
  exact List.perm_middle.symm
end Go.Proofs.Ythmlpjogbdpgiaa
