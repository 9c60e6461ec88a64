/-
  Are entries looked at? The statements' own question.
-/
import Derived.Test.YtldcjkddalmkcaaOE
namespace Go.Proofs.Ytldcjkddalmkcaa
open Go.ChangeShapes Go.WideShapes Go.ChangeAt Go.RowKit

def okA (x : Ar) : Bool := !(decide (200 < x.v.length) && decide (x.v.length ≤ 16384)) && decide (x.u.length ≤ 300)
def fewB (ls : List Ar) : Bool := decide (ls.length ≤ 60) && ls.all okA
theorem ar_slices {w : World} {b o : Nat} {x : Ar} {uv vv : Value} (h : ArAt w b o x uv vv) : ∃ ua uc va vc, uv = .slice ua x.u.length uc ∧ vv = .slice va x.v.length vc := by
  obtain ⟨ua, uc, e1⟩ := h.ru.form
  obtain ⟨va, vc, e2⟩ := h.rv.form
  rw [bv_len] at e1 e2
  exact ⟨ua, uc, va, vc, e1, e2⟩
theorem fewB_bad {ls : List Ar} {i : Nat} {x : Ar} (h : ls[i]? = some x) (hx : okA x = false) : fewB ls = false := by
  unfold fewB
  have : ls.all okA = false := by
    rw [List.all_eq_false]
    exact ⟨x, List.mem_of_getElem? h, by rw [hx]; simp⟩
  rw [this, Bool.and_false]
theorem fewB_long {ls : List Ar} (h : 60 < ls.length) : fewB ls = false := by
  unfold fewB; rw [decide_eq_false (by omega)]; rfl
theorem fewB_good {ls : List Ar} (h : ls.length ≤ 60) (ha : ∀ j x, j < ls.length → ls[j]? = some x → okA x = true) : fewB ls = true := by
  unfold fewB
  rw [decide_eq_true h, Bool.true_and, List.all_eq_true]
  intro x hx
  obtain ⟨j, hj⟩ := List.getElem?_of_mem hx
  exact ha j x (Array.getElem?_eq_some_iff.1 (by simpa using hj : ls.toArray[j]? = some x)).1 hj
theorem fewB_all {ls : List Ar} (h : fewB ls = true) : ls.length ≤ 60 ∧ ∀ x ∈ ls, (x.v.length ≤ 200 ∨ 16384 < x.v.length) ∧ x.u.length ≤ 300 := by
  unfold fewB at h
  simp only [Bool.and_eq_true, decide_eq_true_eq, List.all_eq_true] at h
  refine ⟨h.1, fun x hx => ?_⟩
  have h2 := h.2 x hx
  unfold okA at h2
  simp only [Bool.and_eq_true, Bool.not_eq_true', Bool.and_eq_false_iff, decide_eq_false_iff_not, decide_eq_true_eq] at h2
  omega

set_option maxRecDepth 20000 in
set_option maxHeartbeats 2000000 in
theorem few_c (w : World) {la : Option Addr} {lc : Nat} {ls : List Ar} (hE : Ents w la ls) (hl : ls.length ≤ 9223372036854775807) :
    Calls Try.prog 8 #[.slice la ls.length lc] w fun e w' => e = .returned (.bool (fewB ls)) ∧ w' = w := by
  by_cases h60 : 60 < ls.length
  · rw [fewB_long h60]
    clear hE
    generalize ls.length = n at *
    go_enter Try.func8, Try.ntmps8
    go_wp2
    go_ret
    exact ⟨rfl, rfl⟩
  · have HE := hid hE
    obtain ⟨n, hn⟩ : ∃ n, n = ls.length := ⟨_, rfl⟩
    have HN := hid hn
    rw [← hn] at hl h60 ⊢
    obtain ⟨fb, hfb⟩ : ∃ fb, fb = fewB ls := ⟨_, rfl⟩
    rw [← hfb]
    have HFB := hid hfb
    clear hE hn hfb
    go_enter Try.func8, Try.ntmps8
    go_wp2
    go_loop [3] (fun v3 => ∃ i : Nat, i ≤ n ∧ v3 = .int .i64 (i : Int) ∧ ∀ j x, j < i → ls[j]? = some x → okA x = true) (fun v3 => n - (intOf v3).toNat)
    case atStart => exact ⟨0, Nat.zero_le _, rfl, fun j x h => by omega⟩
    case round =>
      obtain ⟨i, hi, rfl, ha⟩ := hrel
      have HA := hid ha
      clear ha
      by_cases hlt : i < n
      · obtain ⟨x, hx⟩ : ∃ x, ls[i]? = some x := ⟨_, List.getElem?_eq_getElem (by rw [← HN.out]; exact hlt)⟩
        obtain ⟨b, o, rfl, hc⟩ := HE.out (by have := HN.out; omega)
        obtain ⟨uv, vv, g⟩ := hc i x hx
        obtain ⟨ua, uc, va, vc, rfl, rfl⟩ := ar_slices g
        have c0 := g.c0
        have c1 := g.c1
        have l0 := g.lu
        have l1 := g.lv
        have HX := hid hx
        have HOK : Hid (okA x = true → ∀ j y, j < i + 1 → ls[j]? = some y → okA y = true) := fun hok j y hj hy => by
          by_cases e : j = i
          · subst e; rw [hx] at hy; cases hy; exact hok
          · exact HA.out j y (by omega) hy
        have HBAD : Hid (okA x = false → fb = false) := fun hok => by rw [HFB.out]; exact fewB_bad hx hok
        have HOA : Hid (okA x = (!(decide (200 < x.v.length) && decide (x.v.length ≤ 16384)) && decide (x.u.length ≤ 300))) := rfl
        generalize x.v.length = vl at *
        generalize x.u.length = ul at *
        clear g hc hx
        rcases (show vl ≤ 200 ∨ (200 < vl ∧ vl ≤ 16384) ∨ 16384 < vl from by omega) with q | ⟨q, q'⟩ | q
        · have d1 : decide ((200 : Int) < (vl : Int)) = false := by simp; omega
          by_cases hu : ul ≤ 300
          · have d2 : decide ((300 : Int) < (ul : Int)) = false := by simp; omega
            have OK := HOK.out (by rw [HOA.out, decide_eq_false (by omega), decide_eq_true hu]; rfl)
            have OK' := hid OK
            clear OK
            go_wp2
            go_round
            case rel => exact ⟨i + 1, by omega, by go_num, OK'.out⟩
            case measure => simp [intOf]; omega
          · have d2 : decide ((300 : Int) < (ul : Int)) = true := by simp; omega
            have BD := hid (HBAD.out (by rw [HOA.out, decide_eq_false (by omega : ¬ ul ≤ 300), Bool.and_false]))
            go_wp2
            go_ret
            exact ⟨by rw [BD.out]; rfl, rfl⟩
        · have d1 : decide ((200 : Int) < (vl : Int)) = true := by simp; omega
          have d3 : decide ((vl : Int) ≤ 16384) = true := by simp; omega
          have BD := hid (HBAD.out (by rw [HOA.out, decide_eq_true q, decide_eq_true q']; rfl))
          go_wp2
          go_ret
          exact ⟨by rw [BD.out]; rfl, rfl⟩
        · have d1 : decide ((200 : Int) < (vl : Int)) = true := by simp; omega
          have d3 : decide ((vl : Int) ≤ 16384) = false := by simp; omega
          by_cases hu : ul ≤ 300
          · have d2 : decide ((300 : Int) < (ul : Int)) = false := by simp; omega
            have OK := HOK.out (by rw [HOA.out, decide_eq_false (by omega : ¬ vl ≤ 16384), decide_eq_true hu, Bool.and_false]; rfl)
            have OK' := hid OK
            clear OK
            go_wp2
            go_round
            case rel => exact ⟨i + 1, by omega, by go_num, OK'.out⟩
            case measure => simp [intOf]; omega
          · have d2 : decide ((300 : Int) < (ul : Int)) = true := by simp; omega
            have BD := hid (HBAD.out (by rw [HOA.out, decide_eq_false (by omega : ¬ ul ≤ 300), Bool.and_false]))
            go_wp2
            go_ret
            exact ⟨by rw [BD.out]; rfl, rfl⟩
      · have hin : i = n := by omega
        subst hin
        have GD : Hid (fb = true) := by
          unfold Hid
          rw [HFB.out]
          exact fewB_good (by rw [← HN.out]; omega) (by rw [← HN.out]; exact HA.out)
        go_wp2
        go_ret
        exact ⟨by rw [GD.out]; rfl, rfl⟩
end Go.Proofs.Ytldcjkddalmkcaa
