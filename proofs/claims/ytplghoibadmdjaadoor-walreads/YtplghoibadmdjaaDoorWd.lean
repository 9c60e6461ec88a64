/-
  What bytes.Trim answers where the bytes 0 are cut off: is anything left?
-/
import Derived.Test.YtplghoibadmdjaaDoorRm
import Derived.Test.YtplghoibadmdjaaDoorWa
import Derived.Deep.Light
import Derived.Deep.RegionWith
namespace Go.Proofs.YtplghoibadmdjaaDoor
open Go.ChangeShapes Go.WideShapes Go.ChangeAt Go.RowKit

theorem Rd.shape {w : World} {a : Option Addr} {n c : Nat} {ns : List Nat} (h : Rd w (.slice a n c) (bv ns)) : n = ns.length := by
  obtain ⟨_, _, e⟩ := h.form
  simp only [Value.slice.injEq, bv_len] at e
  exact e.2.1

set_option maxRecDepth 20000 in
set_option maxHeartbeats 800000 in
theorem trimR_c {w : World} {v : Value} {ns : List Nat} (hr : Rd w v (bv ns)) (hb : By ns) (hl : ns.length ≤ 1000) :
    Calls Tryd.prog 40 #[v, .int .u8 0] w fun e w' => ∃ a k c, e = .returned (.slice a k c) ∧ w' = w ∧ Rd w (.slice a k c) (bv (ns.take k)) ∧ k ≤ ns.length ∧ ∀ x ∈ ns.drop k, x = 0 := by
  obtain ⟨a, c, hv⟩ := hr.form
  rw [bv_len] at hv
  subst hv
  have HR := hid hr
  have HB := hid hb
  clear hr hb
  go_enter Tryd.func40, Tryd.ntmps40
  go_wp2
  go_loop [0] (fun v0 => ∃ a k c, v0 = .slice a k c ∧ Rd w (.slice a k c) (bv (ns.take k)) ∧ k ≤ ns.length ∧ ∀ x ∈ ns.drop k, x = 0) (fun v0 => match v0 with | .slice _ k _ => k | _ => 0)
  case atStart => exact ⟨a, ns.length, c, rfl, by rw [List.take_length]; exact HR.out, Nat.le_refl _, fun x hx => by simp at hx⟩
  case round =>
    obtain ⟨a, k, c, rfl, h1, h2, h3⟩ := hrel
    have R1 := hid h1
    have R3 := hid h3
    clear h1 h3
    cases k with
    | zero =>
      go_wp2
      go_ret
      exact ⟨_, _, _, rfl, rfl, R1.out, h2, R3.out⟩
    | succ k =>
      have hlen : (ns.take (k + 1)).length = k + 1 := by rw [List.length_take]; omega
      obtain ⟨x, hx⟩ : ∃ x, ns[k]? = some x := ⟨_, List.getElem?_eq_getElem (by omega)⟩
      rcases R1.out.split with ⟨h, _⟩ | ⟨b, off, c', hv, hc, _, hcell⟩
      · rw [h] at hlen; cases hlen
      rw [hlen] at hv hc
      simp only [Value.slice.injEq] at hv
      obtain ⟨rfl, _, rfl⟩ := hv
      have hcx := hcell k x (by rw [List.getElem?_take, if_pos (by omega)]; exact hx)
      have hx256 := HB.out.at hx
      have HX := hid hx
      clear hcell hx
      have e1 : ((k + 1 : Nat) : Int) - 1 = (k : Int) := by omega
      by_cases hz : x = 0
      · subst hz
        have R1' : Hid (Rd w (.slice (some ⟨b, off, none⟩) k c) (bv (ns.take k))) := by
          have h := R1.out
          rw [show Value.slice (some ⟨b, off, none⟩) (k + 1) c = .slice (some ⟨b, off, none⟩) (ns.take (k + 1)).length c from by rw [hlen]] at h
          have := h.front (q := k) (by omega)
          rw [List.take_take, Nat.min_eq_left (by omega)] at this
          exact this
        have hkc : k ≤ c := by omega
        go_wp2
        go_round
        case rel =>
          refine ⟨_, k, c, rfl, R1'.out, by omega, fun y hy => ?_⟩
          rw [List.drop_eq_getElem_cons (by omega)] at hy
          rcases List.mem_cons.1 hy with rfl | hy
          · have := HX.out
            rw [List.getElem?_eq_getElem (by omega)] at this
            simpa using this
          · exact R3.out y hy
        case measure => simp
      · have hz' : ((x : Int) == 0) = false := beq_eq_false_iff_ne.2 (by omega)
        go_wp2
        go_ret
        exact ⟨_, _, _, rfl, rfl, R1.out, h2, R3.out⟩
set_option maxRecDepth 20000 in
set_option maxHeartbeats 800000 in
theorem trimL_c {w : World} {v : Value} {ns : List Nat} (hr : Rd w v (bv ns)) (hb : By ns) (hl : ns.length ≤ 1000) :
    Calls Tryd.prog 39 #[v, .int .u8 0] w fun e w' => ∃ a k c, e = .returned (.slice a k c) ∧ w' = w ∧ (k = 0 ↔ ∀ x ∈ ns, x = 0) := by
  obtain ⟨a, c, hv⟩ := hr.form
  rw [bv_len] at hv
  subst hv
  have HR := hid hr
  have HB := hid hb
  clear hr hb
  go_enter Tryd.func39, Tryd.ntmps39
  go_wp2
  go_loop [0] (fun v0 => ∃ (a : Option Addr) (ms ps : List Nat) (c : Nat), v0 = .slice a ms.length c ∧ Rd w (.slice a ms.length c) (bv ms) ∧ ns = ps ++ ms ∧ ∀ x ∈ ps, x = 0) (fun v0 => match v0 with | .slice _ k _ => k | _ => 0)
  case atStart => exact ⟨a, ns, [], c, rfl, HR.out, rfl, fun x hx => by simp at hx⟩
  case round =>
    obtain ⟨a, ms, ps, c, rfl, h1, h2, h3⟩ := hrel
    have R1 := hid h1
    have R2 := hid h2
    have R3 := hid h3
    have hml : ms.length ≤ ns.length := by rw [h2, List.length_append]; omega
    clear h1 h3 h2
    cases ms with
    | nil =>
      simp only [List.length_nil] at *
      go_wp2
      go_ret
      refine ⟨_, _, _, rfl, rfl, ⟨fun _ => ?_, fun _ => rfl⟩⟩
      rw [R2.out, List.append_nil]; exact R3.out
    | cons x ms =>
      have hx256 : x < 256 := HB.out x (by rw [R2.out]; simp)
      rcases R1.out.split with ⟨h, _⟩ | ⟨b, off, c', hv, hc, _, hcell⟩
      · cases h
      simp only [Value.slice.injEq] at hv
      obtain ⟨rfl, _, rfl⟩ := hv
      have hcx := hcell 0 x rfl
      rw [Nat.add_zero] at hcx
      clear hcell
      have B1 := hid (R1.out.back (q := 1) (by simp))
      simp only [List.length_cons, Nat.add_sub_cancel, List.drop_succ_cons, List.drop_zero] at *
      by_cases hz : x = 0
      · subst hz
        have R0 : Hid (c = 1 → Rd w (.slice (some ⟨b, off, none⟩) ms.length (c - 1)) (bv ms)) := fun h => Rd.none_ (by omega) (by omega)
        have hrl : Hid (∀ y ∈ ps ++ [0], y = 0) := fun y hy => by
          rcases List.mem_append.1 hy with hy | hy
          · exact R3.out y hy
          · simpa using hy
        have R2' : Hid (ns = ps ++ [0] ++ ms) := by unfold Hid; rw [List.append_assoc]; exact R2.out
        have RI : Hid (Rd w (.slice (if c = 1 then some ⟨b, off, none⟩ else some ⟨b, off + 1, none⟩) ms.length (c - 1)) (bv ms)) := by
          unfold Hid
          by_cases h : c = 1
          · rw [if_pos h]; exact R0.out h
          · rw [if_neg h]; exact B1.out
        go_wp2
        go_round
        case rel => exact ⟨_, ms, ps ++ [0], _, rfl, RI.out, R2'.out, hrl.out⟩
        case measure => simp
      · have hz' : ((x : Int) == 0) = false := beq_eq_false_iff_ne.2 (by omega)
        go_wp2
        go_ret
        refine ⟨_, _, _, rfl, rfl, ⟨fun h => by omega, fun h => ?_⟩⟩
        exact absurd (h x (by rw [R2.out]; simp)) hz
set_option maxRecDepth 20000 in
set_option maxHeartbeats 800000 in
theorem trim_c {w : World} {v : Value} {ns : List Nat} (hr : Rd w v (bv ns)) (hb : By ns) (hl : ns.length ≤ 1000) :
    Calls Tryd.prog 33 #[v, .string ⟨#[0]⟩] w fun e w' => ∃ a k c, e = .returned (.slice a k c) ∧ Fr [] w w' ∧ (k = 0 ↔ ∀ x ∈ ns, x = 0) := by
  obtain ⟨a, c, hv⟩ := hr.form
  rw [bv_len] at hv
  subst hv
  by_cases h0 : ns.length = 0
  · have : ns = [] := List.eq_nil_of_length_eq_zero h0
    subst this
    simp only [List.length_nil]
    clear hr
    go_enter Tryd.func33, Tryd.ntmps33
    go_wp2
    go_ret
    exact ⟨_, _, _, rfl, Fr.refl _ _, by simp⟩
  · have h1 : ((ns.length : Int) == 0) = false := beq_eq_false_iff_ne.2 (by omega)
    have TR := hid (trimR_c (w := w.drew) (hr.fr (Fr.refl _ _).drew) hb hl)
    have HB := hid hb
    clear hr hb
    go_enter Tryd.func33, Tryd.ntmps33
    go_wp2_with fail
    go_region_with (first
      | (go_at_call 40
         refine TR.out.mono ?_
         rintro e w1 ⟨a1, k1, c1, rfl, rfl, r1, hk1, hz1⟩
         have HR1 := hid r1
         have HZ1 := hid hz1
         clear r1 hz1)
      | (go_at_call 39
         refine (trimL_c HR1.out (HB.out.take k1) (by rw [List.length_take]; omega)).mono ?_
         rintro e w2 ⟨a2, k2, c2, rfl, rfl, hz2⟩
         have HZ2 := hid hz2
         clear hz2))
    all_goals go_wp2
    all_goals go_ret
    all_goals
      refine ⟨_, _, _, rfl, (Fr.refl _ _).drew, ?_⟩
      rw [HZ2.out]
      constructor
      · intro h x hx
        rw [← List.take_append_drop k1 ns] at hx
        rcases List.mem_append.1 hx with hx | hx
        · exact h x hx
        · exact HZ1.out x hx
      · intro h x hx
        exact h x (List.mem_of_mem_take hx)
end Go.Proofs.YtplghoibadmdjaaDoor
