/-
  Package block: May.
-/
import Derived.Test.YtekcpecofclgiaaGC
import Derived.Test.YtekcpecofclgiaaGE
namespace Go.Proofs.Ytekcpecofclgiaa
open Go.ChangeShapes Go.WideShapes Go.ChangeAt Go.RowKit

def mayF (f key : List Nat) : Bool := if f.length < 9 then true else if f.getD (f.length - 1) 0 < 1 ∨ 30 < f.getD (f.length - 1) 0 then true else mayL (f.take (f.length - 1)) key (f.getD (f.length - 1) 0)
theorem may_flt {bits : Nat} {rs : List (List Nat)} {i : Nat} (hi : i < rs.length) : mayF (fltL bits rs) (rA rs i) = true := by
  unfold mayF
  have hl := fltL_len bits rs
  have hp := fL_pos bits rs.length
  have ht := fT_bd bits
  have hml := fM_len (fL bits rs.length) (fT bits) rs rs.length
  have hg : (fltL bits rs).getD ((fltL bits rs).length - 1) 0 = fT bits := by
    rw [hl, Nat.add_sub_cancel, List.getD_eq_getElem?_getD]
    unfold fltL
    rw [List.getElem?_append_right (by omega), hml, Nat.sub_self]; rfl
  have htk : (fltL bits rs).take ((fltL bits rs).length - 1) = fM (fL bits rs.length) (fT bits) rs rs.length := by
    rw [hl, Nat.add_sub_cancel]
    unfold fltL
    have := List.take_left (l₁ := fM (fL bits rs.length) (fT bits) rs rs.length) (l₂ := [fT bits])
    rwa [hml] at this
  rw [if_neg (by omega), hg, if_neg (by omega), htk]
  exact may_fM (by omega) hi
set_option maxRecDepth 20000 in
set_option maxHeartbeats 1600000 in
theorem may_c (w : World) {v kv : Value} {f key : List Nat} (hr : Rd w v (bv f)) (hb : By f) (hl : f.length ≤ 1000000000) (rk : Rd w kv (bv key)) (bk : By key) (hkl : key.length ≤ 140737488355328) :
    Calls Try.prog 26 #[v, kv] w fun e w' => e = .returned (.bool (mayF f key)) ∧ w' = w := by
  obtain ⟨a, c, hv⟩ := hr.form
  rw [bv_len] at hv
  by_cases h9 : f.length < 9
  · have hm : mayF f key = true := by unfold mayF; rw [if_pos h9]
    rw [hm]
    subst hv
    have hn : (f.length : Int) - 1 < 8 := by omega
    clear hr hb hm
    generalize f.length = n at *
    go_enter Try.func26, Try.ntmps26
    go_wp2
    go_ret
    exact ⟨rfl, rfl⟩
  · obtain ⟨l, hl1⟩ : ∃ l, f.length = l + 1 := ⟨f.length - 1, by omega⟩
    obtain ⟨x, hx⟩ : ∃ x, f[l]? = some x := ⟨_, List.getElem?_eq_getElem (by omega)⟩
    have hg : f.getD (f.length - 1) 0 = x := by rw [hl1, Nat.add_sub_cancel, List.getD_eq_getElem?_getD, hx]; rfl
    have hx8 := hb x (List.mem_of_getElem? hx)
    subst hv
    obtain ⟨q, o, c', hv, hbc⟩ := hr.place (by omega)
    simp only [Value.slice.injEq, true_and] at hv
    obtain ⟨rfl, rfl⟩ := hv
    have z : w.cell? ⟨q, o + l, none⟩ = some (.int .u8 (x : Int)) := by
      rcases hr.split with ⟨e, _⟩ | ⟨b', o', c', e, _, _, g⟩
      · rw [e] at hl1; simp at hl1
      · simp only [Value.slice.injEq, Option.some.injEq, Addr.mk.injEq] at e
        obtain ⟨⟨rfl, rfl, _⟩, _⟩ := e
        exact g _ _ hx
    have hm : mayF f key = if x < 1 ∨ 30 < x then true else mayL (f.take l) key x := by
      unfold mayF; rw [if_neg h9, hg, hl1, Nat.add_sub_cancel]
    by_cases hxx : x < 1 ∨ 30 < x
    · rw [hm, if_pos hxx, hl1]
      clear hr hb hm hx hg
      rcases hxx with h | h
      all_goals
        go_enter Try.func26, Try.ntmps26
        go_wp2
        go_ret
        exact ⟨rfl, rfl⟩
    · rw [hm, if_neg hxx]
      have htl : (f.take l).length = l := by rw [List.length_take]; omega
      have EH := each_has w (q := q) (o := o) (mc := c) (m := f.take l) (by rw [htl]; have := hr.front (q := l) (by omega); exact this) (hb.take _) (by rw [htl]; omega) (by rw [htl]; omega) rk bk hkl x (by omega)
      rw [htl] at EH
      have HE := hid EH
      obtain ⟨ka, kc, hkv⟩ := rk.form
      subst hkv
      rw [hl1] at h9 hl hbc ⊢
      have hx1 : ¬ (x : Int) < 1 := by omega
      have hx2 : ¬ (30 : Int) < (x : Int) := by omega
      clear hr hb hm hx hg EH hl1 rk
      generalize (bv key).length = kn at *
      go_enter Try.func26, Try.ntmps26
      go_wp2_with fail
      refine HE.out.mono ?_
      rintro e w1 ⟨rfl, rfl⟩
      go_wp2
      go_ret
      exact ⟨rfl, rfl⟩
end Go.Proofs.Ytekcpecofclgiaa
