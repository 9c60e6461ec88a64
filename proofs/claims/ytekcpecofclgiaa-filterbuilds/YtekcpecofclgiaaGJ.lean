/-
  The document's filters: May.
-/
import Derived.Test.YtekcpecofclgiaaGI
import Derived.Test.YtekcpecofclgiaaGD
namespace Go.Proofs.Ytekcpecofclgiaa
open Go.ChangeShapes Go.WideShapes Go.ChangeAt Go.RowKit

theorem hasB_at {m : List Nat} {bit x : Nat} (hx : m[bit / 8]? = some x) : hasB m bit = decide (x / 2 ^ (bit % 8) % 2 = 1) := by
  unfold hasB
  rw [List.getD_eq_getElem?_getD, hx, Option.getD_some, Nat.testBit_eq_decide_div_mod_eq]
theorem mayL_no {m key : List Nat} {t j : Nat} (hj : j < t) (h : hasB m (bt m.length key j) = false) : mayL m key t = false := by
  unfold mayL
  rw [decide_eq_false_iff_not]
  intro hh
  rw [hh j hj] at h; cases h
theorem mayL_yes {m key : List Nat} {t : Nat} (h : ∀ j, j < t → hasB m (bt m.length key j) = true) : mayL m key t = true := by
  unfold mayL
  rw [decide_eq_true_iff]; exact h
set_option maxRecDepth 20000 in
set_option maxHeartbeats 3200000 in
theorem rmay_c (w : World) {v kv : Value} {f key : List Nat} (hr : Rd w v (bv f)) (hb : By f) (hl : f.length ≤ 1000000000) (rk : Rd w kv (bv key)) (bk : By key) (hkl : key.length ≤ 140737488355328) :
    Calls Try.prog 27 #[v, kv] w fun e w' => e = .returned (.bool (mayF f key)) ∧ Fr [] w w' := by
  obtain ⟨a, c, hv⟩ := hr.form
  rw [bv_len] at hv
  obtain ⟨ka, kc, hkv⟩ := rk.form
  rw [bv_len] at hkv
  by_cases h9 : f.length < 9
  · have hm : mayF f key = true := by unfold mayF; rw [if_pos h9]
    rw [hm]
    subst hv
    subst hkv
    have hn : (f.length : Int) - 1 < 8 := by omega
    clear hr hb hm rk bk
    generalize f.length = n at *
    generalize key.length = kn at *
    go_enter Try.func27, Try.ntmps27
    go_wp2
    go_ret
    exact ⟨rfl, Fr.refl _ _⟩
  · obtain ⟨l, hl1⟩ : ∃ l, f.length = l + 1 := ⟨f.length - 1, by omega⟩
    obtain ⟨x, hx⟩ : ∃ x, f[l]? = some x := ⟨_, List.getElem?_eq_getElem (by omega)⟩
    have hg : f.getD (f.length - 1) 0 = x := by rw [hl1, Nat.add_sub_cancel, List.getD_eq_getElem?_getD, hx]; rfl
    have hx8 := hb x (List.mem_of_getElem? hx)
    subst hv
    subst hkv
    obtain ⟨q, o, c', hv, hbc⟩ := hr.place (by omega)
    simp only [Value.slice.injEq, true_and] at hv
    obtain ⟨rfl, rfl⟩ := hv
    have G0 : ∀ (i y : Nat), f[i]? = some y → w.cell? ⟨q, o + i, none⟩ = some (.int .u8 (y : Int)) := fun i y hy => by
      rcases hr.split with ⟨e, _⟩ | ⟨b', o', c', e, _, _, g⟩
      · rw [e] at hl1; simp at hl1
      · simp only [Value.slice.injEq, Option.some.injEq, Addr.mk.injEq] at e
        obtain ⟨⟨rfl, rfl, _⟩, _⟩ := e
        exact g _ _ hy
    have z := G0 l x hx
    have hm : mayF f key = if x < 1 ∨ 30 < x then true else mayL (f.take l) key x := by
      unfold mayF; rw [if_neg h9, hg, hl1, Nat.add_sub_cancel]
    by_cases hxx : x < 1 ∨ 30 < x
    · rw [hm, if_pos hxx, hl1]
      clear hr hb hm hx hg rk bk G0
      generalize key.length = kn at *
      rcases hxx with h | h
      all_goals
        go_enter Try.func27, Try.ntmps27
        go_wp2
        go_ret
        exact ⟨rfl, Fr.refl _ _⟩
    · rw [hm, if_neg hxx]
      have htl : (f.take l).length = l := by rw [List.length_take]; omega
      have ST : Hid (Calls Try.prog 46 #[.slice ka key.length kc, .int .u64 (8 * (l : Int)), .int .i64 (x : Int)] w fun e w' => ∃ v', e = .returned v' ∧ w'.ownsRow w.heap.size 56 1 v' x (stV key (8 * l) x) ∧ Fr [] w w') := by
        have := steps_c w rk bk hkl (8 * l) (by omega) (by omega) x (by omega)
        rw [show (((8 * l : Nat)) : Int) = 8 * (l : Int) from by omega] at this
        exact hid this
      have GG : Hid (∀ i W, i < x → Fr [] w W → ∃ y : Nat, W.cell? ⟨q, o + bt l key i / 8, none⟩ = some (.int .u8 (y : Int)) ∧ y < 256 ∧ hasB (f.take l) (bt (f.take l).length key i) = decide (y / 2 ^ (bt l key i % 8) % 2 = 1)) := hid fun i W hi fW => by
        have hd := bt_div (L := l) (by omega) key i
        obtain ⟨y, hy⟩ : ∃ y, f[bt l key i / 8]? = some y := ⟨_, List.getElem?_eq_getElem (by omega)⟩
        refine ⟨y, cell_fr fW (G0 _ _ hy), hb y (List.mem_of_getElem? hy), ?_⟩
        rw [htl]
        exact hasB_at (by rw [List.getElem?_take, if_pos hd]; exact hy)
      rw [hl1] at h9 hl hbc ⊢
      have hx1 : ¬ (x : Int) < 1 := by omega
      have hx2 : ¬ (30 : Int) < (x : Int) := by omega
      have hl8 : 8 ≤ l := by omega
      clear hr hb hm hx hg hl1 rk bk G0 htl h9
      generalize key.length = kn at *
      go_enter Try.func27, Try.ntmps27
      go_wp2_with fail
      refine ST.out.mono ?_
      rintro e w2 ⟨lv, rfl, ol, f2⟩
      obtain ⟨lb, lc, rfl, hlb, hlc, hcl⟩ := own_at ol (by omega)
      have F2 := hid f2
      have HCL : Hid (∀ j W, Fr [] w2 W → j < x → W.cell? ⟨lb, j, none⟩ = some (.int .u64 (bt l key j : Int))) := hid fun j W f hj => cell_fr f (hcl j _ (stV_at _ _ hj))
      clear ST ol f2 hcl hlb z
      go_wp2_with fail
      go_loopw [7] (fun v7 wr => ∃ j : Nat, j ≤ x ∧ v7 = .int .i64 (j : Int) ∧ Fr [] w2 wr ∧ ∀ i, i < j → hasB (f.take l) (bt (f.take l).length key i) = true) (fun v7 _ => x - (intOf v7).toNat)
      case atStart => exact ⟨0, Nat.zero_le _, rfl, Fr.refl _ _, fun i hi => absurd hi (by omega)⟩
      case round =>
        obtain ⟨j, hj, rfl, fj, aj⟩ := hrel
        have HJ := hid (And.intro fj aj)
        clear fj aj
        by_cases hlt2 : j < x
        · have zc := HCL.out j wr HJ.out.1 hlt2
          obtain ⟨y, zy, hy8, hhas⟩ := GG.out j wr hlt2 (F2.out.trans HJ.out.1)
          have hbd := bt_div (L := l) (by omega) key j
          have HH := hid hhas
          clear hhas
          generalize hbt : bt l key j = bit at *
          clear hbt
          have hq0 : (0 : Int) ≤ (bit : Int) / 8 := by omega
          have hq1 : (bit : Int) / 8 < (l : Int) + 1 := by omega
          have hq2 : ((bit : Int) / 8).toNat = bit / 8 := by omega
          have hr0 : (0 : Int) ≤ (bit : Int) % 8 := by omega
          have hr1 : (bit : Int) % 8 < 8 := by omega
          have hr2 : ((bit : Int) % 8).toNat = bit % 8 := by omega
          have hj0 : (0 : Int) ≤ (j : Int) := by omega
          have hj1 : (j : Int) < (x : Int) := by omega
          have hw1 : IntKind.u64.wrap ((bit : Int) / 8) = (bit : Int) / 8 := by rw [IntKind.wrap_u64]; omega
          have hw2 : IntKind.u64.wrap ((bit : Int) % 8) = (bit : Int) % 8 := by rw [IntKind.wrap_u64]; omega
          have htm : (bit : Int).tmod 8 = (bit : Int) % 8 := Int.tmod_eq_emod_of_nonneg (by omega)
          obtain ⟨ys, hys0⟩ : ∃ ys : Nat, ys = y / 2 ^ (bit % 8) := ⟨_, rfl⟩
          have hys : (y : Int) / 2 ^ (bit % 8) = (ys : Int) := by rw [hys0]; simp
          have hys8 : ys < 256 := by rw [hys0]; exact Nat.lt_of_le_of_lt (Nat.div_le_self _ _) hy8
          rw [← hys0] at HH
          clear hys0
          have htm2 : (ys : Int).tmod 2 = (ys : Int) % 2 := Int.tmod_eq_emod_of_nonneg (by omega)
          by_cases hbit : ys % 2 = 1
          · have hbi : (ys : Int) % 2 = 1 := by omega
            have HB : Hid (hasB (f.take l) (bt (f.take l).length key j) = true) := hid (by rw [HH.out]; exact decide_eq_true hbit)
            go_upto_region 8 with fail
            go_quiet (fail)
            go_wp2
            go_roundw
            case rel => exact ⟨j + 1, by omega, by go_num, HJ.out.1.drewN nq, fun i hi => by
              rcases Nat.lt_or_ge i j with h | h
              · exact HJ.out.2 i h
              · have : i = j := by omega
                subst this; exact HB.out⟩
            case measure => simp [intOf]; omega
          · have hbi : (ys : Int) % 2 = 0 := by omega
            have HB : Hid (hasB (f.take l) (bt (f.take l).length key j) = false) := hid (by rw [HH.out]; exact decide_eq_false hbit)
            go_upto_region 8 with fail
            go_quiet (fail)
            go_wp2
            go_ret
            refine ⟨?_, (F2.out.trans HJ.out.1).drewN nq⟩
            rw [mayL_no hlt2 HB.out]; rfl
        · have hjt : j = x := by omega
          subst hjt
          go_wp2
          go_ret
          refine ⟨?_, F2.out.trans HJ.out.1⟩
          rw [mayL_yes HJ.out.2]; rfl
end Go.Proofs.Ytekcpecofclgiaa
