/-
  Package block: the bits of a key asked for.
-/
import Derived.Test.YtobdegmlijnogaaJ29
namespace Go.Proofs.Ytobdegmlijnogaa
open Go.ChangeShapes Go.WideShapes Go.ChangeAt Go.RowKit

set_option maxRecDepth 20000 in
set_option maxHeartbeats 1600000 in
theorem has_c (w : World) {q o mc : Nat} {m : List Nat} (hr : Rd w (.slice (some ⟨q, o, none⟩) m.length mc) (bv m)) (hb : By m) {bit : Nat} (h : bit / 8 < m.length) (hl : m.length ≤ 1000000000) :
    Calls Try.prog 69 #[.slice (some ⟨q, o, none⟩) m.length mc, .int .u64 (bit : Int)] w fun e w' => e = .returned (.bool (hasB m bit)) ∧ w' = w := by
  obtain ⟨x, hx⟩ : ∃ x, m[bit / 8]? = some x := ⟨_, List.getElem?_eq_getElem h⟩
  have z : w.cell? ⟨q, o + bit / 8, none⟩ = some (.int .u8 (x : Int)) := by
    rcases hr.split with ⟨e, _⟩ | ⟨b', o', c', e, _, _, g⟩
    · rw [e] at h; simp at h
    · simp only [Value.slice.injEq, Option.some.injEq, Addr.mk.injEq] at e
      obtain ⟨⟨rfl, rfl, _⟩, _⟩ := e
      exact g _ _ hx
  have hx8 := hb x (List.mem_of_getElem? hx)
  have hbb : hasB m bit = decide (x / 2 ^ (bit % 8) % 2 = 1) := by
    unfold hasB
    rw [List.getD_eq_getElem?_getD, hx, Option.getD_some, Nat.testBit_eq_decide_div_mod_eq]
  have HBB := hid hbb
  clear hr hb hx hbb
  generalize m.length = ln at *
  have hand : bits .and .u8 ((x : Int) / 2 ^ (bit % 8)) 1 = ((x / 2 ^ (bit % 8) % 2 : Nat) : Int) := by
    have h1 : x / 2 ^ (bit % 8) < 256 := Nat.lt_of_le_of_lt (Nat.div_le_self _ _) hx8
    have h2 := u8_and_nat (x / 2 ^ (bit % 8)) 1 h1 (by omega)
    rw [Nat.and_one_is_mod] at h2
    rw [← h2]; simp
  have HA := hid hand
  clear hand
  go_enter Try.func69, Try.ntmps69
  go_wp2
  go_ret
  refine ⟨?_, rfl⟩
  rw [HBB.out]
  apply ret_bool
  show (bits .and .u8 ((x : Int) / 2 ^ (bit % 8)) 1 == 1) = _
  rw [HA.out]
  by_cases h : x / 2 ^ (bit % 8) % 2 = 1
  · rw [h]; rfl
  · rw [decide_eq_false h, show x / 2 ^ (bit % 8) % 2 = 0 from by omega]; rfl
set_option maxRecDepth 20000 in
set_option maxHeartbeats 3200000 in
theorem each_has (w : World) {q o mc : Nat} {m : List Nat} (hr : Rd w (.slice (some ⟨q, o, none⟩) m.length mc) (bv m)) (hb : By m) (hL : 0 < m.length) (hl : m.length ≤ 1000000000) {kv : Value} {key : List Nat} (rk : Rd w kv (bv key)) (bk : By key) (hkl : key.length ≤ 140737488355328) (t : Nat) (ht : t ≤ 30) :
    Calls Try.prog 54 #[.slice (some ⟨q, o, none⟩) m.length mc, kv, .int .i64 (t : Int), .func (.func 69) #[.slice (some ⟨q, o, none⟩) m.length mc] #[]] w fun e w' => e = .returned (.bool (mayL m key t)) ∧ w' = w := by
  have hcr := crc_lt bk
  have SC := hid (sum_c rk bk hkl)
  have RC := hid (fun W => rot_c W (crc key) hcr)
  obtain ⟨ka, kc, hkv⟩ := rk.form
  subst hkv
  generalize (bv key).length = kn at *
  have hd := rt_lt hcr
  obtain ⟨h0, hh0⟩ : ∃ h, h = crc key := ⟨_, rfl⟩
  have HB1 : Hid (∀ j, hs h0 (rt h0) j % (8 * m.length) = bt m.length key j) := hid fun j => by rw [hh0]; rfl
  have HLT : Hid (∀ j, hs h0 (rt h0) j < 4294967296) := hid fun j => hs_lt (by rw [hh0]; exact hcr) j
  rw [← hh0] at SC RC hcr hd
  clear hh0
  obtain ⟨d, hdd⟩ : ∃ d, d = rt h0 := ⟨_, rfl⟩
  rw [← hdd] at RC hd HB1 HLT
  have HNX : Hid (∀ j, hs h0 d (j + 1) = (hs h0 d j + d) % 4294967296) := hid fun j => rfl
  clear hdd
  have HST : Hid (∀ j, Calls Try.prog 69 #[.slice (some ⟨q, o, none⟩) m.length mc, .int .u64 ((bt m.length key j : Nat) : Int)] w fun e w' => e = .returned (.bool (hasB m (bt m.length key j))) ∧ w' = w) := hid fun j => has_c w hr hb (bt_div hL key j) hl
  have HM : Hid (mayL m key t = decide (∀ j, j < t → hasB m (bt m.length key j) = true)) := hid rfl
  clear rk hr hb bk hkl
  generalize m.length = L at *
  go_enter Try.func54, Try.ntmps54
  go_wp2_with fail
  refine SC.out.mono ?_
  rintro e w1 ⟨rfl, rfl⟩
  go_wp2_with fail
  refine (RC.out w1).mono ?_
  rintro e w2 ⟨rfl, rfl⟩
  clear SC RC
  go_wp2_with fail
  go_loopw [9, 16] (fun v9 v16 wr => ∃ j : Nat, j ≤ t ∧ v16 = .int .i64 (j : Int) ∧ v9 = .int .u32 (hs h0 d j : Int) ∧ (∀ i, i < j → hasB m (bt L key i) = true) ∧ wr = w2) (fun _ v16 _ => t - (intOf v16).toNat)
  case atStart => exact ⟨0, Nat.zero_le _, rfl, rfl, fun i hi => by omega, rfl⟩
  case round =>
    obtain ⟨j, hj, rfl, rfl, oj, rfl⟩ := hrel
    have HJ := hid oj
    clear oj
    by_cases hlt : j < t
    · have hb1 := HB1.out j
      have hlt32 := HLT.out j
      have hnx := HNX.out j
      have CS := hid (HST.out j)
      have hbt : ((hs h0 d j : Int)) % (8 * (L : Int)) = ((bt L key j : Nat) : Int) := by rw [← hb1]; simp
      have HN1 := hid hnx
      clear hb1 hnx
      generalize hs h0 d j = hj' at *
      generalize hbb : bt L key j = bb at *
      have HBB := hid hbb
      clear hbb
      go_wp2_with fail
      refine CS.out.mono ?_
      rintro e w3 ⟨rfl, rfl⟩
      clear CS
      rcases hq : hasB m bb with _ | _
      · have HQ := hid hq
        clear hq
        go_wp2
        go_ret
        refine ⟨?_, rfl⟩
        rw [HM.out, decide_eq_false (fun h => by have := h j hlt; rw [HBB.out, HQ.out] at this; cases this)]
        rfl
      · have HQ := hid hq
        clear hq
        go_wp2
        go_roundw
        case rel =>
          refine ⟨j + 1, by omega, by go_num, by rw [HN1.out]; go_num, fun i hi => ?_, by first | rfl | trivial⟩
          by_cases hij : i = j
          · subst hij; rw [HBB.out]; exact HQ.out
          · exact HJ.out i (by omega)
        case measure => simp [intOf]; omega
    · have hje : j = t := by omega
      subst hje
      go_wp2
      go_ret
      refine ⟨?_, rfl⟩
      rw [HM.out, decide_eq_true (fun i hi => HJ.out i hi)]
      rfl
end Go.Proofs.Ytobdegmlijnogaa
namespace Go.Proofs.Ytobdegmlijnogaa
open Go.ChangeShapes Go.WideShapes Go.ChangeAt Go.RowKit

def mayF (f key : List Nat) : Bool := if f.length < 9 then true else if f.getD (f.length - 1) 0 < 1 ∨ 30 < f.getD (f.length - 1) 0 then true else mayL (f.take (f.length - 1)) key (f.getD (f.length - 1) 0)
theorem may_flt {bits : Nat} {rs : List (List Nat)} {i : Nat} (hi : i < rs.length) : mayF (fltL bits rs) (rA rs i) = true := by
  unfold mayF
  have hl := fltL_len bits rs
  have hp := fL_pos bits rs.length
  have ht := fT_bd bits
  have hml := fM_len (fL bits rs.length) (fT bits) rs rs.length
  have hg : (fltL bits rs).getD ((fltL bits rs).length - 1) 0 = fT bits := by
    rw [hl, Nat.add_sub_cancel, List.getD_eq_getElem?_getD]
    unfold fltL
    rw [List.getElem?_append_right (by omega), hml, Nat.sub_self]; rfl
  have htk : (fltL bits rs).take ((fltL bits rs).length - 1) = fM (fL bits rs.length) (fT bits) rs rs.length := by
    rw [hl, Nat.add_sub_cancel]
    unfold fltL
    have := List.take_left (l₁ := fM (fL bits rs.length) (fT bits) rs rs.length) (l₂ := [fT bits])
    rwa [hml] at this
  rw [if_neg (by omega), hg, if_neg (by omega), htk]
  exact may_fM (by omega) hi
set_option maxRecDepth 20000 in
set_option maxHeartbeats 1600000 in
theorem may_c (w : World) {v kv : Value} {f key : List Nat} (hr : Rd w v (bv f)) (hb : By f) (hl : f.length ≤ 1000000000) (rk : Rd w kv (bv key)) (bk : By key) (hkl : key.length ≤ 140737488355328) :
    Calls Try.prog 39 #[v, kv] w fun e w' => e = .returned (.bool (mayF f key)) ∧ w' = w := by
  obtain ⟨a, c, hv⟩ := hr.form
  rw [bv_len] at hv
  by_cases h9 : f.length < 9
  · have hm : mayF f key = true := by unfold mayF; rw [if_pos h9]
    rw [hm]
    subst hv
    have hn : (f.length : Int) - 1 < 8 := by omega
    clear hr hb hm
    generalize f.length = n at *
    go_enter Try.func39, Try.ntmps39
    go_wp2
    go_ret
    exact ⟨rfl, rfl⟩
  · obtain ⟨l, hl1⟩ : ∃ l, f.length = l + 1 := ⟨f.length - 1, by omega⟩
    obtain ⟨x, hx⟩ : ∃ x, f[l]? = some x := ⟨_, List.getElem?_eq_getElem (by omega)⟩
    have hg : f.getD (f.length - 1) 0 = x := by rw [hl1, Nat.add_sub_cancel, List.getD_eq_getElem?_getD, hx]; rfl
    have hx8 := hb x (List.mem_of_getElem? hx)
    subst hv
    obtain ⟨q, o, c', hv, hbc⟩ := hr.place (by omega)
    simp only [Value.slice.injEq, true_and] at hv
    obtain ⟨rfl, rfl⟩ := hv
    have z : w.cell? ⟨q, o + l, none⟩ = some (.int .u8 (x : Int)) := by
      rcases hr.split with ⟨e, _⟩ | ⟨b', o', c', e, _, _, g⟩
      · rw [e] at hl1; simp at hl1
      · simp only [Value.slice.injEq, Option.some.injEq, Addr.mk.injEq] at e
        obtain ⟨⟨rfl, rfl, _⟩, _⟩ := e
        exact g _ _ hx
    have hm : mayF f key = if x < 1 ∨ 30 < x then true else mayL (f.take l) key x := by
      unfold mayF; rw [if_neg h9, hg, hl1, Nat.add_sub_cancel]
    by_cases hxx : x < 1 ∨ 30 < x
    · rw [hm, if_pos hxx, hl1]
      clear hr hb hm hx hg
      rcases hxx with h | h
      all_goals
        go_enter Try.func39, Try.ntmps39
        go_wp2
        go_ret
        exact ⟨rfl, rfl⟩
    · rw [hm, if_neg hxx]
      have htl : (f.take l).length = l := by rw [List.length_take]; omega
      have EH := each_has w (q := q) (o := o) (mc := c) (m := f.take l) (by rw [htl]; have := hr.front (q := l) (by omega); exact this) (hb.take _) (by rw [htl]; omega) (by rw [htl]; omega) rk bk hkl x (by omega)
      rw [htl] at EH
      have HE := hid EH
      obtain ⟨ka, kc, hkv⟩ := rk.form
      subst hkv
      rw [hl1] at h9 hl hbc ⊢
      have hx1 : ¬ (x : Int) < 1 := by omega
      have hx2 : ¬ (30 : Int) < (x : Int) := by omega
      clear hr hb hm hx hg EH hl1 rk
      generalize (bv key).length = kn at *
      go_enter Try.func39, Try.ntmps39
      go_wp2_with fail
      refine HE.out.mono ?_
      rintro e w1 ⟨rfl, rfl⟩
      go_wp2
      go_ret
      exact ⟨rfl, rfl⟩
end Go.Proofs.Ytobdegmlijnogaa
