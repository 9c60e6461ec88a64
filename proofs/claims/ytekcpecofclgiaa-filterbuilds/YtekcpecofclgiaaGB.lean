/-
  Package block: the bits of a key set in a filter, or asked for.
-/
import Derived.Test.YtekcpecofclgiaaGA
namespace Go.Proofs.Ytekcpecofclgiaa
open Go.ChangeShapes Go.WideShapes Go.ChangeAt Go.RowKit

set_option maxRecDepth 20000 in
set_option maxHeartbeats 3200000 in
theorem each_set (w : World) {G B mc : Nat} {m : List Nat} (o : w.ownsRow B 5 1 (.slice (some ⟨G, 0, none⟩) m.length mc) m.length (bv m)) (hb : By m) (hL : 0 < m.length) (hl : m.length ≤ 1000000000) {kv : Value} {key : List Nat} (rk : Rd w kv (bv key)) (bk : By key) (hkl : key.length ≤ 140737488355328) (t : Nat) (ht : t ≤ 30) :
    Calls Try.prog 44 #[.slice (some ⟨G, 0, none⟩) m.length mc, kv, .int .i64 (t : Int), .func (.func 45) #[.slice (some ⟨G, 0, none⟩) m.length mc] #[]] w fun e w' => e = .returned (.bool true) ∧ w'.ownsRow B 5 1 (.slice (some ⟨G, 0, none⟩) m.length mc) m.length (bv (setN (bt m.length key) m t)) ∧ Fr [G] w w' := by
  have HO := hid o
  have HBY := hid hb
  have hcr := crc_lt bk
  have SC := hid (sum_c rk bk hkl)
  have RC := hid (fun W => rot_c W (crc key) hcr)
  obtain ⟨ka, kc, hkv⟩ := rk.form
  subst hkv
  generalize (bv key).length = kn at *
  have hd := rt_lt hcr
  obtain ⟨h0, hh0⟩ : ∃ h, h = crc key := ⟨_, rfl⟩
  have HB1 : Hid (∀ j, hs h0 (rt h0) j % (8 * m.length) = bt m.length key j) := hid fun j => by rw [hh0]; rfl
  have HLT : Hid (∀ j, hs h0 (rt h0) j < 4294967296) := hid fun j => hs_lt (by rw [hh0]; exact hcr) j
  rw [← hh0] at SC RC hcr hd
  clear hh0
  obtain ⟨d, hdd⟩ : ∃ d, d = rt h0 := ⟨_, rfl⟩
  rw [← hdd] at RC hd HB1 HLT
  have HNX : Hid (∀ j, hs h0 d (j + 1) = (hs h0 d j + d) % 4294967296) := hid fun j => rfl
  clear hdd
  have HST : Hid (∀ j W, W.ownsRow B 5 1 (.slice (some ⟨G, 0, none⟩) m.length mc) m.length (bv (setN (bt m.length key) m j)) → Calls Try.prog 45 #[.slice (some ⟨G, 0, none⟩) m.length mc, .int .u64 ((bt m.length key j : Nat) : Int)] W fun e w' => e = .returned (.bool true) ∧ w'.ownsRow B 5 1 (.slice (some ⟨G, 0, none⟩) m.length mc) m.length (bv (setN (bt m.length key) m (j + 1))) ∧ Fr [G] W w') := hid fun j W oW => by
    have h1 := setN_len (bt m.length key) m j
    have := set_c W (G := G) (B := B) (mc := mc) (m := setN (bt m.length key) m j) (by rw [h1]; exact oW) (setN_by _ HBY.out j) (bit := bt m.length key j) (by rw [h1]; exact bt_div hL key j) (by rw [h1]; exact hl)
    rw [h1] at this
    exact this
  clear rk o hb bk hkl
  generalize hLL : m.length = L at *
  go_enter Try.func44, Try.ntmps44
  go_wp2_with fail
  refine SC.out.mono ?_
  rintro e w1 ⟨rfl, rfl⟩
  go_wp2_with fail
  refine (RC.out w1).mono ?_
  rintro e w2 ⟨rfl, rfl⟩
  clear SC RC
  go_wp2_with fail
  go_loopw [9, 16] (fun v9 v16 wr => ∃ j : Nat, j ≤ t ∧ v16 = .int .i64 (j : Int) ∧ v9 = .int .u32 (hs h0 d j : Int) ∧ wr.ownsRow B 5 1 (.slice (some ⟨G, 0, none⟩) L mc) L (bv (setN (bt L key) m j)) ∧ Fr [G] w2 wr) (fun _ v16 _ => t - (intOf v16).toNat)
  case atStart => exact ⟨0, Nat.zero_le _, rfl, rfl, HO.out, Fr.refl _ _⟩
  case round =>
    obtain ⟨j, hj, rfl, rfl, oj, fj⟩ := hrel
    have HJ := hid (And.intro oj fj)
    clear oj fj
    by_cases hlt : j < t
    · have hb1 := HB1.out j
      have hlt32 := HLT.out j
      have hnx := HNX.out j
      have CS := hid (HST.out j wr HJ.out.1)
      have hbt : ((hs h0 d j : Int)) % (8 * (L : Int)) = ((bt L key j : Nat) : Int) := by rw [← hb1]; simp
      have HN1 := hid hnx
      clear hb1 hnx
      generalize hs h0 d j = hj' at *
      generalize hbb : bt L key j = bb at *
      clear hbb
      go_wp2_with fail
      refine CS.out.mono ?_
      rintro e w3 ⟨rfl, o3, f3⟩
      have H3 := hid (And.intro o3 (HJ.out.2.trans f3))
      clear o3 f3 CS
      go_wp2
      go_roundw
      case rel => exact ⟨j + 1, by omega, by go_num, by rw [HN1.out]; go_num, H3.out.1, H3.out.2⟩
      case measure => simp [intOf]; omega
    · have hje : j = t := by omega
      subst hje
      go_wp2
      go_ret
      exact ⟨rfl, HJ.out.1, HJ.out.2⟩
end Go.Proofs.Ytekcpecofclgiaa
