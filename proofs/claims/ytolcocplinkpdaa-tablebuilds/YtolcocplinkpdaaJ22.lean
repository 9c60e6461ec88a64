/-
  The footer laid down.
-/
import Derived.Test.YtolcocplinkpdaaJ19
import Derived.Lib.AppendStr
import Derived.Test.YtolcocplinkpdaaJ06
import Derived.Test.YtolcocplinkpdaaBD
import Derived.Test.YtolcocplinkpdaaJ09
namespace Go.Proofs.Ytolcocplinkpdaa
open Go.ChangeShapes Go.WideShapes Go.ChangeAt Go.RowKit

def q4 (a b c d i : Nat) : Nat := if i = 0 then a else if i = 1 then b else if i = 2 then c else d
def p4 (a b c d : Nat) : Nat → List Nat
  | 0 => []
  | i + 1 => p4 a b c d i ++ fixL (q4 a b c d i) 8
theorem p4_len (a b c d : Nat) : ∀ i, (p4 a b c d i).length = 8 * i
  | 0 => rfl
  | i + 1 => by rw [p4, List.length_append, p4_len a b c d i, fixL_len]; omega
theorem p4_all (a b c d : Nat) : p4 a b c d 4 = numsL a b c d := by
  simp [p4, q4, numsL]
theorem magic_cells : Lib.strCells { data := #[109, 111, 114, 97, 105, 110, 101, 49] } = bv magicL := by rfl

set_option maxRecDepth 20000 in
set_option maxHeartbeats 3200000 in
theorem footer_c (w : World) {B p : Nat} {v : Value} {xs : List Nat} (hB : B ≤ w.heap.size) (h : Wt w B p v xs) (hl : xs.length ≤ 1000000000) (a b c d : Nat) (ha : a < 18446744073709551616) (hb : b < 18446744073709551616) (hc : c < 18446744073709551616) (hd : d < 18446744073709551616) :
    Calls Try.prog 29 #[.pointer (some ⟨p, 0, none⟩), .agg #[.int .u64 (a : Int), .int .u64 (b : Int)], .agg #[.int .u64 (c : Int), .int .u64 (d : Int)]] w fun e w' => (∃ u, e = .returned u) ∧ ∃ v', Wt w' B p v' (xs ++ footL a b c d) ∧ Fr (p :: v.ownBlock.toList) w w' := by
  obtain ⟨fa, fc, hv, _⟩ := ownsRow_slice h.own
  subst hv
  have hp0 := h.at'
  have hlt := blk_lt hp0
  have H := hid h
  clear h
  obtain ⟨X, hX⟩ : ∃ X, X = xs.length := ⟨_, rfl⟩
  have HX := hid hX
  rw [← hX] at hl hp0 H ⊢
  clear hX
  have c0 : w.cell? ⟨p, 0, none⟩ = some (.slice fa X fc) := by rw [blk_cell hp0]; rfl
  clear hp0
  obtain ⟨W2, hW2⟩ : ∃ W2, W2 = ((w.alloc (.cells #[.int .u64 (a : Int), .int .u64 (b : Int)] 68)).alloc (.cells #[.int .u64 (c : Int), .int .u64 (d : Int)] 68)).alloc (.cells #[.int .u64 (a : Int), .int .u64 (b : Int), .int .u64 (c : Int), .int .u64 (d : Int)] 45) := ⟨_, rfl⟩
  have F2 : Hid (Fr [] w W2) := hid (by rw [hW2]; exact (((Fr.refl _ _).alloc _).alloc _).alloc _)
  have A2 : Hid (W2.heap[w.heap.size + 2]? = some (.cells #[.int .u64 (a : Int), .int .u64 (b : Int), .int .u64 (c : Int), .int .u64 (d : Int)] 45 (0, 0))) := hid (by rw [hW2]; exact new_at _ _ (by simp))
  have H2 := hid (H.out.fr F2.out)
  have hB2 : B ≤ W2.heap.size := Nat.le_trans hB F2.out.size
  have HNB : Hid (∀ k, (Value.slice fa X fc).ownBlock = some k → k < w.heap.size) := hid (fun k hk => (H.out.own.lt k hk).2)
  have q4b : ∀ i, q4 a b c d i < 18446744073709551616 := fun i => by unfold q4; split; exact ha; split; exact hb; split; exact hc; exact hd
  have HQ := hid q4b
  go_enter Try.func29, Try.ntmps29
  go_wp2_with fail
  try rw [← hW2]
  clear hW2 ha hb hc hd q4b
  go_loopw [25] (fun v25 wr => ∃ (i : Nat) (v' : Value), i ≤ 4 ∧ v25 = .int .i64 (i : Int) ∧ WtG W2 wr B p (.slice fa X fc) v' (xs ++ p4 a b c d i)) (fun v25 _ => 4 - (intOf v25).toNat)
  case atStart => exact ⟨0, _, by omega, rfl, by simp only [p4, List.append_nil]; exact H2.out.refl⟩
  case round =>
    obtain ⟨i, v', hi, rfl, hg⟩ := hrel
    have HG := hid hg
    obtain ⟨fa2, fc2, hv2, _⟩ := ownsRow_slice hg.wt.own
    have hl2 : (xs ++ p4 a b c d i).length = X + 8 * i := by rw [List.length_append, p4_len, HX.out]
    have HL2 := hid hl2
    rw [hl2] at hv2
    subst hv2
    have hB3 : B ≤ wr.heap.size := Nat.le_trans hB2 hg.fr.size
    have c1 : wr.cell? ⟨p, 0, none⟩ = some (.slice fa2 (X + 8 * i) fc2) := by rw [blk_cell hg.wt.at']; rfl
    clear hg hl2
    by_cases hlt4 : i < 4
    · have A3 : wr.heap[w.heap.size + 2]? = some (.cells #[.int .u64 (a : Int), .int .u64 (b : Int), .int .u64 (c : Int), .int .u64 (d : Int)] 45 (0, 0)) := HG.out.fr.at A2.out (by
        simp only [List.mem_cons, Option.mem_toList, not_or]
        exact ⟨by omega, fun e => by have := HNB.out _ e; omega⟩)
      have ci : wr.cell? ⟨w.heap.size + 2, i, none⟩ = some (.int .u64 (q4 a b c d i : Int)) := by
        rw [blk_cell A3]
        rcases (show i = 0 ∨ i = 1 ∨ i = 2 ∨ i = 3 from by omega) with e | e | e | e
        all_goals (subst e; rfl)
      have hqi := HQ.out i
      have HP : Hid (xs ++ p4 a b c d (i + 1) = (xs ++ p4 a b c d i) ++ fixL (q4 a b c d i) 8) := hid (by rw [p4, List.append_assoc])
      have hlz : Hid ((xs ++ p4 a b c d i).length + (fixL (q4 a b c d i) 8).length ≤ 140737488355328) := hid (by rw [HL2.out, fixL_len]; omega)
      have HZ : Hid (X + 8 * (i + 1) = (xs ++ p4 a b c d (i + 1)).length) := hid (by rw [List.length_append, p4_len, HX.out])
      generalize q4 a b c d i = nn at *
      clear A3 c0
      go_upto_region 5 with fail
      go_region_law (first
        | (go_simp
           go_at_call 58
           refine (fixed8_c _ nn hqi).mono ?_
           rintro e W4 ⟨v4, rfl, o4, f4⟩
           obtain ⟨a4, k4, rfl, _⟩ := ownsRow_slice o4
           have F4 := hid ((Fr.refl [] wr).drew.trans f4)
           have R4 := hid (Rd.ownN o4 (fixL_len _ _).symm)
           have c4 := cell_fr F4.out c1
           have hB4 := hid (Nat.le_trans hB3 F4.out.size)
           clear o4 f4)
        | (refine step_append_rdZ rfl (.tmp 33) (.tmp 35) rfl B (ownsRow_fr HG.out.wt.own F4.out) (by simp [Act.eval]) R4.out (by simp [Act.eval]) hlz.out hB4.out (X + 8 * (i + 1)) HP.out HZ.out ?_
           intro a5 k5 W5 o5 g5 q5
           have S4 := HG.out.quiet F4.out
           have b5 := (show W5.heap[p]? = some (.cells #[.slice fa2 (X + 8 * i) fc2] 62 (0, 0)) from (by rw [g5.block p (blk_lt S4.wt.at') (fun e => S4.wt.ne e.symm)]; exact S4.wt.at'))
           have c5 := (show W5.cell? ⟨p, 0, none⟩ = some (.slice fa2 (X + 8 * i) fc2) from (by rw [blk_cell b5]; rfl))
           have f5 := blk_frozen b5 0
           have S5 := hid (S4.step o5 g5 q5)
           clear o5 g5 q5 b5 S4))
      all_goals (
        clear c4 c5 f5 c1 ci
        go_wp2
        go_roundw
        case rel => exact ⟨i + 1, _, by omega, by go_num, S5.out⟩
        case measure => simp [intOf]; omega)
    · have hi4 : i = 4 := by omega
      subst hi4
      rw [p4_all] at HG HL2
      obtain ⟨nm, hnm⟩ : ∃ nm, nm = numsL a b c d := ⟨_, rfl⟩
      have HNM := hid hnm
      have hnl : nm.length = 32 := by rw [hnm, numsL_len]
      have BYN := hid (show By nm by rw [hnm]; exact numsL_by _ _ _ _)
      rw [← hnm] at HG HL2
      clear hnm
      rcases HG.out.wt.own.2 with ⟨e, _⟩ | ⟨g, cap, cur, e, _, _, hcap, _⟩
      · simp only [Value.slice.injEq] at e
        omega
      simp only [Value.slice.injEq] at e
      obtain ⟨rfl, hx1, rfl⟩ := e
      clear hx1
      have RT : Hid (Rd wr (.slice (some ⟨g, X, none⟩) 32 (fc2 - X)) (bv nm)) := hid (by
        have h1 := Rd.ownB HG.out.wt.own
        rw [← HL2.out] at h1
        have := h1.back (q := X) (by rw [HL2.out]; omega)
        rw [HX.out, List.drop_left, ← HX.out, HL2.out, Nat.zero_add, show X + 8 * 4 - X = 32 from by omega] at this
        exact this)
      have hcr := crc_lt BYN.out
      have SC := hid (sum_c RT.out BYN.out (by rw [hnl]; omega))
      have hcap2 : X + 32 ≤ fc2 := by rw [HL2.out] at hcap; omega
      clear hcap
      obtain ⟨cr, hcr'⟩ : ∃ cr, cr = crc nm := ⟨_, rfl⟩
      have HCR := hid hcr'
      rw [← hcr'] at hcr SC
      clear hcr' c0
      have hXc : ¬ fc2 = X := by omega
      have HP : Hid (xs ++ (nm ++ fixL cr 4) = (xs ++ nm) ++ fixL cr 4) := hid (by rw [List.append_assoc])
      have hlz : Hid ((xs ++ nm).length + (fixL cr 4).length ≤ 140737488355328) := hid (by rw [HL2.out, fixL_len]; omega)
      have HZ : Hid (X + 36 = (xs ++ (nm ++ fixL cr 4)).length) := hid (by rw [HP.out, List.length_append, HL2.out, fixL_len])
      go_upto_region 8 with (go_at_call 67; refine SC.out.mono ?_; rintro e w5 ⟨rfl, hw5⟩; rw [hw5]; clear hw5)
      go_region_law (first
        | (go_simp
           go_at_call 60
           refine (fixed4_c _ cr hcr).mono ?_
           rintro e W4 ⟨v4, rfl, o4, f4⟩
           obtain ⟨a4, k4, rfl, _⟩ := ownsRow_slice o4
           have F4 := hid ((Fr.refl [] wr).drew.trans f4)
           have R4 := hid (Rd.ownN o4 (fixL_len _ _).symm)
           have c4 := cell_fr F4.out c1
           have hB4 := hid (Nat.le_trans hB3 F4.out.size)
           clear o4 f4)
        | (refine step_append_rdZ rfl (.tmp 51) (.tmp 53) rfl B (ownsRow_fr HG.out.wt.own F4.out) (by simp [Act.eval]) R4.out (by simp [Act.eval]) hlz.out hB4.out (X + 36) HP.out HZ.out ?_
           intro a5 k5 W5 o5 g5 q5
           have S4 := HG.out.quiet F4.out
           have b5 := (show W5.heap[p]? = some (.cells #[.slice (some ⟨g, 0, none⟩) (X + 8 * 4) fc2] 62 (0, 0)) from (by rw [g5.block p (blk_lt S4.wt.at') (fun e => S4.wt.ne e.symm)]; exact S4.wt.at'))
           have c5 := (show W5.cell? ⟨p, 0, none⟩ = some (.slice (some ⟨g, 0, none⟩) (X + 8 * 4) fc2) from (by rw [blk_cell b5]; rfl))
           have f5 := blk_frozen b5 0
           have S5 := hid (S4.step o5 g5 q5)
           clear o5 g5 q5 b5 S4))
      all_goals (
        obtain ⟨W6, hW6⟩ : ∃ W6, W6 = W5.setCell ⟨p, 0, none⟩ (.slice a5 (X + 36) k5) := ⟨_, rfl⟩
        rw [← hW6] at S5 ⊢
        clear hW6 c5 f5 c4 c1
        have c6 : W6.cell? ⟨p, 0, none⟩ = some (.slice a5 (X + 36) k5) := by rw [blk_cell S5.out.wt.at']; rfl
        have hB6 : B ≤ W6.heap.size := Nat.le_trans hB2 S5.out.fr.size
        have HZ2 := HZ.out
        obtain ⟨i0, hi0, hz0, hz1, hz2⟩ := info_parts infoB
        have OW := hid S5.out.wt.own
        rw [← HZ2] at OW
        clear HZ2
        go_wp2_with (at_builtin; refine Lib.wpList_append_own_string _ rfl _ _ 28 9 rfl B 5 i0 Try.underlying28 Try.underlying9 hi0 hz0 hz1 hz2 _ _ _ rfl OW.out _ rfl (by unfold maxLen; simp only [ByteArray.size]; simp; omega) (by simp only [ByteArray.size]; simp; omega) hB6 ?_; intro v7 W7 o7 g7 _; obtain ⟨a7, k7, rfl, _⟩ := ownsRow_slice o7; have b7 := (show W7.heap[p]? = some (.cells #[.slice a5 (X + 36) k5] 62 (0, 0)) from (by rw [g7.block p (blk_lt S5.out.wt.at') (fun e => S5.out.wt.ne e.symm)]; exact S5.out.wt.at')); have c7 := (show W7.cell? ⟨p, 0, none⟩ = some (.slice a5 (X + 36) k5) from (by rw [blk_cell b7]; rfl)); have f7 := blk_frozen b7 0; have O7 := hid o7; have G7 := hid (show W6.grownBy W7 (Value.slice a5 (X + 36) k5).ownBlock from g7); have B7 := hid b7; clear o7 g7 b7))
      all_goals (
        go_end0
        have e1 : xs ++ footL a b c d = xs ++ (nm ++ fixL cr 4) ++ magicL := by
          unfold footL; rw [← HNM.out, ← HCR.out]; simp only [List.append_assoc]
        have o8 := O7.out
        rw [magic_cells, ← bv_append, ← e1] at o8
        have e2 : X + 36 + ({ data := #[109, 111, 114, 97, 105, 110, 101, 49] } : ByteArray).size = (xs ++ footL a b c d).length := by
          rw [e1, List.length_append, ← HZ.out]; rfl
        have hne : (Value.slice a7 (X + 36 + ({ data := #[109, 111, 114, 97, 105, 110, 101, 49] } : ByteArray).size) k7).ownBlock ≠ some p := own_not o8 B7.out (by decide)
        refine ⟨⟨_, rfl⟩, .slice a7 (X + 36 + 8) k7, ⟨by rw [blk_set B7.out]; rfl, ?_⟩, ?_⟩
        · refine ownsRow_of_block (w := W7) ?_ fun k hk => blk_setne _ _ _ (fun e => hne (by rw [← e]; exact hk))
          have := o8
          rw [show X + 36 + ({ data := #[109, 111, 114, 97, 105, 110, 101, 49] } : ByteArray).size = X + 36 + 8 from rfl] at this e2
          rw [← e2]; exact this
        · have f1 : Fr (p :: (Value.slice fa X fc).ownBlock.toList) W2 W7 := S5.out.fr.grown G7.out (fun k hk => by
            rcases S5.out.blk with e | e
            · left; rw [e] at hk; rw [hk]; simp
            · right; exact e k hk)
          exact ((F2.out.mono (by simp)).trans f1).set _ _ (.inl (by simp)))
end Go.Proofs.Ytolcocplinkpdaa
namespace Go.Proofs.Ytolcocplinkpdaa
open Go.ChangeShapes Go.WideShapes Go.ChangeAt Go.RowKit

set_option maxRecDepth 20000 in
set_option maxHeartbeats 1600000 in
theorem rot_c (w : World) (x : Nat) (hx : x < 4294967296) :
    Calls Try.prog 92 #[.int .u32 (x : Int), .int .i64 (-17)] w fun e w' => e = .returned (.int .u32 (rt x : Int)) ∧ w' = w := by
  have h15 : bits .and .u64 (IntKind.u64.wrap (-17)) 31 = 15 := by kernel_rfl
  have hor : bits .or .u32 (((x * 32768 % 4294967296 : Nat) : Int)) ((x / 131072 : Nat) : Int) = ((rt x : Nat) : Int) := u32_or_nat _ _ (by omega) (by omega)
  have e1 : ((x * 32768 % 4294967296 : Nat) : Int) = (x : Int) * 32768 % 4294967296 := by omega
  have e2 : ((x / 131072 : Nat) : Int) = (x : Int) / 131072 := by omega
  rw [e1, e2] at hor
  have HOR := hid hor
  clear hor e1 e2
  go_enter Try.func92, Try.ntmps92
  go_wp2
  go_ret
  refine ⟨?_, rfl⟩
  rw [← HOR.out]
  rfl
set_option maxRecDepth 20000 in
set_option maxHeartbeats 1600000 in
theorem set_c (w : World) {G B mc : Nat} {m : List Nat} (o : w.ownsRow B 5 1 (.slice (some ⟨G, 0, none⟩) m.length mc) m.length (bv m)) (hb : By m) {bit : Nat} (h : bit / 8 < m.length) (hl : m.length ≤ 1000000000) :
    Calls Try.prog 66 #[.slice (some ⟨G, 0, none⟩) m.length mc, .int .u64 (bit : Int)] w fun e w' => e = .returned (.bool true) ∧ w'.ownsRow B 5 1 (.slice (some ⟨G, 0, none⟩) m.length mc) m.length (bv (setB m bit)) ∧ Fr [G] w w' := by
  rcases o.2 with ⟨e, _⟩ | ⟨g, cap, cur, e, hB, hg, hc1, hc2, hsz, htk⟩
  · simp at e
  simp only [Value.slice.injEq, Option.some.injEq, Addr.mk.injEq] at e
  obtain ⟨⟨rfl, _⟩, _, rfl⟩ := e
  obtain ⟨x, hx⟩ : ∃ x, m[bit / 8]? = some x := ⟨_, List.getElem?_eq_getElem h⟩
  have z := o.cells rfl _ _ (bv_at hx)
  rw [Addr.add_lit, Nat.zero_add] at z
  have hx8 := hb x (List.mem_of_getElem? hx)
  have yf := blk_frozen hg
  have hpw : (2 : Nat) ^ (bit % 8) < 256 := by
    have : 2 ^ (bit % 8) < 2 ^ 8 := Nat.pow_lt_pow_right (by omega) (by omega)
    exact this
  have hor := u8_or_nat x (2 ^ (bit % 8)) hx8 hpw
  have e1 : ((2 ^ (bit % 8) : Nat) : Int) = (2 : Int) ^ (bit % 8) % 256 := by
    rw [← Nat.mod_eq_of_lt hpw]; simp
  rw [e1] at hor
  have S := o.stored (bit / 8) (.int .u8 ((x ||| 2 ^ (bit % 8) : Nat) : Int))
  have hset : (bv m).set (bit / 8) (.int .u8 ((x ||| 2 ^ (bit % 8) : Nat) : Int)) = bv (setB m bit) := by
    unfold setB bv
    rw [List.map_set, List.getD_eq_getElem?_getD, hx]; rfl
  rw [hset] at S
  have HS := hid S
  have HOR := hid hor
  clear hor hset S htk hsz hc1 hc2 hB o hg hx e1 hpw
  go_enter Try.func66, Try.ntmps66
  go_wp2
  go_ret
  rw [HOR.out]
  refine ⟨rfl, HS.out.1, ?_⟩
  exact (Fr.refl _ _).grown HS.out.2 (fun k hk => .inl (by simp at hk; simp [hk]))

end Go.Proofs.Ytolcocplinkpdaa
namespace Go.Proofs.Ytolcocplinkpdaa
open Go.ChangeShapes Go.WideShapes Go.ChangeAt Go.RowKit

set_option maxRecDepth 20000 in
set_option maxHeartbeats 3200000 in
theorem each_set (w : World) {G B mc : Nat} {m : List Nat} (o : w.ownsRow B 5 1 (.slice (some ⟨G, 0, none⟩) m.length mc) m.length (bv m)) (hb : By m) (hL : 0 < m.length) (hl : m.length ≤ 1000000000) {kv : Value} {key : List Nat} (rk : Rd w kv (bv key)) (bk : By key) (hkl : key.length ≤ 140737488355328) (t : Nat) (ht : t ≤ 30) :
    Calls Try.prog 65 #[.slice (some ⟨G, 0, none⟩) m.length mc, kv, .int .i64 (t : Int), .func (.func 66) #[.slice (some ⟨G, 0, none⟩) m.length mc] #[]] w fun e w' => e = .returned (.bool true) ∧ w'.ownsRow B 5 1 (.slice (some ⟨G, 0, none⟩) m.length mc) m.length (bv (setN (bt m.length key) m t)) ∧ Fr [G] w w' := by
  have HO := hid o
  have HBY := hid hb
  have hcr := crc_lt bk
  have SC := hid (sum_c rk bk hkl)
  have RC := hid (fun W => rot_c W (crc key) hcr)
  obtain ⟨ka, kc, hkv⟩ := rk.form
  subst hkv
  generalize (bv key).length = kn at *
  have hd := rt_lt hcr
  obtain ⟨h0, hh0⟩ : ∃ h, h = crc key := ⟨_, rfl⟩
  have HB1 : Hid (∀ j, hs h0 (rt h0) j % (8 * m.length) = bt m.length key j) := hid fun j => by rw [hh0]; rfl
  have HLT : Hid (∀ j, hs h0 (rt h0) j < 4294967296) := hid fun j => hs_lt (by rw [hh0]; exact hcr) j
  rw [← hh0] at SC RC hcr hd
  clear hh0
  obtain ⟨d, hdd⟩ : ∃ d, d = rt h0 := ⟨_, rfl⟩
  rw [← hdd] at RC hd HB1 HLT
  have HNX : Hid (∀ j, hs h0 d (j + 1) = (hs h0 d j + d) % 4294967296) := hid fun j => rfl
  clear hdd
  have HST : Hid (∀ j W, W.ownsRow B 5 1 (.slice (some ⟨G, 0, none⟩) m.length mc) m.length (bv (setN (bt m.length key) m j)) → Calls Try.prog 66 #[.slice (some ⟨G, 0, none⟩) m.length mc, .int .u64 ((bt m.length key j : Nat) : Int)] W fun e w' => e = .returned (.bool true) ∧ w'.ownsRow B 5 1 (.slice (some ⟨G, 0, none⟩) m.length mc) m.length (bv (setN (bt m.length key) m (j + 1))) ∧ Fr [G] W w') := hid fun j W oW => by
    have h1 := setN_len (bt m.length key) m j
    have := set_c W (G := G) (B := B) (mc := mc) (m := setN (bt m.length key) m j) (by rw [h1]; exact oW) (setN_by _ HBY.out j) (bit := bt m.length key j) (by rw [h1]; exact bt_div hL key j) (by rw [h1]; exact hl)
    rw [h1] at this
    exact this
  clear rk o hb bk hkl
  generalize hLL : m.length = L at *
  go_enter Try.func65, Try.ntmps65
  go_wp2_with fail
  refine SC.out.mono ?_
  rintro e w1 ⟨rfl, rfl⟩
  go_wp2_with fail
  refine (RC.out w1).mono ?_
  rintro e w2 ⟨rfl, rfl⟩
  clear SC RC
  go_wp2_with fail
  go_loopw [9, 16] (fun v9 v16 wr => ∃ j : Nat, j ≤ t ∧ v16 = .int .i64 (j : Int) ∧ v9 = .int .u32 (hs h0 d j : Int) ∧ wr.ownsRow B 5 1 (.slice (some ⟨G, 0, none⟩) L mc) L (bv (setN (bt L key) m j)) ∧ Fr [G] w2 wr) (fun _ v16 _ => t - (intOf v16).toNat)
  case atStart => exact ⟨0, Nat.zero_le _, rfl, rfl, HO.out, Fr.refl _ _⟩
  case round =>
    obtain ⟨j, hj, rfl, rfl, oj, fj⟩ := hrel
    have HJ := hid (And.intro oj fj)
    clear oj fj
    by_cases hlt : j < t
    · have hb1 := HB1.out j
      have hlt32 := HLT.out j
      have hnx := HNX.out j
      have CS := hid (HST.out j wr HJ.out.1)
      have hbt : ((hs h0 d j : Int)) % (8 * (L : Int)) = ((bt L key j : Nat) : Int) := by rw [← hb1]; simp
      have HN1 := hid hnx
      clear hb1 hnx
      generalize hs h0 d j = hj' at *
      generalize hbb : bt L key j = bb at *
      clear hbb
      go_wp2_with fail
      refine CS.out.mono ?_
      rintro e w3 ⟨rfl, o3, f3⟩
      have H3 := hid (And.intro o3 (HJ.out.2.trans f3))
      clear o3 f3 CS
      go_wp2
      go_roundw
      case rel => exact ⟨j + 1, by omega, by go_num, by rw [HN1.out]; go_num, H3.out.1, H3.out.2⟩
      case measure => simp [intOf]; omega
    · have hje : j = t := by omega
      subst hje
      go_wp2
      go_ret
      exact ⟨rfl, HJ.out.1, HJ.out.2⟩
end Go.Proofs.Ytolcocplinkpdaa
