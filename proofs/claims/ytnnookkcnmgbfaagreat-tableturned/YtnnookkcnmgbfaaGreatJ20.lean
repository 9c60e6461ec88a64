/-
  Package block: filters, a bit set, a bit asked for.
-/
import Derived.Test.YtnnookkcnmgbfaaGreatJ04
import Derived.Test.YtnnookkcnmgbfaaGreatJ07
import Derived.Test.YtnnookkcnmgbfaaGreatJ05
import Derived.Test.YtnnookkcnmgbfaaGreatJ03
import Derived.Test.YtnnookkcnmgbfaaGreatJ16
namespace Go.Proofs.YtnnookkcnmgbfaaGreat
open Go.ChangeShapes Go.WideShapes Go.ChangeAt Go.RowKit

set_option maxRecDepth 20000 in
set_option maxHeartbeats 1600000 in
theorem rot_c (w : World) (x : Nat) (hx : x < 4294967296) :
    Calls Tryz.prog 106 #[.int .u32 (x : Int), .int .i64 (-17)] w fun e w' => e = .returned (.int .u32 (rt x : Int)) ∧ w' = w := by
  have h15 : bits .and .u64 (IntKind.u64.wrap (-17)) 31 = 15 := by kernel_rfl
  have hor : bits .or .u32 (((x * 32768 % 4294967296 : Nat) : Int)) ((x / 131072 : Nat) : Int) = ((rt x : Nat) : Int) := u32_or_nat _ _ (by omega) (by omega)
  have e1 : ((x * 32768 % 4294967296 : Nat) : Int) = (x : Int) * 32768 % 4294967296 := by omega
  have e2 : ((x / 131072 : Nat) : Int) = (x : Int) / 131072 := by omega
  rw [e1, e2] at hor
  have HOR := hid hor
  clear hor e1 e2
  go_enter Tryz.func106, Tryz.ntmps106
  go_wp2
  go_ret
  refine ⟨?_, rfl⟩
  rw [← HOR.out]
  rfl
set_option maxRecDepth 20000 in
set_option maxHeartbeats 1600000 in
theorem set_c (w : World) {G B mc : Nat} {m : List Nat} (o : w.ownsRow B 5 1 (.slice (some ⟨G, 0, none⟩) m.length mc) m.length (bv m)) (hb : By m) {bit : Nat} (h : bit / 8 < m.length) (hl : m.length ≤ 1000000000) :
    Calls Tryz.prog 90 #[.slice (some ⟨G, 0, none⟩) m.length mc, .int .u64 (bit : Int)] w fun e w' => e = .returned (.bool true) ∧ w'.ownsRow B 5 1 (.slice (some ⟨G, 0, none⟩) m.length mc) m.length (bv (setB m bit)) ∧ Fr [G] w w' := by
  rcases o.2 with ⟨e, _⟩ | ⟨g, cap, cur, e, hB, hg, hc1, hc2, hsz, htk⟩
  · simp at e
  simp only [Value.slice.injEq, Option.some.injEq, Addr.mk.injEq] at e
  obtain ⟨⟨rfl, _⟩, _, rfl⟩ := e
  obtain ⟨x, hx⟩ : ∃ x, m[bit / 8]? = some x := ⟨_, List.getElem?_eq_getElem h⟩
  have z := o.cells rfl _ _ (bv_at hx)
  rw [Addr.add_lit, Nat.zero_add] at z
  have hx8 := hb x (List.mem_of_getElem? hx)
  have yf := blk_frozen hg
  have hpw : (2 : Nat) ^ (bit % 8) < 256 := by
    have : 2 ^ (bit % 8) < 2 ^ 8 := Nat.pow_lt_pow_right (by omega) (by omega)
    exact this
  have hor := u8_or_nat x (2 ^ (bit % 8)) hx8 hpw
  have e1 : ((2 ^ (bit % 8) : Nat) : Int) = (2 : Int) ^ (bit % 8) % 256 := by
    rw [← Nat.mod_eq_of_lt hpw]; simp
  rw [e1] at hor
  have S := o.stored (bit / 8) (.int .u8 ((x ||| 2 ^ (bit % 8) : Nat) : Int))
  have hset : (bv m).set (bit / 8) (.int .u8 ((x ||| 2 ^ (bit % 8) : Nat) : Int)) = bv (setB m bit) := by
    unfold setB bv
    rw [List.map_set, List.getD_eq_getElem?_getD, hx]; rfl
  rw [hset] at S
  have HS := hid S
  have HOR := hid hor
  clear hor hset S htk hsz hc1 hc2 hB o hg hx e1 hpw
  go_enter Tryz.func90, Tryz.ntmps90
  go_wp2
  go_ret
  rw [HOR.out]
  refine ⟨rfl, HS.out.1, ?_⟩
  exact (Fr.refl _ _).grown HS.out.2 (fun k hk => .inl (by simp at hk; simp [hk]))

end Go.Proofs.YtnnookkcnmgbfaaGreat
namespace Go.Proofs.YtnnookkcnmgbfaaGreat
open Go.ChangeShapes Go.WideShapes Go.ChangeAt Go.RowKit

set_option maxRecDepth 20000 in
set_option maxHeartbeats 3200000 in
theorem each_set (w : World) {G B mc : Nat} {m : List Nat} (o : w.ownsRow B 5 1 (.slice (some ⟨G, 0, none⟩) m.length mc) m.length (bv m)) (hb : By m) (hL : 0 < m.length) (hl : m.length ≤ 1000000000) {kv : Value} {key : List Nat} (rk : Rd w kv (bv key)) (bk : By key) (hkl : key.length ≤ 140737488355328) (t : Nat) (ht : t ≤ 30) :
    Calls Tryz.prog 89 #[.slice (some ⟨G, 0, none⟩) m.length mc, kv, .int .i64 (t : Int), .func (.func 90) #[.slice (some ⟨G, 0, none⟩) m.length mc] #[]] w fun e w' => e = .returned (.bool true) ∧ w'.ownsRow B 5 1 (.slice (some ⟨G, 0, none⟩) m.length mc) m.length (bv (setN (bt m.length key) m t)) ∧ Fr [G] w w' := by
  have HO := hid o
  have HBY := hid hb
  have hcr := crc_lt bk
  have SC := hid (sum_c rk bk hkl)
  have RC := hid (fun W => rot_c W (crc key) hcr)
  obtain ⟨ka, kc, hkv⟩ := rk.form
  subst hkv
  generalize (bv key).length = kn at *
  have hd := rt_lt hcr
  obtain ⟨h0, hh0⟩ : ∃ h, h = crc key := ⟨_, rfl⟩
  have HB1 : Hid (∀ j, hs h0 (rt h0) j % (8 * m.length) = bt m.length key j) := hid fun j => by rw [hh0]; rfl
  have HLT : Hid (∀ j, hs h0 (rt h0) j < 4294967296) := hid fun j => hs_lt (by rw [hh0]; exact hcr) j
  rw [← hh0] at SC RC hcr hd
  clear hh0
  obtain ⟨d, hdd⟩ : ∃ d, d = rt h0 := ⟨_, rfl⟩
  rw [← hdd] at RC hd HB1 HLT
  have HNX : Hid (∀ j, hs h0 d (j + 1) = (hs h0 d j + d) % 4294967296) := hid fun j => rfl
  clear hdd
  have HST : Hid (∀ j W, W.ownsRow B 5 1 (.slice (some ⟨G, 0, none⟩) m.length mc) m.length (bv (setN (bt m.length key) m j)) → Calls Tryz.prog 90 #[.slice (some ⟨G, 0, none⟩) m.length mc, .int .u64 ((bt m.length key j : Nat) : Int)] W fun e w' => e = .returned (.bool true) ∧ w'.ownsRow B 5 1 (.slice (some ⟨G, 0, none⟩) m.length mc) m.length (bv (setN (bt m.length key) m (j + 1))) ∧ Fr [G] W w') := hid fun j W oW => by
    have h1 := setN_len (bt m.length key) m j
    have := set_c W (G := G) (B := B) (mc := mc) (m := setN (bt m.length key) m j) (by rw [h1]; exact oW) (setN_by _ HBY.out j) (bit := bt m.length key j) (by rw [h1]; exact bt_div hL key j) (by rw [h1]; exact hl)
    rw [h1] at this
    exact this
  clear rk o hb bk hkl
  generalize hLL : m.length = L at *
  go_enter Tryz.func89, Tryz.ntmps89
  go_wp2_with fail
  refine SC.out.mono ?_
  rintro e w1 ⟨rfl, rfl⟩
  go_wp2_with fail
  refine (RC.out w1).mono ?_
  rintro e w2 ⟨rfl, rfl⟩
  clear SC RC
  go_wp2_with fail
  go_loopw [9, 16] (fun v9 v16 wr => ∃ j : Nat, j ≤ t ∧ v16 = .int .i64 (j : Int) ∧ v9 = .int .u32 (hs h0 d j : Int) ∧ wr.ownsRow B 5 1 (.slice (some ⟨G, 0, none⟩) L mc) L (bv (setN (bt L key) m j)) ∧ Fr [G] w2 wr) (fun _ v16 _ => t - (intOf v16).toNat)
  case atStart => exact ⟨0, Nat.zero_le _, rfl, rfl, HO.out, Fr.refl _ _⟩
  case round =>
    obtain ⟨j, hj, rfl, rfl, oj, fj⟩ := hrel
    have HJ := hid (And.intro oj fj)
    clear oj fj
    by_cases hlt : j < t
    · have hb1 := HB1.out j
      have hlt32 := HLT.out j
      have hnx := HNX.out j
      have CS := hid (HST.out j wr HJ.out.1)
      have hbt : ((hs h0 d j : Int)) % (8 * (L : Int)) = ((bt L key j : Nat) : Int) := by rw [← hb1]; simp
      have HN1 := hid hnx
      clear hb1 hnx
      generalize hs h0 d j = hj' at *
      generalize hbb : bt L key j = bb at *
      clear hbb
      go_wp2_with fail
      refine CS.out.mono ?_
      rintro e w3 ⟨rfl, o3, f3⟩
      have H3 := hid (And.intro o3 (HJ.out.2.trans f3))
      clear o3 f3 CS
      go_wp2
      go_roundw
      case rel => exact ⟨j + 1, by omega, by go_num, by rw [HN1.out]; go_num, H3.out.1, H3.out.2⟩
      case measure => simp [intOf]; omega
    · have hje : j = t := by omega
      subst hje
      go_wp2
      go_ret
      exact ⟨rfl, HJ.out.1, HJ.out.2⟩
end Go.Proofs.YtnnookkcnmgbfaaGreat
namespace Go.Proofs.YtnnookkcnmgbfaaGreat
open Go.ChangeShapes Go.WideShapes Go.ChangeAt Go.RowKit

theorem keyL_len (u : List Nat) (s k : Nat) : (keyL u s k).length = u.length + 8 := by unfold keyL; rw [List.length_append, fixL_len]
theorem keyL_by {u : List Nat} (h : By u) (s k : Nat) : By (keyL u s k) := h.append (fixL_by 8 _)
theorem keyL_user (u : List Nat) (s k : Nat) : userL (keyL u s k) = u := by
  unfold userL; rw [keyL_len, Nat.add_sub_cancel]; unfold keyL; exact List.take_left' rfl
theorem keyL_tail (u : List Nat) {s k : Nat} (hs : s ≤ 72057594037927935) (hk : k ≤ 1) : tailN (keyL u s k) = 256 * s + k := by
  unfold tailN; rw [keyL_len, Nat.add_sub_cancel]; unfold keyL
  rw [List.drop_left' rfl, unf_fixL]
  exact Nat.mod_eq_of_lt (show 256 * s + k < 256 ^ 8 by omega)
theorem keyL_is {u : List Nat} (hu : u.length ≤ 128) {s k : Nat} (hs : s ≤ 72057594037927935) (hk : k ≤ 1) : isK (keyL u s k) = true := by
  have ht := keyL_tail u hs hk
  unfold isK
  rw [show unf ((keyL u s k).drop ((keyL u s k).length - 8)) = 256 * s + k from ht, keyL_len]
  simp only [Bool.and_eq_true, decide_eq_true_eq]
  omega

theorem ordP_ne {u v : List Nat} {s t k l x : Int} (hx : x = cmpN u v) (h : ¬ x = 0) : ordP u v s t k l = x := by unfold ordP; rw [← hx, if_neg h]
theorem ordP_s1 {u v : List Nat} {s t k l x : Int} (hx : x = cmpN u v) (h : x = 0) (hs : t < s) : ordP u v s t k l = -1 := by
  unfold ordP; rw [← hx, if_pos h]; unfold cmpI; rw [if_pos hs]; rfl
theorem ordP_s2 {u v : List Nat} {s t k l x : Int} (hx : x = cmpN u v) (h : x = 0) (hs : s < t) : ordP u v s t k l = 1 := by
  unfold ordP; rw [← hx, if_pos h]; unfold cmpI; rw [if_neg (show ¬ t < s by omega), if_pos hs]; rfl
theorem ordP_k {u v : List Nat} {s t k l x : Int} (hx : x = cmpN u v) (h : x = 0) (hs : s = t) : ordP u v s t k l = cmpI l k := by
  unfold ordP; rw [← hx, if_pos h]; subst hs; rw [if_pos (show cmpI s s = 0 by unfold cmpI; simp)]

theorem ordK_key (u v : List Nat) {s t k : Nat} (hs : s ≤ 72057594037927935) (ht : t ≤ 72057594037927935) (hk : k ≤ 1) : ordK (keyL u s k) (keyL v t k) = ordP u v (s : Int) (t : Int) (k : Int) (k : Int) := by
  unfold ordK
  rw [keyL_user, keyL_user, keyL_tail u hs hk, keyL_tail v ht hk, show (256 * s + k) / 256 = s by omega, show (256 * t + k) / 256 = t by omega, show (256 * s + k) % 256 = k by omega, show (256 * t + k) % 256 = k by omega]

theorem less_cmp : ∀ (u v : List Nat), By u → By v → Op.bytesLess (u.map UInt8.ofNat) (v.map UInt8.ofNat) = decide (cmpN u v = -1)
  | [], [], _, _ => rfl
  | [], _ :: _, _, _ => rfl
  | _ :: _, [], _, _ => rfl
  | x :: a, y :: b, ha, hb => by
    have hx := ha x (by simp); have hy := hb y (by simp)
    have ih := less_cmp a b (fun n hn => ha n (List.mem_cons_of_mem _ hn)) (fun n hn => hb n (List.mem_cons_of_mem _ hn))
    have e : (UInt8.ofNat x < UInt8.ofNat y ↔ x < y) := by
      rw [UInt8.lt_iff_toNat_lt, UInt8.toNat_ofNat', UInt8.toNat_ofNat', Nat.mod_eq_of_lt hx, Nat.mod_eq_of_lt hy]
    have e2 : (UInt8.ofNat x = UInt8.ofNat y ↔ x = y) := by
      constructor
      · intro h
        have := congrArg UInt8.toNat h
        rw [UInt8.toNat_ofNat', UInt8.toNat_ofNat', Nat.mod_eq_of_lt hx, Nat.mod_eq_of_lt hy] at this
        exact this
      · intro h; rw [h]
    simp only [List.map_cons, Op.bytesLess, ih]
    rw [show cmpN (x :: a) (y :: b) = if x < y then -1 else if y < x then 1 else cmpN a b from rfl]
    rcases Nat.lt_trichotomy x y with h | h | h
    · rw [if_pos h]; simp [e.2 h]
    · have n1 : ¬ UInt8.ofNat x < UInt8.ofNat y := fun q => by have := e.1 q; omega
      rw [if_neg (by omega), if_neg (by omega), decide_eq_false n1, Bool.false_or, beq_iff_eq.2 (e2.2 h), Bool.true_and]
    · have n1 : ¬ UInt8.ofNat x < UInt8.ofNat y := fun q => by have := e.1 q; omega
      have n2 : ¬ UInt8.ofNat x = UInt8.ofNat y := fun q => by have := e2.1 q; omega
      rw [if_neg (by omega), if_pos h, decide_eq_false n1, Bool.false_or, beq_eq_false_iff_ne.2 n2, Bool.false_and]
      rfl
theorem strOf_toList (u : List Nat) : (strOf u).toList = u.map UInt8.ofNat := by
  rw [← strOf_data, ByteArray.toList_eq]
end Go.Proofs.YtnnookkcnmgbfaaGreat
namespace Go.Proofs.YtnnookkcnmgbfaaGreat
open Go.ChangeShapes Go.WideShapes Go.ChangeAt Go.RowKit

theorem rd_mark (w : World) (x : Nat) : Rd (w.alloc (.cells #[.int .u8 (x : Int)] 5 (1, 2))) (.slice (some ⟨w.heap.size, 0, none⟩) 1 1) (bv [x]) := by
  refine .inr ⟨_, _, rfl, by simp [bv], fun j u hj => ?_⟩
  rw [Addr.add_lit, Nat.zero_add, World.cell?_alloc_mark, ← Array.getElem?_toList]
  exact hj
def ps0 : Ps := [(keyL [97] 1 1, [120])]
theorem ps0_rises : Rises ps0 := fun i hi => by
  have h0 : i = 0 := by simp [ps0] at hi; exact hi
  subst h0
  show isK (keyL [97] 1 1) = true
  exact keyL_is (by simp) (by omega) (by omega)
theorem bod0 : bod 1 ps0 1 = ent 0 (keyL [97] 1 1) [120] := by
  show [] ++ ent (shd 1 ps0 0) (kA ps0 0) (vA ps0 0) = _
  rfl
theorem ent0 : (ent 0 (keyL [97] 1 1) [120]).length = 13 := by
  unfold ent
  simp [putL_lt, keyL_len]
theorem plc0 : (plc 1 ps0 1).length = 4 := by
  show (plc 1 ps0 0 ++ fixL _ 4).length = 4
  rw [List.length_append, fixL_len]; rfl
theorem blk0 : (blk 1 ps0).length = 21 := by
  unfold blk
  have e : ps0.length = 1 := rfl
  rw [e, List.length_append, List.length_append, fixL_len, plc0, bod0, ent0]
theorem by0 : ByP ps0 := fun p hp => by
  simp [ps0] at hp
  subst hp
  exact ⟨keyL_by (by unfold By; decide) 1 1, by unfold By; decide⟩

end Go.Proofs.YtnnookkcnmgbfaaGreat
namespace Go.Proofs.YtnnookkcnmgbfaaGreat
open Go.ChangeShapes Go.WideShapes Go.ChangeAt Go.RowKit

theorem makeM_run (w : World) {n : Nat} (hc : n ≤ 1000000000) : (Instr.makeSlice 146 (.int .i64 (n : Int)) (.int .i64 (n : Int))).run Tryz.prog w = .ok (.slice (some ⟨w.heap.size, 0, none⟩) n n) (w.alloc (.cells (madeCells #[.int .u8 0] n) 5)) := by
  obtain ⟨i0, hi, hz0, hz1, hz2⟩ := info_parts infoB
  have h := run_make (P := Tryz.prog) w 146 5 i0 (.int .u8 0) Tryz.underlying146 hi hz0 .i64 .i64 (n : Int) (n : Int) (by omega) (by omega) (by rw [hz2]; omega) (by omega)
  simpa [hz1, Value.cells] using h
theorem makeM_own (w : World) {n : Nat} (hc : n ≤ 1000000000) : (w.alloc (.cells (madeCells #[.int .u8 0] n) 5)).ownsRow w.heap.size 5 1 (.slice (some ⟨w.heap.size, 0, none⟩) n n) n (bv (List.replicate n 0)) := by
  have := World.ownsRow_lit (base := w.heap.size) (e := 5) (size := 1) w (madeCells #[.int .u8 0] n) n (Nat.le_refl _) (by unfold maxLen; omega) (by simp [madeCells])
  rw [toList_madeCells_one] at this
  have e : bv (List.replicate n 0) = List.replicate n (.int .u8 0) := by unfold bv; rw [List.map_replicate]; rfl
  rw [e]; exact this
theorem wpList_append_mk {w : World} {ops : Array Oper} {rest : List Oper} {o : Oper} {a : Act} {Q : Exit → Act → World → Prop} (hgd : o.guard = none) (s x : Operand)
    (ho : o.op = .call { callee := .builtin .append, args := #[s, x], argTypes := #[146, 146] }) (base : Nat) (hbase : base ≤ w.heap.size) (v : Value) (n : Nat) (xs : List Value) (hs : a.eval s = v) (hown : w.ownsRow base 5 1 v n xs) (G : Nat) (hx : a.eval x = .slice (some ⟨G, 0, none⟩) 1 1) {u : Value} {T : TypeId} (hG : w.heap[G]? = some (.cells #[u] T (0, 0)))
    (hu : u.oneCell' = true) (hl : n ≤ 100000000000)
    (h : ∀ v' w', w'.ownsRow base 5 1 v' (n + 1) (xs ++ [u]) → w.grownBy w' v.ownBlock → wpList Tryz.prog ops Q rest (a.put o.dst v') w') :
    wpList Tryz.prog ops Q (o :: rest) a w := by
  obtain ⟨i0, hi, hz0, hz1, hz2⟩ := info_parts infoB
  refine wpList_append_own_at w hgd s x 146 ho base 5 i0 _ 1 1 Tryz.underlying146 hi hz0 hz1 hz2 rfl (by decide) v n xs hs hown ⟨G, 0, none⟩ 1 1 [u] hx rfl ?_ ?_ (by unfold maxLen; omega) (by omega) hbase fun v' w' h1 h2 _ _ => h v' w' h1 h2
  · intro j u' hj
    rw [Addr.add_lit, Nat.zero_add, blk_cell hG, ← Array.getElem?_toList]
    exact hj
  · intro u' hu'
    simp at hu'
    subst hu'; exact hu
set_option maxRecDepth 20000 in
set_option maxHeartbeats 1600000 in
theorem filter_plan (w : World) {a : Option Addr} {n c : Nat} (bits : Int) (hr : bits < 1 ∨ 64 < bits) :
    Calls Tryz.prog 48 #[.slice a n c, .int .i64 bits] w fun e w' => e = .returned (.tuple #[.slice none 0 0, .int .i64 71]) ∧ Fr [] w w' := by
  rcases hr with hr | hr
  all_goals
    go_enter Tryz.func48, Tryz.ntmps48
    go_wp2
    go_ret2
    exact ⟨rfl, Fr.refl _ _⟩
theorem rA_at {rs : List (List Nat)} {i : Nat} (h : i < rs.length) : rs[i]? = some (rA rs i) := by unfold rA; rw [List.getElem?_eq_getElem h]; rfl
set_option maxRecDepth 20000 in
set_option maxHeartbeats 3200000 in
theorem filter_c (w : World) {v : Value} {rs : List (List Nat)} (h : RdL w v rs) (hn : rs.length ≤ 1000000) (bits : Nat) (h1 : 1 ≤ bits) (h2 : bits ≤ 64) :
    Calls Tryz.prog 48 #[v, .int .i64 (bits : Int)] w fun e w' => ∃ v', e = .returned (.tuple #[v', .int .i64 0]) ∧ w'.ownsRow w.heap.size 5 1 v' (fltL bits rs).length (bv (fltL bits rs)) ∧ Fr [] w w' := by
  obtain ⟨a, c, rfl, k1⟩ := h
  have HK := hid k1
  clear k1
  obtain ⟨t0, ht0⟩ : ∃ t0 : Nat, (if (bits : Int) * 69 / 100 < 1 then 1 else (bits : Int) * 69 / 100) = (t0 : Int) := ⟨max (bits * 69 / 100) 1, by omega⟩
  have hT : (if (30 : Int) < (t0 : Int) then (30 : Int) else (t0 : Int)) = (fT bits : Int) := by
    unfold fT; omega
  have hT30 := fT_bd bits
  obtain ⟨t, ht⟩ : ∃ t, t = fT bits := ⟨_, rfl⟩
  rw [← ht] at hT hT30
  have HT := hid ht
  clear ht
  have hmul : (bits : Int) * (rs.length : Int) = ((bits * rs.length : Nat) : Int) := by simp
  have hpb : bits * rs.length ≤ 64 * 1000000 := Nat.mul_le_mul h2 hn
  obtain ⟨L, hL⟩ : ∃ L, L = fL bits rs.length := ⟨_, rfl⟩
  have hL8 : 8 ≤ L := by rw [hL]; exact fL_pos _ _
  have HL := hid hL
  have hL9 : L ≤ 1000000000 := by rw [hL]; unfold fL; omega
  have hLi : (if (((bits * rs.length : Nat) : Int) + 7) / 8 < 8 then 8 else (((bits * rs.length : Nat) : Int) + 7) / 8) = (L : Int) := by rw [hL]; unfold fL; omega
  clear hL
  obtain ⟨p, hp⟩ : ∃ p, p = bits * rs.length := ⟨_, rfl⟩
  rw [← hp] at hmul hpb hLi
  clear hp
  generalize hnn : rs.length = n at *
  have HN := hid hnn
  clear hnn
  have hmk := makeM_run w hL9
  go_enter Tryz.func48, Tryz.ntmps48
  go_upto_region 4 with fail
  clear hT ht0
  go_wp2_with fail
  have O0 := hid (makeM_own w hL9)
  have F0 : Hid (Fr [] w (w.alloc (.cells (madeCells #[.int .u8 0] L) 5))) := hid ((Fr.refl _ _).alloc _)
  generalize w.alloc (.cells (madeCells #[.int .u8 0] L) 5) = W0 at *
  clear hmk hLi hmul
  go_loopw [31] (fun v31 wr => ∃ i : Nat, i ≤ n ∧ v31 = .int .i64 (i : Int) ∧ wr.ownsRow w.heap.size 5 1 (.slice (some ⟨w.heap.size, 0, none⟩) L L) L (bv (fM L t rs i)) ∧ Fr [] w wr) (fun v31 _ => n - (intOf v31).toNat)
  case atStart => exact ⟨0, Nat.zero_le _, rfl, O0.out, F0.out⟩
  case round =>
    obtain ⟨i, hi, rfl, oi, fi⟩ := hrel
    have HI := hid (And.intro oi fi)
    clear oi fi
    by_cases hlt : i < n
    · have hil : i < rs.length := by rw [HN.out]; exact hlt
      obtain ⟨b, off, rfl, m1⟩ := HK.out (by omega)
      obtain ⟨ka, kc, e1, e2, e3, e4⟩ := m1 i _ (rA_at hil)
      have z1 := cell_fr HI.out.2 e1
      have hfl := fM_len L t rs i
      have ES := each_set wr (G := w.heap.size) (B := w.heap.size) (mc := L) (m := fM L t rs i) (by rw [hfl]; exact HI.out.1) (fM_by _ _ _ _) (by rw [hfl]; omega) (by rw [hfl]; exact hL9) (e2.fr HI.out.2) e3 e4 t hT30.2
      rw [hfl] at ES
      have HES := hid ES
      clear ES m1 e1 e2 e3 e4 hfl hil
      generalize (rA rs i).length = kl at *
      go_wp2_with fail
      refine HES.out.mono ?_
      rintro e w2 ⟨rfl, o2, f2⟩
      have F2 : Hid (Fr [] w w2) := hid (((HI.out.2.mono (S' := [w.heap.size]) (by simp)).trans f2).shed (fun k hk hlt => by simp at hk; omega))
      have O2 : Hid (w2.ownsRow w.heap.size 5 1 (.slice (some ⟨w.heap.size, 0, none⟩) L L) L (bv (fM L t rs (i + 1)))) := hid o2
      clear HES o2 f2
      go_wp2
      go_roundw
      case rel => exact ⟨i + 1, by omega, by go_num, O2.out, F2.out⟩
      case measure => simp [intOf]; omega
    · have hie : i = n := by omega
      subst hie
      have hu : (t : Int) % 256 = (t : Int) := by omega
      obtain ⟨W4, hW4⟩ : ∃ W, W = wr.alloc (.cells #[.int .u8 (t : Int)] 5) := ⟨_, rfl⟩
      have F4 : Fr [] wr W4 := by rw [hW4]; exact (Fr.refl _ _).alloc _
      have X4 : W4.heap[wr.heap.size]? = some (.cells #[.int .u8 (t : Int)] 5 (0, 0)) := by rw [hW4]; exact blk_new _ _
      have o4 := ownsRow_fr HI.out.1 F4
      have hs4 : w.heap.size ≤ W4.heap.size := by have := HI.out.2.size; have := F4.size; omega
      have FF4 := hid (HI.out.2.trans F4)
      go_wp2_with (at_builtin; rw [← hW4]; refine wpList_append_mk rfl _ _ rfl w.heap.size hs4 _ _ _ rfl o4 wr.heap.size rfl X4 rfl (by omega) ?_; intro v5 W5 o5 g5)
      have hfl : fltL bits rs = fM L t rs i ++ [t] := by unfold fltL; rw [HN.out, ← HT.out, ← HL.out]
      have F5 : Fr [] w W5 := FF4.out.grew o4 (Nat.le_refl _) g5
      go_ret2
      refine ⟨v5, rfl, ?_, F5⟩
      rw [hfl, bv_append, List.length_append, fM_len]
      exact o5
end Go.Proofs.YtnnookkcnmgbfaaGreat
namespace Go.Proofs.YtnnookkcnmgbfaaGreat
open Go.ChangeShapes Go.WideShapes Go.ChangeAt Go.RowKit

set_option maxRecDepth 20000 in
set_option maxHeartbeats 1600000 in
theorem has_c (w : World) {q o mc : Nat} {m : List Nat} (hr : Rd w (.slice (some ⟨q, o, none⟩) m.length mc) (bv m)) (hb : By m) {bit : Nat} (h : bit / 8 < m.length) (hl : m.length ≤ 1000000000) :
    Calls Tryz.prog 107 #[.slice (some ⟨q, o, none⟩) m.length mc, .int .u64 (bit : Int)] w fun e w' => e = .returned (.bool (hasB m bit)) ∧ w' = w := by
  obtain ⟨x, hx⟩ : ∃ x, m[bit / 8]? = some x := ⟨_, List.getElem?_eq_getElem h⟩
  have z : w.cell? ⟨q, o + bit / 8, none⟩ = some (.int .u8 (x : Int)) := by
    rcases hr.split with ⟨e, _⟩ | ⟨b', o', c', e, _, _, g⟩
    · rw [e] at h; simp at h
    · simp only [Value.slice.injEq, Option.some.injEq, Addr.mk.injEq] at e
      obtain ⟨⟨rfl, rfl, _⟩, _⟩ := e
      exact g _ _ hx
  have hx8 := hb x (List.mem_of_getElem? hx)
  have hbb : hasB m bit = decide (x / 2 ^ (bit % 8) % 2 = 1) := by
    unfold hasB
    rw [List.getD_eq_getElem?_getD, hx, Option.getD_some, Nat.testBit_eq_decide_div_mod_eq]
  have HBB := hid hbb
  clear hr hb hx hbb
  generalize m.length = ln at *
  have hand : bits .and .u8 ((x : Int) / 2 ^ (bit % 8)) 1 = ((x / 2 ^ (bit % 8) % 2 : Nat) : Int) := by
    have h1 : x / 2 ^ (bit % 8) < 256 := Nat.lt_of_le_of_lt (Nat.div_le_self _ _) hx8
    have h2 := u8_and_nat (x / 2 ^ (bit % 8)) 1 h1 (by omega)
    rw [Nat.and_one_is_mod] at h2
    rw [← h2]; simp
  have HA := hid hand
  clear hand
  go_enter Tryz.func107, Tryz.ntmps107
  go_wp2
  go_ret
  refine ⟨?_, rfl⟩
  rw [HBB.out]
  apply ret_bool
  show (bits .and .u8 ((x : Int) / 2 ^ (bit % 8)) 1 == 1) = _
  rw [HA.out]
  by_cases h : x / 2 ^ (bit % 8) % 2 = 1
  · rw [h]; rfl
  · rw [decide_eq_false h, show x / 2 ^ (bit % 8) % 2 = 0 from by omega]; rfl
set_option maxRecDepth 20000 in
set_option maxHeartbeats 3200000 in
theorem each_has (w : World) {q o mc : Nat} {m : List Nat} (hr : Rd w (.slice (some ⟨q, o, none⟩) m.length mc) (bv m)) (hb : By m) (hL : 0 < m.length) (hl : m.length ≤ 1000000000) {kv : Value} {key : List Nat} (rk : Rd w kv (bv key)) (bk : By key) (hkl : key.length ≤ 140737488355328) (t : Nat) (ht : t ≤ 30) :
    Calls Tryz.prog 89 #[.slice (some ⟨q, o, none⟩) m.length mc, kv, .int .i64 (t : Int), .func (.func 107) #[.slice (some ⟨q, o, none⟩) m.length mc] #[]] w fun e w' => e = .returned (.bool (mayL m key t)) ∧ w' = w := by
  have hcr := crc_lt bk
  have SC := hid (sum_c rk bk hkl)
  have RC := hid (fun W => rot_c W (crc key) hcr)
  obtain ⟨ka, kc, hkv⟩ := rk.form
  subst hkv
  generalize (bv key).length = kn at *
  have hd := rt_lt hcr
  obtain ⟨h0, hh0⟩ : ∃ h, h = crc key := ⟨_, rfl⟩
  have HB1 : Hid (∀ j, hs h0 (rt h0) j % (8 * m.length) = bt m.length key j) := hid fun j => by rw [hh0]; rfl
  have HLT : Hid (∀ j, hs h0 (rt h0) j < 4294967296) := hid fun j => hs_lt (by rw [hh0]; exact hcr) j
  rw [← hh0] at SC RC hcr hd
  clear hh0
  obtain ⟨d, hdd⟩ : ∃ d, d = rt h0 := ⟨_, rfl⟩
  rw [← hdd] at RC hd HB1 HLT
  have HNX : Hid (∀ j, hs h0 d (j + 1) = (hs h0 d j + d) % 4294967296) := hid fun j => rfl
  clear hdd
  have HST : Hid (∀ j, Calls Tryz.prog 107 #[.slice (some ⟨q, o, none⟩) m.length mc, .int .u64 ((bt m.length key j : Nat) : Int)] w fun e w' => e = .returned (.bool (hasB m (bt m.length key j))) ∧ w' = w) := hid fun j => has_c w hr hb (bt_div hL key j) hl
  have HM : Hid (mayL m key t = decide (∀ j, j < t → hasB m (bt m.length key j) = true)) := hid rfl
  clear rk hr hb bk hkl
  generalize m.length = L at *
  go_enter Tryz.func89, Tryz.ntmps89
  go_wp2_with fail
  refine SC.out.mono ?_
  rintro e w1 ⟨rfl, rfl⟩
  go_wp2_with fail
  refine (RC.out w1).mono ?_
  rintro e w2 ⟨rfl, rfl⟩
  clear SC RC
  go_wp2_with fail
  go_loopw [9, 16] (fun v9 v16 wr => ∃ j : Nat, j ≤ t ∧ v16 = .int .i64 (j : Int) ∧ v9 = .int .u32 (hs h0 d j : Int) ∧ (∀ i, i < j → hasB m (bt L key i) = true) ∧ wr = w2) (fun _ v16 _ => t - (intOf v16).toNat)
  case atStart => exact ⟨0, Nat.zero_le _, rfl, rfl, fun i hi => by omega, rfl⟩
  case round =>
    obtain ⟨j, hj, rfl, rfl, oj, rfl⟩ := hrel
    have HJ := hid oj
    clear oj
    by_cases hlt : j < t
    · have hb1 := HB1.out j
      have hlt32 := HLT.out j
      have hnx := HNX.out j
      have CS := hid (HST.out j)
      have hbt : ((hs h0 d j : Int)) % (8 * (L : Int)) = ((bt L key j : Nat) : Int) := by rw [← hb1]; simp
      have HN1 := hid hnx
      clear hb1 hnx
      generalize hs h0 d j = hj' at *
      generalize hbb : bt L key j = bb at *
      have HBB := hid hbb
      clear hbb
      go_wp2_with fail
      refine CS.out.mono ?_
      rintro e w3 ⟨rfl, rfl⟩
      clear CS
      rcases hq : hasB m bb with _ | _
      · have HQ := hid hq
        clear hq
        go_wp2
        go_ret
        refine ⟨?_, rfl⟩
        rw [HM.out, decide_eq_false (fun h => by have := h j hlt; rw [HBB.out, HQ.out] at this; cases this)]
        rfl
      · have HQ := hid hq
        clear hq
        go_wp2
        go_roundw
        case rel =>
          refine ⟨j + 1, by omega, by go_num, by rw [HN1.out]; go_num, fun i hi => ?_, by first | rfl | trivial⟩
          by_cases hij : i = j
          · subst hij; rw [HBB.out]; exact HQ.out
          · exact HJ.out i (by omega)
        case measure => simp [intOf]; omega
    · have hje : j = t := by omega
      subst hje
      go_wp2
      go_ret
      refine ⟨?_, rfl⟩
      rw [HM.out, decide_eq_true (fun i hi => HJ.out i hi)]
      rfl
end Go.Proofs.YtnnookkcnmgbfaaGreat
namespace Go.Proofs.YtnnookkcnmgbfaaGreat
open Go.ChangeShapes Go.WideShapes Go.ChangeAt Go.RowKit

def mayF (f key : List Nat) : Bool := if f.length < 9 then true else if f.getD (f.length - 1) 0 < 1 ∨ 30 < f.getD (f.length - 1) 0 then true else mayL (f.take (f.length - 1)) key (f.getD (f.length - 1) 0)
theorem may_flt {bits : Nat} {rs : List (List Nat)} {i : Nat} (hi : i < rs.length) : mayF (fltL bits rs) (rA rs i) = true := by
  unfold mayF
  have hl := fltL_len bits rs
  have hp := fL_pos bits rs.length
  have ht := fT_bd bits
  have hml := fM_len (fL bits rs.length) (fT bits) rs rs.length
  have hg : (fltL bits rs).getD ((fltL bits rs).length - 1) 0 = fT bits := by
    rw [hl, Nat.add_sub_cancel, List.getD_eq_getElem?_getD]
    unfold fltL
    rw [List.getElem?_append_right (by omega), hml, Nat.sub_self]; rfl
  have htk : (fltL bits rs).take ((fltL bits rs).length - 1) = fM (fL bits rs.length) (fT bits) rs rs.length := by
    rw [hl, Nat.add_sub_cancel]
    unfold fltL
    have := List.take_left (l₁ := fM (fL bits rs.length) (fT bits) rs rs.length) (l₂ := [fT bits])
    rwa [hml] at this
  rw [if_neg (by omega), hg, if_neg (by omega), htk]
  exact may_fM (by omega) hi
set_option maxRecDepth 20000 in
set_option maxHeartbeats 1600000 in
theorem may_c (w : World) {v kv : Value} {f key : List Nat} (hr : Rd w v (bv f)) (hb : By f) (hl : f.length ≤ 1000000000) (rk : Rd w kv (bv key)) (bk : By key) (hkl : key.length ≤ 140737488355328) :
    Calls Tryz.prog 91 #[v, kv] w fun e w' => e = .returned (.bool (mayF f key)) ∧ w' = w := by
  obtain ⟨a, c, hv⟩ := hr.form
  rw [bv_len] at hv
  by_cases h9 : f.length < 9
  · have hm : mayF f key = true := by unfold mayF; rw [if_pos h9]
    rw [hm]
    subst hv
    have hn : (f.length : Int) - 1 < 8 := by omega
    clear hr hb hm
    generalize f.length = n at *
    go_enter Tryz.func91, Tryz.ntmps91
    go_wp2
    go_ret
    exact ⟨rfl, rfl⟩
  · obtain ⟨l, hl1⟩ : ∃ l, f.length = l + 1 := ⟨f.length - 1, by omega⟩
    obtain ⟨x, hx⟩ : ∃ x, f[l]? = some x := ⟨_, List.getElem?_eq_getElem (by omega)⟩
    have hg : f.getD (f.length - 1) 0 = x := by rw [hl1, Nat.add_sub_cancel, List.getD_eq_getElem?_getD, hx]; rfl
    have hx8 := hb x (List.mem_of_getElem? hx)
    subst hv
    obtain ⟨q, o, c', hv, hbc⟩ := hr.place (by omega)
    simp only [Value.slice.injEq, true_and] at hv
    obtain ⟨rfl, rfl⟩ := hv
    have z : w.cell? ⟨q, o + l, none⟩ = some (.int .u8 (x : Int)) := by
      rcases hr.split with ⟨e, _⟩ | ⟨b', o', c', e, _, _, g⟩
      · rw [e] at hl1; simp at hl1
      · simp only [Value.slice.injEq, Option.some.injEq, Addr.mk.injEq] at e
        obtain ⟨⟨rfl, rfl, _⟩, _⟩ := e
        exact g _ _ hx
    have hm : mayF f key = if x < 1 ∨ 30 < x then true else mayL (f.take l) key x := by
      unfold mayF; rw [if_neg h9, hg, hl1, Nat.add_sub_cancel]
    by_cases hxx : x < 1 ∨ 30 < x
    · rw [hm, if_pos hxx, hl1]
      clear hr hb hm hx hg
      rcases hxx with h | h
      all_goals
        go_enter Tryz.func91, Tryz.ntmps91
        go_wp2
        go_ret
        exact ⟨rfl, rfl⟩
    · rw [hm, if_neg hxx]
      have htl : (f.take l).length = l := by rw [List.length_take]; omega
      have EH := each_has w (q := q) (o := o) (mc := c) (m := f.take l) (by rw [htl]; have := hr.front (q := l) (by omega); exact this) (hb.take _) (by rw [htl]; omega) (by rw [htl]; omega) rk bk hkl x (by omega)
      rw [htl] at EH
      have HE := hid EH
      obtain ⟨ka, kc, hkv⟩ := rk.form
      subst hkv
      rw [hl1] at h9 hl hbc ⊢
      have hx1 : ¬ (x : Int) < 1 := by omega
      have hx2 : ¬ (30 : Int) < (x : Int) := by omega
      clear hr hb hm hx hg EH hl1 rk
      generalize (bv key).length = kn at *
      go_enter Tryz.func91, Tryz.ntmps91
      go_wp2_with fail
      refine HE.out.mono ?_
      rintro e w1 ⟨rfl, rfl⟩
      go_wp2
      go_ret
      exact ⟨rfl, rfl⟩
end Go.Proofs.YtnnookkcnmgbfaaGreat
