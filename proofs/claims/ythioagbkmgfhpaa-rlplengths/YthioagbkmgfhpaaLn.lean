/-
  The walk of RlpLengths.
-/
import Derived.Test.YthioagbkmgfhpaaKn
namespace Go.Proofs.Ythioagbkmgfhpaa
open Go.ChangeShapes Go.WideShapes Go.ChangeAt Go.RowKit

/-- Bytes ahead of so many. -/
def hln (n : Nat) : Nat := if n ≤ 55 then 1 else if n < 256 then 2 else 3
theorem headL_hln {base n : Nat} (h : n < 65536) : (headL base n).length = hln n := by
  unfold headL hln
  split
  · rfl
  · rename_i h55
    unfold digs
    have e1 : digF 8 n = digF 7 (n / 256) ++ [n % 256] := by rw [digF, if_neg (by omega)]
    rw [e1]
    split
    · rename_i h
      rw [show n / 256 = 0 by omega]; rfl
    · have e2 : digF 7 (n / 256) = digF 6 (n / 256 / 256) ++ [n / 256 % 256] := by rw [digF, if_neg (by omega)]
      rw [e2, show n / 256 / 256 = 0 by omega]; rfl
theorem hln_le (n : Nat) : 1 ≤ hln n ∧ hln n ≤ 3 := by unfold hln; split; omega; split <;> omega

set_option maxRecDepth 20000 in
theorem lhead_c (w : World) (n : Nat) (hn : n ≤ 1000000) : Calls Try.prog 21 #[.int .i64 (n : Int)] w fun e w' => e = .returned (.int .i64 (hln n : Int)) ∧ w' = w := by
  unfold hln
  by_cases h1 : n ≤ 55
  · rw [if_pos h1]
    go_enter Try.func21, Try.ntmps21
    go_wp2
    go_ret
    exact ⟨rfl, rfl⟩
  · by_cases h2 : n < 256
    · rw [if_neg h1, if_pos h2]
      go_enter Try.func21, Try.ntmps21
      go_wp2
      go_ret
      exact ⟨rfl, rfl⟩
    · rw [if_neg h1, if_neg h2]
      go_enter Try.func21, Try.ntmps21
      go_wp2
      go_ret
      exact ⟨rfl, rfl⟩

/-- The string of n bytes, and the list of two of it. -/
def lS (m n x : Nat) : Tr (m + 1) := mkT false (List.replicate n x) []
def lL (n x : Nat) : Tr 19 := mkT true [] [lS 17 n x, lS 17 n x]
def szS (n x : Nat) : Nat := if n = 1 ∧ x < 128 then 1 else n + hln n
theorem strL_szS {n x : Nat} (h : n ≤ 3000) : (strL (List.replicate n x)).length = szS n x := by
  unfold strL szS
  rw [List.length_replicate]
  by_cases hn : n = 1
  · subst hn
    by_cases hx : x < 128
    · rw [if_pos ⟨rfl, by simpa using hx⟩, if_pos ⟨rfl, hx⟩]; rfl
    · rw [if_neg (fun k => hx (by simpa using k.2)), if_neg (fun k => hx k.2)]; rfl
  · rw [if_neg (fun k => hn k.1), if_neg (fun k => hn k.1), List.length_append, headL_hln (by omega), List.length_replicate]; omega
theorem enc_lS {m n x : Nat} (h : n ≤ 3000) : (enc (m + 1) (lS m n x)).length = szS n x := by
  rw [enc_str (t := lS m n x) rfl]; exact strL_szS h
theorem szS_le {n x : Nat} : szS n x ≤ n + 3 ∧ 1 ≤ szS n x ∨ szS n x = 1 := by
  unfold szS; split
  · exact .inr rfl
  · have := hln_le n; left; omega
theorem szS_b {n x : Nat} (h : n ≤ 3000) : szS n x ≤ 3003 := by rcases szS_le (n := n) (x := x) with h | h <;> omega
theorem bad_lS {m d n x : Nat} (hd : d ≤ 16) : bad (m + 1) d (lS m n x) = 0 := bad_str hd rfl rfl
theorem bad_lL (n x : Nat) : bad 19 1 (lL n x) = 0 := bad_of (n := 18) (t := lL n x) (by omega) (.inl ⟨rfl, rfl, fun k hk => by
  have : k = lS 17 n x := by
    rcases List.mem_cons.1 hk with h | h
    · exact h
    · rcases List.mem_cons.1 h with h | h
      · exact h
      · cases h
  subst this; exact bad_lS (by omega)⟩)
theorem enc_lL {n x : Nat} (h : n ≤ 3000) : (enc 19 (lL n x)).length = 2 * szS n x + hln (2 * szS n x) := by
  have e : ((tK (n := 18) (lL n x)).flatMap (enc 18)).length = 2 * szS n x := by
    rw [flatMap_len]
    show ([lS 17 n x, lS 17 n x].map fun y => (enc 18 y).length).sum = _
    simp only [List.map_cons, List.map_nil, List.sum_cons, List.sum_nil, enc_lS h]; omega
  rw [enc_list (n := 18) (t := lL n x) rfl, List.length_append, e, headL_hln (by have := szS_b (n := n) (x := x) h; omega)]
  omega
theorem encE_lS {n x : Nat} (h : n ≤ 3000) : encE (n := 19) (lS 18 n x) = 0 := by
  unfold encE
  rw [if_neg (by rw [bad_lS (by omega)]; simp), if_neg (by rw [enc_lS h]; have := szS_b (n := n) (x := x) h; omega)]
theorem encE_lL {n x : Nat} (h : n ≤ 3000) : encE (lL n x) = 0 := by
  unfold encE
  rw [if_neg (by rw [bad_lL]; simp), if_neg (by rw [enc_lL h]; have := szS_b (n := n) (x := x) h; have := hln_le (2 * szS n x); omega)]
theorem encB_lS {n x : Nat} (h : n ≤ 3000) : (encB (n := 19) (lS 18 n x)).length = szS n x := by
  unfold encB; rw [if_pos (encE_lS h), enc_lS h]
theorem encB_lL {n x : Nat} (h : n ≤ 3000) : (encB (lL n x)).length = 2 * szS n x + hln (2 * szS n x) := by
  unfold encB; rw [if_pos (encE_lL h), enc_lL h]
theorem make_n (w : World) (n : Nat) (hn : n ≤ 1000000) : (Instr.makeSlice 22 (.int .i64 (n : Int)) (.int .i64 (n : Int))).run Try.prog w = .ok (.slice (some ⟨w.heap.size, 0, none⟩) n n) (w.alloc (.cells (madeCells #[.int .u8 0] n) 5)) := by
  obtain ⟨i0, hi, hz0, hz1, hz2⟩ := info_parts infoB
  have h := run_make (P := Try.prog) w 22 5 i0 (.int .u8 0) Try.underlying22 hi hz0 .i64 .i64 (n : Int) (n : Int) (by omega) (by omega) (by rw [hz2]; omega) (by omega)
  simpa [hz1, Value.cells] using h

set_option maxRecDepth 20000 in
set_option maxHeartbeats 400000 in
theorem lengths_out (w : World) (n : Int) (x : Nat) (h : n < 0 ∨ 3000 < n) (h1 : -9223372036854775808 ≤ n) (h2 : n ≤ 9223372036854775807) : Calls Try.prog 7 #[.int .i64 n, .int .u8 (x : Int)] w fun e w' => e = .returned (.bool true) ∧ Fr [] w w' := by
  rcases h with h | h
  all_goals go_enter Try.func7, Try.ntmps7
  all_goals go_wp2_with fail
  all_goals refine (known_c w).mono ?_
  all_goals rintro e w1 ⟨rfl, f1⟩
  all_goals go_wp2
  all_goals go_ret
  all_goals exact ⟨rfl, f1⟩

set_option maxRecDepth 20000 in
set_option maxHeartbeats 1600000 in
theorem lengths_in (w : World) (n x : Nat) (hn : n ≤ 3000) (hx : x < 256) : Calls Try.prog 7 #[.int .i64 (n : Int), .int .u8 (x : Int)] w fun e w' => e = .returned (.bool true) ∧ Fr [] w w' := by
  go_enter Try.func7, Try.ntmps7
  go_wp2_with fail
  refine (known_c w).mono ?_
  rintro e w1 ⟨rfl, f1⟩
  have F1 := hid f1
  have hmk := make_n w1 n (by omega)
  obtain ⟨B, hB⟩ : ∃ B, B = w1.heap.size := ⟨_, rfl⟩
  have hb := hid (new_at w1 (.cells (madeCells #[.int .u8 0] n) 5) hB)
  have hBw : w.heap.size ≤ B := by rw [hB]; exact f1.size
  have HBB := hid hB
  rw [← hB] at hmk
  clear f1 hB
  go_wp2_with fail
  clear hmk
  go_loopw [6] (fun v6 wr => ∃ (i : Nat), i ≤ n ∧ v6 = .int .i64 (i : Int) ∧ wr.heap[B]? = some (.cells (List.replicate i (Value.int .u8 (x : Int)) ++ List.replicate (n - i) (Value.int .u8 0)).toArray 5 (0, 0)) ∧ Fr [] w wr) (fun v6 _ => n - (intOf v6).toNat)
  case atStart => exact ⟨0, by omega, rfl, by
    rw [hb.out]
    congr 2
    apply Array.ext'
    simp [madeCells]
    rw [List.eq_replicate_iff]
    simp [Nat.mod_one], F1.out.alloc _⟩
  case round =>
    obtain ⟨i, hi, rfl, hh, hf⟩ := hrel
    have HHB := hid hh
    have HF := hid hf
    clear hh hf
    by_cases hin : i < n
    · have hcell : wr.cell? ⟨B, i, none⟩ = some (.int .u8 0) := by
        rw [blk_cell HHB.out, List.getElem?_toArray, List.getElem?_append_right (by simp), List.length_replicate, Nat.sub_self, List.getElem?_replicate, if_pos (by omega)]
      have hfz := blk_frozen HHB.out i
      have BB : Hid ((wr.setCell ⟨B, i, none⟩ (.int .u8 (x : Int))).heap[B]? = some (.cells (List.replicate (i + 1) (Value.int .u8 (x : Int)) ++ List.replicate (n - (i + 1)) (Value.int .u8 0)).toArray 5 (0, 0))) := by
        unfold Hid
        rw [blk_set HHB.out]
        congr 2
        apply Array.ext'
        simp only [Array.toList_setIfInBounds]
        rw [List.set_append_right _ _ (by simp), List.length_replicate, Nat.sub_self, show n - i = (n - (i + 1)) + 1 by omega, List.replicate_succ, List.set_cons_zero, List.replicate_succ', List.append_assoc]
        rfl
      go_wp2
      go_roundw
      case rel => go_light; exact ⟨i + 1, by omega, by go_num, BB.out, HF.out.set _ _ (.inr hBw)⟩
      case measure => go_light; simp [intOf]; omega
    · have hie : i = n := by omega
      subst hie
      have hR : Rd wr (.slice (some ⟨B, 0, none⟩) i i) (bv (List.replicate i x)) := by
        refine .inr ⟨_, _, by rw [bv_len, List.length_replicate], by rw [bv_len, List.length_replicate]; exact Nat.le_refl _, fun j u hj => ?_⟩
        rw [Addr.add_lit, Nat.zero_add, blk_cell HHB.out]
        rw [Nat.sub_self, List.replicate_zero, List.append_nil]
        unfold bv at hj
        rw [List.map_replicate] at hj
        rw [List.getElem?_toArray]
        exact hj
      have hby : By (List.replicate i x) := fun y hy => by rw [(List.mem_replicate.1 hy).2]; exact hx
      have HR := hid hR
      have HBY := hid hby
      have hsz := szS_b (n := i) (x := x) hn
      obtain ⟨z, hz⟩ : ∃ z, z = szS i x := ⟨_, rfl⟩
      have HZ := hid hz
      rw [← hz] at hsz
      have hzz : z = if i = 1 ∧ x < 128 then 1 else i + hln i := hz
      clear hR hby hz
      have hli := hln_le i
      obtain ⟨hI, hhI⟩ : ∃ hI, hI = hln i := ⟨_, rfl⟩
      rw [← hhI] at hzz hli
      have HHI := hid hhI
      have hcases : ((i : Int) == 1) = true ∧ 1 ≤ i ∧ i ≤ 1 ∧ x < 128 ∧ 1 ≤ z ∧ z ≤ 1 ∨ ((i : Int) == 1) = true ∧ 1 ≤ i ∧ i ≤ 1 ∧ 128 ≤ x ∧ i + hI ≤ z ∧ z ≤ i + hI ∨ ((i : Int) == 1) = false ∧ i + hI ≤ z ∧ z ≤ i + hI := by
        by_cases h1 : i = 1
        · have hb : ((i : Int) == 1) = true := by rw [h1]; rfl
          by_cases h2 : x < 128
          · left; rw [if_pos ⟨h1, h2⟩] at hzz; exact ⟨hb, by omega, by omega, h2, by omega, by omega⟩
          · right; left; rw [if_neg (fun k => h2 k.2)] at hzz; exact ⟨hb, by omega, by omega, by omega, by omega, by omega⟩
        · right; right; rw [if_neg (fun k => h1 k.1)] at hzz; exact ⟨beq_eq_false_iff_ne.2 (by omega), by omega, by omega⟩
      clear hzz hhI
      rcases hcases with ⟨hq, q1, q1', q2, q3, q4⟩ | ⟨hq, q1, q1', q2, q3, q4⟩ | ⟨hq, q3, q4⟩
      · have b1 : ((z : Int) == 1) = true := by rw [beq_iff_eq]; omega
        go_wp2_with fail
        refine (encode_c wr (n := 19) (t := lS 18 i x) (IsV.str (n := 18) HR.out HBY.out (by rw [List.length_replicate]; omega) false) (by omega) (by show 1 + (([] : List (Tr 18)).map (cnt 18)).sum ≤ 4096; simp) (by rw [enc_lS hn, ← HZ.out]; omega)).mono ?_
        rintro e w2 ⟨v2, rfl, o2, f2⟩
        rw [encB_lS hn, ← HZ.out] at o2
        rw [encE_lS hn]
        obtain ⟨a2, c2, hv2, _⟩ := ownsRow_slice o2
        subst hv2
        have F2 := hid (HF.out.trans f2)
        have R2 := hid (HR.out.fr f2)
        clear o2 f2
        go_wp2_with fail
        refine (lhead_c w2 i (by omega)).mono ?_
        rintro e w3 ⟨rfl, rfl⟩
        rw [← HHI.out]
        have key : Hid (∀ G, G = w3.heap.size → IsV (w3.alloc (.cells #[.bool false, .slice (some ⟨B, 0, none⟩) i i, .slice none 0 0, .bool false, .slice (some ⟨B, 0, none⟩) i i, .slice none 0 0] 25)) 19 (.agg #[.bool true, .slice none 0 0, .slice (some ⟨G, 0, none⟩) 2 2]) (lL i x)) := by
          intro G hG
          refine ⟨_, _, 2, rfl, .inl ⟨rfl, rfl⟩, fun y hy => (by cases hy), Nat.zero_le _, Nat.le_refl _, (show 2 ≤ 140737488355328 by omega), fun _ => ⟨G, 0, rfl, fun j k hj => ?_⟩⟩
          have hblk := new_at w3 (.cells #[.bool false, .slice (some ⟨B, 0, none⟩) i i, .slice none 0 0, .bool false, .slice (some ⟨B, 0, none⟩) i i, .slice none 0 0] 25) hG
          have hI := IsV.str (n := 17) (R2.out.fr ((Fr.refl [] w3).alloc (.cells #[.bool false, .slice (some ⟨B, 0, none⟩) i i, .slice none 0 0, .bool false, .slice (some ⟨B, 0, none⟩) i i, .slice none 0 0] 25))) HBY.out (by rw [List.length_replicate]; omega) false
          replace hj : [lS 17 i x, lS 17 i x][j]? = some k := hj
          rcases j with _ | _ | j
          · cases hj
            exact ⟨false, _, _, by rw [blk_cell hblk]; rfl, by rw [blk_cell hblk]; rfl, by rw [blk_cell hblk]; rfl, hI⟩
          · cases hj
            exact ⟨false, _, _, by rw [blk_cell hblk]; rfl, by rw [blk_cell hblk]; rfl, by rw [blk_cell hblk]; rfl, hI⟩
          · simp at hj
        go_wp2_with fail
        refine (encode_c _ (n := 19) (t := lL i x) (key.out _ rfl) (by omega) (by show 1 + ([lS 17 i x, lS 17 i x].map (cnt 18)).sum ≤ 4096; simp [cnt, lS, tK_mk]) (by rw [enc_lL hn, ← HZ.out]; have := hln_le (2 * z); omega)).mono ?_
        rintro e w4 ⟨v4, rfl, o4, f4⟩
        rw [encB_lL hn, ← HZ.out] at o4
        rw [encE_lL hn]
        have hlz := hln_le (2 * z)
        obtain ⟨hz2, hhz2⟩ : ∃ hz2, hz2 = hln (2 * z) := ⟨_, rfl⟩
        rw [← hhz2] at o4 hlz
        have HZ2 := hid hhz2
        obtain ⟨a4, c4, hv4, _⟩ := ownsRow_slice o4
        subst hv4
        have F4 := hid ((F2.out.alloc _).trans f4)
        clear o4 f4 hhz2
        have LH := hid (lhead_c w4 2 (by omega))
        have hzz2 : hz2 = hln 2 := by rw [HZ2.out, show z = 1 by omega]
        have HZ3 := hid hzz2
        clear hzz2
        have b2 : ((2 * (z : Int) + (hz2 : Int)) == 2 + (hz2 : Int)) = true := by rw [beq_iff_eq]; omega
        go_wp2_with fail
        refine LH.out.mono ?_
        rintro e w5 ⟨rfl, rfl⟩
        rw [← HZ3.out]
        go_wp2
        go_ret
        exact ⟨rfl, F4.out⟩
      · have b1 : ((z : Int) == (i : Int) + (hI : Int)) = true := by rw [beq_iff_eq]; omega
        go_wp2_with fail
        refine (encode_c wr (n := 19) (t := lS 18 i x) (IsV.str (n := 18) HR.out HBY.out (by rw [List.length_replicate]; omega) false) (by omega) (by show 1 + (([] : List (Tr 18)).map (cnt 18)).sum ≤ 4096; simp) (by rw [enc_lS hn, ← HZ.out]; omega)).mono ?_
        rintro e w2 ⟨v2, rfl, o2, f2⟩
        rw [encB_lS hn, ← HZ.out] at o2
        rw [encE_lS hn]
        obtain ⟨a2, c2, hv2, _⟩ := ownsRow_slice o2
        subst hv2
        have F2 := hid (HF.out.trans f2)
        have R2 := hid (HR.out.fr f2)
        clear o2 f2
        go_wp2_with fail
        refine (lhead_c w2 i (by omega)).mono ?_
        rintro e w3 ⟨rfl, rfl⟩
        rw [← HHI.out]
        have key : Hid (∀ G, G = w3.heap.size → IsV (w3.alloc (.cells #[.bool false, .slice (some ⟨B, 0, none⟩) i i, .slice none 0 0, .bool false, .slice (some ⟨B, 0, none⟩) i i, .slice none 0 0] 25)) 19 (.agg #[.bool true, .slice none 0 0, .slice (some ⟨G, 0, none⟩) 2 2]) (lL i x)) := by
          intro G hG
          refine ⟨_, _, 2, rfl, .inl ⟨rfl, rfl⟩, fun y hy => (by cases hy), Nat.zero_le _, Nat.le_refl _, (show 2 ≤ 140737488355328 by omega), fun _ => ⟨G, 0, rfl, fun j k hj => ?_⟩⟩
          have hblk := new_at w3 (.cells #[.bool false, .slice (some ⟨B, 0, none⟩) i i, .slice none 0 0, .bool false, .slice (some ⟨B, 0, none⟩) i i, .slice none 0 0] 25) hG
          have hI := IsV.str (n := 17) (R2.out.fr ((Fr.refl [] w3).alloc (.cells #[.bool false, .slice (some ⟨B, 0, none⟩) i i, .slice none 0 0, .bool false, .slice (some ⟨B, 0, none⟩) i i, .slice none 0 0] 25))) HBY.out (by rw [List.length_replicate]; omega) false
          replace hj : [lS 17 i x, lS 17 i x][j]? = some k := hj
          rcases j with _ | _ | j
          · cases hj
            exact ⟨false, _, _, by rw [blk_cell hblk]; rfl, by rw [blk_cell hblk]; rfl, by rw [blk_cell hblk]; rfl, hI⟩
          · cases hj
            exact ⟨false, _, _, by rw [blk_cell hblk]; rfl, by rw [blk_cell hblk]; rfl, by rw [blk_cell hblk]; rfl, hI⟩
          · simp at hj
        go_wp2_with fail
        refine (encode_c _ (n := 19) (t := lL i x) (key.out _ rfl) (by omega) (by show 1 + ([lS 17 i x, lS 17 i x].map (cnt 18)).sum ≤ 4096; simp [cnt, lS, tK_mk]) (by rw [enc_lL hn, ← HZ.out]; have := hln_le (2 * z); omega)).mono ?_
        rintro e w4 ⟨v4, rfl, o4, f4⟩
        rw [encB_lL hn, ← HZ.out] at o4
        rw [encE_lL hn]
        have hlz := hln_le (2 * z)
        obtain ⟨hz2, hhz2⟩ : ∃ hz2, hz2 = hln (2 * z) := ⟨_, rfl⟩
        rw [← hhz2] at o4 hlz
        have HZ2 := hid hhz2
        obtain ⟨a4, c4, hv4, _⟩ := ownsRow_slice o4
        subst hv4
        have F4 := hid ((F2.out.alloc _).trans f4)
        clear o4 f4 hhz2
        have LH := hid (lhead_c w4 (2 * (i + hI)) (by omega))
        rw [show ((2 * (i + hI) : Nat) : Int) = 2 * ((i : Int) + (hI : Int)) by omega] at LH
        have hzz2 : hz2 = hln (2 * (i + hI)) := by rw [HZ2.out, show z = i + hI by omega]
        have HZ3 := hid hzz2
        clear hzz2
        have b2 : ((2 * (z : Int) + (hz2 : Int)) == 2 * ((i : Int) + (hI : Int)) + (hz2 : Int)) = true := by rw [beq_iff_eq]; omega
        go_wp2_with fail
        refine LH.out.mono ?_
        rintro e w5 ⟨rfl, rfl⟩
        rw [← HZ3.out]
        go_wp2
        go_ret
        exact ⟨rfl, F4.out⟩
      · have b1 : ((z : Int) == (i : Int) + (hI : Int)) = true := by rw [beq_iff_eq]; omega
        go_wp2_with fail
        refine (encode_c wr (n := 19) (t := lS 18 i x) (IsV.str (n := 18) HR.out HBY.out (by rw [List.length_replicate]; omega) false) (by omega) (by show 1 + (([] : List (Tr 18)).map (cnt 18)).sum ≤ 4096; simp) (by rw [enc_lS hn, ← HZ.out]; omega)).mono ?_
        rintro e w2 ⟨v2, rfl, o2, f2⟩
        rw [encB_lS hn, ← HZ.out] at o2
        rw [encE_lS hn]
        obtain ⟨a2, c2, hv2, _⟩ := ownsRow_slice o2
        subst hv2
        have F2 := hid (HF.out.trans f2)
        have R2 := hid (HR.out.fr f2)
        clear o2 f2
        go_wp2_with fail
        refine (lhead_c w2 i (by omega)).mono ?_
        rintro e w3 ⟨rfl, rfl⟩
        rw [← HHI.out]
        have key : Hid (∀ G, G = w3.heap.size → IsV (w3.alloc (.cells #[.bool false, .slice (some ⟨B, 0, none⟩) i i, .slice none 0 0, .bool false, .slice (some ⟨B, 0, none⟩) i i, .slice none 0 0] 25)) 19 (.agg #[.bool true, .slice none 0 0, .slice (some ⟨G, 0, none⟩) 2 2]) (lL i x)) := by
          intro G hG
          refine ⟨_, _, 2, rfl, .inl ⟨rfl, rfl⟩, fun y hy => (by cases hy), Nat.zero_le _, Nat.le_refl _, (show 2 ≤ 140737488355328 by omega), fun _ => ⟨G, 0, rfl, fun j k hj => ?_⟩⟩
          have hblk := new_at w3 (.cells #[.bool false, .slice (some ⟨B, 0, none⟩) i i, .slice none 0 0, .bool false, .slice (some ⟨B, 0, none⟩) i i, .slice none 0 0] 25) hG
          have hI := IsV.str (n := 17) (R2.out.fr ((Fr.refl [] w3).alloc (.cells #[.bool false, .slice (some ⟨B, 0, none⟩) i i, .slice none 0 0, .bool false, .slice (some ⟨B, 0, none⟩) i i, .slice none 0 0] 25))) HBY.out (by rw [List.length_replicate]; omega) false
          replace hj : [lS 17 i x, lS 17 i x][j]? = some k := hj
          rcases j with _ | _ | j
          · cases hj
            exact ⟨false, _, _, by rw [blk_cell hblk]; rfl, by rw [blk_cell hblk]; rfl, by rw [blk_cell hblk]; rfl, hI⟩
          · cases hj
            exact ⟨false, _, _, by rw [blk_cell hblk]; rfl, by rw [blk_cell hblk]; rfl, by rw [blk_cell hblk]; rfl, hI⟩
          · simp at hj
        go_wp2_with fail
        refine (encode_c _ (n := 19) (t := lL i x) (key.out _ rfl) (by omega) (by show 1 + ([lS 17 i x, lS 17 i x].map (cnt 18)).sum ≤ 4096; simp [cnt, lS, tK_mk]) (by rw [enc_lL hn, ← HZ.out]; have := hln_le (2 * z); omega)).mono ?_
        rintro e w4 ⟨v4, rfl, o4, f4⟩
        rw [encB_lL hn, ← HZ.out] at o4
        rw [encE_lL hn]
        have hlz := hln_le (2 * z)
        obtain ⟨hz2, hhz2⟩ : ∃ hz2, hz2 = hln (2 * z) := ⟨_, rfl⟩
        rw [← hhz2] at o4 hlz
        have HZ2 := hid hhz2
        obtain ⟨a4, c4, hv4, _⟩ := ownsRow_slice o4
        subst hv4
        have F4 := hid ((F2.out.alloc _).trans f4)
        clear o4 f4 hhz2
        have LH := hid (lhead_c w4 (2 * (i + hI)) (by omega))
        rw [show ((2 * (i + hI) : Nat) : Int) = 2 * ((i : Int) + (hI : Int)) by omega] at LH
        have hzz2 : hz2 = hln (2 * (i + hI)) := by rw [HZ2.out, show z = i + hI by omega]
        have HZ3 := hid hzz2
        clear hzz2
        have b2 : ((2 * (z : Int) + (hz2 : Int)) == 2 * ((i : Int) + (hI : Int)) + (hz2 : Int)) = true := by rw [beq_iff_eq]; omega
        go_wp2_with fail
        refine LH.out.mono ?_
        rintro e w5 ⟨rfl, rfl⟩
        rw [← HZ3.out]
        go_wp2
        go_ret
        exact ⟨rfl, F4.out⟩

theorem lengths_c (w : World) (n : Int) (x : Nat) (h1 : -9223372036854775808 ≤ n) (h2 : n ≤ 9223372036854775807) (hx : x < 256) : Calls Try.prog 7 #[.int .i64 n, .int .u8 (x : Int)] w fun e w' => e = .returned (.bool true) ∧ Fr [] w w' := by
  by_cases h : n < 0 ∨ 3000 < n
  · exact lengths_out w n x h h1 h2
  · obtain ⟨m, rfl⟩ : ∃ m : Nat, n = (m : Int) := ⟨n.toNat, by omega⟩
    exact lengths_in w m x (by omega) hx
end Go.Proofs.Ythioagbkmgfhpaa
