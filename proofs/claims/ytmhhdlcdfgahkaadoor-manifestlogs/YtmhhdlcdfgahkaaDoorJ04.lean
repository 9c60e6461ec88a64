/-
  What Sum of package codec answers, and the reference's.
-/
import Derived.Test.YtmhhdlcdfgahkaaDoorJ02
import Derived.Lib.SlBytesConst
import Derived.Test.YtmhhdlcdfgahkaaDoorJ03
import Derived.Deep.Light
namespace Go.Proofs.YtmhhdlcdfgahkaaDoor
open Go.ChangeShapes Go.WideShapes Go.ChangeAt Go.RowKit

theorem wrap32_nat {n : Nat} (h : n < 4294967296) : IntKind.u32.wrap (n : Int) = (n : Int) := by rw [IntKind.wrap_u32']; omega
theorem cs_mask {r : Nat} (h : r < 4294967296) :
    bits .xor .u32 ((r : Int) / 2) (bits .and .u32 2197175160 (-bits .and .u32 (r : Int) 1 % 4294967296)) = (cs r : Int) := by
  have h1 : bits .and .u32 (r : Int) 1 = ((r % 2 : Nat) : Int) := by
    have := u32_and_nat r 1 h (by omega)
    rw [nat_mask1] at this; exact this
  rw [h1, show (r : Int) / 2 = ((r / 2 : Nat) : Int) from by omega]
  unfold cs
  rcases Nat.mod_two_eq_zero_or_one r with e | e <;> rw [e]
  · have h2 : bits .and .u32 2197175160 (-((0 : Nat) : Int) % 4294967296) = ((0 : Nat) : Int) := by decide
    rw [h2, if_neg (by omega), u32_xor_nat _ _ (by omega) (by omega)]
  · have h2 : bits .and .u32 2197175160 (-((1 : Nat) : Int) % 4294967296) = ((2197175160 : Nat) : Int) := by decide
    rw [h2, if_pos rfl, u32_xor_nat _ _ (by omega) (by omega)]
theorem crc_end {r : Nat} (h : r < 4294967296) : bits .xor .u32 4294967295 (r : Int) = ((4294967295 ^^^ r : Nat) : Int) := u32_xor_nat 4294967295 r (by omega) h
theorem crcF_snoc {ns : List Nat} {k x : Nat} (h : ns[k]? = some x) (r : Nat) : crcF r (ns.take (k + 1)) = csN 8 (crcF r (ns.take k) ^^^ x) := by
  rw [List.take_add_one, h, crcF_append]; rfl

set_option maxRecDepth 20000 in
set_option maxHeartbeats 800000 in
theorem sum_c {w : World} {v : Value} {ns : List Nat} (hr : Rd w v (bv ns)) (hb : By ns) (hl : ns.length ≤ 140737488355328) :
    Calls Tryd.prog 56 #[v] w fun e w' => e = .returned (.int .u32 (crc ns : Int)) ∧ w' = w := by
  rcases hr.split with ⟨rfl, a, c, rfl⟩ | ⟨b, off, c, rfl, h1, h2, hc⟩
  · clear hr
    go_enter Tryd.func56, Tryd.ntmps56
    go_wp2
    refine wp_loop_rounds 1 ?_
    rw [rounds_succ]
    go_wp2
    go_ret
    exact ⟨rfl, rfl⟩
  · clear hr
    have HC := hid hc
    have HB := hid hb
    clear hc hb
    go_enter Tryd.func56, Tryd.ntmps56
    go_wp2
    go_loop [3, 9] (fun v3 v9 => ∃ (k r : Nat), k ≤ ns.length ∧ v9 = .int .i64 (k : Int) ∧ v3 = .int .u32 (r : Int) ∧ r < 4294967296 ∧ r = crcF 4294967295 (ns.take k)) (fun _ v9 => ns.length - (intOf v9).toNat)
    case atStart => exact ⟨0, 4294967295, by omega, rfl, rfl, by omega, rfl⟩
    case round =>
      obtain ⟨k, r, hk, rfl, rfl, hr, hrc⟩ := hrel
      have HR := hid hrc
      clear hrc
      by_cases hlt : k < ns.length
      · obtain ⟨x, hx, hd⟩ := drop_at hlt
        have hcell := HC.out k x hx
        have hx256 : x < 256 := HB.out.at hx
        have hxr := u32_xor_nat r x hr (by omega)
        have hs0 := crcF_snoc hx 4294967295
        rw [← HR.out] at hs0
        have HS := hid hs0
        clear hs0
        have hq : r ^^^ x < 4294967296 := xor_lt32 hr (by omega)
        clear hd hx
        generalize r ^^^ x = q at *
        go_wp2
        go_loop [3, 17] (fun v3 v17 => ∃ (j s : Nat), j ≤ 8 ∧ v17 = .int .i64 (j : Int) ∧ v3 = .int .u32 (s : Int) ∧ s < 4294967296 ∧ s = csN j q) (fun _ v17 => 8 - (intOf v17).toNat)
        case atStart => exact ⟨0, q, by omega, rfl, rfl, hq, rfl⟩
        case round =>
          obtain ⟨j, s, hj, rfl, rfl, hs, hsc⟩ := hrel
          have HSC := hid hsc
          clear hsc
          have hcm := cs_mask hs
          have hcl := cs_lt hs
          by_cases hj8 : j < 8
          · go_wp2
            go_round
            case rel => exact ⟨j + 1, cs s, by omega, by go_num, rfl, hcl, by rw [HSC.out]; rfl⟩
            case measure => simp [intOf]; omega
          · go_wp2
            have hj' : j = 8 := by omega
            go_round
            case rel => exact ⟨k + 1, s, by omega, by go_num, rfl, hs, by rw [HSC.out, hj', HS.out]⟩
            case measure => simp [intOf]; omega
      · have : k = ns.length := by omega
        subst this
        go_wp2
        go_ret
        refine ⟨?_, rfl⟩
        have hce := crc_end hr
        show Ending.returned (.int .u32 (bits .xor .u32 4294967295 (r : Int))) = _
        rw [hce, HR.out, List.take_length]; rfl

theorem cs_odd {r : Nat} (h : r < 4294967296) (e : r % 2 = 1) : bits .xor .u32 ((r : Int) / 2) 2197175160 = (cs r : Int) := by
  rw [show (r : Int) / 2 = ((r / 2 : Nat) : Int) from by omega]
  have := u32_xor_nat (r / 2) 2197175160 (by omega) (by omega)
  unfold cs; rw [if_pos e]; exact this
theorem cs_even {r : Nat} (e : ¬ r % 2 = 1) : (r : Int) / 2 = (cs r : Int) := by
  unfold cs; rw [if_neg e, Nat.xor_zero]; omega

set_option maxRecDepth 20000 in
set_option maxHeartbeats 800000 in
theorem refsum_c {w : World} {v : Value} {ns : List Nat} (hr : Rd w v (bv ns)) (hb : By ns) (hl : ns.length ≤ 140737488355328) :
    Calls Tryd.prog 52 #[v] w fun e w' => e = .returned (.int .u32 (crc ns : Int)) ∧ w' = w := by
  rcases hr.split with ⟨rfl, a, c, rfl⟩ | ⟨b, off, c, rfl, h1, h2, hc⟩
  · clear hr
    go_enter Tryd.func52, Tryd.ntmps52
    go_wp2
    refine wp_loop_rounds 1 ?_
    rw [rounds_succ]
    go_wp2
    go_ret
    exact ⟨rfl, rfl⟩
  · clear hr
    have HC := hid hc
    have HB := hid hb
    clear hc hb
    go_enter Tryd.func52, Tryd.ntmps52
    go_wp2
    go_loop [3, 4] (fun v3 v4 => ∃ (k r : Nat), k ≤ ns.length ∧ v4 = .int .i64 (k : Int) ∧ v3 = .int .u32 (r : Int) ∧ r < 4294967296 ∧ r = crcF 4294967295 (ns.take k)) (fun _ v4 => ns.length - (intOf v4).toNat)
    case atStart => exact ⟨0, 4294967295, by omega, rfl, rfl, by omega, rfl⟩
    case round =>
      obtain ⟨k, r, hk, rfl, rfl, hr, hrc⟩ := hrel
      have HR := hid hrc
      clear hrc
      by_cases hlt : k < ns.length
      · obtain ⟨x, hx, hd⟩ := drop_at hlt
        have hcell := HC.out k x hx
        have hx256 : x < 256 := HB.out.at hx
        have hxr := u32_xor_nat r x hr (by omega)
        have hs0 := crcF_snoc hx 4294967295
        rw [← HR.out] at hs0
        have HS := hid hs0
        clear hs0
        have hq : r ^^^ x < 4294967296 := xor_lt32 hr (by omega)
        clear hd hx
        generalize r ^^^ x = q at *
        go_wp2
        go_loop [3, 5] (fun v3 v5 => ∃ (j s : Nat), j ≤ 8 ∧ v5 = .int .i64 (j : Int) ∧ v3 = .int .u32 (s : Int) ∧ s < 4294967296 ∧ s = csN j q) (fun _ v5 => 8 - (intOf v5).toNat)
        case atStart => exact ⟨0, q, by omega, rfl, rfl, hq, rfl⟩
        case round =>
          obtain ⟨j, s, hj, rfl, rfl, hs, hsc⟩ := hrel
          have HSC := hid hsc
          clear hsc
          have hcl := cs_lt hs
          by_cases hj8 : j < 8
          · by_cases ho : s % 2 = 1
            · have ho' : ((s : Int) % 2 == 1) = true := by simp; omega
              have HO := hid (cs_odd hs ho)
              clear ho
              go_wp2
              go_round
              case rel => exact ⟨j + 1, cs s, by omega, by go_num, by rw [HO.out], hcl, by rw [HSC.out]; rfl⟩
              case measure => simp [intOf]; omega
            · have ho' : ((s : Int) % 2 == 1) = false := by simp; omega
              have HO := hid (cs_even ho)
              clear ho
              go_wp2
              go_round
              case rel => exact ⟨j + 1, cs s, by omega, by go_num, by rw [HO.out], hcl, by rw [HSC.out]; rfl⟩
              case measure => simp [intOf]; omega
          · go_wp2
            have hj' : j = 8 := by omega
            go_round
            case rel => exact ⟨k + 1, s, by omega, by go_num, rfl, hs, by rw [HSC.out, hj', HS.out]⟩
            case measure => simp [intOf]; omega
      · have : k = ns.length := by omega
        subst this
        go_wp2
        go_ret
        refine ⟨?_, rfl⟩
        have hce := crc_end hr
        show Ending.returned (.int .u32 (bits .xor .u32 4294967295 (r : Int))) = _
        rw [hce, HR.out, List.take_length]; rfl
end Go.Proofs.YtmhhdlcdfgahkaaDoor
namespace Go.Proofs.YtmhhdlcdfgahkaaDoor
open Go.ChangeShapes Go.WideShapes Go.ChangeAt Go.RowKit

theorem str_key : strOf (keyL [] 1 1) = ⟨#[1, 1, 0, 0, 0, 0, 0, 0]⟩ := by decide
theorem crc_known : crc [49, 50, 51, 52, 53, 54, 55, 56, 57] = 3808858755 := by decide +kernel
theorem put_known : putL 300 = [172, 2] := by rw [putL_ge (by omega), putL_lt (by omega)]
theorem str_put : strOf [172, 2] = ⟨#[172, 2]⟩ := by decide

theorem beq_str (s t : ByteArray) : (s.toList == t.toList) = decide (s = t) := by
  by_cases h : s = t
  · subst h; simp
  · have : s.toList ≠ t.toList := fun e => h (by
      cases s with | mk a => cases t with | mk b =>
      have h1 : a.toList = b.toList := by simpa [ByteArray.toList_eq] using e
      rw [Array.toList_inj.1 h1])
    simp [this, h]

end Go.Proofs.YtmhhdlcdfgahkaaDoor
namespace Go.Proofs.YtmhhdlcdfgahkaaDoor
open Go.ChangeShapes Go.WideShapes Go.ChangeAt Go.RowKit

theorem cell_fr {w w' : World} (f : Fr [] w w') {p : Addr} {v : Value} (h : w.cell? p = some v) : w'.cell? p = some v := by
  rw [World.cell?_of_block (w := w) (f.block _ (World.block_lt_of_cell? w _ h) (by simp))]; exact h
/-- A table's two keys. -/
structure FRd (w : World) (f : Fl) (la : Option Addr) (lc : Nat) (ma : Option Addr) (mc : Nat) : Prop where
  rl : Rd w (.slice la f.least.length lc) (bv f.least)
  rm : Rd w (.slice ma f.most.length mc) (bv f.most)
  bl : By f.least
  bm : By f.most
  ll : f.least.length ≤ 140737488355328
  lm : f.most.length ≤ 140737488355328
theorem FRd.fr {w w' : World} {f : Fl} {la ma : Option Addr} {lc mc : Nat} (h : FRd w f la lc ma mc) (g : Fr [] w w') : FRd w' f la lc ma mc := ⟨h.rl.fr g, h.rm.fr g, h.bl, h.bm, h.ll, h.lm⟩
/-- A table at a place. -/
structure FAt (w : World) (b o : Nat) (f : Fl) (la : Option Addr) (lc : Nat) (ma : Option Addr) (mc : Nat) : Prop where
  c0 : w.cell? ⟨b, o, none⟩ = some (.int .i64 f.num)
  c1 : w.cell? ⟨b, o + 1, none⟩ = some (.int .i64 f.size)
  c2 : w.cell? ⟨b, o + 2, none⟩ = some (.slice la f.least.length lc)
  c3 : w.cell? ⟨b, o + 3, none⟩ = some (.slice ma f.most.length mc)
  rd : FRd w f la lc ma mc
theorem FAt.fr {w w' : World} {b o : Nat} {f : Fl} {la ma : Option Addr} {lc mc : Nat} (h : FAt w b o f la lc ma mc) (g : Fr [] w w') : FAt w' b o f la lc ma mc := ⟨cell_fr g h.c0, cell_fr g h.c1, cell_fr g h.c2, cell_fr g h.c3, h.rd.fr g⟩
/-- A row of dropped tables. -/
def RdD (w : World) (v : Value) (gs : List (Int × Int)) : Prop := ∃ a c, v = .slice a gs.length c ∧ (0 < gs.length → ∃ b off, a = some ⟨b, off, none⟩ ∧ ∀ (j : Nat) (g : Int × Int), gs[j]? = some g → w.cell? ⟨b, off + j * 2, none⟩ = some (.int .i64 g.1) ∧ w.cell? ⟨b, off + j * 2 + 1, none⟩ = some (.int .i64 g.2))
theorem RdD.fr {w w' : World} {v : Value} {gs : List (Int × Int)} (h : RdD w v gs) (f : Fr [] w w') : RdD w' v gs := by
  obtain ⟨a, c, h1, h2⟩ := h
  refine ⟨a, c, h1, fun h0 => ?_⟩
  obtain ⟨b, off, h3, h4⟩ := h2 h0
  exact ⟨b, off, h3, fun j g hj => ⟨cell_fr f (h4 j g hj).1, cell_fr f (h4 j g hj).2⟩⟩
/-- A row of placed tables. -/
def RdA (w : World) (v : Value) (ps : List (Int × Fl)) : Prop := ∃ a c, v = .slice a ps.length c ∧ (0 < ps.length → ∃ b off, a = some ⟨b, off, none⟩ ∧ ∀ (j : Nat) (p : Int × Fl), ps[j]? = some p → w.cell? ⟨b, off + j * 5, none⟩ = some (.int .i64 p.1) ∧ ∃ la lc ma mc, FAt w b (off + j * 5 + 1) p.2 la lc ma mc)
theorem RdA.fr {w w' : World} {v : Value} {ps : List (Int × Fl)} (h : RdA w v ps) (f : Fr [] w w') : RdA w' v ps := by
  obtain ⟨a, c, h1, h2⟩ := h
  refine ⟨a, c, h1, fun h0 => ?_⟩
  obtain ⟨b, off, h3, h4⟩ := h2 h0
  refine ⟨b, off, h3, fun j p hj => ?_⟩
  obtain ⟨h5, la, lc, ma, mc, h6⟩ := h4 j p hj
  exact ⟨cell_fr f h5, la, lc, ma, mc, h6.fr f⟩
theorem isNumber_c (w : World) (n : Int) : Calls Tryd.prog 23 #[.int .i64 n] w fun e w' => e = .returned (.bool (okN n)) ∧ w' = w := by
  unfold okN
  by_cases h1 : 0 ≤ n
  · by_cases h2 : n ≤ 2147483647
    · rw [decide_eq_true h1, decide_eq_true h2]
      go_enter Tryd.func23, Tryd.ntmps23
      go_wp2
      go_ret
      exact ⟨rfl, rfl⟩
    · rw [decide_eq_true h1, decide_eq_false h2]
      go_enter Tryd.func23, Tryd.ntmps23
      go_wp2
      go_ret
      exact ⟨rfl, rfl⟩
  · rw [decide_eq_false h1, Bool.false_and]
    go_enter Tryd.func23, Tryd.ntmps23
    go_wp2
    go_ret
    exact ⟨rfl, rfl⟩
theorem isLevel_c (w : World) (n : Int) : Calls Tryd.prog 22 #[.int .i64 n] w fun e w' => e = .returned (.bool (okV n)) ∧ w' = w := by
  unfold okV
  by_cases h1 : 0 ≤ n
  · by_cases h2 : n < 5
    · rw [decide_eq_true h1, decide_eq_true h2]
      go_enter Tryd.func22, Tryd.ntmps22
      go_wp2
      go_ret
      exact ⟨rfl, rfl⟩
    · rw [decide_eq_true h1, decide_eq_false h2]
      go_enter Tryd.func22, Tryd.ntmps22
      go_wp2
      go_ret
      exact ⟨rfl, rfl⟩
  · rw [decide_eq_false h1, Bool.false_and]
    go_enter Tryd.func22, Tryd.ntmps22
    go_wp2
    go_ret
    exact ⟨rfl, rfl⟩
theorem head_c (w : World) (log next : Int) (seq : Nat) : Calls Tryd.prog 25 #[.int .i64 log, .int .i64 next, .int .u64 (seq : Int)] w fun e w' => e = .returned (.bool (okH log next seq)) ∧ w' = w := by
  unfold okH
  have N1 := hid (isNumber_c w log)
  have N2 := hid (isNumber_c w next)
  cases h1 : okN log with
  | false =>
    rw [h1] at N1
    rw [Bool.false_and]
    clear h1 N2
    go_enter Tryd.func25, Tryd.ntmps25
    go_wp2_with (go_at_call 23; refine N1.out.mono ?_; rintro e w1 ⟨rfl, h⟩; rw [h]; clear h)
    go_ret
    exact ⟨rfl, rfl⟩
  | true =>
    rw [h1] at N1
    rw [Bool.true_and]
    clear h1
    cases h2 : okN next with
    | false =>
      rw [h2] at N2
      rw [Bool.false_and]
      clear h2
      go_enter Tryd.func25, Tryd.ntmps25
      go_wp2_with (first | (go_at_call 23; have zz := N3.out; clear zz; refine N2.out.mono ?_; rintro e w1 ⟨rfl, h⟩; rw [h]; clear h) | (go_at_call 23; refine N1.out.mono ?_; rintro e w1 ⟨rfl, h⟩; rw [h]; clear h; have N3 := hid trivial))
      go_ret
      exact ⟨rfl, rfl⟩
    | true =>
      rw [h2] at N2
      rw [Bool.true_and]
      clear h2
      by_cases h3 : seq ≤ 72057594037927935
      · have h3' : (seq : Int) ≤ 72057594037927935 := by omega
        rw [decide_eq_true h3]
        go_enter Tryd.func25, Tryd.ntmps25
        go_wp2_with (first | (go_at_call 23; have zz := N3.out; clear zz; refine N2.out.mono ?_; rintro e w1 ⟨rfl, h⟩; rw [h]; clear h) | (go_at_call 23; refine N1.out.mono ?_; rintro e w1 ⟨rfl, h⟩; rw [h]; clear h; have N3 := hid trivial))
        go_ret
        exact ⟨rfl, rfl⟩
      · have h3' : (72057594037927935 : Int) < (seq : Int) := by omega
        rw [decide_eq_false h3]
        go_enter Tryd.func25, Tryd.ntmps25
        go_wp2_with (first | (go_at_call 23; have zz := N3.out; clear zz; refine N2.out.mono ?_; rintro e w1 ⟨rfl, h⟩; rw [h]; clear h) | (go_at_call 23; refine N1.out.mono ?_; rintro e w1 ⟨rfl, h⟩; rw [h]; clear h; have N3 := hid trivial))
        go_ret
        exact ⟨ret_bool (by simp; omega), rfl⟩
end Go.Proofs.YtmhhdlcdfgahkaaDoor
