/-
  What the document's Append and Length answer.
-/
import Derived.Test.YtmhhdlcdfgahkaaDoorJ09
namespace Go.Proofs.YtmhhdlcdfgahkaaDoor
open Go.ChangeShapes Go.WideShapes Go.ChangeAt Go.RowKit

set_option maxRecDepth 20000 in
set_option maxHeartbeats 400000 in
theorem summed_c {w : World} {v : Value} {ns : List Nat} (hr : Rd w v (bv ns)) (hb : By ns) (hl : ns.length ≤ 140737488355328) :
    Calls Tryd.prog 34 #[v] w fun e w' => ∃ v', e = .returned v' ∧ w'.ownsRow w.heap.size 5 1 v' 4 (bv (fixL (crc ns) 4)) ∧ Fr [] w w' := by
  have hc := crc_lt hb
  have RS := hid (refsum_c hr hb hl)
  generalize crc ns = s at *
  clear hr hb
  go_enter Tryd.func34, Tryd.ntmps34
  go_wp2_with (first
    | (go_at_call 52; refine RS.out.mono ?_; rintro e w1 ⟨rfl, rfl⟩)
    | (go_at_call 51; refine (reffixed_c _ s 4 (by omega) (by omega)).mono ?_; rintro e w2 ⟨v2, rfl, o2, f2⟩))
  go_ret
  exact ⟨v2, rfl, o2, f2⟩

set_option maxRecDepth 20000 in
set_option maxHeartbeats 800000 in
theorem fragment_c {w : World} {dv : Value} {d : List Nat} {k : Nat} (r : Rd w dv (bv d)) (hd : By d) (hk : k < 256) (hl : d.length ≤ 57) :
    Calls Tryd.prog 18 #[.int .i64 (k : Int), dv] w fun e w' => ∃ v', e = .returned v' ∧ w'.ownsRow w.heap.size 5 1 v' (7 + d.length) (bv (fragL k d)) ∧ Fr [] w w' := by
  obtain ⟨a1, c1, hv1⟩ := r.form
  rw [bv_len] at hv1
  subst hv1
  have f0 := (Fr.refl [] w).alloc (.cells #[.int .u8 (k : Int)] 5)
  have O1 : Hid ((w.alloc (.cells #[.int .u8 (k : Int)] 5)).ownsRow w.heap.size 5 1 (.slice (some ⟨w.heap.size, 0, none⟩) 1 1) [k].length (bv [k])) := World.ownsRow_lit (base := w.heap.size) w #[.int .u8 (k : Int)] 1 (Nat.le_refl _) (by unfold maxLen; omega) rfl
  have F0 := hid f0
  have R0 := hid (r.fr f0)
  have R := hid r
  have HBK : Hid (By ([k] ++ d)) := fun x hx => by
    rcases List.mem_append.1 hx with hx | hx
    · simp at hx; omega
    · exact hd x hx
  have HBW0 : Hid (w.heap.size ≤ (w.alloc (.cells #[.int .u8 (k : Int)] 5)).heap.size) := f0.size
  have hlen1 : [k].length + d.length ≤ 140737488355328 := by simp; omega
  have HL1 := hid hlen1
  have hkd : ([k] ++ d).length ≤ 140737488355328 := by simp; omega
  have HKD := hid hkd
  clear r hd f0 hlen1 hkd
  go_enter Tryd.func18, Tryd.ntmps18
  go_wp2_with (at_builtin; refine wpList_append_bv rfl _ _ rfl O1.out rfl F0.out (Nat.le_refl _) HBW0.out _ R0.out rfl HL1.out ?_; intro v2 w2 o2 f2; have P2 := hid (Rd.ownN o2 (by simp; omega)); have F2 := hid f2; clear o2 f2)
  refine (summed_c P2.out HBK.out HKD.out).mono ?_
  rintro e w3 ⟨v3, rfl, o3, f3⟩
  have f30 := F2.out.trans f3
  have O3 := hid (ownsRow_base (ownsRow_fr o3 ((Fr.refl [] w3).alloc (.cells #[.int .u8 (d.length : Int), .int .u8 ((d.length : Int) / 256), .int .u8 (k : Int)] 5))) F2.out.size)
  have F3 := hid (f30.alloc (.cells #[.int .u8 (d.length : Int), .int .u8 ((d.length : Int) / 256), .int .u8 (k : Int)] 5))
  have P3 : Hid (Rd (w3.alloc (.cells #[.int .u8 (d.length : Int), .int .u8 ((d.length : Int) / 256), .int .u8 (k : Int)] 5)) (.slice (some ⟨w3.heap.size, 0, none⟩) 3 3) (bv [d.length, d.length / 256, k])) := Rd_lit rfl (by omega) (by simp [bv])
  have hm : (d.length : Int) % 256 = (d.length : Int) := by omega
  have O3' : Hid ((w3.alloc (.cells #[.int .u8 (d.length : Int), .int .u8 ((d.length : Int) / 256), .int .u8 (k : Int)] 5)).ownsRow w.heap.size 5 1 v3 (fixL (crc ([k] ++ d)) 4).length (bv (fixL (crc ([k] ++ d)) 4))) := by
    unfold Hid; rw [fixL_len]; exact O3.out
  have hl4 : (fixL (crc ([k] ++ d)) 4).length = 4 := fixL_len _ _
  have HL4 : Hid ((fixL (crc ([k] ++ d)) 4).length + [d.length, d.length / 256, k].length ≤ 140737488355328) := by unfold Hid; rw [hl4]; simp
  clear o3 f3 f30 O3 P2 O1 R0 F0
  go_wp2_with (at_builtin; first
    | (refine wpList_append_bv rfl _ _ rfl O3'.out rfl F3.out (Nat.le_refl _) F3.out.size _ P3.out rfl HL4.out ?_
       intro v4 w4 o4 f4
       rw [← List.length_append] at o4
       have O4 := hid o4
       have F4 := hid f4
       have P4 := hid (R.out.fr f4)
       clear o4 f4)
    | (refine wpList_append_bv rfl _ _ rfl O4.out rfl F4.out (Nat.le_refl _) F4.out.size _ P4.out rfl (by rw [List.length_append, hl4]; simp; omega) ?_
       intro v5 w5 o5 f5
       have O5 := hid o5
       have F5 := hid f5
       clear o5 f5))
  go_ret
  refine ⟨v5, rfl, ?_, F5.out⟩
  have h := O5.out
  have e1 : fixL (crc ([k] ++ d)) 4 ++ [d.length, d.length / 256, k] ++ d = fragL k d := by
    unfold fragL; rw [Nat.mod_eq_of_lt (by omega), List.append_assoc]; rfl
  rw [e1, List.length_append, hl4] at h
  have e2 : 4 + [d.length, d.length / 256, k].length + d.length = 7 + d.length := by simp
  rw [e2] at h
  exact h

/-- append(nil, make([]byte, n)...). -/
theorem zeros_run (w : World) {n : Nat} (h0 : 0 < n) (h6 : n ≤ 100000) (ty : TypeId) : ∃ v' w', (Builtin.append_ #[29, 3] ty #[.slice none 0 0, .int .i64 (n : Int)]).run Tryd.prog w = .ok v' w' ∧ w'.ownsRow w.heap.size 5 1 v' n (bv (List.replicate n 0)) ∧ Fr [] w w' := by
  obtain ⟨i0, hi, hz0, hz1, hz2⟩ := info_parts infoB
  have h := Lib.run_append_nil_zeros (P := Tryd.prog) w 29 3 ty 5 i0 (.int .u8 0) .i64 .i64 Tryd.underlying29 Tryd.underlying3 hi hz0 n h0 (by rw [hz1]; omega) (by omega) (by rw [hz2]; omega)
  have hge : n ≤ grownCap w n 0 5 := grownCap_ge w _ _ _
  have hle : grownCap w n 0 5 ≤ maxLen := grownCap_le_maxLen w n 0 _ (by unfold maxLen; omega)
  refine ⟨_, _, h, ⟨by rw [bv_len, List.length_replicate, Nat.mul_one], .inr ⟨w.heap.size, _, _, rfl, Nat.le_refl _, blk_new w.drew _, hge, hle, ?_, ?_⟩⟩, ((Fr.refl [] w).drew).alloc _⟩
  · simp only [Array.size_append, size_zeroCells, Value.cells]
    simp; omega
  · have hz : ∀ m, (Builtin.zeroCells (Value.int .u8 0).cells m).toList = bv (List.replicate m 0) := fun m => by
      rw [← made_zero m]
      unfold madeCells Builtin.zeroCells
      simp [Value.cells]
    rw [Array.toList_append, hz, hz, ← bv_append, ← bv_take, Nat.mul_one, List.take_left' (List.length_replicate)]

set_option maxRecDepth 20000 in
theorem refappend_long (w : World) (z : Int) {v : Value} {r : List Nat} (hr : Rd w v (bv r)) (hl : 4194304 < r.length) :
    Calls Tryd.prog 8 #[.int .i64 z, v] w fun e w' => e = .returned (.tuple #[.slice none 0 0, .int .i64 50]) ∧ w' = w := by
  obtain ⟨a, c, hv⟩ := hr.form
  rw [bv_len] at hv
  subst hv
  clear hr
  go_enter Tryd.func8, Tryd.ntmps8
  go_wp2
  go_ret2
  exact ⟨rfl, rfl⟩

/-- What a round of the document's Append leaves to be laid down. -/
structure ApSt (w wr : World) (A : List Nat) (v1 v6 : Value) (p : Nat) (bg : Bool) (rs : List Nat) : Prop where
  ex : ∃ (xs : List Nat) (f : Nat) (a : Option Addr) (c : Nat), v1 = .slice a rs.length c ∧ rs.length + (if lf p = 7 then 1 else 0) < f ∧ A = xs ++ (List.replicate (zr p) 0 ++ frs f bg (lf p) rs) ∧ wr.ownsRow w.heap.size 5 1 v6 xs.length (bv xs) ∧ (64 - p < 7 → v6 = .slice none 0 0 ∧ xs = [])
  rd : Rd w v1 (bv rs)
  by' : By rs
  fr : Fr [] w wr

/-- What holds at a round's beginning. -/
def ApRel (w : World) (A : List Nat) (n : Nat) (v0 v1 v6 v7 : Value) (wr : World) : Prop := ∃ (p : Nat) (bg : Bool) (rs : List Nat), p < 64 ∧ v0 = .int .i64 (p : Int) ∧ v7 = .bool bg ∧ rs.length ≤ n ∧ ApSt w wr A v1 v6 p bg rs
def apMes (v0 v1 : Value) : Nat := slLen v1 + (if intOf v0 = 0 then 0 else 1)
set_option maxRecDepth 20000 in
set_option maxHeartbeats 3200000 in
theorem refappend_p (w : World) (z : Int) (p0 : Nat) (hp0 : p0 < 64) (hmz : (0 ≤ z ∧ z % 64 = (p0 : Int)) ∨ (z < 0 ∧ p0 = 0)) {v : Value} {r : List Nat} (hr : Rd w v (bv r)) (hb : By r) (hl : r.length ≤ 4194304) :
    Calls Tryd.prog 8 #[.int .i64 z, v] w fun e w' => ∃ v', e = .returned (.tuple #[v', .int .i64 0]) ∧ w'.ownsRow w.heap.size 5 1 v' (appL p0 r).length (bv (appL p0 r)) ∧ Fr [] w w' := by
  obtain ⟨a, c, hv⟩ := hr.form
  rw [bv_len] at hv
  subst hv
  have hAl : (appL p0 r).length ≤ 10000000 := by
    have h1 := zr_le p0
    have h2 := lf_ge p0
    rw [appL_len]; unfold nfr; omega
  have S0 : Hid (ApSt w w (appL p0 r) (.slice a r.length c) (.slice none 0 0) p0 false r) := ⟨⟨[], r.length + 2, a, c, rfl, by split <;> omega, rfl, World.ownsRow_nil _ _ _ _, fun _ => ⟨rfl, rfl⟩⟩, hr, hb, Fr.refl _ _⟩
  generalize appL p0 r = A at *
  clear hr hb
  rcases hmz with ⟨hz1, hz2⟩ | ⟨hz1, hz2⟩
  all_goals
    have HZ2 := hid hz2
    clear hz2
    go_enter Tryd.func8, Tryd.ntmps8
    go_wp2_with fail
    go_loopw [0, 1, 6, 7] (fun v0 v1 v6 v7 wr => ApRel w A r.length v0 v1 v6 v7 wr) (fun v0 v1 _ _ _ => apMes v0 v1)
    case atStart => exact ⟨p0, false, r, hp0, by first | (rw [HZ2.out]; done) | (rw [HZ2.out]; rfl), rfl, Nat.le_refl _, S0.out⟩
    case round =>
      obtain ⟨p, bg, rs, hp, rfl, rfl, hrl, S⟩ := hrel
      obtain ⟨⟨xs, f, a, c, rfl, hf, hA, ho, hfill⟩, hr, hb, hfr⟩ := S
      have HA := hid hA
      have RO := hid ho
      have HFI := hid hfill
      have HR := hid hr
      have HB := hid hb
      have RF := hid hfr
      have HF := hid hf
      have hxl : xs.length ≤ A.length := by rw [hA, List.length_append]; omega
      clear hA ho hfill hr hb hfr hf
      by_cases hp7 : 64 - p < 7
      · obtain ⟨hv6, hxs⟩ := HFI.out hp7
        subst hv6
        subst hxs
        have hp7' : (64 : Int) - (p : Int) < 7 := by omega
        obtain ⟨d, hd⟩ : ∃ d, d = 64 - p := ⟨_, rfl⟩
        have hdi : (64 : Int) - (p : Int) = (d : Int) := by omega
        obtain ⟨v', w', hrun, o', f'⟩ := zeros_run wr (n := d) (by omega) (by omega) 29
        have hzr : zr p = d := by unfold zr; rw [Nat.mod_eq_of_lt hp, if_pos hp7, hd]
        have hlf : lf p = 64 := by unfold lf; rw [Nat.mod_eq_of_lt hp, if_pos hp7]
        have O' := hid (ownsRow_base o' RF.out.size)
        have F' := hid (RF.out.trans f')
        have HRUN := hid hrun
        have HZ := hid hzr
        have HLF := hid hlf
        have HDI := hid hdi
        clear o' f' hrun hzr hlf hdi hd
        go_wp2_with (at_builtin; rw [HDI.out]; refine Lib.wpList_append_run _ rfl _ _ _ _ rfl _ _ rfl rfl _ _ HRUN.out ?_)
        have REL : ApRel w A r.length (.int .i64 0) (.slice a rs.length c) v' (.bool bg) w' := ⟨0, bg, rs, by omega, rfl, rfl, hrl, ⟨⟨List.replicate d 0, f, a, c, rfl, by have := HF.out; rw [HLF.out] at this; exact this, by rw [HA.out, HZ.out, HLF.out]; rfl, by rw [List.length_replicate]; exact O'.out, fun h => by omega⟩, HR.out, HB.out, F'.out⟩⟩
        have MES : apMes (.int .i64 0) (.slice a rs.length c) < apMes (.int .i64 (p : Int)) (.slice a rs.length c) := by
          unfold apMes
          show rs.length + (if (0 : Int) = 0 then 0 else 1) < rs.length + (if (p : Int) = 0 then 0 else 1)
          rw [if_pos rfl, if_neg (by omega)]; omega
        first | exact ⟨REL, MES⟩ | exact ⟨⟨_, _, _, _, _, _, REL, rfl, rfl, rfl, rfl, rfl, rfl⟩, MES⟩
      · obtain ⟨m, hm⟩ : ∃ m, p + m = 57 := ⟨57 - p, by omega⟩
        have hzr : zr p = 0 := by unfold zr; rw [Nat.mod_eq_of_lt hp, if_neg hp7]
        have hlf : lf p = m + 7 := by unfold lf; rw [Nat.mod_eq_of_lt hp, if_neg hp7]; omega
        have hA := HA.out
        rw [hzr, hlf, List.replicate_zero, List.nil_append] at hA
        have hf := HF.out
        rw [hlf] at hf
        obtain ⟨g, rfl⟩ : ∃ g, f = g + 1 := ⟨f - 1, by omega⟩
        have k0 : (64 : Int) - (p : Int) - 7 = (m : Int) := by omega
        have k1 : ¬ (64 : Int) - (p : Int) < 7 := by omega
        have RSZ := hid RF.out.size
        clear HA HF hzr hlf
        by_cases hlast : rs.length ≤ m
        · have RL : Hid (A = xs ++ fragL (kd bg true) rs) := by unfold Hid; rw [hA, frs_last hlast]
          have hcase : (a = none ∧ c = 0 ∧ rs = []) ∨ ∃ ad, a = some ad ∧ rs.length ≤ c := by
            rcases HR.out with ⟨h, h'⟩ | ⟨ad, c', h, h4, h5⟩
            · left
              simp only [Value.slice.injEq] at h
              exact ⟨h.1, h.2.2, List.eq_nil_of_length_eq_zero h.2.1⟩
            · right
              simp only [Value.slice.injEq, bv_len] at h h4
              exact ⟨ad, h.1, by omega⟩
          have FC := hid (fragment_c (HR.out.fr RF.out) HB.out (kd_lt bg true) (by omega))
          have HFL : Hid ((fragL (kd bg true) rs).length = 7 + rs.length) := fragL_len _ _
          clear hA hf HFI
          have hmm : rs.length < m ∨ m = rs.length := by omega
          rcases hcase with ⟨rfl, rfl, rfl⟩ | ⟨ad, rfl, hcc⟩
          all_goals rcases hmm with hlt | rfl
          all_goals cases bg
          all_goals
            go_wp2_with (first
              | (go_at_call 18
                 refine FC.out.mono ?_
                 rintro e w4 ⟨v4, rfl, o4, f4⟩
                 have P4 := hid (Rd.ownN o4 HFL.out.symm)
                 have O4 := hid (ownsRow_fr RO.out f4)
                 have F4 := hid (RF.out.trans f4)
                 clear o4 f4)
              | (at_builtin
                 refine wpList_append_bv rfl _ _ rfl O4.out rfl F4.out (Nat.le_refl _) F4.out.size _ P4.out rfl (by rw [HFL.out]; omega) ?_
                 intro v5 w5 o5 f5
                 have O5 := hid o5
                 have F5 := hid f5
                 clear o5 f5))
            all_goals go_ret2
            all_goals exact ⟨v5, rfl, by rw [RL.out, List.length_append]; exact O5.out, F5.out⟩
        · have hpos : 0 < rs.length := by omega
          obtain ⟨bk, off, c', hv, hc'⟩ := HR.out.place hpos
          simp only [Value.slice.injEq, true_and] at hv
          obtain ⟨rfl, rfl⟩ := hv
          have D1 := hid (HR.out.front (q := m) (by omega))
          have D2 := hid (HR.out.back (q := m) (by omega))
          have hdl : (rs.take m).length = m := by rw [List.length_take]; omega
          have hdr : (rs.drop m).length = rs.length - m := List.length_drop
          have FC := hid (fragment_c (D1.out.fr RF.out) (HB.out.take m) (kd_lt bg false) (by rw [hdl]; omega))
          have HFL : Hid ((fragL (kd bg false) (rs.take m)).length = 7 + m) := by unfold Hid; rw [fragL_len, hdl]
          have RA : Hid (A = (xs ++ fragL (kd bg false) (rs.take m)) ++ frs g true 64 (rs.drop m)) := by unfold Hid; rw [hA, frs_more (by omega), List.append_assoc]
          have HG : Hid (rs.length - m < g) := by unfold Hid; split at hf <;> omega
          have HDL := hid hdl
          have HDR := hid hdr
          have k2 : (m : Int) < (rs.length : Int) := by omega
          have k3 : ¬ (c = m) := by omega
          have k4 : ((m : Int) == (rs.length : Int)) = false := beq_eq_false_iff_ne.2 (by omega)
          have K5 : Hid (((p : Int) + 7 + (m : Int)) % 64 = 0) := by unfold Hid; omega
          have k6 : m ≤ rs.length := by omega
          have HPM := hid hm
          clear hA hf HFI hdl hdr hm
          cases bg
          all_goals
            go_wp2_with (first
              | (go_at_call 18
                 refine FC.out.mono ?_
                 rintro e w4 ⟨v4, rfl, o4, f4⟩
                 rw [HDL.out] at o4
                 have P4 := hid (Rd.ownN o4 HFL.out.symm)
                 have O4 := hid (ownsRow_fr RO.out f4)
                 have F4 := hid (RF.out.trans f4)
                 clear o4 f4)
              | (at_builtin
                 refine wpList_append_bv rfl _ _ rfl O4.out rfl F4.out (Nat.le_refl _) F4.out.size _ P4.out rfl (by rw [HFL.out]; omega) ?_
                 intro v5 w5 o5 f5
                 rw [← List.length_append] at o5
                 have O5 := hid o5
                 have F5 := hid f5
                 clear o5 f5))
            have REL : ApRel w A r.length (.int .i64 0) (.slice (some ⟨bk, off + m, none⟩) (rs.length - m) (c - m)) v5 (.bool true) w5 := ⟨0, true, rs.drop m, by omega, rfl, rfl, by rw [HDR.out]; omega, ⟨⟨_, g, _, _, by rw [HDR.out], by rw [HDR.out]; have := HG.out; simpa [lf] using this, by rw [RA.out]; rfl, O5.out, fun h => by omega⟩, by rw [← HDR.out]; rw [HDR.out]; exact D2.out, HB.out.drop m, F5.out⟩⟩
            have MES : apMes (.int .i64 0) (.slice (some ⟨bk, off + m, none⟩) (rs.length - m) (c - m)) < apMes (.int .i64 (p : Int)) (.slice (some ⟨bk, off, none⟩) rs.length c) := by
              have := HPM.out
              unfold apMes
              show rs.length - m + (if (0 : Int) = 0 then 0 else 1) < rs.length + (if (p : Int) = 0 then 0 else 1)
              rw [if_pos rfl]
              by_cases h0 : p = 0
              · subst h0
                have : m = 57 := by omega
                simp; omega
              · rw [if_neg (by omega)]; omega
            first | exact ⟨REL, MES⟩ | (rw [K5.out]; exact ⟨REL, MES⟩)
end Go.Proofs.YtmhhdlcdfgahkaaDoor
namespace Go.Proofs.YtmhhdlcdfgahkaaDoor
open Go.ChangeShapes Go.WideShapes Go.ChangeAt Go.RowKit

theorem refappend_c (w : World) (z : Int) {v : Value} {r : List Nat} (hr : Rd w v (bv r)) (hb : By r) (hl : r.length ≤ 4194304) :
    Calls Tryd.prog 8 #[.int .i64 z, v] w fun e w' => ∃ v', e = .returned (.tuple #[v', .int .i64 0]) ∧ w'.ownsRow w.heap.size 5 1 v' (appL z.toNat r).length (bv (appL z.toNat r)) ∧ Fr [] w w' := by
  have h := refappend_p w z (z.toNat % 64) (by omega) (by omega) hr hb hl
  rw [appL_mod] at h
  exact h

end Go.Proofs.YtmhhdlcdfgahkaaDoor
