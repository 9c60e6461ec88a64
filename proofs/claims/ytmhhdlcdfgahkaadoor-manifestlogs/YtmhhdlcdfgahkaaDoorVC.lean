/-
  What holds of each table of a version.
-/
import Derived.Test.YtmhhdlcdfgahkaaDoorJ12
import Derived.Test.YtmhhdlcdfgahkaaDoorVM
namespace Go.Proofs.YtmhhdlcdfgahkaaDoor
open Go.ChangeShapes Go.WideShapes Go.ChangeAt Go.RowKit

theorem take_pre {L : Nat → List Fl} {i j : Nat} {f : Fl} (h : (L i)[j]? = some f) : pfx L i ++ (L i).take (j + 1) = (pfx L i ++ (L i).take j) ++ [f] := by
  rw [List.take_add_one, h]; simp
theorem drop_pre {α : Type} {l : List α} {j : Nat} {f : α} (h : l[j]? = some f) : l.drop j = f :: l.drop (j + 1) := by
  obtain ⟨hj, rfl⟩ := List.getElem?_eq_some_iff.1 h
  exact List.drop_eq_getElem_cons hj

set_option maxRecDepth 20000 in
set_option maxHeartbeats 3200000 in
theorem each_file (w : World) {L : Nat → List Fl} {ad : Nat → Option Addr} {ln cp : Nat → Nat} (lg nx : Int) (sq : Nat) (I : List Fl → World → Prop) (p : List Fl → Fl → Bool) (wb : World) (hv : VAt wb L ad ln cp) (h0 : I [] w) (HI : ∀ pre W, I pre W → Fr [] wb W) (HA : ∀ pre W W', I pre W → Fr [] W W' → I pre W')
    (H : ∀ (pre : List Fl) (f : Fl) (W : World) (la : Option Addr) (lc : Nat) (ma : Option Addr) (mc : Nat), I pre W → FRd W f la lc ma mc → Calls Tryd.prog 24 #[.agg #[.int .i64 f.num, .int .i64 f.size, .slice la f.least.length lc, .slice ma f.most.length mc]] W fun r W' => r = .returned (.bool (p pre f)) ∧ I (pre ++ [f]) W') :
    Calls Tryd.prog 28 #[.agg #[.int .i64 lg, .int .i64 nx, .int .u64 (sq : Int), .slice (ad 0) (ln 0) (cp 0), .slice (ad 1) (ln 1) (cp 1), .slice (ad 2) (ln 2) (cp 2), .slice (ad 3) (ln 3) (cp 3), .slice (ad 4) (ln 4) (cp 4)], .func (.func 24) #[] #[]] w fun r w' => r = .returned (.bool (runP p [] (pfx L 5))) ∧ ∃ pre, I pre w' := by
  obtain ⟨R, hR⟩ : ∃ R, R = runP p [] (pfx L 5) := ⟨_, rfl⟩
  rw [← hR]
  have HR : Hid (R = runP p [] (pfx L 5)) := hid hR
  clear hR
  have HV := hid hv
  have HHI := hid HI
  have HHA := hid HA
  have HH := hid H
  clear hv HI HA H
  obtain ⟨W0, hW0⟩ : ∃ W0, W0 = w.alloc (.cells #[.int .i64 lg, .int .i64 nx, .int .u64 (sq : Int), .slice (ad 0) (ln 0) (cp 0), .slice (ad 1) (ln 1) (cp 1), .slice (ad 2) (ln 2) (cp 2), .slice (ad 3) (ln 3) (cp 3), .slice (ad 4) (ln 4) (cp 4)] 28) := ⟨_, rfl⟩
  have I0 : Hid (I [] W0) := hid (HHA.out _ _ _ h0 (by rw [hW0]; exact (Fr.refl _ _).alloc _))
  have n0 : W0.heap[w.heap.size]? = some (.cells #[.int .i64 lg, .int .i64 nx, .int .u64 (sq : Int), .slice (ad 0) (ln 0) (cp 0), .slice (ad 1) (ln 1) (cp 1), .slice (ad 2) (ln 2) (cp 2), .slice (ad 3) (ln 3) (cp 3), .slice (ad 4) (ln 4) (cp 4)] 28 (0, 0)) := by rw [hW0]; exact blk_new _ _
  obtain ⟨z0, z1, z2, z3, z4, z5, z6, z7⟩ := vn_cells n0
  have HX : Hid (∀ i : Nat, i < 5 → ∀ W : World, (Instr.index 26 (.agg #[.slice (ad 0) (ln 0) (cp 0), .slice (ad 1) (ln 1) (cp 1), .slice (ad 2) (ln 2) (cp 2), .slice (ad 3) (ln 3) (cp 3), .slice (ad 4) (ln 4) (cp 4)]) (.int .i64 (i : Int))).run Tryd.prog W = .ok (.slice (ad i) (ln i) (cp i)) W) := hid (fun i hi W => ixs hi ad ln cp W)
  clear n0 h0
  go_enter Tryd.func28, Tryd.ntmps28
  go_upto_region 1 with fail
  rw [← hW0]
  clear hW0
  go_wp2_with fail
  clear z0 z1 z2 z3 z4 z5 z6 z7
  go_loopw [11] (fun v11 wr => ∃ i : Nat, i ≤ 5 ∧ v11 = .int .i64 (i : Int) ∧ I (pfx L i) wr ∧ R = runP p (pfx L i) (sfx L i)) (fun v11 _ => 5 - (intOf v11).toNat)
  case atStart => exact ⟨0, by omega, rfl, I0.out, by rw [HR.out, ← pfx_sfx L 0 (by omega)]; rfl⟩
  case round =>
    obtain ⟨i, hi, rfl, hI, hq⟩ := hrel
    have II := hid hI
    have HQ := hid hq
    clear hI hq
    by_cases hlt : i < 5
    · have hlt' : (i : Int) < 5 := by omega
      have ixi := HX.out i hlt
      have HLN := hid (HV.out.len i hlt)
      have HSM := HV.out.small i hlt
      have HRD := hid (HV.out.rd i hlt)
      obtain ⟨li, hli⟩ : ∃ li, li = ln i := ⟨_, rfl⟩
      obtain ⟨ai, hai⟩ : ∃ ai, ai = ad i := ⟨_, rfl⟩
      obtain ⟨ci, hci⟩ : ∃ ci, ci = cp i := ⟨_, rfl⟩
      rw [← hli] at ixi HLN HSM HRD
      rw [← hai] at ixi HRD
      rw [← hci] at ixi
      clear hli hai hci
      obtain ⟨W1, h1⟩ : ∃ W, W = wr := ⟨_, rfl⟩
      subst h1
      go_wp2_with fail
      clear ixi
      go_loopw [16] (fun v16 wr => ∃ j : Nat, j ≤ li ∧ v16 = .int .i64 (j : Int) ∧ I (pfx L i ++ (L i).take j) wr ∧ R = runP p (pfx L i ++ (L i).take j) ((L i).drop j ++ sfx L (i + 1))) (fun v16 _ => li - (intOf v16).toNat)
      case atStart => exact ⟨0, by omega, rfl, by simpa using II.out, by rw [HQ.out, sfx_succ L hlt]; simp⟩
      case round =>
        obtain ⟨j, hj, rfl, hI, hq⟩ := hrel
        have IJ := hid hI
        have HQ2 := hid hq
        clear hI hq II HQ
        by_cases hjl : j < li
        · have hjl' : (j : Int) < (li : Int) := by omega
          obtain ⟨f, hf⟩ : ∃ f, (L i)[j]? = some f := ⟨_, List.getElem?_eq_getElem (by rw [← HLN.out]; exact hjl)⟩
          have HF := hid hf
          obtain ⟨b, off, hab, m1⟩ := HRD.out (by omega)
          subst hab
          obtain ⟨la, lc, ma, mc, k1⟩ := m1 j f hf
          have k2 := k1.fr (HHI.out _ _ IJ.out)
          clear hf m1 k1
          obtain ⟨x0, x1, x2, x3, xr⟩ := k2
          obtain ⟨W2, hW2⟩ : ∃ W2, W2 = wr.alloc (.cells #[.int .i64 f.num, .int .i64 f.size, .slice la f.least.length lc, .slice ma f.most.length mc] 53) := ⟨_, rfl⟩
          have fw : Fr [] wr W2 := by rw [hW2]; exact (Fr.refl _ _).alloc _
          have I2 := hid (HHA.out _ _ _ IJ.out fw)
          have n2 : W2.heap[wr.heap.size]? = some (.cells #[.int .i64 f.num, .int .i64 f.size, .slice la f.least.length lc, .slice ma f.most.length mc] 53 (0, 0)) := by rw [hW2]; exact blk_new _ _
          obtain ⟨y0, y1, y2, y3⟩ := fl_cells n2
          have HC := hid (HH.out (pfx L i ++ (L i).take j) f W2 la lc ma mc I2.out (xr.fr fw))
          clear n2 fw xr
          have HT : Hid (R = (p (pfx L i ++ (L i).take j) f && runP p (pfx L i ++ (L i).take (j + 1)) ((L i).drop (j + 1) ++ sfx L (i + 1)))) := hid (by rw [HQ2.out, drop_pre HF.out, take_pre HF.out]; rfl)
          go_upto_region 7 with fail
          rw [← hW2]
          clear hW2 x0 x1 x2 x3
          cases hp : p (pfx L i ++ (L i).take j) f with
          | false =>
            rw [hp] at HC HT
            rw [Bool.false_and] at HT
            clear hp
            go_wp2_with (go_at_call 24; refine HC.out.mono ?_; rintro r W3 ⟨rfl, i3⟩; have I3 := hid i3; clear i3)
            go_ret
            exact ⟨ret_bool HT.out.symm, _, I3.out⟩
          | true =>
            rw [hp] at HC HT
            rw [Bool.true_and] at HT
            clear hp
            go_wp2_with (go_at_call 24; refine HC.out.mono ?_; rintro r W3 ⟨rfl, i3⟩; have I3 := hid i3; clear i3)
            go_roundw
            case rel => exact ⟨j + 1, by omega, by go_num, by rw [take_pre HF.out]; exact I3.out, HT.out⟩
            case measure => simp [intOf]; omega
        · have hjn : j = li := by omega
          subst hjn
          go_wp2_with fail
          go_roundw
          case rel => exact ⟨i + 1, by omega, by go_num, by rw [pfx_succ]; have := IJ.out; rw [HLN.out, List.take_length] at this; exact this, by rw [HQ2.out, HLN.out, List.take_length, List.drop_length, pfx_succ]; rfl⟩
          case measure => simp [intOf]; omega
    · have hin : i = 5 := by omega
      subst hin
      have HE : Hid (R = true) := hid (by rw [HQ.out, sfx_five]; rfl)
      go_wp2
      go_ret
      exact ⟨ret_bool HE.out.symm, _, II.out⟩

set_option maxRecDepth 20000 in
set_option maxHeartbeats 3200000 in
theorem each_fresh (w : World) {L : Nat → List Fl} {ad : Nat → Option Addr} {ln cp : Nat → Nat} (lg nx : Int) (sq : Nat) (q : Nat) (I : List Fl → World → Prop) (p : List Fl → Fl → Bool) (wb : World) (hv : VAt wb L ad ln cp) (h0 : I [] w) (HI : ∀ pre W, I pre W → Fr [] wb W) (HA : ∀ pre W W', I pre W → Fr [] W W' → I pre W')
    (H : ∀ (pre : List Fl) (f : Fl) (W : World) (la : Option Addr) (lc : Nat) (ma : Option Addr) (mc : Nat), I pre W → FRd W f la lc ma mc → Calls Tryd.prog 26 #[.agg #[.int .i64 f.num, .int .i64 f.size, .slice la f.least.length lc, .slice ma f.most.length mc], .pointer (some ⟨q, 0, none⟩)] W fun r W' => r = .returned (.bool (p pre f)) ∧ I (pre ++ [f]) W') :
    Calls Tryd.prog 28 #[.agg #[.int .i64 lg, .int .i64 nx, .int .u64 (sq : Int), .slice (ad 0) (ln 0) (cp 0), .slice (ad 1) (ln 1) (cp 1), .slice (ad 2) (ln 2) (cp 2), .slice (ad 3) (ln 3) (cp 3), .slice (ad 4) (ln 4) (cp 4)], .func (.func 26) #[] #[.pointer (some ⟨q, 0, none⟩)]] w fun r w' => r = .returned (.bool (runP p [] (pfx L 5))) ∧ ∃ pre, I pre w' := by
  obtain ⟨R, hR⟩ : ∃ R, R = runP p [] (pfx L 5) := ⟨_, rfl⟩
  rw [← hR]
  have HR : Hid (R = runP p [] (pfx L 5)) := hid hR
  clear hR
  have HV := hid hv
  have HHI := hid HI
  have HHA := hid HA
  have HH := hid H
  clear hv HI HA H
  obtain ⟨W0, hW0⟩ : ∃ W0, W0 = w.alloc (.cells #[.int .i64 lg, .int .i64 nx, .int .u64 (sq : Int), .slice (ad 0) (ln 0) (cp 0), .slice (ad 1) (ln 1) (cp 1), .slice (ad 2) (ln 2) (cp 2), .slice (ad 3) (ln 3) (cp 3), .slice (ad 4) (ln 4) (cp 4)] 28) := ⟨_, rfl⟩
  have I0 : Hid (I [] W0) := hid (HHA.out _ _ _ h0 (by rw [hW0]; exact (Fr.refl _ _).alloc _))
  have n0 : W0.heap[w.heap.size]? = some (.cells #[.int .i64 lg, .int .i64 nx, .int .u64 (sq : Int), .slice (ad 0) (ln 0) (cp 0), .slice (ad 1) (ln 1) (cp 1), .slice (ad 2) (ln 2) (cp 2), .slice (ad 3) (ln 3) (cp 3), .slice (ad 4) (ln 4) (cp 4)] 28 (0, 0)) := by rw [hW0]; exact blk_new _ _
  obtain ⟨z0, z1, z2, z3, z4, z5, z6, z7⟩ := vn_cells n0
  have HX : Hid (∀ i : Nat, i < 5 → ∀ W : World, (Instr.index 26 (.agg #[.slice (ad 0) (ln 0) (cp 0), .slice (ad 1) (ln 1) (cp 1), .slice (ad 2) (ln 2) (cp 2), .slice (ad 3) (ln 3) (cp 3), .slice (ad 4) (ln 4) (cp 4)]) (.int .i64 (i : Int))).run Tryd.prog W = .ok (.slice (ad i) (ln i) (cp i)) W) := hid (fun i hi W => ixs hi ad ln cp W)
  clear n0 h0
  go_enter Tryd.func28, Tryd.ntmps28
  go_upto_region 1 with fail
  rw [← hW0]
  clear hW0
  go_wp2_with fail
  clear z0 z1 z2 z3 z4 z5 z6 z7
  go_loopw [11] (fun v11 wr => ∃ i : Nat, i ≤ 5 ∧ v11 = .int .i64 (i : Int) ∧ I (pfx L i) wr ∧ R = runP p (pfx L i) (sfx L i)) (fun v11 _ => 5 - (intOf v11).toNat)
  case atStart => exact ⟨0, by omega, rfl, I0.out, by rw [HR.out, ← pfx_sfx L 0 (by omega)]; rfl⟩
  case round =>
    obtain ⟨i, hi, rfl, hI, hq⟩ := hrel
    have II := hid hI
    have HQ := hid hq
    clear hI hq
    by_cases hlt : i < 5
    · have hlt' : (i : Int) < 5 := by omega
      have ixi := HX.out i hlt
      have HLN := hid (HV.out.len i hlt)
      have HSM := HV.out.small i hlt
      have HRD := hid (HV.out.rd i hlt)
      obtain ⟨li, hli⟩ : ∃ li, li = ln i := ⟨_, rfl⟩
      obtain ⟨ai, hai⟩ : ∃ ai, ai = ad i := ⟨_, rfl⟩
      obtain ⟨ci, hci⟩ : ∃ ci, ci = cp i := ⟨_, rfl⟩
      rw [← hli] at ixi HLN HSM HRD
      rw [← hai] at ixi HRD
      rw [← hci] at ixi
      clear hli hai hci
      obtain ⟨W1, h1⟩ : ∃ W, W = wr := ⟨_, rfl⟩
      subst h1
      go_wp2_with fail
      clear ixi
      go_loopw [16] (fun v16 wr => ∃ j : Nat, j ≤ li ∧ v16 = .int .i64 (j : Int) ∧ I (pfx L i ++ (L i).take j) wr ∧ R = runP p (pfx L i ++ (L i).take j) ((L i).drop j ++ sfx L (i + 1))) (fun v16 _ => li - (intOf v16).toNat)
      case atStart => exact ⟨0, by omega, rfl, by simpa using II.out, by rw [HQ.out, sfx_succ L hlt]; simp⟩
      case round =>
        obtain ⟨j, hj, rfl, hI, hq⟩ := hrel
        have IJ := hid hI
        have HQ2 := hid hq
        clear hI hq II HQ
        by_cases hjl : j < li
        · have hjl' : (j : Int) < (li : Int) := by omega
          obtain ⟨f, hf⟩ : ∃ f, (L i)[j]? = some f := ⟨_, List.getElem?_eq_getElem (by rw [← HLN.out]; exact hjl)⟩
          have HF := hid hf
          obtain ⟨b, off, hab, m1⟩ := HRD.out (by omega)
          subst hab
          obtain ⟨la, lc, ma, mc, k1⟩ := m1 j f hf
          have k2 := k1.fr (HHI.out _ _ IJ.out)
          clear hf m1 k1
          obtain ⟨x0, x1, x2, x3, xr⟩ := k2
          obtain ⟨W2, hW2⟩ : ∃ W2, W2 = wr.alloc (.cells #[.int .i64 f.num, .int .i64 f.size, .slice la f.least.length lc, .slice ma f.most.length mc] 53) := ⟨_, rfl⟩
          have fw : Fr [] wr W2 := by rw [hW2]; exact (Fr.refl _ _).alloc _
          have I2 := hid (HHA.out _ _ _ IJ.out fw)
          have n2 : W2.heap[wr.heap.size]? = some (.cells #[.int .i64 f.num, .int .i64 f.size, .slice la f.least.length lc, .slice ma f.most.length mc] 53 (0, 0)) := by rw [hW2]; exact blk_new _ _
          obtain ⟨y0, y1, y2, y3⟩ := fl_cells n2
          have HC := hid (HH.out (pfx L i ++ (L i).take j) f W2 la lc ma mc I2.out (xr.fr fw))
          clear n2 fw xr
          have HT : Hid (R = (p (pfx L i ++ (L i).take j) f && runP p (pfx L i ++ (L i).take (j + 1)) ((L i).drop (j + 1) ++ sfx L (i + 1)))) := hid (by rw [HQ2.out, drop_pre HF.out, take_pre HF.out]; rfl)
          go_upto_region 7 with fail
          rw [← hW2]
          clear hW2 x0 x1 x2 x3
          cases hp : p (pfx L i ++ (L i).take j) f with
          | false =>
            rw [hp] at HC HT
            rw [Bool.false_and] at HT
            clear hp
            go_wp2_with (go_at_call 26; refine HC.out.mono ?_; rintro r W3 ⟨rfl, i3⟩; have I3 := hid i3; clear i3)
            go_ret
            exact ⟨ret_bool HT.out.symm, _, I3.out⟩
          | true =>
            rw [hp] at HC HT
            rw [Bool.true_and] at HT
            clear hp
            go_wp2_with (go_at_call 26; refine HC.out.mono ?_; rintro r W3 ⟨rfl, i3⟩; have I3 := hid i3; clear i3)
            go_roundw
            case rel => exact ⟨j + 1, by omega, by go_num, by rw [take_pre HF.out]; exact I3.out, HT.out⟩
            case measure => simp [intOf]; omega
        · have hjn : j = li := by omega
          subst hjn
          go_wp2_with fail
          go_roundw
          case rel => exact ⟨i + 1, by omega, by go_num, by rw [pfx_succ]; have := IJ.out; rw [HLN.out, List.take_length] at this; exact this, by rw [HQ2.out, HLN.out, List.take_length, List.drop_length, pfx_succ]; rfl⟩
          case measure => simp [intOf]; omega
    · have hin : i = 5 := by omega
      subst hin
      have HE : Hid (R = true) := hid (by rw [HQ.out, sfx_five]; rfl)
      go_wp2
      go_ret
      exact ⟨ret_bool HE.out.symm, _, II.out⟩

set_option maxRecDepth 20000 in
set_option maxHeartbeats 3200000 in
theorem each_below (w : World) {L : Nat → List Fl} {ad : Nat → Option Addr} {ln cp : Nat → Nat} (lg nx : Int) (sq : Nat) (q : Nat) (I : List Fl → World → Prop) (p : List Fl → Fl → Bool) (wb : World) (hv : VAt wb L ad ln cp) (h0 : I [] w) (HI : ∀ pre W, I pre W → Fr [] wb W) (HA : ∀ pre W W', I pre W → Fr [] W W' → I pre W')
    (H : ∀ (pre : List Fl) (f : Fl) (W : World) (la : Option Addr) (lc : Nat) (ma : Option Addr) (mc : Nat), I pre W → FRd W f la lc ma mc → Calls Tryd.prog 27 #[.agg #[.int .i64 f.num, .int .i64 f.size, .slice la f.least.length lc, .slice ma f.most.length mc], .pointer (some ⟨q, 0, none⟩)] W fun r W' => r = .returned (.bool (p pre f)) ∧ I (pre ++ [f]) W') :
    Calls Tryd.prog 28 #[.agg #[.int .i64 lg, .int .i64 nx, .int .u64 (sq : Int), .slice (ad 0) (ln 0) (cp 0), .slice (ad 1) (ln 1) (cp 1), .slice (ad 2) (ln 2) (cp 2), .slice (ad 3) (ln 3) (cp 3), .slice (ad 4) (ln 4) (cp 4)], .func (.func 27) #[] #[.pointer (some ⟨q, 0, none⟩)]] w fun r w' => r = .returned (.bool (runP p [] (pfx L 5))) ∧ ∃ pre, I pre w' := by
  obtain ⟨R, hR⟩ : ∃ R, R = runP p [] (pfx L 5) := ⟨_, rfl⟩
  rw [← hR]
  have HR : Hid (R = runP p [] (pfx L 5)) := hid hR
  clear hR
  have HV := hid hv
  have HHI := hid HI
  have HHA := hid HA
  have HH := hid H
  clear hv HI HA H
  obtain ⟨W0, hW0⟩ : ∃ W0, W0 = w.alloc (.cells #[.int .i64 lg, .int .i64 nx, .int .u64 (sq : Int), .slice (ad 0) (ln 0) (cp 0), .slice (ad 1) (ln 1) (cp 1), .slice (ad 2) (ln 2) (cp 2), .slice (ad 3) (ln 3) (cp 3), .slice (ad 4) (ln 4) (cp 4)] 28) := ⟨_, rfl⟩
  have I0 : Hid (I [] W0) := hid (HHA.out _ _ _ h0 (by rw [hW0]; exact (Fr.refl _ _).alloc _))
  have n0 : W0.heap[w.heap.size]? = some (.cells #[.int .i64 lg, .int .i64 nx, .int .u64 (sq : Int), .slice (ad 0) (ln 0) (cp 0), .slice (ad 1) (ln 1) (cp 1), .slice (ad 2) (ln 2) (cp 2), .slice (ad 3) (ln 3) (cp 3), .slice (ad 4) (ln 4) (cp 4)] 28 (0, 0)) := by rw [hW0]; exact blk_new _ _
  obtain ⟨z0, z1, z2, z3, z4, z5, z6, z7⟩ := vn_cells n0
  have HX : Hid (∀ i : Nat, i < 5 → ∀ W : World, (Instr.index 26 (.agg #[.slice (ad 0) (ln 0) (cp 0), .slice (ad 1) (ln 1) (cp 1), .slice (ad 2) (ln 2) (cp 2), .slice (ad 3) (ln 3) (cp 3), .slice (ad 4) (ln 4) (cp 4)]) (.int .i64 (i : Int))).run Tryd.prog W = .ok (.slice (ad i) (ln i) (cp i)) W) := hid (fun i hi W => ixs hi ad ln cp W)
  clear n0 h0
  go_enter Tryd.func28, Tryd.ntmps28
  go_upto_region 1 with fail
  rw [← hW0]
  clear hW0
  go_wp2_with fail
  clear z0 z1 z2 z3 z4 z5 z6 z7
  go_loopw [11] (fun v11 wr => ∃ i : Nat, i ≤ 5 ∧ v11 = .int .i64 (i : Int) ∧ I (pfx L i) wr ∧ R = runP p (pfx L i) (sfx L i)) (fun v11 _ => 5 - (intOf v11).toNat)
  case atStart => exact ⟨0, by omega, rfl, I0.out, by rw [HR.out, ← pfx_sfx L 0 (by omega)]; rfl⟩
  case round =>
    obtain ⟨i, hi, rfl, hI, hq⟩ := hrel
    have II := hid hI
    have HQ := hid hq
    clear hI hq
    by_cases hlt : i < 5
    · have hlt' : (i : Int) < 5 := by omega
      have ixi := HX.out i hlt
      have HLN := hid (HV.out.len i hlt)
      have HSM := HV.out.small i hlt
      have HRD := hid (HV.out.rd i hlt)
      obtain ⟨li, hli⟩ : ∃ li, li = ln i := ⟨_, rfl⟩
      obtain ⟨ai, hai⟩ : ∃ ai, ai = ad i := ⟨_, rfl⟩
      obtain ⟨ci, hci⟩ : ∃ ci, ci = cp i := ⟨_, rfl⟩
      rw [← hli] at ixi HLN HSM HRD
      rw [← hai] at ixi HRD
      rw [← hci] at ixi
      clear hli hai hci
      obtain ⟨W1, h1⟩ : ∃ W, W = wr := ⟨_, rfl⟩
      subst h1
      go_wp2_with fail
      clear ixi
      go_loopw [16] (fun v16 wr => ∃ j : Nat, j ≤ li ∧ v16 = .int .i64 (j : Int) ∧ I (pfx L i ++ (L i).take j) wr ∧ R = runP p (pfx L i ++ (L i).take j) ((L i).drop j ++ sfx L (i + 1))) (fun v16 _ => li - (intOf v16).toNat)
      case atStart => exact ⟨0, by omega, rfl, by simpa using II.out, by rw [HQ.out, sfx_succ L hlt]; simp⟩
      case round =>
        obtain ⟨j, hj, rfl, hI, hq⟩ := hrel
        have IJ := hid hI
        have HQ2 := hid hq
        clear hI hq II HQ
        by_cases hjl : j < li
        · have hjl' : (j : Int) < (li : Int) := by omega
          obtain ⟨f, hf⟩ : ∃ f, (L i)[j]? = some f := ⟨_, List.getElem?_eq_getElem (by rw [← HLN.out]; exact hjl)⟩
          have HF := hid hf
          obtain ⟨b, off, hab, m1⟩ := HRD.out (by omega)
          subst hab
          obtain ⟨la, lc, ma, mc, k1⟩ := m1 j f hf
          have k2 := k1.fr (HHI.out _ _ IJ.out)
          clear hf m1 k1
          obtain ⟨x0, x1, x2, x3, xr⟩ := k2
          obtain ⟨W2, hW2⟩ : ∃ W2, W2 = wr.alloc (.cells #[.int .i64 f.num, .int .i64 f.size, .slice la f.least.length lc, .slice ma f.most.length mc] 53) := ⟨_, rfl⟩
          have fw : Fr [] wr W2 := by rw [hW2]; exact (Fr.refl _ _).alloc _
          have I2 := hid (HHA.out _ _ _ IJ.out fw)
          have n2 : W2.heap[wr.heap.size]? = some (.cells #[.int .i64 f.num, .int .i64 f.size, .slice la f.least.length lc, .slice ma f.most.length mc] 53 (0, 0)) := by rw [hW2]; exact blk_new _ _
          obtain ⟨y0, y1, y2, y3⟩ := fl_cells n2
          have HC := hid (HH.out (pfx L i ++ (L i).take j) f W2 la lc ma mc I2.out (xr.fr fw))
          clear n2 fw xr
          have HT : Hid (R = (p (pfx L i ++ (L i).take j) f && runP p (pfx L i ++ (L i).take (j + 1)) ((L i).drop (j + 1) ++ sfx L (i + 1)))) := hid (by rw [HQ2.out, drop_pre HF.out, take_pre HF.out]; rfl)
          go_upto_region 7 with fail
          rw [← hW2]
          clear hW2 x0 x1 x2 x3
          cases hp : p (pfx L i ++ (L i).take j) f with
          | false =>
            rw [hp] at HC HT
            rw [Bool.false_and] at HT
            clear hp
            go_wp2_with (go_at_call 27; refine HC.out.mono ?_; rintro r W3 ⟨rfl, i3⟩; have I3 := hid i3; clear i3)
            go_ret
            exact ⟨ret_bool HT.out.symm, _, I3.out⟩
          | true =>
            rw [hp] at HC HT
            rw [Bool.true_and] at HT
            clear hp
            go_wp2_with (go_at_call 27; refine HC.out.mono ?_; rintro r W3 ⟨rfl, i3⟩; have I3 := hid i3; clear i3)
            go_roundw
            case rel => exact ⟨j + 1, by omega, by go_num, by rw [take_pre HF.out]; exact I3.out, HT.out⟩
            case measure => simp [intOf]; omega
        · have hjn : j = li := by omega
          subst hjn
          go_wp2_with fail
          go_roundw
          case rel => exact ⟨i + 1, by omega, by go_num, by rw [pfx_succ]; have := IJ.out; rw [HLN.out, List.take_length] at this; exact this, by rw [HQ2.out, HLN.out, List.take_length, List.drop_length, pfx_succ]; rfl⟩
          case measure => simp [intOf]; omega
    · have hin : i = 5 := by omega
      subst hin
      have HE : Hid (R = true) := hid (by rw [HQ.out, sfx_five]; rfl)
      go_wp2
      go_ret
      exact ⟨ret_bool HE.out.symm, _, II.out⟩

end Go.Proofs.YtmhhdlcdfgahkaaDoor
