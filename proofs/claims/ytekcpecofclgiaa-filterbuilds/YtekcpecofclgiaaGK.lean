/-
  FilterBuilds: the walk.
-/
import Derived.Test.YtekcpecofclgiaaGJ
import Derived.Test.YtekcpecofclgiaaGG
namespace Go.Proofs.Ytekcpecofclgiaa
open Go.ChangeShapes Go.WideShapes Go.ChangeAt Go.RowKit

set_option maxRecDepth 20000 in
set_option maxHeartbeats 3200000 in
theorem fbuilds_c (w : World) {a : Option Addr} {n c : Nat} {rs : List (List Nat)} (h : RdL w (.slice a n c) rs) (hn : n = rs.length) (hl : n ≤ 9223372036854775807) (bits : Int) {fv kv : Value} {f key : List Nat} (rf : Rd w fv (bv f)) (bf : By f) (hfl : f.length ≤ 140737488355328) (rk : Rd w kv (bv key)) (bk : By key) (hkl : key.length ≤ 140737488355328) :
    Calls Try.prog 7 #[.slice a n c, .int .i64 bits, fv, kv] w fun e w' => e = .returned (.bool true) ∧ Fr [] w w' := by
  have KN := hid (known_c w)
  have HK := hid h
  have HN := hid hn
  have HF := hid (And.intro rf bf)
  have HY := hid (And.intro rk bk)
  obtain ⟨fa, fc, hfv⟩ := rf.form
  obtain ⟨ka, kc, hkv⟩ := rk.form
  rw [bv_len] at hfv hkv
  subst hfv
  subst hkv
  clear h hn rf bf rk bk
  obtain ⟨fn, hfn⟩ : ∃ fn, fn = f.length := ⟨_, rfl⟩
  obtain ⟨kn, hkn⟩ : ∃ kn, kn = key.length := ⟨_, rfl⟩
  rw [← hfn] at hfl HF ⊢
  rw [← hkn] at hkl HY ⊢
  have HFN := hid hfn
  have HKN := hid hkn
  clear hfn hkn
  go_enter Try.func7, Try.ntmps7
  go_wp2_with fail
  refine KN.out.mono ?_
  rintro e w1 ⟨rfl, f1⟩
  have F1 := hid f1
  have SC := hid (small_c w1 (HK.out.fr f1) (by rw [← HN.out]; exact hl))
  clear f1 KN
  go_wp2_with fail
  refine SC.out.mono ?_
  rintro e w2 ⟨hq, f2⟩
  have F2 := hid (F1.out.trans f2)
  clear f2 SC
  rcases hq with rfl | ⟨rfl, hsm⟩
  · go_wp2
    go_ret
    exact ⟨rfl, F2.out⟩
  have hn60 : n ≤ 60 := by rw [HN.out]; exact hsm.out
  clear hsm
  by_cases hf2 : 2000 < fn
  · go_wp2
    go_ret
    exact ⟨rfl, F2.out⟩
  by_cases hk5 : 500 < kn
  · go_wp2
    go_ret
    exact ⟨rfl, F2.out⟩
  have MA : Hid (∀ W, Fr [] w W → Calls Try.prog 26 #[.slice fa fn fc, .slice ka kn kc] W fun e w' => e = .returned (.bool (mayF f key)) ∧ w' = W) := hid fun W fW => may_c W (HF.out.1.fr fW) HF.out.2 (by rw [← HFN.out]; omega) (HY.out.1.fr fW) HY.out.2 (by rw [← HKN.out]; exact hkl)
  have MR : Hid (∀ W, Fr [] w W → Calls Try.prog 27 #[.slice fa fn fc, .slice ka kn kc] W fun e w' => e = .returned (.bool (mayF f key)) ∧ Fr [] W w') := hid fun W fW => rmay_c W (HF.out.1.fr fW) HF.out.2 (by rw [← HFN.out]; omega) (HY.out.1.fr fW) HY.out.2 (by rw [← HKN.out]; exact hkl)
  have RES : Hid (∀ {wa wb : World} {ea eb : Option Addr} {ca cb : Nat} {g : List Nat}, Rd wa (.slice ea g.length ca) (bv g) → Rd wa (.slice eb g.length cb) (bv g) → By g → g.length ≤ 1000000 → Fr [] w wa → Fr [] wa wb → Calls Try.prog 14 #[.slice ea g.length ca, .slice eb g.length cb] wb (fun e w' => e = .returned (.bool true) ∧ w' = wb) ∧ Calls Try.prog 26 #[.slice ea g.length ca, .slice ka kn kc] wb (fun e w' => e = .returned (.bool (mayF g key)) ∧ w' = wb) ∧ Calls Try.prog 27 #[.slice eb g.length cb, .slice ka kn kc] wb fun e w' => e = .returned (.bool (mayF g key)) ∧ Fr [] wb w') := hid fun ra rb bg hg fa fb => ⟨by have := bytes_c (ra.fr fb) (rb.fr fb) bg bg; rw [decide_eq_true rfl] at this; exact this, may_c _ (ra.fr fb) bg (by omega) ((HY.out.1.fr fa).fr fb) HY.out.2 (by rw [← HKN.out]; exact hkl), rmay_c _ (rb.fr fb) bg (by omega) ((HY.out.1.fr fa).fr fb) HY.out.2 (by rw [← HKN.out]; exact hkl)⟩
  by_cases hbad : bits < 1 ∨ 64 < bits
  · have FP := hid (filter_plan w2 (a := a) (n := n) (c := c) bits hbad)
    have FR := hid (fun W => rfilter_plan W (a := a) (n := n) (c := c) bits hbad)
    clear hbad
    go_wp2_with fail
    refine FP.out.mono ?_
    rintro e w3 ⟨rfl, f3⟩
    have F3 := hid (F2.out.trans f3)
    clear f3 FP
    go_wp2_with fail
    refine (FR.out w3).mono ?_
    rintro e w4 ⟨rfl, f4⟩
    have F4 := hid (F3.out.trans f4)
    clear f4 FR
    have NIL : Hid (Rd w4 (.slice none ([] : List Nat).length 0) (bv [])) := hid (Rd.ownB (ns := []) (World.ownsRow_nil w4 w4.heap.size _ _))
    have BB := hid (RES.out (wa := w4) (wb := w4) (g := []) NIL.out NIL.out (fun n hn => by cases hn) (by simp) F4.out (Fr.refl _ _)).1
    have MF := hid (MA.out w4 F4.out)
    have MG := hid (MR.out w4 F4.out)
    have R5 := hid (fun W fW => (RES.out (wa := w4) (wb := W) (g := []) NIL.out NIL.out (fun n hn => by cases hn) (by simp) F4.out fW).2)
    clear MA MR RES
    go_wp2_with fail
    refine BB.out.mono ?_
    rintro e w5 ⟨rfl, rfl⟩
    clear BB
    go_wp2_with fail
    refine MF.out.mono ?_
    rintro e w6 ⟨rfl, rfl⟩
    clear MF
    go_wp2_with fail
    refine MG.out.mono ?_
    rintro e w7 ⟨rfl, f7⟩
    have F7 := hid (F4.out.trans f7)
    have HR := hid (R5.out w7 f7)
    clear f7 MG R5
    generalize mayF f key = mf at *
    generalize mayF [] key = mg at *
    go_wp2_with fail
    refine HR.out.1.mono ?_
    rintro e w8 ⟨rfl, rfl⟩
    go_wp2_with fail
    refine HR.out.2.mono ?_
    rintro e w9 ⟨rfl, f9⟩
    have F9 := hid (F7.out.trans f9)
    clear f9 HR
    go_wp2
    go_ret
    exact ⟨rfl, F9.out⟩
  obtain ⟨bb, hbb⟩ : ∃ bb : Nat, bits = (bb : Int) := ⟨bits.toNat, by omega⟩
  subst hbb
  have h2 : 1 ≤ bb := by omega
  have h3 : bb ≤ 64 := by omega
  clear hbad
  have FC := hid (filter_c w2 (HK.out.fr F2.out) (by rw [← HN.out]; omega) bb h2 h3)
  go_wp2_with fail
  refine FC.out.mono ?_
  rintro e w3 ⟨bv3, rfl, o3, f3⟩
  have F3 := hid (F2.out.trans f3)
  obtain ⟨ba, bc, rfl, _⟩ := ownsRow_slice o3
  have R3 := hid (Rd.ownB o3)
  have hfl2 : Hid ((fltL bb rs).length ≤ 1000000) := by
    refine hid ?_
    rw [fltL_len, ← HN.out]
    unfold fL
    have : bb * n ≤ 64 * 60 := Nat.mul_le_mul h3 hn60
    omega
  clear o3 f3 FC
  have FR := hid (rfilter_c w3 (HK.out.fr F3.out) (by rw [← HN.out]; omega) bb h2 h3)
  go_wp2_with fail
  refine FR.out.mono ?_
  rintro e w4 ⟨cv, rfl, o4, f4⟩
  have F4 := hid (F3.out.trans f4)
  obtain ⟨ca, cc, rfl, _⟩ := ownsRow_slice o4
  have R4 := hid (Rd.ownB o4)
  have R34 := hid (R3.out.fr f4)
  have HBY := hid (fltL_by bb rs)
  clear o4 f4 FR R3
  generalize fltL bb rs = g at *
  have BB := hid (RES.out (wa := w4) (wb := w4) (g := g) R34.out R4.out HBY.out hfl2.out F4.out (Fr.refl _ _)).1
  have MF := hid (MA.out w4 F4.out)
  have MG := hid (MR.out w4 F4.out)
  have R5 := hid (fun W fW => (RES.out (wa := w4) (wb := W) (g := g) R34.out R4.out HBY.out hfl2.out F4.out fW).2)
  clear MA MR RES
  generalize g.length = gl at *
  go_wp2_with fail
  refine BB.out.mono ?_
  rintro e w5 ⟨rfl, rfl⟩
  clear BB
  go_wp2_with fail
  refine MF.out.mono ?_
  rintro e w6 ⟨rfl, rfl⟩
  clear MF
  go_wp2_with fail
  refine MG.out.mono ?_
  rintro e w7 ⟨rfl, f7⟩
  have F7 := hid (F4.out.trans f7)
  have HR := hid (R5.out w7 f7)
  clear f7 MG R5
  generalize mayF f key = mf at *
  generalize mayF g key = mg at *
  go_wp2_with fail
  refine HR.out.1.mono ?_
  rintro e w8 ⟨rfl, rfl⟩
  go_wp2_with fail
  refine HR.out.2.mono ?_
  rintro e w9 ⟨rfl, f9⟩
  have F9 := hid (F7.out.trans f9)
  clear f9 HR
  go_wp2
  go_ret
  exact ⟨rfl, F9.out⟩
end Go.Proofs.Ytekcpecofclgiaa
