/-
  The document's Encode; RlpEncodes walked.
-/
import Derived.Test.YtldhcdmoenoopaaHb
import Derived.Test.YtldhcdmoenoopaaHc
import Derived.Test.YtldhcdmoenoopaaJ26
import Derived.Test.YtldhcdmoenoopaaJ30
import Derived.Test.YtldhcdmoenoopaaOi
namespace Go.Proofs.Ytldhcdmoenoopaa
open Go.ChangeShapes Go.WideShapes Go.ChangeAt Go.RowKit Go.Deep

theorem encE_few {t : Tr 19} (hc : cw 19 t ≤ 400) : encE t = bad 19 1 t := by
  unfold encE
  by_cases hb : bad 19 1 t = 0
  · rw [if_neg (by rw [hb]; simp), if_neg (by have := enc_cw 19 t; omega), hb]
  · rw [if_pos hb]

set_option maxHeartbeats 400000 in
theorem helpBytes_e {w : World} {v1 v2 : Value} {a b : List Nat} (h1 : Rd w v1 (bv a)) (h2 : Rd w v2 (bv b)) (hab : a = b) :
    Calls Try.prog 10 #[v1, v2] w fun e w' => e = .returned (.bool true) ∧ w' = w := by
  subst hab
  have e1 := run_conv h1
  have e2 := run_conv h2
  have e3 := ba_beq (strOf a)
  obtain ⟨a1, c1, rfl⟩ := h1.form
  obtain ⟨a2, c2, rfl⟩ := h2.form
  clear h1 h2
  go_enter Try.func10, Try.ntmps10
  go_wp2
  go_ret
  exact ⟨rfl, rfl⟩

set_option maxRecDepth 20000 in
set_option maxHeartbeats 1600000 in
theorem rencode_c (w : World) {v : Value} {t : Tr 19} (hv : IsV w 19 v t) (hc : cw 19 t ≤ 400) :
    Calls Try.prog 9 #[v] w fun r w' => ∃ v', r = .returned (.tuple #[v', .int .i64 (encE t : Int)]) ∧ w'.ownsRow w.heap.size 5 1 v' (encB t).length (bv (encB t)) ∧ Fr [] w w' := by
  obtain ⟨l, a1, n1, c1, a2, n2, c2, rfl⟩ := hv.agg
  obtain ⟨W, hW⟩ : ∃ W, W = (w.alloc (.cells #[.bool l, .slice a1 n1 c1, .slice a2 n2 c2] 25)).alloc (.cells #[.int .i64 0, .int .i64 0] 53) := ⟨_, rfl⟩
  have F : Hid (Fr [] w W) := hid (by rw [hW]; exact ((Fr.refl [] w).alloc _).alloc _)
  have B : Hid (Wk W (w.heap.size + 1) 0 0) := hid (by rw [hW]; exact new_at _ _ (by simp))
  have X : Hid (W.heap[w.heap.size]? = some (.cells #[.bool l, .slice a1 n1 c1, .slice a2 n2 c2] 25 (0, 0))) := hid (by rw [hW, blk_old _ _ (by simp)]; exact blk_new _ _)
  have IT := hid (ritem_c 19 w W _ t (w.heap.size + 1) 0 1 hv F.out (by omega) B.out (by omega) (by omega) (by have := cnt_cw 19 t; omega))
  have HV := hid hv
  have HC := hid hc
  have hE := encE_few hc
  have hlen : (enc 19 t).length ≤ 23600 := by have := enc_cw 19 t; omega
  obtain ⟨b, hb⟩ : ∃ b, b = bad 19 1 t := ⟨_, rfl⟩
  rw [← hb] at hE
  rw [hE]
  have hbl : b ≤ 100 := by rw [hb]; have := bad_le 19 1 t; omega
  have HB := hid hb
  obtain ⟨E, hEE⟩ : ∃ E, E = encB t := ⟨_, rfl⟩
  rw [← hEE]
  have HE : Hid (E = if b = 0 then enc 19 t else []) := hid (by rw [hEE]; unfold encB; rw [hE])
  have x0 := blk_cell X.out 0
  have x1 := blk_cell X.out 1
  have x2 := blk_cell X.out 2
  simp at x0 x1 x2
  have HLN := hid hlen
  clear hv hc hE hb hEE hlen
  go_enter Try.func9, Try.ntmps9
  go_upto_region 2 with fail
  rw [← hW]
  clear hW
  go_wp2_with fail
  refine IT.out.mono ?_
  rintro e w1 ⟨⟨u, rfl⟩, C, b1, _, f1⟩
  rw [← HB.out] at b1
  have B1 := hid b1
  have F1 : Hid (Fr [] w w1) := hid (((F.out.mono (S' := [w.heap.size + 1]) (by simp)).trans f1).shed (fun k hk hlt => by simp at hk; omega))
  have X1 := hid (f1.at X.out (by simp))
  obtain ⟨d0, d1, y0, y1⟩ := b1.cells
  clear b1 f1 x0 x1 x2 IT B X
  by_cases hz : b = 0
  · subst hz
    have hE2 : Hid (E = enc 19 t) := hid (by rw [HE.out, if_pos rfl])
    have x0 := blk_cell X1.out 0
    have x1 := blk_cell X1.out 1
    have x2 := blk_cell X1.out 2
    simp at x0 x1 x2
    have OF := hid (rof_c 19 w1 _ t (full_of_cw 19 t HC.out) (by have := HLN.out; omega) (HV.out.fr F1.out))
    go_wp2_with fail
    refine OF.out.mono ?_
    rintro e w2 ⟨v2, rfl, o2, f2⟩
    rw [← hE2.out] at o2
    have hEl : E.length ≤ 23600 := by rw [hE2.out]; exact HLN.out
    have O2 := hid (ownsRow_base o2 F1.out.size)
    have F2 := hid (F1.out.trans f2)
    obtain ⟨L, hL⟩ : ∃ L, L = E.length := ⟨_, rfl⟩
    rw [← hL] at o2 hEl
    obtain ⟨a3, c3, rfl, _⟩ := ownsRow_slice o2
    clear o2 f2 x0 x1 x2 OF hL
    go_wp2
    go_ret2
    exact ⟨_, rfl, O2.out, F2.out⟩
  · have hz' : ((b : Int) == 0) = false := beq_eq_false_iff_ne.2 (by omega)
    have hE2 : Hid (E = []) := hid (by rw [HE.out, if_neg hz])
    go_upto_region 4 with fail
    go_quiet (fail)
    go_wp2
    go_ret2
    exact ⟨.slice none 0 0, rfl, by rw [hE2.out]; exact World.ownsRow_nil _ _ _ _, F1.out.drewN _⟩

set_option maxRecDepth 20000 in
set_option maxHeartbeats 1600000 in
theorem encodes_c (w : World) {l1 : Bool} {x1 x4 : Option Addr} {x2 x3 x5 x6 : Nat} {tx : Tr 19} (hx : IsV w 19 (.agg #[.bool l1, .slice x1 x2 x3, .slice x4 x5 x6]) tx) :
    Calls Try.prog 3 #[.agg #[.bool l1, .slice x1 x2 x3, .slice x4 x5 x6]] w fun e w' => e = .returned (.bool true) ∧ Fr [] w w' := by
  obtain ⟨W, hW⟩ : ∃ W, W = w.alloc (.cells #[.bool l1, .slice x1 x2 x3, .slice x4 x5 x6] 25) := ⟨_, rfl⟩
  have F : Hid (Fr [] w W) := hid (by rw [hW]; exact (Fr.refl [] w).alloc _)
  have X : Hid (W.heap[w.heap.size]? = some (.cells #[.bool l1, .slice x1 x2 x3, .slice x4 x5 x6] 25 (0, 0))) := hid (by rw [hW]; exact blk_new _ _)
  have VX := hid (hx.fr F.out)
  have hN1 := encE_le tx
  obtain ⟨N1, e1⟩ : ∃ N, N = encE tx := ⟨_, rfl⟩
  rw [← e1] at hN1
  have HN1 := hid e1
  clear hx e1
  go_enter Try.func3, Try.ntmps3
  go_wp2_with fail
  rw [← hW]
  clear hW
  refine (known_c _).mono ?_
  rintro e w1 ⟨rfl, f1⟩
  have G1 := hid f1
  have z1 := blk_cell (f1.at X.out (by simp)) 0
  have z2 := blk_cell (f1.at X.out (by simp)) 1
  have z3 := blk_cell (f1.at X.out (by simp)) 2
  simp at z1 z2 z3
  clear f1
  go_wp2_with fail
  refine (few_c _ (VX.out.fr G1.out)).mono ?_
  rintro e w2 ⟨rfl, f2⟩
  have G2 := hid (G1.out.trans f2)
  clear f2 z1 z2 z3
  by_cases hcx : cw 19 tx ≤ 400
  case neg =>
    rw [decide_eq_false hcx]
    clear hcx
    go_wp2
    go_ret
    exact ⟨rfl, F.out.trans G2.out⟩
  have HCX := hid hcx
  rw [decide_eq_true hcx]
  clear hcx
  have z1 := blk_cell (G2.out.at X.out (by simp)) 0
  have z2 := blk_cell (G2.out.at X.out (by simp)) 1
  have z3 := blk_cell (G2.out.at X.out (by simp)) 2
  simp at z1 z2 z3
  go_wp2_with fail
  refine (encode_c _ (VX.out.fr G2.out) (by omega) (by have := cnt_cw 19 tx; have := HCX.out; omega) (by have := enc_cw 19 tx; have := HCX.out; omega)).mono ?_
  rintro e w3 ⟨v3, rfl, o3, f3⟩
  have G3 := hid (G2.out.trans f3)
  have R3 := hid (Rd.ownB o3)
  rw [← HN1.out]
  clear f3 o3 z1 z2 z3
  have z1 := blk_cell (G3.out.at X.out (by simp)) 0
  have z2 := blk_cell (G3.out.at X.out (by simp)) 1
  have z3 := blk_cell (G3.out.at X.out (by simp)) 2
  simp at z1 z2 z3
  go_wp2_with fail
  refine (rencode_c _ (VX.out.fr G3.out) HCX.out).mono ?_
  rintro e w4 ⟨v4, rfl, o4, f4⟩
  have G4 := hid (G3.out.trans f4)
  have R4 := hid (Rd.ownB o4)
  have R3' := hid (R3.out.fr f4)
  rw [← HN1.out]
  have hnn : ((N1 : Int) == (N1 : Int)) = true := by simp
  clear f4 o4 z1 z2 z3
  go_wp2_with fail
  refine (helpBytes_e R3'.out R4.out rfl).mono ?_
  rintro e w5 ⟨rfl, rfl⟩
  go_wp2
  go_ret
  exact ⟨rfl, F.out.trans G4.out⟩
end Go.Proofs.Ytldhcdmoenoopaa
