/-
  BlockBuilds: the walk.
-/
import Derived.Test.YtekcpecofclgiaaTD
import Derived.Test.YtekcpecofclgiaaSC
import Derived.Test.YtekcpecofclgiaaFA
namespace Go.Proofs.Ytekcpecofclgiaa
open Go.ChangeShapes Go.WideShapes Go.ChangeAt Go.RowKit

set_option maxRecDepth 20000 in
set_option maxHeartbeats 1600000 in
theorem rbuild_plan (w : World) {a : Option Addr} {n c : Nat} (r : Int) (hr : r < 1 ∨ 64 < r) :
    Calls Try.prog 13 #[.slice a n c, .int .i64 r] w fun e w' => e = .returned (.tuple #[.slice none 0 0, .int .i64 71]) ∧ Fr [] w w' := by
  rcases hr with hr | hr
  all_goals
    go_enter Try.func13, Try.ntmps13
    go_wp2
    go_ret2
    exact ⟨rfl, Fr.refl _ _⟩
set_option maxRecDepth 20000 in
set_option maxHeartbeats 1600000 in
theorem rbuild_order (w : World) {v : Value} {ps : Ps} (h : RdK w v ps) (hl : ps.length ≤ 1000000) (r : Nat) (h1 : 1 ≤ r) (h2 : r ≤ 64) (hr : ¬ Rises ps) :
    Calls Try.prog 13 #[v, .int .i64 (r : Int)] w fun e w' => e = .returned (.tuple #[.slice none 0 0, .int .i64 70]) ∧ Fr [] w w' := by
  have HR := hid (rrises_c w h hl)
  have HN := hid hr
  obtain ⟨a, c, rfl, hc, _⟩ := h
  clear hr
  generalize ps.length = n at *
  go_enter Try.func13, Try.ntmps13
  go_wp2_with fail
  refine HR.out.mono ?_
  rintro e w1 ⟨hq, f1⟩
  rcases hq with ⟨rfl, hx⟩ | ⟨rfl, hx⟩
  · exact absurd hx HN.out
  clear hx
  have F1 := hid f1
  clear f1
  go_wp2
  go_ret2
  exact ⟨rfl, F1.out⟩
set_option maxRecDepth 20000 in
set_option maxHeartbeats 1600000 in
theorem rbuild_ok (w : World) {v : Value} {ps : Ps} (h : RdK w v ps) (hl : ps.length ≤ 1000000) (r : Nat) (h1 : 1 ≤ r) (h2 : r ≤ 64) (hr : Rises ps) (hb : (bod r ps ps.length).length ≤ 1000000000) :
    Calls Try.prog 13 #[v, .int .i64 (r : Int)] w fun e w' => ∃ v', e = .returned (.tuple #[v', .int .i64 0]) ∧ w'.ownsRow w.heap.size 5 1 v' (blk r ps).length (bv (blk r ps)) ∧ Fr [] w w' := by
  have HR := hid (rrises_c w h hl)
  have HN := hid hr
  have HO := hid fun W (f : Fr [] w W) => of_c W (h.fr f) hl r h1 h2 hr hb
  obtain ⟨a, c, rfl, hc, _⟩ := h
  clear hr
  generalize ps.length = n at *
  go_enter Try.func13, Try.ntmps13
  go_wp2_with fail
  refine HR.out.mono ?_
  rintro e w1 ⟨hq, f1⟩
  rcases hq with ⟨rfl, hx⟩ | ⟨rfl, hx⟩
  case inr => exact absurd HN.out hx
  clear hx
  have F1 := hid f1
  clear f1
  go_wp2_with fail
  refine (HO.out w1 F1.out).mono ?_
  rintro e w2 ⟨v2, rfl, o2, f2⟩
  have F2 := hid (F1.out.trans f2)
  have O2 := hid (own_base o2 F1.out.size)
  clear o2 f2
  go_wp2
  go_ret2
  exact ⟨_, rfl, O2.out, F2.out⟩
set_option maxRecDepth 20000 in
set_option maxHeartbeats 3200000 in
theorem bbuilds_c (w : World) {v : Value} {ps : Ps} (h : RdK w v ps) (hl : ps.length ≤ 140737488355328) (r : Int) :
    Calls Try.prog 3 #[v, .int .i64 r] w fun e w' => e = .returned (.bool true) ∧ Fr [] w w' := by
  have HK := hid h
  obtain ⟨a, c, rfl, hnc, _⟩ := h
  have KN := hid (known_c w)
  generalize hnn : ps.length = n at *
  have HN := hid hnn
  clear hnn
  go_enter Try.func3, Try.ntmps3
  go_wp2_with fail
  refine KN.out.mono ?_
  rintro e w1 ⟨rfl, f1⟩
  have F1 := hid f1
  have FC := hid (few_c w1 (HK.out.fr f1) (by rw [HN.out]; exact hl))
  clear f1 KN
  go_wp2_with fail
  refine FC.out.mono ?_
  rintro e w2 ⟨hq, f2⟩
  have F2 := hid (F1.out.trans f2)
  clear f2 FC
  rcases hq with rfl | ⟨rfl, hfew⟩
  · go_wp2
    go_ret
    exact ⟨rfl, F2.out⟩
  have HFW := hid hfew
  have hn60 : n ≤ 60 := by rw [← HN.out]; exact hfew.n
  clear hfew
  have CC := hid (copy_c w2 (HK.out.fr F2.out) (by rw [HN.out]; omega))
  go_wp2_with fail
  refine CC.out.mono ?_
  rintro e w3 ⟨lv, rfl, co, f3⟩
  have F3 := hid (F2.out.trans f3)
  have CO := hid co.rd
  obtain ⟨la, lc, hlv, _⟩ := co.rd
  subst hlv
  clear co f3 CC
  rw [HN.out] at CO ⊢
  have KVS : Hid (∀ W, Fr [] w3 W → Calls Try.prog 15 #[.slice la n lc, .slice a n c] W fun e w' => e = .returned (.bool true) ∧ Fr [] W w') := hid fun W f => kvs_c (CO.out.fr f) ((HK.out.fr F3.out).fr f) (by rw [HN.out]; omega)
  have BYT : Hid (∀ (W : World) {ea eb : Option Addr} {ca cb : Nat} {g : List Nat}, Rd W (.slice ea g.length ca) (bv g) → Rd W (.slice eb g.length cb) (bv g) → By g → Calls Try.prog 14 #[.slice ea g.length ca, .slice eb g.length cb] W fun e w' => e = .returned (.bool true) ∧ w' = W) := hid fun W _ _ _ _ _ ra rb bg => by have := bytes_c ra rb bg bg; rw [decide_eq_true rfl] at this; exact this
  by_cases hbad : r < 1 ∨ 64 < r
  · have BP := hid (build_plan w3 (a := la) (n := n) (c := lc) r hbad)
    have RP := hid (fun W => rbuild_plan W (a := a) (n := n) (c := c) r hbad)
    clear hbad
    go_wp2_with fail
    refine BP.out.mono ?_
    rintro e w4 ⟨rfl, f4⟩
    have F4 := hid f4
    clear f4 BP
    go_wp2_with fail
    refine (RP.out w4).mono ?_
    rintro e w5 ⟨rfl, f5⟩
    have F5 := hid (F4.out.trans f5)
    clear f5 RP
    have NIL : Hid (Rd w5 (.slice none ([] : List Nat).length 0) (bv [])) := hid (Rd.ownB (ns := []) (World.ownsRow_nil w5 w5.heap.size _ _))
    have BB := hid (BYT.out w5 NIL.out NIL.out (fun n hn => by cases hn))
    go_wp2_with fail
    refine BB.out.mono ?_
    rintro e w6 ⟨rfl, rfl⟩
    clear BB
    go_wp2_with fail
    refine (KVS.out w6 F5.out).mono ?_
    rintro e w7 ⟨rfl, f7⟩
    have F7 := hid (F3.out.trans (F5.out.trans f7))
    clear f7
    go_wp2
    go_ret
    exact ⟨rfl, F7.out⟩
  obtain ⟨rn, hrn⟩ : ∃ rn : Nat, r = (rn : Int) := ⟨r.toNat, by omega⟩
  subst hrn
  have hr1 : 1 ≤ rn := by omega
  have hr2 : rn ≤ 64 := by omega
  clear hbad
  by_cases hri : Rises ps
  case neg =>
    have BP := hid (build_order w3 CO.out (by rw [HN.out]; omega) rn hr1 hr2 hri)
    have RP := hid (fun W (f : Fr [] w W) => rbuild_order W (HK.out.fr f) (by rw [HN.out]; omega) rn hr1 hr2 hri)
    clear hri
    go_wp2_with fail
    refine BP.out.mono ?_
    rintro e w4 ⟨rfl, f4⟩
    have F4 := hid f4
    clear f4 BP
    go_wp2_with fail
    refine (RP.out w4 (F3.out.trans F4.out)).mono ?_
    rintro e w5 ⟨rfl, f5⟩
    have F5 := hid (F4.out.trans f5)
    clear f5 RP
    have NIL : Hid (Rd w5 (.slice none ([] : List Nat).length 0) (bv [])) := hid (Rd.ownB (ns := []) (World.ownsRow_nil w5 w5.heap.size _ _))
    have BB := hid (BYT.out w5 NIL.out NIL.out (fun n hn => by cases hn))
    go_wp2_with fail
    refine BB.out.mono ?_
    rintro e w6 ⟨rfl, rfl⟩
    clear BB
    go_wp2_with fail
    refine (KVS.out w6 F5.out).mono ?_
    rintro e w7 ⟨rfl, f7⟩
    have F7 := hid (F3.out.trans (F5.out.trans f7))
    clear f7
    go_wp2
    go_ret
    exact ⟨rfl, F7.out⟩
  have hbd : (bod rn ps ps.length).length ≤ 1000000000 := by have := few_bod HFW.out.n HFW.out.t rn; omega
  have BP := hid (build_ok w3 CO.out (by rw [HN.out]; omega) rn hr1 hr2 hri hbd)
  have RP := hid (fun W (f : Fr [] w W) => rbuild_ok W (HK.out.fr f) (by rw [HN.out]; omega) rn hr1 hr2 hri hbd)
  have HBY := hid (blk_by HK.out.by rn)
  clear hri hbd
  go_wp2_with fail
  refine BP.out.mono ?_
  rintro e w4 ⟨bv4, rfl, o4, f4⟩
  have F4 := hid f4
  obtain ⟨ba, bc, rfl, _⟩ := ownsRow_slice o4
  have R4 := hid (Rd.ownB o4)
  clear f4 BP o4
  go_wp2_with fail
  refine (RP.out w4 (F3.out.trans F4.out)).mono ?_
  rintro e w5 ⟨cv5, rfl, o5, f5⟩
  have F5 := hid (F4.out.trans f5)
  obtain ⟨ca, cc, rfl, _⟩ := ownsRow_slice o5
  have BB := hid (BYT.out w5 (R4.out.fr f5) (Rd.ownB o5) HBY.out)
  clear f5 RP o5 R4
  generalize (blk rn ps).length = bl at *
  go_wp2_with fail
  refine BB.out.mono ?_
  rintro e w6 ⟨rfl, rfl⟩
  clear BB
  go_wp2_with fail
  refine (KVS.out w6 F5.out).mono ?_
  rintro e w7 ⟨rfl, f7⟩
  have F7 := hid (F3.out.trans (F5.out.trans f7))
  clear f7
  go_wp2
  go_ret
  exact ⟨rfl, F7.out⟩
end Go.Proofs.Ytekcpecofclgiaa
