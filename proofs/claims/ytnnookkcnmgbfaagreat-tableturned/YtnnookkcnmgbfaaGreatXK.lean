/-
  Tables opened.
-/
import Derived.Test.YtnnookkcnmgbfaaGreatXH
import Derived.Test.YtnnookkcnmgbfaaGreatXJ
import Derived.Test.YtnnookkcnmgbfaaGreatJ02
namespace Go.Proofs.YtnnookkcnmgbfaaGreat
open Go.ChangeShapes Go.WideShapes Go.ChangeAt Go.RowKit

theorem spans_yes (w : World) {v : Value} {ix : List Nat} (hr : Rd w v (bv ix)) (hb : By ix) (hl : ix.length ≤ 1000000000) {fin : Nat} (hfin : fin ≤ 1000000000) {ips : Ps} {r : Nat} (h1 : Blk ix ips r) (h2 : Spans fin ips) :
    Calls Tryz.prog 19 #[v, .int .u64 (fin : Int)] w fun e w' => ∃ G, e = .returned (.tuple #[.slice (some ⟨G, 0, none⟩) ips.length ips.length, .bool true]) ∧ RdS w' G ips ∧ Fr [] w w' := by
  refine (spansOf_c w hr hb hl fin hfin).mono ?_
  rintro e w' (⟨ips', r', G, rfl, b', s', rs, f⟩ | ⟨v', rfl, hno, f⟩)
  · have := blk_one b' h1 (by omega)
    subst this
    exact ⟨G, rfl, rs, f⟩
  · exact absurd h2 (hno _ _ h1)
theorem spans_no (w : World) {v : Value} {ix : List Nat} (hr : Rd w v (bv ix)) (hb : By ix) (hl : ix.length ≤ 1000000000) {fin : Nat} (hfin : fin ≤ 1000000000) (h : ∀ ips r, Blk ix ips r → ¬ Spans fin ips) :
    Calls Tryz.prog 19 #[v, .int .u64 (fin : Int)] w fun e w' => ∃ v', e = .returned (.tuple #[v', .bool false]) ∧ Fr [] w w' := by
  refine (spansOf_c w hr hb hl fin hfin).mono ?_
  rintro e w' (⟨ips', r', G, rfl, b', s', rs, f⟩ | ⟨v', rfl, hno, f⟩)
  · exact absurd s' (h _ _ b')
  · exact ⟨v', rfl, f⟩
/-- A table in memory. -/
structure Tab (w : World) (p : Nat) (dat flt : List Nat) (ips : Ps) (da : Option Addr) (dc : Nat) (fa : Option Addr) (fc G : Nat) : Prop where
  at' : w.heap[p]? = some (.cells #[.slice da dat.length dc, .slice fa flt.length fc, .slice (some ⟨G, 0, none⟩) ips.length ips.length] 62 (0, 0))
  rd : Rd w (.slice da dat.length dc) (bv dat)
  rf : Rd w (.slice fa flt.length fc) (bv flt)
  rs : RdS w G ips
theorem Tab.fr {w w' : World} {p : Nat} {dat flt : List Nat} {ips : Ps} {da fa : Option Addr} {dc fc G : Nat} (h : Tab w p dat flt ips da dc fa fc G) (f : Fr [] w w') : Tab w' p dat flt ips da dc fa fc G :=
  ⟨f.at h.at' (by simp), h.rd.fr f, h.rf.fr f, h.rs.fr f⟩
set_option maxRecDepth 20000 in
set_option maxHeartbeats 1600000 in
theorem open_foot (w : World) {v : Value} {a : Option Addr} {n c : Nat} (hv : v = .slice a n c) (x : Nat) (hx : 1 ≤ x) (hx2 : x ≤ 100) (h : Calls Tryz.prog 17 #[v] w fun e w' => e = .returned (.tuple #[.agg #[.int .u64 0, .int .u64 0], .agg #[.int .u64 0, .int .u64 0], .int .i64 (x : Int)]) ∧ Fr [] w w') :
    Calls Tryz.prog 6 #[v] w fun e w' => e = .returned (.tuple #[.pointer none, .int .i64 (x : Int)]) ∧ Fr [] w w' := by
  subst hv
  have H := hid h
  have hx' : ((x : Int) == 0) = false := by rw [beq_eq_false_iff_ne]; omega
  clear h
  go_enter Tryz.func6, Tryz.ntmps6
  go_wp2_with (go_at_call 17; refine H.out.mono ?_; rintro e w1 ⟨rfl, f1⟩; have F1 := hid f1; clear f1)
  go_ret2
  exact ⟨rfl, (F1.out.alloc _).alloc _⟩
set_option maxRecDepth 20000 in
set_option maxHeartbeats 6400000 in
theorem open_ok (w : World) {q o c : Nat} {b : List Nat} (hr : Rd w (.slice (some ⟨q, o, none⟩) b.length c) (bv b)) (hb : By b) (hl : b.length ≤ 1000000000) {ips : Ps} {r : Nat} (h : Opn b ips r) :
    Calls Tryz.prog 6 #[.slice (some ⟨q, o, none⟩) b.length c] w fun e w' => ∃ p da dc fa fc G, e = .returned (.tuple #[.pointer (some ⟨p, 0, none⟩), .int .i64 0]) ∧ Tab w' p (b.take (fAt b)) (wn b (fAt b) (fSz b)) ips da dc fa fc G ∧ Fr [] w w' := by
  have OF := hid (ofooter_ok w hr hb hl h.foot.len h.foot.mag h.sum h.plc)
  have h1 := h.plc.hi
  have h2 := h.plc.hf
  have h3 := h.foot.len
  have HO := hid h
  have HR := hid hr
  have HB := hid hb
  have hcap := hr.cap
  have U1 : Hid (∀ W, Fr [] w W → _) := hid (fun W f => unsealed_c W (hr.fr f) hb hl (iAt b) (iSz b) (by omega) true (Iff.intro (fun _ => h.isum) (fun _ => rfl)))
  have U2 : Hid (∀ W, Fr [] w W → _) := hid (fun W f => unsealed_c W (hr.fr f) hb hl (fAt b) (fSz b) (by omega) true (Iff.intro (fun _ => h.fsum) (fun _ => rfl)))
  have SP : Hid (∀ W, Fr [] w W → _) := hid (fun W f => spans_yes W ((hr.fr f).win (t := iAt b) (n := iSz b) (by omega)) (wn_by hb _ _) (by rw [wn_len (by omega)]; omega) (fin := fAt b) (by omega) h.bl h.sp)
  have CL1 : Hid (∀ W, Fr [] w W → _) := hid (fun W f => clone_c (w := W) ((hr.fr f).front (q := fAt b) (by omega)) (by rw [List.length_take]; omega))
  have CL2 : Hid (∀ W, Fr [] w W → _) := hid (fun W f => clone_c (w := W) ((hr.fr f).win (t := fAt b) (n := fSz b) (by omega)) (by rw [wn_len (by omega)]; omega))
  have LD : Hid ((b.take (fAt b)).length = fAt b) := hid (by rw [List.length_take]; omega)
  have LF : Hid ((wn b (fAt b) (fSz b)).length = fSz b) := hid (wn_len (by omega))
  clear hr hb h
  generalize b.length = L at *
  generalize fAt b = fa at *
  generalize fSz b = fs at *
  generalize iAt b = ia at *
  generalize iSz b = is at *
  go_enter Tryz.func6, Tryz.ntmps6
  go_upto_region 2 with (go_at_call 17; refine OF.out.mono ?_; rintro e W1 ⟨rfl, f1⟩; have F1 := hid f1; clear f1)
  obtain ⟨W3, hW3⟩ : ∃ W3, W3 = (W1.alloc (.cells #[.int .u64 (fa : Int), .int .u64 (fs : Int)] 52)).alloc (.cells #[.int .u64 (ia : Int), .int .u64 (is : Int)] 52) := ⟨_, rfl⟩
  rw [← hW3]
  have F3 : Hid (Fr [] W1 W3) := hid (by rw [hW3]; exact ((Fr.refl _ _).alloc _).alloc _)
  have N0 : Hid (W3.heap[W1.heap.size]? = some (.cells #[.int .u64 (fa : Int), .int .u64 (fs : Int)] 52 (0, 0))) := hid (by rw [hW3, blk_old _ _ (by simp)]; exact blk_new _ _)
  have N1 : Hid (W3.heap[W1.heap.size + 1]? = some (.cells #[.int .u64 (ia : Int), .int .u64 (is : Int)] 52 (0, 0))) := hid (by rw [hW3]; exact new_at _ _ (by simp))
  clear hW3
  have CC : Hid (∀ W, Fr [] W3 W → W.cell? ⟨W1.heap.size, 0, none⟩ = some (.int .u64 (fa : Int)) ∧ W.cell? ⟨W1.heap.size, 1, none⟩ = some (.int .u64 (fs : Int)) ∧ W.cell? ⟨W1.heap.size + 1, 0, none⟩ = some (.int .u64 (ia : Int)) ∧ W.cell? ⟨W1.heap.size + 1, 1, none⟩ = some (.int .u64 (is : Int))) := hid (fun W f => by
    have k0 := f.at N0.out (by simp)
    have k1 := f.at N1.out (by simp)
    exact ⟨by rw [blk_cell k0]; rfl, by rw [blk_cell k0]; rfl, by rw [blk_cell k1]; rfl, by rw [blk_cell k1]; rfl⟩)
  have F13 := hid (F1.out.trans F3.out)
  obtain ⟨x0, x1, x2, x3⟩ := CC.out W3 (Fr.refl _ _)
  go_upto_region 5 with (go_at_call 18; refine (U1.out W3 F13.out).mono ?_; rintro e W4 ⟨rfl, f4⟩; have F4 := hid f4; clear f4)
  obtain ⟨y0, y1, _, _⟩ := CC.out W4 F4.out
  have F14 := hid (F13.out.trans F4.out)
  clear x0 x1 x2 x3
  go_upto_region 8 with (go_at_call 18; refine (U2.out W4 F14.out).mono ?_; rintro e W5 ⟨rfl, f5⟩; have F5 := hid (F4.out.trans f5); have F15 := hid (F14.out.trans f5); clear f5)
  obtain ⟨z0, _, _, _⟩ := CC.out W5 F5.out
  clear y0 y1
  go_upto_region 9 with (go_at_call 19; refine (SP.out W5 F15.out).mono ?_; rintro e W6 ⟨G, rfl, rs', f6⟩; have RS := hid rs'; have F6 := hid (F5.out.trans f6); have F16 := hid (F15.out.trans f6); clear rs' f6)
  obtain ⟨u0, _, _, _⟩ := CC.out W6 F6.out
  have C1 := hid (CL1.out W6 F16.out)
  rw [LD.out] at C1
  have hfc : (fa : Int) ≤ (c : Int) := by omega
  clear z0 CL1 U1 U2 SP OF
  go_upto_region 12 with (go_at_call 20; refine C1.out.mono ?_; rintro e W7 ⟨dv, rfl, o7, f7⟩; obtain ⟨da, dc, rfl, _⟩ := ownsRow_slice o7; have O7 := hid o7; have F7 := hid f7; have F17 := hid (F16.out.trans f7); clear o7 f7)
  have C2 := hid (CL2.out W7 F17.out)
  rw [LF.out] at C2
  clear C1 CL2
  go_wp2_with (go_at_call 20; refine C2.out.mono ?_; rintro e W8 ⟨fv, rfl, o8, f8⟩; obtain ⟨fa2, fc2, rfl, _⟩ := ownsRow_slice o8; have O8 := hid o8; have F8 := hid f8; have F18 := hid (F17.out.trans f8); clear o8 f8)
  go_ret2
  have fA : Fr [] W8 (W8.alloc (.cells #[.slice da fa dc, .slice fa2 fs fc2, .slice (some ⟨G, 0, none⟩) ips.length ips.length] 62)) := (Fr.refl _ _).alloc _
  refine ⟨W8.heap.size, da, dc, fa2, fc2, G, rfl, ⟨?_, ?_, ?_, ?_⟩, F18.out.trans fA⟩
  · rw [LD.out, LF.out]; exact blk_new _ _
  · rw [LD.out]; exact (Rd.ownN (ownsRow_fr O7.out F8.out) LD.out.symm).fr fA
  · rw [LF.out]; exact (Rd.ownN O8.out LF.out.symm).fr fA
  · exact ((RS.out.fr F7.out).fr F8.out).fr fA
set_option maxRecDepth 20000 in
set_option maxHeartbeats 6400000 in
theorem open_sum (w : World) {q o c : Nat} {b : List Nat} (hr : Rd w (.slice (some ⟨q, o, none⟩) b.length c) (bv b)) (hb : By b) (hl : b.length ≤ 1000000000) (f0 : Foot b) (f1 : SumAt b (b.length - 44) 32) (f2 : Plc b) (h : ¬ (SumAt b (iAt b) (iSz b) ∧ SumAt b (fAt b) (fSz b))) :
    Calls Tryz.prog 6 #[.slice (some ⟨q, o, none⟩) b.length c] w fun e w' => e = .returned (.tuple #[.pointer none, .int .i64 81]) ∧ Fr [] w w' := by
  have OF := hid (ofooter_ok w hr hb hl f0.len f0.mag f1 f2)
  have h1 := f2.hi
  have h2 := f2.hf
  have h3 := f0.len
  obtain ⟨xi, hxi⟩ := bool_of (SumAt b (iAt b) (iSz b))
  obtain ⟨xf, hxf⟩ := bool_of (SumAt b (fAt b) (fSz b))
  have U1 : Hid (∀ W, Fr [] w W → _) := hid (fun W f => unsealed_c W (hr.fr f) hb hl (iAt b) (iSz b) (by omega) xi hxi)
  have U2 : Hid (∀ W, Fr [] w W → _) := hid (fun W f => unsealed_c W (hr.fr f) hb hl (fAt b) (fSz b) (by omega) xf hxf)
  have hcase : xi = false ∨ xi = true ∧ xf = false := by
    rcases xi with _ | _
    · exact .inl rfl
    · rcases xf with _ | _
      · exact .inr ⟨rfl, rfl⟩
      · exact absurd ⟨hxi.1 rfl, hxf.1 rfl⟩ h
  clear hr hb h f0 f1 f2 hxi hxf
  generalize b.length = L at *
  generalize fAt b = fa at *
  generalize fSz b = fs at *
  generalize iAt b = ia at *
  generalize iSz b = is at *
  rcases hcase with hc | ⟨hc, hc2⟩
  all_goals
    subst hc
    try subst hc2
    go_enter Tryz.func6, Tryz.ntmps6
    go_upto_region 2 with (go_at_call 17; refine OF.out.mono ?_; rintro e W1 ⟨rfl, f1⟩; have F1 := hid f1; clear f1)
    obtain ⟨W3, hW3⟩ : ∃ W3, W3 = (W1.alloc (.cells #[.int .u64 (fa : Int), .int .u64 (fs : Int)] 52)).alloc (.cells #[.int .u64 (ia : Int), .int .u64 (is : Int)] 52) := ⟨_, rfl⟩
    rw [← hW3]
    have F3 : Hid (Fr [] W1 W3) := hid (by rw [hW3]; exact ((Fr.refl _ _).alloc _).alloc _)
    have N0 : Hid (W3.heap[W1.heap.size]? = some (.cells #[.int .u64 (fa : Int), .int .u64 (fs : Int)] 52 (0, 0))) := hid (by rw [hW3, blk_old _ _ (by simp)]; exact blk_new _ _)
    have N1 : Hid (W3.heap[W1.heap.size + 1]? = some (.cells #[.int .u64 (ia : Int), .int .u64 (is : Int)] 52 (0, 0))) := hid (by rw [hW3]; exact new_at _ _ (by simp))
    clear hW3
    have CC : Hid (∀ W, Fr [] W3 W → W.cell? ⟨W1.heap.size, 0, none⟩ = some (.int .u64 (fa : Int)) ∧ W.cell? ⟨W1.heap.size, 1, none⟩ = some (.int .u64 (fs : Int)) ∧ W.cell? ⟨W1.heap.size + 1, 0, none⟩ = some (.int .u64 (ia : Int)) ∧ W.cell? ⟨W1.heap.size + 1, 1, none⟩ = some (.int .u64 (is : Int))) := hid (fun W f => by
      have k0 := f.at N0.out (by simp)
      have k1 := f.at N1.out (by simp)
      exact ⟨by rw [blk_cell k0]; rfl, by rw [blk_cell k0]; rfl, by rw [blk_cell k1]; rfl, by rw [blk_cell k1]; rfl⟩)
    have F13 := hid (F1.out.trans F3.out)
    obtain ⟨x0, x1, x2, x3⟩ := CC.out W3 (Fr.refl _ _)
    go_upto_region 5 with (go_at_call 18; refine (U1.out W3 F13.out).mono ?_; rintro e W4 ⟨rfl, f4⟩; have F4 := hid f4; clear f4)
    obtain ⟨y0, y1, _, _⟩ := CC.out W4 F4.out
    have F14 := hid (F13.out.trans F4.out)
    clear x0 x1 x2 x3
    go_wp2_with (go_at_call 18; refine (U2.out W4 F14.out).mono ?_; rintro e W5 ⟨rfl, f5⟩; have F15 := hid (F14.out.trans f5); clear f5)
    go_ret2
    exact ⟨rfl, F15.out⟩
set_option maxRecDepth 20000 in
set_option maxHeartbeats 6400000 in
theorem open_form (w : World) {q o c : Nat} {b : List Nat} (hr : Rd w (.slice (some ⟨q, o, none⟩) b.length c) (bv b)) (hb : By b) (hl : b.length ≤ 1000000000) (f0 : Foot b) (f1 : SumAt b (b.length - 44) 32) (f2 : Plc b) (s1 : SumAt b (iAt b) (iSz b)) (s2 : SumAt b (fAt b) (fSz b)) (h : ∀ ips r, Blk (wn b (iAt b) (iSz b)) ips r → ¬ Spans (fAt b) ips) :
    Calls Tryz.prog 6 #[.slice (some ⟨q, o, none⟩) b.length c] w fun e w' => e = .returned (.tuple #[.pointer none, .int .i64 80]) ∧ Fr [] w w' := by
  have OF := hid (ofooter_ok w hr hb hl f0.len f0.mag f1 f2)
  have h1 := f2.hi
  have h2 := f2.hf
  have h3 := f0.len
  have U1 : Hid (∀ W, Fr [] w W → _) := hid (fun W f => unsealed_c W (hr.fr f) hb hl (iAt b) (iSz b) (by omega) true (Iff.intro (fun _ => s1) (fun _ => rfl)))
  have U2 : Hid (∀ W, Fr [] w W → _) := hid (fun W f => unsealed_c W (hr.fr f) hb hl (fAt b) (fSz b) (by omega) true (Iff.intro (fun _ => s2) (fun _ => rfl)))
  have SP : Hid (∀ W, Fr [] w W → _) := hid (fun W f => spans_no W ((hr.fr f).win (t := iAt b) (n := iSz b) (by omega)) (wn_by hb _ _) (by rw [wn_len (by omega)]; omega) (fin := fAt b) (by omega) h)
  clear hr hb h f0 f1 f2 s1 s2
  generalize b.length = L at *
  generalize fAt b = fa at *
  generalize fSz b = fs at *
  generalize iAt b = ia at *
  generalize iSz b = is at *
  go_enter Tryz.func6, Tryz.ntmps6
  go_upto_region 2 with (go_at_call 17; refine OF.out.mono ?_; rintro e W1 ⟨rfl, f1⟩; have F1 := hid f1; clear f1)
  obtain ⟨W3, hW3⟩ : ∃ W3, W3 = (W1.alloc (.cells #[.int .u64 (fa : Int), .int .u64 (fs : Int)] 52)).alloc (.cells #[.int .u64 (ia : Int), .int .u64 (is : Int)] 52) := ⟨_, rfl⟩
  rw [← hW3]
  have F3 : Hid (Fr [] W1 W3) := hid (by rw [hW3]; exact ((Fr.refl _ _).alloc _).alloc _)
  have N0 : Hid (W3.heap[W1.heap.size]? = some (.cells #[.int .u64 (fa : Int), .int .u64 (fs : Int)] 52 (0, 0))) := hid (by rw [hW3, blk_old _ _ (by simp)]; exact blk_new _ _)
  have N1 : Hid (W3.heap[W1.heap.size + 1]? = some (.cells #[.int .u64 (ia : Int), .int .u64 (is : Int)] 52 (0, 0))) := hid (by rw [hW3]; exact new_at _ _ (by simp))
  clear hW3
  have CC : Hid (∀ W, Fr [] W3 W → W.cell? ⟨W1.heap.size, 0, none⟩ = some (.int .u64 (fa : Int)) ∧ W.cell? ⟨W1.heap.size, 1, none⟩ = some (.int .u64 (fs : Int)) ∧ W.cell? ⟨W1.heap.size + 1, 0, none⟩ = some (.int .u64 (ia : Int)) ∧ W.cell? ⟨W1.heap.size + 1, 1, none⟩ = some (.int .u64 (is : Int))) := hid (fun W f => by
    have k0 := f.at N0.out (by simp)
    have k1 := f.at N1.out (by simp)
    exact ⟨by rw [blk_cell k0]; rfl, by rw [blk_cell k0]; rfl, by rw [blk_cell k1]; rfl, by rw [blk_cell k1]; rfl⟩)
  have F13 := hid (F1.out.trans F3.out)
  obtain ⟨x0, x1, x2, x3⟩ := CC.out W3 (Fr.refl _ _)
  go_upto_region 5 with (go_at_call 18; refine (U1.out W3 F13.out).mono ?_; rintro e W4 ⟨rfl, f4⟩; have F4 := hid f4; clear f4)
  obtain ⟨y0, y1, _, _⟩ := CC.out W4 F4.out
  have F14 := hid (F13.out.trans F4.out)
  clear x0 x1 x2 x3
  go_upto_region 8 with (go_at_call 18; refine (U2.out W4 F14.out).mono ?_; rintro e W5 ⟨rfl, f5⟩; have F5 := hid (F4.out.trans f5); have F15 := hid (F14.out.trans f5); clear f5)
  obtain ⟨z0, _, _, _⟩ := CC.out W5 F5.out
  clear y0 y1
  go_wp2_with (go_at_call 19; refine (SP.out W5 F15.out).mono ?_; rintro e W6 ⟨v6, rfl, f6⟩; have F16 := hid (F15.out.trans f6); clear f6)
  go_ret2
  exact ⟨rfl, F16.out⟩
/-- Whatever is wrong is told. -/
theorem open_no (w : World) {v : Value} {b : List Nat} (hr : Rd w v (bv b)) (hb : By b) (hl : b.length ≤ 1000000000) {x : Nat} (h : NoOpn b x) :
    Calls Tryz.prog 6 #[v] w fun e w' => e = .returned (.tuple #[.pointer none, .int .i64 (x : Int)]) ∧ Fr [] w w' := by
  by_cases h44 : 44 ≤ b.length
  · rcases hr.split with ⟨rfl, _⟩ | ⟨q, o, c, rfl, _⟩
    · simp at h44
    rcases h with ⟨rfl, h⟩ | ⟨rfl, h1, h⟩ | ⟨rfl, h1, h2, h⟩ | ⟨rfl, h1, h2, h3, h⟩ | ⟨rfl, h1, h2, h3, h4, h5, h⟩
    · exact open_foot w rfl 80 (by omega) (by omega) (ofooter_mag w hr hb hl h44 (fun e => h ⟨h44, e⟩))
    · exact open_foot w rfl 81 (by omega) (by omega) (ofooter_sum w hr hb hl h44 h1.mag h)
    · refine open_foot w rfl 80 (by omega) (by omega) ?_
      by_cases hp : iAt b + iSz b + 4 = b.length - 44
      · exact ofooter_p2 w hr hb hl h44 h1.mag h2 hp (fun e => h ⟨hp, e⟩)
      · exact ofooter_p1 w hr hb hl h44 h1.mag h2 hp
    · exact open_sum w hr hb hl h1 h2 h3 h
    · exact open_form w hr hb hl h1 h2 h3 h4 h5 h
  · have hx : x = 80 := by
      rcases h with ⟨rfl, h⟩ | ⟨rfl, h1, h⟩ | ⟨rfl, h1, h2, h⟩ | ⟨rfl, h1, h2, h3, h⟩ | ⟨rfl, h1, h2, h3, h4, h5, h⟩
      · rfl
      all_goals exact absurd h1.len h44
    subst hx
    obtain ⟨a, c, rfl⟩ := hr.form
    rw [bv_len]
    exact open_foot w rfl 80 (by omega) (by omega) (ofooter_short w (by omega))
end Go.Proofs.YtnnookkcnmgbfaaGreat
