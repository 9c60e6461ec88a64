/-
  Package block: Filter, May.
-/
import Derived.Test.YtolcocplinkpdaaJ22
import Derived.Test.YtolcocplinkpdaaJ25
import Derived.Test.YtolcocplinkpdaaJ18
import Derived.Test.YtolcocplinkpdaaXD
namespace Go.Proofs.Ytolcocplinkpdaa
open Go.ChangeShapes Go.WideShapes Go.ChangeAt Go.RowKit

theorem makeM_run (w : World) {n : Nat} (hc : n ≤ 1000000000) : (Instr.makeSlice 113 (.int .i64 (n : Int)) (.int .i64 (n : Int))).run Try.prog w = .ok (.slice (some ⟨w.heap.size, 0, none⟩) n n) (w.alloc (.cells (madeCells #[.int .u8 0] n) 5)) := by
  obtain ⟨i0, hi, hz0, hz1, hz2⟩ := info_parts infoB
  have h := run_make (P := Try.prog) w 113 5 i0 (.int .u8 0) Try.underlying113 hi hz0 .i64 .i64 (n : Int) (n : Int) (by omega) (by omega) (by rw [hz2]; omega) (by omega)
  simpa [hz1, Value.cells] using h
theorem makeM_own (w : World) {n : Nat} (hc : n ≤ 1000000000) : (w.alloc (.cells (madeCells #[.int .u8 0] n) 5)).ownsRow w.heap.size 5 1 (.slice (some ⟨w.heap.size, 0, none⟩) n n) n (bv (List.replicate n 0)) := by
  have := World.ownsRow_lit (base := w.heap.size) (e := 5) (size := 1) w (madeCells #[.int .u8 0] n) n (Nat.le_refl _) (by unfold maxLen; omega) (by simp [madeCells])
  rw [toList_madeCells_one] at this
  have e : bv (List.replicate n 0) = List.replicate n (.int .u8 0) := by unfold bv; rw [List.map_replicate]; rfl
  rw [e]; exact this
theorem wpList_append_mk {w : World} {ops : Array Oper} {rest : List Oper} {o : Oper} {a : Act} {Q : Exit → Act → World → Prop} (hgd : o.guard = none) (s x : Operand)
    (ho : o.op = .call { callee := .builtin .append, args := #[s, x], argTypes := #[113, 113] }) (base : Nat) (hbase : base ≤ w.heap.size) (v : Value) (n : Nat) (xs : List Value) (hs : a.eval s = v) (hown : w.ownsRow base 5 1 v n xs) (G : Nat) (hx : a.eval x = .slice (some ⟨G, 0, none⟩) 1 1) {u : Value} {T : TypeId} (hG : w.heap[G]? = some (.cells #[u] T (0, 0)))
    (hu : u.oneCell' = true) (hl : n ≤ 100000000000)
    (h : ∀ v' w', w'.ownsRow base 5 1 v' (n + 1) (xs ++ [u]) → w.grownBy w' v.ownBlock → wpList Try.prog ops Q rest (a.put o.dst v') w') :
    wpList Try.prog ops Q (o :: rest) a w := by
  obtain ⟨i0, hi, hz0, hz1, hz2⟩ := info_parts infoB
  refine wpList_append_own_at w hgd s x 113 ho base 5 i0 _ 1 1 Try.underlying113 hi hz0 hz1 hz2 rfl (by decide) v n xs hs hown ⟨G, 0, none⟩ 1 1 [u] hx rfl ?_ ?_ (by unfold maxLen; omega) (by omega) hbase fun v' w' h1 h2 _ _ => h v' w' h1 h2
  · intro j u' hj
    rw [Addr.add_lit, Nat.zero_add, blk_cell hG, ← Array.getElem?_toList]
    exact hj
  · intro u' hu'
    simp at hu'
    subst hu'; exact hu
set_option maxRecDepth 20000 in
set_option maxHeartbeats 1600000 in
theorem filter_plan (w : World) {a : Option Addr} {n c : Nat} (bits : Int) (hr : bits < 1 ∨ 64 < bits) :
    Calls Try.prog 27 #[.slice a n c, .int .i64 bits] w fun e w' => e = .returned (.tuple #[.slice none 0 0, .int .i64 71]) ∧ Fr [] w w' := by
  rcases hr with hr | hr
  all_goals
    go_enter Try.func27, Try.ntmps27
    go_wp2
    go_ret2
    exact ⟨rfl, Fr.refl _ _⟩
theorem rA_at {rs : List (List Nat)} {i : Nat} (h : i < rs.length) : rs[i]? = some (rA rs i) := by unfold rA; rw [List.getElem?_eq_getElem h]; rfl
set_option maxRecDepth 20000 in
set_option maxHeartbeats 3200000 in
theorem filter_c (w : World) {v : Value} {rs : List (List Nat)} (h : RdL w v rs) (hn : rs.length ≤ 1000000) (bits : Nat) (h1 : 1 ≤ bits) (h2 : bits ≤ 64) :
    Calls Try.prog 27 #[v, .int .i64 (bits : Int)] w fun e w' => ∃ v', e = .returned (.tuple #[v', .int .i64 0]) ∧ w'.ownsRow w.heap.size 5 1 v' (fltL bits rs).length (bv (fltL bits rs)) ∧ Fr [] w w' := by
  obtain ⟨a, c, rfl, k1⟩ := h
  have HK := hid k1
  clear k1
  obtain ⟨t0, ht0⟩ : ∃ t0 : Nat, (if (bits : Int) * 69 / 100 < 1 then 1 else (bits : Int) * 69 / 100) = (t0 : Int) := ⟨max (bits * 69 / 100) 1, by omega⟩
  have hT : (if (30 : Int) < (t0 : Int) then (30 : Int) else (t0 : Int)) = (fT bits : Int) := by
    unfold fT; omega
  have hT30 := fT_bd bits
  obtain ⟨t, ht⟩ : ∃ t, t = fT bits := ⟨_, rfl⟩
  rw [← ht] at hT hT30
  have HT := hid ht
  clear ht
  have hmul : (bits : Int) * (rs.length : Int) = ((bits * rs.length : Nat) : Int) := by simp
  have hpb : bits * rs.length ≤ 64 * 1000000 := Nat.mul_le_mul h2 hn
  obtain ⟨L, hL⟩ : ∃ L, L = fL bits rs.length := ⟨_, rfl⟩
  have hL8 : 8 ≤ L := by rw [hL]; exact fL_pos _ _
  have HL := hid hL
  have hL9 : L ≤ 1000000000 := by rw [hL]; unfold fL; omega
  have hLi : (if (((bits * rs.length : Nat) : Int) + 7) / 8 < 8 then 8 else (((bits * rs.length : Nat) : Int) + 7) / 8) = (L : Int) := by rw [hL]; unfold fL; omega
  clear hL
  obtain ⟨p, hp⟩ : ∃ p, p = bits * rs.length := ⟨_, rfl⟩
  rw [← hp] at hmul hpb hLi
  clear hp
  generalize hnn : rs.length = n at *
  have HN := hid hnn
  clear hnn
  have hmk := makeM_run w hL9
  go_enter Try.func27, Try.ntmps27
  go_upto_region 4 with fail
  clear hT ht0
  go_wp2_with fail
  have O0 := hid (makeM_own w hL9)
  have F0 : Hid (Fr [] w (w.alloc (.cells (madeCells #[.int .u8 0] L) 5))) := hid ((Fr.refl _ _).alloc _)
  generalize w.alloc (.cells (madeCells #[.int .u8 0] L) 5) = W0 at *
  clear hmk hLi hmul
  go_loopw [31] (fun v31 wr => ∃ i : Nat, i ≤ n ∧ v31 = .int .i64 (i : Int) ∧ wr.ownsRow w.heap.size 5 1 (.slice (some ⟨w.heap.size, 0, none⟩) L L) L (bv (fM L t rs i)) ∧ Fr [] w wr) (fun v31 _ => n - (intOf v31).toNat)
  case atStart => exact ⟨0, Nat.zero_le _, rfl, O0.out, F0.out⟩
  case round =>
    obtain ⟨i, hi, rfl, oi, fi⟩ := hrel
    have HI := hid (And.intro oi fi)
    clear oi fi
    by_cases hlt : i < n
    · have hil : i < rs.length := by rw [HN.out]; exact hlt
      obtain ⟨b, off, rfl, m1⟩ := HK.out (by omega)
      obtain ⟨ka, kc, e1, e2, e3, e4⟩ := m1 i _ (rA_at hil)
      have z1 := cell_fr HI.out.2 e1
      have hfl := fM_len L t rs i
      have ES := each_set wr (G := w.heap.size) (B := w.heap.size) (mc := L) (m := fM L t rs i) (by rw [hfl]; exact HI.out.1) (fM_by _ _ _ _) (by rw [hfl]; omega) (by rw [hfl]; exact hL9) (e2.fr HI.out.2) e3 e4 t hT30.2
      rw [hfl] at ES
      have HES := hid ES
      clear ES m1 e1 e2 e3 e4 hfl hil
      generalize (rA rs i).length = kl at *
      go_wp2_with fail
      refine HES.out.mono ?_
      rintro e w2 ⟨rfl, o2, f2⟩
      have F2 : Hid (Fr [] w w2) := hid (((HI.out.2.mono (S' := [w.heap.size]) (by simp)).trans f2).shed (fun k hk hlt => by simp at hk; omega))
      have O2 : Hid (w2.ownsRow w.heap.size 5 1 (.slice (some ⟨w.heap.size, 0, none⟩) L L) L (bv (fM L t rs (i + 1)))) := hid o2
      clear HES o2 f2
      go_wp2
      go_roundw
      case rel => exact ⟨i + 1, by omega, by go_num, O2.out, F2.out⟩
      case measure => simp [intOf]; omega
    · have hie : i = n := by omega
      subst hie
      have hu : (t : Int) % 256 = (t : Int) := by omega
      obtain ⟨W4, hW4⟩ : ∃ W, W = wr.alloc (.cells #[.int .u8 (t : Int)] 5) := ⟨_, rfl⟩
      have F4 : Fr [] wr W4 := by rw [hW4]; exact (Fr.refl _ _).alloc _
      have X4 : W4.heap[wr.heap.size]? = some (.cells #[.int .u8 (t : Int)] 5 (0, 0)) := by rw [hW4]; exact blk_new _ _
      have o4 := ownsRow_fr HI.out.1 F4
      have hs4 : w.heap.size ≤ W4.heap.size := by have := HI.out.2.size; have := F4.size; omega
      have FF4 := hid (HI.out.2.trans F4)
      go_wp2_with (at_builtin; rw [← hW4]; refine wpList_append_mk rfl _ _ rfl w.heap.size hs4 _ _ _ rfl o4 wr.heap.size rfl X4 rfl (by omega) ?_; intro v5 W5 o5 g5)
      have hfl : fltL bits rs = fM L t rs i ++ [t] := by unfold fltL; rw [HN.out, ← HT.out, ← HL.out]
      have F5 : Fr [] w W5 := FF4.out.grew o4 (Nat.le_refl _) g5
      go_ret2
      refine ⟨v5, rfl, ?_, F5⟩
      rw [hfl, bv_append, List.length_append, fM_len]
      exact o5
end Go.Proofs.Ytolcocplinkpdaa
namespace Go.Proofs.Ytolcocplinkpdaa
open Go.ChangeShapes Go.WideShapes Go.ChangeAt Go.RowKit

theorem check_ok (w : World) {b r i t : Int} (h : PlanOk b r i t) : Calls Try.prog 14 #[.agg #[.int .i64 b, .int .i64 r, .int .i64 i, .int .i64 t]] w fun e w' => e = .returned (.int .i64 0) ∧ Fr [] w w' := by
  refine (check_c w b r i t).mono ?_
  rintro e w' ⟨⟨rfl, _⟩ | ⟨_, hx⟩, f⟩
  · exact ⟨rfl, f⟩
  · exact absurd h hx
set_option maxRecDepth 20000 in
set_option maxHeartbeats 1600000 in
theorem tbuild_plan (w : World) {a : Option Addr} {n c : Nat} (b r i t : Int) (h : ¬ PlanOk b r i t) :
    Calls Try.prog 10 #[.slice a n c, .agg #[.int .i64 b, .int .i64 r, .int .i64 i, .int .i64 t]] w fun e w' => e = .returned (.tuple #[.slice none 0 0, .int .i64 82]) ∧ Fr [] w w' := by
  have HN := hid h
  clear h
  go_enter Try.func10, Try.ntmps10
  go_wp2_with (go_at_call 14; refine (check_c _ b r i t).mono ?_; rintro e w1 ⟨hq, f1⟩; rcases hq with ⟨rfl, hx⟩ | ⟨rfl, hx⟩; exact absurd hx HN.out; have F1 := hid f1; clear f1 hx)
  go_ret2
  exact ⟨rfl, ((Fr.refl _ _).alloc _).trans F1.out⟩
set_option maxRecDepth 20000 in
set_option maxHeartbeats 1600000 in
theorem tbuild_none (w : World) {a : Option Addr} {c : Nat} (b r i t : Int) (h : PlanOk b r i t) :
    Calls Try.prog 10 #[.slice a 0 c, .agg #[.int .i64 b, .int .i64 r, .int .i64 i, .int .i64 t]] w fun e w' => e = .returned (.tuple #[.slice none 0 0, .int .i64 83]) ∧ Fr [] w w' := by
  have HN := hid h
  clear h
  go_enter Try.func10, Try.ntmps10
  go_wp2_with (go_at_call 14; refine (check_ok _ HN.out).mono ?_; rintro e w1 ⟨rfl, f1⟩; have F1 := hid f1; clear f1)
  go_ret2
  exact ⟨rfl, ((Fr.refl _ _).alloc _).trans F1.out⟩
set_option maxRecDepth 20000 in
set_option maxHeartbeats 1600000 in
theorem tbuild_order (w : World) {v : Value} {ps : Ps} (h : RdK w v ps) (hl : ps.length ≤ 1000000) (h0 : ps ≠ []) (b r i t : Int) (hp : PlanOk b r i t) (hr : ¬ Rises ps) :
    Calls Try.prog 10 #[v, .agg #[.int .i64 b, .int .i64 r, .int .i64 i, .int .i64 t]] w fun e w' => e = .returned (.tuple #[.slice none 0 0, .int .i64 70]) ∧ Fr [] w w' := by
  have HN := hid hp
  have HR := hid hr
  have hpos := List.length_pos_iff.2 h0
  have HK := hid h
  obtain ⟨rn, rfl⟩ : ∃ rn : Nat, r = (rn : Int) := ⟨r.toNat, by have := hp.r0; omega⟩
  have hr1 := hp.r0
  have hr2 := hp.r1
  obtain ⟨a, c, rfl, hc, _⟩ := h
  clear hp hr h0
  obtain ⟨n, hn⟩ : ∃ n, n = ps.length := ⟨_, rfl⟩
  have HNN := hid hn
  rw [← hn] at hl hpos hc HK ⊢
  clear hn
  have hz : ((n : Int) == 0) = false := by rw [beq_eq_false_iff_ne]; omega
  go_enter Try.func10, Try.ntmps10
  have BX : Hid (∀ w1, Fr [] (w.alloc (.cells #[.int .i64 b, .int .i64 (rn : Int), .int .i64 i, .int .i64 t] 24)) w1 → w1.cell? ⟨w.heap.size, 1, none⟩ = some (.int .i64 (rn : Int))) := hid (fun w1 f => by rw [blk_cell (f.at (blk_new _ _) (by simp))]; rfl)
  go_wp2_with (first
    | (go_at_call 14; refine (check_ok _ HN.out).mono ?_; rintro e w1 ⟨rfl, f1⟩; have c1 := BX.out _ f1; have F1 := hid (((Fr.refl [] w).alloc _).trans f1); clear f1)
    | (go_at_call 25; refine (build_order w1 (HK.out.fr F1.out) (by rw [← HNN.out]; exact hl) rn (by omega) (by omega) HR.out).mono ?_; rintro e w2 ⟨rfl, f2⟩; have F2 := hid (F1.out.trans f2); clear f2))
  go_ret2
  exact ⟨rfl, F2.out⟩

theorem fltL_bd {bits : Nat} {rs : List (List Nat)} (hb : bits ≤ 64) (hn : rs.length ≤ 1000000) : (fltL bits rs).length ≤ 8000010 := by
  rw [fltL_len]; unfold fL
  have : bits * rs.length ≤ 64 * 1000000 := Nat.mul_le_mul hb hn
  omega
set_option maxRecDepth 20000 in
set_option maxHeartbeats 6400000 in
theorem tbuild_ok (w : World) {v : Value} {ps : Ps} (h : RdK w v ps) (hl : Lim ps) (h0 : ps ≠ []) (b r i : Nat) (t : Int) (hp : PlanOk b r i t) (hr : Rises ps) :
    Calls Try.prog 10 #[v, .agg #[.int .i64 (b : Int), .int .i64 (r : Int), .int .i64 (i : Int), .int .i64 t]] w fun e w' => ∃ v', e = .returned (.tuple #[v', .int .i64 0]) ∧ w'.ownsRow w.heap.size 5 1 v' (tblL r b i ps).length (bv (tblL r b i ps)) ∧ Fr [] w w' := by
  have HN := hid hp
  have HR := hid hr
  have HL := hid hl
  have hpos := List.length_pos_iff.2 h0
  have HK := hid h
  have hr1 := hp.r0
  have hr2 := hp.r1
  have hb2 := hp.b1
  have hi1 := hp.i0
  have hi2 := hp.i1
  have hn0 := hl.n
  obtain ⟨a, c, rfl, hc, _⟩ := h
  clear hp hr h0 hl
  obtain ⟨n, hn⟩ : ∃ n, n = ps.length := ⟨_, rfl⟩
  have HNN := hid hn
  rw [← hn] at hn0 hpos hc HK ⊢
  clear hn
  have hz : ((n : Int) == 0) = false := by rw [beq_eq_false_iff_ne]; omega
  obtain ⟨W0, hW0⟩ : ∃ W0, W0 = w.alloc (.cells #[.int .i64 (b : Int), .int .i64 (r : Int), .int .i64 (i : Int), .int .i64 t] 24) := ⟨_, rfl⟩
  have F0 : Hid (Fr [] w W0) := hid (by rw [hW0]; exact (Fr.refl _ _).alloc _)
  have B0 : Hid (W0.heap[w.heap.size]? = some (.cells #[.int .i64 (b : Int), .int .i64 (r : Int), .int .i64 (i : Int), .int .i64 t] 24 (0, 0))) := hid (by rw [hW0]; exact blk_new _ _)
  have hbd := (blk_len_le (ps := ps) (r := r) (by have := HL.out.t; omega)).1
  have htl := HL.out.t
  have hnl := HL.out.n
  go_enter Try.func10, Try.ntmps10
  go_upto_region 9 with (first
    | (go_at_call 14; rw [← hW0]; refine (check_ok _ HN.out).mono ?_; rintro e w1 ⟨rfl, f1⟩; have c1 := (show w1.cell? ⟨w.heap.size, 1, none⟩ = some (.int .i64 (r : Int)) from (by rw [blk_cell (f1.at B0.out (by simp))]; rfl)); have F1 := hid f1; clear f1)
    | (go_at_call 25; refine (build_ok w1 (HK.out.fr (F0.out.trans F1.out)) hnl r (by omega) (by omega) HR.out (by omega)).mono ?_; rintro e w2 ⟨v2, rfl, _, f2⟩; have F2 := hid (F1.out.trans f2); clear f2))
  have B2 := hid (F2.out.at B0.out (by simp))
  have FW2 := hid (F0.out.trans F2.out)
  have hs0 : w.heap.size ≤ w2.heap.size := FW2.out.size
  obtain ⟨W3, hW3⟩ : ∃ W3, W3 = w2.alloc (.cells #[.slice none 0 0] 62) := ⟨_, rfl⟩
  have F3 : Hid (Fr [] w2 W3) := hid (by rw [hW3]; exact (Fr.refl _ _).alloc _)
  have T3 : Hid (Wt W3 w2.heap.size w2.heap.size (.slice none 0 0) []) := hid ⟨by rw [hW3]; exact blk_new _ _, World.ownsRow_nil _ _ _ _⟩
  have B3 := F3.out.at B2.out (by simp)
  have p0 : W3.cell? ⟨w.heap.size, 0, none⟩ = some (.int .i64 (b : Int)) := by rw [blk_cell B3]; rfl
  have p1 : W3.cell? ⟨w.heap.size, 1, none⟩ = some (.int .i64 (r : Int)) := by rw [blk_cell B3]; rfl
  have p2 : W3.cell? ⟨w.heap.size, 2, none⟩ = some (.int .i64 (i : Int)) := by rw [blk_cell B3]; rfl
  have p3 : W3.cell? ⟨w.heap.size, 3, none⟩ = some (.int .i64 t) := by rw [blk_cell B3]; rfl
  have HB3 := hid B3
  have DC := hid (dataBlocks_c w2 W3 (HK.out.fr FW2.out) F3.out w2.heap.size (Nat.le_refl _) T3.out HL.out HR.out b r (by omega) (by omega) (by omega) (i : Int) t)
  obtain ⟨D, hD⟩ : ∃ D, D = chs b ps := ⟨_, rfl⟩
  have HD := hid hD
  rw [← hD] at DC
  clear B3 c1 F1 hW0 hD
  go_upto_region 10 with fail
  rw [← hW3]
  clear hW3
  go_upto_region 11 with (go_at_call 26; refine DC.out.mono ?_; rintro e W4 ⟨iv, fv, rfl, t4, x4, f4⟩; have T4 := hid t4; have X4 := hid x4; have F4 := hid f4; have y4 := hid (f4.at B2.out (by simp)); clear t4 x4 f4)
  have SK : Hid (∀ w', Fr [] W4 w' → w'.cell? ⟨w.heap.size, 2, none⟩ = some (.int .i64 (i : Int))) := hid fun w' f => by rw [blk_cell (f.at y4.out (by simp))]; rfl
  have UC := hid (usersOf_c W4.drew (((HK.out.fr FW2.out).fr F4.out).fr (Fr.refl _ _).drew) hnl HR.out)
  have hul := usN_len ps ps.length
  obtain ⟨ia, ic, hiv, _⟩ := ownsRow_slice X4.out.choose_spec.1
  subst hiv
  clear p0 p1 p2 p3 DC
  go_region_held_law (fun w' => w'.cell? ⟨w.heap.size, 2, none⟩ = some (.int .i64 (i : Int)))
    (first | exact SK.out _ (Fr.refl [] W4).drew | exact SK.out _ F6.out | exact SK.out _ F5.out)
    (first
      | (go_at_call 28; refine UC.out.mono ?_; rintro e W5 ⟨uv, rfl, o5, f5⟩; obtain ⟨ua, uc, hu, _⟩ := o5.rd; subst hu; have O5 := hid o5; have F5 := hid ((Fr.refl [] W4).drew.trans f5); clear o5 f5)
      | (go_at_call 27; refine (filter_c W5 O5.out.rd (by omega) i (by omega) (by omega)).mono ?_; rintro e W6 ⟨fl, rfl, o6, f6⟩; have O6 := hid o6; have F6 := hid (F5.out.trans f6); have S6 := hid (show W4.heap.size ≤ W5.heap.size from F5.out.size); clear o6 f6))
  obtain ⟨fla, flc, hfl, _⟩ := ownsRow_slice O6.out
  subst hfl
  have hD := HD.out
  have LI := HL.out.idx HR.out r b
  have LD := (HL.out.dat r b).1
  have RI : Hid (Rises (idxF r 0 D)) := hid (by rw [hD]; exact idx_rises (chs_flat b ps).2 (by rw [(chs_flat b ps).1]; exact HR.out))
  have BYI : Hid (ByP (idxF r 0 D)) := hid (by rw [hD]; exact idx_by _ _ (by rw [(chs_flat b ps).1]; exact HK.out.by) (chs_flat b ps).2)
  have LF := fltL_bd (bits := i) (rs := usN ps ps.length) (by omega) (by omega)
  rw [← hD] at LI LD
  clear hD
  have hib := (blk_len_le (ps := idxF r 0 D) (r := 1) (by omega))
  have BI := hid (build_ok W6 ((X4.out.rd F4.out).fr F6.out) LI.1 1 (by omega) (by omega) RI.out (by omega))
  have BYF := hid (fltL_by i (usN ps ps.length))
  have BYX := hid (blk_by BYI.out 1)
  have hxl : (blk 1 (idxF r 0 D)).length ≤ 200000000 := by omega
  have HE : Hid (tblL r b i ps = layL (datL r D) (fltL i (usN ps ps.length)) (blk 1 (idxF r 0 D))) := hid (by unfold tblL; rw [← HD.out])
  clear UC SK hul LI hib
  generalize fltL i (usN ps ps.length) = fl at *
  generalize hxx : blk 1 (idxF r 0 D) = xl at *
  generalize hdd : datL r D = dl at *
  clear hxx hdd
  have hs4 : w2.heap.size ≤ W4.heap.size := F4.out.size
  obtain ⟨FL, hFL⟩ : ∃ FL, FL = fl.length := ⟨_, rfl⟩
  obtain ⟨XL, hXL⟩ : ∃ XL, XL = xl.length := ⟨_, rfl⟩
  obtain ⟨DL, hDL⟩ : ∃ DL, DL = dl.length := ⟨_, rfl⟩
  have HFL := hid hFL
  have HXL := hid hXL
  have HDL := hid hDL
  rw [← hFL] at LF O6 ⊢
  rw [← hXL] at hxl BI
  rw [← hDL] at LD
  clear hFL hXL hDL
  go_upto_region 13 with (go_at_call 25; refine BI.out.mono ?_; rintro e W7 ⟨ixv, rfl, o7, f7⟩; obtain ⟨xa, xc, rfl, _⟩ := ownsRow_slice o7; have O7 := hid o7; have G7 := hid f7; have F7 := hid (F6.out.trans f7); clear o7 f7)
  have T7 := hid (T4.out.fr F7.out)
  have O67 := hid (ownsRow_fr O6.out G7.out)
  rw [HFL.out] at O67
  have hs7 : w2.heap.size ≤ W7.heap.size := Nat.le_trans hs4 F7.out.size
  have hs5 : W4.heap.size ≤ W5.heap.size := F5.out.size
  have hs6 : W4.heap.size ≤ W6.heap.size := F6.out.size
  have ND1 : Hid (∀ k, (Value.slice fla fl.length flc).ownBlock = some k → fv.ownBlock ≠ some k) := hid (fun k hk e => by
    have h1 := (O67.out.lt k hk).1
    have h2 := (T4.out.own.lt k e).2
    omega)
  have SC1 := hid (sealed_c W7 hs7 T7.out O67.out ND1.out BYF.out (by rw [← HFL.out, ← HDL.out]; omega))
  rw [← HFL.out, ← HDL.out] at SC1
  obtain ⟨IA, hIA⟩ : ∃ IA, IA = (dl ++ sealL fl).length := ⟨_, rfl⟩
  have HIA := hid hIA
  have hIA2 : IA = DL + (FL + 4) := by rw [hIA, List.length_append, sealL_len, ← HFL.out, ← HDL.out]
  clear hIA
  have NX : Hid (∀ W8 v8, WtG W7 W8 w2.heap.size w2.heap.size fv v8 (dl ++ sealL fl) → Calls Try.prog 30 #[.pointer (some ⟨w2.heap.size, 0, none⟩), .slice xa XL xc] W8 fun e w' => ∃ v', e = .returned (.agg #[.int .u64 (IA : Int), .int .u64 (XL : Int)]) ∧ WtG W8 w' w2.heap.size w2.heap.size v8 v' (dl ++ sealL fl ++ sealL xl)) := hid fun W8 v8 G8 => by
    have o7 := O7.out
    rw [HXL.out] at o7
    have O78 := G8.keep o7 (own_not o7 T7.out.at' (by decide)) (fun k hk e => by have h1 := (o7.lt k hk).1; have h2 := (T4.out.own.lt k e).2; omega)
    have ND2 : ∀ k, (Value.slice xa xl.length xc).ownBlock = some k → v8.ownBlock ≠ some k := fun k hk e => by
      rcases G8.blk with q | q
      · rw [q] at e; have h1 := (o7.lt k hk).1; have h2 := (T4.out.own.lt k e).2; omega
      · have h1 := (o7.lt k hk).2; have h2 := q k e; omega
    have SC2 := sealed_c W8 (Nat.le_trans hs7 G8.fr.size) G8.wt O78 ND2 BYX.out (by rw [← HIA.out, ← HXL.out]; omega)
    rw [← HIA.out, ← HXL.out] at SC2
    exact SC2
  have FX : Hid (∀ W9 v9, Wt W9 w2.heap.size w2.heap.size v9 (dl ++ sealL fl ++ sealL xl) → w2.heap.size ≤ W9.heap.size → Calls Try.prog 29 #[.pointer (some ⟨w2.heap.size, 0, none⟩), .agg #[.int .u64 (DL : Int), .int .u64 (FL : Int)], .agg #[.int .u64 (IA : Int), .int .u64 (XL : Int)]] W9 fun e w' => (∃ u, e = .returned u) ∧ ∃ v', Wt w' w2.heap.size w2.heap.size v' (dl ++ sealL fl ++ sealL xl ++ footL DL FL IA XL) ∧ Fr (w2.heap.size :: v9.ownBlock.toList) W9 w') := hid fun W9 v9 T9 hs9 =>
    footer_c W9 hs9 T9 (by rw [List.length_append, ← HIA.out, sealL_len, ← HXL.out]; omega) DL FL IA XL (by omega) (by omega) (by omega) (by omega)
  clear SC1 BI
  have SC1 := hid (sealed_c W7 hs7 T7.out O67.out ND1.out BYF.out (by rw [← HFL.out, ← HDL.out]; omega))
  rw [← HFL.out, ← HDL.out] at SC1
  clear hIA2 LF LD hxl
  go_wp2_with (first
    | (go_at_call 29; refine (FX.out _ _ G9.out.wt (Nat.le_trans hs7 (Nat.le_trans G8.out.fr.size G9.out.fr.size))).mono ?_; rintro e W10 ⟨⟨u10, rfl⟩, v10, t10, f10⟩; have T10 := hid t10; have F10 := hid f10; have c10 := (show W10.cell? ⟨w2.heap.size, 0, none⟩ = some v10 from (by rw [blk_cell t10.at']; rfl)); clear t10 f10)
    | (go_at_call 30; refine (NX.out _ _ G8.out).mono ?_; rintro e W9 ⟨v9, rfl, g9⟩; have G9 := hid g9; clear g9)
    | (go_at_call 30; refine SC1.out.mono ?_; rintro e W8 ⟨v8, rfl, g8⟩; have G8 := hid g8; clear g8))
  go_ret2
  have eq : dl ++ sealL fl ++ sealL xl ++ footL DL FL IA XL = tblL r b i ps := by
    rw [HE.out]; unfold layL
    have e1 : IA = dl.length + fl.length + 4 := by rw [HIA.out, List.length_append, sealL_len]; omega
    rw [← HDL.out, ← HFL.out] at e1
    rw [← HDL.out, ← HFL.out, ← HXL.out, ← e1]
    simp only [List.append_assoc]
  have t10 := T10.out
  rw [eq] at t10
  have shd : ∀ {W W' : World} {v : Value}, Fr [] w2 W → (∀ k, v.ownBlock = some k → w2.heap.size ≤ k) → Fr (w2.heap.size :: v.ownBlock.toList) W W' → Fr [] w2 W' := fun f hv g =>
    ((f.mono (by simp)).trans g).shed (fun k hk hlt => by
      simp only [List.mem_cons, Option.mem_toList] at hk
      rcases hk with e | e
      · omega
      · have := hv k e; omega)
  have g7 : Fr [] w2 W7 := F4.out.trans F7.out
  have g8 := shd g7 (fun k hk => (T4.out.own.lt k hk).1) G8.out.fr
  have g9 := shd g8 (fun k hk => (G8.out.wt.own.lt k hk).1) G9.out.fr
  have g10 := shd g9 (fun k hk => (G9.out.wt.own.lt k hk).1) F10.out
  exact ⟨_, rfl, own_base t10.own hs0, FW2.out.trans g10⟩
end Go.Proofs.Ytolcocplinkpdaa
