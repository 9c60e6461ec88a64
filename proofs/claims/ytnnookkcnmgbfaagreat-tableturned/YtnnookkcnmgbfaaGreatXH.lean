/-
  Where a footer says that things stand.
-/
import Derived.Test.YtnnookkcnmgbfaaGreatJ08
import Derived.Test.YtnnookkcnmgbfaaGreatBL
import Derived.Lib.SlBytesConst
namespace Go.Proofs.YtnnookkcnmgbfaaGreat
open Go.ChangeShapes Go.WideShapes Go.ChangeAt Go.RowKit

set_option maxRecDepth 20000 in
set_option maxHeartbeats 1600000 in
theorem suffix_c {w : World} {q o c : Nat} {b : List Nat} (hr : Rd w (.slice (some ⟨q, o, none⟩) b.length c) (bv b)) (hb : By b) (hl : b.length ≤ 1000000000) (h8 : 8 ≤ b.length) {v2 : Value} {m : List Nat} (h2 : Rd w v2 (bv m)) (hm : By m) (hm8 : m.length = 8) (x : Bool) (hx : x = decide (b.drop (b.length - 8) = m)) :
    Calls Tryz.prog 59 #[.slice (some ⟨q, o, none⟩) b.length c, v2] w fun e w' => e = .returned (.bool x) ∧ w' = w := by
  have hc := hr.cap
  have R1 : Rd w (.slice (some ⟨q, o + (b.length - 8), none⟩) (b.length - (b.length - 8)) (c - (b.length - 8))) (bv (b.drop (b.length - 8))) := hr.back (by omega)
  have EQ := hid (bytesEqual_c R1 h2 (hb.drop _) hm)
  rw [← hx] at EQ
  obtain ⟨a2, c2, hv2⟩ := h2.form
  rw [bv_len, hm8] at hv2
  subst hv2
  clear hr R1 h2 hb hx
  generalize b.length = L at *
  have h1 : ¬ c = L - 8 := by omega
  have h3 : ((L : Int) - 8).toNat = L - 8 := by omega
  have h4 : (8 : Int) ≤ (L : Int) := by omega
  go_enter Tryz.func59, Tryz.ntmps59
  go_wp2_with (go_at_call 58; refine EQ.out.mono ?_; rintro e w1 ⟨rfl, h⟩; rw [h]; clear h)
  go_ret
  exact ⟨rfl, rfl⟩
theorem ret_cct {fn : Func} {p q u : Tmp} {ty : TypeId} (h : fn.results = #[.cell p ty, .cell q ty, .tmp u]) {tmps : Array Value} {w : World} {g g' : Nat} {cs cs' : Array Value} (hp : tmps.getD p undef = .pointer (some ⟨g, 0, none⟩)) (hg : (loadVar ty ⟨g, 0, none⟩).run Tryz.prog w = .ok (.agg cs) w) (hq : tmps.getD q undef = .pointer (some ⟨g', 0, none⟩)) (hg' : (loadVar ty ⟨g', 0, none⟩).run Tryz.prog w = .ok (.agg cs') w) :
    (results fn tmps).run Tryz.prog w = .ok (.tuple #[.agg cs, .agg cs', tmps.getD u undef]) w := by
  have hp' : tmps[p]?.getD undef = .pointer (some ⟨g, 0, none⟩) := by simpa using hp
  have hq' : tmps[q]?.getD undef = .pointer (some ⟨g', 0, none⟩) := by simpa using hq
  simp [results, h, hp', hq', asAddr, hg, hg']
theorem load_pc {w : World} {g : Nat} {a b : Value} {t : TypeId} (hg : w.heap[g]? = some (.cells #[a, b] t (0, 0))) : (loadVar 52 ⟨g, 0, none⟩).run Tryz.prog w = .ok (.agg #[a, b]) w :=
  run_loadVar_row w g t 52 #[a, b] (0, 0) _ hg Tryz.underlying52 rfl sizePc

set_option maxRecDepth 20000 in
set_option maxHeartbeats 3200000 in
theorem ofooter_short (w : World) {a : Option Addr} {n c : Nat} (hn : n < 44) :
    Calls Tryz.prog 17 #[.slice a n c] w fun e w' => e = .returned (.tuple #[.agg #[.int .u64 0, .int .u64 0], .agg #[.int .u64 0, .int .u64 0], .int .i64 80]) ∧ Fr [] w w' := by
  have h1 : (n : Int) - 44 < 0 := by omega
  go_enter Tryz.func17, Tryz.ntmps17
  go_wp2
  refine bodyPost_ret (ret_cct rfl (g := w.heap.size) (g' := w.heap.size + 1) (by simp) (load_pc (by rw [blk_old _ _ (by simp)]; exact blk_new _ _)) (by simp) (load_pc (new_at _ _ (by simp)))) rfl ?_
  exact ⟨rfl, ((Fr.refl _ _).alloc _).alloc _⟩
theorem rd_magic (w : World) : Rd (w.alloc (.cells #[.int .u8 109, .int .u8 111, .int .u8 114, .int .u8 97, .int .u8 105, .int .u8 110, .int .u8 101, .int .u8 49] 5 (8, 9))) (.slice (some ⟨w.heap.size, 0, none⟩) 8 8) (bv magicL) := by
  refine .inr ⟨_, _, rfl, by simp [bv, magicL], fun j u hj => ?_⟩
  rw [Addr.add_lit, Nat.zero_add, World.cell?_alloc_mark, ← Array.getElem?_toList]
  exact hj
/-- What stands ahead of the footer's own test. -/
structure OF (w W1 : World) (q o c L : Nat) (b : List Nat) : Prop where
  hc : (convert 22 22 (.slice (some ⟨w.heap.size + 1 + 1, 0, none⟩) 8 8)).run Tryz.prog (((w.alloc (.cells #[.int .u64 0, .int .u64 0] 52)).alloc (.cells #[.int .u64 0, .int .u64 0] 52)).alloc (.cells #[.int .u8 109, .int .u8 111, .int .u8 114, .int .u8 97, .int .u8 105, .int .u8 110, .int .u8 101, .int .u8 49] 5)) = .ok (.slice (some ⟨w.heap.size + 1 + 1, 0, none⟩) 8 8) W1
  fr : Fr [] w W1
  n0 : W1.heap[w.heap.size]? = some (.cells #[.int .u64 0, .int .u64 0] 52 (0, 0))
  n1 : W1.heap[w.heap.size + 1]? = some (.cells #[.int .u64 0, .int .u64 0] 52 (0, 0))
  sf : ∀ x : Bool, x = decide (b.drop (b.length - 8) = magicL) → Calls Tryz.prog 59 #[.slice (some ⟨q, o, none⟩) L c, .slice (some ⟨w.heap.size + 1 + 1, 0, none⟩) 8 8] W1 fun e w' => e = .returned (.bool x) ∧ w' = W1
theorem of_ex (w : World) {q o c L : Nat} {b : List Nat} (hL : L = b.length) (hr : Rd w (.slice (some ⟨q, o, none⟩) b.length c) (bv b)) (hb : By b) (hl : b.length ≤ 1000000000) (h44 : 44 ≤ b.length) : ∃ W1, OF w W1 q o c L b := by
  subst hL
  have kc := Lib.run_convert_bytes_const (P := Tryz.prog) ((w.alloc (.cells #[.int .u64 0, .int .u64 0] 52)).alloc (.cells #[.int .u64 0, .int .u64 0] 52)) 22 5 #[.int .u8 109, .int .u8 111, .int .u8 114, .int .u8 97, .int .u8 105, .int .u8 110, .int .u8 101, .int .u8 49] 8 8 Tryz.underlying22 Tryz.underlying5
  have hs : ((w.alloc (.cells #[.int .u64 0, .int .u64 0] 52)).alloc (.cells #[.int .u64 0, .int .u64 0] 52)).heap.size = w.heap.size + 1 + 1 := by simp
  have rm := rd_magic ((w.alloc (.cells #[.int .u64 0, .int .u64 0] 52)).alloc (.cells #[.int .u64 0, .int .u64 0] 52))
  rw [hs] at kc rm
  have f : Fr [] w (((w.alloc (.cells #[.int .u64 0, .int .u64 0] 52)).alloc (.cells #[.int .u64 0, .int .u64 0] 52)).alloc (.cells #[.int .u8 109, .int .u8 111, .int .u8 114, .int .u8 97, .int .u8 105, .int .u8 110, .int .u8 101, .int .u8 49] 5 (8, 9))) := (((Fr.refl _ _).alloc _).alloc _).alloc _
  exact ⟨_, kc, f, by rw [blk_old _ _ (by simp; omega), blk_old _ _ (by simp)]; exact blk_new _ _, by rw [blk_old _ _ (by simp)]; exact new_at _ _ (by simp), fun x hx => suffix_c (hr.fr f) hb hl (by omega) rm magicL_by rfl x hx⟩
theorem set4 {W : World} {g h : Nat} {x y z u a b c d : Value} {T : TypeId} (n0 : W.heap[g]? = some (.cells #[x, y] T (0, 0))) (n1 : W.heap[h]? = some (.cells #[z, u] T (0, 0))) (hne : g ≠ h) :
    ((((W.setCell ⟨g, 0, none⟩ a).setCell ⟨g, 1, none⟩ b).setCell ⟨h, 0, none⟩ c).setCell ⟨h, 1, none⟩ d).heap[g]? = some (.cells #[a, b] T (0, 0)) ∧
    ((((W.setCell ⟨g, 0, none⟩ a).setCell ⟨g, 1, none⟩ b).setCell ⟨h, 0, none⟩ c).setCell ⟨h, 1, none⟩ d).heap[h]? = some (.cells #[c, d] T (0, 0)) := by
  have k0 : ((W.setCell ⟨g, 0, none⟩ a).setCell ⟨g, 1, none⟩ b).heap[g]? = some (.cells #[a, b] T (0, 0)) := by rw [blk_set (blk_set n0 0 a) 1 b]; rfl
  have k1 : ((W.setCell ⟨g, 0, none⟩ a).setCell ⟨g, 1, none⟩ b).heap[h]? = some (.cells #[z, u] T (0, 0)) := by rw [blk_setne _ _ _ (Ne.symm hne), blk_setne _ _ _ (Ne.symm hne)]; exact n1
  exact ⟨by rw [blk_setne _ _ _ hne, blk_setne _ _ _ hne]; exact k0, by rw [blk_set (blk_set k1 0 c) 1 d]; rfl⟩
theorem fr4 {w W : World} {g h : Nat} {a b c d : Value} (f : Fr [] w W) (hg : w.heap.size ≤ g) (hh : w.heap.size ≤ h) : Fr [] w ((((W.setCell ⟨g, 0, none⟩ a).setCell ⟨g, 1, none⟩ b).setCell ⟨h, 0, none⟩ c).setCell ⟨h, 1, none⟩ d) :=
  (((f.set _ _ (.inr hg)).set _ _ (.inr hg)).set _ _ (.inr hh)).set _ _ (.inr hh)
set_option maxRecDepth 20000 in
set_option maxHeartbeats 3200000 in
theorem ofooter_mag (w : World) {q o c : Nat} {b : List Nat} (hr : Rd w (.slice (some ⟨q, o, none⟩) b.length c) (bv b)) (hb : By b) (hl : b.length ≤ 1000000000) (h44 : 44 ≤ b.length) (hm : ¬ b.drop (b.length - 8) = magicL) :
    Calls Tryz.prog 17 #[.slice (some ⟨q, o, none⟩) b.length c] w fun e w' => e = .returned (.tuple #[.agg #[.int .u64 0, .int .u64 0], .agg #[.int .u64 0, .int .u64 0], .int .i64 80]) ∧ Fr [] w w' := by
  obtain ⟨L, hL⟩ : ∃ L, L + 44 = b.length := ⟨b.length - 44, by omega⟩
  obtain ⟨W1, OW⟩ := of_ex w hL hr hb hl h44
  have hcv := OW.hc
  have HO := hid OW
  have HB := hid hb
  have HL := hid hL
  have HR := hid (hr.fr OW.fr)
  have hcc := hr.cap
  rw [← hL] at hl hcc HR ⊢
  have F1 := hid OW.fr
  have SF := hid (OW.sf false (decide_eq_false hm).symm)
  clear OW hr hb hL hm h44
  have n0 := HO.out.n0
  have n1 := HO.out.n1
  have HN0 := hid n0
  have HN1 := hid n1
  have z0 : W1.cell? ⟨w.heap.size, 0, none⟩ = some (.int .u64 0) := by rw [blk_cell n0]; rfl
  have z1 : W1.cell? ⟨w.heap.size, 1, none⟩ = some (.int .u64 0) := by rw [blk_cell n0]; rfl
  have y0 : W1.cell? ⟨w.heap.size + 1, 0, none⟩ = some (.int .u64 0) := by rw [blk_cell n1]; rfl
  have y1 : W1.cell? ⟨w.heap.size + 1, 1, none⟩ = some (.int .u64 0) := by rw [blk_cell n1]; rfl
  have zf := blk_frozen n0
  have yf := blk_frozen n1
  clear n0 n1
  go_enter Tryz.func17, Tryz.ntmps17
  go_wp2_with (go_at_call 59; refine SF.out.mono ?_; rintro e w1 ⟨rfl, h⟩; rw [h]; clear h)
  have S4 := set4 (a := .int .u64 0) (b := .int .u64 0) (c := .int .u64 0) (d := .int .u64 0) HN0.out HN1.out (by omega)
  refine bodyPost_ret (ret_cct rfl (g := w.heap.size) (g' := w.heap.size + 1) (by simp) (load_pc S4.1) (by simp) (load_pc S4.2)) rfl ?_
  exact ⟨rfl, fr4 F1.out (Nat.le_refl _) (by omega)⟩
set_option maxRecDepth 20000 in
set_option maxHeartbeats 3200000 in
theorem ofooter_sum (w : World) {q o c : Nat} {b : List Nat} (hr : Rd w (.slice (some ⟨q, o, none⟩) b.length c) (bv b)) (hb : By b) (hl : b.length ≤ 1000000000) (h44 : 44 ≤ b.length) (hm : b.drop (b.length - 8) = magicL) (hs : ¬ SumAt b (b.length - 44) 32) :
    Calls Tryz.prog 17 #[.slice (some ⟨q, o, none⟩) b.length c] w fun e w' => e = .returned (.tuple #[.agg #[.int .u64 0, .int .u64 0], .agg #[.int .u64 0, .int .u64 0], .int .i64 81]) ∧ Fr [] w w' := by
  obtain ⟨L, hL⟩ : ∃ L, L + 44 = b.length := ⟨b.length - 44, by omega⟩
  obtain ⟨W1, OW⟩ := of_ex w hL hr hb hl h44
  have hcv := OW.hc
  have HO := hid OW
  have HB := hid hb
  have HL := hid hL
  have HR := hid (hr.fr OW.fr)
  have hcc := hr.cap
  rw [← hL] at hl hcc HR ⊢
  have F1 := hid OW.fr
  have SF := hid (OW.sf true (decide_eq_true hm).symm)
  have US := hid (unsealed_c W1 (hr.fr OW.fr) hb (by omega) L 32 (by omega) false (Iff.intro (fun e => Bool.noConfusion e) (fun h => absurd (by rw [show b.length - 44 = L from by omega]; exact h) hs)))
  rw [← hL] at US
  clear OW hr hb hL hm h44 hs
  have CC : Hid (∀ W2, Fr [] W1 W2 → W2.heap[w.heap.size]? = some (.cells #[.int .u64 0, .int .u64 0] 52 (0, 0)) ∧ W2.heap[w.heap.size + 1]? = some (.cells #[.int .u64 0, .int .u64 0] 52 (0, 0))) := hid fun W2 f => ⟨f.at HO.out.n0 (by simp), f.at HO.out.n1 (by simp)⟩
  go_enter Tryz.func17, Tryz.ntmps17
  go_upto_region 5 with (first
    | (go_at_call 59; refine SF.out.mono ?_; rintro e w1 ⟨rfl, h⟩; rw [h]; clear h)
    | (go_at_call 18; refine US.out.mono ?_; rintro e W2 ⟨rfl, f2⟩; have F2 := hid (F1.out.trans f2); have Q2 := hid (CC.out _ f2); clear f2))
  obtain ⟨n0, n1⟩ := Q2.out
  have z0 : W2.cell? ⟨w.heap.size, 0, none⟩ = some (.int .u64 0) := by rw [blk_cell n0]; rfl
  have z1 : W2.cell? ⟨w.heap.size, 1, none⟩ = some (.int .u64 0) := by rw [blk_cell n0]; rfl
  have y0 : W2.cell? ⟨w.heap.size + 1, 0, none⟩ = some (.int .u64 0) := by rw [blk_cell n1]; rfl
  have y1 : W2.cell? ⟨w.heap.size + 1, 1, none⟩ = some (.int .u64 0) := by rw [blk_cell n1]; rfl
  have zf := blk_frozen n0
  have yf := blk_frozen n1
  have HN0 := hid n0
  have HN1 := hid n1
  clear n0 n1
  go_wp2
  have S4 := set4 (a := .int .u64 0) (b := .int .u64 0) (c := .int .u64 0) (d := .int .u64 0) HN0.out HN1.out (by omega)
  refine bodyPost_ret (ret_cct rfl (g := w.heap.size) (g' := w.heap.size + 1) (by simp) (load_pc S4.1) (by simp) (load_pc S4.2)) rfl ?_
  exact ⟨rfl, fr4 F2.out (Nat.le_refl _) (by omega)⟩
theorem wn_wn (b : List Nat) {t n u m : Nat} (h : u + m ≤ n) : wn (wn b t n) u m = wn b (t + u) m := by
  unfold wn
  rw [List.drop_take, List.take_take, List.drop_drop, Nat.min_eq_left (by omega)]
structure FN (b : List Nat) (L fa fs ia is : Nat) : Prop where
  e0 : fAt b = fa
  e1 : fSz b = fs
  e2 : iAt b = ia
  e3 : iSz b = is
  l0 : fa < 18446744073709551616
  l1 : fs < 18446744073709551616
  l2 : ia < 18446744073709551616
  l3 : is < 18446744073709551616
theorem n8_lt {b : List Nat} (hb : By b) {t : Nat} (h : t + 8 ≤ b.length) : n8 b t < 18446744073709551616 := by
  have := unf_lt _ (wn_by hb t 8)
  rw [wn_len h] at this; exact this
theorem fn_ex {b : List Nat} (hb : By b) {L : Nat} (hL : L + 44 = b.length) : ∃ fa fs ia is, FN b L fa fs ia is :=
  ⟨_, _, _, _, rfl, rfl, rfl, rfl, n8_lt hb (by omega), n8_lt hb (by omega), n8_lt hb (by omega), n8_lt hb (by omega)⟩
theorem pieces_c {w : World} {q o c : Nat} {b : List Nat} (hr : Rd w (.slice (some ⟨q, o, none⟩) b.length c) (bv b)) (hb : By b) {L fa fs ia is : Nat} (hL : L + 44 = b.length) (F : FN b L fa fs ia is) :
    (Calls Tryz.prog 60 #[.slice (some ⟨q, o + L, none⟩) 32 (c - L)] w fun e w' => e = .returned (.agg #[.int .u64 (fa : Int), .int .u64 (fs : Int)]) ∧ Fr [] w w') ∧
    (Calls Tryz.prog 60 #[.slice (some ⟨q, o + L + 16, none⟩) 16 (c - L - 16)] w fun e w' => e = .returned (.agg #[.int .u64 (ia : Int), .int .u64 (is : Int)]) ∧ Fr [] w w') := by
  have l1 : (wn b L 32).length = 32 := wn_len (by omega)
  have r1 : Rd w (.slice (some ⟨q, o + L, none⟩) (wn b L 32).length (c - L)) (bv (wn b L 32)) := by rw [l1]; exact hr.win (t := L) (n := 32) (by omega)
  have l2 : (wn (wn b L 32) 16 16).length = 16 := wn_len (by omega)
  have c1 := pieceAt_c w r1 (wn_by hb _ _) (by omega) (by omega)
  have r2 : Rd w (.slice (some ⟨q, o + L + 16, none⟩) (wn (wn b L 32) 16 16).length (c - L - 16)) (bv (wn (wn b L 32) 16 16)) := by rw [l2]; exact r1.win (t := 16) (n := 16) (by omega)
  have c2 := pieceAt_c w r2 (wn_by (wn_by hb _ _) _ _) (by omega) (by omega)
  have g : ∀ u, u + 8 ≤ 32 → n8 (wn b L 32) u = n8 b (L + u) := fun u hu => by unfold n8; rw [wn_wn b hu]
  have g2 : ∀ u, u + 8 ≤ 16 → n8 (wn (wn b L 32) 16 16) u = n8 b (L + (16 + u)) := fun u hu => by unfold n8; rw [wn_wn _ (by omega), wn_wn b (by omega)]
  rw [l1, g 0 (by omega), g 8 (by omega)] at c1
  rw [l2, g2 0 (by omega), g2 8 (by omega)] at c2
  have e0 := F.e0
  have e1 := F.e1
  have e2 := F.e2
  have e3 := F.e3
  unfold fAt at e0
  unfold fSz at e1
  unfold iAt at e2
  unfold iSz at e3
  rw [show b.length - 44 = L + 0 from by omega] at e0
  rw [show b.length - 36 = L + 8 from by omega] at e1
  rw [show b.length - 28 = L + (16 + 0) from by omega] at e2
  rw [show b.length - 20 = L + (16 + 8) from by omega] at e3
  rw [e0, e1] at c1
  rw [e2, e3] at c2
  exact ⟨c1, c2⟩
set_option maxRecDepth 20000 in
set_option maxHeartbeats 3200000 in
theorem ofooter_ok (w : World) {q o c : Nat} {b : List Nat} (hr : Rd w (.slice (some ⟨q, o, none⟩) b.length c) (bv b)) (hb : By b) (hl : b.length ≤ 1000000000) (h44 : 44 ≤ b.length) (hm : b.drop (b.length - 8) = magicL) (hs : SumAt b (b.length - 44) 32) (hp : Plc b) :
    Calls Tryz.prog 17 #[.slice (some ⟨q, o, none⟩) b.length c] w fun e w' => e = .returned (.tuple #[.agg #[.int .u64 (fAt b : Int), .int .u64 (fSz b : Int)], .agg #[.int .u64 (iAt b : Int), .int .u64 (iSz b : Int)], .int .i64 0]) ∧ Fr [] w w' := by
  obtain ⟨L, hL⟩ : ∃ L, L + 44 = b.length := ⟨b.length - 44, by omega⟩
  obtain ⟨W1, OW⟩ := of_ex w hL hr hb hl h44
  have hcv := OW.hc
  have HO := hid OW
  have HB := hid hb
  have HL := hid hL
  have HR := hid (hr.fr OW.fr)
  have hcc := hr.cap
  rw [← hL] at hl hcc HR ⊢
  have F1 := hid OW.fr
  have SF := hid (OW.sf true (decide_eq_true hm).symm)
  have US := hid (unsealed_c W1 (hr.fr OW.fr) hb (by omega) L 32 (by omega) true (Iff.intro (fun _ => by rw [show b.length - 44 = L from by omega] at hs; exact hs) (fun _ => rfl)))
  rw [← hL] at US
  obtain ⟨fa, fs, ia, is, FNN⟩ := fn_ex hb hL
  have HFN := hid FNN
  rw [FNN.e0, FNN.e1, FNN.e2, FNN.e3]
  have PCS : Hid (∀ W, Fr [] W1 W → _ ∧ _) := hid (fun W f => pieces_c (w := W) ((hr.fr OW.fr).fr f) hb hL FNN)
  have hl0 := FNN.l0
  have hl1 := FNN.l1
  have hl2 := FNN.l2
  have hl3 := FNN.l3
  have RE1 : Hid (∀ W, Calls Tryz.prog 61 #[.agg #[.int .u64 (ia : Int), .int .u64 (is : Int)], .int .u64 (L : Int)] W fun e w' => e = .returned (.bool true) ∧ Fr [] W w') := hid (fun W => reaches_c W ia is L hl2 hl3 (by omega) true (Iff.intro (fun _ => by have := hp.hi; rw [FNN.e2, FNN.e3] at this; omega) (fun _ => rfl)))
  have RE2 : Hid (∀ W, Calls Tryz.prog 61 #[.agg #[.int .u64 (fa : Int), .int .u64 (fs : Int)], .int .u64 (ia : Int)] W fun e w' => e = .returned (.bool true) ∧ Fr [] W w') := hid (fun W => reaches_c W fa fs ia hl0 hl1 hl2 true (Iff.intro (fun _ => by have := hp.hf; rw [FNN.e0, FNN.e1, FNN.e2] at this; omega) (fun _ => rfl)))
  clear OW hr hb hL hm h44 hs FNN hp
  have CC : Hid (∀ W2, Fr [] W1 W2 → W2.heap[w.heap.size]? = some (.cells #[.int .u64 0, .int .u64 0] 52 (0, 0)) ∧ W2.heap[w.heap.size + 1]? = some (.cells #[.int .u64 0, .int .u64 0] 52 (0, 0))) := hid fun W2 f => ⟨f.at HO.out.n0 (by simp), f.at HO.out.n1 (by simp)⟩
  go_enter Tryz.func17, Tryz.ntmps17
  have hL0 : ¬ (L : Int) < 0 := by omega
  have hcL : ¬ c - L = 16 := by omega
  have hcL2 : 16 ≤ c - L := by omega
  have hcL3 : (16 : Int) ≤ (c : Int) - (L : Int) := by omega
  go_upto_region 7 with (first
    | (go_at_call 59; refine SF.out.mono ?_; rintro e w1 ⟨rfl, h⟩; rw [h]; clear h)
    | (go_at_call 18; refine US.out.mono ?_; rintro e W2 ⟨rfl, f2⟩; have F2 := hid f2; clear f2))
  obtain ⟨n0, n1⟩ := CC.out _ F2.out
  have z0 : W2.cell? ⟨w.heap.size, 0, none⟩ = some (.int .u64 0) := by rw [blk_cell n0]; rfl
  have z1 : W2.cell? ⟨w.heap.size, 1, none⟩ = some (.int .u64 0) := by rw [blk_cell n0]; rfl
  have y0 : W2.cell? ⟨w.heap.size + 1, 0, none⟩ = some (.int .u64 0) := by rw [blk_cell n1]; rfl
  have y1 : W2.cell? ⟨w.heap.size + 1, 1, none⟩ = some (.int .u64 0) := by rw [blk_cell n1]; rfl
  clear n0 n1
  go_region_with (first
    | (go_at_call 60; have zz := F3.out; clear zz; refine (PCS.out W3 F3.out).2.mono ?_; rintro e W4 ⟨rfl, f4⟩; have F4 := hid (F3.out.trans f4); obtain ⟨n0, n1⟩ := CC.out _ F4.out; have z0 := (show W4.cell? ⟨w.heap.size, 0, none⟩ = some (.int .u64 0) from (by rw [blk_cell n0]; rfl)); have z1 := (show W4.cell? ⟨w.heap.size, 1, none⟩ = some (.int .u64 0) from (by rw [blk_cell n0]; rfl)); have y0 := (show W4.cell? ⟨w.heap.size + 1, 0, none⟩ = some (.int .u64 0) from (by rw [blk_cell n1]; rfl)); have y1 := (show W4.cell? ⟨w.heap.size + 1, 1, none⟩ = some (.int .u64 0) from (by rw [blk_cell n1]; rfl)); have zf := blk_frozen n0; have yf := blk_frozen n1; have HN0 := hid n0; have HN1 := hid n1; clear n0 n1 f4)
    | (go_at_call 60; refine (PCS.out W2.drew (F2.out.trans (Fr.refl _ _).drew)).1.mono ?_; rintro e W3 ⟨rfl, f3⟩; have F3 := hid ((F2.out.trans (Fr.refl [] W2).drew).trans f3); clear f3))
  obtain ⟨W5, hW5⟩ : ∃ W5, W5 = (((W4.setCell ⟨w.heap.size, 0, none⟩ (.int .u64 (fa : Int))).setCell ⟨w.heap.size, 1, none⟩ (.int .u64 (fs : Int))).setCell ⟨w.heap.size + 1, 0, none⟩ (.int .u64 (ia : Int))).setCell ⟨w.heap.size + 1, 1, none⟩ (.int .u64 (is : Int)) := ⟨_, rfl⟩
  have S5 : Hid (W5.heap[w.heap.size]? = some (.cells #[.int .u64 (fa : Int), .int .u64 (fs : Int)] 52 (0, 0)) ∧ W5.heap[w.heap.size + 1]? = some (.cells #[.int .u64 (ia : Int), .int .u64 (is : Int)] 52 (0, 0))) := hid (by rw [hW5]; exact set4 HN0.out HN1.out (by omega))
  have F5 : Hid (Fr [] w W5) := hid (by rw [hW5]; exact fr4 (F1.out.trans F4.out) (Nat.le_refl _) (by omega))
  rw [← hW5]
  clear hW5 z0 z1 y0 y1 zf yf CC PCS SF US HO hcv HN0 HN1
  have CW : Hid (∀ W, Fr [] W5 W → W.heap[w.heap.size]? = some (.cells #[.int .u64 (fa : Int), .int .u64 (fs : Int)] 52 (0, 0)) ∧ W.heap[w.heap.size + 1]? = some (.cells #[.int .u64 (ia : Int), .int .u64 (is : Int)] 52 (0, 0))) := hid (fun W f => ⟨f.at S5.out.1 (by simp), f.at S5.out.2 (by simp)⟩)
  obtain ⟨n0, n1⟩ := S5.out
  have z0 := (show W5.cell? ⟨w.heap.size, 0, none⟩ = some (.int .u64 (fa : Int)) from (by rw [blk_cell n0]; rfl))
  have z1 := (show W5.cell? ⟨w.heap.size, 1, none⟩ = some (.int .u64 (fs : Int)) from (by rw [blk_cell n0]; rfl))
  have y0 := (show W5.cell? ⟨w.heap.size + 1, 0, none⟩ = some (.int .u64 (ia : Int)) from (by rw [blk_cell n1]; rfl))
  have y1 := (show W5.cell? ⟨w.heap.size + 1, 1, none⟩ = some (.int .u64 (is : Int)) from (by rw [blk_cell n1]; rfl))
  have zf := blk_frozen n0
  have yf := blk_frozen n1
  clear n0 n1
  go_upto_region 10 with (first
    | (go_at_call 61; have zz := F6.out; clear zz; refine (RE2.out W6).mono ?_; rintro e W7 ⟨rfl, f7⟩; have F7 := hid (F6.out.trans f7); obtain ⟨n0, n1⟩ := CW.out _ F7.out; have z0 := (show W7.cell? ⟨w.heap.size, 0, none⟩ = some (.int .u64 (fa : Int)) from (by rw [blk_cell n0]; rfl)); have z1 := (show W7.cell? ⟨w.heap.size, 1, none⟩ = some (.int .u64 (fs : Int)) from (by rw [blk_cell n0]; rfl)); have y0 := (show W7.cell? ⟨w.heap.size + 1, 0, none⟩ = some (.int .u64 (ia : Int)) from (by rw [blk_cell n1]; rfl)); have y1 := (show W7.cell? ⟨w.heap.size + 1, 1, none⟩ = some (.int .u64 (is : Int)) from (by rw [blk_cell n1]; rfl)); have zf := blk_frozen n0; have yf := blk_frozen n1; have HN0 := hid n0; have HN1 := hid n1; clear n0 n1 f7)
    | (go_at_call 61; refine (RE1.out W5).mono ?_; rintro e W6 ⟨rfl, f6⟩; have F6 := hid f6; obtain ⟨n0, n1⟩ := CW.out _ f6; have z0 := (show W6.cell? ⟨w.heap.size, 0, none⟩ = some (.int .u64 (fa : Int)) from (by rw [blk_cell n0]; rfl)); have z1 := (show W6.cell? ⟨w.heap.size, 1, none⟩ = some (.int .u64 (fs : Int)) from (by rw [blk_cell n0]; rfl)); have y0 := (show W6.cell? ⟨w.heap.size + 1, 0, none⟩ = some (.int .u64 (ia : Int)) from (by rw [blk_cell n1]; rfl)); have y1 := (show W6.cell? ⟨w.heap.size + 1, 1, none⟩ = some (.int .u64 (is : Int)) from (by rw [blk_cell n1]; rfl)); have zf := blk_frozen n0; have yf := blk_frozen n1; have HM0 := hid n0; have HM1 := hid n1; clear n0 n1 f6))
  go_region
  go_wp2
  have S8 := set4 (a := .int .u64 (fa : Int)) (b := .int .u64 (fs : Int)) (c := .int .u64 (ia : Int)) (d := .int .u64 (is : Int)) HN0.out HN1.out (by omega)
  refine bodyPost_ret (ret_cct rfl (g := w.heap.size) (g' := w.heap.size + 1) (by simp) (load_pc S8.1) (by simp) (load_pc S8.2)) rfl ?_
  exact ⟨rfl, (fr4 (F5.out.trans F7.out) (Nat.le_refl _) (by omega)).drew⟩
set_option maxRecDepth 20000 in
set_option maxHeartbeats 3200000 in
theorem ofooter_p1 (w : World) {q o c : Nat} {b : List Nat} (hr : Rd w (.slice (some ⟨q, o, none⟩) b.length c) (bv b)) (hb : By b) (hl : b.length ≤ 1000000000) (h44 : 44 ≤ b.length) (hm : b.drop (b.length - 8) = magicL) (hs : SumAt b (b.length - 44) 32) (hp : ¬ iAt b + iSz b + 4 = b.length - 44) :
    Calls Tryz.prog 17 #[.slice (some ⟨q, o, none⟩) b.length c] w fun e w' => e = .returned (.tuple #[.agg #[.int .u64 0, .int .u64 0], .agg #[.int .u64 0, .int .u64 0], .int .i64 80]) ∧ Fr [] w w' := by
  obtain ⟨L, hL⟩ : ∃ L, L + 44 = b.length := ⟨b.length - 44, by omega⟩
  obtain ⟨W1, OW⟩ := of_ex w hL hr hb hl h44
  have hcv := OW.hc
  have HO := hid OW
  have HB := hid hb
  have HL := hid hL
  have HR := hid (hr.fr OW.fr)
  have hcc := hr.cap
  rw [← hL] at hl hcc HR ⊢
  have F1 := hid OW.fr
  have SF := hid (OW.sf true (decide_eq_true hm).symm)
  have US := hid (unsealed_c W1 (hr.fr OW.fr) hb (by omega) L 32 (by omega) true (Iff.intro (fun _ => by rw [show b.length - 44 = L from by omega] at hs; exact hs) (fun _ => rfl)))
  rw [← hL] at US
  obtain ⟨fa, fs, ia, is, FNN⟩ := fn_ex hb hL
  have HFN := hid FNN
  have PCS : Hid (∀ W, Fr [] W1 W → _ ∧ _) := hid (fun W f => pieces_c (w := W) ((hr.fr OW.fr).fr f) hb hL FNN)
  have hl0 := FNN.l0
  have hl1 := FNN.l1
  have hl2 := FNN.l2
  have hl3 := FNN.l3
  have RE1 : Hid (∀ W, Calls Tryz.prog 61 #[.agg #[.int .u64 (ia : Int), .int .u64 (is : Int)], .int .u64 (L : Int)] W fun e w' => e = .returned (.bool false) ∧ Fr [] W w') := hid (fun W => reaches_c W ia is L hl2 hl3 (by omega) false (Iff.intro (fun e => Bool.noConfusion e) (fun h => absurd h (fun e => hp (by rw [FNN.e2, FNN.e3]; omega)))))
  clear OW hr hb hL hm h44 hs FNN hp
  have CC : Hid (∀ W2, Fr [] W1 W2 → W2.heap[w.heap.size]? = some (.cells #[.int .u64 0, .int .u64 0] 52 (0, 0)) ∧ W2.heap[w.heap.size + 1]? = some (.cells #[.int .u64 0, .int .u64 0] 52 (0, 0))) := hid fun W2 f => ⟨f.at HO.out.n0 (by simp), f.at HO.out.n1 (by simp)⟩
  go_enter Tryz.func17, Tryz.ntmps17
  have hL0 : ¬ (L : Int) < 0 := by omega
  have hcL : ¬ c - L = 16 := by omega
  have hcL2 : 16 ≤ c - L := by omega
  have hcL3 : (16 : Int) ≤ (c : Int) - (L : Int) := by omega
  go_upto_region 7 with (first
    | (go_at_call 59; refine SF.out.mono ?_; rintro e w1 ⟨rfl, h⟩; rw [h]; clear h)
    | (go_at_call 18; refine US.out.mono ?_; rintro e W2 ⟨rfl, f2⟩; have F2 := hid f2; clear f2))
  obtain ⟨n0, n1⟩ := CC.out _ F2.out
  have z0 : W2.cell? ⟨w.heap.size, 0, none⟩ = some (.int .u64 0) := by rw [blk_cell n0]; rfl
  have z1 : W2.cell? ⟨w.heap.size, 1, none⟩ = some (.int .u64 0) := by rw [blk_cell n0]; rfl
  have y0 : W2.cell? ⟨w.heap.size + 1, 0, none⟩ = some (.int .u64 0) := by rw [blk_cell n1]; rfl
  have y1 : W2.cell? ⟨w.heap.size + 1, 1, none⟩ = some (.int .u64 0) := by rw [blk_cell n1]; rfl
  clear n0 n1
  go_region_with (first
    | (go_at_call 60; have zz := F3.out; clear zz; refine (PCS.out W3 F3.out).2.mono ?_; rintro e W4 ⟨rfl, f4⟩; have F4 := hid (F3.out.trans f4); obtain ⟨n0, n1⟩ := CC.out _ F4.out; have z0 := (show W4.cell? ⟨w.heap.size, 0, none⟩ = some (.int .u64 0) from (by rw [blk_cell n0]; rfl)); have z1 := (show W4.cell? ⟨w.heap.size, 1, none⟩ = some (.int .u64 0) from (by rw [blk_cell n0]; rfl)); have y0 := (show W4.cell? ⟨w.heap.size + 1, 0, none⟩ = some (.int .u64 0) from (by rw [blk_cell n1]; rfl)); have y1 := (show W4.cell? ⟨w.heap.size + 1, 1, none⟩ = some (.int .u64 0) from (by rw [blk_cell n1]; rfl)); have zf := blk_frozen n0; have yf := blk_frozen n1; have HN0 := hid n0; have HN1 := hid n1; clear n0 n1 f4)
    | (go_at_call 60; refine (PCS.out W2.drew (F2.out.trans (Fr.refl _ _).drew)).1.mono ?_; rintro e W3 ⟨rfl, f3⟩; have F3 := hid ((F2.out.trans (Fr.refl [] W2).drew).trans f3); clear f3))
  obtain ⟨W5, hW5⟩ : ∃ W5, W5 = (((W4.setCell ⟨w.heap.size, 0, none⟩ (.int .u64 (fa : Int))).setCell ⟨w.heap.size, 1, none⟩ (.int .u64 (fs : Int))).setCell ⟨w.heap.size + 1, 0, none⟩ (.int .u64 (ia : Int))).setCell ⟨w.heap.size + 1, 1, none⟩ (.int .u64 (is : Int)) := ⟨_, rfl⟩
  have S5 : Hid (W5.heap[w.heap.size]? = some (.cells #[.int .u64 (fa : Int), .int .u64 (fs : Int)] 52 (0, 0)) ∧ W5.heap[w.heap.size + 1]? = some (.cells #[.int .u64 (ia : Int), .int .u64 (is : Int)] 52 (0, 0))) := hid (by rw [hW5]; exact set4 HN0.out HN1.out (by omega))
  have F5 : Hid (Fr [] w W5) := hid (by rw [hW5]; exact fr4 (F1.out.trans F4.out) (Nat.le_refl _) (by omega))
  rw [← hW5]
  clear hW5 z0 z1 y0 y1 zf yf CC PCS SF US HO hcv HN0 HN1
  have CW : Hid (∀ W, Fr [] W5 W → W.heap[w.heap.size]? = some (.cells #[.int .u64 (fa : Int), .int .u64 (fs : Int)] 52 (0, 0)) ∧ W.heap[w.heap.size + 1]? = some (.cells #[.int .u64 (ia : Int), .int .u64 (is : Int)] 52 (0, 0))) := hid (fun W f => ⟨f.at S5.out.1 (by simp), f.at S5.out.2 (by simp)⟩)
  obtain ⟨n0, n1⟩ := S5.out
  have z0 := (show W5.cell? ⟨w.heap.size, 0, none⟩ = some (.int .u64 (fa : Int)) from (by rw [blk_cell n0]; rfl))
  have z1 := (show W5.cell? ⟨w.heap.size, 1, none⟩ = some (.int .u64 (fs : Int)) from (by rw [blk_cell n0]; rfl))
  have y0 := (show W5.cell? ⟨w.heap.size + 1, 0, none⟩ = some (.int .u64 (ia : Int)) from (by rw [blk_cell n1]; rfl))
  have y1 := (show W5.cell? ⟨w.heap.size + 1, 1, none⟩ = some (.int .u64 (is : Int)) from (by rw [blk_cell n1]; rfl))
  have zf := blk_frozen n0
  have yf := blk_frozen n1
  clear n0 n1
  go_wp2_with (first
    | (go_at_call 61; refine (RE1.out W5).mono ?_; rintro e W6 ⟨rfl, f6⟩; have F6 := hid f6; obtain ⟨n0, n1⟩ := CW.out _ f6; have z0 := (show W6.cell? ⟨w.heap.size, 0, none⟩ = some (.int .u64 (fa : Int)) from (by rw [blk_cell n0]; rfl)); have z1 := (show W6.cell? ⟨w.heap.size, 1, none⟩ = some (.int .u64 (fs : Int)) from (by rw [blk_cell n0]; rfl)); have y0 := (show W6.cell? ⟨w.heap.size + 1, 0, none⟩ = some (.int .u64 (ia : Int)) from (by rw [blk_cell n1]; rfl)); have y1 := (show W6.cell? ⟨w.heap.size + 1, 1, none⟩ = some (.int .u64 (is : Int)) from (by rw [blk_cell n1]; rfl)); have zf := blk_frozen n0; have yf := blk_frozen n1; have HM0 := hid n0; have HM1 := hid n1; clear n0 n1 f6))
  have S8 := set4 (a := .int .u64 0) (b := .int .u64 0) (c := .int .u64 0) (d := .int .u64 0) HM0.out HM1.out (by omega)
  refine bodyPost_ret (ret_cct rfl (g := w.heap.size) (g' := w.heap.size + 1) (by simp) (load_pc S8.1) (by simp) (load_pc S8.2)) rfl ?_
  exact ⟨rfl, fr4 (F5.out.trans F6.out) (Nat.le_refl _) (by omega)⟩
set_option maxRecDepth 20000 in
set_option maxHeartbeats 3200000 in
theorem ofooter_p2 (w : World) {q o c : Nat} {b : List Nat} (hr : Rd w (.slice (some ⟨q, o, none⟩) b.length c) (bv b)) (hb : By b) (hl : b.length ≤ 1000000000) (h44 : 44 ≤ b.length) (hm : b.drop (b.length - 8) = magicL) (hs : SumAt b (b.length - 44) 32) (hp1 : iAt b + iSz b + 4 = b.length - 44) (hp : ¬ fAt b + fSz b + 4 = iAt b) :
    Calls Tryz.prog 17 #[.slice (some ⟨q, o, none⟩) b.length c] w fun e w' => e = .returned (.tuple #[.agg #[.int .u64 0, .int .u64 0], .agg #[.int .u64 0, .int .u64 0], .int .i64 80]) ∧ Fr [] w w' := by
  obtain ⟨L, hL⟩ : ∃ L, L + 44 = b.length := ⟨b.length - 44, by omega⟩
  obtain ⟨W1, OW⟩ := of_ex w hL hr hb hl h44
  have hcv := OW.hc
  have HO := hid OW
  have HB := hid hb
  have HL := hid hL
  have HR := hid (hr.fr OW.fr)
  have hcc := hr.cap
  rw [← hL] at hl hcc HR ⊢
  have F1 := hid OW.fr
  have SF := hid (OW.sf true (decide_eq_true hm).symm)
  have US := hid (unsealed_c W1 (hr.fr OW.fr) hb (by omega) L 32 (by omega) true (Iff.intro (fun _ => by rw [show b.length - 44 = L from by omega] at hs; exact hs) (fun _ => rfl)))
  rw [← hL] at US
  obtain ⟨fa, fs, ia, is, FNN⟩ := fn_ex hb hL
  have HFN := hid FNN
  have PCS : Hid (∀ W, Fr [] W1 W → _ ∧ _) := hid (fun W f => pieces_c (w := W) ((hr.fr OW.fr).fr f) hb hL FNN)
  have hl0 := FNN.l0
  have hl1 := FNN.l1
  have hl2 := FNN.l2
  have hl3 := FNN.l3
  have RE1 : Hid (∀ W, Calls Tryz.prog 61 #[.agg #[.int .u64 (ia : Int), .int .u64 (is : Int)], .int .u64 (L : Int)] W fun e w' => e = .returned (.bool true) ∧ Fr [] W w') := hid (fun W => reaches_c W ia is L hl2 hl3 (by omega) true (Iff.intro (fun _ => by have := hp1; rw [FNN.e2, FNN.e3] at this; omega) (fun _ => rfl)))
  have RE2 : Hid (∀ W, Calls Tryz.prog 61 #[.agg #[.int .u64 (fa : Int), .int .u64 (fs : Int)], .int .u64 (ia : Int)] W fun e w' => e = .returned (.bool false) ∧ Fr [] W w') := hid (fun W => reaches_c W fa fs ia hl0 hl1 hl2 false (Iff.intro (fun e => Bool.noConfusion e) (fun h => absurd h (fun e => hp (by rw [FNN.e0, FNN.e1, FNN.e2]; omega)))))
  clear OW hr hb hL hm h44 hs FNN hp hp1
  have CC : Hid (∀ W2, Fr [] W1 W2 → W2.heap[w.heap.size]? = some (.cells #[.int .u64 0, .int .u64 0] 52 (0, 0)) ∧ W2.heap[w.heap.size + 1]? = some (.cells #[.int .u64 0, .int .u64 0] 52 (0, 0))) := hid fun W2 f => ⟨f.at HO.out.n0 (by simp), f.at HO.out.n1 (by simp)⟩
  go_enter Tryz.func17, Tryz.ntmps17
  have hL0 : ¬ (L : Int) < 0 := by omega
  have hcL : ¬ c - L = 16 := by omega
  have hcL2 : 16 ≤ c - L := by omega
  have hcL3 : (16 : Int) ≤ (c : Int) - (L : Int) := by omega
  go_upto_region 7 with (first
    | (go_at_call 59; refine SF.out.mono ?_; rintro e w1 ⟨rfl, h⟩; rw [h]; clear h)
    | (go_at_call 18; refine US.out.mono ?_; rintro e W2 ⟨rfl, f2⟩; have F2 := hid f2; clear f2))
  obtain ⟨n0, n1⟩ := CC.out _ F2.out
  have z0 : W2.cell? ⟨w.heap.size, 0, none⟩ = some (.int .u64 0) := by rw [blk_cell n0]; rfl
  have z1 : W2.cell? ⟨w.heap.size, 1, none⟩ = some (.int .u64 0) := by rw [blk_cell n0]; rfl
  have y0 : W2.cell? ⟨w.heap.size + 1, 0, none⟩ = some (.int .u64 0) := by rw [blk_cell n1]; rfl
  have y1 : W2.cell? ⟨w.heap.size + 1, 1, none⟩ = some (.int .u64 0) := by rw [blk_cell n1]; rfl
  clear n0 n1
  go_region_with (first
    | (go_at_call 60; have zz := F3.out; clear zz; refine (PCS.out W3 F3.out).2.mono ?_; rintro e W4 ⟨rfl, f4⟩; have F4 := hid (F3.out.trans f4); obtain ⟨n0, n1⟩ := CC.out _ F4.out; have z0 := (show W4.cell? ⟨w.heap.size, 0, none⟩ = some (.int .u64 0) from (by rw [blk_cell n0]; rfl)); have z1 := (show W4.cell? ⟨w.heap.size, 1, none⟩ = some (.int .u64 0) from (by rw [blk_cell n0]; rfl)); have y0 := (show W4.cell? ⟨w.heap.size + 1, 0, none⟩ = some (.int .u64 0) from (by rw [blk_cell n1]; rfl)); have y1 := (show W4.cell? ⟨w.heap.size + 1, 1, none⟩ = some (.int .u64 0) from (by rw [blk_cell n1]; rfl)); have zf := blk_frozen n0; have yf := blk_frozen n1; have HN0 := hid n0; have HN1 := hid n1; clear n0 n1 f4)
    | (go_at_call 60; refine (PCS.out W2.drew (F2.out.trans (Fr.refl _ _).drew)).1.mono ?_; rintro e W3 ⟨rfl, f3⟩; have F3 := hid ((F2.out.trans (Fr.refl [] W2).drew).trans f3); clear f3))
  obtain ⟨W5, hW5⟩ : ∃ W5, W5 = (((W4.setCell ⟨w.heap.size, 0, none⟩ (.int .u64 (fa : Int))).setCell ⟨w.heap.size, 1, none⟩ (.int .u64 (fs : Int))).setCell ⟨w.heap.size + 1, 0, none⟩ (.int .u64 (ia : Int))).setCell ⟨w.heap.size + 1, 1, none⟩ (.int .u64 (is : Int)) := ⟨_, rfl⟩
  have S5 : Hid (W5.heap[w.heap.size]? = some (.cells #[.int .u64 (fa : Int), .int .u64 (fs : Int)] 52 (0, 0)) ∧ W5.heap[w.heap.size + 1]? = some (.cells #[.int .u64 (ia : Int), .int .u64 (is : Int)] 52 (0, 0))) := hid (by rw [hW5]; exact set4 HN0.out HN1.out (by omega))
  have F5 : Hid (Fr [] w W5) := hid (by rw [hW5]; exact fr4 (F1.out.trans F4.out) (Nat.le_refl _) (by omega))
  rw [← hW5]
  clear hW5 z0 z1 y0 y1 zf yf CC PCS SF US HO hcv HN0 HN1
  have CW : Hid (∀ W, Fr [] W5 W → W.heap[w.heap.size]? = some (.cells #[.int .u64 (fa : Int), .int .u64 (fs : Int)] 52 (0, 0)) ∧ W.heap[w.heap.size + 1]? = some (.cells #[.int .u64 (ia : Int), .int .u64 (is : Int)] 52 (0, 0))) := hid (fun W f => ⟨f.at S5.out.1 (by simp), f.at S5.out.2 (by simp)⟩)
  obtain ⟨n0, n1⟩ := S5.out
  have z0 := (show W5.cell? ⟨w.heap.size, 0, none⟩ = some (.int .u64 (fa : Int)) from (by rw [blk_cell n0]; rfl))
  have z1 := (show W5.cell? ⟨w.heap.size, 1, none⟩ = some (.int .u64 (fs : Int)) from (by rw [blk_cell n0]; rfl))
  have y0 := (show W5.cell? ⟨w.heap.size + 1, 0, none⟩ = some (.int .u64 (ia : Int)) from (by rw [blk_cell n1]; rfl))
  have y1 := (show W5.cell? ⟨w.heap.size + 1, 1, none⟩ = some (.int .u64 (is : Int)) from (by rw [blk_cell n1]; rfl))
  have zf := blk_frozen n0
  have yf := blk_frozen n1
  clear n0 n1
  go_wp2_with (first
    | (go_at_call 61; have zz := F6.out; clear zz; refine (RE2.out W6).mono ?_; rintro e W7 ⟨rfl, f7⟩; have F7 := hid (F6.out.trans f7); obtain ⟨n0, n1⟩ := CW.out _ F7.out; have z0 := (show W7.cell? ⟨w.heap.size, 0, none⟩ = some (.int .u64 (fa : Int)) from (by rw [blk_cell n0]; rfl)); have z1 := (show W7.cell? ⟨w.heap.size, 1, none⟩ = some (.int .u64 (fs : Int)) from (by rw [blk_cell n0]; rfl)); have y0 := (show W7.cell? ⟨w.heap.size + 1, 0, none⟩ = some (.int .u64 (ia : Int)) from (by rw [blk_cell n1]; rfl)); have y1 := (show W7.cell? ⟨w.heap.size + 1, 1, none⟩ = some (.int .u64 (is : Int)) from (by rw [blk_cell n1]; rfl)); have zf := blk_frozen n0; have yf := blk_frozen n1; have HN0 := hid n0; have HN1 := hid n1; clear n0 n1 f7)
    | (go_at_call 61; refine (RE1.out W5).mono ?_; rintro e W6 ⟨rfl, f6⟩; have F6 := hid f6; obtain ⟨n0, n1⟩ := CW.out _ f6; have z0 := (show W6.cell? ⟨w.heap.size, 0, none⟩ = some (.int .u64 (fa : Int)) from (by rw [blk_cell n0]; rfl)); have z1 := (show W6.cell? ⟨w.heap.size, 1, none⟩ = some (.int .u64 (fs : Int)) from (by rw [blk_cell n0]; rfl)); have y0 := (show W6.cell? ⟨w.heap.size + 1, 0, none⟩ = some (.int .u64 (ia : Int)) from (by rw [blk_cell n1]; rfl)); have y1 := (show W6.cell? ⟨w.heap.size + 1, 1, none⟩ = some (.int .u64 (is : Int)) from (by rw [blk_cell n1]; rfl)); have zf := blk_frozen n0; have yf := blk_frozen n1; have HM0 := hid n0; have HM1 := hid n1; clear n0 n1 f6))
  have S8 := set4 (a := .int .u64 0) (b := .int .u64 0) (c := .int .u64 0) (d := .int .u64 0) HN0.out HN1.out (by omega)
  refine bodyPost_ret (ret_cct rfl (g := w.heap.size) (g' := w.heap.size + 1) (by simp) (load_pc S8.1) (by simp) (load_pc S8.2)) rfl ?_
  exact ⟨rfl, fr4 (F5.out.trans F7.out) (Nat.le_refl _) (by omega)⟩
end Go.Proofs.YtnnookkcnmgbfaaGreat
