/-
  Pack, walked.
-/
import Derived.Test.YtmpfnglcmaollaaDoorJ06
import Derived.Test.YtmpfnglcmaollaaDoorJ07
namespace Go.Proofs.YtmpfnglcmaollaaDoor
open Go.ChangeShapes Go.WideShapes Go.ChangeAt Go.RowKit

theorem or_nib {x y : Nat} (hx : x < 16) (hy : y < 16) : bits .or .u8 ((16 * x : Nat) : Int) (y : Int) = ((16 * x + y : Nat) : Int) := by
  rw [u8_or_nat _ _ (by omega) (by omega), nat_join 4 (16 * x) y (by omega) (by omega)]
theorem bv_setT (l : List Nat) (i x : Nat) : (bv l).set i (.int .u8 (x : Int)) = bv (l.set i x) := by unfold bv; rw [List.map_set]
theorem new_atT (w : World) (o : Obj) {k : Nat} (h : k = w.heap.size) : (w.alloc o).heap[k]? = some o := by rw [h]; exact blk_new _ _
theorem Fr.newerT {a b c : World} {p : Nat} (h : Fr [] a b) (k : Fr [p] b c) (hp : a.heap.size ≤ p) : Fr [] a c :=
  ⟨k.os.trans h.os, k.tape.trans h.tape, k.output.trans h.output, Nat.le_trans h.size k.size, fun j hj _ => (k.block j (Nat.lt_of_lt_of_le hj h.size) (fun hm => by simp at hm; omega)).trans (h.block j hj (by simp))⟩
theorem nonib_c (w : World) (x : Nat) : Calls Tryd.prog 52 #[.int .u8 (x : Int)] w fun e w' => e = .returned (.bool (decide (15 < x))) ∧ w' = w := by
  by_cases h : 15 < x
  · have h' : (15 : Int) < (x : Int) := by omega
    go_enter Tryd.func52, Tryd.ntmps52
    go_wp2
    go_ret
    exact ⟨by rw [decide_eq_true h]; rfl, rfl⟩
  · have h' : ¬ (15 : Int) < (x : Int) := by omega
    go_enter Tryd.func52, Tryd.ntmps52
    go_wp2
    go_ret
    exact ⟨by first | rfl | (rw [decide_eq_false h]; rfl), rfl⟩
def anyBad (p : List Nat) : Bool := p.any fun x => decide (15 < x)
theorem anyBad_take {p : List Nat} {i x : Nat} (h : p[i]? = some x) : anyBad (p.take (i + 1)) = (anyBad (p.take i) || decide (15 < x)) := by
  obtain ⟨hl, he⟩ := List.getElem?_eq_some_iff.1 h
  unfold anyBad
  rw [List.take_succ_eq_append_getElem hl, he, List.any_append]
  simp
theorem anyBad_at {p : List Nat} {i x : Nat} (h : p[i]? = some x) (hx : 15 < x) : anyBad p = true := by
  unfold anyBad
  rw [List.any_eq_true]
  exact ⟨x, List.mem_of_getElem? h, by simp [hx]⟩
theorem okP_any (p : List Nat) : okP p = (decide (p.length ≤ 128) && !anyBad p) := by
  unfold okP anyBad
  congr 1
  rw [Bool.eq_iff_iff]
  simp only [List.all_eq_true, Bool.not_eq_true', List.any_eq_false, decide_eq_true_eq]
  exact ⟨fun h x hx => by have := h x hx; omega, fun h x hx => by have := h x hx; omega⟩
set_option maxRecDepth 20000 in
set_option maxHeartbeats 1600000 in
theorem indexP_c (w : World) {v : Value} {p : List Nat} (hr : Rd w v (bv p)) (hl : p.length ≤ 100000) :
    Calls Tryd.prog 71 #[v, .func (.func 52) #[] #[]] w fun e w' => (∃ r : Int, e = .returned (.int .i64 r) ∧ (0 ≤ r ↔ anyBad p = true)) ∧ w' = w := by
  obtain ⟨a, c, hv⟩ := hr.form
  rw [bv_len] at hv
  subst hv
  have HR := hid hr
  obtain ⟨n, hn⟩ : ∃ n, n = p.length := ⟨_, rfl⟩
  have HN := hid hn
  rw [← hn] at hl HR ⊢
  clear hr hn
  go_enter Tryd.func71, Tryd.ntmps71
  go_wp2_with fail
  go_loopw [8] (fun v8 wr => ∃ (i : Nat), i ≤ n ∧ v8 = .int .i64 (i : Int) ∧ anyBad (p.take i) = false ∧ wr = w) (fun v8 _ => n - (intOf v8).toNat)
  case atStart => exact ⟨0, Nat.zero_le _, rfl, rfl, rfl⟩
  case round =>
    obtain ⟨i, hi, rfl, ha, hw⟩ := hrel
    have hw' := hw.symm
    clear hw
    subst hw'
    have HA := hid ha
    clear ha
    by_cases hlt : i < n
    · have hlt' : (i : Int) < (n : Int) := by omega
      obtain ⟨x, hx⟩ : ∃ x, p[i]? = some x := ⟨_, List.getElem?_eq_getElem (by rw [← HN.out]; exact hlt)⟩
      rcases HR.out.split with ⟨h0, _⟩ | ⟨q, o, c2, e, hc2, h0, hc⟩
      · rw [h0] at hx; simp at hx
      simp only [Value.slice.injEq] at e
      obtain ⟨rfl, e2, rfl⟩ := e
      have z := hc i x hx
      have NT := hid (anyBad_take hx)
      have NC := hid (nonib_c w x)
      have HX := hid hx
      clear e2 hc hx
      by_cases hb : 15 < x
      · rw [decide_eq_true hb] at NC
        have HB := hid hb
        clear hb
        go_wp2_with (go_at_call 52; refine NC.out.mono ?_; rintro e w2 ⟨rfl, h⟩; rw [h]; clear h)
        go_ret
        exact ⟨⟨_, rfl, ⟨fun _ => anyBad_at HX.out HB.out, fun _ => by omega⟩⟩, rfl⟩
      · rw [decide_eq_false hb] at NC
        have N2 : Hid (anyBad (p.take (i + 1)) = false) := hid (by rw [NT.out, HA.out]; simp [hb])
        clear hb
        go_wp2_with (go_at_call 52; refine NC.out.mono ?_; rintro e w2 ⟨rfl, h⟩; rw [h]; clear h)
        go_roundw
        case rel => exact ⟨i + 1, by omega, by go_num, N2.out, by simp⟩
        case measure => simp [intOf]; omega
    · have hie : i = n := by omega
      have hlt' : ¬ (i : Int) < (n : Int) := by omega
      have TK : Hid (anyBad p = false) := hid (by have h1 := HA.out; rwa [List.take_of_length_le (by rw [← HN.out]; omega)] at h1)
      clear hie
      go_wp2
      go_ret
      exact ⟨⟨_, rfl, ⟨fun h => by omega, fun h => by rw [TK.out] at h; cases h⟩⟩, rfl⟩
set_option maxRecDepth 20000 in
set_option maxHeartbeats 1600000 in
theorem containsP_c (w : World) {v : Value} {p : List Nat} (hr : Rd w v (bv p)) (hl : p.length ≤ 100000) :
    Calls Tryd.prog 53 #[v, .func (.func 52) #[] #[]] w fun e w' => e = .returned (.bool (anyBad p)) ∧ w' = w := by
  obtain ⟨a, c, hv⟩ := hr.form
  rw [bv_len] at hv
  subst hv
  have IC := hid (indexP_c w hr hl)
  obtain ⟨n, hn⟩ : ∃ n, n = p.length := ⟨_, rfl⟩
  rw [← hn] at IC ⊢
  clear hr hn
  rcases hA : anyBad p with _ | _
  · rw [hA] at IC
    go_enter Tryd.func53, Tryd.ntmps53
    go_wp2_with (go_at_call 71; refine IC.out.mono ?_; rintro e w2 ⟨⟨r, rfl, hr⟩, h⟩; rw [h]; clear h; have hr0 : ¬ 0 ≤ r := fun h => by { have := hr.1 h; cases this }; clear hr)
    go_ret
    exact ⟨by first | (simp; done) | (simp; omega), rfl⟩
  · rw [hA] at IC
    go_enter Tryd.func53, Tryd.ntmps53
    go_wp2_with (go_at_call 71; refine IC.out.mono ?_; rintro e w2 ⟨⟨r, rfl, hr⟩, h⟩; rw [h]; clear h; have hr0 : 0 ≤ r := hr.2 rfl; clear hr)
    go_ret
    exact ⟨by first | (simp; done) | (simp; omega), rfl⟩
theorem make_h (w : World) (n : Nat) (hn : n ≤ 1000000) : (Instr.makeSlice 33 (.int .i64 (n : Int)) (.int .i64 (n : Int))).run Tryd.prog w = .ok (.slice (some ⟨w.heap.size, 0, none⟩) n n) (w.alloc (.cells (madeCells #[.int .u8 0] n) 5)) := by
  obtain ⟨i0, hi, hz0, hz1, hz2⟩ := info_parts infoB
  have h := run_make (P := Tryd.prog) w 33 5 i0 (.int .u8 0) Tryd.underlying33 hi hz0 .i64 .i64 (n : Int) (n : Int) (by omega) (by omega) (by rw [hz2]; omega) (by omega)
  simpa [hz1, Value.cells] using h
theorem own_h (w : World) (n : Nat) (hn : n ≤ 1000000) : (w.alloc (.cells (madeCells #[.int .u8 0] n) 5)).ownsRow w.heap.size 5 1 (.slice (some ⟨w.heap.size, 0, none⟩) n n) n (bv (List.replicate n 0)) := by
  have h := World.ownsRow_lit (base := w.heap.size) (e := 5) (size := 1) w (madeCells #[.int .u8 0] n) n (Nat.le_refl _) (by unfold maxLen; omega) (by simp [madeCells])
  rw [toList_madeCells_one] at h
  have e : bv (List.replicate n 0) = List.replicate n (.int .u8 0) := by unfold bv; rw [List.map_replicate]; rfl
  rw [e]; exact h
/-- The bytes that are packed, so many of them. -/
def halfF (l : List Nat) (h i : Nat) : List Nat := (prsF l).take i ++ List.replicate (h - i) 0
theorem halfF_len {l : List Nat} {h i : Nat} (hl : l.length / 2 = h) (hi : i ≤ h) : (halfF l h i).length = h := by
  unfold halfF
  rw [List.length_append, List.length_take, prsF_len, List.length_replicate]
  omega
theorem halfF_set {l : List Nat} {h i x y : Nat} (hl : l.length / 2 = h) (hi : i < h) (hx : l[2 * i]? = some x) (hy : l[2 * i + 1]? = some y) : (halfF l h i).set i (16 * x + y) = halfF l h (i + 1) := by
  have hp := prsF_at l i x y hx hy
  obtain ⟨hpl, hpe⟩ := List.getElem?_eq_some_iff.1 hp
  unfold halfF
  have h1 : ((prsF l).take i).length = i := by rw [List.length_take, prsF_len]; omega
  rw [List.set_append_right _ _ (by omega), h1, Nat.sub_self, List.take_succ_eq_append_getElem hpl, hpe, List.append_assoc]
  congr 1
  rw [show h - i = (h - (i + 1)) + 1 by omega, List.replicate_succ]
  rfl
set_option maxRecDepth 20000 in
set_option maxHeartbeats 3200000 in
theorem pack_c (w : World) {v : Value} {p : List Nat} (hr : Rd w v (bv p)) (hb : By p) (leaf : Bool) (hl : p.length ≤ 100000) :
    Calls Tryd.prog 20 #[v, .bool leaf] w fun e w' => ((okP p = true ∧ ∃ v', e = .returned (.tuple #[v', .int .i64 0]) ∧ w'.ownsRow w.heap.size 5 1 v' (packF p leaf).length (bv (packF p leaf))) ∨ (okP p = false ∧ e = .returned (.tuple #[.slice none 0 0, .int .i64 140]))) ∧ Fr [] w w' := by
  obtain ⟨a, c, hv⟩ := hr.form
  rw [bv_len] at hv
  subst hv
  have HR := hid hr
  have HB := hid hb
  have CP := hid (containsP_c w hr hl)
  obtain ⟨n, hn⟩ : ∃ n, n = p.length := ⟨_, rfl⟩
  have HN := hid hn
  have OA := hid (okP_any p)
  rw [← hn] at hl HR CP OA ⊢
  clear hr hb hn
  go_enter Tryd.func20, Tryd.ntmps20
  by_cases h128 : n ≤ 128
  · have h128' : ¬ (128 : Int) < (n : Int) := by omega
    rcases hA : anyBad p with _ | _
    · rw [hA] at CP OA
      have OK : Hid (okP p = true) := hid (by rw [OA.out]; simp [h128])
      go_upto_if 19 with (go_at_call 53; refine CP.out.mono ?_; rintro e w2 ⟨rfl, h⟩; rw [h]; clear h)
      rcases leaf with _ | _
      · by_cases hp : n % 2 = 1
        · have hp' : (n : Int) % 2 = 1 := by omega
          have hp2 : (n : Int).tmod 2 = 1 := by rw [Int.tmod_eq_emod_of_nonneg (by omega)]; omega
          have AH : Hid (aheadF p false = [1]) := hid (by unfold aheadF; rw [if_pos (by rw [← HN.out]; exact hp)]; rfl)
          obtain ⟨W1, hW1⟩ : ∃ W, W = ((w.alloc (.cells #[.int .u8 0, .int .u8 0] 5)).alloc (.cells #[.int .u8 1] 5)) := ⟨_, rfl⟩
          have FA : Hid (Fr [] w W1) := hid (by rw [hW1]; exact ((Fr.refl _ _).alloc _).alloc _)
          have BA : Hid (W1.heap[(w.heap.size + 1)]? = some (.cells (bv [1]).toArray 5 (0, 0))) := hid (by rw [hW1]; exact new_atT _ _ (by simp))
          have SB : Hid ((w.heap.size + 1) < W1.heap.size) := hid (blk_lt BA.out)
          clear CP
          go_upto_region 10 with fail
          rw [← hW1]
          clear hW1
          obtain ⟨W2, hW2⟩ : ∃ W, W = W1.alloc (.cells #[.slice (some ⟨(w.heap.size + 1), 0, none⟩) 1 1, .slice a n c] 33) := ⟨_, rfl⟩
          have F12 : Hid (Fr [] W1 W2) := hid (by rw [hW2]; exact (Fr.refl _ _).alloc _)
          have B2 : Hid (W2.heap[W1.heap.size]? = some (.cells #[.slice (some ⟨(w.heap.size + 1), 0, none⟩) 1 1, .slice a n c] 33 (0, 0))) := hid (by rw [hW2]; exact blk_new _ _)
          have RA : Hid (Rd W2 (.slice (some ⟨(w.heap.size + 1), 0, none⟩) 1 1) (bv [1])) := hid (.inr ⟨_, 1, by rw [bv_len]; rfl, Nat.le_refl _, fun j u hj => by
            rw [Addr.add_lit, Nat.zero_add, blk_cell (F12.out.at BA.out (by simp)), ← Array.getElem?_toList]
            exact hj⟩)
          have CC := hid (concat_c (w := W2) W1.heap.size 2 (fun j => if j = 0 then .slice (some ⟨(w.heap.size + 1), 0, none⟩) 1 1 else .slice a n c) (fun j => if j = 0 then [1] else p) (by omega) (by omega) (fun j hj => by
            rw [blk_cell B2.out]
            rcases Nat.lt_or_ge j 1 with h | h
            · rw [show j = 0 by omega]; rfl
            · rw [show j = 1 by omega]; rfl) (fun j hj => by
            rcases Nat.lt_or_ge j 1 with h | h
            · rw [show j = 0 by omega]; exact RA.out
            · rw [show j = 1 by omega]; exact HR.out.fr (FA.out.trans F12.out)) (fun j hj => by
            have hpn := HN.out
            rcases Nat.lt_or_ge j 1 with h | h
            · rw [show j = 0 by omega]; simp [catN]
            · rcases Nat.lt_or_ge j 2 with h | h
              · rw [show j = 1 by omega]; simp [catN]
              · rw [show j = 2 by omega]; simp [catN]; omega))
          have EL : Hid (catN (fun j => if j = 0 then [1] else p) 2 = aheadF p false ++ p) := hid (by rw [AH.out]; simp [catN])
          rw [EL.out] at CC
          obtain ⟨l, hl0⟩ : ∃ l, l = aheadF p false ++ p := ⟨_, rfl⟩
          have HLL := hid hl0
          rw [← hl0] at CC
          have LNB : Hid (Nb l) := hid (by
            rw [hl0]
            intro x hx
            rcases List.mem_append.1 hx with hx | hx
            · exact ahead_nb p _ x hx
            · exact okP_nb OK.out x hx)
          have LL2 := (ahead_len p false).1
          rw [← hl0] at LL2
          have LLE : l.length ≤ 130 := by rw [hl0, List.length_append]; have := (ahead_len p false).2.1; have := HN.out; omega
          clear hl0 AH EL
          obtain ⟨L, hL⟩ : ∃ L, L = l.length := ⟨_, rfl⟩
          have HL := hid hL
          rw [← hL] at CC LL2 LLE
          obtain ⟨h, hh⟩ : ∃ h, h = L / 2 := ⟨_, rfl⟩
          have hd1 : (L : Int) / 2 = (h : Int) := by omega
          have hd2 : (L : Int).tdiv 2 = (h : Int) := by rw [Int.tdiv_eq_ediv_of_nonneg (by omega)]; omega
          have hLh : L = 2 * h := by omega
          have HLH := hid hLh
          clear hL hh hLh
          go_upto_region 11 with (rw [← hW2]; go_at_call 54; refine CC.out.mono ?_; rintro e w3 ⟨v3, rfl, o3, f3⟩; obtain ⟨a3, c3, rfl, _⟩ := ownsRow_slice o3; have O3 := hid o3; have F3 := hid ((FA.out.trans F12.out).trans f3); clear o3 f3)
          have hmk := make_h w3 h (by omega)
          have OM := hid (own_h w3 h (by omega))
          have F4 := hid (F3.out.alloc (.cells (madeCells #[.int .u8 0] h) 5))
          have RL := hid ((Rd.ownN O3.out HL.out).fr ((Fr.refl [] w3).alloc (.cells (madeCells #[.int .u8 0] h) 5)))
          have B3 : Hid (w.heap.size ≤ w3.heap.size) := hid F3.out.size
          clear hW2 CC
          go_wp2_with fail
          go_loopw [40] (fun v40 wr => ∃ (i : Nat), i ≤ h ∧ v40 = .int .i64 (i : Int) ∧ wr.ownsRow w3.heap.size 5 1 (.slice (some ⟨w3.heap.size, 0, none⟩) h h) h (bv (halfF l h i)) ∧ Fr [w3.heap.size] (w3.alloc (.cells (madeCells #[.int .u8 0] h) 5)) wr) (fun v40 _ => h - (intOf v40).toNat)
          case atStart => exact ⟨0, Nat.zero_le _, rfl, by unfold halfF; rw [List.take_zero, List.nil_append, Nat.sub_zero]; exact OM.out, Fr.refl _ _⟩
          case round =>
            obtain ⟨i, hi, rfl, ho, hf⟩ := hrel
            have HO := hid ho
            have HF := hid hf
            clear ho hf
            by_cases hlt : i < h
            · have hlt' : (i : Int) < (h : Int) := by omega
              obtain ⟨j2, hj2⟩ : ∃ j, j = 2 * i := ⟨_, rfl⟩
              obtain ⟨j3, hj3⟩ : ∃ j, j = 2 * i + 1 := ⟨_, rfl⟩
              obtain ⟨x, hx⟩ : ∃ x, l[j2]? = some x := ⟨_, List.getElem?_eq_getElem (by rw [← HL.out, HLH.out]; omega)⟩
              obtain ⟨y, hy⟩ : ∃ x, l[j3]? = some x := ⟨_, List.getElem?_eq_getElem (by rw [← HL.out, HLH.out]; omega)⟩
              have hx16 : x < 16 := LNB.out x (List.mem_of_getElem? hx)
              have hy16 : y < 16 := LNB.out y (List.mem_of_getElem? hy)
              have FW3 : Hid (∀ W, Fr [w3.heap.size] (w3.alloc (.cells (madeCells #[.int .u8 0] h) 5)) W → Fr [] w3 W) := hid (fun W f => ((Fr.refl [] w3).alloc _).newerT f (Nat.le_refl _))
              have SET := hid (halfF_set (h := h) (by rw [← HL.out, HLH.out]; omega) hlt (by rw [← hj2]; exact hx) (by rw [← hj3]; exact hy))
              have ST := hid ((ownsRow_fr HO.out ((Fr.refl [] wr).drew)).stored i (.int .u8 ((16 * x + y : Nat) : Int))).1
              rw [bv_setT, SET.out] at ST
              rcases (Rd.ownN O3.out HL.out).split with ⟨h0, _⟩ | ⟨q3, o3, c3', e, hc3, h0, hc⟩
              · rw [h0] at hx; simp at hx
              simp only [Value.slice.injEq] at e
              obtain ⟨rfl, e2, rfl⟩ := e
              have SK : Hid (∀ wx, Fr [] w3 wx → wx.cell? ⟨q3, o3 + j2, none⟩ = some (.int .u8 (x : Int)) ∧ wx.cell? ⟨q3, o3 + j3, none⟩ = some (.int .u8 (y : Int))) := hid (fun wx f => ⟨cell_fr (hc j2 x hx) f, cell_fr (hc j3 y hy) f⟩)
              have e2i : 2 * (i : Int) = (j2 : Int) := by omega
              have e3i : (j2 : Int) + 1 = (j3 : Int) := by omega
              have hj2L : (j2 : Int) < (L : Int) := by have := HLH.out; omega
              have hj3L : (j3 : Int) < (L : Int) := by have := HLH.out; omega
              have wj2 : IntKind.i64.wrap (j2 : Int) = (j2 : Int) := by rw [IntKind.wrap_i64]; omega
              have wj3 : IntKind.i64.wrap (j3 : Int) = (j3 : Int) := by rw [IntKind.wrap_i64]; omega
              have bO := or_nib hx16 hy16
              obtain ⟨X, hX⟩ : ∃ X, X = 16 * x := ⟨_, rfl⟩
              obtain ⟨Z, hZ⟩ : ∃ Z, Z = 16 * x + y := ⟨_, rfl⟩
              rw [← hX] at bO hZ
              rw [← hZ] at bO
              rw [show 16 * x + y = Z by omega] at ST
              have wX : IntKind.u8.wrap ((x : Int) * 16) = (X : Int) := by rw [IntKind.wrap_u8]; omega
              clear hx hy hc e2 SET hj2 hj3 hX hZ
              go_upto_region 15 with fail
              refine wp_region_held_drew (S := fun wx => wx.cell? ⟨q3, o3 + j2, none⟩ = some (.int .u8 (x : Int)) ∧ wx.cell? ⟨q3, o3 + j3, none⟩ = some (.int .u8 (y : Int))) (by kernel_rfl) (SK.out _ (FW3.out _ HF.out).drew) (fun hS => ?_)
              refine wpAnyH_take (i := 0) (v := (.slice (some ⟨w3.heap.size, 0, none⟩) h h)) rfl (by kernel_rfl) (by kernel_rfl) (by kernel_rfl) (fun _ _ _ h => h) (.inl ⟨by rfl, fun wx hX => by go_simp⟩) hS ?_
              simp only [Act.put]
              refine wpAnyH_take (i := 1) (v := (.int .i64 (i : Int))) rfl (by kernel_rfl) (by kernel_rfl) (by kernel_rfl) (fun _ _ _ h => h) (.inl ⟨by rfl, fun wx hX => by go_simp⟩) hS ?_
              simp only [Act.put]
              refine wpAnyH_take (i := 2) (v := (.slice (some ⟨q3, o3, none⟩) L c3)) rfl (by kernel_rfl) (by kernel_rfl) (by kernel_rfl) (fun _ _ _ h => h) (.inl ⟨by rfl, fun wx hX => by go_simp⟩) hS ?_
              simp only [Act.put]
              refine wpAnyH_take (i := 3) (v := (.int .i64 (i : Int))) rfl (by kernel_rfl) (by kernel_rfl) (by kernel_rfl) (fun _ _ _ h => h) (.inl ⟨by rfl, fun wx hX => by go_simp⟩) hS ?_
              simp only [Act.put]
              refine wpAnyH_take (i := 4) (v := (.int .i64 (j2 : Int))) rfl (by kernel_rfl) (by kernel_rfl) (by kernel_rfl) (fun _ _ _ h => h) (.inl ⟨by rfl, fun wx hX => by go_simp⟩) hS ?_
              simp only [Act.put]
              refine wpAnyH_take (i := 5) (v := (.pointer (some ⟨q3, o3 + j2, none⟩))) rfl (by kernel_rfl) (by kernel_rfl) (by kernel_rfl) (fun _ _ _ h => h) (.inl ⟨by rfl, fun wx hX => by go_simp⟩) hS ?_
              simp only [Act.put]
              refine wpAnyH_take (i := 6) (v := (.int .u8 (x : Int))) rfl (by kernel_rfl) (by kernel_rfl) (by kernel_rfl) (fun _ _ _ h => h) (.inl ⟨by rfl, fun wx hX => by obtain ⟨q0, q1⟩ := hX; go_simp⟩) hS ?_
              simp only [Act.put]
              refine wpAnyH_take (i := 7) (v := (.int .u8 (X : Int))) rfl (by kernel_rfl) (by kernel_rfl) (by kernel_rfl) (fun _ _ _ h => h) (.inl ⟨by rfl, fun wx hX => by go_simp⟩) hS ?_
              simp only [Act.put]
              refine wpAnyH_take (i := 8) (v := (.slice (some ⟨q3, o3, none⟩) L c3)) rfl (by kernel_rfl) (by kernel_rfl) (by kernel_rfl) (fun _ _ _ h => h) (.inl ⟨by rfl, fun wx hX => by go_simp⟩) hS ?_
              simp only [Act.put]
              refine wpAnyH_take (i := 9) (v := (.int .i64 (i : Int))) rfl (by kernel_rfl) (by kernel_rfl) (by kernel_rfl) (fun _ _ _ h => h) (.inl ⟨by rfl, fun wx hX => by go_simp⟩) hS ?_
              simp only [Act.put]
              refine wpAnyH_take (i := 10) (v := (.int .i64 (j2 : Int))) rfl (by kernel_rfl) (by kernel_rfl) (by kernel_rfl) (fun _ _ _ h => h) (.inl ⟨by rfl, fun wx hX => by go_simp⟩) hS ?_
              simp only [Act.put]
              refine wpAnyH_take (i := 11) (v := (.int .i64 (j3 : Int))) rfl (by kernel_rfl) (by kernel_rfl) (by kernel_rfl) (fun _ _ _ h => h) (.inl ⟨by rfl, fun wx hX => by go_simp⟩) hS ?_
              simp only [Act.put]
              refine wpAnyH_take (i := 12) (v := (.pointer (some ⟨q3, o3 + j3, none⟩))) rfl (by kernel_rfl) (by kernel_rfl) (by kernel_rfl) (fun _ _ _ h => h) (.inl ⟨by rfl, fun wx hX => by go_simp⟩) hS ?_
              simp only [Act.put]
              refine wpAnyH_take (i := 13) (v := (.int .u8 (y : Int))) rfl (by kernel_rfl) (by kernel_rfl) (by kernel_rfl) (fun _ _ _ h => h) (.inl ⟨by rfl, fun wx hX => by obtain ⟨q0, q1⟩ := hX; go_simp⟩) hS ?_
              simp only [Act.put]
              refine wpAnyH_take (i := 14) (v := (.int .u8 (Z : Int))) rfl (by kernel_rfl) (by kernel_rfl) (by kernel_rfl) (fun _ _ _ h => h) (.inl ⟨by rfl, fun wx hX => by go_simp⟩) hS ?_
              simp only [Act.put]
              clear hS
              have F9 : Hid (Fr [w3.heap.size] (w3.alloc (.cells (madeCells #[.int .u8 0] h) 5)) (wr.drew.setCell ⟨w3.heap.size, i, none⟩ (.int .u8 (Z : Int)))) := hid (HF.out.drew.set i _ (.inl (List.mem_singleton.2 rfl)))
              refine wpAnyH_ready (rs := [15]) (by kernel_rfl) (by simp) ?_
              refine AllReadyH.cons rfl (fun K hK => ?_) AllReadyH.nil
              go_simp
              refine hK.out _ _ (SK.out _ (FW3.out _ HF.out).drew) (fun hS => ?_)
              clear hK K
              refine wpAnyH_ready (rs := [16]) (by kernel_rfl) (by simp) ?_
              refine AllReadyH.cons rfl (fun K hK => ?_) AllReadyH.nil
              obtain ⟨zz, hzz⟩ : ∃ z, (halfF l h i)[i]? = some z := ⟨_, List.getElem?_eq_getElem (by rw [halfF_len (by rw [← HL.out, HLH.out]; omega) hi]; exact hlt)⟩
              have q1 := HO.out.cells (g := w3.heap.size) rfl i _ (bv_at hzz)
              rw [Addr.add_lit, Nat.zero_add] at q1
              have q2 : wr.frozen? ⟨w3.heap.size, i, none⟩ = false := by
                rcases HO.out.2 with ⟨e, _⟩ | ⟨g, cap, cur, e, _, h3, _⟩
                · cases e
                · simp only [Value.slice.injEq, Option.some.injEq, Addr.mk.injEq, and_true] at e
                  obtain ⟨rfl, _⟩ := e
                  exact blk_frozen h3 i
              clear hzz
              go_simp
              refine hK.out _ _ (SK.out _ (FW3.out _ F9.out)) (fun hS => ?_)
              clear hK K q1 q2
              refine wpAnyH_done (by kernel_rfl) ?_ _
              go_wp2
              go_roundw
              case rel => exact ⟨i + 1, by omega, by go_num, ST.out, F9.out⟩
              case measure => simp [intOf]; omega
            · have hie : i = h := by omega
              have hlt' : ¬ (i : Int) < (h : Int) := by omega
              have PK : Hid (halfF l h h = packF p false) := hid (by
                unfold halfF packF
                rw [Nat.sub_self, List.replicate_zero, List.append_nil, List.take_of_length_le (by rw [prsF_len, ← HL.out, HLH.out]; omega), HLL.out])
              rw [hie, PK.out] at HO
              have PL : Hid (h = (packF p false).length) := hid (by rw [← PK.out, halfF_len (by rw [← HL.out, HLH.out]; omega) (Nat.le_refl _)])
              have FE : Hid (Fr [] w wr) := hid (F4.out.newerT HF.out B3.out)
              clear hie
              go_wp2
              go_ret2
              exact ⟨.inl ⟨OK.out, _, rfl, by rw [← PL.out]; exact ownsRow_base HO.out B3.out⟩, FE.out⟩
        · have hp' : (n : Int) % 2 = 0 := by omega
          have hp2 : (n : Int).tmod 2 = 0 := by rw [Int.tmod_eq_emod_of_nonneg (by omega)]; omega
          have AH : Hid (aheadF p false = [0, 0]) := hid (by unfold aheadF; rw [if_neg (by rw [← HN.out]; exact hp)]; rfl)
          obtain ⟨W1, hW1⟩ : ∃ W, W = (w.alloc (.cells #[.int .u8 0, .int .u8 0] 5)) := ⟨_, rfl⟩
          have FA : Hid (Fr [] w W1) := hid (by rw [hW1]; exact (Fr.refl _ _).alloc _)
          have BA : Hid (W1.heap[w.heap.size]? = some (.cells (bv [0, 0]).toArray 5 (0, 0))) := hid (by rw [hW1]; exact blk_new _ _)
          have SB : Hid (w.heap.size < W1.heap.size) := hid (blk_lt BA.out)
          clear CP
          go_upto_region 10 with fail
          rw [← hW1]
          clear hW1
          obtain ⟨W2, hW2⟩ : ∃ W, W = W1.alloc (.cells #[.slice (some ⟨w.heap.size, 0, none⟩) 2 2, .slice a n c] 33) := ⟨_, rfl⟩
          have F12 : Hid (Fr [] W1 W2) := hid (by rw [hW2]; exact (Fr.refl _ _).alloc _)
          have B2 : Hid (W2.heap[W1.heap.size]? = some (.cells #[.slice (some ⟨w.heap.size, 0, none⟩) 2 2, .slice a n c] 33 (0, 0))) := hid (by rw [hW2]; exact blk_new _ _)
          have RA : Hid (Rd W2 (.slice (some ⟨w.heap.size, 0, none⟩) 2 2) (bv [0, 0])) := hid (.inr ⟨_, 2, by rw [bv_len]; rfl, Nat.le_refl _, fun j u hj => by
            rw [Addr.add_lit, Nat.zero_add, blk_cell (F12.out.at BA.out (by simp)), ← Array.getElem?_toList]
            exact hj⟩)
          have CC := hid (concat_c (w := W2) W1.heap.size 2 (fun j => if j = 0 then .slice (some ⟨w.heap.size, 0, none⟩) 2 2 else .slice a n c) (fun j => if j = 0 then [0, 0] else p) (by omega) (by omega) (fun j hj => by
            rw [blk_cell B2.out]
            rcases Nat.lt_or_ge j 1 with h | h
            · rw [show j = 0 by omega]; rfl
            · rw [show j = 1 by omega]; rfl) (fun j hj => by
            rcases Nat.lt_or_ge j 1 with h | h
            · rw [show j = 0 by omega]; exact RA.out
            · rw [show j = 1 by omega]; exact HR.out.fr (FA.out.trans F12.out)) (fun j hj => by
            have hpn := HN.out
            rcases Nat.lt_or_ge j 1 with h | h
            · rw [show j = 0 by omega]; simp [catN]
            · rcases Nat.lt_or_ge j 2 with h | h
              · rw [show j = 1 by omega]; simp [catN]
              · rw [show j = 2 by omega]; simp [catN]; omega))
          have EL : Hid (catN (fun j => if j = 0 then [0, 0] else p) 2 = aheadF p false ++ p) := hid (by rw [AH.out]; simp [catN])
          rw [EL.out] at CC
          obtain ⟨l, hl0⟩ : ∃ l, l = aheadF p false ++ p := ⟨_, rfl⟩
          have HLL := hid hl0
          rw [← hl0] at CC
          have LNB : Hid (Nb l) := hid (by
            rw [hl0]
            intro x hx
            rcases List.mem_append.1 hx with hx | hx
            · exact ahead_nb p _ x hx
            · exact okP_nb OK.out x hx)
          have LL2 := (ahead_len p false).1
          rw [← hl0] at LL2
          have LLE : l.length ≤ 130 := by rw [hl0, List.length_append]; have := (ahead_len p false).2.1; have := HN.out; omega
          clear hl0 AH EL
          obtain ⟨L, hL⟩ : ∃ L, L = l.length := ⟨_, rfl⟩
          have HL := hid hL
          rw [← hL] at CC LL2 LLE
          obtain ⟨h, hh⟩ : ∃ h, h = L / 2 := ⟨_, rfl⟩
          have hd1 : (L : Int) / 2 = (h : Int) := by omega
          have hd2 : (L : Int).tdiv 2 = (h : Int) := by rw [Int.tdiv_eq_ediv_of_nonneg (by omega)]; omega
          have hLh : L = 2 * h := by omega
          have HLH := hid hLh
          clear hL hh hLh
          go_upto_region 11 with (rw [← hW2]; go_at_call 54; refine CC.out.mono ?_; rintro e w3 ⟨v3, rfl, o3, f3⟩; obtain ⟨a3, c3, rfl, _⟩ := ownsRow_slice o3; have O3 := hid o3; have F3 := hid ((FA.out.trans F12.out).trans f3); clear o3 f3)
          have hmk := make_h w3 h (by omega)
          have OM := hid (own_h w3 h (by omega))
          have F4 := hid (F3.out.alloc (.cells (madeCells #[.int .u8 0] h) 5))
          have RL := hid ((Rd.ownN O3.out HL.out).fr ((Fr.refl [] w3).alloc (.cells (madeCells #[.int .u8 0] h) 5)))
          have B3 : Hid (w.heap.size ≤ w3.heap.size) := hid F3.out.size
          clear hW2 CC
          go_wp2_with fail
          go_loopw [40] (fun v40 wr => ∃ (i : Nat), i ≤ h ∧ v40 = .int .i64 (i : Int) ∧ wr.ownsRow w3.heap.size 5 1 (.slice (some ⟨w3.heap.size, 0, none⟩) h h) h (bv (halfF l h i)) ∧ Fr [w3.heap.size] (w3.alloc (.cells (madeCells #[.int .u8 0] h) 5)) wr) (fun v40 _ => h - (intOf v40).toNat)
          case atStart => exact ⟨0, Nat.zero_le _, rfl, by unfold halfF; rw [List.take_zero, List.nil_append, Nat.sub_zero]; exact OM.out, Fr.refl _ _⟩
          case round =>
            obtain ⟨i, hi, rfl, ho, hf⟩ := hrel
            have HO := hid ho
            have HF := hid hf
            clear ho hf
            by_cases hlt : i < h
            · have hlt' : (i : Int) < (h : Int) := by omega
              obtain ⟨j2, hj2⟩ : ∃ j, j = 2 * i := ⟨_, rfl⟩
              obtain ⟨j3, hj3⟩ : ∃ j, j = 2 * i + 1 := ⟨_, rfl⟩
              obtain ⟨x, hx⟩ : ∃ x, l[j2]? = some x := ⟨_, List.getElem?_eq_getElem (by rw [← HL.out, HLH.out]; omega)⟩
              obtain ⟨y, hy⟩ : ∃ x, l[j3]? = some x := ⟨_, List.getElem?_eq_getElem (by rw [← HL.out, HLH.out]; omega)⟩
              have hx16 : x < 16 := LNB.out x (List.mem_of_getElem? hx)
              have hy16 : y < 16 := LNB.out y (List.mem_of_getElem? hy)
              have FW3 : Hid (∀ W, Fr [w3.heap.size] (w3.alloc (.cells (madeCells #[.int .u8 0] h) 5)) W → Fr [] w3 W) := hid (fun W f => ((Fr.refl [] w3).alloc _).newerT f (Nat.le_refl _))
              have SET := hid (halfF_set (h := h) (by rw [← HL.out, HLH.out]; omega) hlt (by rw [← hj2]; exact hx) (by rw [← hj3]; exact hy))
              have ST := hid ((ownsRow_fr HO.out ((Fr.refl [] wr).drew)).stored i (.int .u8 ((16 * x + y : Nat) : Int))).1
              rw [bv_setT, SET.out] at ST
              rcases (Rd.ownN O3.out HL.out).split with ⟨h0, _⟩ | ⟨q3, o3, c3', e, hc3, h0, hc⟩
              · rw [h0] at hx; simp at hx
              simp only [Value.slice.injEq] at e
              obtain ⟨rfl, e2, rfl⟩ := e
              have SK : Hid (∀ wx, Fr [] w3 wx → wx.cell? ⟨q3, o3 + j2, none⟩ = some (.int .u8 (x : Int)) ∧ wx.cell? ⟨q3, o3 + j3, none⟩ = some (.int .u8 (y : Int))) := hid (fun wx f => ⟨cell_fr (hc j2 x hx) f, cell_fr (hc j3 y hy) f⟩)
              have e2i : 2 * (i : Int) = (j2 : Int) := by omega
              have e3i : (j2 : Int) + 1 = (j3 : Int) := by omega
              have hj2L : (j2 : Int) < (L : Int) := by have := HLH.out; omega
              have hj3L : (j3 : Int) < (L : Int) := by have := HLH.out; omega
              have wj2 : IntKind.i64.wrap (j2 : Int) = (j2 : Int) := by rw [IntKind.wrap_i64]; omega
              have wj3 : IntKind.i64.wrap (j3 : Int) = (j3 : Int) := by rw [IntKind.wrap_i64]; omega
              have bO := or_nib hx16 hy16
              obtain ⟨X, hX⟩ : ∃ X, X = 16 * x := ⟨_, rfl⟩
              obtain ⟨Z, hZ⟩ : ∃ Z, Z = 16 * x + y := ⟨_, rfl⟩
              rw [← hX] at bO hZ
              rw [← hZ] at bO
              rw [show 16 * x + y = Z by omega] at ST
              have wX : IntKind.u8.wrap ((x : Int) * 16) = (X : Int) := by rw [IntKind.wrap_u8]; omega
              clear hx hy hc e2 SET hj2 hj3 hX hZ
              go_upto_region 15 with fail
              refine wp_region_held_drew (S := fun wx => wx.cell? ⟨q3, o3 + j2, none⟩ = some (.int .u8 (x : Int)) ∧ wx.cell? ⟨q3, o3 + j3, none⟩ = some (.int .u8 (y : Int))) (by kernel_rfl) (SK.out _ (FW3.out _ HF.out).drew) (fun hS => ?_)
              refine wpAnyH_take (i := 0) (v := (.slice (some ⟨w3.heap.size, 0, none⟩) h h)) rfl (by kernel_rfl) (by kernel_rfl) (by kernel_rfl) (fun _ _ _ h => h) (.inl ⟨by rfl, fun wx hX => by go_simp⟩) hS ?_
              simp only [Act.put]
              refine wpAnyH_take (i := 1) (v := (.int .i64 (i : Int))) rfl (by kernel_rfl) (by kernel_rfl) (by kernel_rfl) (fun _ _ _ h => h) (.inl ⟨by rfl, fun wx hX => by go_simp⟩) hS ?_
              simp only [Act.put]
              refine wpAnyH_take (i := 2) (v := (.slice (some ⟨q3, o3, none⟩) L c3)) rfl (by kernel_rfl) (by kernel_rfl) (by kernel_rfl) (fun _ _ _ h => h) (.inl ⟨by rfl, fun wx hX => by go_simp⟩) hS ?_
              simp only [Act.put]
              refine wpAnyH_take (i := 3) (v := (.int .i64 (i : Int))) rfl (by kernel_rfl) (by kernel_rfl) (by kernel_rfl) (fun _ _ _ h => h) (.inl ⟨by rfl, fun wx hX => by go_simp⟩) hS ?_
              simp only [Act.put]
              refine wpAnyH_take (i := 4) (v := (.int .i64 (j2 : Int))) rfl (by kernel_rfl) (by kernel_rfl) (by kernel_rfl) (fun _ _ _ h => h) (.inl ⟨by rfl, fun wx hX => by go_simp⟩) hS ?_
              simp only [Act.put]
              refine wpAnyH_take (i := 5) (v := (.pointer (some ⟨q3, o3 + j2, none⟩))) rfl (by kernel_rfl) (by kernel_rfl) (by kernel_rfl) (fun _ _ _ h => h) (.inl ⟨by rfl, fun wx hX => by go_simp⟩) hS ?_
              simp only [Act.put]
              refine wpAnyH_take (i := 6) (v := (.int .u8 (x : Int))) rfl (by kernel_rfl) (by kernel_rfl) (by kernel_rfl) (fun _ _ _ h => h) (.inl ⟨by rfl, fun wx hX => by obtain ⟨q0, q1⟩ := hX; go_simp⟩) hS ?_
              simp only [Act.put]
              refine wpAnyH_take (i := 7) (v := (.int .u8 (X : Int))) rfl (by kernel_rfl) (by kernel_rfl) (by kernel_rfl) (fun _ _ _ h => h) (.inl ⟨by rfl, fun wx hX => by go_simp⟩) hS ?_
              simp only [Act.put]
              refine wpAnyH_take (i := 8) (v := (.slice (some ⟨q3, o3, none⟩) L c3)) rfl (by kernel_rfl) (by kernel_rfl) (by kernel_rfl) (fun _ _ _ h => h) (.inl ⟨by rfl, fun wx hX => by go_simp⟩) hS ?_
              simp only [Act.put]
              refine wpAnyH_take (i := 9) (v := (.int .i64 (i : Int))) rfl (by kernel_rfl) (by kernel_rfl) (by kernel_rfl) (fun _ _ _ h => h) (.inl ⟨by rfl, fun wx hX => by go_simp⟩) hS ?_
              simp only [Act.put]
              refine wpAnyH_take (i := 10) (v := (.int .i64 (j2 : Int))) rfl (by kernel_rfl) (by kernel_rfl) (by kernel_rfl) (fun _ _ _ h => h) (.inl ⟨by rfl, fun wx hX => by go_simp⟩) hS ?_
              simp only [Act.put]
              refine wpAnyH_take (i := 11) (v := (.int .i64 (j3 : Int))) rfl (by kernel_rfl) (by kernel_rfl) (by kernel_rfl) (fun _ _ _ h => h) (.inl ⟨by rfl, fun wx hX => by go_simp⟩) hS ?_
              simp only [Act.put]
              refine wpAnyH_take (i := 12) (v := (.pointer (some ⟨q3, o3 + j3, none⟩))) rfl (by kernel_rfl) (by kernel_rfl) (by kernel_rfl) (fun _ _ _ h => h) (.inl ⟨by rfl, fun wx hX => by go_simp⟩) hS ?_
              simp only [Act.put]
              refine wpAnyH_take (i := 13) (v := (.int .u8 (y : Int))) rfl (by kernel_rfl) (by kernel_rfl) (by kernel_rfl) (fun _ _ _ h => h) (.inl ⟨by rfl, fun wx hX => by obtain ⟨q0, q1⟩ := hX; go_simp⟩) hS ?_
              simp only [Act.put]
              refine wpAnyH_take (i := 14) (v := (.int .u8 (Z : Int))) rfl (by kernel_rfl) (by kernel_rfl) (by kernel_rfl) (fun _ _ _ h => h) (.inl ⟨by rfl, fun wx hX => by go_simp⟩) hS ?_
              simp only [Act.put]
              clear hS
              have F9 : Hid (Fr [w3.heap.size] (w3.alloc (.cells (madeCells #[.int .u8 0] h) 5)) (wr.drew.setCell ⟨w3.heap.size, i, none⟩ (.int .u8 (Z : Int)))) := hid (HF.out.drew.set i _ (.inl (List.mem_singleton.2 rfl)))
              refine wpAnyH_ready (rs := [15]) (by kernel_rfl) (by simp) ?_
              refine AllReadyH.cons rfl (fun K hK => ?_) AllReadyH.nil
              go_simp
              refine hK.out _ _ (SK.out _ (FW3.out _ HF.out).drew) (fun hS => ?_)
              clear hK K
              refine wpAnyH_ready (rs := [16]) (by kernel_rfl) (by simp) ?_
              refine AllReadyH.cons rfl (fun K hK => ?_) AllReadyH.nil
              obtain ⟨zz, hzz⟩ : ∃ z, (halfF l h i)[i]? = some z := ⟨_, List.getElem?_eq_getElem (by rw [halfF_len (by rw [← HL.out, HLH.out]; omega) hi]; exact hlt)⟩
              have q1 := HO.out.cells (g := w3.heap.size) rfl i _ (bv_at hzz)
              rw [Addr.add_lit, Nat.zero_add] at q1
              have q2 : wr.frozen? ⟨w3.heap.size, i, none⟩ = false := by
                rcases HO.out.2 with ⟨e, _⟩ | ⟨g, cap, cur, e, _, h3, _⟩
                · cases e
                · simp only [Value.slice.injEq, Option.some.injEq, Addr.mk.injEq, and_true] at e
                  obtain ⟨rfl, _⟩ := e
                  exact blk_frozen h3 i
              clear hzz
              go_simp
              refine hK.out _ _ (SK.out _ (FW3.out _ F9.out)) (fun hS => ?_)
              clear hK K q1 q2
              refine wpAnyH_done (by kernel_rfl) ?_ _
              go_wp2
              go_roundw
              case rel => exact ⟨i + 1, by omega, by go_num, ST.out, F9.out⟩
              case measure => simp [intOf]; omega
            · have hie : i = h := by omega
              have hlt' : ¬ (i : Int) < (h : Int) := by omega
              have PK : Hid (halfF l h h = packF p false) := hid (by
                unfold halfF packF
                rw [Nat.sub_self, List.replicate_zero, List.append_nil, List.take_of_length_le (by rw [prsF_len, ← HL.out, HLH.out]; omega), HLL.out])
              rw [hie, PK.out] at HO
              have PL : Hid (h = (packF p false).length) := hid (by rw [← PK.out, halfF_len (by rw [← HL.out, HLH.out]; omega) (Nat.le_refl _)])
              have FE : Hid (Fr [] w wr) := hid (F4.out.newerT HF.out B3.out)
              clear hie
              go_wp2
              go_ret2
              exact ⟨.inl ⟨OK.out, _, rfl, by rw [← PL.out]; exact ownsRow_base HO.out B3.out⟩, FE.out⟩
      · by_cases hp : n % 2 = 1
        · have hp' : (n : Int) % 2 = 1 := by omega
          have hp2 : (n : Int).tmod 2 = 1 := by rw [Int.tmod_eq_emod_of_nonneg (by omega)]; omega
          have AH : Hid (aheadF p true = [3]) := hid (by unfold aheadF; rw [if_pos (by rw [← HN.out]; exact hp)]; rfl)
          obtain ⟨W1, hW1⟩ : ∃ W, W = ((w.alloc (.cells #[.int .u8 2, .int .u8 0] 5)).alloc (.cells #[.int .u8 3] 5)) := ⟨_, rfl⟩
          have FA : Hid (Fr [] w W1) := hid (by rw [hW1]; exact ((Fr.refl _ _).alloc _).alloc _)
          have BA : Hid (W1.heap[(w.heap.size + 1)]? = some (.cells (bv [3]).toArray 5 (0, 0))) := hid (by rw [hW1]; exact new_atT _ _ (by simp))
          have SB : Hid ((w.heap.size + 1) < W1.heap.size) := hid (blk_lt BA.out)
          clear CP
          go_upto_region 10 with fail
          rw [← hW1]
          clear hW1
          obtain ⟨W2, hW2⟩ : ∃ W, W = W1.alloc (.cells #[.slice (some ⟨(w.heap.size + 1), 0, none⟩) 1 1, .slice a n c] 33) := ⟨_, rfl⟩
          have F12 : Hid (Fr [] W1 W2) := hid (by rw [hW2]; exact (Fr.refl _ _).alloc _)
          have B2 : Hid (W2.heap[W1.heap.size]? = some (.cells #[.slice (some ⟨(w.heap.size + 1), 0, none⟩) 1 1, .slice a n c] 33 (0, 0))) := hid (by rw [hW2]; exact blk_new _ _)
          have RA : Hid (Rd W2 (.slice (some ⟨(w.heap.size + 1), 0, none⟩) 1 1) (bv [3])) := hid (.inr ⟨_, 1, by rw [bv_len]; rfl, Nat.le_refl _, fun j u hj => by
            rw [Addr.add_lit, Nat.zero_add, blk_cell (F12.out.at BA.out (by simp)), ← Array.getElem?_toList]
            exact hj⟩)
          have CC := hid (concat_c (w := W2) W1.heap.size 2 (fun j => if j = 0 then .slice (some ⟨(w.heap.size + 1), 0, none⟩) 1 1 else .slice a n c) (fun j => if j = 0 then [3] else p) (by omega) (by omega) (fun j hj => by
            rw [blk_cell B2.out]
            rcases Nat.lt_or_ge j 1 with h | h
            · rw [show j = 0 by omega]; rfl
            · rw [show j = 1 by omega]; rfl) (fun j hj => by
            rcases Nat.lt_or_ge j 1 with h | h
            · rw [show j = 0 by omega]; exact RA.out
            · rw [show j = 1 by omega]; exact HR.out.fr (FA.out.trans F12.out)) (fun j hj => by
            have hpn := HN.out
            rcases Nat.lt_or_ge j 1 with h | h
            · rw [show j = 0 by omega]; simp [catN]
            · rcases Nat.lt_or_ge j 2 with h | h
              · rw [show j = 1 by omega]; simp [catN]
              · rw [show j = 2 by omega]; simp [catN]; omega))
          have EL : Hid (catN (fun j => if j = 0 then [3] else p) 2 = aheadF p true ++ p) := hid (by rw [AH.out]; simp [catN])
          rw [EL.out] at CC
          obtain ⟨l, hl0⟩ : ∃ l, l = aheadF p true ++ p := ⟨_, rfl⟩
          have HLL := hid hl0
          rw [← hl0] at CC
          have LNB : Hid (Nb l) := hid (by
            rw [hl0]
            intro x hx
            rcases List.mem_append.1 hx with hx | hx
            · exact ahead_nb p _ x hx
            · exact okP_nb OK.out x hx)
          have LL2 := (ahead_len p true).1
          rw [← hl0] at LL2
          have LLE : l.length ≤ 130 := by rw [hl0, List.length_append]; have := (ahead_len p true).2.1; have := HN.out; omega
          clear hl0 AH EL
          obtain ⟨L, hL⟩ : ∃ L, L = l.length := ⟨_, rfl⟩
          have HL := hid hL
          rw [← hL] at CC LL2 LLE
          obtain ⟨h, hh⟩ : ∃ h, h = L / 2 := ⟨_, rfl⟩
          have hd1 : (L : Int) / 2 = (h : Int) := by omega
          have hd2 : (L : Int).tdiv 2 = (h : Int) := by rw [Int.tdiv_eq_ediv_of_nonneg (by omega)]; omega
          have hLh : L = 2 * h := by omega
          have HLH := hid hLh
          clear hL hh hLh
          go_upto_region 11 with (rw [← hW2]; go_at_call 54; refine CC.out.mono ?_; rintro e w3 ⟨v3, rfl, o3, f3⟩; obtain ⟨a3, c3, rfl, _⟩ := ownsRow_slice o3; have O3 := hid o3; have F3 := hid ((FA.out.trans F12.out).trans f3); clear o3 f3)
          have hmk := make_h w3 h (by omega)
          have OM := hid (own_h w3 h (by omega))
          have F4 := hid (F3.out.alloc (.cells (madeCells #[.int .u8 0] h) 5))
          have RL := hid ((Rd.ownN O3.out HL.out).fr ((Fr.refl [] w3).alloc (.cells (madeCells #[.int .u8 0] h) 5)))
          have B3 : Hid (w.heap.size ≤ w3.heap.size) := hid F3.out.size
          clear hW2 CC
          go_wp2_with fail
          go_loopw [40] (fun v40 wr => ∃ (i : Nat), i ≤ h ∧ v40 = .int .i64 (i : Int) ∧ wr.ownsRow w3.heap.size 5 1 (.slice (some ⟨w3.heap.size, 0, none⟩) h h) h (bv (halfF l h i)) ∧ Fr [w3.heap.size] (w3.alloc (.cells (madeCells #[.int .u8 0] h) 5)) wr) (fun v40 _ => h - (intOf v40).toNat)
          case atStart => exact ⟨0, Nat.zero_le _, rfl, by unfold halfF; rw [List.take_zero, List.nil_append, Nat.sub_zero]; exact OM.out, Fr.refl _ _⟩
          case round =>
            obtain ⟨i, hi, rfl, ho, hf⟩ := hrel
            have HO := hid ho
            have HF := hid hf
            clear ho hf
            by_cases hlt : i < h
            · have hlt' : (i : Int) < (h : Int) := by omega
              obtain ⟨j2, hj2⟩ : ∃ j, j = 2 * i := ⟨_, rfl⟩
              obtain ⟨j3, hj3⟩ : ∃ j, j = 2 * i + 1 := ⟨_, rfl⟩
              obtain ⟨x, hx⟩ : ∃ x, l[j2]? = some x := ⟨_, List.getElem?_eq_getElem (by rw [← HL.out, HLH.out]; omega)⟩
              obtain ⟨y, hy⟩ : ∃ x, l[j3]? = some x := ⟨_, List.getElem?_eq_getElem (by rw [← HL.out, HLH.out]; omega)⟩
              have hx16 : x < 16 := LNB.out x (List.mem_of_getElem? hx)
              have hy16 : y < 16 := LNB.out y (List.mem_of_getElem? hy)
              have FW3 : Hid (∀ W, Fr [w3.heap.size] (w3.alloc (.cells (madeCells #[.int .u8 0] h) 5)) W → Fr [] w3 W) := hid (fun W f => ((Fr.refl [] w3).alloc _).newerT f (Nat.le_refl _))
              have SET := hid (halfF_set (h := h) (by rw [← HL.out, HLH.out]; omega) hlt (by rw [← hj2]; exact hx) (by rw [← hj3]; exact hy))
              have ST := hid ((ownsRow_fr HO.out ((Fr.refl [] wr).drew)).stored i (.int .u8 ((16 * x + y : Nat) : Int))).1
              rw [bv_setT, SET.out] at ST
              rcases (Rd.ownN O3.out HL.out).split with ⟨h0, _⟩ | ⟨q3, o3, c3', e, hc3, h0, hc⟩
              · rw [h0] at hx; simp at hx
              simp only [Value.slice.injEq] at e
              obtain ⟨rfl, e2, rfl⟩ := e
              have SK : Hid (∀ wx, Fr [] w3 wx → wx.cell? ⟨q3, o3 + j2, none⟩ = some (.int .u8 (x : Int)) ∧ wx.cell? ⟨q3, o3 + j3, none⟩ = some (.int .u8 (y : Int))) := hid (fun wx f => ⟨cell_fr (hc j2 x hx) f, cell_fr (hc j3 y hy) f⟩)
              have e2i : 2 * (i : Int) = (j2 : Int) := by omega
              have e3i : (j2 : Int) + 1 = (j3 : Int) := by omega
              have hj2L : (j2 : Int) < (L : Int) := by have := HLH.out; omega
              have hj3L : (j3 : Int) < (L : Int) := by have := HLH.out; omega
              have wj2 : IntKind.i64.wrap (j2 : Int) = (j2 : Int) := by rw [IntKind.wrap_i64]; omega
              have wj3 : IntKind.i64.wrap (j3 : Int) = (j3 : Int) := by rw [IntKind.wrap_i64]; omega
              have bO := or_nib hx16 hy16
              obtain ⟨X, hX⟩ : ∃ X, X = 16 * x := ⟨_, rfl⟩
              obtain ⟨Z, hZ⟩ : ∃ Z, Z = 16 * x + y := ⟨_, rfl⟩
              rw [← hX] at bO hZ
              rw [← hZ] at bO
              rw [show 16 * x + y = Z by omega] at ST
              have wX : IntKind.u8.wrap ((x : Int) * 16) = (X : Int) := by rw [IntKind.wrap_u8]; omega
              clear hx hy hc e2 SET hj2 hj3 hX hZ
              go_upto_region 15 with fail
              refine wp_region_held_drew (S := fun wx => wx.cell? ⟨q3, o3 + j2, none⟩ = some (.int .u8 (x : Int)) ∧ wx.cell? ⟨q3, o3 + j3, none⟩ = some (.int .u8 (y : Int))) (by kernel_rfl) (SK.out _ (FW3.out _ HF.out).drew) (fun hS => ?_)
              refine wpAnyH_take (i := 0) (v := (.slice (some ⟨w3.heap.size, 0, none⟩) h h)) rfl (by kernel_rfl) (by kernel_rfl) (by kernel_rfl) (fun _ _ _ h => h) (.inl ⟨by rfl, fun wx hX => by go_simp⟩) hS ?_
              simp only [Act.put]
              refine wpAnyH_take (i := 1) (v := (.int .i64 (i : Int))) rfl (by kernel_rfl) (by kernel_rfl) (by kernel_rfl) (fun _ _ _ h => h) (.inl ⟨by rfl, fun wx hX => by go_simp⟩) hS ?_
              simp only [Act.put]
              refine wpAnyH_take (i := 2) (v := (.slice (some ⟨q3, o3, none⟩) L c3)) rfl (by kernel_rfl) (by kernel_rfl) (by kernel_rfl) (fun _ _ _ h => h) (.inl ⟨by rfl, fun wx hX => by go_simp⟩) hS ?_
              simp only [Act.put]
              refine wpAnyH_take (i := 3) (v := (.int .i64 (i : Int))) rfl (by kernel_rfl) (by kernel_rfl) (by kernel_rfl) (fun _ _ _ h => h) (.inl ⟨by rfl, fun wx hX => by go_simp⟩) hS ?_
              simp only [Act.put]
              refine wpAnyH_take (i := 4) (v := (.int .i64 (j2 : Int))) rfl (by kernel_rfl) (by kernel_rfl) (by kernel_rfl) (fun _ _ _ h => h) (.inl ⟨by rfl, fun wx hX => by go_simp⟩) hS ?_
              simp only [Act.put]
              refine wpAnyH_take (i := 5) (v := (.pointer (some ⟨q3, o3 + j2, none⟩))) rfl (by kernel_rfl) (by kernel_rfl) (by kernel_rfl) (fun _ _ _ h => h) (.inl ⟨by rfl, fun wx hX => by go_simp⟩) hS ?_
              simp only [Act.put]
              refine wpAnyH_take (i := 6) (v := (.int .u8 (x : Int))) rfl (by kernel_rfl) (by kernel_rfl) (by kernel_rfl) (fun _ _ _ h => h) (.inl ⟨by rfl, fun wx hX => by obtain ⟨q0, q1⟩ := hX; go_simp⟩) hS ?_
              simp only [Act.put]
              refine wpAnyH_take (i := 7) (v := (.int .u8 (X : Int))) rfl (by kernel_rfl) (by kernel_rfl) (by kernel_rfl) (fun _ _ _ h => h) (.inl ⟨by rfl, fun wx hX => by go_simp⟩) hS ?_
              simp only [Act.put]
              refine wpAnyH_take (i := 8) (v := (.slice (some ⟨q3, o3, none⟩) L c3)) rfl (by kernel_rfl) (by kernel_rfl) (by kernel_rfl) (fun _ _ _ h => h) (.inl ⟨by rfl, fun wx hX => by go_simp⟩) hS ?_
              simp only [Act.put]
              refine wpAnyH_take (i := 9) (v := (.int .i64 (i : Int))) rfl (by kernel_rfl) (by kernel_rfl) (by kernel_rfl) (fun _ _ _ h => h) (.inl ⟨by rfl, fun wx hX => by go_simp⟩) hS ?_
              simp only [Act.put]
              refine wpAnyH_take (i := 10) (v := (.int .i64 (j2 : Int))) rfl (by kernel_rfl) (by kernel_rfl) (by kernel_rfl) (fun _ _ _ h => h) (.inl ⟨by rfl, fun wx hX => by go_simp⟩) hS ?_
              simp only [Act.put]
              refine wpAnyH_take (i := 11) (v := (.int .i64 (j3 : Int))) rfl (by kernel_rfl) (by kernel_rfl) (by kernel_rfl) (fun _ _ _ h => h) (.inl ⟨by rfl, fun wx hX => by go_simp⟩) hS ?_
              simp only [Act.put]
              refine wpAnyH_take (i := 12) (v := (.pointer (some ⟨q3, o3 + j3, none⟩))) rfl (by kernel_rfl) (by kernel_rfl) (by kernel_rfl) (fun _ _ _ h => h) (.inl ⟨by rfl, fun wx hX => by go_simp⟩) hS ?_
              simp only [Act.put]
              refine wpAnyH_take (i := 13) (v := (.int .u8 (y : Int))) rfl (by kernel_rfl) (by kernel_rfl) (by kernel_rfl) (fun _ _ _ h => h) (.inl ⟨by rfl, fun wx hX => by obtain ⟨q0, q1⟩ := hX; go_simp⟩) hS ?_
              simp only [Act.put]
              refine wpAnyH_take (i := 14) (v := (.int .u8 (Z : Int))) rfl (by kernel_rfl) (by kernel_rfl) (by kernel_rfl) (fun _ _ _ h => h) (.inl ⟨by rfl, fun wx hX => by go_simp⟩) hS ?_
              simp only [Act.put]
              clear hS
              have F9 : Hid (Fr [w3.heap.size] (w3.alloc (.cells (madeCells #[.int .u8 0] h) 5)) (wr.drew.setCell ⟨w3.heap.size, i, none⟩ (.int .u8 (Z : Int)))) := hid (HF.out.drew.set i _ (.inl (List.mem_singleton.2 rfl)))
              refine wpAnyH_ready (rs := [15]) (by kernel_rfl) (by simp) ?_
              refine AllReadyH.cons rfl (fun K hK => ?_) AllReadyH.nil
              go_simp
              refine hK.out _ _ (SK.out _ (FW3.out _ HF.out).drew) (fun hS => ?_)
              clear hK K
              refine wpAnyH_ready (rs := [16]) (by kernel_rfl) (by simp) ?_
              refine AllReadyH.cons rfl (fun K hK => ?_) AllReadyH.nil
              obtain ⟨zz, hzz⟩ : ∃ z, (halfF l h i)[i]? = some z := ⟨_, List.getElem?_eq_getElem (by rw [halfF_len (by rw [← HL.out, HLH.out]; omega) hi]; exact hlt)⟩
              have q1 := HO.out.cells (g := w3.heap.size) rfl i _ (bv_at hzz)
              rw [Addr.add_lit, Nat.zero_add] at q1
              have q2 : wr.frozen? ⟨w3.heap.size, i, none⟩ = false := by
                rcases HO.out.2 with ⟨e, _⟩ | ⟨g, cap, cur, e, _, h3, _⟩
                · cases e
                · simp only [Value.slice.injEq, Option.some.injEq, Addr.mk.injEq, and_true] at e
                  obtain ⟨rfl, _⟩ := e
                  exact blk_frozen h3 i
              clear hzz
              go_simp
              refine hK.out _ _ (SK.out _ (FW3.out _ F9.out)) (fun hS => ?_)
              clear hK K q1 q2
              refine wpAnyH_done (by kernel_rfl) ?_ _
              go_wp2
              go_roundw
              case rel => exact ⟨i + 1, by omega, by go_num, ST.out, F9.out⟩
              case measure => simp [intOf]; omega
            · have hie : i = h := by omega
              have hlt' : ¬ (i : Int) < (h : Int) := by omega
              have PK : Hid (halfF l h h = packF p true) := hid (by
                unfold halfF packF
                rw [Nat.sub_self, List.replicate_zero, List.append_nil, List.take_of_length_le (by rw [prsF_len, ← HL.out, HLH.out]; omega), HLL.out])
              rw [hie, PK.out] at HO
              have PL : Hid (h = (packF p true).length) := hid (by rw [← PK.out, halfF_len (by rw [← HL.out, HLH.out]; omega) (Nat.le_refl _)])
              have FE : Hid (Fr [] w wr) := hid (F4.out.newerT HF.out B3.out)
              clear hie
              go_wp2
              go_ret2
              exact ⟨.inl ⟨OK.out, _, rfl, by rw [← PL.out]; exact ownsRow_base HO.out B3.out⟩, FE.out⟩
        · have hp' : (n : Int) % 2 = 0 := by omega
          have hp2 : (n : Int).tmod 2 = 0 := by rw [Int.tmod_eq_emod_of_nonneg (by omega)]; omega
          have AH : Hid (aheadF p true = [2, 0]) := hid (by unfold aheadF; rw [if_neg (by rw [← HN.out]; exact hp)]; rfl)
          obtain ⟨W1, hW1⟩ : ∃ W, W = (w.alloc (.cells #[.int .u8 2, .int .u8 0] 5)) := ⟨_, rfl⟩
          have FA : Hid (Fr [] w W1) := hid (by rw [hW1]; exact (Fr.refl _ _).alloc _)
          have BA : Hid (W1.heap[w.heap.size]? = some (.cells (bv [2, 0]).toArray 5 (0, 0))) := hid (by rw [hW1]; exact blk_new _ _)
          have SB : Hid (w.heap.size < W1.heap.size) := hid (blk_lt BA.out)
          clear CP
          go_upto_region 10 with fail
          rw [← hW1]
          clear hW1
          obtain ⟨W2, hW2⟩ : ∃ W, W = W1.alloc (.cells #[.slice (some ⟨w.heap.size, 0, none⟩) 2 2, .slice a n c] 33) := ⟨_, rfl⟩
          have F12 : Hid (Fr [] W1 W2) := hid (by rw [hW2]; exact (Fr.refl _ _).alloc _)
          have B2 : Hid (W2.heap[W1.heap.size]? = some (.cells #[.slice (some ⟨w.heap.size, 0, none⟩) 2 2, .slice a n c] 33 (0, 0))) := hid (by rw [hW2]; exact blk_new _ _)
          have RA : Hid (Rd W2 (.slice (some ⟨w.heap.size, 0, none⟩) 2 2) (bv [2, 0])) := hid (.inr ⟨_, 2, by rw [bv_len]; rfl, Nat.le_refl _, fun j u hj => by
            rw [Addr.add_lit, Nat.zero_add, blk_cell (F12.out.at BA.out (by simp)), ← Array.getElem?_toList]
            exact hj⟩)
          have CC := hid (concat_c (w := W2) W1.heap.size 2 (fun j => if j = 0 then .slice (some ⟨w.heap.size, 0, none⟩) 2 2 else .slice a n c) (fun j => if j = 0 then [2, 0] else p) (by omega) (by omega) (fun j hj => by
            rw [blk_cell B2.out]
            rcases Nat.lt_or_ge j 1 with h | h
            · rw [show j = 0 by omega]; rfl
            · rw [show j = 1 by omega]; rfl) (fun j hj => by
            rcases Nat.lt_or_ge j 1 with h | h
            · rw [show j = 0 by omega]; exact RA.out
            · rw [show j = 1 by omega]; exact HR.out.fr (FA.out.trans F12.out)) (fun j hj => by
            have hpn := HN.out
            rcases Nat.lt_or_ge j 1 with h | h
            · rw [show j = 0 by omega]; simp [catN]
            · rcases Nat.lt_or_ge j 2 with h | h
              · rw [show j = 1 by omega]; simp [catN]
              · rw [show j = 2 by omega]; simp [catN]; omega))
          have EL : Hid (catN (fun j => if j = 0 then [2, 0] else p) 2 = aheadF p true ++ p) := hid (by rw [AH.out]; simp [catN])
          rw [EL.out] at CC
          obtain ⟨l, hl0⟩ : ∃ l, l = aheadF p true ++ p := ⟨_, rfl⟩
          have HLL := hid hl0
          rw [← hl0] at CC
          have LNB : Hid (Nb l) := hid (by
            rw [hl0]
            intro x hx
            rcases List.mem_append.1 hx with hx | hx
            · exact ahead_nb p _ x hx
            · exact okP_nb OK.out x hx)
          have LL2 := (ahead_len p true).1
          rw [← hl0] at LL2
          have LLE : l.length ≤ 130 := by rw [hl0, List.length_append]; have := (ahead_len p true).2.1; have := HN.out; omega
          clear hl0 AH EL
          obtain ⟨L, hL⟩ : ∃ L, L = l.length := ⟨_, rfl⟩
          have HL := hid hL
          rw [← hL] at CC LL2 LLE
          obtain ⟨h, hh⟩ : ∃ h, h = L / 2 := ⟨_, rfl⟩
          have hd1 : (L : Int) / 2 = (h : Int) := by omega
          have hd2 : (L : Int).tdiv 2 = (h : Int) := by rw [Int.tdiv_eq_ediv_of_nonneg (by omega)]; omega
          have hLh : L = 2 * h := by omega
          have HLH := hid hLh
          clear hL hh hLh
          go_upto_region 11 with (rw [← hW2]; go_at_call 54; refine CC.out.mono ?_; rintro e w3 ⟨v3, rfl, o3, f3⟩; obtain ⟨a3, c3, rfl, _⟩ := ownsRow_slice o3; have O3 := hid o3; have F3 := hid ((FA.out.trans F12.out).trans f3); clear o3 f3)
          have hmk := make_h w3 h (by omega)
          have OM := hid (own_h w3 h (by omega))
          have F4 := hid (F3.out.alloc (.cells (madeCells #[.int .u8 0] h) 5))
          have RL := hid ((Rd.ownN O3.out HL.out).fr ((Fr.refl [] w3).alloc (.cells (madeCells #[.int .u8 0] h) 5)))
          have B3 : Hid (w.heap.size ≤ w3.heap.size) := hid F3.out.size
          clear hW2 CC
          go_wp2_with fail
          go_loopw [40] (fun v40 wr => ∃ (i : Nat), i ≤ h ∧ v40 = .int .i64 (i : Int) ∧ wr.ownsRow w3.heap.size 5 1 (.slice (some ⟨w3.heap.size, 0, none⟩) h h) h (bv (halfF l h i)) ∧ Fr [w3.heap.size] (w3.alloc (.cells (madeCells #[.int .u8 0] h) 5)) wr) (fun v40 _ => h - (intOf v40).toNat)
          case atStart => exact ⟨0, Nat.zero_le _, rfl, by unfold halfF; rw [List.take_zero, List.nil_append, Nat.sub_zero]; exact OM.out, Fr.refl _ _⟩
          case round =>
            obtain ⟨i, hi, rfl, ho, hf⟩ := hrel
            have HO := hid ho
            have HF := hid hf
            clear ho hf
            by_cases hlt : i < h
            · have hlt' : (i : Int) < (h : Int) := by omega
              obtain ⟨j2, hj2⟩ : ∃ j, j = 2 * i := ⟨_, rfl⟩
              obtain ⟨j3, hj3⟩ : ∃ j, j = 2 * i + 1 := ⟨_, rfl⟩
              obtain ⟨x, hx⟩ : ∃ x, l[j2]? = some x := ⟨_, List.getElem?_eq_getElem (by rw [← HL.out, HLH.out]; omega)⟩
              obtain ⟨y, hy⟩ : ∃ x, l[j3]? = some x := ⟨_, List.getElem?_eq_getElem (by rw [← HL.out, HLH.out]; omega)⟩
              have hx16 : x < 16 := LNB.out x (List.mem_of_getElem? hx)
              have hy16 : y < 16 := LNB.out y (List.mem_of_getElem? hy)
              have FW3 : Hid (∀ W, Fr [w3.heap.size] (w3.alloc (.cells (madeCells #[.int .u8 0] h) 5)) W → Fr [] w3 W) := hid (fun W f => ((Fr.refl [] w3).alloc _).newerT f (Nat.le_refl _))
              have SET := hid (halfF_set (h := h) (by rw [← HL.out, HLH.out]; omega) hlt (by rw [← hj2]; exact hx) (by rw [← hj3]; exact hy))
              have ST := hid ((ownsRow_fr HO.out ((Fr.refl [] wr).drew)).stored i (.int .u8 ((16 * x + y : Nat) : Int))).1
              rw [bv_setT, SET.out] at ST
              rcases (Rd.ownN O3.out HL.out).split with ⟨h0, _⟩ | ⟨q3, o3, c3', e, hc3, h0, hc⟩
              · rw [h0] at hx; simp at hx
              simp only [Value.slice.injEq] at e
              obtain ⟨rfl, e2, rfl⟩ := e
              have SK : Hid (∀ wx, Fr [] w3 wx → wx.cell? ⟨q3, o3 + j2, none⟩ = some (.int .u8 (x : Int)) ∧ wx.cell? ⟨q3, o3 + j3, none⟩ = some (.int .u8 (y : Int))) := hid (fun wx f => ⟨cell_fr (hc j2 x hx) f, cell_fr (hc j3 y hy) f⟩)
              have e2i : 2 * (i : Int) = (j2 : Int) := by omega
              have e3i : (j2 : Int) + 1 = (j3 : Int) := by omega
              have hj2L : (j2 : Int) < (L : Int) := by have := HLH.out; omega
              have hj3L : (j3 : Int) < (L : Int) := by have := HLH.out; omega
              have wj2 : IntKind.i64.wrap (j2 : Int) = (j2 : Int) := by rw [IntKind.wrap_i64]; omega
              have wj3 : IntKind.i64.wrap (j3 : Int) = (j3 : Int) := by rw [IntKind.wrap_i64]; omega
              have bO := or_nib hx16 hy16
              obtain ⟨X, hX⟩ : ∃ X, X = 16 * x := ⟨_, rfl⟩
              obtain ⟨Z, hZ⟩ : ∃ Z, Z = 16 * x + y := ⟨_, rfl⟩
              rw [← hX] at bO hZ
              rw [← hZ] at bO
              rw [show 16 * x + y = Z by omega] at ST
              have wX : IntKind.u8.wrap ((x : Int) * 16) = (X : Int) := by rw [IntKind.wrap_u8]; omega
              clear hx hy hc e2 SET hj2 hj3 hX hZ
              go_upto_region 15 with fail
              refine wp_region_held_drew (S := fun wx => wx.cell? ⟨q3, o3 + j2, none⟩ = some (.int .u8 (x : Int)) ∧ wx.cell? ⟨q3, o3 + j3, none⟩ = some (.int .u8 (y : Int))) (by kernel_rfl) (SK.out _ (FW3.out _ HF.out).drew) (fun hS => ?_)
              refine wpAnyH_take (i := 0) (v := (.slice (some ⟨w3.heap.size, 0, none⟩) h h)) rfl (by kernel_rfl) (by kernel_rfl) (by kernel_rfl) (fun _ _ _ h => h) (.inl ⟨by rfl, fun wx hX => by go_simp⟩) hS ?_
              simp only [Act.put]
              refine wpAnyH_take (i := 1) (v := (.int .i64 (i : Int))) rfl (by kernel_rfl) (by kernel_rfl) (by kernel_rfl) (fun _ _ _ h => h) (.inl ⟨by rfl, fun wx hX => by go_simp⟩) hS ?_
              simp only [Act.put]
              refine wpAnyH_take (i := 2) (v := (.slice (some ⟨q3, o3, none⟩) L c3)) rfl (by kernel_rfl) (by kernel_rfl) (by kernel_rfl) (fun _ _ _ h => h) (.inl ⟨by rfl, fun wx hX => by go_simp⟩) hS ?_
              simp only [Act.put]
              refine wpAnyH_take (i := 3) (v := (.int .i64 (i : Int))) rfl (by kernel_rfl) (by kernel_rfl) (by kernel_rfl) (fun _ _ _ h => h) (.inl ⟨by rfl, fun wx hX => by go_simp⟩) hS ?_
              simp only [Act.put]
              refine wpAnyH_take (i := 4) (v := (.int .i64 (j2 : Int))) rfl (by kernel_rfl) (by kernel_rfl) (by kernel_rfl) (fun _ _ _ h => h) (.inl ⟨by rfl, fun wx hX => by go_simp⟩) hS ?_
              simp only [Act.put]
              refine wpAnyH_take (i := 5) (v := (.pointer (some ⟨q3, o3 + j2, none⟩))) rfl (by kernel_rfl) (by kernel_rfl) (by kernel_rfl) (fun _ _ _ h => h) (.inl ⟨by rfl, fun wx hX => by go_simp⟩) hS ?_
              simp only [Act.put]
              refine wpAnyH_take (i := 6) (v := (.int .u8 (x : Int))) rfl (by kernel_rfl) (by kernel_rfl) (by kernel_rfl) (fun _ _ _ h => h) (.inl ⟨by rfl, fun wx hX => by obtain ⟨q0, q1⟩ := hX; go_simp⟩) hS ?_
              simp only [Act.put]
              refine wpAnyH_take (i := 7) (v := (.int .u8 (X : Int))) rfl (by kernel_rfl) (by kernel_rfl) (by kernel_rfl) (fun _ _ _ h => h) (.inl ⟨by rfl, fun wx hX => by go_simp⟩) hS ?_
              simp only [Act.put]
              refine wpAnyH_take (i := 8) (v := (.slice (some ⟨q3, o3, none⟩) L c3)) rfl (by kernel_rfl) (by kernel_rfl) (by kernel_rfl) (fun _ _ _ h => h) (.inl ⟨by rfl, fun wx hX => by go_simp⟩) hS ?_
              simp only [Act.put]
              refine wpAnyH_take (i := 9) (v := (.int .i64 (i : Int))) rfl (by kernel_rfl) (by kernel_rfl) (by kernel_rfl) (fun _ _ _ h => h) (.inl ⟨by rfl, fun wx hX => by go_simp⟩) hS ?_
              simp only [Act.put]
              refine wpAnyH_take (i := 10) (v := (.int .i64 (j2 : Int))) rfl (by kernel_rfl) (by kernel_rfl) (by kernel_rfl) (fun _ _ _ h => h) (.inl ⟨by rfl, fun wx hX => by go_simp⟩) hS ?_
              simp only [Act.put]
              refine wpAnyH_take (i := 11) (v := (.int .i64 (j3 : Int))) rfl (by kernel_rfl) (by kernel_rfl) (by kernel_rfl) (fun _ _ _ h => h) (.inl ⟨by rfl, fun wx hX => by go_simp⟩) hS ?_
              simp only [Act.put]
              refine wpAnyH_take (i := 12) (v := (.pointer (some ⟨q3, o3 + j3, none⟩))) rfl (by kernel_rfl) (by kernel_rfl) (by kernel_rfl) (fun _ _ _ h => h) (.inl ⟨by rfl, fun wx hX => by go_simp⟩) hS ?_
              simp only [Act.put]
              refine wpAnyH_take (i := 13) (v := (.int .u8 (y : Int))) rfl (by kernel_rfl) (by kernel_rfl) (by kernel_rfl) (fun _ _ _ h => h) (.inl ⟨by rfl, fun wx hX => by obtain ⟨q0, q1⟩ := hX; go_simp⟩) hS ?_
              simp only [Act.put]
              refine wpAnyH_take (i := 14) (v := (.int .u8 (Z : Int))) rfl (by kernel_rfl) (by kernel_rfl) (by kernel_rfl) (fun _ _ _ h => h) (.inl ⟨by rfl, fun wx hX => by go_simp⟩) hS ?_
              simp only [Act.put]
              clear hS
              have F9 : Hid (Fr [w3.heap.size] (w3.alloc (.cells (madeCells #[.int .u8 0] h) 5)) (wr.drew.setCell ⟨w3.heap.size, i, none⟩ (.int .u8 (Z : Int)))) := hid (HF.out.drew.set i _ (.inl (List.mem_singleton.2 rfl)))
              refine wpAnyH_ready (rs := [15]) (by kernel_rfl) (by simp) ?_
              refine AllReadyH.cons rfl (fun K hK => ?_) AllReadyH.nil
              go_simp
              refine hK.out _ _ (SK.out _ (FW3.out _ HF.out).drew) (fun hS => ?_)
              clear hK K
              refine wpAnyH_ready (rs := [16]) (by kernel_rfl) (by simp) ?_
              refine AllReadyH.cons rfl (fun K hK => ?_) AllReadyH.nil
              obtain ⟨zz, hzz⟩ : ∃ z, (halfF l h i)[i]? = some z := ⟨_, List.getElem?_eq_getElem (by rw [halfF_len (by rw [← HL.out, HLH.out]; omega) hi]; exact hlt)⟩
              have q1 := HO.out.cells (g := w3.heap.size) rfl i _ (bv_at hzz)
              rw [Addr.add_lit, Nat.zero_add] at q1
              have q2 : wr.frozen? ⟨w3.heap.size, i, none⟩ = false := by
                rcases HO.out.2 with ⟨e, _⟩ | ⟨g, cap, cur, e, _, h3, _⟩
                · cases e
                · simp only [Value.slice.injEq, Option.some.injEq, Addr.mk.injEq, and_true] at e
                  obtain ⟨rfl, _⟩ := e
                  exact blk_frozen h3 i
              clear hzz
              go_simp
              refine hK.out _ _ (SK.out _ (FW3.out _ F9.out)) (fun hS => ?_)
              clear hK K q1 q2
              refine wpAnyH_done (by kernel_rfl) ?_ _
              go_wp2
              go_roundw
              case rel => exact ⟨i + 1, by omega, by go_num, ST.out, F9.out⟩
              case measure => simp [intOf]; omega
            · have hie : i = h := by omega
              have hlt' : ¬ (i : Int) < (h : Int) := by omega
              have PK : Hid (halfF l h h = packF p true) := hid (by
                unfold halfF packF
                rw [Nat.sub_self, List.replicate_zero, List.append_nil, List.take_of_length_le (by rw [prsF_len, ← HL.out, HLH.out]; omega), HLL.out])
              rw [hie, PK.out] at HO
              have PL : Hid (h = (packF p true).length) := hid (by rw [← PK.out, halfF_len (by rw [← HL.out, HLH.out]; omega) (Nat.le_refl _)])
              have FE : Hid (Fr [] w wr) := hid (F4.out.newerT HF.out B3.out)
              clear hie
              go_wp2
              go_ret2
              exact ⟨.inl ⟨OK.out, _, rfl, by rw [← PL.out]; exact ownsRow_base HO.out B3.out⟩, FE.out⟩
    · rw [hA] at CP OA
      have OK : Hid (okP p = false) := hid (by rw [OA.out]; simp)
      go_upto_if 19 with (go_at_call 53; refine CP.out.mono ?_; rintro e w2 ⟨rfl, h⟩; rw [h]; clear h)
      go_wp2
      go_ret2
      exact ⟨.inr ⟨OK.out, rfl⟩, Fr.refl _ _⟩
  · have h128' : (128 : Int) < (n : Int) := by omega
    have OK : Hid (okP p = false) := hid (by rw [OA.out]; simp; omega)
    go_wp2
    go_ret2
    exact ⟨.inr ⟨OK.out, rfl⟩, Fr.refl _ _⟩
end Go.Proofs.YtmpfnglcmaollaaDoor
