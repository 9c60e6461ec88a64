/-
  Package block: Parse.
-/
import Derived.Test.YtdlnfcepknoigaaX
import Derived.Test.YtdlnfcepknoigaaBQ
import Derived.Test.YtdlnfcepknoigaaJ08
import Derived.Test.YtdlnfcepknoigaaJ12
namespace Go.Proofs.Ytdlnfcepknoigaa
open Go.ChangeShapes Go.WideShapes Go.ChangeAt Go.RowKit

set_option maxRecDepth 20000 in
set_option maxHeartbeats 1600000 in
theorem parse_no (w : World) {v : Value} {b : List Nat} (hr : Rd w v (bv b)) (hb : By b) (hl : b.length ≤ 1000000000) (h : ∀ ps r, ¬ Blk b ps r) :
    Calls Try.prog 12 #[v] w fun e w' => e = .returned (.tuple #[.slice none 0 0, .int .i64 72]) ∧ Fr [] w w' := by
  have RC := hid (read_c w hr hb hl)
  have HN := hid h
  obtain ⟨a, c, hv⟩ := hr.form
  subst hv
  clear hr hb h
  go_enter Try.func12, Try.ntmps12
  go_wp2_with fail
  refine RC.out.mono ?_
  rintro e w1 ⟨⟨la, ln, lc, r, rfl, _⟩ | ⟨ls, la, lc, r, rfl, hB⟩, f1⟩
  · go_wp2
    go_ret2
    exact ⟨rfl, f1.alloc _⟩
  · exact absurd hB.blk (HN.out _ _)
theorem makeKV_run (w : World) {n : Nat} (hc : n ≤ 1000000000) : (Instr.makeSlice 22 (.int .i64 (n : Int)) (.int .i64 (n : Int))).run Try.prog w = .ok (.slice (some ⟨w.heap.size, 0, none⟩) n n) (w.alloc (.cells (madeCells #[.slice none 0 0, .slice none 0 0] (n * 2)) 40)) := by
  obtain ⟨i0, hi, hz0, hz1, hz2⟩ := info_parts infoP
  have h := run_make (P := Try.prog) w 22 40 i0 (.agg #[.slice none 0 0, .slice none 0 0]) Try.underlying22 hi hz0 .i64 .i64 (n : Int) (n : Int) (by omega) (by omega) (by rw [hz2]; omega) (by omega)
  simpa [hz1, Value.cells] using h
/-- What Parse holds ahead of its i-th line. -/
structure PI (w w2 wr : World) (ls : List Ln) (G : Nat) (cur : Array Value) (i : Nat) : Prop where
  hg : wr.heap[G]? = some (.cells cur 40 (0, 0))
  sz : cur.size = ls.length * 2
  sl : ∀ c ∈ cur.toList, ∃ a n k, c = Value.slice a n k
  dn : ∀ (j : Nat) (x : Ln), j < i → ls[j]? = some x → ∃ kv vv, cur[j * 2]? = some kv ∧ cur[j * 2 + 1]? = some vv ∧ Rd wr kv (bv x.key) ∧ Rd wr vv (bv x.val)
  f2 : Fr [] w2 wr
  fr : Fr [] w wr
theorem PI.no {w w2 wr : World} {ls : List Ln} {G : Nat} {cur : Array Value} {i : Nat} (h : PI w w2 wr ls G cur i) : ¬ U8 wr G := by
  refine noU8 (cs := cur.toList) (T := 40) (by rw [Array.toArray_toList]; exact h.hg) ?_
  intro c hc n e
  obtain ⟨a, m, k, rfl⟩ := h.sl c hc
  cases e
theorem PI.quiet {w w2 wr w' : World} {ls : List Ln} {G : Nat} {cur : Array Value} {i : Nat} (h : PI w w2 wr ls G cur i) (f : Fr [] wr w') : PI w w2 w' ls G cur i :=
  ⟨f.at h.hg (by simp), h.sz, h.sl, fun j x hj hx => by
    obtain ⟨kv, vv, c0, c1, r0, r1⟩ := h.dn j x hj hx
    exact ⟨kv, vv, c0, c1, r0.fr f, r1.fr f⟩, h.f2.trans f, h.fr.trans f⟩
theorem PI.put {w w2 wr : World} {ls : List Ln} {G : Nat} {cur : Array Value} {i : Nat} (h : PI w w2 wr ls G cur i) (hi : i < ls.length) (hG : w.heap.size ≤ G) (hG2 : w2.heap.size ≤ G) {x : Ln} (hx : ls[i]? = some x) {ka va : Option Addr} {kn kc vn vc : Nat} (r0 : Rd wr (.slice ka kn kc) (bv x.key)) (r1 : Rd wr (.slice va vn vc) (bv x.val)) :
    PI w w2 ((wr.setCell ⟨G, i * 2, none⟩ (.slice ka kn kc)).setCell ⟨G, i * 2 + 1, none⟩ (.slice va vn vc)) ls G ((cur.setIfInBounds (i * 2) (.slice ka kn kc)).setIfInBounds (i * 2 + 1) (.slice va vn vc)) (i + 1) := by
  have hu : ∀ k, U8 wr k → ((wr.setCell ⟨G, i * 2, none⟩ (.slice ka kn kc)).setCell ⟨G, i * 2 + 1, none⟩ (.slice va vn vc)).heap[k]? = wr.heap[k]? := fun k hk => by
    have : k ≠ G := fun e => by subst e; exact h.no hk
    rw [blk_setne _ _ _ this, blk_setne _ _ _ this]
  have hsz := h.sz
  refine ⟨by rw [blk_set (blk_set h.hg _ _)], by simp [hsz], ?_, ?_, (h.f2.set _ _ (.inr hG2)).set _ _ (.inr hG2), (h.fr.set _ _ (.inr hG)).set _ _ (.inr hG)⟩
  · intro c hc
    rw [Array.toList_setIfInBounds, Array.toList_setIfInBounds] at hc
    rcases List.mem_or_eq_of_mem_set hc with hc | hc
    · rcases List.mem_or_eq_of_mem_set hc with hc | hc
      · exact h.sl c hc
      · exact ⟨_, _, _, hc⟩
    · exact ⟨_, _, _, hc⟩
  · intro j y hj hy
    by_cases hji : j = i
    · subst hji
      rw [hx] at hy
      simp only [Option.some.injEq] at hy
      subst hy
      refine ⟨.slice ka kn kc, .slice va vn vc, ?_, ?_, r0.keep hu, r1.keep hu⟩
      · rw [Array.getElem?_setIfInBounds_ne (by omega), Array.getElem?_setIfInBounds_self_of_lt (by omega)]
      · rw [Array.getElem?_setIfInBounds_self_of_lt (by simp; omega)]
    · obtain ⟨kv, vv, c0, c1, s0, s1⟩ := h.dn j y (by omega) hy
      refine ⟨kv, vv, ?_, ?_, s0.keep hu, s1.keep hu⟩
      · rw [Array.getElem?_setIfInBounds_ne (by omega), Array.getElem?_setIfInBounds_ne (by omega)]; exact c0
      · rw [Array.getElem?_setIfInBounds_ne (by omega), Array.getElem?_setIfInBounds_ne (by omega)]; exact c1
set_option maxRecDepth 20000 in
set_option maxHeartbeats 3200000 in
theorem parse_ok (w : World) {v : Value} {b : List Nat} (hr : Rd w v (bv b)) (hb : By b) (hl : b.length ≤ 1000000000) {ps : Ps} {r : Nat} (h : Blk b ps r) :
    Calls Try.prog 12 #[v] w fun e w' => ∃ v', e = .returned (.tuple #[v', .int .i64 0]) ∧ ColK w' w.heap.size v' ps ∧ Fr [] w w' := by
  have RC := hid (read_c w hr hb hl)
  have HN := hid h
  obtain ⟨a, c, hv⟩ := hr.form
  subst hv
  clear hr hb h
  generalize (bv b).length = vn at *
  go_enter Try.func12, Try.ntmps12
  go_wp2_with fail
  refine RC.out.mono ?_
  rintro e w1 ⟨⟨la, ln, lc, r', rfl, hno⟩ | ⟨ls, la, lc, r', rfl, hB⟩, f1⟩
  · exact absurd HN.out (hno _ _)
  · have HB := hid hB
    have hps : ps = psL ls := blk_one HN.out hB.blk (by omega)
    have HPS := hid hps
    have hln : ls.length ≤ 1000000000 := by have := hB.len; omega
    have F1 := hid f1
    clear hB hps f1 RC
    obtain ⟨W2, hW2⟩ : ∃ W, W = w1.alloc (.cells #[.slice la ls.length lc, .int .i64 (r' : Int)] 56) := ⟨_, rfl⟩
    have F12 : Hid (Fr [] w1 W2) := by refine hid ?_; rw [hW2]; exact (Fr.refl _ _).alloc _
    have C2 : Hid (W2.heap[w1.heap.size]? = some (.cells #[.slice la ls.length lc, .int .i64 (r' : Int)] 56 (0, 0))) := by refine hid ?_; rw [hW2]; exact blk_new _ _
    have hmk := makeKV_run W2 hln
    obtain ⟨W3, hW3⟩ : ∃ W, W = W2.alloc (.cells (madeCells #[.slice none 0 0, .slice none 0 0] (ls.length * 2)) 40) := ⟨_, rfl⟩
    have F23 : Hid (Fr [] W2 W3) := by refine hid ?_; rw [hW3]; exact (Fr.refl _ _).alloc _
    have P3 : Hid (PI w W2 W3 ls W2.heap.size (madeCells #[.slice none 0 0, .slice none 0 0] (ls.length * 2)) 0) := by
      refine hid ⟨by rw [hW3]; exact blk_new _ _, size_madeCells _ _, ?_, fun j x hj => by omega, F23.out, F1.out.trans (F12.out.trans F23.out)⟩
      intro c hc
      simp only [madeCells, Array.toList_map, List.mem_map] at hc
      obtain ⟨k, _, rfl⟩ := hc
      have hk2 : k % 2 = 0 ∨ k % 2 = 1 := by omega
      simp only [List.size_toArray, List.length_cons, List.length_nil]
      rcases hk2 with e | e <;> (rw [show (0 + 1 + 1 : Nat) = 2 from rfl, e]; exact ⟨_, _, _, rfl⟩)
    have c3 : W3.cell? ⟨w1.heap.size, 0, none⟩ = some (.slice la ls.length lc) := by rw [blk_cell (F23.out.at C2.out (by simp))]; rfl
    have c2 : W2.cell? ⟨w1.heap.size, 0, none⟩ = some (.slice la ls.length lc) := by rw [blk_cell C2.out]; rfl
    rw [← hW3] at hmk
    have HRN := hid (HB.out.rd.fr F12.out)
    have HOK := hid HB.out.ok
    have hG : w.heap.size ≤ W2.heap.size := by have := F1.out.size; have := F12.out.size; omega
    clear hW3
    generalize hnl : ls.length = nl at *
    have HNL := hid hnl
    clear hnl
    go_upto_region 4 with fail
    rw [← hW2]
    clear hW2
    go_wp2_with fail
    clear hmk c2 c3
    go_loopw [23] (fun v23 wr => ∃ (i : Nat) (cur : Array Value), i ≤ nl ∧ v23 = .int .i64 (i : Int) ∧ PI w W2 wr ls W2.heap.size cur i) (fun v23 _ => nl - (intOf v23).toNat)
    case atStart => exact ⟨0, _, Nat.zero_le _, rfl, P3.out⟩
    case round =>
      obtain ⟨i, cur, hi, rfl, hpi⟩ := hrel
      have HP := hid hpi
      clear hpi
      by_cases hlt : i < nl
      · have hil : i < ls.length := by rw [HNL.out]; exact hlt
        obtain ⟨a', c', hv', k1⟩ := HRN.out
        simp only [Value.slice.injEq] at hv'
        obtain ⟨rfl, hq, rfl⟩ := hv'
        clear hq
        obtain ⟨b', off, rfl, m1⟩ := k1 (by omega)
        obtain ⟨ka, kc, va, vc, P⟩ := m1 i _ (lnA_at hil)
        have ok := HOK.out _ (List.mem_of_getElem? (lnA_at hil))
        have z0 := cell_fr HP.out.f2 P.c0
        have z1 := cell_fr HP.out.f2 P.c1
        have z2 := cell_fr HP.out.f2 P.c2
        have z3 := cell_fr HP.out.f2 P.c3
        have hlx := lnA_at hil
        have HLX := hid hlx
        obtain ⟨W4, hW4⟩ : ∃ W, W = wr.alloc (.cells #[.int .i64 ((lnA ls i).pos : Int), .int .i64 ((lnA ls i).sh : Int), .slice ka (lnA ls i).key.length kc, .slice va (lnA ls i).val.length vc] 60) := ⟨_, rfl⟩
        have F4 : Hid (Fr [] wr W4) := by refine hid ?_; rw [hW4]; exact (Fr.refl _ _).alloc _
        have EC := hid (entry_c W4 (p := ((lnA ls i).pos : Int)) (s := ((lnA ls i).sh : Int)) ((P.rk.fr HP.out.f2).fr F4.out) ((P.rv.fr HP.out.f2).fr F4.out) (by have := ok.lk; omega) ok.lv)
        clear m1 k1 P ok hlx
        generalize lnA ls i = x at *
        go_wp2_with fail
        rw [← hW4]
        clear hW4
        refine EC.out.mono ?_
        rintro e W5 ⟨kv, vv, rfl, ent⟩
        obtain ⟨kka, kkc, rfl, _⟩ := ownsRow_slice ent.ok
        obtain ⟨vva, vvc, rfl, _⟩ := ownsRow_slice ent.ov
        have P5 := HP.out.quiet (F4.out.trans ent.fr)
        have sz := P5.sz
        have y0 : ∃ u, W5.cell? ⟨W2.heap.size, i * 2, none⟩ = some u := ⟨cur[i * 2]'(by omega), by rw [blk_cell P5.hg, Array.getElem?_eq_getElem (by omega)]⟩
        have y1 : ∃ u, W5.cell? ⟨W2.heap.size, i * 2 + 1, none⟩ = some u := ⟨cur[i * 2 + 1]'(by omega), by rw [blk_cell P5.hg, Array.getElem?_eq_getElem (by omega)]⟩
        obtain ⟨u0, y0⟩ := y0
        obtain ⟨u1, y1⟩ := y1
        have yf := blk_frozen P5.hg
        have P6 := hid (P5.put hil hG (Nat.le_refl _) HLX.out (Rd.ownB ent.ok) (Rd.ownB ent.ov))
        clear P5 ent EC sz
        go_wp2
        go_roundw
        case rel => exact ⟨i + 1, _, by omega, by go_num, P6.out⟩
        case measure => simp [intOf]; omega
      · have hie : i = nl := by omega
        subst hie
        go_wp2
        go_ret2
        refine ⟨_, rfl, ?_, HP.out.fr⟩
        have sz := HP.out.sz
        refine ⟨cur.toList, ⟨by simp [sz, HPS.out, psL_len], .inr ⟨W2.heap.size, i, cur, ?_, hG, HP.out.hg, ?_, ?_, ?_, ?_⟩⟩, HP.out.sl, ?_⟩
        · rw [HPS.out, psL_len, HNL.out]; rfl
        · rw [HPS.out, psL_len, HNL.out]; exact Nat.le_refl _
        · unfold maxLen; omega
        · rw [sz, HNL.out]
        · rw [HPS.out, psL_len, ← sz, List.take_of_length_le (by simp)]
        · intro j p hj
          rw [HPS.out] at hj
          unfold psL at hj
          rw [List.getElem?_map, Option.map_eq_some_iff] at hj
          obtain ⟨x, hx, rfl⟩ := hj
          have hjl : j < i := by
            rcases Nat.lt_or_ge j ls.length with h | h
            · rw [← HNL.out]; exact h
            · rw [List.getElem?_eq_none h] at hx; cases hx
          obtain ⟨kv, vv, c0, c1, r0, r1⟩ := HP.out.dn j x hjl hx
          have ok := HOK.out _ (List.mem_of_getElem? hx)
          exact ⟨kv, vv, by rw [Array.getElem?_toList]; exact c0, by rw [Array.getElem?_toList]; exact c1, r0, r1, ok.bk, ok.bv', by dsimp only; have := ok.lk; omega, by dsimp only; have := ok.lv; omega⟩
end Go.Proofs.Ytdlnfcepknoigaa
namespace Go.Proofs.Ytdlnfcepknoigaa
open Go.ChangeShapes Go.WideShapes Go.ChangeAt Go.RowKit

theorem keyL_len (u : List Nat) (s k : Nat) : (keyL u s k).length = u.length + 8 := by unfold keyL; rw [List.length_append, fixL_len]
theorem keyL_by {u : List Nat} (h : By u) (s k : Nat) : By (keyL u s k) := h.append (fixL_by 8 _)
theorem keyL_user (u : List Nat) (s k : Nat) : userL (keyL u s k) = u := by
  unfold userL; rw [keyL_len, Nat.add_sub_cancel]; unfold keyL; exact List.take_left' rfl
theorem keyL_tail (u : List Nat) {s k : Nat} (hs : s ≤ 72057594037927935) (hk : k ≤ 1) : tailN (keyL u s k) = 256 * s + k := by
  unfold tailN; rw [keyL_len, Nat.add_sub_cancel]; unfold keyL
  rw [List.drop_left' rfl, unf_fixL]
  exact Nat.mod_eq_of_lt (show 256 * s + k < 256 ^ 8 by omega)
theorem keyL_is {u : List Nat} (hu : u.length ≤ 128) {s k : Nat} (hs : s ≤ 72057594037927935) (hk : k ≤ 1) : isK (keyL u s k) = true := by
  have ht := keyL_tail u hs hk
  unfold isK
  rw [show unf ((keyL u s k).drop ((keyL u s k).length - 8)) = 256 * s + k from ht, keyL_len]
  simp only [Bool.and_eq_true, decide_eq_true_eq]
  omega


theorem ordK_key (u v : List Nat) {s t k : Nat} (hs : s ≤ 72057594037927935) (ht : t ≤ 72057594037927935) (hk : k ≤ 1) : ordK (keyL u s k) (keyL v t k) = ordP u v (s : Int) (t : Int) (k : Int) (k : Int) := by
  unfold ordK
  rw [keyL_user, keyL_user, keyL_tail u hs hk, keyL_tail v ht hk, show (256 * s + k) / 256 = s by omega, show (256 * t + k) / 256 = t by omega, show (256 * s + k) % 256 = k by omega, show (256 * t + k) % 256 = k by omega]

theorem less_cmp : ∀ (u v : List Nat), By u → By v → Op.bytesLess (u.map UInt8.ofNat) (v.map UInt8.ofNat) = decide (cmpN u v = -1)
  | [], [], _, _ => rfl
  | [], _ :: _, _, _ => rfl
  | _ :: _, [], _, _ => rfl
  | x :: a, y :: b, ha, hb => by
    have hx := ha x (by simp); have hy := hb y (by simp)
    have ih := less_cmp a b (fun n hn => ha n (List.mem_cons_of_mem _ hn)) (fun n hn => hb n (List.mem_cons_of_mem _ hn))
    have e : (UInt8.ofNat x < UInt8.ofNat y ↔ x < y) := by
      rw [UInt8.lt_iff_toNat_lt, UInt8.toNat_ofNat', UInt8.toNat_ofNat', Nat.mod_eq_of_lt hx, Nat.mod_eq_of_lt hy]
    have e2 : (UInt8.ofNat x = UInt8.ofNat y ↔ x = y) := by
      constructor
      · intro h
        have := congrArg UInt8.toNat h
        rw [UInt8.toNat_ofNat', UInt8.toNat_ofNat', Nat.mod_eq_of_lt hx, Nat.mod_eq_of_lt hy] at this
        exact this
      · intro h; rw [h]
    simp only [List.map_cons, Op.bytesLess, ih]
    rw [show cmpN (x :: a) (y :: b) = if x < y then -1 else if y < x then 1 else cmpN a b from rfl]
    rcases Nat.lt_trichotomy x y with h | h | h
    · rw [if_pos h]; simp [e.2 h]
    · have n1 : ¬ UInt8.ofNat x < UInt8.ofNat y := fun q => by have := e.1 q; omega
      rw [if_neg (by omega), if_neg (by omega), decide_eq_false n1, Bool.false_or, beq_iff_eq.2 (e2.2 h), Bool.true_and]
    · have n1 : ¬ UInt8.ofNat x < UInt8.ofNat y := fun q => by have := e.1 q; omega
      have n2 : ¬ UInt8.ofNat x = UInt8.ofNat y := fun q => by have := e2.1 q; omega
      rw [if_neg (by omega), if_pos h, decide_eq_false n1, Bool.false_or, beq_eq_false_iff_ne.2 n2, Bool.false_and]
      rfl
theorem strOf_toList (u : List Nat) : (strOf u).toList = u.map UInt8.ofNat := by
  rw [← strOf_data, ByteArray.toList_eq]
end Go.Proofs.Ytdlnfcepknoigaa
