/-
  Package block: Parse, its entries' bytes of the call's own.
-/
import Derived.Test.YtnnookkcnmgbfaaGreatJ16
import Derived.Test.YtnnookkcnmgbfaaGreatJ14
import Derived.Test.YtnnookkcnmgbfaaGreatXL
namespace Go.Proofs.YtnnookkcnmgbfaaGreat
open Go.ChangeShapes Go.WideShapes Go.ChangeAt Go.RowKit

/-- What Parse holds ahead of its i-th line. -/
structure PJ (w w2 wr : World) (ls : List Ln) (G : Nat) (cur : Array Value) (i : Nat) : Prop where
  hg : wr.heap[G]? = some (.cells cur 47 (0, 0))
  sz : cur.size = ls.length * 2
  sl : ∀ c ∈ cur.toList, ∃ a n k, c = Value.slice a n k
  dn : ∀ (j : Nat) (x : Ln), j < i → ls[j]? = some x → ∃ kv vv, cur[j * 2]? = some kv ∧ cur[j * 2 + 1]? = some vv ∧ wr.ownsRow w.heap.size 5 1 kv x.key.length (bv x.key) ∧ wr.ownsRow w.heap.size 5 1 vv x.val.length (bv x.val)
  f2 : Fr [] w2 wr
  fr : Fr [] w wr
theorem PJ.quiet {w w2 wr w' : World} {ls : List Ln} {G : Nat} {cur : Array Value} {i : Nat} (h : PJ w w2 wr ls G cur i) (f : Fr [] wr w') : PJ w w2 w' ls G cur i :=
  ⟨f.at h.hg (by simp), h.sz, h.sl, fun j x hj hx => by
    obtain ⟨kv, vv, c0, c1, r0, r1⟩ := h.dn j x hj hx
    exact ⟨kv, vv, c0, c1, ownsRow_fr r0 f, ownsRow_fr r1 f⟩, h.f2.trans f, h.fr.trans f⟩
theorem PJ.put {w w2 wr : World} {ls : List Ln} {G : Nat} {cur : Array Value} {i : Nat} (h : PJ w w2 wr ls G cur i) (hi : i < ls.length) (hG : w.heap.size ≤ G) (hG2 : w2.heap.size ≤ G) {x : Ln} (hx : ls[i]? = some x) {ka va : Option Addr} {kn kc vn vc : Nat} (r0 : wr.ownsRow w.heap.size 5 1 (.slice ka kn kc) x.key.length (bv x.key)) (r1 : wr.ownsRow w.heap.size 5 1 (.slice va vn vc) x.val.length (bv x.val)) :
    PJ w w2 ((wr.setCell ⟨G, i * 2, none⟩ (.slice ka kn kc)).setCell ⟨G, i * 2 + 1, none⟩ (.slice va vn vc)) ls G ((cur.setIfInBounds (i * 2) (.slice ka kn kc)).setIfInBounds (i * 2 + 1) (.slice va vn vc)) (i + 1) := by
  have hu : ∀ {u : Value} {m : Nat} {us : List Value}, wr.ownsRow w.heap.size 5 1 u m us → ((wr.setCell ⟨G, i * 2, none⟩ (.slice ka kn kc)).setCell ⟨G, i * 2 + 1, none⟩ (.slice va vn vc)).ownsRow w.heap.size 5 1 u m us := fun o => ownsRow_of_block o fun k hk => by
    have : k ≠ G := fun e => own_not o h.hg (by decide) (by rw [← e]; exact hk)
    rw [blk_setne _ _ _ this, blk_setne _ _ _ this]
  have hsz := h.sz
  refine ⟨by rw [blk_set (blk_set h.hg _ _)], by simp [hsz], ?_, ?_, (h.f2.set _ _ (.inr hG2)).set _ _ (.inr hG2), (h.fr.set _ _ (.inr hG)).set _ _ (.inr hG)⟩
  · intro c hc
    rw [Array.toList_setIfInBounds, Array.toList_setIfInBounds] at hc
    rcases List.mem_or_eq_of_mem_set hc with hc | hc
    · rcases List.mem_or_eq_of_mem_set hc with hc | hc
      · exact h.sl c hc
      · exact ⟨_, _, _, hc⟩
    · exact ⟨_, _, _, hc⟩
  · intro j y hj hy
    by_cases hji : j = i
    · subst hji
      rw [hx] at hy
      simp only [Option.some.injEq] at hy
      subst hy
      refine ⟨.slice ka kn kc, .slice va vn vc, ?_, ?_, hu r0, hu r1⟩
      · rw [Array.getElem?_setIfInBounds_ne (by omega), Array.getElem?_setIfInBounds_self_of_lt (by omega)]
      · rw [Array.getElem?_setIfInBounds_self_of_lt (by simp; omega)]
    · obtain ⟨kv, vv, c0, c1, s0, s1⟩ := h.dn j y (by omega) hy
      refine ⟨kv, vv, ?_, ?_, hu s0, hu s1⟩
      · rw [Array.getElem?_setIfInBounds_ne (by omega), Array.getElem?_setIfInBounds_ne (by omega)]; exact c0
      · rw [Array.getElem?_setIfInBounds_ne (by omega), Array.getElem?_setIfInBounds_ne (by omega)]; exact c1
set_option maxRecDepth 20000 in
set_option maxHeartbeats 3200000 in
theorem parse_own (w : World) {v : Value} {b : List Nat} (hr : Rd w v (bv b)) (hb : By b) (hl : b.length ≤ 1000000000) {ps : Ps} {r : Nat} (h : Blk b ps r) :
    Calls Tryz.prog 64 #[v] w fun e w' => ∃ v', e = .returned (.tuple #[v', .int .i64 0]) ∧ ColO w' w.heap.size v' ps ∧ Fr [] w w' := by
  have RC := hid (read_c w hr hb hl)
  have HN := hid h
  obtain ⟨a, c, hv⟩ := hr.form
  subst hv
  clear hr hb h
  generalize (bv b).length = vn at *
  go_enter Tryz.func64, Tryz.ntmps64
  go_wp2_with fail
  refine RC.out.mono ?_
  rintro e w1 ⟨⟨la, ln, lc, r', rfl, hno⟩ | ⟨ls, la, lc, r', rfl, hB⟩, f1⟩
  · exact absurd HN.out (hno _ _)
  · have HB := hid hB
    have hps : ps = psL ls := blk_one HN.out hB.blk (by omega)
    have HPS := hid hps
    have hln : ls.length ≤ 1000000000 := by have := hB.len; omega
    have F1 := hid f1
    clear hB hps f1 RC
    obtain ⟨W2, hW2⟩ : ∃ W, W = w1.alloc (.cells #[.slice la ls.length lc, .int .i64 (r' : Int)] 157) := ⟨_, rfl⟩
    have F12 : Hid (Fr [] w1 W2) := by refine hid ?_; rw [hW2]; exact (Fr.refl _ _).alloc _
    have C2 : Hid (W2.heap[w1.heap.size]? = some (.cells #[.slice la ls.length lc, .int .i64 (r' : Int)] 157 (0, 0))) := by refine hid ?_; rw [hW2]; exact blk_new _ _
    have hmk := makeKV_run W2 hln
    obtain ⟨W3, hW3⟩ : ∃ W, W = W2.alloc (.cells (madeCells #[.slice none 0 0, .slice none 0 0] (ls.length * 2)) 47) := ⟨_, rfl⟩
    have F23 : Hid (Fr [] W2 W3) := by refine hid ?_; rw [hW3]; exact (Fr.refl _ _).alloc _
    have P3 : Hid (PJ w W2 W3 ls W2.heap.size (madeCells #[.slice none 0 0, .slice none 0 0] (ls.length * 2)) 0) := by
      refine hid ⟨by rw [hW3]; exact blk_new _ _, size_madeCells _ _, ?_, fun j x hj => by omega, F23.out, F1.out.trans (F12.out.trans F23.out)⟩
      intro c hc
      simp only [madeCells, Array.toList_map, List.mem_map] at hc
      obtain ⟨k, _, rfl⟩ := hc
      have hk2 : k % 2 = 0 ∨ k % 2 = 1 := by omega
      simp only [List.size_toArray, List.length_cons, List.length_nil]
      rcases hk2 with e | e <;> (rw [show (0 + 1 + 1 : Nat) = 2 from rfl, e]; exact ⟨_, _, _, rfl⟩)
    have c3 : W3.cell? ⟨w1.heap.size, 0, none⟩ = some (.slice la ls.length lc) := by rw [blk_cell (F23.out.at C2.out (by simp))]; rfl
    have c2 : W2.cell? ⟨w1.heap.size, 0, none⟩ = some (.slice la ls.length lc) := by rw [blk_cell C2.out]; rfl
    rw [← hW3] at hmk
    have HRN := hid (HB.out.rd.fr F12.out)
    have HOK := hid HB.out.ok
    have hG : w.heap.size ≤ W2.heap.size := by have := F1.out.size; have := F12.out.size; omega
    clear hW3
    generalize hnl : ls.length = nl at *
    have HNL := hid hnl
    clear hnl
    go_upto_region 4 with fail
    rw [← hW2]
    clear hW2
    go_wp2_with fail
    clear hmk c2 c3
    go_loopw [23] (fun v23 wr => ∃ (i : Nat) (cur : Array Value), i ≤ nl ∧ v23 = .int .i64 (i : Int) ∧ PJ w W2 wr ls W2.heap.size cur i) (fun v23 _ => nl - (intOf v23).toNat)
    case atStart => exact ⟨0, _, Nat.zero_le _, rfl, P3.out⟩
    case round =>
      obtain ⟨i, cur, hi, rfl, hpi⟩ := hrel
      have HP := hid hpi
      clear hpi
      by_cases hlt : i < nl
      · have hil : i < ls.length := by rw [HNL.out]; exact hlt
        obtain ⟨a', c', hv', k1⟩ := HRN.out
        simp only [Value.slice.injEq] at hv'
        obtain ⟨rfl, hq, rfl⟩ := hv'
        clear hq
        obtain ⟨b', off, rfl, m1⟩ := k1 (by omega)
        obtain ⟨ka, kc, va, vc, P⟩ := m1 i _ (lnA_at hil)
        have ok := HOK.out _ (List.mem_of_getElem? (lnA_at hil))
        have z0 := cell_fr HP.out.f2 P.c0
        have z1 := cell_fr HP.out.f2 P.c1
        have z2 := cell_fr HP.out.f2 P.c2
        have z3 := cell_fr HP.out.f2 P.c3
        have hlx := lnA_at hil
        have HLX := hid hlx
        obtain ⟨W4, hW4⟩ : ∃ W, W = wr.alloc (.cells #[.int .i64 ((lnA ls i).pos : Int), .int .i64 ((lnA ls i).sh : Int), .slice ka (lnA ls i).key.length kc, .slice va (lnA ls i).val.length vc] 161) := ⟨_, rfl⟩
        have F4 : Hid (Fr [] wr W4) := by refine hid ?_; rw [hW4]; exact (Fr.refl _ _).alloc _
        have EC := hid (entry_c W4 (p := ((lnA ls i).pos : Int)) (s := ((lnA ls i).sh : Int)) ((P.rk.fr HP.out.f2).fr F4.out) ((P.rv.fr HP.out.f2).fr F4.out) (by have := ok.lk; omega) ok.lv)
        clear m1 k1 P ok hlx
        generalize lnA ls i = x at *
        go_wp2_with fail
        rw [← hW4]
        clear hW4
        refine EC.out.mono ?_
        rintro e W5 ⟨kv, vv, rfl, ent⟩
        obtain ⟨kka, kkc, rfl, _⟩ := ownsRow_slice ent.ok
        obtain ⟨vva, vvc, rfl, _⟩ := ownsRow_slice ent.ov
        have P5 := HP.out.quiet (F4.out.trans ent.fr)
        have sz := P5.sz
        have y0 : ∃ u, W5.cell? ⟨W2.heap.size, i * 2, none⟩ = some u := ⟨cur[i * 2]'(by omega), by rw [blk_cell P5.hg, Array.getElem?_eq_getElem (by omega)]⟩
        have y1 : ∃ u, W5.cell? ⟨W2.heap.size, i * 2 + 1, none⟩ = some u := ⟨cur[i * 2 + 1]'(by omega), by rw [blk_cell P5.hg, Array.getElem?_eq_getElem (by omega)]⟩
        obtain ⟨u0, y0⟩ := y0
        obtain ⟨u1, y1⟩ := y1
        have yf := blk_frozen P5.hg
        have P6 := hid (P5.put hil hG (Nat.le_refl _) HLX.out (own_base ent.ok (Nat.le_trans HP.out.fr.size F4.out.size)) (own_base ent.ov (Nat.le_trans HP.out.fr.size F4.out.size)))
        clear P5 ent EC sz
        go_wp2
        go_roundw
        case rel => exact ⟨i + 1, _, by omega, by go_num, P6.out⟩
        case measure => simp [intOf]; omega
      · have hie : i = nl := by omega
        subst hie
        go_wp2
        go_ret2
        refine ⟨_, rfl, ?_, HP.out.fr⟩
        have sz := HP.out.sz
        refine ⟨cur.toList, ⟨by simp [sz, HPS.out, psL_len], .inr ⟨W2.heap.size, i, cur, ?_, hG, HP.out.hg, ?_, ?_, ?_, ?_⟩⟩, ?_⟩
        · rw [HPS.out, psL_len, HNL.out]; rfl
        · rw [HPS.out, psL_len, HNL.out]; exact Nat.le_refl _
        · unfold maxLen; omega
        · rw [sz, HNL.out]
        · rw [HPS.out, psL_len, ← sz, List.take_of_length_le (by simp)]
        · intro j p hj
          rw [HPS.out] at hj
          unfold psL at hj
          rw [List.getElem?_map, Option.map_eq_some_iff] at hj
          obtain ⟨x, hx, rfl⟩ := hj
          have hjl : j < i := by
            rcases Nat.lt_or_ge j ls.length with h | h
            · rw [← HNL.out]; exact h
            · rw [List.getElem?_eq_none h] at hx; cases hx
          obtain ⟨kv, vv, c0, c1, r0, r1⟩ := HP.out.dn j x hjl hx
          have ok := HOK.out _ (List.mem_of_getElem? hx)
          exact ⟨kv, vv, by rw [Array.getElem?_toList]; exact c0, by rw [Array.getElem?_toList]; exact c1, r0, r1, ok.bk, ok.bv', by dsimp only; have := ok.lk; omega, by dsimp only; have := ok.lv; omega⟩
end Go.Proofs.YtnnookkcnmgbfaaGreat
namespace Go.Proofs.YtnnookkcnmgbfaaGreat
open Go.ChangeShapes Go.WideShapes Go.ChangeAt Go.RowKit

theorem ColO.base {W : World} {B B' : Nat} {v : Value} {ps : Ps} (h : ColO W B v ps) (hb : B' ≤ B) : ColO W B' v ps := by
  obtain ⟨cs, o, r⟩ := h
  refine ⟨cs, own_base o hb, fun j p hj => ?_⟩
  obtain ⟨kv, vv, c0, c1, r0, r1, b0⟩ := r j p hj
  exact ⟨kv, vv, c0, c1, own_base r0 hb, own_base r1 hb, b0⟩
/-- Pairs stay while blocks that are neither pairs nor bytes change. -/
theorem ColO.step {W W' : World} {B : Nat} {v : Value} {ps : Ps} (h : ColO W B v ps) (hs : ∀ (k : Nat) (cs : Array Value) (T : TypeId), W.heap[k]? = some (.cells cs T (0, 0)) → (T = 47 ∨ T = 5) → W'.heap[k]? = W.heap[k]?) : ColO W' B v ps := by
  obtain ⟨cs, o, r⟩ := h
  refine ⟨cs, ownsRow_of_block o fun k hk => ?_, fun j p hj => ?_⟩
  · rcases o.2 with ⟨rfl, _⟩ | ⟨g, cap, cur, rfl, _, h3, _⟩
    · simp [Value.ownBlock] at hk
    · simp [Value.ownBlock] at hk
      subst hk
      exact hs _ _ _ h3 (.inl rfl)
  · obtain ⟨kv, vv, c0, c1, r0, r1, b0⟩ := r j p hj
    refine ⟨kv, vv, c0, c1, ownsRow_of_block r0 fun k hk => ?_, ownsRow_of_block r1 fun k hk => ?_, b0⟩
    · rcases r0.2 with ⟨rfl, _⟩ | ⟨g, cap, cur, rfl, _, h3, _⟩
      · simp [Value.ownBlock] at hk
      · simp [Value.ownBlock] at hk
        subst hk
        exact hs _ _ _ h3 (.inr rfl)
    · rcases r1.2 with ⟨rfl, _⟩ | ⟨g, cap, cur, rfl, _, h3, _⟩
      · simp [Value.ownBlock] at hk
      · simp [Value.ownBlock] at hk
        subst hk
        exact hs _ _ _ h3 (.inr rfl)
theorem sevenO {W : World} {B : Nat} {v : Value} {ps : Ps} (h : ColO W B v ps) {nq g : Nat} {a0 a1 a2 a3 a4 a5 a6 : Value} (hg : W.heap[g]? = some (.cells #[.int .i64 0, .int .i64 0, .slice none 0 0, .slice none 0 0, .slice none 0 0, .bool false, .bool false] 112 (0, 0))) :
    ColO ((((((((W.drewN nq).setCell ⟨g, 0, none⟩ a0).setCell ⟨g, 1, none⟩ a1).setCell ⟨g, 2, none⟩ a2).setCell ⟨g, 3, none⟩ a3).setCell ⟨g, 4, none⟩ a4).setCell ⟨g, 5, none⟩ a5).setCell ⟨g, 6, none⟩ a6) B v ps := by
  have hs : ∀ k, k ≠ g → (((((((((W.drewN nq).setCell ⟨g, 0, none⟩ a0).setCell ⟨g, 1, none⟩ a1).setCell ⟨g, 2, none⟩ a2).setCell ⟨g, 3, none⟩ a3).setCell ⟨g, 4, none⟩ a4).setCell ⟨g, 5, none⟩ a5).setCell ⟨g, 6, none⟩ a6)).heap[k]? = W.heap[k]? := fun k hk => by
    rw [blk_setne _ _ _ hk, blk_setne _ _ _ hk, blk_setne _ _ _ hk, blk_setne _ _ _ hk, blk_setne _ _ _ hk, blk_setne _ _ _ hk, blk_setne _ _ _ hk]; rfl
  refine h.step (fun k cs T hk hT => hs k ?_)
  intro e
  subst e
  rw [hg] at hk
  simp only [Option.some.injEq, Obj.cells.injEq] at hk
  rcases hT with rfl | rfl
  · exact absurd hk.2.1 (by decide)
  · exact absurd hk.2.1 (by decide)
set_option maxRecDepth 20000 in
set_option maxHeartbeats 6400000 in
theorem look_own (w : World) {p : Nat} {dat flt : List Nat} {ips : Ps} {da fa : Option Addr} {dc fc G : Nat} (T : Tab w p dat flt ips da dc fa fc G) (hb : By dat) (hl : dat.length ≤ 1000000000) (t n : Nat) (ht : t + n + 4 ≤ dat.length) {la ua : Option Addr} {ln lc un uc : Nat} (hs : SumAt dat t n) {k : List Nat} (hk : Rd w (.slice la ln lc) (bv k)) (bk : By k) {qs : Ps} {r : Nat} (hq : Blk (wn dat t n) qs r) (hne : qs ≠ []) (hl' : lastK qs = k) :
    Calls Tryz.prog 54 #[.pointer (some ⟨p, 0, none⟩), .agg #[.int .i64 (t : Int), .int .i64 (n : Int), .slice la ln lc, .slice ua un uc]] w fun e w' => ∃ ev, e = .returned (.agg #[.int .i64 (t : Int), .int .i64 (n : Int), .slice la ln lc, .slice ua un uc, ev, .bool false, .bool false]) ∧ ColO w' w.heap.size ev qs ∧ Fr [] w w' := by
  rcases T.rd.split with ⟨e, _⟩ | ⟨q, o, c, e, _⟩
  · rw [e] at ht; simp at ht
  simp only [Value.slice.injEq] at e
  obtain ⟨rfl, _, rfl⟩ := e
  obtain ⟨W0, hW0⟩ : ∃ W0, W0 = (w.alloc (.cells #[.int .i64 (t : Int), .int .i64 (n : Int), .slice la ln lc, .slice ua un uc] 108)).alloc (.cells #[.int .i64 0, .int .i64 0, .slice none 0 0, .slice none 0 0, .slice none 0 0, .bool false, .bool false] 112) := ⟨_, rfl⟩
  have F0 : Hid (Fr [] w W0) := hid (by rw [hW0]; exact ((Fr.refl _ _).alloc _).alloc _)
  have n0 : Hid (W0.heap[w.heap.size]? = some (.cells #[.int .i64 (t : Int), .int .i64 (n : Int), .slice la ln lc, .slice ua un uc] 108 (0, 0))) := hid (by rw [hW0, blk_old _ _ (by simp)]; exact blk_new _ _)
  have n1 : Hid (W0.heap[w.heap.size + 1]? = some (.cells #[.int .i64 0, .int .i64 0, .slice none 0 0, .slice none 0 0, .slice none 0 0, .bool false, .bool false] 112 (0, 0))) := hid (by rw [hW0]; exact new_at _ _ (by simp))
  have T0 := T.fr F0.out
  have c0 : W0.cell? ⟨p, 0, none⟩ = some (.slice (some ⟨q, o, none⟩) dat.length dc) := by rw [blk_cell T0.at']; rfl
  have s0 : W0.cell? ⟨w.heap.size, 0, none⟩ = some (.int .i64 (t : Int)) := by rw [blk_cell n0.out]; rfl
  have s1 : W0.cell? ⟨w.heap.size, 1, none⟩ = some (.int .i64 (n : Int)) := by rw [blk_cell n0.out]; rfl
  have US := hid (unsealed_c W0.drew (T0.rd.fr (Fr.refl _ _).drew) hb hl t n ht true (Iff.intro (fun _ => hs) (fun _ => rfl)))
  have RW : Hid (∀ W, Fr [] W0 W → Rd W (.slice (some ⟨q, o + t, none⟩) n (dc - t)) (bv (wn dat t n))) := hid (fun W f => (T0.rd.fr f).win (by omega))
  have BW := hid (wn_by hb t n)
  have hwl : (wn dat t n).length ≤ 1000000000 := by rw [wn_len (by omega)]; omega
  have wt : IntKind.u64.wrap (t : Int) = (t : Int) := wrap64_nat (by omega)
  have wn' : IntKind.u64.wrap (n : Int) = (n : Int) := wrap64_nat (by omega)
  have PN : Hid (∀ W, Fr [] W0 W → _) := hid (fun W f => parse_own W (RW.out W f) BW.out hwl hq)
  have HK := hid (hk.fr F0.out)
  have BK := hid bk
  have HL := hid hl'
  have hpos : 0 < qs.length := List.length_pos_iff.2 hne
  have hcn := Nat.le_trans (blk_count hq) hwl
  have BQ : Hid (By (kA qs (qs.length - 1)) ∧ True) := hid ⟨(blk_byp hq (wn_by hb t n) (qs.length - 1)).1, trivial⟩
  clear T T0 hb hs hq hk bk hne hl'
  generalize dat.length = L at *
  have CC : Hid (∀ W, Fr [] W0 W → W.cell? ⟨w.heap.size, 0, none⟩ = some (.int .i64 (t : Int)) ∧ W.cell? ⟨w.heap.size, 1, none⟩ = some (.int .i64 (n : Int)) ∧ W.cell? ⟨w.heap.size, 2, none⟩ = some (.slice la ln lc) ∧ W.cell? ⟨w.heap.size, 3, none⟩ = some (.slice ua un uc) ∧ W.cell? ⟨w.heap.size + 1, 0, none⟩ = some (.int .i64 0) ∧ W.cell? ⟨w.heap.size + 1, 1, none⟩ = some (.int .i64 0) ∧ W.cell? ⟨w.heap.size + 1, 2, none⟩ = some (.slice none 0 0) ∧ W.cell? ⟨w.heap.size + 1, 3, none⟩ = some (.slice none 0 0) ∧ W.cell? ⟨w.heap.size + 1, 4, none⟩ = some (.slice none 0 0) ∧ W.cell? ⟨w.heap.size + 1, 5, none⟩ = some (.bool false) ∧ W.cell? ⟨w.heap.size + 1, 6, none⟩ = some (.bool false) ∧ (∀ i, W.frozen? ⟨w.heap.size + 1, i, none⟩ = false) ∧ W.heap[w.heap.size + 1]? = some (.cells #[.int .i64 0, .int .i64 0, .slice none 0 0, .slice none 0 0, .slice none 0 0, .bool false, .bool false] 112 (0, 0))) := hid (fun W f => by
    have k0 := f.at n0.out (by simp)
    have k1 := f.at n1.out (by simp)
    exact ⟨by rw [blk_cell k0]; rfl, by rw [blk_cell k0]; rfl, by rw [blk_cell k0]; rfl, by rw [blk_cell k0]; rfl, by rw [blk_cell k1]; rfl, by rw [blk_cell k1]; rfl, by rw [blk_cell k1]; rfl, by rw [blk_cell k1]; rfl, by rw [blk_cell k1]; rfl, by rw [blk_cell k1]; rfl, by rw [blk_cell k1]; rfl, blk_frozen k1, k1⟩)
  go_enter Tryz.func54, Tryz.ntmps54
  go_upto_region 1 with fail
  rw [← hW0]
  clear hW0
  have hN : w.heap.size ≤ w.heap.size + 1 := by omega
  have SK : Hid (∀ w', Fr [] W0 w' → (fun w' => w'.cell? ⟨p, 0, none⟩ = some (.slice (some ⟨q, o, none⟩) L dc) ∧ w'.cell? ⟨w.heap.size, 0, none⟩ = some (.int .i64 (t : Int)) ∧ w'.cell? ⟨w.heap.size, 1, none⟩ = some (.int .i64 (n : Int))) w') := hid (fun w' f => ⟨cell_fr f c0, cell_fr f s0, cell_fr f s1⟩)
  clear c0 s0 s1
  refine wp_region_held_drew (S := fun w' => w'.cell? ⟨p, 0, none⟩ = some (.slice (some ⟨q, o, none⟩) L dc) ∧ w'.cell? ⟨w.heap.size, 0, none⟩ = some (.int .i64 (t : Int)) ∧ w'.cell? ⟨w.heap.size, 1, none⟩ = some (.int .i64 (n : Int))) (by kernel_rfl) (SK.out _ (Fr.refl [] W0).drew) (fun hS => ?_)
  refine wpAnyH_take (i := 0) (v := .pointer (some ⟨p, 0, none⟩)) rfl (by kernel_rfl) (by kernel_rfl) (by kernel_rfl) (fun _ _ _ h => h) (.inl ⟨by rfl, fun wx _ => by go_simp⟩) hS ?_
  simp only [Act.put]
  refine wpAnyH_take (i := 1) (v := .pointer (some ⟨p, 0, none⟩)) rfl (by kernel_rfl) (by kernel_rfl) (by kernel_rfl) (fun _ _ _ h => h) (.inl ⟨by rfl, fun wx _ => by go_simp⟩) hS ?_
  simp only [Act.put]
  refine wpAnyH_take (i := 2) (v := .pointer (some ⟨p, 0, none⟩)) rfl (by kernel_rfl) (by kernel_rfl) (by kernel_rfl) (fun _ _ _ h => h) (.inl ⟨by rfl, fun wx _ => by go_simp⟩) hS ?_
  simp only [Act.put]
  refine wpAnyH_take (i := 3) (v := .slice (some ⟨q, o, none⟩) L dc) rfl (by kernel_rfl) (by kernel_rfl) (by kernel_rfl) (fun _ _ _ h => h) (.inl ⟨by rfl, fun wx hX => by obtain ⟨x0, x1, x2⟩ := hX; go_simp⟩) hS ?_
  simp only [Act.put]
  refine wpAnyH_take (i := 4) (v := .pointer (some ⟨w.heap.size, 0, none⟩)) rfl (by kernel_rfl) (by kernel_rfl) (by kernel_rfl) (fun _ _ _ h => h) (.inl ⟨by rfl, fun wx _ => by go_simp⟩) hS ?_
  simp only [Act.put]
  refine wpAnyH_take (i := 5) (v := .int .i64 (t : Int)) rfl (by kernel_rfl) (by kernel_rfl) (by kernel_rfl) (fun _ _ _ h => h) (.inl ⟨by rfl, fun wx hX => by obtain ⟨x0, x1, x2⟩ := hX; go_simp⟩) hS ?_
  simp only [Act.put]
  refine wpAnyH_take (i := 6) (v := .int .u64 (t : Int)) rfl (by kernel_rfl) (by kernel_rfl) (by kernel_rfl) (fun _ _ _ h => h) (.inl ⟨by rfl, fun wx _ => by go_simp⟩) hS ?_
  simp only [Act.put]
  refine wpAnyH_take (i := 7) (v := .pointer (some ⟨w.heap.size, 1, none⟩)) rfl (by kernel_rfl) (by kernel_rfl) (by kernel_rfl) (fun _ _ _ h => h) (.inl ⟨by rfl, fun wx _ => by go_simp⟩) hS ?_
  simp only [Act.put]
  refine wpAnyH_take (i := 8) (v := .int .i64 (n : Int)) rfl (by kernel_rfl) (by kernel_rfl) (by kernel_rfl) (fun _ _ _ h => h) (.inl ⟨by rfl, fun wx hX => by obtain ⟨x0, x1, x2⟩ := hX; go_simp⟩) hS ?_
  simp only [Act.put]
  refine wpAnyH_take (i := 9) (v := .int .u64 (n : Int)) rfl (by kernel_rfl) (by kernel_rfl) (by kernel_rfl) (fun _ _ _ h => h) (.inl ⟨by rfl, fun wx _ => by go_simp⟩) hS ?_
  simp only [Act.put]
  refine wpAnyH_take (i := 10) (v := .agg #[.int .u64 (t : Int), .int .u64 (n : Int)]) rfl (by kernel_rfl) (by kernel_rfl) (by kernel_rfl) (fun _ _ _ h => h) (.inl ⟨by rfl, fun wx _ => by go_simp⟩) hS ?_
  simp only [Act.put]
  clear hS
  refine wpAnyH_ready (rs := [11]) (by kernel_rfl) (by simp) ?_
  refine AllReadyH.cons rfl (fun K hK => ?_) AllReadyH.nil
  go_simp
  refine US.out.mono ?_
  rintro e W1 ⟨rfl, f1⟩
  have F1 := hid ((Fr.refl [] W0).drew.trans f1)
  have hS1 := SK.out _ F1.out
  refine hK.out _ _ hS1 (fun _ => ?_)
  clear hK K
  refine wpAnyH_take (i := 12) (v := .tuple #[.slice (some ⟨q, o + t, none⟩) n (dc - t), .bool true]) rfl (by kernel_rfl) (by kernel_rfl) (by kernel_rfl) (fun _ _ _ h => h) (.inl ⟨by rfl, fun wx _ => by go_simp⟩) hS1 ?_
  simp only [Act.put]
  refine wpAnyH_take (i := 13) (v := .slice (some ⟨q, o + t, none⟩) n (dc - t)) rfl (by kernel_rfl) (by kernel_rfl) (by kernel_rfl) (fun _ _ _ h => h) (.inl ⟨by rfl, fun wx _ => by go_simp⟩) hS1 ?_
  simp only [Act.put]
  refine wpAnyH_take (i := 14) (v := .bool true) rfl (by kernel_rfl) (by kernel_rfl) (by kernel_rfl) (fun _ _ _ h => h) (.inl ⟨by rfl, fun wx _ => by go_simp⟩) hS1 ?_
  simp only [Act.put]
  refine wpAnyH_ready (rs := [15]) (by kernel_rfl) (by simp) ?_
  refine AllReadyH.cons rfl (fun K hK => ?_) AllReadyH.nil
  go_simp
  refine hK.out _ _ hS1 (fun _ => ?_)
  clear hK K
  refine wpAnyH_ready (rs := [16]) (by kernel_rfl) (by simp) ?_
  refine AllReadyH.cons rfl (fun K hK => ?_) AllReadyH.nil
  go_simp
  refine hK.out _ _ hS1 (fun _ => ?_)
  clear hK K
  clear hS1 SK
  refine wpAnyH_done (by kernel_rfl) ?_ _
  go_upto_region 5 with (go_at_call 64; refine (PN.out W1 F1.out).mono ?_; rintro e W2 ⟨lv, rfl, ck, f2⟩; have CK := hid ck; have F2 := hid (F1.out.trans f2); clear f2 ck)
  obtain ⟨ea, ec, hlv, hec, kk⟩ := CK.out.rd
  obtain ⟨eb, eo, hea, kp⟩ := kk hpos
  subst hlv
  subst hea
  obtain ⟨ka, kc, va, vc, PP⟩ := kp (qs.length - 1) _ (ps_at (by omega))
  have z1 := PP.ck
  have RKK := hid PP.rk
  dsimp only at z1 RKK
  have EQ : Hid (∀ m, Calls Tryz.prog 58 #[.slice ka (kA qs (qs.length - 1)).length kc, .slice la ln lc] (W2.drewN m) fun e w' => e = .returned (.bool true) ∧ w' = W2.drewN m) := hid (fun m => by
    have := bytesEqual_c (w := W2.drewN m) (RKK.out.fr ((Fr.refl _ _).drewN m)) ((HK.out.fr F2.out).fr ((Fr.refl _ _).drewN m)) BQ.out.1 BK.out
    rw [decide_eq_true (show kA qs (qs.length - 1) = k from HL.out)] at this
    exact this)
  clear kk kp PP
  obtain ⟨qn, hqn⟩ : ∃ qn, qn = qs.length := ⟨_, rfl⟩
  have HQN := hid hqn
  rw [← hqn] at hpos hec z1 EQ hcn ⊢
  generalize (kA qs (qn - 1)).length = kl at *
  clear hqn
  have g0 : ((qn : Int) == 0) = false := by rw [beq_eq_false_iff_ne]; omega
  have g1 : ((qn : Int) - 1).toNat = qn - 1 := by omega
  have g2 : (0 : Int) ≤ (qn : Int) - 1 := by omega
  have g3 : (qn : Int) - 1 < (qn : Int) := by omega
  have g4 : IntKind.i64.wrap ((qn : Int) - 1) = (qn : Int) - 1 := by rw [IntKind.wrap_i64]; omega
  have g5 : qn - 1 < qn := by omega
  obtain ⟨a0, a1, a2, a3, b0, b1, b2, b3, b4, b5, b6, bf, m1⟩ := CC.out W2 F2.out
  have HM1 := hid m1
  clear m1 CC
  go_quiet ((go_at_call 58; exact Calls.quiet_of_same (EQ.out _)))
  go_wp2
  refine bodyPost_ret (v := .agg #[.int .i64 (t : Int), .int .i64 (n : Int), .slice la ln lc, .slice ua un uc, .slice (some ⟨eb, eo, none⟩) qn ec, .bool false, .bool false]) (results_cell_row rfl _ _ (w.heap.size + 1) 112 _ (0, 0) _ (by simp) (by rw [blk_set (blk_set (blk_set (blk_set (blk_set (blk_set (blk_set (show (W2.drewN nq).heap[w.heap.size + 1]? = _ from HM1.out) 0 _) 1 _) 2 _) 3 _) 4 _) 5 _) 6 _]; rfl) Tryz.underlying112 rfl sizeSg) rfl ?_
  have ck := CK.out
  rw [← HQN.out] at ck
  have hsz : w.heap.size ≤ W1.heap.size := Nat.le_trans F0.out.size F1.out.size
  refine ⟨_, rfl, ?_, ((((((((F0.out.trans F2.out).drewN _).set _ _ (.inr hN)).set _ _ (.inr hN)).set _ _ (.inr hN)).set _ _ (.inr hN)).set _ _ (.inr hN)).set _ _ (.inr hN)).set _ _ (.inr hN)⟩
  refine (sevenO (ColO.base ck hsz) (nq := nq) (g := w.heap.size + 1) HM1.out)
end Go.Proofs.YtnnookkcnmgbfaaGreat
