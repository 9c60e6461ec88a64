/-
  Package block: Parse, its entries' bytes of the call's own.
-/
import Derived.Test.YtdlnfcepknoigaaJ35
import Derived.Test.YtdlnfcepknoigaaTB
import Derived.Test.YtdlnfcepknoigaaJ13
namespace Go.Proofs.Ytdlnfcepknoigaa
open Go.ChangeShapes Go.WideShapes Go.ChangeAt Go.RowKit

/-- What Parse holds ahead of its i-th line. -/
structure PJ (w w2 wr : World) (ls : List Ln) (G : Nat) (cur : Array Value) (i : Nat) : Prop where
  hg : wr.heap[G]? = some (.cells cur 40 (0, 0))
  sz : cur.size = ls.length * 2
  sl : ∀ c ∈ cur.toList, ∃ a n k, c = Value.slice a n k
  dn : ∀ (j : Nat) (x : Ln), j < i → ls[j]? = some x → ∃ kv vv, cur[j * 2]? = some kv ∧ cur[j * 2 + 1]? = some vv ∧ wr.ownsRow w.heap.size 5 1 kv x.key.length (bv x.key) ∧ wr.ownsRow w.heap.size 5 1 vv x.val.length (bv x.val)
  f2 : Fr [] w2 wr
  fr : Fr [] w wr
theorem PJ.quiet {w w2 wr w' : World} {ls : List Ln} {G : Nat} {cur : Array Value} {i : Nat} (h : PJ w w2 wr ls G cur i) (f : Fr [] wr w') : PJ w w2 w' ls G cur i :=
  ⟨f.at h.hg (by simp), h.sz, h.sl, fun j x hj hx => by
    obtain ⟨kv, vv, c0, c1, r0, r1⟩ := h.dn j x hj hx
    exact ⟨kv, vv, c0, c1, ownsRow_fr r0 f, ownsRow_fr r1 f⟩, h.f2.trans f, h.fr.trans f⟩
theorem PJ.put {w w2 wr : World} {ls : List Ln} {G : Nat} {cur : Array Value} {i : Nat} (h : PJ w w2 wr ls G cur i) (hi : i < ls.length) (hG : w.heap.size ≤ G) (hG2 : w2.heap.size ≤ G) {x : Ln} (hx : ls[i]? = some x) {ka va : Option Addr} {kn kc vn vc : Nat} (r0 : wr.ownsRow w.heap.size 5 1 (.slice ka kn kc) x.key.length (bv x.key)) (r1 : wr.ownsRow w.heap.size 5 1 (.slice va vn vc) x.val.length (bv x.val)) :
    PJ w w2 ((wr.setCell ⟨G, i * 2, none⟩ (.slice ka kn kc)).setCell ⟨G, i * 2 + 1, none⟩ (.slice va vn vc)) ls G ((cur.setIfInBounds (i * 2) (.slice ka kn kc)).setIfInBounds (i * 2 + 1) (.slice va vn vc)) (i + 1) := by
  have hu : ∀ {u : Value} {m : Nat} {us : List Value}, wr.ownsRow w.heap.size 5 1 u m us → ((wr.setCell ⟨G, i * 2, none⟩ (.slice ka kn kc)).setCell ⟨G, i * 2 + 1, none⟩ (.slice va vn vc)).ownsRow w.heap.size 5 1 u m us := fun o => ownsRow_of_block o fun k hk => by
    have : k ≠ G := fun e => own_not o h.hg (by decide) (by rw [← e]; exact hk)
    rw [blk_setne _ _ _ this, blk_setne _ _ _ this]
  have hsz := h.sz
  refine ⟨by rw [blk_set (blk_set h.hg _ _)], by simp [hsz], ?_, ?_, (h.f2.set _ _ (.inr hG2)).set _ _ (.inr hG2), (h.fr.set _ _ (.inr hG)).set _ _ (.inr hG)⟩
  · intro c hc
    rw [Array.toList_setIfInBounds, Array.toList_setIfInBounds] at hc
    rcases List.mem_or_eq_of_mem_set hc with hc | hc
    · rcases List.mem_or_eq_of_mem_set hc with hc | hc
      · exact h.sl c hc
      · exact ⟨_, _, _, hc⟩
    · exact ⟨_, _, _, hc⟩
  · intro j y hj hy
    by_cases hji : j = i
    · subst hji
      rw [hx] at hy
      simp only [Option.some.injEq] at hy
      subst hy
      refine ⟨.slice ka kn kc, .slice va vn vc, ?_, ?_, hu r0, hu r1⟩
      · rw [Array.getElem?_setIfInBounds_ne (by omega), Array.getElem?_setIfInBounds_self_of_lt (by omega)]
      · rw [Array.getElem?_setIfInBounds_self_of_lt (by simp; omega)]
    · obtain ⟨kv, vv, c0, c1, s0, s1⟩ := h.dn j y (by omega) hy
      refine ⟨kv, vv, ?_, ?_, hu s0, hu s1⟩
      · rw [Array.getElem?_setIfInBounds_ne (by omega), Array.getElem?_setIfInBounds_ne (by omega)]; exact c0
      · rw [Array.getElem?_setIfInBounds_ne (by omega), Array.getElem?_setIfInBounds_ne (by omega)]; exact c1
set_option maxRecDepth 20000 in
set_option maxHeartbeats 3200000 in
theorem parse_own (w : World) {v : Value} {b : List Nat} (hr : Rd w v (bv b)) (hb : By b) (hl : b.length ≤ 1000000000) {ps : Ps} {r : Nat} (h : Blk b ps r) :
    Calls Try.prog 12 #[v] w fun e w' => ∃ v', e = .returned (.tuple #[v', .int .i64 0]) ∧ ColO w' w.heap.size v' ps ∧ Fr [] w w' := by
  have RC := hid (read_c w hr hb hl)
  have HN := hid h
  obtain ⟨a, c, hv⟩ := hr.form
  subst hv
  clear hr hb h
  generalize (bv b).length = vn at *
  go_enter Try.func12, Try.ntmps12
  go_wp2_with fail
  refine RC.out.mono ?_
  rintro e w1 ⟨⟨la, ln, lc, r', rfl, hno⟩ | ⟨ls, la, lc, r', rfl, hB⟩, f1⟩
  · exact absurd HN.out (hno _ _)
  · have HB := hid hB
    have hps : ps = psL ls := blk_one HN.out hB.blk (by omega)
    have HPS := hid hps
    have hln : ls.length ≤ 1000000000 := by have := hB.len; omega
    have F1 := hid f1
    clear hB hps f1 RC
    obtain ⟨W2, hW2⟩ : ∃ W, W = w1.alloc (.cells #[.slice la ls.length lc, .int .i64 (r' : Int)] 56) := ⟨_, rfl⟩
    have F12 : Hid (Fr [] w1 W2) := by refine hid ?_; rw [hW2]; exact (Fr.refl _ _).alloc _
    have C2 : Hid (W2.heap[w1.heap.size]? = some (.cells #[.slice la ls.length lc, .int .i64 (r' : Int)] 56 (0, 0))) := by refine hid ?_; rw [hW2]; exact blk_new _ _
    have hmk := makeKV_run W2 hln
    obtain ⟨W3, hW3⟩ : ∃ W, W = W2.alloc (.cells (madeCells #[.slice none 0 0, .slice none 0 0] (ls.length * 2)) 40) := ⟨_, rfl⟩
    have F23 : Hid (Fr [] W2 W3) := by refine hid ?_; rw [hW3]; exact (Fr.refl _ _).alloc _
    have P3 : Hid (PJ w W2 W3 ls W2.heap.size (madeCells #[.slice none 0 0, .slice none 0 0] (ls.length * 2)) 0) := by
      refine hid ⟨by rw [hW3]; exact blk_new _ _, size_madeCells _ _, ?_, fun j x hj => by omega, F23.out, F1.out.trans (F12.out.trans F23.out)⟩
      intro c hc
      simp only [madeCells, Array.toList_map, List.mem_map] at hc
      obtain ⟨k, _, rfl⟩ := hc
      have hk2 : k % 2 = 0 ∨ k % 2 = 1 := by omega
      simp only [List.size_toArray, List.length_cons, List.length_nil]
      rcases hk2 with e | e <;> (rw [show (0 + 1 + 1 : Nat) = 2 from rfl, e]; exact ⟨_, _, _, rfl⟩)
    have c3 : W3.cell? ⟨w1.heap.size, 0, none⟩ = some (.slice la ls.length lc) := by rw [blk_cell (F23.out.at C2.out (by simp))]; rfl
    have c2 : W2.cell? ⟨w1.heap.size, 0, none⟩ = some (.slice la ls.length lc) := by rw [blk_cell C2.out]; rfl
    rw [← hW3] at hmk
    have HRN := hid (HB.out.rd.fr F12.out)
    have HOK := hid HB.out.ok
    have hG : w.heap.size ≤ W2.heap.size := by have := F1.out.size; have := F12.out.size; omega
    clear hW3
    generalize hnl : ls.length = nl at *
    have HNL := hid hnl
    clear hnl
    go_upto_region 4 with fail
    rw [← hW2]
    clear hW2
    go_wp2_with fail
    clear hmk c2 c3
    go_loopw [23] (fun v23 wr => ∃ (i : Nat) (cur : Array Value), i ≤ nl ∧ v23 = .int .i64 (i : Int) ∧ PJ w W2 wr ls W2.heap.size cur i) (fun v23 _ => nl - (intOf v23).toNat)
    case atStart => exact ⟨0, _, Nat.zero_le _, rfl, P3.out⟩
    case round =>
      obtain ⟨i, cur, hi, rfl, hpi⟩ := hrel
      have HP := hid hpi
      clear hpi
      by_cases hlt : i < nl
      · have hil : i < ls.length := by rw [HNL.out]; exact hlt
        obtain ⟨a', c', hv', k1⟩ := HRN.out
        simp only [Value.slice.injEq] at hv'
        obtain ⟨rfl, hq, rfl⟩ := hv'
        clear hq
        obtain ⟨b', off, rfl, m1⟩ := k1 (by omega)
        obtain ⟨ka, kc, va, vc, P⟩ := m1 i _ (lnA_at hil)
        have ok := HOK.out _ (List.mem_of_getElem? (lnA_at hil))
        have z0 := cell_fr HP.out.f2 P.c0
        have z1 := cell_fr HP.out.f2 P.c1
        have z2 := cell_fr HP.out.f2 P.c2
        have z3 := cell_fr HP.out.f2 P.c3
        have hlx := lnA_at hil
        have HLX := hid hlx
        obtain ⟨W4, hW4⟩ : ∃ W, W = wr.alloc (.cells #[.int .i64 ((lnA ls i).pos : Int), .int .i64 ((lnA ls i).sh : Int), .slice ka (lnA ls i).key.length kc, .slice va (lnA ls i).val.length vc] 60) := ⟨_, rfl⟩
        have F4 : Hid (Fr [] wr W4) := by refine hid ?_; rw [hW4]; exact (Fr.refl _ _).alloc _
        have EC := hid (entry_c W4 (p := ((lnA ls i).pos : Int)) (s := ((lnA ls i).sh : Int)) ((P.rk.fr HP.out.f2).fr F4.out) ((P.rv.fr HP.out.f2).fr F4.out) (by have := ok.lk; omega) ok.lv)
        clear m1 k1 P ok hlx
        generalize lnA ls i = x at *
        go_wp2_with fail
        rw [← hW4]
        clear hW4
        refine EC.out.mono ?_
        rintro e W5 ⟨kv, vv, rfl, ent⟩
        obtain ⟨kka, kkc, rfl, _⟩ := ownsRow_slice ent.ok
        obtain ⟨vva, vvc, rfl, _⟩ := ownsRow_slice ent.ov
        have P5 := HP.out.quiet (F4.out.trans ent.fr)
        have sz := P5.sz
        have y0 : ∃ u, W5.cell? ⟨W2.heap.size, i * 2, none⟩ = some u := ⟨cur[i * 2]'(by omega), by rw [blk_cell P5.hg, Array.getElem?_eq_getElem (by omega)]⟩
        have y1 : ∃ u, W5.cell? ⟨W2.heap.size, i * 2 + 1, none⟩ = some u := ⟨cur[i * 2 + 1]'(by omega), by rw [blk_cell P5.hg, Array.getElem?_eq_getElem (by omega)]⟩
        obtain ⟨u0, y0⟩ := y0
        obtain ⟨u1, y1⟩ := y1
        have yf := blk_frozen P5.hg
        have P6 := hid (P5.put hil hG (Nat.le_refl _) HLX.out (own_base ent.ok (Nat.le_trans HP.out.fr.size F4.out.size)) (own_base ent.ov (Nat.le_trans HP.out.fr.size F4.out.size)))
        clear P5 ent EC sz
        go_wp2
        go_roundw
        case rel => exact ⟨i + 1, _, by omega, by go_num, P6.out⟩
        case measure => simp [intOf]; omega
      · have hie : i = nl := by omega
        subst hie
        go_wp2
        go_ret2
        refine ⟨_, rfl, ?_, HP.out.fr⟩
        have sz := HP.out.sz
        refine ⟨cur.toList, ⟨by simp [sz, HPS.out, psL_len], .inr ⟨W2.heap.size, i, cur, ?_, hG, HP.out.hg, ?_, ?_, ?_, ?_⟩⟩, ?_⟩
        · rw [HPS.out, psL_len, HNL.out]; rfl
        · rw [HPS.out, psL_len, HNL.out]; exact Nat.le_refl _
        · unfold maxLen; omega
        · rw [sz, HNL.out]
        · rw [HPS.out, psL_len, ← sz, List.take_of_length_le (by simp)]
        · intro j p hj
          rw [HPS.out] at hj
          unfold psL at hj
          rw [List.getElem?_map, Option.map_eq_some_iff] at hj
          obtain ⟨x, hx, rfl⟩ := hj
          have hjl : j < i := by
            rcases Nat.lt_or_ge j ls.length with h | h
            · rw [← HNL.out]; exact h
            · rw [List.getElem?_eq_none h] at hx; cases hx
          obtain ⟨kv, vv, c0, c1, r0, r1⟩ := HP.out.dn j x hjl hx
          have ok := HOK.out _ (List.mem_of_getElem? hx)
          exact ⟨kv, vv, by rw [Array.getElem?_toList]; exact c0, by rw [Array.getElem?_toList]; exact c1, r0, r1, ok.bk, ok.bv', by dsimp only; have := ok.lk; omega, by dsimp only; have := ok.lv; omega⟩
end Go.Proofs.Ytdlnfcepknoigaa
namespace Go.Proofs.Ytdlnfcepknoigaa
open Go.ChangeShapes Go.WideShapes Go.ChangeAt Go.RowKit

set_option maxRecDepth 20000 in
set_option maxHeartbeats 4000000 in
theorem kvs_c {w : World} {v1 v2 : Value} {ps : Ps} (h1 : RdK w v1 ps) (h2 : RdK w v2 ps) (hl : ps.length ≤ 1000000) :
    Calls Try.prog 11 #[v1, v2] w fun e w' => e = .returned (.bool true) ∧ Fr [] w w' := by
  obtain ⟨a1, c1, rfl, _, k1⟩ := h1
  obtain ⟨a2, c2, rfl, _, k2⟩ := h2
  have H1 := hid k1
  have H2 := hid k2
  clear k1 k2
  obtain ⟨n, hn⟩ : ∃ n, n = ps.length := ⟨_, rfl⟩
  have HN := hid hn
  rw [← hn] at hl ⊢
  clear hn
  go_enter Try.func11, Try.ntmps11
  go_wp2_with fail
  go_loopw [5] (fun v5 wr => ∃ k : Nat, k ≤ n ∧ v5 = .int .i64 (k : Int) ∧ Fr [] w wr) (fun v5 _ => n - (intOf v5).toNat)
  case atStart => exact ⟨0, Nat.zero_le _, rfl, Fr.refl _ _⟩
  case round =>
    obtain ⟨k, hk, rfl, hf⟩ := hrel
    have HF := hid hf
    clear hf
    by_cases hlt : k < n
    · obtain ⟨p, hp⟩ : ∃ p, ps[k]? = some p := ⟨_, List.getElem?_eq_getElem (by rw [← HN.out]; exact hlt)⟩
      obtain ⟨b1, o1, rfl, m1⟩ := H1.out (by have := HN.out; omega)
      obtain ⟨b2, o2, rfl, m2⟩ := H2.out (by have := HN.out; omega)
      obtain ⟨ka1, kc1, va1, vc1, P1⟩ := m1 k p hp
      obtain ⟨ka2, kc2, va2, vc2, P2⟩ := m2 k p hp
      have hs1 : ((strOf p.1).toList == (strOf p.1).toList) = true := (by simp)
      have hs2 : ((strOf p.2).toList == (strOf p.2).toList) = true := (by simp)
      have z1 := cell_fr HF.out P1.ck
      have z2 := cell_fr HF.out P1.cv
      have z3 := cell_fr HF.out P2.ck
      have z4 := cell_fr HF.out P2.cv
      have g1 := fun m : Nat => run_conv ((P1.rk.fr HF.out).fr ((Fr.refl [] wr).drewN m))
      have g2 := fun m : Nat => run_conv ((P1.rv.fr HF.out).fr ((Fr.refl [] wr).drewN m))
      have g3 := fun m : Nat => run_conv ((P2.rk.fr HF.out).fr ((Fr.refl [] wr).drewN m))
      have g4 := fun m : Nat => run_conv ((P2.rv.fr HF.out).fr ((Fr.refl [] wr).drewN m))
      have hlt' : (k : Int) < (n : Int) := by omega
      clear m1 m2 hp P1 P2
      generalize p.1.length = l1 at *
      generalize p.2.length = l2 at *
      generalize strOf p.1 = s1 at *
      generalize strOf p.2 = s2 at *
      go_upto_region 6 with fail
      go_quiet (fail)
      go_wp2
      go_roundw
      case rel => exact ⟨k + 1, by omega, by go_num, HF.out.drewN _⟩
      case measure => simp [intOf]; omega
    · have hk' : k = n := by omega
      subst hk'
      go_wp2
      go_ret
      exact ⟨rfl, HF.out⟩
theorem RdK.one {w : World} {b off n c : Nat} {ps : Ps} (h : RdK w (.slice (some ⟨b, off, none⟩) n c) ps) {i : Nat} (hi : i < ps.length) : RdK w (.slice (some ⟨b, off + i * 2, none⟩) 1 (c - i)) [(kA ps i, vA ps i)] := by
  obtain ⟨a, c', e, hc, k1⟩ := h
  obtain ⟨b', off', e', m1⟩ := k1 (by omega)
  subst e'
  simp only [Value.slice.injEq, Option.some.injEq, Addr.mk.injEq] at e
  obtain ⟨⟨rfl, rfl, _⟩, _, rfl⟩ := e
  refine ⟨_, _, rfl, by simp; omega, fun _ => ⟨_, _, rfl, fun j p hj => ?_⟩⟩
  have h0 : j = 0 := by
    rcases Nat.lt_or_ge j 1 with h | h
    · omega
    · rw [List.getElem?_eq_none (by simpa using h)] at hj; cases hj
  subst h0
  simp at hj
  subst hj
  have := m1 i _ (ps_at hi)
  simpa using this
theorem RdK.lit {w : World} {X : Nat} {ka va : Option Addr} {kc vc : Nat} {k v : List Nat} (hX : w.heap[X]? = some (.cells #[.slice ka k.length kc, .slice va v.length vc] 40 (0, 0))) (rk : Rd w (.slice ka k.length kc) (bv k)) (rv : Rd w (.slice va v.length vc) (bv v)) (bk : By k) (bv' : By v) (lk : k.length ≤ 140737488355328) (lv : v.length ≤ 140737488355328) : RdK w (.slice (some ⟨X, 0, none⟩) 1 1) [(k, v)] := by
  refine ⟨_, _, rfl, Nat.le_refl _, fun _ => ⟨_, _, rfl, fun j p hj => ?_⟩⟩
  have h0 : j = 0 := by
    rcases Nat.lt_or_ge j 1 with h | h
    · omega
    · rw [List.getElem?_eq_none (by simpa using h)] at hj; cases hj
  subst h0
  simp at hj
  subst hj
  exact ⟨ka, kc, va, vc, by rw [blk_cell hX]; rfl, by rw [blk_cell hX]; rfl, rk, rv, bk, bv', lk, lv⟩
end Go.Proofs.Ytdlnfcepknoigaa
