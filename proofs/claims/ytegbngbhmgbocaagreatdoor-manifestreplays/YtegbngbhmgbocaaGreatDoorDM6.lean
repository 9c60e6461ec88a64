/-
  Package manifest: Decode, walked.
-/
import Derived.Test.YtegbngbhmgbocaaGreatDoorJ28
namespace Go.Proofs.YtegbngbhmgbocaaGreatDoor
open Go.ChangeShapes Go.WideShapes Go.ChangeAt Go.RowKit

set_option maxRecDepth 20000 in
set_option maxHeartbeats 6400000 in
theorem decM_c (w : World) {a : Option Addr} {L cc : Nat} {b : List Nat} (hr : Rd w (.slice a L cc) (bv b)) (hb : By b) (hL : b.length = L) (hl : L ≤ 50000) :
    Calls Tryz.prog 11 #[.slice a L cc] w fun r w' => DecM w' w.heap.size (decO b) r ∧ Fr [] w w' := by
  have hmf : ∀ (fn : Fn) (first cap : Array Value) (w : World), (Instr.makeFunc fn first cap).run Tryz.prog w = .ok (.func fn first cap) w := fun _ _ _ _ => rfl
  obtain ⟨W, hW⟩ : ∃ W, W = (w.alloc (.cells #[.int .i64 0, .int .i64 0, .int .u64 0, .slice none 0 0, .slice none 0 0] 41)).alloc (.cells #[.slice a L cc, .int .i64 0] 73) := ⟨_, rfl⟩
  have F0 : Hid (Fr [] w W) := hid (by rw [hW]; exact ((Fr.refl _ w).alloc _).alloc _)
  have N0 : Hid (W.heap[w.heap.size]? = some (.cells #[.int .i64 0, .int .i64 0, .int .u64 0, .slice none 0 0, .slice none 0 0] 41 (0, 0))) := hid (by rw [hW, blk_old _ _ (by simp)]; exact blk_new _ _)
  have T0 : Hid (TkM w W (w.heap.size + 1) (some b)) := hid ⟨⟨.slice a L cc, by rw [hW]; exact new_at _ _ (by simp), hr, hb, by omega⟩, F0.out, by omega⟩
  have hWs : W.heap.size = w.heap.size + 2 := by rw [hW]; simp
  have b0 : ∀ l, some b = some l → By l := fun l e => by cases e; exact hb
  have l0 : ∀ l, some b = some l → l.length ≤ 50000 := fun l e => by cases e; omega
  have h1 := nmS_sh b0
  have b1 := h1.sm.by b0
  have l1 := h1.sm.len l0
  have h2 := nmS_sh b1
  have b2 := h2.sm.by b1
  have l2 := h2.sm.len l1
  have h3 := tkS_sh b2
  have b3 := h3.sm.by b2
  have l3 := h3.sm.len l2
  have c3 := ctS_sh b3
  have h4 := sevS_sm (f := gnS) (fun s => gnS_sh) (ctS (tkS (nmS (nmS (some b)).2).2).2).1 _ (c3.sm.by b3)
  have b4 := h4.by (c3.sm.by b3)
  have l4 := h4.len (c3.sm.len l3)
  have c4 := ctS_sh b4
  have HPB := hid (sevP_by (M := 50000) (ctS (sevS gnS (ctS (tkS (nmS (nmS (some b)).2).2).2).1 (ctS (tkS (nmS (nmS (some b)).2).2).2).2).2).1 _ (c4.sm.by b4) (c4.sm.len l4))
  have HLG := sevS_len gnS (ctS (tkS (nmS (nmS (some b)).2).2).2).1 (ctS (tkS (nmS (nmS (some b)).2).2).2).2
  have HLP := sevS_len plS (ctS (sevS gnS (ctS (tkS (nmS (nmS (some b)).2).2).2).1 (ctS (tkS (nmS (nmS (some b)).2).2).2).2).2).1 (ctS (sevS gnS (ctS (tkS (nmS (nmS (some b)).2).2).2).1 (ctS (tkS (nmS (nmS (some b)).2).2).2).2).2).2
  have cnt_le : ∀ {s : Option (List Nat)}, (∀ l, s = some l → By l) → (∀ l, s = some l → l.length ≤ 50000) → (ctS s).1 ≤ 50000 := fun {s} hb hl => by
    have hle := ctS_le (s := s)
    have hs := (ctS_sh hb).sm
    rcases hs' : (ctS s).2 with _ | l
    · have := hle.2 hs'; omega
    · have h1 := hle.1 l hs'
      obtain ⟨m, e1, e2, _⟩ := hs l hs'
      have := hl m e1
      omega
  have HG5 := cnt_le b3 l3
  have HP5 := cnt_le b4 l4
  have C1 : Hid (∀ w1, TkM w w1 (w.heap.size + 1) (some b) → _) := hid (fun w1 h => numberM_c h)
  have hdec : decO b = if (sevS plS (ctS (sevS gnS (ctS (tkS (nmS (nmS (some b)).2).2).2).1 (ctS (tkS (nmS (nmS (some b)).2).2).2).2).2).1 (ctS (sevS gnS (ctS (tkS (nmS (nmS (some b)).2).2).2).1 (ctS (tkS (nmS (nmS (some b)).2).2).2).2).2).2).2 = some [] ∧ okE ⟨((nmS (some b)).1 : Int), ((nmS (nmS (some b)).2).1 : Int), (tkS (nmS (nmS (some b)).2).2).1, (sevS gnS (ctS (tkS (nmS (nmS (some b)).2).2).2).1 (ctS (tkS (nmS (nmS (some b)).2).2).2).2).1, (sevS plS (ctS (sevS gnS (ctS (tkS (nmS (nmS (some b)).2).2).2).1 (ctS (tkS (nmS (nmS (some b)).2).2).2).2).2).1 (ctS (sevS gnS (ctS (tkS (nmS (nmS (some b)).2).2).2).1 (ctS (tkS (nmS (nmS (some b)).2).2).2).2).2).2).1⟩ = true then some ⟨((nmS (some b)).1 : Int), ((nmS (nmS (some b)).2).1 : Int), (tkS (nmS (nmS (some b)).2).2).1, (sevS gnS (ctS (tkS (nmS (nmS (some b)).2).2).2).1 (ctS (tkS (nmS (nmS (some b)).2).2).2).2).1, (sevS plS (ctS (sevS gnS (ctS (tkS (nmS (nmS (some b)).2).2).2).1 (ctS (tkS (nmS (nmS (some b)).2).2).2).2).2).1 (ctS (sevS gnS (ctS (tkS (nmS (nmS (some b)).2).2).2).1 (ctS (tkS (nmS (nmS (some b)).2).2).2).2).2).2).1⟩ else none := rfl
  clear C1 h1 h2 h3 h4 c3 c4 cnt_le
  obtain ⟨n1, hn1⟩ : ∃ n, n = (nmS (some b)).1 := ⟨_, rfl⟩
  obtain ⟨s1, hs1⟩ : ∃ x, x = (nmS (some b)).2 := ⟨_, rfl⟩
  have C1 : Hid (Calls Tryz.prog 25 #[.pointer (some ⟨w.heap.size + 1, 0, none⟩)] W fun r w' => r = .returned (.int .i64 (n1 : Int)) ∧ TkM w w' (w.heap.size + 1) s1 ∧ Fr [w.heap.size + 1] W w') := hid (by rw [hn1, hs1]; exact numberM_c T0.out)
  rw [← hn1, ← hs1] at hdec
  rw [← hs1] at HPB HLG HLP HG5 HP5 b1 l1 b2 l2 b3 l3 b4 l4
  obtain ⟨n2, hn2⟩ : ∃ n, n = (nmS s1).1 := ⟨_, rfl⟩
  obtain ⟨s2, hs2⟩ : ∃ x, x = (nmS s1).2 := ⟨_, rfl⟩
  have C2 : Hid (∀ w1, TkM w w1 (w.heap.size + 1) s1 → Calls Tryz.prog 25 #[.pointer (some ⟨w.heap.size + 1, 0, none⟩)] w1 fun r w' => r = .returned (.int .i64 (n2 : Int)) ∧ TkM w w' (w.heap.size + 1) s2 ∧ Fr [w.heap.size + 1] w1 w') := hid (fun w1 h1 => by rw [hn2, hs2]; exact numberM_c h1)
  rw [← hn2, ← hs2] at hdec
  rw [← hs2] at HPB HLG HLP HG5 HP5 b2 l2 b3 l3 b4 l4
  obtain ⟨n3, hn3⟩ : ∃ n, n = (tkS s2).1 := ⟨_, rfl⟩
  obtain ⟨s3, hs3⟩ : ∃ x, x = (tkS s2).2 := ⟨_, rfl⟩
  have C3 : Hid (∀ w1, TkM w w1 (w.heap.size + 1) s2 → Calls Tryz.prog 26 #[.pointer (some ⟨w.heap.size + 1, 0, none⟩)] w1 fun r w' => r = .returned (.int .u64 (n3 : Int)) ∧ TkM w w' (w.heap.size + 1) s3 ∧ Fr [w.heap.size + 1] w1 w') := hid (fun w1 h1 => by rw [hn3, hs3]; exact takeM_c h1)
  rw [← hn3, ← hs3] at hdec
  rw [← hs3] at HPB HLG HLP HG5 HP5 b3 l3 b4 l4
  obtain ⟨gs, hgs⟩ : ∃ g, g = (sevS gnS (ctS s3).1 (ctS s3).2).1 := ⟨_, rfl⟩
  obtain ⟨s4, hs4⟩ : ∃ x, x = (sevS gnS (ctS s3).1 (ctS s3).2).2 := ⟨_, rfl⟩
  have C4 : Hid (∀ w1, TkM w w1 (w.heap.size + 1) s3 → Calls Tryz.prog 27 #[.pointer (some ⟨w.heap.size + 1, 0, none⟩), .func (.func 28) #[.pointer (some ⟨w.heap.size + 1, 0, none⟩)] #[]] w1 fun r w' => (∃ v', r = .returned v' ∧ DO w' w1.heap.size v' gs) ∧ TkM w w' (w.heap.size + 1) s4 ∧ Fr [w.heap.size + 1] w1 w') := hid (fun w1 h1 => by rw [hgs, hs4]; exact sevG_c h1 (fun l e => by have := l3 l e; omega))
  rw [← hgs, ← hs4] at hdec
  rw [← hgs] at HLG
  rw [← hs4] at HPB HLP HP5 b4 l4
  obtain ⟨ps, hps⟩ : ∃ g, g = (sevS plS (ctS s4).1 (ctS s4).2).1 := ⟨_, rfl⟩
  obtain ⟨s5, hs5⟩ : ∃ x, x = (sevS plS (ctS s4).1 (ctS s4).2).2 := ⟨_, rfl⟩
  have C5 : Hid (∀ w1, TkM w w1 (w.heap.size + 1) s4 → Calls Tryz.prog 29 #[.pointer (some ⟨w.heap.size + 1, 0, none⟩), .func (.func 30) #[.pointer (some ⟨w.heap.size + 1, 0, none⟩)] #[]] w1 fun r w' => (∃ v', r = .returned v' ∧ AO w' w1.heap.size v' ps) ∧ TkM w w' (w.heap.size + 1) s5 ∧ Fr [w.heap.size + 1] w1 w') := hid (fun w1 h1 => by rw [hps, hs5]; exact sevP_c h1 (fun l e => by have := l4 l e; omega))
  rw [← hps, ← hs5] at hdec
  rw [← hps] at HLP HPB
  have HDEC := hid hdec
  have hgl : gs.length ≤ 50000 := by omega
  have hpl : ps.length ≤ 50000 := by omega
  clear hdec hn1 hs1 hn2 hs2 hn3 hs3 hgs hs4 hps hs5 b0 l0 b1 l1 b2 l2 b3 l3 b4 l4 HLG HLP HG5 HP5 hr hb hL
  obtain ⟨O, hO⟩ : ∃ O, O = decO b := ⟨_, rfl⟩
  rw [← hO]
  rw [← hO] at HDEC
  clear hO
  obtain ⟨lg, hlg⟩ : ∃ l, l = gs.length := ⟨_, rfl⟩
  obtain ⟨lp, hlp⟩ : ∃ l, l = ps.length := ⟨_, rfl⟩
  have HLG := hid hlg
  have HLP := hid hlp
  rw [← hlg] at hgl
  rw [← hlp] at hpl
  clear hlg hlp
  go_enter Tryz.func11, Tryz.ntmps11
  go_upto_region 2 with fail
  rw [← hW]
  clear hW
  go_wp2_with fail
  refine C1.out.mono ?_
  rintro r w1 ⟨rfl, t1, f1⟩
  have D2 := hid (C2.out w1 t1)
  have F1 := hid f1
  clear t1 f1
  go_wp2_with fail
  refine D2.out.mono ?_
  rintro r w2 ⟨rfl, t2, f2⟩
  have D3 := hid (C3.out w2 t2)
  have F2 := hid (F1.out.trans f2)
  clear t2 f2
  go_wp2_with fail
  refine D3.out.mono ?_
  rintro r w3 ⟨rfl, t3, f3⟩
  obtain ⟨W3, hW3⟩ : ∃ W3, W3 = w3.alloc (.cells #[.int .i64 (n1 : Int), .int .i64 (n2 : Int), .int .u64 (n3 : Int), .slice none 0 0, .slice none 0 0] 41) := ⟨_, rfl⟩
  have T3 : Hid (TkM w W3 (w.heap.size + 1) s3) := hid (by rw [hW3]; exact t3.fr ((Fr.refl [] w3).alloc _))
  have F3 : Hid (Fr [w.heap.size + 1] W W3) := hid (by rw [hW3]; exact (F2.out.trans f3).alloc _)
  have E3 : Hid (W3.heap[w3.heap.size]? = some (.cells #[.int .i64 (n1 : Int), .int .i64 (n2 : Int), .int .u64 (n3 : Int), .slice none 0 0, .slice none 0 0] 41 (0, 0))) := hid (by rw [hW3]; exact blk_new _ _)
  have hE3 : w.heap.size + 2 ≤ w3.heap.size := by have := (F2.out.trans f3).size; omega
  have hW3s : W3.heap.size = w3.heap.size + 1 := by rw [hW3]; simp
  obtain ⟨E, hE⟩ : ∃ E, E = w3.heap.size := ⟨_, rfl⟩
  rw [← hE] at E3 hE3 hW3s
  have D4 := hid (C4.out W3 T3.out)
  clear t3 f3
  go_upto_region 3 with fail
  rw [← hW3, ← hE]
  clear hW3 hE
  go_wp2_with fail
  refine D4.out.mono ?_
  rintro r w4 ⟨⟨v4, rfl, o4⟩, t4, f4⟩
  have E4 := hid (f4.at E3.out (by simp; omega))
  have e3 := blk_cell E4.out 3
  have e3f := blk_frozen E4.out 3
  simp at e3
  have o4' : w4.ownsRow W3.heap.size 45 2 v4 gs.length (cellsD gs) := o4
  rw [← HLG.out] at o4'
  obtain ⟨da, dc, rfl, _⟩ := ownsRow_slice o4'
  obtain ⟨W4, hW4⟩ : ∃ W4, W4 = w4.setCell ⟨E, 3, none⟩ (.slice da lg dc) := ⟨_, rfl⟩
  have E4' : Hid (W4.heap[E]? = some (.cells #[.int .i64 (n1 : Int), .int .i64 (n2 : Int), .int .u64 (n3 : Int), .slice da lg dc, .slice none 0 0] 41 (0, 0))) := hid (by rw [hW4, blk_set E4.out]; rfl)
  have P4 : Hid (∀ k, k ≠ E → W4.heap[k]? = w4.heap[k]?) := hid (fun k hk => by rw [hW4]; exact blk_setne _ _ _ hk)
  have S4 : W4.heap.size = w4.heap.size := by rw [hW4]; simp [World.setCell]
  have F4 : Hid (Fr [w.heap.size + 1, E] W W4) := hid (by rw [hW4]; exact ((F3.out.mono (S' := [w.heap.size + 1, E]) (by simp)).trans (f4.mono (S' := [w.heap.size + 1, E]) (by simp))).set _ _ (.inl (by simp)))
  have R4 : Hid (Fr [] w W4) := hid (by rw [hW4]; exact t4.2.1.set _ _ (.inr (by omega)))
  have T4 : Hid (TkM w W4 (w.heap.size + 1) s4) := hid (t4.keep (P4.out _ (by omega)) R4.out)
  have DO4 : Hid (DO W4 (E + 1) (.slice da lg dc) gs) := hid (by rw [← hW3s]; exact o4.step fun k hk _ => P4.out k (by omega))
  have D5 := hid (C5.out W4 T4.out)
  have hs4 := f4.size
  clear t4 f4 o4 o4'
  go_upto_region 4 with fail
  rw [← hW4]
  clear hW4 e3 e3f
  go_wp2_with fail
  refine D5.out.mono ?_
  rintro r w5 ⟨⟨v5, rfl, o5⟩, t5, f5⟩
  have E5 := hid (f5.at E4'.out (by simp; omega))
  have e4 := blk_cell E5.out 4
  have e4f := blk_frozen E5.out 4
  simp at e4
  have o5' := o5
  obtain ⟨cs5, o5', _⟩ := o5'
  rw [← HLP.out] at o5'
  obtain ⟨aa, ac, rfl, _⟩ := ownsRow_slice o5'
  obtain ⟨W5, hW5⟩ : ∃ W5, W5 = w5.setCell ⟨E, 4, none⟩ (.slice aa lp ac) := ⟨_, rfl⟩
  have E5' : Hid (W5.heap[E]? = some (.cells #[.int .i64 (n1 : Int), .int .i64 (n2 : Int), .int .u64 (n3 : Int), .slice da lg dc, .slice aa lp ac] 41 (0, 0))) := hid (by rw [hW5, blk_set E5.out]; rfl)
  have P5 : Hid (∀ k, k ≠ E → W5.heap[k]? = w5.heap[k]?) := hid (fun k hk => by rw [hW5]; exact blk_setne _ _ _ hk)
  have R5 : Hid (Fr [] w W5) := hid (by rw [hW5]; exact t5.2.1.set _ _ (.inr (by omega)))
  have F5 : Hid (Fr [w.heap.size + 1, E] W W5) := hid (by rw [hW5]; exact (F4.out.trans (f5.mono (S' := [w.heap.size + 1, E]) (by simp))).set _ _ (.inl (by simp)))
  have T5 : Hid (TkM w W5 (w.heap.size + 1) s5) := hid (t5.keep (P5.out _ (by omega)) R5.out)
  have DO5 : Hid (DO W5 (E + 1) (.slice da lg dc) gs) := hid ((DO4.out.step (W' := w5) fun k hk hk2 => f5.block k hk2 (by simp; omega)).step fun k hk _ => P5.out k (by omega))
  have AO5 : Hid (AO W5 (E + 1) (.slice aa lp ac) ps) := hid (by
    obtain ⟨cs, q, q2⟩ := o5
    have hb : E + 1 ≤ W4.heap.size := by omega
    have : AO w5 (E + 1) (.slice aa lp ac) ps := ⟨cs, ownsRow_base q hb, fun j p hj => by
      obtain ⟨x1, x2, x3, x4, y0, y1, y2, y3, y4, z0, z1⟩ := q2 j p hj
      exact ⟨x1, x2, x3, x4, y0, y1, y2, y3, y4, ownsRow_base z0 hb, ownsRow_base z1 hb⟩⟩
    exact this.step fun k hk _ => P5.out k (by omega))
  have N5 := hid (F5.out.at N0.out (by simp; omega))
  have EA : Hid (EAt W5 ⟨(n1 : Int), (n2 : Int), n3, gs, ps⟩ da dc aa ac) := hid ⟨by have := DO5.out.rd; rw [HLG.out] at this; exact this, by have := AO5.out.rd (M := 50000) (by omega) HPB.out; rw [HLP.out] at this; exact this, by rw [← HLG.out]; omega, by rw [← HLP.out]; omega⟩
  have EC : Hid (Calls Tryz.prog 17 #[.agg #[.int .i64 (n1 : Int), .int .i64 (n2 : Int), .int .u64 (n3 : Int), .slice da lg dc, .slice aa lp ac]] W5 fun r w' => r = .returned (.bool (okE ⟨(n1 : Int), (n2 : Int), n3, gs, ps⟩)) ∧ Fr [] W5 w') := hid (by
    have := edit_c W5 EA.out
    rw [HLG.out, HLP.out]; exact this)
  clear t5 f5 o5 o5'
  go_upto_region 5 with fail
  rw [← hW5]
  clear hW5 e4 e4f
  obtain ⟨good, hgood⟩ : ∃ g : Bool, g = true ↔ (s5 = some [] ∧ okE ⟨(n1 : Int), (n2 : Int), n3, gs, ps⟩ = true) := by
    by_cases h : s5 = some [] ∧ okE ⟨(n1 : Int), (n2 : Int), n3, gs, ps⟩ = true
    · exact ⟨true, fun _ => h, fun _ => rfl⟩
    · exact ⟨false, fun e => (by cases e), fun e => absurd e h⟩
  have HGD := hid hgood
  clear hgood
  obtain ⟨k, hk⟩ : ∃ k, k = okE ⟨(n1 : Int), (n2 : Int), n3, gs, ps⟩ := ⟨_, rfl⟩
  rw [← hk] at EC HGD
  have HK := hid hk
  clear hk
  go_cut [43] from 26 to 42 (fun v W' => v = .bool (!good) ∧ Fr [] W5 W')
  case first =>
    obtain ⟨x0, x1, x2, x3, x4⟩ : W5.cell? ⟨E, 0, none⟩ = some (.int .i64 (n1 : Int)) ∧ W5.cell? ⟨E, 1, none⟩ = some (.int .i64 (n2 : Int)) ∧ W5.cell? ⟨E, 2, none⟩ = some (.int .u64 (n3 : Int)) ∧ W5.cell? ⟨E, 3, none⟩ = some (.slice da lg dc) ∧ W5.cell? ⟨E, 4, none⟩ = some (.slice aa lp ac) := ⟨by rw [blk_cell E5'.out]; rfl, by rw [blk_cell E5'.out]; rfl, by rw [blk_cell E5'.out]; rfl, by rw [blk_cell E5'.out]; rfl, by rw [blk_cell E5'.out]; rfl⟩
    obtain ⟨t6, _, _⟩ := T5.out
    rcases s5 with _ | l
    · obtain ⟨e, q, he0, he1⟩ := t6
      have c1 := blk_cell q 1
      simp at c1
      have hz : ((e : Int) == 0) = false := beq_eq_false_iff_ne.2 (by omega)
      have hg : good = false := by
        rcases good with _ | _
        · rfl
        · have := (HGD.out.1 rfl).1; cases this
      subst hg
      clear q
      go_wp2
      go_meet
      exact ⟨rfl, Fr.refl _ _⟩
    · obtain ⟨v, q, hr, hb, hll⟩ := t6
      obtain ⟨va, vc, hv⟩ := hr.form
      rw [bv_len] at hv
      subst hv
      have c0 := blk_cell q 0
      have c1 := blk_cell q 1
      simp at c0 c1
      by_cases h0 : l = []
      · subst h0
        simp only [List.length_nil] at c0
        clear q hr hb hll
        go_wp2_with fail
        refine EC.out.mono ?_
        rintro r w6 ⟨rfl, f6⟩
        have F6 := hid f6
        clear f6
        rcases k with _ | _
        · have hg : good = false := by
            rcases good with _ | _
            · rfl
            · have := (HGD.out.1 rfl).2; cases this
          subst hg
          go_wp2
          go_meet
          exact ⟨rfl, F6.out⟩
        · have hg : good = true := HGD.out.2 ⟨by first | rfl | trivial, by first | rfl | trivial⟩
          subst hg
          go_wp2
          go_meet
          exact ⟨rfl, F6.out⟩
      · have hp : 0 < l.length := List.length_pos_iff.2 h0
        obtain ⟨ll, hll2⟩ : ∃ ll, ll = l.length := ⟨_, rfl⟩
        rw [← hll2] at c0 hp hll
        have hp' : (0 : Int) < (ll : Int) := by omega
        have hg : good = false := by
          rcases good with _ | _
          · rfl
          · have := (HGD.out.1 rfl).1
            simp only [Option.some.injEq] at this
            exact absurd this h0
        subst hg
        clear q hr hb hll2
        go_wp2
        go_meet
        exact ⟨rfl, Fr.refl _ _⟩
  case rest =>
    obtain ⟨rfl, fc⟩ := hcut
    have FC := hid (R5.out.trans fc)
    have N6 := hid (fc.at N5.out (by simp))
    have E6 := hid (fc.at E5'.out (by simp))
    have DO6 := hid (DO5.out.step (W' := wc) fun k _ hk => fc.block k hk (by simp))
    have AO6 := hid (AO5.out.step (W' := wc) fun k _ hk => fc.block k hk (by simp))
    have d0 := blk_cell N6.out 0
    have d1 := blk_cell N6.out 1
    have d2 := blk_cell N6.out 2
    have d3 := blk_cell N6.out 3
    have d4 := blk_cell N6.out 4
    have z0 := blk_frozen N6.out 0
    have z1 := blk_frozen N6.out 1
    have z2 := blk_frozen N6.out 2
    have z3 := blk_frozen N6.out 3
    have z4 := blk_frozen N6.out 4
    have x0 := blk_cell E6.out 0
    have x1 := blk_cell E6.out 1
    have x2 := blk_cell E6.out 2
    have x3 := blk_cell E6.out 3
    have x4 := blk_cell E6.out 4
    simp at d0 d1 d2 d3 d4 x0 x1 x2 x3 x4
    clear fc
    rcases good with _ | _
    · have hO : Hid (O = none) := hid (by
        rw [HDEC.out, if_neg]
        intro h
        rw [← HK.out] at h
        have := HGD.out.2 h
        cases this)
      go_wp2
      have K := store5 (a := .int .i64 0) (b := .int .i64 0) (c := .int .u64 0) (d := .slice none 0 0) (e := .slice none 0 0) N6.out FC.out (Nat.le_refl _)
      refine bodyPost_ret (ret_ct9 rfl rfl (load_edit K.1)) rfl ⟨?_, K.2.1⟩
      rw [hO.out]
      rfl
    · have hO : Hid (O = some ⟨(n1 : Int), (n2 : Int), n3, gs, ps⟩) := hid (by
        rw [HDEC.out, if_pos]
        have := HGD.out.1 rfl
        rw [HK.out] at this
        exact this)
      go_wp2
      have K := store5 (a := .int .i64 (n1 : Int)) (b := .int .i64 (n2 : Int)) (c := .int .u64 (n3 : Int)) (d := .slice da lg dc) (e := .slice aa lp ac) N6.out FC.out (Nat.le_refl _)
      refine bodyPost_ret (ret_ct9 rfl rfl (load_edit K.1)) rfl ⟨?_, K.2.1⟩
      rw [hO.out]
      have hb : w.heap.size ≤ E + 1 := by omega
      refine ⟨da, dc, aa, ac, by rw [← HLG.out, ← HLP.out]; rfl, ?_, ?_⟩
      · have q : DO _ (E + 1) (.slice da lg dc) gs := DO6.out.step (fun k hk _ => K.2.2 k (by omega))
        have q' := ownsRow_base (show World.ownsRow _ _ _ _ _ _ _ from q) hb
        show DO _ w.heap.size (.slice da gs.length dc) gs
        rw [← HLG.out]; exact q'
      · have q : AO _ (E + 1) (.slice aa lp ac) ps := AO6.out.step (fun k hk _ => K.2.2 k (by omega))
        obtain ⟨cs, q1, q2⟩ := q
        show AO _ w.heap.size (.slice aa ps.length ac) ps
        rw [← HLP.out]
        exact ⟨cs, ownsRow_base q1 hb, fun j p hj => by
          obtain ⟨x1, x2, x3, x4, y0, y1, y2, y3, y4, z0, z1⟩ := q2 j p hj
          exact ⟨x1, x2, x3, x4, y0, y1, y2, y3, y4, ownsRow_base z0 hb, ownsRow_base z1 hb⟩⟩
end Go.Proofs.YtegbngbhmgbocaaGreatDoor
