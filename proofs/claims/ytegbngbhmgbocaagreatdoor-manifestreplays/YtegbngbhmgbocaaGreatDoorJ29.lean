/-
  What the reference's Is, Order and Compare answer.
-/
import Derived.Test.YtegbngbhmgbocaaGreatDoorJ28
import Derived.Test.YtegbngbhmgbocaaGreatDoorJ08
import Derived.Test.YtegbngbhmgbocaaGreatDoorEH
import Derived.Test.YtegbngbhmgbocaaGreatDoorJ16
namespace Go.Proofs.YtegbngbhmgbocaaGreatDoor
open Go.ChangeShapes Go.WideShapes Go.ChangeAt Go.RowKit

set_option maxRecDepth 20000 in
set_option maxHeartbeats 800000 in
theorem is_c (w : World) {v : Value} {b : List Nat} (hr : Rd w v (bv b)) (hb : By b) (hl : b.length ≤ 140737488355328) :
    Calls Tryz.prog 100 #[v] w fun e w' => e = .returned (.bool (isK b)) ∧ w' = w := by
  rcases hk : isK b with _ | _
  · have HS := hid (refsplit_no w hr hb hl hk)
    obtain ⟨a, c, hv⟩ := hr.form
    subst hv
    clear hr hb hk
    go_enter Tryz.func100, Tryz.ntmps100
    go_wp2_with fail
    refine HS.out.mono ?_
    rintro e w1 ⟨rfl, rfl⟩
    go_wp2
    go_ret
    exact ⟨rfl, rfl⟩
  · have hkl := isK_len hk
    obtain ⟨q, off, c, hv, hc⟩ := hr.place (by omega)
    subst hv
    have HS := hid (refsplit_yes w hr hb hc hk)
    clear hr hb hk
    go_enter Tryz.func100, Tryz.ntmps100
    go_wp2_with fail
    refine HS.out.mono ?_
    rintro e w1 ⟨rfl, rfl⟩
    go_wp2
    go_ret
    exact ⟨rfl, rfl⟩

theorem ordP_ne {u v : List Nat} {s t k l x : Int} (hx : x = cmpN u v) (h : ¬ x = 0) : ordP u v s t k l = x := by unfold ordP; rw [← hx, if_neg h]
theorem ordP_s1 {u v : List Nat} {s t k l x : Int} (hx : x = cmpN u v) (h : x = 0) (hs : t < s) : ordP u v s t k l = -1 := by
  unfold ordP; rw [← hx, if_pos h]; unfold cmpI; rw [if_pos hs]; rfl
theorem ordP_s2 {u v : List Nat} {s t k l x : Int} (hx : x = cmpN u v) (h : x = 0) (hs : s < t) : ordP u v s t k l = 1 := by
  unfold ordP; rw [← hx, if_pos h]; unfold cmpI; rw [if_neg (show ¬ t < s by omega), if_pos hs]; rfl
theorem ordP_k {u v : List Nat} {s t k l x : Int} (hx : x = cmpN u v) (h : x = 0) (hs : s = t) : ordP u v s t k l = cmpI l k := by
  unfold ordP; rw [← hx, if_pos h]; subst hs; rw [if_pos (show cmpI s s = 0 by unfold cmpI; simp)]

set_option maxRecDepth 20000 in
set_option maxHeartbeats 4000000 in
theorem order_c (w : World) {v1 v2 : Value} {a b : List Nat} (h1 : Rd w v1 (bv a)) (ha : By a) (h : isK a = true) (h2 : Rd w v2 (bv b)) (hb : By b) (hk : isK b = true) :
    Calls Tryz.prog 41 #[v1, v2] w fun e w' => e = .returned (.int .i64 (ordK a b)) ∧ Fr [] w w' := by
  have hka := isK_len h
  have hkb := isK_len hk
  obtain ⟨q, off, c, hv1, hc⟩ := h1.place (by omega)
  obtain ⟨q2, off2, c2, hv2, hc2⟩ := h2.place (by omega)
  subst hv1
  subst hv2
  have HS1 := hid (refsplit_yes w h1 ha hc h)
  have HS2 := hid (refsplit_yes w h2 hb hc2 hk)
  have HC := hid (refbytes_c (h1.front (q := a.length - 8) (by omega)) (h2.front (q := b.length - 8) (by omega)) (ha.take _) (hb.take _) (by rw [List.length_take]; omega) (by rw [List.length_take]; omega))
  unfold ordK
  generalize ((tailN a / 256 : Nat) : Int) = s at HS1 ⊢
  generalize ((tailN a % 256 : Nat) : Int) = k at HS1 ⊢
  generalize ((tailN b / 256 : Nat) : Int) = t at HS2 ⊢
  generalize ((tailN b % 256 : Nat) : Int) = l at HS2 ⊢
  obtain ⟨x, hx⟩ : ∃ x, x = cmpN (userL a) (userL b) := ⟨_, rfl⟩
  rw [show cmpN (a.take (a.length - 8)) (b.take (b.length - 8)) = x from hx.symm] at HC
  clear h1 ha h h2 hb hk
  by_cases h0 : ¬ x = 0
  · rw [ordP_ne hx h0]
    have e0 : (x == 0) = false := by simpa using h0
    clear hx h0
    go_enter Tryz.func41, Tryz.ntmps41
    go_wp2_with fail
    refine HS1.out.mono ?_
    rintro e w1 ⟨rfl, rfl⟩
    go_wp2_with fail
    refine HS2.out.mono ?_
    rintro e w2 ⟨rfl, rfl⟩
    go_wp2_with fail
    refine HC.out.mono ?_
    rintro e w3 ⟨rfl, f3⟩
    have F3 := hid f3
    clear f3
    go_wp2
    go_ret
    exact ⟨rfl, F3.out⟩
  have h0' := Decidable.not_not.1 h0
  have e0 : (x == 0) = true := by simpa using h0'
  rcases (show t < s ∨ s < t ∨ s = t from by omega) with hs | hs | hs
  · rw [ordP_s1 hx h0' hs]
    have e1 : decide (t < s) = true := by simpa using hs
    clear hx h0 h0'
    go_enter Tryz.func41, Tryz.ntmps41
    go_wp2_with fail
    refine HS1.out.mono ?_
    rintro e w1 ⟨rfl, rfl⟩
    go_wp2_with fail
    refine HS2.out.mono ?_
    rintro e w2 ⟨rfl, rfl⟩
    go_wp2_with fail
    refine HC.out.mono ?_
    rintro e w3 ⟨rfl, f3⟩
    have F3 := hid f3
    clear f3
    go_wp2
    go_ret
    exact ⟨rfl, F3.out⟩
  · rw [ordP_s2 hx h0' hs]
    have e1 : decide (t < s) = false := by simp; omega
    have e2 : (s == t) = false := by simp; omega
    clear hx h0 h0'
    go_enter Tryz.func41, Tryz.ntmps41
    go_wp2_with fail
    refine HS1.out.mono ?_
    rintro e w1 ⟨rfl, rfl⟩
    go_wp2_with fail
    refine HS2.out.mono ?_
    rintro e w2 ⟨rfl, rfl⟩
    go_wp2_with fail
    refine HC.out.mono ?_
    rintro e w3 ⟨rfl, f3⟩
    have F3 := hid f3
    clear f3
    go_wp2
    go_ret
    exact ⟨rfl, F3.out⟩
  · rw [ordP_k hx h0' hs]
    have e1 : decide (t < s) = false := by simp; omega
    have e1' : decide (s < t) = false := by simp; omega
    have e2 : (s == t) = true := by simpa using hs
    clear hx h0 h0' hs
    unfold cmpI
    rcases (show l < k ∨ k < l ∨ k = l from by omega) with hl | hl | hl
    · rw [if_pos hl]
      go_enter Tryz.func41, Tryz.ntmps41
      go_wp2_with fail
      refine HS1.out.mono ?_
      rintro e w1 ⟨rfl, rfl⟩
      go_wp2_with fail
      refine HS2.out.mono ?_
      rintro e w2 ⟨rfl, rfl⟩
      go_wp2_with fail
      refine HC.out.mono ?_
      rintro e w3 ⟨rfl, f3⟩
      have F3 := hid f3
      clear f3
      go_wp2
      go_ret
      exact ⟨rfl, F3.out⟩
    · rw [if_neg (by omega), if_pos hl]
      have e3 : decide (l < k) = false := by simp; omega
      go_enter Tryz.func41, Tryz.ntmps41
      go_wp2_with fail
      refine HS1.out.mono ?_
      rintro e w1 ⟨rfl, rfl⟩
      go_wp2_with fail
      refine HS2.out.mono ?_
      rintro e w2 ⟨rfl, rfl⟩
      go_wp2_with fail
      refine HC.out.mono ?_
      rintro e w3 ⟨rfl, f3⟩
      have F3 := hid f3
      clear f3
      go_wp2
      go_ret
      exact ⟨rfl, F3.out⟩
    · rw [if_neg (by omega), if_neg (by omega)]
      have e3 : decide (l < k) = false := by simp; omega
      have e4 : decide (k < l) = false := by simp; omega
      clear hl
      go_enter Tryz.func41, Tryz.ntmps41
      go_wp2_with fail
      refine HS1.out.mono ?_
      rintro e w1 ⟨rfl, rfl⟩
      go_wp2_with fail
      refine HS2.out.mono ?_
      rintro e w2 ⟨rfl, rfl⟩
      go_wp2_with fail
      refine HC.out.mono ?_
      rintro e w3 ⟨rfl, f3⟩
      have F3 := hid f3
      clear f3
      go_wp2
      go_ret
      exact ⟨rfl, F3.out⟩

end Go.Proofs.YtegbngbhmgbocaaGreatDoor
namespace Go.Proofs.YtegbngbhmgbocaaGreatDoor
open Go.ChangeShapes Go.WideShapes Go.ChangeAt Go.RowKit

theorem rnumber_c (w : World) (n : Int) : Calls Tryz.prog 70 #[.int .i64 n] w fun e w' => e = .returned (.bool (okN n)) ∧ w' = w := by
  unfold okN
  by_cases h1 : 0 ≤ n
  · by_cases h2 : n ≤ 2147483647
    · rw [decide_eq_true h1, decide_eq_true h2]
      go_enter Tryz.func70, Tryz.ntmps70
      go_wp2
      go_ret
      exact ⟨rfl, rfl⟩
    · rw [decide_eq_true h1, decide_eq_false h2]
      go_enter Tryz.func70, Tryz.ntmps70
      go_wp2
      go_ret
      exact ⟨rfl, rfl⟩
  · rw [decide_eq_false h1, Bool.false_and]
    go_enter Tryz.func70, Tryz.ntmps70
    go_wp2
    go_ret
    exact ⟨rfl, rfl⟩
theorem rlevel_c (w : World) (n : Int) : Calls Tryz.prog 73 #[.int .i64 n] w fun e w' => e = .returned (.bool (okV n)) ∧ w' = w := by
  unfold okV
  by_cases h1 : 0 ≤ n
  · by_cases h2 : n < 5
    · rw [decide_eq_true h1, decide_eq_true h2]
      go_enter Tryz.func73, Tryz.ntmps73
      go_wp2
      go_ret
      exact ⟨rfl, rfl⟩
    · rw [decide_eq_true h1, decide_eq_false h2]
      go_enter Tryz.func73, Tryz.ntmps73
      go_wp2
      go_ret
      exact ⟨rfl, rfl⟩
  · rw [decide_eq_false h1, Bool.false_and]
    go_enter Tryz.func73, Tryz.ntmps73
    go_wp2
    go_ret
    exact ⟨rfl, rfl⟩
/-- All blocks stay but rows of bytes of the call's own. -/
structure Kq (base : Nat) (w w' : World) : Prop where
  os : w'.os = w.os
  tape : w'.tape = w.tape
  output : w'.output = w.output
  size : w.heap.size ≤ w'.heap.size
  blk : ∀ k, k < w.heap.size → ¬ (base ≤ k ∧ ∃ cs, w.heap[k]? = some (.cells cs 5 (0, 0))) → w'.heap[k]? = w.heap[k]?
theorem Kq.refl (base : Nat) (w : World) : Kq base w w := ⟨rfl, rfl, rfl, Nat.le_refl _, fun _ _ _ => rfl⟩
theorem Kq.trans {base : Nat} {a b c : World} (h : Kq base a b) (g : Kq base b c) : Kq base a c :=
  ⟨g.os.trans h.os, g.tape.trans h.tape, g.output.trans h.output, Nat.le_trans h.size g.size, fun k hk hb => by
    have h1 := h.blk k hk hb
    rw [g.blk k (Nat.lt_of_lt_of_le hk h.size) (by rw [h1]; exact hb), h1]⟩
theorem Kq.of {base : Nat} {w w' : World} (f : Fr [] w w') : Kq base w w' := ⟨f.os, f.tape, f.output, f.size, fun k hk _ => f.block k hk (by simp)⟩
theorem Kq.at {base : Nat} {w w' : World} (h : Kq base w w') {k : Nat} {cs : Array Value} {T : TypeId} (hk : w.heap[k]? = some (.cells cs T (0, 0))) (hT : T ≠ 5) : w'.heap[k]? = some (.cells cs T (0, 0)) := by
  rw [h.blk k (blk_lt hk) (fun hb => by
    obtain ⟨_, cs', h'⟩ := hb
    rw [hk] at h'
    simp only [Option.some.injEq, Obj.cells.injEq] at h'
    exact hT h'.2.1)]
  exact hk
theorem Kq.fr {base : Nat} {ws w w' : World} (h : Kq base w w') (hb : base = ws.heap.size) (f : Fr [] ws w) : Fr [] ws w' :=
  ⟨h.os.trans f.os, h.tape.trans f.tape, h.output.trans f.output, Nat.le_trans f.size h.size, fun k hk _ => by
    rw [h.blk k (Nat.lt_of_lt_of_le hk f.size) (fun hx => by have := hx.1; omega)]
    exact f.block k hk (by simp)⟩
theorem Kq.grown {base n : Nat} {w w' : World} {v : Value} {xs : List Value} (o : w.ownsRow base 5 1 v n xs) (g : w.grownBy w' v.ownBlock) : Kq base w w' :=
  ⟨g.os, g.tape, g.output, g.size, fun k hk hb => g.block k hk (fun e => hb ⟨(o.lt k e.symm).1, by
    rcases o.2 with ⟨rfl, _⟩ | ⟨g', cap, cur, rfl, _, h3, _⟩
    · simp [Value.ownBlock] at e
    · simp [Value.ownBlock] at e
      subst e
      exact ⟨cur, h3⟩⟩)⟩
set_option maxRecDepth 20000 in
theorem rput_c (w : World) {base : Nat} {v : Value} {acc : List Nat} (ob : w.ownsRow base 5 1 v acc.length (bv acc)) (hb : base ≤ w.heap.size) {n : Int} (hn : 0 ≤ n ∧ n ≤ 9223372036854775807) (hl : acc.length ≤ 1000000000) :
    Calls Tryz.prog 71 #[v, .int .i64 n] w fun e w' => ∃ v', e = .returned v' ∧ w'.ownsRow base 5 1 v' (acc ++ nb n).length (bv (acc ++ nb n)) ∧ Kq base w w' := by
  obtain ⟨xn, rfl⟩ : ∃ xn : Nat, n = (xn : Int) := ⟨n.toNat, by omega⟩
  have hxn : xn < 18446744073709551616 := by omega
  have wx : IntKind.u64.wrap (xn : Int) = (xn : Int) := wrap64_nat (by omega)
  have PC := hid (refput_c w xn hxn)
  have hpl : (putL xn).length ≤ 10 := putL_len10 hxn
  have NBX : nb (xn : Int) = putL xn := by unfold nb; rw [Int.toNat_natCast]
  rw [NBX]
  obtain ⟨ba, bc, hv, _⟩ := ownsRow_slice ob
  subst hv
  have OB := hid ob
  clear ob hn NBX
  obtain ⟨al, hal⟩ : ∃ al, al = acc.length := ⟨_, rfl⟩
  have HAL := hid hal
  rw [← hal] at OB hl ⊢
  clear hal
  go_enter Tryz.func71, Tryz.ntmps71
  go_wp2_with (first
    | (go_at_call 72; refine PC.out.mono ?_; rintro e w1 ⟨pv, rfl, o1, f1⟩; obtain ⟨pa, pc, hpv, _⟩ := ownsRow_slice o1; subst hpv; have R1 := hid (Rd.ownB o1); have F1 := hid f1; clear o1 f1)
    | (at_builtin; refine wpList_append_rd rfl _ _ rfl base (Nat.le_trans hb F1.out.size) (.slice ba al bc) al (bv acc) (by simp [Act.eval]) (ownsRow_fr OB.out F1.out) _ (bv (putL xn)) (by simp [Act.eval]) R1.out bv_one (by rw [bv_len]; omega) ?_; intro v2 w2 o2 g2 _; obtain ⟨a2, c2, hv2, _⟩ := ownsRow_slice o2; subst hv2; have O2 := hid o2; have G2 := hid g2; clear o2 g2))
  go_ret
  refine ⟨_, rfl, ?_, (Kq.of F1.out).trans (Kq.grown (ownsRow_fr OB.out F1.out) G2.out)⟩
  have := O2.out
  rw [bv_len] at this
  rw [List.length_append, bv_append, ← HAL.out]
  simpa [bv_len] using this
set_option maxRecDepth 20000 in
set_option maxHeartbeats 1600000 in
theorem rmay_c (w : World) {f : Fl} {la ma : Option Addr} {lc mc : Nat} (h : FRd w f la lc ma mc) :
    Calls Tryz.prog 74 #[.agg #[.int .i64 f.num, .int .i64 f.size, .slice la f.least.length lc, .slice ma f.most.length mc]] w fun e w' => e = .returned (.bool (okF f)) ∧ Fr [] w w' := by
  obtain ⟨W0, hW0⟩ : ∃ W0, W0 = w.alloc (.cells #[.int .i64 f.num, .int .i64 f.size, .slice la f.least.length lc, .slice ma f.most.length mc] 62) := ⟨_, rfl⟩
  have F0 : Hid (Fr [] w W0) := hid (by rw [hW0]; exact (Fr.refl _ _).alloc _)
  have n0 : W0.heap[w.heap.size]? = some (.cells #[.int .i64 f.num, .int .i64 f.size, .slice la f.least.length lc, .slice ma f.most.length mc] 62 (0, 0)) := by rw [hW0]; exact blk_new _ _
  have y0 : W0.cell? ⟨w.heap.size, 0, none⟩ = some (.int .i64 f.num) := by rw [blk_cell n0]; rfl
  have y1 : W0.cell? ⟨w.heap.size, 1, none⟩ = some (.int .i64 f.size) := by rw [blk_cell n0]; rfl
  have y2 : W0.cell? ⟨w.heap.size, 2, none⟩ = some (.slice la f.least.length lc) := by rw [blk_cell n0]; rfl
  have y3 : W0.cell? ⟨w.heap.size, 3, none⟩ = some (.slice ma f.most.length mc) := by rw [blk_cell n0]; rfl
  have h0 := h.fr F0.out
  have NN := hid (rnumber_c W0 f.num)
  have NS := hid (rnumber_c W0 f.size)
  have IL := hid (is_c W0 h0.rl h0.bl h0.ll)
  have IM := hid (is_c W0 h0.rm h0.bm h0.lm)
  have OC : Hid (isK f.least = true → isK f.most = true → Calls Tryz.prog 41 #[.slice ma f.most.length mc, .slice la f.least.length lc] W0 fun e w' => e = .returned (.int .i64 (-ordK f.least f.most)) ∧ Fr [] W0 w') := hid (fun k1 k2 => by
    have := order_c W0 h0.rm h0.bm k2 h0.rl h0.bl k1
    rw [ordK_neg f.least f.most] at this
    exact this)
  clear n0 h h0
  unfold okF
  generalize isK f.least = b1 at *
  generalize isK f.most = b2 at *
  generalize ordK f.least f.most = od at *
  generalize f.least.length = ll at *
  generalize f.most.length = lm at *
  generalize f.num = fn at *
  generalize f.size = fs at *
  generalize okN fn = o1 at *
  generalize okN fs = o2 at *
  cases o1 with
  | false =>
    rw [show (b1 && (b2 && (decide (od ≤ 0) && (false && o2)))) = false from by simp]
    go_enter Tryz.func74, Tryz.ntmps74
    go_upto_region 1 with fail
    rw [← hW0]
    clear hW0
    go_wp2_with (go_at_call 70; refine NN.out.mono ?_; rintro e w2 ⟨rfl, h⟩; rw [h]; clear h)
    go_ret
    exact ⟨rfl, F0.out⟩
  | true =>
    cases o2 with
    | false =>
      rw [show (b1 && (b2 && (decide (od ≤ 0) && (true && false)))) = false from by simp]
      go_enter Tryz.func74, Tryz.ntmps74
      go_upto_region 1 with fail
      rw [← hW0]
      clear hW0
      go_wp2_with (first | (go_at_call 70; have zz := N3.out; clear zz; refine NS.out.mono ?_; rintro e w2 ⟨rfl, h⟩; rw [h]; clear h) | (go_at_call 70; refine NN.out.mono ?_; rintro e w2 ⟨rfl, h⟩; rw [h]; clear h; have N3 := hid trivial))
      go_ret
      exact ⟨rfl, F0.out⟩
    | true =>
      cases b1 with
      | false =>
        rw [Bool.false_and]
        go_enter Tryz.func74, Tryz.ntmps74
        go_upto_region 1 with fail
        rw [← hW0]
        clear hW0
        go_wp2_with (first | (go_at_call 70; have zz := N3.out; clear zz; refine NS.out.mono ?_; rintro e w2 ⟨rfl, h⟩; rw [h]; clear h) | (go_at_call 70; refine NN.out.mono ?_; rintro e w2 ⟨rfl, h⟩; rw [h]; clear h; have N3 := hid trivial) | (go_at_call 100; refine IL.out.mono ?_; rintro e w2 ⟨rfl, h⟩; rw [h]; clear h))
        go_ret
        exact ⟨rfl, F0.out⟩
      | true =>
        cases b2 with
        | false =>
          rw [Bool.true_and, Bool.false_and]
          go_enter Tryz.func74, Tryz.ntmps74
          go_upto_region 1 with fail
          rw [← hW0]
          clear hW0
          go_wp2_with (first | (go_at_call 70; have zz := N3.out; clear zz; refine NS.out.mono ?_; rintro e w2 ⟨rfl, h⟩; rw [h]; clear h) | (go_at_call 70; refine NN.out.mono ?_; rintro e w2 ⟨rfl, h⟩; rw [h]; clear h; have N3 := hid trivial) | (go_at_call 100; have zz := N4.out; clear zz; refine IM.out.mono ?_; rintro e w2 ⟨rfl, h⟩; rw [h]; clear h) | (go_at_call 100; refine IL.out.mono ?_; rintro e w2 ⟨rfl, h⟩; rw [h]; clear h; have N4 := hid trivial))
          go_ret
          exact ⟨rfl, F0.out⟩
        | true =>
          have OC2 := hid (OC.out rfl rfl)
          rw [Bool.true_and, Bool.true_and]
          by_cases ho : od ≤ 0
          · rw [decide_eq_true ho]
            have ho' : 0 ≤ -od := by omega
            go_enter Tryz.func74, Tryz.ntmps74
            go_upto_region 1 with fail
            rw [← hW0]
            clear hW0
            go_wp2_with (first | (go_at_call 70; have zz := N3.out; clear zz; refine NS.out.mono ?_; rintro e w2 ⟨rfl, h⟩; rw [h]; clear h) | (go_at_call 70; refine NN.out.mono ?_; rintro e w2 ⟨rfl, h⟩; rw [h]; clear h; have N3 := hid trivial) | (go_at_call 100; have zz := N4.out; clear zz; refine IM.out.mono ?_; rintro e w2 ⟨rfl, h⟩; rw [h]; clear h) | (go_at_call 100; refine IL.out.mono ?_; rintro e w2 ⟨rfl, h⟩; rw [h]; clear h; have N4 := hid trivial) | (go_at_call 41; refine OC2.out.mono ?_; rintro e w2 ⟨rfl, f2⟩; have F2 := hid f2; clear f2))
            go_ret
            exact ⟨ret_bool (by simp <;> omega), F0.out.trans F2.out⟩
          · rw [decide_eq_false ho]
            have ho' : -od < 0 := by omega
            go_enter Tryz.func74, Tryz.ntmps74
            go_upto_region 1 with fail
            rw [← hW0]
            clear hW0
            go_wp2_with (first | (go_at_call 70; have zz := N3.out; clear zz; refine NS.out.mono ?_; rintro e w2 ⟨rfl, h⟩; rw [h]; clear h) | (go_at_call 70; refine NN.out.mono ?_; rintro e w2 ⟨rfl, h⟩; rw [h]; clear h; have N3 := hid trivial) | (go_at_call 100; have zz := N4.out; clear zz; refine IM.out.mono ?_; rintro e w2 ⟨rfl, h⟩; rw [h]; clear h) | (go_at_call 100; refine IL.out.mono ?_; rintro e w2 ⟨rfl, h⟩; rw [h]; clear h; have N4 := hid trivial) | (go_at_call 41; refine OC2.out.mono ?_; rintro e w2 ⟨rfl, f2⟩; have F2 := hid f2; clear f2))
            go_ret
            exact ⟨ret_bool (by simp <;> omega), F0.out.trans F2.out⟩
end Go.Proofs.YtegbngbhmgbocaaGreatDoor
