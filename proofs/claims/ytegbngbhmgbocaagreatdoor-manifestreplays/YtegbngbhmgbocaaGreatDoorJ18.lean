/-
  Package manifest: what a taker takes.
-/
import Derived.Test.YtegbngbhmgbocaaGreatDoorJ17
import Derived.Test.YtegbngbhmgbocaaGreatDoorJ09
import Derived.Test.YtegbngbhmgbocaaGreatDoorJ04
import Derived.Test.YtegbngbhmgbocaaGreatDoorJ03
import Derived.Laws.ResultCell
namespace Go.Proofs.YtegbngbhmgbocaaGreatDoor
open Go.ChangeShapes Go.WideShapes Go.ChangeAt Go.RowKit

/-- A taker at t: what is left of bytes that lay there when the call began (ws), or a fault. -/
def TkM (ws w : World) (t : Nat) (s : Option (List Nat)) : Prop := (match s with
  | some l => ∃ v, w.heap[t]? = some (.cells #[v, .int .i64 0] 73 (0, 0)) ∧ Rd ws v (bv l) ∧ By l ∧ l.length ≤ 140737488355328
  | none => ∃ e : Nat, w.heap[t]? = some (.cells #[.slice none 0 0, .int .i64 (e : Int)] 73 (0, 0)) ∧ 0 < e ∧ e ≤ 100) ∧ Fr [] ws w ∧ ws.heap.size ≤ t
theorem TkM.keep {ws w w' : World} {t : Nat} {s : Option (List Nat)} (h : TkM ws w t s) (ht : w'.heap[t]? = w.heap[t]?) (f : Fr [] ws w') : TkM ws w' t s := by
  obtain ⟨h1, _, h3⟩ := h
  refine ⟨?_, f, h3⟩
  rcases s with _ | l
  · obtain ⟨e, a, b⟩ := h1; exact ⟨e, ht.trans a, b⟩
  · obtain ⟨v, a, b⟩ := h1; exact ⟨v, ht.trans a, b⟩
theorem TkM.lt {ws w : World} {t : Nat} {s : Option (List Nat)} (h : TkM ws w t s) : t < w.heap.size := by
  obtain ⟨h1, _, _⟩ := h
  rcases s with _ | l
  · obtain ⟨e, a, _⟩ := h1; exact blk_lt a
  · obtain ⟨v, a, _⟩ := h1; exact blk_lt a
theorem TkM.fr {ws w w' : World} {t : Nat} {s : Option (List Nat)} (h : TkM ws w t s) (f : Fr [] w w') : TkM ws w' t s :=
  h.keep (f.block t h.lt (by simp)) (h.2.1.trans f)
theorem frt {ws w w' : World} {t : Nat} (h : Fr [] ws w) (ht : ws.heap.size ≤ t) (f : Fr [t] w w') : Fr [] ws w' :=
  ((h.mono (S' := [t]) (by simp)).trans f).shed (fun k hk hlt => by simp at hk; omega)

set_option maxRecDepth 20000 in
set_option maxHeartbeats 800000 in
theorem fail_ok (w : World) {t : Nat} {v : Value} {e : Nat} (h : w.heap[t]? = some (.cells #[v, .int .i64 0] 73 (0, 0))) :
    Calls Tryz.prog 58 #[.pointer (some ⟨t, 0, none⟩), .int .i64 (e : Int)] w fun r w' => (∃ u, r = .returned u) ∧ w'.heap[t]? = some (.cells #[.slice none 0 0, .int .i64 (e : Int)] 73 (0, 0)) ∧ Fr [t] w w' := by
  have H := hid h
  have c0 := blk_cell h 0
  have c1 := blk_cell h 1
  have f0 := blk_frozen h 0
  have f1 := blk_frozen h 1
  simp at c0 c1
  clear h
  go_enter Tryz.func58, Tryz.ntmps58
  go_wp2
  go_end0
  refine ⟨⟨_, rfl⟩, by rw [blk_set (blk_set H.out 0 _) 1 _]; rfl, ((Fr.refl _ _).set _ _ (.inl (by simp))).set _ _ (.inl (by simp))⟩
set_option maxRecDepth 20000 in
set_option maxHeartbeats 800000 in
theorem fail_no (w : World) {t : Nat} {v : Value} {e e' : Nat} (h : w.heap[t]? = some (.cells #[v, .int .i64 (e' : Int)] 73 (0, 0))) (he : 0 < e') :
    Calls Tryz.prog 58 #[.pointer (some ⟨t, 0, none⟩), .int .i64 (e : Int)] w fun r w' => (∃ u, r = .returned u) ∧ w' = w := by
  have c1 := blk_cell h 1
  simp at c1
  have hz : ((e' : Int) == 0) = false := beq_eq_false_iff_ne.2 (by omega)
  clear h
  go_enter Tryz.func58, Tryz.ntmps58
  go_wp2
  go_end0
  exact ⟨⟨_, rfl⟩, rfl⟩
theorem fail_c {ws w : World} {t : Nat} {s : Option (List Nat)} {e : Nat} (h : TkM ws w t s) (he : 0 < e) (he2 : e ≤ 100) :
    Calls Tryz.prog 58 #[.pointer (some ⟨t, 0, none⟩), .int .i64 (e : Int)] w fun r w' => (∃ u, r = .returned u) ∧ TkM ws w' t none ∧ Fr [t] w w' := by
  obtain ⟨h1, h2, h3⟩ := h
  rcases s with _ | l
  · obtain ⟨e', a, b, c⟩ := h1
    refine (fail_no w (e := e) a b).mono ?_
    rintro r w' ⟨hu, rfl⟩
    exact ⟨hu, ⟨⟨e', a, b, c⟩, h2, h3⟩, Fr.refl _ _⟩
  · obtain ⟨v, a, _⟩ := h1
    refine (fail_ok w (e := e) a).mono ?_
    rintro r w' ⟨hu, a', f⟩
    exact ⟨hu, ⟨⟨e, a', he, he2⟩, frt h2 h3 f, h3⟩, f⟩
theorem tk_err : ∀ (l : List Nat) (i v : Nat), (tk i v l).2.2 ≤ 100
  | [], _, _ => by simp [tk]
  | x :: r, i, v => by
    unfold tk
    split
    · simp
    · split
      · simp
      · exact tk_err r _ _

set_option maxRecDepth 20000 in
set_option maxHeartbeats 1600000 in
theorem takeM_c {ws w : World} {t : Nat} {s : Option (List Nat)} (h : TkM ws w t s) :
    Calls Tryz.prog 26 #[.pointer (some ⟨t, 0, none⟩)] w fun r w' => r = .returned (.int .u64 ((tkS s).1 : Int)) ∧ TkM ws w' t (tkS s).2 ∧ Fr [t] w w' := by
  have HT := hid h
  obtain ⟨h1, h2, h3⟩ := h
  have H2 := hid h2
  have H3 := hid h3
  rcases s with _ | l
  · obtain ⟨e, a, he0, he1⟩ := h1
    have c0 := blk_cell a 0
    have c1 := blk_cell a 1
    simp at c0 c1
    have TC := hid (take_c (w := w) (v := .slice none 0 0) (ns := []) (.inl ⟨rfl, rfl⟩) (fun x hx => by cases hx) (by simp))
    have FC := hid (fail_no w (e := 20) a he0)
    clear h2 h3 a
    go_enter Tryz.func26, Tryz.ntmps26
    go_wp2_with fail
    refine TC.out.mono ?_
    rintro r w1 ⟨rfl, hw1⟩
    have hw1' := hw1.symm
    clear hw1
    subst hw1'
    have e1 : tkv (takeL []) = .tuple #[.int .u64 ((0 : Nat) : Int), .int .i64 ((0 : Nat) : Int), .int .i64 ((20 : Nat) : Int)] := rfl
    rw [e1]
    clear e1
    go_wp2_with fail
    refine FC.out.mono ?_
    rintro r w1 ⟨⟨u, rfl⟩, hw1⟩
    have hw1' := hw1.symm
    clear hw1
    subst hw1'
    go_wp2
    go_ret
    exact ⟨rfl, HT.out, Fr.refl _ _⟩
  · obtain ⟨v, a, hr, hb, hl⟩ := h1
    obtain ⟨va, vc, hv⟩ := hr.form
    rw [bv_len] at hv
    subst hv
    have A := hid a
    have HR := hid hr
    have HB := hid hb
    have c0 := blk_cell a 0
    have c1 := blk_cell a 1
    have f0 := blk_frozen a 0
    simp at c0 c1
    obtain ⟨n, k, e, ht⟩ : ∃ n k e, takeL l = (n, k, e) := ⟨_, _, _, rfl⟩
    have hbd := tk_bound l hb 0 0 (by omega) (by simp)
    have ht' : tk 0 0 l = (n, k, e) := ht
    rw [ht'] at hbd
    obtain ⟨b1, b2, b3⟩ := hbd
    dsimp only at b1 b2 b3
    have TC : Hid (Calls Tryz.prog 57 #[.slice va l.length vc] w fun r w' => r = .returned (.tuple #[.int .u64 (n : Int), .int .i64 (k : Int), .int .i64 (e : Int)]) ∧ w' = w) := hid (by
      have := take_c (hr.fr h2) hb hl
      rw [ht] at this
      exact this)
    have hvc : l.length ≤ vc := by
      rcases hr with ⟨h, _⟩ | ⟨_, _, h, h4, _⟩
      · simp only [Value.slice.injEq] at h; omega
      · simp only [Value.slice.injEq] at h; rw [bv_len] at h4; omega
    by_cases he : e = 0
    · subst he
      have hts : Hid (tkS (some l) = (n, some (l.drop k))) := hid (by rw [tkS_ok (by rw [ht]), ht])
      have hk0 : 0 < k := by have := tk_pos l 0 0 (by rw [ht']); rw [ht'] at this; exact this
      have hkl : k ≤ l.length := by omega
      obtain ⟨L, hL⟩ : ∃ L, L = l.length := ⟨_, rfl⟩
      rw [← hL] at TC A hvc hkl hl
      have HL := hid hL
      obtain ⟨q, o, rfl⟩ : ∃ q o, va = some ⟨q, o, none⟩ := by
        rcases hr.split with ⟨e, _⟩ | ⟨q, o, c, e, _⟩
        · subst e; simp at hL; omega
        · simp only [Value.slice.injEq] at e; exact ⟨q, o, e.1⟩
      rw [← hL] at c0
      clear h2 h3 a hr hb ht ht' hL
      go_enter Tryz.func26, Tryz.ntmps26
      go_wp2_with fail
      refine TC.out.mono ?_
      rintro r w1 ⟨rfl, hw1⟩
      have hw1' := hw1.symm
      clear hw1
      subst hw1'
      have hki : (k : Int) ≤ (L : Int) := by omega
      have hki2 : (L : Int) ≤ (vc : Int) := by omega
      have hki3 : (0 : Int) ≤ (k : Int) := by omega
      by_cases hck : vc = k
      · have hLk : L = k := by omega
        subst hck
        subst hLk
        go_wp2
        go_ret
        rw [hts.out]
        refine ⟨rfl, ⟨⟨_, by rw [blk_set A.out]; rfl, ?_, HB.out.drop _, by rw [List.length_drop, ← HL.out]; omega⟩, H2.out.set _ _ (.inr H3.out), H3.out⟩, (Fr.refl _ _).set _ _ (.inl (by simp))⟩
        rw [List.drop_eq_nil_of_le (by rw [← HL.out]; omega)]
        exact .inr ⟨_, _, rfl, Nat.zero_le _, fun j u hj => by simp [bv] at hj⟩
      · go_wp2
        go_ret
        rw [hts.out]
        refine ⟨rfl, ⟨⟨_, by rw [blk_set A.out]; rfl, ?_, HB.out.drop _, by rw [List.length_drop, ← HL.out]; omega⟩, H2.out.set _ _ (.inr H3.out), H3.out⟩, (Fr.refl _ _).set _ _ (.inl (by simp))⟩
        have := HR.out.back (q := k) (by rw [← HL.out]; exact hkl)
        rw [← HL.out] at this
        exact this
    · have hts : Hid (tkS (some l) = (0, none)) := hid (tkS_no (by rw [ht]; exact he))
      have he100 : e ≤ 100 := by
        have := tk_err l 0 0
        rw [ht'] at this
        exact this
      have FC := hid (fail_ok w (e := e) a)
      have hz : ((e : Int) == 0) = false := beq_eq_false_iff_ne.2 (by omega)
      obtain ⟨L, hL⟩ : ∃ L, L = l.length := ⟨_, rfl⟩
      rw [← hL] at TC c0
      clear h2 h3 a hr hb ht ht' hl hL
      go_enter Tryz.func26, Tryz.ntmps26
      go_wp2_with fail
      refine TC.out.mono ?_
      rintro r w1 ⟨rfl, hw1⟩
      have hw1' := hw1.symm
      clear hw1
      subst hw1'
      go_wp2_with fail
      refine FC.out.mono ?_
      rintro r w1 ⟨⟨u, rfl⟩, a1, f1⟩
      have A1 := hid a1
      have F1 := hid f1
      clear a1 f1
      go_wp2
      go_ret
      rw [hts.out]
      exact ⟨rfl, ⟨⟨e, A1.out, by omega, he100⟩, frt H2.out H3.out F1.out, H3.out⟩, F1.out⟩

set_option maxRecDepth 20000 in
set_option maxHeartbeats 800000 in
theorem within_ok (w : World) {t n most : Nat} (h : n ≤ most) (hm : most ≤ 9223372036854775807) :
    Calls Tryz.prog 56 #[.pointer (some ⟨t, 0, none⟩), .int .u64 (n : Int), .int .i64 (most : Int)] w fun r w' => r = .returned (.int .i64 (n : Int)) ∧ w' = w := by
  have h1 : IntKind.u64.wrap (most : Int) = (most : Int) := by rw [IntKind.wrap_u64]; omega
  have h2 : IntKind.i64.wrap (n : Int) = (n : Int) := by rw [IntKind.wrap_i64]; omega
  have h3 : ¬ (most : Int) < (n : Int) := by omega
  go_enter Tryz.func56, Tryz.ntmps56
  go_wp2
  go_ret
  exact ⟨rfl, rfl⟩
set_option maxRecDepth 20000 in
set_option maxHeartbeats 800000 in
theorem within_no {ws w : World} {t n most : Nat} {s : Option (List Nat)} (T : TkM ws w t s) (h : most < n) (hm : most ≤ 9223372036854775807) :
    Calls Tryz.prog 56 #[.pointer (some ⟨t, 0, none⟩), .int .u64 (n : Int), .int .i64 (most : Int)] w fun r w' => r = .returned (.int .i64 0) ∧ TkM ws w' t none ∧ Fr [t] w w' := by
  have h1 : IntKind.u64.wrap (most : Int) = (most : Int) := by rw [IntKind.wrap_u64]; omega
  have h3 : (most : Int) < (n : Int) := by omega
  have FC := hid (fail_c (e := 90) T (by omega) (by omega))
  clear T
  go_enter Tryz.func56, Tryz.ntmps56
  go_wp2_with fail
  refine FC.out.mono ?_
  rintro r w1 ⟨⟨u, rfl⟩, t1, f1⟩
  have T1 := hid t1
  have F1 := hid f1
  clear t1 f1
  go_wp2
  go_ret
  exact ⟨rfl, T1.out, F1.out⟩
theorem tkS_lt {s : Option (List Nat)} (hb : ∀ l, s = some l → By l) : (tkS s).1 < 18446744073709551616 := by
  rcases s with _ | l
  · show 0 < _; omega
  · by_cases h : (takeL l).2.2 = 0
    · rw [tkS_ok h]; exact (tk_bound l (hb l rfl) 0 0 (by omega) (by simp)).1
    · rw [tkS_no h]; show 0 < _; omega
theorem TkM.by {ws w : World} {t : Nat} {s : Option (List Nat)} (h : TkM ws w t s) : ∀ l, s = some l → By l := fun l e => by
  subst e
  obtain ⟨⟨v, _, _, hb, _⟩, _, _⟩ := h
  exact hb

set_option maxRecDepth 20000 in
set_option maxHeartbeats 800000 in
theorem numberM_c {ws w : World} {t : Nat} {s : Option (List Nat)} (h : TkM ws w t s) :
    Calls Tryz.prog 25 #[.pointer (some ⟨t, 0, none⟩)] w fun r w' => r = .returned (.int .i64 ((nmS s).1 : Int)) ∧ TkM ws w' t (nmS s).2 ∧ Fr [t] w w' := by
  have TC := hid (takeM_c h)
  have hlt := tkS_lt h.by
  obtain ⟨n, hn⟩ : ∃ n, n = (tkS s).1 := ⟨_, rfl⟩
  obtain ⟨s', hs'⟩ : ∃ s', s' = (tkS s).2 := ⟨_, rfl⟩
  have hnm : nmS s = if 2147483647 < n then (0, none) else (n, s') := by unfold nmS; rw [hn, hs']
  rw [← hn, ← hs'] at TC
  rw [← hn] at hlt
  obtain ⟨N, hN⟩ : ∃ N, N = nmS s := ⟨_, rfl⟩
  rw [← hN] at hnm ⊢
  have HN := hid hnm
  clear hn hs' hN h hnm
  go_enter Tryz.func25, Tryz.ntmps25
  go_wp2_with fail
  refine TC.out.mono ?_
  rintro r w1 ⟨rfl, t1, f1⟩
  have T1 := hid t1
  have F1 := hid f1
  clear t1 f1
  by_cases hle : n ≤ 2147483647
  · go_wp2_with fail
    refine (within_ok w1 (t := t) (most := 2147483647) hle (by omega)).mono ?_
    rintro r w2 ⟨rfl, hw2⟩
    have hw2' := hw2.symm
    clear hw2
    subst hw2'
    go_wp2
    go_ret
    rw [HN.out, if_neg (by omega)]
    exact ⟨rfl, T1.out, F1.out⟩
  · go_wp2_with fail
    refine (within_no T1.out (n := n) (most := 2147483647) (by omega) (by omega)).mono ?_
    rintro r w2 ⟨rfl, t2, f2⟩
    have T2 := hid t2
    have F2 := hid (F1.out.trans f2)
    clear t2 f2
    go_wp2
    go_ret
    rw [HN.out, if_pos (by omega)]
    exact ⟨rfl, T2.out, F2.out⟩

set_option maxRecDepth 20000 in
set_option maxHeartbeats 800000 in
theorem countM_c {ws w : World} {t : Nat} {s : Option (List Nat)} (h : TkM ws w t s) :
    Calls Tryz.prog 59 #[.pointer (some ⟨t, 0, none⟩)] w fun r w' => r = .returned (.int .i64 ((ctS s).1 : Int)) ∧ TkM ws w' t (ctS s).2 ∧ Fr [t] w w' := by
  have TC := hid (takeM_c h)
  have hlt := tkS_lt h.by
  obtain ⟨n, hn⟩ : ∃ n, n = (tkS s).1 := ⟨_, rfl⟩
  obtain ⟨s', hs'⟩ : ∃ s', s' = (tkS s).2 := ⟨_, rfl⟩
  have hnm : ctS s = fitS n s' := by unfold ctS; rw [hn, hs']
  have hz : s' = none → n = 0 := fun e => by
    rw [hn]
    rw [hs'] at e
    rcases s with _ | l
    · rfl
    · by_cases h : (takeL l).2.2 = 0
      · rw [tkS_ok h] at e; cases e
      · rw [tkS_no h]
  rw [← hn, ← hs'] at TC
  rw [← hn] at hlt
  obtain ⟨N, hN⟩ : ∃ N, N = ctS s := ⟨_, rfl⟩
  rw [← hN] at hnm ⊢
  have HN := hid hnm
  have HZ := hid hz
  clear hn hs' hN h hnm hz
  go_enter Tryz.func59, Tryz.ntmps59
  go_wp2_with fail
  refine TC.out.mono ?_
  rintro r w1 ⟨rfl, t1, f1⟩
  have T1 := hid t1
  have F1 := hid f1
  obtain ⟨t2, _, _⟩ := t1
  clear f1
  rcases s' with _ | l
  · have hn0 := HZ.out rfl
    subst hn0
    obtain ⟨e, a, he0, he1⟩ := t2
    have c0 := blk_cell a 0
    simp at c0
    clear a
    go_wp2_with fail
    refine (within_ok w1 (t := t) (n := 0) (most := 0) (by omega) (by omega)).mono ?_
    rintro r w2 ⟨rfl, hw2⟩
    have hw2' := hw2.symm
    clear hw2
    subst hw2'
    go_wp2
    go_ret
    rw [HN.out]
    exact ⟨rfl, T1.out, F1.out⟩
  · obtain ⟨v, a, hr, hb, hl⟩ := t2
    obtain ⟨va, vc, hv⟩ := hr.form
    rw [bv_len] at hv
    subst hv
    have c0 := blk_cell a 0
    simp at c0
    obtain ⟨L, hL⟩ : ∃ L, L = l.length := ⟨_, rfl⟩
    rw [← hL] at c0 hl
    have HL := hid hL
    clear a hr hb hL
    by_cases hle : n ≤ L
    · go_wp2_with fail
      refine (within_ok w1 (t := t) (most := L) hle (by omega)).mono ?_
      rintro r w2 ⟨rfl, hw2⟩
      have hw2' := hw2.symm
      clear hw2
      subst hw2'
      go_wp2
      go_ret
      have e : fitS n (some l) = (n, some l) := if_neg (by rw [← HL.out]; omega)
      rw [HN.out, e]
      exact ⟨rfl, T1.out, F1.out⟩
    · go_wp2_with fail
      refine (within_no T1.out (n := n) (most := L) (by omega) (by omega)).mono ?_
      rintro r w2 ⟨rfl, t3, f3⟩
      have T3 := hid t3
      have F3 := hid (F1.out.trans f3)
      clear t3 f3
      go_wp2
      go_ret
      have e : fitS n (some l) = (0, none) := if_pos (by rw [← HL.out]; omega)
      rw [HN.out, e]
      exact ⟨rfl, T3.out, F3.out⟩
end Go.Proofs.YtegbngbhmgbocaaGreatDoor
namespace Go.Proofs.YtegbngbhmgbocaaGreatDoor
open Go.ChangeShapes Go.WideShapes Go.ChangeAt Go.RowKit

theorem Rd.upto9 {w : World} {a : Option Addr} {n c : Nat} {ns : List Nat} (h : Rd w (.slice a n c) (bv ns)) {k : Nat} (hk : k ≤ n) : Rd w (.slice a k c) (bv (ns.take k)) := by
  have hn : n = ns.length := by
    obtain ⟨a', c', e⟩ := h.form
    rw [bv_len] at e
    simp only [Value.slice.injEq] at e
    exact e.2.1
  subst hn
  rcases h with ⟨h, h'⟩ | ⟨a', c', h, h4, h5⟩
  · simp only [Value.slice.injEq] at h
    obtain ⟨rfl, h0, rfl⟩ := h
    have : ns = [] := List.eq_nil_of_length_eq_zero h0
    subst this
    simp only [List.length_nil] at hk
    have : k = 0 := by omega
    subst this
    exact .inl ⟨rfl, rfl⟩
  · simp only [Value.slice.injEq, bv_len] at h
    obtain ⟨rfl, _, rfl⟩ := h
    refine .inr ⟨a', c, by rw [bv_len, List.length_take, Nat.min_eq_left hk], by rw [bv_len, List.length_take]; rw [bv_len] at h4; omega, fun j u hj => h5 j u ?_⟩
    rw [bv_take, List.getElem?_take] at hj
    split at hj
    · exact hj
    · cases hj
theorem own_set {W : World} {B n size t j : Nat} {e : TypeId} {v y : Value} {xs : List Value} (o : W.ownsRow B e size v n xs) (ht : t < B) : (W.setCell ⟨t, j, none⟩ y).ownsRow B e size v n xs :=
  ownsRow_of_block o fun k hk => blk_setne _ _ _ (by have := (o.lt k hk).1; omega)
theorem ctS_le {s : Option (List Nat)} : (∀ l, (ctS s).2 = some l → (ctS s).1 ≤ l.length) ∧ ((ctS s).2 = none → (ctS s).1 = 0) := by
  unfold ctS
  rcases (tkS s).2 with _ | l
  · exact ⟨fun l e => (by cases e), fun _ => rfl⟩
  · unfold fitS
    by_cases h : l.length < (tkS s).1
    · simp only [h, if_true]; exact ⟨fun l e => (by cases e), fun _ => trivial⟩
    · simp only [h, if_false]; exact ⟨fun l' e => (by cases e; omega), fun e => (by cases e)⟩

set_option maxRecDepth 20000 in
set_option maxHeartbeats 1600000 in
theorem keyM_c {ws w : World} {t : Nat} {s : Option (List Nat)} (h : TkM ws w t s) :
    Calls Tryz.prog 60 #[.pointer (some ⟨t, 0, none⟩)] w fun r w' => (∃ a c, r = .returned (.slice a (kyS s).1.length c) ∧ w'.ownsRow w.heap.size 5 1 (.slice a (kyS s).1.length c) (kyS s).1.length (bv (kyS s).1)) ∧ TkM ws w' t (kyS s).2 ∧ Fr [t] w w' := by
  have CC := hid (countM_c h)
  have hle := ctS_le (s := s)
  obtain ⟨n, hn⟩ : ∃ n, n = (ctS s).1 := ⟨_, rfl⟩
  obtain ⟨s', hs'⟩ : ∃ s', s' = (ctS s).2 := ⟨_, rfl⟩
  have hky : kyS s = cutS n s' := by unfold kyS; rw [hn, hs']
  rw [← hn, ← hs'] at CC hle
  rw [hky]
  have HLE := hid hle
  have HTL := hid h.lt
  clear hn hs' hky hle h
  go_enter Tryz.func60, Tryz.ntmps60
  go_wp2_with fail
  refine CC.out.mono ?_
  rintro r w1 ⟨rfl, t1, f1⟩
  have T1 := hid t1
  have F1 := hid f1
  obtain ⟨t2, g2, g3⟩ := t1
  have G2 := hid g2
  have G3 := hid g3
  clear f1
  rcases s' with _ | l
  · have hn0 := HLE.out.2 rfl
    subst hn0
    obtain ⟨e, a, he0, he1⟩ := t2
    have c0 := blk_cell a 0
    simp at c0
    have A := hid a
    have KC := hid (clone_c (w := w1) (v := .slice none 0 0) (ns := []) (.inl ⟨rfl, rfl⟩) (by simp))
    clear a g2 g3
    go_wp2_with fail
    refine KC.out.mono ?_
    rintro r w2 ⟨v2, rfl, o2, f2⟩
    obtain ⟨a2, b2, rfl, _⟩ := ownsRow_slice o2
    have O2 := hid (ownsRow_base o2 F1.out.size)
    have T2 := hid (T1.out.fr f2)
    have F2 := hid (F1.out.trans (f2.mono (S' := [t]) (by simp)))
    have A2 := hid (f2.at A.out (by simp))
    have c0' := blk_cell A2.out 0
    have f0' := blk_frozen A2.out 0
    simp at c0'
    have HG := hid (T1.out.2.1.trans f2)
    clear o2 f2
    go_wp2
    go_ret
    refine ⟨⟨_, _, rfl, own_set O2.out HTL.out⟩, ⟨⟨e, by rw [blk_set A2.out]; rfl, he0, he1⟩, HG.out.set _ _ (.inr G3.out), G3.out⟩, F2.out.set _ _ (.inl (by simp))⟩
  · obtain ⟨v, a, hr, hb, hl⟩ := t2
    obtain ⟨va, vc, hv⟩ := hr.form
    rw [bv_len] at hv
    subst hv
    have hnl := HLE.out.1 l rfl
    have hvc : l.length ≤ vc := by
      rcases hr with ⟨h, _⟩ | ⟨_, _, h, h4, _⟩
      · simp only [Value.slice.injEq] at h; omega
      · simp only [Value.slice.injEq] at h; rw [bv_len] at h4; omega
    have c0 := blk_cell a 0
    simp at c0
    have A := hid a
    have HR := hid hr
    have HB := hid hb
    obtain ⟨L, hL⟩ : ∃ L, L = l.length := ⟨_, rfl⟩
    rw [← hL] at c0 hl hnl hvc A
    have HL := hid hL
    have KC := hid (clone_c (w := w1) ((Rd.upto9 (hr.fr g2) (k := n) (by rw [← hL]; exact hnl))) (by rw [List.length_take]; omega))
    have hlt : Hid ((l.take n).length = n) := hid (by rw [List.length_take, ← hL]; omega)
    clear a g2 g3 hr hb hL
    have h1 : (n : Int) ≤ (L : Int) := by omega
    have h2 : (n : Int) ≤ (vc : Int) := by omega
    have h3 : n ≤ vc := by omega
    have h4 : (L : Int) ≤ (vc : Int) := by omega
    go_wp2_with fail
    refine KC.out.mono ?_
    rintro r w2 ⟨v2, rfl, o2, f2⟩
    rw [hlt.out] at o2
    obtain ⟨a2, b2, rfl, _⟩ := ownsRow_slice o2
    have O2 := hid (ownsRow_base o2 F1.out.size)
    have F2 := hid (F1.out.trans (f2.mono (S' := [t]) (by simp)))
    have A2 := hid (f2.at A.out (by simp))
    have c0' := blk_cell A2.out 0
    have f0' := blk_frozen A2.out 0
    simp at c0'
    have HG := hid (G2.out.trans f2)
    clear o2 f2 c0
    have fin : Hid (∀ v : Value, Rd ws v (bv (l.drop n)) → TkM ws (w2.setCell ⟨t, 0, none⟩ v) t (some (l.drop n))) := hid (fun v hv => ⟨⟨v, by rw [blk_set A2.out]; rfl, hv, HB.out.drop n, by rw [List.length_drop, ← HL.out]; omega⟩, HG.out.set _ _ (.inr G3.out), G3.out⟩)
    have e1 : Hid ((cutS n (some l)).1.length = n) := hid hlt.out
    by_cases hcn : vc = n
    · have hLn : L = n := by omega
      subst hcn
      subst hLn
      go_wp2
      go_ret
      refine ⟨⟨a2, b2, by rw [e1.out]; rfl, by rw [e1.out]; exact own_set O2.out HTL.out⟩, fin.out _ ?_, F2.out.set _ _ (.inl (by simp))⟩
      rw [List.drop_eq_nil_of_le (by rw [← HL.out]; omega)]
      rcases va with _ | va
      · have : L = 0 := by
          rcases HR.out with ⟨_, h⟩ | ⟨_, _, h, _⟩
          · have : l = [] := by simpa [bv] using h
            rw [HL.out, this]; rfl
          · cases h
        subst this
        exact .inl ⟨rfl, rfl⟩
      · exact .inr ⟨va, _, rfl, Nat.zero_le _, fun j u hj => by simp [bv] at hj⟩
    · rcases HR.out.split with ⟨hl0, _⟩ | ⟨q, o, c', hv, _⟩
      · have hL0 : L = 0 := by rw [HL.out, hl0]; rfl
        have hn0 : n = 0 := by omega
        subst hL0
        subst hn0
        rcases va with _ | va
        · have := HR.out
          rcases this with ⟨h, _⟩ | ⟨_, _, h, _⟩
          · simp only [Value.slice.injEq] at h; omega
          · cases h
        · go_wp2
          go_ret
          refine ⟨⟨a2, b2, by rw [e1.out]; rfl, by rw [e1.out]; exact own_set O2.out HTL.out⟩, fin.out _ ?_, F2.out.set _ _ (.inl (by simp))⟩
          rw [hl0]
          exact .inr ⟨_, _, rfl, Nat.zero_le _, fun j u hj => by simp [bv] at hj⟩
      · simp only [Value.slice.injEq] at hv
        obtain ⟨rfl, _, rfl⟩ := hv
        go_wp2
        go_ret
        refine ⟨⟨a2, b2, by rw [e1.out]; rfl, by rw [e1.out]; exact own_set O2.out HTL.out⟩, fin.out _ ?_, F2.out.set _ _ (.inl (by simp))⟩
        have := HR.out.back (q := n) (by rw [← HL.out]; exact hnl)
        rw [← HL.out] at this
        exact this
end Go.Proofs.YtegbngbhmgbocaaGreatDoor
