/-
  Package manifest: keys, dropped and placed tables are taken.
-/
import Derived.Test.YtkljblgogiheoaaDM1
import Derived.Laws.ResultCell
namespace Go.Proofs.Ytkljblgogiheoaa
open Go.ChangeShapes Go.WideShapes Go.ChangeAt Go.RowKit

theorem Rd.upto9 {w : World} {a : Option Addr} {n c : Nat} {ns : List Nat} (h : Rd w (.slice a n c) (bv ns)) {k : Nat} (hk : k ≤ n) : Rd w (.slice a k c) (bv (ns.take k)) := by
  have hn : n = ns.length := by
    obtain ⟨a', c', e⟩ := h.form
    rw [bv_len] at e
    simp only [Value.slice.injEq] at e
    exact e.2.1
  subst hn
  rcases h with ⟨h, h'⟩ | ⟨a', c', h, h4, h5⟩
  · simp only [Value.slice.injEq] at h
    obtain ⟨rfl, h0, rfl⟩ := h
    have : ns = [] := List.eq_nil_of_length_eq_zero h0
    subst this
    simp only [List.length_nil] at hk
    have : k = 0 := by omega
    subst this
    exact .inl ⟨rfl, rfl⟩
  · simp only [Value.slice.injEq, bv_len] at h
    obtain ⟨rfl, _, rfl⟩ := h
    refine .inr ⟨a', c, by rw [bv_len, List.length_take, Nat.min_eq_left hk], by rw [bv_len, List.length_take]; rw [bv_len] at h4; omega, fun j u hj => h5 j u ?_⟩
    rw [bv_take, List.getElem?_take] at hj
    split at hj
    · exact hj
    · cases hj
theorem own_set {W : World} {B n size t j : Nat} {e : TypeId} {v y : Value} {xs : List Value} (o : W.ownsRow B e size v n xs) (ht : t < B) : (W.setCell ⟨t, j, none⟩ y).ownsRow B e size v n xs :=
  ownsRow_of_block o fun k hk => blk_setne _ _ _ (by have := (o.lt k hk).1; omega)
theorem ctS_le {s : Option (List Nat)} : (∀ l, (ctS s).2 = some l → (ctS s).1 ≤ l.length) ∧ ((ctS s).2 = none → (ctS s).1 = 0) := by
  unfold ctS
  rcases (tkS s).2 with _ | l
  · exact ⟨fun l e => (by cases e), fun _ => rfl⟩
  · unfold fitS
    by_cases h : l.length < (tkS s).1
    · simp only [h, if_true]; exact ⟨fun l e => (by cases e), fun _ => trivial⟩
    · simp only [h, if_false]; exact ⟨fun l' e => (by cases e; omega), fun e => (by cases e)⟩

set_option maxRecDepth 20000 in
set_option maxHeartbeats 1600000 in
theorem keyM_c {ws w : World} {t : Nat} {s : Option (List Nat)} (h : TkM ws w t s) :
    Calls Try.prog 65 #[.pointer (some ⟨t, 0, none⟩)] w fun r w' => (∃ a c, r = .returned (.slice a (kyS s).1.length c) ∧ w'.ownsRow w.heap.size 5 1 (.slice a (kyS s).1.length c) (kyS s).1.length (bv (kyS s).1)) ∧ TkM ws w' t (kyS s).2 ∧ Fr [t] w w' := by
  have CC := hid (countM_c h)
  have hle := ctS_le (s := s)
  obtain ⟨n, hn⟩ : ∃ n, n = (ctS s).1 := ⟨_, rfl⟩
  obtain ⟨s', hs'⟩ : ∃ s', s' = (ctS s).2 := ⟨_, rfl⟩
  have hky : kyS s = cutS n s' := by unfold kyS; rw [hn, hs']
  rw [← hn, ← hs'] at CC hle
  rw [hky]
  have HLE := hid hle
  have HTL := hid h.lt
  clear hn hs' hky hle h
  go_enter Try.func65, Try.ntmps65
  go_wp2_with fail
  refine CC.out.mono ?_
  rintro r w1 ⟨rfl, t1, f1⟩
  have T1 := hid t1
  have F1 := hid f1
  obtain ⟨t2, g2, g3⟩ := t1
  have G2 := hid g2
  have G3 := hid g3
  clear f1
  rcases s' with _ | l
  · have hn0 := HLE.out.2 rfl
    subst hn0
    obtain ⟨e, a, he0, he1⟩ := t2
    have c0 := blk_cell a 0
    simp at c0
    have A := hid a
    have KC := hid (clone_c (w := w1) (v := .slice none 0 0) (ns := []) (.inl ⟨rfl, rfl⟩) (by simp))
    clear a g2 g3
    go_wp2_with fail
    refine KC.out.mono ?_
    rintro r w2 ⟨v2, rfl, o2, f2⟩
    obtain ⟨a2, b2, rfl, _⟩ := ownsRow_slice o2
    have O2 := hid (ownsRow_base o2 F1.out.size)
    have T2 := hid (T1.out.fr f2)
    have F2 := hid (F1.out.trans (f2.mono (S' := [t]) (by simp)))
    have A2 := hid (f2.at A.out (by simp))
    have c0' := blk_cell A2.out 0
    have f0' := blk_frozen A2.out 0
    simp at c0'
    have HG := hid (T1.out.2.1.trans f2)
    clear o2 f2
    go_wp2
    go_ret
    refine ⟨⟨_, _, rfl, own_set O2.out HTL.out⟩, ⟨⟨e, by rw [blk_set A2.out]; rfl, he0, he1⟩, HG.out.set _ _ (.inr G3.out), G3.out⟩, F2.out.set _ _ (.inl (by simp))⟩
  · obtain ⟨v, a, hr, hb, hl⟩ := t2
    obtain ⟨va, vc, hv⟩ := hr.form
    rw [bv_len] at hv
    subst hv
    have hnl := HLE.out.1 l rfl
    have hvc : l.length ≤ vc := by
      rcases hr with ⟨h, _⟩ | ⟨_, _, h, h4, _⟩
      · simp only [Value.slice.injEq] at h; omega
      · simp only [Value.slice.injEq] at h; rw [bv_len] at h4; omega
    have c0 := blk_cell a 0
    simp at c0
    have A := hid a
    have HR := hid hr
    have HB := hid hb
    obtain ⟨L, hL⟩ : ∃ L, L = l.length := ⟨_, rfl⟩
    rw [← hL] at c0 hl hnl hvc A
    have HL := hid hL
    have KC := hid (clone_c (w := w1) ((Rd.upto9 (hr.fr g2) (k := n) (by rw [← hL]; exact hnl))) (by rw [List.length_take]; omega))
    have hlt : Hid ((l.take n).length = n) := hid (by rw [List.length_take, ← hL]; omega)
    clear a g2 g3 hr hb hL
    have h1 : (n : Int) ≤ (L : Int) := by omega
    have h2 : (n : Int) ≤ (vc : Int) := by omega
    have h3 : n ≤ vc := by omega
    have h4 : (L : Int) ≤ (vc : Int) := by omega
    go_wp2_with fail
    refine KC.out.mono ?_
    rintro r w2 ⟨v2, rfl, o2, f2⟩
    rw [hlt.out] at o2
    obtain ⟨a2, b2, rfl, _⟩ := ownsRow_slice o2
    have O2 := hid (ownsRow_base o2 F1.out.size)
    have F2 := hid (F1.out.trans (f2.mono (S' := [t]) (by simp)))
    have A2 := hid (f2.at A.out (by simp))
    have c0' := blk_cell A2.out 0
    have f0' := blk_frozen A2.out 0
    simp at c0'
    have HG := hid (G2.out.trans f2)
    clear o2 f2 c0
    have fin : Hid (∀ v : Value, Rd ws v (bv (l.drop n)) → TkM ws (w2.setCell ⟨t, 0, none⟩ v) t (some (l.drop n))) := hid (fun v hv => ⟨⟨v, by rw [blk_set A2.out]; rfl, hv, HB.out.drop n, by rw [List.length_drop, ← HL.out]; omega⟩, HG.out.set _ _ (.inr G3.out), G3.out⟩)
    have e1 : Hid ((cutS n (some l)).1.length = n) := hid hlt.out
    by_cases hcn : vc = n
    · have hLn : L = n := by omega
      subst hcn
      subst hLn
      go_wp2
      go_ret
      refine ⟨⟨a2, b2, by rw [e1.out]; rfl, by rw [e1.out]; exact own_set O2.out HTL.out⟩, fin.out _ ?_, F2.out.set _ _ (.inl (by simp))⟩
      rw [List.drop_eq_nil_of_le (by rw [← HL.out]; omega)]
      rcases va with _ | va
      · have : L = 0 := by
          rcases HR.out with ⟨_, h⟩ | ⟨_, _, h, _⟩
          · have : l = [] := by simpa [bv] using h
            rw [HL.out, this]; rfl
          · cases h
        subst this
        exact .inl ⟨rfl, rfl⟩
      · exact .inr ⟨va, _, rfl, Nat.zero_le _, fun j u hj => by simp [bv] at hj⟩
    · rcases HR.out.split with ⟨hl0, _⟩ | ⟨q, o, c', hv, _⟩
      · have hL0 : L = 0 := by rw [HL.out, hl0]; rfl
        have hn0 : n = 0 := by omega
        subst hL0
        subst hn0
        rcases va with _ | va
        · have := HR.out
          rcases this with ⟨h, _⟩ | ⟨_, _, h, _⟩
          · simp only [Value.slice.injEq] at h; omega
          · cases h
        · go_wp2
          go_ret
          refine ⟨⟨a2, b2, by rw [e1.out]; rfl, by rw [e1.out]; exact own_set O2.out HTL.out⟩, fin.out _ ?_, F2.out.set _ _ (.inl (by simp))⟩
          rw [hl0]
          exact .inr ⟨_, _, rfl, Nat.zero_le _, fun j u hj => by simp [bv] at hj⟩
      · simp only [Value.slice.injEq] at hv
        obtain ⟨rfl, _, rfl⟩ := hv
        go_wp2
        go_ret
        refine ⟨⟨a2, b2, by rw [e1.out]; rfl, by rw [e1.out]; exact own_set O2.out HTL.out⟩, fin.out _ ?_, F2.out.set _ _ (.inl (by simp))⟩
        have := HR.out.back (q := n) (by rw [← HL.out]; exact hnl)
        rw [← HL.out] at this
        exact this
end Go.Proofs.Ytkljblgogiheoaa
namespace Go.Proofs.Ytkljblgogiheoaa
open Go.ChangeShapes Go.WideShapes Go.ChangeAt Go.RowKit

theorem ret_c9 {fn : Func} {p : Tmp} {ty : TypeId} (h : fn.results = #[.cell p ty]) {tmps : Array Value} {w : World} {g : Nat} {cs : Array Value} (hp : tmps.getD p undef = .pointer (some ⟨g, 0, none⟩)) (hg : (loadVar ty ⟨g, 0, none⟩).run Try.prog w = .ok (.agg cs) w) :
    (results fn tmps).run Try.prog w = .ok (.agg cs) w := by
  have hp' : tmps[p]?.getD undef = .pointer (some ⟨g, 0, none⟩) := by simpa using hp
  simp [results, h, hp', asAddr, hg]
theorem sizeGone : (Try.prog.info? 59).map (·.size) = some 2 := by kernel_rfl
theorem sizePlaced : (Try.prog.info? 57).map (·.size) = some 5 := by kernel_rfl
theorem load_gone {w : World} {g : Nat} {a b : Value} {t : TypeId} (hg : w.heap[g]? = some (.cells #[a, b] t (0, 0))) : (loadVar 59 ⟨g, 0, none⟩).run Try.prog w = .ok (.agg #[a, b]) w :=
  run_loadVar_row w g t 59 #[a, b] (0, 0) _ hg Try.underlying59 rfl sizeGone
theorem load_placed {w : World} {g : Nat} {a b c d e : Value} {t : TypeId} (hg : w.heap[g]? = some (.cells #[a, b, c, d, e] t (0, 0))) : (loadVar 57 ⟨g, 0, none⟩).run Try.prog w = .ok (.agg #[a, b, c, d, e]) w :=
  run_loadVar_row w g t 57 #[a, b, c, d, e] (0, 0) _ hg Try.underlying57 rfl sizePlaced

set_option maxRecDepth 20000 in
set_option maxHeartbeats 1600000 in
theorem goneM_c {ws w : World} {t : Nat} {s : Option (List Nat)} (h : TkM ws w t s) :
    Calls Try.prog 43 #[.pointer (some ⟨t, 0, none⟩)] w fun r w' => r = .returned (.agg #[.int .i64 (gnS s).1.1, .int .i64 (gnS s).1.2]) ∧ TkM ws w' t (gnS s).2 ∧ Fr [t] w w' := by
  obtain ⟨W, hW⟩ : ∃ W, W = w.alloc (.cells #[.int .i64 0, .int .i64 0] 59) := ⟨_, rfl⟩
  have T0 : Hid (TkM ws W t s) := hid (by rw [hW]; exact h.fr ((Fr.refl [] w).alloc _))
  have F0 : Hid (Fr [t] w W) := hid (by rw [hW]; exact (Fr.refl _ w).alloc _)
  have N0 : Hid (W.heap[w.heap.size]? = some (.cells #[.int .i64 0, .int .i64 0] 59 (0, 0))) := hid (by rw [hW]; exact blk_new _ _)
  have HTL := hid h.lt
  have hg : gnS s = ((((nmS s).1 : Int), ((nmS (nmS s).2).1 : Int)), (nmS (nmS s).2).2) := rfl
  rw [hg]
  obtain ⟨n1, hn1⟩ : ∃ n, n = (nmS s).1 := ⟨_, rfl⟩
  obtain ⟨s1, hs1⟩ : ∃ x, x = (nmS s).2 := ⟨_, rfl⟩
  have C1 := hid (numberM_c T0.out)
  rw [← hn1, ← hs1] at C1
  rw [← hn1, ← hs1]
  obtain ⟨n2, hn2⟩ : ∃ n, n = (nmS s1).1 := ⟨_, rfl⟩
  obtain ⟨s2, hs2⟩ : ∃ x, x = (nmS s1).2 := ⟨_, rfl⟩
  have C2 : Hid (∀ w1, TkM ws w1 t s1 → Calls Try.prog 40 #[.pointer (some ⟨t, 0, none⟩)] w1 fun r w' => r = .returned (.int .i64 (n2 : Int)) ∧ TkM ws w' t s2 ∧ Fr [t] w1 w') := hid (fun w1 h1 => by rw [hn2, hs2]; exact numberM_c h1)
  rw [← hn2, ← hs2]
  clear h hg hn1 hs1 hn2 hs2
  go_enter Try.func43, Try.ntmps43
  go_upto_region 1 with fail
  rw [← hW]
  clear hW
  go_wp2_with fail
  refine C1.out.mono ?_
  rintro r w1 ⟨rfl, t1, f1⟩
  have C2' := hid (C2.out w1 t1)
  have F1 := hid f1
  clear t1 f1
  go_wp2_with fail
  refine C2'.out.mono ?_
  rintro r w2 ⟨rfl, t2, f2⟩
  have T2 := hid t2
  have F2 := hid (F1.out.trans f2)
  have N2 := hid (F2.out.at N0.out (by simp; have := HTL.out; omega))
  have d0 := blk_cell N2.out 0
  have d1 := blk_cell N2.out 1
  have z0 := blk_frozen N2.out 0
  have z1 := blk_frozen N2.out 1
  simp at d0 d1
  clear t2 f2
  go_wp2
  refine bodyPost_ret (ret_c9 rfl rfl (load_gone (by rw [blk_set (blk_set N2.out 0 _) 1 _]; rfl))) rfl ⟨rfl, T2.out.keep ?_ ?_, ?_⟩
  · rw [blk_setne _ _ _ (by have := HTL.out; omega), blk_setne _ _ _ (by have := HTL.out; omega)]
  · have hle : ws.heap.size ≤ w.heap.size := by have := T2.out.2.2; have := HTL.out; omega
    exact (T2.out.2.1.set _ _ (.inr hle)).set _ _ (.inr hle)
  · exact ((F0.out.trans F2.out).set _ _ (.inr (Nat.le_refl _))).set _ _ (.inr (Nat.le_refl _))

set_option maxRecDepth 20000 in
set_option maxHeartbeats 3200000 in
theorem placedM_c {ws w : World} {t : Nat} {s : Option (List Nat)} (h : TkM ws w t s) :
    Calls Try.prog 45 #[.pointer (some ⟨t, 0, none⟩)] w fun r w' => (∃ la lc ma mc, r = .returned (.agg #[.int .i64 (plS s).1.1, .int .i64 (plS s).1.2.num, .int .i64 (plS s).1.2.size, .slice la (plS s).1.2.least.length lc, .slice ma (plS s).1.2.most.length mc]) ∧ w'.ownsRow w.heap.size 5 1 (.slice la (plS s).1.2.least.length lc) (plS s).1.2.least.length (bv (plS s).1.2.least) ∧ w'.ownsRow w.heap.size 5 1 (.slice ma (plS s).1.2.most.length mc) (plS s).1.2.most.length (bv (plS s).1.2.most)) ∧ TkM ws w' t (plS s).2 ∧ Fr [t] w w' := by
  obtain ⟨W, hW⟩ : ∃ W, W = w.alloc (.cells #[.int .i64 0, .int .i64 0, .int .i64 0, .slice none 0 0, .slice none 0 0] 57) := ⟨_, rfl⟩
  have T0 : Hid (TkM ws W t s) := hid (by rw [hW]; exact h.fr ((Fr.refl [] w).alloc _))
  have F0 : Hid (Fr [t] w W) := hid (by rw [hW]; exact (Fr.refl _ w).alloc _)
  have N0 : Hid (W.heap[w.heap.size]? = some (.cells #[.int .i64 0, .int .i64 0, .int .i64 0, .slice none 0 0, .slice none 0 0] 57 (0, 0))) := hid (by rw [hW]; exact blk_new _ _)
  have HTL := hid h.lt
  have hws : ws.heap.size ≤ w.heap.size := by have := h.2.2; have := h.lt; omega
  have HWS := hid hws
  obtain ⟨n1, hn1⟩ : ∃ n, n = (nmS s).1 := ⟨_, rfl⟩
  obtain ⟨s1, hs1⟩ : ∃ x, x = (nmS s).2 := ⟨_, rfl⟩
  obtain ⟨n2, hn2⟩ : ∃ n, n = (nmS s1).1 := ⟨_, rfl⟩
  obtain ⟨s2, hs2⟩ : ∃ x, x = (nmS s1).2 := ⟨_, rfl⟩
  obtain ⟨n3, hn3⟩ : ∃ n, n = (nmS s2).1 := ⟨_, rfl⟩
  obtain ⟨s3, hs3⟩ : ∃ x, x = (nmS s2).2 := ⟨_, rfl⟩
  obtain ⟨k1, hk1⟩ : ∃ n, n = (kyS s3).1 := ⟨_, rfl⟩
  obtain ⟨s4, hs4⟩ : ∃ x, x = (kyS s3).2 := ⟨_, rfl⟩
  obtain ⟨k2, hk2⟩ : ∃ n, n = (kyS s4).1 := ⟨_, rfl⟩
  obtain ⟨s5, hs5⟩ : ∃ x, x = (kyS s4).2 := ⟨_, rfl⟩
  have hg : plS s = (((n1 : Int), ⟨(n2 : Int), (n3 : Int), k1, k2⟩), s5) := by unfold plS; rw [hs5, hk2, hs4, hk1, hs3, hn3, hs2, hn2, hs1, hn1]
  rw [hg]
  have C1 : Hid (Calls Try.prog 40 #[.pointer (some ⟨t, 0, none⟩)] W fun r w' => r = .returned (.int .i64 (n1 : Int)) ∧ TkM ws w' t s1 ∧ Fr [t] W w') := hid (by rw [hn1, hs1]; exact numberM_c T0.out)
  have C2 : Hid (∀ w1, TkM ws w1 t s1 → Calls Try.prog 40 #[.pointer (some ⟨t, 0, none⟩)] w1 fun r w' => r = .returned (.int .i64 (n2 : Int)) ∧ TkM ws w' t s2 ∧ Fr [t] w1 w') := hid (fun w1 h1 => by rw [hn2, hs2]; exact numberM_c h1)
  have C3 : Hid (∀ w1, TkM ws w1 t s2 → Calls Try.prog 40 #[.pointer (some ⟨t, 0, none⟩)] w1 fun r w' => r = .returned (.int .i64 (n3 : Int)) ∧ TkM ws w' t s3 ∧ Fr [t] w1 w') := hid (fun w1 h1 => by rw [hn3, hs3]; exact numberM_c h1)
  have C4 : Hid (∀ w1, TkM ws w1 t s3 → Calls Try.prog 65 #[.pointer (some ⟨t, 0, none⟩)] w1 fun r w' => (∃ a c, r = .returned (.slice a k1.length c) ∧ w'.ownsRow w1.heap.size 5 1 (.slice a k1.length c) k1.length (bv k1)) ∧ TkM ws w' t s4 ∧ Fr [t] w1 w') := hid (fun w1 h1 => by rw [hk1, hs4]; exact keyM_c h1)
  have C5 : Hid (∀ w1, TkM ws w1 t s4 → Calls Try.prog 65 #[.pointer (some ⟨t, 0, none⟩)] w1 fun r w' => (∃ a c, r = .returned (.slice a k2.length c) ∧ w'.ownsRow w1.heap.size 5 1 (.slice a k2.length c) k2.length (bv k2)) ∧ TkM ws w' t s5 ∧ Fr [t] w1 w') := hid (fun w1 h1 => by rw [hk2, hs5]; exact keyM_c h1)
  obtain ⟨l1, hl1⟩ : ∃ l, l = k1.length := ⟨_, rfl⟩
  obtain ⟨l2, hl2⟩ : ∃ l, l = k2.length := ⟨_, rfl⟩
  simp only [← hl1] at C4 ⊢
  simp only [← hl2] at C5 ⊢
  clear h hg hn1 hs1 hn2 hs2 hn3 hs3 hk1 hs4 hk2 hs5 hws hl1 hl2
  go_enter Try.func45, Try.ntmps45
  go_upto_region 1 with fail
  rw [← hW]
  clear hW
  go_wp2_with fail
  refine C1.out.mono ?_
  rintro r w1 ⟨rfl, t1, f1⟩
  have D2 := hid (C2.out w1 t1)
  have F1 := hid f1
  clear t1 f1
  go_wp2_with fail
  refine D2.out.mono ?_
  rintro r w2 ⟨rfl, t2, f2⟩
  have D3 := hid (C3.out w2 t2)
  have F2 := hid (F1.out.trans f2)
  clear t2 f2
  go_wp2_with fail
  refine D3.out.mono ?_
  rintro r w3 ⟨rfl, t3, f3⟩
  have D4 := hid (C4.out w3 t3)
  have F3 := hid (F2.out.trans f3)
  clear t3 f3
  go_wp2_with fail
  refine D4.out.mono ?_
  rintro r w4 ⟨⟨a4, c4, rfl, o4⟩, t4, f4⟩
  have D5 := hid (C5.out w4 t4)
  have F4 := hid (F3.out.trans f4)
  have O4 := hid o4
  have hs3' := F3.out.size
  have hs4' := f4.size
  clear t4 f4 o4
  go_wp2_with fail
  refine D5.out.mono ?_
  rintro r w5 ⟨⟨a5, c5, rfl, o5⟩, t5, f5⟩
  have hN := blk_lt N0.out
  obtain ⟨w6, hw6⟩ : ∃ w6, w6 = w5.alloc (.cells #[.int .i64 (n2 : Int), .int .i64 (n3 : Int), .slice a4 l1 c4, .slice a5 l2 c5] 55) := ⟨_, rfl⟩
  have F6 : Hid (Fr [t] W w6) := hid (by rw [hw6]; exact (F4.out.trans f5).alloc _)
  have T6 : Hid (TkM ws w6 t s5) := hid (by rw [hw6]; exact t5.fr ((Fr.refl [] w5).alloc _))
  have O5 : Hid (w6.ownsRow (w.heap.size + 1) 5 1 (.slice a5 l2 c5) l2 (bv k2)) := hid (by rw [hw6]; exact ownsRow_base (ownsRow_fr o5 ((Fr.refl [] w5).alloc _)) (by omega))
  have O46 : Hid (w6.ownsRow (w.heap.size + 1) 5 1 (.slice a4 l1 c4) l1 (bv k1)) := hid (by
    have o45 : w5.ownsRow w3.heap.size 5 1 (.slice a4 l1 c4) l1 (bv k1) := ownsRow_of_block O4.out fun k hk => f5.block k (O4.out.lt k hk).2 (by have := (O4.out.lt k hk).1; have := HTL.out; simp; omega)
    rw [hw6]; exact ownsRow_base (ownsRow_fr o45 ((Fr.refl [] w5).alloc _)) (by omega))
  have N6 := hid (F6.out.at N0.out (by simp; have := HTL.out; omega))
  have X6 : Hid (w6.heap[w5.heap.size]? = some (.cells #[.int .i64 (n2 : Int), .int .i64 (n3 : Int), .slice a4 l1 c4, .slice a5 l2 c5] 55 (0, 0))) := hid (by rw [hw6]; exact blk_new _ _)
  have d0 := blk_cell N6.out 0
  have d1 := blk_cell N6.out 1
  have d2 := blk_cell N6.out 2
  have d3 := blk_cell N6.out 3
  have d4 := blk_cell N6.out 4
  have z0 := blk_frozen N6.out 0
  have z1 := blk_frozen N6.out 1
  have z2 := blk_frozen N6.out 2
  have z3 := blk_frozen N6.out 3
  have z4 := blk_frozen N6.out 4
  have x0 := blk_cell X6.out 0
  have x1 := blk_cell X6.out 1
  have x2 := blk_cell X6.out 2
  have x3 := blk_cell X6.out 3
  simp at d0 d1 d2 d3 d4 x0 x1 x2 x3
  clear t5 f5 o5
  go_upto_region 3 with fail
  rw [← hw6]
  clear hw6
  go_wp2
  refine bodyPost_ret (ret_c9 rfl rfl (load_placed (by rw [blk_set (blk_set (blk_set (blk_set (blk_set N6.out 0 _) 1 _) 2 _) 3 _) 4 _]; rfl))) rfl ⟨⟨a4, c4, a5, c5, rfl, ?_, ?_⟩, T6.out.keep ?_ ?_, ?_⟩
  · exact ownsRow_base (own_set (own_set (own_set (own_set (own_set O46.out (Nat.lt_succ_self _)) (Nat.lt_succ_self _)) (Nat.lt_succ_self _)) (Nat.lt_succ_self _)) (Nat.lt_succ_self _)) (Nat.le_succ _)
  · exact ownsRow_base (own_set (own_set (own_set (own_set (own_set O5.out (Nat.lt_succ_self _)) (Nat.lt_succ_self _)) (Nat.lt_succ_self _)) (Nat.lt_succ_self _)) (Nat.lt_succ_self _)) (Nat.le_succ _)
  · have hne : t ≠ w.heap.size := by have := HTL.out; omega
    rw [blk_setne _ _ _ hne, blk_setne _ _ _ hne, blk_setne _ _ _ hne, blk_setne _ _ _ hne, blk_setne _ _ _ hne]
  · have hle := HWS.out
    exact ((((T6.out.2.1.set _ _ (.inr hle)).set _ _ (.inr hle)).set _ _ (.inr hle)).set _ _ (.inr hle)).set _ _ (.inr hle)
  · have hle := Nat.le_refl w.heap.size
    exact (((((F0.out.trans F6.out).set _ _ (.inr hle)).set _ _ (.inr hle)).set _ _ (.inr hle)).set _ _ (.inr hle)).set _ _ (.inr hle)
end Go.Proofs.Ytkljblgogiheoaa
