/-
  Package manifest: keys, dropped and placed tables are taken.
-/
import Derived.Test.YtkljblgogiheoaaDM1
import Derived.Laws.ResultCell
namespace Go.Proofs.Ytkljblgogiheoaa
open Go.ChangeShapes Go.WideShapes Go.ChangeAt Go.RowKit

theorem Rd.upto9 {w : World} {a : Option Addr} {n c : Nat} {ns : List Nat} (h : Rd w (.slice a n c) (bv ns)) {k : Nat} (hk : k ≤ n) : Rd w (.slice a k c) (bv (ns.take k)) := by
  have hn : n = ns.length := by
    obtain ⟨a', c', e⟩ := h.form
    rw [bv_len] at e
    simp only [Value.slice.injEq] at e
    exact e.2.1
  subst hn
  rcases h with ⟨h, h'⟩ | ⟨a', c', h, h4, h5⟩
  · simp only [Value.slice.injEq] at h
    obtain ⟨rfl, h0, rfl⟩ := h
    have : ns = [] := List.eq_nil_of_length_eq_zero h0
    subst this
    simp only [List.length_nil] at hk
    have : k = 0 := by omega
    subst this
    exact .inl ⟨rfl, rfl⟩
  · simp only [Value.slice.injEq, bv_len] at h
    obtain ⟨rfl, _, rfl⟩ := h
    refine .inr ⟨a', c, by rw [bv_len, List.length_take, Nat.min_eq_left hk], by rw [bv_len, List.length_take]; rw [bv_len] at h4; omega, fun j u hj => h5 j u ?_⟩
    rw [bv_take, List.getElem?_take] at hj
    split at hj
    · exact hj
    · cases hj
theorem own_set {W : World} {B n size t j : Nat} {e : TypeId} {v y : Value} {xs : List Value} (o : W.ownsRow B e size v n xs) (ht : t < B) : (W.setCell ⟨t, j, none⟩ y).ownsRow B e size v n xs :=
  ownsRow_of_block o fun k hk => blk_setne _ _ _ (by have := (o.lt k hk).1; omega)
theorem ctS_le {s : Option (List Nat)} : (∀ l, (ctS s).2 = some l → (ctS s).1 ≤ l.length) ∧ ((ctS s).2 = none → (ctS s).1 = 0) := by
  unfold ctS
  rcases (tkS s).2 with _ | l
  · exact ⟨fun l e => (by cases e), fun _ => rfl⟩
  · unfold fitS
    by_cases h : l.length < (tkS s).1
    · simp only [h, if_true]; exact ⟨fun l e => (by cases e), fun _ => trivial⟩
    · simp only [h, if_false]; exact ⟨fun l' e => (by cases e; omega), fun e => (by cases e)⟩

set_option maxRecDepth 20000 in
set_option maxHeartbeats 1600000 in
theorem keyM_c {ws w : World} {t : Nat} {s : Option (List Nat)} (h : TkM ws w t s) :
    Calls Try.prog 65 #[.pointer (some ⟨t, 0, none⟩)] w fun r w' => (∃ a c, r = .returned (.slice a (kyS s).1.length c) ∧ w'.ownsRow w.heap.size 5 1 (.slice a (kyS s).1.length c) (kyS s).1.length (bv (kyS s).1)) ∧ TkM ws w' t (kyS s).2 ∧ Fr [t] w w' := by
  have CC := hid (countM_c h)
  have hle := ctS_le (s := s)
  obtain ⟨n, hn⟩ : ∃ n, n = (ctS s).1 := ⟨_, rfl⟩
  obtain ⟨s', hs'⟩ : ∃ s', s' = (ctS s).2 := ⟨_, rfl⟩
  have hky : kyS s = cutS n s' := by unfold kyS; rw [hn, hs']
  rw [← hn, ← hs'] at CC hle
  rw [hky]
  have HLE := hid hle
  have HTL := hid h.lt
  clear hn hs' hky hle h
  go_enter Try.func65, Try.ntmps65
  go_wp2_with fail
  refine CC.out.mono ?_
  rintro r w1 ⟨rfl, t1, f1⟩
  have T1 := hid t1
  have F1 := hid f1
  obtain ⟨t2, g2, g3⟩ := t1
  have G2 := hid g2
  have G3 := hid g3
  clear f1
  rcases s' with _ | l
  · have hn0 := HLE.out.2 rfl
    subst hn0
    obtain ⟨e, a, he0, he1⟩ := t2
    have c0 := blk_cell a 0
    simp at c0
    have A := hid a
    have KC := hid (clone_c (w := w1) (v := .slice none 0 0) (ns := []) (.inl ⟨rfl, rfl⟩) (by simp))
    clear a g2 g3
    go_wp2_with fail
    refine KC.out.mono ?_
    rintro r w2 ⟨v2, rfl, o2, f2⟩
    obtain ⟨a2, b2, rfl, _⟩ := ownsRow_slice o2
    have O2 := hid (ownsRow_base o2 F1.out.size)
    have T2 := hid (T1.out.fr f2)
    have F2 := hid (F1.out.trans (f2.mono (S' := [t]) (by simp)))
    have A2 := hid (f2.at A.out (by simp))
    have c0' := blk_cell A2.out 0
    have f0' := blk_frozen A2.out 0
    simp at c0'
    have HG := hid (T1.out.2.1.trans f2)
    clear o2 f2
    go_wp2
    go_ret
    refine ⟨⟨_, _, rfl, own_set O2.out HTL.out⟩, ⟨⟨e, by rw [blk_set A2.out]; rfl, he0, he1⟩, HG.out.set _ _ (.inr G3.out), G3.out⟩, F2.out.set _ _ (.inl (by simp))⟩
  · obtain ⟨v, a, hr, hb, hl⟩ := t2
    obtain ⟨va, vc, hv⟩ := hr.form
    rw [bv_len] at hv
    subst hv
    have hnl := HLE.out.1 l rfl
    have hvc : l.length ≤ vc := by
      rcases hr with ⟨h, _⟩ | ⟨_, _, h, h4, _⟩
      · simp only [Value.slice.injEq] at h; omega
      · simp only [Value.slice.injEq] at h; rw [bv_len] at h4; omega
    have c0 := blk_cell a 0
    simp at c0
    have A := hid a
    have HR := hid hr
    have HB := hid hb
    obtain ⟨L, hL⟩ : ∃ L, L = l.length := ⟨_, rfl⟩
    rw [← hL] at c0 hl hnl hvc A
    have HL := hid hL
    have KC := hid (clone_c (w := w1) ((Rd.upto9 (hr.fr g2) (k := n) (by rw [← hL]; exact hnl))) (by rw [List.length_take]; omega))
    have hlt : Hid ((l.take n).length = n) := hid (by rw [List.length_take, ← hL]; omega)
    clear a g2 g3 hr hb hL
    have h1 : (n : Int) ≤ (L : Int) := by omega
    have h2 : (n : Int) ≤ (vc : Int) := by omega
    have h3 : n ≤ vc := by omega
    have h4 : (L : Int) ≤ (vc : Int) := by omega
    go_wp2_with fail
    refine KC.out.mono ?_
    rintro r w2 ⟨v2, rfl, o2, f2⟩
    rw [hlt.out] at o2
    obtain ⟨a2, b2, rfl, _⟩ := ownsRow_slice o2
    have O2 := hid (ownsRow_base o2 F1.out.size)
    have F2 := hid (F1.out.trans (f2.mono (S' := [t]) (by simp)))
    have A2 := hid (f2.at A.out (by simp))
    have c0' := blk_cell A2.out 0
    have f0' := blk_frozen A2.out 0
    simp at c0'
    have HG := hid (G2.out.trans f2)
    clear o2 f2 c0
    have fin : Hid (∀ v : Value, Rd ws v (bv (l.drop n)) → TkM ws (w2.setCell ⟨t, 0, none⟩ v) t (some (l.drop n))) := hid (fun v hv => ⟨⟨v, by rw [blk_set A2.out]; rfl, hv, HB.out.drop n, by rw [List.length_drop, ← HL.out]; omega⟩, HG.out.set _ _ (.inr G3.out), G3.out⟩)
    have e1 : Hid ((cutS n (some l)).1.length = n) := hid hlt.out
    by_cases hcn : vc = n
    · have hLn : L = n := by omega
      subst hcn
      subst hLn
      go_wp2
      go_ret
      refine ⟨⟨a2, b2, by rw [e1.out]; rfl, by rw [e1.out]; exact own_set O2.out HTL.out⟩, fin.out _ ?_, F2.out.set _ _ (.inl (by simp))⟩
      rw [List.drop_eq_nil_of_le (by rw [← HL.out]; omega)]
      rcases va with _ | va
      · have : L = 0 := by
          rcases HR.out with ⟨_, h⟩ | ⟨_, _, h, _⟩
          · have : l = [] := by simpa [bv] using h
            rw [HL.out, this]; rfl
          · cases h
        subst this
        exact .inl ⟨rfl, rfl⟩
      · exact .inr ⟨va, _, rfl, Nat.zero_le _, fun j u hj => by simp [bv] at hj⟩
    · rcases HR.out.split with ⟨hl0, _⟩ | ⟨q, o, c', hv, _⟩
      · have hL0 : L = 0 := by rw [HL.out, hl0]; rfl
        have hn0 : n = 0 := by omega
        subst hL0
        subst hn0
        rcases va with _ | va
        · have := HR.out
          rcases this with ⟨h, _⟩ | ⟨_, _, h, _⟩
          · simp only [Value.slice.injEq] at h; omega
          · cases h
        · go_wp2
          go_ret
          refine ⟨⟨a2, b2, by rw [e1.out]; rfl, by rw [e1.out]; exact own_set O2.out HTL.out⟩, fin.out _ ?_, F2.out.set _ _ (.inl (by simp))⟩
          rw [hl0]
          exact .inr ⟨_, _, rfl, Nat.zero_le _, fun j u hj => by simp [bv] at hj⟩
      · simp only [Value.slice.injEq] at hv
        obtain ⟨rfl, _, rfl⟩ := hv
        go_wp2
        go_ret
        refine ⟨⟨a2, b2, by rw [e1.out]; rfl, by rw [e1.out]; exact own_set O2.out HTL.out⟩, fin.out _ ?_, F2.out.set _ _ (.inl (by simp))⟩
        have := HR.out.back (q := n) (by rw [← HL.out]; exact hnl)
        rw [← HL.out] at this
        exact this
end Go.Proofs.Ytkljblgogiheoaa
