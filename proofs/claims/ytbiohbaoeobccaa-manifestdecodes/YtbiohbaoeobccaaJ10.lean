/-
  Package manifest: keys, dropped and placed tables are taken.
-/
import Derived.Test.YtbiohbaoeobccaaDM1
import Derived.Laws.ResultCell
import Derived.Test.YtbiohbaoeobccaaB
import Derived.Test.YtbiohbaoeobccaaJ06
namespace Go.Proofs.Ytbiohbaoeobccaa
open Go.ChangeShapes Go.WideShapes Go.ChangeAt Go.RowKit

theorem Rd.upto9 {w : World} {a : Option Addr} {n c : Nat} {ns : List Nat} (h : Rd w (.slice a n c) (bv ns)) {k : Nat} (hk : k ≤ n) : Rd w (.slice a k c) (bv (ns.take k)) := by
  have hn : n = ns.length := by
    obtain ⟨a', c', e⟩ := h.form
    rw [bv_len] at e
    simp only [Value.slice.injEq] at e
    exact e.2.1
  subst hn
  rcases h with ⟨h, h'⟩ | ⟨a', c', h, h4, h5⟩
  · simp only [Value.slice.injEq] at h
    obtain ⟨rfl, h0, rfl⟩ := h
    have : ns = [] := List.eq_nil_of_length_eq_zero h0
    subst this
    simp only [List.length_nil] at hk
    have : k = 0 := by omega
    subst this
    exact .inl ⟨rfl, rfl⟩
  · simp only [Value.slice.injEq, bv_len] at h
    obtain ⟨rfl, _, rfl⟩ := h
    refine .inr ⟨a', c, by rw [bv_len, List.length_take, Nat.min_eq_left hk], by rw [bv_len, List.length_take]; rw [bv_len] at h4; omega, fun j u hj => h5 j u ?_⟩
    rw [bv_take, List.getElem?_take] at hj
    split at hj
    · exact hj
    · cases hj
theorem own_set {W : World} {B n size t j : Nat} {e : TypeId} {v y : Value} {xs : List Value} (o : W.ownsRow B e size v n xs) (ht : t < B) : (W.setCell ⟨t, j, none⟩ y).ownsRow B e size v n xs :=
  ownsRow_of_block o fun k hk => blk_setne _ _ _ (by have := (o.lt k hk).1; omega)
theorem ctS_le {s : Option (List Nat)} : (∀ l, (ctS s).2 = some l → (ctS s).1 ≤ l.length) ∧ ((ctS s).2 = none → (ctS s).1 = 0) := by
  unfold ctS
  rcases (tkS s).2 with _ | l
  · exact ⟨fun l e => (by cases e), fun _ => rfl⟩
  · unfold fitS
    by_cases h : l.length < (tkS s).1
    · simp only [h, if_true]; exact ⟨fun l e => (by cases e), fun _ => trivial⟩
    · simp only [h, if_false]; exact ⟨fun l' e => (by cases e; omega), fun e => (by cases e)⟩

set_option maxRecDepth 20000 in
set_option maxHeartbeats 1600000 in
theorem keyM_c {ws w : World} {t : Nat} {s : Option (List Nat)} (h : TkM ws w t s) :
    Calls Try.prog 56 #[.pointer (some ⟨t, 0, none⟩)] w fun r w' => (∃ a c, r = .returned (.slice a (kyS s).1.length c) ∧ w'.ownsRow w.heap.size 5 1 (.slice a (kyS s).1.length c) (kyS s).1.length (bv (kyS s).1)) ∧ TkM ws w' t (kyS s).2 ∧ Fr [t] w w' := by
  have CC := hid (countM_c h)
  have hle := ctS_le (s := s)
  obtain ⟨n, hn⟩ : ∃ n, n = (ctS s).1 := ⟨_, rfl⟩
  obtain ⟨s', hs'⟩ : ∃ s', s' = (ctS s).2 := ⟨_, rfl⟩
  have hky : kyS s = cutS n s' := by unfold kyS; rw [hn, hs']
  rw [← hn, ← hs'] at CC hle
  rw [hky]
  have HLE := hid hle
  have HTL := hid h.lt
  clear hn hs' hky hle h
  go_enter Try.func56, Try.ntmps56
  go_wp2_with fail
  refine CC.out.mono ?_
  rintro r w1 ⟨rfl, t1, f1⟩
  have T1 := hid t1
  have F1 := hid f1
  obtain ⟨t2, g2, g3⟩ := t1
  have G2 := hid g2
  have G3 := hid g3
  clear f1
  rcases s' with _ | l
  · have hn0 := HLE.out.2 rfl
    subst hn0
    obtain ⟨e, a, he0, he1⟩ := t2
    have c0 := blk_cell a 0
    simp at c0
    have A := hid a
    have KC := hid (clone_c (w := w1) (v := .slice none 0 0) (ns := []) (.inl ⟨rfl, rfl⟩) (by simp))
    clear a g2 g3
    go_wp2_with fail
    refine KC.out.mono ?_
    rintro r w2 ⟨v2, rfl, o2, f2⟩
    obtain ⟨a2, b2, rfl, _⟩ := ownsRow_slice o2
    have O2 := hid (ownsRow_base o2 F1.out.size)
    have T2 := hid (T1.out.fr f2)
    have F2 := hid (F1.out.trans (f2.mono (S' := [t]) (by simp)))
    have A2 := hid (f2.at A.out (by simp))
    have c0' := blk_cell A2.out 0
    have f0' := blk_frozen A2.out 0
    simp at c0'
    have HG := hid (T1.out.2.1.trans f2)
    clear o2 f2
    go_wp2
    go_ret
    refine ⟨⟨_, _, rfl, own_set O2.out HTL.out⟩, ⟨⟨e, by rw [blk_set A2.out]; rfl, he0, he1⟩, HG.out.set _ _ (.inr G3.out), G3.out⟩, F2.out.set _ _ (.inl (by simp))⟩
  · obtain ⟨v, a, hr, hb, hl⟩ := t2
    obtain ⟨va, vc, hv⟩ := hr.form
    rw [bv_len] at hv
    subst hv
    have hnl := HLE.out.1 l rfl
    have hvc : l.length ≤ vc := by
      rcases hr with ⟨h, _⟩ | ⟨_, _, h, h4, _⟩
      · simp only [Value.slice.injEq] at h; omega
      · simp only [Value.slice.injEq] at h; rw [bv_len] at h4; omega
    have c0 := blk_cell a 0
    simp at c0
    have A := hid a
    have HR := hid hr
    have HB := hid hb
    obtain ⟨L, hL⟩ : ∃ L, L = l.length := ⟨_, rfl⟩
    rw [← hL] at c0 hl hnl hvc A
    have HL := hid hL
    have KC := hid (clone_c (w := w1) ((Rd.upto9 (hr.fr g2) (k := n) (by rw [← hL]; exact hnl))) (by rw [List.length_take]; omega))
    have hlt : Hid ((l.take n).length = n) := hid (by rw [List.length_take, ← hL]; omega)
    clear a g2 g3 hr hb hL
    have h1 : (n : Int) ≤ (L : Int) := by omega
    have h2 : (n : Int) ≤ (vc : Int) := by omega
    have h3 : n ≤ vc := by omega
    have h4 : (L : Int) ≤ (vc : Int) := by omega
    go_wp2_with fail
    refine KC.out.mono ?_
    rintro r w2 ⟨v2, rfl, o2, f2⟩
    rw [hlt.out] at o2
    obtain ⟨a2, b2, rfl, _⟩ := ownsRow_slice o2
    have O2 := hid (ownsRow_base o2 F1.out.size)
    have F2 := hid (F1.out.trans (f2.mono (S' := [t]) (by simp)))
    have A2 := hid (f2.at A.out (by simp))
    have c0' := blk_cell A2.out 0
    have f0' := blk_frozen A2.out 0
    simp at c0'
    have HG := hid (G2.out.trans f2)
    clear o2 f2 c0
    have fin : Hid (∀ v : Value, Rd ws v (bv (l.drop n)) → TkM ws (w2.setCell ⟨t, 0, none⟩ v) t (some (l.drop n))) := hid (fun v hv => ⟨⟨v, by rw [blk_set A2.out]; rfl, hv, HB.out.drop n, by rw [List.length_drop, ← HL.out]; omega⟩, HG.out.set _ _ (.inr G3.out), G3.out⟩)
    have e1 : Hid ((cutS n (some l)).1.length = n) := hid hlt.out
    by_cases hcn : vc = n
    · have hLn : L = n := by omega
      subst hcn
      subst hLn
      go_wp2
      go_ret
      refine ⟨⟨a2, b2, by rw [e1.out]; rfl, by rw [e1.out]; exact own_set O2.out HTL.out⟩, fin.out _ ?_, F2.out.set _ _ (.inl (by simp))⟩
      rw [List.drop_eq_nil_of_le (by rw [← HL.out]; omega)]
      rcases va with _ | va
      · have : L = 0 := by
          rcases HR.out with ⟨_, h⟩ | ⟨_, _, h, _⟩
          · have : l = [] := by simpa [bv] using h
            rw [HL.out, this]; rfl
          · cases h
        subst this
        exact .inl ⟨rfl, rfl⟩
      · exact .inr ⟨va, _, rfl, Nat.zero_le _, fun j u hj => by simp [bv] at hj⟩
    · rcases HR.out.split with ⟨hl0, _⟩ | ⟨q, o, c', hv, _⟩
      · have hL0 : L = 0 := by rw [HL.out, hl0]; rfl
        have hn0 : n = 0 := by omega
        subst hL0
        subst hn0
        rcases va with _ | va
        · have := HR.out
          rcases this with ⟨h, _⟩ | ⟨_, _, h, _⟩
          · simp only [Value.slice.injEq] at h; omega
          · cases h
        · go_wp2
          go_ret
          refine ⟨⟨a2, b2, by rw [e1.out]; rfl, by rw [e1.out]; exact own_set O2.out HTL.out⟩, fin.out _ ?_, F2.out.set _ _ (.inl (by simp))⟩
          rw [hl0]
          exact .inr ⟨_, _, rfl, Nat.zero_le _, fun j u hj => by simp [bv] at hj⟩
      · simp only [Value.slice.injEq] at hv
        obtain ⟨rfl, _, rfl⟩ := hv
        go_wp2
        go_ret
        refine ⟨⟨a2, b2, by rw [e1.out]; rfl, by rw [e1.out]; exact own_set O2.out HTL.out⟩, fin.out _ ?_, F2.out.set _ _ (.inl (by simp))⟩
        have := HR.out.back (q := n) (by rw [← HL.out]; exact hnl)
        rw [← HL.out] at this
        exact this
end Go.Proofs.Ytbiohbaoeobccaa
namespace Go.Proofs.Ytbiohbaoeobccaa
open Go.ChangeShapes Go.WideShapes Go.ChangeAt Go.RowKit

theorem ref_val {k m x : Nat} (hk : k ≤ 9) (hm : m < 2 ^ (7 * k)) (h9 : k = 9 → x ≤ 1) :
    IntKind.u64.wrap ((m : Int) + IntKind.u64.wrap ((x : Int) % 128 * 2 ^ (7 * k))) = ((m + x % 128 * 2 ^ (7 * k) : Nat) : Int) := by
  have hlt := shl_lt hk hm h9
  have e : (x : Int) % 128 * 2 ^ (7 * k) = ((x % 128 * 2 ^ (7 * k) : Nat) : Int) := by simp
  rw [e, wrap64_nat (by omega), ← Int.natCast_add, wrap64_nat hlt]
theorem ref_ret {k m x : Nat} (hk : k ≤ 9) (hm : m < 2 ^ (7 * k)) (h9 : k = 9 → x ≤ 1) :
    Ending.returned (.tuple #[.int .u64 (IntKind.u64.wrap ((m : Int) + IntKind.u64.wrap ((x : Int) % 128 * 2 ^ (7 * k)))), .int .i64 ((k : Int) + 1), .int .i64 0]) = .returned (tkv (m + x % 128 * 2 ^ (7 * k), k + 1, 0)) := by
  rw [ref_val hk hm h9]; rfl
theorem ref_ret9 {k m x : Nat} (hk : k = 9) (hm : m < 2 ^ (7 * k)) (h9 : x ≤ 1) :
    Ending.returned (.tuple #[.int .u64 (IntKind.u64.wrap ((m : Int) + (x : Int) % 128 * 9223372036854775808)), .int .i64 10, .int .i64 0]) = .returned (tkv (m + x % 128 * 2 ^ (7 * k), k + 1, 0)) := by
  subst hk
  have hlt := shl_lt (k := 9) (by omega) hm fun _ => h9
  have e : (m : Int) + (x : Int) % 128 * 9223372036854775808 = ((m + x % 128 * 2 ^ (7 * 9) : Nat) : Int) := by simp
  rw [e, wrap64_nat hlt]; rfl

set_option maxRecDepth 20000 in
set_option maxHeartbeats 800000 in
theorem reftake_c {w : World} {v : Value} {ns : List Nat} (hr : Rd w v (bv ns)) (hb : By ns) (hl : ns.length ≤ 140737488355328) (t : Nat) (ht : t ≤ 140737488355328) :
    Calls Try.prog 59 #[v, .int .i64 (t : Int)] w fun e w' => e = .returned (tkv (takeL (ns.drop t))) ∧ w' = w := by
  rcases hr.split with ⟨rfl, a, c, rfl⟩ | ⟨b, off, c, rfl, h1, h2, hc⟩
  · clear hr
    go_enter Try.func59, Try.ntmps59
    go_wp2
    refine wp_loop_rounds 1 ?_
    rw [rounds_succ]
    go_wp2
    go_ret3
    rw [List.drop_nil]
    exact ⟨rfl, rfl⟩
  · clear hr
    have HC := hid hc
    have HB := hid hb
    clear hc hb
    go_enter Try.func59, Try.ntmps59
    go_wp2
    go_loop [7, 8] (fun v7 v8 => ∃ (k m : Nat), k ≤ 9 ∧ v8 = .int .i64 (k : Int) ∧ v7 = .int .u64 (m : Int) ∧ m < 2 ^ (7 * k) ∧ tk k m (ns.drop (t + k)) = takeL (ns.drop t)) (fun _ v8 => 10 - (intOf v8).toNat)
    case atStart => exact ⟨0, 0, by omega, rfl, rfl, by simp, rfl⟩
    case round =>
      obtain ⟨k, m, hk, rfl, rfl, hm, htk⟩ := hrel
      have HT := hid htk
      have HM := hid hm
      clear htk hm
      by_cases hlt : t + k < ns.length
      · obtain ⟨x, hx, hd⟩ := drop_at hlt
        have hcell := HC.out (t + k) x hx
        have hx256 : x < 256 := HB.out.at hx
        have HD := hid hd
        have en : ((t : Int) + (k : Int)).toNat = t + k := by omega
        clear hd hx
        rcases (show (9 ≤ k ∧ 1 < x) ∨ (9 ≤ k ∧ x < 1) ∨ (9 ≤ k ∧ 1 ≤ x ∧ x ≤ 1) ∨ (0 < k ∧ k < 9 ∧ x < 1) ∨ (0 < k ∧ k < 9 ∧ 0 < x ∧ x < 128) ∨ (0 < k ∧ k < 9 ∧ 128 ≤ x) ∨ (k < 1 ∧ x < 128) ∨ (k < 1 ∧ 128 ≤ x) from by omega) with ⟨q1, q2⟩ | ⟨q1, q2⟩ | ⟨q1, q2, q3⟩ | ⟨q1, q2, q3⟩ | ⟨q1, q2, q3, q4⟩ | ⟨q1, q2, q3⟩ | ⟨q1, q2⟩ | ⟨q1, q2⟩
        · have e0 : ((x : Int) == 0) = false := by simp; omega
          go_wp2
          go_ret3
          refine ⟨?_, rfl⟩
          rw [← HT.out, HD.out, tk_bad (by omega)]; rfl
        · have e0 : ((x : Int) == 0) = true := by simp; omega
          go_wp2
          go_ret3
          refine ⟨?_, rfl⟩
          rw [← HT.out, HD.out, tk_bad (by omega)]; rfl
        · have e0 : ((x : Int) == 0) = false := by simp; omega
          go_wp2
          go_ret3
          refine ⟨?_, rfl⟩
          rw [← HT.out, HD.out, tk_end (by omega) (by omega)]
          exact ref_ret9 (by omega) HM.out (by omega)
        · have e0 : ((x : Int) == 0) = true := by simp; omega
          go_wp2
          go_ret3
          refine ⟨?_, rfl⟩
          rw [← HT.out, HD.out, tk_bad (by omega)]; rfl
        · have e0 : ((x : Int) == 0) = false := by simp; omega
          go_wp2
          go_ret3
          refine ⟨?_, rfl⟩
          rw [← HT.out, HD.out, tk_end (by omega) (by omega)]
          exact ref_ret hk HM.out (by omega)
        · have e0 : ((x : Int) == 0) = false := by simp; omega
          go_wp2
          have hn : m + x % 128 * 2 ^ (7 * k) < 2 ^ (7 * (k + 1)) := by
            have e2 : 2 ^ (7 * (k + 1)) = 128 * 2 ^ (7 * k) := by rw [show (128 : Nat) = 2 ^ 7 from rfl, ← Nat.pow_add]; congr 1; omega
            have h2 : x % 128 * 2 ^ (7 * k) ≤ 127 * 2 ^ (7 * k) := Nat.mul_le_mul_right _ (by omega)
            have := HM.out
            omega
          have hv := ref_val hk HM.out (x := x) (by omega)
          go_round
          case rel => exact ⟨k + 1, m + x % 128 * 2 ^ (7 * k), by omega, by go_num, by rw [hv], hn, by rw [← HT.out, HD.out, tk_on (by omega) (by omega), Nat.add_assoc]⟩
          case measure => simp [intOf]; omega
        · go_wp2
          go_ret3
          refine ⟨?_, rfl⟩
          rw [← HT.out, HD.out, tk_end (by omega) (by omega)]
          exact ref_ret hk HM.out (by omega)
        · go_wp2
          have hn : m + x % 128 * 2 ^ (7 * k) < 2 ^ (7 * (k + 1)) := by
            have e2 : 2 ^ (7 * (k + 1)) = 128 * 2 ^ (7 * k) := by rw [show (128 : Nat) = 2 ^ 7 from rfl, ← Nat.pow_add]; congr 1; omega
            have h2 : x % 128 * 2 ^ (7 * k) ≤ 127 * 2 ^ (7 * k) := Nat.mul_le_mul_right _ (by omega)
            have := HM.out
            omega
          have hv := ref_val hk HM.out (x := x) (by omega)
          go_round
          case rel => exact ⟨k + 1, m + x % 128 * 2 ^ (7 * k), by omega, by go_num, by rw [hv], hn, by rw [← HT.out, HD.out, tk_on (by omega) (by omega), Nat.add_assoc]⟩
          case measure => simp [intOf]; omega
      · go_wp2
        go_ret3
        refine ⟨?_, rfl⟩
        rw [← HT.out, List.drop_eq_nil_of_le (by omega), tk_nil]; rfl
end Go.Proofs.Ytbiohbaoeobccaa
namespace Go.Proofs.Ytbiohbaoeobccaa
open Go.ChangeShapes Go.WideShapes Go.ChangeAt Go.RowKit

theorem Rd.mid {w : World} {b off c : Nat} {ns : List Nat} (h : Rd w (.slice (some ⟨b, off, none⟩) ns.length c) (bv ns)) {i n : Nat} (hq : i + n ≤ ns.length) : Rd w (.slice (some ⟨b, off + i, none⟩) n (c - i)) (bv ((ns.drop i).take n)) := by
  rcases h with ⟨h, _⟩ | ⟨a, c', h, h4, h5⟩
  · cases h
  · simp only [Value.slice.injEq, Option.some.injEq] at h
    obtain ⟨rfl, _, rfl⟩ := h
    have hl : ((ns.drop i).take n).length = n := by rw [List.length_take, List.length_drop]; omega
    refine .inr ⟨_, _, by rw [bv_len, hl], by rw [bv_len] at h4 ⊢; rw [hl]; omega, fun j u hj => ?_⟩
    rw [bv_take, List.getElem?_take] at hj
    split at hj
    · rw [bv_drop, List.getElem?_drop] at hj
      have := h5 _ _ hj
      rw [Addr.add_lit] at this ⊢
      rw [Nat.add_assoc]; exact this
    · cases hj
theorem Rd.none_ {w : World} {a : Addr} {n c : Nat} {ns : List Nat} (h : ns.length = 0) (hn : n = 0) : Rd w (.slice (some a) n c) (bv ns) := by
  have : ns = [] := List.eq_nil_of_length_eq_zero h
  subst this
  subst hn
  exact .inr ⟨a, c, rfl, Nat.zero_le _, fun j u hj => by simp [bv] at hj⟩
end Go.Proofs.Ytbiohbaoeobccaa
