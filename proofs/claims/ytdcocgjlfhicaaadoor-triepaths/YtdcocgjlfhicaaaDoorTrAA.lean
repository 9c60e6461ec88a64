/-
  put of any node of a map's trie.
-/
import Derived.Test.YtdcocgjlfhicaaaDoorTrZ
namespace Go.Proofs.YtdcocgjlfhicaaaDoor
open Go.ChangeShapes Go.WideShapes Go.ChangeAt Go.RowKit

theorem PutR.back {S : Nat → Prop} {w w1 w' : World} {n : Nd} {p x : List Nat} {e : Ending} (h : PutR S w1 n p x e w') (f : Fr [] w w1) : PutR S w n p x e w' := by
  obtain ⟨h1, f2⟩ := h
  refine ⟨?_, f.trans f2⟩
  rcases h1 with h1 | ⟨h1, r, h2, h3⟩
  · exact .inl h1
  · exact .inr ⟨h1, r, h2, h3.sub fun k hk => Up.mid f.size (Nat.le_refl _) hk⟩
theorem asLeaf_n (w : World) : (Instr.typeAssert .nilIface 87 127 true).run Tryd.prog w = .ok (.tuple #[.pointer none, .bool false]) w := by
  kernel_rfl
theorem asStem_n (w : World) : (Instr.typeAssert .nilIface 87 129 true).run Tryd.prog w = .ok (.tuple #[.pointer none, .bool false]) w := by
  kernel_rfl
theorem asFork_n (w : World) : (Instr.typeAssert .nilIface 87 131 true).run Tryd.prog w = .ok (.tuple #[.pointer none, .bool false]) w := by
  kernel_rfl
set_option maxRecDepth 20000 in
set_option maxHeartbeats 1600000 in
theorem put_nil : PutOk .nil := by
  intro w S tv v pv vv p x d HT hi hn hd hok hp hb hl hv hvb hv1 hvl
  obtain rfl : v = .nilIface := hn
  have LK := hid (look_nil w tv)
  have MK := hid (fun (w1 : World) (f : Fr [] w w1) => makeLeaf_c w1 (HT.fr f) (hi.fr f) (hp.step (hi.agr f)) (okP_of hb (by omega)) (hv.step (hi.agr f)) hvb hv1 hvl)
  have ta := fun w => asLeaf_n w
  have tb := fun w => asStem_n w
  have tc := fun w => asFork_n w
  have hne : findN .nil p ≠ x := fun e => by rw [← e] at hv1; simp [findN] at hv1
  clear HT hi hp hb hl hv hvb hv1 hvl hok hd
  go_enter Tryd.func46, Tryd.ntmps46
  go_wp2_with (first
    | (go_at_call 69; refine LK.out.mono ?_; rintro e w1 ⟨rfl, f1⟩; have F1 := hid f1; clear f1)
    | (go_at_call 73; refine (MK.out _ F1.out).mono ?_; rintro e w2 ⟨r, rfl, N, f2⟩; have HN := hid N; have F2 := hid f2; clear N f2))
  go_ret2
  exact ⟨.inr ⟨hne, r, rfl, HN.out.sub fun k hk => Up.mid F1.out.size (Nat.le_refl _) hk⟩, F1.out.trans F2.out⟩
set_option maxRecDepth 20000 in
set_option maxHeartbeats 1600000 in
theorem put_leaf (q y : List Nat) : PutOk (.leaf q y) := by
  intro w S tv v pv vv p x d HT hi hn hd hok hp hb hl hv hvb hv1 hvl
  obtain ⟨b, rfl⟩ : ∃ b, v = .iface 127 (.pointer (some ⟨b, 0, none⟩)) := by
    obtain ⟨b, _, _, _, _, _, e, _⟩ := hn
    exact ⟨b, e⟩
  have LK := hid (look_leaf w tv b)
  have PL := hid (fun (w1 : World) (f : Fr [] w w1) => putLeaf_c w1 (HT.fr f) (hi.fr f) (hn.step (hi.agr f)) (hok.mono hd) (hp.step (hi.agr f)) hb (by omega) (hv.step (hi.agr f)) hvb hv1 hvl)
  have ta := fun w => asLeaf_y w b
  have hfi : findN (.leaf q y) p = x ↔ (q = p ∧ y = x) := by
    show (if q = p then y else []) = x ↔ _
    by_cases h : q = p
    · rw [if_pos h]; exact ⟨fun e => ⟨h, e⟩, fun e => e.2⟩
    · rw [if_neg h]
      exact ⟨fun e => by rw [← e] at hv1; simp at hv1, fun e => absurd e.1 h⟩
  clear HT hi hp hb hl hv hvb hv1 hvl hok hn hd
  go_enter Tryd.func46, Tryd.ntmps46
  go_upto_region 7 with (go_at_call 69; refine LK.out.mono ?_; rintro e w1 ⟨rfl, f1⟩; have F1 := hid f1; clear f1)
  go_wp2_with (go_at_call 70; refine (PL.out _ F1.out).mono ?_; rintro e w2 ⟨(⟨h1, h2, rfl⟩ | ⟨h1, r, rfl, N⟩), f2⟩)
  · go_ret2
    exact ⟨.inl ⟨hfi.2 ⟨h1, h2⟩, rfl⟩, F1.out.trans f2⟩
  · have HN := hid N
    clear N
    go_wp2
    go_ret2
    exact ⟨.inr ⟨fun e => h1 (hfi.1 e), r, rfl, HN.out.sub fun k hk => Up.mid F1.out.size (Nat.le_refl _) hk⟩, F1.out.trans f2⟩
set_option maxRecDepth 20000 in
set_option maxHeartbeats 1600000 in
theorem put_stem (q : List Nat) (t : Nd) (ih : PutOk t) : PutOk (.stem q t) := by
  intro w S tv v pv vv p x d HT hi hn hd hok hp hb hl hv hvb hv1 hvl
  obtain ⟨b, rfl⟩ : ∃ b, v = .iface 129 (.pointer (some ⟨b, 0, none⟩)) := by
    obtain ⟨b, _, _, _, _, _, e, _⟩ := hn
    exact ⟨b, e⟩
  have LK := hid (look_stem w tv b)
  have PL : Hid (∀ w1, Fr [] w w1 → Calls Tryd.prog 71 #[tv, .pointer (some ⟨b, 0, none⟩), pv, vv] w1 (PutR S w1 (.stem q t) p x)) := hid (fun w1 f => by
    by_cases hin : cpN q p = q.length
    · exact putStemIn_c w1 (HT.fr f) (hi.fr f) (hn.step (hi.agr f)) hd hok (hp.step (hi.agr f)) hb hl (hv.step (hi.agr f)) hvb hv1 hvl ih hin
    · exact putStemOut_c w1 (HT.fr f) (hi.fr f) (hn.step (hi.agr f)) hd hok (hp.step (hi.agr f)) hb hl (hv.step (hi.agr f)) hvb hv1 hvl hin)
  have ta := fun w => asLeaf_s w b
  have tb := fun w => asStem_y w b
  clear HT hi hp hb hl hv hvb hv1 hvl hok hn hd ih
  go_enter Tryd.func46, Tryd.ntmps46
  go_upto_region 10 with (go_at_call 69; refine LK.out.mono ?_; rintro e w1 ⟨rfl, f1⟩; have F1 := hid f1; clear f1)
  go_wp2_with (go_at_call 71; refine (PL.out _ F1.out).mono ?_; rintro e w2 ⟨(⟨h1, rfl⟩ | ⟨h1, r, rfl, N⟩), f2⟩)
  · go_ret2
    exact ⟨.inl ⟨h1, rfl⟩, F1.out.trans f2⟩
  · have HN := hid N
    clear N
    go_wp2
    go_ret2
    exact ⟨.inr ⟨h1, r, rfl, HN.out.sub fun k hk => Up.mid F1.out.size (Nat.le_refl _) hk⟩, F1.out.trans f2⟩
set_option maxRecDepth 20000 in
set_option maxHeartbeats 1600000 in
theorem put_fork (c : Nat → Nd) (y : List Nat) (ih : ∀ j, PutOk (c j)) : PutOk (.fork c y) := by
  intro w S tv v pv vv p x d HT hi hn hd hok hp hb hl hv hvb hv1 hvl
  obtain ⟨b, rfl⟩ : ∃ b, v = .iface 131 (.pointer (some ⟨b, 0, none⟩)) := by
    obtain ⟨b, _, _, _, _, _, e, _⟩ := hn
    exact ⟨b, e⟩
  have LK := hid (look_fork w tv b)
  have PL : Hid (∀ w1, Fr [] w w1 → Calls Tryd.prog 72 #[tv, .pointer (some ⟨b, 0, none⟩), pv, vv] w1 (PutR S w1 (.fork c y) p x)) := hid (fun w1 f => by
    cases p with
    | nil => exact putForkHere_c w1 (HT.fr f) (hi.fr f) (hn.step (hi.agr f)) hok (hp.step (hi.agr f)) (hv.step (hi.agr f)) hvb hvl
    | cons i r => exact putForkDown_c w1 (HT.fr f) (hi.fr f) (hn.step (hi.agr f)) hd hok (hp.step (hi.agr f)) hb hl (hv.step (hi.agr f)) hvb hv1 hvl ih)
  have ta := fun w => asLeaf_f w b
  have tb := fun w => asStem_f w b
  have tc := fun w => asFork_y w b
  clear HT hi hp hb hl hv hvb hv1 hvl hok hn hd ih
  go_enter Tryd.func46, Tryd.ntmps46
  go_upto_region 13 with (go_at_call 69; refine LK.out.mono ?_; rintro e w1 ⟨rfl, f1⟩; have F1 := hid f1; clear f1)
  go_wp2_with (go_at_call 72; refine (PL.out _ F1.out).mono ?_; rintro e w2 ⟨(⟨h1, rfl⟩ | ⟨h1, r, rfl, N⟩), f2⟩)
  · go_ret2
    exact ⟨.inl ⟨h1, rfl⟩, F1.out.trans f2⟩
  · have HN := hid N
    clear N
    go_wp2
    go_ret2
    exact ⟨.inr ⟨h1, r, rfl, HN.out.sub fun k hk => Up.mid F1.out.size (Nat.le_refl _) hk⟩, F1.out.trans f2⟩
theorem put_ok (n : Nd) : PutOk n := by
  induction n with
  | nil => exact put_nil
  | far h => intro w S tv v pv vv p x d HT hi hn hd hok; exact hok.elim
  | leaf q y => exact put_leaf q y
  | stem q t ih => exact put_stem q t ih
  | fork c y ih => exact put_fork c y ih
end Go.Proofs.YtdcocgjlfhicaaaDoor
