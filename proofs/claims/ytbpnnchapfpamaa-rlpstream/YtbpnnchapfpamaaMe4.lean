/-
  What measure of package rlp answers.
-/
import Derived.Test.YtbpnnchapfpamaaMe3
import Derived.Laws.EntriesVeiled
namespace Go.Proofs.Ytbpnnchapfpamaa
open Go.ChangeShapes Go.WideShapes Go.ChangeAt Go.RowKit

theorem enc_list {n : Nat} {t : Tr (n + 1)} (h : tL t = true) : enc (n + 1) t = headL 192 ((tK t).flatMap (enc n)).length ++ (tK t).flatMap (enc n) := by
  unfold enc; rw [if_pos h]
theorem enc_str {n : Nat} {t : Tr (n + 1)} (h : tL t = false) : enc (n + 1) t = strL (tB t) := by
  unfold enc; rw [if_neg (by rw [h]; simp)]
theorem cnt_eq {n : Nat} (t : Tr (n + 1)) : cnt (n + 1) t = 1 + ((tK t).map (cnt n)).sum := rfl
theorem bad_list {n d : Nat} {t : Tr (n + 1)} (hd : d ≤ 16) (hl : tL t = true) (hb : tB t = []) : bad (n + 1) d t = firstBad (bad n (d + 1)) (tK t) := by
  unfold bad; rw [if_neg (by omega), if_neg (by rw [hl, hb]; simp)]
theorem bad_str {n d : Nat} {t : Tr (n + 1)} (hd : d ≤ 16) (hl : tL t = false) (hk : tK t = []) : bad (n + 1) d t = 0 := by
  unfold bad; rw [if_neg (by omega), if_neg (by rw [hl, hk]; simp), hk]; rfl

theorem walk_c {T g e k : Nat} : ∀ (n : Nat) (w0 : World) (t : Tr n) (d : Nat) (w : World) (v : Value) (c : Nat), IsV w0 n v t → Fr [] w0 w → w0.heap.size ≤ g → Clo w 31 T g e k c → 16 < d + n → d ≤ 17 → c + cnt n t ≤ 4096 → (enc n t).length ≤ 1000000 →
    Calls Try.prog 31 #[v, .int .i64 (d : Int), .pointer (some ⟨e, 0, none⟩), .pointer (some ⟨k, 0, none⟩)] w fun r w' => Told n d t g c r w' ∧ Fr [g] w w'
  | 0, w0, t, d, w, v, c, hv, hf, hg, C, hd, hd2, hc, he => by
    obtain ⟨l, a1, n1, c1, a2, n2, c2, rfl⟩ := hv.agg
    refine (walk_deep w C l _ _ (by omega) (by omega)).mono ?_
    rintro r w' ⟨rfl, f⟩
    exact ⟨.inr ⟨by simp [bad], rfl⟩, f⟩
  | n + 1, w0, t, d, w, v, c, hv, hf, hg, C, hd, hd2, hc, he => by
    by_cases h16 : 16 < d
    · obtain ⟨l, a1, n1, c1, a2, n2, c2, rfl⟩ := hv.agg
      refine (walk_deep w C l _ _ (by omega) (by omega)).mono ?_
      rintro r w' ⟨rfl, f⟩
      have hb := bad_deep (n + 1) t h16
      exact ⟨.inr ⟨by rw [hb]; simp, by rw [hb]; rfl⟩, f⟩
    · have hd16 : d ≤ 16 := by omega
      rw [cnt_eq] at hc
      obtain ⟨bs, ka, kc, rfl, h2, h3, h4, h5, h5', h6⟩ := hv
      rcases hl : tL t with _ | _
      · by_cases hk : tK t = []
        · have hb := bad_str hd16 hl hk
          rw [hk] at hc ⊢
          refine (walk_str w0 w C hf hg h2 h3 h4 ka kc hd16 (by simp at hc; omega)).mono ?_
          rintro r w' ⟨rfl, h, f⟩
          refine ⟨.inl ⟨hb, by rw [enc_str hl], ?_⟩, f⟩
          rw [cnt_eq, hk]; exact h
        · have hb := bad_form (d := d) hd16 (.inr ⟨hl, hk⟩)
          refine (walk_form2 w C bs hd16 (by omega) (List.length_pos_iff.2 hk)).mono ?_
          rintro r w' ⟨rfl, f⟩
          exact ⟨.inr ⟨by rw [hb]; simp, by rw [hb]; rfl⟩, f⟩
      · by_cases hbb : tB t = []
        · obtain ⟨ba, bc, hbs⟩ := h2.form
          rw [bv_len, hbb] at hbs
          subst hbs
          rw [enc_list hl, List.length_append] at he
          refine (walk_list w0 w C hf hg ba bc (ks := tK t) (by omega) h6 ?_ hd16 (by omega) (by omega)).mono ?_
          · intro x hx w2 v2 c2 hv2 hf2 C2 hc2
            refine walk_c n w0 x (d + 1) w2 v2 c2 hv2 hf2 hg C2 (by omega) (by omega) hc2 ?_
            have := sum_mem (f := fun y => (enc n y).length) hx
            rw [← flatMap_len] at this
            omega
          · rintro r w' ⟨h, f⟩
            refine ⟨?_, f⟩
            have hb := bad_list (d := d) hd16 hl hbb
            rcases h with ⟨h1, rfl, h3⟩ | ⟨h1, rfl⟩
            · refine .inl ⟨hb.trans h1, by rw [enc_list hl, List.length_append, Int.natCast_add], ?_⟩
              rw [cnt_eq, ← Nat.add_assoc]; exact h3
            · exact .inr ⟨by rw [hb]; exact h1, by rw [hb]⟩
        · have hb := bad_form (d := d) hd16 (.inl ⟨hl, hbb⟩)
          obtain ⟨ba, bc, hbs⟩ := h2.form
          rw [bv_len] at hbs
          subst hbs
          refine (walk_form1 w C _ hd16 (by omega) (List.length_pos_iff.2 hbb)).mono ?_
          rintro r w' ⟨rfl, f⟩
          exact ⟨.inr ⟨by rw [hb]; simp, by rw [hb]; rfl⟩, f⟩

set_option maxRecDepth 20000 in
theorem gate_c (w : World) : Calls Try.prog 25 #[] w fun r w' => r = .returned (.func (.func 36) #[] #[.pointer (some ⟨w.heap.size, 0, none⟩)]) ∧ w' = w.alloc (.cells #[.int .i64 0] 3) := by
  have hmf : ∀ (fn : Fn) (first cap : Array Value) (w : World), (Instr.makeFunc fn first cap).run Try.prog w = .ok (.func fn first cap) w := fun _ _ _ _ => rfl
  go_enter Try.func25, Try.ntmps25
  go_wp2
  go_ret
  exact ⟨rfl, rfl⟩

theorem clo_new (W : World) (F T : Nat) {g : Nat} (hg : g = W.heap.size) : Clo (((W.alloc (.cells #[.int .i64 0] 3)).alloc (.cells #[.func (.func 36) #[] #[.pointer (some ⟨g, 0, none⟩)]] 57)).alloc (.cells #[.func (.func F) #[] #[.pointer (some ⟨g + 1, 0, none⟩), .pointer (some ⟨g + 1 + 1, 0, none⟩)]] T)) F T g (g + 1) (g + 1 + 1) 0 := by
  refine ⟨?_, ?_, ?_, by omega, by omega⟩
  · rw [blk_old _ _ (by simp; omega), blk_old _ _ (by simp; omega)]; exact new_at W _ hg
  · rw [blk_old _ _ (by simp; omega)]; exact new_at _ _ (by simp; omega)
  · exact new_at _ _ (by simp; omega)

set_option maxRecDepth 20000 in
set_option maxHeartbeats 400000 in
theorem measure_c (w : World) {v : Value} {n : Nat} {t : Tr n} (hv : IsV w n v t) (hn : 16 ≤ n) (hc : cnt n t ≤ 4096) (he : (enc n t).length ≤ 1000000) :
    Calls Try.prog 21 #[v] w fun r w' => ((bad n 1 t = 0 ∧ r = .returned (.tuple #[.int .i64 ((enc n t).length : Int), .int .i64 0])) ∨ (bad n 1 t ≠ 0 ∧ r = .returned (.tuple #[.int .i64 0, .int .i64 (bad n 1 t : Int)]))) ∧ Fr [] w w' := by
  have hmf : ∀ (fn : Fn) (first cap : Array Value) (w : World), (Instr.makeFunc fn first cap).run Try.prog w = .ok (.func fn first cap) w := fun _ _ _ _ => rfl
  obtain ⟨l, a1, n1, c1, a2, n2, c2, rfl⟩ := hv.agg
  have HV := hid hv
  obtain ⟨E, hE⟩ : ∃ E, E = (enc n t).length := ⟨_, rfl⟩
  obtain ⟨B, hB⟩ : ∃ B, B = bad n 1 t := ⟨_, rfl⟩
  rw [← hE, ← hB]
  have HE := hid hE
  have HB := hid hB
  clear hv hE hB
  go_enter Try.func21, Try.ntmps21
  go_wp2_with fail
  refine (gate_c _).mono ?_
  rintro r w1 ⟨rfl, rfl⟩
  go_wp2_with fail
  refine (walk_c n w t 1 _ _ 0 HV.out (((((Fr.refl [] w).alloc _).alloc _).alloc _).alloc _) (g := w.heap.size + 1) (by omega) (clo_new _ _ _ (by simp)) (by omega) (by omega) (by omega) he).mono ?_
  rintro r w1 ⟨hT, f1⟩
  have F1 : Hid (Fr [] w w1) := ((((((Fr.refl [] w).alloc _).alloc _).alloc _).alloc _).mono (S' := [w.heap.size + 1]) (by simp)).trans f1 |>.shed (fun x hx hlt => by simp at hx; omega)
  unfold Told at hT
  rw [← HE.out, ← HB.out] at hT
  clear f1
  rcases hT with ⟨t1, rfl, _⟩ | ⟨t1, rfl⟩
  · have T1 := hid t1
    clear t1
    go_wp2
    go_ret2
    exact ⟨.inl ⟨T1.out, rfl⟩, F1.out⟩
  · have T1 := hid t1
    clear t1
    go_wp2
    go_ret2
    exact ⟨.inr ⟨T1.out, rfl⟩, F1.out⟩
end Go.Proofs.Ytbpnnchapfpamaa
