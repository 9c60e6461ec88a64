/-
  What measure of package rlp answers.
-/
import Derived.Test.YtmpfnglcmaollaaDoorJ04
import Derived.Laws.EntriesVeiled
namespace Go.Proofs.YtmpfnglcmaollaaDoor
open Go.ChangeShapes Go.WideShapes Go.ChangeAt Go.RowKit

theorem enc_list {n : Nat} {t : Tr (n + 1)} (h : tL t = true) : enc (n + 1) t = headL 192 ((tK t).flatMap (enc n)).length ++ (tK t).flatMap (enc n) := by
  unfold enc; rw [if_pos h]
theorem enc_str {n : Nat} {t : Tr (n + 1)} (h : tL t = false) : enc (n + 1) t = strL (tB t) := by
  unfold enc; rw [if_neg (by rw [h]; simp)]
theorem cnt_eq {n : Nat} (t : Tr (n + 1)) : cnt (n + 1) t = 1 + ((tK t).map (cnt n)).sum := rfl
theorem bad_list {n d : Nat} {t : Tr (n + 1)} (hd : d ≤ 16) (hl : tL t = true) (hb : tB t = []) : bad (n + 1) d t = firstBad (bad n (d + 1)) (tK t) := by
  unfold bad; rw [if_neg (by omega), if_neg (by rw [hl, hb]; simp)]
theorem bad_str {n d : Nat} {t : Tr (n + 1)} (hd : d ≤ 16) (hl : tL t = false) (hk : tK t = []) : bad (n + 1) d t = 0 := by
  unfold bad; rw [if_neg (by omega), if_neg (by rw [hl, hk]; simp), hk]; rfl

theorem walk_c {T g e k : Nat} : ∀ (n : Nat) (w0 : World) (t : Tr n) (d : Nat) (w : World) (v : Value) (c : Nat), IsV w0 n v t → Fr [] w0 w → w0.heap.size ≤ g → Clo w 85 T g e k c → 16 < d + n → d ≤ 17 → c + cnt n t ≤ 4096 → (enc n t).length ≤ 1000000 →
    Calls Tryd.prog 85 #[v, .int .i64 (d : Int), .pointer (some ⟨e, 0, none⟩), .pointer (some ⟨k, 0, none⟩)] w fun r w' => Told n d t g c r w' ∧ Fr [g] w w'
  | 0, w0, t, d, w, v, c, hv, hf, hg, C, hd, hd2, hc, he => by
    obtain ⟨l, a1, n1, c1, a2, n2, c2, rfl⟩ := hv.agg
    refine (walk_deep w C l _ _ (by omega) (by omega)).mono ?_
    rintro r w' ⟨rfl, f⟩
    exact ⟨.inr ⟨by simp [bad], rfl⟩, f⟩
  | n + 1, w0, t, d, w, v, c, hv, hf, hg, C, hd, hd2, hc, he => by
    by_cases h16 : 16 < d
    · obtain ⟨l, a1, n1, c1, a2, n2, c2, rfl⟩ := hv.agg
      refine (walk_deep w C l _ _ (by omega) (by omega)).mono ?_
      rintro r w' ⟨rfl, f⟩
      have hb := bad_deep (n + 1) t h16
      exact ⟨.inr ⟨by rw [hb]; simp, by rw [hb]; rfl⟩, f⟩
    · have hd16 : d ≤ 16 := by omega
      rw [cnt_eq] at hc
      obtain ⟨bs, ka, kc, rfl, h2, h3, h4, h5, h5', h6⟩ := hv
      rcases hl : tL t with _ | _
      · by_cases hk : tK t = []
        · have hb := bad_str hd16 hl hk
          rw [hk] at hc ⊢
          refine (walk_str w0 w C hf hg h2 h3 h4 ka kc hd16 (by simp at hc; omega)).mono ?_
          rintro r w' ⟨rfl, h, f⟩
          refine ⟨.inl ⟨hb, by rw [enc_str hl], ?_⟩, f⟩
          rw [cnt_eq, hk]; exact h
        · have hb := bad_form (d := d) hd16 (.inr ⟨hl, hk⟩)
          refine (walk_form2 w C bs hd16 (by omega) (List.length_pos_iff.2 hk)).mono ?_
          rintro r w' ⟨rfl, f⟩
          exact ⟨.inr ⟨by rw [hb]; simp, by rw [hb]; rfl⟩, f⟩
      · by_cases hbb : tB t = []
        · obtain ⟨ba, bc, hbs⟩ := h2.form
          rw [bv_len, hbb] at hbs
          subst hbs
          rw [enc_list hl, List.length_append] at he
          refine (walk_list w0 w C hf hg ba bc (ks := tK t) (by omega) h6 ?_ hd16 (by omega) (by omega)).mono ?_
          · intro x hx w2 v2 c2 hv2 hf2 C2 hc2
            refine walk_c n w0 x (d + 1) w2 v2 c2 hv2 hf2 hg C2 (by omega) (by omega) hc2 ?_
            have := sum_mem (f := fun y => (enc n y).length) hx
            rw [← flatMap_len] at this
            omega
          · rintro r w' ⟨h, f⟩
            refine ⟨?_, f⟩
            have hb := bad_list (d := d) hd16 hl hbb
            rcases h with ⟨h1, rfl, h3⟩ | ⟨h1, rfl⟩
            · refine .inl ⟨hb.trans h1, by rw [enc_list hl, List.length_append, Int.natCast_add], ?_⟩
              rw [cnt_eq, ← Nat.add_assoc]; exact h3
            · exact .inr ⟨by rw [hb]; exact h1, by rw [hb]⟩
        · have hb := bad_form (d := d) hd16 (.inl ⟨hl, hbb⟩)
          obtain ⟨ba, bc, hbs⟩ := h2.form
          rw [bv_len] at hbs
          subst hbs
          refine (walk_form1 w C _ hd16 (by omega) (List.length_pos_iff.2 hbb)).mono ?_
          rintro r w' ⟨rfl, f⟩
          exact ⟨.inr ⟨by rw [hb]; simp, by rw [hb]; rfl⟩, f⟩

set_option maxRecDepth 20000 in
theorem gate_c (w : World) : Calls Tryd.prog 84 #[] w fun r w' => r = .returned (.func (.func 103) #[] #[.pointer (some ⟨w.heap.size, 0, none⟩)]) ∧ w' = w.alloc (.cells #[.int .i64 0] 3) := by
  have hmf : ∀ (fn : Fn) (first cap : Array Value) (w : World), (Instr.makeFunc fn first cap).run Tryd.prog w = .ok (.func fn first cap) w := fun _ _ _ _ => rfl
  go_enter Tryd.func84, Tryd.ntmps84
  go_wp2
  go_ret
  exact ⟨rfl, rfl⟩

theorem clo_new (W : World) (F T : Nat) {g : Nat} (hg : g = W.heap.size) : Clo (((W.alloc (.cells #[.int .i64 0] 3)).alloc (.cells #[.func (.func 103) #[] #[.pointer (some ⟨g, 0, none⟩)]] 154)).alloc (.cells #[.func (.func F) #[] #[.pointer (some ⟨g + 1, 0, none⟩), .pointer (some ⟨g + 1 + 1, 0, none⟩)]] T)) F T g (g + 1) (g + 1 + 1) 0 := by
  refine ⟨?_, ?_, ?_, by omega, by omega⟩
  · rw [blk_old _ _ (by simp; omega), blk_old _ _ (by simp; omega)]; exact new_at W _ hg
  · rw [blk_old _ _ (by simp; omega)]; exact new_at _ _ (by simp; omega)
  · exact new_at _ _ (by simp; omega)

set_option maxRecDepth 20000 in
set_option maxHeartbeats 400000 in
theorem measure_c (w : World) {v : Value} {n : Nat} {t : Tr n} (hv : IsV w n v t) (hn : 16 ≤ n) (hc : cnt n t ≤ 4096) (he : (enc n t).length ≤ 1000000) :
    Calls Tryd.prog 62 #[v] w fun r w' => ((bad n 1 t = 0 ∧ r = .returned (.tuple #[.int .i64 ((enc n t).length : Int), .int .i64 0])) ∨ (bad n 1 t ≠ 0 ∧ r = .returned (.tuple #[.int .i64 0, .int .i64 (bad n 1 t : Int)]))) ∧ Fr [] w w' := by
  have hmf : ∀ (fn : Fn) (first cap : Array Value) (w : World), (Instr.makeFunc fn first cap).run Tryd.prog w = .ok (.func fn first cap) w := fun _ _ _ _ => rfl
  obtain ⟨l, a1, n1, c1, a2, n2, c2, rfl⟩ := hv.agg
  have HV := hid hv
  obtain ⟨E, hE⟩ : ∃ E, E = (enc n t).length := ⟨_, rfl⟩
  obtain ⟨B, hB⟩ : ∃ B, B = bad n 1 t := ⟨_, rfl⟩
  rw [← hE, ← hB]
  have HE := hid hE
  have HB := hid hB
  clear hv hE hB
  go_enter Tryd.func62, Tryd.ntmps62
  go_wp2_with fail
  refine (gate_c _).mono ?_
  rintro r w1 ⟨rfl, rfl⟩
  go_wp2_with fail
  refine (walk_c n w t 1 _ _ 0 HV.out (((((Fr.refl [] w).alloc _).alloc _).alloc _).alloc _) (g := w.heap.size + 1) (by omega) (clo_new _ _ _ (by simp)) (by omega) (by omega) (by omega) he).mono ?_
  rintro r w1 ⟨hT, f1⟩
  have F1 : Hid (Fr [] w w1) := ((((((Fr.refl [] w).alloc _).alloc _).alloc _).alloc _).mono (S' := [w.heap.size + 1]) (by simp)).trans f1 |>.shed (fun x hx hlt => by simp at hx; omega)
  unfold Told at hT
  rw [← HE.out, ← HB.out] at hT
  clear f1
  rcases hT with ⟨t1, rfl, _⟩ | ⟨t1, rfl⟩
  · have T1 := hid t1
    clear t1
    go_wp2
    go_ret2
    exact ⟨.inl ⟨T1.out, rfl⟩, F1.out⟩
  · have T1 := hid t1
    clear t1
    go_wp2
    go_ret2
    exact ⟨.inr ⟨T1.out, rfl⟩, F1.out⟩
end Go.Proofs.YtmpfnglcmaollaaDoor
namespace Go.Proofs.YtmpfnglcmaollaaDoor
open Go.ChangeShapes Go.WideShapes Go.ChangeAt Go.RowKit

/-- All blocks but those of bytes are as they were. -/
def Keeps (w w' : World) : Prop := w.heap.size ≤ w'.heap.size ∧ ∀ (k : Nat) (o : Obj), w.heap[k]? = some o → (∀ cs, o ≠ .cells cs 5 (0, 0)) → w'.heap[k]? = some o
theorem Keeps.refl (w : World) : Keeps w w := ⟨Nat.le_refl _, fun _ _ h _ => h⟩
theorem Keeps.trans {a b c : World} (h : Keeps a b) (k : Keeps b c) : Keeps a c := ⟨Nat.le_trans h.1 k.1, fun i o hi ho => k.2 i o (h.2 i o hi ho) ho⟩
theorem Keeps.of_fr {a b : World} (h : Fr [] a b) : Keeps a b := ⟨h.size, fun i o hi _ => h.at hi (by simp)⟩
theorem Keeps.alloc (w : World) (o : Obj) : Keeps w (w.alloc o) := Keeps.of_fr ((Fr.refl _ _).alloc _)
theorem Keeps.grown {w w' : World} {base n : Nat} {v : Value} {xs : List Value} (hown : w.ownsRow base 5 1 v n xs) (hg : w.grownBy w' v.ownBlock) : Keeps w w' := by
  refine ⟨hg.size, fun k o hk ho => ?_⟩
  rw [hg.block k (blk_lt hk) fun e => ?_]
  · exact hk
  · rcases hown.2 with ⟨rfl, _⟩ | ⟨g, cap, cur, rfl, _, h, _⟩
    · simp [Value.ownBlock] at e
    · simp only [Value.ownBlock, Option.some.injEq] at e
      subst e
      rw [h] at hk
      cases hk
      exact ho _ rfl

theorem ins_eq {xs H b : List Nat} : (xs ++ b).take xs.length ++ H ++ (xs ++ b).drop xs.length = xs ++ (H ++ b) := by
  rw [List.take_left' rfl, List.drop_left' rfl, List.append_assoc]

/-- The last statement of write, behind head. -/
theorem insert_tail {w0 w w1 w2 : World} {base n : Nat} (hb0 : w0.heap.size ≤ base) (hbw : base ≤ w1.heap.size) {v1 v2 : Value} {xs b H : List Nat} (o1 : w1.ownsRow base 5 1 v1 n (bv (xs ++ b))) (hn : n = xs.length + b.length) (f1 : Fr [] w0 w1) (k1 : Keeps w w1) (o2 : w2.ownsRow w1.heap.size 5 1 v2 H.length (bv H)) (f2 : Fr [] w1 w2) (hl : xs.length + b.length + H.length ≤ 20000000) :
    Calls Tryd.prog 87 #[v1, .int .i64 (xs.length : Int), v2] w2 fun r w' => ∃ v', r = .returned v' ∧ w'.ownsRow base 5 1 v' (xs ++ (H ++ b)).length (bv (xs ++ (H ++ b))) ∧ Fr [] w0 w' ∧ Keeps w w' := by
  have hn' : n = (xs ++ b).length := by rw [hn, List.length_append]
  subst hn'
  have o3 := ownsRow_fr o1 f2
  refine (insert_c w2 (Nat.le_trans hbw f2.size) o3 o2 ?_ (by rw [List.length_append]; omega) (by rw [List.length_append]; omega)).mono ?_
  · intro k hk h
    have h1 := (o1.lt k hk).2
    have h2 := (o2.lt k h).1
    omega
  · rintro r w' ⟨v', rfl, o, g⟩
    refine ⟨v', rfl, ?_, (f1.trans f2).grew o3 hb0 g, (k1.trans (Keeps.of_fr f2)).trans (Keeps.grown o3 g)⟩
    rw [ins_eq] at o
    rw [show (xs ++ (H ++ b)).length = (xs ++ b).length + H.length by simp only [List.length_append]; omega]
    exact o

set_option maxRecDepth 20000 in
set_option maxHeartbeats 800000 in
theorem write_str (w0 w : World) (hf : Fr [] w0 w) {base : Nat} (hb0 : w0.heap.size ≤ base) (hbw : base ≤ w.heap.size) {vb : Value} {xs : List Nat} (hx : w.ownsRow base 5 1 vb xs.length (bv xs)) {bs : Value} {b : List Nat} (hr : Rd w0 bs (bv b)) (hb : By b) (ka : Option Addr) (kc : Nat) (hl : xs.length + b.length ≤ 10000000) :
    Calls Tryd.prog 63 #[vb, .agg #[.bool false, bs, .slice ka 0 kc]] w fun r w' => ∃ v', r = .returned v' ∧ w'.ownsRow base 5 1 v' (xs ++ strL b).length (bv (xs ++ strL b)) ∧ Fr [] w0 w' ∧ Keeps w w' := by
  obtain ⟨ba, bc, hbs⟩ := hr.form
  rw [bv_len] at hbs
  subst hbs
  obtain ⟨ao, c, hv, hc⟩ := ownsRow_slice hx
  subst hv
  have HX := hid (ownsRow_fr hx ((Fr.refl [] w).alloc (.cells #[.bool false, .slice ba b.length bc, .slice ka 0 kc] 77)))
  have HN := hid (blk_new w (.cells #[.bool false, .slice ba b.length bc, .slice ka 0 kc] 77))
  have F0 := hid (hf.alloc (.cells #[.bool false, .slice ba b.length bc, .slice ka 0 kc] 77))
  have K0 := hid (Keeps.alloc w (.cells #[.bool false, .slice ba b.length bc, .slice ka 0 kc] 77))
  have R0 := hid (hr.fr F0.out)
  have HR := hid hr
  have HB := hid hb
  have hbw1 : base ≤ (w.alloc (.cells #[.bool false, .slice ba b.length bc, .slice ka 0 kc] 77)).heap.size := by simp; omega
  obtain ⟨S, hS⟩ : ∃ S, S = xs ++ strL b := ⟨_, rfl⟩
  rw [← hS]
  have HS := hid hS
  clear hf hx hr hb hS
  go_enter Tryd.func63, Tryd.ntmps63
  go_wp2_with (
    at_builtin
    refine wpList_append_rd rfl _ _ rfl base hbw1 _ _ _ rfl HX.out _ _ rfl R0.out bv_one (by rw [bv_len]; omega) ?_
    intro v1 w1 o1 g1 o3
    rw [bv_len, ← bv_append] at o1
    have g1' : (w.alloc (.cells #[.bool false, .slice ba b.length bc, .slice ka 0 kc] 77)).grownBy w1 (Value.slice ao xs.length c).ownBlock := g1
    have O1 := hid o1
    have F1 := hid (F0.out.grew HX.out hb0 g1')
    have K1 := hid (Keeps.grown HX.out g1')
    have KK := hid (K0.out.trans K1.out)
    have hbk := K1.out.2 _ _ HN.out (fun cs e => by cases e)
    have hbw2 : base ≤ w1.heap.size := Nat.le_trans hbw1 g1'.size
    have R1 := hid (HR.out.fr F1.out)
    obtain ⟨a1, c1, hv1, hc1⟩ := ownsRow_slice o1
    subst hv1
    have hb0' := blk_cell hbk 0
    have hb1' := blk_cell hbk 1
    have hb2' := blk_cell hbk 2
    simp at hb0' hb1' hb2'
    clear o1 g1 g1' o3 hbk)
  refine wp_loop_rounds 1 ?_
  rw [rounds_succ]
  by_cases hs : b.length = 1 ∧ b.headD 0 < 128
  · obtain ⟨x, hx⟩ : ∃ x, b = [x] := by
      rcases b with _ | ⟨x, _ | ⟨y, r⟩⟩
      · simp at hs
      · exact ⟨x, rfl⟩
      · simp at hs
    have hx1 : x < 128 := by rw [hx] at hs; simpa using hs.2
    have hsv : S = xs ++ ([] ++ b) := by rw [HS.out]; unfold strL; rw [if_pos hs]; rfl
    have HSV := hid hsv
    clear hsv hs HS
    subst hx
    rcases R1.out.split with ⟨h0, _⟩ | ⟨q, off, c', hv, _, _, hcell⟩
    · cases h0
    · simp only [List.length_singleton] at hv
      cases hv
      have hc0 := hcell 0 x rfl
      rw [Nat.add_zero] at hc0
      simp only [List.length_singleton] at hb0' hb1' hb2' ⊢
      go_wp2_with fail
      rw [show (xs.length : Int) + 1 - (xs.length : Int) = 1 by omega]
      refine (head_small w1 _ hc0 hx1).mono ?_
      rintro r w2 ⟨rfl, f2⟩
      have F2 := hid f2
      clear f2
      go_wp2_with fail
      refine (insert_tail (w := w) (H := []) hb0 hbw2 O1.out rfl F1.out KK.out (World.ownsRow_nil _ _ _ _) F2.out (by simp; omega)).mono ?_
      rintro r w3 ⟨v3, rfl, o3, f3, k3⟩
      rw [← HSV.out] at o3
      have O3 := hid o3
      have F3 := hid f3
      have K3 := hid k3
      clear o3 f3 k3
      go_wp2
      go_ret
      exact ⟨v3, rfl, O3.out, F3.out, K3.out⟩
  · have hsv : S = xs ++ (headL 128 b.length ++ b) := by rw [HS.out, strL_big hs]
    have HSV := hid hsv
    have hh := headL_len 128 b.length
    clear hsv HS
    go_wp2_with fail
    rw [show (xs.length : Int) + (b.length : Int) - (xs.length : Int) = (b.length : Int) by omega]
    refine (head_str w1 _ _ b.length (by omega) ?_).mono ?_
    · intro h1
      rcases R1.out.split with ⟨h0, _⟩ | ⟨q, off, c', hv, _, _, hcell⟩
      · rw [h0] at h1; cases h1
      · rw [h1] at hv
        rcases b with _ | ⟨x, r⟩
        · cases h1
        · refine ⟨q, off, c', x, by rw [h1]; exact hv, by have := hcell 0 x rfl; rwa [Nat.add_zero] at this, ?_, HB.out x (by simp)⟩
          rcases Nat.lt_or_ge x 128 with h | h
          · exact absurd ⟨h1, by simpa using h⟩ hs
          · exact h
    · rintro r w2 ⟨v2, rfl, o2, f2⟩
      have O2 := hid o2
      have F2 := hid f2
      obtain ⟨a2, c2, hv2, _⟩ := ownsRow_slice o2
      subst hv2
      clear o2 f2
      go_wp2_with fail
      refine (insert_tail (w := w) hb0 hbw2 O1.out rfl F1.out KK.out O2.out F2.out (by omega)).mono ?_
      rintro r w3 ⟨v3, rfl, o3, f3, k3⟩
      rw [← HSV.out] at o3
      have O3 := hid o3
      have F3 := hid f3
      have K3 := hid k3
      clear o3 f3 k3
      go_wp2
      go_ret
      exact ⟨v3, rfl, O3.out, F3.out, K3.out⟩
end Go.Proofs.YtmpfnglcmaollaaDoor
namespace Go.Proofs.YtmpfnglcmaollaaDoor
open Go.ChangeShapes Go.WideShapes Go.ChangeAt Go.RowKit

theorem flatMap_snoc {α : Type} (f : α → List Nat) {ks : List α} {j : Nat} {k : α} (h : ks[j]? = some k) : (ks.take (j + 1)).flatMap f = (ks.take j).flatMap f ++ f k := by
  rw [List.take_add_one, h]; simp [List.flatMap_append]

set_option maxRecDepth 20000 in
set_option maxHeartbeats 800000 in
theorem write_list (w0 w : World) (hf : Fr [] w0 w) {base n : Nat} (hb0 : w0.heap.size ≤ base) (hbw : base ≤ w.heap.size) {vb : Value} {xs : List Nat} (hx : w.ownsRow base 5 1 vb xs.length (bv xs)) {bs : Value} (hr : Rd w0 bs (bv [])) {ks : List (Tr n)} {ka : Option Addr} {kc : Nat} (hkl : ks.length ≤ 140737488355328)
    (hks : 0 < ks.length → ∃ kb ko, ka = some ⟨kb, ko, none⟩ ∧ ∀ (j : Nat) (x : Tr n), ks[j]? = some x → ∃ l bs' is', w0.cell? ⟨kb, ko + j * 3, none⟩ = some (.bool l) ∧ w0.cell? ⟨kb, ko + j * 3 + 1, none⟩ = some bs' ∧ w0.cell? ⟨kb, ko + j * 3 + 2, none⟩ = some is' ∧ IsV w0 n (.agg #[.bool l, bs', is']) x)
    (ih : ∀ x ∈ ks, ∀ (w : World) (v vb : Value) (ys : List Nat), IsV w0 n v x → Fr [] w0 w → base ≤ w.heap.size → w.ownsRow base 5 1 vb ys.length (bv ys) → ys.length + (enc n x).length ≤ 1000000 → Calls Tryd.prog 63 #[vb, v] w fun r w' => ∃ v', r = .returned v' ∧ w'.ownsRow base 5 1 v' (ys ++ enc n x).length (bv (ys ++ enc n x)) ∧ Fr [] w0 w' ∧ Keeps w w')
    (hl : xs.length + (ks.flatMap (enc n)).length ≤ 1000000) :
    Calls Tryd.prog 63 #[vb, .agg #[.bool true, bs, .slice ka ks.length kc]] w fun r w' => ∃ v', r = .returned v' ∧ w'.ownsRow base 5 1 v' (xs ++ (headL 192 (ks.flatMap (enc n)).length ++ ks.flatMap (enc n))).length (bv (xs ++ (headL 192 (ks.flatMap (enc n)).length ++ ks.flatMap (enc n)))) ∧ Fr [] w0 w' ∧ Keeps w w' := by
  obtain ⟨ba, bc, hbs⟩ := hr.form
  rw [bv_len, List.length_nil] at hbs
  subst hbs
  obtain ⟨ao, c, hv, hc⟩ := ownsRow_slice hx
  subst hv
  obtain ⟨L, hL⟩ : ∃ L, L = ks.length := ⟨_, rfl⟩
  rw [← hL] at hkl hks ⊢
  have HX := hid (ownsRow_fr hx ((Fr.refl [] w).alloc (.cells #[.bool true, .slice ba 0 bc, .slice ka L kc] 77)))
  have HN := hid (blk_new w (.cells #[.bool true, .slice ba 0 bc, .slice ka L kc] 77))
  have F0 := hid (hf.alloc (.cells #[.bool true, .slice ba 0 bc, .slice ka L kc] 77))
  have K0 := hid (Keeps.alloc w (.cells #[.bool true, .slice ba 0 bc, .slice ka L kc] 77))
  have R0 := hid (hr.fr F0.out)
  have HK := hid hks
  have IH := hid ih
  have hbw1 : base ≤ (w.alloc (.cells #[.bool true, .slice ba 0 bc, .slice ka L kc] 77)).heap.size := by simp; omega
  obtain ⟨P, hP⟩ : ∃ P, P = ks.flatMap (enc n) := ⟨_, rfl⟩
  rw [← hP] at hl ⊢
  obtain ⟨S, hS⟩ : ∃ S, S = xs ++ (headL 192 P.length ++ P) := ⟨_, rfl⟩
  rw [← hS]
  have HS := hid hS
  have HP := hid hP
  have HL := hid hL
  clear hf hx hr hS hks ih hP hL
  go_enter Tryd.func63, Tryd.ntmps63
  go_wp2_with (
    at_builtin
    refine wpList_append_rd rfl _ _ rfl base hbw1 _ _ _ rfl HX.out _ _ rfl R0.out bv_one (by rw [bv_len, List.length_nil]; omega) ?_
    intro v1 w1 o1 g1 o3
    rw [bv_len, List.length_nil, Nat.add_zero, ← bv_append, List.append_nil] at o1
    have g1' : (w.alloc (.cells #[.bool true, .slice ba 0 bc, .slice ka L kc] 77)).grownBy w1 (Value.slice ao xs.length c).ownBlock := g1
    have O1 := hid o1
    have F1 := hid (F0.out.grew HX.out hb0 g1')
    have K1 := hid (Keeps.grown HX.out g1')
    have KK := hid (K0.out.trans K1.out)
    have hbk := K1.out.2 _ _ HN.out (fun cs e => by cases e)
    have hbw2 : base ≤ w1.heap.size := Nat.le_trans hbw1 g1'.size
    have HBK := hid hbk
    have hb2' := blk_cell hbk 2
    simp at hb2'
    clear o1 g1 g1' o3 hbk)
  go_loopw [0, 17] (fun v0 v17 wr => ∃ j : Nat, j ≤ L ∧ v17 = .int .i64 (j : Int) ∧ wr.ownsRow base 5 1 v0 (xs ++ (ks.take j).flatMap (enc n)).length (bv (xs ++ (ks.take j).flatMap (enc n))) ∧ Fr [] w0 wr ∧ Keeps w1 wr ∧ base ≤ wr.heap.size) (fun _ v17 _ => L - (intOf v17).toNat)
  case atStart => exact ⟨0, by omega, rfl, by rw [List.take_zero, List.flatMap_nil, List.append_nil]; exact O1.out, F1.out, Keeps.refl _, hbw2⟩
  case round =>
    obtain ⟨j, hj, rfl, ho, hfr, hkp, hbr⟩ := hrel
    have HO := hid ho
    have HFR := hid hfr
    have HKP := hid hkp
    clear ho hfr hkp
    by_cases hjl : j < L
    · obtain ⟨x, hx⟩ : ∃ x, ks[j]? = some x := ⟨_, List.getElem?_eq_getElem (by rw [← HL.out]; exact hjl)⟩
      have hxm : x ∈ ks := List.mem_of_getElem? hx
      obtain ⟨kb, ko, hka, hel⟩ := HK.out (by omega)
      subst hka
      obtain ⟨l, bs', is', e1, e2, e3, e4⟩ := hel j x hx
      obtain ⟨x1, x2, x3, x4, x5, x6, rfl, rfl⟩ := e4.cells
      have c1 := cell_fr e1 HFR.out
      have c2 := cell_fr e2 HFR.out
      have c3 := cell_fr e3 HFR.out
      have FA := hid (HFR.out.alloc (.cells #[.bool l, .slice x1 x2 x3, .slice x4 x5 x6] 77))
      have KA := hid (HKP.out.trans (Keeps.alloc _ (.cells #[.bool l, .slice x1 x2 x3, .slice x4 x5 x6] 77)))
      have OA := hid (ownsRow_fr HO.out ((Fr.refl [] wr).alloc (.cells #[.bool l, .slice x1 x2 x3, .slice x4 x5 x6] 77)))
      have hbr1 : base ≤ (wr.alloc (.cells #[.bool l, .slice x1 x2 x3, .slice x4 x5 x6] 77)).heap.size := by simp; omega
      have E4 := hid e4
      have hsn := flatMap_snoc (enc n) hx
      have hle := flatMap_take_le (enc n) ks (j + 1)
      have hlen : (xs ++ (ks.take j).flatMap (enc n)).length + (enc n x).length ≤ 1000000 := by
        rw [hsn, List.length_append, ← HP.out] at hle
        rw [List.length_append]; omega
      have HSN := hid hsn
      have HLEN := hid hlen
      clear e1 e2 e3 e4 hel hsn hle hlen
      go_wp2_with fail
      refine (IH.out x hxm _ _ _ _ E4.out FA.out hbr1 OA.out HLEN.out).mono ?_
      rintro r w2 ⟨v2, rfl, o2, f2, k2⟩
      rw [List.append_assoc, ← HSN.out] at o2
      have O2 := hid o2
      have F2 := hid f2
      have K2 := hid (KA.out.trans k2)
      have hbr2 : Hid (base ≤ w2.heap.size) := Nat.le_trans hbr1 k2.1
      clear o2 f2 k2
      go_wp2_with fail
      go_roundw
      case rel => go_light; exact ⟨j + 1, by omega, by go_num, O2.out, F2.out, K2.out, hbr2.out⟩
      case measure => go_light; simp [intOf]; omega
    · have hjL : j = L := by omega
      subst hjL
      have ho := HO.out
      rw [List.take_of_length_le (by rw [HL.out]; exact Nat.le_refl _), ← HP.out, List.length_append] at ho
      have O1' := hid ho
      have hbk := HKP.out.2 _ _ HBK.out (fun cs e => by cases e)
      have hd0 := blk_cell hbk 0
      have hd1 := blk_cell hbk 1
      have hd2 := blk_cell hbk 2
      simp at hd0 hd1 hd2
      have hh := headL_len 192 P.length
      have KK2 := hid (KK.out.trans HKP.out)
      obtain ⟨a1, c1, hv1, hc1⟩ := ownsRow_slice ho
      subst hv1
      clear ho hbk HO
      go_wp2_with fail
      rw [show (xs.length : Int) + (P.length : Int) - (xs.length : Int) = (P.length : Int) by omega]
      refine (head_list wr _ _ P.length (by omega)).mono ?_
      rintro r w2 ⟨v2, rfl, o2, f2⟩
      have O2 := hid o2
      have F2 := hid f2
      obtain ⟨a2, c2, hv2, _⟩ := ownsRow_slice o2
      subst hv2
      clear o2 f2
      go_wp2_with fail
      refine (insert_tail (w := w) hb0 hbr O1'.out rfl HFR.out KK2.out O2.out F2.out (by omega)).mono ?_
      rintro r w3 ⟨v3, rfl, o3, f3, k3⟩
      rw [← HS.out] at o3
      have O3 := hid o3
      have F3 := hid f3
      have K3 := hid k3
      clear o3 f3 k3
      go_wp2
      go_ret
      exact ⟨v3, rfl, O3.out, F3.out, K3.out⟩

/-- An item that may be encoded is written behind what there is. -/
theorem writeI_c {base : Nat} : ∀ (n : Nat) (w0 : World) (t : Tr n) (d : Nat) (w : World) (v vb : Value) (xs : List Nat), bad n d t = 0 → w0.heap.size ≤ base → IsV w0 n v t → Fr [] w0 w → base ≤ w.heap.size → w.ownsRow base 5 1 vb xs.length (bv xs) → xs.length + (enc n t).length ≤ 1000000 →
    Calls Tryd.prog 63 #[vb, v] w fun r w' => ∃ v', r = .returned v' ∧ w'.ownsRow base 5 1 v' (xs ++ enc n t).length (bv (xs ++ enc n t)) ∧ Fr [] w0 w' ∧ Keeps w w'
  | 0, w0, t, d, w, v, vb, xs, hbad, _, _, _, _, _, _ => by simp [bad] at hbad
  | n + 1, w0, t, d, w, v, vb, xs, hbad, hb0, hv, hf, hbw, hx, hl => by
    obtain ⟨bs, ka, kc, rfl, h2, h3, h4, h5, h5', h6⟩ := hv
    rcases (bad_cases hbad).2 with ⟨g1, g2, g3⟩ | ⟨g1, g2⟩
    · rw [g2] at h2
      rw [enc_list g1, List.length_append] at hl
      rw [enc_list g1, g1]
      refine write_list w0 w hf hb0 hbw hx h2 (by omega) h6 (fun x hxm w2 v2 vb2 ys hv2 hf2 hb2 hx2 hl2 => writeI_c n w0 x (d + 1) w2 v2 vb2 ys (g3 x hxm) hb0 hv2 hf2 hb2 hx2 hl2) (by omega)
    · rw [enc_str g1] at hl ⊢
      rw [g1, g2]
      have := strL_len (tB t)
      exact write_str w0 w hf hb0 hbw hx h2 h3 ka kc (by omega)
end Go.Proofs.YtmpfnglcmaollaaDoor
