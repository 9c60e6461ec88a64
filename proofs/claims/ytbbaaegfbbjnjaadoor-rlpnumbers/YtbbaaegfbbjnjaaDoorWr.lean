/-
  What write of package rlp answers: an item's bytes behind others.
-/
import Derived.Test.YtbbaaegfbbjnjaaDoorJ14
namespace Go.Proofs.YtbbaaegfbbjnjaaDoor
open Go.ChangeShapes Go.WideShapes Go.ChangeAt Go.RowKit

/-- All blocks but those of bytes are as they were. -/
def Keeps (w w' : World) : Prop := w.heap.size ≤ w'.heap.size ∧ ∀ (k : Nat) (o : Obj), w.heap[k]? = some o → (∀ cs, o ≠ .cells cs 5 (0, 0)) → w'.heap[k]? = some o
theorem Keeps.refl (w : World) : Keeps w w := ⟨Nat.le_refl _, fun _ _ h _ => h⟩
theorem Keeps.trans {a b c : World} (h : Keeps a b) (k : Keeps b c) : Keeps a c := ⟨Nat.le_trans h.1 k.1, fun i o hi ho => k.2 i o (h.2 i o hi ho) ho⟩
theorem Keeps.of_fr {a b : World} (h : Fr [] a b) : Keeps a b := ⟨h.size, fun i o hi _ => h.at hi (by simp)⟩
theorem Keeps.alloc (w : World) (o : Obj) : Keeps w (w.alloc o) := Keeps.of_fr ((Fr.refl _ _).alloc _)
theorem Keeps.grown {w w' : World} {base n : Nat} {v : Value} {xs : List Value} (hown : w.ownsRow base 5 1 v n xs) (hg : w.grownBy w' v.ownBlock) : Keeps w w' := by
  refine ⟨hg.size, fun k o hk ho => ?_⟩
  rw [hg.block k (blk_lt hk) fun e => ?_]
  · exact hk
  · rcases hown.2 with ⟨rfl, _⟩ | ⟨g, cap, cur, rfl, _, h, _⟩
    · simp [Value.ownBlock] at e
    · simp only [Value.ownBlock, Option.some.injEq] at e
      subst e
      rw [h] at hk
      cases hk
      exact ho _ rfl

theorem ins_eq {xs H b : List Nat} : (xs ++ b).take xs.length ++ H ++ (xs ++ b).drop xs.length = xs ++ (H ++ b) := by
  rw [List.take_left' rfl, List.drop_left' rfl, List.append_assoc]

/-- The last statement of write, behind head. -/
theorem insert_tail {w0 w w1 w2 : World} {base n : Nat} (hb0 : w0.heap.size ≤ base) (hbw : base ≤ w1.heap.size) {v1 v2 : Value} {xs b H : List Nat} (o1 : w1.ownsRow base 5 1 v1 n (bv (xs ++ b))) (hn : n = xs.length + b.length) (f1 : Fr [] w0 w1) (k1 : Keeps w w1) (o2 : w2.ownsRow w1.heap.size 5 1 v2 H.length (bv H)) (f2 : Fr [] w1 w2) (hl : xs.length + b.length + H.length ≤ 20000000) :
    Calls Tryd.prog 26 #[v1, .int .i64 (xs.length : Int), v2] w2 fun r w' => ∃ v', r = .returned v' ∧ w'.ownsRow base 5 1 v' (xs ++ (H ++ b)).length (bv (xs ++ (H ++ b))) ∧ Fr [] w0 w' ∧ Keeps w w' := by
  have hn' : n = (xs ++ b).length := by rw [hn, List.length_append]
  subst hn'
  have o3 := ownsRow_fr o1 f2
  refine (insert_c w2 (Nat.le_trans hbw f2.size) o3 o2 ?_ (by rw [List.length_append]; omega) (by rw [List.length_append]; omega)).mono ?_
  · intro k hk h
    have h1 := (o1.lt k hk).2
    have h2 := (o2.lt k h).1
    omega
  · rintro r w' ⟨v', rfl, o, g⟩
    refine ⟨v', rfl, ?_, (f1.trans f2).grew o3 hb0 g, (k1.trans (Keeps.of_fr f2)).trans (Keeps.grown o3 g)⟩
    rw [ins_eq] at o
    rw [show (xs ++ (H ++ b)).length = (xs ++ b).length + H.length by simp only [List.length_append]; omega]
    exact o

set_option maxRecDepth 20000 in
set_option maxHeartbeats 800000 in
theorem write_str (w0 w : World) (hf : Fr [] w0 w) {base : Nat} (hb0 : w0.heap.size ≤ base) (hbw : base ≤ w.heap.size) {vb : Value} {xs : List Nat} (hx : w.ownsRow base 5 1 vb xs.length (bv xs)) {bs : Value} {b : List Nat} (hr : Rd w0 bs (bv b)) (hb : By b) (ka : Option Addr) (kc : Nat) (hl : xs.length + b.length ≤ 10000000) :
    Calls Tryd.prog 16 #[vb, .agg #[.bool false, bs, .slice ka 0 kc]] w fun r w' => ∃ v', r = .returned v' ∧ w'.ownsRow base 5 1 v' (xs ++ strL b).length (bv (xs ++ strL b)) ∧ Fr [] w0 w' ∧ Keeps w w' := by
  obtain ⟨ba, bc, hbs⟩ := hr.form
  rw [bv_len] at hbs
  subst hbs
  obtain ⟨ao, c, hv, hc⟩ := ownsRow_slice hx
  subst hv
  have HX := hid (ownsRow_fr hx ((Fr.refl [] w).alloc (.cells #[.bool false, .slice ba b.length bc, .slice ka 0 kc] 44)))
  have HN := hid (blk_new w (.cells #[.bool false, .slice ba b.length bc, .slice ka 0 kc] 44))
  have F0 := hid (hf.alloc (.cells #[.bool false, .slice ba b.length bc, .slice ka 0 kc] 44))
  have K0 := hid (Keeps.alloc w (.cells #[.bool false, .slice ba b.length bc, .slice ka 0 kc] 44))
  have R0 := hid (hr.fr F0.out)
  have HR := hid hr
  have HB := hid hb
  have hbw1 : base ≤ (w.alloc (.cells #[.bool false, .slice ba b.length bc, .slice ka 0 kc] 44)).heap.size := by simp; omega
  obtain ⟨S, hS⟩ : ∃ S, S = xs ++ strL b := ⟨_, rfl⟩
  rw [← hS]
  have HS := hid hS
  clear hf hx hr hb hS
  go_enter Tryd.func16, Tryd.ntmps16
  go_wp2_with (
    at_builtin
    refine wpList_append_rd rfl _ _ rfl base hbw1 _ _ _ rfl HX.out _ _ rfl R0.out bv_one (by rw [bv_len]; omega) ?_
    intro v1 w1 o1 g1 o3
    rw [bv_len, ← bv_append] at o1
    have g1' : (w.alloc (.cells #[.bool false, .slice ba b.length bc, .slice ka 0 kc] 44)).grownBy w1 (Value.slice ao xs.length c).ownBlock := g1
    have O1 := hid o1
    have F1 := hid (F0.out.grew HX.out hb0 g1')
    have K1 := hid (Keeps.grown HX.out g1')
    have KK := hid (K0.out.trans K1.out)
    have hbk := K1.out.2 _ _ HN.out (fun cs e => by cases e)
    have hbw2 : base ≤ w1.heap.size := Nat.le_trans hbw1 g1'.size
    have R1 := hid (HR.out.fr F1.out)
    obtain ⟨a1, c1, hv1, hc1⟩ := ownsRow_slice o1
    subst hv1
    have hb0' := blk_cell hbk 0
    have hb1' := blk_cell hbk 1
    have hb2' := blk_cell hbk 2
    simp at hb0' hb1' hb2'
    clear o1 g1 g1' o3 hbk)
  refine wp_loop_rounds 1 ?_
  rw [rounds_succ]
  by_cases hs : b.length = 1 ∧ b.headD 0 < 128
  · obtain ⟨x, hx⟩ : ∃ x, b = [x] := by
      rcases b with _ | ⟨x, _ | ⟨y, r⟩⟩
      · simp at hs
      · exact ⟨x, rfl⟩
      · simp at hs
    have hx1 : x < 128 := by rw [hx] at hs; simpa using hs.2
    have hsv : S = xs ++ ([] ++ b) := by rw [HS.out]; unfold strL; rw [if_pos hs]; rfl
    have HSV := hid hsv
    clear hsv hs HS
    subst hx
    rcases R1.out.split with ⟨h0, _⟩ | ⟨q, off, c', hv, _, _, hcell⟩
    · cases h0
    · simp only [List.length_singleton] at hv
      cases hv
      have hc0 := hcell 0 x rfl
      rw [Nat.add_zero] at hc0
      simp only [List.length_singleton] at hb0' hb1' hb2' ⊢
      go_wp2_with fail
      rw [show (xs.length : Int) + 1 - (xs.length : Int) = 1 by omega]
      refine (head_small w1 _ hc0 hx1).mono ?_
      rintro r w2 ⟨rfl, f2⟩
      have F2 := hid f2
      clear f2
      go_wp2_with fail
      refine (insert_tail (w := w) (H := []) hb0 hbw2 O1.out rfl F1.out KK.out (World.ownsRow_nil _ _ _ _) F2.out (by simp; omega)).mono ?_
      rintro r w3 ⟨v3, rfl, o3, f3, k3⟩
      rw [← HSV.out] at o3
      have O3 := hid o3
      have F3 := hid f3
      have K3 := hid k3
      clear o3 f3 k3
      go_wp2
      go_ret
      exact ⟨v3, rfl, O3.out, F3.out, K3.out⟩
  · have hsv : S = xs ++ (headL 128 b.length ++ b) := by rw [HS.out, strL_big hs]
    have HSV := hid hsv
    have hh := headL_len 128 b.length
    clear hsv HS
    go_wp2_with fail
    rw [show (xs.length : Int) + (b.length : Int) - (xs.length : Int) = (b.length : Int) by omega]
    refine (head_str w1 _ _ b.length (by omega) ?_).mono ?_
    · intro h1
      rcases R1.out.split with ⟨h0, _⟩ | ⟨q, off, c', hv, _, _, hcell⟩
      · rw [h0] at h1; cases h1
      · rw [h1] at hv
        rcases b with _ | ⟨x, r⟩
        · cases h1
        · refine ⟨q, off, c', x, by rw [h1]; exact hv, by have := hcell 0 x rfl; rwa [Nat.add_zero] at this, ?_, HB.out x (by simp)⟩
          rcases Nat.lt_or_ge x 128 with h | h
          · exact absurd ⟨h1, by simpa using h⟩ hs
          · exact h
    · rintro r w2 ⟨v2, rfl, o2, f2⟩
      have O2 := hid o2
      have F2 := hid f2
      obtain ⟨a2, c2, hv2, _⟩ := ownsRow_slice o2
      subst hv2
      clear o2 f2
      go_wp2_with fail
      refine (insert_tail (w := w) hb0 hbw2 O1.out rfl F1.out KK.out O2.out F2.out (by omega)).mono ?_
      rintro r w3 ⟨v3, rfl, o3, f3, k3⟩
      rw [← HSV.out] at o3
      have O3 := hid o3
      have F3 := hid f3
      have K3 := hid k3
      clear o3 f3 k3
      go_wp2
      go_ret
      exact ⟨v3, rfl, O3.out, F3.out, K3.out⟩
end Go.Proofs.YtbbaaegfbbjnjaaDoor
