/-
  What measure of package rlp answers, road by road.
-/
import Derived.Test.YtbbaaegfbbjnjaaDoorJ11
namespace Go.Proofs.YtbbaaegfbbjnjaaDoor
open Go.ChangeShapes Go.WideShapes Go.ChangeAt Go.RowKit

set_option maxRecDepth 20000 in
set_option maxHeartbeats 400000 in
theorem walk_form1 (w : World) {T g e k c d : Nat} (C : Clo w 36 T g e k c) {ba : Option Addr} {bl bc : Nat} (is : Value) (hd : d ≤ 16) (hc : c < 4096) (hl : 0 < bl) :
    Calls Tryd.prog 36 #[.agg #[.bool true, .slice ba bl bc, is], .int .i64 (d : Int), .pointer (some ⟨e, 0, none⟩), .pointer (some ⟨k, 0, none⟩)] w fun r w' => r = .returned (.tuple #[.int .i64 0, .int .i64 40]) ∧ Fr [g] w w' := by
  have C1 := C.alloc (.cells #[.bool true, .slice ba bl bc, is] 44)
  have hg := blk_lt C.cg
  have he := blk_cell C1.ce 0
  simp at he
  have HC := hid C1
  have HN := hid (blk_new w (.cells #[.bool true, .slice ba bl bc, is] 44))
  have hne : ¬ w.heap.size = g := by omega
  clear C C1
  go_enter Tryd.func36, Tryd.ntmps36
  go_wp2_with fail
  refine (gate_yes _ HC.out.cg hd hc).mono ?_
  rintro r w1 ⟨rfl, h1, f1⟩
  have hb := f1.at HN.out (by simpa using hne)
  have hb0 := blk_cell hb 0
  have hb1 := blk_cell hb 1
  have hb2 := blk_cell hb 2
  simp at hb0 hb1 hb2
  have F1 := hid f1
  clear hb f1 h1
  go_wp2
  go_ret2
  exact ⟨rfl, ((Fr.refl _ _).alloc _).trans F1.out⟩
set_option maxRecDepth 20000 in
set_option maxHeartbeats 400000 in
theorem walk_form2 (w : World) {T g e k c d : Nat} (C : Clo w 36 T g e k c) {ka : Option Addr} {kl kc : Nat} (bs : Value) (hd : d ≤ 16) (hc : c < 4096) (hl : 0 < kl) :
    Calls Tryd.prog 36 #[.agg #[.bool false, bs, .slice ka kl kc], .int .i64 (d : Int), .pointer (some ⟨e, 0, none⟩), .pointer (some ⟨k, 0, none⟩)] w fun r w' => r = .returned (.tuple #[.int .i64 0, .int .i64 40]) ∧ Fr [g] w w' := by
  have C1 := C.alloc (.cells #[.bool false, bs, .slice ka kl kc] 44)
  have hg := blk_lt C.cg
  have he := blk_cell C1.ce 0
  simp at he
  have HC := hid C1
  have HN := hid (blk_new w (.cells #[.bool false, bs, .slice ka kl kc] 44))
  have hne : ¬ w.heap.size = g := by omega
  clear C C1
  go_enter Tryd.func36, Tryd.ntmps36
  go_wp2_with fail
  refine (gate_yes _ HC.out.cg hd hc).mono ?_
  rintro r w1 ⟨rfl, h1, f1⟩
  have hb := f1.at HN.out (by simpa using hne)
  have hb0 := blk_cell hb 0
  have hb1 := blk_cell hb 1
  have hb2 := blk_cell hb 2
  simp at hb0 hb1 hb2
  have F1 := hid f1
  clear hb f1 h1
  go_wp2
  go_ret2
  exact ⟨rfl, ((Fr.refl _ _).alloc _).trans F1.out⟩

theorem strL_small {b : List Nat} {x : Nat} (h : b = [x]) (hx : x < 128) : (strL b).length = 1 := by
  subst h; unfold strL; rw [if_pos ⟨rfl, by simpa using hx⟩]; rfl
theorem strL_big {b : List Nat} (h : ¬ (b.length = 1 ∧ b.headD 0 < 128)) : strL b = headL 128 b.length ++ b := by unfold strL; rw [if_neg h]

set_option maxRecDepth 20000 in
set_option maxHeartbeats 800000 in
theorem walk_str (w0 w : World) {T g e k c d : Nat} (C : Clo w 36 T g e k c) (hf : Fr [] w0 w) (hg0 : w0.heap.size ≤ g) {bs : Value} {b : List Nat} (hr : Rd w0 bs (bv b)) (hb : By b) (hl : b.length ≤ 140737488355328) (ka : Option Addr) (kc : Nat) (hd : d ≤ 16) (hc : c < 4096) :
    Calls Tryd.prog 36 #[.agg #[.bool false, bs, .slice ka 0 kc], .int .i64 (d : Int), .pointer (some ⟨e, 0, none⟩), .pointer (some ⟨k, 0, none⟩)] w fun r w' => r = .returned (.tuple #[.int .i64 ((strL b).length : Int), .int .i64 0]) ∧ w'.heap[g]? = some (.cells #[.int .i64 ((c + 1 : Nat) : Int)] 3 (0, 0)) ∧ Fr [g] w w' := by
  obtain ⟨ba, bc, hbs⟩ := hr.form
  rw [bv_len] at hbs
  subst hbs
  have C1 := C.alloc (.cells #[.bool false, .slice ba b.length bc, .slice ka 0 kc] 44)
  have hg := blk_lt C.cg
  have he := blk_cell C1.ce 0
  simp at he
  have HC := hid C1
  have HN := hid (blk_new w (.cells #[.bool false, .slice ba b.length bc, .slice ka 0 kc] 44))
  have hne : ¬ w.heap.size = g := by omega
  have FA := hid ((Fr.refl [g] w).alloc (.cells #[.bool false, .slice ba b.length bc, .slice ka 0 kc] 44))
  have HF := hid hf
  have HR := hid hr
  have HB := hid hb
  obtain ⟨S, hS⟩ : ∃ S, S = (strL b).length := ⟨_, rfl⟩
  rw [← hS]
  have HS := hid hS
  clear C C1 hf hr hb hS
  go_enter Tryd.func36, Tryd.ntmps36
  go_wp2_with fail
  refine (gate_yes _ HC.out.cg hd hc).mono ?_
  rintro r w1 ⟨rfl, h1, f1⟩
  have hbk := f1.at HN.out (by simpa using hne)
  have hb0 := blk_cell hbk 0
  have hb1 := blk_cell hbk 1
  have hb2 := blk_cell hbk 2
  simp at hb0 hb1 hb2
  have F1 := hid (FA.out.trans f1)
  have H1 := hid h1
  have R1 : Hid (Rd w1 (.slice ba b.length bc) (bv b)) := HR.out.fr ((HF.out.mono (S' := [g]) (by simp)).trans F1.out |>.shed (fun x hx hlt => by simp at hx; omega))
  clear hbk f1 h1
  go_wp2_with fail
  refine wp_loop_rounds 1 ?_
  rw [rounds_succ]
  by_cases hs : b.length = 1 ∧ b.headD 0 < 128
  · obtain ⟨x, hx⟩ : ∃ x, b = [x] := by
      rcases b with _ | ⟨x, _ | ⟨y, r⟩⟩
      · simp at hs
      · exact ⟨x, rfl⟩
      · simp at hs
    have hx1 : x < 128 := by rw [hx] at hs; simpa using hs.2
    have HSV := hid (HS.out.trans (strL_small hx hx1))
    subst hx
    rcases R1.out.split with ⟨h0, _⟩ | ⟨q, off, c', hv, _, _, hcell⟩
    · cases h0
    · simp only [List.length_singleton] at hv
      cases hv
      have hc0 := hcell 0 x rfl
      rw [Nat.add_zero] at hc0
      simp only [List.length_singleton] at hb0 hb1 hb2 ⊢
      go_wp2_with fail
      refine (head_small w1 _ hc0 hx1).mono ?_
      rintro r w2 ⟨rfl, f2⟩
      have F2 := hid f2
      clear f2
      go_wp2
      go_ret2
      exact ⟨by rw [HSV.out]; rfl, F2.out.at H1.out (by simp), F1.out.trans (F2.out.mono (by simp))⟩
  · have hsb := strL_big hs
    have hlen : (strL b).length = (headL 128 b.length).length + b.length := by rw [hsb, List.length_append]
    have hh := headL_len 128 b.length
    obtain ⟨H, hH⟩ : ∃ H, H = headL 128 b.length := ⟨_, rfl⟩
    rw [← hH] at hh hlen
    have HH := hid hH
    have HSV := hid (HS.out.trans hlen)
    clear hH hsb hlen
    go_wp2_with fail
    refine (head_str w1 _ _ b.length hl ?_).mono ?_
    · intro h1
      rcases R1.out.split with ⟨h0, _⟩ | ⟨q, off, c', hv, _, _, hcell⟩
      · rw [h0] at h1; cases h1
      · rw [h1] at hv
        rcases b with _ | ⟨x, r⟩
        · cases h1
        · refine ⟨q, off, c', x, by rw [h1]; exact hv, by have := hcell 0 x rfl; rwa [Nat.add_zero] at this, ?_, HB.out x (by simp)⟩
          rcases Nat.lt_or_ge x 128 with h | h
          · exact absurd ⟨h1, by simpa using h⟩ hs
          · exact h
    · rintro r w2 ⟨v2, rfl, o2, f2⟩
      rw [← HH.out] at o2
      obtain ⟨a2, c2, rfl, _⟩ := ownsRow_slice o2
      have F2 := hid f2
      clear f2 o2
      go_wp2
      go_ret2
      exact ⟨by rw [HSV.out, Int.natCast_add]; rfl, F2.out.at H1.out (by simp), F1.out.trans (F2.out.mono (by simp))⟩
end Go.Proofs.YtbbaaegfbbjnjaaDoor
