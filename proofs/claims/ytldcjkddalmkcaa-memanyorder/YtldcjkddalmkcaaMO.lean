/-
  The statements' own known example.
-/
import Derived.Test.YtldcjkddalmkcaaML
import Derived.Test.YtldcjkddalmkcaaK
namespace Go.Proofs.Ytldcjkddalmkcaa
open Go.ChangeShapes Go.WideShapes Go.ChangeAt Go.RowKit

theorem cut_nil {pre post : List E} {k : List Nat} (C : CutK [] pre post k) : pre = [] ∧ post = [] := by
  have := C.eq
  exact ⟨(List.append_eq_nil_iff.1 this.symm).1, (List.append_eq_nil_iff.1 this.symm).2⟩
theorem kn1 : pE [] [97] 1 1 [120] = 0 := by decide
theorem kn_ne : keyL [97] 1 1 ≠ keyL [97] 3 0 := by decide
theorem kn2 {n1 : E} (h : n1.key = keyL [97] 1 1) : pE [n1] [97] 3 0 [] = 0 := by
  unfold pE
  rw [if_neg (by decide), if_neg (by decide), if_neg]
  simp [h]
  exact kn_ne
theorem kn_ord : ¬ ordK (keyL [97] 1 1) (keyL [97] 3 0) < 0 := by decide
theorem cut_one {n1 : E} (h : n1.key = keyL [97] 1 1) {pre post : List E} (C : CutK [n1] pre post (keyL [97] 3 0)) : pre = [] ∧ post = [n1] := by
  cases pre with
  | nil => exact ⟨rfl, C.eq.symm⟩
  | cons x r =>
    exfalso
    have e := C.eq
    simp only [List.cons_append, List.cons.injEq] at e
    have := C.lo x (List.mem_cons_self ..)
    rw [← e.1, h] at this
    exact kn_ord this
theorem kn_get {n1 n2 : E} (h1 : n1.key = keyL [97] 1 1) (h2 : n2.key = keyL [97] 3 0) : gF [n2, n1] [97] 2 = some n1 := by
  unfold gF
  rw [List.find?_cons_of_neg (by rw [h2]; decide), List.find?_cons_of_pos (by rw [h1]; decide)]
theorem kn_lv {n1 n2 : E} (h1 : n1.h = 1) (h2 : n2.h = 3) : (lvZ [n2, n1] 1).length = 1 := by
  unfold lvZ lvK
  rw [if_pos (by omega)]
  simp [h1, h2]
theorem str_x : strOf [120] = ⟨#[120]⟩ := by decide
theorem kn_kind : tailN (keyL [97] 1 1) % 256 = 1 := by decide
theorem rd_mark (w : World) (x : Nat) : Rd (w.alloc (.cells #[.int .u8 (x : Int)] 5 (1, 2))) (.slice (some ⟨w.heap.size, 0, none⟩) 1 1) (bv [x]) := by
  refine .inr ⟨_, _, rfl, by simp [bv], fun j u hj => ?_⟩
  rw [Addr.add_lit, Nat.zero_add, World.cell?_alloc_mark, ← Array.getElem?_toList]
  exact hj
theorem kn_h (Y : Nat → Int) (h0 : Y 0 = 1) (h1 : Y 1 = 3) : hts Y 2 = [1, 3] := by
  simp [hts, List.range_succ, h0, h1, clp]
  decide

set_option maxRecDepth 20000 in
set_option maxHeartbeats 1600000 in
theorem known_c (w : World) : Calls Try.prog 7 #[] w fun e w' => e = .returned (.bool true) ∧ Fr [] w w' := by
  have kc := fun (w : World) (C : Array Value) (n c : Nat) => Lib.run_convert_bytes_const (P := Try.prog) w 30 5 C n c Try.underlying30 Try.underlying5
  have kc2 : ∀ (w : World) (o : Obj) (C : Array Value) (n c : Nat), (convert 30 30 (.slice (some ⟨w.heap.size + 1, 0, none⟩) n c)).run Try.prog ((w.alloc o).alloc (.cells C 5)) = .ok (.slice (some ⟨w.heap.size + 1, 0, none⟩) n c) ((w.alloc o).alloc (.cells C 5 (C.size, C.size + 1))) := fun w o C n c => by
    have := kc (w.alloc o) C n c
    rw [World.size_alloc] at this; exact this
  go_enter Try.func7, Try.ntmps7
  go_wp2_with fail
  have I0 : Hid (Ints (w.alloc (.cells #[.int .i64 1, .int .i64 3] 3)) (some ⟨w.heap.size, 0, none⟩) 2 (fun r => if r = 0 then 1 else 3)) := fun _ => ⟨w.heap.size, 0, rfl, fun r hr => by
    rw [blk_cell (blk_new _ _)]
    rcases (show r = 0 ∨ r = 1 from by omega) with rfl | rfl <;> rfl⟩
  refine (new_c _ I0.out (by omega)).mono ?_
  rintro e w1 ⟨rfl, s1⟩
  have T1 := hid s1.tb
  rw [kn_h _ rfl rfl] at T1
  have F1 : Hid (Fr [] w w1) := ((Fr.refl [] w).alloc _).trans s1.fr
  have ht : (w.alloc (.cells #[.int .i64 1, .int .i64 3] 3)).heap.size = w.heap.size + 1 := by simp
  rw [ht] at T1 ⊢
  clear s1 ht
  go_wp2_with fail
  have fa : Fr [] w1 ((w1.alloc (.cells #[.int .u8 97] 5 (1, 2))).alloc (.cells #[.int .u8 120] 5 (1, 2))) := ((Fr.refl _ _).alloc _).alloc _
  have ra : Rd ((w1.alloc (.cells #[.int .u8 97] 5 (1, 2))).alloc (.cells #[.int .u8 120] 5 (1, 2))) (.slice (some ⟨w1.heap.size, 0, none⟩) 1 1) (bv [97]) := (rd_mark w1 97).fr ((Fr.refl _ _).alloc _)
  have rx : Rd ((w1.alloc (.cells #[.int .u8 97] 5 (1, 2))).alloc (.cells #[.int .u8 120] 5 (1, 2))) (.slice (some ⟨w1.heap.size + 1, 0, none⟩) 1 1) (bv [120]) := by
    have := rd_mark (w1.alloc (.cells #[.int .u8 97] 5 (1, 2))) 120
    rw [World.size_alloc] at this; exact this
  have T2 := hid (T1.out.fr fa)
  have F2 := hid (F1.out.trans fa)
  refine (put_c _ T2.out (by simp) (by simp) ra (by unfold By; decide) 1 1 rx (by unfold By; decide)).mono ?_
  rintro e w2 ⟨rfl, f3, es1, T3, R1⟩
  rw [kn1]
  obtain ⟨n1, hes1, hk1, hv1, hh1⟩ : ∃ n1 : E, es1 = [n1] ∧ n1.key = keyL [97] 1 1 ∧ n1.val = [120] ∧ n1.h = 1 := by
    rcases R1 with ⟨h, _⟩ | ⟨_, pre, post, n, C, _, he, h1, h2, h3, _⟩
    · exact absurd kn1 h
    · obtain ⟨rfl, rfl⟩ := cut_nil C
      exact ⟨n, he, h1, h2, h3⟩
  subst hes1
  have T3' := hid T3
  have F3 := hid (T2.out.shed (Nat.le_succ _) F2.out f3)
  have H1 := hid (And.intro hk1 (And.intro hv1 hh1))
  clear ra rx fa T1 T2 F1 F2 T3 R1 f3 hk1 hv1 hh1
  go_wp2_with fail
  have fa : Fr [] w2 (w2.alloc (.cells #[.int .u8 97] 5 (1, 2))) := (Fr.refl _ _).alloc _
  refine (put_c _ (T3'.out.fr fa) (by simp) (by simp) (rd_mark w2 97) (by unfold By; decide) 3 0 (v := []) (.inl ⟨rfl, rfl⟩) (by unfold By; decide)).mono ?_
  rintro e w3 ⟨rfl, f3, es2, T4, R2⟩
  rw [kn2 H1.out.1]
  obtain ⟨n2, hes2, hk2, hh2⟩ : ∃ n2 : E, es2 = [n2, n1] ∧ n2.key = keyL [97] 3 0 ∧ n2.h = 3 := by
    rcases R2 with ⟨h, _⟩ | ⟨_, pre, post, n, C, _, he, h1, h2, h3, _⟩
    · exact absurd (kn2 H1.out.1) h
    · obtain ⟨rfl, rfl⟩ := cut_one H1.out.1 C
      exact ⟨n, he, h1, h3⟩
  subst hes2
  have T4' := hid T4
  have F4 := hid ((T3'.out.fr fa).shed (Nat.le_succ _) (F3.out.trans fa) f3)
  have HG := hid (kn_get H1.out.1 hk2)
  have HL := hid (kn_lv H1.out.2.2 hh2)
  clear T4 R2 f3 fa T3' F3 hk2 hh2
  go_wp2_with fail
  have fa : Fr [] w3 (w3.alloc (.cells #[.int .u8 97] 5 (1, 2))) := (Fr.refl _ _).alloc _
  refine (get_c _ (T4'.out.fr fa) (rd_mark w3 97) (by unfold By; decide) 2).mono ?_
  rintro e w4 ⟨hg, f4⟩
  rw [HG.out] at hg
  obtain ⟨v, rfl, o4⟩ := hg
  rw [H1.out.1, kn_kind]
  rw [H1.out.2.1] at o4
  replace o4 : w4.ownsRow _ 5 1 v 1 (bv [120]) := o4
  obtain ⟨a4, c4, rfl, _⟩ := ownsRow_slice o4
  have hcv := run_conv (Rd.ownB (ns := [120]) o4)
  rw [str_x] at hcv
  have T5 := hid ((T4'.out.fr fa).fr f4)
  have F5 := hid ((F4.out.trans fa).trans f4)
  clear o4 f4 fa T4' F4
  go_wp2_with fail
  refine (level_c w4 T5.out (by simp) 1).mono ?_
  rintro e w5 ⟨v5, rfl, o5, f5⟩
  obtain ⟨cs, o6, _⟩ := o5
  rw [HL.out] at o6
  obtain ⟨a5, c5, rfl, _⟩ := ownsRow_slice o6
  have F6 := hid (F5.out.trans f5)
  clear o6 f5
  go_wp2
  go_ret
  exact ⟨rfl, F6.out⟩
end Go.Proofs.Ytldcjkddalmkcaa
