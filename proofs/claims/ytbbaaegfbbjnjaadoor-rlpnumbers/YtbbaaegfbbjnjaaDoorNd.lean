/-
  Words: arrays of 32 bytes by value; their bytes, the program's and the document's.
-/
import Derived.Test.YtbbaaegfbbjnjaaDoorJ27
import Derived.Test.YtbbaaegfbbjnjaaDoorFi3
import Derived.Test.YtbbaaegfbbjnjaaDoorJ25
import Derived.Test.YtbbaaegfbbjnjaaDoorHa
import Derived.Test.YtbbaaegfbbjnjaaDoorJ08
namespace Go.Proofs.YtbbaaegfbbjnjaaDoor
open Go.ChangeShapes Go.WideShapes Go.ChangeAt Go.RowKit

theorem infoW : (Tryd.prog.info? 24).map (·.size) = some 32 := by kernel_rfl
theorem bv_size {l : List Nat} (h : l.length = 32) : (bv l).toArray.size = 32 := by rw [List.size_toArray, bv_len, h]
theorem bv_ones (l : List Nat) : (bv l).toArray.all (·.oneCell') = true := by
  rw [Array.all_eq_true_iff_forall_mem]
  intro v hv
  exact bv_one v (by simpa using hv)
theorem ldW {w : World} {b : Nat} {l : List Nat} {t : TypeId} (hl : l.length = 32) (h : w.heap[b]? = some (.cells (bv l).toArray t (0, 0))) : (loadVar 24 ⟨b, 0, none⟩).run Tryd.prog w = .ok (.agg (bv l).toArray) w :=
  run_loadVar_row w b t _ _ (0, 0) _ h Tryd.underlying24 rfl (by rw [bv_size hl]; exact infoW)
theorem stW {w : World} {b : Nat} {l m : List Nat} {t : TypeId} (hl : l.length = 32) (hm : m.length = 32) (h : w.heap[b]? = some (.cells (bv l).toArray t (0, 0))) : (storeVar 24 ⟨b, 0, none⟩ (.agg (bv m).toArray)).run Tryd.prog w = .ok () (w.setRow b (bv m).toArray) :=
  run_storeVar_row w b _ _ _ _ h (by rw [bv_size hm]; exact infoW) (by rw [bv_size hl, bv_size hm]) (bv_ones m)
theorem wpList_ldW {ops : Array Oper} {rest : List Oper} {op : Oper} {a : Act} {w : World} {Q : Exit → Act → World → Prop} (hgd : op.guard = none) (x : Operand) (ho : op.op = .load 24 x)
    {b : Nat} {l : List Nat} {t : TypeId} (hl : l.length = 32) (hb : w.heap[b]? = some (.cells (bv l).toArray t (0, 0))) (hx : a.eval x = .pointer (some ⟨b, 0, none⟩)) (h : wpList Tryd.prog ops Q rest (a.put op.dst (.agg (bv l).toArray)) w) : wpList Tryd.prog ops Q (op :: rest) a w :=
  wpList_plain hgd fun K hK => by
    unfold Oper.wp execOp
    simp only [ho, hx, Instr.loadAt, Instr.sureAddr, Sem.run_bind, Sem.run_pure, Result.andThen_ok, ldW hl hb]
    exact hK _ _ h
theorem wpList_stW {ops : Array Oper} {rest : List Oper} {op : Oper} {a : Act} {w : World} {Q : Exit → Act → World → Prop} (hgd : op.guard = none) (x y : Operand) (ho : op.op = .store 24 x y)
    {b : Nat} {l m : List Nat} {t : TypeId} (hl : l.length = 32) (hm : m.length = 32) (hb : w.heap[b]? = some (.cells (bv l).toArray t (0, 0))) (hx : a.eval x = .pointer (some ⟨b, 0, none⟩)) (hy : a.eval y = .agg (bv m).toArray) (h : wpList Tryd.prog ops Q rest (a.put op.dst undef) (w.setRow b (bv m).toArray)) : wpList Tryd.prog ops Q (op :: rest) a w :=
  wpList_plain hgd fun K hK => by
    unfold Oper.wp execOp
    simp only [ho, hx, hy, Instr.storeAt, Instr.sureAddr, Sem.run_bind, Sem.run_pure, Result.andThen_ok, stW (m := m) hl hm hb]
    exact hK _ _ h
theorem row_heapW {w : World} {b : Nat} {cs : Array Value} {m : List Nat} {t : TypeId} (h : w.heap[b]? = some (.cells cs t (0, 0))) : (w.setRow b (bv m).toArray).heap[b]? = some (.cells (bv m).toArray t (0, 0)) := setRow_heap w b _ _ t _ h
theorem row_neW (w : World) {b k : Nat} (c : Array Value) (h : k ≠ b) : (w.setRow b c).heap[k]? = w.heap[k]? := by
  simp only [World.setRow, Array.getElem?_modify]
  rw [if_neg (fun e => h e.symm)]
theorem Fr.rowW {S : List Nat} {a b : World} (h : Fr S a b) {p : Nat} (c : Array Value) (hp : p ∈ S ∨ a.heap.size ≤ p) : Fr S a (b.setRow p c) :=
  ⟨h.os, h.tape, h.output, by simpa [World.setRow] using h.size, fun k hk hn => by
    rw [row_neW _ _ (by rcases hp with hp | hp <;> intro e <;> subst e; exact hn hp; omega)]; exact h.block k hk hn⟩
theorem Rd.blk {w : World} {b : Nat} {l : List Nat} {t : TypeId} (h : w.heap[b]? = some (.cells (bv l).toArray t (0, 0))) {c : Nat} (hc : l.length ≤ c) : Rd w (.slice (some ⟨b, 0, none⟩) l.length c) (bv l) :=
  .inr ⟨_, _, by rw [bv_len], by rw [bv_len]; exact hc, fun j u hj => by
    rw [Addr.add_lit, Nat.zero_add, blk_cell h, ← Array.getElem?_toList]; exact hj⟩

set_option maxRecDepth 20000 in
set_option maxHeartbeats 1600000 in
theorem trimLB_c (w : World) {v : Value} {b : List Nat} (hr : Rd w v (bv b)) (hb : By b) (hl : b.length ≤ 1000) :
    Calls Tryd.prog 29 #[v, .int .u8 0] w fun e w' => (∃ a c, e = .returned (.slice a (dropZ b).length c) ∧ Rd w (.slice a (dropZ b).length c) (bv (dropZ b))) ∧ w' = w := by
  obtain ⟨ao, cc, hv⟩ := hr.form
  rw [bv_len] at hv
  subst hv
  obtain ⟨D, hD⟩ : ∃ D, D = dropZ b := ⟨_, rfl⟩
  rw [← hD]
  have HD := hid hD
  have HR := hid hr
  have HB := hid hb
  obtain ⟨L, hL⟩ : ∃ L, L = b.length := ⟨_, rfl⟩
  rw [← hL] at hl HR ⊢
  have HL := hid hL
  clear hr hb hD hL
  go_enter Tryd.func29, Tryd.ntmps29
  go_wp2_with fail
  go_loopw [0] (fun v0 wr => w = wr ∧ ∃ (l : List Nat) (a : Option Addr) (c : Nat), v0 = .slice a l.length c ∧ l.length ≤ 1000 ∧ l.length ≤ c ∧ Rd w (.slice a l.length c) (bv l) ∧ By l ∧ D = dropZ l) (fun v0 _ => match v0 with | .slice _ n _ => n | _ => 0)
  case atStart =>
    refine ⟨rfl, b, ao, cc, by rw [← HL.out], by rw [← HL.out]; exact hl, ?_, by rw [← HL.out]; exact HR.out, HB.out, HD.out⟩
    rcases HR.out with ⟨h, h0⟩ | ⟨_, _, h, h4, _⟩
    · simp only [Value.slice.injEq] at h; rw [← HL.out]; omega
    · simp only [Value.slice.injEq] at h; rw [bv_len] at h4; omega
  case round =>
    obtain ⟨rfl, l, a, c, rfl, hl1, hlc, hR, hB, hDl⟩ := hrel
    have HR := hid hR
    have HB := hid hB
    have HDL := hid hDl
    rcases l with _ | ⟨x, r⟩
    · have hD0 : Hid (D = []) := hid (by rw [HDL.out]; rfl)
      simp only [List.length_nil] at HR ⊢
      clear hR hB hDl
      go_wp2
      go_ret
      rw [hD0.out]
      exact ⟨⟨none, 0, rfl, .inl ⟨rfl, rfl⟩⟩, rfl⟩
    · rcases hR.split with ⟨e0, _⟩ | ⟨q, o, c', e0, _, _, hc⟩
      · cases e0
      simp only [Value.slice.injEq] at e0
      obtain ⟨rfl, e1, rfl⟩ := e0
      have hcx := hc 0 x rfl
      simp at hcx
      have hxb : x < 256 := HB.out x (by simp)
      obtain ⟨n, hn⟩ : ∃ n, n = r.length := ⟨_, rfl⟩
      have hlen : (x :: r).length = n + 1 := by rw [hn]; rfl
      rw [hlen] at HR hl1 hlc ⊢
      have HN := hid hn
      have HLEN := hid hlen
      clear hc e1 hR hB hDl hn hlen
      have hn0 : (0 : Int) < ((n + 1 : Nat) : Int) := by omega
      by_cases hx0 : x = 0
      · subst hx0
        have hDr : Hid (D = dropZ r) := hid (by rw [HDL.out]; rfl)
        have hBr : Hid (By r) := hid (fun y hy => HB.out y (by simp [hy]))
        by_cases h1 : c = 1
        · have hn00 : n = 0 := by omega
          have hr0 : r = [] := List.eq_nil_of_length_eq_zero (by rw [← HN.out]; exact hn00)
          subst hr0
          subst hn00
          subst h1
          go_wp2
          go_roundw
          case rel => exact ⟨by first | rfl | trivial, [], some ⟨q, o, none⟩, 0, rfl, by simp, by simp, .inr ⟨_, _, rfl, Nat.zero_le _, fun j u hj => by simp [bv] at hj⟩, hBr.out, hDr.out⟩
          case measure => simp
        · have hRb : Hid (Rd w (.slice (some ⟨q, o + 1, none⟩) n (c - 1)) (bv r)) := hid (by
            have h' := HR.out
            rw [← HLEN.out] at h'
            have := h'.mid (i := 1) (n := n) (by rw [HLEN.out]; omega)
            rw [show ((0 :: r).drop 1).take n = r from by rw [HN.out]; simp] at this
            exact this)
          go_wp2
          go_roundw
          case rel => exact ⟨by first | rfl | trivial, r, some ⟨q, o + 1, none⟩, c - 1, by rw [← HN.out], by rw [← HN.out]; omega, by rw [← HN.out]; omega, by rw [← HN.out]; exact hRb.out, hBr.out, hDr.out⟩
          case measure => simp
      · have hx0' : ((x : Int) == 0) = false := beq_eq_false_iff_ne.2 (by omega)
        have hnz : (((n + 1 : Nat) : Int) == 0) = false := beq_eq_false_iff_ne.2 (by omega)
        have hD0 : Hid (D = x :: r) := hid (by rw [HDL.out]; unfold dropZ; rw [if_neg hx0])
        go_wp2
        go_ret
        rw [hD0.out, HLEN.out]
        exact ⟨⟨_, c, rfl, HR.out⟩, rfl⟩

set_option maxRecDepth 20000 in
set_option maxHeartbeats 1600000 in
theorem trimLeft_c (w : World) {v : Value} {b : List Nat} (hr : Rd w v (bv b)) (hb : By b) (hl : b.length = 32) :
    Calls Tryd.prog 18 #[v, .string ⟨#[0]⟩] w fun e w' => (∃ a c, e = .returned (.slice a (dropZ b).length c) ∧ Rd w (.slice a (dropZ b).length c) (bv (dropZ b))) ∧ w' = w := by
  have TC := hid (trimLB_c w hr hb (by omega))
  obtain ⟨ao, cc, hv⟩ := hr.form
  rw [bv_len, hl] at hv
  subst hv
  clear hr hb
  go_enter Tryd.func18, Tryd.ntmps18
  go_wp2_with fail
  refine TC.out.mono ?_
  rintro r w1 ⟨⟨a1, c1, rfl, r1⟩, hw1⟩
  have hw1' := hw1.symm
  clear hw1
  subst hw1'
  have R1 := hid r1
  clear r1
  go_wp2
  go_ret
  exact ⟨⟨a1, c1, rfl, R1.out⟩, rfl⟩

theorem slice32 (w : World) (p : Nat) : (Instr.sliceAt 24 (.pointer (some ⟨p, 0, none⟩)) none none none).run Tryd.prog w = .ok (.slice (some ⟨p, 0, none⟩) 32 32) w := by
  have h1 : Tryd.prog.arrayLen 24 = 32 := by kernel_rfl
  have h3 : (sizeOf (Tryd.prog.elem 24)).run Tryd.prog w = .ok 1 w := by kernel_rfl
  have := run_sliceAt_array_all (P := Tryd.prog) w 24 ⟨p, 0, none⟩ (by kernel_rfl)
  rw [this, h3, h1]
  simp [Result.andThen, slicedAt]
  rfl
theorem slice32l (w : World) (p l : Nat) (hl : l ≤ 32) : (Instr.sliceAt 24 (.pointer (some ⟨p, 0, none⟩)) (some (.int .i64 (l : Int))) none none).run Tryd.prog w = .ok (.slice (some ⟨p, if l = 32 then 0 else l, none⟩) (32 - l) (32 - l)) w := by
  have h1 : Tryd.prog.arrayLen 24 = 32 := by kernel_rfl
  have h3 : (sizeOf (Tryd.prog.elem 24)).run Tryd.prog w = .ok 1 w := by kernel_rfl
  have := run_sliceAt_array_l (P := Tryd.prog) w 24 ⟨p, 0, none⟩ (by kernel_rfl) .i64 (l : Int) (by omega) (by rw [h1]; omega)
  rw [this, h3, h1]
  simp only [Result.andThen_ok, slicedAt, Int.toNat_natCast, Nat.mul_one]
  by_cases h : l = 32
  · subst h; rfl
  · rw [if_neg (by omega), if_neg h, Addr.add_lit, Nat.zero_add]

set_option maxRecDepth 20000 in
set_option maxHeartbeats 1600000 in
theorem word_c (w : World) {l : List Nat} (hl : l.length = 32) (hb : By l) :
    Calls Tryd.prog 6 #[.agg (bv l).toArray] w fun e w' => ∃ v', e = .returned v' ∧ w'.ownsRow w.heap.size 5 1 v' (strL (dropZ l)).length (bv (strL (dropZ l))) ∧ Fr [] w w' := by
  obtain ⟨W, hW⟩ : ∃ W, W = w.alloc (.cells (bv l).toArray 24) := ⟨_, rfl⟩
  have F : Hid (Fr [] w W) := hid (by rw [hW]; exact (Fr.refl _ w).alloc _)
  have X : Hid (W.heap[w.heap.size]? = some (.cells (bv l).toArray 24 (0, 0))) := hid (by rw [hW]; exact blk_new _ _)
  have hsl := slice32 W w.heap.size
  have TC := hid (trimLeft_c W (by have := Rd.blk X.out (c := 32) (by omega); rw [hl] at this; exact this) hb hl)
  have hdl := dropZ_len l
  have HDB := hid (dropZ_by hb)
  obtain ⟨D, hD⟩ : ∃ D, D = dropZ l := ⟨_, rfl⟩
  rw [← hD] at TC HDB hdl ⊢
  clear hD hb
  go_enter Tryd.func6, Tryd.ntmps6
  go_upto_region 1 with fail
  rw [← hW]
  clear hW
  go_wp2_with fail
  refine TC.out.mono ?_
  rintro e w1 ⟨⟨a1, c1, rfl, r1⟩, hw1⟩
  have hw1' := hw1.symm
  clear hw1
  subst hw1'
  have hlen := strL_len D
  have WC := hid (write_c (base := W.heap.size) 1 W (mkT (n := 0) false D []) 1 W (.agg #[.bool false, .slice a1 D.length c1, .slice none 0 0]) (.slice none 0 0) [] (by unfold bad; rw [if_neg (by omega), if_neg (by simp [tL_mk, tK_mk])]; rfl) (Nat.le_refl _) ⟨_, none, 0, rfl, r1, HDB.out, by rw [tB_mk]; omega, Nat.le_refl _, Nat.zero_le _, fun h => by cases h⟩ (Fr.refl _ _) (Nat.le_refl _) (World.ownsRow_nil _ _ _ _) (by show 0 + (strL D).length ≤ 1000000; omega))
  clear r1
  obtain ⟨L, hL⟩ : ∃ L, L = D.length := ⟨_, rfl⟩
  rw [← hL] at WC ⊢
  clear hL
  go_wp2_with fail
  refine WC.out.mono ?_
  rintro e w2 ⟨v2, rfl, o2, f2, _⟩
  have O2 : Hid (w2.ownsRow w.heap.size 5 1 v2 (strL D).length (bv (strL D))) := hid (ownsRow_base o2 F.out.size)
  have F2 := hid (F.out.trans f2)
  clear o2 f2
  go_wp2
  go_ret
  exact ⟨v2, rfl, O2.out, F2.out⟩
end Go.Proofs.YtbbaaegfbbjnjaaDoor
