/-
  What the reference's Take answers.
-/
import Derived.Test.YtegbngbhmgbocaaGreatDoorJ03
import Derived.Test.YtegbngbhmgbocaaGreatDoorJ18
import Derived.Test.YtegbngbhmgbocaaGreatDoorJ04
import Derived.Test.YtegbngbhmgbocaaGreatDoorJ11
import Derived.Deep.Light
import Derived.Deep.RegionHeld
namespace Go.Proofs.YtegbngbhmgbocaaGreatDoor
open Go.ChangeShapes Go.WideShapes Go.ChangeAt Go.RowKit

theorem ref_val {k m x : Nat} (hk : k ≤ 9) (hm : m < 2 ^ (7 * k)) (h9 : k = 9 → x ≤ 1) :
    IntKind.u64.wrap ((m : Int) + IntKind.u64.wrap ((x : Int) % 128 * 2 ^ (7 * k))) = ((m + x % 128 * 2 ^ (7 * k) : Nat) : Int) := by
  have hlt := shl_lt hk hm h9
  have e : (x : Int) % 128 * 2 ^ (7 * k) = ((x % 128 * 2 ^ (7 * k) : Nat) : Int) := by simp
  rw [e, wrap64_nat (by omega), ← Int.natCast_add, wrap64_nat hlt]
theorem ref_ret {k m x : Nat} (hk : k ≤ 9) (hm : m < 2 ^ (7 * k)) (h9 : k = 9 → x ≤ 1) :
    Ending.returned (.tuple #[.int .u64 (IntKind.u64.wrap ((m : Int) + IntKind.u64.wrap ((x : Int) % 128 * 2 ^ (7 * k)))), .int .i64 ((k : Int) + 1), .int .i64 0]) = .returned (tkv (m + x % 128 * 2 ^ (7 * k), k + 1, 0)) := by
  rw [ref_val hk hm h9]; rfl
theorem ref_ret9 {k m x : Nat} (hk : k = 9) (hm : m < 2 ^ (7 * k)) (h9 : x ≤ 1) :
    Ending.returned (.tuple #[.int .u64 (IntKind.u64.wrap ((m : Int) + (x : Int) % 128 * 9223372036854775808)), .int .i64 10, .int .i64 0]) = .returned (tkv (m + x % 128 * 2 ^ (7 * k), k + 1, 0)) := by
  subst hk
  have hlt := shl_lt (k := 9) (by omega) hm fun _ => h9
  have e : (m : Int) + (x : Int) % 128 * 9223372036854775808 = ((m + x % 128 * 2 ^ (7 * 9) : Nat) : Int) := by simp
  rw [e, wrap64_nat hlt]; rfl

set_option maxRecDepth 20000 in
set_option maxHeartbeats 800000 in
theorem reftake_c {w : World} {v : Value} {ns : List Nat} (hr : Rd w v (bv ns)) (hb : By ns) (hl : ns.length ≤ 140737488355328) (t : Nat) (ht : t ≤ 140737488355328) :
    Calls Tryz.prog 69 #[v, .int .i64 (t : Int)] w fun e w' => e = .returned (tkv (takeL (ns.drop t))) ∧ w' = w := by
  rcases hr.split with ⟨rfl, a, c, rfl⟩ | ⟨b, off, c, rfl, h1, h2, hc⟩
  · clear hr
    go_enter Tryz.func69, Tryz.ntmps69
    go_wp2
    refine wp_loop_rounds 1 ?_
    rw [rounds_succ]
    go_wp2
    go_ret3
    rw [List.drop_nil]
    exact ⟨rfl, rfl⟩
  · clear hr
    have HC := hid hc
    have HB := hid hb
    clear hc hb
    go_enter Tryz.func69, Tryz.ntmps69
    go_wp2
    go_loop [7, 8] (fun v7 v8 => ∃ (k m : Nat), k ≤ 9 ∧ v8 = .int .i64 (k : Int) ∧ v7 = .int .u64 (m : Int) ∧ m < 2 ^ (7 * k) ∧ tk k m (ns.drop (t + k)) = takeL (ns.drop t)) (fun _ v8 => 10 - (intOf v8).toNat)
    case atStart => exact ⟨0, 0, by omega, rfl, rfl, by simp, rfl⟩
    case round =>
      obtain ⟨k, m, hk, rfl, rfl, hm, htk⟩ := hrel
      have HT := hid htk
      have HM := hid hm
      clear htk hm
      by_cases hlt : t + k < ns.length
      · obtain ⟨x, hx, hd⟩ := drop_at hlt
        have hcell := HC.out (t + k) x hx
        have hx256 : x < 256 := HB.out.at hx
        have HD := hid hd
        have en : ((t : Int) + (k : Int)).toNat = t + k := by omega
        clear hd hx
        rcases (show (9 ≤ k ∧ 1 < x) ∨ (9 ≤ k ∧ x < 1) ∨ (9 ≤ k ∧ 1 ≤ x ∧ x ≤ 1) ∨ (0 < k ∧ k < 9 ∧ x < 1) ∨ (0 < k ∧ k < 9 ∧ 0 < x ∧ x < 128) ∨ (0 < k ∧ k < 9 ∧ 128 ≤ x) ∨ (k < 1 ∧ x < 128) ∨ (k < 1 ∧ 128 ≤ x) from by omega) with ⟨q1, q2⟩ | ⟨q1, q2⟩ | ⟨q1, q2, q3⟩ | ⟨q1, q2, q3⟩ | ⟨q1, q2, q3, q4⟩ | ⟨q1, q2, q3⟩ | ⟨q1, q2⟩ | ⟨q1, q2⟩
        · have e0 : ((x : Int) == 0) = false := by simp; omega
          go_wp2
          go_ret3
          refine ⟨?_, rfl⟩
          rw [← HT.out, HD.out, tk_bad (by omega)]; rfl
        · have e0 : ((x : Int) == 0) = true := by simp; omega
          go_wp2
          go_ret3
          refine ⟨?_, rfl⟩
          rw [← HT.out, HD.out, tk_bad (by omega)]; rfl
        · have e0 : ((x : Int) == 0) = false := by simp; omega
          go_wp2
          go_ret3
          refine ⟨?_, rfl⟩
          rw [← HT.out, HD.out, tk_end (by omega) (by omega)]
          exact ref_ret9 (by omega) HM.out (by omega)
        · have e0 : ((x : Int) == 0) = true := by simp; omega
          go_wp2
          go_ret3
          refine ⟨?_, rfl⟩
          rw [← HT.out, HD.out, tk_bad (by omega)]; rfl
        · have e0 : ((x : Int) == 0) = false := by simp; omega
          go_wp2
          go_ret3
          refine ⟨?_, rfl⟩
          rw [← HT.out, HD.out, tk_end (by omega) (by omega)]
          exact ref_ret hk HM.out (by omega)
        · have e0 : ((x : Int) == 0) = false := by simp; omega
          go_wp2
          have hn : m + x % 128 * 2 ^ (7 * k) < 2 ^ (7 * (k + 1)) := by
            have e2 : 2 ^ (7 * (k + 1)) = 128 * 2 ^ (7 * k) := by rw [show (128 : Nat) = 2 ^ 7 from rfl, ← Nat.pow_add]; congr 1; omega
            have h2 : x % 128 * 2 ^ (7 * k) ≤ 127 * 2 ^ (7 * k) := Nat.mul_le_mul_right _ (by omega)
            have := HM.out
            omega
          have hv := ref_val hk HM.out (x := x) (by omega)
          go_round
          case rel => exact ⟨k + 1, m + x % 128 * 2 ^ (7 * k), by omega, by go_num, by rw [hv], hn, by rw [← HT.out, HD.out, tk_on (by omega) (by omega), Nat.add_assoc]⟩
          case measure => simp [intOf]; omega
        · go_wp2
          go_ret3
          refine ⟨?_, rfl⟩
          rw [← HT.out, HD.out, tk_end (by omega) (by omega)]
          exact ref_ret hk HM.out (by omega)
        · go_wp2
          have hn : m + x % 128 * 2 ^ (7 * k) < 2 ^ (7 * (k + 1)) := by
            have e2 : 2 ^ (7 * (k + 1)) = 128 * 2 ^ (7 * k) := by rw [show (128 : Nat) = 2 ^ 7 from rfl, ← Nat.pow_add]; congr 1; omega
            have h2 : x % 128 * 2 ^ (7 * k) ≤ 127 * 2 ^ (7 * k) := Nat.mul_le_mul_right _ (by omega)
            have := HM.out
            omega
          have hv := ref_val hk HM.out (x := x) (by omega)
          go_round
          case rel => exact ⟨k + 1, m + x % 128 * 2 ^ (7 * k), by omega, by go_num, by rw [hv], hn, by rw [← HT.out, HD.out, tk_on (by omega) (by omega), Nat.add_assoc]⟩
          case measure => simp [intOf]; omega
      · go_wp2
        go_ret3
        refine ⟨?_, rfl⟩
        rw [← HT.out, List.drop_eq_nil_of_le (by omega), tk_nil]; rfl
end Go.Proofs.YtegbngbhmgbocaaGreatDoor
namespace Go.Proofs.YtegbngbhmgbocaaGreatDoor
open Go.ChangeShapes Go.WideShapes Go.ChangeAt Go.RowKit

/-- A reader at p of bytes that lay there when the call began (ws): what is left, or a fault. -/
def RkM (ws w : World) (p : Nat) (v : Value) (all : List Nat) (s : Option (List Nat)) : Prop := (match s with
  | some l => ∃ a : Nat, w.heap[p]? = some (.cells #[v, .int .i64 (a : Int), .bool false] 89 (0, 0)) ∧ l = all.drop a ∧ a ≤ all.length
  | none => ∃ a : Nat, w.heap[p]? = some (.cells #[v, .int .i64 (a : Int), .bool true] 89 (0, 0)) ∧ a ≤ all.length) ∧ (Rd ws v (bv all) ∧ By all ∧ all.length ≤ 5000) ∧ Fr [] ws w ∧ ws.heap.size ≤ p
theorem RkM.keep {ws w w' : World} {p : Nat} {v : Value} {all : List Nat} {s : Option (List Nat)} (h : RkM ws w p v all s) (ht : w'.heap[p]? = w.heap[p]?) (f : Fr [] ws w') : RkM ws w' p v all s := by
  obtain ⟨h1, h2, _, h3⟩ := h
  refine ⟨?_, h2, f, h3⟩
  rcases s with _ | l
  · obtain ⟨a, x, y⟩ := h1; exact ⟨a, ht.trans x, y⟩
  · obtain ⟨a, x, y⟩ := h1; exact ⟨a, ht.trans x, y⟩
theorem RkM.lt {ws w : World} {p : Nat} {v : Value} {all : List Nat} {s : Option (List Nat)} (h : RkM ws w p v all s) : p < w.heap.size := by
  obtain ⟨h1, _⟩ := h
  rcases s with _ | l
  · obtain ⟨a, x, _⟩ := h1; exact blk_lt x
  · obtain ⟨a, x, _⟩ := h1; exact blk_lt x
theorem RkM.fr {ws w w' : World} {p : Nat} {v : Value} {all : List Nat} {s : Option (List Nat)} (h : RkM ws w p v all s) (f : Fr [] w w') : RkM ws w' p v all s :=
  h.keep (f.block p h.lt (by simp)) (h.2.2.1.trans f)
theorem RkM.by {ws w : World} {p : Nat} {v : Value} {all : List Nat} {s : Option (List Nat)} (h : RkM ws w p v all s) : ∀ l, s = some l → By l := fun l e => by
  subst e
  obtain ⟨⟨a, _, rfl, _⟩, ⟨_, hb, _⟩, _⟩ := h
  exact hb.drop a
theorem RkM.len {ws w : World} {p : Nat} {v : Value} {all : List Nat} {s : Option (List Nat)} (h : RkM ws w p v all s) : ∀ l, s = some l → l.length ≤ 5000 := fun l e => by
  subst e
  obtain ⟨⟨a, _, rfl, _⟩, ⟨_, _, hl⟩, _⟩ := h
  rw [List.length_drop]; omega
theorem tk_err0 : ∀ (l : List Nat) (i v : Nat), (tk i v l).2.2 ≠ 0 → (tk i v l).1 = 0 ∧ (tk i v l).2.1 = 0
  | [], _, _, _ => ⟨rfl, rfl⟩
  | x :: r, i, v, h => by
    unfold tk at h ⊢
    split
    · exact ⟨rfl, rfl⟩
    · rename_i h1
      rw [if_neg h1] at h
      split
      · rename_i h2; rw [if_pos h2] at h; exact absurd rfl h
      · rename_i h2; rw [if_neg h2] at h; exact tk_err0 r _ _ h

set_option maxRecDepth 20000 in
set_option maxHeartbeats 1600000 in
theorem rtake_c {ws w : World} {p : Nat} {v : Value} {all : List Nat} {s : Option (List Nat)} (h : RkM ws w p v all s) :
    Calls Tryz.prog 36 #[.pointer (some ⟨p, 0, none⟩)] w fun r w' => r = .returned (.int .u64 ((tkS s).1 : Int)) ∧ RkM ws w' p v all (tkS s).2 ∧ Fr [p] w w' := by
  have HT := hid h
  obtain ⟨h1, ⟨hr, hb, hl⟩, h2, h3⟩ := h
  have H2 := hid h2
  have H3 := hid h3
  have HR := hid hr
  have HB := hid hb
  rcases s with _ | l
  · obtain ⟨a, x, y⟩ := h1
    have c2 := blk_cell x 2
    simp at c2
    clear x h2 h3 hr hb
    go_enter Tryz.func36, Tryz.ntmps36
    go_wp2
    go_ret
    exact ⟨rfl, HT.out, Fr.refl _ _⟩
  · obtain ⟨a, x, rfl, hal⟩ := h1
    have X := hid x
    obtain ⟨n, k, e, ht⟩ : ∃ n k e, takeL (all.drop a) = (n, k, e) := ⟨_, _, _, rfl⟩
    have ht' : tk 0 0 (all.drop a) = (n, k, e) := ht
    have hbd := tk_bound (all.drop a) (hb.drop a) 0 0 (by omega) (by simp)
    rw [ht', List.length_drop] at hbd
    obtain ⟨b1, b2, b3⟩ := hbd
    dsimp only at b1 b2 b3
    have he0 := tk_err0 (all.drop a) 0 0
    have he1 := tk_err (all.drop a) 0 0
    rw [ht'] at he0 he1
    dsimp only at he0 he1
    have TC : Hid (∀ m, Calls Tryz.prog 69 #[v, .int .i64 (a : Int)] (w.drewN m) fun r w' => r = .returned (.tuple #[.int .u64 (n : Int), .int .i64 (k : Int), .int .i64 (e : Int)]) ∧ w' = w.drewN m) := hid (fun m => by
      have := reftake_c ((hr.fr h2).fr ((Fr.refl [] w).drewN m)) hb (by omega) a (by omega)
      rw [ht] at this
      exact this)
    have FQ : Hid (∀ m, (w.drewN m).heap[p]? = some (.cells #[v, .int .i64 (a : Int), .bool false] 89 (0, 0))) := hid fun m => by rw [blk_drewN]; exact X.out
    have c0 := blk_cell x 0
    have c1 := blk_cell x 1
    have c2 := blk_cell x 2
    simp at c0 c1 c2
    have hts : Hid ((e = 0 → tkS (some (all.drop a)) = (n, some ((all.drop a).drop k))) ∧ (e ≠ 0 → tkS (some (all.drop a)) = (0, none) ∧ n = 0 ∧ k = 0)) := hid ⟨fun h => by rw [tkS_ok (by rw [ht]; exact h), ht], fun h => ⟨tkS_no (by rw [ht]; exact h), he0 h⟩⟩
    clear x h2 h3 hr hb ht ht' he0
    go_enter Tryz.func36, Tryz.ntmps36
    go_upto_region 3 with fail
    go_quiet ((go_at_call 69; exact Calls.quiet_of_same (TC.out _)))
    have y1 : (w.drewN nq).cell? ⟨p, 1, none⟩ = some (.int .i64 (a : Int)) := by rw [blk_cell (FQ.out nq)]; rfl
    have y2 : (w.drewN nq).cell? ⟨p, 2, none⟩ = some (.bool false) := by rw [blk_cell (FQ.out nq)]; rfl
    have yf := blk_frozen (FQ.out nq) 2
    have FW := hid (((Fr.refl [p] w).drewN nq))
    have FR := hid (H2.out.drewN nq)
    have HH := hid (FQ.out nq)
    generalize w.drewN nq = w1 at *
    clear TC FQ c0 c1 c2
    by_cases h0 : e = 0
    · have HS0 := hid (hts.out.1 h0)
      subst h0
      have X2 : Hid ((w1.setCell ⟨p, 2, none⟩ (.bool false)).heap[p]? = some (.cells #[v, .int .i64 (a : Int), .bool false] 89 (0, 0))) := hid (by rw [blk_set HH.out]; rfl)
      have q1 := blk_cell X2.out 1
      have qf := blk_frozen X2.out 1
      simp at q1
      go_wp2
      go_ret
      rw [HS0.out]
      refine ⟨rfl, ⟨⟨a + k, ?_, by rw [List.drop_drop], by omega⟩, ⟨HR.out, HB.out, hl⟩, (FR.out.set _ _ (.inr H3.out)).set _ _ (.inr H3.out), H3.out⟩, (FW.out.set _ _ (.inl (by simp))).set _ _ (.inl (by simp))⟩
      rw [blk_set X2.out]
      simp
    · have hz : ((e : Int) == 0) = false := beq_eq_false_iff_ne.2 (by omega)
      have hz2 : ((e : Int) != 0) = true := by rw [bne, hz]; rfl
      obtain ⟨hS, hn0, hk0⟩ := hts.out.2 h0
      subst hn0
      subst hk0
      have HS := hid hS
      have X2 : Hid ((w1.setCell ⟨p, 2, none⟩ (.bool true)).heap[p]? = some (.cells #[v, .int .i64 (a : Int), .bool true] 89 (0, 0))) := hid (by rw [blk_set HH.out]; rfl)
      have q1 := blk_cell X2.out 1
      have qf := blk_frozen X2.out 1
      simp at q1
      clear hS
      go_wp2
      go_ret
      rw [HS.out]
      refine ⟨rfl, ⟨⟨a, ?_, hal⟩, ⟨HR.out, HB.out, hl⟩, (FR.out.set _ _ (.inr H3.out)).set _ _ (.inr H3.out), H3.out⟩, (FW.out.set _ _ (.inl (by simp))).set _ _ (.inl (by simp))⟩
      rw [blk_set X2.out]
      simp
theorem step9_nilB {ops : Array Oper} {o : Oper} {a : Act} {w : World} {K : Act → World → Prop} {Q : Exit → Act → World → Prop} {E : Prop} (hg : o.guard = none) (s x : Operand) (hop : o.op = Op.call { callee := Callee.builtin Builtin.append, args := #[s, x], argTypes := #[22, 22] }) (hs : a.eval s = .slice none 0 0) {sx : Value} (hx : a.eval x = sx) {ns : List Nat} (hr : Rd w sx (bv ns)) (hl : ns.length ≤ 140737488355328) {l : Nat} (hln : l = ns.length) {d : Tmp} (hd : o.dst = some d)
    (hK : ∀ a' c' w', w'.ownsRow w.heap.size 5 1 (.slice a' l c') ns.length (bv ns) → Fr [] w w' → K (a.put (some d) (.slice a' l c')) w') :
    if Region.wanted o (yielded ops a.tmps) = true then Oper.wp Tryz.prog o a w K Q else E := by
  subst hln
  rw [← hd] at hK
  have hw : Region.wanted o (yielded ops a.tmps) = true := by simp [Region.wanted, hg]
  rw [if_pos hw]
  obtain ⟨i0, hi, hz0, hz1, hz2⟩ := info_parts infoB
  rcases hr with ⟨rfl, h0⟩ | ⟨ad, c, rfl, h4, h5⟩
  · have hn0 : ns = [] := by cases ns with | nil => rfl | cons => simp [bv] at h0
    subst hn0
    have hrun : ∀ ty, (Builtin.append_ #[22, 22] ty #[.slice none 0 0, .slice none 0 0]).run Tryz.prog w = .ok (.slice none 0 0) w := fun ty => by
      simp [Builtin.append_, Builtin.firstCells, go_sem]
    unfold Oper.wp
    simp [execOp, hop, resolve, invoke, builtin, hs, hx, hrun, Result.andThen]
    exact hK _ _ _ (World.ownsRow_nil _ _ _ _) (Fr.refl _ _)
  · obtain ⟨v', w', hrun, h2, h3, _, h6⟩ := run_append_own_at (P := Tryz.prog) w w.heap.size 22 o.type 5 i0 (.int .u8 0) 1 1 Tryz.underlying22 hi hz0 hz1 hz2 rfl (by decide) (.slice none 0 0) 0 [] (World.ownsRow_nil _ _ _ _) ad (bv ns).length c (bv ns) (by simp) h5 bv_one (by rw [bv_len]; unfold maxLen; omega) (by rw [bv_len]; omega) (Nat.le_refl _)
    unfold Oper.wp
    simp [execOp, hop, resolve, invoke, builtin, hs, hx, hrun, Result.andThen]
    rw [bv_len, Nat.zero_add, List.nil_append] at h2
    obtain ⟨a', c', rfl, _⟩ := ownsRow_slice h2
    exact hK _ _ _ h2 ((Fr.refl _ _).grown h3 (by simp [Value.ownBlock]))

theorem slice_run9 (w' : World) {va : Option Addr} {AL vc a m : Nat} (h1 : a ≤ m) (h2 : m ≤ vc) : (Instr.sliceAt 22 (.slice va AL vc) (some (.int .i64 (a : Int))) (some (.int .i64 (m : Int))) none).run Tryz.prog w' = .ok (.slice (if vc = a then va else va.map (·.add (a * 1))) (m - a) (vc - a)) w' := by
  have h3 : (sizeOf (Tryz.prog.elem 22)).run Tryz.prog w' = .ok 1 w' := by kernel_rfl
  have hu : Tryz.prog.underlying 22 = some (.slice (Tryz.prog.elem 22)) := by kernel_rfl
  rw [run_sliceAt_slice w' 22 _ _ _ _ hu, run_slice_lh w' 22 va AL vc hu .i64 .i64 (a : Int) (m : Int) (by omega) (by omega) (by omega), h3]
  simp [Result.andThen, sliced]
theorem slice_rd9 {w : World} {va : Option Addr} {AL vc a n : Nat} {all : List Nat} (h : Rd w (.slice va AL vc) (bv all)) (hL : AL = all.length) (hvc : AL ≤ vc) (hn : a + n ≤ AL) : Rd w (.slice (if vc = a then va else va.map (·.add (a * 1))) n (vc - a)) (bv ((all.drop a).take n)) := by
  rcases h.split with ⟨rfl, _⟩ | ⟨b, off, c, e, k1, k2, k3⟩
  · simp only [List.length_nil] at hL
    have ha : a = 0 := by omega
    have hn0 : n = 0 := by omega
    subst ha
    subst hn0
    rcases h with ⟨h, _⟩ | ⟨ad, c, h, _⟩
    · simp only [Value.slice.injEq] at h
      obtain ⟨rfl, _, rfl⟩ := h
      exact .inl ⟨rfl, rfl⟩
    · simp only [Value.slice.injEq] at h
      obtain ⟨rfl, _, rfl⟩ := h
      by_cases hv : vc = 0
      · rw [if_pos hv]; exact .inr ⟨ad, _, rfl, Nat.zero_le _, fun j u hj => by simp [bv] at hj⟩
      · rw [if_neg hv]; exact .inr ⟨_, _, rfl, Nat.zero_le _, fun j u hj => by simp [bv] at hj⟩
  · simp only [Value.slice.injEq] at e
    obtain ⟨rfl, _, rfl⟩ := e
    by_cases hv : vc = a
    · have hn0 : n = 0 := by omega
      subst hn0
      rw [if_pos hv]
      exact .inr ⟨_, _, rfl, Nat.zero_le _, fun j u hj => by simp [bv] at hj⟩
    · rw [if_neg hv]
      rw [hL] at h
      have := h.mid (i := a) (n := n) (by omega)
      simp only [Option.map_some, Addr.add_lit, Nat.mul_one]
      exact this
set_option maxRecDepth 20000 in
set_option maxHeartbeats 1600000 in
theorem rint9_c {ws w : World} {p : Nat} {v : Value} {all : List Nat} {s : Option (List Nat)} (h : RkM ws w p v all s) :
    Calls Tryz.prog 35 #[.pointer (some ⟨p, 0, none⟩)] w fun r w' => r = .returned (.int .i64 ((nmS s).1 : Int)) ∧ RkM ws w' p v all (nmS s).2 ∧ Fr [p] w w' := by
  have TC := hid (rtake_c h)
  have hlt := tkS_lt h.by
  obtain ⟨n, hn⟩ : ∃ n, n = (tkS s).1 := ⟨_, rfl⟩
  obtain ⟨s', hs'⟩ : ∃ s', s' = (tkS s).2 := ⟨_, rfl⟩
  have hnm : nmS s = if 2147483647 < n then (0, none) else (n, s') := by unfold nmS; rw [hn, hs']
  rw [← hn, ← hs'] at TC
  rw [← hn] at hlt
  obtain ⟨N, hN⟩ : ∃ N, N = nmS s := ⟨_, rfl⟩
  rw [← hN] at hnm ⊢
  have HN := hid hnm
  clear hn hs' hN h hnm
  go_enter Tryz.func35, Tryz.ntmps35
  go_wp2_with fail
  refine TC.out.mono ?_
  rintro r w1 ⟨rfl, t1, f1⟩
  have T1 := hid t1
  have F1 := hid f1
  clear t1 f1
  by_cases hle : n ≤ 2147483647
  · have h1 : ¬ (2147483647 : Int) < (n : Int) := by omega
    have h2 : IntKind.i64.wrap (n : Int) = (n : Int) := by rw [IntKind.wrap_i64]; omega
    go_wp2
    go_ret
    rw [HN.out, if_neg (by omega)]
    exact ⟨rfl, T1.out, F1.out⟩
  · have h1 : (2147483647 : Int) < (n : Int) := by omega
    obtain ⟨a, b0, hx, ha⟩ : ∃ (a : Nat) (b0 : Bool), w1.heap[p]? = some (.cells #[v, .int .i64 (a : Int), .bool b0] 89 (0, 0)) ∧ a ≤ all.length := by
      obtain ⟨h1, _⟩ := T1.out
      rcases s' with _ | l
      · obtain ⟨a, x, y⟩ := h1; exact ⟨a, true, x, y⟩
      · obtain ⟨a, x, _, y⟩ := h1; exact ⟨a, false, x, y⟩
    have X := hid hx
    have c2 := blk_cell hx 2
    have f2 := blk_frozen hx 2
    simp at c2
    clear hx
    go_wp2
    go_ret
    rw [HN.out, if_pos (by omega)]
    obtain ⟨_, g1, g2, g3⟩ := T1.out
    exact ⟨rfl, ⟨⟨a, by rw [blk_set X.out]; rfl, ha⟩, g1, g2.set _ _ (.inr g3), g3⟩, F1.out.set _ _ (.inl (by simp))⟩
/-- The two ways to read a key are one. -/
theorem kyS_ref {s : Option (List Nat)} (hb : ∀ l, s = some l → By l) (hl : ∀ l, s = some l → l.length ≤ 5000) : kyS s = cutS (fitS (nmS s).1 (nmS s).2).1 (fitS (nmS s).1 (nmS s).2).2 := by
  unfold kyS ctS nmS
  by_cases h : 2147483647 < (tkS s).1
  · rw [if_pos h]
    have h1 := (tkS_sh hb).sm
    rcases hs : (tkS s).2 with _ | l
    · rfl
    · obtain ⟨m, e1, e2, _⟩ := h1 l hs
      have := hl m e1
      have e : fitS (tkS s).1 (some l) = (0, none) := if_pos (by omega)
      rw [e]; rfl
  · rw [if_neg h]

set_option maxRecDepth 20000 in
set_option maxHeartbeats 3200000 in
theorem rbytes9_c {ws w : World} {p : Nat} {v : Value} {all : List Nat} {s : Option (List Nat)} (h : RkM ws w p v all s) :
    Calls Tryz.prog 37 #[.pointer (some ⟨p, 0, none⟩)] w fun r w' => (∃ a c, r = .returned (.slice a (kyS s).1.length c) ∧ w'.ownsRow w.heap.size 5 1 (.slice a (kyS s).1.length c) (kyS s).1.length (bv (kyS s).1)) ∧ RkM ws w' p v all (kyS s).2 ∧ Fr [p] w w' := by
  have IC := hid (rint9_c h)
  have HPL := hid h.lt
  have hky := kyS_ref h.by h.len
  have hnl : (nmS s).1 ≤ 2147483647 := by unfold nmS; split <;> omega
  obtain ⟨n, hn⟩ : ∃ n, n = (nmS s).1 := ⟨_, rfl⟩
  obtain ⟨s', hs'⟩ : ∃ s', s' = (nmS s).2 := ⟨_, rfl⟩
  rw [← hn, ← hs'] at IC hky
  rw [← hn] at hnl
  rw [hky]
  clear hn hs' hky h
  go_enter Tryz.func37, Tryz.ntmps37
  go_wp2_with fail
  refine IC.out.mono ?_
  rintro r w1 ⟨rfl, t1, f1⟩
  have T1 := hid t1
  have F1 := hid f1
  obtain ⟨t2, ⟨hr, hb, hl⟩, g2, g3⟩ := t1
  obtain ⟨va, vc, hv⟩ := hr.form
  rw [bv_len] at hv
  subst hv
  have HR := hid hr
  have HB := hid hb
  have G2 := hid g2
  have G3 := hid g3
  obtain ⟨AL, hAL⟩ : ∃ AL, AL = all.length := ⟨_, rfl⟩
  have HAL := hid hAL
  clear f1 hr hb g2 g3
  rcases s' with _ | l
  · obtain ⟨a, x, ha⟩ := t2
    rw [← hAL] at x
    have X := hid x
    have c0 := blk_cell x 0
    have c1 := blk_cell x 1
    have c2 := blk_cell x 2
    simp at c0 c1 c2
    clear x hAL
    go_upto_region 2 with fail
    go_quiet (fail)
    have X2 : Hid ((w1.drewN nq).heap[p]? = some (.cells #[.slice va AL vc, .int .i64 (a : Int), .bool true] 89 (0, 0))) := hid (by rw [blk_drewN]; exact X.out)
    have k2 := blk_cell X2.out 2
    have kf := blk_frozen X2.out 2
    have F2 := hid (F1.out.drewN nq)
    have R2 := hid (G2.out.drewN nq)
    generalize w1.drewN nq = w2 at *
    simp at k2
    clear c0 c1 c2
    go_wp2
    go_ret
    refine ⟨⟨none, 0, rfl, World.ownsRow_nil _ _ _ _⟩, ⟨⟨a, by rw [blk_set X2.out, HAL.out]; rfl, ha⟩, ⟨HR.out, HB.out, hl⟩, R2.out.set _ _ (.inr G3.out), G3.out⟩, F2.out.set _ _ (.inl (by simp))⟩
  · obtain ⟨a, x, hla, ha⟩ := t2
    rw [← hAL] at x ha hl
    have X := hid x
    have HLA := hid hla
    have hll : l.length = AL - a := by rw [hla, List.length_drop, ← hAL]
    have c0 := blk_cell x 0
    have c1 := blk_cell x 1
    have c2 := blk_cell x 2
    simp at c0 c1 c2
    have hsub : IntKind.i64.wrap ((AL : Int) - (a : Int)) = (AL : Int) - (a : Int) := by rw [IntKind.wrap_i64]; omega
    have HLL := hid hll
    clear x hAL hla hll
    by_cases hgt : AL - a < n
    · have hgt' : (AL : Int) - (a : Int) < (n : Int) := by omega
      have e : Hid (fitS n (some l) = (0, none)) := hid (if_pos (by rw [HLL.out]; exact hgt))
      go_upto_region 2 with fail
      go_quiet (fail)
      have X2 : Hid ((w1.drewN nq).heap[p]? = some (.cells #[.slice va AL vc, .int .i64 (a : Int), .bool false] 89 (0, 0))) := hid (by rw [blk_drewN]; exact X.out)
      have k2 := blk_cell X2.out 2
      have kf := blk_frozen X2.out 2
      have F2 := hid (F1.out.drewN nq)
      have R2 := hid (G2.out.drewN nq)
      generalize w1.drewN nq = w2 at *
      simp at k2
      clear c0 c1 c2
      go_wp2
      go_ret
      rw [e.out]
      refine ⟨⟨none, 0, rfl, World.ownsRow_nil _ _ _ _⟩, ⟨⟨a, by rw [blk_set X2.out, HAL.out]; rfl, by rw [← HAL.out]; exact ha⟩, ⟨HR.out, HB.out, by rw [← HAL.out]; exact hl⟩, R2.out.set _ _ (.inr G3.out), G3.out⟩, F2.out.set _ _ (.inl (by simp))⟩
    · have hgt' : ¬ (AL : Int) - (a : Int) < (n : Int) := by omega
      have e : Hid (fitS n (some l) = (n, some l)) := hid (if_neg (by rw [HLL.out]; exact hgt))
      have hvc : AL ≤ vc := by
        rcases HR.out with ⟨h, _⟩ | ⟨_, _, h, h4, _⟩
        · simp only [Value.slice.injEq] at h; rw [HAL.out]; omega
        · simp only [Value.slice.injEq] at h; rw [bv_len] at h4; rw [HAL.out]; omega
      go_upto_region 2 with fail
      go_quiet (fail)
      have X2 : Hid ((w1.drewN nq).heap[p]? = some (.cells #[.slice va AL vc, .int .i64 (a : Int), .bool false] 89 (0, 0))) := hid (by rw [blk_drewN]; exact X.out)
      have k1 := blk_cell X2.out 1
      have kf := blk_frozen X2.out 1
      have F2 := hid (F1.out.drewN nq)
      have R2 := hid (G2.out.drewN nq)
      generalize w1.drewN nq = w2 at *
      simp at k1
      clear c0 c1 c2
      obtain ⟨m, hm⟩ : ∃ m, m = a + n := ⟨_, rfl⟩
      have hmi : (a : Int) + (n : Int) = (m : Int) := by omega
      have hmn : (m : Int) - (n : Int) = (a : Int) := by omega
      have hma : m ≤ a + n ∧ a + n ≤ m := by omega
      have hwa : IntKind.i64.wrap (a : Int) = (a : Int) := by rw [IntKind.wrap_i64]; omega
      have HM := hid hm
      clear hm
      obtain ⟨W3, hW3⟩ : ∃ W3, W3 = w2.setCell ⟨p, 1, none⟩ (.int .i64 (m : Int)) := ⟨_, rfl⟩
      have X3 : Hid (W3.heap[p]? = some (.cells #[.slice va AL vc, .int .i64 (m : Int), .bool false] 89 (0, 0))) := hid (by rw [hW3, blk_set X2.out]; rfl)
      have F3 : Hid (Fr [p] w W3) := hid (by rw [hW3]; exact F2.out.set _ _ (.inl (by simp)))
      have R3 : Hid (Fr [] ws W3) := hid (by rw [hW3]; exact R2.out.set _ _ (.inr G3.out))
      have SK : Hid (∀ w', Fr [] W3 w' → w'.cell? ⟨p, 0, none⟩ = some (.slice va AL vc) ∧ w'.cell? ⟨p, 1, none⟩ = some (.int .i64 (m : Int))) := hid (fun w' f => by
        have k := f.at X3.out (by simp)
        exact ⟨by rw [blk_cell k]; rfl, by rw [blk_cell k]; rfl⟩)
      obtain ⟨oa, hoa⟩ : ∃ oa : Option Addr, ∀ w' : World, (Instr.sliceAt 22 (.slice va AL vc) (some (.int .i64 (a : Int))) (some (.int .i64 (m : Int))) none).run Tryz.prog w' = .ok (.slice oa n (vc - a)) w' ∧ (Rd ws (.slice va AL vc) (bv all) → Rd ws (.slice oa n (vc - a)) (bv (l.take n))) := by
        refine ⟨if vc = a then va else va.map (·.add (a * 1)), fun w' => ⟨?_, fun hR => ?_⟩⟩
        · have := slice_run9 w' (va := va) (AL := AL) (vc := vc) (a := a) (m := m) (by omega) (by omega)
          rw [show m - a = n by omega] at this
          exact this
        · rw [HLA.out]
          exact slice_rd9 hR HAL.out hvc (by omega)
      have HOA := hid hoa
      have RS : Hid (Rd W3.drew (.slice oa n (vc - a)) (bv (l.take n))) := hid (((HOA.out W3).2 (by rw [HAL.out]; exact HR.out)).fr R3.out.drew)
      have hlt : Hid (n = (l.take n).length) := hid (by rw [List.length_take, HLL.out]; omega)
      clear hoa
      go_upto_region 6 with fail
      rw [← hW3]
      clear hW3 k1 kf
      refine wp_region_held_drew (S := fun w' => w'.cell? ⟨p, 0, none⟩ = some (.slice va AL vc) ∧ w'.cell? ⟨p, 1, none⟩ = some (.int .i64 (m : Int))) (by kernel_rfl) (SK.out _ ((Fr.refl _ _).drew)) (fun hS => ?_)
      refine wpAnyH_take (i := 0) (v := .pointer (some ⟨p, 0, none⟩)) rfl (by kernel_rfl) (by kernel_rfl) (by kernel_rfl) (fun _ _ _ h => h) (.inl ⟨by rfl, fun wx _ => by go_simp⟩) hS ?_
      simp only [Act.put]
      refine wpAnyH_take (i := 1) (v := .pointer (some ⟨p, 0, none⟩)) rfl (by kernel_rfl) (by kernel_rfl) (by kernel_rfl) (fun _ _ _ h => h) (.inl ⟨by rfl, fun wx _ => by go_simp⟩) hS ?_
      simp only [Act.put]
      refine wpAnyH_take (i := 2) (v := .pointer (some ⟨p, 0, none⟩)) rfl (by kernel_rfl) (by kernel_rfl) (by kernel_rfl) (fun _ _ _ h => h) (.inl ⟨by rfl, fun wx _ => by go_simp⟩) hS ?_
      simp only [Act.put]
      refine wpAnyH_take (i := 3) (v := .slice va AL vc) rfl (by kernel_rfl) (by kernel_rfl) (by kernel_rfl) (fun _ _ _ h => h) (.inl ⟨by rfl, fun wx hX => by obtain ⟨x0, x1⟩ := hX; go_simp⟩) hS ?_
      simp only [Act.put]
      refine wpAnyH_take (i := 4) (v := .pointer (some ⟨p, 0, none⟩)) rfl (by kernel_rfl) (by kernel_rfl) (by kernel_rfl) (fun _ _ _ h => h) (.inl ⟨by rfl, fun wx _ => by go_simp⟩) hS ?_
      simp only [Act.put]
      refine wpAnyH_take (i := 5) (v := .pointer (some ⟨p, 0, none⟩)) rfl (by kernel_rfl) (by kernel_rfl) (by kernel_rfl) (fun _ _ _ h => h) (.inl ⟨by rfl, fun wx _ => by go_simp⟩) hS ?_
      simp only [Act.put]
      refine wpAnyH_take (i := 6) (v := .pointer (some ⟨p, 1, none⟩)) rfl (by kernel_rfl) (by kernel_rfl) (by kernel_rfl) (fun _ _ _ h => h) (.inl ⟨by rfl, fun wx _ => by go_simp⟩) hS ?_
      simp only [Act.put]
      refine wpAnyH_take (i := 7) (v := .int .i64 (m : Int)) rfl (by kernel_rfl) (by kernel_rfl) (by kernel_rfl) (fun _ _ _ h => h) (.inl ⟨by rfl, fun wx hX => by obtain ⟨x0, x1⟩ := hX; go_simp⟩) hS ?_
      simp only [Act.put]
      refine wpAnyH_take (i := 8) (v := .int .i64 (n : Int)) rfl (by kernel_rfl) (by kernel_rfl) (by kernel_rfl) (fun _ _ _ h => h) (.inl ⟨by rfl, fun wx _ => by go_simp⟩) hS ?_
      simp only [Act.put]
      refine wpAnyH_take (i := 9) (v := .int .i64 (a : Int)) rfl (by kernel_rfl) (by kernel_rfl) (by kernel_rfl) (fun _ _ _ h => h) (.inl ⟨by rfl, fun wx _ => by go_simp⟩) hS ?_
      simp only [Act.put]
      refine wpAnyH_take (i := 10) (v := .pointer (some ⟨p, 0, none⟩)) rfl (by kernel_rfl) (by kernel_rfl) (by kernel_rfl) (fun _ _ _ h => h) (.inl ⟨by rfl, fun wx _ => by go_simp⟩) hS ?_
      simp only [Act.put]
      refine wpAnyH_take (i := 11) (v := .pointer (some ⟨p, 0, none⟩)) rfl (by kernel_rfl) (by kernel_rfl) (by kernel_rfl) (fun _ _ _ h => h) (.inl ⟨by rfl, fun wx _ => by go_simp⟩) hS ?_
      simp only [Act.put]
      refine wpAnyH_take (i := 12) (v := .pointer (some ⟨p, 1, none⟩)) rfl (by kernel_rfl) (by kernel_rfl) (by kernel_rfl) (fun _ _ _ h => h) (.inl ⟨by rfl, fun wx _ => by go_simp⟩) hS ?_
      simp only [Act.put]
      refine wpAnyH_take (i := 13) (v := .int .i64 (m : Int)) rfl (by kernel_rfl) (by kernel_rfl) (by kernel_rfl) (fun _ _ _ h => h) (.inl ⟨by rfl, fun wx hX => by obtain ⟨x0, x1⟩ := hX; go_simp⟩) hS ?_
      simp only [Act.put]
      refine wpAnyH_take (i := 14) (v := .slice oa n (vc - a)) rfl (by kernel_rfl) (by kernel_rfl) (by kernel_rfl) (fun _ _ _ h => h) (.inl ⟨by rfl, fun wx hX => by have z := (HOA.out wx).1; go_simp⟩) hS ?_
      simp only [Act.put]
      clear hS
      refine wpAnyH_ready (rs := [15]) (by kernel_rfl) (by simp) ?_
      refine AllReadyH.cons rfl (fun K hK => ?_) AllReadyH.nil
      refine step9_nilB (sx := .slice oa n (vc - a)) rfl (.const (.slice none 0 0)) (.tmp 50) rfl (by simp only [Act.eval]) (by simp [Act.eval]) (ns := l.take n) RS.out (by rw [← hlt.out]; omega) hlt.out (d := 51) rfl ?_
      intro a4 c4 W4 o4 f4
      have F4 := hid ((Fr.refl [] W3).drew.trans f4)
      have O4 := hid o4
      refine hK.out _ _ (SK.out _ F4.out) (fun hS4 => ?_)
      clear hK K o4 f4
      refine wpAnyH_take (i := 16) (v := .slice a4 n c4) rfl (by kernel_rfl) (by kernel_rfl) (by kernel_rfl) (fun _ _ _ h => h) (.inl ⟨by rfl, fun wx _ => by go_simp⟩) hS4 ?_
      simp only [Act.put]
      clear hS4
      refine wpAnyH_done (by kernel_rfl) ?_ _
      simp only [List.getElem_toArray, List.getElem_cons_succ, List.getElem_cons_zero, List.set_cons_succ, List.set_cons_zero, List.setIfInBounds_toArray]
      go_wp2
      go_ret
      rw [e.out]
      have hkl : (cutS n (some l)).1.length = n := hlt.out.symm
      have X4 := F4.out.at X3.out (by simp)
      refine ⟨⟨a4, c4, by rw [hkl]; rfl, ?_⟩, ⟨⟨m, by rw [X4, HAL.out], ?_, by rw [← HAL.out]; omega⟩, ⟨HR.out, HB.out, by rw [← HAL.out]; exact hl⟩, R3.out.trans F4.out, G3.out⟩, F3.out.trans (F4.out.mono (S' := [p]) (by simp))⟩
      · rw [hkl]
        have := ownsRow_base O4.out (show w.heap.size ≤ W3.drew.heap.size from F3.out.size)
        rw [← hlt.out] at this
        exact this
      · rw [HLA.out, List.drop_drop, HM.out]
end Go.Proofs.YtegbngbhmgbocaaGreatDoor
