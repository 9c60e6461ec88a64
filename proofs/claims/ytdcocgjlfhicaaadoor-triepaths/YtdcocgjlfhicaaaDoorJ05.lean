/-
  What digits, number and head of package rlp answer.
-/
import Derived.Test.YtdcocgjlfhicaaaDoorJ04
import Derived.Deep.Light
namespace Go.Proofs.YtdcocgjlfhicaaaDoor
open Go.ChangeShapes Go.WideShapes Go.ChangeAt Go.RowKit

theorem big_take {b : List Nat} {k x : Nat} (h : b[k]? = some x) : big (b.take (k + 1)) = 256 * big (b.take k) + x := by
  rw [List.take_add_one, h]; exact big_snoc _ _
theorem or_byte {a x : Nat} (hx : x < 256) : a * 256 ||| x = a * 256 + x := by
  have := Nat.two_pow_add_eq_or_of_lt (i := 8) (b := x) (by omega) a
  rw [show 2 ^ 8 * a = a * 256 by omega] at this
  exact this.symm

set_option maxRecDepth 20000 in
set_option maxHeartbeats 400000 in
theorem number_c (w : World) {v : Value} {b : List Nat} (hr : Rd w v (bv b)) (hb : By b) (hl : b.length ≤ 8) :
    Calls Tryd.prog 118 #[v] w fun e w' => e = .returned (.int .u64 (big b : Int)) ∧ w' = w := by
  have HB := hid hb
  have HR := hid hr
  rcases hr.split with ⟨rfl, a, c, rfl⟩ | ⟨q, off, c, rfl, h1, h2, h3⟩
  · clear hb hr HB HR
    go_enter Tryd.func118, Tryd.ntmps118
    go_wp2
    refine wp_loop_rounds 1 ?_
    rw [rounds_succ]
    go_wp2
    go_ret
    exact ⟨rfl, rfl⟩
  · have HC := hid h3
    clear hb hr h3 HR
    go_enter Tryd.func118, Tryd.ntmps118
    go_wp2
    go_loop [3, 8] (fun v3 v8 => ∃ (k m : Nat), k ≤ b.length ∧ v8 = .int .i64 (k : Int) ∧ v3 = .int .u64 (m : Int) ∧ m = big (b.take k)) (fun _ v8 => b.length - (intOf v8).toNat)
    case atStart => exact ⟨0, 0, by omega, rfl, rfl, rfl⟩
    case round =>
      obtain ⟨k, m, hk, rfl, rfl, hm⟩ := hrel
      have HM := hid hm
      have hm1 : m < 256 ^ k := by rw [hm]; have := big_lt (b.take k) (HB.out.take k); rwa [List.length_take, Nat.min_eq_left hk] at this
      clear hm
      by_cases hkl : k < b.length
      · obtain ⟨x, hx⟩ : ∃ x, b[k]? = some x := ⟨_, List.getElem?_eq_getElem hkl⟩
        have hc := HC.out k x hx
        have hx1 := HB.out.at hx
        have hstep : m * 256 < 18446744073709551616 := by
          have : (256 : Nat) ^ k * 256 ≤ 256 ^ 8 := by rw [← Nat.pow_succ]; exact Nat.pow_le_pow_right (by omega) (by omega)
          omega
        have hor : bits .or .u64 ((m : Int) * 256) (x : Int) = (m : Int) * 256 + (x : Int) := by
          have h := u64_or_nat (m * 256) x (by omega) (by omega)
          rw [or_byte hx1] at h
          simpa using h
        go_wp2
        go_round
        case rel => exact ⟨k + 1, m * 256 + x, by omega, by go_num, by go_num, by rw [big_take hx, HM.out]; omega⟩
        case measure => simp [intOf]; omega
      · have : k = b.length := by omega
        subst this
        rw [List.take_length] at HM
        have hmb := HM.out
        subst hmb
        go_wp2
        go_ret
        exact ⟨rfl, rfl⟩

theorem slice8 (w : World) (p l : Nat) (hl : l ≤ 8) : (Instr.sliceAt 175 (.pointer (some ⟨p, 0, none⟩)) (some (.int .i64 (l : Int))) none none).run Tryd.prog w = .ok (.slice (some ⟨p, if l = 8 then 0 else l, none⟩) (8 - l) (8 - l)) w := by
  have h1 : Tryd.prog.arrayLen 175 = 8 := by kernel_rfl
  have h3 : (sizeOf (Tryd.prog.elem 175)).run Tryd.prog w = .ok 1 w := by kernel_rfl
  have := run_sliceAt_array_l (P := Tryd.prog) w 175 ⟨p, 0, none⟩ (by kernel_rfl) .i64 (l : Int) (by omega) (by rw [h1]; omega)
  rw [this, h3, h1]
  simp only [Result.andThen_ok, slicedAt, Int.toNat_natCast, Nat.mul_one]
  by_cases h : l = 8
  · subst h; rfl
  · rw [if_neg (by omega), if_neg h, Addr.add_lit, Nat.zero_add]
theorem digF_zero (f : Nat) : digF f 0 = [] := by cases f <;> rfl

set_option maxRecDepth 20000 in
set_option maxHeartbeats 400000 in
theorem digits_c (w : World) (n : Nat) (hn : n < 18446744073709551616) :
    Calls Tryd.prog 106 #[.int .u64 (n : Int)] w fun e w' => ∃ v', e = .returned v' ∧ w'.ownsRow w.heap.size 5 1 v' (digs n).length (bv (digs n)) ∧ Fr [] w w' := by
  have hs8 := slice8
  obtain ⟨N, hN⟩ : ∃ N, N = w.heap.size := ⟨_, rfl⟩
  have HN := hid hN
  have HS := hid (show digs n = digF 8 n from rfl)
  go_enter Tryd.func106, Tryd.ntmps106
  go_wp2
  rw [← hN]
  clear hN
  go_loopw [0, 4] (fun v0 v4 wr => ∃ (s m : Nat) (ds : List Nat) (cur : List Value), s ≤ 8 ∧ v0 = .int .u64 (m : Int) ∧ v4 = .int .i64 (s : Int) ∧ m < 256 ^ s ∧ ds.length = 8 - s ∧ cur.length = 8 ∧ cur.drop s = bv ds ∧ wr.heap[N]? = some (.cells cur.toArray 175 (0, 0)) ∧ Fr [] w wr ∧ digs n = digF s m ++ ds) (fun _ v4 _ => (intOf v4).toNat)
  case atStart => exact ⟨8, n, [], _, by omega, rfl, rfl, by omega, rfl, rfl, rfl, new_at w _ HN.out, (Fr.refl _ _).alloc _, by rw [HS.out, List.append_nil]⟩
  case round =>
    obtain ⟨s, m, ds, cur, h1, rfl, rfl, h2, h3, h4, h5, h6, h7, h8⟩ := hrel
    have H3 := hid h3
    have H5 := hid h5
    have H6 := hid h6
    have H7 := hid h7
    have H8 := hid h8
    clear h3 h5 h6 h7 h8
    by_cases hm : m = 0
    · subst hm
      have hr : Rd wr (.slice (some ⟨N, if s = 8 then 0 else s, none⟩) (8 - s) (8 - s)) (bv ds) := by
        refine .inr ⟨_, _, by rw [bv_len, H3.out], by rw [bv_len, H3.out]; exact Nat.le_refl _, fun j u hj => ?_⟩
        rw [← H5.out, List.getElem?_drop] at hj
        by_cases h : s = 8
        · subst h; rw [List.getElem?_eq_none (by omega)] at hj; cases hj
        · rw [if_neg h, Addr.add_lit, blk_cell H6.out]; simpa using hj
      have hd : ds = digs n := by rw [H8.out, digF_zero]; rfl
      have HD := hid hd
      clear hd hs8
      by_cases h88 : s = 8
      · subst h88
        rw [if_pos rfl] at hr
        have HR := hid hr
        clear hr
        go_wp2_with fail
        refine (cloneR_c HR.out (by rw [H3.out]; omega)).mono ?_
        rintro e w1 ⟨v1, rfl, o1, f1⟩
        rw [HD.out] at o1
        have O1 := hid (ownsRow_base o1 H7.out.size)
        have F1 := hid (H7.out.trans f1)
        clear o1 f1
        go_wp2
        go_ret
        exact ⟨v1, rfl, O1.out, F1.out⟩
      · have hs8' : s < 8 := by omega
        rw [if_neg h88] at hr
        have hsl := slice8 wr N s h1
        rw [if_neg h88] at hsl
        have HR := hid hr
        clear hr
        go_wp2_with fail
        refine (cloneR_c HR.out (by rw [H3.out]; omega)).mono ?_
        rintro e w1 ⟨v1, rfl, o1, f1⟩
        rw [HD.out] at o1
        have O1 := hid (ownsRow_base o1 H7.out.size)
        have F1 := hid (H7.out.trans f1)
        clear o1 f1
        go_wp2
        go_ret
        exact ⟨v1, rfl, O1.out, F1.out⟩
    · have hs0 : s ≠ 0 := fun e => by subst e; simp at h2; exact hm h2
      obtain ⟨q, rfl⟩ : ∃ q, s = q + 1 := ⟨s - 1, by omega⟩
      have hcell : wr.cell? ⟨N, q, none⟩ = some (cur[q]'(by omega)) := by rw [blk_cell H6.out]; simp
      have hfz : wr.frozen? ⟨N, q, none⟩ = false := blk_frozen H6.out q
      have hm0 : 0 < m := by omega
      have hm1 : m < 18446744073709551616 := by
        have : (256 : Nat) ^ (q + 1) ≤ 256 ^ 8 := Nat.pow_le_pow_right (by omega) h1
        omega
      have B : Hid (∀ w2, w2 = wr.setCell ⟨N, q, none⟩ (.int .u8 (m % 256 : Nat)) → w2.heap[N]? = some (.cells (cur.set q (.int .u8 (m % 256 : Nat))).toArray 175 (0, 0)) ∧ Fr [] w w2) := fun w2 e => by
        subst e
        refine ⟨?_, H7.out.set _ _ (.inr (by rw [HN.out]; exact Nat.le_refl _))⟩
        rw [blk_set H6.out]
        simp
      go_wp2
      go_roundw
      case rel =>
        obtain ⟨b1, b2⟩ := B.out (wr.setCell ⟨N, q, none⟩ (.int .u8 ((m : Int) % 256))) (by rw [Int.natCast_emod]; rfl)
        refine ⟨q, m / 256, (m % 256) :: ds, _, by omega, by go_num, by go_num, ?_, by rw [List.length_cons, H3.out]; omega, by rw [List.length_set]; exact h4, ?_, b1, b2, ?_⟩
        · rw [Nat.pow_succ] at h2; omega
        · rw [List.drop_eq_getElem_cons (by rw [List.length_set]; omega), List.getElem_set_self, List.drop_set_of_lt (by omega), H5.out]; rfl
        · rw [H8.out, digF, if_neg (by omega), List.append_assoc]; rfl
      case measure => simp [intOf]

theorem own_lit1 (W : World) {z : Int} {x g B : Nat} (hz : z = (x : Int)) (hg : g = W.heap.size) (hB : B ≤ W.heap.size) : (W.alloc (.cells #[.int .u8 z] 5)).ownsRow B 5 1 (.slice (some ⟨g, 0, none⟩) 1 1) 1 (bv [x]) := by
  subst hz; subst hg
  exact World.ownsRow_lit W #[.int .u8 (x : Int)] 1 hB (by unfold maxLen; omega) rfl
theorem cut8 {n : Nat} (h : n < 256) : IntKind.u8.wrap (n : Int) = (n : Int) := by rw [IntKind.wrap_u8]; omega
theorem headL_short {base n : Nat} (h : n ≤ 55) : headL base n = [base + n] := by unfold headL; rw [if_pos h]
theorem headL_long {base n : Nat} (h : 55 < n) : headL base n = [base + 55 + (digs n).length] ++ digs n := by unfold headL; rw [if_neg (by omega)]; rfl
theorem headL_one : headL 128 1 = [129] := rfl

/-- What is in the last statement of head, behind digits. -/
theorem insert_head {w w1 : World} {v1 : Value} {D : List Nat} {x : Nat} {z : Int} (o1 : w1.ownsRow w.heap.size 5 1 v1 D.length (bv D)) (f1 : Fr [] w w1) (hz : z = (x : Int)) (hl : D.length ≤ 8) :
    Calls Tryd.prog 89 #[v1, .int .i64 0, .slice (some ⟨w1.heap.size, 0, none⟩) 1 1] (w1.alloc (.cells #[.int .u8 z] 5)) fun e w' => ∃ v', e = .returned v' ∧ w'.ownsRow w.heap.size 5 1 v' ([x] ++ D).length (bv ([x] ++ D)) ∧ Fr [] w w' := by
  have o2 : (w1.alloc (.cells #[.int .u8 z] 5)).ownsRow w.heap.size 5 1 v1 D.length (bv D) := ownsRow_fr o1 ((Fr.refl _ _).alloc _)
  have hsz := f1.size
  refine (insert_c (w1.alloc (.cells #[.int .u8 z] 5)) (base := w.heap.size) (base2 := w.heap.size) (ys := [x]) (i := 0) (by simp; omega) o2 (own_lit1 w1 hz rfl hsz) ?_ (by omega) (by simp; omega)).mono ?_
  · intro k hk h
    simp only [Value.ownBlock, Option.some.injEq] at h
    have := (o1.lt k hk).2
    omega
  · rintro e w' ⟨v', rfl, o, g⟩
    refine ⟨v', rfl, ?_, (f1.alloc _).grew o2 (Nat.le_refl _) g⟩
    rw [List.take_zero, List.drop_zero, List.nil_append] at o
    rw [List.length_append, Nat.add_comm]
    exact o

set_option maxRecDepth 20000 in
set_option maxHeartbeats 400000 in
theorem head_str (w : World) (bs is : Value) (n : Nat) (hn : n ≤ 140737488355328) (hs : n = 1 → ∃ (q off c x : Nat), bs = .slice (some ⟨q, off, none⟩) 1 c ∧ w.cell? ⟨q, off, none⟩ = some (.int .u8 (x : Int)) ∧ 128 ≤ x ∧ x < 256) :
    Calls Tryd.prog 88 #[.agg #[.bool false, bs, is], .int .i64 (n : Int)] w fun e w' => ∃ v', e = .returned v' ∧ w'.ownsRow w.heap.size 5 1 v' (headL 128 n).length (bv (headL 128 n)) ∧ Fr [] w w' := by
  by_cases h1 : n = 1
  · obtain ⟨q, off, c, x, rfl, hc, hx, hx2⟩ := hs h1
    subst h1
    have hc1 : (w.alloc (.cells #[.bool false, .slice (some ⟨q, off, none⟩) 1 c, is] 85)).cell? ⟨q, off, none⟩ = some (.int .u8 (x : Int)) := by
      rw [World.cell?_of_block (w := w) (blk_old w _ (World.block_lt_of_cell? w _ hc))]; exact hc
    rw [headL_one]
    clear hc hs
    go_enter Tryd.func88, Tryd.ntmps88
    go_wp2
    go_ret
    exact ⟨_, rfl, own_lit1 (w.alloc _) rfl (by simp) (by simp), ((Fr.refl _ _).alloc _).alloc _⟩
  · have hz : ((n : Int) == 1) = false := beq_eq_false_iff_ne.2 (by omega)
    clear hs
    by_cases h55 : n ≤ 55
    · have hw1 : IntKind.u8.wrap (n : Int) = (n : Int) := cut8 (by omega)
      have hw2 : IntKind.u8.wrap (128 + (n : Int)) = 128 + (n : Int) := by rw [IntKind.wrap_u8]; omega
      rw [headL_short h55]
      go_enter Tryd.func88, Tryd.ntmps88
      go_wp2
      go_ret
      exact ⟨_, rfl, own_lit1 (w.alloc _) (by omega) (by simp) (by simp), ((Fr.refl _ _).alloc _).alloc _⟩
    · rw [headL_long (by omega)]
      have hdl : (digs n).length ≤ 8 := digF_len 8 n
      obtain ⟨D, hD⟩ : ∃ D, D = digs n := ⟨_, rfl⟩
      have HD := hid hD
      rw [← hD] at hdl ⊢
      have hw1 : IntKind.u8.wrap (D.length : Int) = (D.length : Int) := cut8 (by omega)
      have hw2 : IntKind.u8.wrap (183 + (D.length : Int)) = 183 + (D.length : Int) := by rw [IntKind.wrap_u8]; omega
      clear hD
      go_enter Tryd.func88, Tryd.ntmps88
      go_wp2_with fail
      refine (digits_c _ n (by omega)).mono ?_
      rintro e w1 ⟨v1, rfl, o1, f1⟩
      rw [← HD.out] at o1
      have O1 := hid (ownsRow_base (B' := w.heap.size) o1 (by simp))
      have F1 := hid (((Fr.refl [] w).alloc _).trans f1)
      obtain ⟨a1, c1, rfl, hc1⟩ := ownsRow_slice o1
      clear o1 f1
      go_wp2_with fail
      refine (insert_head (x := 128 + 55 + D.length) O1.out F1.out (by omega) hdl).mono ?_
      rintro e w2 ⟨v2, rfl, o2, f2⟩
      have O2 := hid o2
      have F2 := hid f2
      clear o2 f2
      go_wp2
      go_ret
      exact ⟨v2, rfl, O2.out, F2.out⟩

set_option maxRecDepth 20000 in
set_option maxHeartbeats 400000 in
theorem head_list (w : World) (bs is : Value) (n : Nat) (hn : n ≤ 140737488355328) :
    Calls Tryd.prog 88 #[.agg #[.bool true, bs, is], .int .i64 (n : Int)] w fun e w' => ∃ v', e = .returned v' ∧ w'.ownsRow w.heap.size 5 1 v' (headL 192 n).length (bv (headL 192 n)) ∧ Fr [] w w' := by
  by_cases h55 : n ≤ 55
  · have hw1 : IntKind.u8.wrap (n : Int) = (n : Int) := cut8 (by omega)
    have hw2 : IntKind.u8.wrap (192 + (n : Int)) = 192 + (n : Int) := by rw [IntKind.wrap_u8]; omega
    rw [headL_short h55]
    go_enter Tryd.func88, Tryd.ntmps88
    go_wp2
    go_ret
    exact ⟨_, rfl, own_lit1 (w.alloc _) (by omega) (by simp) (by simp), ((Fr.refl _ _).alloc _).alloc _⟩
  · rw [headL_long (by omega)]
    have hdl : (digs n).length ≤ 8 := digF_len 8 n
    obtain ⟨D, hD⟩ : ∃ D, D = digs n := ⟨_, rfl⟩
    have HD := hid hD
    rw [← hD] at hdl ⊢
    have hw1 : IntKind.u8.wrap (D.length : Int) = (D.length : Int) := cut8 (by omega)
    have hw2 : IntKind.u8.wrap (247 + (D.length : Int)) = 247 + (D.length : Int) := by rw [IntKind.wrap_u8]; omega
    clear hD
    go_enter Tryd.func88, Tryd.ntmps88
    go_wp2_with fail
    refine (digits_c _ n (by omega)).mono ?_
    rintro e w1 ⟨v1, rfl, o1, f1⟩
    rw [← HD.out] at o1
    have O1 := hid (ownsRow_base (B' := w.heap.size) o1 (by simp))
    have F1 := hid (((Fr.refl [] w).alloc _).trans f1)
    obtain ⟨a1, c1, rfl, hc1⟩ := ownsRow_slice o1
    clear o1 f1
    go_wp2_with fail
    refine (insert_head (x := 192 + 55 + D.length) O1.out F1.out (by omega) hdl).mono ?_
    rintro e w2 ⟨v2, rfl, o2, f2⟩
    have O2 := hid o2
    have F2 := hid f2
    clear o2 f2
    go_wp2
    go_ret
    exact ⟨v2, rfl, O2.out, F2.out⟩

set_option maxRecDepth 20000 in
/-- One small byte has no head. -/
theorem head_small (w : World) (is : Value) {q off c x : Nat} (hc : w.cell? ⟨q, off, none⟩ = some (.int .u8 (x : Int))) (hx : x < 128) :
    Calls Tryd.prog 88 #[.agg #[.bool false, .slice (some ⟨q, off, none⟩) 1 c, is], .int .i64 1] w fun e w' => e = .returned (.slice none 0 0) ∧ Fr [] w w' := by
  have hc1 : (w.alloc (.cells #[.bool false, .slice (some ⟨q, off, none⟩) 1 c, is] 85)).cell? ⟨q, off, none⟩ = some (.int .u8 (x : Int)) := by
    rw [World.cell?_of_block (w := w) (blk_old w _ (World.block_lt_of_cell? w _ hc))]; exact hc
  clear hc
  go_enter Tryd.func88, Tryd.ntmps88
  go_wp2
  go_ret
  exact ⟨rfl, (Fr.refl _ _).alloc _⟩
end Go.Proofs.YtdcocgjlfhicaaaDoor
namespace Go.Proofs.YtdcocgjlfhicaaaDoor
open Go.ChangeShapes Go.WideShapes Go.ChangeAt Go.RowKit

/-- A value that is an item, as deep as it is looked at. -/
def IsV (w : World) : (n : Nat) → Value → Tr n → Prop
  | 0, v, _ => ∃ l a1 n1 c1 a2 n2 c2, v = .agg #[.bool l, .slice a1 n1 c1, .slice a2 n2 c2]
  | n + 1, v, t => ∃ bs ka kc, v = .agg #[.bool (tL t), bs, .slice ka (tK t).length kc] ∧ Rd w bs (bv (tB t)) ∧ By (tB t) ∧ (tB t).length ≤ 140737488355328 ∧ (tK t).length ≤ kc ∧ (tK t).length ≤ 140737488355328 ∧
      (0 < (tK t).length → ∃ kb ko, ka = some ⟨kb, ko, none⟩ ∧ ∀ (j : Nat) (k : Tr n), (tK t)[j]? = some k → ∃ l bs' is', w.cell? ⟨kb, ko + j * 3, none⟩ = some (.bool l) ∧ w.cell? ⟨kb, ko + j * 3 + 1, none⟩ = some bs' ∧ w.cell? ⟨kb, ko + j * 3 + 2, none⟩ = some is' ∧ IsV w n (.agg #[.bool l, bs', is']) k)

theorem cell_fr {w w' : World} {a : Addr} {v : Value} (h : w.cell? a = some v) (f : Fr [] w w') : w'.cell? a = some v := by
  rw [World.cell?_of_block (w := w) (f.block _ (World.block_lt_of_cell? w _ h) (by simp))]; exact h
theorem IsV.fr : ∀ {n : Nat} {w w' : World} {v : Value} {t : Tr n}, IsV w n v t → Fr [] w w' → IsV w' n v t
  | 0, _, _, _, _, h, _ => h
  | n + 1, w, w', v, t, h, f => by
    obtain ⟨bs, ka, kc, h1, h2, h3, h4, h5, h5', h6⟩ := h
    refine ⟨bs, ka, kc, h1, h2.fr f, h3, h4, h5, h5', fun h0 => ?_⟩
    obtain ⟨kb, ko, e, h7⟩ := h6 h0
    refine ⟨kb, ko, e, fun j k hj => ?_⟩
    obtain ⟨l, b', i', c1, c2, c3, c4⟩ := h7 j k hj
    exact ⟨l, b', i', cell_fr c1 f, cell_fr c2 f, cell_fr c3 f, c4.fr f⟩
theorem IsV.byT : ∀ {n : Nat} {w : World} {v : Value} {t : Tr n}, IsV w n v t → byT n t
  | 0, _, _, _, _ => trivial
  | n + 1, w, v, t, h => by
    obtain ⟨bs, ka, kc, h1, h2, h3, h4, h5, h5', h6⟩ := h
    refine ⟨h3, fun k hk => ?_⟩
    obtain ⟨j, hj⟩ := List.getElem?_of_mem hk
    have h0 : 0 < (tK t).length := List.length_pos_of_mem hk
    obtain ⟨kb, ko, e, h7⟩ := h6 h0
    obtain ⟨l, b', i', c1, c2, c3, c4⟩ := h7 j k hj
    exact c4.byT
/-- An item in three cells. -/
theorem IsV.agg {n : Nat} {w : World} {v : Value} {t : Tr n} (h : IsV w n v t) : ∃ l a1 n1 c1 a2 n2 c2, v = .agg #[.bool l, .slice a1 n1 c1, .slice a2 n2 c2] := by
  cases n with
  | zero => exact h
  | succ n =>
    obtain ⟨bs, ka, kc, h1, h2, _⟩ := h
    obtain ⟨a, c, rfl⟩ := h2.form
    exact ⟨_, _, _, _, _, _, _, h1⟩
theorem IsV.cells {n : Nat} {w : World} {l : Bool} {bs is : Value} {t : Tr n} (h : IsV w n (.agg #[.bool l, bs, is]) t) : ∃ a1 n1 c1 a2 n2 c2, bs = .slice a1 n1 c1 ∧ is = .slice a2 n2 c2 := by
  obtain ⟨l', a1, n1, c1, a2, n2, c2, e⟩ := h.agg
  simp only [Value.agg.injEq, Array.mk.injEq, List.cons.injEq] at e
  exact ⟨a1, n1, c1, a2, n2, c2, e.2.1, e.2.2.1⟩

set_option maxRecDepth 20000 in
theorem gate_no (w : World) {g d c : Nat} (hg : w.heap[g]? = some (.cells #[.int .i64 (c : Int)] 3 (0, 0))) (h : 16 < d ∨ c = 4096) (hd : d ≤ 100000) :
    Calls Tryd.prog 105 #[.int .i64 (d : Int), .pointer (some ⟨g, 0, none⟩)] w fun e w' => e = .returned (.int .i64 43) ∧ w' = w := by
  have hc := blk_cell hg 0
  simp at hc
  by_cases h1 : 16 < d
  · go_enter Tryd.func105, Tryd.ntmps105
    go_wp2
    go_ret
    exact ⟨rfl, rfl⟩
  · have h2 : c = 4096 := by omega
    subst h2
    go_enter Tryd.func105, Tryd.ntmps105
    go_wp2
    go_ret
    exact ⟨rfl, rfl⟩
set_option maxRecDepth 20000 in
theorem gate_yes (w : World) {g d c : Nat} (hg : w.heap[g]? = some (.cells #[.int .i64 (c : Int)] 3 (0, 0))) (h : d ≤ 16) (hc : c < 4096) :
    Calls Tryd.prog 105 #[.int .i64 (d : Int), .pointer (some ⟨g, 0, none⟩)] w fun e w' => e = .returned (.int .i64 0) ∧ w'.heap[g]? = some (.cells #[.int .i64 ((c + 1 : Nat) : Int)] 3 (0, 0)) ∧ Fr [g] w w' := by
  have hc1 := blk_cell hg 0
  have hf1 := blk_frozen hg 0
  simp at hc1
  have hz : ((c : Int) == 4096) = false := beq_eq_false_iff_ne.2 (by omega)
  have H : Hid ((w.setCell ⟨g, 0, none⟩ (.int .i64 ((c : Int) + 1))).heap[g]? = some (.cells #[.int .i64 ((c + 1 : Nat) : Int)] 3 (0, 0))) := by
    unfold Hid; rw [blk_set hg]; simp
  go_enter Tryd.func105, Tryd.ntmps105
  go_wp2
  go_ret
  exact ⟨rfl, H.out, (Fr.refl _ _).set _ _ (.inl (by simp))⟩
end Go.Proofs.YtdcocgjlfhicaaaDoor
