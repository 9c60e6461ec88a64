/-
  RlpNumbers walked.
-/
import Derived.Test.YtbbaaegfbbjnjaaDoorNf
import Derived.Test.YtbbaaegfbbjnjaaDoorJ26
import Derived.Laws.StructEq
import Derived.Deep.CutRange
namespace Go.Proofs.YtbbaaegfbbjnjaaDoor
open Go.ChangeShapes Go.WideShapes Go.ChangeAt Go.RowKit

theorem run_eqArr {P : Program} (w : World) (d : Nat) (t e : TypeId) (n : Nat) (k : IntKind) (ht : P.underlying t = some (.array n e)) (he : P.underlying e = some (.int k)) (hsz : ∀ w, (sizeOf e).run P w = .ok 1 w)
    (xs ys : Array Value) (p q : Nat → Int) (hx : ∀ i, i < n → xs[i]? = some (.int k (p i))) (hy : ∀ i, i < n → ys[i]? = some (.int k (q i))) :
    (Op.equalIn (d + 2) t (.agg xs) (.agg ys)).run P w = .ok ((List.range' 0 n 1).all fun i => p i == q i) w := by
  rw [Op.equalIn]
  simp only [Sem.run_bind, run_underlying ht, Result.andThen_ok, hsz, Std.Legacy.Range.forIn_eq_forIn_range', Std.Legacy.Range.size, Nat.sub_zero, Nat.add_sub_cancel, Nat.div_one]
  have hl : ∀ i ∈ List.range' 0 n 1, i < n := fun i hi => by simpa using (List.mem_range'_1.1 hi).2
  generalize List.range' 0 n 1 = l at hl ⊢
  induction l with
  | nil => simp
  | cons i l ih =>
    have hi : i < n := hl i (by simp)
    have px : (part e xs (i * 1)).run P w = .ok (.int k (p i)) w := by
      simp [part, isAgg, run_underlying he, hx i hi]
    have py : (part e ys (i * 1)).run P w = .ok (.int k (q i)) w := by
      simp [part, isAgg, run_underlying he, hy i hi]
    have pe : (Op.equalIn (d + 1) e (.int k (p i)) (.int k (q i))).run P w = .ok (p i == q i) w := by
      rw [run_equalIn_int w d e k k _ _ he]
    simp only [List.forIn_cons, Sem.run_bind, px, py, pe, Result.andThen_ok, List.all_cons]
    cases hb : (p i == q i)
    · simp
    · simp only [Bool.not_true, Bool.false_eq_true, if_false, Sem.run_pure, Result.andThen_ok, Bool.true_and]
      exact ih fun j hj => hl j (by simp [hj])
theorem bv_get {l : List Nat} {i : Nat} (h : i < l.length) : (bv l).toArray[i]? = some (.int .u8 ((l.getD i 0 : Nat) : Int)) := by
  rw [List.getElem?_toArray]
  unfold bv
  rw [List.getElem?_map, List.getElem?_eq_getElem h]
  simp [List.getD, List.getElem?_eq_getElem h]
theorem eqInW (w : World) {l : List Nat} (h : l.length = 32) : (Op.equalIn 10000 24 (.agg (bv l).toArray) (.agg (bv l).toArray)).run Tryd.prog w = .ok true w := by
  rw [run_eqArr w 9998 24 5 32 .u8 Tryd.underlying24 Tryd.underlying5 (fun w => by kernel_rfl) _ _ (fun i => ((l.getD i 0 : Nat) : Int)) (fun i => ((l.getD i 0 : Nat) : Int)) (fun i hi => bv_get (by omega)) (fun i hi => bv_get (by omega))]
  congr 1
  rw [List.all_eq_true]
  intro i _
  simp
theorem eqlW (w : World) {l : List Nat} (h : l.length = 32) : (binOp .eql 24 (.agg (bv l).toArray) (.agg (bv l).toArray)).run Tryd.prog w = .ok (.bool true) w := by
  rw [run_eql_struct, eqInW w h]; rfl
theorem neqW (w : World) {l : List Nat} (h : l.length = 32) : (binOp .neq 24 (.agg (bv l).toArray) (.agg (bv l).toArray)).run Tryd.prog w = .ok (.bool false) w := by
  rw [run_neq_struct, eqInW w h]; rfl
theorem guardW : Tryd.prog.eqGuardType Tryd.prog.depth 24 = false := by kernel_rfl

theorem wpList_ldG {ops : Array Oper} {rest : List Oper} {op : Oper} {a : Act} {w : World} {Q : Exit → Act → World → Prop} (hw : Region.wanted op (yielded ops a.tmps) = true) (x : Operand) (ho : op.op = .load 24 x)
    {b : Nat} {l : List Nat} {t : TypeId} (hl : l.length = 32) (hb : w.heap[b]? = some (.cells (bv l).toArray t (0, 0))) (hx : a.eval x = .pointer (some ⟨b, 0, none⟩)) (h : wpList Tryd.prog ops Q rest (a.put op.dst (.agg (bv l).toArray)) w) : wpList Tryd.prog ops Q (op :: rest) a w :=
  wpList_step fun K hK => by
    simp only [hw, if_true]
    unfold Oper.wp execOp
    simp only [ho, hx, Instr.loadAt, Instr.sureAddr, Sem.run_bind, Sem.run_pure, Result.andThen_ok, ldW hl hb]
    exact hK _ _ h
theorem wpList_neG {ops : Array Oper} {rest : List Oper} {op : Oper} {a : Act} {w : World} {Q : Exit → Act → World → Prop} (hw : Region.wanted op (yielded ops a.tmps) = true) (x y : Operand) (ho : op.op = .binOp .neq 24 x y 24)
    {l : List Nat} (hl : l.length = 32) (hx : a.eval x = .agg (bv l).toArray) (hy : a.eval y = .agg (bv l).toArray) (h : wpList Tryd.prog ops Q rest (a.put op.dst (.bool false)) w) : wpList Tryd.prog ops Q (op :: rest) a w :=
  wpList_step fun K hK => by
    simp only [hw, if_true]
    unfold Oper.wp execOp
    simp only [ho, hx, hy, Sem.run_bind, Sem.run_pure, run_eqGuard_agg (P := Tryd.prog) _ _ _ _ _ _ _ guardW, Result.andThen_ok, neqW w hl]
    exact hK _ _ h
theorem wpList_eqG {ops : Array Oper} {rest : List Oper} {op : Oper} {a : Act} {w : World} {Q : Exit → Act → World → Prop} (hw : Region.wanted op (yielded ops a.tmps) = true) (x y : Operand) (ho : op.op = .binOp .eql 24 x y 24)
    {l : List Nat} (hl : l.length = 32) (hx : a.eval x = .agg (bv l).toArray) (hy : a.eval y = .agg (bv l).toArray) (h : wpList Tryd.prog ops Q rest (a.put op.dst (.bool true)) w) : wpList Tryd.prog ops Q (op :: rest) a w :=
  wpList_step fun K hK => by
    simp only [hw, if_true]
    unfold Oper.wp execOp
    simp only [ho, hx, hy, Sem.run_bind, Sem.run_pure, run_eqGuard_agg (P := Tryd.prog) _ _ _ _ _ _ _ guardW, Result.andThen_ok, eqlW w hl]
    exact hK _ _ h
theorem unL_none {b : List Nat} {m : Nat} (h : (unL b m).2 ≠ 0) : (unL b m).1 = [] := by
  revert h
  unfold unL
  rcases firstL b with e | ⟨t, k, c⟩
  · intro _; rfl
  · dsimp only
    split
    · intro _; rfl
    · split
      · intro _; rfl
      · split
        · intro _; rfl
        · intro h; exact absurd rfl h

set_option maxRecDepth 20000 in
set_option maxHeartbeats 6400000 in
theorem numbers_c (w : World) (n : Nat) (hn : n < 18446744073709551616) {l : List Nat} (hl : l.length = 32) (hlb : By l) {a : Option Addr} {L cc : Nat} {b : List Nat} (hr : Rd w (.slice a L cc) (bv b)) (hb : By b) (hL : b.length = L) (hLl : L ≤ 140737488355328) :
    Calls Tryd.prog 3 #[.int .u64 (n : Int), .agg (bv l).toArray, .slice a L cc] w fun e w' => e = .returned (.bool true) ∧ Fr [] w w' := by
  have HR := hid hr
  have HB := hid hb
  have HL := hid hL
  have HLL := hid hl
  have HLB := hid hlb
  clear hr hb hL hl hlb
  have HUU := hid (unL_uint hn)
  have HUW : Hid (unL (strL (dropZ l)) 32 = (dropZ l, 0)) := hid (unL_word HLL.out)
  have HPD : Hid (padL 32 (dropZ l) = l) := hid (by have := pad_drop l; rwa [HLL.out] at this)
  go_enter Tryd.func3, Tryd.ntmps3
  obtain ⟨W, hW⟩ : ∃ W, W = w.alloc (.cells (bv l).toArray 24) := ⟨_, rfl⟩
  have F : Hid (Fr [] w W) := hid (by rw [hW]; exact (Fr.refl _ w).alloc _)
  have X : Hid (W.heap[w.heap.size]? = some (.cells (bv l).toArray 24 (0, 0))) := hid (by rw [hW]; exact blk_new _ _)
  go_upto_region 1 with fail
  rw [← hW]
  clear hW
  go_wp2_with fail
  refine (known_c _).mono ?_
  rintro e w1 ⟨rfl, f1⟩
  have F1 := hid (F.out.trans f1)
  have X1 := hid (f1.at X.out (by simp))
  clear f1 X F
  go_upto_region 3 with fail
  obtain ⟨W1, hW1⟩ : ∃ W, W = w1.drew := ⟨_, rfl⟩
  have D1 : Hid (Fr [] w W1) := hid (by rw [hW1]; exact F1.out.drew)
  have Y1 : Hid (W1.heap[w.heap.size]? = some (.cells (bv l).toArray 24 (0, 0))) := hid (by rw [hW1]; exact X1.out)
  have UC := hid (uint_c W1 n hn)
  refine wp_region_held_drew (S := fun w' => w'.heap[w.heap.size]? = some (.cells (bv l).toArray 24 (0, 0))) (by kernel_rfl) (by rw [← hW1]; exact Y1.out) (fun hS => ?_)
  rw [← hW1] at hS ⊢
  clear hW1 F1 X1
  refine wpAnyH_take (i := 0) (v := .int .u64 (n : Int)) rfl (by kernel_rfl) (by kernel_rfl) (by kernel_rfl) (fun _ _ _ h => h) (.inl ⟨by rfl, fun wx _ => by go_simp⟩) hS ?_
  simp only [Act.put]
  refine wpAnyH_take (i := 2) (v := .agg (bv l).toArray) rfl (by kernel_rfl) (by kernel_rfl) (by kernel_rfl) (fun _ _ _ h => h) (.inl ⟨by rfl, fun wx hX => by unfold execOp; simp only [Act.eval, Instr.loadAt, Instr.sureAddr, List.getElem_toArray]; simp [ldW HLL.out hX]⟩) hS ?_
  simp only [Act.put]
  clear hS
  refine wpAnyH_ready (rs := [1]) (by kernel_rfl) (by simp) ?_
  refine AllReadyH.cons rfl (fun K hK => ?_) AllReadyH.nil
  go_simp
  refine UC.out.mono ?_
  rintro e w2 ⟨v2, rfl, o2, f2⟩
  obtain ⟨xa, xc, rfl, _⟩ := ownsRow_slice o2
  refine hK.out _ _ (f2.at Y1.out (by simp)) (fun _ => ?_)
  clear hK K
  have F2 := hid (D1.out.trans f2)
  have X2 := hid (f2.at Y1.out (by simp))
  have R2 := hid (Rd.ownB o2)
  clear o2 f2 UC
  have WC := hid (word_c w2 HLL.out HLB.out)
  refine wpAnyH_ready (rs := [3]) (by kernel_rfl) (by simp) ?_
  refine AllReadyH.cons rfl (fun K hK => ?_) AllReadyH.nil
  go_simp
  refine WC.out.mono ?_
  rintro e w3 ⟨v3, rfl, o3, f3⟩
  obtain ⟨ya, yc, rfl, _⟩ := ownsRow_slice o3
  refine hK.out _ _ (f3.at X2.out (by simp)) (fun hS => ?_)
  clear hK K
  have F3 := hid (F2.out.trans f3)
  have X3 := hid (f3.at X2.out (by simp))
  have RX3 := hid (R2.out.fr f3)
  have RY3 := hid (Rd.ownB o3)
  clear o3 f3 WC
  refine wpAnyH_take (i := 4) (v := .slice xa (strL (digs n)).length xc) rfl (by kernel_rfl) (by kernel_rfl) (by kernel_rfl) (fun _ _ _ h => h) (.inl ⟨by rfl, fun wx _ => by go_simp⟩) hS ?_
  simp only [Act.put]
  refine wpAnyH_take (i := 5) (v := .slice ya (strL (dropZ l)).length yc) rfl (by kernel_rfl) (by kernel_rfl) (by kernel_rfl) (fun _ _ _ h => h) (.inl ⟨by rfl, fun wx _ => by go_simp⟩) hS ?_
  simp only [Act.put]
  clear hS
  refine wpAnyH_done (by kernel_rfl) ?_ _
  obtain ⟨SX, hSX⟩ : ∃ S, S = strL (digs n) := ⟨_, rfl⟩
  obtain ⟨SY, hSY⟩ : ∃ S, S = strL (dropZ l) := ⟨_, rfl⟩
  have HSX := hid hSX
  have HSY := hid hSY
  rw [← hSX] at RX3 ⊢
  rw [← hSY] at RY3 ⊢
  clear hSX hSY R2 X2 F2 D1 Y1
  go_wp2_with fail
  refine (ruint_c w3 n hn).mono ?_
  rintro e w4 ⟨v4, rfl, o4, f4⟩
  rw [← HSX.out] at o4
  obtain ⟨za, zc, rfl, _⟩ := ownsRow_slice o4
  have F4 := hid (F3.out.trans f4)
  have X4 := hid (f4.at X3.out (by simp))
  have RX4 := hid (RX3.out.fr f4)
  have RY4 := hid (RY3.out.fr f4)
  have BB := hid (helpBytes_e RX4.out (Rd.ownB o4) rfl)
  clear o4 f4 F3 X3 RX3 RY3
  go_wp2_with fail
  refine BB.out.mono ?_
  rintro e w5 ⟨rfl, hw5⟩
  have hw5' := hw5.symm
  clear hw5
  subst hw5'
  clear BB
  go_wp2_with (with_reducible (show wpList Tryd.prog _ _ (_ :: _) _ _); refine wpList_ldG (by kernel_rfl) (.tmp 4) rfl HLL.out X4.out rfl ?_)
  refine (rword_c w4 HLL.out HLB.out).mono ?_
  rintro e w5 ⟨v5, rfl, o5, f5⟩
  rw [← HSY.out] at o5
  obtain ⟨ua, uc, rfl, _⟩ := ownsRow_slice o5
  have F5 := hid (F4.out.trans f5)
  have X5 := hid (f5.at X4.out (by simp))
  have RX5 := hid (RX4.out.fr f5)
  have RY5 := hid (RY4.out.fr f5)
  have BB := hid (helpBytes_e RY5.out (Rd.ownB o5) rfl)
  clear o5 f5 F4 X4 RX4 RY4
  go_wp2_with fail
  refine BB.out.mono ?_
  rintro e w6 ⟨rfl, hw6⟩
  have hw6' := hw6.symm
  clear hw6
  subst hw6'
  clear BB
  have HUX : Hid (unL SX 8 = (digs n, 0)) := hid (by rw [HSX.out]; exact HUU.out)
  have HUY : Hid (unL SY 32 = (dropZ l, 0)) := hid (by rw [HSY.out]; exact HUW.out)
  have HBX : Hid (By SX) := hid (by rw [HSX.out]; exact strL_by (digF_by 8 n))
  have HBY : Hid (By SY) := hid (by rw [HSY.out]; exact strL_by (dropZ_by HLB.out))
  have HLX : Hid (SX.length ≤ 140737488355328) := hid (by have := strL_len (digs n); have h8 : (digs n).length ≤ 8 := digF_len 8 n; rw [HSX.out]; omega)
  have HLY : Hid (SY.length ≤ 140737488355328) := hid (by have := strL_len (dropZ l); have := dropZ_len l; have := HLL.out; rw [HSY.out]; omega)
  have UX := unuint_c w5 RX5.out HBX.out HLX.out
  rw [HUX.out] at UX
  dsimp only at UX
  rw [show big (digs n) = n from digF_big 8 n (by rw [show (256 : Nat) ^ 8 = 18446744073709551616 from rfl]; exact hn)] at UX
  have UX := hid UX
  go_wp2_with fail
  refine UX.out.mono ?_
  rintro e w6 ⟨rfl, f6⟩
  have F6 := hid (F5.out.trans f6)
  have X6 := hid (f6.at X5.out (by simp))
  have RY6 := hid (RY5.out.fr f6)
  clear f6 F5 X5 RX5 RY5 UX
  have UY := unword_c w6 RY6.out HBY.out HLY.out
  rw [HUY.out] at UY
  dsimp only at UY
  rw [HPD.out] at UY
  have UY := hid UY
  go_wp2_with fail
  refine UY.out.mono ?_
  rintro e w7 ⟨rfl, f7⟩
  obtain ⟨Z, hZ⟩ : ∃ Z, Z = w7.heap.size := ⟨_, rfl⟩
  obtain ⟨W7, hW7⟩ : ∃ W, W = w7.alloc (.cells #[.int .u8 0, .int .u8 0, .int .u8 0, .int .u8 0, .int .u8 0, .int .u8 0, .int .u8 0, .int .u8 0, .int .u8 0, .int .u8 0, .int .u8 0, .int .u8 0, .int .u8 0, .int .u8 0, .int .u8 0, .int .u8 0, .int .u8 0, .int .u8 0, .int .u8 0, .int .u8 0, .int .u8 0, .int .u8 0, .int .u8 0, .int .u8 0, .int .u8 0, .int .u8 0, .int .u8 0, .int .u8 0, .int .u8 0, .int .u8 0, .int .u8 0, .int .u8 0] 24) := ⟨_, rfl⟩
  have N7 : Hid (W7.heap[Z]? = some (.cells (bv (List.replicate 32 0)).toArray 24 (0, 0))) := hid (by rw [hW7, hZ]; exact blk_new _ _)
  obtain ⟨w8, hw8⟩ : ∃ W, W = W7.setRow Z (bv l).toArray := ⟨_, rfl⟩
  have hz7 : w.heap.size + 1 ≤ Z := by rw [hZ]; exact blk_lt (f7.at X6.out (by simp))
  have F8 : Hid (Fr [] w w8) := hid (by rw [hw8, hW7]; exact ((F6.out.trans f7).alloc _).rowW _ (.inr (by omega)))
  have X8 : Hid (w8.heap[w.heap.size]? = some (.cells (bv l).toArray 24 (0, 0))) := hid (by rw [hw8, row_neW _ _ (by omega), hW7, blk_old _ _ (by omega)]; exact f7.at X6.out (by simp))
  have Z8 : Hid (w8.heap[Z]? = some (.cells (bv l).toArray 24 (0, 0))) := hid (by rw [hw8]; exact row_heapW N7.out)
  clear f7 F6 X6 RY6 UY
  by_cases hL3 : 3000 < L
  · have hL3' : (3000 : Int) < (L : Int) := by omega
    go_wp2_with (with_reducible (show wpList Tryd.prog _ _ (_ :: _) _ _); first | (rw [← hW7, ← hZ]; refine wpList_stW rfl (.tmp 11) (.tmp 43) rfl (by simp) HLL.out N7.out rfl rfl ?_; rw [← hw8]; clear hw8 hW7 hZ N7) | refine wpList_ldG (by kernel_rfl) (.tmp 11) rfl HLL.out Z8.out rfl ?_ | refine wpList_ldG (by kernel_rfl) (.tmp 4) rfl HLL.out X8.out rfl ?_ | refine wpList_neG (by kernel_rfl) (.tmp 57) (.tmp 58) rfl HLL.out rfl rfl ?_)
    go_ret
    exact ⟨rfl, F8.out⟩
  have hL3' : ¬ (3000 : Int) < (L : Int) := by omega
  go_wp2_with (with_reducible (show wpList Tryd.prog _ _ (_ :: _) _ _); first | (rw [← hW7, ← hZ]; refine wpList_stW rfl (.tmp 11) (.tmp 43) rfl (by simp) HLL.out N7.out rfl rfl ?_; rw [← hw8]; clear hw8 hW7 hZ N7) | refine wpList_ldG (by kernel_rfl) (.tmp 11) rfl HLL.out Z8.out rfl ?_ | refine wpList_ldG (by kernel_rfl) (.tmp 4) rfl HLL.out X8.out rfl ?_ | refine wpList_neG (by kernel_rfl) (.tmp 57) (.tmp 58) rfl HLL.out rfl rfl ?_)
  have RB8 : Hid (Rd w8 (.slice a L cc) (bv b)) := hid (HR.out.fr F8.out)
  have hbl : Hid (b.length ≤ 140737488355328) := hid (by rw [HL.out]; exact hLl)
  have HEM : Hid ((unL b 8).2 = 0 ∨ ((unL b 8).2 ≠ 0 ∧ big (unL b 8).1 = 0)) := hid (by
    by_cases h : (unL b 8).2 = 0
    · exact .inl h
    · exact .inr ⟨h, by rw [unL_none h]; rfl⟩)
  have HHP : Hid ((unL b 32).2 = 0 ∨ ((unL b 32).2 ≠ 0 ∧ padL 32 (unL b 32).1 = List.replicate 32 0)) := hid (by
    by_cases h : (unL b 32).2 = 0
    · exact .inl h
    · exact .inr ⟨h, by rw [unL_none h]; unfold padL; simp⟩)
  have HP : Hid ((padL 32 (unL b 32).1).length = 32) := hid (pad_len unL_le)
  have U1 := fun wx (hx : Rd wx (.slice a L cc) (bv b)) => unuint_c wx hx HB.out hbl.out
  have U2 := fun wx (hx : Rd wx (.slice a L cc) (bv b)) => runuint_c wx hx HB.out hbl.out
  have U3 := fun wx (hx : Rd wx (.slice a L cc) (bv b)) => unword_c wx hx HB.out hbl.out
  have U4 := fun wx (hx : Rd wx (.slice a L cc) (bv b)) => runword_c wx hx HB.out hbl.out
  generalize padL 32 (unL b 32).1 = P at HHP HP U3 U4
  generalize (unL b 32).2 = H at HHP U3 U4
  generalize big (unL b 8).1 = M at HEM U1 U2
  generalize (unL b 8).2 = E at HEM U1 U2
  have U1 := hid U1
  have U2 := hid U2
  have U3 := hid U3
  have U4 := hid U4
  clear HUU HUW HUX HUY HBX HBY HLX HLY
  refine (U1.out w8 RB8.out).mono ?_
  rintro e w9 ⟨rfl, f9⟩
  have F9 := hid (F8.out.trans f9)
  have Z9 := hid (f9.at Z8.out (by simp))
  clear f9 F8 X8 Z8 RB8
  go_wp2_with fail
  refine (U2.out w9 (HR.out.fr F9.out)).mono ?_
  rintro e w10 ⟨rfl, f10⟩
  have F10 := hid (F9.out.trans f10)
  have Z10 := hid (f10.at Z9.out (by simp))
  clear f10 F9 Z9
  go_wp2_with fail
  refine (U3.out w10 (HR.out.fr F10.out)).mono ?_
  rintro e w11 ⟨rfl, f11⟩
  have Z11 := hid (f11.at Z10.out (by simp))
  obtain ⟨w12, hw12⟩ : ∃ W, W = w11.setRow Z (bv P).toArray := ⟨_, rfl⟩
  have F12 : Hid (Fr [] w w12) := hid (by rw [hw12]; exact (F10.out.trans f11).rowW _ (.inr (by omega)))
  have Z12 : Hid (w12.heap[Z]? = some (.cells (bv P).toArray 24 (0, 0))) := hid (by rw [hw12]; exact row_heapW Z11.out)
  clear f11 F10 Z10
  go_wp2_with (with_reducible (show wpList Tryd.prog _ _ (_ :: _) _ _); refine wpList_stW rfl (.tmp 11) (.tmp 77) rfl HLL.out HP.out Z11.out rfl rfl ?_; rw [← hw12]; clear hw12 Z11)
  refine (U4.out w12 (HR.out.fr F12.out)).mono ?_
  rintro e w13 ⟨rfl, f13⟩
  obtain ⟨Y, hY⟩ : ∃ Y, Y = w13.heap.size := ⟨_, rfl⟩
  obtain ⟨W13, hW13⟩ : ∃ W, W = w13.alloc (.cells #[.int .u8 0, .int .u8 0, .int .u8 0, .int .u8 0, .int .u8 0, .int .u8 0, .int .u8 0, .int .u8 0, .int .u8 0, .int .u8 0, .int .u8 0, .int .u8 0, .int .u8 0, .int .u8 0, .int .u8 0, .int .u8 0, .int .u8 0, .int .u8 0, .int .u8 0, .int .u8 0, .int .u8 0, .int .u8 0, .int .u8 0, .int .u8 0, .int .u8 0, .int .u8 0, .int .u8 0, .int .u8 0, .int .u8 0, .int .u8 0, .int .u8 0, .int .u8 0] 24) := ⟨_, rfl⟩
  have N13 : Hid (W13.heap[Y]? = some (.cells (bv (List.replicate 32 0)).toArray 24 (0, 0))) := hid (by rw [hW13, hY]; exact blk_new _ _)
  obtain ⟨w14, hw14⟩ : ∃ W, W = W13.setRow Y (bv P).toArray := ⟨_, rfl⟩
  have hZY : Z + 1 ≤ Y := by rw [hY]; exact blk_lt (f13.at Z12.out (by simp))
  have F14 : Hid (Fr [] w w14) := hid (by rw [hw14, hW13]; exact ((F12.out.trans f13).alloc _).rowW _ (.inr (by omega)))
  have Z14 : Hid (w14.heap[Z]? = some (.cells (bv P).toArray 24 (0, 0))) := hid (by rw [hw14, row_neW _ _ (by omega), hW13, blk_old _ _ (by omega)]; exact f13.at Z12.out (by simp))
  have Y14 : Hid (w14.heap[Y]? = some (.cells (bv P).toArray 24 (0, 0))) := hid (by rw [hw14]; exact row_heapW N13.out)
  clear f13 F12 Z12
  go_upto_region 16 with (with_reducible (show wpList Tryd.prog _ _ (_ :: _) _ _); rw [← hW13, ← hY]; refine wpList_stW rfl (.tmp 15) (.tmp 82) rfl (by simp) HP.out N13.out rfl rfl ?_; rw [← hw14]; clear hw14 hW13 hY N13)
  rcases HEM.out with hE | ⟨hE, hM⟩
  · subst hE
    clear HEM
    rcases HHP.out with hH | ⟨hH, hP⟩
    · subst hH
      clear HHP U1 U2 U3 U4
      go_wp2_with (with_reducible (show wpList Tryd.prog _ _ (_ :: _) _ _); first | refine wpList_ldG (by kernel_rfl) (.tmp 11) rfl HP.out Z14.out rfl ?_ | refine wpList_ldG (by kernel_rfl) (.tmp 15) rfl HP.out Y14.out rfl ?_ | refine wpList_eqG (by kernel_rfl) (.tmp 103) (.tmp 104) rfl HP.out rfl rfl ?_)
      go_ret
      exact ⟨rfl, F14.out⟩
    · subst hP
      have hHz : ((H : Int) == 0) = false := beq_eq_false_iff_ne.2 (by omega)
      clear HHP U1 U2 U3 U4 hH
      obtain ⟨w15, hw15⟩ : ∃ W, W = w14.setRow Y (bv (List.replicate 32 0)).toArray := ⟨_, rfl⟩
      have F15 : Hid (Fr [] w w15) := hid (by rw [hw15]; exact F14.out.rowW _ (.inr (by omega)))
      have Z15 : Hid (w15.heap[Z]? = some (.cells (bv (List.replicate 32 0)).toArray 24 (0, 0))) := hid (by rw [hw15, row_neW _ _ (by omega)]; exact Z14.out)
      have Y15 : Hid (w15.heap[Y]? = some (.cells (bv (List.replicate 32 0)).toArray 24 (0, 0))) := hid (by rw [hw15]; exact row_heapW Y14.out)
      go_wp2_with (with_reducible (show wpList Tryd.prog _ _ (_ :: _) _ _); first | (refine wpList_stW rfl (.tmp 15) (.tmp 88) rfl HP.out HP.out Y14.out rfl rfl ?_; rw [← hw15]; clear hw15) | refine wpList_ldG (by kernel_rfl) (.tmp 11) rfl HP.out Z15.out rfl ?_ | refine wpList_ldG (by kernel_rfl) (.tmp 15) rfl HP.out Y15.out rfl ?_ | refine wpList_eqG (by kernel_rfl) (.tmp 103) (.tmp 104) rfl HP.out rfl rfl ?_)
      go_ret
      exact ⟨rfl, F15.out⟩
  · subst hM
    have hEz : ((E : Int) == 0) = false := beq_eq_false_iff_ne.2 (by omega)
    clear HEM hE
    rcases HHP.out with hH | ⟨hH, hP⟩
    · subst hH
      clear HHP U1 U2 U3 U4
      go_wp2_with (with_reducible (show wpList Tryd.prog _ _ (_ :: _) _ _); first | refine wpList_ldG (by kernel_rfl) (.tmp 11) rfl HP.out Z14.out rfl ?_ | refine wpList_ldG (by kernel_rfl) (.tmp 15) rfl HP.out Y14.out rfl ?_ | refine wpList_eqG (by kernel_rfl) (.tmp 103) (.tmp 104) rfl HP.out rfl rfl ?_)
      go_ret
      exact ⟨rfl, F14.out⟩
    · subst hP
      have hHz : ((H : Int) == 0) = false := beq_eq_false_iff_ne.2 (by omega)
      clear HHP U1 U2 U3 U4 hH
      obtain ⟨w15, hw15⟩ : ∃ W, W = w14.setRow Y (bv (List.replicate 32 0)).toArray := ⟨_, rfl⟩
      have F15 : Hid (Fr [] w w15) := hid (by rw [hw15]; exact F14.out.rowW _ (.inr (by omega)))
      have Z15 : Hid (w15.heap[Z]? = some (.cells (bv (List.replicate 32 0)).toArray 24 (0, 0))) := hid (by rw [hw15, row_neW _ _ (by omega)]; exact Z14.out)
      have Y15 : Hid (w15.heap[Y]? = some (.cells (bv (List.replicate 32 0)).toArray 24 (0, 0))) := hid (by rw [hw15]; exact row_heapW Y14.out)
      go_wp2_with (with_reducible (show wpList Tryd.prog _ _ (_ :: _) _ _); first | (refine wpList_stW rfl (.tmp 15) (.tmp 88) rfl HP.out HP.out Y14.out rfl rfl ?_; rw [← hw15]; clear hw15) | refine wpList_ldG (by kernel_rfl) (.tmp 11) rfl HP.out Z15.out rfl ?_ | refine wpList_ldG (by kernel_rfl) (.tmp 15) rfl HP.out Y15.out rfl ?_ | refine wpList_eqG (by kernel_rfl) (.tmp 103) (.tmp 104) rfl HP.out rfl rfl ?_)
      go_ret
      exact ⟨rfl, F15.out⟩
end Go.Proofs.YtbbaaegfbbjnjaaDoor
