/-
  What Permute answers.
-/
import Derived.Test.YtmpfnglcmaollaaDoorJ17
import Derived.Test.YtmpfnglcmaollaaDoorJ16
import Derived.Deep.RegionWith
import Derived.Laws.ResultCell
namespace Go.Proofs.YtmpfnglcmaollaaDoor
open Go.ChangeShapes Go.WideShapes Go.ChangeAt Go.RowKit

set_option maxRecDepth 20000 in
set_option maxHeartbeats 400000 in
theorem permute_c (w : World) (T : Tabs w) (f : Nat → BitVec 64) :
    Calls Tryd.prog 108 #[.agg (vals 25 f)] w fun e w' => e = .returned (.agg (vals 25 (perm 24 f))) ∧ Fr [] w w' := by
  have HT := hid T
  have h3 := T.lt
  clear T
  go_enter Tryd.func108, Tryd.ntmps108
  go_upto_region 1 with fail
  obtain ⟨w1, hw1, hb, hz, hf, hs⟩ := start2 w f
  rw [zero25, hw1]
  have HB := hid hb
  have HZ := hid hz
  have HF := hid hf
  clear hw1 hb hz hf hs
  go_wp2
  go_loopw [4] (fun v4 wr => ∃ t : Nat, t ≤ 24 ∧ v4 = .int .i64 (t : Int) ∧ wr.heap[w.heap.size]? = some (.cells (vals 25 (perm t f)) 96 (0, 0)) ∧ wr.heap[w.heap.size + 1]? = some (.cells (vals 25 (fun _ => 0)) 96 (0, 0)) ∧ Fr [] w wr) (fun v4 _ => 24 - (intOf v4).toNat)
  case atStart => exact ⟨0, by omega, rfl, HB.out, HZ.out, HF.out⟩
  case round =>
    clear HB HZ HF
    obtain ⟨t, ht, rfl, hb, hz, hfr⟩ := hrel
    have HB := hid hb
    have HZ := hid hz
    have HF := hid hfr
    clear hz hfr
    by_cases hlt : t < 24
    · clear hb
      go_upto_region 4 with fail
      apply wp_region_lit
      refine wpList_ld rfl (.tmp 1) rfl HB.out (by simp [Act.eval]) ?_
      go_wp2_with fail
      refine (mixColumns_c _ _).mono ?_
      rintro e wa ⟨rfl, fa⟩
      go_wp2_with fail
      refine (moveLanes_c _ (HT.out.fr (HF.out.trans fa)) _).mono ?_
      rintro e wb ⟨rfl, fb⟩
      go_wp2_with fail
      refine (mixRows_c _ _).mono ?_
      rintro e wc ⟨rfl, fc⟩
      have FA := hid ((fa.trans fb).trans fc)
      have hbc := FA.out.at HB.out (by simp)
      have hzc := FA.out.at HZ.out (by simp)
      rename_i hK
      refine hK _ _ ?_
      refine wpList_st (g := chi (rho (theta (perm t f)))) rfl (.tmp 1) (.tmp 10) rfl hbc (by simp [Act.eval]) (by simp [Act.eval]) ?_
      have hr := row_heap (g := chi (rho (theta (perm t f)))) hbc
      have RH := hid hr
      have RZ := hid ((row_ne wc (vals 25 (chi (rho (theta (perm t f))))) (show w.heap.size + 1 ≠ w.heap.size by omega)).trans hzc)
      have RF := hid ((HF.out.trans FA.out).row (vals 25 (chi (rho (theta (perm t f))))) (.inr (Nat.le_refl w.heap.size)))
      clear hr hK hbc hzc FA fa fb fc HB HZ HF
      generalize World.setRow wc w.heap.size (vals 25 (chi (rho (theta (perm t f))))) = w2 at RH RZ RF ⊢
      have e1 := lane_at RH.out (i := 0) (by omega)
      have e2 := (HT.out.fr RF.out).con t hlt
      have fz := blk_frozen RH.out
      have HV := hid (rnd_of (r := t) (f := perm t f) (g := chi (rho (theta (perm t f)))) fun i _ => rfl)
      generalize chi (rho (theta (perm t f))) = g at *
      go_wp2
      go_region
      all_goals go_wp2
      all_goals go_roundw
      all_goals first
        | (simp [intOf]; omega)
        | (simp only [bits_xor]
           refine ⟨t + 1, by omega, by go_num, (blk_drew _ _).trans (blk_as (blk_up RH.out 0 _) fun i hi => HV.out i hi), (blk_drew _ _).trans ((blk_setne _ _ _ (by omega)).trans RZ.out), (RF.out.set _ _ (.inr (Nat.le_refl _))).drew⟩)
    · have ht24 : t = 24 := by omega
      subst ht24
      clear hb
      go_upto_region 7 with fail
      apply wp_region_lit
      refine wpList_ld rfl (.tmp 1) rfl HB.out (by simp [Act.eval]) ?_
      refine wpList_st (g := perm 24 f) rfl (.tmp 2) (.tmp 19) rfl HZ.out (by simp [Act.eval, Act.put]) (by simp [Act.eval, Act.put]) ?_
      have RH := hid (row_heap (g := perm 24 f) HZ.out)
      have RF := hid (HF.out.row (vals 25 (perm 24 f)) (.inr (Nat.le_succ w.heap.size)))
      generalize World.setRow _ (w.heap.size + 1) (vals 25 (perm 24 f)) = w2 at RH RF ⊢
      go_wp2
      exact bodyPost_ret (v := .agg (vals 25 (perm 24 f))) (ret25 rfl RH.out rfl) rfl ⟨rfl, RF.out⟩
end Go.Proofs.YtmpfnglcmaollaaDoor
namespace Go.Proofs.YtmpfnglcmaollaaDoor
open Go.ChangeShapes Go.WideShapes Go.ChangeAt Go.RowKit

theorem info136 : (Tryd.prog.info? 118).map (·.size) = some 136 := by kernel_rfl
theorem infoSp : (Tryd.prog.info? 120).map (·.size) = some 162 := by kernel_rfl
theorem build136 (w : World) : (Instr.build 118 #[]).run Tryd.prog w = .ok (.agg (b8vals (fun _ => 0))) w := by kernel_rfl
theorem b8_one (g : Nat → BitVec 8) : (b8vals g).all (·.oneCell') = true := by
  rw [Array.all_eq_true]
  intro i hi
  simp only [b8vals, bvals, Array.getElem_ofFn]
  rfl
theorem IsSp.there {w : World} {p : Nat} {s : Sp} (h : IsSp w p s) {o n : Nat} (hn : o + n ≤ 162) : w.there p o n := fun j hj => by
  refine ⟨?_, h.fz _⟩
  rw [blk_cell h, spc_at _ _ _ (by omega)]; rfl
/-- The lanes out of a sponge. -/
theorem wpList_ldS {ops : Array Oper} {rest : List Oper} {op : Oper} {a : Act} {w : World} {Q : Exit → Act → World → Prop} (hgd : op.guard = none) (x : Operand) (ho : op.op = .load 96 x) {p : Nat} {s : Sp} (h0 : IsSp w p s)
    (hx : a.eval x = .pointer (some ⟨p, 0, none⟩)) (h : wpList Tryd.prog ops Q rest (a.put op.dst (.agg (vals 25 s.f))) w) : wpList Tryd.prog ops Q (op :: rest) a w := by
  have hr : w.rangeAt p 0 (vals 25 s.f).toList := fun j v hv => by
    rw [Array.getElem?_toList] at hv
    have hj : j < 25 := by
      rcases Nat.lt_or_ge j 25 with h | h
      · exact h
      · rw [Array.getElem?_eq_none (by rw [vals_size]; omega)] at hv; cases hv
    rw [Nat.zero_add, h0.lane hj, ← hv, vals_at _ hj]; rfl
  have := wpList_load_mid (P := Tryd.prog) (ops := ops) (rest := rest) (Q := Q) hgd 96 x ho p 0 hx (vals 25 s.f).toList _ hr Tryd.underlying96 rfl (by rw [Array.length_toList, vals_size]; exact info25)
  rw [Array.toArray_toList] at this
  exact this h
/-- Lanes into a sponge. -/
theorem wpList_stS {ops : Array Oper} {rest : List Oper} {op : Oper} {a : Act} {w : World} {Q : Exit → Act → World → Prop} (hgd : op.guard = none) (x y : Operand) (ho : op.op = .store 96 x y) {p : Nat} {s : Sp} (h0 : IsSp w p s) (F : Nat → BitVec 64)
    (hx : a.eval x = .pointer (some ⟨p, 0, none⟩)) (hy : a.eval y = .agg (vals 25 F)) (h : wpList Tryd.prog ops Q rest (a.put op.dst undef) (w.setCells p 0 (vals 25 F).toList)) : wpList Tryd.prog ops Q (op :: rest) a w :=
  wpList_store_mid (P := Tryd.prog) hgd 96 x y ho p 0 (vals 25 F) hx hy (h0.there (by rw [vals_size]; omega)) (by rw [vals_size]; exact info25) (vals_one _ _) h
/-- A block into a sponge. -/
theorem wpList_stB {ops : Array Oper} {rest : List Oper} {op : Oper} {a : Act} {w : World} {Q : Exit → Act → World → Prop} (hgd : op.guard = none) (x y : Operand) (ho : op.op = .store 118 x y) {p : Nat} {s : Sp} (h0 : IsSp w p s) (G : Nat → BitVec 8)
    (hx : a.eval x = .pointer (some ⟨p, 25, none⟩)) (hy : a.eval y = .agg (b8vals G)) (h : wpList Tryd.prog ops Q rest (a.put op.dst undef) (w.setCells p 25 (b8vals G).toList)) : wpList Tryd.prog ops Q (op :: rest) a w :=
  wpList_store_mid (P := Tryd.prog) hgd 118 x y ho p 25 (b8vals G) hx hy (h0.there (by rw [b8vals, bvals_size]; omega)) (by rw [b8vals, bvals_size]; exact info136) (b8_one _) h
theorem wpList_build136 {ops : Array Oper} {rest : List Oper} {op : Oper} {a : Act} {w : World} {Q : Exit → Act → World → Prop} (hgd : op.guard = none) (ho : op.op = .build 118 #[])
    (h : wpList Tryd.prog ops Q rest (a.put op.dst (.agg (b8vals (fun _ => 0)))) w) : wpList Tryd.prog ops Q (op :: rest) a w := by
  refine wpList_plain hgd fun K hK => ?_
  unfold Oper.wp execOp
  simp only [ho, Array.map_empty, Sem.run_bind, build136, Result.andThen_ok, Sem.run_pure]
  rw [Oper.upon_value]
  exact hK _ _ h
/-- One operation that hands a value on. -/
theorem wpList_val {ops : Array Oper} {rest : List Oper} {o : Oper} {a : Act} {w w' : World} {v : Value} {Q : Exit → Act → World → Prop} (hg : o.guard = none) (h0 : (execOp a.eval o).run Tryd.prog w = .ok (.value v) w')
    (h : wpList Tryd.prog ops Q rest (a.put o.dst v) w') : wpList Tryd.prog ops Q (o :: rest) a w :=
  wpList_plain hg fun K hK => by unfold Oper.wp; rw [h0, Oper.upon_value]; exact hK _ _ h
def absTo (f : Nat → BitVec 64) (g : Nat → BitVec 8) (k : Nat) : Nat → BitVec 64 := fun i => if i < k then f i ^^^ laneO g (8 * i) 8 else f i
theorem absTo_step (f : Nat → BitVec 64) (g : Nat → BitVec 8) (k : Nat) : up (absTo f g k) k (f k ^^^ laneO g (8 * k) 8) = absTo f g (k + 1) := by
  funext i
  unfold up absTo
  by_cases h : i = k
  · rw [if_pos h, if_pos (by omega), h]
  · rw [if_neg h]
    by_cases h1 : i < k
    · rw [if_pos h1, if_pos (by omega)]
    · rw [if_neg h1, if_neg (by omega)]
theorem Tabs.fr1 {w w' : World} (h : Tabs w) {S : List Nat} (f : Fr S w w') (hS : ∀ k ∈ S, 3 ≤ k) : Tabs w' := by
  have keep : ∀ b i v, b < 3 → w.cell? ⟨b, i, none⟩ = some v → w'.cell? ⟨b, i, none⟩ = some v := fun b i v hb hv => by
    rw [World.cell?_of_block (w := w) (f.block _ (World.block_lt_of_cell? w _ hv) (fun e => by have := hS _ e; simp at this; omega))]; exact hv
  exact ⟨fun i hi => keep _ _ _ (by omega) (h.con i hi), fun i hi => keep _ _ _ (by omega) (h.wal i hi), fun i hi => keep _ _ _ (by omega) (h.tur i hi)⟩

set_option maxRecDepth 20000 in
set_option maxHeartbeats 400000 in
theorem takeIn_c (w : World) (T : Tabs w) {p : Nat} (hp : 3 ≤ p) {s : Sp} (h : IsSp w p s) :
    Calls Tryd.prog 88 #[.pointer (some ⟨p, 0, none⟩)] w fun e w' => e = .returned (.tuple #[]) ∧ IsSp w' p ⟨ab s.f s.g, fun _ => 0, 0⟩ ∧ Fr [p] w w' := by
  have HT := hid T
  have HS := hid h
  clear T h
  go_enter Tryd.func88, Tryd.ntmps88
  go_wp2
  go_loopw [3] (fun v3 wr => ∃ k : Nat, k ≤ 17 ∧ v3 = .int .i64 (k : Int) ∧ IsSp wr p ⟨absTo s.f s.g k, s.g, s.n⟩ ∧ Fr [p] w wr) (fun v3 _ => 17 - (intOf v3).toNat)
  case atStart => exact ⟨0, by omega, rfl, HS.out, Fr.refl _ _⟩
  case round =>
    clear HS
    obtain ⟨k, hk, rfl, h, hf⟩ := hrel
    have HS := hid h
    have HF := hid hf
    by_cases hlt : k < 17
    · have e0 := h.lane (i := k) (by omega)
      have fz := h.fz
      have HL := hid (fun wx (hx : IsSp wx p ⟨absTo s.f s.g k, s.g, s.n⟩) => lane_c wx hx hlt)
      clear h hf
      have hv : bits .xor .u64 ((absTo s.f s.g k k).toNat : Int) ((laneO s.g (8 * k) 8).toNat : Int) = ((s.f k ^^^ laneO s.g (8 * k) 8).toNat : Int) := by
        rw [bits_xor, show absTo s.f s.g k k = s.f k from by unfold absTo; rw [if_neg (by omega)]]
      have HV := hid hv
      clear hv
      go_wp2
      have hwk : IntKind.i64.wrap (8 * (k : Int)) = 8 * (k : Int) := by rw [IntKind.wrap_i64]; omega
      have hsl := sliceB wr.drew p (8 * k) (by omega)
      rw [show ((8 * k : Nat) : Int) = 8 * (k : Int) from by omega] at hsl
      go_region_with (go_at_call 107; refine (HL.out wr.drew HS.out).mono ?_; rintro e w' ⟨rfl, rfl⟩)
      all_goals go_wp2
      all_goals go_roundw
      all_goals first
        | (simp [intOf]; omega)
        | (rw [HV.out]
           refine ⟨k + 1, by omega, by go_num, ?_, ?_⟩
           · have := HS.out.setLane (k := k) (by omega) (s.f k ^^^ laneO s.g (8 * k) 8)
             simp only [absTo_step] at this
             exact this
           · exact (HF.out.set _ _ (.inl (by simp))).drew)
    · have hk17 : k = 17 := by omega
      subst hk17
      have HA : Hid (IsSp wr p ⟨absorb s.f s.g, s.g, s.n⟩) := h
      clear h hf HS
      go_upto_region 5 with fail
      apply wp_region_lit
      refine wpList_val (v := .pointer (some ⟨p, 0, none⟩)) (w' := wr) rfl (by go_simp) ?_
      refine wpList_val (v := .pointer (some ⟨p, 0, none⟩)) (w' := wr) rfl (by go_simp) ?_
      refine wpList_val (v := .pointer (some ⟨p, 0, none⟩)) (w' := wr) rfl (by go_simp) ?_
      refine wpList_val (v := .pointer (some ⟨p, 0, none⟩)) (w' := wr) rfl (by go_simp) ?_
      refine wpList_ldS rfl (.tmp 27) rfl HA.out (by simp [Act.eval, Act.put]) ?_
      go_wp2_with fail
      refine (permute_c wr (HT.out.fr1 HF.out (by simpa using hp)) _).mono ?_
      rintro e wa ⟨rfl, fa⟩
      have HA2 := hid (HA.out.fr fa (by simp))
      have HF2 := hid (HF.out.trans (fa.mono (by simp)))
      clear fa HF
      rename_i hK
      refine hK _ _ ?_
      refine wpList_val (v := .pointer (some ⟨p, 0, none⟩)) (w' := wa) rfl (by go_simp) ?_
      refine wpList_val (v := .pointer (some ⟨p, 0, none⟩)) (w' := wa) rfl (by go_simp) ?_
      refine wpList_stS rfl (.tmp 31) (.tmp 29) rfl HA2.out (perm 24 (absorb s.f s.g)) (by simp [Act.eval, Act.put]) (by simp [Act.eval, Act.put]) ?_
      have HB := hid (HA2.out.setLanes (perm 24 (absorb s.f s.g)))
      have HF3 := hid (Fr.cells (S := [p]) (b := p) (.inl (by simp)) (vals 25 (perm 24 (absorb s.f s.g))).toList 0 wa HF2.out)
      clear HA2 HF2 HA hK
      generalize wa.setCells p 0 (vals 25 (perm 24 (absorb s.f s.g))).toList = wb at HB HF3 ⊢
      go_upto_region 6 with fail
      apply wp_region_lit
      refine wpList_val (v := .pointer (some ⟨p, 0, none⟩)) (w' := wb) rfl (by go_simp) ?_
      refine wpList_build136 rfl rfl ?_
      refine wpList_val (v := .pointer (some ⟨p, 0, none⟩)) (w' := wb) rfl (by go_simp) ?_
      refine wpList_val (v := .pointer (some ⟨p, 25, none⟩)) (w' := wb) rfl (by go_simp) ?_
      refine wpList_stB rfl (.tmp 35) (.tmp 33) rfl HB.out (fun _ => 0) (by simp [Act.eval, Act.put]) (by simp [Act.eval, Act.put]) ?_
      have HC := hid (HB.out.setBlock (fun _ => 0))
      have HF4 := hid (Fr.cells (S := [p]) (b := p) (.inl (by simp)) (b8vals (fun _ => 0)).toList 25 wb HF3.out)
      clear HB HF3
      generalize wb.setCells p 25 (b8vals (fun _ => 0)).toList = wc at HC HF4 ⊢
      generalize b8vals (fun _ => 0) = zz
      have e1 := HC.out.fill
      have fz := HC.out.fz
      go_wp2
      refine bodyPost_end (v := .tuple #[]) (by simp [results]) rfl ⟨rfl, ?_, ?_⟩
      · exact HC.out.setFill 0
      · exact HF4.out.set _ _ (.inl (by simp))
end Go.Proofs.YtmpfnglcmaollaaDoor
namespace Go.Proofs.YtmpfnglcmaollaaDoor
open Go.ChangeShapes Go.WideShapes Go.ChangeAt Go.RowKit

theorem bvals_set (n : Nat) (f : Nat → Nat) (k x : Nat) : (bvals n f).setIfInBounds k (.int .u8 (x : Int)) = bvals n (up f k x) := by
  apply Array.ext_getElem?
  intro i
  rw [Array.getElem?_setIfInBounds, bvals_size]
  by_cases hi : i < n
  · rw [bvals_at _ hi, bvals_at _ hi]
    by_cases hk : k = i
    · subst hk; simp [hi, up_same]
    · rw [if_neg hk, up_ne _ _ (fun e => hk e.symm)]
  · have e1 : (bvals n f)[i]? = none := by rw [Array.getElem?_eq_none]; rw [bvals_size]; omega
    have e2 : (bvals n (up f k x))[i]? = none := by rw [Array.getElem?_eq_none]; rw [bvals_size]; omega
    rw [e1, e2]
    split
    · rename_i e; subst e; simp [hi]
    · rfl
theorem bvals_congr {n : Nat} {f g : Nat → Nat} (h : ∀ i, i < n → f i = g i) : bvals n f = bvals n g := by
  apply Array.ext_getElem?
  intro i
  by_cases hi : i < n
  · rw [bvals_at _ hi, bvals_at _ hi, h i hi]
  · rw [Array.getElem?_eq_none (by rw [bvals_size]; omega), Array.getElem?_eq_none (by rw [bvals_size]; omega)]
theorem bvals_one (n : Nat) (f : Nat → Nat) : (bvals n f).all (·.oneCell') = true := by
  rw [Array.all_eq_true]
  intro i hi
  simp only [bvals, Array.getElem_ofFn]
  rfl
theorem bblk_up {w : World} {b n : Nat} {g : Nat → Nat} {t : TypeId} (h : w.heap[b]? = some (.cells (bvals n g) t (0, 0))) (k x : Nat) :
    (w.setCell ⟨b, k, none⟩ (.int .u8 (x : Int))).heap[b]? = some (.cells (bvals n (up g k x)) t (0, 0)) := by
  have := blk_set h k (.int .u8 (x : Int))
  rw [bvals_set] at this
  exact this
theorem bblk_as {w : World} {b n : Nat} {f g : Nat → Nat} {t : TypeId} (h : w.heap[b]? = some (.cells (bvals n f) t (0, 0))) (e : ∀ i, i < n → f i = g i) : w.heap[b]? = some (.cells (bvals n g) t (0, 0)) := by
  rw [← bvals_congr e]; exact h
theorem byte_at {w : World} {b n : Nat} {f : Nat → Nat} {t : TypeId} (h : w.heap[b]? = some (.cells (bvals n f) t (0, 0))) {i : Nat} (hi : i < n) : w.cell? ⟨b, i, none⟩ = some (.int .u8 (f i : Int)) := by
  rw [blk_cell h, bvals_at _ hi]

theorem info32 : (Tryd.prog.info? 28).map (·.size) = some 32 := by kernel_rfl
theorem hUnd : Tryd.prog.underlying 28 = some (.array 32 5) := by kernel_rfl
theorem ldVar32 {w : World} {b : Nat} {f : Nat → Nat} {t : TypeId} (h : w.heap[b]? = some (.cells (bvals 32 f) t (0, 0))) : (loadVar 28 ⟨b, 0, none⟩).run Tryd.prog w = .ok (.agg (bvals 32 f)) w :=
  run_loadVar_row w b _ _ _ (0, 0) _ h hUnd rfl (by rw [bvals_size]; exact info32)
theorem stVar32 {w : World} {b : Nat} {f g : Nat → Nat} {t : TypeId} (h : w.heap[b]? = some (.cells (bvals 32 f) t (0, 0))) : (storeVar 28 ⟨b, 0, none⟩ (.agg (bvals 32 g))).run Tryd.prog w = .ok () (w.setRow b (bvals 32 g)) :=
  run_storeVar_row w b _ _ _ _ h (by rw [bvals_size]; exact info32) (by rw [bvals_size, bvals_size]) (bvals_one _ _)
theorem wpList_ldH {ops : Array Oper} {rest : List Oper} {op : Oper} {a : Act} {w : World} {Q : Exit → Act → World → Prop} (hgd : op.guard = none) (x : Operand) (ho : op.op = .load 28 x)
    {b : Nat} {f : Nat → Nat} {t : TypeId} (hb : w.heap[b]? = some (.cells (bvals 32 f) t (0, 0))) (hx : a.eval x = .pointer (some ⟨b, 0, none⟩)) (h : wpList Tryd.prog ops Q rest (a.put op.dst (.agg (bvals 32 f))) w) : wpList Tryd.prog ops Q (op :: rest) a w :=
  wpList_plain hgd fun K hK => by
    unfold Oper.wp execOp
    simp only [ho, hx, Instr.loadAt, Instr.sureAddr, Sem.run_bind, Sem.run_pure, Result.andThen_ok, ldVar32 hb]
    exact hK _ _ h
theorem wpList_stH {ops : Array Oper} {rest : List Oper} {op : Oper} {a : Act} {w : World} {Q : Exit → Act → World → Prop} (hgd : op.guard = none) (x y : Operand) (ho : op.op = .store 28 x y)
    {b : Nat} {f g : Nat → Nat} {t : TypeId} (hb : w.heap[b]? = some (.cells (bvals 32 f) t (0, 0))) (hx : a.eval x = .pointer (some ⟨b, 0, none⟩)) (hy : a.eval y = .agg (bvals 32 g)) (h : wpList Tryd.prog ops Q rest (a.put op.dst undef) (w.setRow b (bvals 32 g))) : wpList Tryd.prog ops Q (op :: rest) a w :=
  wpList_plain hgd fun K hK => by
    unfold Oper.wp execOp
    simp only [ho, hx, hy, Instr.storeAt, Instr.sureAddr, Sem.run_bind, Sem.run_pure, Result.andThen_ok, stVar32 (g := g) hb]
    exact hK _ _ h
theorem retH {fn : Func} {p : Tmp} (h : fn.results = #[.cell p 28]) {tmps : Array Value} {w : World} {b : Nat} {f : Nat → Nat} {t : TypeId} (hb : w.heap[b]? = some (.cells (bvals 32 f) t (0, 0))) (hp : tmps.getD p undef = .pointer (some ⟨b, 0, none⟩)) :
    (results fn tmps).run Tryd.prog w = .ok (.agg (bvals 32 f)) w :=
  results_cell_row h tmps w b t _ (0, 0) _ hp hb hUnd rfl (by rw [bvals_size]; exact info32)
theorem brow_heap {w : World} {b n : Nat} {f g : Nat → Nat} {t : TypeId} (h : w.heap[b]? = some (.cells (bvals n f) t (0, 0))) : (w.setRow b (bvals n g)).heap[b]? = some (.cells (bvals n g) t (0, 0)) := setRow_heap w b _ _ t _ h
theorem hb_val (f : Nat → BitVec 64) (k : Nat) : IntKind.u8.wrap (((f (k / 8)).toNat : Int) / 2 ^ (8 * (k % 8))) = (hb f k : Int) := by
  rw [IntKind.wrap_u8']
  unfold hb
  rw [show (((f (k / 8)).toNat : Int) / 2 ^ (8 * (k % 8))) = (((f (k / 8)).toNat / 2 ^ (8 * (k % 8)) : Nat) : Int) from by simp]
  omega
def hbTo (f : Nat → BitVec 64) (k : Nat) : Nat → Nat := fun i => if i < k then hb f i else 0
theorem hbTo_step (f : Nat → BitVec 64) (k : Nat) : up (hbTo f k) k (hb f k) = hbTo f (k + 1) := by
  funext i
  unfold up hbTo
  by_cases h : i = k
  · rw [if_pos h, if_pos (by omega), h]
  · rw [if_neg h]
    by_cases h1 : i < k
    · rw [if_pos h1, if_pos (by omega)]
    · rw [if_neg h1, if_neg (by omega)]

set_option maxRecDepth 20000 in
set_option maxHeartbeats 400000 in
theorem hash_c (w : World) {p : Nat} {s : Sp} (h : IsSp w p s) :
    Calls Tryd.prog 89 #[.pointer (some ⟨p, 0, none⟩)] w fun e w' => e = .returned (.agg (bvals 32 (hb s.f))) ∧ Fr [] w w' := by
  have hp := blk_lt h
  have HS := hid h
  clear h
  go_enter Tryd.func89, Tryd.ntmps89
  go_wp2
  go_loopw [5] (fun v5 wr => ∃ k : Nat, k ≤ 32 ∧ v5 = .int .i64 (k : Int) ∧ wr.heap[w.heap.size]? = some (.cells (bvals 32 (fun _ => 0)) 28 (0, 0)) ∧ wr.heap[w.heap.size + 1]? = some (.cells (bvals 32 (hbTo s.f k)) 28 (0, 0)) ∧ Fr [] w wr) (fun v5 _ => 32 - (intOf v5).toNat)
  case atStart =>
    refine ⟨0, by omega, rfl, ?_, ?_, ((Fr.refl _ _).alloc _).alloc _⟩
    · rw [blk_old _ _ (by simp)]; exact new_at _ _ rfl
    · exact bblk_as (f := fun _ => 0) (new_at _ _ (by simp)) fun i _ => by unfold hbTo; rw [if_neg (by omega)]
  case round =>
    obtain ⟨k, hk, rfl, hr, hh, hf⟩ := hrel
    have HR := hid hr
    have HH := hid hh
    have HF := hid hf
    by_cases hlt : k < 32
    · have e0 := (HS.out.fr hf (by simp)).lane (i := k / 8) (by omega)
      have e1 := byte_at hh (i := k) hlt
      have fz := blk_frozen hh
      have hv := hb_val s.f k
      have HST := hid (hbTo_step s.f k)
      clear hr hh hf
      go_wp2
      go_roundw
      case rel =>
        refine ⟨k + 1, by omega, by go_num, (blk_setne _ _ _ (by omega)).trans HR.out, ?_, HF.out.set _ _ (.inr (by omega))⟩
        rw [← HST.out]
        exact bblk_up HH.out k (hb s.f k)
      case measure => simp [intOf]; omega
    · have hk32 : k = 32 := by omega
      subst hk32
      have HE := hid (bblk_as hh (g := hb s.f) fun i hi => by unfold hbTo; rw [if_pos hi])
      clear hr hh hf
      go_upto_region 7 with fail
      apply wp_region_lit
      refine wpList_ldH rfl (.tmp 3) rfl HE.out (by simp [Act.eval]) ?_
      refine wpList_stH (g := hb s.f) rfl (.tmp 2) (.tmp 23) rfl HR.out (by simp [Act.eval, Act.put]) (by simp [Act.eval, Act.put]) ?_
      have RH := hid (brow_heap (g := hb s.f) HR.out)
      have RF := hid (HF.out.row (bvals 32 (hb s.f)) (.inr (Nat.le_refl w.heap.size)))
      generalize World.setRow _ w.heap.size (bvals 32 (hb s.f)) = w2 at RH RF ⊢
      go_wp2
      exact bodyPost_ret (v := .agg (bvals 32 (hb s.f))) (retH rfl RH.out rfl) rfl ⟨rfl, RF.out⟩
end Go.Proofs.YtmpfnglcmaollaaDoor
