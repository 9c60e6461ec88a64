/-
  What takeIn answers.
-/
import Derived.Test.YthmjglglbdlieaaDoorKL
import Derived.Test.YthmjglglbdlieaaDoorKP
import Derived.Deep.RegionWith
namespace Go.Proofs.YthmjglglbdlieaaDoor
open Go.ChangeShapes Go.WideShapes Go.ChangeAt Go.RowKit

theorem info136 : (Tryd.prog.info? 44).map (·.size) = some 136 := by kernel_rfl
theorem infoSp : (Tryd.prog.info? 46).map (·.size) = some 162 := by kernel_rfl
theorem build136 (w : World) : (Instr.build 44 #[]).run Tryd.prog w = .ok (.agg (b8vals (fun _ => 0))) w := by kernel_rfl
theorem b8_one (g : Nat → BitVec 8) : (b8vals g).all (·.oneCell') = true := by
  rw [Array.all_eq_true]
  intro i hi
  simp only [b8vals, bvals, Array.getElem_ofFn]
  rfl
theorem IsSp.there {w : World} {p : Nat} {s : Sp} (h : IsSp w p s) {o n : Nat} (hn : o + n ≤ 162) : w.there p o n := fun j hj => by
  refine ⟨?_, h.fz _⟩
  rw [blk_cell h, spc_at _ _ _ (by omega)]; rfl
/-- The lanes out of a sponge. -/
theorem wpList_ldS {ops : Array Oper} {rest : List Oper} {op : Oper} {a : Act} {w : World} {Q : Exit → Act → World → Prop} (hgd : op.guard = none) (x : Operand) (ho : op.op = .load 36 x) {p : Nat} {s : Sp} (h0 : IsSp w p s)
    (hx : a.eval x = .pointer (some ⟨p, 0, none⟩)) (h : wpList Tryd.prog ops Q rest (a.put op.dst (.agg (vals 25 s.f))) w) : wpList Tryd.prog ops Q (op :: rest) a w := by
  have hr : w.rangeAt p 0 (vals 25 s.f).toList := fun j v hv => by
    rw [Array.getElem?_toList] at hv
    have hj : j < 25 := by
      rcases Nat.lt_or_ge j 25 with h | h
      · exact h
      · rw [Array.getElem?_eq_none (by rw [vals_size]; omega)] at hv; cases hv
    rw [Nat.zero_add, h0.lane hj, ← hv, vals_at _ hj]; rfl
  have := wpList_load_mid (P := Tryd.prog) (ops := ops) (rest := rest) (Q := Q) hgd 36 x ho p 0 hx (vals 25 s.f).toList _ hr Tryd.underlying36 rfl (by rw [Array.length_toList, vals_size]; exact info25)
  rw [Array.toArray_toList] at this
  exact this h
/-- Lanes into a sponge. -/
theorem wpList_stS {ops : Array Oper} {rest : List Oper} {op : Oper} {a : Act} {w : World} {Q : Exit → Act → World → Prop} (hgd : op.guard = none) (x y : Operand) (ho : op.op = .store 36 x y) {p : Nat} {s : Sp} (h0 : IsSp w p s) (F : Nat → BitVec 64)
    (hx : a.eval x = .pointer (some ⟨p, 0, none⟩)) (hy : a.eval y = .agg (vals 25 F)) (h : wpList Tryd.prog ops Q rest (a.put op.dst undef) (w.setCells p 0 (vals 25 F).toList)) : wpList Tryd.prog ops Q (op :: rest) a w :=
  wpList_store_mid (P := Tryd.prog) hgd 36 x y ho p 0 (vals 25 F) hx hy (h0.there (by rw [vals_size]; omega)) (by rw [vals_size]; exact info25) (vals_one _ _) h
/-- A block into a sponge. -/
theorem wpList_stB {ops : Array Oper} {rest : List Oper} {op : Oper} {a : Act} {w : World} {Q : Exit → Act → World → Prop} (hgd : op.guard = none) (x y : Operand) (ho : op.op = .store 44 x y) {p : Nat} {s : Sp} (h0 : IsSp w p s) (G : Nat → BitVec 8)
    (hx : a.eval x = .pointer (some ⟨p, 25, none⟩)) (hy : a.eval y = .agg (b8vals G)) (h : wpList Tryd.prog ops Q rest (a.put op.dst undef) (w.setCells p 25 (b8vals G).toList)) : wpList Tryd.prog ops Q (op :: rest) a w :=
  wpList_store_mid (P := Tryd.prog) hgd 44 x y ho p 25 (b8vals G) hx hy (h0.there (by rw [b8vals, bvals_size]; omega)) (by rw [b8vals, bvals_size]; exact info136) (b8_one _) h
theorem wpList_build136 {ops : Array Oper} {rest : List Oper} {op : Oper} {a : Act} {w : World} {Q : Exit → Act → World → Prop} (hgd : op.guard = none) (ho : op.op = .build 44 #[])
    (h : wpList Tryd.prog ops Q rest (a.put op.dst (.agg (b8vals (fun _ => 0)))) w) : wpList Tryd.prog ops Q (op :: rest) a w := by
  refine wpList_plain hgd fun K hK => ?_
  unfold Oper.wp execOp
  simp only [ho, Array.map_empty, Sem.run_bind, build136, Result.andThen_ok, Sem.run_pure]
  rw [Oper.upon_value]
  exact hK _ _ h
/-- One operation that hands a value on. -/
theorem wpList_val {ops : Array Oper} {rest : List Oper} {o : Oper} {a : Act} {w w' : World} {v : Value} {Q : Exit → Act → World → Prop} (hg : o.guard = none) (h0 : (execOp a.eval o).run Tryd.prog w = .ok (.value v) w')
    (h : wpList Tryd.prog ops Q rest (a.put o.dst v) w') : wpList Tryd.prog ops Q (o :: rest) a w :=
  wpList_plain hg fun K hK => by unfold Oper.wp; rw [h0, Oper.upon_value]; exact hK _ _ h
def absTo (f : Nat → BitVec 64) (g : Nat → BitVec 8) (k : Nat) : Nat → BitVec 64 := fun i => if i < k then f i ^^^ laneO g (8 * i) 8 else f i
theorem absTo_step (f : Nat → BitVec 64) (g : Nat → BitVec 8) (k : Nat) : up (absTo f g k) k (f k ^^^ laneO g (8 * k) 8) = absTo f g (k + 1) := by
  funext i
  unfold up absTo
  by_cases h : i = k
  · rw [if_pos h, if_pos (by omega), h]
  · rw [if_neg h]
    by_cases h1 : i < k
    · rw [if_pos h1, if_pos (by omega)]
    · rw [if_neg h1, if_neg (by omega)]
theorem Tabs.fr1 {w w' : World} (h : Tabs w) {S : List Nat} (f : Fr S w w') (hS : ∀ k ∈ S, 3 ≤ k) : Tabs w' := by
  have keep : ∀ b i v, b < 3 → w.cell? ⟨b, i, none⟩ = some v → w'.cell? ⟨b, i, none⟩ = some v := fun b i v hb hv => by
    rw [World.cell?_of_block (w := w) (f.block _ (World.block_lt_of_cell? w _ hv) (fun e => by have := hS _ e; simp at this; omega))]; exact hv
  exact ⟨fun i hi => keep _ _ _ (by omega) (h.con i hi), fun i hi => keep _ _ _ (by omega) (h.wal i hi), fun i hi => keep _ _ _ (by omega) (h.tur i hi)⟩

set_option maxRecDepth 20000 in
set_option maxHeartbeats 400000 in
theorem takeIn_c (w : World) (T : Tabs w) {p : Nat} (hp : 3 ≤ p) {s : Sp} (h : IsSp w p s) :
    Calls Tryd.prog 15 #[.pointer (some ⟨p, 0, none⟩)] w fun e w' => e = .returned (.tuple #[]) ∧ IsSp w' p ⟨ab s.f s.g, fun _ => 0, 0⟩ ∧ Fr [p] w w' := by
  have HT := hid T
  have HS := hid h
  clear T h
  go_enter Tryd.func15, Tryd.ntmps15
  go_wp2
  go_loopw [3] (fun v3 wr => ∃ k : Nat, k ≤ 17 ∧ v3 = .int .i64 (k : Int) ∧ IsSp wr p ⟨absTo s.f s.g k, s.g, s.n⟩ ∧ Fr [p] w wr) (fun v3 _ => 17 - (intOf v3).toNat)
  case atStart => exact ⟨0, by omega, rfl, HS.out, Fr.refl _ _⟩
  case round =>
    clear HS
    obtain ⟨k, hk, rfl, h, hf⟩ := hrel
    have HS := hid h
    have HF := hid hf
    by_cases hlt : k < 17
    · have e0 := h.lane (i := k) (by omega)
      have fz := h.fz
      have HL := hid (fun wx (hx : IsSp wx p ⟨absTo s.f s.g k, s.g, s.n⟩) => lane_c wx hx hlt)
      clear h hf
      have hv : bits .xor .u64 ((absTo s.f s.g k k).toNat : Int) ((laneO s.g (8 * k) 8).toNat : Int) = ((s.f k ^^^ laneO s.g (8 * k) 8).toNat : Int) := by
        rw [bits_xor, show absTo s.f s.g k k = s.f k from by unfold absTo; rw [if_neg (by omega)]]
      have HV := hid hv
      clear hv
      go_wp2
      have hwk : IntKind.i64.wrap (8 * (k : Int)) = 8 * (k : Int) := by rw [IntKind.wrap_i64]; omega
      have hsl := sliceB wr.drew p (8 * k) (by omega)
      rw [show ((8 * k : Nat) : Int) = 8 * (k : Int) from by omega] at hsl
      go_region_with (go_at_call 21; refine (HL.out wr.drew HS.out).mono ?_; rintro e w' ⟨rfl, rfl⟩)
      all_goals go_wp2
      all_goals go_roundw
      all_goals first
        | (simp [intOf]; omega)
        | (rw [HV.out]
           refine ⟨k + 1, by omega, by go_num, ?_, ?_⟩
           · have := HS.out.setLane (k := k) (by omega) (s.f k ^^^ laneO s.g (8 * k) 8)
             simp only [absTo_step] at this
             exact this
           · exact (HF.out.set _ _ (.inl (by simp))).drew)
    · have hk17 : k = 17 := by omega
      subst hk17
      have HA : Hid (IsSp wr p ⟨absorb s.f s.g, s.g, s.n⟩) := h
      clear h hf HS
      go_upto_region 5 with fail
      apply wp_region_lit
      refine wpList_val (v := .pointer (some ⟨p, 0, none⟩)) (w' := wr) rfl (by go_simp) ?_
      refine wpList_val (v := .pointer (some ⟨p, 0, none⟩)) (w' := wr) rfl (by go_simp) ?_
      refine wpList_val (v := .pointer (some ⟨p, 0, none⟩)) (w' := wr) rfl (by go_simp) ?_
      refine wpList_val (v := .pointer (some ⟨p, 0, none⟩)) (w' := wr) rfl (by go_simp) ?_
      refine wpList_ldS rfl (.tmp 27) rfl HA.out (by simp [Act.eval, Act.put]) ?_
      go_wp2_with fail
      refine (permute_c wr (HT.out.fr1 HF.out (by simpa using hp)) _).mono ?_
      rintro e wa ⟨rfl, fa⟩
      have HA2 := hid (HA.out.fr fa (by simp))
      have HF2 := hid (HF.out.trans (fa.mono (by simp)))
      clear fa HF
      rename_i hK
      refine hK _ _ ?_
      refine wpList_val (v := .pointer (some ⟨p, 0, none⟩)) (w' := wa) rfl (by go_simp) ?_
      refine wpList_val (v := .pointer (some ⟨p, 0, none⟩)) (w' := wa) rfl (by go_simp) ?_
      refine wpList_stS rfl (.tmp 31) (.tmp 29) rfl HA2.out (perm 24 (absorb s.f s.g)) (by simp [Act.eval, Act.put]) (by simp [Act.eval, Act.put]) ?_
      have HB := hid (HA2.out.setLanes (perm 24 (absorb s.f s.g)))
      have HF3 := hid (Fr.cells (S := [p]) (b := p) (.inl (by simp)) (vals 25 (perm 24 (absorb s.f s.g))).toList 0 wa HF2.out)
      clear HA2 HF2 HA hK
      generalize wa.setCells p 0 (vals 25 (perm 24 (absorb s.f s.g))).toList = wb at HB HF3 ⊢
      go_upto_region 6 with fail
      apply wp_region_lit
      refine wpList_val (v := .pointer (some ⟨p, 0, none⟩)) (w' := wb) rfl (by go_simp) ?_
      refine wpList_build136 rfl rfl ?_
      refine wpList_val (v := .pointer (some ⟨p, 0, none⟩)) (w' := wb) rfl (by go_simp) ?_
      refine wpList_val (v := .pointer (some ⟨p, 25, none⟩)) (w' := wb) rfl (by go_simp) ?_
      refine wpList_stB rfl (.tmp 35) (.tmp 33) rfl HB.out (fun _ => 0) (by simp [Act.eval, Act.put]) (by simp [Act.eval, Act.put]) ?_
      have HC := hid (HB.out.setBlock (fun _ => 0))
      have HF4 := hid (Fr.cells (S := [p]) (b := p) (.inl (by simp)) (b8vals (fun _ => 0)).toList 25 wb HF3.out)
      clear HB HF3
      generalize wb.setCells p 25 (b8vals (fun _ => 0)).toList = wc at HC HF4 ⊢
      generalize b8vals (fun _ => 0) = zz
      have e1 := HC.out.fill
      have fz := HC.out.fz
      go_wp2
      refine bodyPost_end (v := .tuple #[]) (by simp [results]) rfl ⟨rfl, ?_, ?_⟩
      · exact HC.out.setFill 0
      · exact HF4.out.set _ _ (.inl (by simp))
end Go.Proofs.YthmjglglbdlieaaDoor
