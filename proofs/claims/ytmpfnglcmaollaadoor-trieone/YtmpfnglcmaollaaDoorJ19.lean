/-
  What Write, New and Sum of a sponge answer.
-/
import Derived.Test.YtmpfnglcmaollaaDoorJ18
import Derived.Test.YtmpfnglcmaollaaDoorJ01
namespace Go.Proofs.YtmpfnglcmaollaaDoor
open Go.ChangeShapes Go.WideShapes Go.ChangeAt Go.RowKit

/-- Bytes that can be read, and don't lie in block p. -/
def RdP (p : Nat) (w : World) (v : Value) (ns : List Nat) : Prop :=
  (ns = [] ∧ ∃ a c, v = .slice a 0 c) ∨ ∃ b off c, b ≠ p ∧ v = .slice (some ⟨b, off, none⟩) ns.length c ∧ ns.length ≤ c ∧ 0 < ns.length ∧ ∀ (j n : Nat), ns[j]? = some n → w.cell? ⟨b, off + j, none⟩ = some (.int .u8 (n : Int))
theorem RdP.of {p : Nat} {w : World} {v : Value} {ns : List Nat} (h : Rd w v (bv ns)) (hv : ∀ a l c, v = .slice (some a) l c → 0 < ns.length → a.block ≠ p) : RdP p w v ns := by
  rcases h.split with h | ⟨b, off, c, rfl, h1, h2, h3⟩
  · exact .inl h
  · exact .inr ⟨b, off, c, hv _ _ _ rfl h2, rfl, h1, h2, h3⟩
theorem RdP.rest {p : Nat} {w w' : World} {b off c k : Nat} {ms : List Nat} (hbp : b ≠ p) (hc : ms.length ≤ c) (hcell : ∀ (j n : Nat), ms[j]? = some n → w.cell? ⟨b, off + j, none⟩ = some (.int .u8 (n : Int))) (f : Fr [p] w w') (hk : k ≤ ms.length) :
    (c = k → RdP p w' (.slice (some ⟨b, off, none⟩) (ms.length - k) (c - k)) (ms.drop k)) ∧ RdP p w' (.slice (some ⟨b, off + k, none⟩) (ms.length - k) (c - k)) (ms.drop k) := by
  have hl : (ms.drop k).length = ms.length - k := List.length_drop
  refine ⟨fun e => .inl ⟨List.eq_nil_of_length_eq_zero (by omega), _, _, by rw [show ms.length - k = 0 by omega]⟩, ?_⟩
  by_cases h0 : ms.length = k
  · exact .inl ⟨List.eq_nil_of_length_eq_zero (by omega), _, _, by rw [show ms.length - k = 0 by omega]⟩
  · refine .inr ⟨b, off + k, c - k, hbp, by rw [hl], by omega, by omega, fun j n hj => ?_⟩
    rw [List.getElem?_drop] at hj
    have := hcell _ _ hj
    rw [show off + k + j = off + (k + j) by omega, World.cell?_of_block (w := w) (f.block _ (World.block_lt_of_cell? w _ this) (by simpa using hbp))]
    exact this
theorem copy_val (w : World) {p b off c k : Nat} {t : Sp} {ms : List Nat} (hs : IsSp w p t) (hn : t.n < 136) (hk : k = min ms.length (136 - t.n)) (hcell : ∀ (j n : Nat), ms[j]? = some n → w.cell? ⟨b, off + j, none⟩ = some (.int .u8 (n : Int))) :
    (Builtin.copy_ #[33, 33] 3 #[.slice (some ⟨p, 25 + t.n, none⟩) (136 - t.n) (136 - t.n), .slice (some ⟨b, off, none⟩) ms.length c]).run Tryd.prog w = .ok (.int .i64 (k : Int)) (w.setCells p (25 + t.n) ((ms.take k).map fun n : Nat => Value.int .u8 (n : Int))) := by
  have hl : ((ms.take k).map fun n : Nat => Value.int .u8 (n : Int)).length = k := by rw [List.length_map, List.length_take]; omega
  have := run_copy_cells (P := Tryd.prog) w 33 33 3 5 p (25 + t.n) (136 - t.n) (136 - t.n) ⟨b, off, none⟩ ms.length c ((ms.take k).map fun n : Nat => Value.int .u8 (n : Int)) Tryd.underlying33 (by kernel_rfl) (by rw [hl]; exact hk)
    (fun j v hj => by
      rw [List.getElem?_map, List.getElem?_take] at hj
      split at hj
      · cases hm : ms[j]? with
        | none => rw [hm] at hj; cases hj
        | some x => rw [hm] at hj; cases hj; rw [Addr.add_mid]; exact hcell j x hm
      · cases hj)
    (fun j hj => (hs.there (o := 25 + t.n) (n := 136 - t.n) (by omega) j (by omega)).1) (fun j hj => hs.fz _) (fun v hv => by obtain ⟨x, _, rfl⟩ := List.mem_map.1 hv; rfl)
  rw [hl] at this
  exact this
theorem lay_push {t : Sp} {ms : List Nat} {k : Nat} (hn : t.n < 136) (hk : k = min ms.length (136 - t.n)) (h0 : 0 < k) : 0 < k ∧ pushes t (ms.take k) = if t.n + k = 136 then ⟨ab t.f (lay t.g t.n (ms.take k)), fun _ => 0, 0⟩ else ⟨t.f, lay t.g t.n (ms.take k), t.n + k⟩ := by
  have hl : (ms.take k).length = k := by rw [List.length_take]; omega
  refine ⟨h0, ?_⟩
  split
  · exact pushes_full _ _ (by omega) (by omega)
  · rw [pushes_few _ _ (by omega), hl]
theorem push_on {t s : Sp} {ms ns : List Nat} {k : Nat} (h : pushes t ms = pushes s ns) : pushes (pushes t (ms.take k)) (ms.drop k) = pushes s ns := by
  rw [← pushes_append, List.take_append_drop]; exact h

set_option maxRecDepth 20000 in
set_option maxHeartbeats 400000 in
theorem write_c (w : World) (T : Tabs w) {p : Nat} (hp : 3 ≤ p) {s : Sp} (h : IsSp w p s) (hn : s.n < 136) {v : Value} {ns : List Nat} (hr : RdP p w v ns) (hb : ∀ x ∈ ns, x < 256) (hl : ns.length ≤ 140737488355328) :
    Calls Tryd.prog 64 #[.pointer (some ⟨p, 0, none⟩), v] w fun e w' => e = .returned (.tuple #[]) ∧ IsSp w' p (pushes s ns) ∧ Fr [p] w w' := by
  have HT := hid T
  have HS := hid h
  have HR := hid hr
  have HB := hid hb
  clear T h hr hb
  go_enter Tryd.func64, Tryd.ntmps64
  go_wp2
  go_loopw [1] (fun v1 wr => ∃ (ms : List Nat) (t : Sp), ms.length ≤ ns.length ∧ RdP p wr v1 ms ∧ (∀ x ∈ ms, x < 256) ∧ t.n < 136 ∧ IsSp wr p t ∧ pushes t ms = pushes s ns ∧ Fr [p] w wr) (fun v1 _ => match v1 with | .slice _ n _ => n | _ => 0)
  case atStart => exact ⟨ns, s, Nat.le_refl _, HR.out, HB.out, hn, HS.out, rfl, Fr.refl _ _⟩
  case round =>
    clear HS HR HB hn
    obtain ⟨ms, t, hml, hr, hb, hn, hs, hpu, hf⟩ := hrel
    have HS := hid hs
    have HB := hid hb
    have HP := hid hpu
    have HF := hid hf
    rcases hr with ⟨rfl, a, c, rfl⟩ | ⟨b, off, c, hbp, rfl, hc, h0, hcell⟩
    · clear hs hb hpu hf
      go_wp2
      refine bodyPost_end (v := .tuple #[]) (by simp [results]) rfl ⟨rfl, ?_, HF.out⟩
      rw [← HP.out]; exact HS.out
    · have HC := hid hcell
      obtain ⟨k, hk⟩ : ∃ k, k = min ms.length (136 - t.n) := ⟨_, rfl⟩
      have hk1 : k ≤ ms.length := by omega
      have hk2 : k ≤ 136 - t.n := by omega
      have hk0 : 0 < k := by omega
      have e0 := hs.fill
      have fz := hs.fz
      have hsl := sliceB wr.drew p t.n hn
      have hcp := copy_val wr.drew (c := c) (k := k) (show IsSp wr.drew p t from hs) hn hk hcell
      have HW : Hid (IsSp (wr.drew.setCells p (25 + t.n) ((ms.take k).map fun n : Nat => Value.int .u8 (n : Int))) p ⟨t.f, lay t.g t.n (ms.take k), t.n⟩) :=
        IsSp.laid (show IsSp wr.drew p t from hs) (fun x hx => hb x (List.mem_of_mem_take hx)) (by rw [List.length_take]; omega)
      have HG : Hid (Fr [p] wr (wr.drew.setCells p (25 + t.n) ((ms.take k).map fun n : Nat => Value.int .u8 (n : Int)))) := Fr.cells (S := [p]) (b := p) (.inl (by simp)) _ _ _ (Fr.refl _ _).drew
      have HQ := hid (lay_push (ms := ms) hn hk hk0)
      have HO := hid (push_on (k := k) hpu)
      have HX := hid (fun x (hx : x ∈ ms.drop k) => hb x (List.mem_of_mem_drop hx))
      have HRs := hid (fun (w' : World) (f : Fr [p] wr w') => RdP.rest hbp hc hcell f hk1)
      clear hs hb hpu hf hcell hk HS HB HP HC
      generalize wr.drew.setCells p (25 + t.n) ((ms.take k).map fun n : Nat => Value.int .u8 (n : Int)) = wc at hcp HW HG
      have e1 := HW.out.fill
      have fz1 := HW.out.fz
      by_cases hck : c = k
      · have HCK := hid hck
        obtain ⟨hcl, hcu⟩ : c ≤ k ∧ k ≤ c := by omega
        subst hck
        clear hcl hcu HCK
        by_cases hfull : t.n + c = 136
        · go_wp2
          go_region
          all_goals go_wp2_with fail
          rw [show ((t.n : Int) + (c : Int)) = ((t.n + c : Nat) : Int) from by omega]
          refine (takeIn_c _ (HT.out.fr1 (HF.out.trans (HG.out.set (p := p) 161 _ (.inl (by simp)))) (by simpa using hp)) hp (HW.out.setFill (t.n + c))).mono ?_
          rintro e wd ⟨rfl, hsp, fd⟩
          have hfd := (HG.out.set (p := p) 161 (.int .i64 ((t.n + c : Nat) : Int)) (.inl (by simp))).trans fd
          have HSP := hid hsp
          have HFD := hid hfd
          clear hsp fd hfd
          go_wp2
          go_roundw
          case rel =>
            have hq := HQ.out.2
            rw [if_pos hfull] at hq
            refine ⟨ms.drop c, pushes t (ms.take c), by rw [List.length_drop]; omega, .inl ⟨List.eq_nil_of_length_eq_zero (by rw [List.length_drop]; omega), _, _, rfl⟩, HX.out, by rw [hq]; exact Nat.zero_lt_succ _, by rw [hq]; exact HSP.out, HO.out, HF.out.trans HFD.out⟩
          case measure =>
            show 0 < ms.length
            omega
        · have hltf : t.n + c < 136 := by omega
          go_wp2
          go_region
          all_goals go_wp2_with fail
          go_roundw
          case rel =>
            have hq := HQ.out.2
            rw [if_neg hfull] at hq
            rw [show ((t.n : Int) + (c : Int)) = ((t.n + c : Nat) : Int) from by omega]
            have hfd := HG.out.set (p := p) 161 (.int .i64 ((t.n + c : Nat) : Int)) (.inl (by simp))
            refine ⟨ms.drop c, pushes t (ms.take c), by rw [List.length_drop]; omega, .inl ⟨List.eq_nil_of_length_eq_zero (by rw [List.length_drop]; omega), _, _, rfl⟩, HX.out, by rw [hq]; simp only; omega, by rw [hq]; exact HW.out.setFill _, HO.out, HF.out.trans hfd⟩
          case measure =>
            show 0 < ms.length
            omega
      · by_cases hfull : t.n + k = 136
        · go_wp2
          go_region
          all_goals go_wp2_with fail
          rw [show ((t.n : Int) + (k : Int)) = ((t.n + k : Nat) : Int) from by omega]
          refine (takeIn_c _ (HT.out.fr1 (HF.out.trans (HG.out.set (p := p) 161 _ (.inl (by simp)))) (by simpa using hp)) hp (HW.out.setFill (t.n + k))).mono ?_
          rintro e wd ⟨rfl, hsp, fd⟩
          have hfd := (HG.out.set (p := p) 161 (.int .i64 ((t.n + k : Nat) : Int)) (.inl (by simp))).trans fd
          have HSP := hid hsp
          have HFD := hid hfd
          clear hsp fd hfd
          go_wp2
          go_roundw
          case rel =>
            have hq := HQ.out.2
            rw [if_pos hfull] at hq
            refine ⟨ms.drop k, pushes t (ms.take k), by rw [List.length_drop]; omega, (HRs.out _ (HFD.out)).2, HX.out, by rw [hq]; exact Nat.zero_lt_succ _, by rw [hq]; exact HSP.out, HO.out, HF.out.trans HFD.out⟩
          case measure =>
            show ms.length - k < ms.length
            omega
        · have hltf : t.n + k < 136 := by omega
          go_wp2
          go_region
          all_goals go_wp2_with fail
          go_roundw
          case rel =>
            have hq := HQ.out.2
            rw [if_neg hfull] at hq
            rw [show ((t.n : Int) + (k : Int)) = ((t.n + k : Nat) : Int) from by omega]
            have hfd := HG.out.set (p := p) 161 (.int .i64 ((t.n + k : Nat) : Int)) (.inl (by simp))
            refine ⟨ms.drop k, pushes t (ms.take k), by rw [List.length_drop]; omega, (HRs.out _ (hfd)).2, HX.out, by rw [hq]; simp only; omega, by rw [hq]; exact HW.out.setFill _, HO.out, HF.out.trans hfd⟩
          case measure =>
            show ms.length - k < ms.length
            omega

theorem buildSp (w : World) : (Instr.build 120 #[]).run Tryd.prog w = .ok (.agg (spc (fun _ => 0) (fun _ => 0) 0)) w := by kernel_rfl
theorem allocSp (w : World) : (Instr.alloc 120 true (.tuple #[])).run Tryd.prog w = .ok (.pointer (some ⟨w.heap.size, 0, none⟩)) (w.alloc (.cells (spc (fun _ => 0) (fun _ => 0) 0) 120)) := by kernel_rfl
end Go.Proofs.YtmpfnglcmaollaaDoor
namespace Go.Proofs.YtmpfnglcmaollaaDoor
open Go.ChangeShapes Go.WideShapes Go.ChangeAt Go.RowKit

theorem spUnd : Tryd.prog.underlying 120 = Tryd.prog.underlying 120 := rfl
theorem ldVarSp {w : World} {p : Nat} {s : Sp} (h : IsSp w p s) : (loadVar 120 ⟨p, 0, none⟩).run Tryd.prog w = .ok (.agg (spc s.f s.g s.n)) w :=
  run_loadVar_row w p _ _ _ (0, 0) _ h Tryd.underlying120 rfl (by rw [spc_size]; exact infoSp)
theorem stVarSp {w : World} {p : Nat} {s : Sp} (h : IsSp w p s) (t : Sp) : (storeVar 120 ⟨p, 0, none⟩ (.agg (spc t.f t.g t.n))).run Tryd.prog w = .ok () (w.setRow p (spc t.f t.g t.n)) :=
  run_storeVar_row w p _ _ _ _ h (by rw [spc_size]; exact infoSp) (by rw [spc_size, spc_size]) (spc_one _ _ _)
theorem wpList_ldSp {ops : Array Oper} {rest : List Oper} {op : Oper} {a : Act} {w : World} {Q : Exit → Act → World → Prop} (hgd : op.guard = none) (x : Operand) (ho : op.op = .load 120 x)
    {p : Nat} {s : Sp} (h0 : IsSp w p s) (hx : a.eval x = .pointer (some ⟨p, 0, none⟩)) (h : wpList Tryd.prog ops Q rest (a.put op.dst (.agg (spc s.f s.g s.n))) w) : wpList Tryd.prog ops Q (op :: rest) a w :=
  wpList_plain hgd fun K hK => by
    unfold Oper.wp execOp
    simp only [ho, hx, Instr.loadAt, Instr.sureAddr, Sem.run_bind, Sem.run_pure, Result.andThen_ok, ldVarSp h0]
    exact hK _ _ h
theorem wpList_stSp {ops : Array Oper} {rest : List Oper} {op : Oper} {a : Act} {w : World} {Q : Exit → Act → World → Prop} (hgd : op.guard = none) (x y : Operand) (ho : op.op = .store 120 x y)
    {p : Nat} {s : Sp} (h0 : IsSp w p s) (t : Sp) (hx : a.eval x = .pointer (some ⟨p, 0, none⟩)) (hy : a.eval y = .agg (spc t.f t.g t.n)) (h : wpList Tryd.prog ops Q rest (a.put op.dst undef) (w.setRow p (spc t.f t.g t.n))) : wpList Tryd.prog ops Q (op :: rest) a w :=
  wpList_plain hgd fun K hK => by
    unfold Oper.wp execOp
    simp only [ho, hx, hy, Instr.storeAt, Instr.sureAddr, Sem.run_bind, Sem.run_pure, Result.andThen_ok, stVarSp h0 t]
    exact hK _ _ h
theorem IsSp.row {w : World} {p : Nat} {s : Sp} (h : IsSp w p s) (t : Sp) : IsSp (w.setRow p (spc t.f t.g t.n)) p t := setRow_heap w p _ _ _ _ h
theorem wpList_allocSp {ops : Array Oper} {rest : List Oper} {op : Oper} {a : Act} {w : World} {Q : Exit → Act → World → Prop} (hgd : op.guard = none) (ho : op.op = .alloc 120)
    (h : wpList Tryd.prog ops Q rest (a.put op.dst (.pointer (some ⟨w.heap.size, 0, none⟩))) (w.alloc (.cells (spc (fun _ => 0) (fun _ => 0) 0) 120))) : wpList Tryd.prog ops Q (op :: rest) a w :=
  wpList_plain hgd fun K hK => by
    unfold Oper.wp execOp
    simp only [ho, Sem.run_bind, allocSp, Result.andThen_ok, Sem.run_pure]
    rw [Oper.upon_value]
    exact hK _ _ h
theorem zero32 : (#[.int .u8 0, .int .u8 0, .int .u8 0, .int .u8 0, .int .u8 0, .int .u8 0, .int .u8 0, .int .u8 0, .int .u8 0, .int .u8 0, .int .u8 0, .int .u8 0, .int .u8 0, .int .u8 0, .int .u8 0, .int .u8 0, .int .u8 0, .int .u8 0, .int .u8 0, .int .u8 0, .int .u8 0, .int .u8 0, .int .u8 0, .int .u8 0, .int .u8 0, .int .u8 0, .int .u8 0, .int .u8 0, .int .u8 0, .int .u8 0, .int .u8 0, .int .u8 0] : Array Value) = bvals 32 (fun _ => 0) := rfl
theorem or128b (x : BitVec 8) : bits .or .u8 (x.toNat : Int) 128 = ((x ||| 128).toNat : Int) := by
  have := u8_or_nat x.toNat 128 x.isLt (by omega)
  rw [BitVec.toNat_or]
  exact this

set_option maxRecDepth 20000 in
set_option maxHeartbeats 400000 in
theorem spsum_c (w : World) (T : Tabs w) {p : Nat} {s : Sp} (h : IsSp w p s) (hn : s.n < 136) :
    Calls Tryd.prog 65 #[.pointer (some ⟨p, 0, none⟩)] w fun e w' => e = .returned (.agg (bvals 32 (hb (fin s)))) ∧ Fr [] w w' := by
  have h3 := T.lt
  have HT := hid T
  have HS := hid h
  clear T h
  go_enter Tryd.func65, Tryd.ntmps65
  go_upto_region 1 with fail
  rw [zero32]
  have HR : Hid ((w.alloc (.cells (bvals 32 (fun _ => 0)) 28)).heap[w.heap.size]? = some (.cells (bvals 32 (fun _ => 0)) 28 (0, 0))) := blk_new _ _
  have HF : Hid (Fr [] w (w.alloc (.cells (bvals 32 (fun _ => 0)) 28))) := (Fr.refl _ _).alloc _
  have hsz : (w.alloc (.cells (bvals 32 (fun _ => 0)) 28)).heap.size = w.heap.size + 1 := by simp
  generalize w.alloc (.cells (bvals 32 (fun _ => 0)) 28) = w1 at HR HF hsz ⊢
  have HS1 := hid (HS.out.fr HF.out (by simp))
  apply wp_region_lit
  refine wpList_val (v := .pointer (some ⟨p, 0, none⟩)) (w' := w1) rfl (by go_simp) ?_
  refine wpList_val (v := .pointer (some ⟨p, 0, none⟩)) (w' := w1) rfl (by go_simp) ?_
  refine wpList_ldSp rfl (.tmp 5) rfl HS1.out (by simp [Act.eval, Act.put]) ?_
  refine wpList_allocSp rfl rfl ?_
  rw [hsz]
  have hnew : IsSp (w1.alloc (.cells (spc (fun _ => 0) (fun _ => 0) 0) 120)) (w.heap.size + 1) sp0 := new_at _ _ hsz.symm
  refine wpList_stSp rfl (.tmp 3) (.tmp 6) rfl hnew s (by simp [Act.eval, Act.put]) (by simp [Act.eval, Act.put]) ?_
  have HL := hid (hnew.row s)
  have HF2 := hid ((HF.out.alloc (.cells (spc (fun _ => 0) (fun _ => 0) 0) 120)).row (p := w.heap.size + 1) (spc s.f s.g s.n) (.inr (Nat.le_succ _)))
  have HR2 := hid ((row_ne (w1.alloc (.cells (spc (fun _ => 0) (fun _ => 0) 0) 120)) (spc s.f s.g s.n) (show w.heap.size ≠ w.heap.size + 1 by omega)).trans ((blk_old w1 (.cells (spc (fun _ => 0) (fun _ => 0) 0) 120) (show w.heap.size < w1.heap.size by omega)).trans HR.out))
  clear hnew HS1 HS HR HF hsz
  generalize World.setRow (w1.alloc (.cells (spc (fun _ => 0) (fun _ => 0) 0) 120)) (w.heap.size + 1) (spc s.f s.g s.n) = w2 at HL HF2 HR2 ⊢
  generalize spc s.f s.g s.n = zz
  have e0 := HL.out.fill
  have e1 := HL.out.byte (i := s.n) hn
  have fz := HL.out.fz
  go_upto_region 3 with fail
  have HA : Hid (IsSp (w2.setCell ⟨w.heap.size + 1, 25 + s.n, none⟩ (.int .u8 1)) (w.heap.size + 1) ⟨s.f, up s.g s.n 1, s.n⟩) := HL.out.setByte hn 1
  have HF3 := hid (HF2.out.set (p := w.heap.size + 1) (25 + s.n) (.int .u8 1) (.inr (Nat.le_succ _)))
  have HR3 := hid ((blk_setne w2 (25 + s.n) (.int .u8 1) (show w.heap.size ≠ w.heap.size + 1 by omega)).trans HR2.out)
  clear HL HF2 HR2 e0 e1 fz
  generalize w2.setCell ⟨w.heap.size + 1, 25 + s.n, none⟩ (.int .u8 1) = w3 at HA HF3 HR3 ⊢
  have e2 : w3.cell? ⟨w.heap.size + 1, 160, none⟩ = some (.int .u8 ((up s.g s.n 1 135).toNat : Int)) := HA.out.byte (i := 135) (by omega)
  have fz2 := HA.out.fz
  have ho := or128b (up s.g s.n 1 135)
  have HG : Hid (pad s.g s.n = up (up s.g s.n 1) 135 (up s.g s.n 1 135 ||| 128)) := rfl
  have HP : Hid (IsSp (w3.setCell ⟨w.heap.size + 1, 160, none⟩ (.int .u8 ((up s.g s.n 1 135 ||| 128).toNat : Int))) (w.heap.size + 1) ⟨s.f, pad s.g s.n, s.n⟩) := HA.out.setByte (k := 135) (by omega) (up s.g s.n 1 135 ||| 128)
  clear HG
  generalize up s.g s.n 1 135 ||| 128 = y at ho HP
  generalize up s.g s.n 1 135 = x at e2 ho
  have HF4 := hid (HF3.out.set (p := w.heap.size + 1) 160 (.int .u8 (y.toNat : Int)) (.inr (Nat.le_succ _)))
  have HR4 := hid ((blk_setne w3 160 (.int .u8 (y.toNat : Int)) (show w.heap.size ≠ w.heap.size + 1 by omega)).trans HR3.out)
  go_upto_region 4 with fail
  generalize w3.setCell ⟨w.heap.size + 1, 160, none⟩ (.int .u8 (y.toNat : Int)) = w4 at HP HF4 HR4 ⊢
  clear HA HF3 HR3 e2 fz2
  go_wp2_with fail
  refine (takeIn_c w4 (HT.out.fr HF4.out) (by omega) HP.out).mono ?_
  rintro e w5 ⟨rfl, hs5, f5⟩
  have HS5 := hid hs5
  have HR5 := hid (f5.at HR4.out (by simp))
  have HF5 := hid (((HF4.out.mono (S' := [w.heap.size + 1]) (by simp)).trans f5).shed (S' := []) (fun k hk hl => by simp at hk; omega))
  clear hs5 f5
  go_wp2_with fail
  refine (hash_c w5 HS5.out).mono ?_
  rintro e w6 ⟨rfl, f6⟩
  have HR6 := hid (f6.at HR5.out (by simp))
  have HF6 := hid (HF5.out.trans f6)
  rename_i hK
  refine hK _ _ ?_
  refine wpList_stH (g := hb (ab s.f (pad s.g s.n))) rfl (.tmp 2) (.tmp 18) rfl HR6.out (by simp [Act.eval]) (by simp [Act.eval]) ?_
  have RH := hid (brow_heap (g := hb (ab s.f (pad s.g s.n))) HR6.out)
  have RF := hid (HF6.out.row (bvals 32 (hb (ab s.f (pad s.g s.n)))) (.inr (Nat.le_refl w.heap.size)))
  generalize World.setRow w6 w.heap.size (bvals 32 (hb (ab s.f (pad s.g s.n)))) = w7 at RH RF ⊢
  clear HR6 HF6 hK f6
  go_wp2
  exact bodyPost_ret (v := .agg (bvals 32 (hb (fin s)))) (retH rfl RH.out rfl) rfl ⟨rfl, RF.out⟩

/-- A row of slices that can be read, and what each of them holds. -/
structure Rows2 (w : World) (v : Value) (L : List Value) (X : List (List Nat)) : Prop where
  head : (L = [] ∧ ∃ a c, v = .slice a 0 c) ∨ ∃ b off c, v = .slice (some ⟨b, off, none⟩) L.length c ∧ L.length ≤ c ∧ ∀ (j : Nat) u, L[j]? = some u → w.cell? ⟨b, off + j, none⟩ = some u
  len : X.length = L.length
  rd : ∀ (j : Nat) u x, L[j]? = some u → X[j]? = some x → Rd w u (bv x)
  bd : ∀ x ∈ X, (∀ n ∈ x, n < 256) ∧ x.length ≤ 140737488355328
theorem Rd.p {p : Nat} {w w' : World} {v : Value} {ns : List Nat} (h : Rd w v (bv ns)) (hp : w.heap.size ≤ p) (f : Fr [] w w') : RdP p w' v ns := by
  refine RdP.of (h.fr f) fun a l c hv h0 => ?_
  rcases h.split with ⟨rfl, _⟩ | ⟨b, off, c', e, _, _, hc⟩
  · simp at h0
  · rw [e] at hv
    cases hv
    have hx := hc 0 _ (List.getElem?_eq_getElem h0)
    have := World.block_lt_of_cell? w _ hx
    simp at this ⊢
    omega
theorem flat_step {X : List (List Nat)} {i : Nat} {x : List Nat} (h : X[i]? = some x) : (X.take (i + 1)).flatten = (X.take i).flatten ++ x := by
  rw [List.take_add_one, h]
  simp

set_option maxRecDepth 20000 in
set_option maxHeartbeats 400000 in
theorem sum_c (w : World) (T : Tabs w) {v : Value} {L : List Value} {X : List (List Nat)} (h : Rows2 w v L X) (hl : L.length ≤ 140737488355328) :
    Calls Tryd.prog 41 #[v] w fun e w' => e = .returned (.agg (bvals 32 (hashOf X.flatten))) ∧ Fr [] w w' := by
  obtain ⟨a0, c0, rfl, hrow⟩ : ∃ a c, v = .slice a L.length c ∧ ∀ (j : Nat) u, L[j]? = some u → ∃ b off, a = some ⟨b, off, none⟩ ∧ w.cell? ⟨b, off + j, none⟩ = some u := by
    rcases h.head with ⟨rfl, a, c, rfl⟩ | ⟨b, off, c, rfl, _, hc⟩
    · exact ⟨a, c, rfl, fun j u hj => by simp at hj⟩
    · exact ⟨_, c, rfl, fun j u hj => ⟨b, off, rfl, hc j u hj⟩⟩
  have h3 := T.lt
  have HT := hid T
  have HH := hid h
  have HW := hid hrow
  clear T h hrow
  go_enter Tryd.func41, Tryd.ntmps41
  go_upto_region 1 with fail
  rw [zero32]
  have HR : Hid ((w.alloc (.cells (bvals 32 (fun _ => 0)) 28)).heap[w.heap.size]? = some (.cells (bvals 32 (fun _ => 0)) 28 (0, 0))) := blk_new _ _
  have HF : Hid (Fr [] w (w.alloc (.cells (bvals 32 (fun _ => 0)) 28))) := (Fr.refl _ _).alloc _
  have hsz : (w.alloc (.cells (bvals 32 (fun _ => 0)) 28)).heap.size = w.heap.size + 1 := by simp
  generalize w.alloc (.cells (bvals 32 (fun _ => 0)) 28) = w1 at HR HF hsz ⊢
  apply wp_region_lit
  refine wpList_allocSp rfl rfl ?_
  rw [hsz]
  have HN : Hid (IsSp (w1.alloc (.cells (spc (fun _ => 0) (fun _ => 0) 0) 120)) (w.heap.size + 1) sp0) := new_at _ _ hsz.symm
  have HF2 := hid (HF.out.alloc (.cells (spc (fun _ => 0) (fun _ => 0) 0) 120))
  have HR2 := hid ((blk_old w1 (.cells (spc (fun _ => 0) (fun _ => 0) 0) 120) (show w.heap.size < w1.heap.size by omega)).trans HR.out)
  clear HR HF hsz
  generalize w1.alloc (.cells (spc (fun _ => 0) (fun _ => 0) 0) 120) = w2 at HN HF2 HR2 ⊢
  go_wp2
  go_loopw [8] (fun v8 wr => ∃ i : Nat, i ≤ L.length ∧ v8 = .int .i64 (i : Int) ∧ IsSp wr (w.heap.size + 1) (pushes sp0 (X.take i).flatten) ∧ wr.heap[w.heap.size]? = some (.cells (bvals 32 (fun _ => 0)) 28 (0, 0)) ∧ Fr [] w wr) (fun v8 _ => L.length - (intOf v8).toNat)
  case atStart => exact ⟨0, by omega, rfl, HN.out, HR2.out, HF2.out⟩
  case round =>
    clear HN HR2 HF2
    obtain ⟨i, hi, rfl, hs, hr, hf⟩ := hrel
    have HS := hid hs
    have HR := hid hr
    have HF := hid hf
    by_cases hlt : i < L.length
    · obtain ⟨u, hu⟩ : ∃ u, L[i]? = some u := ⟨_, List.getElem?_eq_getElem hlt⟩
      obtain ⟨x, hx⟩ : ∃ x, X[i]? = some x := ⟨_, List.getElem?_eq_getElem (by rw [HH.out.len]; exact hlt)⟩
      obtain ⟨b, off, rfl, hcell⟩ := HW.out i u hu
      have HRu := hid (HH.out.rd i u x hu hx)
      have HBx := hid (HH.out.bd x (List.mem_of_getElem? hx))
      have e0 : wr.cell? ⟨b, off + i, none⟩ = some u := by
        rw [World.cell?_of_block (w := w) (hf.block _ (World.block_lt_of_cell? w _ hcell) (by simp))]; exact hcell
      obtain ⟨ua, uc, hux⟩ := HRu.out.form
      subst hux
      have HST := hid (flat_step hx)
      clear hs hr hf hcell hx hu
      go_wp2_with fail
      refine (write_c wr (HT.out.fr HF.out) (by omega) HS.out (pushes_n _ _ (by show 0 < 136; omega)) (HRu.out.p (Nat.le_succ _) HF.out) HBx.out.1 HBx.out.2).mono ?_
      rintro e w3 ⟨rfl, hs3, f3⟩
      have HS3 := hid hs3
      have HR3 := hid (f3.at HR.out (by simp))
      have HF3 := hid (((HF.out.mono (S' := [w.heap.size + 1]) (by simp)).trans f3).shed (S' := []) (fun k hk hl => by simp at hk; omega))
      clear hs3 f3
      go_wp2
      go_roundw
      case rel =>
        refine ⟨i + 1, by omega, by go_num, ?_, HR3.out, HF3.out⟩
        rw [HST.out, pushes_append]
        exact HS3.out
      case measure => simp [intOf]; omega
    · have hiL : i = L.length := by omega
      have HX : Hid ((X.take i).flatten = X.flatten) := by rw [hiL, ← HH.out.len, List.take_length]; exact rfl
      clear hs hr hf
      go_wp2_with fail
      refine (spsum_c wr (HT.out.fr HF.out) HS.out (pushes_n _ _ (by show 0 < 136; omega))).mono ?_
      rintro e w3 ⟨rfl, f3⟩
      have HR3 := hid (f3.at HR.out (by simp))
      have HF3 := hid (HF.out.trans f3)
      rename_i hK
      refine hK _ _ ?_
      refine wpList_stH (g := hb (fin (pushes sp0 (X.take i).flatten))) rfl (.tmp 2) (.tmp 15) rfl HR3.out (by simp [Act.eval]) (by simp [Act.eval]) ?_
      have RH := hid (brow_heap (g := hb (fin (pushes sp0 (X.take i).flatten))) HR3.out)
      have RF := hid (HF3.out.row (bvals 32 (hb (fin (pushes sp0 (X.take i).flatten)))) (.inr (Nat.le_refl w.heap.size)))
      generalize World.setRow w3 w.heap.size (bvals 32 (hb (fin (pushes sp0 (X.take i).flatten)))) = w7 at RH RF ⊢
      clear HR3 HF3 hK f3
      go_wp2
      have RH' := RH.out
      rw [show hb (fin (pushes sp0 (X.take i).flatten)) = hashOf X.flatten from by unfold hashOf; rw [HX.out]] at RH'
      exact bodyPost_ret (v := .agg (bvals 32 (hashOf X.flatten))) (retH rfl RH' rfl) rfl ⟨rfl, RF.out⟩
end Go.Proofs.YtmpfnglcmaollaaDoor
