/-
  The data blocks of a table, looked at one after the other.
-/
import Derived.Test.YtobdegmlijnogaaXX
namespace Go.Proofs.Ytobdegmlijnogaa
open Go.ChangeShapes Go.WideShapes Go.ChangeAt Go.RowKit

theorem wpListIn_valW {n : Nat} {P : Program} {ops : Array Oper} {rest : List Oper} {o : Oper} {a : Act} {w w' : World} {v : Value} {Q : Exit → Act → World → Prop} (hg : o.guard = none) (h0 : (execOp a.eval o).run P w = .ok (.value v) w') (h : wpListIn Fence.wide n P ops Q rest (a.put o.dst v) w') : wpListIn Fence.wide n P ops Q (o :: rest) a w :=
  wpListIn_plain hg fun K hK => ⟨fun _ _ => trivial, by rw [show Fence.wide.round = none from rfl, Oper.semAt_none, h0]; exact hK _ _ h⟩
theorem wpListIn_callW {n : Nat} {P : Program} {ops : Array Oper} {rest : List Oper} {o : Oper} {a : Act} {w w' : World} {f : FuncId} {args : Array Value} {Q : Exit → Act → World → Prop} (hg : o.guard = none) (h0 : (execOp a.eval o).run P w = .ok (.enter f args) w') (h : Calls P f args w' fun e w'' => ∃ v, e = .returned v ∧ wpListIn Fence.wide n P ops Q rest (a.put o.dst v) w'') : wpListIn Fence.wide n P ops Q (o :: rest) a w :=
  wpListIn_plain hg fun K hK => ⟨fun _ _ => trivial, by
    rw [show Fence.wide.round = none from rfl, Oper.semAt_none, h0]
    refine ⟨fun e => by simp [Fence.wide] at e, callsIn_wide.2 (h.mono ?_)⟩
    rintro e w2 ⟨v, rfl, h2⟩
    exact hK _ _ h2⟩
theorem wpListIn_roundW {n : Nat} {P : Program} {ops : Array Oper} {rest : List Oper} {o : Oper} {a : Act} {w w' : World} {l : Nat} {f : FuncId} {tmps : Array Value} {assign body : Code} {Q : Exit → Act → World → Prop} (hg : o.guard = none) (h0 : (execOp a.eval o).run P w = .ok (.round l f tmps assign body) w') (h : RoundIn Fence.wide (n - 1) P l f tmps assign body w' fun e w'' => ∃ v, e = .returned v ∧ wpListIn Fence.wide n P ops Q rest (a.put o.dst v) w'') : wpListIn Fence.wide n P ops Q (o :: rest) a w :=
  wpListIn_plain hg fun K hK => ⟨fun _ _ => trivial, by
    rw [show Fence.wide.round = none from rfl, Oper.semAt_none, h0]
    refine ⟨fun e => by simp [Fence.wide] at e, h.mono ?_⟩
    rintro e w2 ⟨v, rfl, h2⟩
    exact hK _ _ h2⟩
theorem looked_c (w : World) (p k : Nat) :
    Calls Try.prog 40 #[.pointer (some ⟨p, 0, none⟩), .int .i64 (k : Int)] w fun e w' => ∃ C K, e = .returned (.func (.func 70) #[] #[.pointer (some ⟨C, 0, none⟩), .pointer (some ⟨K, 0, none⟩)]) ∧ w'.heap[C]? = some (.cells #[.pointer (some ⟨p, 0, none⟩)] 31 (0, 0)) ∧ w'.heap[K]? = some (.cells #[.int .i64 (k : Int)] 3 (0, 0)) ∧ Fr [] w w' := by
  have hmf : ∀ (fn : Fn) (first cap : Array Value) (w : World), (Instr.makeFunc fn first cap).run Try.prog w = .ok (.func fn first cap) w := fun _ _ _ _ => rfl
  go_enter Try.func40, Try.ntmps40
  go_wp2
  go_ret
  exact ⟨_, _, rfl, by rw [blk_old _ _ (by simp)]; exact blk_new _ _, new_at _ _ (by simp), ((Fr.refl _ _).alloc _).alloc _⟩
/-- What is given of a data block. -/
def EnL (ips : Ps) (X : Nat → Nat) (Q : Nat → Ps) (I G : Nat) : Nat → World → World → Value → Prop := fun k W0 W1 v => ∃ la lc ua uc ev, v = .agg #[.int .i64 (nxN ips (I + k) : Int), .int .i64 (szA ips (I + k) : Int), .slice la (kA ips (I + k)).length lc, .slice ua (userL (kA ips (I + k))).length uc, ev, .bool (decide (X (I + k) = 81)), .bool (decide (X (I + k) = 80))] ∧ W1.cell? ⟨G, (I + k) * 4 + 3, none⟩ = some (.slice ua (userL (kA ips (I + k))).length uc) ∧ ColO W1 W0.heap.size ev (Q (I + k))
set_option maxRecDepth 20000 in
set_option maxHeartbeats 6400000 in
theorem look1_gives {Inv : World → Prop} {p C K I : Nat} {dat flt : List Nat} {ips : Ps} {da fa : Option Addr} {dc fc G : Nat} {X : Nat → Nat} {Q : Nat → Ps} (T : ∀ W, Inv W → Tab W p dat flt ips da dc fa fc G)
    (hC : ∀ W, Inv W → W.heap[C]? = some (.cells #[.pointer (some ⟨p, 0, none⟩)] 31 (0, 0))) (hK : ∀ W, Inv W → W.heap[K]? = some (.cells #[.int .i64 (I : Int)] 3 (0, 0))) (hb : By dat) (hl : dat.length ≤ 1000000000) (hbi : ByP ips) (hn : ips.length ≤ 1000000000) (hI : I ≤ ips.length)
    (hsp : ∀ i, i < ips.length → nxN ips i + szA ips i + 4 ≤ dat.length) (hLk : ∀ i, i < ips.length → LookR dat (nxN ips i) (szA ips i) (kA ips i) (X i) (Q i)) :
    Gives2 Try.prog 70 (.pointer (some ⟨C, 0, none⟩)) (.pointer (some ⟨K, 0, none⟩)) Inv (ips.length - I) (EnL ips X Q I G) := by
  intro l J Jx W hJ0 hJf hY h0
  have HT := hid T
  have HC := hid hC
  have HKK := hid hK
  have HB := hid hb
  have HL := hid hl
  have HBI := hid hbi
  have HSP := hid hsp
  have HLK := hid hLk
  have HJ0 := hid hJ0
  have HJF := hid hJf
  have HY := hid hY
  have H0 := hid h0
  have c0 : W.cell? ⟨C, 0, none⟩ = some (.pointer (some ⟨p, 0, none⟩)) := by rw [blk_cell (hC W (hJ0 0 W h0))]; rfl
  have c1 : W.cell? ⟨K, 0, none⟩ = some (.int .i64 (I : Int)) := by rw [blk_cell (hK W (hJ0 0 W h0))]; rfl
  have c2 : W.cell? ⟨p, 2, none⟩ = some (.slice (some ⟨G, 0, none⟩) ips.length ips.length) := by rw [blk_cell (T W (hJ0 0 W h0)).at']; rfl
  clear T hC hK hb hl hbi hsp hLk hJ0 hJf hY h0
  obtain ⟨n, hnn⟩ : ∃ n, n = ips.length := ⟨_, rfl⟩
  have HN := hid hnn
  rw [← hnn] at hn hI c2 HSP HLK HY
  rw [← hnn]
  clear hnn
  have hI1 : (I : Int) ≤ (n : Int) := by omega
  have hI2 : (0 : Int) ≤ (I : Int) := by omega
  obtain ⟨N, hN⟩ : ∃ N, N = n - I := ⟨_, rfl⟩
  rw [← hN] at HY ⊢
  refine callsIn_of_wp Try.func70 rfl trivial (wpIn_wide.2 ?_) rfl
  simp only [Try.ntmps70, List.size_toArray, List.length_cons, List.length_nil, Nat.reduceAdd, Nat.reduceSub, Array.replicate_succ, Array.replicate_zero, List.push_toArray, List.append_toArray, List.nil_append, List.cons_append]
  by_cases hIn : n = I
  · subst hIn
    go_upto_region 0 with fail
    go_quiet (fail)
    have JQ := hid (HJF.out 0 _ _ H0.out ((Fr.refl [] W).drewN nq))
    clear c0 c1 c2 HY HSP HLK
    generalize W.drewN nq = Wq at *
    have hN0 : Hid (N = 0) := hid (by omega)
    clear hN
    go_wp2_with fail
    go_loopw [13] (fun v13 wr => v13 = .int .i64 0 ∧ J 0 wr) (fun _ _ => 0)
    case atStart => exact ⟨rfl, JQ.out⟩
    case round =>
      obtain ⟨rfl, hj⟩ := hrel
      have HJ := hid hj
      clear hj
      go_wp2
      go_end0
      exact ⟨⟨_, rfl⟩, .inl (by rw [hN0.out]; exact HJ.out)⟩
  · go_upto_region 0 with fail
    go_quiet (fail)
    have JQ := hid (HJF.out 0 _ _ H0.out ((Fr.refl [] W).drewN nq))
    clear c0 c1 c2
    generalize W.drewN nq = Wq at *
    go_wp2_with fail
    go_loopw [13] (fun v13 wr => ∃ k : Nat, k ≤ N ∧ v13 = .int .i64 (k : Int) ∧ J k wr) (fun v13 _ => N - (intOf v13).toNat)
    case atStart => exact ⟨0, Nat.zero_le _, rfl, JQ.out⟩
    case round =>
      clear JQ
      obtain ⟨k, hk, rfl, hj⟩ := hrel
      have HJ := hid hj
      clear hj
      by_cases hlt : k < N
      · have iv := HJ0.out k wr HJ.out
        have tab := HT.out wr iv
        obtain ⟨la, lc, ua, uc, s⟩ := tab.rs (I + k) (by rw [← HN.out]; omega)
        have e4 : (I + k) * 4 = I * 4 + k * 4 := by omega
        have s0 := s.c0
        have s1 := s.c1
        have s2 := s.c2
        have s3 := s.c3
        rw [e4] at s0 s1 s2 s3
        obtain ⟨W0, hW0⟩ : ∃ W0, W0 = wr.alloc (.cells #[.int .i64 (nxN ips (I + k) : Int), .int .i64 (szA ips (I + k) : Int), .slice la (kA ips (I + k)).length lc, .slice ua (userL (kA ips (I + k))).length uc] 77) := ⟨_, rfl⟩
        have F0 : Hid (Fr [] wr W0) := hid (by rw [hW0]; exact (Fr.refl _ _).alloc _)
        have N0 : W0.heap[wr.heap.size]? = some (.cells #[.int .i64 (nxN ips (I + k) : Int), .int .i64 (szA ips (I + k) : Int), .slice la (kA ips (I + k)).length lc, .slice ua (userL (kA ips (I + k))).length uc] 77 (0, 0)) := by rw [hW0]; exact blk_new _ _
        have y0 : W0.cell? ⟨wr.heap.size, 0, none⟩ = some (.int .i64 (nxN ips (I + k) : Int)) := by rw [blk_cell N0]; rfl
        have y1 : W0.cell? ⟨wr.heap.size, 1, none⟩ = some (.int .i64 (szA ips (I + k) : Int)) := by rw [blk_cell N0]; rfl
        have y2 : W0.cell? ⟨wr.heap.size, 2, none⟩ = some (.slice la (kA ips (I + k)).length lc) := by rw [blk_cell N0]; rfl
        have y3 : W0.cell? ⟨wr.heap.size, 3, none⟩ = some (.slice ua (userL (kA ips (I + k))).length uc) := by rw [blk_cell N0]; rfl
        have y4 : W0.cell? ⟨C, 0, none⟩ = some (.pointer (some ⟨p, 0, none⟩)) := by rw [blk_cell (F0.out.at (HC.out wr iv) (by simp))]; rfl
        have hik : I + k < n := by omega
        have LA := hid (look_any W0 (tab.fr F0.out) HB.out HL.out (nxN ips (I + k)) (szA ips (I + k)) (HSP.out _ hik) (la := la) (ua := ua) (lc := lc) (un := (userL (kA ips (I + k))).length) (uc := uc) (s.rl.fr F0.out) (kA_by HBI.out _).1 (HLK.out _ hik))
        have RU := hid (cell_fr F0.out s.c3)
        clear s tab iv N0
        go_upto_region 3 with fail
        rw [← hW0]
        clear hW0 s0 s1 s2 s3
        refine (wpIn_wide (n := 4)).1 (wpIn_region_lit ?_)
        refine wpListIn_valW (v := .func (.yield l) #[] #[]) (w' := W0) rfl (by go_simp) ?_
        refine wpListIn_valW (v := .pointer (some ⟨p, 0, none⟩)) (w' := W0) rfl (by go_simp) ?_
        refine wpListIn_valW (v := .agg #[.int .i64 (nxN ips (I + k) : Int), .int .i64 (szA ips (I + k) : Int), .slice la (kA ips (I + k)).length lc, .slice ua (userL (kA ips (I + k))).length uc]) (w' := W0) rfl (by go_simp) ?_
        refine wpListIn_callW (f := 33) (args := #[.pointer (some ⟨p, 0, none⟩), .agg #[.int .i64 (nxN ips (I + k) : Int), .int .i64 (szA ips (I + k) : Int), .slice la (kA ips (I + k)).length lc, .slice ua (userL (kA ips (I + k))).length uc]]) (w' := W0) rfl (by go_simp) ?_
        refine LA.out.mono ?_
        rintro r w2 ⟨ev, rfl, co, f2⟩
        refine ⟨_, rfl, ?_⟩
        obtain ⟨fn, tmps, assign, body, hy, hR⟩ := HY.out k wr w2 _ hlt HJ.out (F0.out.trans f2) ⟨la, lc, ua, uc, ev, rfl, cell_fr f2 RU.out, co.base F0.out.size⟩
        have HRR := hid hR
        clear hR LA co f2 y0 y1 y2 y3 y4
        simp only [Act.put]
        refine wpListIn_roundW (l := l) (f := fn) (tmps := tmps) (assign := assign) (body := body) (w' := w2) rfl (by go_simp) ?_
        refine HRR.out.mono ?_
        rintro r w3 (⟨rfl, hj3⟩ | ⟨rfl, hx3⟩)
        · refine ⟨_, rfl, ?_⟩
          have HJ3 := hid hj3
          clear hj3 hy HRR
          refine wpListIn_valW (v := .bool false) (w' := w3) rfl (by go_simp) ?_
          show Exit.then _ _ .normal _ _
          simp only [Act.put, List.setIfInBounds_toArray, List.set_cons_succ, List.set_cons_zero]
          go_wp2
          go_roundw
          case rel => exact ⟨k + 1, by omega, by go_num, HJ3.out⟩
          case measure => simp [intOf]; omega
        · refine ⟨_, rfl, ?_⟩
          have HX3 := hid hx3
          clear hx3 hy HRR
          refine wpListIn_valW (v := .bool true) (w' := w3) rfl (by go_simp) ?_
          show Exit.then _ _ .normal _ _
          simp only [Act.put, List.setIfInBounds_toArray, List.set_cons_succ, List.set_cons_zero]
          go_wp2
          exact bodyPost_ret (results_none rfl _ _ _) rfl ⟨⟨_, rfl⟩, .inr HX3.out⟩
      · have hkN : k = N := by omega
        subst hkN
        go_wp2
        go_end0
        exact ⟨⟨_, rfl⟩, .inl HJ.out⟩
end Go.Proofs.Ytobdegmlijnogaa
