/-
  The document's entries of a block, walked.
-/
import Derived.Test.YtnnookkcnmgbfaaGreatJ27
import Derived.Test.YtnnookkcnmgbfaaGreatJ14
import Derived.Test.YtnnookkcnmgbfaaGreatJ05
namespace Go.Proofs.YtnnookkcnmgbfaaGreat
open Go.ChangeShapes Go.WideShapes Go.ChangeAt Go.RowKit

theorem wpList_append_kvB {w : World} {ops : Array Oper} {rest : List Oper} {o : Oper} {a : Act} {Q : Exit → Act → World → Prop} (hgd : o.guard = none) (s x : Operand)
    (ho : o.op = .call { callee := .builtin .append, args := #[s, x], argTypes := #[36, 36] }) (base : Nat) (hbase : base ≤ w.heap.size) (v : Value) (n : Nat) (xs : List Value) (hs : a.eval s = v) (hown : w.ownsRow base 47 2 v n xs) (G : Nat) (hx : a.eval x = .slice (some ⟨G, 0, none⟩) 1 1) {u0 u1 : Value} {T : TypeId} (hG : w.heap[G]? = some (.cells #[u0, u1] T (0, 0)))
    (hu : ∀ u ∈ [u0, u1], u.oneCell' = true) (hl : n ≤ 1000000000)
    (h : ∀ v' w', w'.ownsRow base 47 2 v' (n + 1) (xs ++ [u0, u1]) → w.grownBy w' v.ownBlock → wpList Tryz.prog ops Q rest (a.put o.dst v') w') :
    wpList Tryz.prog ops Q (o :: rest) a w := by
  obtain ⟨i0, hi, hz0, hz1, hz2⟩ := info_parts infoP
  exact wpList_append_own_at w hgd s x 36 ho base 47 i0 _ 2 48 Tryz.underlying36 hi hz0 hz1 hz2 rfl (by decide) v n xs hs hown ⟨G, 0, none⟩ 1 1 [u0, u1] hx rfl (fun j u hj => by rw [Addr.add_lit, Nat.zero_add, blk_cell hG, ← Array.getElem?_toList]; exact hj) hu (by unfold maxLen; omega) (by omega) hbase fun v' w' h1 h2 _ _ => h v' w' h1 h2

/-- What entries answers. -/
def EntO (w' : World) (B : Nat) (R : Option Ps) (e : Ending) : Prop :=
  match R with
  | none => e = .returned (.tuple #[.slice none 0 0, .bool false])
  | some ps => ∃ v, e = .returned (.tuple #[v, .bool true]) ∧ ColO w' B v ps
theorem headB {W : World} {a : Option Addr} {n c l : Nat} {b : List Nat} (hr : Rd W (.slice a n c) (bv b)) (hn : b.length = n) (hl : l ≤ n) :
    (∀ W', (Instr.sliceAt 22 (.slice a n c) none (some (.int .i64 (l : Int))) none).run Tryz.prog W' = .ok (.slice a l c) W') ∧ Rd W (.slice a l c) (bv (b.take l)) := by
  have hnc : n ≤ c := by
    rcases hr with ⟨h, h'⟩ | ⟨ad, c', h, h4, h5⟩
    · simp only [Value.slice.injEq] at h; omega
    · simp only [Value.slice.injEq] at h; omega
  refine ⟨fun W' => ?_, ?_⟩
  · rw [run_sliceAt_slice W' _ _ _ _ _ (by kernel_rfl), run_slice_h W' _ _ _ _ (by kernel_rfl) .i64 (l : Int) (by omega) (by omega), show (sizeOf (Tryz.prog.elem 22)).run Tryz.prog W' = .ok 1 W' by kernel_rfl]
    simp only [Result.andThen_ok, sliced, Int.toNat_natCast, Nat.zero_mul, Nat.sub_zero]
    have : (a.map fun x => x.add 0) = a := by
      cases a with
      | none => rfl
      | some x => simp [Addr.add]
    rw [this]
    split <;> rfl
  · rcases hr with ⟨h, h'⟩ | ⟨ad, c', h, h4, h5⟩
    · simp only [Value.slice.injEq] at h
      obtain ⟨rfl, rfl, rfl⟩ := h
      obtain rfl : l = 0 := by omega
      exact .inl ⟨rfl, by simp [bv]⟩
    · simp only [Value.slice.injEq] at h
      obtain ⟨rfl, h1, rfl⟩ := h
      rw [bv_len] at h4 h1
      refine .inr ⟨ad, c, by rw [bv_len, List.length_take, hn, Nat.min_eq_left hl], by rw [bv_len, List.length_take]; omega, fun j u hj => ?_⟩
      rw [bv_take, List.getElem?_take] at hj
      split at hj
      · exact h5 _ _ hj
      · cases hj
theorem winB {W : World} {a : Option Addr} {n c i m : Nat} {b : List Nat} (hr : Rd W (.slice a n c) (bv b)) (hn : b.length = n) (hi : i + m ≤ n) (h0 : 0 < n) :
    ∃ ad, (∀ W', (Instr.sliceAt 22 (.slice a n c) (some (.int .i64 (i : Int))) (some (.int .i64 ((i + m : Nat) : Int))) none).run Tryz.prog W' = .ok (.slice (some ad) m (c - i)) W') ∧ Rd W (.slice (some ad) m (c - i)) (bv ((b.drop i).take m)) ∧ ∀ j u, (bv ((b.drop i).take m))[j]? = some u → W.cell? (ad.add j) = some u := by
  rcases hr.split with ⟨rfl, _⟩ | ⟨p, off, c', e, hc, _, hcells⟩
  · simp at hn; omega
  simp only [Value.slice.injEq] at e
  obtain ⟨rfl, _, rfl⟩ := e
  rw [hn] at hc
  have hlen : ((b.drop i).take m).length = m := by rw [List.length_take, List.length_drop, hn]; omega
  have cells : m = 0 ∨ ∀ j u, (bv ((b.drop i).take m))[j]? = some u → W.cell? ⟨p, off + i + j, none⟩ = some u := by
    right
    intro j u hj
    unfold bv at hj
    rw [List.getElem?_map] at hj
    cases hm : ((b.drop i).take m)[j]? with
    | none => rw [hm] at hj; cases hj
    | some x =>
      rw [hm] at hj; cases hj
      rw [List.getElem?_take] at hm
      split at hm
      · rw [List.getElem?_drop] at hm
        rw [Nat.add_assoc]; exact hcells _ _ hm
      · cases hm
  have run : ∀ W', (Instr.sliceAt 22 (.slice (some ⟨p, off, none⟩) n c) (some (.int .i64 (i : Int))) (some (.int .i64 ((i + m : Nat) : Int))) none).run Tryz.prog W' = .ok (.slice (some (if c = i then ⟨p, off, none⟩ else ⟨p, off + i, none⟩)) m (c - i)) W' := fun W' => by
    rw [run_sliceAt_slice W' _ _ _ _ _ (by kernel_rfl), run_slice_lh W' _ _ _ _ (by kernel_rfl) .i64 .i64 (i : Int) ((i + m : Nat) : Int) (by omega) (by omega) (by omega), show (sizeOf (Tryz.prog.elem 22)).run Tryz.prog W' = .ok 1 W' by kernel_rfl]
    simp only [Result.andThen_ok, sliced, Int.toNat_natCast, Nat.mul_one, Option.map_some, Addr.add_lit, Nat.add_sub_cancel_left]
    split <;> rfl
  refine ⟨_, run, ?_, ?_⟩
  · refine .inr ⟨_, _, by rw [bv_len, hlen], by rw [bv_len, hlen]; omega, fun j u hj => ?_⟩
    rcases cells with h | h
    · subst h; simp [bv] at hj
    · have hjl : j < m := by
        rcases Nat.lt_or_ge j m with h' | h'
        · exact h'
        · rw [List.getElem?_eq_none (by rw [bv_len, hlen]; exact h')] at hj; cases hj
      rw [if_neg (by omega), Addr.add_lit]; exact h j u hj
  · intro j u hj
    rcases cells with h | h
    · subst h; simp [bv] at hj
    · have hjl : j < m := by
        rcases Nat.lt_or_ge j m with h' | h'
        · exact h'
        · rw [List.getElem?_eq_none (by rw [bv_len, hlen]; exact h')] at hj; cases hj
      rw [if_neg (by omega), Addr.add_lit]; exact h j u hj

set_option maxRecDepth 20000 in
set_option maxHeartbeats 3200000 in
theorem entries_c (w : World) {v : Value} {all : List Nat} (hr : Rd w v (bv all)) (hb : By all) (hl : all.length ≤ 1000000) :
    Calls Tryz.prog 67 #[v] w fun e w' => EntO w' w.heap.size (entsF (all.length + 1) all 0 []) e ∧ Fr [] w w' := by
  have HR := hid hr
  have HB := hid hb
  obtain ⟨a, c, hv⟩ := hr.form
  rw [bv_len] at hv
  subst hv
  obtain ⟨R, hR⟩ : ∃ R, R = entsF (all.length + 1) all 0 [] := ⟨_, rfl⟩
  have HRR := hid hR
  rw [← hR]
  obtain ⟨L, hL⟩ : ∃ L, L = all.length := ⟨_, rfl⟩
  have HL := hid hL
  rw [← hL] at hl HR HRR ⊢
  clear hr hb hR hL
  go_enter Tryz.func67, Tryz.ntmps67
  go_wp2_with fail
  go_loopw [4, 5, 6] (fun v4 v5 v6 wr => ∃ (t f : Nat) (ps : Ps) (ahead : List Nat) (oa la : Option Addr) (on oc ln lc : Nat), v6 = .int .i64 (t : Int) ∧ v4 = .slice oa on oc ∧ v5 = .slice la ln lc ∧ t ≤ L ∧ L - t < f ∧ on = ps.length ∧ ln = ahead.length ∧ ColO wr w.heap.size (.slice oa on oc) ps ∧ wr.ownsRow w.heap.size 5 1 (.slice la ln lc) ln (bv ahead) ∧ By ahead ∧ ln ≤ t ∧ ps.length ≤ t ∧ R = (entsF f all t ahead).map (ps ++ ·) ∧ Fr [] w wr) (fun _ _ v6 _ => L - (intOf v6).toNat)
  case atStart => exact ⟨0, L + 1, [], [], none, none, 0, 0, 0, 0, rfl, rfl, rfl, by omega, by omega, rfl, rfl, ColO.nil _ _, World.ownsRow_nil _ _ _ _, (fun x hx => by cases hx), by omega, by simp, by rw [HRR.out]; simp, Fr.refl _ _⟩
  case round =>
    obtain ⟨t, f, ps, ahead, oa, la, on, oc, ln, lc, rfl, rfl, rfl, htL, hf, hon, hln, hC, hO, hba, hlt, hpt, hRf, hF⟩ := hrel
    have HC := hid hC
    have HO := hid hO
    have HBA := hid hba
    have HRF := hid hRf
    have HF := hid hF
    have HON := hid hon
    have HLN := hid hln
    clear hC hO hba hRf hF hon hln HRR
    obtain ⟨f, rfl⟩ : ∃ g, f = g + 1 := ⟨f - 1, by omega⟩
    by_cases hle : t < L
    · have hle' : (t : Int) < (L : Int) := by omega
      have hLw : IntKind.u64.wrap (L : Int) = (L : Int) := by rw [IntKind.wrap_u64]; omega
      obtain ⟨N, hN⟩ : ∃ N, N = wr.heap.size := ⟨_, rfl⟩
      obtain ⟨W1, hW1⟩ : ∃ W, W = wr.alloc (.cells #[.int .i64 0, .int .i64 0, .int .i64 0] 165) := ⟨_, rfl⟩
      have F1 : Hid (Fr [] wr W1) := hid (by rw [hW1]; exact (Fr.refl _ wr).alloc _)
      have X1 : Hid (W1.heap[N]? = some (.cells #[.int .i64 0, .int .i64 0, .int .i64 0] 165 (0, 0))) := hid (by rw [hW1, hN]; exact blk_new _ _)
      have HNN := hid hN
      have HT := fun (W : World) (hW : Fr [] w W) (k : Nat) (hk : k ≤ 140737488355328) => reftake_c (HR.out.fr hW) HB.out (by have := HL.out; omega) k hk
      have HT := hid HT
      go_upto_region 6 with fail
      rw [← hW1, ← hN]
      clear hW1 hN
      go_wp2_with fail
      refine wp_loop_rounds 4 ?_
      rw [rounds_succ]
      rcases hk0 : takeL (all.drop t) with ⟨x0, k0, e0⟩
      have TC := HT.out W1 (HF.out.trans F1.out) t (by omega)
      rw [hk0] at TC
      have HK0 := hid hk0
      have TC := hid TC
      clear hk0
      go_wp2_with fail
      refine TC.out.mono ?_
      rintro e w' ⟨rfl, hw'⟩
      have hw'' := hw'.symm
      clear hw'
      subst hw''
      clear TC
      unfold tkv
      dsimp only
      by_cases he0 : e0 = 0
      · subst he0
        by_cases hx0 : x0 ≤ L
        · have hx0' : ¬ (L : Int) < (x0 : Int) := by omega
          have G0 : Hid (numL all t all.length = some (x0, t + k0)) := hid (by have := numL_yes (all := all) (t := t) (most := all.length) (by rw [HK0.out]) (by rw [HK0.out, ← HL.out]; exact hx0); rw [HK0.out] at this; exact this)
          have hle0 := numL_le HB.out G0.out (by rw [← HL.out]; omega)
          rw [← HL.out] at hle0
          obtain ⟨t1, ht1⟩ : ∃ u, u = t + k0 := ⟨_, rfl⟩
          rw [← ht1] at G0 hle0
          have ht1i : (t : Int) + (k0 : Int) = (t1 : Int) := by omega
          have Ht1 := hid ht1
          clear ht1
          have hxw0 : IntKind.i64.wrap (x0 : Int) = (x0 : Int) := by rw [IntKind.wrap_i64]; omega
          have hc0 : W1.cell? ⟨N, 0, none⟩ = some (.int .i64 0) := by rw [blk_cell X1.out]; rfl
          have hz0 := blk_frozen X1.out 0
          obtain ⟨W2, hW2⟩ : ∃ W, W = W1.setCell ⟨N, 0, none⟩ (.int .i64 (x0 : Int)) := ⟨_, rfl⟩
          have F2 : Hid (Fr [] wr W2) := hid (by rw [hW2]; exact F1.out.set _ _ (.inr (by have := HNN.out; omega)))
          have X2 : Hid (W2.heap[N]? = some (.cells #[.int .i64 (x0 : Int), .int .i64 0, .int .i64 0] 165 (0, 0))) := hid (by rw [hW2, blk_set X1.out]; rfl)
          go_upto_region 13 with fail
          rw [← hW2]
          clear hW2 hc0 hz0 X1
          go_wp2_with fail
          rw [rounds_succ]
          rcases hk1 : takeL (all.drop t1) with ⟨x1, k1, e1⟩
          have TC := HT.out W2 (HF.out.trans F2.out) t1 (by omega)
          rw [hk1] at TC
          have HK1 := hid hk1
          have TC := hid TC
          clear hk1
          go_wp2_with fail
          refine TC.out.mono ?_
          rintro e w' ⟨rfl, hw'⟩
          have hw'' := hw'.symm
          clear hw'
          subst hw''
          clear TC
          unfold tkv
          dsimp only
          by_cases he1 : e1 = 0
          · subst he1
            by_cases hx1 : x1 ≤ L
            · have hx1' : ¬ (L : Int) < (x1 : Int) := by omega
              have G1 : Hid (numL all t1 all.length = some (x1, t1 + k1)) := hid (by have := numL_yes (all := all) (t := t1) (most := all.length) (by rw [HK1.out]) (by rw [HK1.out, ← HL.out]; exact hx1); rw [HK1.out] at this; exact this)
              have hle1 := numL_le HB.out G1.out (by rw [← HL.out]; omega)
              rw [← HL.out] at hle1
              obtain ⟨t2, ht2⟩ : ∃ u, u = t1 + k1 := ⟨_, rfl⟩
              rw [← ht2] at G1 hle1
              have ht2i : (t1 : Int) + (k1 : Int) = (t2 : Int) := by omega
              have Ht2 := hid ht2
              clear ht2
              have hxw1 : IntKind.i64.wrap (x1 : Int) = (x1 : Int) := by rw [IntKind.wrap_i64]; omega
              have hc1 : W2.cell? ⟨N, 1, none⟩ = some (.int .i64 0) := by rw [blk_cell X2.out]; rfl
              have hz1 := blk_frozen X2.out 1
              obtain ⟨W3, hW3⟩ : ∃ W, W = W2.setCell ⟨N, 1, none⟩ (.int .i64 (x1 : Int)) := ⟨_, rfl⟩
              have F3 : Hid (Fr [] wr W3) := hid (by rw [hW3]; exact F2.out.set _ _ (.inr (by have := HNN.out; omega)))
              have X3 : Hid (W3.heap[N]? = some (.cells #[.int .i64 (x0 : Int), .int .i64 (x1 : Int), .int .i64 0] 165 (0, 0))) := hid (by rw [hW3, blk_set X2.out]; rfl)
              go_upto_region 13 with fail
              rw [← hW3]
              clear hW3 hc1 hz1 X2
              go_wp2_with fail
              rw [rounds_succ]
              rcases hk2 : takeL (all.drop t2) with ⟨x2, k2, e2⟩
              have TC := HT.out W3 (HF.out.trans F3.out) t2 (by omega)
              rw [hk2] at TC
              have HK2 := hid hk2
              have TC := hid TC
              clear hk2
              go_wp2_with fail
              refine TC.out.mono ?_
              rintro e w' ⟨rfl, hw'⟩
              have hw'' := hw'.symm
              clear hw'
              subst hw''
              clear TC
              unfold tkv
              dsimp only
              by_cases he2 : e2 = 0
              · subst he2
                by_cases hx2 : x2 ≤ L
                · have hx2' : ¬ (L : Int) < (x2 : Int) := by omega
                  have G2 : Hid (numL all t2 all.length = some (x2, t2 + k2)) := hid (by have := numL_yes (all := all) (t := t2) (most := all.length) (by rw [HK2.out]) (by rw [HK2.out, ← HL.out]; exact hx2); rw [HK2.out] at this; exact this)
                  have hle2 := numL_le HB.out G2.out (by rw [← HL.out]; omega)
                  rw [← HL.out] at hle2
                  obtain ⟨t3, ht3⟩ : ∃ u, u = t2 + k2 := ⟨_, rfl⟩
                  rw [← ht3] at G2 hle2
                  have ht3i : (t2 : Int) + (k2 : Int) = (t3 : Int) := by omega
                  have Ht3 := hid ht3
                  clear ht3
                  have hxw2 : IntKind.i64.wrap (x2 : Int) = (x2 : Int) := by rw [IntKind.wrap_i64]; omega
                  have hc2 : W3.cell? ⟨N, 2, none⟩ = some (.int .i64 0) := by rw [blk_cell X3.out]; rfl
                  have hz2 := blk_frozen X3.out 2
                  obtain ⟨W4, hW4⟩ : ∃ W, W = W3.setCell ⟨N, 2, none⟩ (.int .i64 (x2 : Int)) := ⟨_, rfl⟩
                  have F4 : Hid (Fr [] wr W4) := hid (by rw [hW4]; exact F3.out.set _ _ (.inr (by have := HNN.out; omega)))
                  have X4 : Hid (W4.heap[N]? = some (.cells #[.int .i64 (x0 : Int), .int .i64 (x1 : Int), .int .i64 (x2 : Int)] 165 (0, 0))) := hid (by rw [hW4, blk_set X3.out]; rfl)
                  go_upto_region 13 with fail
                  rw [← hW4]
                  clear hW4 hc2 hz2 X3
                  go_wp2_with fail
                  rw [rounds_succ]
                  have hc0 : W4.cell? ⟨N, 0, none⟩ = some (.int .i64 (x0 : Int)) := by rw [blk_cell X4.out]; rfl
                  have hc1 : W4.cell? ⟨N, 1, none⟩ = some (.int .i64 (x1 : Int)) := by rw [blk_cell X4.out]; rfl
                  have hc2 : W4.cell? ⟨N, 2, none⟩ = some (.int .i64 (x2 : Int)) := by rw [blk_cell X4.out]; rfl
                  have FW4 := hid (HF.out.trans F4.out)
                  clear F1 F2 F3 HT HK0 HK1 HK2
                  by_cases q0 : x0 ≤ ln
                  · have q0' : ¬ (ln : Int) < (x0 : Int) := by omega
                    by_cases q1 : t3 + x1 ≤ L
                    · have q1' : ¬ (L : Int) - (t3 : Int) < (x1 : Int) := by omega
                      by_cases q2 : t3 + x1 + x2 ≤ L
                      · have q2' : ¬ (L : Int) - (t3 : Int) - (x1 : Int) < (x2 : Int) := by omega
                        obtain ⟨t4, ht4⟩ : ∃ u, u = t3 + x1 := ⟨_, rfl⟩
                        obtain ⟨t5, ht5⟩ : ∃ u, u = t4 + x2 := ⟨_, rfl⟩
                        obtain ⟨K, hK⟩ : ∃ K, K = ahead.take x0 ++ (all.drop t3).take x1 := ⟨_, rfl⟩
                        obtain ⟨V, hV⟩ : ∃ V, V = (all.drop t4).take x2 := ⟨_, rfl⟩
                        have LY : Hid (lineL all ahead t = some (x0, K, V, t5)) := hid (by rw [hK, hV, ht5, ht4]; exact line_yes G0.out G1.out G2.out (by rw [← HLN.out]; exact q0) (by rw [← HL.out]; exact q2))
                        have LM := line_more HB.out HBA.out (by rw [← HL.out]; exact htL) LY.out
                        have RO4 : Hid (Rd W4 (.slice la ln lc) (bv ahead)) := hid (Rd.ownN (ownsRow_fr HO.out F4.out) HLN.out)
                        obtain ⟨hhead, rhead⟩ := headB RO4.out HLN.out.symm q0
                        obtain ⟨ad1, hwin1, rwin1, cwin1⟩ := winB (HR.out.fr FW4.out) HL.out.symm q1 (by omega)
                        obtain ⟨ad2, hwin2, rwin2, _⟩ := winB (i := t4) (m := x2) (HR.out.fr FW4.out) HL.out.symm (by omega) (by omega)
                        rw [← ht4] at hwin1
                        rw [← ht5] at hwin2
                        rw [← hV] at rwin2
                        have e4 : (t3 : Int) + (x1 : Int) = (t4 : Int) := by omega
                        have e5 : (t4 : Int) + (x2 : Int) = (t5 : Int) := by omega
                        have e4w : IntKind.i64.wrap (t4 : Int) = (t4 : Int) := by rw [IntKind.wrap_i64]; omega
                        have e5w : IntKind.i64.wrap (t5 : Int) = (t5 : Int) := by rw [IntKind.wrap_i64]; omega
                        have hKl : (ahead.take x0).length = x0 := by rw [List.length_take]; have := HLN.out; omega
                        have hWl : ((all.drop t3).take x1).length = x1 := by rw [List.length_take, List.length_drop]; have := HL.out; omega
                        have hVl : V.length = x2 := by rw [hV, List.length_take, List.length_drop]; have := HL.out; omega
                        have HKK := hid hK
                        have HT4 := hid ht4
                        have HT5 := hid ht5
                        have HHEAD := hid hhead
                        have HWIN1 := hid hwin1
                        have RHEAD := hid rhead
                        have RWIN1 := hid rwin1
                        have CWIN1 := hid cwin1
                        have RWIN2 := hid rwin2
                        have HVL := hid hVl
                        clear hK hV ht4 ht5 hhead hwin1 rhead rwin1 cwin1 rwin2 hVl q2 q1
                        go_upto_region 16 with fail
                        clear hc2
                        obtain ⟨D0, hD⟩ : ∃ W, W = W4.drew := ⟨_, rfl⟩
                        have DF : Hid (Fr [] W4 D0) := hid (by rw [hD]; exact (Fr.refl _ W4).drew)
                        have DX : Hid (D0.heap[N]? = some (.cells #[.int .i64 (x0 : Int), .int .i64 (x1 : Int), .int .i64 (x2 : Int)] 165 (0, 0))) := hid (by rw [hD]; exact X4.out)
                        refine wp_region_held_drew (S := fun w' => w'.heap[N]? = some (.cells #[.int .i64 (x0 : Int), .int .i64 (x1 : Int), .int .i64 (x2 : Int)] 165 (0, 0))) (by kernel_rfl) (by rw [← hD]; exact DX.out) (fun hS => ?_)
                        rw [← hD] at hS ⊢
                        clear hD hc0 hc1
                        refine wpAnyH_take (i := 0) (v := .slice la ln lc) rfl (by kernel_rfl) (by kernel_rfl) (by kernel_rfl) (fun _ _ _ h => h) (.inl ⟨by rfl, fun wx _ => by go_simp⟩) hS ?_
                        simp only [Act.put, List.getElem_toArray, List.getElem_cons_zero, List.set_cons_succ, List.set_cons_zero, List.setIfInBounds_toArray]
                        refine wpAnyH_take (i := 1) (v := .pointer (some ⟨N, 0, none⟩)) rfl (by kernel_rfl) (by kernel_rfl) (by kernel_rfl) (fun _ _ _ h => h) (.inl ⟨by rfl, fun wx _ => by go_simp⟩) hS ?_
                        simp only [Act.put, List.getElem_toArray, List.getElem_cons_succ, List.getElem_cons_zero, List.set_cons_succ, List.set_cons_zero, List.setIfInBounds_toArray]
                        refine wpAnyH_take (i := 2) (v := .int .i64 (x0 : Int)) rfl (by kernel_rfl) (by kernel_rfl) (by kernel_rfl) (fun _ _ _ h => h) (.inl ⟨by rfl, fun wx hX => by have hy : wx.cell? ⟨N, 0, none⟩ = some (.int .i64 (x0 : Int)) := (by rw [blk_cell hX]; rfl); go_simp⟩) hS ?_
                        simp only [Act.put, List.getElem_toArray, List.getElem_cons_succ, List.getElem_cons_zero, List.set_cons_succ, List.set_cons_zero, List.setIfInBounds_toArray]
                        refine wpAnyH_take (i := 3) (v := .slice la x0 lc) rfl (by kernel_rfl) (by kernel_rfl) (by kernel_rfl) (fun _ _ _ h => h) (.inl ⟨by rfl, fun wx _ => by have := HHEAD.out wx; go_simp⟩) hS ?_
                        simp only [Act.put, List.getElem_toArray, List.getElem_cons_succ, List.getElem_cons_zero, List.set_cons_succ, List.set_cons_zero, List.setIfInBounds_toArray]
                        refine wpAnyH_take (i := 5) (v := .slice a L c) rfl (by kernel_rfl) (by kernel_rfl) (by kernel_rfl) (fun _ _ _ h => h) (.inl ⟨by rfl, fun wx _ => by go_simp⟩) hS ?_
                        simp only [Act.put, List.getElem_toArray, List.getElem_cons_succ, List.getElem_cons_zero, List.set_cons_succ, List.set_cons_zero, List.setIfInBounds_toArray]
                        refine wpAnyH_take (i := 6) (v := .int .i64 (t3 : Int)) rfl (by kernel_rfl) (by kernel_rfl) (by kernel_rfl) (fun _ _ _ h => h) (.inl ⟨by rfl, fun wx _ => by go_simp⟩) hS ?_
                        simp only [Act.put, List.getElem_toArray, List.getElem_cons_succ, List.getElem_cons_zero, List.set_cons_succ, List.set_cons_zero, List.setIfInBounds_toArray]
                        refine wpAnyH_take (i := 7) (v := .int .i64 (t3 : Int)) rfl (by kernel_rfl) (by kernel_rfl) (by kernel_rfl) (fun _ _ _ h => h) (.inl ⟨by rfl, fun wx _ => by go_simp⟩) hS ?_
                        simp only [Act.put, List.getElem_toArray, List.getElem_cons_succ, List.getElem_cons_zero, List.set_cons_succ, List.set_cons_zero, List.setIfInBounds_toArray]
                        refine wpAnyH_take (i := 8) (v := .pointer (some ⟨N, 1, none⟩)) rfl (by kernel_rfl) (by kernel_rfl) (by kernel_rfl) (fun _ _ _ h => h) (.inl ⟨by rfl, fun wx _ => by go_simp⟩) hS ?_
                        simp only [Act.put, List.getElem_toArray, List.getElem_cons_succ, List.getElem_cons_zero, List.set_cons_succ, List.set_cons_zero, List.setIfInBounds_toArray]
                        refine wpAnyH_take (i := 9) (v := .int .i64 (x1 : Int)) rfl (by kernel_rfl) (by kernel_rfl) (by kernel_rfl) (fun _ _ _ h => h) (.inl ⟨by rfl, fun wx hX => by have hy : wx.cell? ⟨N, 1, none⟩ = some (.int .i64 (x1 : Int)) := (by rw [blk_cell hX]; rfl); go_simp⟩) hS ?_
                        simp only [Act.put, List.getElem_toArray, List.getElem_cons_succ, List.getElem_cons_zero, List.set_cons_succ, List.set_cons_zero, List.setIfInBounds_toArray]
                        refine wpAnyH_take (i := 10) (v := .int .i64 (t4 : Int)) rfl (by kernel_rfl) (by kernel_rfl) (by kernel_rfl) (fun _ _ _ h => h) (.inl ⟨by rfl, fun wx _ => by have := e4; have := e4w; go_simp⟩) hS ?_
                        simp only [Act.put, List.getElem_toArray, List.getElem_cons_succ, List.getElem_cons_zero, List.set_cons_succ, List.set_cons_zero, List.setIfInBounds_toArray]
                        refine wpAnyH_take (i := 11) (v := .slice (some ad1) x1 (c - t3)) rfl (by kernel_rfl) (by kernel_rfl) (by kernel_rfl) (fun _ _ _ h => h) (.inl ⟨by rfl, fun wx _ => by have := HWIN1.out wx; go_simp⟩) hS ?_
                        simp only [Act.put, List.getElem_toArray, List.getElem_cons_succ, List.getElem_cons_zero, List.set_cons_succ, List.set_cons_zero, List.setIfInBounds_toArray]
                        clear hS
                        refine wpAnyH_ready (rs := [4]) (by kernel_rfl) (by simp) ?_
                        refine AllReadyH.cons rfl (fun K' hK' => ?_) AllReadyH.nil
                        refine step_append_nilS (sx := .slice la x0 lc) rfl (.const (.slice none 0 0)) (.tmp 73) rfl (by simp only [Act.eval]) (by simp [Act.eval]) (ns := ahead.take x0) (RHEAD.out.fr DF.out) (by omega) hKl.symm ?_
                        intro ka kc D1 o1 f1
                        have DX1 := hid (f1.at DX.out (by simp))
                        have DF1 := hid (DF.out.trans f1)
                        have O1 := hid o1
                        have hd1 : D0.heap.size ≤ D1.heap.size := f1.size
                        have hd0 : W4.heap.size ≤ D0.heap.size := DF.out.size
                        refine hK'.out _ _ DX1.out (fun _ => ?_)
                        clear hK' K' o1 f1
                        refine wpAnyH_ready (rs := [12]) (by kernel_rfl) (by simp) ?_
                        refine AllReadyH.cons rfl (fun K' hK' => ?_) AllReadyH.nil
                        obtain ⟨i0, hi0, hz0, hz1, hz2⟩ := info_parts infoB
                        refine step_append_own rfl (.tmp 74) (.tmp 81) 22 rfl D0.heap.size 5 i0 (.int .u8 0) 1 1 Tryz.underlying22 hi0 hz0 hz1 hz2 rfl (by decide) (.slice ka x0 kc) x0 (bv (ahead.take x0)) (by simp [Act.eval, Act.put]) (by have := O1.out; rwa [hKl] at this) ad1 x1 (c - t3) (bv ((all.drop t3).take x1)) (by simp [Act.eval, Act.put]) (by rw [bv_len, hWl, Nat.mul_one]) (fun j u hj => cell_fr DF1.out (CWIN1.out j u hj)) bv_one (by unfold maxLen; omega) (by omega) hd1 ?_
                        intro vk D2 o2 g2 _
                        obtain ⟨va, vc, rfl, _⟩ := ownsRow_slice o2
                        have hbw : w.heap.size ≤ D0.heap.size := Nat.le_trans FW4.out.size hd0
                        have DF2 := hid (DF1.out.grew O1.out hd0 (by have := g2; exact this))
                        have DX2 := hid (DF2.out.at X4.out (by simp))
                        obtain ⟨kl, hkl⟩ : ∃ k, k = x0 + x1 := ⟨_, rfl⟩
                        rw [← hkl] at o2 ⊢
                        have OK2 : Hid (D2.ownsRow w.heap.size 5 1 (.slice va kl vc) kl (bv K)) := hid (by rw [HKK.out, bv_append]; exact own_base o2 hbw)
                        have HKL : Hid (kl = K.length) := hid (by rw [HKK.out, List.length_append, hKl, hWl]; exact hkl)
                        have hkl2 : kl ≤ 2000000 := by omega
                        refine hK'.out _ _ DX2.out (fun hS => ?_)
                        clear hK' K' o2 g2 hS hkl
                        refine wpAnyH_ready (rs := [13]) (by kernel_rfl) (by simp) ?_
                        refine AllReadyH.cons rfl (fun K' hK' => ?_) AllReadyH.nil
                        go_simp
                        refine hK'.out _ _ DX2.out (fun hS => ?_)
                        clear hK' K' hS
                        refine wpAnyH_done (by kernel_rfl) ?_ _
                        have hc1 : D2.cell? ⟨N, 1, none⟩ = some (.int .i64 (x1 : Int)) := by rw [blk_cell DX2.out]; rfl
                        have hc2 : D2.cell? ⟨N, 2, none⟩ = some (.int .i64 (x2 : Int)) := by rw [blk_cell DX2.out]; rfl
                        have RV2 : Hid (Rd D2 (.slice (some ad2) x2 (c - t4)) (bv V)) := hid (RWIN2.out.fr DF2.out)
                        have hVb : V.length ≤ 140737488355328 := by rw [HVL.out]; omega
                        have FWD := hid (FW4.out.trans DF2.out)
                        have FRD := hid (F4.out.trans DF2.out)
                        obtain ⟨cs, occ, hcs⟩ := HC.out
                        rw [← HON.out] at occ
                        have OCC := hid occ
                        have HCS := hid hcs
                        clear occ hcs HHEAD HWIN1 RHEAD RWIN1 CWIN1 RWIN2 DX DX1 DF DF1 O1 hd1 X4
                        go_upto_region 19 with (at_builtin; first | (refine wpList_append_nil rfl _ _ rfl rfl (Fr.refl _ D2) _ RV2.out rfl hVb ?_; intro vv w3 o3 f3 _; rw [HVL.out] at o3; obtain ⟨vva, vvc, rfl, _⟩ := ownsRow_slice o3; have O3 := hid o3; have F3 := hid f3; have hs3 := f3.size; clear o3 f3) | (refine wpList_append_kvB rfl _ _ rfl w.heap.size (Nat.le_trans (FWD.out.trans (F3.out.alloc _)).size (Nat.le_refl _)) _ _ _ rfl (ownsRow_fr OCC.out (FRD.out.trans (F3.out.alloc _))) w3.heap.size rfl (blk_new _ _) (fun u hu => by simp at hu; rcases hu with rfl | rfl <;> rfl) (by have := HON.out; omega) ?_; intro v5 w5 o5 g5; obtain ⟨oa5, oc5, rfl, _⟩ := ownsRow_slice o5; have O5 := hid o5; have G5 := hid g5; clear o5 g5))
                        obtain ⟨W6, hW6⟩ : ∃ W, W = w3.alloc (.cells #[.slice va kl vc, .slice vva x2 vvc] 47) := ⟨_, rfl⟩
                        have F36 : Fr [] w3 W6 := by rw [hW6]; exact (Fr.refl _ w3).alloc _
                        rw [← hW6] at G5
                        clear hW6
                        have F26 : Fr [] D2 W6 := F3.out.trans F36
                        have x6 := F26.at DX2.out (by simp)
                        have oc6 := ownsRow_fr OCC.out (FRD.out.trans F26)
                        have x5 : w5.heap[N]? = some (.cells #[.int .i64 (x0 : Int), .int .i64 (x1 : Int), .int .i64 (x2 : Int)] 165 (0, 0)) := by rw [G5.out.block _ (blk_lt x6) (fun e' => own_not oc6 x6 (by decide) e'.symm)]; exact x6
                        have hc2' : w5.cell? ⟨N, 2, none⟩ = some (.int .i64 (x2 : Int)) := by rw [blk_cell x5]; rfl
                        have ok6 : W6.ownsRow w.heap.size 5 1 (.slice va kl vc) kl (bv K) := ownsRow_fr OK2.out F26
                        have ov6 : W6.ownsRow w.heap.size 5 1 (.slice vva x2 vvc) x2 (bv V) := own_base (ownsRow_fr O3.out F36) FWD.out.size
                        obtain ⟨bk, bw, hm3, hmL, hmk, _, _⟩ := LM
                        rw [← HL.out] at hmL
                        rw [← HKL.out, HVL.out] at hmk
                        have CO : Hid (ColO w5 w.heap.size (.slice oa5 (on + 1) oc5) (ps ++ [(K, V)])) := hid (by
                          refine ColO.app (W := W6) (cs := cs) (by rw [← HON.out]; exact oc6) (fun j p hj => ?_) (kv := .slice va kl vc) (vv := .slice vva x2 vvc) (by rw [← HKL.out]; exact ok6) (by rw [HVL.out]; exact ov6) bk bw (by dsimp only; rw [← HKL.out]; omega) (by dsimp only; omega) (by rw [← HON.out]; exact O5.out) G5.out
                          obtain ⟨kv, vv, c0, c1, q0, q1, b0⟩ := HCS.out j p hj
                          exact ⟨kv, vv, c0, c1, ownsRow_fr q0 (FRD.out.trans F26), ownsRow_fr q1 (FRD.out.trans F26), b0⟩)
                        have OL5 : Hid (w5.ownsRow w.heap.size 5 1 (.slice va kl vc) kl (bv K)) := hid (own_stays oc6 G5.out ok6 (by decide))
                        have F5 : Hid (Fr [] w w5) := hid ((FWD.out.trans F26).grown G5.out (fun k hk => .inr (oc6.lt k hk).1))
                        have BK := hid bk
                        clear x6 x5 oc6 ok6 ov6 bk bw G5 O5 F26 F36 OCC HCS O3 F3 OK2 RV2 DX2 hc1 hc2
                        by_cases hk136 : kl ≤ 136
                        · have hk136' : ¬ (136 : Int) < (kl : Int) := by omega
                          have HR5 : Hid (R = (entsF f all t5 K).map ((ps ++ [(K, V)]) ++ ·)) := hid (by
                            rw [HRF.out, ents_step (by have := HL.out; omega) LY.out (by rw [← HKL.out]; exact hk136), Option.map_map]
                            congr 1
                            funext x
                            simp)
                          go_wp2
                          go_roundw
                          case rel => exact ⟨t5, f, ps ++ [(K, V)], K, oa5, va, on + 1, oc5, kl, vc, rfl, rfl, rfl, hmL, by omega, by rw [List.length_append, ← HON.out]; rfl, HKL.out, CO.out, OL5.out, BK.out, by omega, by rw [List.length_append]; simp; omega, HR5.out, F5.out⟩
                          case measure => simp [intOf]; omega
                        · have hk136' : (136 : Int) < (kl : Int) := by omega
                          have hno : Hid (R = none) := hid (by rw [HRF.out, ents_long (by have := HL.out; omega) LY.out (by rw [← HKL.out]; omega)]; rfl)
                          go_wp2
                          go_ret2
                          exact ⟨by rw [hno.out]; rfl, F5.out⟩
                      · have q2' : (L : Int) - (t3 : Int) - (x1 : Int) < (x2 : Int) := by omega
                        have hno : Hid (R = none) := hid (by rw [HRF.out, ents_none (by have := HL.out; omega) (line_no4 (by have := HL.out; have := HLN.out; omega) G0.out G1.out G2.out (by have := HL.out; have := HLN.out; omega))]; rfl)
                        go_wp2
                        go_ret2
                        exact ⟨by rw [hno.out]; rfl, FW4.out⟩
                    · have q1' : (L : Int) - (t3 : Int) < (x1 : Int) := by omega
                      have hno : Hid (R = none) := hid (by rw [HRF.out, ents_none (by have := HL.out; omega) (line_no4 (by have := HL.out; have := HLN.out; omega) G0.out G1.out G2.out (by have := HL.out; have := HLN.out; omega))]; rfl)
                      go_wp2
                      go_ret2
                      exact ⟨by rw [hno.out]; rfl, FW4.out⟩
                  · have q0' : (ln : Int) < (x0 : Int) := by omega
                    have hno : Hid (R = none) := hid (by rw [HRF.out, ents_none (by have := HL.out; omega) (line_no4 (by have := HL.out; have := HLN.out; omega) G0.out G1.out G2.out (by have := HL.out; have := HLN.out; omega))]; rfl)
                    go_wp2
                    go_ret2
                    exact ⟨by rw [hno.out]; rfl, FW4.out⟩
                · have hx2' : (L : Int) < (x2 : Int) := by omega
                  have hno : Hid (R = none) := hid (by rw [HRF.out, ents_none (by have := HL.out; omega) (line_no3 (by have := HL.out; have := HLN.out; omega) G0.out G1.out (numL_no (by rw [HK2.out, ← HL.out]; right; dsimp only; omega)))]; rfl)
                  go_wp2
                  go_ret2
                  exact ⟨by rw [hno.out]; rfl, (HF.out.trans F3.out)⟩
              · have he2' : ((e2 : Int) == 0) = false := beq_eq_false_iff_ne.2 (by omega)
                have hno : Hid (R = none) := hid (by rw [HRF.out, ents_none (by have := HL.out; omega) (line_no3 (by have := HL.out; have := HLN.out; omega) G0.out G1.out (numL_no (by rw [HK2.out]; left; exact he2)))]; rfl)
                go_wp2
                go_ret2
                exact ⟨by rw [hno.out]; rfl, (HF.out.trans F3.out)⟩
            · have hx1' : (L : Int) < (x1 : Int) := by omega
              have hno : Hid (R = none) := hid (by rw [HRF.out, ents_none (by have := HL.out; omega) (line_no2 (by have := HL.out; have := HLN.out; omega) G0.out (numL_no (by rw [HK1.out, ← HL.out]; right; dsimp only; omega)))]; rfl)
              go_wp2
              go_ret2
              exact ⟨by rw [hno.out]; rfl, (HF.out.trans F2.out)⟩
          · have he1' : ((e1 : Int) == 0) = false := beq_eq_false_iff_ne.2 (by omega)
            have hno : Hid (R = none) := hid (by rw [HRF.out, ents_none (by have := HL.out; omega) (line_no2 (by have := HL.out; have := HLN.out; omega) G0.out (numL_no (by rw [HK1.out]; left; exact he1)))]; rfl)
            go_wp2
            go_ret2
            exact ⟨by rw [hno.out]; rfl, (HF.out.trans F2.out)⟩
        · have hx0' : (L : Int) < (x0 : Int) := by omega
          have hno : Hid (R = none) := hid (by rw [HRF.out, ents_none (by have := HL.out; omega) (line_no1 (by have := HL.out; have := HLN.out; omega) (numL_no (by rw [HK0.out, ← HL.out]; right; dsimp only; omega)))]; rfl)
          go_wp2
          go_ret2
          exact ⟨by rw [hno.out]; rfl, (HF.out.trans F1.out)⟩
      · have he0' : ((e0 : Int) == 0) = false := beq_eq_false_iff_ne.2 (by omega)
        have hno : Hid (R = none) := hid (by rw [HRF.out, ents_none (by have := HL.out; omega) (line_no1 (by have := HL.out; have := HLN.out; omega) (numL_no (by rw [HK0.out]; left; exact he0)))]; rfl)
        go_wp2
        go_ret2
        exact ⟨by rw [hno.out]; rfl, (HF.out.trans F1.out)⟩
    · have hle' : ¬ (t : Int) < (L : Int) := by omega
      have hR : Hid (R = some ps) := hid (by rw [HRF.out, ents_end (by have := HL.out; omega)]; simp)
      go_wp2
      go_ret2
      exact ⟨by rw [hR.out]; exact ⟨_, rfl, HC.out⟩, HF.out⟩
end Go.Proofs.YtnnookkcnmgbfaaGreat
