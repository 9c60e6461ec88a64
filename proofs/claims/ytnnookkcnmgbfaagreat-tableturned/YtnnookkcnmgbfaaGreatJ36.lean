/-
  The document's filters: Filter.
-/
import Derived.Test.YtnnookkcnmgbfaaGreatJ35
import Derived.Test.YtnnookkcnmgbfaaGreatJ20
import Derived.Test.YtnnookkcnmgbfaaGreatJ02
namespace Go.Proofs.YtnnookkcnmgbfaaGreat
open Go.ChangeShapes Go.WideShapes Go.ChangeAt Go.RowKit

theorem cell_fr' {S : List Nat} {w w' : World} (f : Fr S w w') {p : Addr} {v : Value} (hp : p.block ∉ S) (h : w.cell? p = some v) : w'.cell? p = some v := by
  rw [World.cell?_of_block (w := w) (f.block _ (World.block_lt_of_cell? w _ h) hp)]; exact h
theorem makeB_run (w : World) {n : Nat} (hc : n ≤ 1000000000) : (Instr.makeSlice 22 (.int .i64 (n : Int)) (.int .i64 (n : Int))).run Tryz.prog w = .ok (.slice (some ⟨w.heap.size, 0, none⟩) n n) (w.alloc (.cells (madeCells #[.int .u8 0] n) 5)) := by
  obtain ⟨i0, hi, hz0, hz1, hz2⟩ := info_parts infoB
  have h := run_make (P := Tryz.prog) w 22 5 i0 (.int .u8 0) Tryz.underlying22 hi hz0 .i64 .i64 (n : Int) (n : Int) (by omega) (by omega) (by rw [hz2]; omega) (by omega)
  simpa [hz1, Value.cells] using h
theorem wpList_append_by1 {w : World} {ops : Array Oper} {rest : List Oper} {o : Oper} {a : Act} {Q : Exit → Act → World → Prop} (hgd : o.guard = none) (s x : Operand)
    (ho : o.op = .call { callee := .builtin .append, args := #[s, x], argTypes := #[22, 22] }) (base : Nat) (hbase : base ≤ w.heap.size) (v : Value) (n : Nat) (xs : List Value) (hs : a.eval s = v) (hown : w.ownsRow base 5 1 v n xs) (G : Nat) (hx : a.eval x = .slice (some ⟨G, 0, none⟩) 1 1) {u : Value} {T : TypeId} (hG : w.heap[G]? = some (.cells #[u] T (0, 0)))
    (hu : u.oneCell' = true) (hl : n ≤ 100000000000)
    (h : ∀ v' w', w'.ownsRow base 5 1 v' (n + 1) (xs ++ [u]) → w.grownBy w' v.ownBlock → wpList Tryz.prog ops Q rest (a.put o.dst v') w') :
    wpList Tryz.prog ops Q (o :: rest) a w := by
  obtain ⟨i0, hi, hz0, hz1, hz2⟩ := info_parts infoB
  refine wpList_append_own_at w hgd s x 22 ho base 5 i0 _ 1 1 Tryz.underlying22 hi hz0 hz1 hz2 rfl (by decide) v n xs hs hown ⟨G, 0, none⟩ 1 1 [u] hx rfl ?_ ?_ (by unfold maxLen; omega) (by omega) hbase fun v' w' h1 h2 _ _ => h v' w' h1 h2
  · intro j u' hj
    rw [Addr.add_lit, Nat.zero_add, blk_cell hG, ← Array.getElem?_toList]
    exact hj
  · intro u' hu'
    simp at hu'
    subst hu'; exact hu
set_option maxRecDepth 20000 in
set_option maxHeartbeats 1600000 in
theorem rfilter_plan (w : World) {a : Option Addr} {n c : Nat} (bits : Int) (hr : bits < 1 ∨ 64 < bits) :
    Calls Tryz.prog 40 #[.slice a n c, .int .i64 bits] w fun e w' => e = .returned (.tuple #[.slice none 0 0, .int .i64 71]) ∧ Fr [] w w' := by
  rcases hr with hr | hr
  all_goals
    go_enter Tryz.func40, Tryz.ntmps40
    go_wp2
    go_ret2
    exact ⟨rfl, Fr.refl _ _⟩
/-- The cells of a row of numbers that is not empty. -/
theorem own_at {w : World} {B : Nat} {v : Value} {t : Nat} {xs : List Value} (o : w.ownsRow B 23 1 v t xs) (h : 0 < t) : ∃ lb lc, v = .slice (some ⟨lb, 0, none⟩) t lc ∧ B ≤ lb ∧ t ≤ lc ∧ ∀ j u, xs[j]? = some u → w.cell? ⟨lb, j, none⟩ = some u := by
  rcases o.2 with ⟨_, h0⟩ | ⟨g, cap, cur, rfl, hB, h3, h4, h5⟩
  · omega
  · exact ⟨g, cap, rfl, hB, by omega, fun j u hj => by have := o.cells rfl j u hj; rwa [Addr.add_lit, Nat.zero_add] at this⟩
set_option maxRecDepth 20000 in
set_option maxHeartbeats 3200000 in
theorem rfilter_c (w : World) {v : Value} {rs : List (List Nat)} (h : RdL w v rs) (hn : rs.length ≤ 1000000) (bits : Nat) (h1 : 1 ≤ bits) (h2 : bits ≤ 64) :
    Calls Tryz.prog 40 #[v, .int .i64 (bits : Int)] w fun e w' => ∃ v', e = .returned (.tuple #[v', .int .i64 0]) ∧ w'.ownsRow w.heap.size 5 1 v' (fltL bits rs).length (bv (fltL bits rs)) ∧ Fr [] w w' := by
  obtain ⟨a, c, rfl, k1⟩ := h
  have HK := hid k1
  clear k1
  obtain ⟨t0, ht0⟩ : ∃ t0 : Nat, (if (bits : Int) * 69 / 100 < 1 then 1 else (bits : Int) * 69 / 100) = (t0 : Int) := ⟨max (bits * 69 / 100) 1, by omega⟩
  have hT : (if (30 : Int) < (t0 : Int) then (30 : Int) else (t0 : Int)) = (fT bits : Int) := by
    unfold fT; omega
  have hT30 := fT_bd bits
  obtain ⟨t, ht⟩ : ∃ t, t = fT bits := ⟨_, rfl⟩
  rw [← ht] at hT hT30
  have HT := hid ht
  clear ht
  have hmul : (bits : Int) * (rs.length : Int) = ((bits * rs.length : Nat) : Int) := by simp
  have hpb : bits * rs.length ≤ 64 * 1000000 := Nat.mul_le_mul h2 hn
  obtain ⟨L, hL⟩ : ∃ L, L = fL bits rs.length := ⟨_, rfl⟩
  have hL8 : 8 ≤ L := by rw [hL]; exact fL_pos _ _
  have HL := hid hL
  have hL9 : L ≤ 1000000000 := by rw [hL]; unfold fL; omega
  obtain ⟨M, hM, hML, hMb⟩ : ∃ M : Nat, (if (((bits * rs.length : Nat) : Int)) < 64 then 64 else (((bits * rs.length : Nat) : Int))) = (M : Int) ∧ ((M : Int) + 7) / 8 = (L : Int) ∧ M ≤ 1000000000 := ⟨max (bits * rs.length) 64, by omega, by rw [hL]; unfold fL; omega, by omega⟩
  clear hL
  obtain ⟨p, hp⟩ : ∃ p, p = bits * rs.length := ⟨_, rfl⟩
  rw [← hp] at hmul hpb hM
  clear hp
  generalize hnn : rs.length = n at *
  have HN := hid hnn
  clear hnn
  have hmk := makeB_run w hL9
  go_enter Tryz.func40, Tryz.ntmps40
  go_wp2_with fail
  have O0 := hid (makeM_own w hL9)
  have F0 : Hid (Fr [] w (w.alloc (.cells (madeCells #[.int .u8 0] L) 5))) := hid ((Fr.refl _ _).alloc _)
  generalize w.alloc (.cells (madeCells #[.int .u8 0] L) 5) = W0 at *
  clear hmk hM hML hmul hT ht0
  have ST : Hid (∀ W kv key, Rd W kv (bv key) → By key → key.length ≤ 140737488355328 → Calls Tryz.prog 79 #[kv, .int .u64 (8 * (L : Int)), .int .i64 (t : Int)] W fun e w' => ∃ v', e = .returned v' ∧ w'.ownsRow W.heap.size 23 1 v' t (stV key (8 * L) t) ∧ Fr [] W w') := hid fun W kv key r1 r2 r3 => by
    have := steps_c W r1 r2 r3 (8 * L) (by omega) (by omega) t (by omega)
    rw [show (((8 * L : Nat)) : Int) = 8 * (L : Int) from by omega] at this
    exact this
  go_loopw [9] (fun v9 wr => ∃ i : Nat, i ≤ n ∧ v9 = .int .i64 (i : Int) ∧ wr.ownsRow w.heap.size 5 1 (.slice (some ⟨w.heap.size, 0, none⟩) L L) L (bv (fM L t rs i)) ∧ Fr [] w wr) (fun v9 _ => n - (intOf v9).toNat)
  case atStart => exact ⟨0, Nat.zero_le _, rfl, O0.out, F0.out⟩
  case round =>
    obtain ⟨i, hi, rfl, oi, fi⟩ := hrel
    have HI := hid (And.intro oi fi)
    clear oi fi
    by_cases hlt : i < n
    · have hil : i < rs.length := by rw [HN.out]; exact hlt
      obtain ⟨b, off, rfl, m1⟩ := HK.out (by omega)
      obtain ⟨ka, kc, e1, e2, e3, e4⟩ := m1 i _ (rA_at hil)
      have z1 := cell_fr HI.out.2 e1
      have ES := hid (ST.out wr _ _ (e2.fr HI.out.2) e3 e4)
      have hgs : Hid (w.heap.size < wr.heap.size) := by
        rcases HI.out.1.2 with ⟨e, _⟩ | ⟨g, cap, cur, e, hB, hg, _⟩
        · simp at e
        · simp only [Value.slice.injEq, Option.some.injEq, Addr.mk.injEq] at e
          obtain ⟨⟨rfl, _⟩, _⟩ := e
          exact hid (blk_lt hg)
      clear m1 e1 e2 e3 e4 hil
      generalize (rA rs i).length = kl at *
      go_wp2_with fail
      refine ES.out.mono ?_
      rintro e w2 ⟨lv, rfl, ol, f2⟩
      obtain ⟨lb, lc, rfl, hlb, hlc, hcl⟩ := own_at ol (by omega)
      have F2 := hid (HI.out.2.trans f2)
      have O2 := hid (ownsRow_fr HI.out.1 f2)
      have hne : Hid (lb ≠ w.heap.size) := hid (by have := hgs.out; omega)
      have HCL : Hid (∀ j W, Fr [w.heap.size] w2 W → j < t → W.cell? ⟨lb, j, none⟩ = some (.int .u64 (bt L (rA rs i) j : Int))) := hid fun j W f hj => cell_fr' f (by simp; exact hne.out) (hcl j _ (stV_at _ _ hj))
      clear ES ol f2 hcl hlb hgs HI
      go_wp2_with fail
      go_loopw [11] (fun v11 wr => ∃ j : Nat, j ≤ t ∧ v11 = .int .i64 (j : Int) ∧ wr.ownsRow w.heap.size 5 1 (.slice (some ⟨w.heap.size, 0, none⟩) L L) L (bv (setN (bt L (rA rs i)) (fM L t rs i) j)) ∧ Fr [w.heap.size] w2 wr) (fun v11 _ => t - (intOf v11).toNat)
      case atStart => exact ⟨0, Nat.zero_le _, rfl, O2.out, Fr.refl _ _⟩
      case round =>
        obtain ⟨j, hj, rfl, oj, fj⟩ := hrel
        have HJ := hid (And.intro oj fj)
        clear oj fj
        by_cases hlt2 : j < t
        · have zc := HCL.out j wr HJ.out.2 hlt2
          have hbd := bt_div (L := L) (by omega) (rA rs i) j
          have hset1 : setN (bt L (rA rs i)) (fM L t rs i) (j + 1) = setB (setN (bt L (rA rs i)) (fM L t rs i) j) (bt L (rA rs i) j) := rfl
          have HS1 := hid hset1
          have hml : (setN (bt L (rA rs i)) (fM L t rs i) j).length = L := by rw [setN_len, fM_len]
          have hmb : By (setN (bt L (rA rs i)) (fM L t rs i) j) := setN_by _ (fM_by _ _ _ _) j
          generalize setN (bt L (rA rs i)) (fM L t rs i) j = m at *
          clear hset1
          generalize bt L (rA rs i) j = bit at *
          obtain ⟨x, hx⟩ : ∃ x, m[bit / 8]? = some x := ⟨_, List.getElem?_eq_getElem (by omega)⟩
          have z := HJ.out.1.cells rfl _ _ (bv_at hx)
          rw [Addr.add_lit, Nat.zero_add] at z
          have hx8 := hmb x (List.mem_of_getElem? hx)
          have yf : ∀ i, wr.frozen? ⟨w.heap.size, i, none⟩ = false := by
            rcases HJ.out.1.2 with ⟨e, _⟩ | ⟨g, cap, cur, e, hB, hg, _⟩
            · simp at e
            · simp only [Value.slice.injEq, Option.some.injEq, Addr.mk.injEq] at e
              obtain ⟨⟨rfl, _⟩, _⟩ := e
              exact blk_frozen hg
          have hpw : (2 : Nat) ^ (bit % 8) < 256 := by
            have : 2 ^ (bit % 8) < 2 ^ 8 := Nat.pow_lt_pow_right (by omega) (by omega)
            exact this
          have hor := u8_or_nat x (2 ^ (bit % 8)) hx8 hpw
          have e1 : ((2 ^ (bit % 8) : Nat) : Int) = (2 : Int) ^ (bit % 8) % 256 := by
            rw [← Nat.mod_eq_of_lt hpw]; simp
          rw [e1] at hor
          have S := HJ.out.1.stored (bit / 8) (.int .u8 ((x ||| 2 ^ (bit % 8) : Nat) : Int))
          have hset : (bv m).set (bit / 8) (.int .u8 ((x ||| 2 ^ (bit % 8) : Nat) : Int)) = bv (setB m bit) := by
            unfold setB bv
            rw [List.map_set, List.getD_eq_getElem?_getD, hx]; rfl
          rw [hset] at S
          have HS := hid S
          have HOR := hid hor
          clear hor hset S hx e1 hpw
          have hq0 : (0 : Int) ≤ (bit : Int) / 8 := by omega
          have hq1 : (bit : Int) / 8 < (L : Int) := by omega
          have hq2 : ((bit : Int) / 8).toNat = bit / 8 := by omega
          have hr0 : (0 : Int) ≤ (bit : Int) % 8 := by omega
          have hr1 : (bit : Int) % 8 < 8 := by omega
          have hr2 : ((bit : Int) % 8).toNat = bit % 8 := by omega
          have hj0 : (0 : Int) ≤ (j : Int) := by omega
          have hj1 : (j : Int) < (t : Int) := by omega
          have hw1 : IntKind.u64.wrap ((bit : Int) / 8) = (bit : Int) / 8 := by rw [IntKind.wrap_u64]; omega
          have hw2 : IntKind.u64.wrap ((bit : Int) % 8) = (bit : Int) % 8 := by rw [IntKind.wrap_u64]; omega
          have htm : (bit : Int).tmod 8 = (bit : Int) % 8 := Int.tmod_eq_emod_of_nonneg (by omega)
          go_upto_region 13 with fail
          go_region
          all_goals
            go_wp2
            go_roundw
            case rel => exact ⟨j + 1, by omega, by go_num, by rw [HOR.out, HS1.out]; exact ownsRow_fr HS.out.1 (Fr.refl [] _).drew, by rw [HOR.out]; exact (HJ.out.2.grown HS.out.2 (fun k hk => .inl (by simp at hk; simp [hk]))).drew⟩
            case measure => simp [intOf]; omega
        · have hjt : j = t := by omega
          subst hjt
          have F3 : Hid (Fr [] w wr) := hid (((F2.out.mono (S' := [w.heap.size]) (by simp)).trans HJ.out.2).shed (fun k hk hlt => by simp at hk; omega))
          have O3 : Hid (wr.ownsRow w.heap.size 5 1 (.slice (some ⟨w.heap.size, 0, none⟩) L L) L (bv (fM L j rs (i + 1)))) := hid HJ.out.1
          go_wp2
          go_roundw
          case rel => exact ⟨i + 1, by omega, by go_num, O3.out, F3.out⟩
          case measure => simp [intOf]; omega
    · have hie : i = n := by omega
      subst hie
      have hu : (t : Int) % 256 = (t : Int) := by omega
      obtain ⟨W4, hW4⟩ : ∃ W, W = wr.alloc (.cells #[.int .u8 (t : Int)] 5) := ⟨_, rfl⟩
      have F4 : Fr [] wr W4 := by rw [hW4]; exact (Fr.refl _ _).alloc _
      have X4 : W4.heap[wr.heap.size]? = some (.cells #[.int .u8 (t : Int)] 5 (0, 0)) := by rw [hW4]; exact blk_new _ _
      have o4 := ownsRow_fr HI.out.1 F4
      have hs4 : w.heap.size ≤ W4.heap.size := by have := HI.out.2.size; have := F4.size; omega
      have FF4 := hid (HI.out.2.trans F4)
      go_wp2_with (at_builtin; rw [← hW4]; refine wpList_append_by1 rfl _ _ rfl w.heap.size hs4 _ _ _ rfl o4 wr.heap.size rfl X4 rfl (by omega) ?_; intro v5 W5 o5 g5)
      have hfl : fltL bits rs = fM L t rs i ++ [t] := by unfold fltL; rw [HN.out, ← HT.out, ← HL.out]
      have F5 : Fr [] w W5 := FF4.out.grew o4 (Nat.le_refl _) g5
      go_ret2
      refine ⟨v5, rfl, ?_, F5⟩
      rw [hfl, bv_append, List.length_append, fM_len]
      exact o5
end Go.Proofs.YtnnookkcnmgbfaaGreat
namespace Go.Proofs.YtnnookkcnmgbfaaGreat
open Go.ChangeShapes Go.WideShapes Go.ChangeAt Go.RowKit

theorem hasB_at {m : List Nat} {bit x : Nat} (hx : m[bit / 8]? = some x) : hasB m bit = decide (x / 2 ^ (bit % 8) % 2 = 1) := by
  unfold hasB
  rw [List.getD_eq_getElem?_getD, hx, Option.getD_some, Nat.testBit_eq_decide_div_mod_eq]
theorem mayL_no {m key : List Nat} {t j : Nat} (hj : j < t) (h : hasB m (bt m.length key j) = false) : mayL m key t = false := by
  unfold mayL
  rw [decide_eq_false_iff_not]
  intro hh
  rw [hh j hj] at h; cases h
theorem mayL_yes {m key : List Nat} {t : Nat} (h : ∀ j, j < t → hasB m (bt m.length key j) = true) : mayL m key t = true := by
  unfold mayL
  rw [decide_eq_true_iff]; exact h
set_option maxRecDepth 20000 in
set_option maxHeartbeats 3200000 in
theorem rmay_c (w : World) {v kv : Value} {f key : List Nat} (hr : Rd w v (bv f)) (hb : By f) (hl : f.length ≤ 1000000000) (rk : Rd w kv (bv key)) (bk : By key) (hkl : key.length ≤ 140737488355328) :
    Calls Tryz.prog 68 #[v, kv] w fun e w' => e = .returned (.bool (mayF f key)) ∧ Fr [] w w' := by
  obtain ⟨a, c, hv⟩ := hr.form
  rw [bv_len] at hv
  obtain ⟨ka, kc, hkv⟩ := rk.form
  rw [bv_len] at hkv
  by_cases h9 : f.length < 9
  · have hm : mayF f key = true := by unfold mayF; rw [if_pos h9]
    rw [hm]
    subst hv
    subst hkv
    have hn : (f.length : Int) - 1 < 8 := by omega
    clear hr hb hm rk bk
    generalize f.length = n at *
    generalize key.length = kn at *
    go_enter Tryz.func68, Tryz.ntmps68
    go_wp2
    go_ret
    exact ⟨rfl, Fr.refl _ _⟩
  · obtain ⟨l, hl1⟩ : ∃ l, f.length = l + 1 := ⟨f.length - 1, by omega⟩
    obtain ⟨x, hx⟩ : ∃ x, f[l]? = some x := ⟨_, List.getElem?_eq_getElem (by omega)⟩
    have hg : f.getD (f.length - 1) 0 = x := by rw [hl1, Nat.add_sub_cancel, List.getD_eq_getElem?_getD, hx]; rfl
    have hx8 := hb x (List.mem_of_getElem? hx)
    subst hv
    subst hkv
    obtain ⟨q, o, c', hv, hbc⟩ := hr.place (by omega)
    simp only [Value.slice.injEq, true_and] at hv
    obtain ⟨rfl, rfl⟩ := hv
    have G0 : ∀ (i y : Nat), f[i]? = some y → w.cell? ⟨q, o + i, none⟩ = some (.int .u8 (y : Int)) := fun i y hy => by
      rcases hr.split with ⟨e, _⟩ | ⟨b', o', c', e, _, _, g⟩
      · rw [e] at hl1; simp at hl1
      · simp only [Value.slice.injEq, Option.some.injEq, Addr.mk.injEq] at e
        obtain ⟨⟨rfl, rfl, _⟩, _⟩ := e
        exact g _ _ hy
    have z := G0 l x hx
    have hm : mayF f key = if x < 1 ∨ 30 < x then true else mayL (f.take l) key x := by
      unfold mayF; rw [if_neg h9, hg, hl1, Nat.add_sub_cancel]
    by_cases hxx : x < 1 ∨ 30 < x
    · rw [hm, if_pos hxx, hl1]
      clear hr hb hm hx hg rk bk G0
      generalize key.length = kn at *
      rcases hxx with h | h
      all_goals
        go_enter Tryz.func68, Tryz.ntmps68
        go_wp2
        go_ret
        exact ⟨rfl, Fr.refl _ _⟩
    · rw [hm, if_neg hxx]
      have htl : (f.take l).length = l := by rw [List.length_take]; omega
      have ST : Hid (Calls Tryz.prog 79 #[.slice ka key.length kc, .int .u64 (8 * (l : Int)), .int .i64 (x : Int)] w fun e w' => ∃ v', e = .returned v' ∧ w'.ownsRow w.heap.size 23 1 v' x (stV key (8 * l) x) ∧ Fr [] w w') := by
        have := steps_c w rk bk hkl (8 * l) (by omega) (by omega) x (by omega)
        rw [show (((8 * l : Nat)) : Int) = 8 * (l : Int) from by omega] at this
        exact hid this
      have GG : Hid (∀ i W, i < x → Fr [] w W → ∃ y : Nat, W.cell? ⟨q, o + bt l key i / 8, none⟩ = some (.int .u8 (y : Int)) ∧ y < 256 ∧ hasB (f.take l) (bt (f.take l).length key i) = decide (y / 2 ^ (bt l key i % 8) % 2 = 1)) := hid fun i W hi fW => by
        have hd := bt_div (L := l) (by omega) key i
        obtain ⟨y, hy⟩ : ∃ y, f[bt l key i / 8]? = some y := ⟨_, List.getElem?_eq_getElem (by omega)⟩
        refine ⟨y, cell_fr fW (G0 _ _ hy), hb y (List.mem_of_getElem? hy), ?_⟩
        rw [htl]
        exact hasB_at (by rw [List.getElem?_take, if_pos hd]; exact hy)
      rw [hl1] at h9 hl hbc ⊢
      have hx1 : ¬ (x : Int) < 1 := by omega
      have hx2 : ¬ (30 : Int) < (x : Int) := by omega
      have hl8 : 8 ≤ l := by omega
      clear hr hb hm hx hg hl1 rk bk G0 htl h9
      generalize key.length = kn at *
      go_enter Tryz.func68, Tryz.ntmps68
      go_wp2_with fail
      refine ST.out.mono ?_
      rintro e w2 ⟨lv, rfl, ol, f2⟩
      obtain ⟨lb, lc, rfl, hlb, hlc, hcl⟩ := own_at ol (by omega)
      have F2 := hid f2
      have HCL : Hid (∀ j W, Fr [] w2 W → j < x → W.cell? ⟨lb, j, none⟩ = some (.int .u64 (bt l key j : Int))) := hid fun j W f hj => cell_fr f (hcl j _ (stV_at _ _ hj))
      clear ST ol f2 hcl hlb z
      go_wp2_with fail
      go_loopw [7] (fun v7 wr => ∃ j : Nat, j ≤ x ∧ v7 = .int .i64 (j : Int) ∧ Fr [] w2 wr ∧ ∀ i, i < j → hasB (f.take l) (bt (f.take l).length key i) = true) (fun v7 _ => x - (intOf v7).toNat)
      case atStart => exact ⟨0, Nat.zero_le _, rfl, Fr.refl _ _, fun i hi => absurd hi (by omega)⟩
      case round =>
        obtain ⟨j, hj, rfl, fj, aj⟩ := hrel
        have HJ := hid (And.intro fj aj)
        clear fj aj
        by_cases hlt2 : j < x
        · have zc := HCL.out j wr HJ.out.1 hlt2
          obtain ⟨y, zy, hy8, hhas⟩ := GG.out j wr hlt2 (F2.out.trans HJ.out.1)
          have hbd := bt_div (L := l) (by omega) key j
          have HH := hid hhas
          clear hhas
          generalize hbt : bt l key j = bit at *
          clear hbt
          have hq0 : (0 : Int) ≤ (bit : Int) / 8 := by omega
          have hq1 : (bit : Int) / 8 < (l : Int) + 1 := by omega
          have hq2 : ((bit : Int) / 8).toNat = bit / 8 := by omega
          have hr0 : (0 : Int) ≤ (bit : Int) % 8 := by omega
          have hr1 : (bit : Int) % 8 < 8 := by omega
          have hr2 : ((bit : Int) % 8).toNat = bit % 8 := by omega
          have hj0 : (0 : Int) ≤ (j : Int) := by omega
          have hj1 : (j : Int) < (x : Int) := by omega
          have hw1 : IntKind.u64.wrap ((bit : Int) / 8) = (bit : Int) / 8 := by rw [IntKind.wrap_u64]; omega
          have hw2 : IntKind.u64.wrap ((bit : Int) % 8) = (bit : Int) % 8 := by rw [IntKind.wrap_u64]; omega
          have htm : (bit : Int).tmod 8 = (bit : Int) % 8 := Int.tmod_eq_emod_of_nonneg (by omega)
          obtain ⟨ys, hys0⟩ : ∃ ys : Nat, ys = y / 2 ^ (bit % 8) := ⟨_, rfl⟩
          have hys : (y : Int) / 2 ^ (bit % 8) = (ys : Int) := by rw [hys0]; simp
          have hys8 : ys < 256 := by rw [hys0]; exact Nat.lt_of_le_of_lt (Nat.div_le_self _ _) hy8
          rw [← hys0] at HH
          clear hys0
          have htm2 : (ys : Int).tmod 2 = (ys : Int) % 2 := Int.tmod_eq_emod_of_nonneg (by omega)
          by_cases hbit : ys % 2 = 1
          · have hbi : (ys : Int) % 2 = 1 := by omega
            have HB : Hid (hasB (f.take l) (bt (f.take l).length key j) = true) := hid (by rw [HH.out]; exact decide_eq_true hbit)
            go_upto_region 8 with fail
            go_quiet (fail)
            go_wp2
            go_roundw
            case rel => exact ⟨j + 1, by omega, by go_num, HJ.out.1.drewN nq, fun i hi => by
              rcases Nat.lt_or_ge i j with h | h
              · exact HJ.out.2 i h
              · have : i = j := by omega
                subst this; exact HB.out⟩
            case measure => simp [intOf]; omega
          · have hbi : (ys : Int) % 2 = 0 := by omega
            have HB : Hid (hasB (f.take l) (bt (f.take l).length key j) = false) := hid (by rw [HH.out]; exact decide_eq_false hbit)
            go_upto_region 8 with fail
            go_quiet (fail)
            go_wp2
            go_ret
            refine ⟨?_, (F2.out.trans HJ.out.1).drewN nq⟩
            rw [mayL_no hlt2 HB.out]; rfl
        · have hjt : j = x := by omega
          subst hjt
          go_wp2
          go_ret
          refine ⟨?_, F2.out.trans HJ.out.1⟩
          rw [mayL_yes HJ.out.2]; rfl
end Go.Proofs.YtnnookkcnmgbfaaGreat
namespace Go.Proofs.YtnnookkcnmgbfaaGreat
open Go.ChangeShapes Go.WideShapes Go.ChangeAt Go.RowKit

set_option maxHeartbeats 800000 in
theorem refkey_bad (w : World) {v : Value} {u : List Nat} (hr : Rd w v (bv u)) (hl : u.length ≤ 140737488355328) (s : Nat) (hs : s < 18446744073709551616) (k : Int) (hk1 : -9223372036854775808 ≤ k) (hk2 : k ≤ 9223372036854775807) (h : vb u.length s k = false) :
    Calls Tryz.prog 69 #[v, .int .u64 (s : Int), .int .i64 k] w fun e w' => e = .returned (.tuple #[.slice none 0 0, .int .i64 23]) ∧ w' = w := by
  obtain ⟨a, c, hv⟩ := hr.form
  rw [bv_len] at hv
  subst hv
  clear hr
  have hq : ¬ (u.length ≤ 128) ∨ (u.length ≤ 128 ∧ ¬ (s ≤ 72057594037927935)) ∨ (u.length ≤ 128 ∧ s ≤ 72057594037927935 ∧ k < 0) ∨ (u.length ≤ 128 ∧ s ≤ 72057594037927935 ∧ 0 ≤ k ∧ 1 < k) := by
    unfold vb at h
    by_cases h1 : u.length ≤ 128
    · by_cases h2 : s ≤ 72057594037927935
      · simp only [h1, h2, decide_true, Bool.true_and, Bool.or_eq_false_iff, beq_eq_false_iff_ne, ne_eq] at h
        omega
      · exact .inr (.inl ⟨h1, h2⟩)
    · exact .inl h1
  clear h
  rcases hq with q1 | ⟨q1, q2⟩ | ⟨q1, q2, q3⟩ | ⟨q1, q2, q3, q4⟩
  · go_enter Tryz.func69, Tryz.ntmps69
    go_wp2
    go_ret2
    exact ⟨rfl, rfl⟩
  · go_enter Tryz.func69, Tryz.ntmps69
    go_wp2
    go_ret2
    exact ⟨rfl, rfl⟩
  · go_enter Tryz.func69, Tryz.ntmps69
    go_wp2
    go_ret2
    exact ⟨rfl, rfl⟩
  · go_enter Tryz.func69, Tryz.ntmps69
    go_wp2
    go_ret2
    exact ⟨rfl, rfl⟩

set_option maxRecDepth 20000 in
set_option maxHeartbeats 800000 in
theorem refkey_ok (w : World) {v : Value} {u : List Nat} (hr : Rd w v (bv u)) (hu : u.length ≤ 128) (s k : Nat) (hs : s ≤ 72057594037927935) (hk : k ≤ 1) :
    Calls Tryz.prog 69 #[v, .int .u64 (s : Int), .int .i64 (k : Int)] w fun e w' => ∃ v', e = .returned (.tuple #[v', .int .i64 0]) ∧ w'.ownsRow w.heap.size 5 1 v' (keyL u s k).length (bv (keyL u s k)) ∧ Fr [] w w' := by
  obtain ⟨a, c, hv⟩ := hr.form
  rw [bv_len] at hv
  subst hv
  have HR := hid hr
  obtain ⟨t, ht⟩ : ∃ t, t = 256 * s + k := ⟨_, rfl⟩
  have hkv : (256 * (s : Int) + (k : Int)) = (t : Int) := by omega
  have ht1 : t < 18446744073709551616 := by omega
  have HT := hid ht
  have hul : u.length ≤ 140737488355328 := by omega
  have hul8 : u.length + (fixL t 8).length ≤ 140737488355328 := by rw [fixL_len]; omega
  clear hr ht
  go_enter Tryz.func69, Tryz.ntmps69
  go_wp2_with (at_builtin; refine wpList_append_nil rfl _ _ rfl rfl (Fr.refl _ w) _ HR.out rfl hul ?_; intro v1 w1 o1 f1 _; have O1 := hid o1; have F1 := hid f1; clear o1 f1)
  refine (reffixed_c _ t 8 ht1 (by omega)).mono ?_
  rintro e w2 ⟨v2, rfl, o2, f2⟩
  obtain ⟨a2, c2, rfl, _⟩ := ownsRow_slice o2
  have R2 := hid (Rd.ownN (ns := fixL t 8) o2 (fixL_len 8 t).symm)
  have O2 := hid (ownsRow_fr O1.out f2)
  have F2 := hid (F1.out.trans f2)
  clear o2 f2
  go_wp2_with (at_builtin; refine wpList_append_bv rfl _ _ rfl O2.out rfl F2.out (Nat.le_refl _) F2.out.size _ R2.out rfl hul8 ?_; intro v3 w3 o3 f3)
  go_ret2
  refine ⟨v3, rfl, ?_, f3⟩
  unfold keyL
  rw [List.length_append, ← HT.out]
  exact o3
end Go.Proofs.YtnnookkcnmgbfaaGreat
