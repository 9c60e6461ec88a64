/-
  The document's filters: the bits of a key.
-/
import Derived.Test.YtolcocplinkpdaaJ26
import Derived.Test.YtolcocplinkpdaaJ36
import Derived.Test.YtolcocplinkpdaaTD
namespace Go.Proofs.Ytolcocplinkpdaa
open Go.ChangeShapes Go.WideShapes Go.ChangeAt Go.RowKit

theorem infoU : (Try.prog.info? 45).map (fun i => (i.zero, i.size, i.bytes)) = some (some (.int .u64 0), 1, 8) := by kernel_rfl
theorem wpList_append_u {w : World} {ops : Array Oper} {rest : List Oper} {o : Oper} {a : Act} {Q : Exit → Act → World → Prop} (hgd : o.guard = none) (s x : Operand)
    (ho : o.op = .call { callee := .builtin .append, args := #[s, x], argTypes := #[116, 116] }) (base : Nat) (hbase : base ≤ w.heap.size) (v : Value) (n : Nat) (xs : List Value) (hs : a.eval s = v) (hown : w.ownsRow base 45 1 v n xs) (G : Nat) (hx : a.eval x = .slice (some ⟨G, 0, none⟩) 1 1) {u : Value} {T : TypeId} (hG : w.heap[G]? = some (.cells #[u] T (0, 0)))
    (hu : u.oneCell' = true) (hl : n ≤ 100000000000)
    (h : ∀ v' w', w'.ownsRow base 45 1 v' (n + 1) (xs ++ [u]) → w.grownBy w' v.ownBlock → wpList Try.prog ops Q rest (a.put o.dst v') w') :
    wpList Try.prog ops Q (o :: rest) a w := by
  obtain ⟨i0, hi, hz0, hz1, hz2⟩ := info_parts infoU
  refine wpList_append_own_at w hgd s x 116 ho base 45 i0 _ 1 8 Try.underlying116 hi hz0 hz1 hz2 rfl (by decide) v n xs hs hown ⟨G, 0, none⟩ 1 1 [u] hx rfl ?_ ?_ (by unfold maxLen; omega) (by omega) hbase fun v' w' h1 h2 _ _ => h v' w' h1 h2
  · intro j u' hj
    rw [Addr.add_lit, Nat.zero_add, blk_cell hG, ← Array.getElem?_toList]
    exact hj
  · intro u' hu'
    simp at hu'
    subst hu'; exact hu
def stV (key : List Nat) (m : Nat) (k : Nat) : List Value := (List.range k).map fun j => .int .u64 ((hs (crc key) (rt (crc key)) j % m : Nat) : Int)
theorem stV_succ (key : List Nat) (m k : Nat) : stV key m (k + 1) = stV key m k ++ [.int .u64 ((hs (crc key) (rt (crc key)) k % m : Nat) : Int)] := by unfold stV; rw [List.range_succ, List.map_append]; rfl
theorem stV_at (key : List Nat) (m : Nat) {k j : Nat} (h : j < k) : (stV key m k)[j]? = some (.int .u64 ((hs (crc key) (rt (crc key)) j % m : Nat) : Int)) := by unfold stV; rw [List.getElem?_map, List.getElem?_range h]; rfl
set_option maxRecDepth 20000 in
set_option maxHeartbeats 3200000 in
theorem steps_c (w : World) {kv : Value} {key : List Nat} (rk : Rd w kv (bv key)) (bk : By key) (hkl : key.length ≤ 140737488355328) (m : Nat) (hm : 0 < m) (hm2 : m ≤ 100000000000) (t : Nat) (ht : t ≤ 255) :
    Calls Try.prog 72 #[kv, .int .u64 (m : Int), .int .i64 (t : Int)] w fun e w' => ∃ v', e = .returned v' ∧ w'.ownsRow w.heap.size 45 1 v' t (stV key m t) ∧ Fr [] w w' := by
  have hcr := crc_lt bk
  have SC := hid (refsum_c rk bk hkl)
  obtain ⟨ka, kc, hkv⟩ := rk.form
  subst hkv
  generalize (bv key).length = kn at *
  have hd := rt_lt hcr
  have HS : Hid (∀ k, stV key m (k + 1) = stV key m k ++ [.int .u64 ((hs (crc key) (rt (crc key)) k % m : Nat) : Int)]) := hid (stV_succ key m)
  obtain ⟨h0, hh0⟩ : ∃ h, h = crc key := ⟨_, rfl⟩
  have HLT : Hid (∀ j, hs h0 (rt h0) j < 4294967296) := hid fun j => hs_lt (by rw [hh0]; exact hcr) j
  rw [← hh0] at SC hcr hd HS
  clear hh0
  have hor : bits .or .u32 ((h0 / 131072 : Nat) : Int) (((h0 * 32768 % 4294967296 : Nat) : Int)) = ((rt h0 : Nat) : Int) := by
    rw [u32_or_nat _ _ (by omega) (by omega), Nat.or_comm]; rfl
  have e1 : ((h0 * 32768 % 4294967296 : Nat) : Int) = (h0 : Int) * 32768 % 4294967296 := by omega
  have e2 : ((h0 / 131072 : Nat) : Int) = (h0 : Int) / 131072 := by omega
  rw [e1, e2] at hor
  clear e1 e2
  obtain ⟨d, hdd⟩ : ∃ d, d = rt h0 := ⟨_, rfl⟩
  rw [← hdd] at hd HLT HS hor
  have HNX : Hid (∀ j, hs h0 d (j + 1) = (hs h0 d j + d) % 4294967296) := hid fun j => rfl
  clear hdd rk bk hkl
  have O0 : Hid (w.ownsRow w.heap.size 45 1 (.slice none 0 0) 0 (stV key m 0)) := hid ⟨rfl, .inl ⟨rfl, rfl⟩⟩
  go_enter Try.func72, Try.ntmps72
  go_wp2_with fail
  refine SC.out.mono ?_
  rintro e w1 ⟨rfl, rfl⟩
  clear SC
  go_wp2_with fail
  clear hor
  have hm0 : ¬ (m : Int) = 0 := by omega
  go_loopw [7, 9, 10] (fun v7 v9 v10 wr => ∃ j : Nat, j ≤ t ∧ v10 = .int .i64 (j : Int) ∧ v7 = .int .u32 (hs h0 d j : Int) ∧ wr.ownsRow w1.heap.size 45 1 v9 j (stV key m j) ∧ Fr [] w1 wr) (fun _ _ v10 _ => t - (intOf v10).toNat)
  case atStart => exact ⟨0, Nat.zero_le _, rfl, rfl, O0.out, Fr.refl _ _⟩
  case round =>
    obtain ⟨j, hj, rfl, rfl, oj, fj⟩ := hrel
    have HJ := hid fj
    clear fj
    by_cases hlt : j < t
    · have hlt32 := HLT.out j
      have HN1 := hid (HNX.out j)
      have HS1 := hid (HS.out j)
      obtain ⟨va, vc, hv9, _⟩ := ownsRow_slice oj
      subst hv9
      generalize hs h0 d j = hj' at *
      have hmod : (((hj' % m : Nat) : Nat) : Int) = (hj' : Int) % (m : Int) := by simp
      obtain ⟨W4, hW4⟩ : ∃ W, W = wr.alloc (.cells #[.int .u64 ((hj' : Int) % (m : Int))] 45) := ⟨_, rfl⟩
      have F4 : Fr [] wr W4 := by rw [hW4]; exact (Fr.refl _ _).alloc _
      have X4 : W4.heap[wr.heap.size]? = some (.cells #[.int .u64 ((hj' : Int) % (m : Int))] 45 (0, 0)) := by rw [hW4]; exact blk_new _ _
      have o4 := ownsRow_fr oj F4
      have hs4 : w1.heap.size ≤ W4.heap.size := by have := HJ.out.size; have := F4.size; omega
      have FF4 := hid (HJ.out.trans F4)
      go_wp2_with (at_builtin; rw [← hW4]; refine wpList_append_u rfl _ _ rfl w1.heap.size hs4 _ _ _ rfl o4 wr.heap.size rfl X4 rfl (by omega) ?_; intro v5 W5 o5 g5)
      have F5 : Fr [] w1 W5 := FF4.out.grown g5 (fun k hk => .inr (o4.lt k hk).1)
      go_roundw
      case rel => exact ⟨j + 1, by omega, by go_num, by rw [HN1.out]; go_num, by rw [HS1.out, hmod]; exact o5, F5⟩
      case measure => simp [intOf]; omega
    · have hje : j = t := by omega
      subst hje
      go_wp2
      go_ret
      exact ⟨_, rfl, oj, HJ.out⟩
end Go.Proofs.Ytolcocplinkpdaa
namespace Go.Proofs.Ytolcocplinkpdaa
open Go.ChangeShapes Go.WideShapes Go.ChangeAt Go.RowKit

theorem cell_fr' {S : List Nat} {w w' : World} (f : Fr S w w') {p : Addr} {v : Value} (hp : p.block ∉ S) (h : w.cell? p = some v) : w'.cell? p = some v := by
  rw [World.cell?_of_block (w := w) (f.block _ (World.block_lt_of_cell? w _ h) hp)]; exact h
theorem makeB_run (w : World) {n : Nat} (hc : n ≤ 1000000000) : (Instr.makeSlice 28 (.int .i64 (n : Int)) (.int .i64 (n : Int))).run Try.prog w = .ok (.slice (some ⟨w.heap.size, 0, none⟩) n n) (w.alloc (.cells (madeCells #[.int .u8 0] n) 5)) := by
  obtain ⟨i0, hi, hz0, hz1, hz2⟩ := info_parts infoB
  have h := run_make (P := Try.prog) w 28 5 i0 (.int .u8 0) Try.underlying28 hi hz0 .i64 .i64 (n : Int) (n : Int) (by omega) (by omega) (by rw [hz2]; omega) (by omega)
  simpa [hz1, Value.cells] using h
theorem wpList_append_by1 {w : World} {ops : Array Oper} {rest : List Oper} {o : Oper} {a : Act} {Q : Exit → Act → World → Prop} (hgd : o.guard = none) (s x : Operand)
    (ho : o.op = .call { callee := .builtin .append, args := #[s, x], argTypes := #[28, 28] }) (base : Nat) (hbase : base ≤ w.heap.size) (v : Value) (n : Nat) (xs : List Value) (hs : a.eval s = v) (hown : w.ownsRow base 5 1 v n xs) (G : Nat) (hx : a.eval x = .slice (some ⟨G, 0, none⟩) 1 1) {u : Value} {T : TypeId} (hG : w.heap[G]? = some (.cells #[u] T (0, 0)))
    (hu : u.oneCell' = true) (hl : n ≤ 100000000000)
    (h : ∀ v' w', w'.ownsRow base 5 1 v' (n + 1) (xs ++ [u]) → w.grownBy w' v.ownBlock → wpList Try.prog ops Q rest (a.put o.dst v') w') :
    wpList Try.prog ops Q (o :: rest) a w := by
  obtain ⟨i0, hi, hz0, hz1, hz2⟩ := info_parts infoB
  refine wpList_append_own_at w hgd s x 28 ho base 5 i0 _ 1 1 Try.underlying28 hi hz0 hz1 hz2 rfl (by decide) v n xs hs hown ⟨G, 0, none⟩ 1 1 [u] hx rfl ?_ ?_ (by unfold maxLen; omega) (by omega) hbase fun v' w' h1 h2 _ _ => h v' w' h1 h2
  · intro j u' hj
    rw [Addr.add_lit, Nat.zero_add, blk_cell hG, ← Array.getElem?_toList]
    exact hj
  · intro u' hu'
    simp at hu'
    subst hu'; exact hu
set_option maxRecDepth 20000 in
set_option maxHeartbeats 1600000 in
theorem rfilter_plan (w : World) {a : Option Addr} {n c : Nat} (bits : Int) (hr : bits < 1 ∨ 64 < bits) :
    Calls Try.prog 36 #[.slice a n c, .int .i64 bits] w fun e w' => e = .returned (.tuple #[.slice none 0 0, .int .i64 71]) ∧ Fr [] w w' := by
  rcases hr with hr | hr
  all_goals
    go_enter Try.func36, Try.ntmps36
    go_wp2
    go_ret2
    exact ⟨rfl, Fr.refl _ _⟩
/-- The cells of a row of numbers that is not empty. -/
theorem own_at {w : World} {B : Nat} {v : Value} {t : Nat} {xs : List Value} (o : w.ownsRow B 45 1 v t xs) (h : 0 < t) : ∃ lb lc, v = .slice (some ⟨lb, 0, none⟩) t lc ∧ B ≤ lb ∧ t ≤ lc ∧ ∀ j u, xs[j]? = some u → w.cell? ⟨lb, j, none⟩ = some u := by
  rcases o.2 with ⟨_, h0⟩ | ⟨g, cap, cur, rfl, hB, h3, h4, h5⟩
  · omega
  · exact ⟨g, cap, rfl, hB, by omega, fun j u hj => by have := o.cells rfl j u hj; rwa [Addr.add_lit, Nat.zero_add] at this⟩
set_option maxRecDepth 20000 in
set_option maxHeartbeats 3200000 in
theorem rfilter_c (w : World) {v : Value} {rs : List (List Nat)} (h : RdL w v rs) (hn : rs.length ≤ 1000000) (bits : Nat) (h1 : 1 ≤ bits) (h2 : bits ≤ 64) :
    Calls Try.prog 36 #[v, .int .i64 (bits : Int)] w fun e w' => ∃ v', e = .returned (.tuple #[v', .int .i64 0]) ∧ w'.ownsRow w.heap.size 5 1 v' (fltL bits rs).length (bv (fltL bits rs)) ∧ Fr [] w w' := by
  obtain ⟨a, c, rfl, k1⟩ := h
  have HK := hid k1
  clear k1
  obtain ⟨t0, ht0⟩ : ∃ t0 : Nat, (if (bits : Int) * 69 / 100 < 1 then 1 else (bits : Int) * 69 / 100) = (t0 : Int) := ⟨max (bits * 69 / 100) 1, by omega⟩
  have hT : (if (30 : Int) < (t0 : Int) then (30 : Int) else (t0 : Int)) = (fT bits : Int) := by
    unfold fT; omega
  have hT30 := fT_bd bits
  obtain ⟨t, ht⟩ : ∃ t, t = fT bits := ⟨_, rfl⟩
  rw [← ht] at hT hT30
  have HT := hid ht
  clear ht
  have hmul : (bits : Int) * (rs.length : Int) = ((bits * rs.length : Nat) : Int) := by simp
  have hpb : bits * rs.length ≤ 64 * 1000000 := Nat.mul_le_mul h2 hn
  obtain ⟨L, hL⟩ : ∃ L, L = fL bits rs.length := ⟨_, rfl⟩
  have hL8 : 8 ≤ L := by rw [hL]; exact fL_pos _ _
  have HL := hid hL
  have hL9 : L ≤ 1000000000 := by rw [hL]; unfold fL; omega
  obtain ⟨M, hM, hML, hMb⟩ : ∃ M : Nat, (if (((bits * rs.length : Nat) : Int)) < 64 then 64 else (((bits * rs.length : Nat) : Int))) = (M : Int) ∧ ((M : Int) + 7) / 8 = (L : Int) ∧ M ≤ 1000000000 := ⟨max (bits * rs.length) 64, by omega, by rw [hL]; unfold fL; omega, by omega⟩
  clear hL
  obtain ⟨p, hp⟩ : ∃ p, p = bits * rs.length := ⟨_, rfl⟩
  rw [← hp] at hmul hpb hM
  clear hp
  generalize hnn : rs.length = n at *
  have HN := hid hnn
  clear hnn
  have hmk := makeB_run w hL9
  go_enter Try.func36, Try.ntmps36
  go_wp2_with fail
  have O0 := hid (makeM_own w hL9)
  have F0 : Hid (Fr [] w (w.alloc (.cells (madeCells #[.int .u8 0] L) 5))) := hid ((Fr.refl _ _).alloc _)
  generalize w.alloc (.cells (madeCells #[.int .u8 0] L) 5) = W0 at *
  clear hmk hM hML hmul hT ht0
  have ST : Hid (∀ W kv key, Rd W kv (bv key) → By key → key.length ≤ 140737488355328 → Calls Try.prog 72 #[kv, .int .u64 (8 * (L : Int)), .int .i64 (t : Int)] W fun e w' => ∃ v', e = .returned v' ∧ w'.ownsRow W.heap.size 45 1 v' t (stV key (8 * L) t) ∧ Fr [] W w') := hid fun W kv key r1 r2 r3 => by
    have := steps_c W r1 r2 r3 (8 * L) (by omega) (by omega) t (by omega)
    rw [show (((8 * L : Nat)) : Int) = 8 * (L : Int) from by omega] at this
    exact this
  go_loopw [9] (fun v9 wr => ∃ i : Nat, i ≤ n ∧ v9 = .int .i64 (i : Int) ∧ wr.ownsRow w.heap.size 5 1 (.slice (some ⟨w.heap.size, 0, none⟩) L L) L (bv (fM L t rs i)) ∧ Fr [] w wr) (fun v9 _ => n - (intOf v9).toNat)
  case atStart => exact ⟨0, Nat.zero_le _, rfl, O0.out, F0.out⟩
  case round =>
    obtain ⟨i, hi, rfl, oi, fi⟩ := hrel
    have HI := hid (And.intro oi fi)
    clear oi fi
    by_cases hlt : i < n
    · have hil : i < rs.length := by rw [HN.out]; exact hlt
      obtain ⟨b, off, rfl, m1⟩ := HK.out (by omega)
      obtain ⟨ka, kc, e1, e2, e3, e4⟩ := m1 i _ (rA_at hil)
      have z1 := cell_fr HI.out.2 e1
      have ES := hid (ST.out wr _ _ (e2.fr HI.out.2) e3 e4)
      have hgs : Hid (w.heap.size < wr.heap.size) := by
        rcases HI.out.1.2 with ⟨e, _⟩ | ⟨g, cap, cur, e, hB, hg, _⟩
        · simp at e
        · simp only [Value.slice.injEq, Option.some.injEq, Addr.mk.injEq] at e
          obtain ⟨⟨rfl, _⟩, _⟩ := e
          exact hid (blk_lt hg)
      clear m1 e1 e2 e3 e4 hil
      generalize (rA rs i).length = kl at *
      go_wp2_with fail
      refine ES.out.mono ?_
      rintro e w2 ⟨lv, rfl, ol, f2⟩
      obtain ⟨lb, lc, rfl, hlb, hlc, hcl⟩ := own_at ol (by omega)
      have F2 := hid (HI.out.2.trans f2)
      have O2 := hid (ownsRow_fr HI.out.1 f2)
      have hne : Hid (lb ≠ w.heap.size) := hid (by have := hgs.out; omega)
      have HCL : Hid (∀ j W, Fr [w.heap.size] w2 W → j < t → W.cell? ⟨lb, j, none⟩ = some (.int .u64 (bt L (rA rs i) j : Int))) := hid fun j W f hj => cell_fr' f (by simp; exact hne.out) (hcl j _ (stV_at _ _ hj))
      clear ES ol f2 hcl hlb hgs HI
      go_wp2_with fail
      go_loopw [11] (fun v11 wr => ∃ j : Nat, j ≤ t ∧ v11 = .int .i64 (j : Int) ∧ wr.ownsRow w.heap.size 5 1 (.slice (some ⟨w.heap.size, 0, none⟩) L L) L (bv (setN (bt L (rA rs i)) (fM L t rs i) j)) ∧ Fr [w.heap.size] w2 wr) (fun v11 _ => t - (intOf v11).toNat)
      case atStart => exact ⟨0, Nat.zero_le _, rfl, O2.out, Fr.refl _ _⟩
      case round =>
        obtain ⟨j, hj, rfl, oj, fj⟩ := hrel
        have HJ := hid (And.intro oj fj)
        clear oj fj
        by_cases hlt2 : j < t
        · have zc := HCL.out j wr HJ.out.2 hlt2
          have hbd := bt_div (L := L) (by omega) (rA rs i) j
          have hset1 : setN (bt L (rA rs i)) (fM L t rs i) (j + 1) = setB (setN (bt L (rA rs i)) (fM L t rs i) j) (bt L (rA rs i) j) := rfl
          have HS1 := hid hset1
          have hml : (setN (bt L (rA rs i)) (fM L t rs i) j).length = L := by rw [setN_len, fM_len]
          have hmb : By (setN (bt L (rA rs i)) (fM L t rs i) j) := setN_by _ (fM_by _ _ _ _) j
          generalize setN (bt L (rA rs i)) (fM L t rs i) j = m at *
          clear hset1
          generalize bt L (rA rs i) j = bit at *
          obtain ⟨x, hx⟩ : ∃ x, m[bit / 8]? = some x := ⟨_, List.getElem?_eq_getElem (by omega)⟩
          have z := HJ.out.1.cells rfl _ _ (bv_at hx)
          rw [Addr.add_lit, Nat.zero_add] at z
          have hx8 := hmb x (List.mem_of_getElem? hx)
          have yf : ∀ i, wr.frozen? ⟨w.heap.size, i, none⟩ = false := by
            rcases HJ.out.1.2 with ⟨e, _⟩ | ⟨g, cap, cur, e, hB, hg, _⟩
            · simp at e
            · simp only [Value.slice.injEq, Option.some.injEq, Addr.mk.injEq] at e
              obtain ⟨⟨rfl, _⟩, _⟩ := e
              exact blk_frozen hg
          have hpw : (2 : Nat) ^ (bit % 8) < 256 := by
            have : 2 ^ (bit % 8) < 2 ^ 8 := Nat.pow_lt_pow_right (by omega) (by omega)
            exact this
          have hor := u8_or_nat x (2 ^ (bit % 8)) hx8 hpw
          have e1 : ((2 ^ (bit % 8) : Nat) : Int) = (2 : Int) ^ (bit % 8) % 256 := by
            rw [← Nat.mod_eq_of_lt hpw]; simp
          rw [e1] at hor
          have S := HJ.out.1.stored (bit / 8) (.int .u8 ((x ||| 2 ^ (bit % 8) : Nat) : Int))
          have hset : (bv m).set (bit / 8) (.int .u8 ((x ||| 2 ^ (bit % 8) : Nat) : Int)) = bv (setB m bit) := by
            unfold setB bv
            rw [List.map_set, List.getD_eq_getElem?_getD, hx]; rfl
          rw [hset] at S
          have HS := hid S
          have HOR := hid hor
          clear hor hset S hx e1 hpw
          have hq0 : (0 : Int) ≤ (bit : Int) / 8 := by omega
          have hq1 : (bit : Int) / 8 < (L : Int) := by omega
          have hq2 : ((bit : Int) / 8).toNat = bit / 8 := by omega
          have hr0 : (0 : Int) ≤ (bit : Int) % 8 := by omega
          have hr1 : (bit : Int) % 8 < 8 := by omega
          have hr2 : ((bit : Int) % 8).toNat = bit % 8 := by omega
          have hj0 : (0 : Int) ≤ (j : Int) := by omega
          have hj1 : (j : Int) < (t : Int) := by omega
          have hw1 : IntKind.u64.wrap ((bit : Int) / 8) = (bit : Int) / 8 := by rw [IntKind.wrap_u64]; omega
          have hw2 : IntKind.u64.wrap ((bit : Int) % 8) = (bit : Int) % 8 := by rw [IntKind.wrap_u64]; omega
          have htm : (bit : Int).tmod 8 = (bit : Int) % 8 := Int.tmod_eq_emod_of_nonneg (by omega)
          go_upto_region 13 with fail
          go_region
          all_goals
            go_wp2
            go_roundw
            case rel => exact ⟨j + 1, by omega, by go_num, by rw [HOR.out, HS1.out]; exact ownsRow_fr HS.out.1 (Fr.refl [] _).drew, by rw [HOR.out]; exact (HJ.out.2.grown HS.out.2 (fun k hk => .inl (by simp at hk; simp [hk]))).drew⟩
            case measure => simp [intOf]; omega
        · have hjt : j = t := by omega
          subst hjt
          have F3 : Hid (Fr [] w wr) := hid (((F2.out.mono (S' := [w.heap.size]) (by simp)).trans HJ.out.2).shed (fun k hk hlt => by simp at hk; omega))
          have O3 : Hid (wr.ownsRow w.heap.size 5 1 (.slice (some ⟨w.heap.size, 0, none⟩) L L) L (bv (fM L j rs (i + 1)))) := hid HJ.out.1
          go_wp2
          go_roundw
          case rel => exact ⟨i + 1, by omega, by go_num, O3.out, F3.out⟩
          case measure => simp [intOf]; omega
    · have hie : i = n := by omega
      subst hie
      have hu : (t : Int) % 256 = (t : Int) := by omega
      obtain ⟨W4, hW4⟩ : ∃ W, W = wr.alloc (.cells #[.int .u8 (t : Int)] 5) := ⟨_, rfl⟩
      have F4 : Fr [] wr W4 := by rw [hW4]; exact (Fr.refl _ _).alloc _
      have X4 : W4.heap[wr.heap.size]? = some (.cells #[.int .u8 (t : Int)] 5 (0, 0)) := by rw [hW4]; exact blk_new _ _
      have o4 := ownsRow_fr HI.out.1 F4
      have hs4 : w.heap.size ≤ W4.heap.size := by have := HI.out.2.size; have := F4.size; omega
      have FF4 := hid (HI.out.2.trans F4)
      go_wp2_with (at_builtin; rw [← hW4]; refine wpList_append_by1 rfl _ _ rfl w.heap.size hs4 _ _ _ rfl o4 wr.heap.size rfl X4 rfl (by omega) ?_; intro v5 W5 o5 g5)
      have hfl : fltL bits rs = fM L t rs i ++ [t] := by unfold fltL; rw [HN.out, ← HT.out, ← HL.out]
      have F5 : Fr [] w W5 := FF4.out.grew o4 (Nat.le_refl _) g5
      go_ret2
      refine ⟨v5, rfl, ?_, F5⟩
      rw [hfl, bv_append, List.length_append, fM_len]
      exact o5
end Go.Proofs.Ytolcocplinkpdaa
namespace Go.Proofs.Ytolcocplinkpdaa
open Go.ChangeShapes Go.WideShapes Go.ChangeAt Go.RowKit

set_option maxRecDepth 20000 in
set_option maxHeartbeats 3200000 in
theorem rcheck_c (w : World) (b r i t : Int) :
    Calls Try.prog 15 #[.agg #[.int .i64 b, .int .i64 r, .int .i64 i, .int .i64 t]] w fun e w' => (e = .returned (.int .i64 0) ∧ PlanOk b r i t ∨ e = .returned (.int .i64 82) ∧ ¬ PlanOk b r i t) ∧ Fr [] w w' := by
  by_cases c0 : b < 16
  case pos =>
    have NP := hid (show ¬ PlanOk b r i t from fun h => by have := h.b0; omega)
    go_enter Try.func15, Try.ntmps15
    go_wp2
    go_ret
    exact ⟨.inr ⟨rfl, NP.out⟩, (Fr.refl _ _).alloc _⟩
  by_cases c1 : 65536 < b
  case pos =>
    have NP := hid (show ¬ PlanOk b r i t from fun h => by have := h.b1; omega)
    go_enter Try.func15, Try.ntmps15
    go_wp2
    go_ret
    exact ⟨.inr ⟨rfl, NP.out⟩, (Fr.refl _ _).alloc _⟩
  by_cases c2 : r < 1
  case pos =>
    have NP := hid (show ¬ PlanOk b r i t from fun h => by have := h.r0; omega)
    go_enter Try.func15, Try.ntmps15
    go_wp2
    go_ret
    exact ⟨.inr ⟨rfl, NP.out⟩, (Fr.refl _ _).alloc _⟩
  by_cases c3 : 64 < r
  case pos =>
    have NP := hid (show ¬ PlanOk b r i t from fun h => by have := h.r1; omega)
    go_enter Try.func15, Try.ntmps15
    go_wp2
    go_ret
    exact ⟨.inr ⟨rfl, NP.out⟩, (Fr.refl _ _).alloc _⟩
  by_cases c4 : i < 1
  case pos =>
    have NP := hid (show ¬ PlanOk b r i t from fun h => by have := h.i0; omega)
    go_enter Try.func15, Try.ntmps15
    go_wp2
    go_ret
    exact ⟨.inr ⟨rfl, NP.out⟩, (Fr.refl _ _).alloc _⟩
  by_cases c5 : 64 < i
  case pos =>
    have NP := hid (show ¬ PlanOk b r i t from fun h => by have := h.i1; omega)
    go_enter Try.func15, Try.ntmps15
    go_wp2
    go_ret
    exact ⟨.inr ⟨rfl, NP.out⟩, (Fr.refl _ _).alloc _⟩
  by_cases c6 : t < 16
  case pos =>
    have NP := hid (show ¬ PlanOk b r i t from fun h => by have := h.t0; omega)
    go_enter Try.func15, Try.ntmps15
    go_wp2
    go_ret
    exact ⟨.inr ⟨rfl, NP.out⟩, (Fr.refl _ _).alloc _⟩
  by_cases c7 : 4194304 < t
  case pos =>
    have NP := hid (show ¬ PlanOk b r i t from fun h => by have := h.t1; omega)
    go_enter Try.func15, Try.ntmps15
    go_wp2
    go_ret
    exact ⟨.inr ⟨rfl, NP.out⟩, (Fr.refl _ _).alloc _⟩
  have OK := hid (show PlanOk b r i t from ⟨by omega, by omega, by omega, by omega, by omega, by omega, by omega, by omega⟩)
  go_enter Try.func15, Try.ntmps15
  go_wp2
  go_ret
  exact ⟨.inl ⟨rfl, OK.out⟩, (Fr.refl _ _).alloc _⟩
set_option maxRecDepth 20000 in
set_option maxHeartbeats 1600000 in
theorem user8_c {w : World} {q o c : Nat} {k : List Nat} (h8 : 8 ≤ k.length) (hl : k.length ≤ 1000000000) (hc : k.length ≤ c) :
    Calls Try.prog 32 #[.slice (some ⟨q, o, none⟩) k.length c] w fun e w' => e = .returned (.slice (some ⟨q, o, none⟩) (userL k).length c) ∧ w' = w := by
  have hu : (userL k).length = k.length - 8 := by unfold userL; rw [List.length_take]; omega
  rw [hu]
  generalize k.length = L at *
  have h1 : ((L : Int) - 8).toNat = L - 8 := by omega
  have h2 : (0 : Int) ≤ (L : Int) - 8 := by omega
  have h3 : (L : Int) - 8 ≤ (c : Int) := by omega
  have h4 : L - 8 ≤ c := by omega
  clear hu
  go_enter Try.func32, Try.ntmps32
  go_wp2
  go_ret
  exact ⟨rfl, rfl⟩
set_option maxRecDepth 20000 in
set_option maxHeartbeats 1600000 in
theorem summed_c (w : World) {v : Value} {b : List Nat} (hr : Rd w v (bv b)) (hb : By b) (hl : b.length ≤ 1000000000) :
    Calls Try.prog 35 #[v] w fun e w' => ∃ v', e = .returned v' ∧ w'.ownsRow w.heap.size 5 1 v' 4 (bv (fixL (crc b) 4)) ∧ Fr [] w w' := by
  have SC := hid (refsum_c hr hb (by omega))
  have hcr := crc_lt hb
  obtain ⟨a, c, rfl⟩ := hr.form
  clear hr hb
  generalize crc b = x at *
  have RF := hid (reffixed_c w x 4 (by omega) (by omega))
  go_enter Try.func35, Try.ntmps35
  go_wp2_with (first
    | (go_at_call 71; refine SC.out.mono ?_; rintro e w1 ⟨rfl, h⟩; rw [h]; clear h)
    | (go_at_call 37; refine RF.out.mono ?_; rintro e w1 ⟨v1, rfl, o1, f1⟩; have O1 := hid o1; have F1 := hid f1; clear o1 f1))
  go_ret
  exact ⟨_, rfl, O1.out, F1.out⟩
set_option maxRecDepth 20000 in
theorem magic8_c (w : World) : Calls Try.prog 38 #[] w fun e w' => ∃ v', e = .returned v' ∧ w'.ownsRow w.heap.size 5 1 v' 8 (bv magicL) ∧ Fr [] w w' := by
  go_enter Try.func38, Try.ntmps38
  go_wp2
  go_ret
  refine ⟨_, rfl, ?_, (Fr.refl _ _).alloc _⟩
  exact World.ownsRow_lit (base := w.heap.size) (e := 5) (size := 1) w #[.int .u8 109, .int .u8 111, .int .u8 114, .int .u8 97, .int .u8 105, .int .u8 110, .int .u8 101, .int .u8 49] 8 (Nat.le_refl _) (by unfold maxLen; omega) (by simp)
end Go.Proofs.Ytolcocplinkpdaa
