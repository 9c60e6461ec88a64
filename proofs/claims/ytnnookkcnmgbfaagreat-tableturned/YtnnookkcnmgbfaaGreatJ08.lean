/-
  Pieces of a file: their sums, their places.
-/
import Derived.Test.YtnnookkcnmgbfaaGreatJ07
import Derived.Test.YtnnookkcnmgbfaaGreatJ01
namespace Go.Proofs.YtnnookkcnmgbfaaGreat
open Go.ChangeShapes Go.WideShapes Go.ChangeAt Go.RowKit

theorem Rd.win {w : World} {q o c : Nat} {b : List Nat} (h : Rd w (.slice (some ⟨q, o, none⟩) b.length c) (bv b)) {t n : Nat} (ht : t + n ≤ b.length) : Rd w (.slice (some ⟨q, o + t, none⟩) n (c - t)) (bv (wn b t n)) := by
  have h1 := h.back (q := t) (by omega)
  rw [← List.length_drop] at h1
  exact h1.front (q := n) (by rw [List.length_drop]; omega)
theorem Rd.cap {w : World} {q o c : Nat} {b : List Nat} (h : Rd w (.slice (some ⟨q, o, none⟩) b.length c) (bv b)) : b.length ≤ c := by
  rcases h with ⟨e, _⟩ | ⟨a, c', e, h4, _⟩
  · simp at e
  · simp only [Value.slice.injEq] at e
    rw [bv_len] at h4; omega
theorem bool_of (P : Prop) : ∃ x : Bool, x = true ↔ P := by
  by_cases h : P
  · exact ⟨true, fun _ => h, fun _ => rfl⟩
  · exact ⟨false, Iff.intro (fun e => Bool.noConfusion e) (fun e => absurd e h)⟩
set_option maxRecDepth 20000 in
set_option maxHeartbeats 1600000 in
theorem unsealed_c (w : World) {q o c : Nat} {b : List Nat} (hr : Rd w (.slice (some ⟨q, o, none⟩) b.length c) (bv b)) (hb : By b) (hl : b.length ≤ 1000000000) (t n : Nat) (ht : t + n + 4 ≤ b.length) (x : Bool) (hx : x = true ↔ SumAt b t n) :
    Calls Tryz.prog 18 #[.slice (some ⟨q, o, none⟩) b.length c, .agg #[.int .u64 (t : Int), .int .u64 (n : Int)]] w fun e w' => e = .returned (.tuple #[.slice (some ⟨q, o + t, none⟩) n (c - t), .bool x]) ∧ Fr [] w w' := by
  have HX := hid hx
  clear hx
  have hc := hr.cap
  have HR := hid hr
  have HB := hid hb
  clear hr hb
  obtain ⟨W0, hW0⟩ : ∃ W0, W0 = w.alloc (.cells #[.int .u64 (t : Int), .int .u64 (n : Int)] 52) := ⟨_, rfl⟩
  have F0 : Hid (Fr [] w W0) := hid (by rw [hW0]; exact (Fr.refl _ _).alloc _)
  have R1 := hid ((HR.out.fr F0.out).win (t := t) (n := n) (by omega))
  have R2 : Hid (Rd W0 (.slice (some ⟨q, o + (t + n), none⟩) (b.length - (t + n)) (c - (t + n))) (bv (b.drop (t + n)))) := hid ((HR.out.fr F0.out).back (by omega))
  have U4 := hid (unfixed4_c R2.out (HB.out.drop _) (by rw [List.length_drop]; omega) (by rw [List.length_drop]; omega))
  have S4 := hid (sum_c R1.out (wn_by HB.out t n) (by rw [wn_len (by omega)]; omega))
  have HS : Hid (unf ((b.drop (t + n)).take 4) = crc (wn b t n) ↔ SumAt b t n) := hid Iff.rfl
  rw [← HS.out] at HX
  clear HS
  generalize unf ((b.drop (t + n)).take 4) = x4 at *
  generalize crc (wn b t n) = y4 at *
  generalize b.length = L at *
  have h1 : ¬ c = t := by omega
  have h2 : ¬ c = t + n := by omega
  by_cases hxy : x4 = y4
  · have hx' : ((x4 : Int) == (y4 : Int)) = true := by rw [hxy]; simp
    have hxt : x = true := HX.out.2 hxy
    subst hxt
    clear hxy HX
    go_enter Tryz.func18, Tryz.ntmps18
    go_wp2_with (first
      | (go_at_call 62; rw [← hW0]; clear hW0; refine U4.out.mono ?_; rintro e w1 ⟨rfl, h⟩; rw [h]; clear h)
      | (go_at_call 63; refine S4.out.mono ?_; rintro e w1 ⟨rfl, h⟩; rw [h]; clear h))
    go_ret2
    exact ⟨rfl, F0.out⟩
  · have hx' : ((x4 : Int) == (y4 : Int)) = false := by rw [beq_eq_false_iff_ne]; omega
    have hxt : x = false := by rcases x with _ | _; rfl; exact absurd (HX.out.1 rfl) hxy
    subst hxt
    clear hxy HX
    go_enter Tryz.func18, Tryz.ntmps18
    go_wp2_with (first
      | (go_at_call 62; rw [← hW0]; clear hW0; refine U4.out.mono ?_; rintro e w1 ⟨rfl, h⟩; rw [h]; clear h)
      | (go_at_call 63; refine S4.out.mono ?_; rintro e w1 ⟨rfl, h⟩; rw [h]; clear h))
    go_ret2
    exact ⟨rfl, F0.out⟩

set_option maxRecDepth 20000 in
set_option maxHeartbeats 1600000 in
theorem pieceAt_c (w : World) {q o c : Nat} {b : List Nat} (hr : Rd w (.slice (some ⟨q, o, none⟩) b.length c) (bv b)) (hb : By b) (hl : b.length ≤ 1000000000) (h16 : 16 ≤ b.length) :
    Calls Tryz.prog 60 #[.slice (some ⟨q, o, none⟩) b.length c] w fun e w' => e = .returned (.agg #[.int .u64 (n8 b 0 : Int), .int .u64 (n8 b 8 : Int)]) ∧ Fr [] w w' := by
  have hc := hr.cap
  obtain ⟨W0, hW0⟩ : ∃ W0, W0 = w.alloc (.cells #[.int .u64 0, .int .u64 0] 52) := ⟨_, rfl⟩
  have F0 : Hid (Fr [] w W0) := hid (by rw [hW0]; exact (Fr.refl _ _).alloc _)
  have N0 : Hid (W0.heap[w.heap.size]? = some (.cells #[.int .u64 0, .int .u64 0] 52 (0, 0))) := hid (by rw [hW0]; exact blk_new _ _)
  have U1 := hid (unfixed8_c (hr.fr F0.out) hb (by omega) (by omega))
  have U2 := hid (unfixed8_c ((hr.fr F0.out).back (q := 8) (by omega)) (hb.drop _) (by rw [List.length_drop]; omega) (by rw [List.length_drop]; omega))
  have e0 : unf (b.take 8) = n8 b 0 := rfl
  have e8 : unf ((b.drop 8).take 8) = n8 b 8 := rfl
  rw [e0] at U1
  rw [e8] at U2
  clear hr hb e0 e8
  generalize n8 b 0 = x0 at *
  generalize n8 b 8 = x8 at *
  generalize b.length = L at *
  have h1 : ¬ c = 8 := by omega
  go_enter Tryz.func60, Tryz.ntmps60
  go_wp2_with (first
    | (go_at_call 97; have zz := Z1; clear zz; refine U2.out.mono ?_; rintro e w1 ⟨rfl, h⟩; rw [h]; clear h)
    | (go_at_call 97; rw [← hW0]; clear hW0; have Z1 := N0.out; have z0 := (show W0.cell? ⟨w.heap.size, 0, none⟩ = some (.int .u64 0) from (by rw [blk_cell Z1]; rfl)); have z1 := (show W0.cell? ⟨w.heap.size, 1, none⟩ = some (.int .u64 0) from (by rw [blk_cell Z1]; rfl)); have zf := blk_frozen Z1; refine U1.out.mono ?_; rintro e w1 ⟨rfl, h⟩; rw [h]; clear h))
  refine bodyPost_ret (v := .agg #[.int .u64 (x0 : Int), .int .u64 (x8 : Int)]) (results_cell_row rfl _ _ w.heap.size 52 _ (0, 0) _ (by simp) (by rw [blk_set (blk_set N0.out 0 _) 1 _]; rfl) Tryz.underlying52 rfl sizePc) rfl ?_
  exact ⟨rfl, (F0.out.set _ _ (.inr (Nat.le_refl _))).set _ _ (.inr (Nat.le_refl _))⟩
set_option maxRecDepth 20000 in
set_option maxHeartbeats 1600000 in
theorem reaches_c (w : World) (a n x : Nat) (ha : a < 18446744073709551616) (hn : n < 18446744073709551616) (hx : x < 18446744073709551616) (y : Bool) (hy : y = true ↔ a + n + 4 = x) :
    Calls Tryz.prog 61 #[.agg #[.int .u64 (a : Int), .int .u64 (n : Int)], .int .u64 (x : Int)] w fun e w' => e = .returned (.bool y) ∧ Fr [] w w' := by
  have w1 : a ≤ x → IntKind.u64.wrap ((x : Int) - (a : Int)) = (x : Int) - (a : Int) := fun h => by rw [IntKind.wrap_u64]; omega
  have w2 : a ≤ x → 4 ≤ x - a → IntKind.u64.wrap ((x : Int) - (a : Int) - 4) = (x : Int) - (a : Int) - 4 := fun h h' => by rw [IntKind.wrap_u64]; omega
  by_cases h1 : a ≤ x
  · have w1' := w1 h1
    have h1' : (a : Int) ≤ (x : Int) := by omega
    by_cases h2 : 4 ≤ x - a
    · have w2' := w2 h1 h2
      have h2' : (4 : Int) ≤ (x : Int) - (a : Int) := by omega
      by_cases h3 : n = x - a - 4
      · have h3' : ((n : Int) == (x : Int) - (a : Int) - 4) = true := by rw [beq_iff_eq]; omega
        have hyt : y = true := hy.2 (by omega)
        subst hyt
        clear h3 w1 w2 hy
        go_enter Tryz.func61, Tryz.ntmps61
        go_wp2
        go_ret
        exact ⟨rfl, (Fr.refl _ _).alloc _⟩
      · have h3' : ((n : Int) == (x : Int) - (a : Int) - 4) = false := by rw [beq_eq_false_iff_ne]; omega
        have hyt : y = false := by rcases y with _ | _; rfl; have := hy.1 rfl; omega
        subst hyt
        clear h3 w1 w2 hy
        go_enter Tryz.func61, Tryz.ntmps61
        go_wp2
        go_ret
        exact ⟨rfl, (Fr.refl _ _).alloc _⟩
    · have h2' : ¬ (4 : Int) ≤ (x : Int) - (a : Int) := by omega
      have hyt : y = false := by rcases y with _ | _; rfl; have := hy.1 rfl; omega
      subst hyt
      clear w1 w2 hy
      go_enter Tryz.func61, Tryz.ntmps61
      go_wp2
      go_ret
      exact ⟨rfl, (Fr.refl _ _).alloc _⟩
  · have h1' : ¬ (a : Int) ≤ (x : Int) := by omega
    have hyt : y = false := by rcases y with _ | _; rfl; have := hy.1 rfl; omega
    subst hyt
    clear w1 w2 hy
    go_enter Tryz.func61, Tryz.ntmps61
    go_wp2
    go_ret
    exact ⟨rfl, (Fr.refl _ _).alloc _⟩
end Go.Proofs.YtnnookkcnmgbfaaGreat
namespace Go.Proofs.YtnnookkcnmgbfaaGreat
open Go.ChangeShapes Go.WideShapes Go.ChangeAt Go.RowKit

set_option maxRecDepth 20000 in
set_option maxHeartbeats 1600000 in
theorem build_plan (w : World) {a : Option Addr} {n c : Nat} (r : Int) (hr : r < 1 ∨ 64 < r) :
    Calls Tryz.prog 46 #[.slice a n c, .int .i64 r] w fun e w' => e = .returned (.tuple #[.slice none 0 0, .int .i64 71]) ∧ Fr [] w w' := by
  rcases hr with hr | hr
  all_goals
    go_enter Tryz.func46, Tryz.ntmps46
    go_wp2
    go_ret2
    exact ⟨rfl, Fr.refl _ _⟩
set_option maxRecDepth 20000 in
set_option maxHeartbeats 1600000 in
theorem build_order (w : World) {v : Value} {ps : Ps} (h : RdK w v ps) (hl : ps.length ≤ 1000000) (r : Nat) (h1 : 1 ≤ r) (h2 : r ≤ 64) (hr : ¬ Rises ps) :
    Calls Tryz.prog 46 #[v, .int .i64 (r : Int)] w fun e w' => e = .returned (.tuple #[.slice none 0 0, .int .i64 70]) ∧ Fr [] w w' := by
  have HR := hid (rising_c w h hl)
  have HN := hid hr
  obtain ⟨a, c, rfl, hc, k1⟩ := h
  clear k1 hr
  go_enter Tryz.func46, Tryz.ntmps46
  go_wp2_with fail
  refine HR.out.mono ?_
  rintro e w1 ⟨hq, f1⟩
  rcases hq with ⟨rfl, hx⟩ | ⟨rfl, _⟩
  · exact absurd hx HN.out
  · go_wp2
    go_ret2
    exact ⟨rfl, f1⟩
/-- What Build holds ahead of its i-th entry: the entries so far, the places so far, the key ahead. -/
structure BI (w wr : World) (r : Nat) (ps : Ps) (i : Nat) (v6 v7 v8 : Value) : Prop where
  ob : wr.ownsRow w.heap.size 5 1 v6 (bod r ps i).length (bv (bod r ps i))
  op : wr.ownsRow w.heap.size 5 1 v7 (plc r ps i).length (bv (plc r ps i))
  dis : ∀ k, v6.ownBlock = some k → v7.ownBlock ≠ some k
  ah : Rd w v8 (bv (ahd ps i))
  fr : Fr [] w wr
set_option maxRecDepth 20000 in
set_option maxHeartbeats 6400000 in
theorem build_ok (w : World) {v : Value} {ps : Ps} (h : RdK w v ps) (hl : ps.length ≤ 1000000) (r : Nat) (h1 : 1 ≤ r) (h2 : r ≤ 64) (hr : Rises ps) (hb : (bod r ps ps.length).length ≤ 1000000000) :
    Calls Tryz.prog 46 #[v, .int .i64 (r : Int)] w fun e w' => ∃ v', e = .returned (.tuple #[v', .int .i64 0]) ∧ w'.ownsRow w.heap.size 5 1 v' (blk r ps).length (bv (blk r ps)) ∧ Fr [] w w' := by
  have HR := hid (rising_c w h hl)
  have HN := hid hr
  obtain ⟨a, c, rfl, hc, k1⟩ := h
  have HK := hid k1
  clear k1 hr
  obtain ⟨n, hn⟩ : ∃ n, n = ps.length := ⟨_, rfl⟩
  have HNN := hid hn
  rw [← hn] at hl hc hb HR ⊢
  clear hn
  go_enter Tryz.func46, Tryz.ntmps46
  go_wp2_with fail
  refine HR.out.mono ?_
  rintro e w1 ⟨hq, f1⟩
  rcases hq with ⟨rfl, hx⟩ | ⟨rfl, hx⟩
  case inr => exact absurd HN.out hx
  have F1 := hid f1
  clear f1 HR hx
  go_wp2_with fail
  go_loopw [6, 7, 8, 25] (fun v6 v7 v8 v25 wr => ∃ i : Nat, i ≤ n ∧ v25 = .int .i64 (i : Int) ∧ BI w wr r ps i v6 v7 v8) (fun _ _ _ v25 _ => n - (intOf v25).toNat)
  case atStart => exact ⟨0, Nat.zero_le _, rfl, World.ownsRow_nil _ _ _ _, World.ownsRow_nil _ _ _ _, fun k hk => by simp [Value.ownBlock] at hk, .inl ⟨rfl, rfl⟩, F1.out⟩
  case round =>
    obtain ⟨i, hi, rfl, hbi⟩ := hrel
    have HB := hid hbi
    clear hbi
    have hmod : ((i : Int) % (r : Int)) = ((i % r : Nat) : Int) := by simp
    have hbl : (bod r ps i).length ≤ 1000000000 := Nat.le_trans (bod_le r ps hi) hb
    have hpl : (plc r ps i).length ≤ 4000000 := Nat.le_trans (plc_le r ps i) (by omega)
    by_cases hlt : i < n
    · have hil : i < ps.length := by rw [← HNN.out]; exact hlt
      obtain ⟨b, off, rfl, m1⟩ := HK.out (by omega)
      obtain ⟨ka, kc, va, vc, P⟩ := m1 i _ (ps_at hil)
      have hk8 := isK_len (flw_isK (HN.out i hil))
      obtain ⟨q0, o0, kc', hka, hkc⟩ := P.rk.place (by dsimp only; omega)
      simp only [Value.slice.injEq, true_and] at hka
      obtain ⟨rfl, rfl⟩ := hka
      have hsd := shd_lt (r := r) HN.out hil
      have z1 := cell_fr HB.out.fr P.ck
      have z2 := cell_fr HB.out.fr P.cv
      have RK := hid P.rk
      have RK2 := hid P.rk
      have RV2 := hid P.rv
      have hlv' := P.lv
      have hal := (ahd_len HN.out i)
      have HAL : Hid ((ahd ps i).length ≤ 140737488355328) := hid (by omega)
      dsimp only at z1 z2 RK RK2 RV2 hlv' hkc
      have hbs : bod r ps i ++ ent (shd r ps i) (kA ps i) (vA ps i) = bod r ps (i + 1) := by rw [bod]
      have hvb : (vA ps i).length ≤ 1000000000 := by
        have e1 := (ent_len (shd r ps i) (kA ps i) (vA ps i)).2
        have e2 := bod_le r ps (i := i + 1) (j := n) (by omega)
        rw [← hbs, List.length_append] at e2
        omega
      have hsh : (if i % r = 0 then 0 else shr (ahd ps i) (kA ps i) : Nat) = shd r ps i := rfl
      obtain ⟨sd, hsd'⟩ : ∃ s, s = shd r ps i := ⟨_, rfl⟩
      rw [← hsd'] at hsd hsh hbs
      have HSD := hid hsh
      have HBS := hid hbs
      have hpn : plc r ps (i + 1) = if i % r = 0 then plc r ps i ++ fixL (bod r ps i).length 4 else plc r ps i := rfl
      obtain ⟨lk, hlk⟩ : ∃ l, (kA ps i).length = l := ⟨_, rfl⟩
      obtain ⟨lv, hlv⟩ : ∃ l, (vA ps i).length = l := ⟨_, rfl⟩
      have HLK := hid hlk
      have HLV := hid hlv
      rw [hlk] at z1 RK hk8 hkc hsd
      rw [hlv] at z2 hlv' hvb
      clear P m1 hlk hlv hsh hbs hsd'
      obtain ⟨W0, hW0⟩ : ∃ W0, W0 = wr.alloc (.cells #[.slice (some ⟨q0, o0, none⟩) lk kc, .slice va lv vc] 47) := ⟨_, rfl⟩
      have F0 : Hid (Fr [] wr W0) := by refine hid ?_; rw [hW0]; exact (Fr.refl _ _).alloc _
      have BX0 : Hid (W0.heap[wr.heap.size]? = some (.cells #[.slice (some ⟨q0, o0, none⟩) lk kc, .slice va lv vc] 47 (0, 0))) := by refine hid ?_; rw [hW0]; exact blk_new _ _
      by_cases hm : i % r = 0
      · rw [hm] at hmod
        rw [if_pos hm] at hpn
        have HPN := hid hpn
        obtain ⟨b6, c6, hv6, _⟩ := ownsRow_slice HB.out.ob
        obtain ⟨L, hL⟩ : ∃ L, (bod r ps i).length = L := ⟨_, rfl⟩
        have HL := hid hL
        rw [hL] at hv6 hbl
        subst hv6
        clear hpn
        go_wp2_with fail
        rw [← hW0]
        refine (fixed4_c W0 L (by omega)).mono ?_
        rintro e w2 ⟨v2, rfl, o2, f2⟩
        have O2 := hid o2
        have F2 := hid (F0.out.trans f2)
        have X2 := hid (f2.at BX0.out (by simp))
        have hs2 : w.heap.size ≤ w2.heap.size := by have := HB.out.fr.size; have := F2.out.size; omega
        clear o2 f2 hW0
        go_upto_region 11 with (at_builtin; refine wpList_append_rd rfl _ _ rfl w.heap.size hs2 _ _ _ rfl (ownsRow_fr HB.out.op F2.out) _ _ rfl (Rd.ownN O2.out (by rw [fixL_len])) bv_one (by rw [bv_len, fixL_len]; omega) ?_; intro v7c W o3 g3 q3)
        have OP : Hid (W.ownsRow w.heap.size 5 1 v7c (plc r ps (i + 1)).length (bv (plc r ps (i + 1)))) := by
          refine hid ?_
          rw [HPN.out, HL.out, bv_append, List.length_append, ← bv_len (fixL L 4)]
          exact o3
        have keep : ∀ k, k < w2.heap.size → u7.ownBlock ≠ some k → W.heap[k]? = w2.heap[k]? := fun k hk hne => g3.block k hk (fun e => hne e.symm)
        have OB : Hid (W.ownsRow w.heap.size 5 1 (Value.slice b6 L c6) (bod r ps i).length (bv (bod r ps i))) := hid (ownsRow_of_block (ownsRow_fr HB.out.ob F2.out) fun k hk => keep k ((ownsRow_fr HB.out.ob F2.out).lt k hk).2 (HB.out.dis k hk))
        have DIS : Hid (∀ k, (Value.slice b6 L c6).ownBlock = some k → v7c.ownBlock ≠ some k) := by
          refine hid fun k hk hk2 => ?_
          rcases q3 with e | e
          · have e' : v7c.ownBlock = u7.ownBlock := e
            exact HB.out.dis k hk (by rw [← e']; exact hk2)
          · have e' : v7c.ownBlock = some w2.heap.size := e
            rw [e'] at hk2; simp at hk2; have := ((ownsRow_fr HB.out.ob F2.out).lt k hk).2; omega
        have FW : Hid (Fr [] w W) := hid ((HB.out.fr.trans F2.out).grew (ownsRow_fr HB.out.op F2.out) (Nat.le_refl _) g3)
        have BX : Hid (W.heap[wr.heap.size]? = some (.cells #[.slice (some ⟨q0, o0, none⟩) lk kc, .slice va lv vc] 47 (0, 0))) := hid (by rw [keep wr.heap.size (blk_lt X2.out) (own_not (ownsRow_fr HB.out.op F2.out) X2.out (by decide))]; exact X2.out)
        clear o3 g3 q3 keep
        clear z1 z2 HK hmod
        have SK : Hid (∀ w', Fr (Value.slice b6 L c6).ownBlock.toList W w' → w'.cell? ⟨wr.heap.size, 0, none⟩ = some (.slice (some ⟨q0, o0, none⟩) lk kc) ∧ w'.cell? ⟨wr.heap.size, 1, none⟩ = some (.slice va lv vc)) := fun w' f => by
          have hx := f.at BX.out (fun hm => own_not OB.out BX.out (by decide) (by rw [Option.mem_toList] at hm; exact hm))
          exact ⟨by rw [blk_cell hx]; rfl, by rw [blk_cell hx]; rfl⟩
        refine wp_region_held_drew (S := fun w' => w'.cell? ⟨wr.heap.size, 0, none⟩ = some (.slice (some ⟨q0, o0, none⟩) lk kc) ∧ w'.cell? ⟨wr.heap.size, 1, none⟩ = some (.slice va lv vc)) (by kernel_rfl) (SK.out _ ((Fr.refl _ _).drew)) (fun hS => ?_)
        refine wpAnyH_take (i := 0) (v := (Value.slice b6 L c6)) rfl (by kernel_rfl) (by kernel_rfl) (by kernel_rfl) (fun _ _ _ h => h) (.inl ⟨by rfl, fun wx _ => by go_simp⟩) hS ?_
        simp only [Act.put]
        refine wpAnyH_take (i := 1) (v := .agg #[.slice (some ⟨q0, o0, none⟩) lk kc, .slice va lv vc]) rfl (by kernel_rfl) (by kernel_rfl) (by kernel_rfl) (fun _ _ _ h => h) (.inl ⟨by rfl, fun wx hX => by obtain ⟨x0, x1⟩ := hX; go_simp⟩) hS ?_
        simp only [Act.put]
        refine wpAnyH_take (i := 2) (v := .int .i64 (i : Int)) rfl (by kernel_rfl) (by kernel_rfl) (by kernel_rfl) (fun _ _ _ h => h) (.inl ⟨by rfl, fun wx _ => by go_simp⟩) hS ?_
        simp only [Act.put]
        refine wpAnyH_take (i := 3) (v := .int .i64 (r : Int)) rfl (by kernel_rfl) (by kernel_rfl) (by kernel_rfl) (fun _ _ _ h => h) (.inl ⟨by rfl, fun wx _ => by go_simp⟩) hS ?_
        simp only [Act.put]
        refine wpAnyH_take (i := 4) (v := u8) rfl (by kernel_rfl) (by kernel_rfl) (by kernel_rfl) (fun _ _ _ h => h) (.inl ⟨by rfl, fun wx _ => by go_simp⟩) hS ?_
        simp only [Act.put]
        refine wpAnyH_take (i := 5) (v := .pointer (some ⟨wr.heap.size, 0, none⟩)) rfl (by kernel_rfl) (by kernel_rfl) (by kernel_rfl) (fun _ _ _ h => h) (.inl ⟨by rfl, fun wx _ => by go_simp⟩) hS ?_
        simp only [Act.put]
        refine wpAnyH_take (i := 6) (v := .slice (some ⟨q0, o0, none⟩) lk kc) rfl (by kernel_rfl) (by kernel_rfl) (by kernel_rfl) (fun _ _ _ h => h) (.inl ⟨by rfl, fun wx hX => by obtain ⟨x0, x1⟩ := hX; go_simp⟩) hS ?_
        simp only [Act.put]
        clear hS
        refine wpAnyH_ready (rs := [7]) (by kernel_rfl) (by simp) ?_
        refine AllReadyH.cons rfl (fun K hK => ?_) AllReadyH.nil
        go_simp
        refine (sharing_c W.drew i r (by omega) h1 h2 (HB.out.ah.fr FW.out.drew) HAL.out (RK.out.fr FW.out.drew) (by rw [HLK.out]; omega)).mono ?_
        rintro e w3 ⟨rfl, f3⟩
        rw [HSD.out]
        refine hK.out _ _ (SK.out _ (((Fr.refl _ _).drew).trans (f3.mono (by simp)))) (fun _ => ?_)
        clear hK K
        have F3 := hid (((Fr.refl [] W).drew).trans f3)
        clear f3
        refine wpAnyH_ready (rs := [8]) (by kernel_rfl) (by simp) ?_
        refine AllReadyH.cons rfl (fun K hK => ?_) AllReadyH.nil
        go_simp
        have AE := appendEntry_c w w3 sd w.heap.size (Nat.le_refl _) (FW.out.trans F3.out).size (FW.out.trans F3.out) _ (ownsRow_fr OB.out F3.out) RK2.out (by rw [HLK.out]; exact hkc) RV2.out (by rw [HLK.out]; exact hsd) (by omega) (by rw [HLK.out]; omega) (by rw [HLV.out]; omega)
        rw [HLK.out, HLV.out] at AE
        refine AE.mono ?_
        rintro e w4 ⟨v6n, rfl, g4⟩
        clear AE
        rw [HBS.out] at g4
        have G4 := hid g4
        clear g4
        refine hK.out _ _ (SK.out _ ((F3.out.mono (by simp)).trans G4.out.fr)) (fun _ => ?_)
        clear hK K
        have FN : Hid (Fr [] w w4) := hid (G4.out.old (ownsRow_fr OB.out F3.out) (FW.out.trans F3.out) (Nat.le_refl _))
        have BN : Hid (BI w w4 r ps (i + 1) v6n v7c (.slice (some ⟨q0, o0, none⟩) lk kc)) := by
          refine hid ⟨G4.out.own, ownsRow_of_block (ownsRow_fr OP.out F3.out) ?_, ?_, by rw [ahd_succ]; exact RK.out, FN.out⟩
          · intro k hk
            exact G4.out.fr.block k ((ownsRow_fr OP.out F3.out).lt k hk).2 (fun hm => DIS.out k (by rw [Option.mem_toList] at hm; exact hm) hk)
          · intro k hk hk2
            rcases G4.out.blk with e | e
            · exact DIS.out k (by rw [← e]; exact hk) hk2
            · have := e k hk; have := ((ownsRow_fr OP.out F3.out).lt k hk2).2; omega
        have hcl := (SK.out _ ((F3.out.mono (by simp)).trans G4.out.fr)).1
        refine wpAnyH_ready (rs := [9]) (by kernel_rfl) (by simp) ?_
        refine AllReadyH.cons rfl (fun K hK => ?_) AllReadyH.nil
        go_simp
        refine hK.out _ _ (SK.out _ ((F3.out.mono (by simp)).trans G4.out.fr)) (fun _ => ?_)
        clear hK K
        refine wpAnyH_done (by kernel_rfl) ?_ _
        go_wp2
        go_roundw
        case rel => exact ⟨i + 1, by omega, by go_num, BN.out⟩
        case measure => simp [intOf]; omega
      · have hm' : ¬ ((i % r : Nat) : Int) = 0 := by omega
        rw [if_neg hm] at hpn
        obtain ⟨md, hmd⟩ : ∃ md, md = i % r := ⟨_, rfl⟩
        rw [← hmd] at hmod hm'
        clear hmd
        go_upto_region 11 with fail
        rw [← hW0]
        have OP : Hid (W0.ownsRow w.heap.size 5 1 u7 (plc r ps (i + 1)).length (bv (plc r ps (i + 1)))) := by
          refine hid ?_
          rw [hpn]
          exact ownsRow_fr HB.out.op F0.out
        have OB : Hid (W0.ownsRow w.heap.size 5 1 u6 (bod r ps i).length (bv (bod r ps i))) := hid (ownsRow_fr HB.out.ob F0.out)
        have DIS : Hid (∀ k, u6.ownBlock = some k → u7.ownBlock ≠ some k) := hid HB.out.dis
        have FW : Hid (Fr [] w W0) := hid (HB.out.fr.trans F0.out)
        have BX := BX0
        clear hpn hW0
        clear z1 z2 HK hmod
        have SK : Hid (∀ w', Fr u6.ownBlock.toList W0 w' → w'.cell? ⟨wr.heap.size, 0, none⟩ = some (.slice (some ⟨q0, o0, none⟩) lk kc) ∧ w'.cell? ⟨wr.heap.size, 1, none⟩ = some (.slice va lv vc)) := fun w' f => by
          have hx := f.at BX.out (fun hm => own_not OB.out BX.out (by decide) (by rw [Option.mem_toList] at hm; exact hm))
          exact ⟨by rw [blk_cell hx]; rfl, by rw [blk_cell hx]; rfl⟩
        refine wp_region_held_drew (S := fun w' => w'.cell? ⟨wr.heap.size, 0, none⟩ = some (.slice (some ⟨q0, o0, none⟩) lk kc) ∧ w'.cell? ⟨wr.heap.size, 1, none⟩ = some (.slice va lv vc)) (by kernel_rfl) (SK.out _ ((Fr.refl _ _).drew)) (fun hS => ?_)
        refine wpAnyH_take (i := 0) (v := u6) rfl (by kernel_rfl) (by kernel_rfl) (by kernel_rfl) (fun _ _ _ h => h) (.inl ⟨by rfl, fun wx _ => by go_simp⟩) hS ?_
        simp only [Act.put]
        refine wpAnyH_take (i := 1) (v := .agg #[.slice (some ⟨q0, o0, none⟩) lk kc, .slice va lv vc]) rfl (by kernel_rfl) (by kernel_rfl) (by kernel_rfl) (fun _ _ _ h => h) (.inl ⟨by rfl, fun wx hX => by obtain ⟨x0, x1⟩ := hX; go_simp⟩) hS ?_
        simp only [Act.put]
        refine wpAnyH_take (i := 2) (v := .int .i64 (i : Int)) rfl (by kernel_rfl) (by kernel_rfl) (by kernel_rfl) (fun _ _ _ h => h) (.inl ⟨by rfl, fun wx _ => by go_simp⟩) hS ?_
        simp only [Act.put]
        refine wpAnyH_take (i := 3) (v := .int .i64 (r : Int)) rfl (by kernel_rfl) (by kernel_rfl) (by kernel_rfl) (fun _ _ _ h => h) (.inl ⟨by rfl, fun wx _ => by go_simp⟩) hS ?_
        simp only [Act.put]
        refine wpAnyH_take (i := 4) (v := u8) rfl (by kernel_rfl) (by kernel_rfl) (by kernel_rfl) (fun _ _ _ h => h) (.inl ⟨by rfl, fun wx _ => by go_simp⟩) hS ?_
        simp only [Act.put]
        refine wpAnyH_take (i := 5) (v := .pointer (some ⟨wr.heap.size, 0, none⟩)) rfl (by kernel_rfl) (by kernel_rfl) (by kernel_rfl) (fun _ _ _ h => h) (.inl ⟨by rfl, fun wx _ => by go_simp⟩) hS ?_
        simp only [Act.put]
        refine wpAnyH_take (i := 6) (v := .slice (some ⟨q0, o0, none⟩) lk kc) rfl (by kernel_rfl) (by kernel_rfl) (by kernel_rfl) (fun _ _ _ h => h) (.inl ⟨by rfl, fun wx hX => by obtain ⟨x0, x1⟩ := hX; go_simp⟩) hS ?_
        simp only [Act.put]
        clear hS
        refine wpAnyH_ready (rs := [7]) (by kernel_rfl) (by simp) ?_
        refine AllReadyH.cons rfl (fun K hK => ?_) AllReadyH.nil
        go_simp
        refine (sharing_c W0.drew i r (by omega) h1 h2 (HB.out.ah.fr FW.out.drew) HAL.out (RK.out.fr FW.out.drew) (by rw [HLK.out]; omega)).mono ?_
        rintro e w3 ⟨rfl, f3⟩
        rw [HSD.out]
        refine hK.out _ _ (SK.out _ (((Fr.refl _ _).drew).trans (f3.mono (by simp)))) (fun _ => ?_)
        clear hK K
        have F3 := hid (((Fr.refl [] W0).drew).trans f3)
        clear f3
        refine wpAnyH_ready (rs := [8]) (by kernel_rfl) (by simp) ?_
        refine AllReadyH.cons rfl (fun K hK => ?_) AllReadyH.nil
        go_simp
        have AE := appendEntry_c w w3 sd w.heap.size (Nat.le_refl _) (FW.out.trans F3.out).size (FW.out.trans F3.out) _ (ownsRow_fr OB.out F3.out) RK2.out (by rw [HLK.out]; exact hkc) RV2.out (by rw [HLK.out]; exact hsd) (by omega) (by rw [HLK.out]; omega) (by rw [HLV.out]; omega)
        rw [HLK.out, HLV.out] at AE
        refine AE.mono ?_
        rintro e w4 ⟨v6n, rfl, g4⟩
        clear AE
        rw [HBS.out] at g4
        have G4 := hid g4
        clear g4
        refine hK.out _ _ (SK.out _ ((F3.out.mono (by simp)).trans G4.out.fr)) (fun _ => ?_)
        clear hK K
        have FN : Hid (Fr [] w w4) := hid (G4.out.old (ownsRow_fr OB.out F3.out) (FW.out.trans F3.out) (Nat.le_refl _))
        have BN : Hid (BI w w4 r ps (i + 1) v6n u7 (.slice (some ⟨q0, o0, none⟩) lk kc)) := by
          refine hid ⟨G4.out.own, ownsRow_of_block (ownsRow_fr OP.out F3.out) ?_, ?_, by rw [ahd_succ]; exact RK.out, FN.out⟩
          · intro k hk
            exact G4.out.fr.block k ((ownsRow_fr OP.out F3.out).lt k hk).2 (fun hm => DIS.out k (by rw [Option.mem_toList] at hm; exact hm) hk)
          · intro k hk hk2
            rcases G4.out.blk with e | e
            · exact DIS.out k (by rw [← e]; exact hk) hk2
            · have := e k hk; have := ((ownsRow_fr OP.out F3.out).lt k hk2).2; omega
        have hcl := (SK.out _ ((F3.out.mono (by simp)).trans G4.out.fr)).1
        refine wpAnyH_ready (rs := [9]) (by kernel_rfl) (by simp) ?_
        refine AllReadyH.cons rfl (fun K hK => ?_) AllReadyH.nil
        go_simp
        refine hK.out _ _ (SK.out _ ((F3.out.mono (by simp)).trans G4.out.fr)) (fun _ => ?_)
        clear hK K
        refine wpAnyH_done (by kernel_rfl) ?_ _
        go_wp2
        go_roundw
        case rel => exact ⟨i + 1, by omega, by go_num, BN.out⟩
        case measure => simp [intOf]; omega
    · have hin : i = n := by omega
      subst hin
      have H4 := plc_four r ps i
      obtain ⟨b7, c7, hv7, _⟩ := ownsRow_slice HB.out.op
      obtain ⟨L, hL⟩ : ∃ L, (plc r ps i).length = L := ⟨_, rfl⟩
      have HL := hid hL
      rw [hL] at hv7 hpl H4
      subst hv7
      obtain ⟨q, hq⟩ : ∃ q, L = 4 * q := ⟨L / 4, by omega⟩
      have hdiv : ((L : Int) / 4) = (q : Int) := by omega
      have HQ := hid hq
      clear hq H4
      clear hmod HK
      obtain ⟨b6, c6, rfl, _⟩ := ownsRow_slice HB.out.ob
      go_wp2_with fail
      refine (fixed4_c wr q (by omega)).mono ?_
      rintro e w2 ⟨v2, rfl, o2, f2⟩
      obtain ⟨b2, c2, rfl, _⟩ := ownsRow_slice o2
      have O2 := hid o2
      have F2 := hid f2
      have CC := hid (concat3_c (Rd.ownB (ownsRow_fr HB.out.ob f2)) (Rd.ownN (ownsRow_fr HB.out.op f2) rfl) (Rd.ownN o2 (by rw [fixL_len])) (by rw [fixL_len, HL.out]; omega))
      clear o2 f2
      go_wp2_with fail
      refine CC.out.mono ?_
      rintro e w3 ⟨v3, rfl, o3, f3⟩
      have O3 := hid o3
      have F3 := hid f3
      clear o3 f3 CC
      go_wp2
      go_ret2
      have hbk : bod r ps i ++ plc r ps i ++ fixL q 4 = blk r ps := by
        unfold blk
        rw [← HNN.out, List.append_assoc, HL.out, HQ.out, Nat.mul_div_cancel_left _ (by omega)]
      refine ⟨v3, rfl, ?_, HB.out.fr.trans (F2.out.trans F3.out)⟩
      rw [← hbk]
      exact ownsRow_base O3.out (by have := HB.out.fr.size; have := F2.out.size; omega)
end Go.Proofs.YtnnookkcnmgbfaaGreat
