/-
  Package block: builds.
-/
import Derived.Test.YtnnookkcnmgbfaaGreatJ11
namespace Go.Proofs.YtnnookkcnmgbfaaGreat
open Go.ChangeShapes Go.WideShapes Go.ChangeAt Go.RowKit

set_option maxHeartbeats 400000 in
theorem bytesEqual_c {w : World} {v1 v2 : Value} {a b : List Nat} (h1 : Rd w v1 (bv a)) (h2 : Rd w v2 (bv b)) (ha : By a) (hb : By b) :
    Calls Tryz.prog 58 #[v1, v2] w fun e w' => e = .returned (.bool (decide (a = b))) ∧ w' = w := by
  have e1 := run_conv h1
  have e2 := run_conv h2
  obtain ⟨a1, c1, rfl⟩ := h1.form
  obtain ⟨a2, c2, rfl⟩ := h2.form
  by_cases hab : a = b
  · subst hab
    have e3 := ba_beq (strOf a)
    rw [decide_eq_true rfl]
    clear h1 h2
    go_enter Tryz.func58, Tryz.ntmps58
    go_wp2
    go_ret
    exact ⟨rfl, rfl⟩
  · have e3 : ((strOf a).toList == (strOf b).toList) = false := beq_eq_false_iff_ne.2 fun h => hab (strOf_inj ha hb (by
      rw [ByteArray.toList_eq, ByteArray.toList_eq] at h
      exact ByteArray.ext (Array.toList_inj.1 h)))
    rw [decide_eq_false hab]
    clear h1 h2 hab
    go_enter Tryz.func58, Tryz.ntmps58
    go_wp2
    go_ret
    exact ⟨by simp, rfl⟩

theorem plN_by (c : Nat) (ls : List Ln) : ∀ i, By (plN c ls i)
  | 0 => fun n h => absurd h (by simp [plN])
  | i + 1 => by
    unfold plN
    split
    · exact (plN_by c ls i).append (fixL_by _ _)
    · exact plN_by c ls i
theorem plN_le (c : Nat) (ls : List Ln) : ∀ i, (plN c ls i).length ≤ 4 * i
  | 0 => by simp [plN]
  | i + 1 => by
    have := plN_le c ls i
    unfold plN
    split
    · rw [List.length_append, fixL_len]; omega
    · omega
theorem ahd_psL (ls : List Ln) (i : Nat) : ahd (psL ls) (i + 1) = (lnA ls i).key := by rw [ahd_succ, (psL_at ls i).1]
theorem OkS.succ {c : Nat} {ls : List Ln} {i : Nat} (h : OkS c ls i) (he : (lnA ls i).sh = shd c (psL ls) i) : OkS c ls (i + 1) := fun j hj => by
  by_cases e : j = i
  · subst e; exact he
  · exact h j (by omega)
/-- What builds holds ahead of its i-th line. -/
structure BU (w wr : World) (r : Nat) (ls : List Ln) (a : Option Addr) (c : Nat) (i : Nat) (v5 v6 : Value) : Prop where
  ow : wr.ownsRow w.heap.size 5 1 v5 (plN r ls i).length (bv (plN r ls i))
  ra : Rd w v6 (bv (ahd (psL ls) i))
  la : (ahd (psL ls) i).length ≤ 136
  oks : OkS r ls i
  cb : wr.heap[w.heap.size]? = some (.cells #[.slice a ls.length c, .int .i64 (r : Int)] 157 (0, 0))
  fr : Fr [] w wr

set_option maxRecDepth 20000 in
set_option maxHeartbeats 1600000 in
theorem builds_no (w : World) {a : Option Addr} {n c : Nat} {pv : Value} (r : Nat) (h : r < 1 ∨ 64 < r) (hr : r ≤ 1000000000) :
    Calls Tryz.prog 112 #[.agg #[.slice a n c, .int .i64 (r : Int)], pv] w fun e w' => e = .returned (.bool false) ∧ Fr [] w w' := by
  rcases h with h | h
  all_goals
    go_enter Tryz.func112, Tryz.ntmps112
    go_wp2
    go_ret
    exact ⟨rfl, (Fr.refl _ _).alloc _⟩

set_option maxRecDepth 20000 in
set_option maxHeartbeats 6400000 in
theorem builds_yes (w : World) {v : Value} {q o c2 : Nat} {ls : List Ln} {pl : List Nat} (r : Nat) (h1 : 1 ≤ r) (h2 : r ≤ 64) (hr : RdN w v ls) (hl : ls.length ≤ 1000000000) (hok : ∀ x ∈ ls, OkLn x) (hp : Rd w (.slice (some ⟨q, o, none⟩) pl.length c2) (bv pl)) (hb : By pl) :
    Calls Tryz.prog 112 #[.agg #[v, .int .i64 (r : Int)], .slice (some ⟨q, o, none⟩) pl.length c2] w fun e w' => ∃ b : Bool, e = .returned (.bool b) ∧ (b = true ↔ Good r ls pl) ∧ Fr [] w w' := by
  obtain ⟨a, c, rfl, k1⟩ := hr
  have HK := hid k1
  have HO := hid hok
  have HP := hid (And.intro hp hb)
  clear k1 hok hp hb
  obtain ⟨W0, hW0⟩ : ∃ W, W = w.alloc (.cells #[.slice a ls.length c, .int .i64 (r : Int)] 157) := ⟨_, rfl⟩
  have F0 : Fr [] w W0 := by rw [hW0]; exact (Fr.refl _ _).alloc _
  have I0 : Hid (BU w W0 r ls a c 0 (.slice none 0 0) (.slice none 0 0)) := hid ⟨World.ownsRow_nil _ _ _ _, .inl ⟨rfl, rfl⟩, by simp [ahd], fun i hi => by omega, by rw [hW0]; exact blk_new _ _, F0⟩
  clear F0
  have hpn : ∀ i, plN r ls (i + 1) = if i % r = 0 then plN r ls i ++ fixL (lnA ls i).pos 4 else plN r ls i := fun i => rfl
  have HPN := hid hpn
  clear hpn
  generalize hpl' : pl.length = np at *
  have HNP := hid hpl'
  clear hpl'
  obtain ⟨n, hn⟩ : ∃ n, n = ls.length := ⟨_, rfl⟩
  have HNN := hid hn
  rw [← hn] at hl hW0 ⊢
  clear hn
  go_enter Tryz.func112, Tryz.ntmps112
  go_wp2_with fail
  rw [← hW0]
  clear hW0
  go_loopw [5, 6, 20] (fun v5 v6 v20 wr => ∃ i : Nat, i ≤ n ∧ v20 = .int .i64 (i : Int) ∧ BU w wr r ls a c i v5 v6) (fun _ _ v20 _ => n - (intOf v20).toNat)
  case atStart => exact ⟨0, Nat.zero_le _, rfl, I0.out⟩
  case round =>
    obtain ⟨i, hi, rfl, hbi⟩ := hrel
    have HB := hid hbi
    have hcb := hbi.cb
    rw [← HNN.out] at hcb
    have cr : wr.cell? ⟨w.heap.size, 1, none⟩ = some (.int .i64 (r : Int)) := by rw [blk_cell hcb]; rfl
    clear hbi
    have hmod : ((i : Int) % (r : Int)) = ((i % r : Nat) : Int) := by simp
    have hplen : (plN r ls i).length ≤ 4 * i := plN_le r ls i
    by_cases hlt : i < n
    · have hil : i < ls.length := by rw [← HNN.out]; exact hlt
      obtain ⟨b, off, rfl, m1⟩ := HK.out (by omega)
      obtain ⟨ka, kc, va, vc, P⟩ := m1 i _ (lnA_at hil)
      have ok := HO.out _ (List.mem_of_getElem? (lnA_at hil))
      have hlp := ok.lp
      have hls := ok.ls
      have hlk := ok.lk
      have z0 := cell_fr HB.out.fr P.c0
      have z1 := cell_fr HB.out.fr P.c1
      have z2 := cell_fr HB.out.fr P.c2
      have z3 := cell_fr HB.out.fr P.c3
      have RK := hid P.rk
      have hsh : (if i % r = 0 then 0 else shr (ahd (psL ls) i) (lnA ls i).key : Nat) = shd r (psL ls) i := by unfold shd; rw [(psL_at ls i).1]
      have hsdl : shd r (psL ls) i ≤ 136 := by
        have := (shd_le r (psL ls) i).2
        rw [(psL_at ls i).1] at this
        omega
      obtain ⟨sd, hsd⟩ : ∃ s, s = shd r (psL ls) i := ⟨_, rfl⟩
      rw [← hsd] at hsh hsdl
      have HSH := hid hsh
      have HSD := hid hsd
      have hpn := HPN.out i
      have SHA := hid (show (ahd (psL ls) (i + 1)) = (lnA ls i).key from ahd_psL ls i)
      clear P m1 hsh hsd ok
      generalize hps : (lnA ls i).pos = ps at *
      generalize hss : (lnA ls i).sh = ss at *
      generalize hkk : (lnA ls i).key = kk at *
      generalize hvv : (lnA ls i).val = vv at *
      have HSS := hid hss
      clear hps hss hkk hvv
      obtain ⟨W0', hW0⟩ : ∃ W, W = wr.alloc (.cells #[.int .i64 (ps : Int), .int .i64 (ss : Int), .slice ka kk.length kc, .slice va vv.length vc] 161) := ⟨_, rfl⟩
      have F0 : Hid (Fr [] wr W0') := by refine hid ?_; rw [hW0]; exact (Fr.refl _ _).alloc _
      have BX0 : Hid (W0'.heap[wr.heap.size]? = some (.cells #[.int .i64 (ps : Int), .int .i64 (ss : Int), .slice ka kk.length kc, .slice va vv.length vc] 161 (0, 0))) := by refine hid ?_; rw [hW0]; exact blk_new _ _
      have CB0 : Hid (W0'.heap[w.heap.size]? = some (.cells #[.slice (some ⟨b, off, none⟩) n c, .int .i64 (r : Int)] 157 (0, 0))) := hid (F0.out.at hcb (by simp))
      have cr0 : W0'.cell? ⟨w.heap.size, 1, none⟩ = some (.int .i64 (r : Int)) := by rw [blk_cell CB0.out]; rfl
      have x0 : W0'.cell? ⟨wr.heap.size, 0, none⟩ = some (.int .i64 (ps : Int)) := by rw [blk_cell BX0.out]; rfl
      by_cases hm : i % r = 0
      · rw [hm] at hmod
        rw [if_pos hm] at hpn
        have HPN1 := hid hpn
        clear hpn
        go_upto_region 7 with fail
        rw [← hW0]
        clear hW0
        go_wp2_with fail
        refine (fixed4_c W0' ps (by omega)).mono ?_
        rintro e w2 ⟨v2, rfl, o2, f2⟩
        have O2 := hid o2
        have F2 := hid (F0.out.trans f2)
        have X2 := hid (f2.at BX0.out (by simp))
        have C2 := hid (f2.at CB0.out (by simp))
        have hs2 : w.heap.size ≤ w2.heap.size := by have := HB.out.fr.size; have := F2.out.size; omega
        clear o2 f2 x0 z0 z1 z2 z3 cr0
        go_upto_region 9 with (at_builtin; refine wpList_append_rd rfl _ _ rfl w.heap.size hs2 _ _ _ rfl (ownsRow_fr HB.out.ow F2.out) _ _ rfl (Rd.ownN O2.out (by rw [fixL_len])) bv_one (by rw [bv_len, fixL_len]; omega) ?_; intro v5c W o3 g3 q3)
        have OW : Hid (W.ownsRow w.heap.size 5 1 v5c (plN r ls (i + 1)).length (bv (plN r ls (i + 1)))) := by
          refine hid ?_
          rw [HPN1.out, bv_append, List.length_append, ← bv_len (fixL ps 4)]
          exact o3
        have keep : ∀ k, k < w2.heap.size → u5.ownBlock ≠ some k → W.heap[k]? = w2.heap[k]? := fun k hk hne => g3.block k hk (fun e => hne e.symm)
        have FW : Hid (Fr [] w W) := hid ((HB.out.fr.trans F2.out).grew (ownsRow_fr HB.out.ow F2.out) (Nat.le_refl _) g3)
        have BX : Hid (W.heap[wr.heap.size]? = some (.cells #[.int .i64 (ps : Int), .int .i64 (ss : Int), .slice ka kk.length kc, .slice va vv.length vc] 161 (0, 0))) := hid (by rw [keep wr.heap.size (blk_lt X2.out) (own_not (ownsRow_fr HB.out.ow F2.out) X2.out (by decide))]; exact X2.out)
        have CB : Hid (W.heap[w.heap.size]? = some (.cells #[.slice (some ⟨b, off, none⟩) n c, .int .i64 (r : Int)] 157 (0, 0))) := hid (by rw [keep w.heap.size (blk_lt C2.out) (own_not (ownsRow_fr HB.out.ow F2.out) C2.out (by decide))]; exact C2.out)
        clear o3 g3 q3 keep
        clear hmod cr hcb
        have SQ : Hid (∀ m, Calls Tryz.prog 86 #[.int .i64 (i : Int), .int .i64 (r : Int), u6, .slice ka kk.length kc] (W.drewN m) fun e w' => e = .returned (.int .i64 (sd : Int)) ∧ ∃ m', w' = (W.drewN m).drewN m') := hid fun m => by
          have := sharing_q (W.drewN m) i r (by omega) h1 h2 (HB.out.ra.fr (FW.out.drewN m)) (by have := HB.out.la; omega) (RK.out.fr (FW.out.drewN m)) (by omega)
          rw [HSH.out] at this
          exact this
        have y1 : W.cell? ⟨wr.heap.size, 1, none⟩ = some (.int .i64 (ss : Int)) := by rw [blk_cell BX.out]; rfl
        have y2 : W.cell? ⟨wr.heap.size, 2, none⟩ = some (.slice ka kk.length kc) := by rw [blk_cell BX.out]; rfl
        have yc : W.cell? ⟨w.heap.size, 1, none⟩ = some (.int .i64 (r : Int)) := by rw [blk_cell CB.out]; rfl
        go_quiet ((go_at_call 86; exact Calls.quiet_of (SQ.out _)))
        by_cases hse : ss = sd
        · have hne : ¬ (ss : Int) ≠ (sd : Int) := by omega
          go_wp2
          go_roundw
          case rel =>
            refine ⟨i + 1, by omega, by go_num, ownsRow_fr OW.out ((Fr.refl _ _).drewN _), by rw [SHA.out]; exact RK.out, by rw [SHA.out]; omega, HB.out.oks.succ (by rw [HSS.out, ← HSD.out]; exact hse), ?_, FW.out.drewN _⟩
            rw [blk_drewN, ← HNN.out]; exact CB.out
          case measure => simp [intOf]; omega
        · have hne : (ss : Int) ≠ (sd : Int) := by omega
          go_wp2
          go_ret
          refine ⟨false, rfl, ⟨fun h => absurd h (by simp), fun g => ?_⟩, FW.out.drewN _⟩
          exact absurd (g.2.2.1 i (by rw [← HNN.out]; exact hlt)) (by rw [HSS.out, ← HSD.out]; exact hse)
      · have hm' : ¬ ((i % r : Nat) : Int) = 0 := by omega
        rw [if_neg hm] at hpn
        obtain ⟨md, hmd⟩ : ∃ md, md = i % r := ⟨_, rfl⟩
        rw [← hmd] at hmod hm'
        clear hmd
        go_upto_region 7 with fail
        rw [← hW0]
        clear hW0
        go_upto_region 9 with fail
        have OW : Hid (W0'.ownsRow w.heap.size 5 1 u5 (plN r ls (i + 1)).length (bv (plN r ls (i + 1)))) := by
          refine hid ?_
          rw [hpn]
          exact ownsRow_fr HB.out.ow F0.out
        have FW : Hid (Fr [] w W0') := hid (HB.out.fr.trans F0.out)
        have BX := BX0
        have CB := CB0
        clear hpn z0 z1 z2 z3 x0 cr0
        clear hmod cr hcb
        have SQ : Hid (∀ m, Calls Tryz.prog 86 #[.int .i64 (i : Int), .int .i64 (r : Int), u6, .slice ka kk.length kc] (W0'.drewN m) fun e w' => e = .returned (.int .i64 (sd : Int)) ∧ ∃ m', w' = (W0'.drewN m).drewN m') := hid fun m => by
          have := sharing_q (W0'.drewN m) i r (by omega) h1 h2 (HB.out.ra.fr (FW.out.drewN m)) (by have := HB.out.la; omega) (RK.out.fr (FW.out.drewN m)) (by omega)
          rw [HSH.out] at this
          exact this
        have y1 : W0'.cell? ⟨wr.heap.size, 1, none⟩ = some (.int .i64 (ss : Int)) := by rw [blk_cell BX.out]; rfl
        have y2 : W0'.cell? ⟨wr.heap.size, 2, none⟩ = some (.slice ka kk.length kc) := by rw [blk_cell BX.out]; rfl
        have yc : W0'.cell? ⟨w.heap.size, 1, none⟩ = some (.int .i64 (r : Int)) := by rw [blk_cell CB.out]; rfl
        go_quiet ((go_at_call 86; exact Calls.quiet_of (SQ.out _)))
        by_cases hse : ss = sd
        · have hne : ¬ (ss : Int) ≠ (sd : Int) := by omega
          go_wp2
          go_roundw
          case rel =>
            refine ⟨i + 1, by omega, by go_num, ownsRow_fr OW.out ((Fr.refl _ _).drewN _), by rw [SHA.out]; exact RK.out, by rw [SHA.out]; omega, HB.out.oks.succ (by rw [HSS.out, ← HSD.out]; exact hse), ?_, FW.out.drewN _⟩
            rw [blk_drewN, ← HNN.out]; exact CB.out
          case measure => simp [intOf]; omega
        · have hne : (ss : Int) ≠ (sd : Int) := by omega
          go_wp2
          go_ret
          refine ⟨false, rfl, ⟨fun h => absurd h (by simp), fun g => ?_⟩, FW.out.drewN _⟩
          exact absurd (g.2.2.1 i (by rw [← HNN.out]; exact hlt)) (by rw [HSS.out, ← HSD.out]; exact hse)
    · have hin : i = n := by omega
      subst hin
      have EC := hid (bytesEqual_c (w := wr) (Rd.ownB HB.out.ow) (HP.out.1.fr HB.out.fr) (plN_by r ls i) HP.out.2)
      clear hmod cr
      go_wp2_with fail
      refine EC.out.mono ?_
      rintro e w2 ⟨rfl, rfl⟩
      clear EC
      go_wp2
      go_ret
      refine ⟨decide (plN r ls i = pl), rfl, ?_, HB.out.fr⟩
      rw [decide_eq_true_iff]
      constructor
      · intro he
        exact ⟨h1, h2, by rw [← HNN.out]; exact HB.out.oks, by rw [← HNN.out]; exact he⟩
      · intro g
        have := g.2.2.2
        rw [← HNN.out] at this
        exact this
end Go.Proofs.YtnnookkcnmgbfaaGreat
