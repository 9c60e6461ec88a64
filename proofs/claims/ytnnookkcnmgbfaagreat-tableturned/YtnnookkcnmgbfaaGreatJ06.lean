/-
  Pairs of bytes in memory: those that can be read, those of the call's own; the statements' comparison of them.
-/
import Derived.Test.YtnnookkcnmgbfaaGreatJ04
import Derived.Test.YtnnookkcnmgbfaaGreatJ05
import Derived.Deep.Cut
import Derived.Deep.RegionHeld
import Derived.Deep.Light
import Derived.Laws.ResultCell
import Derived.Deep.WholeRow
import Derived.Test.YtnnookkcnmgbfaaGreatJ02
import Derived.Deep.RegionLaw
namespace Go.Proofs.YtnnookkcnmgbfaaGreat
open Go.ChangeShapes Go.WideShapes Go.ChangeAt Go.RowKit

theorem cell_fr {w w' : World} (f : Fr [] w w') {p : Addr} {v : Value} (h : w.cell? p = some v) : w'.cell? p = some v := by
  rw [World.cell?_of_block (w := w) (f.block _ (World.block_lt_of_cell? w _ h) (by simp))]; exact h
/-- Does a block hold a byte? -/
def U8 (w : World) (k : Nat) : Prop := ∃ p n, p.block = k ∧ w.cell? p = some (.int .u8 n)
theorem U8.lt {w : World} {k : Nat} (h : U8 w k) : k < w.heap.size := by
  obtain ⟨p, n, rfl, h⟩ := h
  exact World.block_lt_of_cell? w _ h
theorem Rd.keep {w w' : World} {v : Value} {ns : List Nat} (h : Rd w v (bv ns)) (hk : ∀ k, U8 w k → w'.heap[k]? = w.heap[k]?) : Rd w' v (bv ns) := by
  rcases h with h | ⟨a, c, rfl, h4, h5⟩
  · exact .inl h
  · refine .inr ⟨a, c, rfl, h4, fun j u hj => ?_⟩
    have h6 := h5 j u hj
    have hu : ∃ n : Int, u = .int .u8 n := by
      obtain ⟨n, _, rfl⟩ := List.mem_map.1 (List.mem_of_getElem? hj)
      exact ⟨_, rfl⟩
    obtain ⟨n, rfl⟩ := hu
    rw [World.cell?_of_block (w := w) (hk _ ⟨_, _, rfl, h6⟩)]; exact h6
theorem noU8 {w : World} {b : Nat} {cs : List Value} {T : TypeId} (h : w.heap[b]? = some (.cells cs.toArray T (0, 0))) (hc : ∀ c ∈ cs, ∀ n, c ≠ .int .u8 n) : ¬ U8 w b := by
  rintro ⟨⟨_, o, sp⟩, n, rfl, hn⟩
  have hsp : sp = none := World.cell?_spot hn
  subst hsp
  rw [blk_cell h, List.getElem?_toArray] at hn
  exact hc _ (List.mem_of_getElem? hn) n rfl

theorem infoP : (Tryz.prog.info? 47).map (fun i => (i.zero, i.size, i.bytes)) = some (some (.agg #[.slice none 0 0, .slice none 0 0]), 2, 48) := by kernel_rfl
/-- A pair of bytes at a place. -/
structure PAt (w : World) (b o : Nat) (p : List Nat × List Nat) (ka : Option Addr) (kc : Nat) (va : Option Addr) (vc : Nat) : Prop where
  ck : w.cell? ⟨b, o, none⟩ = some (.slice ka p.1.length kc)
  cv : w.cell? ⟨b, o + 1, none⟩ = some (.slice va p.2.length vc)
  rk : Rd w (.slice ka p.1.length kc) (bv p.1)
  rv : Rd w (.slice va p.2.length vc) (bv p.2)
  bk : By p.1
  bv' : By p.2
  lk : p.1.length ≤ 140737488355328
  lv : p.2.length ≤ 140737488355328
theorem PAt.fr {w w' : World} {b o : Nat} {p : List Nat × List Nat} {ka va : Option Addr} {kc vc : Nat} (h : PAt w b o p ka kc va vc) (f : Fr [] w w') : PAt w' b o p ka kc va vc :=
  ⟨cell_fr f h.ck, cell_fr f h.cv, h.rk.fr f, h.rv.fr f, h.bk, h.bv', h.lk, h.lv⟩
/-- Pairs that can be read. -/
def RdK (w : World) (v : Value) (ps : Ps) : Prop :=
  ∃ a c, v = .slice a ps.length c ∧ ps.length ≤ c ∧ (0 < ps.length → ∃ b off, a = some ⟨b, off, none⟩ ∧ ∀ (j : Nat) (p : List Nat × List Nat), ps[j]? = some p → ∃ ka kc va vc, PAt w b (off + j * 2) p ka kc va vc)
theorem RdK.fr {w w' : World} {v : Value} {ps : Ps} (h : RdK w v ps) (f : Fr [] w w') : RdK w' v ps := by
  obtain ⟨a, c, h1, h2, h3⟩ := h
  refine ⟨a, c, h1, h2, fun h0 => ?_⟩
  obtain ⟨b, off, h4, h5⟩ := h3 h0
  refine ⟨b, off, h4, fun j p hj => ?_⟩
  obtain ⟨ka, kc, va, vc, h6⟩ := h5 j p hj
  exact ⟨ka, kc, va, vc, h6.fr f⟩
theorem RdK.by {w : World} {v : Value} {ps : Ps} (h : RdK w v ps) : ByP ps := fun p hp => by
  obtain ⟨a, c, h1, h2, h3⟩ := h
  obtain ⟨b, off, h4, h5⟩ := h3 (List.length_pos_of_mem hp)
  obtain ⟨j, hj⟩ := List.getElem?_of_mem hp
  obtain ⟨_, _, _, _, h6⟩ := h5 j p hj
  exact ⟨h6.bk, h6.bv'⟩
theorem RdK.lens {w : World} {v : Value} {ps : Ps} (h : RdK w v ps) : ∀ p ∈ ps, p.1.length ≤ 140737488355328 ∧ p.2.length ≤ 140737488355328 := fun p hp => by
  obtain ⟨a, c, h1, h2, h3⟩ := h
  obtain ⟨b, off, h4, h5⟩ := h3 (List.length_pos_of_mem hp)
  obtain ⟨j, hj⟩ := List.getElem?_of_mem hp
  obtain ⟨_, _, _, _, h6⟩ := h5 j p hj
  exact ⟨h6.lk, h6.lv⟩
theorem RdK.nil (w : World) : RdK w (.slice none 0 0) [] := ⟨none, 0, rfl, Nat.le_refl _, fun h => by simp at h⟩
/-- Pairs of the call's own. -/
def ColK (W : World) (B : Nat) (v : Value) (ps : Ps) : Prop := ∃ cs, W.ownsRow B 47 2 v ps.length cs ∧ (∀ c ∈ cs, ∃ a n k, c = Value.slice a n k) ∧
  ∀ (j : Nat) (p : List Nat × List Nat), ps[j]? = some p → ∃ kv vv, cs[j * 2]? = some kv ∧ cs[j * 2 + 1]? = some vv ∧ Rd W kv (bv p.1) ∧ Rd W vv (bv p.2) ∧ By p.1 ∧ By p.2 ∧ p.1.length ≤ 140737488355328 ∧ p.2.length ≤ 140737488355328
theorem ColK.nil (W : World) (B : Nat) : ColK W B (.slice none 0 0) [] := ⟨[], World.ownsRow_nil _ _ _ _, fun c h => (by cases h), fun j p h => by simp at h⟩
theorem ColK.step {W W' : World} {B : Nat} {v : Value} {ps : Ps} (h : ColK W B v ps) (hb : ∀ k, v.ownBlock = some k → W'.heap[k]? = W.heap[k]?) (hu : ∀ k, U8 W k → W'.heap[k]? = W.heap[k]?) : ColK W' B v ps := by
  obtain ⟨cs, o, h1, h2⟩ := h
  refine ⟨cs, ownsRow_of_block o hb, h1, fun j p hj => ?_⟩
  obtain ⟨kv, vv, c0, c1, r0, r1, b0⟩ := h2 j p hj
  exact ⟨kv, vv, c0, c1, r0.keep hu, r1.keep hu, b0⟩
theorem ColK.fr {W W' : World} {B : Nat} {v : Value} {ps : Ps} (h : ColK W B v ps) (f : Fr [] W W') : ColK W' B v ps :=
  h.step (fun k hk => by obtain ⟨cs, o, _⟩ := h; exact f.block k (o.lt k hk).2 (by simp)) (fun k hk => f.block k hk.lt (by simp))
theorem ColK.rd {w : World} {B : Nat} {v : Value} {ps : Ps} (h : ColK w B v ps) : RdK w v ps := by
  obtain ⟨cs, o, h1, h2⟩ := h
  rcases o.2 with ⟨rfl, h0⟩ | ⟨g, cap, cur, rfl, _, h3, h4, h5⟩
  · have : ps = [] := List.eq_nil_of_length_eq_zero h0
    subst this
    exact RdK.nil w
  · refine ⟨_, cap, rfl, h4, fun _ => ⟨g, 0, rfl, fun j p hj => ?_⟩⟩
    obtain ⟨kv, vv, c0, c1, r0, r1, b0, b1, l0, l1⟩ := h2 j p hj
    have d0 := o.cells rfl _ _ c0
    have d1 := o.cells rfl _ _ c1
    rw [Addr.add_lit] at d0 d1
    obtain ⟨a0, k0, e0⟩ := r0.form
    obtain ⟨a1, k1, e1⟩ := r1.form
    rw [bv_len] at e0 e1
    subst e0
    subst e1
    exact ⟨a0, k0, a1, k1, d0, by rw [show 0 + j * 2 + 1 = 0 + (j * 2 + 1) from by omega]; exact d1, r0, r1, b0, b1, l0, l1⟩
end Go.Proofs.YtnnookkcnmgbfaaGreat
namespace Go.Proofs.YtnnookkcnmgbfaaGreat
open Go.ChangeShapes Go.WideShapes Go.ChangeAt Go.RowKit

structure PlanOk (b r i t : Int) : Prop where
  b0 : 16 ≤ b
  b1 : b ≤ 65536
  r0 : 1 ≤ r
  r1 : r ≤ 64
  i0 : 1 ≤ i
  i1 : i ≤ 64
  t0 : 16 ≤ t
  t1 : t ≤ 4194304
theorem within_c (w : World) (n l m : Int) (b : Bool) (hb : b = decide (l ≤ n ∧ n ≤ m)) :
    Calls Tryz.prog 82 #[.int .i64 n, .int .i64 l, .int .i64 m] w fun e w' => e = .returned (.bool b) ∧ w' = w := by
  by_cases h1 : l ≤ n
  · by_cases h2 : n ≤ m
    · have hb' : b = true := by rw [hb]; exact decide_eq_true ⟨h1, h2⟩
      subst hb'
      clear hb
      go_enter Tryz.func82, Tryz.ntmps82
      go_wp2
      go_ret
      exact ⟨rfl, rfl⟩
    · have hb' : b = false := by rw [hb]; exact decide_eq_false (fun h => h2 h.2)
      subst hb'
      clear hb
      go_enter Tryz.func82, Tryz.ntmps82
      go_wp2
      go_ret
      exact ⟨rfl, rfl⟩
  · have hb' : b = false := by rw [hb]; exact decide_eq_false (fun h => h1 h.1)
    subst hb'
    clear hb
    go_enter Tryz.func82, Tryz.ntmps82
    go_wp2
    go_ret
    exact ⟨rfl, rfl⟩
set_option maxRecDepth 20000 in
set_option maxHeartbeats 1600000 in
theorem check_c (w : World) (b r i t : Int) :
    Calls Tryz.prog 45 #[.agg #[.int .i64 b, .int .i64 r, .int .i64 i, .int .i64 t]] w fun e w' => (e = .returned (.int .i64 0) ∧ PlanOk b r i t ∨ e = .returned (.int .i64 82) ∧ ¬ PlanOk b r i t) ∧ Fr [] w w' := by
  by_cases c0 : 16 ≤ b ∧ b ≤ 65536
  case neg =>
    have E0 := hid (show decide (16 ≤ b ∧ b ≤ 65536) = false from decide_eq_false c0)
    have C := hid (show ¬ (16 ≤ b ∧ b ≤ 65536) from c0)
    clear c0
    go_enter Tryz.func45, Tryz.ntmps45
    go_wp2_with (go_at_call 82; refine (within_c _ _ _ _ _ rfl).mono ?_; rintro e w1 ⟨rfl, rfl⟩; first
      | rw [E0.out])
    go_ret
    refine ⟨?_, (Fr.refl _ _).alloc _⟩
    exact .inr ⟨rfl, fun h => C.out ⟨h.b0, h.b1⟩⟩
  by_cases c1 : 1 ≤ r ∧ r ≤ 64
  case neg =>
    have E0 := hid (show decide (16 ≤ b ∧ b ≤ 65536) = true from decide_eq_true c0)
    have E1 := hid (show decide (1 ≤ r ∧ r ≤ 64) = false from decide_eq_false c1)
    have C := hid (show (16 ≤ b ∧ b ≤ 65536) ∧ ¬ (1 ≤ r ∧ r ≤ 64) from ⟨c0, c1⟩)
    clear c0 c1
    go_enter Tryz.func45, Tryz.ntmps45
    go_wp2_with (go_at_call 82; refine (within_c _ _ _ _ _ rfl).mono ?_; rintro e w1 ⟨rfl, rfl⟩; first
      | rw [E0.out]
      | rw [E1.out])
    go_ret
    refine ⟨?_, (Fr.refl _ _).alloc _⟩
    exact .inr ⟨rfl, fun h => C.out.2 ⟨h.r0, h.r1⟩⟩
  by_cases c2 : 1 ≤ i ∧ i ≤ 64
  case neg =>
    have E0 := hid (show decide (16 ≤ b ∧ b ≤ 65536) = true from decide_eq_true c0)
    have E1 := hid (show decide (1 ≤ r ∧ r ≤ 64) = true from decide_eq_true c1)
    have E2 := hid (show decide (1 ≤ i ∧ i ≤ 64) = false from decide_eq_false c2)
    have C := hid (show (16 ≤ b ∧ b ≤ 65536) ∧ (1 ≤ r ∧ r ≤ 64) ∧ ¬ (1 ≤ i ∧ i ≤ 64) from ⟨c0, c1, c2⟩)
    clear c0 c1 c2
    go_enter Tryz.func45, Tryz.ntmps45
    go_wp2_with (go_at_call 82; refine (within_c _ _ _ _ _ rfl).mono ?_; rintro e w1 ⟨rfl, rfl⟩; first
      | rw [E0.out]
      | rw [E1.out]
      | rw [E2.out])
    go_ret
    refine ⟨?_, (Fr.refl _ _).alloc _⟩
    exact .inr ⟨rfl, fun h => C.out.2.2 ⟨h.i0, h.i1⟩⟩
  by_cases c3 : 16 ≤ t ∧ t ≤ 4194304
  case neg =>
    have E0 := hid (show decide (16 ≤ b ∧ b ≤ 65536) = true from decide_eq_true c0)
    have E1 := hid (show decide (1 ≤ r ∧ r ≤ 64) = true from decide_eq_true c1)
    have E2 := hid (show decide (1 ≤ i ∧ i ≤ 64) = true from decide_eq_true c2)
    have E3 := hid (show decide (16 ≤ t ∧ t ≤ 4194304) = false from decide_eq_false c3)
    have C := hid (show (16 ≤ b ∧ b ≤ 65536) ∧ (1 ≤ r ∧ r ≤ 64) ∧ (1 ≤ i ∧ i ≤ 64) ∧ ¬ (16 ≤ t ∧ t ≤ 4194304) from ⟨c0, c1, c2, c3⟩)
    clear c0 c1 c2 c3
    go_enter Tryz.func45, Tryz.ntmps45
    go_wp2_with (go_at_call 82; refine (within_c _ _ _ _ _ rfl).mono ?_; rintro e w1 ⟨rfl, rfl⟩; first
      | rw [E0.out]
      | rw [E1.out]
      | rw [E2.out]
      | rw [E3.out])
    go_ret
    refine ⟨?_, (Fr.refl _ _).alloc _⟩
    exact .inr ⟨rfl, fun h => C.out.2.2.2 ⟨h.t0, h.t1⟩⟩
  have E0 := hid (show decide (16 ≤ b ∧ b ≤ 65536) = true from decide_eq_true c0)
  have E1 := hid (show decide (1 ≤ r ∧ r ≤ 64) = true from decide_eq_true c1)
  have E2 := hid (show decide (1 ≤ i ∧ i ≤ 64) = true from decide_eq_true c2)
  have E3 := hid (show decide (16 ≤ t ∧ t ≤ 4194304) = true from decide_eq_true c3)
  have C := hid (show (16 ≤ b ∧ b ≤ 65536) ∧ (1 ≤ r ∧ r ≤ 64) ∧ (1 ≤ i ∧ i ≤ 64) ∧ (16 ≤ t ∧ t ≤ 4194304) from ⟨c0, c1, c2, c3⟩)
  clear c0 c1 c2 c3
  go_enter Tryz.func45, Tryz.ntmps45
  go_wp2_with (go_at_call 82; refine (within_c _ _ _ _ _ rfl).mono ?_; rintro e w1 ⟨rfl, rfl⟩; first
    | rw [E0.out]
    | rw [E1.out]
    | rw [E2.out]
    | rw [E3.out])
  go_ret
  refine ⟨?_, (Fr.refl _ _).alloc _⟩
  obtain ⟨⟨b0, b1⟩, ⟨r0, r1⟩, ⟨i0, i1⟩, ⟨t0, t1⟩⟩ := C.out
  exact .inl ⟨rfl, b0, b1, r0, r1, i0, i1, t0, t1⟩

set_option maxRecDepth 20000 in
set_option maxHeartbeats 1600000 in
theorem filling_c (w : World) {v : Value} {ps : Ps} (h : RdK w v ps) (hl : Lim ps) (most : Nat) (hm : most ≤ 100000) :
    Calls Tryz.prog 87 #[v, .int .i64 (most : Int)] w fun e w' => e = .returned (.int .i64 (fil most ps : Int)) ∧ Fr [] w w' := by
  obtain ⟨a, c, rfl, hc, k1⟩ := h
  have H1 := hid k1
  have hl0 := hl.n
  have HLT := hid hl.t
  clear k1 hl
  obtain ⟨n, hn⟩ : ∃ n, n = ps.length := ⟨_, rfl⟩
  have HN := hid hn
  have hfl : fil most ps = filF most ps n 0 := by rw [hn]; rfl
  have HFL := hid hfl
  rw [← hn] at hc hl0 ⊢
  clear hn hfl
  obtain ⟨z, hz⟩ : ∃ z, z = fil most ps := ⟨_, rfl⟩
  rw [← hz]
  have HZ := hid hz
  clear hz
  go_enter Tryz.func87, Tryz.ntmps87
  go_wp2_with fail
  go_loopw [5, 10] (fun v5 v10 wr => ∃ i : Nat, i ≤ n ∧ v10 = .int .i64 (i : Int) ∧ v5 = .int .i64 (tot ps i : Int) ∧ z = filF most ps (n - i) i ∧ Fr [] w wr) (fun _ v10 _ => n - (intOf v10).toNat)
  case atStart => exact ⟨0, Nat.zero_le _, rfl, rfl, by rw [HZ.out, HFL.out]; rfl, Fr.refl _ _⟩
  case round =>
    obtain ⟨i, hi, rfl, rfl, hzi, hf⟩ := hrel
    have HF := hid hf
    have htt1 : tot ps (i + 1) = tot ps i + (kA ps i).length + (vA ps i).length := rfl
    have HTT := hid htt1
    have HZI := hid hzi
    clear hf htt1 hzi
    by_cases hlt : i < n
    · have hil : i < ps.length := by rw [← HN.out]; exact hlt
      obtain ⟨b, off, rfl, m1⟩ := H1.out (by omega)
      obtain ⟨ka, kc, va, vc, P⟩ := m1 i _ (ps_at hil)
      have z1 := cell_fr HF.out P.ck
      have z2 := cell_fr HF.out P.cv
      have htl : tot ps (i + 1) ≤ 100000000 := Nat.le_trans (tot_le ps (i := i + 1) (j := ps.length) (by omega)) HLT.out
      have hrec : filF most ps (n - i) i = if most ≤ tot ps (i + 1) then i + 1 else filF most ps (n - (i + 1)) (i + 1) := by
        rw [show n - i = (n - (i + 1)) + 1 from by omega, filF]
      have HRC := hid hrec
      dsimp only at z1 z2
      rw [HTT.out] at htl
      clear P m1 hrec hil
      obtain ⟨tt, htt⟩ : ∃ tt, tt = tot ps i := ⟨_, rfl⟩
      obtain ⟨lk, hlk⟩ : ∃ lk, lk = (kA ps i).length := ⟨_, rfl⟩
      obtain ⟨lv, hlv⟩ : ∃ lv, lv = (vA ps i).length := ⟨_, rfl⟩
      have HT3 := hid (And.intro htt (And.intro hlk hlv))
      rw [← htt, ← hlk, ← hlv] at htl
      rw [← hlk] at z1
      rw [← hlv] at z2
      rw [← htt]
      clear htt hlk hlv
      by_cases hge : most ≤ tt + lk + lv
      · have hge' : (most : Int) ≤ (tt : Int) + ((lk : Int) + (lv : Int)) := by omega
        go_wp2
        go_ret
        refine ⟨?_, HF.out.alloc _⟩
        have : z = i + 1 := by rw [HZI.out, HRC.out, if_pos (by rw [HTT.out, ← HT3.out.1, ← HT3.out.2.1, ← HT3.out.2.2]; exact hge)]
        rw [this]; go_num
      · have hge' : ¬ (most : Int) ≤ (tt : Int) + ((lk : Int) + (lv : Int)) := by omega
        go_wp2
        go_roundw
        case rel => exact ⟨i + 1, by omega, by go_num, by rw [HTT.out, ← HT3.out.1, ← HT3.out.2.1, ← HT3.out.2.2]; go_num, by rw [HZI.out, HRC.out, if_neg (by rw [HTT.out, ← HT3.out.1, ← HT3.out.2.1, ← HT3.out.2.2]; exact hge)], HF.out.alloc _⟩
        case measure => simp [intOf]; omega
    · have hin : i = n := by omega
      subst hin
      go_wp2
      go_ret
      refine ⟨?_, HF.out⟩
      have : z = i := by rw [HZI.out, Nat.sub_self]; rfl
      rw [this]; rfl
end Go.Proofs.YtnnookkcnmgbfaaGreat
namespace Go.Proofs.YtnnookkcnmgbfaaGreat
open Go.ChangeShapes Go.WideShapes Go.ChangeAt Go.RowKit

/-- The world behind a Clone of bytes that lie in memory. -/
def cloneW (w : World) (ns : List Nat) : World :=
  if ns = [] then w.alloc (.cells #[] 5) else (w.alloc (.cells #[] 5)).drew.alloc (.cells (#[] ++ (bv ns).toArray ++ Builtin.zeroCells (Value.int .u8 0).cells (grownCap (w.alloc (.cells #[] 5)) (0 + ns.length) 0 5 - (0 + ns.length))) 5)
def cloneV (w : World) (ns : List Nat) : Value :=
  if ns = [] then .slice (some ⟨w.heap.size, 0, none⟩) 0 0 else .slice (some ⟨(w.alloc (.cells #[] 5)).heap.size, 0, none⟩) (0 + ns.length) (grownCap (w.alloc (.cells #[] 5)) (0 + ns.length) 0 5)

theorem clone_fr (w : World) (ns : List Nat) : Fr [] w (cloneW w ns) := by
  unfold cloneW
  split
  · exact (Fr.refl _ _).alloc _
  · exact (((Fr.refl _ _).alloc _).drew).alloc _
theorem clone_own (w : World) (ns : List Nat) (hl : ns.length ≤ 140737488355328) : (cloneW w ns).ownsRow w.heap.size 5 1 (cloneV w ns) ns.length (bv ns) := by
  unfold cloneW cloneV
  by_cases h : ns = []
  · rw [if_pos h, if_pos h, h]
    exact World.ownsRow_lit w #[] 0 (Nat.le_refl _) (by unfold maxLen; omega) rfl
  · rw [if_neg h, if_neg h, Nat.zero_add]
    have h1 := grownCap_ge (w.alloc (.cells #[] 5)) ns.length 0 5
    refine ⟨by rw [bv_len, Nat.mul_one], .inr ⟨_, _, _, rfl, by simp, blk_new _ _, h1, grownCap_le_maxLen _ _ _ _ (by unfold maxLen; omega), ?_, ?_⟩⟩
    · simp only [Array.size_append, size_zeroCells, Value.cells, List.size_toArray, bv_len]
      simp; omega
    · simp [bv_len]

set_option maxRecDepth 20000 in
set_option maxHeartbeats 400000 in
theorem clone_x {w : World} {q off c : Nat} {ns : List Nat} (hr : Rd w (.slice (some ⟨q, off, none⟩) ns.length c) (bv ns)) (hl : ns.length ≤ 140737488355328) :
    Calls Tryz.prog 20 #[.slice (some ⟨q, off, none⟩) ns.length c] w fun e w' => e = .returned (cloneV w ns) ∧ w' = cloneW w ns := by
  have heq := fun (w : World) (a : Option Addr) (n c : Nat) => Lib.run_eql_slice_nil (P := Tryz.prog) w 22 5 a n c 0 0 Tryz.underlying22
  obtain ⟨i0, hi, hz0, hz1, hz2⟩ := info_parts infoB
  by_cases h : ns = []
  · subst h
    have hV : cloneV w [] = .slice (some ⟨w.heap.size, 0, none⟩) 0 0 := rfl
    have hW : cloneW w [] = w.alloc (.cells #[] 5) := rfl
    rw [hV, hW]
    clear hr hV hW hi hz0 hz1 hz2
    go_enter Tryz.func20, Tryz.ntmps20
    go_wp2
    go_ret
    exact ⟨rfl, rfl⟩
  · have hpos : 0 < ns.length := List.length_pos_iff.2 h
    have hr' : Rd (w.alloc (.cells #[] 5)) (.slice (some ⟨q, off, none⟩) ns.length c) (bv ns) := hr.fr ((Fr.refl _ _).alloc _)
    have hnews : ∀ j v, (bv ns)[j]? = some v → (w.alloc (.cells #[] 5)).cell? ((⟨q, off, none⟩ : Addr).add j) = some v := by
      rcases hr' with ⟨e, _⟩ | ⟨a, c', e, _, h5⟩
      · cases e
      · simp only [Value.slice.injEq, Option.some.injEq] at e
        obtain ⟨rfl, _, _⟩ := e
        exact h5
    have hrun := fun ty => run_append_grow (P := Tryz.prog) (w.alloc (.cells #[] 5)) 22 ty 5 i0 (.int .u8 0) Tryz.underlying22 hi hz0 ⟨w.heap.size, 0, none⟩ 0 0 [] (by simp) (by simp) ⟨q, off, none⟩ ns.length c (bv ns) (by rw [bv_len, hz1, Nat.mul_one]) hnews (by omega) (by omega) (by rw [hz2, Nat.mul_one, Nat.zero_add, nextslicecap_zero hpos]; omega)
    have hV : cloneV w ns = .slice (some ⟨(w.alloc (.cells #[] 5)).heap.size, 0, none⟩) (0 + ns.length) (grownCap (w.alloc (.cells #[] 5)) (0 + ns.length) 0 5) := by unfold cloneV; rw [if_neg h]
    have hW : cloneW w ns = (w.alloc (.cells #[] 5)).drew.alloc (.cells (#[] ++ (bv ns).toArray ++ Builtin.zeroCells (Value.int .u8 0).cells (grownCap (w.alloc (.cells #[] 5)) (0 + ns.length) 0 5 - (0 + ns.length))) 5) := by unfold cloneW; rw [if_neg h]
    have hrun' : ∀ ty, (Builtin.append_ #[22, 22] ty #[.slice (some ⟨w.heap.size, 0, none⟩) 0 0, .slice (some ⟨q, off, none⟩) ns.length c]).run Tryz.prog (w.alloc (.cells #[] 5)) = .ok (cloneV w ns) (cloneW w ns) := fun ty => by
      rw [hV, hW]; exact hrun ty
    clear hr hr' hnews hrun hV hW hi hz0 hz1 hz2 h
    go_enter Tryz.func20, Tryz.ntmps20
    go_wp2_with (at_builtin; refine Lib.wpList_append_run _ rfl _ _ _ _ rfl _ _ rfl rfl _ _ (hrun' _) ?_)
    go_ret
    exact ⟨rfl, rfl⟩
end Go.Proofs.YtnnookkcnmgbfaaGreat
namespace Go.Proofs.YtnnookkcnmgbfaaGreat
open Go.ChangeShapes Go.WideShapes Go.ChangeAt Go.RowKit

theorem results_tmp4 {fn : Func} {p q r s : Tmp} (h : fn.results = #[.tmp p, .tmp q, .tmp r, .tmp s]) (tmps : Array Value) (P : Program) (w : World) :
    (results fn tmps).run P w = .ok (.tuple #[tmps.getD p undef, tmps.getD q undef, tmps.getD r undef, tmps.getD s undef]) w := by
  simp only [results, h]
  simp

set_option maxRecDepth 20000 in
set_option maxHeartbeats 400000 in
theorem Split_no (w : World) {v : Value} {b : List Nat} (hr : Rd w v (bv b)) (hb : By b) (hl : b.length ≤ 140737488355328) (h : isK b = false) :
    Calls Tryz.prog 57 #[v] w fun e w' => e = .returned (.tuple #[.slice none 0 0, .int .u64 0, .int .i64 0, .int .i64 23]) ∧ Fr [] w w' := by
  have HS := hid (split_no w hr hb hl h)
  obtain ⟨a, c, hv⟩ := hr.form
  subst hv
  clear hr hb h
  go_enter Tryz.func57, Tryz.ntmps57
  go_wp2_with fail
  refine HS.out.mono ?_
  rintro e w1 ⟨rfl, f1⟩
  go_wp2
  exact bodyPost_ret (results_tmp4 rfl _ _ _) rfl ⟨rfl, f1.alloc _⟩

set_option maxRecDepth 20000 in
set_option maxHeartbeats 4000000 in
theorem Split_yes (w : World) {v : Value} {b : List Nat} (hr : Rd w v (bv b)) (hb : By b) (h : isK b = true) :
    Calls Tryz.prog 57 #[v] w fun e w' => ∃ v', e = .returned (.tuple #[v', .int .u64 ((tailN b / 256 : Nat) : Int), .int .i64 ((tailN b % 256 : Nat) : Int), .int .i64 0]) ∧ w'.ownsRow w.heap.size 5 1 v' (userL b).length (bv (userL b)) ∧ Fr [] w w' := by
  have hk := isK_len h
  obtain ⟨q, off, c, rfl, h1⟩ := hr.place (by omega)
  have hs0 := split_yes w hr hb h1 h
  have hr0 := hr.front (q := b.length - 8) (by omega)
  obtain ⟨s, hs⟩ : ∃ s, s = tailN b / 256 := ⟨_, rfl⟩
  obtain ⟨g, hg⟩ : ∃ g, g = tailN b % 256 := ⟨_, rfl⟩
  obtain ⟨u, hu⟩ : ∃ u, u = b.take (b.length - 8) := ⟨_, rfl⟩
  have hul : b.length - 8 = u.length := by rw [hu, List.length_take]; omega
  have hlen : u.length ≤ 140737488355328 := by omega
  rw [← hs, ← hg, hul] at hs0
  rw [← hu, hul] at hr0
  rw [← hs, ← hg, show userL b = u from hu.symm]
  have HS := hid hs0
  have HR := hid hr0
  clear hr hb h hs hg hs0 hr0 hu hul
  go_enter Tryz.func57, Tryz.ntmps57
  go_wp2_with fail
  refine HS.out.mono ?_
  rintro e w1 ⟨rfl, f1⟩
  have F1 := hid f1
  clear f1
  have A1 : Hid (Fr [] w (w1.alloc (.cells #[.slice (some ⟨q, off, none⟩) u.length c, .int .u64 (s : Int), .int .i64 (g : Int)] 93)).drew) := (F1.out.alloc _).drew
  have A2 := hid (HR.out.fr A1.out)
  have A3 : Hid ((w1.alloc (.cells #[.slice (some ⟨q, off, none⟩) u.length c, .int .u64 (s : Int), .int .i64 (g : Int)] 93)).drew.heap[w1.heap.size]? = some (.cells #[.slice (some ⟨q, off, none⟩) u.length c, .int .u64 (s : Int), .int .i64 (g : Int)] 93 (0, 0))) := by
    unfold Hid; rw [blk_drew]; exact blk_new w1 _
  have HCL := hid (clone_x A2.out hlen)
  have O2 := hid (ownsRow_base (clone_own (w1.alloc (.cells #[.slice (some ⟨q, off, none⟩) u.length c, .int .u64 (s : Int), .int .i64 (g : Int)] 93)).drew u hlen) A1.out.size)
  have f2 := clone_fr (w1.alloc (.cells #[.slice (some ⟨q, off, none⟩) u.length c, .int .u64 (s : Int), .int .i64 (g : Int)] 93)).drew u
  generalize cloneW (w1.alloc (.cells #[.slice (some ⟨q, off, none⟩) u.length c, .int .u64 (s : Int), .int .i64 (g : Int)] 93)).drew u = W2 at HCL O2 f2
  generalize cloneV (w1.alloc (.cells #[.slice (some ⟨q, off, none⟩) u.length c, .int .u64 (s : Int), .int .i64 (g : Int)] 93)).drew u = v2 at HCL O2
  have kb := f2.at A3.out (by simp)
  have k1 : W2.cell? ⟨w1.heap.size, 1, none⟩ = some (.int .u64 (s : Int)) := by rw [blk_cell kb]; rfl
  have k2 : W2.cell? ⟨w1.heap.size, 2, none⟩ = some (.int .i64 (g : Int)) := by rw [blk_cell kb]; rfl
  have F2 := hid (A1.out.trans f2)
  obtain ⟨a2, c2, hv2, _⟩ := ownsRow_slice O2.out
  subst hv2
  clear kb f2
  go_wp2_with fail
  go_region_with (
    go_at_call 20
    go_must (
    refine HCL.out.mono ?_
    rintro e w2 ⟨rfl, rfl⟩))
  all_goals go_wp2
  all_goals exact bodyPost_ret (results_tmp4 rfl _ _ _) rfl ⟨_, rfl, O2.out, F2.out⟩
end Go.Proofs.YtnnookkcnmgbfaaGreat
namespace Go.Proofs.YtnnookkcnmgbfaaGreat
open Go.ChangeShapes Go.WideShapes Go.ChangeAt Go.RowKit

set_option maxRecDepth 20000 in
set_option maxHeartbeats 1600000 in
theorem follows_c (w : World) {v1 v2 : Value} {a k : List Nat} (h1 : Rd w v1 (bv a)) (ha : By a) (hla : a.length ≤ 140737488355328) (h2 : Rd w v2 (bv k)) (hk : By k) (hlk : k.length ≤ 140737488355328) :
    Calls Tryz.prog 105 #[v1, v2] w fun e w' => e = .returned (.bool (flw a k)) ∧ Fr [] w w' := by
  obtain ⟨a1, c1, hv1⟩ := h1.form
  obtain ⟨a2, c2, hv2⟩ := h2.form
  rw [bv_len] at hv1 hv2
  subst hv1
  subst hv2
  have H1 := hid h1
  have H2 := hid h2
  have HA := hid ha
  have HK := hid hk
  clear h1 h2 ha hk
  by_cases h0 : a = []
  · subst h0
    simp only [List.length_nil]
    cases hk : isK k with
    | false =>
      have HS := hid (Split_no w H2.out HK.out hlk hk)
      have hf : flw [] k = false := by unfold flw; rw [if_pos rfl]; exact hk
      rw [hf]
      clear hk hf
      go_enter Tryz.func105, Tryz.ntmps105
      go_wp2_with fail
      refine HS.out.mono ?_
      rintro e w1 ⟨rfl, f1⟩
      go_wp2
      go_ret
      exact ⟨rfl, f1⟩
    | true =>
      have HS := hid (Split_yes w H2.out HK.out hk)
      have hf : flw [] k = true := by unfold flw; rw [if_pos rfl]; exact hk
      rw [hf]
      clear hk hf
      go_enter Tryz.func105, Tryz.ntmps105
      go_wp2_with fail
      refine HS.out.mono ?_
      rintro e w1 ⟨v', rfl, _, f1⟩
      go_wp2
      go_ret
      exact ⟨rfl, f1⟩
  · have hpos : 0 < a.length := List.length_pos_iff.2 h0
    have hf : flw a k = (isK a && (isK k && decide (ordK a k < 0))) := by unfold flw; rw [if_neg h0]
    rw [hf]
    cases hka : isK a with
    | false =>
      have HS := hid (compare_no1 w H1.out HA.out hla hka (v2 := .slice a2 k.length c2) rfl)
      clear hka hf
      generalize a.length = n1 at *
      generalize k.length = n2 at *
      go_enter Tryz.func105, Tryz.ntmps105
      go_wp2_with fail
      refine HS.out.mono ?_
      rintro e w1 ⟨rfl, f1⟩
      go_wp2
      go_ret
      exact ⟨rfl, f1⟩
    | true => cases hkk : isK k with
      | false =>
        have HS := hid (compare_no2 w H1.out HA.out hka H2.out HK.out hlk hkk)
        clear hka hf hkk
        generalize a.length = n1 at *
        generalize k.length = n2 at *
        go_enter Tryz.func105, Tryz.ntmps105
        go_wp2_with fail
        refine HS.out.mono ?_
        rintro e w1 ⟨rfl, f1⟩
        go_wp2
        go_ret
        exact ⟨rfl, f1⟩
      | true =>
        have HS := hid (compare_yes w H1.out HA.out hka H2.out HK.out hkk)
        clear hka hf hkk
        simp only [Bool.true_and]
        generalize a.length = n1 at *
        generalize k.length = n2 at *
        generalize ordK a k = o at *
        go_enter Tryz.func105, Tryz.ntmps105
        go_wp2_with fail
        refine HS.out.mono ?_
        rintro e w1 ⟨rfl, f1⟩
        go_wp2
        go_ret
        exact ⟨rfl, f1⟩

set_option maxRecDepth 20000 in
set_option maxHeartbeats 1600000 in
theorem sharing_q (w : World) {v1 v2 : Value} {a k : List Nat} (i r : Nat) (hi : i ≤ 140737488355328) (hr : 1 ≤ r) (hr2 : r ≤ 64) (h1 : Rd w v1 (bv a)) (hla : a.length ≤ 140737488355328) (h2 : Rd w v2 (bv k)) (hlk : k.length ≤ 140737488355328) :
    Calls Tryz.prog 86 #[.int .i64 (i : Int), .int .i64 (r : Int), v1, v2] w fun e w' => e = .returned (.int .i64 ((if i % r = 0 then 0 else shr a k : Nat) : Int)) ∧ ∃ m, w' = w.drewN m := by
  have S1 := h1.split
  have S2 := h2.split
  obtain ⟨a1, c1, hv1⟩ := h1.form
  obtain ⟨a2, c2, hv2⟩ := h2.form
  rw [bv_len] at hv1 hv2
  subst hv1
  subst hv2
  have H1 := hid S1
  have H2 := hid S2
  obtain ⟨n1, hn1⟩ : ∃ n, n = a.length := ⟨_, rfl⟩
  obtain ⟨n2, hn2⟩ : ∃ n, n = k.length := ⟨_, rfl⟩
  have HN1 := hid hn1
  have HN2 := hid hn2
  rw [← hn1] at hla ⊢
  rw [← hn2] at hlk ⊢
  clear h1 h2 S1 S2 hn1 hn2
  have hmod : ((i : Int) % (r : Int)) = ((i % r : Nat) : Int) := by simp
  obtain ⟨md, hmd⟩ : ∃ m, m = i % r := ⟨_, rfl⟩
  rw [← hmd] at hmod ⊢
  clear hmd
  by_cases hz : md = 0
  · rw [if_pos hz]
    subst hz
    go_enter Tryz.func86, Tryz.ntmps86
    go_wp2
    all_goals first
      | (go_ret; exact ⟨rfl, 0, rfl⟩)
      | (exfalso; omega)
  · rw [if_neg hz]
    have hmin : ∃ m, m = min n1 n2 ∧ m ≤ n1 ∧ m ≤ n2 ∧ ((m = n1 ∧ ¬ n2 < n1) ∨ (m = n2 ∧ n2 < n1)) := ⟨_, rfl, by omega, by omega, by omega⟩
    obtain ⟨m, hm, hm1, hm2, hc⟩ := hmin
    have HM := hid hm
    clear hm
    rcases hc with ⟨rfl, hc⟩ | ⟨rfl, hc⟩
    all_goals
      go_enter Tryz.func86, Tryz.ntmps86
      go_wp2_with fail
      rename_i K hK
      go_loopw [21] (fun v21 wr => ∃ n : Nat, n ≤ m ∧ v21 = .int .i64 (n : Int) ∧ a.take n = k.take n ∧ ∃ m, wr = w.drewN m) (fun v21 _ => m - (intOf v21).toNat)
      case atStart => exact ⟨0, Nat.zero_le _, rfl, rfl, 0, rfl⟩
      case round =>
        obtain ⟨n, hn, rfl, ht, mm, hmm⟩ := hrel
        have HT := hid ht
        have hf : Fr [] w wr := by rw [hmm]; exact (Fr.refl _ _).drewN mm
        have HF := hid hf
        have HW := hid hmm
        clear ht hf hmm
        by_cases hlt : n < m
        · have l1 : n < a.length := by have := HN1.out; omega
          have l2 : n < k.length := by have := HN2.out; omega
          obtain ⟨x, hx⟩ : ∃ x, a[n]? = some x := ⟨_, List.getElem?_eq_getElem l1⟩
          obtain ⟨y, hy⟩ : ∃ y, k[n]? = some y := ⟨_, List.getElem?_eq_getElem l2⟩
          rcases H1.out with ⟨hb, _⟩ | ⟨b1, o1, d1, e1, _, _, g1⟩
          · rw [hb] at l1; simp at l1
          rcases H2.out with ⟨hb, _⟩ | ⟨b2, o2, d2, e2, _, _, g2⟩
          · rw [hb] at l2; simp at l2
          simp only [Value.slice.injEq] at e1 e2
          obtain ⟨rfl, _, rfl⟩ := e1
          obtain ⟨rfl, _, rfl⟩ := e2
          have z1 := cell_fr HF.out (g1 n x hx)
          have z2 := cell_fr HF.out (g2 n y hy)
          clear g1 g2
          by_cases hxy : x = y
          · subst hxy
            have B : Hid (a.take (n + 1) = k.take (n + 1)) := by
              refine hid ?_
              rw [List.take_add_one, List.take_add_one, HT.out, hx, hy]
            clear hx hy l1 l2
            go_upto_region 7 with fail
            go_quiet (fail)
            go_wp2
            go_roundw
            case rel => exact ⟨n + 1, by omega, by go_num, B.out, mm + nq, by rw [HW.out, World.drewN_drewN]⟩
            case measure => simp [intOf]; omega
          · have B : shr a k = n := shr_eq n a k HT.out (by omega) (by omega) (.inr ⟨x, y, hx, hy, hxy⟩)
            have HB := hid B
            clear hx hy l1 l2 B
            go_upto_region 7 with fail
            go_quiet (fail)
            go_wp2
            all_goals first
              | (go_ret; exact ⟨by rw [HB.out]; rfl, mm + nq, by rw [HW.out, World.drewN_drewN]⟩)
              | (exfalso; omega)
        · have hk' : n = m := by omega
          subst hk'
          have B : shr a k = n := shr_eq n a k HT.out (by have := HN1.out; omega) (by have := HN2.out; omega) (.inl (by rw [← HN1.out, ← HN2.out]; exact HM.out))
          have HB := hid B
          clear B
          go_wp2
          go_ret
          exact ⟨by rw [HB.out]; rfl, mm, HW.out⟩
theorem sharing_c (w : World) {v1 v2 : Value} {a k : List Nat} (i r : Nat) (hi : i ≤ 140737488355328) (hr : 1 ≤ r) (hr2 : r ≤ 64) (h1 : Rd w v1 (bv a)) (hla : a.length ≤ 140737488355328) (h2 : Rd w v2 (bv k)) (hlk : k.length ≤ 140737488355328) :
    Calls Tryz.prog 86 #[.int .i64 (i : Int), .int .i64 (r : Int), v1, v2] w fun e w' => e = .returned (.int .i64 ((if i % r = 0 then 0 else shr a k : Nat) : Int)) ∧ Fr [] w w' := by
  refine (sharing_q w i r hi hr hr2 h1 hla h2 hlk).mono ?_
  rintro e w' ⟨rfl, m, rfl⟩
  exact ⟨rfl, (Fr.refl _ _).drewN m⟩
end Go.Proofs.YtnnookkcnmgbfaaGreat
