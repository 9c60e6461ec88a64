/-
  Plans checked; how many entries fill a block.
-/
import Derived.Test.YtobdegmlijnogaaJ08
import Derived.Test.YtobdegmlijnogaaJ09
import Derived.Test.YtobdegmlijnogaaJ03
import Derived.Test.YtobdegmlijnogaaJ04
import Derived.Deep.RegionLaw
namespace Go.Proofs.Ytobdegmlijnogaa
open Go.ChangeShapes Go.WideShapes Go.ChangeAt Go.RowKit

structure PlanOk (b r i t : Int) : Prop where
  b0 : 16 ≤ b
  b1 : b ≤ 65536
  r0 : 1 ≤ r
  r1 : r ≤ 64
  i0 : 1 ≤ i
  i1 : i ≤ 64
  t0 : 16 ≤ t
  t1 : t ≤ 4194304
theorem within_c (w : World) (n l m : Int) (b : Bool) (hb : b = decide (l ≤ n ∧ n ≤ m)) :
    Calls Try.prog 47 #[.int .i64 n, .int .i64 l, .int .i64 m] w fun e w' => e = .returned (.bool b) ∧ w' = w := by
  by_cases h1 : l ≤ n
  · by_cases h2 : n ≤ m
    · have hb' : b = true := by rw [hb]; exact decide_eq_true ⟨h1, h2⟩
      subst hb'
      clear hb
      go_enter Try.func47, Try.ntmps47
      go_wp2
      go_ret
      exact ⟨rfl, rfl⟩
    · have hb' : b = false := by rw [hb]; exact decide_eq_false (fun h => h2 h.2)
      subst hb'
      clear hb
      go_enter Try.func47, Try.ntmps47
      go_wp2
      go_ret
      exact ⟨rfl, rfl⟩
  · have hb' : b = false := by rw [hb]; exact decide_eq_false (fun h => h1 h.1)
    subst hb'
    clear hb
    go_enter Try.func47, Try.ntmps47
    go_wp2
    go_ret
    exact ⟨rfl, rfl⟩
set_option maxRecDepth 20000 in
set_option maxHeartbeats 1600000 in
theorem check_c (w : World) (b r i t : Int) :
    Calls Try.prog 21 #[.agg #[.int .i64 b, .int .i64 r, .int .i64 i, .int .i64 t]] w fun e w' => (e = .returned (.int .i64 0) ∧ PlanOk b r i t ∨ e = .returned (.int .i64 82) ∧ ¬ PlanOk b r i t) ∧ Fr [] w w' := by
  by_cases c0 : 16 ≤ b ∧ b ≤ 65536
  case neg =>
    have E0 := hid (show decide (16 ≤ b ∧ b ≤ 65536) = false from decide_eq_false c0)
    have C := hid (show ¬ (16 ≤ b ∧ b ≤ 65536) from c0)
    clear c0
    go_enter Try.func21, Try.ntmps21
    go_wp2_with (go_at_call 47; refine (within_c _ _ _ _ _ rfl).mono ?_; rintro e w1 ⟨rfl, rfl⟩; first
      | rw [E0.out])
    go_ret
    refine ⟨?_, (Fr.refl _ _).alloc _⟩
    exact .inr ⟨rfl, fun h => C.out ⟨h.b0, h.b1⟩⟩
  by_cases c1 : 1 ≤ r ∧ r ≤ 64
  case neg =>
    have E0 := hid (show decide (16 ≤ b ∧ b ≤ 65536) = true from decide_eq_true c0)
    have E1 := hid (show decide (1 ≤ r ∧ r ≤ 64) = false from decide_eq_false c1)
    have C := hid (show (16 ≤ b ∧ b ≤ 65536) ∧ ¬ (1 ≤ r ∧ r ≤ 64) from ⟨c0, c1⟩)
    clear c0 c1
    go_enter Try.func21, Try.ntmps21
    go_wp2_with (go_at_call 47; refine (within_c _ _ _ _ _ rfl).mono ?_; rintro e w1 ⟨rfl, rfl⟩; first
      | rw [E0.out]
      | rw [E1.out])
    go_ret
    refine ⟨?_, (Fr.refl _ _).alloc _⟩
    exact .inr ⟨rfl, fun h => C.out.2 ⟨h.r0, h.r1⟩⟩
  by_cases c2 : 1 ≤ i ∧ i ≤ 64
  case neg =>
    have E0 := hid (show decide (16 ≤ b ∧ b ≤ 65536) = true from decide_eq_true c0)
    have E1 := hid (show decide (1 ≤ r ∧ r ≤ 64) = true from decide_eq_true c1)
    have E2 := hid (show decide (1 ≤ i ∧ i ≤ 64) = false from decide_eq_false c2)
    have C := hid (show (16 ≤ b ∧ b ≤ 65536) ∧ (1 ≤ r ∧ r ≤ 64) ∧ ¬ (1 ≤ i ∧ i ≤ 64) from ⟨c0, c1, c2⟩)
    clear c0 c1 c2
    go_enter Try.func21, Try.ntmps21
    go_wp2_with (go_at_call 47; refine (within_c _ _ _ _ _ rfl).mono ?_; rintro e w1 ⟨rfl, rfl⟩; first
      | rw [E0.out]
      | rw [E1.out]
      | rw [E2.out])
    go_ret
    refine ⟨?_, (Fr.refl _ _).alloc _⟩
    exact .inr ⟨rfl, fun h => C.out.2.2 ⟨h.i0, h.i1⟩⟩
  by_cases c3 : 16 ≤ t ∧ t ≤ 4194304
  case neg =>
    have E0 := hid (show decide (16 ≤ b ∧ b ≤ 65536) = true from decide_eq_true c0)
    have E1 := hid (show decide (1 ≤ r ∧ r ≤ 64) = true from decide_eq_true c1)
    have E2 := hid (show decide (1 ≤ i ∧ i ≤ 64) = true from decide_eq_true c2)
    have E3 := hid (show decide (16 ≤ t ∧ t ≤ 4194304) = false from decide_eq_false c3)
    have C := hid (show (16 ≤ b ∧ b ≤ 65536) ∧ (1 ≤ r ∧ r ≤ 64) ∧ (1 ≤ i ∧ i ≤ 64) ∧ ¬ (16 ≤ t ∧ t ≤ 4194304) from ⟨c0, c1, c2, c3⟩)
    clear c0 c1 c2 c3
    go_enter Try.func21, Try.ntmps21
    go_wp2_with (go_at_call 47; refine (within_c _ _ _ _ _ rfl).mono ?_; rintro e w1 ⟨rfl, rfl⟩; first
      | rw [E0.out]
      | rw [E1.out]
      | rw [E2.out]
      | rw [E3.out])
    go_ret
    refine ⟨?_, (Fr.refl _ _).alloc _⟩
    exact .inr ⟨rfl, fun h => C.out.2.2.2 ⟨h.t0, h.t1⟩⟩
  have E0 := hid (show decide (16 ≤ b ∧ b ≤ 65536) = true from decide_eq_true c0)
  have E1 := hid (show decide (1 ≤ r ∧ r ≤ 64) = true from decide_eq_true c1)
  have E2 := hid (show decide (1 ≤ i ∧ i ≤ 64) = true from decide_eq_true c2)
  have E3 := hid (show decide (16 ≤ t ∧ t ≤ 4194304) = true from decide_eq_true c3)
  have C := hid (show (16 ≤ b ∧ b ≤ 65536) ∧ (1 ≤ r ∧ r ≤ 64) ∧ (1 ≤ i ∧ i ≤ 64) ∧ (16 ≤ t ∧ t ≤ 4194304) from ⟨c0, c1, c2, c3⟩)
  clear c0 c1 c2 c3
  go_enter Try.func21, Try.ntmps21
  go_wp2_with (go_at_call 47; refine (within_c _ _ _ _ _ rfl).mono ?_; rintro e w1 ⟨rfl, rfl⟩; first
    | rw [E0.out]
    | rw [E1.out]
    | rw [E2.out]
    | rw [E3.out])
  go_ret
  refine ⟨?_, (Fr.refl _ _).alloc _⟩
  obtain ⟨⟨b0, b1⟩, ⟨r0, r1⟩, ⟨i0, i1⟩, ⟨t0, t1⟩⟩ := C.out
  exact .inl ⟨rfl, b0, b1, r0, r1, i0, i1, t0, t1⟩

set_option maxRecDepth 20000 in
set_option maxHeartbeats 1600000 in
theorem filling_c (w : World) {v : Value} {ps : Ps} (h : RdK w v ps) (hl : Lim ps) (most : Nat) (hm : most ≤ 100000) :
    Calls Try.prog 52 #[v, .int .i64 (most : Int)] w fun e w' => e = .returned (.int .i64 (fil most ps : Int)) ∧ Fr [] w w' := by
  obtain ⟨a, c, rfl, hc, k1⟩ := h
  have H1 := hid k1
  have hl0 := hl.n
  have HLT := hid hl.t
  clear k1 hl
  obtain ⟨n, hn⟩ : ∃ n, n = ps.length := ⟨_, rfl⟩
  have HN := hid hn
  have hfl : fil most ps = filF most ps n 0 := by rw [hn]; rfl
  have HFL := hid hfl
  rw [← hn] at hc hl0 ⊢
  clear hn hfl
  obtain ⟨z, hz⟩ : ∃ z, z = fil most ps := ⟨_, rfl⟩
  rw [← hz]
  have HZ := hid hz
  clear hz
  go_enter Try.func52, Try.ntmps52
  go_wp2_with fail
  go_loopw [5, 10] (fun v5 v10 wr => ∃ i : Nat, i ≤ n ∧ v10 = .int .i64 (i : Int) ∧ v5 = .int .i64 (tot ps i : Int) ∧ z = filF most ps (n - i) i ∧ Fr [] w wr) (fun _ v10 _ => n - (intOf v10).toNat)
  case atStart => exact ⟨0, Nat.zero_le _, rfl, rfl, by rw [HZ.out, HFL.out]; rfl, Fr.refl _ _⟩
  case round =>
    obtain ⟨i, hi, rfl, rfl, hzi, hf⟩ := hrel
    have HF := hid hf
    have htt1 : tot ps (i + 1) = tot ps i + (kA ps i).length + (vA ps i).length := rfl
    have HTT := hid htt1
    have HZI := hid hzi
    clear hf htt1 hzi
    by_cases hlt : i < n
    · have hil : i < ps.length := by rw [← HN.out]; exact hlt
      obtain ⟨b, off, rfl, m1⟩ := H1.out (by omega)
      obtain ⟨ka, kc, va, vc, P⟩ := m1 i _ (ps_at hil)
      have z1 := cell_fr HF.out P.ck
      have z2 := cell_fr HF.out P.cv
      have htl : tot ps (i + 1) ≤ 100000000 := Nat.le_trans (tot_le ps (i := i + 1) (j := ps.length) (by omega)) HLT.out
      have hrec : filF most ps (n - i) i = if most ≤ tot ps (i + 1) then i + 1 else filF most ps (n - (i + 1)) (i + 1) := by
        rw [show n - i = (n - (i + 1)) + 1 from by omega, filF]
      have HRC := hid hrec
      dsimp only at z1 z2
      rw [HTT.out] at htl
      clear P m1 hrec hil
      obtain ⟨tt, htt⟩ : ∃ tt, tt = tot ps i := ⟨_, rfl⟩
      obtain ⟨lk, hlk⟩ : ∃ lk, lk = (kA ps i).length := ⟨_, rfl⟩
      obtain ⟨lv, hlv⟩ : ∃ lv, lv = (vA ps i).length := ⟨_, rfl⟩
      have HT3 := hid (And.intro htt (And.intro hlk hlv))
      rw [← htt, ← hlk, ← hlv] at htl
      rw [← hlk] at z1
      rw [← hlv] at z2
      rw [← htt]
      clear htt hlk hlv
      by_cases hge : most ≤ tt + lk + lv
      · have hge' : (most : Int) ≤ (tt : Int) + ((lk : Int) + (lv : Int)) := by omega
        go_wp2
        go_ret
        refine ⟨?_, HF.out.alloc _⟩
        have : z = i + 1 := by rw [HZI.out, HRC.out, if_pos (by rw [HTT.out, ← HT3.out.1, ← HT3.out.2.1, ← HT3.out.2.2]; exact hge)]
        rw [this]; go_num
      · have hge' : ¬ (most : Int) ≤ (tt : Int) + ((lk : Int) + (lv : Int)) := by omega
        go_wp2
        go_roundw
        case rel => exact ⟨i + 1, by omega, by go_num, by rw [HTT.out, ← HT3.out.1, ← HT3.out.2.1, ← HT3.out.2.2]; go_num, by rw [HZI.out, HRC.out, if_neg (by rw [HTT.out, ← HT3.out.1, ← HT3.out.2.1, ← HT3.out.2.2]; exact hge)], HF.out.alloc _⟩
        case measure => simp [intOf]; omega
    · have hin : i = n := by omega
      subst hin
      go_wp2
      go_ret
      refine ⟨?_, HF.out⟩
      have : z = i := by rw [HZI.out, Nat.sub_self]; rfl
      rw [this]; rfl
end Go.Proofs.Ytobdegmlijnogaa
namespace Go.Proofs.Ytobdegmlijnogaa
open Go.ChangeShapes Go.WideShapes Go.ChangeAt Go.RowKit

/-- The world behind a Clone of bytes that lie in memory. -/
def cloneW (w : World) (ns : List Nat) : World :=
  if ns = [] then w.alloc (.cells #[] 5) else (w.alloc (.cells #[] 5)).drew.alloc (.cells (#[] ++ (bv ns).toArray ++ Builtin.zeroCells (Value.int .u8 0).cells (grownCap (w.alloc (.cells #[] 5)) (0 + ns.length) 0 5 - (0 + ns.length))) 5)
def cloneV (w : World) (ns : List Nat) : Value :=
  if ns = [] then .slice (some ⟨w.heap.size, 0, none⟩) 0 0 else .slice (some ⟨(w.alloc (.cells #[] 5)).heap.size, 0, none⟩) (0 + ns.length) (grownCap (w.alloc (.cells #[] 5)) (0 + ns.length) 0 5)

theorem clone_fr (w : World) (ns : List Nat) : Fr [] w (cloneW w ns) := by
  unfold cloneW
  split
  · exact (Fr.refl _ _).alloc _
  · exact (((Fr.refl _ _).alloc _).drew).alloc _
theorem clone_own (w : World) (ns : List Nat) (hl : ns.length ≤ 140737488355328) : (cloneW w ns).ownsRow w.heap.size 5 1 (cloneV w ns) ns.length (bv ns) := by
  unfold cloneW cloneV
  by_cases h : ns = []
  · rw [if_pos h, if_pos h, h]
    exact World.ownsRow_lit w #[] 0 (Nat.le_refl _) (by unfold maxLen; omega) rfl
  · rw [if_neg h, if_neg h, Nat.zero_add]
    have h1 := grownCap_ge (w.alloc (.cells #[] 5)) ns.length 0 5
    refine ⟨by rw [bv_len, Nat.mul_one], .inr ⟨_, _, _, rfl, by simp, blk_new _ _, h1, grownCap_le_maxLen _ _ _ _ (by unfold maxLen; omega), ?_, ?_⟩⟩
    · simp only [Array.size_append, size_zeroCells, Value.cells, List.size_toArray, bv_len]
      simp; omega
    · simp [bv_len]

set_option maxRecDepth 20000 in
set_option maxHeartbeats 400000 in
theorem clone_x {w : World} {q off c : Nat} {ns : List Nat} (hr : Rd w (.slice (some ⟨q, off, none⟩) ns.length c) (bv ns)) (hl : ns.length ≤ 140737488355328) :
    Calls Try.prog 31 #[.slice (some ⟨q, off, none⟩) ns.length c] w fun e w' => e = .returned (cloneV w ns) ∧ w' = cloneW w ns := by
  have heq := fun (w : World) (a : Option Addr) (n c : Nat) => Lib.run_eql_slice_nil (P := Try.prog) w 27 5 a n c 0 0 Try.underlying27
  obtain ⟨i0, hi, hz0, hz1, hz2⟩ := info_parts infoB
  by_cases h : ns = []
  · subst h
    have hV : cloneV w [] = .slice (some ⟨w.heap.size, 0, none⟩) 0 0 := rfl
    have hW : cloneW w [] = w.alloc (.cells #[] 5) := rfl
    rw [hV, hW]
    clear hr hV hW hi hz0 hz1 hz2
    go_enter Try.func31, Try.ntmps31
    go_wp2
    go_ret
    exact ⟨rfl, rfl⟩
  · have hpos : 0 < ns.length := List.length_pos_iff.2 h
    have hr' : Rd (w.alloc (.cells #[] 5)) (.slice (some ⟨q, off, none⟩) ns.length c) (bv ns) := hr.fr ((Fr.refl _ _).alloc _)
    have hnews : ∀ j v, (bv ns)[j]? = some v → (w.alloc (.cells #[] 5)).cell? ((⟨q, off, none⟩ : Addr).add j) = some v := by
      rcases hr' with ⟨e, _⟩ | ⟨a, c', e, _, h5⟩
      · cases e
      · simp only [Value.slice.injEq, Option.some.injEq] at e
        obtain ⟨rfl, _, _⟩ := e
        exact h5
    have hrun := fun ty => run_append_grow (P := Try.prog) (w.alloc (.cells #[] 5)) 27 ty 5 i0 (.int .u8 0) Try.underlying27 hi hz0 ⟨w.heap.size, 0, none⟩ 0 0 [] (by simp) (by simp) ⟨q, off, none⟩ ns.length c (bv ns) (by rw [bv_len, hz1, Nat.mul_one]) hnews (by omega) (by omega) (by rw [hz2, Nat.mul_one, Nat.zero_add, nextslicecap_zero hpos]; omega)
    have hV : cloneV w ns = .slice (some ⟨(w.alloc (.cells #[] 5)).heap.size, 0, none⟩) (0 + ns.length) (grownCap (w.alloc (.cells #[] 5)) (0 + ns.length) 0 5) := by unfold cloneV; rw [if_neg h]
    have hW : cloneW w ns = (w.alloc (.cells #[] 5)).drew.alloc (.cells (#[] ++ (bv ns).toArray ++ Builtin.zeroCells (Value.int .u8 0).cells (grownCap (w.alloc (.cells #[] 5)) (0 + ns.length) 0 5 - (0 + ns.length))) 5) := by unfold cloneW; rw [if_neg h]
    have hrun' : ∀ ty, (Builtin.append_ #[27, 27] ty #[.slice (some ⟨w.heap.size, 0, none⟩) 0 0, .slice (some ⟨q, off, none⟩) ns.length c]).run Try.prog (w.alloc (.cells #[] 5)) = .ok (cloneV w ns) (cloneW w ns) := fun ty => by
      rw [hV, hW]; exact hrun ty
    clear hr hr' hnews hrun hV hW hi hz0 hz1 hz2 h
    go_enter Try.func31, Try.ntmps31
    go_wp2_with (at_builtin; refine Lib.wpList_append_run _ rfl _ _ _ _ rfl _ _ rfl rfl _ _ (hrun' _) ?_)
    go_ret
    exact ⟨rfl, rfl⟩
end Go.Proofs.Ytobdegmlijnogaa
namespace Go.Proofs.Ytobdegmlijnogaa
open Go.ChangeShapes Go.WideShapes Go.ChangeAt Go.RowKit

theorem results_tmp4 {fn : Func} {p q r s : Tmp} (h : fn.results = #[.tmp p, .tmp q, .tmp r, .tmp s]) (tmps : Array Value) (P : Program) (w : World) :
    (results fn tmps).run P w = .ok (.tuple #[tmps.getD p undef, tmps.getD q undef, tmps.getD r undef, tmps.getD s undef]) w := by
  simp only [results, h]
  simp

set_option maxRecDepth 20000 in
set_option maxHeartbeats 400000 in
theorem Split_no (w : World) {v : Value} {b : List Nat} (hr : Rd w v (bv b)) (hb : By b) (hl : b.length ≤ 140737488355328) (h : isK b = false) :
    Calls Try.prog 36 #[v] w fun e w' => e = .returned (.tuple #[.slice none 0 0, .int .u64 0, .int .i64 0, .int .i64 23]) ∧ Fr [] w w' := by
  have HS := hid (split_no w hr hb hl h)
  obtain ⟨a, c, hv⟩ := hr.form
  subst hv
  clear hr hb h
  go_enter Try.func36, Try.ntmps36
  go_wp2_with fail
  refine HS.out.mono ?_
  rintro e w1 ⟨rfl, f1⟩
  go_wp2
  exact bodyPost_ret (results_tmp4 rfl _ _ _) rfl ⟨rfl, f1.alloc _⟩

set_option maxRecDepth 20000 in
set_option maxHeartbeats 4000000 in
theorem Split_yes (w : World) {v : Value} {b : List Nat} (hr : Rd w v (bv b)) (hb : By b) (h : isK b = true) :
    Calls Try.prog 36 #[v] w fun e w' => ∃ v', e = .returned (.tuple #[v', .int .u64 ((tailN b / 256 : Nat) : Int), .int .i64 ((tailN b % 256 : Nat) : Int), .int .i64 0]) ∧ w'.ownsRow w.heap.size 5 1 v' (userL b).length (bv (userL b)) ∧ Fr [] w w' := by
  have hk := isK_len h
  obtain ⟨q, off, c, rfl, h1⟩ := hr.place (by omega)
  have hs0 := split_yes w hr hb h1 h
  have hr0 := hr.front (q := b.length - 8) (by omega)
  obtain ⟨s, hs⟩ : ∃ s, s = tailN b / 256 := ⟨_, rfl⟩
  obtain ⟨g, hg⟩ : ∃ g, g = tailN b % 256 := ⟨_, rfl⟩
  obtain ⟨u, hu⟩ : ∃ u, u = b.take (b.length - 8) := ⟨_, rfl⟩
  have hul : b.length - 8 = u.length := by rw [hu, List.length_take]; omega
  have hlen : u.length ≤ 140737488355328 := by omega
  rw [← hs, ← hg, hul] at hs0
  rw [← hu, hul] at hr0
  rw [← hs, ← hg, show userL b = u from hu.symm]
  have HS := hid hs0
  have HR := hid hr0
  clear hr hb h hs hg hs0 hr0 hu hul
  go_enter Try.func36, Try.ntmps36
  go_wp2_with fail
  refine HS.out.mono ?_
  rintro e w1 ⟨rfl, f1⟩
  have F1 := hid f1
  clear f1
  have A1 : Hid (Fr [] w (w1.alloc (.cells #[.slice (some ⟨q, off, none⟩) u.length c, .int .u64 (s : Int), .int .i64 (g : Int)] 94)).drew) := (F1.out.alloc _).drew
  have A2 := hid (HR.out.fr A1.out)
  have A3 : Hid ((w1.alloc (.cells #[.slice (some ⟨q, off, none⟩) u.length c, .int .u64 (s : Int), .int .i64 (g : Int)] 94)).drew.heap[w1.heap.size]? = some (.cells #[.slice (some ⟨q, off, none⟩) u.length c, .int .u64 (s : Int), .int .i64 (g : Int)] 94 (0, 0))) := by
    unfold Hid; rw [blk_drew]; exact blk_new w1 _
  have HCL := hid (clone_x A2.out hlen)
  have O2 := hid (ownsRow_base (clone_own (w1.alloc (.cells #[.slice (some ⟨q, off, none⟩) u.length c, .int .u64 (s : Int), .int .i64 (g : Int)] 94)).drew u hlen) A1.out.size)
  have f2 := clone_fr (w1.alloc (.cells #[.slice (some ⟨q, off, none⟩) u.length c, .int .u64 (s : Int), .int .i64 (g : Int)] 94)).drew u
  generalize cloneW (w1.alloc (.cells #[.slice (some ⟨q, off, none⟩) u.length c, .int .u64 (s : Int), .int .i64 (g : Int)] 94)).drew u = W2 at HCL O2 f2
  generalize cloneV (w1.alloc (.cells #[.slice (some ⟨q, off, none⟩) u.length c, .int .u64 (s : Int), .int .i64 (g : Int)] 94)).drew u = v2 at HCL O2
  have kb := f2.at A3.out (by simp)
  have k1 : W2.cell? ⟨w1.heap.size, 1, none⟩ = some (.int .u64 (s : Int)) := by rw [blk_cell kb]; rfl
  have k2 : W2.cell? ⟨w1.heap.size, 2, none⟩ = some (.int .i64 (g : Int)) := by rw [blk_cell kb]; rfl
  have F2 := hid (A1.out.trans f2)
  obtain ⟨a2, c2, hv2, _⟩ := ownsRow_slice O2.out
  subst hv2
  clear kb f2
  go_wp2_with fail
  go_region_with (
    go_at_call 31
    go_must (
    refine HCL.out.mono ?_
    rintro e w2 ⟨rfl, rfl⟩))
  all_goals go_wp2
  all_goals exact bodyPost_ret (results_tmp4 rfl _ _ _) rfl ⟨_, rfl, O2.out, F2.out⟩
end Go.Proofs.Ytobdegmlijnogaa
