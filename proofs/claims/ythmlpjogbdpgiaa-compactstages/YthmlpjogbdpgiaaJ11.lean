/-
  What bytes.Clone answers, to the very world: so that it doesn't matter ahead of which reads it is called.
-/
import Derived.Test.YthmlpjogbdpgiaaJ04
import Derived.Test.YthmlpjogbdpgiaaJ05
import Derived.Deep.RegionLaw
import Derived.Test.YthmlpjogbdpgiaaJ10
namespace Go.Proofs.Ythmlpjogbdpgiaa
open Go.ChangeShapes Go.WideShapes Go.ChangeAt Go.RowKit

/-- The world behind a Clone of bytes that lie in memory. -/
def cloneW (w : World) (ns : List Nat) : World :=
  if ns = [] then w.alloc (.cells #[] 5) else (w.alloc (.cells #[] 5)).drew.alloc (.cells (#[] ++ (bv ns).toArray ++ Builtin.zeroCells (Value.int .u8 0).cells (grownCap (w.alloc (.cells #[] 5)) (0 + ns.length) 0 5 - (0 + ns.length))) 5)
def cloneV (w : World) (ns : List Nat) : Value :=
  if ns = [] then .slice (some ⟨w.heap.size, 0, none⟩) 0 0 else .slice (some ⟨(w.alloc (.cells #[] 5)).heap.size, 0, none⟩) (0 + ns.length) (grownCap (w.alloc (.cells #[] 5)) (0 + ns.length) 0 5)

theorem clone_fr (w : World) (ns : List Nat) : Fr [] w (cloneW w ns) := by
  unfold cloneW
  split
  · exact (Fr.refl _ _).alloc _
  · exact (((Fr.refl _ _).alloc _).drew).alloc _
theorem clone_own (w : World) (ns : List Nat) (hl : ns.length ≤ 140737488355328) : (cloneW w ns).ownsRow w.heap.size 5 1 (cloneV w ns) ns.length (bv ns) := by
  unfold cloneW cloneV
  by_cases h : ns = []
  · rw [if_pos h, if_pos h, h]
    exact World.ownsRow_lit w #[] 0 (Nat.le_refl _) (by unfold maxLen; omega) rfl
  · rw [if_neg h, if_neg h, Nat.zero_add]
    have h1 := grownCap_ge (w.alloc (.cells #[] 5)) ns.length 0 5
    refine ⟨by rw [bv_len, Nat.mul_one], .inr ⟨_, _, _, rfl, by simp, blk_new _ _, h1, grownCap_le_maxLen _ _ _ _ (by unfold maxLen; omega), ?_, ?_⟩⟩
    · simp only [Array.size_append, size_zeroCells, Value.cells, List.size_toArray, bv_len]
      simp; omega
    · simp [bv_len]

set_option maxRecDepth 20000 in
set_option maxHeartbeats 400000 in
theorem clone_x {w : World} {q off c : Nat} {ns : List Nat} (hr : Rd w (.slice (some ⟨q, off, none⟩) ns.length c) (bv ns)) (hl : ns.length ≤ 140737488355328) :
    Calls Try.prog 33 #[.slice (some ⟨q, off, none⟩) ns.length c] w fun e w' => e = .returned (cloneV w ns) ∧ w' = cloneW w ns := by
  have heq := fun (w : World) (a : Option Addr) (n c : Nat) => Lib.run_eql_slice_nil (P := Try.prog) w 35 5 a n c 0 0 Try.underlying35
  obtain ⟨i0, hi, hz0, hz1, hz2⟩ := info_parts infoB
  by_cases h : ns = []
  · subst h
    have hV : cloneV w [] = .slice (some ⟨w.heap.size, 0, none⟩) 0 0 := rfl
    have hW : cloneW w [] = w.alloc (.cells #[] 5) := rfl
    rw [hV, hW]
    clear hr hV hW hi hz0 hz1 hz2
    go_enter Try.func33, Try.ntmps33
    go_wp2
    go_ret
    exact ⟨rfl, rfl⟩
  · have hpos : 0 < ns.length := List.length_pos_iff.2 h
    have hr' : Rd (w.alloc (.cells #[] 5)) (.slice (some ⟨q, off, none⟩) ns.length c) (bv ns) := hr.fr ((Fr.refl _ _).alloc _)
    have hnews : ∀ j v, (bv ns)[j]? = some v → (w.alloc (.cells #[] 5)).cell? ((⟨q, off, none⟩ : Addr).add j) = some v := by
      rcases hr' with ⟨e, _⟩ | ⟨a, c', e, _, h5⟩
      · cases e
      · simp only [Value.slice.injEq, Option.some.injEq] at e
        obtain ⟨rfl, _, _⟩ := e
        exact h5
    have hrun := fun ty => run_append_grow (P := Try.prog) (w.alloc (.cells #[] 5)) 35 ty 5 i0 (.int .u8 0) Try.underlying35 hi hz0 ⟨w.heap.size, 0, none⟩ 0 0 [] (by simp) (by simp) ⟨q, off, none⟩ ns.length c (bv ns) (by rw [bv_len, hz1, Nat.mul_one]) hnews (by omega) (by omega) (by rw [hz2, Nat.mul_one, Nat.zero_add, nextslicecap_zero hpos]; omega)
    have hV : cloneV w ns = .slice (some ⟨(w.alloc (.cells #[] 5)).heap.size, 0, none⟩) (0 + ns.length) (grownCap (w.alloc (.cells #[] 5)) (0 + ns.length) 0 5) := by unfold cloneV; rw [if_neg h]
    have hW : cloneW w ns = (w.alloc (.cells #[] 5)).drew.alloc (.cells (#[] ++ (bv ns).toArray ++ Builtin.zeroCells (Value.int .u8 0).cells (grownCap (w.alloc (.cells #[] 5)) (0 + ns.length) 0 5 - (0 + ns.length))) 5) := by unfold cloneW; rw [if_neg h]
    have hrun' : ∀ ty, (Builtin.append_ #[35, 35] ty #[.slice (some ⟨w.heap.size, 0, none⟩) 0 0, .slice (some ⟨q, off, none⟩) ns.length c]).run Try.prog (w.alloc (.cells #[] 5)) = .ok (cloneV w ns) (cloneW w ns) := fun ty => by
      rw [hV, hW]; exact hrun ty
    clear hr hr' hnews hrun hV hW hi hz0 hz1 hz2 h
    go_enter Try.func33, Try.ntmps33
    go_wp2_with (at_builtin; refine Lib.wpList_append_run _ rfl _ _ _ _ rfl _ _ rfl rfl _ _ (hrun' _) ?_)
    go_ret
    exact ⟨rfl, rfl⟩
end Go.Proofs.Ythmlpjogbdpgiaa
namespace Go.Proofs.Ythmlpjogbdpgiaa
open Go.ChangeShapes Go.WideShapes Go.ChangeAt Go.RowKit

theorem results_tmp4 {fn : Func} {p q r s : Tmp} (h : fn.results = #[.tmp p, .tmp q, .tmp r, .tmp s]) (tmps : Array Value) (P : Program) (w : World) :
    (results fn tmps).run P w = .ok (.tuple #[tmps.getD p undef, tmps.getD q undef, tmps.getD r undef, tmps.getD s undef]) w := by
  simp only [results, h]
  simp

set_option maxRecDepth 20000 in
set_option maxHeartbeats 400000 in
theorem Split_no (w : World) {v : Value} {b : List Nat} (hr : Rd w v (bv b)) (hb : By b) (hl : b.length ≤ 140737488355328) (h : isK b = false) :
    Calls Try.prog 31 #[v] w fun e w' => e = .returned (.tuple #[.slice none 0 0, .int .u64 0, .int .i64 0, .int .i64 23]) ∧ Fr [] w w' := by
  have HS := hid (split_no w hr hb hl h)
  obtain ⟨a, c, hv⟩ := hr.form
  subst hv
  clear hr hb h
  go_enter Try.func31, Try.ntmps31
  go_wp2_with fail
  refine HS.out.mono ?_
  rintro e w1 ⟨rfl, f1⟩
  go_wp2
  exact bodyPost_ret (results_tmp4 rfl _ _ _) rfl ⟨rfl, f1.alloc _⟩

set_option maxRecDepth 20000 in
set_option maxHeartbeats 4000000 in
theorem Split_yes (w : World) {v : Value} {b : List Nat} (hr : Rd w v (bv b)) (hb : By b) (h : isK b = true) :
    Calls Try.prog 31 #[v] w fun e w' => ∃ v', e = .returned (.tuple #[v', .int .u64 ((tailN b / 256 : Nat) : Int), .int .i64 ((tailN b % 256 : Nat) : Int), .int .i64 0]) ∧ w'.ownsRow w.heap.size 5 1 v' (userL b).length (bv (userL b)) ∧ Fr [] w w' := by
  have hk := isK_len h
  obtain ⟨q, off, c, rfl, h1⟩ := hr.place (by omega)
  have hs0 := split_yes w hr hb h1 h
  have hr0 := hr.front (q := b.length - 8) (by omega)
  obtain ⟨s, hs⟩ : ∃ s, s = tailN b / 256 := ⟨_, rfl⟩
  obtain ⟨g, hg⟩ : ∃ g, g = tailN b % 256 := ⟨_, rfl⟩
  obtain ⟨u, hu⟩ : ∃ u, u = b.take (b.length - 8) := ⟨_, rfl⟩
  have hul : b.length - 8 = u.length := by rw [hu, List.length_take]; omega
  have hlen : u.length ≤ 140737488355328 := by omega
  rw [← hs, ← hg, hul] at hs0
  rw [← hu, hul] at hr0
  rw [← hs, ← hg, show userL b = u from hu.symm]
  have HS := hid hs0
  have HR := hid hr0
  clear hr hb h hs hg hs0 hr0 hu hul
  go_enter Try.func31, Try.ntmps31
  go_wp2_with fail
  refine HS.out.mono ?_
  rintro e w1 ⟨rfl, f1⟩
  have F1 := hid f1
  clear f1
  have A1 : Hid (Fr [] w (w1.alloc (.cells #[.slice (some ⟨q, off, none⟩) u.length c, .int .u64 (s : Int), .int .i64 (g : Int)] 86)).drew) := (F1.out.alloc _).drew
  have A2 := hid (HR.out.fr A1.out)
  have A3 : Hid ((w1.alloc (.cells #[.slice (some ⟨q, off, none⟩) u.length c, .int .u64 (s : Int), .int .i64 (g : Int)] 86)).drew.heap[w1.heap.size]? = some (.cells #[.slice (some ⟨q, off, none⟩) u.length c, .int .u64 (s : Int), .int .i64 (g : Int)] 86 (0, 0))) := by
    unfold Hid; rw [blk_drew]; exact blk_new w1 _
  have HCL := hid (clone_x A2.out hlen)
  have O2 := hid (ownsRow_base (clone_own (w1.alloc (.cells #[.slice (some ⟨q, off, none⟩) u.length c, .int .u64 (s : Int), .int .i64 (g : Int)] 86)).drew u hlen) A1.out.size)
  have f2 := clone_fr (w1.alloc (.cells #[.slice (some ⟨q, off, none⟩) u.length c, .int .u64 (s : Int), .int .i64 (g : Int)] 86)).drew u
  generalize cloneW (w1.alloc (.cells #[.slice (some ⟨q, off, none⟩) u.length c, .int .u64 (s : Int), .int .i64 (g : Int)] 86)).drew u = W2 at HCL O2 f2
  generalize cloneV (w1.alloc (.cells #[.slice (some ⟨q, off, none⟩) u.length c, .int .u64 (s : Int), .int .i64 (g : Int)] 86)).drew u = v2 at HCL O2
  have kb := f2.at A3.out (by simp)
  have k1 : W2.cell? ⟨w1.heap.size, 1, none⟩ = some (.int .u64 (s : Int)) := by rw [blk_cell kb]; rfl
  have k2 : W2.cell? ⟨w1.heap.size, 2, none⟩ = some (.int .i64 (g : Int)) := by rw [blk_cell kb]; rfl
  have F2 := hid (A1.out.trans f2)
  obtain ⟨a2, c2, hv2, _⟩ := ownsRow_slice O2.out
  subst hv2
  clear kb f2
  go_wp2_with fail
  go_region_with (
    go_at_call 33
    go_must (
    refine HCL.out.mono ?_
    rintro e w2 ⟨rfl, rfl⟩))
  all_goals go_wp2
  all_goals exact bodyPost_ret (results_tmp4 rfl _ _ _) rfl ⟨_, rfl, O2.out, F2.out⟩
end Go.Proofs.Ythmlpjogbdpgiaa
namespace Go.Proofs.Ythmlpjogbdpgiaa
open Go.ChangeShapes Go.WideShapes Go.ChangeAt Go.RowKit

end Go.Proofs.Ythmlpjogbdpgiaa
namespace Go.Proofs.Ythmlpjogbdpgiaa
open Go.ChangeShapes Go.WideShapes Go.ChangeAt Go.RowKit

theorem not_rises {ps : Ps} {i : Nat} (h : i < ps.length) (hf : flw (ahd ps i) (kA ps i) = false) : ¬ Rises ps := fun hr => by rw [hr i h] at hf; cases hf

end Go.Proofs.Ythmlpjogbdpgiaa
namespace Go.Proofs.Ythmlpjogbdpgiaa
open Go.ChangeShapes Go.WideShapes Go.ChangeAt Go.RowKit

theorem own_not {w : World} {B s n : Nat} {e T : TypeId} {v : Value} {xs : List Value} (h : w.ownsRow B e s v n xs) {N : Nat} {cs : Array Value} (hN : w.heap[N]? = some (.cells cs T (0, 0))) (hne : T ≠ e) : v.ownBlock ≠ some N := by
  intro hk
  rcases h.2 with ⟨rfl, _⟩ | ⟨g, cap, cur, rfl, _, h3, _⟩
  · simp [Value.ownBlock] at hk
  · simp [Value.ownBlock] at hk
    subst hk
    rw [h3] at hN
    simp at hN
    exact hne hN.2.symm
/-- A row of the call's own that grows: what else is there stays. -/
structure Gro (w w' : World) (B : Nat) (v v' : Value) (xs : List Nat) : Prop where
  own : w'.ownsRow B 5 1 v' xs.length (bv xs)
  fr : Fr v.ownBlock.toList w w'
  blk : v'.ownBlock = v.ownBlock ∨ ∀ k, v'.ownBlock = some k → w.heap.size ≤ k
theorem Gro.refl {w : World} {B : Nat} {v : Value} {xs : List Nat} (h : w.ownsRow B 5 1 v xs.length (bv xs)) : Gro w w B v v xs := ⟨h, Fr.refl _ _, .inl rfl⟩
theorem Gro.quiet {w w1 w2 : World} {B : Nat} {v v1 : Value} {xs : List Nat} (h : Gro w w1 B v v1 xs) (f : Fr [] w1 w2) : Gro w w2 B v v1 xs :=
  ⟨ownsRow_fr h.own f, h.fr.trans (f.mono (by simp)), h.blk⟩
theorem Gro.grow {w w1 w2 : World} {B : Nat} {v v1 v2 : Value} {xs ys : List Nat} (h : Gro w w1 B v v1 xs) (o : w2.ownsRow B 5 1 v2 ys.length (bv ys)) (g : w1.grownBy w2 v1.ownBlock) (q : v2.ownBlock = v1.ownBlock ∨ v2.ownBlock = some w1.heap.size) : Gro w w2 B v v2 ys := by
  refine ⟨o, h.fr.grown g ?_, ?_⟩
  · intro k hk
    rcases h.blk with e | e
    · left; rw [← e, hk]; simp
    · right; exact e k hk
  · rcases q with q | q
    · rw [q]; exact h.blk
    · right
      intro k hk
      rw [q] at hk
      simp at hk
      have := h.fr.size
      omega
theorem Gro.at {w w1 : World} {B : Nat} {v v1 : Value} {xs ys : List Nat} (h : Gro w w1 B v v1 xs) (o : w.ownsRow B 5 1 v ys.length (bv ys)) {N : Nat} {cs : Array Value} {T : TypeId} (hN : w.heap[N]? = some (.cells cs T (0, 0))) (hne : T ≠ 5) : w1.heap[N]? = some (.cells cs T (0, 0)) := by
  refine h.fr.at hN ?_
  intro hm
  rw [Option.mem_toList] at hm
  exact own_not o hN hne hm
def n3 (s t z j : Nat) : Nat := if j = 0 then s else if j = 1 then t else z
def p3 (s t z : Nat) : Nat → List Nat
  | 0 => []
  | j + 1 => p3 s t z j ++ putL (n3 s t z j)
theorem p3_len {s t z : Nat} (hs : s < 18446744073709551616) (ht : t < 18446744073709551616) (hz : z < 18446744073709551616) : ∀ j, (p3 s t z j).length ≤ 10 * j
  | 0 => by simp [p3]
  | j + 1 => by
    have h1 := p3_len hs ht hz j
    have h2 : (putL (n3 s t z j)).length ≤ 10 := putL_len10 (by unfold n3; split; exact hs; split; exact ht; exact hz)
    rw [p3, List.length_append]; omega
theorem p3_three (s t z : Nat) : p3 s t z 3 = putL s ++ (putL t ++ putL z) := by simp [p3, n3]
theorem Gro.old {w0 w w1 : World} {B : Nat} {v v1 : Value} {xs ys : List Nat} (h : Gro w w1 B v v1 xs) (o : w.ownsRow B 5 1 v ys.length (bv ys)) (f : Fr [] w0 w) (hB : w0.heap.size ≤ B) : Fr [] w0 w1 := by
  refine ((f.mono (S' := v.ownBlock.toList) (by simp)).trans h.fr).shed ?_
  intro k hk hlt
  rw [Option.mem_toList] at hk
  have := (o.lt k hk).1
  omega
theorem Gro.trans {w w1 w2 : World} {B : Nat} {v v1 v2 : Value} {xs ys : List Nat} (h : Gro w w1 B v v1 xs) (h' : Gro w1 w2 B v1 v2 ys) : Gro w w2 B v v2 ys := by
  refine ⟨h'.own, ?_, ?_⟩
  · refine ⟨h'.fr.os.trans h.fr.os, h'.fr.tape.trans h.fr.tape, h'.fr.output.trans h.fr.output, Nat.le_trans h.fr.size h'.fr.size, fun k hk hn => ?_⟩
    rw [h'.fr.block k (Nat.lt_of_lt_of_le hk h.fr.size) ?_, h.fr.block k hk hn]
    intro hm
    rw [Option.mem_toList] at hm
    rcases h.blk with e | e
    · exact hn (by rw [Option.mem_toList, ← e]; exact hm)
    · have := e k hm; omega
  · rcases h'.blk with e | e
    · rw [e]; exact h.blk
    · right; intro k hk; have := e k hk; have := h.fr.size; omega

end Go.Proofs.Ythmlpjogbdpgiaa
namespace Go.Proofs.Ythmlpjogbdpgiaa
open Go.ChangeShapes Go.WideShapes Go.ChangeAt Go.RowKit

/-- What Build holds ahead of its i-th entry: the entries so far, the places so far, the key ahead. -/
structure BI (w wr : World) (r : Nat) (ps : Ps) (i : Nat) (v6 v7 v8 : Value) : Prop where
  ob : wr.ownsRow w.heap.size 5 1 v6 (bod r ps i).length (bv (bod r ps i))
  op : wr.ownsRow w.heap.size 5 1 v7 (plc r ps i).length (bv (plc r ps i))
  dis : ∀ k, v6.ownBlock = some k → v7.ownBlock ≠ some k
  ah : Rd w v8 (bv (ahd ps i))
  fr : Fr [] w wr
end Go.Proofs.Ythmlpjogbdpgiaa
namespace Go.Proofs.Ythmlpjogbdpgiaa
open Go.ChangeShapes Go.WideShapes Go.ChangeAt Go.RowKit

theorem results_tmp4' {fn : Func} {p q r s : Tmp} (h : fn.results = #[.tmp p, .tmp q, .tmp r, .tmp s]) (tmps : Array Value) (P : Program) (w : World) :
    (results fn tmps).run P w = .ok (.tuple #[tmps.getD p undef, tmps.getD q undef, tmps.getD r undef, tmps.getD s undef]) w := by
  simp only [results, h]
  simp

theorem take8 (b : List Nat) : (b.drop (b.length - 8)).take 8 = b.drop (b.length - 8) := List.take_of_length_le (by rw [List.length_drop]; omega)

set_option maxRecDepth 20000 in
set_option maxHeartbeats 800000 in
theorem refsplit_no (w : World) {v : Value} {b : List Nat} (hr : Rd w v (bv b)) (hb : By b) (hl : b.length ≤ 140737488355328) (h : isK b = false) :
    Calls Try.prog 20 #[v] w fun e w' => e = .returned (.tuple #[.slice none 0 0, .int .u64 0, .int .i64 0, .int .i64 23]) ∧ w' = w := by
  rcases (show b.length < 8 ∨ 136 < b.length ∨ (8 ≤ b.length ∧ b.length ≤ 136) from by omega) with q1 | q1 | ⟨q1, q2⟩
  · obtain ⟨a, c, hv⟩ := hr.form
    rw [bv_len] at hv
    subst hv
    clear hr hb h
    go_enter Try.func20, Try.ntmps20
    go_wp2
    exact bodyPost_ret (results_tmp4' rfl _ _ _) rfl ⟨rfl, rfl⟩
  · obtain ⟨a, c, hv⟩ := hr.form
    rw [bv_len] at hv
    subst hv
    clear hr hb h
    go_enter Try.func20, Try.ntmps20
    go_wp2
    exact bodyPost_ret (results_tmp4' rfl _ _ _) rfl ⟨rfl, rfl⟩
  · obtain ⟨qq, off, c, hv, h1⟩ := hr.place (by omega)
    subst hv
    have hf := refunfixed_c hr hb (b.length - 8) 8 (by omega) (by omega) hl
    rw [take8, show unf (b.drop (b.length - 8)) = tailN b from rfl, show ((b.length - 8 : Nat) : Int) = (b.length : Int) - 8 from by omega] at hf
    have ht1 := tailN_lt hb q1
    have ht2 : 1 < tailN b % 256 := by
      unfold isK at h
      rw [decide_eq_true q1, decide_eq_true q2, Bool.true_and, Bool.true_and, decide_eq_false_iff_not] at h
      have : ¬ tailN b % 256 ≤ 1 := h
      omega
    generalize tailN b = t at hf ht1 ht2
    have HF := hid hf
    clear hr hb h hf
    go_enter Try.func20, Try.ntmps20
    go_wp2_with fail
    refine HF.out.mono ?_
    rintro e w1 ⟨rfl, rfl⟩
    go_wp2
    exact bodyPost_ret (results_tmp4' rfl _ _ _) rfl ⟨rfl, rfl⟩

set_option maxRecDepth 20000 in
set_option maxHeartbeats 800000 in
theorem refsplit_yes (w : World) {q off c : Nat} {b : List Nat} (hr : Rd w (.slice (some ⟨q, off, none⟩) b.length c) (bv b)) (hb : By b) (h1 : b.length ≤ c) (h : isK b = true) :
    Calls Try.prog 20 #[.slice (some ⟨q, off, none⟩) b.length c] w fun e w' => e = .returned (.tuple #[.slice (some ⟨q, off, none⟩) (b.length - 8) c, .int .u64 ((tailN b / 256 : Nat) : Int), .int .i64 ((tailN b % 256 : Nat) : Int), .int .i64 0]) ∧ w' = w := by
  obtain ⟨k1, k2, k3⟩ := isK_len h
  have hf := refunfixed_c hr hb (b.length - 8) 8 (by omega) (by omega) (by omega)
  rw [take8, show unf (b.drop (b.length - 8)) = tailN b from rfl, show ((b.length - 8 : Nat) : Int) = (b.length : Int) - 8 from by omega] at hf
  have ht1 := tailN_lt hb k1
  generalize tailN b = t at hf ht1 k3 ⊢
  have HF := hid hf
  clear hr hb h hf
  go_enter Try.func20, Try.ntmps20
  go_wp2_with fail
  refine HF.out.mono ?_
  rintro e w1 ⟨rfl, rfl⟩
  go_wp2
  refine bodyPost_ret (results_tmp4' rfl _ _ _) rfl ⟨?_, rfl⟩
  rw [show ((t / 256 : Nat) : Int) = (t : Int) / 256 from by omega, show ((t % 256 : Nat) : Int) = (t : Int) % 256 from by omega]
  rfl
end Go.Proofs.Ythmlpjogbdpgiaa
