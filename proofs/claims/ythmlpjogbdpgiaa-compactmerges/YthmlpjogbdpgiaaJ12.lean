/-
  Package block: appendEntry.
-/
import Derived.Test.YthmlpjogbdpgiaaJ11
import Derived.Test.YthmlpjogbdpgiaaJ06
namespace Go.Proofs.Ythmlpjogbdpgiaa
open Go.ChangeShapes Go.WideShapes Go.ChangeAt Go.RowKit

theorem own_not {w : World} {B s n : Nat} {e T : TypeId} {v : Value} {xs : List Value} (h : w.ownsRow B e s v n xs) {N : Nat} {cs : Array Value} (hN : w.heap[N]? = some (.cells cs T (0, 0))) (hne : T ≠ e) : v.ownBlock ≠ some N := by
  intro hk
  rcases h.2 with ⟨rfl, _⟩ | ⟨g, cap, cur, rfl, _, h3, _⟩
  · simp [Value.ownBlock] at hk
  · simp [Value.ownBlock] at hk
    subst hk
    rw [h3] at hN
    simp at hN
    exact hne hN.2.symm
/-- A row of the call's own that grows: what else is there stays. -/
structure Gro (w w' : World) (B : Nat) (v v' : Value) (xs : List Nat) : Prop where
  own : w'.ownsRow B 5 1 v' xs.length (bv xs)
  fr : Fr v.ownBlock.toList w w'
  blk : v'.ownBlock = v.ownBlock ∨ ∀ k, v'.ownBlock = some k → w.heap.size ≤ k
theorem Gro.refl {w : World} {B : Nat} {v : Value} {xs : List Nat} (h : w.ownsRow B 5 1 v xs.length (bv xs)) : Gro w w B v v xs := ⟨h, Fr.refl _ _, .inl rfl⟩
theorem Gro.quiet {w w1 w2 : World} {B : Nat} {v v1 : Value} {xs : List Nat} (h : Gro w w1 B v v1 xs) (f : Fr [] w1 w2) : Gro w w2 B v v1 xs :=
  ⟨ownsRow_fr h.own f, h.fr.trans (f.mono (by simp)), h.blk⟩
theorem Gro.grow {w w1 w2 : World} {B : Nat} {v v1 v2 : Value} {xs ys : List Nat} (h : Gro w w1 B v v1 xs) (o : w2.ownsRow B 5 1 v2 ys.length (bv ys)) (g : w1.grownBy w2 v1.ownBlock) (q : v2.ownBlock = v1.ownBlock ∨ v2.ownBlock = some w1.heap.size) : Gro w w2 B v v2 ys := by
  refine ⟨o, h.fr.grown g ?_, ?_⟩
  · intro k hk
    rcases h.blk with e | e
    · left; rw [← e, hk]; simp
    · right; exact e k hk
  · rcases q with q | q
    · rw [q]; exact h.blk
    · right
      intro k hk
      rw [q] at hk
      simp at hk
      have := h.fr.size
      omega
theorem Gro.at {w w1 : World} {B : Nat} {v v1 : Value} {xs ys : List Nat} (h : Gro w w1 B v v1 xs) (o : w.ownsRow B 5 1 v ys.length (bv ys)) {N : Nat} {cs : Array Value} {T : TypeId} (hN : w.heap[N]? = some (.cells cs T (0, 0))) (hne : T ≠ 5) : w1.heap[N]? = some (.cells cs T (0, 0)) := by
  refine h.fr.at hN ?_
  intro hm
  rw [Option.mem_toList] at hm
  exact own_not o hN hne hm
def n3 (s t z j : Nat) : Nat := if j = 0 then s else if j = 1 then t else z
def p3 (s t z : Nat) : Nat → List Nat
  | 0 => []
  | j + 1 => p3 s t z j ++ putL (n3 s t z j)
theorem p3_len {s t z : Nat} (hs : s < 18446744073709551616) (ht : t < 18446744073709551616) (hz : z < 18446744073709551616) : ∀ j, (p3 s t z j).length ≤ 10 * j
  | 0 => by simp [p3]
  | j + 1 => by
    have h1 := p3_len hs ht hz j
    have h2 : (putL (n3 s t z j)).length ≤ 10 := putL_len10 (by unfold n3; split; exact hs; split; exact ht; exact hz)
    rw [p3, List.length_append]; omega
theorem p3_three (s t z : Nat) : p3 s t z 3 = putL s ++ (putL t ++ putL z) := by simp [p3, n3]
theorem Gro.old {w0 w w1 : World} {B : Nat} {v v1 : Value} {xs ys : List Nat} (h : Gro w w1 B v v1 xs) (o : w.ownsRow B 5 1 v ys.length (bv ys)) (f : Fr [] w0 w) (hB : w0.heap.size ≤ B) : Fr [] w0 w1 := by
  refine ((f.mono (S' := v.ownBlock.toList) (by simp)).trans h.fr).shed ?_
  intro k hk hlt
  rw [Option.mem_toList] at hk
  have := (o.lt k hk).1
  omega
theorem Gro.trans {w w1 w2 : World} {B : Nat} {v v1 v2 : Value} {xs ys : List Nat} (h : Gro w w1 B v v1 xs) (h' : Gro w1 w2 B v1 v2 ys) : Gro w w2 B v v2 ys := by
  refine ⟨h'.own, ?_, ?_⟩
  · refine ⟨h'.fr.os.trans h.fr.os, h'.fr.tape.trans h.fr.tape, h'.fr.output.trans h.fr.output, Nat.le_trans h.fr.size h'.fr.size, fun k hk hn => ?_⟩
    rw [h'.fr.block k (Nat.lt_of_lt_of_le hk h.fr.size) ?_, h.fr.block k hk hn]
    intro hm
    rw [Option.mem_toList] at hm
    rcases h.blk with e | e
    · exact hn (by rw [Option.mem_toList, ← e]; exact hm)
    · have := e k hm; omega
  · rcases h'.blk with e | e
    · rw [e]; exact h.blk
    · right; intro k hk; have := e k hk; have := h.fr.size; omega

end Go.Proofs.Ythmlpjogbdpgiaa
namespace Go.Proofs.Ythmlpjogbdpgiaa
open Go.ChangeShapes Go.WideShapes Go.ChangeAt Go.RowKit

/-- What Build holds ahead of its i-th entry: the entries so far, the places so far, the key ahead. -/
structure BI (w wr : World) (r : Nat) (ps : Ps) (i : Nat) (v6 v7 v8 : Value) : Prop where
  ob : wr.ownsRow w.heap.size 5 1 v6 (bod r ps i).length (bv (bod r ps i))
  op : wr.ownsRow w.heap.size 5 1 v7 (plc r ps i).length (bv (plc r ps i))
  dis : ∀ k, v6.ownBlock = some k → v7.ownBlock ≠ some k
  ah : Rd w v8 (bv (ahd ps i))
  fr : Fr [] w wr
end Go.Proofs.Ythmlpjogbdpgiaa
namespace Go.Proofs.Ythmlpjogbdpgiaa
open Go.ChangeShapes Go.WideShapes Go.ChangeAt Go.RowKit

theorem results_tmp4' {fn : Func} {p q r s : Tmp} (h : fn.results = #[.tmp p, .tmp q, .tmp r, .tmp s]) (tmps : Array Value) (P : Program) (w : World) :
    (results fn tmps).run P w = .ok (.tuple #[tmps.getD p undef, tmps.getD q undef, tmps.getD r undef, tmps.getD s undef]) w := by
  simp only [results, h]
  simp

theorem take8 (b : List Nat) : (b.drop (b.length - 8)).take 8 = b.drop (b.length - 8) := List.take_of_length_le (by rw [List.length_drop]; omega)

set_option maxRecDepth 20000 in
set_option maxHeartbeats 800000 in
theorem refsplit_no (w : World) {v : Value} {b : List Nat} (hr : Rd w v (bv b)) (hb : By b) (hl : b.length ≤ 140737488355328) (h : isK b = false) :
    Calls Try.prog 20 #[v] w fun e w' => e = .returned (.tuple #[.slice none 0 0, .int .u64 0, .int .i64 0, .int .i64 23]) ∧ w' = w := by
  rcases (show b.length < 8 ∨ 136 < b.length ∨ (8 ≤ b.length ∧ b.length ≤ 136) from by omega) with q1 | q1 | ⟨q1, q2⟩
  · obtain ⟨a, c, hv⟩ := hr.form
    rw [bv_len] at hv
    subst hv
    clear hr hb h
    go_enter Try.func20, Try.ntmps20
    go_wp2
    exact bodyPost_ret (results_tmp4' rfl _ _ _) rfl ⟨rfl, rfl⟩
  · obtain ⟨a, c, hv⟩ := hr.form
    rw [bv_len] at hv
    subst hv
    clear hr hb h
    go_enter Try.func20, Try.ntmps20
    go_wp2
    exact bodyPost_ret (results_tmp4' rfl _ _ _) rfl ⟨rfl, rfl⟩
  · obtain ⟨qq, off, c, hv, h1⟩ := hr.place (by omega)
    subst hv
    have hf := refunfixed_c hr hb (b.length - 8) 8 (by omega) (by omega) hl
    rw [take8, show unf (b.drop (b.length - 8)) = tailN b from rfl, show ((b.length - 8 : Nat) : Int) = (b.length : Int) - 8 from by omega] at hf
    have ht1 := tailN_lt hb q1
    have ht2 : 1 < tailN b % 256 := by
      unfold isK at h
      rw [decide_eq_true q1, decide_eq_true q2, Bool.true_and, Bool.true_and, decide_eq_false_iff_not] at h
      have : ¬ tailN b % 256 ≤ 1 := h
      omega
    generalize tailN b = t at hf ht1 ht2
    have HF := hid hf
    clear hr hb h hf
    go_enter Try.func20, Try.ntmps20
    go_wp2_with fail
    refine HF.out.mono ?_
    rintro e w1 ⟨rfl, rfl⟩
    go_wp2
    exact bodyPost_ret (results_tmp4' rfl _ _ _) rfl ⟨rfl, rfl⟩

set_option maxRecDepth 20000 in
set_option maxHeartbeats 800000 in
theorem refsplit_yes (w : World) {q off c : Nat} {b : List Nat} (hr : Rd w (.slice (some ⟨q, off, none⟩) b.length c) (bv b)) (hb : By b) (h1 : b.length ≤ c) (h : isK b = true) :
    Calls Try.prog 20 #[.slice (some ⟨q, off, none⟩) b.length c] w fun e w' => e = .returned (.tuple #[.slice (some ⟨q, off, none⟩) (b.length - 8) c, .int .u64 ((tailN b / 256 : Nat) : Int), .int .i64 ((tailN b % 256 : Nat) : Int), .int .i64 0]) ∧ w' = w := by
  obtain ⟨k1, k2, k3⟩ := isK_len h
  have hf := refunfixed_c hr hb (b.length - 8) 8 (by omega) (by omega) (by omega)
  rw [take8, show unf (b.drop (b.length - 8)) = tailN b from rfl, show ((b.length - 8 : Nat) : Int) = (b.length : Int) - 8 from by omega] at hf
  have ht1 := tailN_lt hb k1
  generalize tailN b = t at hf ht1 k3 ⊢
  have HF := hid hf
  clear hr hb h hf
  go_enter Try.func20, Try.ntmps20
  go_wp2_with fail
  refine HF.out.mono ?_
  rintro e w1 ⟨rfl, rfl⟩
  go_wp2
  refine bodyPost_ret (results_tmp4' rfl _ _ _) rfl ⟨?_, rfl⟩
  rw [show ((t / 256 : Nat) : Int) = (t : Int) / 256 from by omega, show ((t % 256 : Nat) : Int) = (t : Int) % 256 from by omega]
  rfl
end Go.Proofs.Ythmlpjogbdpgiaa
namespace Go.Proofs.Ythmlpjogbdpgiaa
open Go.ChangeShapes Go.WideShapes Go.ChangeAt Go.RowKit

set_option maxRecDepth 20000 in
set_option maxHeartbeats 1600000 in
theorem refbytes_c {w : World} {v1 v2 : Value} {a b : List Nat} (h1 : Rd w v1 (bv a)) (h2 : Rd w v2 (bv b)) (ha : By a) (hb : By b) (hl1 : a.length ≤ 140737488355328) (hl2 : b.length ≤ 140737488355328) :
    Calls Try.prog 21 #[v1, v2] w fun e w' => e = .returned (.int .i64 (cmpN a b)) ∧ Fr [] w w' := by
  have hlo : a = [] ∨ b = [] ∨ (0 < a.length ∧ 0 < b.length) := by
    cases a with
    | nil => exact .inl rfl
    | cons => cases b with
      | nil => exact .inr (.inl rfl)
      | cons => exact .inr (.inr (by simp))
  rcases hlo with rfl | rfl | ⟨p1, p2⟩
  · obtain ⟨a1, c1, hv1⟩ := h1.form
    obtain ⟨a2, c2, hv2⟩ := h2.form
    rw [bv_len] at hv1 hv2
    subst hv1
    subst hv2
    clear h1 h2 ha hb
    cases b with
    | nil =>
      go_enter Try.func21, Try.ntmps21
      go_wp2
      refine wp_loop_rounds 1 ?_
      rw [rounds_succ]
      go_wp2
      go_ret
      exact ⟨rfl, Fr.refl _ _⟩
    | cons y b =>
      have hc : cmpN [] (y :: b) = -1 := rfl
      rw [hc]
      have hp : 0 < (y :: b).length := by simp
      generalize (y :: b).length = n at *
      go_enter Try.func21, Try.ntmps21
      go_wp2
      refine wp_loop_rounds 1 ?_
      rw [rounds_succ]
      go_wp2
      go_ret
      exact ⟨rfl, Fr.refl _ _⟩
  · obtain ⟨a1, c1, hv1⟩ := h1.form
    obtain ⟨a2, c2, hv2⟩ := h2.form
    rw [bv_len] at hv1 hv2
    subst hv1
    subst hv2
    clear h1 h2 ha hb
    cases a with
    | nil =>
      go_enter Try.func21, Try.ntmps21
      go_wp2
      refine wp_loop_rounds 1 ?_
      rw [rounds_succ]
      go_wp2
      go_ret
      exact ⟨rfl, Fr.refl _ _⟩
    | cons y a =>
      have hc : cmpN (y :: a) [] = 1 := rfl
      rw [hc]
      have hp : 0 < (y :: a).length := by simp
      generalize (y :: a).length = n at *
      go_enter Try.func21, Try.ntmps21
      go_wp2
      refine wp_loop_rounds 1 ?_
      rw [rounds_succ]
      go_wp2
      go_ret
      exact ⟨rfl, Fr.refl _ _⟩
  · rcases h1.split with ⟨rfl, _⟩ | ⟨q, off, c, rfl, g1, _, hc⟩
    · simp at p1
    rcases h2.split with ⟨rfl, _⟩ | ⟨q2, off2, c2, rfl, g2, _, hc2⟩
    · simp at p2
    have HC := hid hc
    have HC2 := hid hc2
    clear h1 h2 ha hb hc hc2
    go_enter Try.func21, Try.ntmps21
    go_wp2
    go_loopw [5] (fun v5 wr => ∃ i : Nat, i ≤ a.length ∧ i ≤ b.length ∧ v5 = .int .i64 (i : Int) ∧ cmpN (a.drop i) (b.drop i) = cmpN a b ∧ Fr [] w wr) (fun v5 _ => a.length - (intOf v5).toNat)
    case atStart => exact ⟨0, by omega, by omega, rfl, rfl, Fr.refl _ _⟩
    case round =>
      obtain ⟨i, hi1, hi2, rfl, hcm, hf⟩ := hrel
      have HCM := hid hcm
      have HF := hid hf
      clear hcm hf
      by_cases hlt : i < a.length
      · by_cases hlt2 : i < b.length
        · obtain ⟨x, hx, hd⟩ := drop_at hlt
          obtain ⟨y, hy, hd2⟩ := drop_at hlt2
          have k1 : wr.cell? ⟨q, off + i, none⟩ = some (.int .u8 (x : Int)) := by
            have h6 := HC.out i x hx
            rw [World.cell?_of_block (w := w) (HF.out.block _ (World.block_lt_of_cell? w _ h6) (by simp))]; exact h6
          have k2 : wr.cell? ⟨q2, off2 + i, none⟩ = some (.int .u8 (y : Int)) := by
            have h6 := HC2.out i y hy
            rw [World.cell?_of_block (w := w) (HF.out.block _ (World.block_lt_of_cell? w _ h6) (by simp))]; exact h6
          have j1 : (i : Int) < (a.length : Int) := by omega
          have j2 : (i : Int) < (b.length : Int) := by omega
          have HD := hid hd
          have HD2 := hid hd2
          clear hd hd2 hx hy
          rcases Nat.lt_trichotomy x y with hxy | hxy | hxy
          · have e0 : ((x : Int) == (y : Int)) = false := by simp; omega
            have e1 : (x : Int) < (y : Int) := by omega
            have HR : Hid (cmpN a b = -1) := by unfold Hid; rw [← HCM.out, HD.out, HD2.out, cmpN, if_pos hxy]
            clear hxy
            go_wp2_with fail
            go_quiet (fail)
            go_wp2_with fail
            go_quiet (fail)
            go_wp2
            go_ret
            exact ⟨by rw [HR.out]; rfl, (HF.out.drewN _).drewN _⟩
          · have e0 : ((x : Int) == (y : Int)) = true := by simp; omega
            have HR : Hid (cmpN (a.drop (i + 1)) (b.drop (i + 1)) = cmpN a b) := by unfold Hid; rw [← HCM.out, HD.out, HD2.out, cmpN, if_neg (by omega), if_neg (by omega)]
            clear hxy
            go_wp2_with fail
            go_quiet (fail)
            go_wp2
            go_roundw
            case rel => exact ⟨i + 1, by omega, by omega, by go_num, HR.out, HF.out.drewN _⟩
            case measure => simp [intOf]; omega
          · have e0 : ((x : Int) == (y : Int)) = false := by simp; omega
            have e1 : decide ((x : Int) < (y : Int)) = false := by simp; omega
            have e2 : decide (x < y) = false := by simp; omega
            have HR : Hid (cmpN a b = 1) := by unfold Hid; rw [← HCM.out, HD.out, HD2.out, cmpN, if_neg (by omega), if_pos hxy]
            clear hxy
            go_wp2_with fail
            go_quiet (fail)
            go_wp2_with fail
            go_quiet (fail)
            go_wp2
            go_ret
            exact ⟨by rw [HR.out]; rfl, (HF.out.drewN _).drewN _⟩
        · have hib : i = b.length := by omega
          have HR : Hid (cmpN a b = 1) := by
            obtain ⟨x, hx, hd⟩ := drop_at hlt
            have hn : b.drop i = [] := List.drop_eq_nil_of_le (by omega)
            unfold Hid; rw [← HCM.out, hd, hn]; rfl
          have j1 : (i : Int) < (a.length : Int) := by omega
          have j2 : (b.length : Int) < (a.length : Int) := by omega
          go_wp2
          go_ret
          exact ⟨by rw [HR.out]; rfl, HF.out⟩
      · have hia : i = a.length := by omega
        by_cases hlt2 : i < b.length
        · have HR : Hid (cmpN a b = -1) := by
            obtain ⟨x, hx, hd⟩ := drop_at hlt2
            have hn : a.drop i = [] := List.drop_eq_nil_of_le (by omega)
            unfold Hid; rw [← HCM.out, hd, hn]; rfl
          have j2 : (a.length : Int) < (b.length : Int) := by omega
          go_wp2
          go_ret
          exact ⟨by rw [HR.out]; rfl, HF.out⟩
        · have HR : Hid (cmpN a b = 0) := by
            have hn : a.drop i = [] := List.drop_eq_nil_of_le (by omega)
            have hn2 : b.drop i = [] := List.drop_eq_nil_of_le (by omega)
            unfold Hid; rw [← HCM.out, hn, hn2]; rfl
          have j2 : b.length ≤ a.length := by omega
          have j3 : a.length ≤ b.length := by omega
          go_wp2
          go_ret
          exact ⟨by rw [HR.out]; rfl, HF.out⟩
end Go.Proofs.Ythmlpjogbdpgiaa
