/-
  The walk of RlpNested.
-/
import Derived.Test.YthioagbkmgfhpaaRe5
import Derived.Test.YthioagbkmgfhpaaKn
import Derived.Test.YthioagbkmgfhpaaSm
namespace Go.Proofs.Ythioagbkmgfhpaa
open Go.ChangeShapes Go.WideShapes Go.ChangeAt Go.RowKit

/-- Lists one in another, so many, and their bytes. -/
def nest : (m : Nat) → Nat → Tr m
  | 0, _ => ()
  | m + 1, i => mkT true [] (if i ≤ 1 then [] else [nest m (i - 1)])
def nb : Nat → List Nat
  | 0 => []
  | i + 1 => (192 + i) :: nb i
theorem nb_len : ∀ i, (nb i).length = i
  | 0 => rfl
  | i + 1 => by simp [nb, nb_len i]
theorem nb_by : ∀ i, i ≤ 40 → By (nb i)
  | 0, _ => fun x hx => by cases hx
  | i + 1, h => fun x hx => by
    rcases List.mem_cons.1 hx with rfl | hx
    · omega
    · exact nb_by i (by omega) x hx
def errOf {α : Type} : Except Nat α → Nat
  | .error e => e
  | .ok _ => 0
theorem nest_good : ∀ i, i < 17 → 1 ≤ i → bad 19 1 (nest 19 i) = 0 ∧ enc 19 (nest 19 i) = nb i ∧ cnt 19 (nest 19 i) = i := by decide +kernel
theorem nest_deep : ∀ i, i < 41 → 17 ≤ i → bad 19 1 (nest 19 i) = 43 ∧ (enc 19 (nest 19 i)).length ≤ 100 ∧ cnt 19 (nest 19 i) ≤ 100 ∧ errOf (rdT 16 (nb i) 0) = 43 := by decide +kernel
theorem first_deep {i : Nat} (h : i < 41) (h1 : 17 ≤ i) : firstL (nb i) = .error 43 := by
  have hd := (nest_deep i h h1).2.2.2
  unfold firstL
  rw [if_neg (by rw [nb_len]; omega), if_neg (fun e => by have := congrArg List.length e; rw [nb_len] at this; simp at this; omega)]
  rcases hr : rdT 16 (nb i) 0 with x | y
  · rw [hr] at hd; rw [show x = 43 from hd]
  · rw [hr] at hd; cases hd
theorem first_good {i : Nat} (h : i < 17) (h1 : 1 ≤ i) : firstL (nb i) = .ok (nest 19 i, i, i) := by
  obtain ⟨a, b, c⟩ := nest_good i h h1
  have := firstL_back (more := []) a (by omega) (by rw [b, nb_len]; simp; omega)
  rw [List.append_nil, b, nb_len, c] at this
  exact this
theorem nest_up {w w1 : World} {A G : Nat} {i : Nat} (hi : 1 ≤ i) {a : Option Addr} {k c : Nat} (h : ∀ m, IsF w (A + 1) w.heap.size m (.agg #[.bool true, .slice none 0 0, .slice a k c]) (nest m i)) (hG : G = w.heap.size) (hAG : A < G) (hw : w1 = w.alloc (.cells #[.bool true, .slice none 0 0, .slice a k c] 25)) : ∀ m, IsF w1 (A + 1) w1.heap.size m (.agg #[.bool true, .slice none 0 0, .slice (some ⟨G, 0, none⟩) 1 1]) (nest m (i + 1)) := by
  subst hw
  intro m
  cases m with
  | zero => exact ⟨_, _, _, _, _, _, _, rfl⟩
  | succ m =>
    have e : nest (m + 1) (i + 1) = mkT true [] [nest m i] := by
      show mkT true [] (if i + 1 ≤ 1 then [] else [nest m (i + 1 - 1)]) = _
      rw [if_neg (by omega), Nat.add_sub_cancel]
    rw [e]
    have hb := new_at w (.cells #[.bool true, .slice none 0 0, .slice a k c] 25) hG
    refine ⟨_, _, 1, rfl, .inl ⟨rfl, rfl⟩, fun k hk => (by simp [Value.ownBlock] at hk), fun x hx => (by cases hx), Nat.zero_le _, Nat.le_refl _, (show 1 ≤ 140737488355328 by omega), fun _ => ⟨G, 0, rfl, by omega, blk_lt hb, fun j x hj => ?_⟩⟩
    replace hj : [nest m i][j]? = some x := hj
    rcases j with _ | j
    · cases hj
      refine ⟨true, _, _, by rw [blk_cell hb]; rfl, by rw [blk_cell hb]; rfl, by rw [blk_cell hb]; rfl, ?_⟩
      exact ((h m).step fun q _ hq => blk_old _ _ hq).wide (Nat.le_refl _) (by simp)
    · simp at hj

set_option maxRecDepth 20000 in
set_option maxHeartbeats 400000 in
theorem nested_out (w : World) (n : Int) (h : n < 1 ∨ 40 < n) (h1 : -9223372036854775808 ≤ n) (h2 : n ≤ 9223372036854775807) : Calls Try.prog 6 #[.int .i64 n] w fun e w' => e = .returned (.bool true) ∧ Fr [] w w' := by
  rcases h with h | h
  all_goals go_enter Try.func6, Try.ntmps6
  all_goals go_wp2_with fail
  all_goals refine (known_c w).mono ?_
  all_goals rintro e w1 ⟨rfl, f1⟩
  all_goals go_wp2
  all_goals go_ret
  all_goals exact ⟨rfl, f1⟩

set_option maxHeartbeats 400000 in
theorem bytes_c {w : World} {v1 v2 : Value} {a b : List Nat} (h1 : Rd w v1 (bv a)) (h2 : Rd w v2 (bv b)) (hab : a = b) :
    Calls Try.prog 12 #[v1, v2] w fun e w' => e = .returned (.bool true) ∧ w' = w := by
  subst hab
  have e1 := run_conv h1
  have e2 := run_conv h2
  have e3 := ba_beq (strOf a)
  obtain ⟨a1, c1, rfl⟩ := h1.form
  obtain ⟨a2, c2, rfl⟩ := h2.form
  clear h1 h2
  go_enter Try.func12, Try.ntmps12
  go_wp2
  go_ret
  exact ⟨rfl, rfl⟩

set_option maxRecDepth 20000 in
set_option maxHeartbeats 1600000 in
theorem nested_in (w : World) (n : Nat) (hn1 : 1 ≤ n) (hn : n ≤ 40) : Calls Try.prog 6 #[.int .i64 (n : Int)] w fun e w' => e = .returned (.bool true) ∧ Fr [] w w' := by
  go_enter Try.func6, Try.ntmps6
  go_wp2_with fail
  refine (known_c w).mono ?_
  rintro e w1 ⟨rfl, f1⟩
  have F1 := hid f1
  have hsz := f1.size
  clear f1
  go_wp2_with fail
  obtain ⟨A, hA⟩ : ∃ A, A = w1.heap.size := ⟨_, rfl⟩
  have hAw : w.heap.size ≤ A := by omega
  have I0 : Hid (∀ m, IsF ((w1.alloc (.cells #[.bool true, .slice none 0 0, .slice none 0 0] 25)).alloc (.cells #[.int .u8 192] 5)) (A + 1) ((w1.alloc (.cells #[.bool true, .slice none 0 0, .slice none 0 0] 25)).alloc (.cells #[.int .u8 192] 5)).heap.size m (.agg #[.bool true, .slice none 0 0, .slice none 0 0]) (nest m 1)) := by
    intro m
    cases m with
    | zero => exact ⟨_, _, _, _, _, _, _, rfl⟩
    | succ m => exact ⟨_, none, 0, rfl, .inl ⟨rfl, rfl⟩, fun k hk => (by simp [Value.ownBlock] at hk), fun x hx => (by cases hx), Nat.zero_le _, Nat.le_refl _, Nat.zero_le _, fun h => (by cases h)⟩
  have O0 := hid (own_lit1 (w1.alloc (.cells #[.bool true, .slice none 0 0, .slice none 0 0] 25)) (z := 192) (x := 192) (g := A + 1) (B := A + 1) rfl (by simp; omega) (by simp; omega))
  have A0 := hid (show ((w1.alloc (.cells #[.bool true, .slice none 0 0, .slice none 0 0] 25)).alloc (.cells #[.int .u8 192] 5)).heap[A]? = some (.cells #[.bool true, .slice none 0 0, .slice none 0 0] 25 (0, 0)) by rw [blk_old _ _ (by simp; omega)]; exact new_at _ _ hA)
  have F2 := hid ((F1.out.alloc (.cells #[.bool true, .slice none 0 0, .slice none 0 0] 25)).alloc (.cells #[.int .u8 192] 5))
  rw [← hA]
  clear hA hsz
  generalize ((w1.alloc (.cells #[.bool true, .slice none 0 0, .slice none 0 0] 25)).alloc (.cells #[.int .u8 192] 5)) = w2 at I0 O0 A0 F2 ⊢
  go_loopw [4, 5] (fun v4 v5 wr => ∃ (i : Nat) (a : Option Addr) (k c : Nat), 1 ≤ i ∧ i ≤ n ∧ v5 = .int .i64 (i : Int) ∧ wr.heap[A]? = some (.cells #[.bool true, .slice none 0 0, .slice a k c] 25 (0, 0)) ∧ (∀ m, IsF wr (A + 1) wr.heap.size m (.agg #[.bool true, .slice none 0 0, .slice a k c]) (nest m i)) ∧ wr.ownsRow (A + 1) 5 1 v4 i (bv (nb i)) ∧ Fr [] w wr) (fun _ v5 _ => n - (intOf v5).toNat)
  case atStart => exact ⟨1, none, 0, 0, by omega, hn1, rfl, A0.out, I0.out, O0.out, F2.out⟩
  case round =>
    obtain ⟨i, a, k, c, hi1, hin, rfl, hAb, hI, ho, hf⟩ := hrel
    have HAB := hid hAb
    have HI := hid hI
    have HO := hid ho
    have HF := hid hf
    have x0 := blk_cell hAb 0
    have x1 := blk_cell hAb 1
    have x2 := blk_cell hAb 2
    have y0 := blk_frozen hAb 0
    have y1 := blk_frozen hAb 1
    have y2 := blk_frozen hAb 2
    simp at x0 x1 x2
    have hlt := blk_lt hAb
    obtain ⟨ao, co, hvo, hco⟩ := ownsRow_slice ho
    subst hvo
    clear hAb hI ho hf
    by_cases hlt2 : i < n
    · have hw8 : IntKind.u8.wrap (192 + (i : Int)) = 192 + (i : Int) := by rw [IntKind.wrap_u8]; omega
      go_wp2_with (
        at_builtin
        refine wpList_append_rd rfl _ _ rfl (A + 1) ?bb _ 1 (bv [192 + i]) rfl ?oo _ (bv (nb i)) rfl ?rr bv_one ?ll ?_
        rotate_left 4
        intro v9 w9 o9 g9 d9)
      case bb => simp [World.setCell]; omega
      case oo => exact own_lit1 _ (by omega) (by simp [World.setCell]) (by simp [World.setCell]; omega)
      case ll => rw [bv_len, nb_len]; omega
      case rr =>
        refine Rd.ownN (base := A + 1) (n := i) (ownsRow_of_block HO.out fun j hj => ?_) (nb_len i).symm
        have h1 := HO.out.lt j hj
        rw [blk_old _ _ (by simp [World.setCell]; omega), blk_old _ _ (by simp [World.setCell]; omega), blk_setne _ _ _ (by omega), blk_setne _ _ _ (by omega), blk_setne _ _ _ (by omega)]
      have g9' : (((((wr.setCell ⟨A, 0, none⟩ (.bool true)).setCell ⟨A, 1, none⟩ (.slice none 0 0)).setCell ⟨A, 2, none⟩ (.slice (some ⟨wr.heap.size, 0, none⟩) 1 1)).alloc (.cells #[.bool true, .slice none 0 0, .slice a k c] 25)).alloc (.cells #[.int .u8 (192 + (i : Int))] 5)).grownBy w9 (some (wr.heap.size + 1)) := g9
      have hsA : (((wr.setCell ⟨A, 0, none⟩ (.bool true)).setCell ⟨A, 1, none⟩ (.slice none 0 0)).setCell ⟨A, 2, none⟩ (.slice (some ⟨wr.heap.size, 0, none⟩) 1 1)).heap.size = wr.heap.size := by simp [World.setCell]
      have hA7 := store3 (a := .bool true) (b := .slice none 0 0) (c := .slice (some ⟨wr.heap.size, 0, none⟩) 1 1) HAB.out
      have hWa : ∀ m, IsF (((wr.setCell ⟨A, 0, none⟩ (.bool true)).setCell ⟨A, 1, none⟩ (.slice none 0 0)).setCell ⟨A, 2, none⟩ (.slice (some ⟨wr.heap.size, 0, none⟩) 1 1)) (A + 1) (((wr.setCell ⟨A, 0, none⟩ (.bool true)).setCell ⟨A, 1, none⟩ (.slice none 0 0)).setCell ⟨A, 2, none⟩ (.slice (some ⟨wr.heap.size, 0, none⟩) 1 1)).heap.size m (.agg #[.bool true, .slice none 0 0, .slice a k c]) (nest m i) := fun m => by
        rw [hsA]
        exact (HI.out m).step fun j hj _ => by rw [blk_setne _ _ _ (by omega), blk_setne _ _ _ (by omega), blk_setne _ _ _ (by omega)]
      have hup := nest_up hi1 hWa hsA.symm hlt rfl
      have hF7 : Fr [] w (((wr.setCell ⟨A, 0, none⟩ (.bool true)).setCell ⟨A, 1, none⟩ (.slice none 0 0)).setCell ⟨A, 2, none⟩ (.slice (some ⟨wr.heap.size, 0, none⟩) 1 1)) := ((HF.out.set _ _ (.inr hAw)).set _ _ (.inr hAw)).set _ _ (.inr hAw)
      generalize (((wr.setCell ⟨A, 0, none⟩ (.bool true)).setCell ⟨A, 1, none⟩ (.slice none 0 0)).setCell ⟨A, 2, none⟩ (.slice (some ⟨wr.heap.size, 0, none⟩) 1 1)) = wa at g9' hsA hA7 hup hF7
      have hsB : (wa.alloc (.cells #[.bool true, .slice none 0 0, .slice a k c] 25)).heap.size = wr.heap.size + 1 := by simp; omega
      refine ⟨⟨i + 1, some ⟨wr.heap.size, 0, none⟩, 1, 1, by omega, by omega, by go_num, ?_, fun m => ?_, ?_, ?_⟩, by simp [intOf]; omega⟩
      · rw [g9'.block A (by simp; omega) (fun e => by cases e; omega), blk_old _ _ (by simp; omega), blk_old _ _ (by omega)]; exact hA7
      · refine ((hup m).step (w' := w9) fun j hj1 hj2 => ?_).wide (Nat.le_refl _) (Nat.le_trans (by simp) g9'.size)
        rw [g9'.block j (by simp at hj2 ⊢; omega) (fun e => by cases e; omega), blk_old _ _ hj2]
      · rw [bv_len, nb_len, ← bv_append] at o9
        rw [Nat.add_comm i 1]
        exact (show nb (1 + i) = [192 + i] ++ nb i by rw [Nat.add_comm]; rfl) ▸ o9
      · exact ((hF7.alloc _).alloc _).grown g9' (fun j hj => .inr (by cases hj; omega))
    · have hie : i = n := by omega
      subst hie
      have R4 := hid (Rd.ownN HO.out (nb_len i).symm)
      by_cases hd : i < 17
      · obtain ⟨g1, g2, g3⟩ := nest_good i hd hi1
        have hE : encE (nest 19 i) = 0 := by unfold encE; rw [if_neg (by rw [g1]; simp), if_neg (by rw [g2, nb_len]; omega)]
        have hB : encB (nest 19 i) = nb i := by unfold encB; rw [if_pos hE, g2]
        have HG := hid (And.intro g1 (And.intro g2 g3))
        have HE := hid hE
        have HB := hid hB
        clear g1 g2 g3 hE hB
        go_wp2_with fail
        refine (encode_c wr (t := nest 19 i) (HI.out 19).isV (by omega) (by rw [HG.out.2.2]; omega) (by rw [HG.out.2.1, nb_len]; omega)).mono ?_
        rintro e w3 ⟨v3, rfl, o3, f3⟩
        rw [HB.out, nb_len] at o3
        rw [HE.out]
        obtain ⟨a3, c3, hv3, _⟩ := ownsRow_slice o3
        subst hv3
        have R3 := hid (Rd.ownN o3 (nb_len i).symm)
        have F3 := hid f3
        clear o3 f3
        go_wp2_with fail
        refine (decode_c w3 (R4.out.fr F3.out) (nb_by i (by omega)) (by rw [nb_len]; omega)).mono ?_
        rintro e w4 ⟨hD, f4⟩
        rw [first_good hd hi1, nb_len] at hD
        obtain ⟨h, _⟩ | ⟨_, v4, rfl, hv4⟩ := hD
        · omega
        · obtain ⟨l, b1, b2, b3, b4, b5, b6, rfl⟩ := hv4.isV.agg
          have V4 := hid hv4.isV
          have F4 := hid (F3.out.trans f4)
          have R34 := hid (R3.out.fr f4)
          clear hv4 f4
          have bk := F4.out.at HAB.out (by simp)
          have z0 := blk_cell bk 0
          have z1 := blk_cell bk 1
          have z2 := blk_cell bk 2
          simp at z0 z1 z2
          have hl4 := blk_lt bk
          have FY := hid ((Fr.refl [] w4).alloc (.cells #[.bool l, .slice b1 b2 b3, .slice b4 b5 b6] 25))
          go_wp2_with fail
          refine (bytes_c ((R4.out.fr F4.out).fr FY.out) (R34.out.fr FY.out) rfl).mono ?_
          rintro e w5 ⟨rfl, rfl⟩
          go_wp2_with fail
          refine (same_c 19 _ _ _ (nest 19 i) (full_of_bad 19 1 _ HG.out.1) (((HI.out 19).isV.fr F4.out).fr FY.out) (V4.out.fr FY.out)).mono ?_
          rintro e w6 ⟨rfl, f6⟩
          have F6 := hid (((HF.out.trans F4.out).trans FY.out).trans f6)
          clear f6
          go_wp2
          go_ret
          exact ⟨rfl, F6.out⟩
      · obtain ⟨g1, g2, g3, _⟩ := nest_deep i (by omega) (by omega)
        have hE : encE (nest 19 i) = 43 := by unfold encE; rw [if_pos (by rw [g1]; simp), g1]
        have hB : encB (nest 19 i) = [] := by unfold encB; rw [if_neg (by rw [hE]; simp)]
        have HG := hid (And.intro g1 (And.intro g2 g3))
        have HE := hid hE
        have HB := hid hB
        clear g1 g2 g3 hE hB
        go_wp2_with fail
        refine (encode_c wr (t := nest 19 i) (HI.out 19).isV (by omega) (by have := HG.out.2.2; omega) (by have := HG.out.2.1; omega)).mono ?_
        rintro e w3 ⟨v3, rfl, o3, f3⟩
        rw [HB.out] at o3
        rw [HE.out]
        obtain ⟨a3, c3, hv3, _⟩ := ownsRow_slice o3
        subst hv3
        have F3 := hid f3
        clear o3 f3
        go_wp2_with fail
        refine (decode_c w3 (R4.out.fr F3.out) (nb_by i (by omega)) (by rw [nb_len]; omega)).mono ?_
        rintro e w4 ⟨hD, f4⟩
        rw [first_deep (by omega) (by omega)] at hD
        obtain rfl : e = _ := hD
        have F4 := hid ((HF.out.trans F3.out).trans f4)
        clear f4
        go_wp2
        go_ret
        exact ⟨rfl, F4.out.alloc _⟩

theorem nested_c (w : World) (n : Int) (h1 : -9223372036854775808 ≤ n) (h2 : n ≤ 9223372036854775807) : Calls Try.prog 6 #[.int .i64 n] w fun e w' => e = .returned (.bool true) ∧ Fr [] w w' := by
  by_cases h : n < 1 ∨ 40 < n
  · exact nested_out w n h h1 h2
  · obtain ⟨m, rfl⟩ : ∃ m : Nat, n = (m : Int) := ⟨n.toNat, by omega⟩
    exact nested_in w m (by omega) (by omega)
end Go.Proofs.Ythioagbkmgfhpaa
