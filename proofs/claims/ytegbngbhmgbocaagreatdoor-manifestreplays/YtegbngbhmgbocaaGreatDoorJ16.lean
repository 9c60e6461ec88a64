/-
  Check of any version.
-/
import Derived.Test.YtegbngbhmgbocaaGreatDoorVE
import Derived.Test.YtegbngbhmgbocaaGreatDoorJ08
import Derived.Test.YtegbngbhmgbocaaGreatDoorJ00
import Derived.Shelf.SlSortCmp.WholeK
import Derived.Shelf.SlSortCmp.NoneTotal
import Derived.Ground.SlsfProg
import Derived.Test.YtegbngbhmgbocaaGreatDoorProg
namespace Go.Proofs.YtegbngbhmgbocaaGreatDoor
open Go.ChangeShapes Go.WideShapes Go.ChangeAt Go.RowKit

/-- What Check's tests keep. -/
structure FreshI (wb : World) (q m : Nat) (pre : List Fl) (W : World) : Prop where
  qb : W.heap[q]? = some (.cells #[.map (some m)] 100 (0, 0))
  sb : SetB encN W m (pre.map Fl.num)
  fr : Fr [] wb W
  ge : wb.heap.size ≤ m
theorem FreshI.fr' {wb W W' : World} {q m : Nat} {pre : List Fl} (h : FreshI wb q m pre W) (f : Fr [] W W') : FreshI wb q m pre W' := ⟨f.at h.qb (by simp), h.sb.fr f, h.fr.trans f, h.ge⟩
theorem FreshI.step {wb W W' : World} {q m : Nat} {pre : List Fl} (h : FreshI wb q m pre W) {f : Fl} (s : SetB encN W' m (pre.map Fl.num ++ [f.num])) (b : W'.heap[q]? = some (.cells #[.map (some m)] 100 (0, 0))) (g : Fr [m] W W') : FreshI wb q m (pre ++ [f]) W' :=
  ⟨b, by rw [List.map_append]; exact s, by
    have hg := h.ge
    exact ⟨g.os.trans h.fr.os, g.tape.trans h.fr.tape, g.output.trans h.fr.output, Nat.le_trans h.fr.size g.size, fun k hk hn => by
      rw [g.block k (Nat.lt_of_lt_of_le hk h.fr.size) (by simp; omega)]; exact h.fr.block k hk hn⟩, h.ge⟩
theorem lev_fs {w : World} {L : Nat → List Fl} {ad : Nat → Option Addr} {ln cp : Nat → Nat} (h : VAt w L ad ln cp) {i : Nat} (hi : i < 5) : RdF w (ad i) (ln i) (L i) := h.rd i hi
theorem mem_all {L : Nat → List Fl} {i : Nat} (hi : i < 5) {f : Fl} (hf : f ∈ L i) : f ∈ pfx L 5 := by
  unfold pfx
  rw [List.mem_flatMap]
  exact ⟨i, by simpa using hi, hf⟩
set_option maxRecDepth 20000 in
set_option maxHeartbeats 3200000 in
theorem check_c (w : World) {v : Vn} {ad : Nat → Option Addr} {ln cp : Nat → Nat} (hv : VAt w v.lv ad ln cp) :
    Calls Tryz.prog 21 #[.agg #[.int .i64 v.log, .int .i64 v.next, .int .u64 (v.seq : Int), .slice (ad 0) (ln 0) (cp 0), .slice (ad 1) (ln 1) (cp 1), .slice (ad 2) (ln 2) (cp 2), .slice (ad 3) (ln 3) (cp 3), .slice (ad 4) (ln 4) (cp 4)]] w fun r w' => r = .returned (.int .i64 (chkV v)) ∧ Fr [] w w' := by
  obtain ⟨C, hC⟩ : ∃ C, C = chkV v := ⟨_, rfl⟩
  rw [← hC]
  unfold chkV at hC
  have HCC := hid hC
  have hmm : ∀ (t : TypeId) (w : World), (Instr.makeMap t none).run Tryz.prog w = .ok (.map (some w.heap.size)) (w.alloc (.map #[] 0)) := fun _ _ => rfl
  have hmf : ∀ (fn : Fn) (first cap : Array Value) (w : World), (Instr.makeFunc fn first cap).run Tryz.prog w = .ok (.func fn first cap) w := fun _ _ _ _ => rfl
  obtain ⟨W0, hW0⟩ : ∃ W0, W0 = w.alloc (.cells #[.int .i64 v.log, .int .i64 v.next, .int .u64 (v.seq : Int), .slice (ad 0) (ln 0) (cp 0), .slice (ad 1) (ln 1) (cp 1), .slice (ad 2) (ln 2) (cp 2), .slice (ad 3) (ln 3) (cp 3), .slice (ad 4) (ln 4) (cp 4)] 28) := ⟨_, rfl⟩
  have F0 : Hid (Fr [] w W0) := hid (by rw [hW0]; exact (Fr.refl _ _).alloc _)
  have n0 : Hid (W0.heap[w.heap.size]? = some (.cells #[.int .i64 v.log, .int .i64 v.next, .int .u64 (v.seq : Int), .slice (ad 0) (ln 0) (cp 0), .slice (ad 1) (ln 1) (cp 1), .slice (ad 2) (ln 2) (cp 2), .slice (ad 3) (ln 3) (cp 3), .slice (ad 4) (ln 4) (cp 4)] 28 (0, 0))) := hid (by rw [hW0]; exact blk_new _ _)
  obtain ⟨W1, hW1⟩ : ∃ W1, W1 = (W0.alloc (.map #[] 0)).alloc (.cells #[.map (some W0.heap.size)] 100) := ⟨_, rfl⟩
  have F1 : Hid (Fr [] W0 W1) := hid (by rw [hW1]; exact ((Fr.refl _ _).alloc _).alloc _)
  have I1 : Hid (FreshI W0 (W0.heap.size + 1) W0.heap.size [] W1) := hid (by
    refine ⟨by rw [hW1]; exact new_at _ _ (by simp), ?_, F1.out, Nat.le_refl _⟩
    have := SetB.new encN W0 (m := W0.heap.size) rfl
    rw [hW1]
    exact this.fr ((Fr.refl _ _).alloc _))
  have HV0 := hid (hv.fr F0.out)
  have HH : Hid (∀ W, _) := hid (fun W => head_c W v.log v.next v.seq)
  have CK : Hid (∀ W : World, Fr [] W0 W → _) := hid (fun W fr => vn_cells (fr.at n0.out (by simp)))
  have EF : Hid (∀ W, Fr [] W0 W → _) := hid (fun W f => each_file W v.log v.next v.seq (fun _ W' => Fr [] W W') (fun _ f => okF f) W (HV0.out.fr f) (Fr.refl _ _) (fun _ _ h => h) (fun _ _ _ h g => h.trans g) (fun pre x W' la lc ma mc h r => (file_c W' r).mono fun e W'' k => ⟨k.1, h.trans k.2⟩))
  have EN : Hid (∀ W, FreshI W0 (W0.heap.size + 1) W0.heap.size [] W → _) := hid (fun W f => each_fresh W v.log v.next v.seq (W0.heap.size + 1) (FreshI W0 (W0.heap.size + 1) W0.heap.size) freshP W0 HV0.out f (fun _ _ h => h.fr) (fun _ _ _ h g => h.fr' g) (fun pre x W' la lc ma mc h r => (fresh_c W' x.num x.size _ _ h.qb h.sb).mono fun e W'' k => ⟨k.1, h.step k.2.1 k.2.2.1 k.2.2.2⟩))
  have EB : Hid (∀ W, Fr [] W0 W → _) := hid (fun W f => each_below W v.log v.next v.seq w.heap.size (fun _ W' => Fr [] W W') (fun _ f => decide (f.num < v.next)) W (HV0.out.fr f) (Fr.refl _ _) (fun _ _ h => h) (fun _ _ _ h g => h.trans g) (fun pre x W' la lc ma mc h r => (below_c W' x.num x.size v.next _ _ (CK.out W' (f.trans h)).2.1).mono fun e W'' k => ⟨k.1, h.trans k.2⟩))
  simp only [runP_all] at EF EB
  obtain ⟨oh, hoh⟩ : ∃ oh, oh = okH v.log v.next v.seq := ⟨_, rfl⟩
  obtain ⟨of, hof⟩ : ∃ of, of = (pfx v.lv 5).all okF := ⟨_, rfl⟩
  obtain ⟨on, hon⟩ : ∃ on, on = runP freshP [] (pfx v.lv 5) := ⟨_, rfl⟩
  obtain ⟨ob, hob⟩ : ∃ ob, ob = (pfx v.lv 5).all (fun f => decide (f.num < v.next)) := ⟨_, rfl⟩
  have HOF := hid hof
  have HC2 : Hid (C = if (!oh || !of) = true then 90 else if on = false then 92 else if ob = false then 94 else if (List.range 5).all (fun i => risesF i (v.lv i)) = false then 93 else 0) := hid (by rw [hC, hoh, hof, hon, hob]; rfl)
  rw [← hoh] at HH
  rw [← hof] at EF
  rw [← hon] at EN
  rw [← hob] at EB
  clear hoh hof hon hob hC HCC hv
  have HX : Hid (∀ i : Nat, i < 5 → ∀ W : World, (Instr.index 26 (.agg #[.slice (ad 0) (ln 0) (cp 0), .slice (ad 1) (ln 1) (cp 1), .slice (ad 2) (ln 2) (cp 2), .slice (ad 3) (ln 3) (cp 3), .slice (ad 4) (ln 4) (cp 4)]) (.int .i64 (i : Int))).run Tryz.prog W = .ok (.slice (ad i) (ln i) (cp i)) W) := hid (fun i hi W => ixs hi ad ln cp W)
  generalize v.log = lg at *
  generalize v.next = nx at *
  generalize v.seq = sq at *
  go_enter Tryz.func21, Tryz.ntmps21
  go_upto_region 1 with fail
  rw [← hW0]
  clear hW0
  go_upto_region 2 with fail
  rw [← hW1]
  clear hW1
  obtain ⟨z0, z1, z2, z3, z4, z5, z6, z7⟩ := CK.out W1 F1.out
  have E1 := hid (EF.out W1 F1.out)
  have E2 : Hid (∀ W, Fr [] W1 W → _) := hid (fun W f => EN.out W (I1.out.fr' f))
  clear EF EN
  cases oh with
  | false =>
    have HE : Hid (C = 90) := hid (by rw [HC2.out]; rfl)
    go_wp2_with (go_at_call 46; refine (HH.out _).mono ?_; rintro r W2 ⟨rfl, h⟩; rw [h]; clear h)
    go_ret
    exact ⟨by rw [HE.out]; rfl, F0.out.trans F1.out⟩
  | true =>
    cases of with
    | false =>
      have HE : Hid (C = 90) := hid (by rw [HC2.out]; rfl)
      go_wp2_with (first
        | (go_at_call 46; refine (HH.out _).mono ?_; rintro r W2 ⟨rfl, h⟩; rw [h]; clear h)
        | (go_at_call 49; refine E1.out.mono ?_; rintro r W3 ⟨rfl, _, f3⟩; have F3 := hid f3; clear f3))
      go_ret
      exact ⟨by rw [HE.out]; rfl, (F0.out.trans F1.out).trans F3.out⟩
    | true =>
      go_upto_region 6 with (first
        | (go_at_call 46; refine (HH.out _).mono ?_; rintro r W2 ⟨rfl, h⟩; rw [h]; clear h)
        | (go_at_call 49; refine E1.out.mono ?_; rintro r W3 ⟨rfl, _, f3⟩; have F3 := hid f3; clear f3))
      clear z0 z1 z2 z3 z4 z5 z6 z7 HH E1
      obtain ⟨z0, z1, z2, z3, z4, z5, z6, z7⟩ := CK.out W3 (F1.out.trans F3.out)
      have E3 := hid (E2.out W3 F3.out)
      clear E2
      cases on with
      | false =>
        have HE : Hid (C = 92) := hid (by rw [HC2.out]; rfl)
        go_wp2_with (go_at_call 49; refine E3.out.mono ?_; rintro r W4 ⟨rfl, _, f4⟩; have F4 := hid f4.fr; clear f4)
        go_ret
        exact ⟨by rw [HE.out]; rfl, F0.out.trans F4.out⟩
      | true =>
        go_upto_region 8 with (go_at_call 49; refine E3.out.mono ?_; rintro r W4 ⟨rfl, _, f4⟩; have F4 := hid f4.fr; clear f4)
        clear z0 z1 z2 z3 z4 z5 z6 z7 E3
        obtain ⟨z0, z1, z2, z3, z4, z5, z6, z7⟩ := CK.out W4 F4.out
        have E4 := hid (EB.out W4 F4.out)
        clear EB
        cases ob with
        | false =>
          have HE : Hid (C = 94) := hid (by rw [HC2.out]; rfl)
          go_wp2_with (go_at_call 49; refine E4.out.mono ?_; rintro r W5 ⟨rfl, _, f5⟩; have F5 := hid f5; clear f5)
          go_ret
          exact ⟨by rw [HE.out]; rfl, (F0.out.trans F4.out).trans F5.out⟩
        | true =>
          go_upto_region 10 with (go_at_call 49; refine E4.out.mono ?_; rintro r W5 ⟨rfl, _, f5⟩; have F5 := hid (F4.out.trans f5); clear f5)
          clear z0 z1 z2 z3 z4 z5 z6 z7 E4
          obtain ⟨z0, z1, z2, z3, z4, z5, z6, z7⟩ := CK.out W5 F5.out
          go_wp2_with fail
          clear z0 z1 z2 z3 z4 z5 z6 z7 CK
          have HC3 : Hid (C = if (List.range 5).all (fun i => risesF i (v.lv i)) = false then 93 else 0) := hid (by rw [HC2.out]; rfl)
          have HOK : Hid (∀ i, i < 5 → ∀ f ∈ v.lv i, okF f = true) := hid (fun i hi f hf => List.all_eq_true.1 HOF.out.symm f (mem_all hi hf))
          clear HC2 HOF
          go_loopw [37] (fun v37 wr => ∃ i : Nat, i ≤ 5 ∧ v37 = .int .i64 (i : Int) ∧ (∀ k, k < i → risesF k (v.lv k) = true) ∧ Fr [] W0 wr) (fun v37 _ => 5 - (intOf v37).toNat)
          case atStart => exact ⟨0, by omega, rfl, fun k hk => by omega, F5.out⟩
          case round =>
            obtain ⟨i, hi, rfl, hq, hf⟩ := hrel
            have HQ := hid hq
            have HF := hid hf
            clear hf hq
            by_cases hlt : i < 5
            · have hlt' : (i : Int) < 5 := by omega
              have ixi := HX.out i hlt
              clear HX
              have IO : Hid (Calls Tryz.prog 50 #[.int .i64 (i : Int), .slice (ad i) (ln i) (cp i)] wr fun r w' => r = .returned (.bool (risesF i (v.lv i))) ∧ Fr [] wr w') := hid (by
                have h1 := HV0.out.fr HF.out
                rcases Nat.eq_zero_or_pos i with h0 | h0
                · subst h0
                  exact inOrder_0 wr (h1.len 0 hlt) (h1.small 0 hlt) (lev_fs h1 hlt) (HOK.out 0 hlt)
                · exact inOrder_1 wr h0 (h1.len i hlt) (h1.small i hlt) (lev_fs h1 hlt) (HOK.out i hlt))
              generalize ad i = ai at *
              generalize ln i = li at *
              generalize cp i = ci at *
              cases hri : risesF i (v.lv i) with
              | false =>
                rw [hri] at IO
                have HE : Hid (C = 93) := hid (by
                  rw [HC3.out, if_pos]
                  rw [Bool.eq_false_iff]
                  intro hx
                  have := List.all_eq_true.1 hx i (by simpa using hlt)
                  rw [hri] at this
                  cases this)
                clear hri
                go_wp2_with (go_at_call 50; refine IO.out.mono ?_; rintro r W6 ⟨rfl, f6⟩; have F6 := hid f6; clear f6)
                go_ret
                exact ⟨by rw [HE.out]; rfl, (F0.out.trans HF.out).trans F6.out⟩
              | true =>
                rw [hri] at IO
                have HRI := hid hri
                clear hri
                go_wp2_with (go_at_call 50; refine IO.out.mono ?_; rintro r W6 ⟨rfl, f6⟩; have F6 := hid f6; clear f6)
                go_roundw
                case rel => exact ⟨i + 1, by omega, by go_num, fun k hk => by
                  rcases Nat.lt_or_ge k i with h | h
                  · exact HQ.out k h
                  · rw [show k = i from by omega]; exact HRI.out, HF.out.trans F6.out⟩
                case measure => simp [intOf]; omega
            · have hin : i = 5 := by omega
              subst hin
              have HE : Hid (C = 0) := hid (by
                rw [HC3.out, if_neg]
                rw [Bool.not_eq_false, List.all_eq_true]
                intro k hk
                exact HQ.out k (by simpa using hk))
              go_wp2
              go_ret
              exact ⟨by rw [HE.out]; rfl, F0.out.trans HF.out⟩
end Go.Proofs.YtegbngbhmgbocaaGreatDoor
namespace Go.Proofs.YtegbngbhmgbocaaGreatDoor
open Go.ChangeShapes Go.WideShapes Go.ChangeAt Go.RowKit

/-- Of the same user key: the greater moment ahead. -/
def ord2 (s t k l : Int) : Int := if cmpI t s = 0 then cmpI l k else cmpI t s
theorem cmpI_cases (x y : Int) : (x < y ∧ cmpI x y = -1) ∨ (y < x ∧ cmpI x y = 1) ∨ (x = y ∧ cmpI x y = 0) := by
  unfold cmpI
  rcases (show x < y ∨ y < x ∨ x = y from by omega) with h | h | h
  · exact .inl ⟨h, by rw [if_pos h]⟩
  · exact .inr (.inl ⟨h, by rw [if_neg (by omega), if_pos h]⟩)
  · exact .inr (.inr ⟨h, by rw [if_neg (by omega), if_neg (by omega)]⟩)
theorem ord2_cases (s t k l : Int) : ((t < s ∨ s = t ∧ l < k) ∧ ord2 s t k l = -1) ∨ ((s < t ∨ s = t ∧ k < l) ∧ ord2 s t k l = 1) ∨ (s = t ∧ k = l ∧ ord2 s t k l = 0) := by
  unfold ord2
  rcases cmpI_cases t s with ⟨h, e⟩ | ⟨h, e⟩ | ⟨h, e⟩
  · rw [e, if_neg (by omega)]; exact .inl ⟨.inl h, rfl⟩
  · rw [e, if_neg (by omega)]; exact .inr (.inl ⟨.inl h, rfl⟩)
  · rw [e, if_pos rfl]
    rcases cmpI_cases l k with ⟨g, f⟩ | ⟨g, f⟩ | ⟨g, f⟩
    · exact .inl ⟨.inr ⟨h.symm, g⟩, f⟩
    · exact .inr (.inl ⟨.inr ⟨h.symm, g⟩, f⟩)
    · exact .inr (.inr ⟨h.symm, g.symm, f⟩)
theorem ordP_def (u v : List Nat) (s t k l : Int) : ordP u v s t k l = if cmpN u v = 0 then ord2 s t k l else cmpN u v := rfl
theorem ordP_val (u v : List Nat) (s t k l : Int) : -1 ≤ ordP u v s t k l ∧ ordP u v s t k l ≤ 1 := by
  rw [ordP_def]
  have h1 := cmpN_val u v
  have h2 := ord2_cases s t k l
  split <;> omega
theorem ordP_neg (u v : List Nat) (s t k l : Int) : ordP v u t s l k = -ordP u v s t k l := by
  rw [ordP_def, ordP_def, cmpN_neg u v]
  have h1 := cmpN_val u v
  have h2 := ord2_cases s t k l
  have h3 := ord2_cases t s l k
  by_cases h : cmpN u v = 0
  · rw [if_pos (by omega), if_pos h]; omega
  · rw [if_neg (by omega), if_neg h]
theorem ordP_trans (u v z : List Nat) (s t r k l m : Int) (h1 : ordP u v s t k l ≤ 0) (h2 : ordP v z t r l m ≤ 0) : ordP u z s r k m ≤ 0 := by
  rw [ordP_def] at h1 h2 ⊢
  have c1 : cmpN u v ≤ 0 := by
    by_cases e : cmpN u v = 0
    · omega
    · rw [if_neg e] at h1; exact h1
  have c2 : cmpN v z ≤ 0 := by
    by_cases e : cmpN v z = 0
    · omega
    · rw [if_neg e] at h2; exact h2
  have c3 := cmpN_trans u v z c1 c2
  by_cases e : cmpN u z = 0
  · have euz := (cmpN_eq u z).1 e
    subst euz
    have c4 := cmpN_neg u v
    have e1 : cmpN u v = 0 := by omega
    have e2 : cmpN v u = 0 := by omega
    rw [if_pos e1] at h1
    rw [if_pos e2] at h2
    rw [if_pos e]
    have o1 := ord2_cases s t k l
    have o2 := ord2_cases t r l m
    have o3 := ord2_cases s r k m
    omega
  · rw [if_neg e]; exact c3

theorem ordK_val (a b : List Nat) : -1 ≤ ordK a b ∧ ordK a b ≤ 1 := ordP_val _ _ _ _ _ _
theorem ordK_neg (a b : List Nat) : ordK b a = -ordK a b := ordP_neg _ _ _ _ _ _
theorem ordK_trans (a b c : List Nat) (h1 : ordK a b ≤ 0) (h2 : ordK b c ≤ 0) : ordK a c ≤ 0 := ordP_trans _ _ _ _ _ _ _ _ _ h1 h2
theorem unf_inj' {a b : List Nat} (ha : By a) (hb : By b) (hl : a.length = b.length) (h : unf a = unf b) : a = b := by
  rw [← fixL_unf a ha, ← fixL_unf b hb, h, hl]
theorem ordK_eq {a b : List Nat} (ha : By a) (hb : By b) (ka : 8 ≤ a.length) (kb : 8 ≤ b.length) (h : ordK a b = 0) : a = b := by
  unfold ordK at h
  rw [ordP_def] at h
  have e : cmpN (userL a) (userL b) = 0 := by
    by_cases e : cmpN (userL a) (userL b) = 0
    · exact e
    · rw [if_neg e] at h; exact h
  rw [if_pos e] at h
  have eu := (cmpN_eq _ _).1 e
  have o := ord2_cases ((tailN a / 256 : Nat) : Int) ((tailN b / 256 : Nat) : Int) ((tailN a % 256 : Nat) : Int) ((tailN b % 256 : Nat) : Int)
  have et : tailN a = tailN b := by omega
  have ed : a.drop (a.length - 8) = b.drop (b.length - 8) := unf_inj' (ha.drop _) (hb.drop _) (by rw [List.length_drop, List.length_drop]; omega) et
  rw [← List.take_append_drop (a.length - 8) a, ← List.take_append_drop (b.length - 8) b, ed]
  have eu' : a.take (a.length - 8) = b.take (b.length - 8) := eu
  rw [eu']
end Go.Proofs.YtegbngbhmgbocaaGreatDoor
namespace Go.Proofs
open Go.Shelf
def Tryz.sortF_ren : Go.Shelf.Ren := ⟨fun | 6 => 32 | 15 => 62 | 14 => 61 | 28 => 95 | 29 => 96 | 20 => 87 | 21 => 88 | 22 => 89 | 23 => 90 | 24 => 91 | 25 => 92 | 26 => 93 | 27 => 94 | 46 => 108 | 47 => 109 | 48 => 110 | 49 => 111 | 50 => 112 | 57 => 118 | n => n, fun | 22 => 25 | 24 => 62 | 25 => 83 | 3 => 3 | 39 => 99 | 0 => 0 | 53 => 109 | 55 => 24 | 4 => 4 | 46 => 139 | 45 => 138 | 50 => 143 | 5 => 5 | 9 => 9 | 66 => 158 | 70 => 161 | 76 => 164 | 77 => 106 | n => n, fun | n => n⟩
theorem Tryz.sortF : Go.Proofs.SlLaysF0.n6 Tryz.prog Tryz.sortF_ren := {
  mixed := by kernel_rfl
  f6 := ⟨Tryz.f32.name, by decide, Tryz.func32.trans (congrArg some (by kernel_rfl))⟩
  f14 := ⟨Tryz.f61.name, by decide, Tryz.func61.trans (congrArg some (by kernel_rfl))⟩
  f15 := Tryz.func62.trans (congrArg some (by kernel_rfl))
  f20 := ⟨Tryz.f87.name, by decide, Tryz.func87.trans (congrArg some (by kernel_rfl))⟩
  f21 := ⟨Tryz.f88.name, by decide, Tryz.func88.trans (congrArg some (by kernel_rfl))⟩
  f22 := ⟨Tryz.f89.name, by decide, Tryz.func89.trans (congrArg some (by kernel_rfl))⟩
  f23 := ⟨Tryz.f90.name, by decide, Tryz.func90.trans (congrArg some (by kernel_rfl))⟩
  f24 := ⟨Tryz.f91.name, by decide, Tryz.func91.trans (congrArg some (by kernel_rfl))⟩
  f25 := ⟨Tryz.f92.name, by decide, Tryz.func92.trans (congrArg some (by kernel_rfl))⟩
  f26 := ⟨Tryz.f93.name, by decide, Tryz.func93.trans (congrArg some (by kernel_rfl))⟩
  f27 := ⟨Tryz.f94.name, by decide, Tryz.func94.trans (congrArg some (by kernel_rfl))⟩
  f28 := Tryz.func95.trans (congrArg some (by kernel_rfl))
  f29 := Tryz.func96.trans (congrArg some (by kernel_rfl))
  f46 := ⟨Tryz.f108.name, by decide, Tryz.func108.trans (congrArg some (by kernel_rfl))⟩
  f47 := Tryz.func109.trans (congrArg some (by kernel_rfl))
  f48 := Tryz.func110.trans (congrArg some (by kernel_rfl))
  f49 := ⟨Tryz.f111.name, by decide, Tryz.func111.trans (congrArg some (by kernel_rfl))⟩
  f50 := ⟨Tryz.f112.name, by decide, Tryz.func112.trans (congrArg some (by kernel_rfl))⟩
  f57 := ⟨Tryz.f118.name, by decide, Tryz.func118.trans (congrArg some (by kernel_rfl))⟩
  t0 := Tryz.underlying0
  a0 := Tryz.isAgg0
  z0 := Tryz.sizeOf0
  v0 := Tryz.zeroValue0
  t3 := Tryz.underlying3
  a3 := Tryz.isAgg3
  z3 := Tryz.sizeOf3
  v3 := Tryz.zeroValue3
  t4 := Tryz.underlying4
  a4 := Tryz.isAgg4
  z4 := Tryz.sizeOf4
  v4 := Tryz.zeroValue4
  t5 := Tryz.underlying5
  a5 := Tryz.isAgg5
  z5 := Tryz.sizeOf5
  v5 := Tryz.zeroValue5
  t9 := Tryz.underlying9
  a9 := Tryz.isAgg9
  z9 := Tryz.sizeOf9
  v9 := Tryz.zeroValue9
  t22 := Tryz.underlying25
  a22 := Tryz.isAgg25
  z22 := Tryz.sizeOf25
  v22 := Tryz.zeroValue25
  t25 := Tryz.underlying83
  a25 := Tryz.isAgg83
  z25 := Tryz.sizeOf83
  v25 := Tryz.zeroValue83
  t39 := Tryz.underlying99
  a39 := Tryz.isAgg99
  z39 := Tryz.sizeOf99
  v39 := Tryz.zeroValue99
  t45 := Tryz.underlying138
  a45 := Tryz.isAgg138
  z45 := Tryz.sizeOf138
  v45 := Tryz.zeroValue138
  t46 := Tryz.underlying139
  a46 := Tryz.isAgg139
  z46 := Tryz.sizeOf139
  v46 := Tryz.zeroValue139
  t50 := Tryz.underlying143
  a50 := Tryz.isAgg143
  z50 := Tryz.sizeOf143
  v50 := Tryz.zeroValue143
  t53 := Tryz.underlying109
  a53 := Tryz.isAgg109
  z53 := Tryz.sizeOf109
  v53 := Tryz.zeroValue109
  t55 := Tryz.underlying24
  a55 := Tryz.isAgg24
  z55 := Tryz.sizeOf24
  v55 := Tryz.zeroValue24
  t66 := Tryz.underlying158
  a66 := Tryz.isAgg158
  z66 := Tryz.sizeOf158
  v66 := Tryz.zeroValue158
  t70 := Tryz.underlying161
  a70 := Tryz.isAgg161
  z70 := Tryz.sizeOf161
  v70 := Tryz.zeroValue161
  t76 := Tryz.underlying164
  a76 := Tryz.isAgg164
  z76 := Tryz.sizeOf164
  v76 := Tryz.zeroValue164
  t77 := Tryz.underlying106
  a77 := Tryz.isAgg106
  z77 := Tryz.sizeOf106
  v77 := Tryz.zeroValue106 }
end Go.Proofs
