/-
  What the document's Read answers.
-/
import Derived.Test.YtplghoibadmdjaaDoorWt
import Derived.Test.YtplghoibadmdjaaDoorWp
namespace Go.Proofs.YtplghoibadmdjaaDoor
open Go.ChangeShapes Go.WideShapes Go.ChangeAt Go.RowKit

/-- What holds at a round's beginning. -/
def RrRel (w : World) (b : List Nat) (v4 v5 : Value) (wr : World) : Prop := ∃ (rs : List (List Nat)) (t : Nat), v5 = .int .i64 (t : Int) ∧ OwnL wr w.heap.size v4 rs ∧ t ≤ b.length ∧ rs.length ≤ t ∧ (rs ++ (rdS b (b.length + 1) t false [] t).1, (rdS b (b.length + 1) t false [] t).2) = readL b ∧ Fr [] w wr
theorem ret_rread {b : List Nat} {w wr : World} {v4 : Value} {rs : List (List Nat)} {t : Nat} (h : (rs ++ (rdS b (b.length + 1) t false [] t).1, (rdS b (b.length + 1) t false [] t).2) = readL b) (h0 : one b (b.length + 1) t false [] = none) (o : OwnL wr w.heap.size v4 rs) (f : Fr [] w wr) : ∃ v', Ending.returned (.tuple #[v4, .int .i64 (t : Int)]) = .returned (.tuple #[v', .int .i64 ((readL b).2 : Int)]) ∧ OwnL wr w.heap.size v' (readL b).1 ∧ Fr [] w wr := by
  rw [rdS_none _ h0, List.append_nil] at h
  rw [← h]
  exact ⟨v4, rfl, o, f⟩

set_option maxRecDepth 20000 in
set_option maxHeartbeats 1600000 in
theorem refread_c (w : World) {v : Value} {b : List Nat} (hr : Rd w v (bv b)) (hb : By b) (hl : b.length ≤ 4194304) :
    Calls Tryd.prog 16 #[v] w fun e w' => ∃ v', e = .returned (.tuple #[v', .int .i64 ((readL b).2 : Int)]) ∧ OwnL w' w.heap.size v' (readL b).1 ∧ Fr [] w w' := by
  obtain ⟨a, c, hv⟩ := hr.form
  rw [bv_len] at hv
  subst hv
  have HR := hid hr
  have HB := hid hb
  have A0 : Hid (RrRel w b (.slice none 0 0) (.int .i64 0) w) := ⟨[], 0, rfl, ⟨[], World.ownsRow_nil _ _ _ _, Lst.nil _ _ _⟩, Nat.zero_le _, Nat.zero_le _, rfl, Fr.refl _ _⟩
  clear hr hb
  go_enter Tryd.func16, Tryd.ntmps16
  go_wp2_with fail
  go_loopw [4, 5] (fun v4 v5 wr => RrRel w b v4 v5 wr) (fun _ v5 _ => b.length - (intOf v5).toNat)
  case atStart => exact A0.out
  case round =>
    obtain ⟨rs, t, rfl, ho, ht, hrt, hres, hfr⟩ := hrel
    have RO := hid ho
    have RF := hid hfr
    have HRES := hid hres
    clear ho hfr hres A0
    by_cases hlt : t < b.length
    · have OC := hid (one_c wr (HR.out.fr RF.out) HB.out ht hl)
      rcases h1 : one b (b.length + 1) t false [] with _ | ⟨r, e⟩
      · rw [h1] at OC
        have H1 := hid h1
        clear h1
        go_wp2_with fail
        refine OC.out.mono ?_
        rintro r w1 ⟨hr1, f1⟩
        have hr1' : r = .returned (.tuple #[.slice none 0 0, .int .i64 0, .bool false]) := hr1
        subst hr1'
        have O1 := hid (RO.out.fr f1)
        have F1 := hid (RF.out.trans f1)
        clear hr1 f1
        go_wp2
        go_ret2
        exact ret_rread HRES.out H1.out O1.out F1.out
      · rw [h1] at OC
        have he := one_ends _ h1
        have HNX : Hid ((rs ++ [r] ++ (rdS b (b.length + 1) e false [] e).1, (rdS b (b.length + 1) e false [] e).2) = readL b) := by
          unfold Hid
          rw [← HRES.out, rdS_some _ (by omega) h1, List.append_assoc]; rfl
        clear h1
        go_wp2_with fail
        refine OC.out.mono ?_
        rintro x w1 ⟨⟨v1, rfl, o1, hb1, hl1⟩, f1⟩
        obtain ⟨a1, c1, hv1, _⟩ := ownsRow_slice o1
        subst hv1
        have OL1 := hid (RO.out.fr f1)
        have O1 := hid (ownsRow_base o1 RF.out.size)
        have F1 := hid (RF.out.trans f1)
        have G1 := hid (blk_new w1 (.cells #[.slice a1 r.length c1] 22))
        have HB1 : Hid (w.heap.size ≤ (w1.alloc (.cells #[.slice a1 r.length c1] 22)).heap.size) := by unfold Hid; have := F1.out.size; simp; omega
        obtain ⟨cs, oc, lc⟩ := OL1.out
        have OC1 := hid oc
        have LC1 := hid lc
        have OC1' := hid (ownsRow_fr oc ((Fr.refl [] w1).alloc (.cells #[.slice a1 r.length c1] 22)))
        have HBR := hid hb1
        clear o1 f1 oc lc hb1
        go_wp2_with (at_builtin; refine wpList_append_row rfl _ _ rfl _ HB1.out _ _ _ rfl OC1'.out _ rfl G1.out rfl (by omega) ?_; intro v7 w7 o7 g7 q7; have L7 := hid (OwnL.grow OC1.out LC1.out O1.out HBR.out (by omega) o7 g7 q7); have F7 : Hid (Fr [] w w7) := (F1.out.alloc (.cells #[.slice a1 r.length c1] 22)).grown g7 fun q hq => .inr (OC1.out.lt q hq).1; clear o7 g7 q7)
        exact ⟨⟨rs ++ [r], e, rfl, L7.out, he.2, by rw [List.length_append]; simp; omega, HNX.out, F7.out⟩, by simp [intOf]; omega⟩
    · have hte : t = b.length := by omega
      have H1 := hid (one_none (f := b.length + 1) (bg := false) (acc := []) (fnd_past (b := b) (t := t) (by omega)))
      have hlt' : ¬ (t : Int) < (b.length : Int) := by omega
      clear hte
      go_wp2
      go_ret2
      exact ret_rread HRES.out H1.out RO.out RF.out
end Go.Proofs.YtplghoibadmdjaaDoor
