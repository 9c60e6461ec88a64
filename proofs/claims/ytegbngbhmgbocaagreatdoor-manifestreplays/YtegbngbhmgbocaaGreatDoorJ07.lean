/-
  What the document's reading of one record answers.
-/
import Derived.Test.YtegbngbhmgbocaaGreatDoorJ06
namespace Go.Proofs.YtegbngbhmgbocaaGreatDoor
open Go.ChangeShapes Go.WideShapes Go.ChangeAt Go.RowKit

theorem fnd_fill {b : List Nat} {t : Nat} (hr : 64 - t % 64 < 7) (hz : ∀ x ∈ (b.drop t).take (64 - t % 64), x = 0) : fnd b t = fnd b (t + (64 - t % 64)) := by
  have h1 : zr t = 64 - t % 64 := by unfold zr; rw [if_pos hr]
  have h2 : lf t = 64 := by unfold lf; rw [if_pos hr]
  have h0 : (t + (64 - t % 64)) % 64 = 0 := by omega
  have h3 := zr_0 h0
  have h4 := lf_0 h0
  unfold fnd
  rw [h1, h2, h3, h4, Nat.add_zero, List.take_zero]
  have hiff : (∀ x ∈ (b.drop t).take (64 - t % 64), x = 0) ↔ (∀ x ∈ ([] : List Nat), x = 0) := ⟨fun _ x hx => (by cases hx), fun _ => hz⟩
  simp only [hiff, Nat.add_zero]
theorem one_fill {b : List Nat} {f t : Nat} {bg : Bool} {acc : List Nat} (hr : 64 - t % 64 < 7) (hz : ∀ x ∈ (b.drop t).take (64 - t % 64), x = 0) : one b f (t + (64 - t % 64)) bg acc = one b f t bg acc := by
  cases f with
  | zero => rfl
  | succ f => rw [one, one, fnd_fill hr hz]

/-- What the document's one tells. -/
def OneT (B : Nat) (w' : World) (o : Option (List Nat × Nat)) (r : Ending) : Prop := match o with
  | none => r = .returned (.tuple #[.slice none 0 0, .int .i64 0, .bool false])
  | some (x, e) => ∃ v', r = .returned (.tuple #[v', .int .i64 (e : Int), .bool true]) ∧ w'.ownsRow B 5 1 v' x.length (bv x) ∧ By x ∧ x.length ≤ e
theorem end_iff {t n q : Nat} (hq : q + 7 = 64 - t % 64) (hn : n ≤ q) : (t + 7 + n) % 64 = 0 ↔ n = q := by omega
theorem end_no {t n q : Nat} (hqi : (64 : Int) - (t : Int) % 64 = (q : Int) + 7) (h : n = q) : ¬ (n : Int) < (64 : Int) - (t : Int) % 64 - 7 := by omega
theorem end_yes {t n q : Nat} (hqi : (64 : Int) - (t : Int) % 64 = (q : Int) + 7) (hn : n ≤ q) (h : n ≠ q) : (n : Int) < (64 : Int) - (t : Int) % 64 - 7 := by omega
theorem kinds (x : Nat) : x = 1 ∨ x = 2 ∨ x = 3 ∨ x = 4 ∨ (((x : Int) == 1) = false ∧ ((x : Int) == 2) = false ∧ ((x : Int) == 3) = false ∧ ((x : Int) == 4) = false ∧ (x = 0 ∨ 4 < x)) := by
  by_cases h1 : x = 1
  · exact .inl h1
  by_cases h2 : x = 2
  · exact .inr (.inl h2)
  by_cases h3 : x = 3
  · exact .inr (.inr (.inl h3))
  by_cases h4 : x = 4
  · exact .inr (.inr (.inr (.inl h4)))
  exact .inr (.inr (.inr (.inr ⟨beq_eq_false_iff_ne.2 (by omega), beq_eq_false_iff_ne.2 (by omega), beq_eq_false_iff_ne.2 (by omega), beq_eq_false_iff_ne.2 (by omega), by omega⟩)))
theorem oneT_some {B : Nat} {w' : World} {o : Option (List Nat × Nat)} {x : List Nat} {e m : Nat} {v' : Value} {E : Int} (h : o = some (x, e)) (hm : m = x.length) (he : E = (e : Int)) (r : w'.ownsRow B 5 1 v' m (bv x)) (hb : By x) (hl : x.length ≤ e) : OneT B w' o (.returned (.tuple #[v', .int .i64 E, .bool true])) := by
  subst h; subst hm; subst he
  exact ⟨v', rfl, r, hb, hl⟩
/-- What holds at a round's beginning. -/
def OnRel (w : World) (b : List Nat) (o : Option (List Nat × Nat)) (v1 v7 v8 : Value) (wr : World) : Prop := ∃ (t f : Nat) (bg : Bool) (acc : List Nat), v1 = .int .i64 (t : Int) ∧ v8 = .bool bg ∧ t ≤ b.length ∧ b.length < t + f ∧ acc.length ≤ t ∧ By acc ∧ one b f t bg acc = o ∧ wr.ownsRow w.heap.size 5 1 v7 acc.length (bv acc) ∧ Fr [] w wr

set_option maxRecDepth 20000 in
set_option maxHeartbeats 20000000 in
theorem one_c (w : World) {v : Value} {b : List Nat} (hr : Rd w v (bv b)) (hb : By b) {t0 : Nat} (ht0 : t0 ≤ b.length) (hl : b.length ≤ 4194304) :
    Calls Tryz.prog 34 #[v, .int .i64 (t0 : Int)] w fun r w' => OneT w.heap.size w' (one b (b.length + 1) t0 false []) r ∧ Fr [] w w' := by
  obtain ⟨a, c, hv⟩ := hr.form
  rw [bv_len] at hv
  subst hv
  have HR := hid hr
  have HB := hid hb
  have A0 : Hid (OnRel w b (one b (b.length + 1) t0 false []) (.int .i64 (t0 : Int)) (.slice none 0 0) (.bool false) w) := ⟨t0, b.length + 1, false, [], rfl, rfl, ht0, by omega, Nat.zero_le _, fun x hx => (by cases hx), rfl, World.ownsRow_nil _ _ _ _, Fr.refl _ _⟩
  generalize one b (b.length + 1) t0 false [] = O at *
  clear hr hb
  go_enter Tryz.func34, Tryz.ntmps34
  go_wp2_with fail
  go_loopw [1, 7, 8] (fun v1 v7 v8 wr => OnRel w b O v1 v7 v8 wr) (fun v1 _ _ _ => b.length + 1 - (intOf v1).toNat)
  case atStart => exact A0.out
  case round =>
    obtain ⟨t, f, bg, acc, rfl, rfl, ht, hf, hal, hba, hone, ho, hfr⟩ := hrel
    have HO := hid hone
    have HBA := hid hba
    have RO := hid ho
    have RF := hid hfr
    clear hone hba ho hfr A0
    by_cases hr7 : 64 - t % 64 < 7
    · have hr7' : (64 : Int) - (t : Int) % 64 < 7 := by omega
      obtain ⟨q, hq⟩ : ∃ q, q = 64 - t % 64 := ⟨_, rfl⟩
      have hqi : (64 : Int) - (t : Int) % 64 = (q : Int) := by omega
      have HQ := hid hq
      have HQI := hid hqi
      have hq7 : q < 7 := by omega
      have hq0 : 0 < q := by omega
      by_cases hlen : t + q ≤ b.length
      · have OF := hid (fun hz => one_fill (b := b) (f := f) (bg := bg) (acc := acc) hr7 (by rw [← hq]; exact hz))
        rw [← hq] at OF
        have hbp : 0 < b.length := by omega
        obtain ⟨bk, off, c', hv, hc', hcell⟩ : ∃ b' off c', Value.slice a b.length c = .slice (some ⟨b', off, none⟩) b.length c' ∧ b.length ≤ c' ∧ ∀ (j n : Nat), b[j]? = some n → w.cell? ⟨b', off + j, none⟩ = some (.int .u8 (n : Int)) := by
          rcases HR.out.split with ⟨h, _⟩ | ⟨b', off, c', h1, h2, _, h3⟩
          · rw [h] at hbp; simp at hbp
          · exact ⟨b', off, c', h1, h2, h3⟩
        simp only [Value.slice.injEq, true_and] at hv
        obtain ⟨rfl, rfl⟩ := hv
        have HC := hid hcell
        have NZ : Hid (∀ j x, j < q → b[t + j]? = some x → x ≠ 0 → O = none) := fun j x hj hx hx0 => by
          rw [← HO.out]
          refine one_none ?_
          unfold fnd
          rw [if_neg]
          intro h
          have hz1 : zr t = q := by unfold zr; rw [if_pos hr7, hq]
          exact hx0 (h.2.1 x (List.mem_of_getElem? (i := j) (by rw [List.getElem?_take, if_pos (by omega), List.getElem?_drop]; exact hx)))
        clear hcell hr7 hq hqi
        have hl2 : ¬ (b.length : Int) < (t : Int) + ((64 : Int) - (t : Int) % 64) := by have := HQI.out; omega
        go_wp2_with fail
        go_loop [10] (fun v10 => ∃ i : Nat, i ≤ q ∧ v10 = .int .i64 (i : Int) ∧ ∀ j x, j < i → b[t + j]? = some x → x = 0) (fun v10 => q - (intOf v10).toNat)
        case atStart => exact ⟨0, Nat.zero_le _, rfl, fun j x hj => by omega⟩
        case round =>
          obtain ⟨i, hi, rfl, hz⟩ := hrel
          have HZ := hid hz
          clear hz
          have hqi := HQI.out
          by_cases hiq : i < q
          · have i1 : (i : Int) < (64 : Int) - (t : Int) % 64 := by omega
            obtain ⟨x, hx⟩ : ∃ x, b[t + i]? = some x := ⟨_, List.getElem?_eq_getElem (by omega)⟩
            have hcx := cell_frw (HC.out _ _ hx) RF.out
            have hx256 := HB.out.at hx
            have HX := hid hx
            have i2 : ((t : Int) + (i : Int)).toNat = t + i := by omega
            have i3 : (t : Int) + (i : Int) < (b.length : Int) := by omega
            have i4 : (0 : Int) ≤ (t : Int) + (i : Int) := by omega
            clear hx hqi
            by_cases hx0 : x = 0
            · subst hx0
              have HZ' : Hid (∀ j x, j < i + 1 → b[t + j]? = some x → x = 0) := fun j x hj hjx => by
                rcases Nat.lt_or_ge j i with h | h
                · exact HZ.out j x h hjx
                · have : j = i := by omega
                  subst this
                  rw [HX.out] at hjx
                  simpa using hjx.symm
              go_wp2
              go_round
              case rel => exact ⟨i + 1, by omega, by go_num, HZ'.out⟩
              case measure => simp [intOf]; omega
            · have hx0' : ((x : Int) == 0) = false := beq_eq_false_iff_ne.2 (by omega)
              have HN := hid (NZ.out i x hiq HX.out hx0)
              go_wp2
              go_ret3
              exact ⟨by rw [HN.out]; exact rfl, RF.out⟩
          · have hiq' : i = q := by omega
            have i1 : ¬ (i : Int) < (64 : Int) - (t : Int) % 64 := by omega
            have HON : Hid (one b f (t + q) bg acc = O) := by
              unfold Hid
              rw [OF.out ?_]
              · exact HO.out
              · intro x hx
                obtain ⟨j, hj⟩ := List.getElem?_of_mem hx
                rw [List.getElem?_take] at hj
                split at hj
                · rw [List.getElem?_drop] at hj
                  exact HZ.out j x (by omega) hj
                · cases hj
            have HTQ : Hid ((t : Int) + ((64 : Int) - (t : Int) % 64) = ((t + q : Nat) : Int)) := by unfold Hid; omega
            clear hqi hiq' hiq
            go_wp2
            rw [HTQ.out]
            exact ⟨⟨t + q, f, bg, acc, rfl, rfl, hlen, by omega, by omega, HBA.out, HON.out, RO.out, RF.out⟩, by simp [intOf]; omega⟩
      · have HN : Hid (O = none) := by
          unfold Hid
          rw [← HO.out]
          refine one_none ?_
          unfold fnd
          rw [if_neg]
          intro h
          have hz1 : zr t = q := by unfold zr; rw [if_pos hr7, hq]
          omega
        have hl2 : (b.length : Int) < (t : Int) + ((64 : Int) - (t : Int) % 64) := by omega
        clear hq hqi
        go_wp2
        go_ret3
        exact ⟨by rw [HN.out]; exact rfl, RF.out⟩
    · have hr7' : ¬ (64 : Int) - (t : Int) % 64 < 7 := by omega
      have hz0 : zr t = 0 := by unfold zr; rw [if_neg hr7]
      obtain ⟨q, hq⟩ : ∃ q, q + 7 = 64 - t % 64 := ⟨64 - t % 64 - 7, by omega⟩
      have hlf : lf t = q + 7 := by unfold lf; rw [if_neg hr7]; omega
      have hqi : (64 : Int) - (t : Int) % 64 = (q : Int) + 7 := by omega
      by_cases h7 : t + 7 ≤ b.length
      rotate_left
      · have HN : Hid (O = none) := by
          unfold Hid
          rw [← HO.out]
          exact one_none (fnd_none (by omega))
        have h7' : (b.length : Int) < (t : Int) + 7 := by omega
        clear hq hqi hlf hz0
        go_wp2
        go_ret3
        exact ⟨by rw [HN.out]; exact rfl, RF.out⟩
      have hbp : 0 < b.length := by omega
      obtain ⟨bk, off, c', hv, hc', hcell⟩ : ∃ b' off c', Value.slice a b.length c = .slice (some ⟨b', off, none⟩) b.length c' ∧ b.length ≤ c' ∧ ∀ (j n : Nat), b[j]? = some n → w.cell? ⟨b', off + j, none⟩ = some (.int .u8 (n : Int)) := by
        rcases HR.out.split with ⟨h, _⟩ | ⟨b', off, c', h1, h2, _, h3⟩
        · rw [h] at hbp; simp at hbp
        · exact ⟨b', off, c', h1, h2, h3⟩
      simp only [Value.slice.injEq, true_and] at hv
      obtain ⟨rfl, rfl⟩ := hv
      obtain ⟨x4, hx4⟩ : ∃ x, b[t + 4]? = some x := ⟨_, List.getElem?_eq_getElem (by omega)⟩
      obtain ⟨x5, hx5⟩ : ∃ x, b[t + 5]? = some x := ⟨_, List.getElem?_eq_getElem (by omega)⟩
      obtain ⟨x6, hx6⟩ : ∃ x, b[t + 6]? = some x := ⟨_, List.getElem?_eq_getElem (by omega)⟩
      have b4 := HB.out.at hx4
      have b5 := HB.out.at hx5
      have b6 := HB.out.at hx6
      have e4 : b.getD (t + 4) 0 = x4 := by simp [List.getD, hx4]
      have e5 : b.getD (t + 5) 0 = x5 := by simp [List.getD, hx5]
      have e6 : b.getD (t + 6) 0 = x6 := by simp [List.getD, hx6]
      obtain ⟨n, hn⟩ : ∃ n, n = x4 + 256 * x5 := ⟨_, rfl⟩
      have hni : (x4 : Int) + 256 * (x5 : Int) = (n : Int) := by omega
      have FN : Hid (n ≤ q → t + 7 + n ≤ b.length → crc ((b.drop (t + 6)).take (1 + n)) = unf ((b.drop t).take 4) → fnd b t = some (x6, (b.drop (t + 7)).take n, t + 7 + n)) := fun h2 h3 h4 => by
        have := fnd_mk (b := b) (t := t) (s := t) (n := n) (by omega) (by rw [e4, e5]; exact hn) h7 (by rw [hz0]; intro x hx; simp at hx) (by rw [hlf]; omega) h3 h4
        rw [this, e6]
      have FX : Hid (¬ (n ≤ q ∧ t + 7 + n ≤ b.length ∧ crc ((b.drop (t + 6)).take (1 + n)) = unf ((b.drop t).take 4)) → O = none) := fun h2 => by
        rw [← HO.out]
        refine one_none ?_
        unfold fnd
        rw [hz0, Nat.add_zero, e4, e5, ← hn, hlf, if_neg (fun h => h2 ⟨by have := h.2.2.1; omega, h.2.2.2⟩)]
      have d4 := cell_frw (hcell _ _ hx4) RF.out
      have d5 := cell_frw (hcell _ _ hx5) RF.out
      have d6 := cell_frw (hcell _ _ hx6) RF.out
      have HNI := hid hni
      have HQ := hid hq
      have HQI := hid hqi
      have p1 : IntKind.i64.wrap ((t : Int) + 4) = (t : Int) + 4 := by rw [IntKind.wrap_i64]; omega
      have p2 : IntKind.i64.wrap ((t : Int) + 5) = (t : Int) + 5 := by rw [IntKind.wrap_i64]; omega
      have p3 : ((t : Int) + 4).toNat = t + 4 := by omega
      have p4 : ((t : Int) + 5).toNat = t + 5 := by omega
      have p5 : ((t : Int) + 6).toNat = t + 6 := by omega
      have p6 : (0 : Int) ≤ (t : Int) + 4 := by omega
      have p7 : (0 : Int) ≤ (t : Int) + 5 := by omega
      have p8 : (t : Int) + 4 < (b.length : Int) := by omega
      have p9 : (t : Int) + 5 < (b.length : Int) := by omega
      have p10 : IntKind.i64.wrap (256 * (x5 : Int)) = 256 * (x5 : Int) := by rw [IntKind.wrap_i64]; omega
      have p11 : IntKind.i64.wrap ((x4 : Int) + 256 * (x5 : Int)) = (x4 : Int) + 256 * (x5 : Int) := by rw [IntKind.wrap_i64]; omega
      have h7' : ¬ (b.length : Int) < (t : Int) + 7 := by omega
      have hn2 : n ≤ 65535 := by omega
      clear hn hni hq hqi hlf hz0 e4 e5 e6 hx4 hx5 hx6
      go_wp2_with fail
      go_quiet (fail)
      rw [HNI.out]
      have rfq := RF.out.drewN nq
      have roq := ownsRow_fr RO.out ((Fr.refl [] wr).drewN nq)
      have d6q : (wr.drewN nq).cell? ⟨bk, off + (t + 6), none⟩ = some (.int .u8 (x6 : Int)) := cell_frw d6 ((Fr.refl [] wr).drewN nq)
      clear d4 d5 d6
      generalize wr.drewN nq = wq at *
      have RFQ := hid rfq
      have ROQ := hid roq
      clear rfq roq
      have UF : Hid (∀ w', Fr [] w w' → Calls Tryz.prog 67 #[.slice (some ⟨bk, off, none⟩) b.length c, .int .i64 (t : Int), .int .i64 4] w' fun e w'' => e = .returned (.int .u64 (unf ((b.drop t).take 4) : Int)) ∧ w'' = w') := fun w' h => refunfixed_c (w := w') (HR.out.fr h) HB.out t 4 (by omega) (by omega) (by omega)
      have p12 : IntKind.i64.wrap ((64 : Int) - (t : Int) % 64 - 7) = (64 : Int) - (t : Int) % 64 - 7 := by rw [IntKind.wrap_i64]; omega
      have p13 : IntKind.i64.wrap ((t : Int) + 7) = (t : Int) + 7 := by rw [IntKind.wrap_i64]; omega
      have p14 : IntKind.i64.wrap ((t : Int) + 7 + (n : Int)) = (t : Int) + 7 + (n : Int) := by rw [IntKind.wrap_i64]; omega
      have p15 : IntKind.i64.wrap ((t : Int) + 6) = (t : Int) + 6 := by rw [IntKind.wrap_i64]; omega
      by_cases hnq : n ≤ q
      rotate_left
      · have HN := hid (FX.out (fun h => hnq h.1))
        have g1 : (64 : Int) - (t : Int) % 64 - 7 < (n : Int) := by have := HQI.out; omega
        go_wp2_with fail
        go_quiet (fail)
        go_wp2
        go_ret3
        exact ⟨by rw [HN.out]; exact rfl, RFQ.out.drewN _⟩
      have g1 : decide ((64 : Int) - (t : Int) % 64 - 7 < (n : Int)) = false := by have := HQI.out; simp; omega
      by_cases hnl : t + 7 + n ≤ b.length
      rotate_left
      · have HN := hid (FX.out (fun h => hnl h.2.1))
        have g2 : (b.length : Int) < (t : Int) + 7 + (n : Int) := by omega
        go_wp2_with fail
        go_quiet (fail)
        go_wp2
        go_ret3
        exact ⟨by rw [HN.out]; exact rfl, RFQ.out.drewN _⟩
      have g2 : decide ((b.length : Int) < (t : Int) + 7 + (n : Int)) = false := by simp; omega
      have RM := hid (HR.out.mid (i := t + 6) (n := 1 + n) (by omega))
      have BM := hid ((HB.out.drop (t + 6)).take (1 + n))
      have hul := unf_lt _ ((HB.out.drop t).take 4)
      have hul' : unf ((b.drop t).take 4) < 4294967296 := by
        rw [List.length_take, List.length_drop, Nat.min_eq_left (by omega)] at hul; exact hul
      have hcl := crc_lt BM.out
      have SM := hid (fun w' h => refsum_c (w := w') (RM.out.fr h) BM.out (by rw [List.length_take, List.length_drop]; omega))
      have FNN := hid (FN.out hnq hnl)
      have DB := hid ((HB.out.drop (t + 7)).take n)
      have DL : Hid (((b.drop (t + 7)).take n).length = n) := by unfold Hid; rw [List.length_take, List.length_drop]; omega
      have RDD : Hid (Rd w (.slice (if c = t + 7 then some ⟨bk, off, none⟩ else some ⟨bk, off + (t + 7), none⟩) n (c - (t + 7))) (bv ((b.drop (t + 7)).take n))) := by
        unfold Hid
        by_cases h : c = t + 7
        · rw [if_pos h]; exact Rd.none_ (by rw [DL.out]; omega) (by omega)
        · rw [if_neg h]; exact HR.out.mid (i := t + 7) (n := n) (by omega)
      generalize (b.drop (t + 7)).take n = d at *
      generalize unf ((b.drop t).take 4) = U at *
      generalize crc ((b.drop (t + 6)).take (1 + n)) = C at *
      have r1 : ((t : Int) + 7 + (n : Int)).toNat = t + 7 + n := by omega
      have r2 : t + 7 + n - (t + 6) = 1 + n := by omega
      have r3 : ¬ (c = t + 6) := by omega
      have r4 : (t : Int) + 6 ≤ (t : Int) + 7 + (n : Int) := by omega
      have r5 : (t : Int) + 7 + (n : Int) ≤ (c : Int) := by omega
      have r6 : (0 : Int) ≤ (t : Int) + 6 := by omega
      have r7 : t + 6 ≤ t + 7 + n := by omega
      have r8 : t + 7 + n ≤ c := by omega
      have r9 : (0 : Int) ≤ (t : Int) + 7 + (n : Int) := by omega
      by_cases hcu : C = U
      rotate_left
      · have HN := hid (FX.out (fun h => hcu h.2.2))
        have g3 : ((U : Int) == (C : Int)) = false := beq_eq_false_iff_ne.2 (by omega)
        go_wp2_with fail
        go_quiet (first | (go_at_call 67; exact Calls.quiet_of_same (UF.out _ (RFQ.out.drewN _))) | (go_at_call 68; exact Calls.quiet_of_same (SM.out _ (RFQ.out.drewN _))))
        go_wp2
        go_ret3
        exact ⟨by rw [HN.out]; exact rfl, RFQ.out.drewN _⟩
      have g3 : ((U : Int) == (C : Int)) = true := by rw [hcu]; simp
      have HFD := hid (FNN.out hcu)
      clear FNN FN FX
      go_wp2_with fail
      go_quiet (first | (go_at_call 67; exact Calls.quiet_of_same (UF.out _ (RFQ.out.drewN _))) | (go_at_call 68; exact Calls.quiet_of_same (SM.out _ (RFQ.out.drewN _))))
      clear p1 p2 p3 p4 p5 p6 p7 p8 p9 p10 p11 p12 p13 p14 p15 r2 r3 r4 r6 r7 g1 g2 g3 UF SM hul hul' hcl d6q hr7
      have rfz := RFQ.out.drewN nq
      have roz := ownsRow_fr ROQ.out ((Fr.refl [] wq).drewN nq)
      generalize wq.drewN nq = wz at *
      have RFZ := hid rfz
      have ROZ := hid roz
      have RDZ := hid (RDD.out.fr rfz)
      clear rfz roz
      obtain ⟨g, rfl⟩ : ∃ g, f = g + 1 := ⟨f - 1, by omega⟩
      have s1 : ((t : Int) + 7).toNat = t + 7 := by omega
      have s2 : t + 7 + n - (t + 7) = n := by omega
      have s3 : (t : Int) + 7 ≤ (t : Int) + 7 + (n : Int) := by omega
      have s4 : t + 7 ≤ t + 7 + n := by omega
      have s5 : (0 : Int) ≤ (t : Int) + 7 := by omega
      have s6 : ¬ (4194304 : Int) < (acc.length : Int) + (n : Int) := by omega
      have hcs := kinds x6
      have BAD : Hid (x6 ≠ kd bg true → ¬ (x6 = kd bg false ∧ (t + 7 + n) % 64 = 0) → O = none) := fun h1 h2 => by rw [← HO.out]; exact one_bad HFD.out h1 h2
      have END : Hid (x6 = kd bg true → O = some (acc ++ d, t + 7 + n)) := fun h => by rw [← HO.out]; exact one_end HFD.out h
      have MOR : Hid (x6 = kd bg false → (t + 7 + n) % 64 = 0 → one b g (t + 7 + n) true (acc ++ d) = O) := fun h1 h2 => by rw [← HO.out]; exact (one_more HFD.out h1 h2).symm
      have SH := hid (end_iff HQ.out hnq)
      have SI := hid (fun h => end_no (n := n) HQI.out h)
      have SJ := hid (fun h => end_yes HQI.out hnq h)
      clear HQ HQI
      cases bg
      · rcases hcs with rfl | rfl | rfl | rfl | ⟨k1, k2, k3, k4, k5⟩
        · have HOE := hid (END.out rfl)
          go_wp2_with (at_builtin; refine wpList_append_bv rfl _ _ rfl ROZ.out rfl RFZ.out (Nat.le_refl _) RFZ.out.size _ RDZ.out rfl (by rw [DL.out]; omega) ?_; intro v5 w5 o5 f5; rw [DL.out] at o5; have e5 := ownsRow_slice o5; obtain ⟨a5, c5, hv5, _⟩ := e5; subst hv5; have O5 := hid o5; have F5 := hid f5; clear o5 f5)
          all_goals go_ret3
          all_goals exact ⟨oneT_some HOE.out (by rw [List.length_append, DL.out]) (by omega) O5.out (HBA.out.append DB.out) (by rw [List.length_append, DL.out]; omega), F5.out⟩
        · by_cases hnq' : n = q
          · have HOM := hid (MOR.out rfl (SH.out.2 hnq'))
            have hsi := SI.out hnq'
            clear hnq'
            go_wp2_with (at_builtin; refine wpList_append_bv rfl _ _ rfl ROZ.out rfl RFZ.out (Nat.le_refl _) RFZ.out.size _ RDZ.out rfl (by rw [DL.out]; omega) ?_; intro v5 w5 o5 f5; rw [DL.out] at o5; have e5 := ownsRow_slice o5; obtain ⟨a5, c5, hv5, _⟩ := e5; subst hv5; have O5 := hid o5; have F5 := hid f5; clear o5 f5)
            have hee : (t : Int) + 7 + (n : Int) = ((t + 7 + n : Nat) : Int) := by omega
            rw [hee]
            exact ⟨⟨t + 7 + n, g, true, acc ++ d, rfl, rfl, hnl, by omega, by rw [List.length_append, DL.out]; omega, HBA.out.append DB.out, HOM.out, by rw [List.length_append, DL.out]; exact O5.out, F5.out⟩, by simp [intOf]; omega⟩
          · have HN := hid (BAD.out (by decide) (fun h => hnq' (SH.out.1 h.2)))
            have hsj := SJ.out hnq'
            go_wp2
            go_ret3
            exact ⟨by rw [HN.out]; exact rfl, RFZ.out⟩
        · have HN := hid (BAD.out (by decide) (fun h => by have := h.1; simp [kd] at this))
          go_wp2
          go_ret3
          exact ⟨by rw [HN.out]; exact rfl, RFZ.out⟩
        · have HN := hid (BAD.out (by decide) (fun h => by have := h.1; simp [kd] at this))
          go_wp2
          go_ret3
          exact ⟨by rw [HN.out]; exact rfl, RFZ.out⟩
        · have HN := hid (BAD.out (fun h => by simp [kd] at h; omega) (fun h => by have := h.1; simp [kd] at this; omega))
          rcases k5 with rfl | k5
          all_goals
            go_wp2
            go_ret3
            exact ⟨by rw [HN.out]; exact rfl, RFZ.out⟩
      · rcases hcs with rfl | rfl | rfl | rfl | ⟨k1, k2, k3, k4, k5⟩
        · have HN := hid (BAD.out (by decide) (fun h => by have := h.1; simp [kd] at this))
          go_wp2
          go_ret3
          exact ⟨by rw [HN.out]; exact rfl, RFZ.out⟩
        · have HN := hid (BAD.out (by decide) (fun h => by have := h.1; simp [kd] at this))
          go_wp2
          go_ret3
          exact ⟨by rw [HN.out]; exact rfl, RFZ.out⟩
        · by_cases hnq' : n = q
          · have HOM := hid (MOR.out rfl (SH.out.2 hnq'))
            have hsi := SI.out hnq'
            clear hnq'
            go_wp2_with (at_builtin; refine wpList_append_bv rfl _ _ rfl ROZ.out rfl RFZ.out (Nat.le_refl _) RFZ.out.size _ RDZ.out rfl (by rw [DL.out]; omega) ?_; intro v5 w5 o5 f5; rw [DL.out] at o5; have e5 := ownsRow_slice o5; obtain ⟨a5, c5, hv5, _⟩ := e5; subst hv5; have O5 := hid o5; have F5 := hid f5; clear o5 f5)
            have hee : (t : Int) + 7 + (n : Int) = ((t + 7 + n : Nat) : Int) := by omega
            rw [hee]
            exact ⟨⟨t + 7 + n, g, true, acc ++ d, rfl, rfl, hnl, by omega, by rw [List.length_append, DL.out]; omega, HBA.out.append DB.out, HOM.out, by rw [List.length_append, DL.out]; exact O5.out, F5.out⟩, by simp [intOf]; omega⟩
          · have HN := hid (BAD.out (by decide) (fun h => hnq' (SH.out.1 h.2)))
            have hsj := SJ.out hnq'
            go_wp2
            go_ret3
            exact ⟨by rw [HN.out]; exact rfl, RFZ.out⟩
        · have HOE := hid (END.out rfl)
          go_wp2_with (at_builtin; refine wpList_append_bv rfl _ _ rfl ROZ.out rfl RFZ.out (Nat.le_refl _) RFZ.out.size _ RDZ.out rfl (by rw [DL.out]; omega) ?_; intro v5 w5 o5 f5; rw [DL.out] at o5; have e5 := ownsRow_slice o5; obtain ⟨a5, c5, hv5, _⟩ := e5; subst hv5; have O5 := hid o5; have F5 := hid f5; clear o5 f5)
          all_goals go_ret3
          all_goals exact ⟨oneT_some HOE.out (by rw [List.length_append, DL.out]) (by omega) O5.out (HBA.out.append DB.out) (by rw [List.length_append, DL.out]; omega), F5.out⟩
        · have HN := hid (BAD.out (fun h => by simp [kd] at h; omega) (fun h => by have := h.1; simp [kd] at this; omega))
          rcases k5 with rfl | k5
          all_goals
            go_wp2
            go_ret3
            exact ⟨by rw [HN.out]; exact rfl, RFZ.out⟩
end Go.Proofs.YtegbngbhmgbocaaGreatDoor
namespace Go.Proofs.YtegbngbhmgbocaaGreatDoor
open Go.ChangeShapes Go.WideShapes Go.ChangeAt Go.RowKit

/-- The bytes of records together. -/
def sz (rs : List (List Nat)) : Nat := (rs.map List.length).sum
theorem sz_snoc {rs : List (List Nat)} {k : Nat} {r : List Nat} (h : rs[k]? = some r) : sz (rs.take (k + 1)) = sz (rs.take k) + r.length := by
  unfold sz; rw [List.take_add_one, h]; simp
theorem sz_take_le (rs : List (List Nat)) (k : Nat) : sz (rs.take k) ≤ sz rs := by
  have h : sz rs = sz (rs.take k) + sz (rs.drop k) := by
    unfold sz
    rw [← List.sum_append, ← List.map_append, List.take_append_drop]
  omega
theorem sz_mem {rs : List (List Nat)} {r : List Nat} (h : r ∈ rs) : r.length ≤ sz rs := by
  obtain ⟨k, hk⟩ := List.getElem?_of_mem h
  have := sz_snoc hk
  have := sz_take_le rs (k + 1)
  omega

/-- What few tells. -/
def FewT (rs : List (List Nat)) (e : Ending) : Prop := ∃ fb, e = .returned (.bool fb) ∧ (fb = true → rs.length ≤ 30 ∧ sz rs ≤ 3000)
theorem infoN : (Tryz.prog.info? 3).map (fun i => (i.zero, i.size, i.bytes)) = some (some (.int .i64 0), 1, 8) := by kernel_rfl
/-- Numbers as the program's values. -/
def iv (ns : List Nat) : List Value := ns.map fun n : Nat => Value.int .i64 (n : Int)
/-- append(own, n) for a number. -/
theorem wpList_append_int {w : World} {ops : Array Oper} {rest : List Oper} {o : Oper} {a : Act} {Q : Exit → Act → World → Prop} (hgd : o.guard = none) (s x : Operand)
    (ho : o.op = .call { callee := .builtin .append, args := #[s, x], argTypes := #[57, 57] }) (base : Nat) (hbase : base ≤ w.heap.size) (v : Value) (n : Nat) (xs : List Value) (hs : a.eval s = v) (hown : w.ownsRow base 3 1 v n xs) (G : Nat) (hx : a.eval x = .slice (some ⟨G, 0, none⟩) 1 1) {z : Int} {T : TypeId} (hG : w.heap[G]? = some (.cells #[.int .i64 z] T (0, 0)))
    (hl : n ≤ 100000000000)
    (h : ∀ v' w', w'.ownsRow base 3 1 v' (n + 1) (xs ++ [.int .i64 z]) → w.grownBy w' v.ownBlock → (v'.ownBlock = v.ownBlock ∨ v'.ownBlock = some w.heap.size) → wpList Tryz.prog ops Q rest (a.put o.dst v') w') :
    wpList Tryz.prog ops Q (o :: rest) a w := by
  obtain ⟨i0, hi, hz0, hz1, hz2⟩ := info_parts infoN
  refine wpList_append_own_at w hgd s x 57 ho base 3 i0 _ 1 8 Tryz.underlying57 hi hz0 hz1 hz2 rfl (by decide) v n xs hs hown ⟨G, 0, none⟩ 1 1 [.int .i64 z] hx rfl ?_ ?_ (by unfold maxLen; omega) (by omega) hbase fun v' w' h1 h2 _ h3 => h v' w' h1 h2 h3
  · intro j u' hj
    rw [Addr.add_lit, Nat.zero_add, blk_cell hG, ← Array.getElem?_toList]
    exact hj
  · intro u' hu'
    simp at hu'
    subst hu'; rfl

theorem logL_take {rs : List (List Nat)} {k : Nat} {r : List Nat} (h : rs[k]? = some r) : logL 0 (rs.take (k + 1)) = logL 0 (rs.take k) ++ appL (logL 0 (rs.take k)).length r := by
  rw [List.take_add_one, h]
  show logL 0 (rs.take k ++ [r]) = _
  rw [logL_snoc, Nat.zero_add]
theorem endsL_take {rs : List (List Nat)} {k : Nat} {r : List Nat} (h : rs[k]? = some r) : endsL 0 (rs.take (k + 1)) = endsL 0 (rs.take k) ++ [(logL 0 (rs.take (k + 1))).length] := by
  rw [List.take_add_one, h]
  show endsL 0 (rs.take k ++ [r]) = _
  rw [endsL_snoc, Nat.zero_add]; rfl

end Go.Proofs.YtegbngbhmgbocaaGreatDoor
namespace Go.Proofs.YtegbngbhmgbocaaGreatDoor
open Go.ChangeShapes Go.WideShapes Go.ChangeAt Go.RowKit

theorem Rd.upto {w : World} {a : Option Addr} {n c : Nat} {ns : List Nat} (h : Rd w (.slice a n c) (bv ns)) {k : Nat} (hk : k ≤ n) : Rd w (.slice a k c) (bv (ns.take k)) := by
  have hn := h.shape
  subst hn
  rcases h with ⟨h, h'⟩ | ⟨a', c', h, h4, h5⟩
  · simp only [Value.slice.injEq] at h
    obtain ⟨rfl, h0, rfl⟩ := h
    have : ns = [] := List.eq_nil_of_length_eq_zero h0
    subst this
    simp only [List.length_nil] at hk
    have : k = 0 := by omega
    subst this
    exact .inl ⟨rfl, rfl⟩
  · simp only [Value.slice.injEq, bv_len] at h
    obtain ⟨rfl, _, rfl⟩ := h
    refine .inr ⟨a', c, by rw [bv_len, List.length_take, Nat.min_eq_left hk], by rw [bv_len, List.length_take]; rw [bv_len] at h4; omega, fun j u hj => h5 j u ?_⟩
    rw [bv_take, List.getElem?_take] at hj
    split at hj
    · exact hj
    · cases hj
theorem iv_len (ns : List Nat) : (iv ns).length = ns.length := List.length_map _
theorem iv_at {ns : List Nat} {k n : Nat} (h : ns[k]? = some n) : (iv ns)[k]? = some (.int .i64 (n : Int)) := by unfold iv; rw [List.getElem?_map, h]; rfl

end Go.Proofs.YtegbngbhmgbocaaGreatDoor
