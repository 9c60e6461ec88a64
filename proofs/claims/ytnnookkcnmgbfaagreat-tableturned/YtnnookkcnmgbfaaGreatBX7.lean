/-
  The document's Parse of a block.
-/
import Derived.Test.YtnnookkcnmgbfaaGreatBW
import Derived.Test.YtnnookkcnmgbfaaGreatJ30
import Derived.Test.YtnnookkcnmgbfaaGreatJ02
import Derived.Test.YtnnookkcnmgbfaaGreatJ15
namespace Go.Proofs.YtnnookkcnmgbfaaGreat
open Go.ChangeShapes Go.WideShapes Go.ChangeAt Go.RowKit

theorem beq_strB {r q : List Nat} (hr : By r) (hq : By q) : ((strOf r).toList == (strOf q).toList) = decide (r = q) := by
  by_cases h : r = q
  · subst h; simp
  · rw [decide_eq_false h, beq_eq_false_iff_ne]
    intro e
    apply h
    apply strOf_inj hr hq
    apply ByteArray.ext
    apply Array.toList_inj.1
    rw [ByteArray.toList_eq, ByteArray.toList_eq] at e
    exact e
/-- How many places a block has. -/
theorem plc_count {r : Nat} (hr : 1 ≤ r) (ps : Ps) : ∀ i, (plc r ps i).length = 4 * ((i + r - 1) / r)
  | 0 => by
    rw [plc, List.length_nil, Nat.zero_add, Nat.div_eq_of_lt (by omega)]
  | i + 1 => by
    have ih := plc_count hr ps i
    rw [plc]
    have e1 : i + 1 + r - 1 = i + r := by omega
    rw [e1, Nat.add_div_right _ (by omega)]
    by_cases h : i % r = 0
    · rw [if_pos h, List.length_append, ih, fixL_len]
      obtain ⟨q, rfl⟩ := Nat.dvd_of_mod_eq_zero h
      rw [Nat.mul_div_cancel_left _ (by omega), Nat.add_sub_assoc hr, Nat.mul_add_div (by omega), Nat.div_eq_of_lt (by omega)]
      omega
    · rw [if_neg h, ih]
      congr 1
      have hd := Nat.div_add_mod i r
      have hm := Nat.mod_lt i (show 0 < r by omega)
      generalize hq : i / r = q at *
      generalize hmm : i % r = m at *
      have e2 : i + r - 1 = r * (q + 1) + (m - 1) := by rw [Nat.mul_add, Nat.mul_one]; omega
      rw [e2, Nat.mul_add_div (by omega), Nat.div_eq_of_lt (by omega)]
/-- What Parse answers. -/
def PrsO (w' : World) (B : Nat) (b : List Nat) (e : Ending) : Prop :=
  (∃ ps r v, Blk b ps r ∧ e = .returned (.tuple #[v, .int .i64 0]) ∧ ColO w' B v ps) ∨ ((∀ ps r, ¬ Blk b ps r) ∧ e = .returned (.tuple #[.slice none 0 0, .int .i64 72]))
/-- What all operations of a region keep may be said stronger on the way. -/
theorem wpAnyH_str {P : Program} {md : Region.Mode} {ops : Array Oper} {Q : Exit → Act → World → Prop} {S S' : World → Prop} (h : ∀ w, S' w → S w) : ∀ (fuel : Nat) (listed : Array Bool) (a : Act) (w : World), wpAnyH P md ops Q S' fuel listed a w → wpAnyH P md ops Q S fuel listed a w
  | 0, _, _, _, k => k
  | fuel + 1, _, _, _, k => ⟨k.1, fun i hi => wpOp_mono (fun a' w' h' => ⟨h _ h'.1, wpAnyH_str h fuel _ a' w' h'.2⟩) (k.2 i hi)⟩
theorem blk_ents {b : List Nat} (hb : b.length ≤ 1000000000) {k : Nat} (h : halfL b = some k) (_hk : k + 4 ≤ b.length) {ps : Ps} {r : Nat} (B : Blk b ps r) : entsF (k + 1) (b.take k) 0 [] = some ps := by
  have h0 := read_blk B (blk_lens B hb).1 (by have := (blk_lens B hb).2; omega) (f := (bod r ps ps.length).length + 1) (by omega)
  have hkk : k = (bod r ps ps.length).length := by have := h0.1; rw [h] at this; exact Option.some.inj this
  have h2 := lines_ents _ _ _ _ _ h0.2.1
  rw [← hkk, psL_lns] at h2
  exact h2
theorem blk_countB {b : List Nat} (hb : b.length ≤ 1000000000) {n : Nat} (h : halfL b = some (b.length - 4 - 4 * n)) (hn : 4 * n + 4 ≤ b.length) {ps : Ps} {r : Nat} (B : Blk b ps r) : (ps.length + r - 1) / r = n := by
  have h0 := half_blk (r := r) (ps := ps) (blk_lens B hb).1
  rw [B.eq, h] at h0
  have h1 := Option.some.inj h0.1
  have h3 : (Go.Proofs.YtnnookkcnmgbfaaGreat.blk r ps).length = b.length := by rw [B.eq]
  unfold Go.Proofs.YtnnookkcnmgbfaaGreat.blk at h3
  rw [List.length_append, List.length_append, fixL_len, plc_count B.lo] at h3
  omega

set_option maxRecDepth 20000 in
set_option maxHeartbeats 3200000 in
theorem rparse_c (w : World) {v : Value} {b : List Nat} (hr : Rd w v (bv b)) (hb : By b) (hl : b.length ≤ 20000) :
    Calls Tryz.prog 24 #[v] w fun e w' => PrsO w' w.heap.size b e ∧ Fr [] w w' := by
  have HR := hid hr
  have HB := hid hb
  obtain ⟨a, c, hv⟩ := hr.form
  rw [bv_len] at hv
  subst hv
  obtain ⟨L, hL⟩ : ∃ L, L = b.length := ⟨_, rfl⟩
  have HL := hid hL
  rw [← hL] at hl HR ⊢
  have hbl : Hid (b.length ≤ 1000000000) := hid (by rw [← hL]; omega)
  clear hr hb hL
  by_cases h4 : L < 4
  · have h4' : (L : Int) < 4 := by omega
    have hno : Hid (∀ ps r, ¬ Blk b ps r) := hid (no_half hbl.out (by unfold halfL; rw [if_neg (by have := HL.out; omega)]))
    go_enter Tryz.func24, Tryz.ntmps24
    go_wp2
    go_ret2
    exact ⟨.inr ⟨hno.out, rfl⟩, Fr.refl _ _⟩
  have h4' : ¬ (L : Int) < 4 := by omega
  obtain ⟨d, hd⟩ : ∃ d, d = L - 4 := ⟨_, rfl⟩
  have hdi : (L : Int) - 4 = (d : Int) := by omega
  have hdw : IntKind.i64.wrap (d : Int) = (d : Int) := by rw [IntKind.wrap_i64]; omega
  have UC := refunfixed_c HR.out HB.out d 4 (by omega) (by have := HL.out; omega) (by have := HL.out; omega)
  have ht4 : (b.drop d).take 4 = b.drop (b.length - 4) := by rw [← HL.out, ← hd]; exact List.take_of_length_le (by rw [List.length_drop, ← HL.out]; omega)
  rw [ht4] at UC
  obtain ⟨n, hn⟩ : ∃ n, n = unf (b.drop (b.length - 4)) := ⟨_, rfl⟩
  rw [← hn] at UC
  have HD := hid hd
  have HN := hid hn
  have hn32 : n < 4294967296 := by
    have := unf_lt _ (HB.out.drop (b.length - 4))
    rw [List.length_drop, show b.length - (b.length - 4) = 4 by have := HL.out; omega] at this
    rw [hn]; exact this
  have UC := hid UC
  have hnw : IntKind.i64.wrap (n : Int) = (n : Int) := by rw [IntKind.wrap_i64]; omega
  obtain ⟨g, hg⟩ : ∃ g, g = L / 4 := ⟨_, rfl⟩
  have hgi : (L : Int) / 4 = (g : Int) := by omega
  have hgt : (L : Int).tdiv 4 = (g : Int) := by rw [Int.tdiv_eq_ediv_of_nonneg (by omega)]; exact hgi
  have hgw : IntKind.u64.wrap (g : Int) = (g : Int) := by rw [IntKind.wrap_u64]; omega
  have hgw2 : IntKind.i64.wrap (g : Int) = (g : Int) := by rw [IntKind.wrap_i64]; omega
  obtain ⟨m4, hm4⟩ : ∃ m, m = 4 * n := ⟨_, rfl⟩
  have hm4i : 4 * (n : Int) = (m4 : Int) := by omega
  have hm4w : IntKind.i64.wrap (m4 : Int) = (m4 : Int) := by rw [IntKind.wrap_i64]; omega
  have hm5w : IntKind.i64.wrap ((m4 : Int) + 4) = (m4 : Int) + 4 := by rw [IntKind.wrap_i64]; omega
  have HG := hid hg
  have HM := hid hm4
  clear hd ht4 hn hg hm4
  go_enter Tryz.func24, Tryz.ntmps24
  go_wp2_with fail
  refine UC.out.mono ?_
  rintro e w' ⟨rfl, hw'⟩
  have hw'' := hw'.symm
  clear hw' UC
  subst hw''
  by_cases c1 : g < n
  · have c1' : (g : Int) < (n : Int) := by omega
    have hno : Hid (∀ ps r, ¬ Blk b ps r) := hid (no_half hbl.out (by unfold halfL; rw [← HN.out, if_neg (by have := HL.out; have := HG.out; omega)]))
    go_wp2
    go_ret2
    exact ⟨.inr ⟨hno.out, rfl⟩, Fr.refl _ _⟩
  have c1' : ¬ (g : Int) < (n : Int) := by omega
  by_cases c2 : L < m4 + 4
  · have c2' : (L : Int) < (m4 : Int) + 4 := by omega
    have hno : Hid (∀ ps r, ¬ Blk b ps r) := hid (no_half hbl.out (by unfold halfL; rw [← HN.out, if_neg (by have := HL.out; have := HM.out; omega)]))
    go_wp2
    go_ret2
    exact ⟨.inr ⟨hno.out, rfl⟩, Fr.refl _ _⟩
  have c2' : ¬ (L : Int) < (m4 : Int) + 4 := by omega
  obtain ⟨k, hk⟩ : ∃ k, k = L - 4 - m4 := ⟨_, rfl⟩
  have hki : (d : Int) - (m4 : Int) = (k : Int) := by have := HD.out; omega
  have hkw : IntKind.i64.wrap (k : Int) = (k : Int) := by rw [IntKind.wrap_i64]; omega
  have HH : Hid (halfL b = some k) := hid (by unfold halfL; rw [← HN.out, if_pos (by have := HL.out; have := HM.out; omega), hk, ← HL.out, HM.out])
  have HH2 : Hid (halfL b = some (b.length - 4 - 4 * n)) := hid (by rw [HH.out, hk, HL.out, HM.out])
  obtain ⟨hhead, rhead⟩ := headB (l := k) HR.out HL.out.symm (by omega)
  have hkl : (b.take k).length = k := by rw [List.length_take]; have := HL.out; omega
  have EC := entries_c w rhead (HB.out.take k) (by rw [hkl]; omega)
  rw [hkl] at EC
  have hk4 : k + 4 ≤ L := by omega
  have EC := hid EC
  clear rhead hk
  go_wp2_with fail
  refine EC.out.mono ?_
  rintro e w1 ⟨he, f1⟩
  have F1 := hid f1
  clear f1 EC hhead
  rcases hE : entsF (k + 1) (b.take k) 0 [] with _ | ps
  · rw [hE] at he
    have he' : e = _ := he
    subst he'
    have hno : Hid (∀ ps r, ¬ Blk b ps r) := hid (fun ps r B => by have := blk_ents hbl.out HH.out (by have := HL.out; omega) B; rw [hE] at this; cases this)
    clear hE he
    go_wp2
    go_ret2
    exact ⟨.inr ⟨hno.out, rfl⟩, F1.out⟩
  rw [hE] at he
  obtain ⟨vl, rfl, co⟩ := he
  have HE := hid hE
  have CO := hid co
  have ES := ents_small _ _ _ _ _ (HB.out.take k) (fun x hx => by cases hx) (Nat.zero_le _) hE
  rw [hkl] at ES
  have hps : ps.length ≤ 6667 := by omega
  obtain ⟨la, lc, hvl⟩ : ∃ la lc, vl = .slice la ps.length lc := by
    obtain ⟨cs, o, _⟩ := co
    obtain ⟨x, y, e, _⟩ := ownsRow_slice o
    exact ⟨x, y, e⟩
  subst hvl
  have BS := hid (fun r => bod_small (r := r) ES.2 (by omega) ps.length)
  have UNI : Hid (∀ ps' r, Blk b ps' r → ps' = ps) := hid (fun ps' r B => by have := blk_ents hbl.out HH.out (by have := HL.out; omega) B; rw [HE.out] at this; exact (Option.some.inj this).symm)
  have RC := hid (rrises_c w1 CO.out.rd (by omega))
  obtain ⟨P, hP⟩ : ∃ P, P = ps.length := ⟨_, rfl⟩
  have HP := hid hP
  rw [← hP] at CO RC hps ⊢
  clear hE co ES hP
  go_wp2_with fail
  refine RC.out.mono ?_
  rintro e w2 ⟨he, f2⟩
  have F2 := hid (F1.out.trans f2)
  have CO2 := hid (CO.out.fr f2)
  clear f2 RC CO F1
  rcases he with ⟨rfl, hri⟩ | ⟨rfl, hri⟩
  · have HRI := hid hri
    clear hri
    go_wp2_with fail
    go_loopw [7] (fun v7 wr => ∃ r : Nat, 1 ≤ r ∧ r ≤ 65 ∧ v7 = .int .i64 (r : Int) ∧ (∀ q, q < r → ¬ Blk b ps q) ∧ ColO wr w.heap.size (.slice la P lc) ps ∧ Fr [] w wr) (fun v7 _ => 65 - (intOf v7).toNat)
    case atStart => exact ⟨1, by omega, by omega, rfl, fun q hq B => by have := B.lo; omega, CO2.out, F2.out⟩
    case round =>
      obtain ⟨r, hr1, hr65, rfl, hnb, hC, hF⟩ := hrel
      have HNB := hid hnb
      have HC := hid hC
      have HF := hid hF
      clear hnb hC hF CO2 F2
      by_cases h64 : r ≤ 64
      · have h64' : (r : Int) ≤ 64 := by omega
        obtain ⟨q, hq⟩ : ∃ q, q = (P + r - 1) / r := ⟨_, rfl⟩
        have HQ := hid hq
        have hqle : q ≤ P + r := by rw [hq]; exact Nat.le_trans (Nat.div_le_self _ _) (by omega)
        obtain ⟨u, hu⟩ : ∃ u, u = P + r := ⟨_, rfl⟩
        obtain ⟨u1, hu1⟩ : ∃ u, u = P + r - 1 := ⟨_, rfl⟩
        have e1 : (P : Int) + (r : Int) = (u : Int) := by omega
        have e1w : IntKind.i64.wrap (u : Int) = (u : Int) := by rw [IntKind.wrap_i64]; omega
        have e2 : (u : Int) - 1 = (u1 : Int) := by omega
        have e2w : IntKind.i64.wrap (u1 : Int) = (u1 : Int) := by rw [IntKind.wrap_i64]; omega
        have e3 : (u1 : Int).tdiv (r : Int) = (q : Int) := by rw [Int.tdiv_eq_ediv_of_nonneg (by omega), hq, hu1]; simp
        clear hu hu1
        have e3w : IntKind.i64.wrap (q : Int) = (q : Int) := by rw [IntKind.wrap_i64]; omega
        have hr0 : ¬ (r : Int) = 0 := by omega
        have enw := hnw
        have HSB : Hid (∀ w', Fr [] w w' → Rd w' (.slice a L c) (bv b)) := hid (fun w' f => HR.out.fr f)
        clear hq
        go_upto_region 12 with fail
        obtain ⟨D0, hD⟩ : ∃ W, W = wr.drew := ⟨_, rfl⟩
        have DF : Hid (Fr [] wr D0) := hid (by rw [hD]; exact (Fr.refl _ wr).drew)
        refine wp_region_held_drew (S := fun w' => Rd w' (.slice a L c) (bv b)) (by kernel_rfl) (by rw [← hD]; exact HSB.out _ (HF.out.trans DF.out)) (fun hS => ?_)
        rw [← hD] at hS ⊢
        clear hD
        by_cases hqn : q = n
        · have heq : ((q : Int) == (n : Int)) = true := by rw [hqn]; simp
          refine wpAnyH_take (i := 0) (v := .slice la P lc) rfl (by kernel_rfl) (by kernel_rfl) (by kernel_rfl) (fun _ _ _ h => h) (.inl ⟨by rfl, fun wx _ => by go_simp⟩) hS ?_
          simp only [Act.put, List.getElem_toArray, List.getElem_cons_zero, List.set_cons_succ, List.set_cons_zero, List.setIfInBounds_toArray]
          refine wpAnyH_take (i := 1) (v := .int .i64 (P : Int)) rfl (by kernel_rfl) (by kernel_rfl) (by kernel_rfl) (fun _ _ _ h => h) (.inl ⟨by rfl, fun wx _ => by go_simp⟩) hS ?_
          simp only [Act.put, List.getElem_toArray, List.getElem_cons_succ, List.getElem_cons_zero, List.set_cons_succ, List.set_cons_zero, List.setIfInBounds_toArray]
          refine wpAnyH_take (i := 2) (v := .int .i64 (r : Int)) rfl (by kernel_rfl) (by kernel_rfl) (by kernel_rfl) (fun _ _ _ h => h) (.inl ⟨by rfl, fun wx _ => by go_simp⟩) hS ?_
          simp only [Act.put, List.getElem_toArray, List.getElem_cons_succ, List.getElem_cons_zero, List.set_cons_succ, List.set_cons_zero, List.setIfInBounds_toArray]
          refine wpAnyH_take (i := 3) (v := .int .i64 (u : Int)) rfl (by kernel_rfl) (by kernel_rfl) (by kernel_rfl) (fun _ _ _ h => h) (.inl ⟨by rfl, fun wx _ => by have := e1; have := e1w; go_simp⟩) hS ?_
          simp only [Act.put, List.getElem_toArray, List.getElem_cons_succ, List.getElem_cons_zero, List.set_cons_succ, List.set_cons_zero, List.setIfInBounds_toArray]
          refine wpAnyH_take (i := 4) (v := .int .i64 (u1 : Int)) rfl (by kernel_rfl) (by kernel_rfl) (by kernel_rfl) (fun _ _ _ h => h) (.inl ⟨by rfl, fun wx _ => by have := e2; have := e2w; go_simp⟩) hS ?_
          simp only [Act.put, List.getElem_toArray, List.getElem_cons_succ, List.getElem_cons_zero, List.set_cons_succ, List.set_cons_zero, List.setIfInBounds_toArray]
          refine wpAnyH_take (i := 5) (v := .int .i64 (r : Int)) rfl (by kernel_rfl) (by kernel_rfl) (by kernel_rfl) (fun _ _ _ h => h) (.inl ⟨by rfl, fun wx _ => by go_simp⟩) hS ?_
          simp only [Act.put, List.getElem_toArray, List.getElem_cons_succ, List.getElem_cons_zero, List.set_cons_succ, List.set_cons_zero, List.setIfInBounds_toArray]
          refine wpAnyH_take (i := 6) (v := .int .i64 (q : Int)) rfl (by kernel_rfl) (by kernel_rfl) (by kernel_rfl) (fun _ _ _ h => h) (.inl ⟨by rfl, fun wx _ => by have := e3; have := e3w; have := hr0; go_simp; omega⟩) hS ?_
          simp only [Act.put, List.getElem_toArray, List.getElem_cons_succ, List.getElem_cons_zero, List.set_cons_succ, List.set_cons_zero, List.setIfInBounds_toArray]
          refine wpAnyH_take (i := 7) (v := .int .u64 (n : Int)) rfl (by kernel_rfl) (by kernel_rfl) (by kernel_rfl) (fun _ _ _ h => h) (.inl ⟨by rfl, fun wx _ => by go_simp⟩) hS ?_
          simp only [Act.put, List.getElem_toArray, List.getElem_cons_succ, List.getElem_cons_zero, List.set_cons_succ, List.set_cons_zero, List.setIfInBounds_toArray]
          refine wpAnyH_take (i := 8) (v := .int .i64 (n : Int)) rfl (by kernel_rfl) (by kernel_rfl) (by kernel_rfl) (fun _ _ _ h => h) (.inl ⟨by rfl, fun wx _ => by have := enw; go_simp⟩) hS ?_
          simp only [Act.put, List.getElem_toArray, List.getElem_cons_succ, List.getElem_cons_zero, List.set_cons_succ, List.set_cons_zero, List.setIfInBounds_toArray]
          refine wpAnyH_take (i := 9) (v := .bool true) rfl (by kernel_rfl) (by kernel_rfl) (by kernel_rfl) (fun _ _ _ h => h) (.inl ⟨by rfl, fun wx _ => by have := heq; go_simp⟩) hS ?_
          simp only [Act.put, List.getElem_toArray, List.getElem_cons_succ, List.getElem_cons_zero, List.set_cons_succ, List.set_cons_zero, List.setIfInBounds_toArray]
          refine wpAnyH_take (i := 10) (v := .bool true) rfl (by kernel_rfl) (by kernel_rfl) (by kernel_rfl) (fun _ _ _ h => h) (.inl ⟨by rfl, fun wx _ => by go_simp⟩) hS ?_
          simp only [Act.put, List.getElem_toArray, List.getElem_cons_succ, List.getElem_cons_zero, List.set_cons_succ, List.set_cons_zero, List.setIfInBounds_toArray]
          refine wpAnyH_take (i := 11) (v := .slice la P lc) rfl (by kernel_rfl) (by kernel_rfl) (by kernel_rfl) (fun _ _ _ h => h) (.inl ⟨by kernel_rfl, fun wx _ => by go_simp⟩) hS ?_
          simp only [Act.put, List.getElem_toArray, List.getElem_cons_succ, List.getElem_cons_zero, List.set_cons_succ, List.set_cons_zero, List.setIfInBounds_toArray]
          refine wpAnyH_take (i := 12) (v := .int .i64 (r : Int)) rfl (by kernel_rfl) (by kernel_rfl) (by kernel_rfl) (fun _ _ _ h => h) (.inl ⟨by kernel_rfl, fun wx _ => by go_simp⟩) hS ?_
          simp only [Act.put, List.getElem_toArray, List.getElem_cons_succ, List.getElem_cons_zero, List.set_cons_succ, List.set_cons_zero, List.setIfInBounds_toArray]
          refine wpAnyH_take (i := 15) (v := .slice a L c) rfl (by kernel_rfl) (by kernel_rfl) (by kernel_rfl) (fun _ _ _ h => h) (.inl ⟨by kernel_rfl, fun wx _ => by go_simp⟩) hS ?_
          simp only [Act.put, List.getElem_toArray, List.getElem_cons_succ, List.getElem_cons_zero, List.set_cons_succ, List.set_cons_zero, List.setIfInBounds_toArray]
          refine wpAnyH_take (i := 16) (v := .string (strOf b)) rfl (by kernel_rfl) (by kernel_rfl) (by kernel_rfl) (fun _ _ _ h => h) (.inl ⟨by kernel_rfl, fun wx hX => by have := run_conv hX; go_simp⟩) hS ?_
          simp only [Act.put, List.getElem_toArray, List.getElem_cons_succ, List.getElem_cons_zero, List.set_cons_succ, List.set_cons_zero, List.setIfInBounds_toArray]
          clear hS
          have hbig : (bod r ps ps.length).length ≤ 1000000000 := by
            have h1 := BS.out r
            rw [← HP.out] at h1 ⊢
            have h2 : P * (166 + k) ≤ 6667 * 20166 := Nat.mul_le_mul (by omega) (by omega)
            omega
          have OC := hid (of_c D0 (HC.out.fr DF.out).rd (by have := HP.out; omega) r hr1 h64 HRI.out hbig)
          refine wpAnyH_ready (rs := [13]) (by kernel_rfl) (by simp) ?_
          refine AllReadyH.cons rfl (fun K hK => ?_) AllReadyH.nil
          rw [if_pos (by kernel_rfl)]
          go_simp
          refine OC.out.mono ?_
          rintro e D1 ⟨vo, rfl, oo, fo⟩
          obtain ⟨xa, xc, rfl, _⟩ := ownsRow_slice oo
          have F1 := hid ((HF.out.trans DF.out).trans fo)
          have C1 := hid (HC.out.fr (DF.out.trans fo))
          have R1 := Rd.ownB oo
          refine hK.out _ _ (HSB.out _ F1.out) (fun hS1 => ?_)
          clear hK K oo fo OC
          obtain ⟨bl, hbl'⟩ : ∃ x, x = (blk r ps).length := ⟨_, rfl⟩
          rw [← hbl'] at R1 ⊢
          clear hbl'
          refine wpAnyH_str (S' := fun w' => Rd w' (.slice a L c) (bv b) ∧ Rd w' (.slice xa bl xc) (bv (blk r ps))) (fun _ h => h.1) _ _ _ _ ?_
          have hS := And.intro hS1 R1
          clear hS1 R1
          refine wpAnyH_take (i := 14) (v := .string (strOf (blk r ps))) rfl (by kernel_rfl) (by kernel_rfl) (by kernel_rfl) (fun _ _ _ h => h) (.inl ⟨by kernel_rfl, fun wx hX => by have := run_conv hX.2; go_simp⟩) hS ?_
          simp only [Act.put, List.getElem_toArray, List.getElem_cons_succ, List.getElem_cons_zero, List.set_cons_succ, List.set_cons_zero, List.setIfInBounds_toArray]
          have hes := beq_strB (blk_by C1.out.rd.by r) HB.out
          by_cases hbb : blk r ps = b
          · rw [decide_eq_true hbb] at hes
            refine wpAnyH_take (i := 17) (v := .bool true) rfl (by kernel_rfl) (by kernel_rfl) (by kernel_rfl) (fun _ _ _ h => h) (.inl ⟨by kernel_rfl, fun wx _ => by have := hes; go_simp⟩) hS ?_
            simp only [Act.put, List.getElem_toArray, List.getElem_cons_succ, List.getElem_cons_zero, List.set_cons_succ, List.set_cons_zero, List.setIfInBounds_toArray]
            refine wpAnyH_take (i := 18) (v := .bool true) rfl (by kernel_rfl) (by kernel_rfl) (by kernel_rfl) (fun _ _ _ h => h) (.inl ⟨by rfl, fun wx _ => by go_simp⟩) hS ?_
            simp only [Act.put, List.getElem_toArray, List.getElem_cons_succ, List.getElem_cons_zero, List.set_cons_succ, List.set_cons_zero, List.setIfInBounds_toArray]
            clear hS hes
            refine wpAnyH_done (by kernel_rfl) ?_ _
            have HBB := hid hbb
            clear hbb
            go_wp2
            go_ret2
            exact ⟨.inl ⟨ps, r, _, ⟨HRI.out, hr1, h64, HBB.out⟩, rfl, C1.out⟩, F1.out⟩
          · rw [decide_eq_false hbb] at hes
            have HNX : Hid (∀ q', q' < r + 1 → ¬ Blk b ps q') := hid (fun q' hq' B => by
              rcases Nat.lt_or_ge q' r with h | h
              · exact HNB.out q' h B
              · obtain rfl : q' = r := by omega
                exact hbb B.eq)
            refine wpAnyH_take (i := 17) (v := .bool false) rfl (by kernel_rfl) (by kernel_rfl) (by kernel_rfl) (fun _ _ _ h => h) (.inl ⟨by kernel_rfl, fun wx _ => by have := hes; go_simp⟩) hS ?_
            simp only [Act.put, List.getElem_toArray, List.getElem_cons_succ, List.getElem_cons_zero, List.set_cons_succ, List.set_cons_zero, List.setIfInBounds_toArray]
            refine wpAnyH_take (i := 18) (v := .bool false) rfl (by kernel_rfl) (by kernel_rfl) (by kernel_rfl) (fun _ _ _ h => h) (.inl ⟨by rfl, fun wx _ => by go_simp⟩) hS ?_
            simp only [Act.put, List.getElem_toArray, List.getElem_cons_succ, List.getElem_cons_zero, List.set_cons_succ, List.set_cons_zero, List.setIfInBounds_toArray]
            clear hS hes
            refine wpAnyH_done (by kernel_rfl) ?_ _
            clear hbb
            go_wp2
            go_roundw
            case rel => exact ⟨r + 1, by omega, by omega, by go_num, HNX.out, C1.out, F1.out⟩
            case measure => simp [intOf]; omega
        · have heq : ((q : Int) == (n : Int)) = false := beq_eq_false_iff_ne.2 (by omega)
          have HNX : Hid (∀ q', q' < r + 1 → ¬ Blk b ps q') := hid (fun q' hq' B => by
            rcases Nat.lt_or_ge q' r with h | h
            · exact HNB.out q' h B
            · obtain rfl : q' = r := by omega
              have := blk_countB hbl.out HH2.out (by have := HL.out; have := HM.out; omega) B
              rw [← HP.out, ← HQ.out] at this
              exact hqn this)
          refine wpAnyH_take (i := 0) (v := .slice la P lc) rfl (by kernel_rfl) (by kernel_rfl) (by kernel_rfl) (fun _ _ _ h => h) (.inl ⟨by rfl, fun wx _ => by go_simp⟩) hS ?_
          simp only [Act.put, List.getElem_toArray, List.getElem_cons_zero, List.set_cons_succ, List.set_cons_zero, List.setIfInBounds_toArray]
          refine wpAnyH_take (i := 1) (v := .int .i64 (P : Int)) rfl (by kernel_rfl) (by kernel_rfl) (by kernel_rfl) (fun _ _ _ h => h) (.inl ⟨by rfl, fun wx _ => by go_simp⟩) hS ?_
          simp only [Act.put, List.getElem_toArray, List.getElem_cons_succ, List.getElem_cons_zero, List.set_cons_succ, List.set_cons_zero, List.setIfInBounds_toArray]
          refine wpAnyH_take (i := 2) (v := .int .i64 (r : Int)) rfl (by kernel_rfl) (by kernel_rfl) (by kernel_rfl) (fun _ _ _ h => h) (.inl ⟨by rfl, fun wx _ => by go_simp⟩) hS ?_
          simp only [Act.put, List.getElem_toArray, List.getElem_cons_succ, List.getElem_cons_zero, List.set_cons_succ, List.set_cons_zero, List.setIfInBounds_toArray]
          refine wpAnyH_take (i := 3) (v := .int .i64 (u : Int)) rfl (by kernel_rfl) (by kernel_rfl) (by kernel_rfl) (fun _ _ _ h => h) (.inl ⟨by rfl, fun wx _ => by have := e1; have := e1w; go_simp⟩) hS ?_
          simp only [Act.put, List.getElem_toArray, List.getElem_cons_succ, List.getElem_cons_zero, List.set_cons_succ, List.set_cons_zero, List.setIfInBounds_toArray]
          refine wpAnyH_take (i := 4) (v := .int .i64 (u1 : Int)) rfl (by kernel_rfl) (by kernel_rfl) (by kernel_rfl) (fun _ _ _ h => h) (.inl ⟨by rfl, fun wx _ => by have := e2; have := e2w; go_simp⟩) hS ?_
          simp only [Act.put, List.getElem_toArray, List.getElem_cons_succ, List.getElem_cons_zero, List.set_cons_succ, List.set_cons_zero, List.setIfInBounds_toArray]
          refine wpAnyH_take (i := 5) (v := .int .i64 (r : Int)) rfl (by kernel_rfl) (by kernel_rfl) (by kernel_rfl) (fun _ _ _ h => h) (.inl ⟨by rfl, fun wx _ => by go_simp⟩) hS ?_
          simp only [Act.put, List.getElem_toArray, List.getElem_cons_succ, List.getElem_cons_zero, List.set_cons_succ, List.set_cons_zero, List.setIfInBounds_toArray]
          refine wpAnyH_take (i := 6) (v := .int .i64 (q : Int)) rfl (by kernel_rfl) (by kernel_rfl) (by kernel_rfl) (fun _ _ _ h => h) (.inl ⟨by rfl, fun wx _ => by have := e3; have := e3w; have := hr0; go_simp; omega⟩) hS ?_
          simp only [Act.put, List.getElem_toArray, List.getElem_cons_succ, List.getElem_cons_zero, List.set_cons_succ, List.set_cons_zero, List.setIfInBounds_toArray]
          refine wpAnyH_take (i := 7) (v := .int .u64 (n : Int)) rfl (by kernel_rfl) (by kernel_rfl) (by kernel_rfl) (fun _ _ _ h => h) (.inl ⟨by rfl, fun wx _ => by go_simp⟩) hS ?_
          simp only [Act.put, List.getElem_toArray, List.getElem_cons_succ, List.getElem_cons_zero, List.set_cons_succ, List.set_cons_zero, List.setIfInBounds_toArray]
          refine wpAnyH_take (i := 8) (v := .int .i64 (n : Int)) rfl (by kernel_rfl) (by kernel_rfl) (by kernel_rfl) (fun _ _ _ h => h) (.inl ⟨by rfl, fun wx _ => by have := enw; go_simp⟩) hS ?_
          simp only [Act.put, List.getElem_toArray, List.getElem_cons_succ, List.getElem_cons_zero, List.set_cons_succ, List.set_cons_zero, List.setIfInBounds_toArray]
          refine wpAnyH_take (i := 9) (v := .bool false) rfl (by kernel_rfl) (by kernel_rfl) (by kernel_rfl) (fun _ _ _ h => h) (.inl ⟨by rfl, fun wx _ => by have := heq; go_simp⟩) hS ?_
          simp only [Act.put, List.getElem_toArray, List.getElem_cons_succ, List.getElem_cons_zero, List.set_cons_succ, List.set_cons_zero, List.setIfInBounds_toArray]
          refine wpAnyH_take (i := 10) (v := .bool false) rfl (by kernel_rfl) (by kernel_rfl) (by kernel_rfl) (fun _ _ _ h => h) (.inl ⟨by rfl, fun wx _ => by go_simp⟩) hS ?_
          simp only [Act.put, List.getElem_toArray, List.getElem_cons_succ, List.getElem_cons_zero, List.set_cons_succ, List.set_cons_zero, List.setIfInBounds_toArray]
          refine wpAnyH_take (i := 11) (v := undef) rfl (by kernel_rfl) (by kernel_rfl) (by kernel_rfl) (fun _ _ _ h => h) (.inr ⟨by kernel_rfl, rfl⟩) hS ?_
          simp only [Act.put, List.getElem_toArray, List.getElem_cons_succ, List.getElem_cons_zero, List.set_cons_succ, List.set_cons_zero, List.setIfInBounds_toArray]
          refine wpAnyH_take (i := 12) (v := undef) rfl (by kernel_rfl) (by kernel_rfl) (by kernel_rfl) (fun _ _ _ h => h) (.inr ⟨by kernel_rfl, rfl⟩) hS ?_
          simp only [Act.put, List.getElem_toArray, List.getElem_cons_succ, List.getElem_cons_zero, List.set_cons_succ, List.set_cons_zero, List.setIfInBounds_toArray]
          refine wpAnyH_take (i := 13) (v := undef) rfl (by kernel_rfl) (by kernel_rfl) (by kernel_rfl) (fun _ _ _ h => h) (.inr ⟨by kernel_rfl, rfl⟩) hS ?_
          simp only [Act.put, List.getElem_toArray, List.getElem_cons_succ, List.getElem_cons_zero, List.set_cons_succ, List.set_cons_zero, List.setIfInBounds_toArray]
          refine wpAnyH_take (i := 14) (v := undef) rfl (by kernel_rfl) (by kernel_rfl) (by kernel_rfl) (fun _ _ _ h => h) (.inr ⟨by kernel_rfl, rfl⟩) hS ?_
          simp only [Act.put, List.getElem_toArray, List.getElem_cons_succ, List.getElem_cons_zero, List.set_cons_succ, List.set_cons_zero, List.setIfInBounds_toArray]
          refine wpAnyH_take (i := 15) (v := undef) rfl (by kernel_rfl) (by kernel_rfl) (by kernel_rfl) (fun _ _ _ h => h) (.inr ⟨by kernel_rfl, rfl⟩) hS ?_
          simp only [Act.put, List.getElem_toArray, List.getElem_cons_succ, List.getElem_cons_zero, List.set_cons_succ, List.set_cons_zero, List.setIfInBounds_toArray]
          refine wpAnyH_take (i := 16) (v := undef) rfl (by kernel_rfl) (by kernel_rfl) (by kernel_rfl) (fun _ _ _ h => h) (.inr ⟨by kernel_rfl, rfl⟩) hS ?_
          simp only [Act.put, List.getElem_toArray, List.getElem_cons_succ, List.getElem_cons_zero, List.set_cons_succ, List.set_cons_zero, List.setIfInBounds_toArray]
          refine wpAnyH_take (i := 17) (v := undef) rfl (by kernel_rfl) (by kernel_rfl) (by kernel_rfl) (fun _ _ _ h => h) (.inr ⟨by kernel_rfl, rfl⟩) hS ?_
          simp only [Act.put, List.getElem_toArray, List.getElem_cons_succ, List.getElem_cons_zero, List.set_cons_succ, List.set_cons_zero, List.setIfInBounds_toArray]
          refine wpAnyH_take (i := 18) (v := .bool false) rfl (by kernel_rfl) (by kernel_rfl) (by kernel_rfl) (fun _ _ _ h => h) (.inl ⟨by rfl, fun wx _ => by go_simp⟩) hS ?_
          simp only [Act.put, List.getElem_toArray, List.getElem_cons_succ, List.getElem_cons_zero, List.set_cons_succ, List.set_cons_zero, List.setIfInBounds_toArray]
          clear hS
          refine wpAnyH_done (by kernel_rfl) ?_ _
          have HC0 := hid (HC.out.fr DF.out)
          have HF0 := hid (HF.out.trans DF.out)
          go_wp2
          go_roundw
          case rel => exact ⟨r + 1, by omega, by omega, by go_num, HNX.out, HC0.out, HF0.out⟩
          case measure => simp [intOf]; omega
      · have h64' : ¬ (r : Int) ≤ 64 := by omega
        have hno : Hid (∀ ps r, ¬ Blk b ps r) := hid (fun ps' r' B => by
          obtain rfl := UNI.out ps' r' B
          exact HNB.out r' (by have := B.hi; omega) B)
        go_wp2
        go_ret2
        exact ⟨.inr ⟨hno.out, rfl⟩, HF.out⟩
  · have hno : Hid (∀ ps r, ¬ Blk b ps r) := hid (fun ps' r B => by obtain rfl := UNI.out ps' r B; exact hri B.rises)
    clear hri
    go_wp2
    go_ret2
    exact ⟨.inr ⟨hno.out, rfl⟩, F2.out⟩
end Go.Proofs.YtnnookkcnmgbfaaGreat
