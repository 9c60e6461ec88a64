/-
  What find of package wal answers.
-/
import Derived.Test.YtmhhdlcdfgahkaaDoorJ06
import Derived.Test.YtmhhdlcdfgahkaaDoorJ05
import Derived.Laws.ResultCell
namespace Go.Proofs.YtmhhdlcdfgahkaaDoor
open Go.ChangeShapes Go.WideShapes Go.ChangeAt Go.RowKit

theorem cell_frw {w w' : World} {p : Addr} {v : Value} (h : w.cell? p = some v) (hf : Fr [] w w') : w'.cell? p = some v := by
  rw [World.cell?_of_block (w := w) (hf.block _ (World.block_lt_of_cell? w _ h) (by simp))]; exact h
theorem store3 {W : World} {g : Nat} {x y z a b c : Value} {T : TypeId} (h : W.heap[g]? = some (.cells #[x, y, z] T (0, 0))) : (((W.setCell ⟨g, 0, none⟩ a).setCell ⟨g, 1, none⟩ b).setCell ⟨g, 2, none⟩ c).heap[g]? = some (.cells #[a, b, c] T (0, 0)) := by
  rw [blk_set (blk_set (blk_set h 0 a) 1 b) 2 c]; rfl
theorem fr3 {w W : World} {g : Nat} (h : Fr [] w W) (hg : w.heap.size ≤ g) (a b c : Value) : Fr [] w (((W.setCell ⟨g, 0, none⟩ a).setCell ⟨g, 1, none⟩ b).setCell ⟨g, 2, none⟩ c) :=
  ((h.set _ _ (.inr hg)).set _ _ (.inr hg)).set _ _ (.inr hg)
theorem sizeFrag : (Tryd.prog.info? 82).map (·.size) = some 3 := by kernel_rfl
theorem load_frag {w : World} {g : Nat} {a b c : Value} {t : TypeId} (hg : w.heap[g]? = some (.cells #[a, b, c] t (0, 0))) : (loadVar 82 ⟨g, 0, none⟩).run Tryd.prog w = .ok (.agg #[a, b, c]) w :=
  run_loadVar_row w g t 82 #[a, b, c] (0, 0) _ hg Tryd.underlying82 rfl sizeFrag
theorem ret_ct {fn : Func} {p u : Tmp} {ty : TypeId} (h : fn.results = #[.cell p ty, .tmp u]) {tmps : Array Value} {w : World} {g : Nat} {cs : Array Value} (hp : tmps.getD p undef = .pointer (some ⟨g, 0, none⟩)) (hg : (loadVar ty ⟨g, 0, none⟩).run Tryd.prog w = .ok (.agg cs) w) :
    (results fn tmps).run Tryd.prog w = .ok (.tuple #[.agg cs, tmps.getD u undef]) w := by
  rw [results_cell_tmp h, hp]
  simp [asAddr, hg]

set_option maxRecDepth 20000 in
set_option maxHeartbeats 800000 in
theorem find_short (w : World) {v : Value} {b : List Nat} (hr : Rd w v (bv b)) {t : Nat} (ht : t ≤ b.length) (hl : b.length ≤ 4194304) (hs : b.length < t + zr t + 7) :
    Calls Tryd.prog 36 #[v, .int .i64 (t : Int)] w fun r w' => r = .returned (.tuple #[.agg #[.int .u8 0, .slice none 0 0, .int .i64 0], .bool false]) ∧ Fr [] w w' := by
  obtain ⟨a, c, hv⟩ := hr.form
  rw [bv_len] at hv
  subst hv
  have h1 := lf_ge t
  have h2 := lf_le t
  have h3 := zr_le t
  have RC := fun w => room_nat w t (by omega)
  generalize zr t = z at *
  generalize lf t = l at *
  have k1 : (b.length : Int) - ((t : Int) + (z : Int)) < (l : Int) := by omega
  have k2 : (b.length : Int) - ((t : Int) + (z : Int)) < 7 := by omega
  have RCH := hid RC
  clear hr RC
  go_enter Tryd.func36, Tryd.ntmps36
  go_wp2_with (go_at_call 53; refine (RCH.out _).mono ?_; rintro e w1 ⟨rfl, rfl⟩)
  exact bodyPost_ret (ret_ct rfl rfl (load_frag (blk_new _ _))) rfl ⟨rfl, (Fr.refl _ _).alloc _⟩

/-- What find has in hand behind the bytes 0. -/
theorem frag0 {w w1 : World} (f : Fr [] (w.alloc (.cells #[.int .u8 0, .slice none 0 0, .int .i64 0] 82)) w1) : w1.heap[w.heap.size]? = some (.cells #[.int .u8 0, .slice none 0 0, .int .i64 0] 82 (0, 0)) :=
  f.at (blk_new w _) (by simp)
set_option maxRecDepth 20000 in
set_option maxHeartbeats 800000 in
theorem find_fill (w : World) {v : Value} {b : List Nat} (hr : Rd w v (bv b)) (hb : By b) {t : Nat} (hl : b.length ≤ 4194304) (hs : t + zr t + 7 ≤ b.length) (hz : ¬ ∀ x ∈ (b.drop t).take (zr t), x = 0) :
    Calls Tryd.prog 36 #[v, .int .i64 (t : Int)] w fun r w' => r = .returned (.tuple #[.agg #[.int .u8 0, .slice none 0 0, .int .i64 0], .bool false]) ∧ Fr [] w w' := by
  obtain ⟨q, off, c, rfl, hc⟩ := hr.place (by omega)
  have h1 := lf_ge t
  have h2 := lf_le t
  have h3 := zr_le t
  have RC := fun w => room_nat w t (by omega)
  have f0 : Fr [] w (w.alloc (.cells #[.int .u8 0, .slice none 0 0, .int .i64 0] 82)) := (Fr.refl [] w).alloc _
  have RZ := hid ((hr.mid (i := t) (n := zr t) (by omega)).fr f0)
  have BZ := hid ((hb.drop t).take (zr t))
  have LZ : ((b.drop t).take (zr t)).length ≤ 1000 := by rw [List.length_take]; omega
  have HZ := hid hz
  have F0 := hid f0
  clear hz f0 hr hb
  generalize (b.drop t).take (zr t) = zs at *
  generalize zr t = z at *
  generalize lf t = l at *
  have k0 : ¬ (c = t) := by omega
  have RCH := hid RC
  clear RC
  rcases (show (b.length : Int) - ((t : Int) + (z : Int)) < (l : Int) ∨ ¬ ((b.length : Int) - ((t : Int) + (z : Int)) < (l : Int)) from by omega) with k1 | k1
  all_goals
    have k3 : ¬ (b.length : Int) - ((t : Int) + (z : Int)) < 7 := by omega
    have k4 : ¬ (l : Int) < 7 := by omega
    have k5 : ((t : Int) + (z : Int)).toNat = t + z := by omega
    have k6 : t + z ≤ c := by omega
    have k7 : t + z - t = z := by omega
    go_enter Tryd.func36, Tryd.ntmps36
    go_wp2_with (first
      | (go_at_call 53; refine (RCH.out _).mono ?_; rintro e w1 ⟨rfl, rfl⟩)
      | (go_at_call 54
         refine (trim_c RZ.out BZ.out LZ).mono ?_
         rintro e w2 ⟨a2, n2, c2, rfl, f2, hz2⟩
         have hn2 : 0 < n2 := Nat.pos_of_ne_zero fun e => HZ.out (hz2.1 e)
         have F2 := hid f2
         have hg := frag0 f2
         have g0 := blk_cell hg 0
         have g1 := blk_cell hg 1
         have g2 := blk_cell hg 2
         have z0 := blk_frozen hg 0
         have z1 := blk_frozen hg 1
         have z2 := blk_frozen hg 2
         simp at g0 g1 g2
         have HG := hid hg
         clear hz2 f2 hg))
    exact bodyPost_ret (ret_ct rfl rfl (load_frag (store3 HG.out))) rfl ⟨rfl, fr3 (F0.out.trans F2.out) (Nat.le_refl _) _ _ _⟩
end Go.Proofs.YtmhhdlcdfgahkaaDoor
namespace Go.Proofs.YtmhhdlcdfgahkaaDoor
open Go.ChangeShapes Go.WideShapes Go.ChangeAt Go.RowKit

/-- What find tells. -/
def FndT (w : World) (o : Option (Nat × List Nat × Nat)) (r : Ending) : Prop := match o with
  | none => r = .returned (.tuple #[.agg #[.int .u8 0, .slice none 0 0, .int .i64 0], .bool false])
  | some (k, d, e) => ∃ a c, r = .returned (.tuple #[.agg #[.int .u8 (k : Int), .slice a d.length c, .int .i64 (e : Int)], .bool true]) ∧ Rd w (.slice a d.length c) (bv d)

theorem fndT_some {w : World} {o : Option (Nat × List Nat × Nat)} {k e n c : Nat} {d : List Nat} {a : Option Addr} {E : Int} (h : o = some (k, d, e)) (hn : n = d.length) (he : E = (e : Int)) (r : Rd w (.slice a n c) (bv d)) : FndT w o (.returned (.tuple #[.agg #[.int .u8 (k : Int), .slice a n c, .int .i64 E], .bool true])) := by
  subst h; subst hn; subst he
  exact ⟨a, c, rfl, r⟩
set_option maxRecDepth 20000 in
set_option maxHeartbeats 8000000 in
theorem find_rest (w : World) {v : Value} {b : List Nat} (hr : Rd w v (bv b)) (hb : By b) {t : Nat} (hl : b.length ≤ 4194304) (hs : t + zr t + 7 ≤ b.length) (hz : ∀ x ∈ (b.drop t).take (zr t), x = 0) :
    Calls Tryd.prog 36 #[v, .int .i64 (t : Int)] w fun r w' => FndT w (fnd b t) r ∧ Fr [] w w' := by
  obtain ⟨q, off, c, rfl, hc⟩ := hr.place (by omega)
  have h1 := lf_ge t
  have h2 := lf_le t
  have h3 := zr_le t
  have RC := fun w => room_nat w t (by omega)
  have f0 : Fr [] w (w.alloc (.cells #[.int .u8 0, .slice none 0 0, .int .i64 0] 82)) := (Fr.refl [] w).alloc _
  have RZ := hid ((hr.mid (i := t) (n := zr t) (by omega)).fr f0)
  have BZ := hid ((hb.drop t).take (zr t))
  have LZ : ((b.drop t).take (zr t)).length ≤ 1000 := by rw [List.length_take]; omega
  obtain ⟨x4, hx4⟩ : ∃ x, b[t + zr t + 4]? = some x := ⟨_, List.getElem?_eq_getElem (by omega)⟩
  obtain ⟨x5, hx5⟩ : ∃ x, b[t + zr t + 5]? = some x := ⟨_, List.getElem?_eq_getElem (by omega)⟩
  obtain ⟨x6, hx6⟩ : ∃ x, b[t + zr t + 6]? = some x := ⟨_, List.getElem?_eq_getElem (by omega)⟩
  have b4 := hb.at hx4
  have b5 := hb.at hx5
  have b6 := hb.at hx6
  have e4 : b.getD (t + zr t + 4) 0 = x4 := by simp [List.getD, hx4]
  have e5 : b.getD (t + zr t + 5) 0 = x5 := by simp [List.getD, hx5]
  have e6 : b.getD (t + zr t + 6) 0 = x6 := by simp [List.getD, hx6]
  have hcell : ∀ (j x : Nat), b[j]? = some x → w.cell? ⟨q, off + j, none⟩ = some (.int .u8 (x : Int)) := by
    rcases hr.split with ⟨h, _⟩ | ⟨q', off', c', hv, _, _, h⟩
    · rw [h] at hs; simp at hs
    · cases hv; exact h
  have c4 := hcell _ _ hx4
  have c5 := hcell _ _ hx5
  have c6 := hcell _ _ hx6
  rw [← Nat.add_assoc off] at c4 c5 c6
  have RH := hid (hr.mid (i := t + zr t) (n := 7) (by omega))
  have RM := hid (fun i n h => hr.mid (i := i) (n := n) h)
  have FN : Hid (∀ n, n = x4 + 256 * x5 → 7 + n ≤ lf t → t + zr t + 7 + n ≤ b.length → crc ((b.drop (t + zr t + 6)).take (1 + n)) = unf ((b.drop (t + zr t)).take 4) → fnd b t = some (x6, (b.drop (t + zr t + 7)).take n, t + zr t + 7 + n)) := fun n h1 h2 h3 h4 => by
    rw [fnd_mk rfl (by rw [e4, e5]; exact h1) (by omega) hz h2 h3 h4, e6]
  have FX : Hid (∀ n, n = x4 + 256 * x5 → ¬ (7 + n ≤ lf t ∧ t + zr t + 7 + n ≤ b.length ∧ crc ((b.drop (t + zr t + 6)).take (1 + n)) = unf ((b.drop (t + zr t)).take 4)) → fnd b t = none) := fun n h1 h2 => by
    unfold fnd
    rw [e4, e5, ← h1, if_neg (fun h => h2 ⟨h.2.2.1, h.2.2.2⟩)]
  have HZ := hid hz
  have F0 := hid f0
  have HB := hid hb
  clear hz f0 hr hb hcell e4 e5 e6 hx4 hx5 hx6
  generalize (b.drop t).take (zr t) = zs at *
  generalize zr t = z at *
  generalize lf t = l at *
  generalize hS : t + z = s at *
  have k0 : ¬ (c = t) := by omega
  have RCH := hid RC
  clear RC
  have hst : (t : Int) + (z : Int) = (s : Int) := by omega
  have hrl : ((b.drop s).take 7).length = 7 := by rw [List.length_take, List.length_drop]; omega
  obtain ⟨n, hn⟩ : ∃ n, n = x4 + 256 * x5 := ⟨_, rfl⟩
  have hni : (7 : Int) + (x4 : Int) + (x5 : Int) * 256 = 7 + (n : Int) := by omega
  have HNI := hid hni
  have FNn := hid (FN.out n hn)
  have FXn := hid (FX.out n hn)
  have BH := hid ((HB.out.drop s).take 7)
  have BM := hid ((HB.out.drop (s + 6)).take (1 + n))
  have hul := unf_lt _ (BH.out.take 4)
  rw [List.take_take, show min 4 7 = 4 from rfl] at hul
  have hul' : unf ((b.drop s).take 4) < 4294967296 := by
    rw [List.length_take, List.length_drop, Nat.min_eq_left (by omega)] at hul; exact hul
  have hcl := crc_lt BM.out
  have U4 : Hid (∀ w', Fr [] w w' → Calls Tryd.prog 55 #[.slice (some ⟨q, off + s, none⟩) 7 (c - s)] w' fun e w'' => e = .returned (.tuple #[.int .u32 (unf ((b.drop s).take 4) : Int), .int .i64 0]) ∧ w'' = w') := fun w' hf => by
    have := unfixed4_c (RH.out.fr hf) BH.out (by omega) (by omega)
    rw [List.take_take, show min 4 7 = 4 from rfl] at this
    exact this
  have SM : Hid (s + 7 + n ≤ b.length → ∀ w', Fr [] w w' → Calls Tryd.prog 56 #[.slice (some ⟨q, off + (s + 6), none⟩) (1 + n) (c - (s + 6))] w' fun e w'' => e = .returned (.int .u32 (crc ((b.drop (s + 6)).take (1 + n)) : Int)) ∧ w'' = w') := fun h w' hf =>
    sum_c ((RM.out (s + 6) (1 + n) (by omega)).fr hf) BM.out (by rw [List.length_take, List.length_drop]; omega)
  have RD := hid (RM.out (s + 7) n)
  have DL : Hid (s + 7 + n ≤ b.length → ((b.drop (s + 7)).take n).length = n) := fun h => by rw [List.length_take, List.length_drop]; omega
  generalize unf ((b.drop s).take 4) = U at *
  generalize crc ((b.drop (s + 6)).take (1 + n)) = C at *
  generalize (b.drop (s + 7)).take n = d at *
  clear FN FX RM BM RH BH HB hul hni hrl hn
  rcases (show (b.length : Int) - (s : Int) < (l : Int) ∨ ¬ ((b.length : Int) - (s : Int) < (l : Int)) from by omega) with k1 | k1
  all_goals
    have k3 : ¬ (b.length : Int) - (s : Int) < 7 := by omega
    have k4 : ¬ (l : Int) < 7 := by omega
    have k6 : s ≤ c := by omega
    have k7 : s - t = z := by omega
    have k8 : ¬ (c = s) := by omega
    have k9 : s + 7 - s = 7 := by omega
    clear hS
    go_enter Tryd.func36, Tryd.ntmps36
    go_wp2_with (first
      | (go_at_call 53; refine (RCH.out _).mono ?_; rintro e w1 ⟨rfl, rfl⟩)
      | (go_at_call 54
         refine (trim_c RZ.out BZ.out LZ).mono ?_
         rintro e w2 ⟨a2, n2, c2, rfl, f2, hz2⟩
         have hn2 : n2 = 0 := hz2.2 HZ.out
         subst hn2
         have F2 := hid (F0.out.trans f2)
         have d4 := cell_frw c4 F2.out
         have d5 := cell_frw c5 F2.out
         have d6 := cell_frw c6 F2.out
         have hg := frag0 f2
         have g0 := blk_cell hg 0
         have g1 := blk_cell hg 1
         have g2 := blk_cell hg 2
         have z0 := blk_frozen hg 0
         have z1 := blk_frozen hg 1
         have z2 := blk_frozen hg 2
         simp at g0 g1 g2
         have HG := hid hg
         clear hz2 f2 hg))
    rw [k9]
    go_region
    rw [HNI.out]
    have FD := hid (F2.out.drew)
    by_cases hf : 7 + n ≤ l ∧ s + 7 + n ≤ b.length
    · obtain ⟨hf1, hf2⟩ := hf
      have m1 : ¬ (l : Int) < 7 + (n : Int) := by omega
      have m2 : ¬ (b.length : Int) - (s : Int) < 7 + (n : Int) := by omega
      have m3 : ((s : Int) + (7 + (n : Int))).toNat = s + (7 + n) := by omega
      have m4 : ((s : Int) + 6).toNat = s + 6 := by omega
      have m5 : s + (7 + n) - (s + 6) = 1 + n := by omega
      have m6 : s + (7 + n) ≤ c := by omega
      have m7 : ¬ (c = s + 6) := by omega
      have m8 : ((s : Int) + 7).toNat = s + 7 := by omega
      have m9 : s + (7 + n) - (s + 7) = n := by omega
      by_cases hcu : C = U
      · have m10 : ((C : Int) == (U : Int)) = true := by rw [hcu]; simp
        go_wp2_with (first
          | (go_at_call 55; refine (U4.out _ FD.out).mono ?_; rintro e w3 ⟨rfl, rfl⟩)
          | (go_at_call 56; refine (SM.out hf2 _ FD.out).mono ?_; rintro e w3 ⟨rfl, rfl⟩))
        have m11 : IntKind.i64.wrap ((s : Int) + 7) = (s : Int) + 7 := by rw [IntKind.wrap_i64]; omega
        have m12 : s + 7 ≤ s + (7 + n) := by omega
        have m13 : (0 : Int) ≤ (s : Int) + 7 := by omega
        have m14 : (0 : Int) ≤ (s : Int) + (7 + (n : Int)) := by omega
        have hdl := hid (DL.out hf2)
        have m17 : (7 : Int) ≤ 7 + (n : Int) := by omega
        have m18 : (s : Int) + (7 + (n : Int)) ≤ (c : Int) := by omega
        have m19 : (s : Int) + 7 ≤ (s : Int) + (7 + (n : Int)) := by omega
        have m16 : c = s + 7 → (7 : Int) + (n : Int) ≤ 7 := by omega
        by_cases m15 : c = s + 7
        · replace m16 := m16 m15
          go_region?
          go_wp2
          exact bodyPost_ret (ret_ct rfl rfl (load_frag (store3 HG.out))) rfl ⟨fndT_some (FNn.out hf1 hf2 hcu) hdl.out.symm (by omega) (Rd.none_ (by rw [hdl.out]; omega) (by omega)), fr3 FD.out.drew (Nat.le_refl _) _ _ _⟩
        · clear m16
          go_region?
          go_wp2
          exact bodyPost_ret (ret_ct rfl rfl (load_frag (store3 HG.out))) rfl ⟨fndT_some (FNn.out hf1 hf2 hcu) hdl.out.symm (by omega) (RD.out hf2), fr3 FD.out.drew (Nat.le_refl _) _ _ _⟩
      · have m10 : ((C : Int) == (U : Int)) = false := beq_eq_false_iff_ne.2 (by omega)
        have hfx := hid (FXn.out (fun h => hcu h.2.2))
        go_wp2_with (first
          | (go_at_call 55; refine (U4.out _ FD.out).mono ?_; rintro e w3 ⟨rfl, rfl⟩)
          | (go_at_call 56; refine (SM.out hf2 _ FD.out).mono ?_; rintro e w3 ⟨rfl, rfl⟩))
        exact bodyPost_ret (ret_ct rfl rfl (load_frag (store3 HG.out))) rfl ⟨by rw [hfx.out]; exact rfl, fr3 FD.out (Nat.le_refl _) _ _ _⟩
    · have hfx := hid (FXn.out (fun h => hf ⟨h.1, h.2.1⟩))
      first
        | (have m1 : (b.length : Int) - (s : Int) < 7 + (n : Int) := by omega
           go_wp2
           exact bodyPost_ret (ret_ct rfl rfl (load_frag (store3 HG.out))) rfl ⟨by rw [hfx.out]; exact rfl, fr3 FD.out (Nat.le_refl _) _ _ _⟩)
        | (have m1 : (l : Int) < 7 + (n : Int) := by omega
           go_wp2
           exact bodyPost_ret (ret_ct rfl rfl (load_frag (store3 HG.out))) rfl ⟨by rw [hfx.out]; exact rfl, fr3 FD.out (Nat.le_refl _) _ _ _⟩)
theorem find_c (w : World) {v : Value} {b : List Nat} (hr : Rd w v (bv b)) (hb : By b) {t : Nat} (ht : t ≤ b.length) (hl : b.length ≤ 4194304) :
    Calls Tryd.prog 36 #[v, .int .i64 (t : Int)] w fun r w' => FndT w (fnd b t) r ∧ Fr [] w w' := by
  by_cases hs : t + zr t + 7 ≤ b.length
  · by_cases hz : ∀ x ∈ (b.drop t).take (zr t), x = 0
    · exact find_rest w hr hb hl hs hz
    · have : fnd b t = none := by unfold fnd; rw [if_neg (fun h => hz h.2.1)]
      rw [this]
      exact find_fill w hr hb hl hs hz
  · have : fnd b t = none := by unfold fnd; rw [if_neg (fun h => hs h.1)]
    rw [this]
    exact find_short w hr ht hl (by omega)
end Go.Proofs.YtmhhdlcdfgahkaaDoor
