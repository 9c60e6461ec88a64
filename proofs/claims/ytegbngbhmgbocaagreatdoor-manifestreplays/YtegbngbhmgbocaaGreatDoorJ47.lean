/-
  ManifestReplays: the walk.
-/
import Derived.Test.YtegbngbhmgbocaaGreatDoorJ38
import Derived.Test.YtegbngbhmgbocaaGreatDoorJ46
import Derived.Test.YtegbngbhmgbocaaGreatDoorJ45
import Derived.Test.YtegbngbhmgbocaaGreatDoorJ05
namespace Go.Proofs.YtegbngbhmgbocaaGreatDoor
open Go.ChangeShapes Go.WideShapes Go.ChangeAt Go.RowKit

theorem rdS_by {b : List Nat} (hb : By b) : ∀ (f t : Nat) (bg : Bool) (acc : List Nat) (en : Nat), By acc → (∀ r ∈ (rdS b f t bg acc en).1, By r) ∧ (rdS b f t bg acc en).1.length ≤ f
  | 0, _, _, _, _, _ => by simp [rdS]
  | f + 1, t, bg, acc, en, ha => by
    rcases hf : fnd b t with _ | ⟨k, d, e⟩
    · rw [rdS, hf]; simp
    · obtain ⟨s, n, _, _, _, _, _, _, _, _, _, hd⟩ := fnd_some hf
      have hdb : By d := by rw [hd]; exact (hb.drop _).take _
      have had : By (acc ++ d) := fun x hx => by
        rcases List.mem_append.1 hx with h | h
        · exact ha x h
        · exact hdb x h
      rw [rdS, hf]
      show (∀ r ∈ (if k = kd bg true then ((acc ++ d) :: (rdS b f e false [] e).1, (rdS b f e false [] e).2) else if k = kd bg false ∧ e % 64 = 0 then rdS b f e true (acc ++ d) en else ([], en)).1, By r) ∧ (if k = kd bg true then ((acc ++ d) :: (rdS b f e false [] e).1, (rdS b f e false [] e).2) else if k = kd bg false ∧ e % 64 = 0 then rdS b f e true (acc ++ d) en else ([], en)).1.length ≤ f + 1
      split
      · have ih := rdS_by hb f e false [] e (fun x hx => by cases hx)
        refine ⟨fun r hr => ?_, by simp only [List.length_cons]; omega⟩
        rcases List.mem_cons.1 hr with rfl | h
        · exact had
        · exact ih.1 r h
      · split
        · have ih := rdS_by hb f e true (acc ++ d) en had
          exact ⟨ih.1, by omega⟩
        · simp
theorem read_by {b : List Nat} (hb : By b) : (∀ r ∈ (readL b).1, By r) ∧ (readL b).1.length ≤ b.length + 1 := rdS_by hb (b.length + 1) 0 false [] 0 (fun x hx => by cases hx)
theorem badV.one {v : Vn} {b : List Nat} {c c' : Int} (h : badV v b c) (h' : badV v b c') : c = c' := by
  rcases h with ⟨h1, h2⟩ | ⟨e, h1, h2, _⟩ <;> rcases h' with ⟨k1, k2⟩ | ⟨e', k1, k2, _⟩
  · rw [h2, k2]
  · rw [h1] at k1; cases k1
  · rw [h1] at k1; cases k1
  · rw [h1] at k1
    cases k1
    exact errA_one h2 k2
theorem take_take_lt {rs : List (List Nat)} {k m : Nat} (h : k < m) : (rs.take m).take k = rs.take k := by
  rw [List.take_take]; congr 1; omega
/-- Where a log stops is one place. -/
theorem stop_one {rs : List (List Nat)} {k m : Nat} {b b' : List Nat} {u u' : Vn} {c c' : Int} (h1 : rs[k]? = some b) (h2 : RplF vz (rs.take k) u) (h3 : badV u b c) (k1 : rs[m]? = some b') (k2 : RplF vz (rs.take m) u') (k3 : badV u' b' c') : c = c' := by
  have key : ∀ {k m : Nat} {b : List Nat} {u u' : Vn} {c : Int}, k < m → rs[k]? = some b → RplF vz (rs.take k) u → badV u b c → ¬ RplF vz (rs.take m) u' := fun hkm h1 h2 h3 h4 =>
    h4.bad (k := _) (by rw [take_take_lt hkm]; exact h2) (by rw [List.getElem?_take, if_pos hkm]; exact h1) h3
  rcases Nat.lt_trichotomy k m with h | h | h
  · exact absurd k2 (key h h1 h2 h3)
  · subst h
    rw [h1] at k1
    cases k1
    rw [h2.one k2] at h3
    exact h3.one k3
  · exact absurd h2 (key h k1 k2 k3)
/-- What Replay tells, by the log alone. -/
def ResR (rd : List (List Nat) × Nat) (a0 a1 : Int) (a2 : Nat) (U : Nat → List Fl) (x y c : Int) : Prop :=
  (∃ u, RplF vz rd.1 u ∧ a0 = u.log ∧ a1 = u.next ∧ a2 = u.seq ∧ U = u.lv ∧ x = (rd.1.length : Int) ∧ y = (rd.2 : Int) ∧ c = 0) ∨
  ((∃ k r0 u, rd.1[k]? = some r0 ∧ RplF vz (rd.1.take k) u ∧ badV u r0 c) ∧ a0 = 0 ∧ a1 = 0 ∧ a2 = 0 ∧ U = (fun _ => []) ∧ x = 0 ∧ y = 0)
theorem ResR.one {rd : List (List Nat) × Nat} {a0 a1 : Int} {a2 : Nat} {U : Nat → List Fl} {x y c : Int} {b0 b1 : Int} {b2 : Nat} {U' : Nat → List Fl} {x' y' c' : Int} (h : ResR rd a0 a1 a2 U x y c) (h' : ResR rd b0 b1 b2 U' x' y' c') : a0 = b0 ∧ a1 = b1 ∧ a2 = b2 ∧ U = U' ∧ x = x' ∧ y = y' ∧ c = c' := by
  rcases h with ⟨u, h0, h1, h2, h3, h4, h5, h6, h7⟩ | ⟨⟨k, r0, u, h1, h2, h3⟩, e0, e1, e2, e3, e4, e5⟩ <;> rcases h' with ⟨u', k0, k1, k2, k3, k4, k5, k6, k7⟩ | ⟨⟨k', r0', u', k1, k2, k3⟩, f0, f1, f2, f3, f4, f5⟩
  · rw [h0.one k0] at h1 h2 h3 h4
    rw [h1, h2, h3, h4, h5, h6, h7, k1, k2, k3, k4, k5, k6, k7]
    exact ⟨rfl, rfl, rfl, rfl, rfl, rfl, rfl⟩
  · exact absurd k3 (h0.bad k2 k1)
  · exact absurd h3 (k0.bad h2 h1)
  · rw [e0, e1, e2, e3, e4, e5, f0, f1, f2, f3, f4, f5]
    exact ⟨rfl, rfl, rfl, rfl, rfl, rfl, stop_one h1 h2 h3 k1 k2 k3⟩
theorem RpOut.res {w w' : World} {rd : List (List Nat) × Nat} {r : Ending} (h : RpOut w w' rd r) : ∃ (a0 a1 : Int) (a2 : Nat) (kd : Nat → Option Addr) (kl kc : Nat → Nat) (x y c : Int) (U : Nat → List Fl), r = .returned (.tuple #[.agg #[.int .i64 a0, .int .i64 a1, .int .u64 (a2 : Int), .slice (kd 0) (kl 0) (kc 0), .slice (kd 1) (kl 1) (kc 1), .slice (kd 2) (kl 2) (kc 2), .slice (kd 3) (kl 3) (kc 3), .slice (kd 4) (kl 4) (kc 4)], .int .i64 x, .int .i64 y, .int .i64 c]) ∧ ResR rd a0 a1 a2 U x y c ∧ VAt w' U kd kl kc ∧ Fr [] w w' := by
  rcases h.out with ⟨u, kd, kl, kc, h1, rfl, h2⟩ | ⟨k, r0, u, c, h1, h2, h3, rfl⟩
  · exact ⟨_, _, _, kd, kl, kc, _, _, _, u.lv, rfl, .inl ⟨u, h1, rfl, rfl, rfl, rfl, rfl, rfl, rfl⟩, h2, h.fr⟩
  · exact ⟨0, 0, 0, fun _ => none, fun _ => 0, fun _ => 0, 0, 0, c, fun _ => [], rfl, .inr ⟨⟨k, r0, u, h1, h2, h3⟩, rfl, rfl, rfl, rfl, rfl, rfl⟩, vat_nil _, h.fr⟩
theorem version3_c (w : World) {a0 a1 : Int} {a2 : Nat} {U : Nat → List Fl} {kd md : Nat → Option Addr} {kl kc ml mc : Nat → Nat} (h1 : VAt w U kd kl kc) (h2 : VAt w U md ml mc) :
    Calls Tryz.prog 7 #[.agg #[.int .i64 a0, .int .i64 a1, .int .u64 (a2 : Int), .slice (kd 0) (kl 0) (kc 0), .slice (kd 1) (kl 1) (kc 1), .slice (kd 2) (kl 2) (kc 2), .slice (kd 3) (kl 3) (kc 3), .slice (kd 4) (kl 4) (kc 4)], .agg #[.int .i64 a0, .int .i64 a1, .int .u64 (a2 : Int), .slice (md 0) (ml 0) (mc 0), .slice (md 1) (ml 1) (mc 1), .slice (md 2) (ml 2) (mc 2), .slice (md 3) (ml 3) (mc 3), .slice (md 4) (ml 4) (mc 4)]] w fun r w' => r = .returned (.bool true) ∧ Fr [] w w' := by
  have hl : ∀ i, i < 5 → ml i = kl i := fun i hi => by rw [h1.len i hi, h2.len i hi]
  rw [hl 0 (by omega), hl 1 (by omega), hl 2 (by omega), hl 3 (by omega), hl 4 (by omega)]
  refine version_c w _ _ _ h1 ⟨h1.len, h1.small, fun i hi h0 => ?_⟩
  obtain ⟨b, off, e1, k⟩ := h2.rd i hi (by rw [hl i hi]; exact h0)
  exact ⟨b, off, e1, k⟩
set_option maxRecDepth 20000 in
set_option maxHeartbeats 3200000 in
theorem replays_c (w : World) {a : Option Addr} {L c : Nat} {b : List Nat} (hr : Rd w (.slice a L c) (bv b)) (hb : By b) (hL : b.length = L) (hl : L ≤ 140737488355328) :
    Calls Tryz.prog 3 #[.slice a L c] w fun e w' => e = .returned (.bool true) ∧ Fr [] w w' := by
  have KN := hid (known9_c w)
  by_cases hbig : 4000 < L
  · have hbig' : (4000 : Int) < (L : Int) := by omega
    clear hr hb hL
    go_enter Tryz.func3, Tryz.ntmps3
    go_wp2_with (go_at_call 4; refine KN.out.mono ?_; rintro r W1 ⟨rfl, f1⟩; have F1 := hid f1; clear f1)
    go_ret
    exact ⟨rfl, F1.out⟩
  · have hbig' : ¬ (4000 : Int) < (L : Int) := by omega
    have hb4 : b.length ≤ 4000 := by omega
    have hby : ∀ r ∈ (readL b).1, By r := (read_by hb).1
    obtain ⟨s1, s2⟩ := replay_small hb4 hby
    have hcnt : (readL b).1.length ≤ 1000000 := by have := (read_by hb).2; omega
    have s3 : ∀ r ∈ (readL b).1, r.length ≤ 4000 ∧ ∀ e, decO r = some e → e.add.length ≤ 450 ∧ e.drop.length ≤ 4000 := fun r hr => by
      have h1 := len_sum hr
      have h0 := read_sum b
      refine ⟨by omega, fun e he => ?_⟩
      have h2 := dec_adds (hby r hr) he
      have h3 := (dec_bys (hby r hr) he).2.1
      omega
    have RC : Hid (∀ W, Fr [] w W → Calls Tryz.prog 5 #[.slice a L c] W fun r w' => RpOut W w' (readL b) r) := hid (fun W f => replay_c W (hr.fr f) hb (by omega) s1 s2 hcnt)
    have RRC : Hid (∀ W, Fr [] w W → Calls Tryz.prog 6 #[.slice a L c] W fun r w' => RpOut W w' (readL b) r) := hid (fun W f => rreplay_c W (hr.fr f) hb (by omega) s3 s2 hcnt)
    clear hr hb hL s1 s2 s3 hby hcnt hb4 hbig
    generalize readL b = rd at RC RRC
    go_enter Tryz.func3, Tryz.ntmps3
    go_upto_region 5 with (go_at_call 4; refine KN.out.mono ?_; rintro r W1 ⟨rfl, f1⟩; have F1 := hid f1; clear f1)
    clear KN
    have A1 := hid (RC.out W1 F1.out)
    clear RC
    go_upto_region 6 with (go_at_call 5; refine A1.out.mono ?_; intro r W2 h2; obtain ⟨a0, a1, a2, kd, kl, kc, x, y, z, U, rfl, h21, h22, h23⟩ := h2.res; have R2 := hid h21; have V2 := hid h22; have F2 := hid (F1.out.trans h23); clear h2 h21 h22 h23)
    clear A1 F1
    obtain ⟨Q3, hQ3⟩ : ∃ Q3, Q3 = W2.heap.size := ⟨_, rfl⟩
    obtain ⟨W3, hW3⟩ : ∃ W3, W3 = W2.alloc (.cells #[.int .i64 a0, .int .i64 a1, .int .u64 (a2 : Int), .slice (kd 0) (kl 0) (kc 0), .slice (kd 1) (kl 1) (kc 1), .slice (kd 2) (kl 2) (kc 2), .slice (kd 3) (kl 3) (kc 3), .slice (kd 4) (kl 4) (kc 4)] 28) := ⟨_, rfl⟩
    have f3 : Fr [] W2 W3 := by rw [hW3]; exact (Fr.refl _ _).alloc _
    have N3 : Hid (W3.heap[Q3]? = some (.cells #[.int .i64 a0, .int .i64 a1, .int .u64 (a2 : Int), .slice (kd 0) (kl 0) (kc 0), .slice (kd 1) (kl 1) (kc 1), .slice (kd 2) (kl 2) (kc 2), .slice (kd 3) (kl 3) (kc 3), .slice (kd 4) (kl 4) (kc 4)] 28 (0, 0))) := hid (by rw [hW3, hQ3]; exact blk_new _ _)
    have V3 := hid (V2.out.fr f3)
    have F3 := hid (F2.out.trans f3)
    rw [← hW3, ← hQ3]
    clear hW3 hQ3 f3 V2 F2
    have A3 := hid (RRC.out W3 F3.out)
    clear RRC
    go_upto_region 7 with (go_at_call 6; refine A3.out.mono ?_; intro r W4 h4; obtain ⟨b0, b1, b2, md, ml, mc, x', y', z', U', rfl, h41, h42, h43⟩ := h4.res; have R4 := hid h41; have V4 := hid h42; have F4 := hid h43; clear h4 h41 h42 h43)
    clear A3
    have ho := R2.out.one R4.out
    obtain ⟨e0, e1, e2, e3, e4, e5, e6⟩ := ho
    subst e0 e1 e2 e3 e4 e5 e6
    obtain ⟨Q5, hQ5⟩ : ∃ Q5, Q5 = W4.heap.size := ⟨_, rfl⟩
    obtain ⟨W5, hW5⟩ : ∃ W5, W5 = W4.alloc (.cells #[.int .i64 a0, .int .i64 a1, .int .u64 (a2 : Int), .slice (md 0) (ml 0) (mc 0), .slice (md 1) (ml 1) (mc 1), .slice (md 2) (ml 2) (mc 2), .slice (md 3) (ml 3) (mc 3), .slice (md 4) (ml 4) (mc 4)] 28) := ⟨_, rfl⟩
    have f5 : Fr [] W4 W5 := by rw [hW5]; exact (Fr.refl _ _).alloc _
    have N5 : Hid (W5.heap[Q5]? = some (.cells #[.int .i64 a0, .int .i64 a1, .int .u64 (a2 : Int), .slice (md 0) (ml 0) (mc 0), .slice (md 1) (ml 1) (mc 1), .slice (md 2) (ml 2) (mc 2), .slice (md 3) (ml 3) (mc 3), .slice (md 4) (ml 4) (mc 4)] 28 (0, 0))) := hid (by rw [hW5, hQ5]; exact blk_new _ _)
    have V5 := hid (V4.out.fr f5)
    have F35 := hid (F4.out.trans f5)
    have F5 := hid (F3.out.trans F35.out)
    rw [← hW5, ← hQ5]
    clear hW5 hQ5 f5 V4 F4
    obtain ⟨z0, z1, z2, z3, z4, z5, z6, z7⟩ := vn_cells (F35.out.at N3.out (by simp))
    obtain ⟨y0, y1, y2, y3, y4, y5, y6, y7⟩ := vn_cells N5.out
    have VC := hid (version3_c W5 (a0 := a0) (a1 := a1) (a2 := a2) (V3.out.fr F35.out) V5.out)
    clear V3 V5 R2 R4 N3 N5
    have hzz : (z == z) = true := by simp
    have hxx : (x == x) = true := by simp
    have hyy : (y == y) = true := by simp
    go_wp2_with (go_at_call 7; refine VC.out.mono ?_; rintro r W6 ⟨rfl, f6⟩; have F6 := hid f6; clear f6)
    go_ret
    exact ⟨rfl, F5.out.trans F6.out⟩
end Go.Proofs.YtegbngbhmgbocaaGreatDoor
namespace Go.Proofs.YtegbngbhmgbocaaGreatDoor
open Go.ChangeShapes Go.WideShapes Go.ChangeAt Go.RowKit Go.Deep

theorem cap_of {H : Type} {enc : TypeId × Value → H} {W : World} {la : Option Addr} {len lc : Nat} {d : DataW H} {ps : List MemPlace} (h : DataW.Trod enc Tryz.prog W 0 (fun _ => true) true 46 (.slice la len lc) d ps) : len ≤ lc ∧ (la = none → lc = 0 ∧ len = 0) := by
  obtain ⟨fuel, hf⟩ := h
  rcases open_int_rows Tryz.underlying46 Tryz.underlying22 Tryz.underlying5 (by kernel_rfl) (by kernel_rfl) hf with ⟨hcs, _⟩ | ⟨a, len', cap', A, L, C, Z, hcs, _, hl, hm, hx, hrow⟩
  · simp [Value.cells] at hcs
    exact ⟨by omega, fun _ => ⟨hcs.2.2, hcs.2.1⟩⟩
  · simp [Value.cells] at hcs
    obtain ⟨rfl, rfl, rfl⟩ := hcs
    exact ⟨hl, fun h => by cases h⟩
theorem lists_of {H : Type} {enc : TypeId × Value → H} {W : World} {la : Option Addr} {len lc : Nat} {d : DataW H} {ps : List MemPlace} (h : DataW.Trod enc Tryz.prog W 0 (fun _ => true) true 46 (.slice la len lc) d ps)
    (hw : ∀ n ∈ d.weights Tryz.prog 46, n ≤ reachBytes) : ∃ rs : List (List Nat), rs.length = len ∧ RdL W (.slice la len lc) rs ∧ len ≤ 9223372036854775807 ∧ len ≤ lc ∧ (la = none → lc = 0 ∧ len = 0) := by
  obtain ⟨h1, A, C, X, h2⟩ := rows2_of h hw
  refine ⟨(List.range len).map X, by simp, ⟨la, lc, by simp, fun h0 => ?_⟩, h1, cap_of h⟩
  obtain ⟨lb, lo, e, h3⟩ := h2 (by simpa using h0)
  refine ⟨lb, lo, e, fun j r hj => ?_⟩
  rw [List.getElem?_map] at hj
  have hjl : j < len := by
    rcases Nat.lt_or_ge j len with h | h
    · exact h
    · rw [List.getElem?_eq_none (by simpa using h)] at hj; cases hj
  rw [List.getElem?_range hjl] at hj
  simp at hj
  subst hj
  obtain ⟨c1, c2, c3, c4⟩ := h3 j hjl
  exact ⟨A j, C j, c1, c2, c3, c4⟩
end Go.Proofs.YtegbngbhmgbocaaGreatDoor
