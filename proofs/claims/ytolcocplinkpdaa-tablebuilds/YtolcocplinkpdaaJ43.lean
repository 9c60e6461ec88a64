/-
  TableBuilds, walked to its end.
-/
import Derived.Test.YtolcocplinkpdaaJ42
import Derived.Test.YtolcocplinkpdaaJ01
import Derived.ShutString
import Derived.ChangeOld
import Derived.SizedLaws
import Derived.Deep.Matrix
namespace Go.Proofs.Ytolcocplinkpdaa
open Go.ChangeShapes Go.WideShapes Go.ChangeAt Go.RowKit

set_option maxRecDepth 20000 in
set_option maxHeartbeats 6400000 in
theorem tbuilds_c (w : World) {v : Value} {ps : Ps} (h : RdK w v ps) (hl : ps.length ≤ 140737488355328) (b r i t : Int) :
    Calls Try.prog 3 #[v, .agg #[.int .i64 b, .int .i64 r, .int .i64 i, .int .i64 t]] w fun e w' => e = .returned (.bool true) ∧ Fr [] w w' := by
  have HK := hid h
  obtain ⟨a, c, rfl, hnc, _⟩ := h
  generalize hnn : ps.length = n at *
  have HN := hid hnn
  clear hnn
  obtain ⟨W0, hW0⟩ : ∃ W0, W0 = w.alloc (.cells #[.int .i64 b, .int .i64 r, .int .i64 i, .int .i64 t] 24) := ⟨_, rfl⟩
  have F0 : Hid (Fr [] w W0) := hid (by rw [hW0]; exact (Fr.refl _ _).alloc _)
  have B0 : Hid (W0.heap[w.heap.size]? = some (.cells #[.int .i64 b, .int .i64 r, .int .i64 i, .int .i64 t] 24 (0, 0))) := hid (by rw [hW0]; exact blk_new _ _)
  have PLC : Hid (∀ W, Fr [] W0 W → W.cell? ⟨w.heap.size, 0, none⟩ = some (.int .i64 b) ∧ W.cell? ⟨w.heap.size, 1, none⟩ = some (.int .i64 r) ∧ W.cell? ⟨w.heap.size, 2, none⟩ = some (.int .i64 i) ∧ W.cell? ⟨w.heap.size, 3, none⟩ = some (.int .i64 t)) := hid (fun W f => by
    have k := f.at B0.out (by simp)
    exact ⟨by rw [blk_cell k]; rfl, by rw [blk_cell k]; rfl, by rw [blk_cell k]; rfl, by rw [blk_cell k]; rfl⟩)
  have KN := hid (known8_c W0)
  go_enter Try.func3, Try.ntmps3
  go_wp2_with fail
  rw [← hW0]
  clear hW0
  refine KN.out.mono ?_
  rintro e w1 ⟨rfl, f1⟩
  have F1 := hid f1
  have FC := hid (few8_c w1 ((HK.out.fr F0.out).fr f1) (by rw [HN.out]; exact hl))
  clear f1 KN
  go_wp2_with fail
  refine FC.out.mono ?_
  rintro e w2 ⟨hq, f2⟩
  have F2 := hid (F1.out.trans f2)
  clear f2 FC
  rcases hq with rfl | ⟨rfl, hfew⟩
  · go_wp2
    go_ret
    exact ⟨rfl, F0.out.trans F2.out⟩
  have LM := hid (few_lim hfew)
  have hn60 : n ≤ 60 := by rw [← HN.out]; exact hfew.n
  clear hfew
  obtain ⟨x, X, hT⟩ := tbr_ex b r i t ps
  have HT := hid hT
  have BX := hid (hT.by HK.out.by)
  clear hT
  have CC := hid (copy_c w2 ((HK.out.fr F0.out).fr F2.out) (by rw [HN.out]; omega))
  go_wp2_with fail
  refine CC.out.mono ?_
  rintro e w3 ⟨lv, rfl, co, f3⟩
  have F3 := hid (F2.out.trans f3)
  have CO := hid co.rd
  obtain ⟨la, lc, hlv, _⟩ := co.rd
  subst hlv
  clear co f3 CC
  rw [HN.out] at CO ⊢
  obtain ⟨p0, p1, p2, p3⟩ := PLC.out w3 F3.out
  have TB := hid (tbuild_g w3 CO.out LM.out HT.out)
  go_wp2_with fail
  refine TB.out.mono ?_
  rintro e w4 ⟨v4, rfl, r4, f4⟩
  have R4 := hid r4
  have G4 := hid f4
  have F4 := hid (F3.out.trans f4)
  obtain ⟨a4, c4, h4⟩ := r4.form
  rw [bv_len] at h4
  subst h4
  clear r4 f4 TB p0 p1 p2 p3
  obtain ⟨p0, p1, p2, p3⟩ := PLC.out w4 F4.out
  have TR := hid (rtbuild_g w4 ((HK.out.fr F0.out).fr F4.out) LM.out HT.out)
  go_upto_region 8 with (go_at_call 11; refine TR.out.mono ?_; rintro e w5 ⟨v5, rfl, r5, f5⟩; obtain ⟨a5, c5, h5⟩ := r5.form; rw [bv_len] at h5; subst h5; have R5 := hid r5; have G5 := hid f5; have F5 := hid (F4.out.trans f5); clear r5 f5)
  have BY := hid (show Calls Try.prog 12 #[.slice a4 X.length c4, .slice a5 X.length c5] w5.drew fun e w' => e = .returned (.bool true) ∧ w' = w5.drew from by
    have := bytes_c (w := w5.drew) ((R4.out.fr G5.out).fr (Fr.refl _ _).drew) (R5.out.fr (Fr.refl _ _).drew) BX.out BX.out
    rw [decide_eq_true rfl] at this
    exact this)
  have KVS : Hid (∀ W, Fr [] w5 W → Calls Try.prog 13 #[.slice la n lc, .slice a n c] W fun e w' => e = .returned (.bool true) ∧ Fr [] W w') := hid fun W f => kvs_c ((CO.out.fr (G4.out.trans G5.out)).fr f) (((HK.out.fr F0.out).fr F5.out).fr f) (by rw [HN.out]; omega)
  obtain ⟨y, hy1, hy2⟩ : ∃ y : Int, (∀ W, Calls Try.prog 14 #[.agg #[.int .i64 b, .int .i64 r, .int .i64 i, .int .i64 t]] W fun e w' => e = .returned (.int .i64 y) ∧ Fr [] W w') ∧ (∀ W, Calls Try.prog 15 #[.agg #[.int .i64 b, .int .i64 r, .int .i64 i, .int .i64 t]] W fun e w' => e = .returned (.int .i64 y) ∧ Fr [] W w') := by
    by_cases hp : PlanOk b r i t
    · exact ⟨0, fun W => (check_c W b r i t).mono (fun e w' h' => by rcases h' with ⟨⟨e1, _⟩ | ⟨_, e1⟩, f⟩; exact ⟨e1, f⟩; exact absurd hp e1), fun W => (rcheck_c W b r i t).mono (fun e w' h' => by rcases h' with ⟨⟨e1, _⟩ | ⟨_, e1⟩, f⟩; exact ⟨e1, f⟩; exact absurd hp e1)⟩
    · exact ⟨82, fun W => (check_c W b r i t).mono (fun e w' h' => by rcases h' with ⟨⟨_, e1⟩ | ⟨e1, _⟩, f⟩; exact absurd e1 hp; exact ⟨e1, f⟩), fun W => (rcheck_c W b r i t).mono (fun e w' h' => by rcases h' with ⟨⟨_, e1⟩ | ⟨e1, _⟩, f⟩; exact absurd e1 hp; exact ⟨e1, f⟩)⟩
  have CK1 := hid hy1
  have CK2 := hid hy2
  clear hy1 hy2 p0 p1 p2 p3 TR HT
  generalize X.length = XL at *
  refine wp_region_held_drew (S := fun W => W.cell? ⟨w.heap.size, 0, none⟩ = some (.int .i64 b) ∧ W.cell? ⟨w.heap.size, 1, none⟩ = some (.int .i64 r) ∧ W.cell? ⟨w.heap.size, 2, none⟩ = some (.int .i64 i) ∧ W.cell? ⟨w.heap.size, 3, none⟩ = some (.int .i64 t)) (by kernel_rfl) (PLC.out _ (F5.out.trans (Fr.refl _ _).drew)) (fun hS => ?_)
  refine wpAnyH_take (i := 0) (v := .int .i64 (x : Int)) rfl (by kernel_rfl) (by kernel_rfl) (by kernel_rfl) (fun _ _ _ h => h) (.inl ⟨by rfl, fun wx _ => by go_simp⟩) hS ?_
  simp only [Act.put]
  refine wpAnyH_take (i := 1) (v := .int .i64 (x : Int)) rfl (by kernel_rfl) (by kernel_rfl) (by kernel_rfl) (fun _ _ _ h => h) (.inl ⟨by rfl, fun wx _ => by go_simp⟩) hS ?_
  simp only [Act.put]
  refine wpAnyH_take (i := 2) (v := .bool true) rfl (by kernel_rfl) (by kernel_rfl) (by kernel_rfl) (fun _ _ _ h => h) (.inl ⟨by rfl, fun wx _ => by go_simp⟩) hS ?_
  simp only [Act.put]
  refine wpAnyH_take (i := 3) (v := .bool true) rfl (by kernel_rfl) (by kernel_rfl) (by kernel_rfl) (fun _ _ _ h => h) (.inl ⟨by rfl, fun wx _ => by go_simp⟩) hS ?_
  simp only [Act.put]
  refine wpAnyH_take (i := 4) (v := .slice a4 XL c4) rfl (by kernel_rfl) (by kernel_rfl) (by kernel_rfl) (fun _ _ _ h => h) (.inl ⟨by kernel_rfl, fun wx _ => by go_simp⟩) hS ?_
  simp only [Act.put]
  refine wpAnyH_take (i := 5) (v := .slice a5 XL c5) rfl (by kernel_rfl) (by kernel_rfl) (by kernel_rfl) (fun _ _ _ h => h) (.inl ⟨by kernel_rfl, fun wx _ => by go_simp⟩) hS ?_
  simp only [Act.put]
  clear hS
  refine wpAnyH_ready (rs := [6]) (by kernel_rfl) (by simp) ?_
  refine AllReadyH.cons rfl (fun K hK => ?_) AllReadyH.nil
  go_simp
  refine BY.out.mono ?_
  rintro e w6 ⟨rfl, h6⟩
  rw [h6]
  clear h6
  have hS6 := PLC.out _ (F5.out.trans (Fr.refl [] w5).drew)
  refine hK.out _ _ hS6 (fun _ => ?_)
  clear hK K
  refine wpAnyH_take (i := 7) (v := .bool true) rfl (by kernel_rfl) (by kernel_rfl) (by kernel_rfl) (fun _ _ _ h => h) (.inl ⟨by rfl, fun wx _ => by go_simp⟩) hS6 ?_
  simp only [Act.put]
  refine wpAnyH_take (i := 8) (v := .bool true) rfl (by kernel_rfl) (by kernel_rfl) (by kernel_rfl) (fun _ _ _ h => h) (.inl ⟨by rfl, fun wx _ => by go_simp⟩) hS6 ?_
  simp only [Act.put]
  refine wpAnyH_take (i := 9) (v := .slice la n lc) rfl (by kernel_rfl) (by kernel_rfl) (by kernel_rfl) (fun _ _ _ h => h) (.inl ⟨by kernel_rfl, fun wx _ => by go_simp⟩) hS6 ?_
  simp only [Act.put]
  refine wpAnyH_take (i := 10) (v := .slice a n c) rfl (by kernel_rfl) (by kernel_rfl) (by kernel_rfl) (fun _ _ _ h => h) (.inl ⟨by kernel_rfl, fun wx _ => by go_simp⟩) hS6 ?_
  simp only [Act.put]
  clear hS6
  refine wpAnyH_ready (rs := [11]) (by kernel_rfl) (by simp) ?_
  refine AllReadyH.cons rfl (fun K hK => ?_) AllReadyH.nil
  go_simp
  refine (KVS.out _ (Fr.refl [] w5).drew).mono ?_
  rintro e w7 ⟨rfl, f7⟩
  have F7 := hid ((F5.out.trans (Fr.refl [] w5).drew).trans f7)
  have hS7 := PLC.out _ F7.out
  clear f7
  refine hK.out _ _ hS7 (fun _ => ?_)
  clear hK K
  refine wpAnyH_take (i := 12) (v := .bool true) rfl (by kernel_rfl) (by kernel_rfl) (by kernel_rfl) (fun _ _ _ h => h) (.inl ⟨by rfl, fun wx _ => by go_simp⟩) hS7 ?_
  simp only [Act.put]
  refine wpAnyH_take (i := 13) (v := .bool true) rfl (by kernel_rfl) (by kernel_rfl) (by kernel_rfl) (fun _ _ _ h => h) (.inl ⟨by rfl, fun wx _ => by go_simp⟩) hS7 ?_
  simp only [Act.put]
  refine wpAnyH_take (i := 14) (v := .agg #[.int .i64 b, .int .i64 r, .int .i64 i, .int .i64 t]) rfl (by kernel_rfl) (by kernel_rfl) (by kernel_rfl) (fun _ _ _ h => h) (.inl ⟨by kernel_rfl, fun wx hX => by obtain ⟨x0, x1, x2, x3⟩ := hX; go_simp⟩) hS7 ?_
  simp only [Act.put]
  refine wpAnyH_take (i := 16) (v := .agg #[.int .i64 b, .int .i64 r, .int .i64 i, .int .i64 t]) rfl (by kernel_rfl) (by kernel_rfl) (by kernel_rfl) (fun _ _ _ h => h) (.inl ⟨by kernel_rfl, fun wx hX => by obtain ⟨x0, x1, x2, x3⟩ := hX; go_simp⟩) hS7 ?_
  simp only [Act.put]
  clear hS7
  refine wpAnyH_ready (rs := [15]) (by kernel_rfl) (by simp) ?_
  refine AllReadyH.cons rfl (fun K hK => ?_) AllReadyH.nil
  go_simp
  refine (CK1.out _).mono ?_
  rintro e w8 ⟨rfl, f8⟩
  have F8 := hid (F7.out.trans f8)
  have hS8 := PLC.out _ F8.out
  clear f8
  refine hK.out _ _ hS8 (fun _ => ?_)
  clear hK K
  clear hS8
  refine wpAnyH_ready (rs := [17]) (by kernel_rfl) (by simp) ?_
  refine AllReadyH.cons rfl (fun K hK => ?_) AllReadyH.nil
  go_simp
  refine (CK2.out _).mono ?_
  rintro e w9 ⟨rfl, f9⟩
  have F9 := hid (F8.out.trans f9)
  have hS9 := PLC.out _ F9.out
  clear f9
  refine hK.out _ _ hS9 (fun _ => ?_)
  clear hK K
  refine wpAnyH_take (i := 18) (v := .bool true) rfl (by kernel_rfl) (by kernel_rfl) (by kernel_rfl) (fun _ _ _ h => h) (.inl ⟨by kernel_rfl, fun wx _ => by go_simp⟩) hS9 ?_
  simp only [Act.put]
  refine wpAnyH_take (i := 19) (v := .bool true) rfl (by kernel_rfl) (by kernel_rfl) (by kernel_rfl) (fun _ _ _ h => h) (.inl ⟨by rfl, fun wx _ => by go_simp⟩) hS9 ?_
  simp only [Act.put]
  refine wpAnyH_ready (rs := [20]) (by kernel_rfl) (by simp) ?_
  refine AllReadyH.cons rfl (fun K hK => ?_) AllReadyH.nil
  go_simp
  refine hK.out _ _ hS9 (fun _ => ?_)
  clear hK K
  clear hS9
  refine wpAnyH_done (by kernel_rfl) ?_ _
  go_wp2
  go_ret
  exact ⟨rfl, F0.out.trans F9.out⟩
end Go.Proofs.Ytolcocplinkpdaa
namespace Go.Proofs.Ytolcocplinkpdaa
open Go.ChangeShapes Go.WideShapes Go.ChangeAt Go.RowKit Go.Deep

theorem ownKnobs : ownKnob Try.prog.godebug = none := by kernel_rfl
theorem laidOut : laidOutB Try.prog = true := by kernel_rfl

theorem nat_of {n : Int} (h : 0 ≤ n) : ∃ m : Nat, n = (m : Int) := ⟨n.toNat, by omega⟩

/-- Bytes that came in. -/
theorem bytes_of {H : Type} {enc : TypeId × Value → H} {W : World} {ua : Option Addr} {len uc : Nat} {d : DataW H} {ps : List MemPlace} (h : DataW.Trod enc Try.prog W 0 (fun _ => true) true 28 (.slice ua len uc) d ps)
    (hw : ∀ n ∈ d.weights Try.prog 28, n ≤ reachBytes) : ∃ ns : List Nat, ns.length = len ∧ Rd W (.slice ua len uc) (bv ns) ∧ By ns ∧ len ≤ 140737488351232 := by
  obtain ⟨fuel, hf⟩ := h
  rcases open_ints Try.underlying28 Try.underlying5 (by kernel_rfl) hf with ⟨hcs, _⟩ | ⟨a, l, c, zs, hcs, _, hl, hm, hz, hx, hcell, hwf⟩
  · simp [Value.cells] at hcs
    obtain ⟨rfl, rfl, rfl⟩ := hcs
    exact ⟨[], rfl, .inl ⟨rfl, rfl⟩, fun u hu => by simp at hu, by omega⟩
  · simp [Value.cells] at hcs
    obtain ⟨rfl, rfl, rfl⟩ := hcs
    simp only [Prod.mk.injEq] at hx
    obtain ⟨rfl, _⟩ := hx
    simp only [if_true] at hz
    have hXl : ((zs.take len).map Int.toNat).length = len := by rw [List.length_map, List.length_take]; omega
    have hb : ∀ z ∈ zs, 0 ≤ z ∧ z ≤ 255 := fun z hz' => bounds_u8 (hwf z hz')
    refine ⟨(zs.take len).map Int.toNat, hXl, .inr ⟨a, uc, by rw [bv_len, hXl], by rw [bv_len, hXl]; exact hl, fun j u hj => ?_⟩, fun u hu => ?_, ?_⟩
    · have hjl : j < len := by
        rcases Nat.lt_or_ge j len with h | h
        · exact h
        · rw [List.getElem?_eq_none (by rw [bv_len, hXl]; omega)] at hj; cases hj
      have hjz : j < zs.length := by omega
      rw [hcell j hjz]
      unfold bv at hj
      rw [List.getElem?_map, List.getElem?_map, List.getElem?_take, if_pos hjl, List.getElem?_eq_getElem hjz] at hj
      simp only [Option.map_some, Option.some.injEq] at hj
      rw [← hj]
      have h0 := hb _ (List.getElem_mem hjz)
      simp only [List.getD, List.getElem?_eq_getElem hjz, Option.getD_some, Int.toNat_of_nonneg h0.1]
    · obtain ⟨n, hn, rfl⟩ := List.mem_map.1 hu
      have := hb n (List.mem_of_mem_take hn)
      omega
    · have h1 := hw (uc * Try.prog.bytesOf 5) (by
        simp only [DataW.weights, Try.underlying28]
        refine List.mem_cons.2 (.inl ?_)
        rw [lits, lits, List.length_map, List.length_map, List.length_take, List.length_drop, hz]
        congr 1; omega)
      rw [show Try.prog.bytesOf 5 = 1 from by kernel_rfl] at h1
      unfold reachBytes at h1
      omega
end Go.Proofs.Ytolcocplinkpdaa
namespace Go.Proofs.Ytolcocplinkpdaa
open Go.ChangeShapes Go.WideShapes Go.ChangeAt Go.RowKit Go.Deep

theorem weightsAll_mem {H : Type} {P : Program} {e : TypeId} : ∀ {ds : List (DataW H)} {d : DataW H}, d ∈ ds → ∀ n ∈ d.weights P e, n ∈ DataW.weightsAll P e ds
  | [], _, h, _, _ => by cases h
  | x :: r, d, h, n, hn => by
    simp only [DataW.weightsAll, List.mem_append]
    rcases List.mem_cons.1 h with rfl | h
    · exact .inl hn
    · exact .inr (weightsAll_mem h n hn)

/-- A list of lists of bytes that came in. -/
def Rows2 (w : World) (la : Option Addr) (len : Nat) (A : Nat → Option Addr) (C : Nat → Nat) (X : Nat → List Nat) : Prop :=
  0 < len → ∃ lb lo, la = some ⟨lb, lo, none⟩ ∧ ∀ r, r < len → w.cell? ⟨lb, lo + r, none⟩ = some (.slice (A r) (X r).length (C r)) ∧ Rd w (.slice (A r) (X r).length (C r)) (bv (X r)) ∧ By (X r) ∧ (X r).length ≤ 140737488355328
/-- A list of numbers that came in. -/
def Nums (w : World) (na : Option Addr) (ln : Nat) (Y : Nat → Nat) : Prop :=
  0 < ln → ∃ nb no, na = some ⟨nb, no, none⟩ ∧ ∀ r, r < ln → w.cell? ⟨nb, no + r, none⟩ = some (.int .u64 (Y r : Int)) ∧ Y r < 18446744073709551616

theorem rows2_of {H : Type} {enc : TypeId × Value → H} {W : World} {la : Option Addr} {len lc : Nat} {d : DataW H} {ps : List MemPlace} (h : DataW.Trod enc Try.prog W 0 (fun _ => true) true 46 (.slice la len lc) d ps)
    (hw : ∀ n ∈ d.weights Try.prog 46, n ≤ reachBytes) : len ≤ 9223372036854775807 ∧ ∃ A C X, Rows2 W la len A C X := by
  obtain ⟨fuel, hf⟩ := h
  rcases open_int_rows Try.underlying46 Try.underlying28 Try.underlying5 (by kernel_rfl) (by kernel_rfl) hf with ⟨hcs, _⟩ | ⟨a, len', cap', A, L, C, Z, hcs, _, hl, hm, hx, hrow⟩
  · simp [Value.cells] at hcs
    obtain ⟨rfl, rfl, rfl⟩ := hcs
    exact ⟨by omega, fun _ => none, fun _ => 0, fun _ => [], fun h => by omega⟩
  · simp [Value.cells] at hcs
    obtain ⟨rfl, rfl, rfl⟩ := hcs
    simp only [Prod.mk.injEq] at hx
    obtain ⟨rfl, _⟩ := hx
    refine ⟨by unfold maxLen at hm; omega, A, C, fun r => ((Z r).take (L r)).map Int.toNat, fun hpos => ?_⟩
    obtain ⟨lb, lo, spot⟩ := a
    have hspot : spot = none := by
      have := (hrow 0 (by omega)).1
      simpa [Addr.add] using World.cell?_spot this
    subst hspot
    refine ⟨lb, lo, rfl, fun r hr => ?_⟩
    obtain ⟨c1, c2, c3, c4, c5, c6, c7⟩ := hrow r (by omega)
    have hXl : (((Z r).take (L r)).map Int.toNat).length = L r := by rw [List.length_map, List.length_take]; omega
    have hb : ∀ z ∈ Z r, 0 ≤ z ∧ z ≤ 255 := fun z hz' => bounds_u8 (c5 z hz')
    have hC : C r ≤ 140737488355328 := by
      cases hA : A r with
      | none => rw [c6 hA]; omega
      | some a' =>
        have hmem : (C r) * Try.prog.bytesOf 5 ∈ DataW.weights Try.prog 46 (DataW.slice ((List.range len).map fun r => intRow (H := H) .u8 (A r) (L r) (Z r)) ((List.range (lc - len)).map fun j => intRow .u8 (A (len + j)) (L (len + j)) (Z (len + j)))) := by
          simp only [DataW.weights, Try.underlying46]
          refine List.mem_cons_of_mem _ (List.mem_append_left _ (weightsAll_mem (List.mem_map.2 ⟨r, List.mem_range.2 hr, rfl⟩) _ ?_))
          simp only [intRow, hA, DataW.weights, Try.underlying28]
          refine List.mem_cons.2 (.inl ?_)
          rw [lits, lits, List.length_map, List.length_map, List.length_take, List.length_drop, c4]
          congr 1; omega
        have h1 := hw _ hmem
        rw [show Try.prog.bytesOf 5 = 1 from by kernel_rfl] at h1
        have := reachBytes_lt
        omega
    refine ⟨?_, ?_, ?_, ?_⟩
    · rw [hXl]; have := c1; rwa [Addr.add_lit] at this
    · rw [hXl]
      cases hA : A r with
      | none =>
        have h0 := c6 hA
        have h1 : L r = 0 := by omega
        rw [h0, h1]
        exact .inl ⟨rfl, by simp [h1, bv]⟩
      | some a' =>
        refine .inr ⟨a', C r, by rw [bv_len, hXl], by rw [bv_len, hXl]; exact c2, fun j u hj => ?_⟩
        have hjl : j < L r := by
          rcases Nat.lt_or_ge j (L r) with h | h
          · exact h
          · rw [List.getElem?_eq_none (by rw [bv_len, hXl]; omega)] at hj; cases hj
        have hjz : j < (Z r).length := by omega
        rw [(c7 a' hA).2 j (by omega)]
        unfold bv at hj
        rw [List.getElem?_map, List.getElem?_map, List.getElem?_take, if_pos hjl, List.getElem?_eq_getElem hjz] at hj
        simp only [Option.map_some, Option.some.injEq] at hj
        rw [← hj]
        have h0 := hb _ (List.getElem_mem hjz)
        simp only [List.getD, List.getElem?_eq_getElem hjz, Option.getD_some, Int.toNat_of_nonneg h0.1]
    · intro u hu
      obtain ⟨n, hn, rfl⟩ := List.mem_map.1 hu
      have := hb n (List.mem_of_mem_take hn)
      omega
    · rw [hXl]; omega

theorem nums_of {H : Type} {enc : TypeId × Value → H} {W : World} {na : Option Addr} {ln nc : Nat} {d : DataW H} {ps : List MemPlace} (h : DataW.Trod enc Try.prog W 0 (fun _ => true) true 116 (.slice na ln nc) d ps) :
    ln ≤ 9223372036854775807 ∧ ∃ Y, Nums W na ln Y := by
  obtain ⟨fuel, hf⟩ := h
  rcases open_ints Try.underlying116 Try.underlying45 (by kernel_rfl) hf with ⟨hcs, _⟩ | ⟨a, l, c, zs, hcs, _, hl, hm, hz, hx, hcell, hwf⟩
  · simp [Value.cells] at hcs
    obtain ⟨rfl, rfl, rfl⟩ := hcs
    exact ⟨by omega, fun _ => 0, fun h => by omega⟩
  · simp [Value.cells] at hcs
    obtain ⟨rfl, rfl, rfl⟩ := hcs
    simp only [if_true] at hz
    refine ⟨by unfold maxLen at hm; omega, fun r => (zs.getD r 0).toNat, fun hpos => ?_⟩
    obtain ⟨nb, no, spot⟩ := a
    have hspot : spot = none := by
      have := hcell 0 (by omega)
      simpa [Addr.add] using World.cell?_spot this
    subst hspot
    refine ⟨nb, no, rfl, fun r hr => ?_⟩
    have hrz : r < zs.length := by omega
    have hwr := hwf _ (List.getElem_mem hrz)
    have hb : 0 ≤ zs[r] ∧ zs[r] ≤ 18446744073709551615 := by simpa [Lit.wf, IntKind.min, IntKind.max, IntKind.signed, IntKind.bits] using hwr
    have hg : zs.getD r 0 = zs[r] := by simp [List.getD, List.getElem?_eq_getElem hrz]
    have h1 := hcell r hrz
    rw [Addr.add_lit, hg] at h1
    refine ⟨?_, ?_⟩
    · show W.cell? _ = some (.int .u64 ((zs.getD r 0).toNat : Int))
      rw [hg, Int.toNat_of_nonneg hb.1]; exact h1
    · show (zs.getD r 0).toNat < _
      rw [hg]; omega
end Go.Proofs.Ytolcocplinkpdaa
