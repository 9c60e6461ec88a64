/-
  Logs of edits without the program: how many lie ahead of a cut.
-/
import Derived.Test.YtmhhdlcdfgahkaaDoorWCC
import Derived.Test.YtmhhdlcdfgahkaaDoorJ03
import Derived.ShutString
import Derived.ChangeOld
import Derived.SizedLaws
import Derived.Deep.Matrix
namespace Go.Proofs.YtmhhdlcdfgahkaaDoor
open Go.ChangeShapes Go.WideShapes Go.ChangeAt Go.RowKit

theorem encE_len38 {e : Ed} (h : okE e = true) (hd : e.drop.length ≤ 30) (ha : e.add.length ≤ 30) : (encE e).length ≤ 38000 := by
  unfold okE okH at h
  simp only [Bool.and_eq_true] at h
  have h1 := flatD_len h.1
  have h2 := flatA_len h.2.1
  have n1 := nb_len (n := e.log) (okN_iff.1 h.2.2.1).2
  have n2 := nb_len (n := e.next) (okN_iff.1 h.2.2.2.1).2
  have n3 := putL_len10 (n := e.seq) (by have := of_decide_eq_true h.2.2.2.2; omega)
  have n4 := putL_len10 (n := e.drop.length) (by omega)
  have n5 := putL_len10 (n := e.add.length) (by omega)
  unfold encE
  simp only [List.length_append]
  omega
/-- The first edits' bytes. -/
def accL (es : List Ed) (i : Nat) : List (List Nat) := (es.take i).map encE
theorem accL_succ {es : List Ed} {i : Nat} {e : Ed} (h : es[i]? = some e) : accL es (i + 1) = accL es i ++ [encE e] := by
  unfold accL
  rw [List.take_add_one, h]
  simp
theorem accL_len {es : List Ed} {i : Nat} (h : i ≤ es.length) : (accL es i).length = i := by
  unfold accL
  rw [List.length_map, List.length_take]
  omega
theorem cntA_snoc (p x : Nat) : ∀ es : List Nat, cntA p (es ++ [x]) = if cntA p es = es.length ∧ x ≤ p then es.length + 1 else cntA p es
  | [] => by
    show (if x ≤ p then cntA p [] + 1 else 0) = if cntA p [] = 0 ∧ x ≤ p then 0 + 1 else cntA p []
    by_cases h : x ≤ p
    · rw [if_pos h, if_pos ⟨rfl, h⟩]; rfl
    · rw [if_neg h, if_neg (fun k => h k.2)]; rfl
  | e :: es => by
    show (if e ≤ p then cntA p (es ++ [x]) + 1 else 0) = if (if e ≤ p then cntA p es + 1 else 0) = es.length + 1 ∧ x ≤ p then es.length + 1 + 1 else (if e ≤ p then cntA p es + 1 else 0)
    rw [cntA_snoc p x es]
    by_cases h : e ≤ p
    · rw [if_pos h, if_pos h]
      by_cases k : cntA p es = es.length ∧ x ≤ p
      · rw [if_pos k, if_pos ⟨by omega, k.2⟩]
      · rw [if_neg k, if_neg (fun q => k ⟨by omega, q.2⟩)]
    · rw [if_neg h, if_neg h, if_neg (fun q => by omega)]
theorem ends_le {rs : List (List Nat)} {k e : Nat} (h : (endsL 0 rs)[k]? = some e) : e ≤ (logL 0 rs).length := by
  have h1 := endsL_at rs 0 k e h
  have h2 := congrArg List.length (logL_append (rs.take (k + 1)) (rs.drop (k + 1)) 0)
  rw [List.take_append_drop, List.length_append] at h2
  omega
/-- If not all lie ahead of a place, the log doesn't. -/
theorem cntA_past {rs : List (List Nat)} {p : Nat} (h : cntA p (endsL 0 rs) ≠ rs.length) : p < (logL 0 rs).length := by
  have h1 := cntA_le p (endsL 0 rs)
  rw [endsL_len] at h1
  obtain ⟨e, he⟩ : ∃ e, (endsL 0 rs)[cntA p (endsL 0 rs)]? = some e := ⟨_, List.getElem?_eq_getElem (by rw [endsL_len]; omega)⟩
  have h2 := cntA_step p (endsL 0 rs) _ e (Nat.le_refl _) he
  have h3 := ends_le he
  have h4 : ¬ e ≤ p := fun q => by have := h2.1 q; omega
  omega
/-- How many records lie ahead of a cut. -/
def cntI (cut : Int) (rs : List (List Nat)) : Nat := if cut < 0 then 0 else cntA cut.toNat (endsL 0 rs)
theorem cntI_nil (cut : Int) : cntI cut [] = 0 := by
  unfold cntI
  split <;> rfl
theorem cntI_le (cut : Int) (rs : List (List Nat)) : cntI cut rs ≤ rs.length := by
  unfold cntI
  split
  · omega
  · have := cntA_le cut.toNat (endsL 0 rs)
    rw [endsL_len] at this
    exact this
theorem log_longer (rs : List (List Nat)) (r : List Nat) : (logL 0 rs).length < (logL 0 (rs ++ [r])).length := by
  rw [logL_snoc, List.length_append]
  have := appL_pos (0 + (logL 0 rs).length) r
  omega
theorem cntI_yes {rs : List (List Nat)} {r : List Nat} {cut : Int} (h : ((logL 0 (rs ++ [r])).length : Int) ≤ cut) : cntI cut rs = rs.length ∧ cntI cut (rs ++ [r]) = rs.length + 1 := by
  have h1 : ¬ cut < 0 := by omega
  have h2 := log_longer rs r
  unfold cntI
  rw [if_neg h1, if_neg h1]
  have h3 : cntA cut.toNat (endsL 0 rs) = rs.length := by
    refine Classical.byContradiction fun q => ?_
    have := cntA_past q
    omega
  refine ⟨h3, ?_⟩
  rw [endsL_snoc, cntA_snoc, endsL_len, if_pos ⟨h3, by omega⟩]
theorem cntI_no {rs : List (List Nat)} {r : List Nat} {cut : Int} (h : ¬ ((logL 0 (rs ++ [r])).length : Int) ≤ cut) : cntI cut (rs ++ [r]) = cntI cut rs := by
  unfold cntI
  split
  · rfl
  · rw [endsL_snoc, cntA_snoc, if_neg (fun q => h (by omega))]
theorem cntA_min {p L : Nat} : ∀ (es : List Nat), (∀ e ∈ es, e ≤ L) → cntA (min p L) es = cntA p es
  | [], _ => rfl
  | e :: es, h => by
    have h1 := h e (by simp)
    show (if e ≤ min p L then cntA (min p L) es + 1 else 0) = if e ≤ p then cntA p es + 1 else 0
    rw [cntA_min es (fun x hx => h x (by simp [hx]))]
    by_cases h2 : e ≤ p
    · rw [if_pos h2, if_pos (by omega)]
    · rw [if_neg h2, if_neg (by omega)]
/-- What a cut log tells. -/
theorem read_min {rs : List (List Nat)} (hr : ∀ r ∈ rs, By r) {cut : Int} (hc : 0 ≤ cut) : readL ((logL 0 rs).take (min cut.toNat (logL 0 rs).length)) = (rs.take (cntI cut rs), (logL 0 (rs.take (cntI cut rs))).length) := by
  have h1 : cntA (min cut.toNat (logL 0 rs).length) (endsL 0 rs) = cntI cut rs := by
    unfold cntI
    rw [if_neg (by omega)]
    refine cntA_min _ fun e he => ?_
    obtain ⟨k, hk⟩ := List.getElem?_of_mem he
    exact ends_le hk
  rw [read_cut hr (Nat.min_le_right _ _)]
  have h2 := ahd_cnt (min cut.toNat (logL 0 rs).length) rs 0
  have h3 := ahd_end (min cut.toNat (logL 0 rs).length) rs 0
  rw [h1] at h2 h3
  rw [Nat.zero_add] at h3
  exact Prod.ext h2 h3
theorem sum_le {B : Nat} : ∀ (ns : List Nat), (∀ n ∈ ns, n ≤ B) → ns.sum ≤ ns.length * B
  | [], _ => by simp
  | n :: ns, h => by
    have h1 := sum_le ns (fun x hx => h x (by simp [hx]))
    have h2 := h n (by simp)
    rw [List.sum_cons, List.length_cons, Nat.add_mul]
    omega
/-- A log of few edits is not long. -/
theorem acc_short {rs : List (List Nat)} (h12 : rs.length ≤ 12) (h : ∀ r ∈ rs, r.length ≤ 38000) : (logL 0 rs).length ≤ 4194304 := by
  have h1 := logL_len_le rs 0
  have h2 := sum_le (B := 38000) (rs.map List.length) (fun n hn => by obtain ⟨r, hr, rfl⟩ := List.mem_map.1 hn; exact h r hr)
  rw [List.length_map] at h2
  have h3 : rs.length * 38000 ≤ 12 * 38000 := Nat.mul_le_mul_right _ h12
  omega
/-- Few edits make no long lists. -/
theorem RplF.short {A : Nat} : ∀ {rs : List (List Nat)} {v u : Vn}, RplF v rs u → (∀ r ∈ rs, ∀ e, decO r = some e → e.add.length ≤ A) → ∀ {i : Nat}, i < 5 → (u.lv i).length ≤ (v.lv i).length + rs.length * A
  | [], _, _, h, _, i, hi => by cases h; omega
  | b :: rs, v, u, ⟨t, h1, h2⟩, ha, i, hi => by
    have h3 := RplF.short h2 (fun r hr => ha r (by simp [hr])) hi
    obtain ⟨e, U, h4, _⟩ := id h1
    have h5 := h1.len h4 hi
    have h6 := ha b (by simp) e h4
    rw [List.length_cons, Nat.add_mul]
    omega
end Go.Proofs.YtmhhdlcdfgahkaaDoor
namespace Go.Proofs.YtmhhdlcdfgahkaaDoor
open Go.ChangeShapes Go.WideShapes Go.ChangeAt Go.RowKit Go.Deep

theorem ownKnobs : ownKnob Tryd.prog.godebug = none := by kernel_rfl
theorem laidOut : laidOutB Tryd.prog = true := by kernel_rfl

theorem nat_of {n : Int} (h : 0 ≤ n) : ∃ m : Nat, n = (m : Int) := ⟨n.toNat, by omega⟩

/-- Bytes that came in. -/
theorem bytes_of {H : Type} {enc : TypeId × Value → H} {W : World} {ua : Option Addr} {len uc : Nat} {d : DataW H} {ps : List MemPlace} (h : DataW.Trod enc Tryd.prog W 0 (fun _ => true) true 29 (.slice ua len uc) d ps)
    (hw : ∀ n ∈ d.weights Tryd.prog 29, n ≤ reachBytes) : ∃ ns : List Nat, ns.length = len ∧ Rd W (.slice ua len uc) (bv ns) ∧ By ns ∧ len ≤ 140737488351232 := by
  obtain ⟨fuel, hf⟩ := h
  rcases open_ints Tryd.underlying29 Tryd.underlying5 (by kernel_rfl) hf with ⟨hcs, _⟩ | ⟨a, l, c, zs, hcs, _, hl, hm, hz, hx, hcell, hwf⟩
  · simp [Value.cells] at hcs
    obtain ⟨rfl, rfl, rfl⟩ := hcs
    exact ⟨[], rfl, .inl ⟨rfl, rfl⟩, fun u hu => by simp at hu, by omega⟩
  · simp [Value.cells] at hcs
    obtain ⟨rfl, rfl, rfl⟩ := hcs
    simp only [Prod.mk.injEq] at hx
    obtain ⟨rfl, _⟩ := hx
    simp only [if_true] at hz
    have hXl : ((zs.take len).map Int.toNat).length = len := by rw [List.length_map, List.length_take]; omega
    have hb : ∀ z ∈ zs, 0 ≤ z ∧ z ≤ 255 := fun z hz' => bounds_u8 (hwf z hz')
    refine ⟨(zs.take len).map Int.toNat, hXl, .inr ⟨a, uc, by rw [bv_len, hXl], by rw [bv_len, hXl]; exact hl, fun j u hj => ?_⟩, fun u hu => ?_, ?_⟩
    · have hjl : j < len := by
        rcases Nat.lt_or_ge j len with h | h
        · exact h
        · rw [List.getElem?_eq_none (by rw [bv_len, hXl]; omega)] at hj; cases hj
      have hjz : j < zs.length := by omega
      rw [hcell j hjz]
      unfold bv at hj
      rw [List.getElem?_map, List.getElem?_map, List.getElem?_take, if_pos hjl, List.getElem?_eq_getElem hjz] at hj
      simp only [Option.map_some, Option.some.injEq] at hj
      rw [← hj]
      have h0 := hb _ (List.getElem_mem hjz)
      simp only [List.getD, List.getElem?_eq_getElem hjz, Option.getD_some, Int.toNat_of_nonneg h0.1]
    · obtain ⟨n, hn, rfl⟩ := List.mem_map.1 hu
      have := hb n (List.mem_of_mem_take hn)
      omega
    · have h1 := hw (uc * Tryd.prog.bytesOf 5) (by
        simp only [DataW.weights, Tryd.underlying29]
        refine List.mem_cons.2 (.inl ?_)
        rw [lits, lits, List.length_map, List.length_map, List.length_take, List.length_drop, hz]
        congr 1; omega)
      rw [show Tryd.prog.bytesOf 5 = 1 from by kernel_rfl] at h1
      unfold reachBytes at h1
      omega
end Go.Proofs.YtmhhdlcdfgahkaaDoor
namespace Go.Proofs.YtmhhdlcdfgahkaaDoor
open Go.ChangeShapes Go.WideShapes Go.ChangeAt Go.RowKit Go.Deep

theorem weightsAll_mem {H : Type} {P : Program} {e : TypeId} : ∀ {ds : List (DataW H)} {d : DataW H}, d ∈ ds → ∀ n ∈ d.weights P e, n ∈ DataW.weightsAll P e ds
  | [], _, h, _, _ => by cases h
  | x :: r, d, h, n, hn => by
    simp only [DataW.weightsAll, List.mem_append]
    rcases List.mem_cons.1 h with rfl | h
    · exact .inl hn
    · exact .inr (weightsAll_mem h n hn)

/-- A list of lists of bytes that came in. -/
def Rows2 (w : World) (la : Option Addr) (len : Nat) (A : Nat → Option Addr) (C : Nat → Nat) (X : Nat → List Nat) : Prop :=
  0 < len → ∃ lb lo, la = some ⟨lb, lo, none⟩ ∧ ∀ r, r < len → w.cell? ⟨lb, lo + r, none⟩ = some (.slice (A r) (X r).length (C r)) ∧ Rd w (.slice (A r) (X r).length (C r)) (bv (X r)) ∧ By (X r) ∧ (X r).length ≤ 140737488355328
/-- A list of numbers that came in. -/
def Nums (w : World) (na : Option Addr) (ln : Nat) (Y : Nat → Nat) : Prop :=
  0 < ln → ∃ nb no, na = some ⟨nb, no, none⟩ ∧ ∀ r, r < ln → w.cell? ⟨nb, no + r, none⟩ = some (.int .u64 (Y r : Int)) ∧ Y r < 18446744073709551616

theorem rows2_of {H : Type} {enc : TypeId × Value → H} {W : World} {la : Option Addr} {len lc : Nat} {d : DataW H} {ps : List MemPlace} (h : DataW.Trod enc Tryd.prog W 0 (fun _ => true) true 59 (.slice la len lc) d ps)
    (hw : ∀ n ∈ d.weights Tryd.prog 59, n ≤ reachBytes) : len ≤ 9223372036854775807 ∧ ∃ A C X, Rows2 W la len A C X := by
  obtain ⟨fuel, hf⟩ := h
  rcases open_int_rows Tryd.underlying59 Tryd.underlying29 Tryd.underlying5 (by kernel_rfl) (by kernel_rfl) hf with ⟨hcs, _⟩ | ⟨a, len', cap', A, L, C, Z, hcs, _, hl, hm, hx, hrow⟩
  · simp [Value.cells] at hcs
    obtain ⟨rfl, rfl, rfl⟩ := hcs
    exact ⟨by omega, fun _ => none, fun _ => 0, fun _ => [], fun h => by omega⟩
  · simp [Value.cells] at hcs
    obtain ⟨rfl, rfl, rfl⟩ := hcs
    simp only [Prod.mk.injEq] at hx
    obtain ⟨rfl, _⟩ := hx
    refine ⟨by unfold maxLen at hm; omega, A, C, fun r => ((Z r).take (L r)).map Int.toNat, fun hpos => ?_⟩
    obtain ⟨lb, lo, spot⟩ := a
    have hspot : spot = none := by
      have := (hrow 0 (by omega)).1
      simpa [Addr.add] using World.cell?_spot this
    subst hspot
    refine ⟨lb, lo, rfl, fun r hr => ?_⟩
    obtain ⟨c1, c2, c3, c4, c5, c6, c7⟩ := hrow r (by omega)
    have hXl : (((Z r).take (L r)).map Int.toNat).length = L r := by rw [List.length_map, List.length_take]; omega
    have hb : ∀ z ∈ Z r, 0 ≤ z ∧ z ≤ 255 := fun z hz' => bounds_u8 (c5 z hz')
    have hC : C r ≤ 140737488355328 := by
      cases hA : A r with
      | none => rw [c6 hA]; omega
      | some a' =>
        have hmem : (C r) * Tryd.prog.bytesOf 5 ∈ DataW.weights Tryd.prog 59 (DataW.slice ((List.range len).map fun r => intRow (H := H) .u8 (A r) (L r) (Z r)) ((List.range (lc - len)).map fun j => intRow .u8 (A (len + j)) (L (len + j)) (Z (len + j)))) := by
          simp only [DataW.weights, Tryd.underlying59]
          refine List.mem_cons_of_mem _ (List.mem_append_left _ (weightsAll_mem (List.mem_map.2 ⟨r, List.mem_range.2 hr, rfl⟩) _ ?_))
          simp only [intRow, hA, DataW.weights, Tryd.underlying29]
          refine List.mem_cons.2 (.inl ?_)
          rw [lits, lits, List.length_map, List.length_map, List.length_take, List.length_drop, c4]
          congr 1; omega
        have h1 := hw _ hmem
        rw [show Tryd.prog.bytesOf 5 = 1 from by kernel_rfl] at h1
        have := reachBytes_lt
        omega
    refine ⟨?_, ?_, ?_, ?_⟩
    · rw [hXl]; have := c1; rwa [Addr.add_lit] at this
    · rw [hXl]
      cases hA : A r with
      | none =>
        have h0 := c6 hA
        have h1 : L r = 0 := by omega
        rw [h0, h1]
        exact .inl ⟨rfl, by simp [h1, bv]⟩
      | some a' =>
        refine .inr ⟨a', C r, by rw [bv_len, hXl], by rw [bv_len, hXl]; exact c2, fun j u hj => ?_⟩
        have hjl : j < L r := by
          rcases Nat.lt_or_ge j (L r) with h | h
          · exact h
          · rw [List.getElem?_eq_none (by rw [bv_len, hXl]; omega)] at hj; cases hj
        have hjz : j < (Z r).length := by omega
        rw [(c7 a' hA).2 j (by omega)]
        unfold bv at hj
        rw [List.getElem?_map, List.getElem?_map, List.getElem?_take, if_pos hjl, List.getElem?_eq_getElem hjz] at hj
        simp only [Option.map_some, Option.some.injEq] at hj
        rw [← hj]
        have h0 := hb _ (List.getElem_mem hjz)
        simp only [List.getD, List.getElem?_eq_getElem hjz, Option.getD_some, Int.toNat_of_nonneg h0.1]
    · intro u hu
      obtain ⟨n, hn, rfl⟩ := List.mem_map.1 hu
      have := hb n (List.mem_of_mem_take hn)
      omega
    · rw [hXl]; omega

end Go.Proofs.YtmhhdlcdfgahkaaDoor
