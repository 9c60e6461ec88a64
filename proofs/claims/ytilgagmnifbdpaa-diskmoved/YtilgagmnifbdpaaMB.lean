/-
  The walk of DiskMoved.
-/
import Derived.Test.YtilgagmnifbdpaaMA
import Derived.Deep.Light
import Derived.Deep.RegionHeld
namespace Go.Proofs.Ytilgagmnifbdpaa
open Go.ChangeShapes Go.WideShapes Go.ChangeAt Go.RowKit

/-- The alphabet. -/
def abc : ByteArray := ⟨#[97, 98, 99, 100, 101, 102, 103, 104, 105, 106, 107, 108, 109, 110, 111, 112, 113, 114, 115, 116, 117, 118, 119, 120, 121, 122]⟩
theorem abc_cut : ∀ i : Fin 26, abc.extract i.val (i.val + 1) = nm i.val := by decide

theorem abc_same {j a c : Nat} (h : abc.extract a c = nm j) : ((nm j).toList == (abc.extract a c).toList) = true := by rw [h]; simp

theorem mi_drew {w0 w : World} {b m0 m1 fb : Nat} {cnt : Int} {k : Nat} (h : MI w0 w b m0 m1 fb cnt k) : MI w0 w.drew b m0 m1 fb cnt k := by
  obtain ⟨pv, ps, a1, a2, a3, a4, a5, a6, a7, a8, r⟩ := h
  exact ⟨pv, ps, a1, a2, a3, a4, a5, a6, a7, a8.drew, r⟩

theorem mi_start {w w2 w3 w4 : World} {b m0 m1 fb : Nat} {pv3 : Value}
    (h2 : DB w2 b 100 m0 m1 (.slice none 0 0) 0 0 0 0 (-1) false ∧ w2.heap[m0]? = some (.map #[] 0) ∧ w2.heap[m1]? = some (.map #[] 0) ∧ m0 ≠ m1 ∧ w.heap.size ≤ b ∧ w.heap.size ≤ m0 ∧ w.heap.size ≤ m1 ∧ Fr [] w w2)
    (h3 : DB w3 b 100 m0 m1 pv3 0 (0 + 1) (0 + 1) 0 (-1) false ∧ w3.ownsRow 0 76 1 pv3 ([] ++ [cr b ⟨#[97]⟩ fb]).length ([] ++ [cr b ⟨#[97]⟩ fb]) ∧ w3.heap[m0]? = some (.map (#[].push ⟨.string ⟨#[97]⟩, .pointer (some ⟨fb, 0, none⟩), 0⟩) (0 + 1)) ∧
      FB w3 fb 0 (.slice none 0 0) (.slice none 0 0) (.slice none 0 0) ∧ w2.heap.size ≤ fb ∧ Fr (m0 :: b :: (Value.slice none 0 0).ownBlock.toList) w2 w3 ∧ (pv3.ownBlock = (Value.slice none 0 0).ownBlock ∨ ∃ k, pv3.ownBlock = some k ∧ w2.heap.size ≤ k) ∧ w3.heap[m1]? = some (.map #[] 0))
    (h4 : DB w4 b 100 m0 m1 (.slice none 0 0) 0 (0 + 1) (0 + 1 + 1) 0 (-1) false ∧ w4.heap[m1]? = some (.map (#[].push ⟨.string ⟨#[97]⟩, .pointer (some ⟨fb, 0, none⟩), 0⟩) (0 + 1)) ∧ Fr [b, m1] w3 w4) : MI w w4 b m0 m1 fb 2 0 := by
  obtain ⟨a1, a2, a3, a4, a5, a6, a7, a8⟩ := h2
  obtain ⟨b1, b2, b3, b4, b5, b6, b7, b8⟩ := h3
  obtain ⟨c1, c2, c3⟩ := h4
  have hs := a8.size
  refine ⟨_, [], c1, c3.at b3 ?_, c2, c3.at b4 ?_, World.ownsRow_nil _ _ _ _, rfl, fun i hi => by simp at hi, (a8.trans' b6 fun x hx hlt => ?_).trans' c3 fun x hx hlt => ?_, a5, a6, a7, by omega, a4, by simp [Value.ownBlock]⟩
  · have := notin_types b3 b1 (by simp); simp [this, a4]
  · have h1 := notin_types b4 b1 (by simp)
    have h2 : fb ≠ m1 := fun e => by subst e; unfold FB at b4; rw [b8] at b4; cases b4
    simp [h1, h2]
  · simp only [Value.ownBlock, Option.toList_none, List.mem_cons, List.not_mem_nil, or_false] at hx; omega
  · simp at hx; omega

set_option maxRecDepth 100000 in
set_option maxHeartbeats 4000000 in
theorem moved_c (w : World) (names n : Int) (hn0 : -9223372036854775808 ≤ n) (hn1 : n ≤ 9223372036854775807) :
    Calls Try.prog 3 #[.int .i64 names, .int .i64 n] w fun e w' => e = .returned (.bool true) ∧ Fr [] w w' := by
  by_cases hc : 1 ≤ names ∧ names ≤ 20
  · obtain ⟨hc0, hc1⟩ := hc
    have hd1 : decide (names < 1) = false := by simp; omega
    have hd2 : decide (20 < names) = false := by simp; omega
    go_enter Try.func3, Try.ntmps3
    go_wp2_with fail
    refine (known_c _).mono ?_
    rintro e w1 ⟨rfl, f1⟩
    have F1 := hid f1
    clear f1
    go_wp2_with fail
    refine (new_c 100 _ (by omega) (by omega)).mono ?_
    rintro e w2 ⟨b, m0, m1, rfl, a1, a2, a3, a4, a5, a6, a7, a8⟩
    have A2 := hid (And.intro a1 (And.intro a2 (And.intro a3 (And.intro a4 (And.intro (Nat.le_trans F1.out.size a5) (And.intro (Nat.le_trans F1.out.size a6) (And.intro (Nat.le_trans F1.out.size a7) (F1.out.trans a8))))))))
    clear a1 a2 a3 a4 a5 a6 a7 a8
    go_wp2_with fail
    refine (create_c A2.out.1 (by omega) (by omega) (by omega) (by omega) A2.out.2.1 SK_nil rfl isNm_a (by decide) (ps := []) (World.ownsRow_nil _ _ _ _) (by simp)).mono ?_
    rintro e w3 ⟨rfl, pv3, fb, d3, o3, n3, g3, s3, f3, q3⟩
    have mm3 : w3.heap[m1]? = some (.map #[] 0) := f3.at A2.out.2.2.1 (by
      simp only [Value.ownBlock, Option.toList_none, List.mem_cons, List.not_mem_nil, or_false, not_or]
      exact ⟨Ne.symm A2.out.2.2.2.1, notin_types A2.out.2.2.1 A2.out.1 (by simp)⟩)
    have A3 := hid (And.intro d3 (And.intro o3 (And.intro n3 (And.intro g3 (And.intro s3 (And.intro f3 (And.intro q3 mm3)))))))
    clear d3 o3 n3 g3 s3 f3 q3 mm3 F1
    go_wp2_with fail
    refine (syncDir_one A3.out.1 (by omega) (by omega) A3.out.2.2.2.2.2.2.2 SK_nil rfl A3.out.2.1).mono ?_
    rintro e w4 ⟨rfl, d4, n4, f4⟩
    have M4 := hid (mi_start A2.out A3.out (And.intro d4 (And.intro n4 f4)))
    clear d4 n4 f4 A2 A3
    go_wp2_with fail
    go_loopw [8] (fun v8 wr => ∃ (k : Nat) (i : Int), (k : Int) + 1 = i ∧ 1 ≤ i ∧ i ≤ names ∧ v8 = .int .i64 i ∧ MI w wr b m0 m1 fb (2 + k) k) (fun v8 _ => (names - intOf v8).toNat)
    case atStart => exact ⟨0, 1, by omega, by omega, by omega, rfl, M4.out⟩
    case round =>
      obtain ⟨k, i, hki, hi1, hi2, rfl, hmi⟩ := hrel
      have HKI := hid hki
      have A := hid hmi
      clear hmi M4
      by_cases hlt : i < names
      · have hk18 : k < 19 := by omega
        have HM : Hid (∀ W, W = wr.drew → Calls Try.prog 8 #[.pointer (some ⟨b, 0, none⟩), .string ((⟨#[97, 98, 99, 100, 101, 102, 103, 104, 105, 106, 107, 108, 109, 110, 111, 112, 113, 114, 115, 116, 117, 118, 119, 120, 121, 122]⟩ : ByteArray).extract (i.toNat - 1) i.toNat), .string ((⟨#[97, 98, 99, 100, 101, 102, 103, 104, 105, 106, 107, 108, 109, 110, 111, 112, 113, 114, 115, 116, 117, 118, 119, 120, 121, 122]⟩ : ByteArray).extract i.toNat (i + 1).toNat)] W fun e w' => e = .returned (.int .i64 0) ∧ MI w w' b m0 m1 fb (2 + k + 1) (k + 1)) := by
          intro W hW
          subst hW
          rw [show (⟨#[97, 98, 99, 100, 101, 102, 103, 104, 105, 106, 107, 108, 109, 110, 111, 112, 113, 114, 115, 116, 117, 118, 119, 120, 121, 122]⟩ : ByteArray) = abc from rfl, show i.toNat = k + 1 by omega, show k + 1 - 1 = k by omega, show (i + 1).toNat = k + 1 + 1 by omega, abc_cut ⟨k, by omega⟩, abc_cut ⟨k + 1, by omega⟩]
          exact mi_step (k := k) (mi_drew A.out) (by omega) (by omega) (by omega)
        have hw1 : IntKind.i64.wrap (i - 1) = i - 1 := by rw [IntKind.wrap_i64]; omega
        have hw2 : IntKind.i64.wrap (i + 1) = i + 1 := by rw [IntKind.wrap_i64]; omega
        have z1 : 0 ≤ i := by omega
        have z2 : i ≤ 26 := by omega
        have z3 : 0 ≤ i - 1 := by omega
        have z4 : i - 1 ≤ i := by omega
        have z5 : 0 ≤ i + 1 := by omega
        have z6 : i + 1 ≤ 26 := by omega
        have z7 : i ≤ i + 1 := by omega
        have z8 : i ≤ 25 := by omega
        have HHK := hid hki
        clear A hki
        go_wp2_with fail
        refine wp_region_held_drew (S := fun _ => True) (by kernel_rfl) trivial (fun _ => ?_)
        refine wpAnyH_take (i := 0) (v := .pointer (some ⟨b, 0, none⟩)) rfl (by kernel_rfl) (by kernel_rfl) (by kernel_rfl) (fun _ _ _ h => h) (.inl ⟨by rfl, fun wx _ => by go_simp⟩) trivial ?_
        simp only [Act.put]
        refine wpAnyH_take (i := 1) (v := .string (⟨#[97, 98, 99, 100, 101, 102, 103, 104, 105, 106, 107, 108, 109, 110, 111, 112, 113, 114, 115, 116, 117, 118, 119, 120, 121, 122]⟩ : ByteArray)) rfl (by kernel_rfl) (by kernel_rfl) (by kernel_rfl) (fun _ _ _ h => h) (.inl ⟨by rfl, fun wx _ => by go_simp⟩) trivial ?_
        simp only [Act.put]
        refine wpAnyH_take (i := 2) (v := .int .i64 i) rfl (by kernel_rfl) (by kernel_rfl) (by kernel_rfl) (fun _ _ _ h => h) (.inl ⟨by rfl, fun wx _ => by go_simp⟩) trivial ?_
        simp only [Act.put]
        refine wpAnyH_take (i := 3) (v := .int .i64 (i - 1)) rfl (by kernel_rfl) (by kernel_rfl) (by kernel_rfl) (fun _ _ _ h => h) (.inl ⟨by rfl, fun wx _ => by go_simp⟩) trivial ?_
        simp only [Act.put]
        refine wpAnyH_take (i := 4) (v := .int .i64 i) rfl (by kernel_rfl) (by kernel_rfl) (by kernel_rfl) (fun _ _ _ h => h) (.inl ⟨by rfl, fun wx _ => by go_simp⟩) trivial ?_
        simp only [Act.put]
        refine wpAnyH_take (i := 5) (v := .string ((⟨#[97, 98, 99, 100, 101, 102, 103, 104, 105, 106, 107, 108, 109, 110, 111, 112, 113, 114, 115, 116, 117, 118, 119, 120, 121, 122]⟩ : ByteArray).extract (i - 1).toNat i.toNat)) rfl (by kernel_rfl) (by kernel_rfl) (by kernel_rfl) (fun _ _ _ h => h) (.inl ⟨by rfl, fun wx _ => by go_simp⟩) trivial ?_
        simp only [Act.put]
        refine wpAnyH_take (i := 6) (v := .string (⟨#[97, 98, 99, 100, 101, 102, 103, 104, 105, 106, 107, 108, 109, 110, 111, 112, 113, 114, 115, 116, 117, 118, 119, 120, 121, 122]⟩ : ByteArray)) rfl (by kernel_rfl) (by kernel_rfl) (by kernel_rfl) (fun _ _ _ h => h) (.inl ⟨by rfl, fun wx _ => by go_simp⟩) trivial ?_
        simp only [Act.put]
        refine wpAnyH_take (i := 7) (v := .int .i64 i) rfl (by kernel_rfl) (by kernel_rfl) (by kernel_rfl) (fun _ _ _ h => h) (.inl ⟨by rfl, fun wx _ => by go_simp⟩) trivial ?_
        simp only [Act.put]
        refine wpAnyH_take (i := 8) (v := .int .i64 i) rfl (by kernel_rfl) (by kernel_rfl) (by kernel_rfl) (fun _ _ _ h => h) (.inl ⟨by rfl, fun wx _ => by go_simp⟩) trivial ?_
        simp only [Act.put]
        refine wpAnyH_take (i := 9) (v := .int .i64 (i + 1)) rfl (by kernel_rfl) (by kernel_rfl) (by kernel_rfl) (fun _ _ _ h => h) (.inl ⟨by rfl, fun wx _ => by go_simp⟩) trivial ?_
        simp only [Act.put]
        refine wpAnyH_take (i := 10) (v := .string ((⟨#[97, 98, 99, 100, 101, 102, 103, 104, 105, 106, 107, 108, 109, 110, 111, 112, 113, 114, 115, 116, 117, 118, 119, 120, 121, 122]⟩ : ByteArray).extract i.toNat (i + 1).toNat)) rfl (by kernel_rfl) (by kernel_rfl) (by kernel_rfl) (fun _ _ _ h => h) (.inl ⟨by rfl, fun wx _ => by go_simp⟩) trivial ?_
        simp only [Act.put]
        refine wpAnyH_ready (rs := [11]) (by kernel_rfl) (by simp) ?_
        refine AllReadyH.cons rfl (fun K hK => ?_) AllReadyH.nil
        go_simp
        refine (HM.out _ rfl).mono ?_
        rintro e w5 ⟨rfl, h5⟩
        have H5 := hid h5
        refine hK.out _ _ trivial (fun _ => ?_)
        clear hK K h5
        refine wpAnyH_ready (rs := [12]) (by kernel_rfl) (by simp) ?_
        refine AllReadyH.cons rfl (fun K hK => ?_) AllReadyH.nil
        go_simp
        refine hK.out _ _ trivial (fun _ => ?_)
        clear hK K
        refine wpAnyH_done (by kernel_rfl) ?_ _
        clear HM hw1 hw2
        go_wp2
        go_roundw
        case rel => exact ⟨k + 1, i + 1, by have := HHK.out; omega, by omega, by omega, by go_num, by have := H5.out; rw [show (2 : Int) + (k + 1 : Nat) = 2 + k + 1 from by omega]; exact this⟩
        case measure => simp [intOf]; omega
      · go_wp2_with fail
        refine (mi_restart A.out (by omega) n hn1).mono ?_
        rintro e w5 ⟨rfl, m5, c1, c2, c3⟩
        have C5 := hid (And.intro c1 (And.intro c2 c3))
        clear c1 c2 c3
        go_wp2_with fail
        refine (names_one C5.out.1 (by omega) (nm_size _) C5.out.2.1).mono ?_
        rintro e w6 ⟨v6, rfl, o6, f6⟩
        obtain ⟨g, c6, rfl⟩ : ∃ g c6, v6 = .slice (some ⟨g, 0, none⟩) 1 c6 := by
          rcases o6.2 with ⟨_, e3⟩ | ⟨g, cap, cu, e2, _⟩
          · omega
          · exact ⟨g, cap, e2⟩
        have y0 : w6.cell? ⟨g, 0, none⟩ = some (.string (nm (min (max n 0).toNat k))) := by rw [o6.cellAt 0 (by omega)]; rfl
        have F6 := hid (C5.out.2.2.trans f6)
        clear o6 f6 C5
        generalize hj : min (max n 0).toNat k = j at y0
        have HJ := hid hj
        clear hj
        have hj0 : (j : Int) ≤ k ∧ j ≤ k := by have := HJ.out; omega
        have hk' : (k : Int) = names - 1 := by omega
        have HX := hid (abc_cut ⟨j, by omega⟩)
        have HS := hid (nm_self j)
        go_wp2_with fail
        rw [show max 0 (min n (names - 1)) = (j : Int) from by have := HJ.out; omega]
        clear hk'
        go_quiet (fail)
        go_wp2
        go_ret
        exact ⟨ret_bool (abc_same HX.out), F6.out.drewN _⟩
  · have hc' : names < 1 ∨ (1 ≤ names ∧ 20 < names) := by omega
    clear hc
    rcases hc' with h | ⟨h, h'⟩
    all_goals go_enter Try.func3, Try.ntmps3
    all_goals go_wp2_with fail
    all_goals refine (known_c _).mono ?_
    all_goals rintro e w1 ⟨rfl, f1⟩
    all_goals have F1 := hid f1
    all_goals clear f1
    all_goals go_wp2
    all_goals go_ret
    all_goals exact ⟨rfl, F1.out⟩
end Go.Proofs.Ytilgagmnifbdpaa
