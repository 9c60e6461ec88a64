/-
  The walk of DiskTorn.
-/
import Derived.Test.YtiiielhhddfdpaaR3
namespace Go.Proofs.Ytiiielhhddfdpaa
open Go.ChangeShapes Go.WideShapes Go.ChangeAt Go.RowKit

set_option maxRecDepth 100000 in
set_option maxHeartbeats 4000000 in
theorem torn_c (w : World) (ua : Option Addr) (uc : Nat) (sure : List Value) (hsr : Rd w (.slice ua sure.length uc) sure) (hsb : Bts sure) (hsl : sure.length ≤ 140737488355328) (la : Option Addr) (len lc : Nat) (hlc : len ≤ 9223372036854775807) (A : Nat → Option Addr) (C : Nat → Nat) (X : Nat → List Value)
    (hl : 0 < len → ∃ lb lo, la = some ⟨lb, lo, none⟩ ∧ ∀ r, r < len → w.cell? ⟨lb, lo + r, none⟩ = some (.slice (A r) (X r).length (C r)) ∧ Rd w (.slice (A r) (X r).length (C r)) (X r) ∧ Bts (X r) ∧ (X r).length ≤ 140737488355328)
    (n : Int) (hn0 : -9223372036854775808 ≤ n) (hn1 : n ≤ 9223372036854775807) :
    Calls Try.prog 7 #[.slice ua sure.length uc, .slice la len lc, .int .i64 n] w fun e w' => e = .returned (.bool true) ∧ Fr [] w w' := by
  have HL := hid hl
  have HSR := hid hsr
  have HSB := hid hsb
  clear hl hsr hsb
  by_cases hcap : sure.length ≤ 500 ∧ len ≤ 20
  · obtain ⟨hc0, hc1⟩ := hcap
    have hd1 : decide (500 < (sure.length : Int)) = false := by simp; omega
    have hd2 : decide (20 < (len : Int)) = false := by simp; omega
    go_enter Try.func7, Try.ntmps7
    go_wp2_with fail
    refine (known_c _).mono ?_
    rintro e w1 ⟨rfl, f1⟩
    have F1 := hid f1
    clear f1
    go_wp2_with fail
    refine (new_c 1048576 _ (by omega) (by omega)).mono ?_
    rintro e w2 ⟨b, m0, m1, rfl, a1, a2, a3, a4, a5, a6, a7, a8⟩
    have A2 := hid (And.intro a1 (And.intro a2 (And.intro a3 (And.intro a4 (And.intro (Nat.le_trans F1.out.size a5) (And.intro (Nat.le_trans F1.out.size a6) (And.intro (Nat.le_trans F1.out.size a7) (F1.out.trans a8))))))))
    clear a1 a2 a3 a4 a5 a6 a7 a8
    go_wp2_with fail
    refine (create_c A2.out.1 (by omega) (by omega) (by omega) (by omega) A2.out.2.1 SK_nil rfl isNm_x (by decide) (ps := []) (World.ownsRow_nil _ _ _ _) (by simp)).mono ?_
    rintro e w3 ⟨rfl, pv3, fb, d3, o3, n3, g3, s3, f3, q3⟩
    have A3 := hid (made_one A2.out (And.intro d3 (And.intro o3 (And.intro n3 (And.intro g3 (And.intro s3 (And.intro f3 q3)))))))
    clear d3 o3 n3 g3 s3 f3 q3 A2 F1
    go_wp2_with fail
    refine (first_app A3.out HSR.out HSB.out hc0).mono ?_
    rintro e w4 ⟨rfl, h4⟩
    have A4 := hid h4
    clear h4 A3
    go_wp2_with fail
    refine (first_sync A4.out hc0).mono ?_
    rintro e w5 ⟨rfl, h5⟩
    have A5 := hid h5
    clear h5 A4
    go_wp2_with fail
    refine (first_syncDir A5.out).mono ?_
    rintro e w6 ⟨rfl, h6⟩
    have A6 := hid h6
    clear h6 A5
    have S6 : Hid (Rd w6 (.slice ua sure.length uc) sure) := HSR.out.fr (by obtain ⟨sv, uv, _, _, _, _, a5, _⟩ := A6.out; exact a5)
    go_wp2_with (
      at_builtin
      go_must (
      refine wpList_append_rd rfl _ _ rfl (.slice none 0 0) 0 [] rfl (World.ownsRow_nil _ _ _ _) (.slice ua sure.length uc) sure (by simp [Act.eval]) S6.out HSB.out (by omega) ?_
      intro av w7 h1 h2 h3
      have T7 := hid (ti_start A6.out h1 h2 h3)
      clear h1 h2 h3))
    clear A6 S6
    go_loopw [9, 10] (fun v9 v10 wr => ∃ (k : Nat) (sv uv fpv : Value) (ps : List Value) (xss : List (List Value)), k ≤ len ∧ v10 = .int .i64 k ∧ TI w wr b m0 m1 fb (4 + k) sv uv fpv v9 sure ps xss (sure ++ xss.flatten) ∧ ps.length ≤ k ∧ xss.flatten.length ≤ 300 * k) (fun _ v10 _ => len - (intOf v10).toNat)
    case atStart =>
      obtain ⟨sv, uv, ht⟩ := T7.out
      exact ⟨0, sv, uv, _, [], [], Nat.zero_le _, rfl, by simpa using ht, by simp, by simp⟩
    case round =>
      obtain ⟨k, sv, uv, fpv, ps, xss, hk, rfl, ht, hps, hxs⟩ := hrel
      have HT := hid ht
      clear ht T7
      by_cases hlt : k < len
      · obtain ⟨lb, lo, rfl, hcs⟩ := HL.out (by omega)
        obtain ⟨ck0, hrd, hbt, hxl⟩ := hcs k hlt
        have ck : wr.cell? ⟨lb, lo + k, none⟩ = some (.slice (A k) (X k).length (C k)) := by
          rw [World.cell?_of_block (w := w) (HT.out.2.2.2.2.2.2.2.2.2.2.2.1.block _ (World.block_lt_of_cell? w _ ck0) (by simp))]; exact ck0
        have CK0 := hid ck0
        have HRD := hid hrd
        have HBT := hid hbt
        clear hcs ck0 hrd hbt
        by_cases h300 : (X k).length ≤ 300
        · have hd3 : decide (300 < ((X k).length : Int)) = false := by simp; omega
          go_wp2_with fail
          refine (torn_app HT.out (by omega) (by omega) (by omega) (by rw [List.length_append]; omega) HRD.out HBT.out h300).mono ?_
          rintro e w8 ⟨rfl, sv8, fpv8, ps8, xss8, ht8, hx8, hp8⟩
          have ck8 : w8.cell? ⟨lb, lo + k, none⟩ = some (.slice (A k) (X k).length (C k)) := by
            rw [World.cell?_of_block (w := w) (ht8.2.2.2.2.2.2.2.2.2.2.2.1.block _ (World.block_lt_of_cell? w _ CK0.out) (by simp))]; exact CK0.out
          have T8 := hid ht8
          have R8 := hid (HRD.out.fr ht8.2.2.2.2.2.2.2.2.2.2.2.1)
          have HX8 := hid hx8
          clear ht8 hx8 ck HT
          go_wp2_with (
            at_builtin
            go_must (
            refine wpList_append_rd rfl _ _ rfl _ _ _ (by simp [Act.eval]) T8.out.2.2.2.2.2.2.2.1 (.slice (A k) (X k).length (C k)) (X k) (by simp [Act.eval]) R8.out HBT.out (by rw [List.length_append]; omega) ?_
            intro av9 w9 h1 h2 h3
            have T9 := hid (T8.out.all h1 h2 h3)
            clear h1 h2 h3))
          go_roundw
          case rel => exact ⟨k + 1, sv8, uv, fpv8, ps8, xss8, by omega, by go_num, by have := T9.out; rw [HX8.out, ← List.append_assoc, show (4 : Int) + (k + 1 : Nat) = 4 + k + 1 from by omega]; exact this, by omega, by rw [HX8.out, List.length_append]; omega⟩
          case measure => simp [intOf]; omega
        · have hd3 : decide (300 < ((X k).length : Int)) = true := by simp; omega
          go_wp2
          go_ret
          exact ⟨ret_bool (by simp), HT.out.2.2.2.2.2.2.2.2.2.2.2.1⟩
      · go_wp2_with fail
        have hfl : (sure ++ xss.flatten).length ≤ 10000 := by rw [List.length_append]; omega
        refine (torn_restart HT.out (by omega) hfl HSB.out n hn1).mono ?_
        rintro e w8 ⟨rfl, m8, sv8, uv8, c1, c2, c3, c4, c5, c6⟩
        have hT := take_min sure xss.flatten n.toNat
        have hTb : Bts (sure ++ xss.flatten.take n.toNat) := fun u hu => by
          rcases List.mem_append.1 hu with h | h
          · exact HSB.out u h
          · exact HT.out.2.2.2.2.2.2.2.2.1.bts u (List.mem_of_mem_take h)
        have hTl : (sure ++ xss.flatten.take n.toNat).length ≤ 10000 := by rw [hT, List.length_take]; omega
        have C8 := hid (And.intro c1 (And.intro c2 (And.intro c3 (And.intro c4 (And.intro c5 c6)))))
        have HTT := hid hT
        have HTB := hid hTb
        clear c1 c2 c3 c4 c5 c6 hT hTb
        go_wp2_with fail
        refine (read_c C8.out.1 C8.out.2.1 (SK_x _) (lk_x _) isNm_x (by decide) C8.out.2.2.1 C8.out.2.2.2.1 HTB.out (by omega)).mono ?_
        rintro e w9 ⟨v9', rfl, o9, f9⟩
        have B9 := ownsRow_of_block (w' := w9) C8.out.2.2.2.2.1 fun k hk => f9.block k (C8.out.2.2.2.2.1.lt k hk).2 (by simp)
        have F9 := hid (C8.out.2.2.2.2.2.trans f9)
        have HTQ := HTT.out
        clear HT C8 HTT f9
        generalize sure ++ xss.flatten.take n.toNat = T at *
        have hGl : (sure ++ xss.flatten).length = sure.length + xss.flatten.length := List.length_append
        have hFl : xss.flatten.length = (sure ++ xss.flatten).length - sure.length := by omega
        rw [hFl] at HTQ
        have hGs : sure.length ≤ (sure ++ xss.flatten).length := by omega
        clear hGl hFl hxs
        generalize sure ++ xss.flatten = G at *
        obtain ⟨va, vc, rfl, _⟩ := ownsRow_slice o9
        obtain ⟨aa, ac, rfl, hac⟩ := ownsRow_slice B9
        have R9 := hid (Rd.own o9)
        have HQR : Hid (∀ q, q = sure.length + min n.toNat (G.length - sure.length) → Rd w9 (.slice aa q ac) T) := fun q hq => by
          subst hq; rw [HTQ]; exact Rd.take B9 (by omega)
        clear o9 B9 HTQ
        rcases (show n ≤ 0 ∨ (0 < n ∧ n ≤ (G.length : Int) - sure.length) ∨ ((G.length : Int) - sure.length < n ∧ 0 < n) by omega) with hn | hn | hn
        all_goals go_wp2_with fail
        all_goals refine (bytes_same R9.out (HQR.out _ (by omega)) HTB.out).mono ?_
        all_goals rintro e w10 ⟨rfl, rfl⟩
        all_goals go_wp2
        all_goals go_ret
        all_goals exact ⟨rfl, F9.out⟩
  · have hcap' : 500 < sure.length ∨ (sure.length ≤ 500 ∧ 20 < len) := by omega
    clear hcap
    rcases hcap' with h | ⟨h, h'⟩
    all_goals go_enter Try.func7, Try.ntmps7
    all_goals go_wp2_with fail
    all_goals refine (known_c _).mono ?_
    all_goals rintro e w1 ⟨rfl, f1⟩
    all_goals have F1 := hid f1
    all_goals clear f1
    all_goals go_wp2
    all_goals go_ret
    all_goals exact ⟨rfl, F1.out⟩
end Go.Proofs.Ytiiielhhddfdpaa
