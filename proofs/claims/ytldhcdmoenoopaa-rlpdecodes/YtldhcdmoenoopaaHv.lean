/-
  RlpDecodes walked.
-/
import Derived.Test.YtldhcdmoenoopaaHu
import Derived.Deep.CutRange
namespace Go.Proofs.Ytldhcdmoenoopaa
open Go.ChangeShapes Go.WideShapes Go.ChangeAt Go.RowKit Go.Deep

theorem trip {w : World} {N : Nat} {p q r : Value} {T : TypeId} (h : w.heap[N]? = some (.cells #[p, q, r] T (0, 0))) : (w.cell? ⟨N, 0, none⟩ = some p ∧ w.cell? ⟨N, 1, none⟩ = some q ∧ w.cell? ⟨N, 2, none⟩ = some r) ∧ w.frozen? ⟨N, 0, none⟩ = false ∧ w.frozen? ⟨N, 1, none⟩ = false ∧ w.frozen? ⟨N, 2, none⟩ = false :=
  ⟨⟨by rw [blk_cell h]; rfl, by rw [blk_cell h]; rfl, by rw [blk_cell h]; rfl⟩, blk_frozen h 0, blk_frozen h 1, blk_frozen h 2⟩
theorem set3_ne (w : World) {N j : Nat} (h : j ≠ N) (x y z : Value) : (((w.setCell ⟨N, 0, none⟩ x).setCell ⟨N, 1, none⟩ y).setCell ⟨N, 2, none⟩ z).heap[j]? = w.heap[j]? := by rw [blk_setne _ _ _ h, blk_setne _ _ _ h, blk_setne _ _ _ h]
theorem set3_sz (w : World) {N : Nat} (x y z : Value) : (((w.setCell ⟨N, 0, none⟩ x).setCell ⟨N, 1, none⟩ y).setCell ⟨N, 2, none⟩ z).heap.size = w.heap.size := by simp [World.setCell]
theorem decE_le {n : Nat} {res : Except Nat (Tr 19 × Nat × Nat)} (h : ∀ e, res = .error e → 0 < e ∧ e < 100) : decE n res ≤ 100 := by
  rcases res with x | ⟨t, k, c⟩
  · have := h x rfl; show x ≤ 100; omega
  · show (if k < n then 42 else 0) ≤ 100; split <;> omega
theorem fstE_le {res : Except Nat (Tr 19 × Nat × Nat)} (h : ∀ e, res = .error e → 0 < e ∧ e < 100) : fstE res ≤ 100 := by
  rcases res with x | ⟨t, k, c⟩
  · have := h x rfl; show x ≤ 100; omega
  · show 0 ≤ 100; omega

set_option maxRecDepth 20000 in
set_option maxHeartbeats 6400000 in
theorem decodes_c (w : World) {a : Option Addr} {L cc : Nat} {b : List Nat} (hr : Rd w (.slice a L cc) (bv b)) (hb : By b) (hL : b.length = L) (hl : L ≤ 140737488355328) :
    Calls Try.prog 4 #[.slice a L cc] w fun e w' => e = .returned (.bool true) ∧ Fr [] w w' := by
  have HR := hid hr
  have HB := hid hb
  have HL := hid hL
  have HE : Hid (∀ e, firstL b = .error e → 0 < e ∧ e < 100) := hid (fun e h => firstL_err2 hb h)
  have HFU : Hid (∀ t k c, firstL b = .ok (t, k, c) → full 19 t) := hid (fun t k c h => by
    obtain ⟨⟨_, h2, _⟩, _⟩ := firstL_inv hb h
    exact full_of_bad 19 1 t h2)
  have hDl := decE_le (n := L) HE.out
  have hFl := fstE_le HE.out
  obtain ⟨E, hE⟩ : ∃ E, E = decE L (firstL b) := ⟨_, rfl⟩
  obtain ⟨G, hG⟩ : ∃ G, G = fstE (firstL b) := ⟨_, rfl⟩
  obtain ⟨K, hK⟩ : ∃ K, K = fstN (firstL b) := ⟨_, rfl⟩
  rw [← hE] at hDl
  rw [← hG] at hFl
  have HEE := hid hE
  have HGG := hid hG
  have HKK := hid hK
  clear hr hb hL hE hG hK
  go_enter Try.func4, Try.ntmps4
  go_wp2_with fail
  refine (known_c _).mono ?_
  rintro e w1 ⟨rfl, f1⟩
  have F1 := hid f1
  clear f1
  by_cases hmid : 5000 < L ∧ L ≤ 65536
  · obtain ⟨m1, m2⟩ := hmid
    have m1' : (5000 : Int) < (L : Int) := by omega
    have m2' : (L : Int) ≤ 65536 := by omega
    go_wp2
    go_ret
    exact ⟨rfl, F1.out⟩
  have R1 := hid (HR.out.fr F1.out)
  have hbl : Hid (b.length ≤ 140737488355328) := hid (by rw [HL.out]; exact hl)
  go_upto_region 3 with fail
  go_cut [19] from 12 to 18 (fun v W' => v = .bool false ∧ w1 = W')
  case first =>
    by_cases m1 : 5000 < L
    · have m1' : (5000 : Int) < (L : Int) := by omega
      have m2' : ¬ (L : Int) ≤ 65536 := by omega
      go_wp2
      go_meet
      exact ⟨rfl, rfl⟩
    · have m1' : ¬ (5000 : Int) < (L : Int) := by omega
      go_wp2
      go_meet
      exact ⟨rfl, rfl⟩
  case rest =>
    obtain ⟨rfl, rfl⟩ := hcut
    clear hmid
    go_wp2_with (at_builtin; refine wpList_append_nil rfl _ _ rfl rfl (Fr.refl _ w1) _ R1.out rfl hbl.out ?_; intro v2 w2 o2 f2 _; rw [HL.out] at o2; obtain ⟨a2, c2, rfl, _⟩ := ownsRow_slice o2; have O2 := hid o2; have F2 := hid (F1.out.trans f2); have R2 := hid (Rd.ownN o2 HL.out.symm); clear o2 f2)
    refine (decode_c w2 R2.out HB.out hbl.out).mono ?_
    rintro r w3 ⟨hT, f3⟩
    obtain ⟨l1, p1, p2, p3, p4, p5, p6, hr3, t3⟩ := hT.parts (fun e h => (HE.out e h).1)
    rw [HL.out, ← HEE.out] at hr3 t3
    subst hr3
    obtain ⟨W3, hW3⟩ : ∃ W, W = w3.alloc (.cells #[.bool l1, .slice p1 p2 p3, .slice p4 p5 p6] 25) := ⟨_, rfl⟩
    have G3 : Hid (Fr [] w2 W3) := hid (by rw [hW3]; exact f3.alloc _)
    have X3 : Hid (W3.heap[w3.heap.size]? = some (.cells #[.bool l1, .slice p1 p2 p3, .slice p4 p5 p6] 25 (0, 0))) := hid (by rw [hW3]; exact blk_new _ _)
    have T3 : Hid (Tld W3 w2.heap.size E l1 (.slice p1 p2 p3) (.slice p4 p5 p6) (firstL b)) := hid (by rw [hW3]; exact t3.fr ((Fr.refl _ _).alloc _))
    have hs3 := f3.size
    obtain ⟨X, hX⟩ : ∃ X, X = w3.heap.size := ⟨_, rfl⟩
    have HX := hid hX
    rw [← hX] at X3 hs3
    clear hT t3 f3
    go_upto_region 7 with fail
    rw [← hW3, ← hX]
    clear hW3 hX
    go_wp2_with fail
    refine (rdecode_c W3 (HR.out.fr (F2.out.trans G3.out)) HB.out hbl.out).mono ?_
    rintro r w4 ⟨hT, f4⟩
    obtain ⟨l2, q1, q2, q3, q4, q5, q6, hr4, t4⟩ := hT.parts (fun e h => (HE.out e h).1)
    rw [HL.out, ← HEE.out] at hr4 t4
    subst hr4
    obtain ⟨W4, hW4⟩ : ∃ W, W = w4.alloc (.cells #[.bool l2, .slice q1 q2 q3, .slice q4 q5 q6] 25) := ⟨_, rfl⟩
    have G4 : Hid (Fr [] W3 W4) := hid (by rw [hW4]; exact f4.alloc _)
    have Y4 : Hid (W4.heap[w4.heap.size]? = some (.cells #[.bool l2, .slice q1 q2 q3, .slice q4 q5 q6] 25 (0, 0))) := hid (by rw [hW4]; exact blk_new _ _)
    have T4 : Hid (Tld W4 W3.heap.size E l2 (.slice q1 q2 q3) (.slice q4 q5 q6) (firstL b)) := hid (by rw [hW4]; exact t4.fr ((Fr.refl _ _).alloc _))
    have hs4 := f4.size
    have hX3 := blk_lt X3.out
    obtain ⟨Y, hY⟩ : ∃ Y, Y = w4.heap.size := ⟨_, rfl⟩
    rw [← hY] at Y4 hs4
    have X4 := hid (G4.out.at X3.out (by simp))
    have T34 := hid (T3.out.fr G4.out)
    clear hT t4 f4 X3 T3
    go_upto_region 8 with fail
    rw [← hW4, ← hY]
    clear hW4 hY
    obtain ⟨⟨x0, x1, x2⟩, _⟩ := trip X4.out
    obtain ⟨⟨y0, y1, y2⟩, _⟩ := trip Y4.out
    have hnn : ((E : Int) == (E : Int)) = true := by simp
    go_wp2_with fail
    refine (same_both W4 hDl HFU.out T34.out T4.out).mono ?_
    rintro r w5 ⟨rfl, f5⟩
    have G5 := hid f5
    have X5 := hid (f5.at X4.out (by simp))
    have Y5 := hid (f5.at Y4.out (by simp))
    have hXY : X < Y := by omega
    have hY4 := blk_lt Y4.out
    have hs5 := f5.size
    have F5 := hid (((F2.out.trans G3.out).trans G4.out).trans f5)
    have R5 := hid (R2.out.fr ((G3.out.trans G4.out).trans f5))
    have O5 := hid (ownsRow_fr O2.out ((G3.out.trans G4.out).trans f5))
    clear f5 x0 x1 x2 y0 y1 y2 X4 Y4 T34 T4
    go_wp2_with fail
    refine (first_c w5 R5.out HB.out hbl.out).mono ?_
    rintro r w6 ⟨hT, f6⟩
    obtain ⟨l3, s1, s2, s3, s4, s5, s6, hr6, t6⟩ := hT.parts (fun e h => (HE.out e h).1)
    rw [← HGG.out, ← HKK.out] at hr6
    rw [← HGG.out] at t6
    subst hr6
    have X6 := hid (f6.at X5.out (by simp))
    have Y6 := hid (f6.at Y5.out (by simp))
    obtain ⟨⟨x0, x1, x2⟩, z0, z1, z2⟩ := trip X6.out
    obtain ⟨W6, hW6⟩ : ∃ W, W = ((w6.setCell ⟨X, 0, none⟩ (.bool l3)).setCell ⟨X, 1, none⟩ (.slice s1 s2 s3)).setCell ⟨X, 2, none⟩ (.slice s4 s5 s6) := ⟨_, rfl⟩
    have hXw : w.heap.size ≤ X := by have := F2.out.size; omega
    have G6 : Hid (Fr [] w W6) := hid (by rw [hW6]; exact fr3 (F5.out.trans f6) hXw _ _ _)
    have P6 : Hid (∀ j, j ≠ X → W6.heap[j]? = w6.heap[j]?) := hid (fun j hj => by rw [hW6]; exact set3_ne _ hj _ _ _)
    have S6 : Hid (W6.heap.size = w6.heap.size) := hid (by rw [hW6]; exact set3_sz _ _ _ _)
    have XX6 : Hid (W6.heap[X]? = some (.cells #[.bool l3, .slice s1 s2 s3, .slice s4 s5 s6] 25 (0, 0))) := hid (by rw [hW6]; exact store3 X6.out)
    have YY6 : Hid (W6.heap[Y]? = some (.cells #[.bool l2, .slice q1 q2 q3, .slice q4 q5 q6] 25 (0, 0))) := hid (by rw [P6.out Y (by omega)]; exact Y6.out)
    have T6 : Hid (Tld W6 w5.heap.size G l3 (.slice s1 s2 s3) (.slice s4 s5 s6) (firstL b)) := hid (t6.step (by rw [S6.out]; exact Nat.le_refl _) fun k hk _ => P6.out k (by omega))
    have O6 : Hid (W6.ownsRow w1.heap.size 5 1 (.slice a2 L c2) L (bv b)) := hid (ownsRow_of_block (ownsRow_fr O5.out f6) fun j hj => P6.out j (by
      have := (O2.out.lt j hj).2
      omega))
    have hs6 := f6.size
    clear hT t6 f6 X5 Y5 X6 Y6 R5 O5
    go_upto_region 11 with fail
    rw [← hW6]
    clear hW6 x0 x1 x2 z0 z1 z2
    go_wp2_with fail
    refine (rfirst_c W6 (HR.out.fr G6.out) HB.out).mono ?_
    rintro r w7 ⟨hT, f7⟩
    obtain ⟨l4, u1, u2, u3, u4, u5, u6, hr7, t7⟩ := hT.parts (fun e h => (HE.out e h).1)
    rw [← HGG.out, ← HKK.out] at hr7
    rw [← HGG.out] at t7
    subst hr7
    have X7 := hid (f7.at XX6.out (by simp))
    have Y7 := hid (f7.at YY6.out (by simp))
    have T67 := T6.out.fr f7
    obtain ⟨⟨x0, x1, x2⟩, z0, z1, z2⟩ := trip Y7.out
    obtain ⟨W7, hW7⟩ : ∃ W, W = ((w7.setCell ⟨Y, 0, none⟩ (.bool l4)).setCell ⟨Y, 1, none⟩ (.slice u1 u2 u3)).setCell ⟨Y, 2, none⟩ (.slice u4 u5 u6) := ⟨_, rfl⟩
    have hYw : w.heap.size ≤ Y := by omega
    have G7 : Hid (Fr [] w W7) := hid (by rw [hW7]; exact fr3 (G6.out.trans f7) hYw _ _ _)
    have P7 : Hid (∀ j, j ≠ Y → W7.heap[j]? = w7.heap[j]?) := hid (fun j hj => by rw [hW7]; exact set3_ne _ hj _ _ _)
    have S7 : Hid (W7.heap.size = w7.heap.size) := hid (by rw [hW7]; exact set3_sz _ _ _ _)
    have YY7 : Hid (W7.heap[Y]? = some (.cells #[.bool l4, .slice u1 u2 u3, .slice u4 u5 u6] 25 (0, 0))) := hid (by rw [hW7]; exact store3 Y7.out)
    have XX7 : Hid (W7.heap[X]? = some (.cells #[.bool l3, .slice s1 s2 s3, .slice s4 s5 s6] 25 (0, 0))) := hid (by rw [P7.out X (by omega)]; exact X7.out)
    have TX7 : Hid (Tld W7 w5.heap.size G l3 (.slice s1 s2 s3) (.slice s4 s5 s6) (firstL b)) := hid (T67.step (by rw [S7.out]; exact Nat.le_refl _) fun k hk _ => P7.out k (by omega))
    have TY7 : Hid (Tld W7 W6.heap.size G l4 (.slice u1 u2 u3) (.slice u4 u5 u6) (firstL b)) := hid (t7.step (by rw [S7.out]; exact Nat.le_refl _) fun k hk _ => P7.out k (by have := S6.out; omega))
    have O7 : Hid (W7.ownsRow w1.heap.size 5 1 (.slice a2 L c2) L (bv b)) := hid (ownsRow_of_block (ownsRow_fr O6.out f7) fun j hj => P7.out j (by
      have := (O2.out.lt j hj).2
      omega))
    have hs7 := f7.size
    clear hT t7 f7 T67 X7 Y7 XX6 YY6 T6 O6
    go_upto_region 12 with fail
    rw [← hW7]
    clear hW7 x0 x1 x2 z0 z1 z2
    obtain ⟨⟨x0, x1, x2⟩, _⟩ := trip XX7.out
    obtain ⟨⟨y0, y1, y2⟩, _⟩ := trip YY7.out
    have hgg : ((G : Int) == (G : Int)) = true := by simp
    have hkk : ((K : Int) == (K : Int)) = true := by simp
    go_wp2_with fail
    refine (same_both W7 hFl HFU.out TX7.out TY7.out).mono ?_
    rintro r w8 ⟨rfl, f8⟩
    have F8 := hid (G7.out.trans f8)
    have X8 := hid (f8.at XX7.out (by simp))
    have Y8 := hid (f8.at YY7.out (by simp))
    have TX8 := hid (TX7.out.fr f8)
    have TY8 := hid (TY7.out.fr f8)
    have O8 := hid (ownsRow_fr O7.out f8)
    have hs8 := f8.size
    clear f8 x0 x1 x2 y0 y1 y2
    go_wp2_with fail
    refine (helpBytes_e (Rd.ownN O8.out HL.out.symm) (HR.out.fr F8.out) rfl).mono ?_
    rintro r w9 ⟨rfl, hw9⟩
    have hw9' := hw9.symm
    clear hw9
    subst hw9'
    go_wp2_with fail
    refine (spoil_r w8 O8.out (by omega)).mono ?_
    rintro r w9 ⟨⟨uu, rfl⟩, f9⟩
    have hown : ∀ k, (Value.slice a2 L c2).ownBlock = some k → w.heap.size ≤ k ∧ k < w2.heap.size := fun k hk => ⟨Nat.le_trans F1.out.size (O2.out.lt k hk).1, (O2.out.lt k hk).2⟩
    have hblk : ∀ k, w2.heap.size ≤ k → k < w8.heap.size → w9.heap[k]? = w8.heap[k]? := fun k hk hk2 => f9.block k hk2 (by
      intro hm
      have := hown k (by simpa using hm)
      omega)
    have hS6 := S6.out
    have hS7 := S7.out
    have X9 := hid (show w9.heap[X]? = _ from (hblk X (by omega) (blk_lt X8.out)).trans X8.out)
    have Y9 := hid (show w9.heap[Y]? = _ from (hblk Y (by omega) (blk_lt Y8.out)).trans Y8.out)
    have TX9 := hid (TX8.out.step f9.size fun k hk hk2 => hblk k (by omega) hk2)
    have TY9 := hid (TY8.out.step f9.size fun k hk hk2 => hblk k (by omega) hk2)
    have F9 : Hid (Fr [] w w9) := hid ((F8.out.mono (S' := (Value.slice a2 L c2).ownBlock.toList) (by simp)).trans f9 |>.shed (fun k hk hlt => by
      have := hown k (by simpa using hk)
      omega))
    clear f9 hown hblk hS6 hS7 TX8 TY8 X8 Y8
    obtain ⟨⟨x0, x1, x2⟩, _⟩ := trip X9.out
    obtain ⟨⟨y0, y1, y2⟩, _⟩ := trip Y9.out
    go_wp2_with fail
    refine (same_both w9 hFl HFU.out TX9.out TY9.out).mono ?_
    rintro r w10 ⟨rfl, f10⟩
    have F10 := hid (F9.out.trans f10)
    clear f10
    go_wp2
    go_ret
    exact ⟨rfl, F10.out⟩
end Go.Proofs.Ytldhcdmoenoopaa
