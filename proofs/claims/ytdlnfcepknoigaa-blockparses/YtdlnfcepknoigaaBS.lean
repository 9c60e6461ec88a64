/-
  The statements' known.
-/
import Derived.Test.YtdlnfcepknoigaaJ35
namespace Go.Proofs.Ytdlnfcepknoigaa
open Go.ChangeShapes Go.WideShapes Go.ChangeAt Go.RowKit

theorem rd_mark (w : World) (x : Nat) : Rd (w.alloc (.cells #[.int .u8 (x : Int)] 5 (1, 2))) (.slice (some ⟨w.heap.size, 0, none⟩) 1 1) (bv [x]) := by
  refine .inr ⟨_, _, rfl, by simp [bv], fun j u hj => ?_⟩
  rw [Addr.add_lit, Nat.zero_add, World.cell?_alloc_mark, ← Array.getElem?_toList]
  exact hj
def ps0 : Ps := [(keyL [97] 1 1, [120])]
theorem ps0_rises : Rises ps0 := fun i hi => by
  have h0 : i = 0 := by simp [ps0] at hi; exact hi
  subst h0
  show isK (keyL [97] 1 1) = true
  exact keyL_is (by simp) (by omega) (by omega)
theorem bod0 : bod 1 ps0 1 = ent 0 (keyL [97] 1 1) [120] := by
  show [] ++ ent (shd 1 ps0 0) (kA ps0 0) (vA ps0 0) = _
  rfl
theorem ent0 : (ent 0 (keyL [97] 1 1) [120]).length = 13 := by
  unfold ent
  simp [putL_lt, keyL_len]
theorem plc0 : (plc 1 ps0 1).length = 4 := by
  show (plc 1 ps0 0 ++ fixL _ 4).length = 4
  rw [List.length_append, fixL_len]; rfl
theorem blk0 : (blk 1 ps0).length = 21 := by
  unfold blk
  have e : ps0.length = 1 := rfl
  rw [e, List.length_append, List.length_append, fixL_len, plc0, bod0, ent0]
theorem by0 : ByP ps0 := fun p hp => by
  simp [ps0] at hp
  subst hp
  exact ⟨keyL_by (by unfold By; decide) 1 1, by unfold By; decide⟩

set_option maxRecDepth 20000 in
set_option maxHeartbeats 3200000 in
theorem known_c (w : World) : Calls Try.prog 5 #[] w fun e w' => e = .returned (.bool true) ∧ Fr [] w w' := by
  have kc := fun (w : World) (C : Array Value) (n c : Nat) => Lib.run_convert_bytes_const (P := Try.prog) w 26 5 C n c Try.underlying26 Try.underlying5
  go_enter Try.func5, Try.ntmps5
  go_wp2_with fail
  refine (key_ok _ (rd_mark w 97) (by simp) 1 1 (by omega) (by omega)).mono ?_
  rintro e w1 ⟨kv, rfl, o1, f1⟩
  obtain ⟨ka, kcp, rfl, hkc⟩ := ownsRow_slice o1
  have O1 := hid o1
  have F1 := hid (((Fr.refl [] w).alloc (.cells #[.int .u8 97] 5 (1, 2))).trans f1)
  have hkl : (keyL [97] 1 1).length = 9 := keyL_len _ _ _
  rw [hkl] at hkc ⊢
  clear o1 f1
  obtain ⟨W2, hW2⟩ : ∃ W, W = (w1.alloc (.cells #[.int .u8 120] 5 (1, 2))).alloc (.cells #[.slice ka 9 kcp, .slice (some ⟨w1.heap.size, 0, none⟩) 1 1] 40) := ⟨_, rfl⟩
  have F12 : Fr [] w1 W2 := by rw [hW2]; exact ((Fr.refl _ _).alloc _).alloc _
  have X2 : W2.heap[w1.heap.size + 1]? = some (.cells #[.slice ka 9 kcp, .slice (some ⟨w1.heap.size, 0, none⟩) 1 1] 40 (0, 0)) := by rw [hW2]; exact new_at _ _ (by simp)
  have RX : Rd W2 (.slice (some ⟨w1.heap.size, 0, none⟩) 1 1) (bv [120]) := by rw [hW2]; exact (rd_mark w1 120).fr ((Fr.refl _ _).alloc _)
  have RKK : RdK W2 (.slice (some ⟨w1.heap.size + 1, 0, none⟩) 1 1) ps0 := by
    refine ⟨_, _, rfl, Nat.le_refl _, fun _ => ⟨_, _, rfl, fun j p hj => ?_⟩⟩
    have h0 : j = 0 := by
      rcases Nat.lt_or_ge j 1 with h | h
      · omega
      · rw [List.getElem?_eq_none (show ps0.length ≤ j from h)] at hj; cases hj
    subst h0
    have hp : (keyL [97] 1 1, [120]) = p := by simpa [ps0] using hj
    subst hp
    refine ⟨ka, kcp, some ⟨w1.heap.size, 0, none⟩, 1, ?_, ?_, ?_, RX, keyL_by (by unfold By; decide) 1 1, by unfold By; decide, by dsimp only; rw [hkl]; omega, by simp⟩
    · dsimp only; rw [blk_cell X2, hkl]; rfl
    · dsimp only; rw [blk_cell X2]; rfl
    · exact (Rd.ownB O1.out).fr F12
  have BO := hid (build_ok W2 RKK (by simp [ps0]) 1 (by omega) (by omega) ps0_rises (by rw [show ps0.length = 1 from rfl, bod0, ent0]; omega))
  have F2 := hid (F1.out.trans F12)
  clear F12 X2 RX RKK O1
  go_wp2_with fail
  rw [← hW2]
  clear hW2
  refine BO.out.mono ?_
  rintro e W3 ⟨bvv, rfl, o3, f3⟩
  obtain ⟨ba, bc, rfl, _⟩ := ownsRow_slice o3
  have F3 := hid (F2.out.trans f3)
  have PO := hid (parse_ok W3 (Rd.ownB o3) (blk_by by0 1) (by rw [blk0]; omega) ⟨ps0_rises, by omega, by omega, rfl⟩)
  rw [blk0] at PO ⊢
  clear o3 f3 BO
  go_wp2_with fail
  refine PO.out.mono ?_
  rintro e W4 ⟨lv, rfl, col, f4⟩
  have F4 := hid (F3.out.trans f4)
  obtain ⟨la, lc, hlv, hlc, hk⟩ := col.rd
  obtain ⟨q, off, rfl, hat⟩ := hk (by simp [ps0])
  obtain ⟨k1, c1, v1, c2, P⟩ := hat 0 _ (show ps0[0]? = some (keyL [97] 1 1, [120]) from rfl)
  have z1 := P.cv
  have cv := run_conv P.rv
  have hs : strOf [120] = ⟨#[120]⟩ := by decide
  dsimp only at z1 cv
  rw [hs] at cv
  have hlen : ps0.length = 1 := rfl
  rw [hlen] at hlv
  subst hlv
  simp only [List.length_cons, List.length_nil] at z1 cv
  have hbeq := ba_beq (⟨#[120]⟩ : ByteArray)
  clear col hat P PO f4 hk
  go_wp2
  go_ret
  exact ⟨rfl, F4.out⟩
end Go.Proofs.Ytdlnfcepknoigaa
