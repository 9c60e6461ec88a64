/-
  What settle does with renamings one behind the other, on the sure side: as many as are paid for are done.
-/
import Derived.Test.YtilgagmnifbdpaaX
namespace Go.Proofs.Ytilgagmnifbdpaa
open Go.ChangeShapes Go.WideShapes Go.ChangeAt Go.RowKit

/-- Where settle stands behind k renamings, with l left to pay. -/
def SM (w : World) (b : Nat) (cap : Int) (m0 m1 : Nat) (pv : Value) (used made cnt fail halt : Int) (down : Bool) (nm : Nat → ByteArray) (fb : Nat) (ps : List Value) (k : Nat) (wq : World) : Prop :=
  DB wq b cap m0 m1 pv used made cnt fail halt down ∧ wq.heap[m1]? = some (.map #[⟨.string (nm k), .pointer (some ⟨fb, 0, none⟩), k⟩] (k + 1)) ∧ wq.ownsRow 0 76 1 pv ps.length ps ∧ Fr [b, m1] w wq

set_option maxRecDepth 100000 in
set_option maxHeartbeats 1000000 in
theorem settle_moves {w : World} {b m0 m1 : Nat} {cap used made cnt fail halt : Int} {pv : Value} {down : Bool} (h : DB w b cap m0 m1 pv used made cnt fail halt down) (nm : Nat → ByteArray) (hss : ∀ i, (nm i == nm i) = true) {ps : List Value}
    (hst : ∀ i, i < ps.length → (nm (i + 1) == nm i) = false) {fb : Nat} (hm : w.heap[m1]? = some (.map #[⟨.string (nm 0), .pointer (some ⟨fb, 0, none⟩), 0⟩] 1)) (hp : w.ownsRow 0 76 1 pv ps.length ps) (hps : ∀ i (hi : i < ps.length), ps[i] = rn b (nm i) (nm (i + 1))) (hp1 : ps.length ≤ 1000)
    (left : Int) (h0 : 0 ≤ left) (h1 : left ≤ 9223372036854775807) :
    Calls Try.prog 16 #[.pointer (some ⟨b, 3, none⟩), .int .i64 left] w fun e w' => e = .returned (.tuple #[]) ∧ DB w' b cap m0 m1 (.slice none 0 0) used made cnt fail halt down ∧
      w'.heap[m1]? = some (.map #[⟨.string (nm (min left.toNat ps.length)), .pointer (some ⟨fb, 0, none⟩), min left.toNat ps.length⟩] (min left.toNat ps.length + 1)) ∧ Fr [b, m1] w w' := by
  obtain ⟨pa, pc, rfl, hpc⟩ := ownsRow_slice hp
  have c3 : w.cell? ⟨b, 3, none⟩ = some (.slice pa ps.length pc) := by rw [blk_cell h]; rfl
  have hne : m1 ≠ b := by intro e; subst e; unfold DB at h; rw [hm] at h; cases h
  have H := hid h
  have HM := hid hm
  have HP := hid hp
  have HSS := hid hss
  have HST := hid hst
  have HPS := hid hps
  clear h hm hp hss hst hps
  go_enter Try.func16, Try.ntmps16
  go_wp2
  go_loopw [1, 10] (fun v1 v10 wq => ∃ (k : Nat) (l : Int), k ≤ ps.length ∧ (k : Int) + l = left ∧ 0 ≤ l ∧ v1 = .int .i64 l ∧ v10 = .int .i64 k ∧ SM w b cap m0 m1 (.slice pa ps.length pc) used made cnt fail halt down nm fb ps k wq) (fun _ v10 _ => ps.length - (intOf v10).toNat)
  case atStart => exact ⟨0, left, Nat.zero_le _, by omega, h0, rfl, rfl, H.out, HM.out, HP.out, Fr.refl _ _⟩
  case round =>
    obtain ⟨k, l, hk, hkl, hl0, rfl, rfl, hsm⟩ := hrel
    have A := hid hsm
    clear hsm
    have d3 : wr.cell? ⟨b, 3, none⟩ = some (.slice pa ps.length pc) := by rw [blk_cell A.out.1]; rfl
    have f3 : wr.frozen? ⟨b, 3, none⟩ = false := blk_frozen A.out.1 3
    by_cases hlt : k < ps.length
    · obtain ⟨pg, rfl⟩ : ∃ pg, pa = some ⟨pg, 0, none⟩ := by
        rcases A.out.2.2.1.2 with ⟨e2, e3⟩ | ⟨g, cap, cu, e2, _⟩
        · omega
        · cases e2; exact ⟨_, rfl⟩
      have ck : wr.cell? ⟨pg, k, none⟩ = some (.iface 64 (.agg #[.pointer (some ⟨b, 1, none⟩), .string (nm k), .string (nm (k + 1))])) := by
        rw [A.out.2.2.1.cellAt k (by omega), List.getElem?_eq_getElem hlt, HPS.out k hlt]; rfl
      by_cases hpos : 0 < l
      · go_wp2_with fail
        refine (rename_sure A.out.1 A.out.2.1 (HSS.out k) (HST.out k hlt) l hpos (by omega)).mono ?_
        rintro e w2 ⟨rfl, b1, b2⟩
        have hd2 := b2.at A.out.1 (by simp [Ne.symm hne])
        have B := hid (show SM w b cap m0 m1 (.slice (some ⟨pg, 0, none⟩) ps.length pc) used made cnt fail halt down nm fb ps (k + 1) w2 from
          ⟨hd2, b1, ownsRow_of_block A.out.2.2.1 fun y hy => b2.block y (A.out.2.2.1.lt y hy).2 (by intro e; simp at e; subst e; exact ownsRow_nemap A.out.2.2.1 A.out.2.1 hy), A.out.2.2.2.trans (b2.mono (by simp))⟩)
        clear b1 b2 hd2
        go_wp2
        go_roundw
        case rel => exact ⟨k + 1, l - 1, by omega, by omega, by omega, rfl, by go_num, B.out⟩
        case measure => simp [intOf]; omega
      · have hl : l = 0 := by omega
        subst hl
        have hblt := blk_lt A.out.1
        go_wp2
        go_end0
        have hkm : min left.toNat ps.length = k := by omega
        rw [hkm]
        refine ⟨rfl, ?_, ?_, ?_⟩
        · unfold DB; rw [blk_old _ _ (by simpa [World.setCell] using hblt), blk_set A.out.1]; rfl
        · rw [blk_old _ _ (by simpa [World.setCell] using blk_lt A.out.2.1), blk_setne _ _ _ hne]; exact A.out.2.1
        · exact (A.out.2.2.2.set _ _ (.inl (by simp))).alloc _
    · go_wp2
      go_end0
      have hkm : min left.toNat ps.length = k := by omega
      rw [hkm]
      refine ⟨rfl, ?_, ?_, ?_⟩
      · unfold DB; rw [blk_set A.out.1]; rfl
      · rw [blk_setne _ _ _ hne]; exact A.out.2.1
      · exact A.out.2.2.2.set _ _ (.inl (by simp))
end Go.Proofs.Ytilgagmnifbdpaa
