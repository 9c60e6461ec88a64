/-
  What Create answers for a new name: a file without bytes has the name, and that is pending.
-/
import Derived.Test.YtilgagmnifbdpaaE
namespace Go.Proofs.Ytilgagmnifbdpaa
open Go.ChangeShapes Go.WideShapes Go.ChangeAt Go.RowKit

set_option maxHeartbeats 1000000 in
theorem create_c {w : World} {b m0 m1 : Nat} {cap used made cnt : Int} {pv : Value} (h : DB w b cap m0 m1 pv used made cnt 0 (-1) false) (h0 : 0 ≤ cnt) (h1 : cnt < 1000000) (hm0 : 0 ≤ made) (hm1 : made < 1000000)
    {es : Array MapEntry} {clk : Nat} {s : ByteArray} (hm : w.heap[m0]? = some (.map es clk)) (hs : SK es.toList) (hv : lk es.toList s = none) (hn : isNm s = true) (hl : s.size ≤ maxLen)
    {ps : List Value} (hp : w.ownsRow 0 76 1 pv ps.length ps) (hp1 : ps.length ≤ 1000000) :
    Calls Try.prog 6 #[.pointer (some ⟨b, 0, none⟩), .string s] w fun e w' => e = .returned (.int .i64 0) ∧ ∃ pv' fb, DB w' b cap m0 m1 pv' used (made + 1) (cnt + 1) 0 (-1) false ∧
      w'.ownsRow 0 76 1 pv' (ps ++ [cr b s fb]).length (ps ++ [cr b s fb]) ∧ w'.heap[m0]? = some (.map (es.push ⟨.string s, .pointer (some ⟨fb, 0, none⟩), clk⟩) (clk + 1)) ∧
      FB w' fb made (.slice none 0 0) (.slice none 0 0) (.slice none 0 0) ∧ w.heap.size ≤ fb ∧
      Fr (m0 :: b :: pv.ownBlock.toList) w w' ∧ (pv'.ownBlock = pv.ownBlock ∨ ∃ k, pv'.ownBlock = some k ∧ w.heap.size ≤ k) := by
  have hne : m0 ≠ b := by intro e; subst e; unfold DB at h; rw [hm] at h; cases h
  have H := hid h
  have HM := hid hm
  have HS := hid hs
  have HV := hid hv
  have HP := hid hp
  clear h hm hs hv hp
  go_enter Try.func6, Try.ntmps6
  go_wp2_with fail
  refine (begin_c H.out h0 h1).mono ?_
  rintro e w1 ⟨rfl, hd1, hf1⟩
  have HM1 := hid (hf1.at HM.out (by simp [hne]))
  have HP1 : Hid (w1.ownsRow 0 76 1 pv ps.length ps) := ownsRow_of_block HP.out fun k hk => hf1.block k (HP.out.lt k hk).2 (by
    intro e; simp at e; subst e; exact ownsRow_ne HP.out H.out (by decide) hk)
  have hblt := blk_lt hd1
  have c5 : w1.cell? ⟨b, 5, none⟩ = some (.int .i64 made) := by rw [blk_cell hd1]; rfl
  have HD1 := hid hd1
  have HF1 := hid hf1
  clear hd1 hf1
  go_wp2_with fail
  refine (find_none HD1.out HM1.out HS.out HV.out hn hl).mono ?_
  rintro e w' ⟨rfl, rfl⟩
  have HDW : Hid (DB (w'.alloc (.cells #[.int .i64 made, .slice none 0 0, .slice none 0 0, .slice none 0 0] 57)).drew b cap m0 m1 pv used made (cnt + 1) 0 (-1) false) := by
    unfold Hid DB; rw [blk_drew, blk_old _ _ hblt]; exact HD1.out
  have HMW : Hid ((w'.alloc (.cells #[.int .i64 made, .slice none 0 0, .slice none 0 0, .slice none 0 0] 57)).drew.heap[m0]? = some (.map es clk)) := by
    unfold Hid; rw [blk_drew, blk_old _ _ (blk_lt HM1.out)]; exact HM1.out
  have HPW : Hid ((w'.alloc (.cells #[.int .i64 made, .slice none 0 0, .slice none 0 0, .slice none 0 0] 57)).drew.ownsRow 0 76 1 pv ps.length ps) := HP1.out.alloc _
  go_wp2_with fail
  go_region_with (
    go_at_call 15
    go_must (
    refine (do_create (fb := w'.heap.size) HDW.out HMW.out HS.out HV.out HPW.out hp1).mono ?_
    rintro e w2 ⟨rfl, pv', hd2, ho2, hm2, hf2, hat2⟩
    have d5 : w2.cell? ⟨b, 5, none⟩ = some (.int .i64 made) := by rw [blk_cell hd2]; rfl
    have f5 : w2.frozen? ⟨b, 5, none⟩ = false := blk_frozen hd2 5
    have HD2 := hid hd2
    have HO2 := hid ho2
    have HM2 := hid hm2
    have HF2 := hid hf2
    have HAT2 := hid hat2
    clear hd2 ho2 hm2 hf2 hat2))
  go_wp2
  go_ret
  have hsz := HF1.out.size
  have hmlt := blk_lt HM1.out
  have FW : Fr (m0 :: b :: pv.ownBlock.toList) w' w2 := (((Fr.refl _ w').alloc _).drew).trans HF2.out
  have hns : w'.heap.size ∉ m0 :: b :: pv.ownBlock.toList := by
    intro e
    simp only [List.mem_cons, Option.mem_toList] at e
    rcases e with e | e | e
    · omega
    · omega
    · have := (HP1.out.lt _ e).2; omega
  refine ⟨rfl, pv', w'.heap.size, ?_, ?_, ?_, ?_, hsz, ?_, ?_⟩
  · unfold DB; rw [blk_set HD2.out]; rfl
  · refine ownsRow_of_block HO2.out fun k hk => blk_setne _ _ _ ?_
    intro e; subst e; exact ownsRow_ne HO2.out HD2.out (by decide) hk
  · rw [blk_setne _ _ _ hne]; exact HM2.out
  · unfold FB; rw [blk_setne _ _ _ (by omega)]; exact HF2.out.at (by rw [blk_drew, blk_new]) hns
  · exact ((HF1.out.mono (by simp)).trans FW).set _ _ (.inl (by simp))
  · rcases HAT2.out with hat | ⟨k, hk, hk2⟩
    · exact .inl hat
    · exact .inr ⟨k, hk, by simp at hk2; omega⟩
end Go.Proofs.Ytilgagmnifbdpaa
