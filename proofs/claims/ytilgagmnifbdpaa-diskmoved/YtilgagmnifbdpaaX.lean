/-
  What a directory does with a renaming; what Rename answers on a disk of one name; what settle does with renamings one behind the other.
-/
import Derived.Test.YtilgagmnifbdpaaV
namespace Go.Proofs.Ytilgagmnifbdpaa
open Go.ChangeShapes Go.WideShapes Go.ChangeAt Go.RowKit

set_option maxRecDepth 100000 in
set_option maxHeartbeats 1000000 in
theorem do_rename {w : World} {b m0 m1 : Nat} {cap used made cnt fail halt : Int} {pv : Value} {down : Bool} (h : DB w b cap m0 m1 pv used made cnt fail halt down)
    {bn clk : Nat} {s t : ByteArray} {fb : Nat} (hm : w.heap[m0]? = some (.map #[⟨.string s, .pointer (some ⟨fb, 0, none⟩), bn⟩] clk)) (hss : (s == s) = true) (hst : (t == s) = false)
    {ps : List Value} (hp : w.ownsRow 0 76 1 pv ps.length ps) (hp1 : ps.length ≤ 1000000) :
    Calls Try.prog 15 #[.pointer (some ⟨b, 3, none⟩), rn b s t] w fun e w' => e = .returned (.tuple #[]) ∧ ∃ pv', DB w' b cap m0 m1 pv' used made cnt fail halt down ∧
      w'.ownsRow 0 76 1 pv' (ps ++ [rn b s t]).length (ps ++ [rn b s t]) ∧ w'.heap[m0]? = some (.map #[⟨.string t, .pointer (some ⟨fb, 0, none⟩), clk⟩] (clk + 1)) ∧
      Fr (m0 :: b :: pv.ownBlock.toList) w w' ∧ (pv'.ownBlock = pv.ownBlock ∨ ∃ k, pv'.ownBlock = some k ∧ w.heap.size ≤ k) := by
  obtain ⟨i0, hi, hz0, hz1, hz2⟩ := info_parts infoC
  have hne : m0 ≠ b := by intro e; subst e; unfold DB at h; rw [hm] at h; cases h
  have H := hid h
  have HM := hid hm
  have HSS := hid hss
  have HST := hid hst
  have HP := hid hp
  clear h hm hss hst hp
  unfold rn
  go_enter Try.func15, Try.ntmps15
  go_wp2_with fail
  refine (rename_seen H.out HM.out HSS.out HST.out _ (by omega) (by omega)).mono ?_
  rintro e w1 ⟨rfl, hm1, hf1⟩
  have hd1 : DB w1 b cap m0 m1 pv used made cnt fail halt down := hf1.at H.out (by simp [Ne.symm hne])
  have hp1' : w1.ownsRow 0 76 1 pv ps.length ps := ownsRow_of_block HP.out fun k hk => hf1.block k (HP.out.lt k hk).2 (by
    intro e; simp at e; subst e; exact ownsRow_nemap HP.out HM.out hk)
  obtain ⟨pa, pc, rfl, hpc⟩ := ownsRow_slice hp1'
  have c3 : w1.cell? ⟨b, 3, none⟩ = some (.slice pa ps.length pc) := by rw [blk_cell hd1]; rfl
  have f3 : w1.frozen? ⟨b, 3, none⟩ = false := blk_frozen hd1 3
  have hblt := blk_lt hd1
  have hbne := hid (ownsRow_ne hp1' hd1 (by decide))
  have HD1 := hid hd1
  have HP1 := hid hp1'
  have HM1 := hid hm1
  have HF1 := hid hf1
  clear hd1 hp1' hm1 hf1
  go_wp2_with (
    at_builtin
    go_must (
    refine wpList_append_own_at _ rfl _ _ 45 rfl 0 76 i0 .nilIface 1 16 Try.underlying45 hi hz0 hz1 hz2 rfl (by decide) (.slice pa ps.length pc) ps.length ps (by simp [Act.eval]) (HP1.out.alloc _) ⟨w1.heap.size, 0, none⟩ 1 1 [rn b s t] (by simp [Act.eval]) rfl (cell_one_new _ _ _) (by simp [rn, Value.oneCell']) (by unfold maxLen; omega) (by omega) (by simp) ?_
    intro v' w2 hown' hgrow hnil hat
    obtain ⟨ao, cap', rfl, _⟩ := ownsRow_slice hown'
    have cf : w2.cell? ⟨b, 3, none⟩ = some (.slice pa ps.length pc) := by rw [World.cell?_of_block (w := w1) (by rw [hgrow.block b (by simp; omega) (Ne.symm hbne.out), blk_old _ _ hblt])]; exact c3
    have ff : w2.frozen? ⟨b, 3, none⟩ = false := by rw [World.frozen?_of_block (w := w1) (by rw [hgrow.block b (by simp; omega) (Ne.symm hbne.out), blk_old _ _ hblt])]; exact f3
    have HOW := hid hown'
    have HGR := hid hgrow
    have HAT := hid hat
    clear hown' hgrow hat hnil))
  go_end0
  have R := pend_close (o := 3) HD1.out (by decide) HP1.out HOW.out HGR.out HAT.out
  have hsz := HF1.out.size
  refine ⟨rfl, _, R.1, by rw [List.length_append]; exact R.2.1, ?_, (HF1.out.mono (by simp)).trans (R.2.2.1.mono fun k hk => List.mem_cons_of_mem _ hk), ?_⟩
  · refine R.2.2.1.at HM1.out ?_
    have := ownsRow_nemap HP1.out HM1.out
    simp only [List.mem_cons, Option.mem_toList, not_or]
    exact ⟨hne, this⟩
  · rcases R.2.2.2 with hat | ⟨k, hk, hk2⟩
    · exact .inl hat
    · exact .inr ⟨k, hk, by omega⟩

set_option maxRecDepth 100000 in
set_option maxHeartbeats 1000000 in
theorem rename_c {w : World} {b m0 m1 : Nat} {cap used made cnt : Int} {pv : Value} (h : DB w b cap m0 m1 pv used made cnt 0 (-1) false) (h0 : 0 ≤ cnt) (h1 : cnt < 1000000)
    {bn clk : Nat} {s t : ByteArray} {fb : Nat} (hm : w.heap[m0]? = some (.map #[⟨.string s, .pointer (some ⟨fb, 0, none⟩), bn⟩] clk)) (hss : (s == s) = true) (hst : (t == s) = false) (htl : (s.toList == t.toList) = false)
    (hns : isNm s = true) (hls : s.size ≤ maxLen) (hnt : isNm t = true) (hlt : t.size ≤ maxLen) {ps : List Value} (hp : w.ownsRow 0 76 1 pv ps.length ps) (hp1 : ps.length ≤ 1000000) :
    Calls Try.prog 8 #[.pointer (some ⟨b, 0, none⟩), .string s, .string t] w fun e w' => e = .returned (.int .i64 0) ∧ ∃ pv', DB w' b cap m0 m1 pv' used made (cnt + 1) 0 (-1) false ∧
      w'.ownsRow 0 76 1 pv' (ps ++ [rn b s t]).length (ps ++ [rn b s t]) ∧ w'.heap[m0]? = some (.map #[⟨.string t, .pointer (some ⟨fb, 0, none⟩), clk⟩] (clk + 1)) ∧
      Fr (m0 :: b :: pv.ownBlock.toList) w w' ∧ (pv'.ownBlock = pv.ownBlock ∨ ∃ k, pv'.ownBlock = some k ∧ w.heap.size ≤ k) := by
  have hne : m0 ≠ b := by intro e; subst e; unfold DB at h; rw [hm] at h; cases h
  have sk1 : SK (#[⟨.string s, .pointer (some ⟨fb, 0, none⟩), bn⟩] : Array MapEntry).toList := fun e he => by simp at he; subst he; exact ⟨s, rfl⟩
  have l1 : lk (#[⟨.string s, .pointer (some ⟨fb, 0, none⟩), bn⟩] : Array MapEntry).toList s = some (.pointer (some ⟨fb, 0, none⟩)) := by simp [lk, keyIs, List.find?, hss]
  have l2 : lk (#[⟨.string s, .pointer (some ⟨fb, 0, none⟩), bn⟩] : Array MapEntry).toList t = none := by simp [lk, keyIs, List.find?, hst]
  have H := hid h
  have HM := hid hm
  have HSK := hid sk1
  have L1 := hid l1
  have L2 := hid l2
  have HSS := hid hss
  have HST := hid hst
  have HP := hid hp
  clear h hm sk1 l1 l2 hss hst hp
  go_enter Try.func8, Try.ntmps8
  go_wp2_with fail
  refine (begin_c H.out h0 h1).mono ?_
  rintro e w1 ⟨rfl, hd1, hf1⟩
  have HM1 := hid (hf1.at HM.out (by simp [hne]))
  have HP1 : Hid (w1.ownsRow 0 76 1 pv ps.length ps) := ownsRow_of_block HP.out fun k hk => hf1.block k (HP.out.lt k hk).2 (by
    intro e; simp at e; subst e; exact ownsRow_ne HP.out H.out (by decide) hk)
  have hblt := blk_lt hd1
  have HD1 := hid hd1
  have HF1 := hid hf1
  clear hd1 hf1
  go_wp2_with fail
  refine (isName_c _ _ hlt).mono ?_
  rw [hnt]
  rintro e w' ⟨rfl, rfl⟩
  go_wp2_with fail
  refine (find_some HD1.out HM1.out HSK.out L1.out hns hls).mono ?_
  rintro e w' ⟨rfl, rfl⟩
  go_wp2_with fail
  refine (find_none HD1.out HM1.out HSK.out L2.out hnt hlt).mono ?_
  rintro e w' ⟨rfl, rfl⟩
  have HDW : Hid (DB w'.drew b cap m0 m1 pv used made (cnt + 1) 0 (-1) false) := HD1.out
  have HMW : Hid (w'.drew.heap[m0]? = some (.map #[⟨.string s, .pointer (some ⟨fb, 0, none⟩), bn⟩] clk)) := HM1.out
  have HPW : Hid (w'.drew.ownsRow 0 76 1 pv ps.length ps) := HP1.out
  go_wp2_with fail
  go_region_with (
    go_at_call 15
    go_must (
    refine (do_rename HDW.out HMW.out HSS.out HST.out HPW.out hp1).mono ?_
    rintro e w2 ⟨rfl, pv', hd2, ho2, hm2, hf2, hat2⟩
    have R2 := hid (And.intro hd2 (And.intro ho2 (And.intro hm2 (And.intro hf2 hat2))))
    clear hd2 ho2 hm2 hf2 hat2))
  all_goals go_wp2
  all_goals go_ret
  all_goals obtain ⟨r1, r2, r3, r4, r5⟩ := R2.out
  all_goals have hsz := HF1.out.size
  all_goals refine ⟨rfl, pv', r1, r2, r3, (HF1.out.mono (by simp)).trans ((((Fr.refl _ w').drew)).trans r4), ?_⟩
  all_goals
    rcases r5 with hat | ⟨k, hk, hk2⟩
    · exact .inl hat
    · exact .inr ⟨k, hk, Nat.le_trans hsz hk2⟩
end Go.Proofs.Ytilgagmnifbdpaa
