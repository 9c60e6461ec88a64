/-
  What settle does with one pending creation, and with none; what SyncDir answers then; what spend, maps.Clone and Read answer.
-/
import Derived.Test.YtilgagmnifbdpaaI
namespace Go.Proofs.Ytilgagmnifbdpaa
open Go.ChangeShapes Go.WideShapes Go.ChangeAt Go.RowKit

set_option maxHeartbeats 400000 in
theorem settle_one {w : World} {b m0 m1 : Nat} {cap used made cnt fail halt : Int} {pv : Value} {down : Bool} (h : DB w b cap m0 m1 pv used made cnt fail halt down)
    {es : Array MapEntry} {clk : Nat} {s : ByteArray} {fb : Nat} (hm : w.heap[m1]? = some (.map es clk)) (hs : SK es.toList) (hv : lk es.toList s = none) (hp : w.ownsRow 0 76 1 pv 1 [cr b s fb])
    (left : Int) (h0 : 0 < left) (h1 : left ≤ 9223372036854775807) :
    Calls Try.prog 16 #[.pointer (some ⟨b, 3, none⟩), .int .i64 left] w fun e w' => e = .returned (.tuple #[]) ∧ DB w' b cap m0 m1 (.slice none 0 0) used made cnt fail halt down ∧
      w'.heap[m1]? = some (.map (es.push ⟨.string s, .pointer (some ⟨fb, 0, none⟩), clk⟩) (clk + 1)) ∧ Fr [b, m1] w w' := by
  obtain ⟨g, pc, rfl⟩ : ∃ g pc, pv = .slice (some ⟨g, 0, none⟩) 1 pc := by
    rcases hp.2 with ⟨_, e3⟩ | ⟨g, cap, cu, e2, _⟩
    · omega
    · exact ⟨g, cap, e2⟩
  have hne : m1 ≠ b := by intro e; subst e; unfold DB at h; rw [hm] at h; cases h
  have c3 : w.cell? ⟨b, 3, none⟩ = some (.slice (some ⟨g, 0, none⟩) 1 pc) := by rw [blk_cell h]; rfl
  have ck : w.cell? ⟨g, 0, none⟩ = some (.iface 59 (.agg #[.pointer (some ⟨b, 1, none⟩), .string s, .pointer (some ⟨fb, 0, none⟩)])) := by
    rw [hp.cellAt 0 (by omega)]; rfl
  have H := hid h
  have HM := hid hm
  have HS := hid hs
  have HV := hid hv
  have HP := hid hp
  clear h hm hs hv hp
  go_enter Try.func16, Try.ntmps16
  go_wp2
  refine wp_loop_rounds 2 ?_
  rw [rounds_succ]
  go_wp2_with fail
  refine (create_sure H.out HM.out HS.out HV.out left h0 h1).mono ?_
  rintro e w1 ⟨rfl, b1, b2⟩
  have hd1 : DB w1 b cap m0 m1 (.slice (some ⟨g, 0, none⟩) 1 pc) used made cnt fail halt down := b2.at H.out (by simp [Ne.symm hne])
  have d3 : w1.cell? ⟨b, 3, none⟩ = some (.slice (some ⟨g, 0, none⟩) 1 pc) := by rw [blk_cell hd1]; rfl
  have f3 : w1.frozen? ⟨b, 3, none⟩ = false := blk_frozen hd1 3
  have HD1 := hid hd1
  have B1 := hid b1
  have B2 := hid b2
  clear hd1 b1 b2
  go_wp2
  rw [rounds_succ]
  go_wp2
  go_end0
  refine ⟨rfl, ?_, ?_, ?_⟩
  · unfold DB; rw [blk_set HD1.out]; rfl
  · rw [blk_setne _ _ _ hne]; exact B1.out
  · exact (B2.out.mono (by simp)).set _ _ (.inl (by simp))

set_option maxHeartbeats 400000 in
theorem settle_nil {w : World} {b m0 m1 : Nat} {cap used made cnt fail halt : Int} {pa : Option Addr} {pc : Nat} {down : Bool} (h : DB w b cap m0 m1 (.slice pa 0 pc) used made cnt fail halt down) (left : Int) :
    Calls Try.prog 16 #[.pointer (some ⟨b, 3, none⟩), .int .i64 left] w fun e w' => e = .returned (.tuple #[]) ∧ DB w' b cap m0 m1 (.slice none 0 0) used made cnt fail halt down ∧ Fr [b] w w' := by
  have c3 : w.cell? ⟨b, 3, none⟩ = some (.slice pa 0 pc) := by rw [blk_cell h]; rfl
  have f3 : w.frozen? ⟨b, 3, none⟩ = false := blk_frozen h 3
  have H := hid h
  clear h
  go_enter Try.func16, Try.ntmps16
  go_wp2
  go_rounds 1
  go_end0
  refine ⟨rfl, ?_, ?_⟩
  · unfold DB; rw [blk_set H.out]; rfl
  · exact (Fr.refl _ _).set _ _ (.inl (by simp))

set_option maxHeartbeats 400000 in
theorem syncDir_one {w : World} {b m0 m1 : Nat} {cap used made cnt : Int} {pv : Value} (h : DB w b cap m0 m1 pv used made cnt 0 (-1) false) (h0 : 0 ≤ cnt) (h1 : cnt < 1000000)
    {es : Array MapEntry} {clk : Nat} {s : ByteArray} {fb : Nat} (hm : w.heap[m1]? = some (.map es clk)) (hs : SK es.toList) (hv : lk es.toList s = none) (hp : w.ownsRow 0 76 1 pv 1 [cr b s fb]) :
    Calls Try.prog 7 #[.pointer (some ⟨b, 0, none⟩)] w fun e w' => e = .returned (.int .i64 0) ∧ DB w' b cap m0 m1 (.slice none 0 0) used made (cnt + 1) 0 (-1) false ∧
      w'.heap[m1]? = some (.map (es.push ⟨.string s, .pointer (some ⟨fb, 0, none⟩), clk⟩) (clk + 1)) ∧ Fr [b, m1] w w' := by
  have hne : m1 ≠ b := by intro e; subst e; unfold DB at h; rw [hm] at h; cases h
  have H := hid h
  have HM := hid hm
  have HS := hid hs
  have HV := hid hv
  have HP := hid hp
  clear h hm hs hv hp
  go_enter Try.func7, Try.ntmps7
  go_wp2_with fail
  refine (begin_c H.out h0 h1).mono ?_
  rintro e w1 ⟨rfl, hd1, hf1⟩
  have HM1 := hid (hf1.at HM.out (by simp [hne]))
  have HP1 : Hid (w1.ownsRow 0 76 1 pv 1 [cr b s fb]) := ownsRow_of_block HP.out fun k hk => hf1.block k (HP.out.lt k hk).2 (by
    intro e; simp at e; subst e; exact ownsRow_ne HP.out H.out (by decide) hk)
  have HD1 := hid hd1
  have HF1 := hid hf1
  clear hd1 hf1
  go_wp2_with fail
  refine (settle_one HD1.out HM1.out HS.out HV.out HP1.out _ (by omega) (by omega)).mono ?_
  rintro e w2 ⟨rfl, b1, b2, b3⟩
  have B := hid (And.intro b1 (And.intro b2 b3))
  clear b1 b2 b3
  go_wp2
  go_ret
  exact ⟨rfl, B.out.1, B.out.2.1, (HF1.out.mono (by simp)).trans B.out.2.2⟩

set_option maxHeartbeats 400000 in
theorem read_c {w : World} {b m0 m1 : Nat} {cap used made cnt fail halt : Int} {pv : Value} (h : DB w b cap m0 m1 pv used made cnt fail halt false)
    {es : Array MapEntry} {clk : Nat} {s : ByteArray} {fb : Nat} (hm : w.heap[m0]? = some (.map es clk)) (hs : SK es.toList) (hv : lk es.toList s = some (.pointer (some ⟨fb, 0, none⟩))) (hn : isNm s = true) (hl : s.size ≤ maxLen)
    {num : Int} {sv uv fpv : Value} {olds : List Value} (hf : FB w fb num sv uv fpv) (ho : w.ownsRow 0 5 1 sv olds.length olds) (hb : Bts olds) (ho1 : olds.length ≤ 100000000) :
    Calls Try.prog 12 #[.pointer (some ⟨b, 0, none⟩), .string s] w fun e w' => ∃ v', e = .returned (.tuple #[v', .int .i64 0]) ∧ w'.ownsRow w.heap.size 5 1 v' olds.length olds ∧ Fr [] w w' := by
  obtain ⟨sa, sc, rfl, hsc⟩ := ownsRow_slice ho
  have c1 : w.cell? ⟨fb, 1, none⟩ = some (.slice sa olds.length sc) := by rw [blk_cell hf]; rfl
  have H := hid h
  have HM := hid hm
  have HS := hid hs
  have HV := hid hv
  have HO := hid ho
  have HB := hid hb
  clear h hm hs hv ho hb hf
  go_enter Try.func12, Try.ntmps12
  go_wp2_with fail
  refine (look_some H.out HM.out HS.out HV.out hn hl).mono ?_
  rintro e w1 ⟨rfl, rfl⟩
  go_wp2_with fail
  refine (clone_c (Rd.own HO.out) HB.out ho1).mono ?_
  rintro e w2 ⟨v', rfl, b1, b2⟩
  have B := hid (And.intro b1 b2)
  clear b1 b2
  go_wp2
  go_ret2
  exact ⟨v', rfl, B.out.1, B.out.2⟩
end Go.Proofs.Ytilgagmnifbdpaa
