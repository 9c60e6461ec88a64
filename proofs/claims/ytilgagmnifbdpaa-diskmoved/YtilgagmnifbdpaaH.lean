/-
  What Append answers where there is room; what settle does with pending creations and writes; what SyncDir answers.
-/
import Derived.Test.YtilgagmnifbdpaaG
import Derived.Test.YtilgagmnifbdpaaD2
namespace Go.Proofs.Ytilgagmnifbdpaa
open Go.ChangeShapes Go.WideShapes Go.ChangeAt Go.RowKit

set_option maxHeartbeats 400000 in
theorem append_ok {w : World} {b m0 m1 : Nat} {cap used made cnt : Int} {pv : Value} (h : DB w b cap m0 m1 pv used made cnt 0 (-1) false) (h0 : 0 ≤ cnt) (h1 : cnt < 1000000)
    {es : Array MapEntry} {clk : Nat} {s : ByteArray} {fb : Nat} (hm : w.heap[m0]? = some (.map es clk)) (hs : SK es.toList) (hv : lk es.toList s = some (.pointer (some ⟨fb, 0, none⟩))) (hn : isNm s = true) (hl : s.size ≤ maxLen)
    {num : Int} {sv uv fpv bv : Value} {olds xs ps : List Value}
    (hf : FB w fb num sv uv fpv) (ho : w.ownsRow 0 5 1 sv olds.length olds) (hp : w.ownsRow 0 76 1 fpv ps.length ps) (hr : Rd w bv xs) (hb : Bts xs) (hrb : ∀ a n c, bv = .slice (some a) n c → a.block ≠ b)
    (hx : 0 < xs.length) (hx1 : xs.length ≤ 100000000) (ho1 : olds.length ≤ 100000000) (hp1 : ps.length ≤ 1000000) (hu : 0 ≤ used) (hu1 : used ≤ 100000000) (hroom : used + xs.length ≤ cap) :
    Calls Try.prog 11 #[.pointer (some ⟨b, 0, none⟩), .string s, bv] w fun e w' => e = .returned (.int .i64 0) ∧ ∃ v' pv' bv', FB w' fb num v' uv pv' ∧
      w'.ownsRow 0 5 1 v' (olds ++ xs).length (olds ++ xs) ∧ w'.ownsRow 0 76 1 pv' (ps ++ [wrt fb olds.length bv']).length (ps ++ [wrt fb olds.length bv']) ∧ w'.ownsRow w.heap.size 5 1 bv' xs.length xs ∧
      DB w' b cap m0 m1 pv (used + xs.length) made (cnt + 1) 0 (-1) false ∧ Fr (b :: fb :: (sv.ownBlock.toList ++ fpv.ownBlock.toList)) w w' ∧
      (v'.ownBlock = sv.ownBlock ∨ ∃ k, v'.ownBlock = some k ∧ w.heap.size ≤ k) ∧ (pv'.ownBlock = fpv.ownBlock ∨ ∃ k, pv'.ownBlock = some k ∧ w.heap.size ≤ k) ∧ (∀ k, bv'.ownBlock = some k → v'.ownBlock ≠ some k) := by
  have hne : fb ≠ b := by intro e; subst e; unfold DB at h; unfold FB at hf; rw [h] at hf; simp at hf
  obtain ⟨sa, sc, rfl, hsc⟩ := ownsRow_slice ho
  have H := hid h
  have HM := hid hm
  have HS := hid hs
  have HV := hid hv
  have HF := hid hf
  have HB := hid hb
  have HX : Hid (∀ w1, Fr [b] w w1 → w1.ownsRow 0 5 1 (.slice sa olds.length sc) olds.length olds ∧ w1.ownsRow 0 76 1 fpv ps.length ps ∧ Rd w1 bv xs) := fun w1 hf1 =>
    ⟨ownsRow_of_block ho fun k hk => hf1.block k (ho.lt k hk).2 (by intro e; simp at e; subst e; exact ownsRow_ne ho h (by decide) hk),
     ownsRow_of_block hp fun k hk => hf1.block k (hp.lt k hk).2 (by intro e; simp at e; subst e; exact ownsRow_ne hp h (by decide) hk), by
      rcases hr with hr | ⟨a, c, rfl, h4, h5⟩
      · exact .inl hr
      · refine .inr ⟨a, c, rfl, h4, fun j u hj => ?_⟩
        have h6 := h5 j u hj
        have hab : (a.add j).block = a.block := by unfold Addr.add; split <;> rfl
        rw [World.cell?_of_block (w := w) (hf1.block _ (World.block_lt_of_cell? w _ h6) (by rw [hab]; simp [hrb a _ _ rfl]))]; exact h6⟩
  have HBv : Hid (∃ ba bc, bv = .slice ba xs.length bc) := by
    rcases hr with ⟨rfl, rfl⟩ | ⟨a, c, rfl, h4, _⟩
    · exact ⟨_, _, rfl⟩
    · exact ⟨_, _, rfl⟩
  clear h hm hs hv hf ho hp hr hb hrb
  obtain ⟨ba, bc, rfl⟩ := HBv.out
  go_enter Try.func11, Try.ntmps11
  go_wp2_with fail
  refine (beginOn_some H.out h0 h1 HM.out HS.out HV.out hn hl).mono ?_
  rintro e w1 ⟨rfl, hd1, hf1⟩
  have HD1 := hid hd1
  have HFB1 := hid (hf1.at HF.out (by simp [hne]))
  have HY := hid (HX.out w1 hf1)
  have HF1 := hid hf1
  clear hd1 hf1
  go_wp2_with fail
  refine (size_c HFB1.out).mono ?_
  rintro e w' ⟨rfl, rfl⟩
  go_wp2_with fail
  refine (put_ok HD1.out HFB1.out HY.out.1 HY.out.2.1 HY.out.2.2 HB.out hx hx1 ho1 hp1 hu hu1 hroom).mono ?_
  rintro e w2 ⟨rfl, hz⟩
  have HZ := hid hz
  clear hz
  go_wp2
  go_ret
  obtain ⟨v', pv', bv', z1, z2, z3, z4, z5, z6, z7, z8, z9⟩ := HZ.out
  have hsz := HF1.out.size
  refine ⟨rfl, v', pv', bv', z1, z2, z3, ownsRow_base z4 hsz, z5, (HF1.out.mono (by simp)).trans z6, ?_, ?_, z9⟩
  · rcases z7 with z | ⟨k, hk, hk2⟩
    · exact .inl z
    · exact .inr ⟨k, hk, by omega⟩
  · rcases z8 with z | ⟨k, hk, hk2⟩
    · exact .inl z
    · exact .inr ⟨k, hk, by omega⟩
end Go.Proofs.Ytilgagmnifbdpaa
