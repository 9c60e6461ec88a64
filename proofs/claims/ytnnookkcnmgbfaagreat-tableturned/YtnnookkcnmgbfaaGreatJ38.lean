/-
  A byte of a table changed, without the program.
-/
import Derived.Test.YtnnookkcnmgbfaaGreatJ05
import Derived.Test.YtnnookkcnmgbfaaGreatJ03
import Derived.Test.YtnnookkcnmgbfaaGreatJ35
import Derived.Test.YtnnookkcnmgbfaaGreatJ23
import Derived.Test.YtnnookkcnmgbfaaGreatJ00
import Derived.RangeFuncNested
import Derived.RangeFuncBound
import Derived.RangeFuncCalls
import Derived.RangeFuncLeaves
import Derived.OrdersHeld
import Derived.OrdersIn
import Derived.Deep.RegionHeld
namespace Go.Proofs.YtnnookkcnmgbfaaGreat

theorem By.set8 {b : List Nat} (h : By b) {y : Nat} (hy : y < 256) (k : Nat) : By (b.set k y) := fun n hn => by
  rcases List.mem_or_eq_of_mem_set hn with h1 | h1
  · exact h n h1
  · rw [h1]; exact hy
theorem set_ne8 {b : List Nat} {k y : Nat} (hk : k < b.length) (hne : b[k]? ≠ some y) : b.set k y ≠ b := fun e => hne (by
  have : (b.set k y)[k]? = some y := by rw [List.getElem?_set_self hk]
  rw [e] at this
  exact this)
theorem wn_set_out {b : List Nat} {k y t n : Nat} (h : k < t ∨ t + n ≤ k) : wn (b.set k y) t n = wn b t n := by
  unfold wn
  rw [List.drop_set]
  rcases h with h | h
  · rw [if_pos h]
  · rw [if_neg (by omega), List.take_set, List.set_eq_of_length_le (by rw [List.length_take]; omega)]
theorem wn_set_in {b : List Nat} {k y t n : Nat} (h : t ≤ k) : wn (b.set k y) t n = (wn b t n).set (k - t) y := by
  unfold wn
  rw [List.drop_set, if_neg (by omega), List.take_set]
theorem wn_at {b : List Nat} {t n j : Nat} (h : j < n) : (wn b t n)[j]? = b[t + j]? := by
  unfold wn
  rw [List.getElem?_take_of_lt h, List.getElem?_drop]
theorem crc_set {m : List Nat} (hm : By m) {k y : Nat} (hk : k < m.length) (hy : y < 256) (hne : m[k]? ≠ some y) : crc (m.set k y) ≠ crc m := by
  have e1 : m = m.take k ++ m[k] :: m.drop (k + 1) := by rw [← List.drop_eq_getElem_cons hk, List.take_append_drop]
  have e2 : m.set k y = m.take k ++ y :: m.drop (k + 1) := List.set_eq_take_append_cons_drop.trans (if_pos hk)
  have hx : m[k] < 256 := hm _ (List.getElem_mem hk)
  rw [e2]
  intro h
  have h3 : crc (m.take k ++ y :: m.drop (k + 1)) = crc (m.take k ++ m[k] :: m.drop (k + 1)) := by rw [← e1]; exact h
  refine crc_change (hm.take k) hy hx (hm.drop _) ?_ h3
  intro e
  exact hne (by rw [List.getElem?_eq_getElem hk, e])
/-- A changed byte of what has a sum, or of the sum, is told by the sum. -/
theorem sum_set {b : List Nat} (hb : By b) {t n : Nat} (hl : t + n + 4 ≤ b.length) (hs : SumAt b t n) {k y : Nat} (h1 : t ≤ k) (h2 : k < t + n + 4) (hy : y < 256) (hne : b[k]? ≠ some y) : ¬ SumAt (b.set k y) t n := by
  unfold SumAt at hs ⊢
  by_cases h : k < t + n
  · rw [wn_set_out (t := t + n) (.inl h), wn_set_in h1, hs]
    refine fun e => crc_set (wn_by hb t n) (k := k - t) (by rw [wn_len (by omega)]; omega) hy ?_ e.symm
    rw [wn_at (by omega), show t + (k - t) = k from by omega]; exact hne
  · rw [wn_set_out (t := t) (n := n) (.inr (by omega)), wn_set_in (by omega), ← hs]
    intro e
    have hl4 : (wn b (t + n) 4).length = 4 := wn_len (by omega)
    refine set_ne8 (b := wn b (t + n) 4) (k := k - (t + n)) (y := y) (by omega) ?_ (unf_inj' ((wn_by hb _ _).set8 hy _) (wn_by hb _ _) (by rw [List.length_set]) e)
    rw [wn_at (by omega), show t + n + (k - (t + n)) = k from by omega]; exact hne
theorem nx_in {ips : Ps} : ∀ (n k : Nat), k < nxN ips n → ∃ i, i < n ∧ nxN ips i ≤ k ∧ k < nxN ips i + szA ips i + 4
  | 0, k, h => by simp [nxN] at h
  | n + 1, k, h => by
    by_cases hk : k < nxN ips n
    · obtain ⟨i, h1, h2⟩ := nx_in n k hk
      exact ⟨i, by omega, h2⟩
    · exact ⟨n, by omega, by omega, by rw [nxN] at h; omega⟩
theorem nx_le {ips : Ps} {i : Nat} : ∀ (n : Nat), i < n → nxN ips i + szA ips i + 4 ≤ nxN ips n
  | 0, h => by omega
  | n + 1, h => by
    by_cases e : i = n
    · subst e; exact Nat.le_refl _
    · have := nx_le (ips := ips) (i := i) n (by omega)
      rw [nxN]; omega
/-- A byte changed anywhere: what is opened all the same has a block that is hurt. -/
theorem told {b : List Nat} {ips ips' : Ps} {r r' : Nat} (hb : By b) (hlen : b.length ≤ 1000000000) (O : Opn b ips r) (hd : ∀ i, i < ips.length → SumAt (b.take (fAt b)) (nxN ips i) (szA ips i)) {k y : Nat} (hk : k < b.length) (hy : y < 256) (hne : b[k]? ≠ some y) (O' : Opn (b.set k y) ips' r') :
    ips' = ips ∧ fAt (b.set k y) = fAt b ∧ ∃ i, i < ips.length ∧ ¬ SumAt ((b.set k y).take (fAt b)) (nxN ips i) (szA ips i) := by
  have hL : (b.set k y).length = b.length := List.length_set
  have h44 := O.foot.len
  have hm := O.foot.mag
  have hm' := O'.foot.mag
  have hs' := O'.sum
  have hi := O.plc.hi
  have hf := O.plc.hf
  rw [hL] at hm' hs'
  have k1 : k < b.length - 8 := by
    rcases Nat.lt_or_ge k (b.length - 8) with h | h
    · exact h
    · exfalso
      rw [List.drop_set, if_neg (by omega), ← hm] at hm'
      refine set_ne8 (by rw [List.length_drop]; omega) ?_ hm'
      rw [List.getElem?_drop, show b.length - 8 + (k - (b.length - 8)) = k from by omega]; exact hne
  have k2 : k < b.length - 44 := by
    rcases Nat.lt_or_ge k (b.length - 44) with h | h
    · exact h
    · exact absurd hs' (sum_set hb (by omega) O.sum h (by omega) hy hne)
  have n1 : fAt (b.set k y) = fAt b := by unfold fAt n8; rw [hL, wn_set_out (.inl k2)]
  have n2 : fSz (b.set k y) = fSz b := by unfold fSz n8; rw [hL, wn_set_out (.inl (by omega))]
  have n3 : iAt (b.set k y) = iAt b := by unfold iAt n8; rw [hL, wn_set_out (.inl (by omega))]
  have n4 : iSz (b.set k y) = iSz b := by unfold iSz n8; rw [hL, wn_set_out (.inl (by omega))]
  have k3 : k < iAt b := by
    rcases Nat.lt_or_ge k (iAt b) with h | h
    · exact h
    · have := O'.isum
      rw [n3, n4] at this
      exact absurd this (sum_set hb (by omega) O.isum h (by omega) hy hne)
  have k4 : k < fAt b := by
    rcases Nat.lt_or_ge k (fAt b) with h | h
    · exact h
    · have := O'.fsum
      rw [n1, n2] at this
      exact absurd this (sum_set hb (by omega) O.fsum h (by omega) hy hne)
  have e : ips' = ips := by
    have h1 := O'.bl
    rw [n3, n4, wn_set_out (.inl k3)] at h1
    exact blk_one h1 O.bl (by rw [wn_len (by omega)]; omega)
  have hall := O.sp.all
  refine ⟨e, n1, ?_⟩
  obtain ⟨i, i1, i2, i3⟩ := nx_in (ips := ips) ips.length k (by omega)
  have i4 := nx_le (ips := ips) ips.length i1
  refine ⟨i, i1, ?_⟩
  rw [List.take_set]
  refine sum_set (hb.take _) (by rw [List.length_take]; omega) (hd i i1) i2 i3 hy ?_
  rw [List.getElem?_take_of_lt k4]; exact hne
end Go.Proofs.YtnnookkcnmgbfaaGreat
namespace Go.Proofs.YtnnookkcnmgbfaaGreat
open Go.ChangeShapes Go.WideShapes Go.ChangeAt Go.RowKit

/-- What becomes of memory where bytes in blocks from B on are written over. -/
structure KeepB (B : Nat) (w w' : World) : Prop where
  os : w'.os = w.os
  tape : w'.tape = w.tape
  output : w'.output = w.output
  size : w.heap.size ≤ w'.heap.size
  low : ∀ k, k < w.heap.size → k < B → w'.heap[k]? = w.heap[k]?
  oth : ∀ (k : Nat) (cs : Array Value) (T : TypeId), w.heap[k]? = some (.cells cs T (0, 0)) → T ≠ 5 → w'.heap[k]? = w.heap[k]?
  byt : ∀ (k : Nat) (cs : Array Value), w.heap[k]? = some (.cells cs 5 (0, 0)) → ∃ cs', w'.heap[k]? = some (.cells cs' 5 (0, 0)) ∧ cs'.size = cs.size
theorem KeepB.refl (B : Nat) (w : World) : KeepB B w w := ⟨rfl, rfl, rfl, Nat.le_refl _, fun _ _ _ => rfl, fun _ _ _ _ _ => rfl, fun _ cs h => ⟨cs, h, rfl⟩⟩
theorem KeepB.trans {B : Nat} {a b c : World} (h : KeepB B a b) (k : KeepB B b c) : KeepB B a c :=
  ⟨k.os.trans h.os, k.tape.trans h.tape, k.output.trans h.output, Nat.le_trans h.size k.size, fun x hx hb => (k.low x (Nat.lt_of_lt_of_le hx h.size) hb).trans (h.low x hx hb),
    fun x cs T hx hT => (k.oth x cs T ((h.oth x cs T hx hT).trans hx) hT).trans (h.oth x cs T hx hT),
    fun x cs hx => by
      obtain ⟨c1, h1, h2⟩ := h.byt x cs hx
      obtain ⟨c2, h3, h4⟩ := k.byt x c1 h1
      exact ⟨c2, h3, h4.trans h2⟩⟩
theorem KeepB.frame {B : Nat} {w0 w w' : World} (h : KeepB B w w') (f : Fr [] w0 w) (hb : w0.heap.size ≤ B) : Fr [] w0 w' :=
  ⟨h.os.trans f.os, h.tape.trans f.tape, h.output.trans f.output, Nat.le_trans f.size h.size, fun k hk hn => (h.low k (Nat.lt_of_lt_of_le hk f.size) (by omega)).trans (f.block k hk hn)⟩
/-- Bytes that may be written over. -/
def BW (w : World) (B n : Nat) (v : Value) : Prop := (v = .slice none 0 0 ∧ n = 0) ∨ ∃ g c cs, v = .slice (some ⟨g, 0, none⟩) n c ∧ B ≤ g ∧ w.heap[g]? = some (.cells cs 5 (0, 0)) ∧ n ≤ cs.size
theorem BW.of {w : World} {B n : Nat} {v : Value} {xs : List Value} (o : w.ownsRow B 5 1 v n xs) : BW w B n v := by
  rcases o.2 with ⟨rfl, h0⟩ | ⟨g, cap, cur, rfl, hB, h3, h4, h5⟩
  · exact .inl ⟨rfl, h0⟩
  · refine .inr ⟨g, cap, cur, rfl, hB, h3, ?_⟩
    have hx := o.1
    have hc := o.cells (g := g) rfl
    by_cases h0 : n = 0
    · omega
    · obtain ⟨x, hx⟩ : ∃ x, xs[n - 1]? = some x := ⟨_, List.getElem?_eq_getElem (by omega)⟩
      have h6 := hc _ _ hx
      rw [Addr.add_lit, blk_cell h3] at h6
      have := (Array.getElem?_eq_some_iff.1 h6).1
      omega
theorem BW.keep {w w' : World} {B n : Nat} {v : Value} (h : BW w B n v) (k : KeepB B w w') : BW w' B n v := by
  rcases h with h | ⟨g, c, cs, rfl, hB, h3, h4⟩
  · exact .inl h
  · obtain ⟨cs', h5, h6⟩ := k.byt g cs h3
    exact .inr ⟨g, c, cs', rfl, hB, h5, by omega⟩
set_option maxRecDepth 20000 in
set_option maxHeartbeats 2000000 in
theorem spoilB_c (w : World) {B n : Nat} {v : Value} (o : BW w B n v) (hn : n ≤ 9223372036854775807) :
    Calls Tryz.prog 9 #[v] w fun e w' => (∃ u, e = .returned u) ∧ KeepB B w w' := by
  rcases o with ⟨rfl, h0⟩ | ⟨g, cap, cur, rfl, hB, h3, hsz⟩
  · subst h0
    go_enter Tryz.func9, Tryz.ntmps9
    go_wp2_with fail
    go_loopw [2] (fun v2 wr => v2 = .int .i64 0 ∧ wr = w) (fun _ _ => 0)
    case atStart => exact ⟨rfl, rfl⟩
    case round =>
      obtain ⟨rfl, rfl⟩ := hrel
      go_wp2
      go_end0
      exact ⟨⟨_, rfl⟩, KeepB.refl _ _⟩
  · have H3 := hid h3
    have HB := hid hB
    clear h3 hB
    go_enter Tryz.func9, Tryz.ntmps9
    go_wp2_with fail
    go_loopw [2] (fun v2 wr => ∃ k : Nat, k ≤ n ∧ v2 = .int .i64 (k : Int) ∧ KeepB B w wr ∧ ∃ cs, wr.heap[g]? = some (.cells cs 5 (0, 0)) ∧ n ≤ cs.size) (fun v2 _ => n - (intOf v2).toNat)
    case atStart => exact ⟨0, Nat.zero_le _, rfl, KeepB.refl _ _, cur, H3.out, hsz⟩
    case round =>
      obtain ⟨k, hk, rfl, hf, cs, hc, hcs⟩ := hrel
      have HF := hid hf
      have HC := hid hc
      by_cases hlt : k < n
      · obtain ⟨x, hx⟩ : ∃ x, wr.cell? ⟨g, k, none⟩ = some x := ⟨cs[k]'(by omega), by rw [blk_cell hc]; exact Array.getElem?_eq_getElem (by omega)⟩
        have hz := blk_frozen hc k
        have KS : Hid (∀ v, KeepB B wr (wr.setCell ⟨g, k, none⟩ v)) := hid (fun v => ⟨rfl, rfl, rfl, by simp [World.setCell], fun j _ hb => blk_setne _ _ _ (by have := HB.out; omega), fun j cs' T hj hT => blk_setne _ _ _ (fun e => by rw [e, HC.out] at hj; cases hj; exact hT rfl), fun j cs' hj => by
          by_cases e : j = g
          · subst e
            rw [HC.out] at hj
            cases hj
            exact ⟨_, blk_set HC.out _ _, by simp⟩
          · exact ⟨cs', by rw [blk_setne _ _ _ e]; exact hj, rfl⟩⟩)
        clear hf hc
        go_wp2
        go_roundw
        case rel => exact ⟨k + 1, by omega, by go_num, HF.out.trans (KS.out _), _, blk_set HC.out _ _, by simpa using hcs⟩
        case measure => simp [intOf]; omega
      · have hk' : k = n := by omega
        subst hk'
        clear hf hc
        go_wp2
        go_end0
        exact ⟨⟨_, rfl⟩, HF.out⟩
set_option maxRecDepth 20000 in
set_option maxHeartbeats 2000000 in
theorem spoilAll_c (w : World) {B : Nat} {la : Option Addr} {n lc : Nat} {ps : Ps} (co : ColO w B (.slice la n lc) ps) (hnl : n = ps.length) (hn : n ≤ 1000000) :
    Calls Tryz.prog 30 #[.slice la n lc] w fun e w' => (∃ u, e = .returned u) ∧ KeepB B w w' := by
  have CO := hid co
  have HNL := hid hnl
  clear co hnl
  go_enter Tryz.func30, Tryz.ntmps30
  go_wp2_with fail
  go_loopw [2] (fun v2 wr => ∃ i : Nat, i ≤ n ∧ v2 = .int .i64 (i : Int) ∧ KeepB B w wr) (fun v2 _ => n - (intOf v2).toNat)
  case atStart => exact ⟨0, Nat.zero_le _, rfl, KeepB.refl _ _⟩
  case round =>
    obtain ⟨i, hi, rfl, hk⟩ := hrel
    have HK := hid hk
    clear hk
    by_cases hlt : i < n
    · have hlt' : (i : Int) < (n : Int) := by omega
      have HLT : Hid (i < ps.length) := hid (by rw [← HNL.out]; exact hlt)
      obtain ⟨g, ka, kc, va, vc, hla, c0, c1, o0, o1, b0, b1, l0, l1⟩ := CO.out.atD HLT.out
      subst hla
      obtain ⟨cs, oo, _⟩ := CO.out
      obtain ⟨cur, hg⟩ : ∃ cur, w.heap[g]? = some (.cells cur 47 (0, 0)) := by
        rcases oo.2 with ⟨h, _⟩ | ⟨h, cap, cur, h1, _, h3, _⟩
        · cases h
        · simp only [Value.slice.injEq, Option.some.injEq, Addr.mk.injEq] at h1
          obtain ⟨⟨rfl, _⟩, _⟩ := h1
          exact ⟨cur, h3⟩
      have CF : Hid (∀ W, KeepB B w W → W.cell? ⟨g, i * 2, none⟩ = some (.slice ka (kA ps i).length kc) ∧ W.cell? ⟨g, i * 2 + 1, none⟩ = some (.slice va (vA ps i).length vc)) := hid (fun W f => by
        have := f.oth g cur _ hg (by decide)
        exact ⟨by rw [World.cell?_of_block (w := w) this]; exact c0, by rw [World.cell?_of_block (w := w) this]; exact c1⟩)
      have SK : Hid (∀ W, KeepB B w W → Calls Tryz.prog 9 #[.slice ka (kA ps i).length kc] W fun e w' => (∃ u, e = .returned u) ∧ KeepB B W w') := hid (fun W f => spoilB_c W ((BW.of o0).keep f) (by omega))
      have SV : Hid (∀ W, KeepB B w W → Calls Tryz.prog 9 #[.slice va (vA ps i).length vc] W fun e w' => (∃ u, e = .returned u) ∧ KeepB B W w') := hid (fun W f => spoilB_c W ((BW.of o1).keep f) (by omega))
      clear c0 c1 o0 o1 b0 b1 l0 l1 oo hg
      generalize (kA ps i).length = kl at CF SK
      generalize (vA ps i).length = vl at CF SV
      obtain ⟨c0, c1⟩ := CF.out wr HK.out
      go_wp2_with (first
        | (have zz := K1; clear zz; go_at_call 9; refine (SV.out W1 K1.out).mono ?_; rintro e W2 ⟨⟨u2, rfl⟩, k2⟩; have K2 := hid (K1.out.trans k2); clear k2)
        | (go_at_call 9; refine (SK.out wr HK.out).mono ?_; rintro e W1 ⟨⟨u1, rfl⟩, k1⟩; have K1 := hid (HK.out.trans k1); obtain ⟨d0, d1⟩ := CF.out W1 (HK.out.trans k1); clear k1))
      go_roundw
      case rel => exact ⟨i + 1, by omega, by go_num, K2.out⟩
      case measure => simp [intOf]; omega
    · have hge : ¬ ((i : Int) < (n : Int)) := by omega
      go_wp2
      go_end0
      exact ⟨⟨_, rfl⟩, HK.out⟩
end Go.Proofs.YtnnookkcnmgbfaaGreat
namespace Go.Proofs.YtnnookkcnmgbfaaGreat

theorem rngS_low {X : Nat → Nat} {Q : Nat → Ps} {U : Nat → List Nat} {least most : List Nat} {e : Nat} : ∀ (d i : Nat) (acc : Ps), (∀ k, i ≤ k → k < i + d → cmpN (U k) least < 0) → rngS X Q U least most (d + e) i acc = rngS X Q U least most e (i + d) acc
  | 0, i, acc, _ => by rw [Nat.zero_add, Nat.add_zero]
  | d + 1, i, acc, h => by
    rw [show d + 1 + e = (d + e) + 1 by omega, rngS, if_pos (h i (by omega) (by omega)), rngS_low d (i + 1) acc (fun k h1 h2 => h k (by omega) (by omega)), show i + 1 + d = i + (d + 1) by omega]
theorem rngS_high {X : Nat → Nat} {Q : Nat → Ps} {U : Nat → List Nat} {least most : List Nat} : ∀ (d i : Nat) (acc : Ps), (∀ k, i ≤ k → k < i + d → 0 ≤ cmpN (U k) least) → rngS X Q U least most d i acc = rngF X Q U least most d i acc
  | 0, i, acc, _ => by rw [rngS, rngF]
  | d + 1, i, acc, h => by
    have h0 := h i (by omega) (by omega)
    rw [rngS, rngF, if_neg (by omega), rngS_high d (i + 1) _ (fun k h1 h2 => h k (by omega) (by omega))]
/-- Keys that never fall: the first block that doesn't end below least parts them. -/
theorem rngS_at {X : Nat → Nat} {Q : Nat → Ps} {ips : Ps} {least most : List Nat} (hu : ∀ i j, i ≤ j → j < ips.length → cmpN (userL (kA ips i)) (userL (kA ips j)) ≤ 0) {I : Nat} (h0 : I ≤ ips.length) (h1 : I < ips.length → atU ips least I = true) (h2 : 0 < I → atU ips least (I - 1) = false) :
    rngS X Q (fun i => userL (kA ips i)) least most ips.length 0 [] = rngF X Q (fun i => userL (kA ips i)) least most (ips.length - I) I [] := by
  unfold atU at h1 h2
  have e : ips.length = I + (ips.length - I) := by omega
  have a := rngS_low (X := X) (Q := Q) (U := fun i => userL (kA ips i)) (least := least) (most := most) (e := ips.length - I) I 0 [] (fun k _ hk => by
    have h3 := h2 (by omega)
    have h4 := hu k (I - 1) (by omega) (by omega)
    simp at h3
    exact cmpN_le_lt h4 h3)
  rw [← e, Nat.zero_add] at a
  rw [a]
  refine rngS_high _ _ _ fun k hk hk2 => ?_
  have h3 := h1 (by omega)
  have h4 := hu I k hk (by omega)
  simp at h3
  rcases Int.lt_or_le (cmpN (userL (kA ips k)) least) 0 with h | h
  · have := cmpN_le_lt h4 h
    omega
  · exact h
end Go.Proofs.YtnnookkcnmgbfaaGreat
namespace Go.Proofs.YtnnookkcnmgbfaaGreat
open Go.ChangeShapes Go.WideShapes Go.ChangeAt Go.RowKit

/-- Is this operation no defer statement? -/
def noDefer (o : Oper) : Bool := match o.op with
  | .defer _ => false
  | _ => true
theorem noDefer_ne {o : Oper} (h : noDefer o = true) : ∀ c, o.op ≠ .defer c := fun c e => by
  unfold noDefer at h
  rw [e] at h
  cases h
theorem uponIn_of {l n : Nat} {P : Program} {o : Oper} {a : Act} {K K' : Act → World → Prop} {Q : Exit → Act → World → Prop} (hK : ∀ a w, K a w → K' a w) : ∀ {r : Result Next}, o.upon P a K Q r → o.uponIn (Fence.wide.inRound l) n P a K' Q r := by
  intro r h
  cases r with
  | ok x w' =>
    cases x with
    | value v => exact hK _ _ h
    | skip => exact hK _ _ h
    | defer d => exact hK _ _ h
    | enter f args =>
      refine ⟨fun e => by simp [Fence.wide] at e, ?_⟩
      have h1 : Calls P f args w' fun
        | .returned v, w'' => K' (a.put o.dst v) w''
        | .panicked chain, w'' => Q (.panic chain) a w''
        | .outgrown, _ => LetsOut Q := Calls.mono h fun e w'' he => by
          cases e with
          | returned v => exact hK _ _ he
          | panicked c => exact he
          | outgrown => exact he
      exact CallsIn.inRound l (callsIn_wide.2 h1)
    | row row args =>
      refine ⟨fun e => by simp [Fence.wide] at e, ?_⟩
      intro c cs _
      obtain ⟨v, w2, h1, h2⟩ := h c cs
      exact ⟨v, w2, hK _ _ h1, stepsIn_wide.2 h2⟩
    | _ => exact h.elim
  | halt x w' =>
    cases x <;> first | exact h | exact h.elim
theorem operIn_of {l n : Nat} {P : Program} {o : Oper} {a : Act} {w : World} {K K' : Act → World → Prop} {Q : Exit → Act → World → Prop} (hd : noDefer o = true) (hQ : ¬ LetsOut Q) (hK : ∀ a w, K a w → K' a w) (h : o.wp P a w K Q ∨ (o.asks P a w ∧ LetsOut Q)) : o.wpIn (Fence.wide.inRound l) n P a w K' Q := by
  rcases h with h | ⟨_, h⟩
  · refine ⟨fun _ _ => trivial, ?_⟩
    rw [Fence.inRound_round, Oper.semAt_some l _ _ (noDefer_ne hd)]
    exact uponIn_of hK h
  · exact absurd h hQ
theorem wpListIn_of {l n : Nat} {P : Program} {ops : Array Oper} {Q : Exit → Act → World → Prop} (hQ : ¬ LetsOut Q) : ∀ {rest : List Oper} {a : Act} {w : World}, rest.all noDefer = true → wpList P ops Q rest a w → wpListIn (Fence.wide.inRound l) n P ops Q rest a w
  | [], _, _, _, h => h
  | o :: rest, a, w, hd, h => by
    rw [List.all_cons, Bool.and_eq_true] at hd
    unfold wpList at h
    unfold wpListIn
    split
    · rename_i hw
      rw [if_pos hw] at h
      exact operIn_of hd.1 hQ (fun a w h => wpListIn_of hQ hd.2 h) h
    · rename_i hw
      rw [if_neg hw] at h
      exact ⟨fun _ _ => trivial, wpListIn_of hQ hd.2 h⟩
/-- A region within a round, as anywhere. -/
theorem wpIn_reg {l n id : Nat} {P : Program} {ops : List Oper} {Q : Exit → Act → World → Prop} {a : Act} {w : World} (hQ : ¬ LetsOut Q) (hd : ops.all noDefer = true) (h : wpList P ops.toArray Q ops a w) : (Code.region id ops.toArray false).wpIn (Fence.wide.inRound l) n P Q a w :=
  wpIn_region_lit (wpListIn_of hQ hd h)
theorem wpAnyIn_of {l n : Nat} {P : Program} {ops : Array Oper} {Q : Exit → Act → World → Prop} {md : Region.Mode} (hQ : ¬ LetsOut Q) (hd : ∀ (i : Nat) (o : Oper), ops[i]? = some o → noDefer o = true) : ∀ {fuel : Nat} {listed : Array Bool} {a : Act} {w : World}, wpAny P md ops Q fuel listed a w → wpAnyIn (Fence.wide.inRound l) n P md ops Q fuel listed a w
  | 0, _, _, _, h => h
  | fuel + 1, listed, a, w, h => by
    refine ⟨h.1, fun i hi => ?_⟩
    have h2 := h.2 i hi
    unfold wpOp at h2
    unfold wpOpIn
    cases ho : ops[i]? with
    | none => rw [ho] at h2; exact wpAnyIn_of hQ hd h2
    | some o =>
      rw [ho] at h2
      dsimp only at h2 ⊢
      split
      · rename_i hw
        rw [if_pos hw] at h2
        exact operIn_of (hd i o ho) hQ (fun a w h => wpAnyIn_of hQ hd h) h2
      · rename_i hw
        rw [if_neg hw] at h2
        exact ⟨fun _ _ => trivial, wpAnyIn_of hQ hd h2⟩
/-- A region within a round that draws its order. -/
theorem wpIn_regH {l n id : Nat} {P : Program} {ops : List Oper} {Q : Exit → Act → World → Prop} {S : World → Prop} {a : Act} {w : World} (hQ : ¬ LetsOut Q) (hd : ops.all noDefer = true) (hm : P.follows .mixedOrders = true) (hS : S w.drew)
    (h : S w.drew → wpAnyH P .any ops.toArray Q S ops.toArray.size (Array.replicate ops.toArray.size false) a w.drew) : (Code.region id ops.toArray true).wpIn (Fence.wide.inRound l) n P Q a w :=
  wpIn_region_any hm (wpAnyIn_of hQ (fun i o ho => List.all_eq_true.1 hd o (by rw [List.getElem?_toArray] at ho; exact List.mem_of_getElem? ho)) (wpAny_of_held _ _ _ _ (h hS)))

/-- What an iterator owes: so many rounds, each with a value that En tells of. -/
def Gives2 (P : Program) (gf : Nat) (x1 x2 : Value) (Inv : World → Prop) (N : Nat) (En : Nat → World → World → Value → Prop) : Prop :=
  ∀ (l : Nat) (J : Nat → World → Prop) (Jx : World → Prop) (W : World), (∀ k W, J k W → Inv W) → (∀ k W W', J k W → Fr [] W W' → J k W') →
    (∀ k W0 W1 v, k < N → J k W0 → Fr [] W0 W1 → En k W0 W1 v → YieldAt Fence.wide 3 P l #[v] W1 fun e W' => (e = .returned (.bool true) ∧ J (k + 1) W') ∨ (e = .returned (.bool false) ∧ Jx W')) →
    J 0 W → CallsIn Fence.wide 4 P gf #[.func (.yield l) #[] #[], x1, x2] W fun e W' => (∃ v, e = .returned v) ∧ (J N W' ∨ Jx W')
/-- How the body of a round may be left. -/
def rPost (B : Nat) (J : World → Prop) (Jx : Code → World → Prop) (W : World) : Exit → Act → World → Prop
  | .normal, _, W' => KeepsFrom B W W' ∧ J W'
  | .ret, _, W' => KeepsFrom B W W' ∧ Jx .ret W'
  | .exit id, _, W' => KeepsFrom B W W' ∧ Jx (.exit id) W'
  | .goto t, _, W' => KeepsFrom B W W' ∧ Jx (.goto t) W'
  | .panic _, _, _ => False
  | .outgrown, _, _ => False
theorem rPost_out {B : Nat} {J : World → Prop} {Jx : Code → World → Prop} {W : World} : ¬ LetsOut (rPost B J Jx W) := fun ⟨_, _, h⟩ => h
theorem fr_own {W W' : World} (f : Fr [] W W') : W.grownBy W' none := ⟨f.os, f.tape, f.output, f.size, fun k hk _ => f.block k hk (by simp)⟩
theorem wp_range2 {P : Program} {g : Operand} {ps : Array Tmp} {assign body : Code} {Q : Exit → Act → World → Prop} {a : Act} {w : World} {gf : Nat} {x1 x2 : Value} (hg : a.eval g = .func (.func gf) #[] #[x1, x2]) (eg : ∀ args w, (callFunc gf args).run P w = .ok (.enter gf args) w) (hps : ps.size = 1)
    {Inv : World → Prop} {N : Nat} {En : Nat → World → World → Value → Prop} (hG : Gives2 P gf x1 x2 Inv N En)
    (J : Nat → World → Prop) (Jx : Code → World → Prop) (Ax : Nat → Act → World → Prop) (hJ0 : ∀ k W, J k W → Inv W) (hO : OwnFrom w.heap.size J) (hOx : ∀ c, OwnFrom w.heap.size (fun (_ : Unit) W => Jx c W)) (hAx : ∀ k a', OwnFrom w.heap.size (fun (_ : Unit) W => Ax k a' W)) (h0 : J 0 w)
    (hassign : ∀ l k W0 W1 v, k < N → J k W0 → Fr [] W0 W1 → En k W0 W1 v → assign.wpIn (Fence.wide.inRound l) 3 P (Exit.then (fun a' W' => KeepsFrom w.heap.size W1 W' ∧ Ax k a' W') (fun _ _ _ => False)) { tmps := (ps.zip #[v]).foldl (fun t (p, v) => t.setIfInBounds p v) a.tmps, defers := [] } W1)
    (hbody : ∀ l k a' W, k < N → Ax k a' W → body.wpIn (Fence.wide.inRound l) 3 P (rPost w.heap.size (J (k + 1)) Jx W) a' W)
    (hdone : ∀ W, J N W → W.heap[w.heap.size]? = some (.deferred (some [])) → Q .normal { a with defers := { target := .collected w.heap.size, args := #[] } :: a.defers } W)
    (hstop : ∀ c W, Jx c W → W.heap[w.heap.size]? = some (.deferred (some [])) → c.wp P Q { a with defers := { target := .collected w.heap.size, args := #[] } :: a.defers } W) :
    (Code.rangeFunc g ps assign body).wp P Q a w := by
  refine (wpIn_wide (n := 5)).1 (wpIn_rangeFunc ?_)
  intro fn hfn
  rw [show Fence.wide.round = none from rfl]
  obtain ⟨rec, hrec⟩ : ∃ rec : LoopState → Option Code → Loop, rec = fun st pe => { state := st, pending := pe, fn, tmps := a.tmps, params := ps, assign, body, defers := w.heap.size } := ⟨_, rfl⟩
  obtain ⟨W1, hW1⟩ : ∃ W1, (w.alloc (.deferred (some []))).alloc (.loop (rec .ready none)) = W1 := ⟨_, rfl⟩
  have hL1 : W1.heap[w.heap.size + 1]? = some (.loop (rec .ready none)) := by rw [← hW1]; exact new_at _ _ (by simp)
  have hK1 : W1.heap[w.heap.size]? = some (.deferred (some [])) := by rw [← hW1, blk_old _ _ (by simp)]; exact blk_new _ _
  have hI1 : J 0 W1 := by rw [← hW1]; exact hO.alloc _ (hO.alloc _ h0)
  refine ⟨w.heap.size + 1, [{ target := .collected w.heap.size, args := #[] }], W1, { target := .fn (.func gf) #[x1, x2], args := #[.func (.yield (w.heap.size + 1)) #[] #[]] }, W1, gf,
    #[.func (.yield (w.heap.size + 1)) #[] #[], x1, x2], W1, ?_, ?_, fun _ _ => trivial, ?_, fun e => by simp [Fence.wide] at e, ?_⟩
  · rw [← hW1, hrec]; exact run_enterLoop_outer _ _ _ _ _
  · simp only [resolve, hg]
    simp [go_sem]
  · simp [invoke, go_sem, eg]
  · refine (hG (w.heap.size + 1)
      (fun k W => J k W ∧ W.heap[w.heap.size + 1]? = some (.loop (rec .ready none)) ∧ W.heap[w.heap.size]? = some (.deferred (some [])))
      (fun W => ∃ c, Jx c W ∧ W.heap[w.heap.size + 1]? = some (.loop (rec .done (some c))) ∧ W.heap[w.heap.size]? = some (.deferred (some [])))
      W1 (fun k W h => hJ0 k W h.1) (fun k W W' h f => ⟨hO k W W' none h.1 (fr_own f) (fun r e => by cases e), f.at h.2.1 (by simp), f.at h.2.2 (by simp)⟩) ?_ ⟨hI1, hL1, hK1⟩).mono ?_
    · rintro k W0 W v hk ⟨hi0, hl0, hk0⟩ f hen
      have hl := f.at hl0 (by simp)
      have hkk := f.at hk0 (by simp)
      have hy := run_yield (P := P) (args := #[v]) hl (by rw [hrec]; simp [hps])
      rw [hrec] at hy
      refine ⟨fn, _, assign, body, hy, roundIn_of_wpIn hfn (wpIn_mono (hassign _ k W0 W v hk hi0 f hen) ?_)⟩
      clear hy
      intro e a' Wa hp
      cases e with
      | normal =>
        obtain ⟨hkf, hax⟩ := hp
        have hla := hkf.same _ _ (by omega) hl rfl
        have hka := hkf.same _ _ (Nat.le_refl _) hkk rfl
        have hlt : w.heap.size + 1 < Wa.heap.size := (Array.getElem?_eq_some_iff.1 hla).1
        refine ⟨_, run_beginRound hla (by rw [hrec]), ?_⟩
        have hl2 : (Wa.putObj (w.heap.size + 1) (.loop { rec .ready none with state := .busy })).heap[w.heap.size + 1]? = some (.loop { rec .ready none with state := .busy }) := World.putObj_heap_same hlt
        have hk2 : (Wa.putObj (w.heap.size + 1) (.loop { rec .ready none with state := .busy })).heap[w.heap.size]? = some (.deferred (some [])) := (World.putObj_heap_other (by omega)).trans hka
        refine wpIn_mono (hbody _ k a' _ hk ((hAx k a').putObj (s := ()) _ hax (by omega) hla rfl)) ?_
        have fin : ∀ (jump : Option Code) (W3 : World), KeepsFrom w.heap.size (Wa.putObj (w.heap.size + 1) (.loop { rec .ready none with state := .busy })) W3 →
            (Instr.endRound (w.heap.size + 1) jump).run P W3 = .ok (.bool jump.isNone) (W3.putObj (w.heap.size + 1) (.loop (rec (if jump.isNone then .ready else .done) jump))) ∧
            W3.heap[w.heap.size + 1]? = some (.loop { rec .ready none with state := .busy }) ∧
            (W3.putObj (w.heap.size + 1) (.loop (rec (if jump.isNone then .ready else .done) jump))).heap[w.heap.size + 1]? = some (.loop (rec (if jump.isNone then .ready else .done) jump)) ∧
            (W3.putObj (w.heap.size + 1) (.loop (rec (if jump.isNone then .ready else .done) jump))).heap[w.heap.size]? = some (.deferred (some [])) := fun jump W3 hk3 => by
          have hl3 := hk3.same _ _ (by omega) hl2 rfl
          have := run_endRound (P := P) jump hl3
          rw [hrec] at this ⊢
          exact ⟨this, by rw [hrec] at hl3; exact hl3, World.putObj_heap_same (Array.getElem?_eq_some_iff.1 hl3).1, (World.putObj_heap_other (by omega)).trans (hk3.same _ _ (Nat.le_refl _) hk2 rfl)⟩
        intro e a3 W3 hp
        cases e with
        | normal =>
          obtain ⟨hk3, hi3⟩ := hp
          obtain ⟨hr, hl3, hl4, hk4⟩ := fin none W3 hk3
          exact ⟨_, _, hr, .inl ⟨rfl, hO.putObj _ hi3 (by omega) hl3 rfl, hl4, hk4⟩⟩
        | ret =>
          obtain ⟨hk3, hi3⟩ := hp
          obtain ⟨hr, hl3, hl4, hk4⟩ := fin (some .ret) W3 hk3
          exact ⟨_, _, hr, .inr ⟨rfl, .ret, (hOx _).putObj (s := ()) _ hi3 (by omega) hl3 rfl, hl4, hk4⟩⟩
        | exit id =>
          obtain ⟨hk3, hi3⟩ := hp
          obtain ⟨hr, hl3, hl4, hk4⟩ := fin (some (.exit id)) W3 hk3
          exact ⟨_, _, hr, .inr ⟨rfl, .exit id, (hOx _).putObj (s := ()) _ hi3 (by omega) hl3 rfl, hl4, hk4⟩⟩
        | goto t =>
          obtain ⟨hk3, hi3⟩ := hp
          obtain ⟨hr, hl3, hl4, hk4⟩ := fin (some (.goto t)) W3 hk3
          exact ⟨_, _, hr, .inr ⟨rfl, .goto t, (hOx _).putObj (s := ()) _ hi3 (by omega) hl3 rfl, hl4, hk4⟩⟩
        | panic ch => exact hp.elim
        | outgrown => exact hp.elim
      | _ => exact hp.elim
    · rintro e W2 ⟨⟨v, rfl⟩, (⟨hi, hl, hk⟩ | ⟨c, hi, hl, hk⟩)⟩
      · exact ⟨none, _, by have := run_endLoop (P := P) hl (by rw [hrec]; simp); rw [hrec] at this; exact this, hdone _ (hO.putObj _ hi (by omega) hl rfl) ((World.putObj_heap_other (by omega)).trans hk)⟩
      · exact ⟨some c, _, by have := run_endLoop (P := P) hl (by rw [hrec]; simp); rw [hrec] at this; exact this, wpIn_wide.2 (hstop c _ ((hOx c).putObj (s := ()) _ hi (by omega) hl rfl) ((World.putObj_heap_other (by omega)).trans hk))⟩
end Go.Proofs.YtnnookkcnmgbfaaGreat
