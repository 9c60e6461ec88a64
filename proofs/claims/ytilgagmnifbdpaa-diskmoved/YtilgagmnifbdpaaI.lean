/-
  What settle does with the pending writes of a file: as much of them as is paid for stands behind the sure bytes, and nothing is pending.
-/
import Derived.Test.YtilgagmnifbdpaaH
namespace Go.Proofs.Ytilgagmnifbdpaa
open Go.ChangeShapes Go.WideShapes Go.ChangeAt Go.RowKit

theorem Fr.trans' {S T : List Nat} {a b c : World} (h : Fr S a b) (k : Fr T b c) (hT : ∀ x ∈ T, x < a.heap.size → x ∈ S) : Fr S a c :=
  ⟨k.os.trans h.os, k.tape.trans h.tape, k.output.trans h.output, Nat.le_trans h.size k.size, fun i hi hs =>
    (k.block i (Nat.lt_of_lt_of_le hi h.size) (fun e => hs (hT i e hi))).trans (h.block i hi hs)⟩

theorem ownsRow_apart {w : World} {B B' size size' n n' : Nat} {e e' : TypeId} {v v' : Value} {xs xs' : List Value} (h : w.ownsRow B e size v n xs) (h' : w.ownsRow B' e' size' v' n' xs') (he : e ≠ e') {k : Nat} (hk : v.ownBlock = some k) : v'.ownBlock ≠ some k := by
  rcases h.2 with ⟨e2, _⟩ | ⟨g, cap, cu, e2, _, e3, _⟩
  · rw [e2] at hk; simp [Value.ownBlock] at hk
  · rw [e2] at hk; simp only [Value.ownBlock, Option.some.injEq] at hk; subst hk
    exact ownsRow_ne h' e3 (Ne.symm he)

/-- Pending writes of a file, one behind the other from a length on, whose bytes lie in rows of their own, none of them in the block V. -/
def PW (w : World) (V : Option Nat) (fb : Nat) : Nat → List Value → List (List Value) → Prop
  | _, [], [] => True
  | n, p :: ps, x :: xs => (∃ bv, p = wrt fb n bv ∧ w.ownsRow 0 5 1 bv x.length x ∧ ∀ k, bv.ownBlock = some k → V ≠ some k) ∧ 0 < x.length ∧ Bts x ∧ PW w V fb (n + x.length) ps xs
  | _, _, _ => False

theorem PW.frame {w w' : World} {V V' : Option Nat} {fb : Nat} {num : Int} {sv uv pv : Value} (hfb : FB w fb num sv uv pv) (hf : Fr (fb :: V.toList) w w') (hV : V' = V ∨ ∃ k, V' = some k ∧ w.heap.size ≤ k) :
    ∀ {n : Nat} {ps : List Value} {xs : List (List Value)}, PW w V fb n ps xs → PW w' V' fb n ps xs
  | _, [], [], _ => trivial
  | _, [], _ :: _, h => h.elim
  | _, _ :: _, [], h => h.elim
  | n, p :: ps, x :: xs, h => by
    obtain ⟨⟨bv, h1, h2, h3⟩, h4, h5, h6⟩ := h
    refine ⟨⟨bv, h1, ownsRow_of_block h2 fun k hk => hf.block k (h2.lt k hk).2 ?_, fun k hk => ?_⟩, h4, h5, PW.frame hfb hf hV h6⟩
    · intro e
      simp only [List.mem_cons, Option.mem_toList] at e
      rcases e with rfl | e
      · exact ownsRow_ne h2 hfb (by decide) hk
      · exact h3 k hk e
    · rcases hV with rfl | ⟨k', rfl, hk'⟩
      · exact h3 k hk
      · intro e; cases e; have := (h2.lt _ hk).2; omega

theorem PW.len {w : World} {V : Option Nat} {fb : Nat} : ∀ {n : Nat} {ps : List Value} {xs : List (List Value)}, PW w V fb n ps xs → ps.length = xs.length
  | _, [], [], _ => rfl
  | _, [], _ :: _, h => h.elim
  | _, _ :: _, [], h => h.elim
  | _, _ :: _, _ :: _, h => by simp [PW.len h.2.2.2]

/-- Where settle stands behind k pending writes, with l left to pay. -/
def SI (w : World) (fb : Nat) (num : Int) (sv uv0 pv : Value) (ps T : List Value) (k : Nat) (l : Int) (wq : World) : Prop :=
  ∃ uv cur rest, FB wq fb num sv uv pv ∧ wq.ownsRow 0 5 1 uv cur.length cur ∧ wq.ownsRow 0 76 1 pv ps.length ps ∧ PW wq uv.ownBlock fb cur.length (ps.drop k) rest ∧
    cur.length + rest.flatten.length ≤ 100000000 ∧ cur ++ rest.flatten.take l.toNat = T ∧ Fr (fb :: uv0.ownBlock.toList) w wq ∧ (uv.ownBlock = uv0.ownBlock ∨ ∃ k, uv.ownBlock = some k ∧ w.heap.size ≤ k)

/-- One write more. -/
theorem SI.step {w wq w2 : World} {fb : Nat} {num : Int} {sv uv0 pv uv v' : Value} {ps T cur x : List Value} {r : List (List Value)} {k : Nat} {l : Int}
    (a1 : FB wq fb num sv uv pv) (a2 : wq.ownsRow 0 5 1 uv cur.length cur) (a3 : wq.ownsRow 0 76 1 pv ps.length ps) (a4 : PW wq uv.ownBlock fb (cur.length + x.length) (ps.drop (k + 1)) r) (hl : cur.length + (x :: r).flatten.length ≤ 100000000)
    (hT : cur ++ (x :: r).flatten.take l.toNat = T) (hF : Fr (fb :: uv0.ownBlock.toList) w wq) (hU : uv.ownBlock = uv0.ownBlock ∨ ∃ k, uv.ownBlock = some k ∧ w.heap.size ≤ k) (h0 : 0 ≤ l)
    (b1 : FB w2 fb num sv v' pv) (b2 : w2.ownsRow 0 5 1 v' (cur ++ x.take l.toNat).length (cur ++ x.take l.toNat)) (b3 : Fr (fb :: uv.ownBlock.toList) wq w2) (b4 : v'.ownBlock = uv.ownBlock ∨ ∃ k, v'.ownBlock = some k ∧ wq.heap.size ≤ k) :
    (x.length ≤ l → SI w fb num sv uv0 pv ps T (k + 1) (l - x.length) w2) ∧ (l < x.length → w2.ownsRow 0 5 1 v' T.length T) ∧ Fr (fb :: uv0.ownBlock.toList) w w2 ∧ (v'.ownBlock = uv0.ownBlock ∨ ∃ k, v'.ownBlock = some k ∧ w.heap.size ≤ k) := by
  have hsz := hF.size
  have hF2 : Fr (fb :: uv0.ownBlock.toList) w w2 := hF.trans' b3 fun y hy hlt => by
    rcases List.mem_cons.1 hy with rfl | hy
    · exact List.mem_cons_self
    · rcases hU with hU | ⟨q, hq, hq2⟩
      · rw [hU] at hy; exact List.mem_cons_of_mem _ hy
      · rw [hq] at hy; simp at hy; subst hy; omega
  have hU2 : v'.ownBlock = uv0.ownBlock ∨ ∃ k, v'.ownBlock = some k ∧ w.heap.size ≤ k := by
    rcases b4 with b4 | ⟨q, hq, hq2⟩
    · rw [b4]; exact hU
    · exact .inr ⟨q, hq, by omega⟩
  refine ⟨fun hle => ?_, fun hlt => ?_, hF2, hU2⟩
  · have e1 : x.take l.toNat = x := List.take_of_length_le (by omega)
    rw [e1] at b2
    have e2 : (cur ++ x).length = cur.length + x.length := List.length_append
    refine ⟨v', cur ++ x, r, b1, b2, ownsRow_of_block a3 fun y hy => b3.block y (a3.lt y hy).2 ?_, ?_, ?_, ?_, hF2, hU2⟩
    · intro e
      rcases List.mem_cons.1 e with rfl | e
      · exact ownsRow_ne a3 a1 (by decide) hy
      · simp only [Option.mem_toList] at e
        exact ownsRow_apart a3 a2 (by decide) hy e
    · rw [e2]; exact PW.frame a1 b3 b4 a4
    · rw [e2]; simp only [List.flatten_cons, List.length_append] at hl; omega
    · rw [← hT, List.flatten_cons, List.take_append, e1, List.append_assoc]
      congr 3; omega
  · rw [List.flatten_cons, List.take_append_of_le_length (by omega)] at hT
    rw [hT] at b2; exact b2

/-- Behind the loop: nothing is pending any more. -/
theorem settle_end {w w2 : World} {fb : Nat} {num : Int} {sv uv v' pv : Value} {T : List Value} (b1 : FB w2 fb num sv v' pv) (b2 : w2.ownsRow 0 5 1 v' T.length T) (b3 : Fr (fb :: uv.ownBlock.toList) w w2) (b4 : v'.ownBlock = uv.ownBlock ∨ ∃ k, v'.ownBlock = some k ∧ w.heap.size ≤ k) :
    ∃ uv', FB (w2.setCell ⟨fb, 3, none⟩ (.slice none 0 0)) fb num sv uv' (.slice none 0 0) ∧ (w2.setCell ⟨fb, 3, none⟩ (.slice none 0 0)).ownsRow 0 5 1 uv' T.length T ∧ Fr (fb :: uv.ownBlock.toList) w (w2.setCell ⟨fb, 3, none⟩ (.slice none 0 0)) ∧
      (uv'.ownBlock = uv.ownBlock ∨ ∃ k, uv'.ownBlock = some k ∧ w.heap.size ≤ k) :=
  ⟨v', by unfold FB; rw [blk_set b1]; rfl, ownsRow_of_block b2 fun k hk => blk_setne _ _ _ (by intro e; subst e; exact ownsRow_ne b2 b1 (by decide) hk), b3.set _ _ (.inl (by simp)), b4⟩

set_option maxHeartbeats 1000000 in
theorem settle_writes {w : World} {fb : Nat} {num : Int} {sv uv pv : Value} {sure ps : List Value} {xs : List (List Value)} (h : FB w fb num sv uv pv) (ho : w.ownsRow 0 5 1 uv sure.length sure)
    (hp : w.ownsRow 0 76 1 pv ps.length ps) (hw : PW w uv.ownBlock fb sure.length ps xs) (left : Int) (h0 : 0 ≤ left) (h1 : left ≤ 9223372036854775807) (hx1 : sure.length + xs.flatten.length ≤ 100000000) (hp1 : ps.length ≤ 1000000) :
    Calls Try.prog 16 #[.pointer (some ⟨fb, 3, none⟩), .int .i64 left] w fun e w' => e = .returned (.tuple #[]) ∧ ∃ uv', FB w' fb num sv uv' (.slice none 0 0) ∧
      w'.ownsRow 0 5 1 uv' (sure ++ xs.flatten.take left.toNat).length (sure ++ xs.flatten.take left.toNat) ∧ Fr (fb :: uv.ownBlock.toList) w w' ∧ (uv'.ownBlock = uv.ownBlock ∨ ∃ k, uv'.ownBlock = some k ∧ w.heap.size ≤ k) := by
  obtain ⟨pa, pc, rfl, hpc⟩ := ownsRow_slice hp
  have c3 : w.cell? ⟨fb, 3, none⟩ = some (.slice pa ps.length pc) := by rw [blk_cell h]; rfl
  have H := hid h
  have HO := hid ho
  have HP := hid hp
  have HW := hid hw
  clear h ho hp hw
  go_enter Try.func16, Try.ntmps16
  go_wp2
  go_loopw [1, 10] (fun v1 v10 wq => ∃ (k : Nat) (l : Int), k ≤ ps.length ∧ 0 ≤ l ∧ l ≤ 9223372036854775807 ∧ v1 = .int .i64 l ∧ v10 = .int .i64 k ∧ SI w fb num sv uv (.slice pa ps.length pc) ps (sure ++ xs.flatten.take left.toNat) k l wq) (fun _ v10 _ => ps.length - (intOf v10).toNat)
  case atStart => exact ⟨0, left, Nat.zero_le _, h0, h1, rfl, rfl, uv, sure, xs, H.out, HO.out, HP.out, by simpa using HW.out, hx1, rfl, Fr.refl _ _, .inl rfl⟩
  case round =>
    obtain ⟨k, l, hk, hl0, hl1, rfl, rfl, hsi⟩ := hrel
    obtain ⟨uq, cur, rest, a1, a2, a3, a4, a5, a6, a7, a8⟩ := hsi
    have A := hid (And.intro a1 (And.intro a2 (And.intro a3 (And.intro a4 (And.intro a5 (And.intro a6 (And.intro a7 a8)))))))
    clear a1 a2 a3 a4 a5 a6 a7 a8
    by_cases hlt : k < ps.length
    · have hdr : ps.drop k = ps[k] :: ps.drop (k + 1) := List.drop_eq_getElem_cons hlt
      cases rest with
      | nil => have := A.out.2.2.2.1; rw [hdr] at this; exact this.elim
      | cons x r =>
        obtain ⟨bv, hbv, HBV, hx, hbx, hpw⟩ : ∃ bv, ps[k] = wrt fb cur.length bv ∧ Hid (wr.ownsRow 0 5 1 bv x.length x) ∧ 0 < x.length ∧ Hid (Bts x) ∧ Hid (PW wr uq.ownBlock fb (cur.length + x.length) (ps.drop (k + 1)) r) := by
          have h4 := A.out.2.2.2.1; rw [hdr] at h4
          obtain ⟨⟨bv, q1, q2, q3⟩, q4, q5, q6⟩ := h4
          exact ⟨bv, q1, q2, q4, q5, q6⟩
        obtain ⟨pg, rfl⟩ : ∃ pg, pa = some ⟨pg, 0, none⟩ := by
          rcases A.out.2.2.1.2 with ⟨e2, e3⟩ | ⟨g, cap, cu, e2, _⟩
          · omega
          · cases e2; exact ⟨_, rfl⟩
        have ck : wr.cell? ⟨pg, k, none⟩ = some (.iface 82 (.agg #[.pointer (some ⟨fb, 0, none⟩), .int .i64 cur.length, bv])) := by
          rw [A.out.2.2.1.cellAt k (by omega), List.getElem?_eq_getElem hlt, hbv]; rfl
        have hxl : x.length ≤ 100000000 ∧ cur.length ≤ 100000000 := by
          have := A.out.2.2.2.2.1; simp only [List.flatten_cons, List.length_append] at this; omega
        have HBVn := hid hbv
        have HDR := hid hdr
        clear hbv hdr
        go_wp2_with fail
        refine (write_sure A.out.1 A.out.2.1 (Rd.own HBV.out) hbx.out hx l hl0 hl1 hxl.1 hxl.2).mono ?_
        rintro e w2 ⟨rfl, v', b1, b2, b3, b4⟩
        have R := SI.step A.out.1 A.out.2.1 A.out.2.2.1 hpw.out A.out.2.2.2.2.1 A.out.2.2.2.2.2.1 A.out.2.2.2.2.2.2.1 A.out.2.2.2.2.2.2.2 hl0 b1 b2 b3 b4
        have d3 : w2.cell? ⟨fb, 3, none⟩ = some (.slice (some ⟨pg, 0, none⟩) ps.length pc) := by rw [blk_cell b1]; rfl
        have f3 : w2.frozen? ⟨fb, 3, none⟩ = false := blk_frozen b1 3
        have B1 := hid b1
        have RR := hid R
        clear b1 b2 b3 b4 R
        by_cases hbr : l < x.length
        · go_wp2
          go_end0
          exact ⟨rfl, settle_end B1.out (RR.out.2.1 hbr) RR.out.2.2.1 RR.out.2.2.2⟩
        · go_wp2
          go_roundw
          case rel => exact ⟨k + 1, l - x.length, by omega, by omega, by omega, rfl, by go_num, RR.out.1 (by omega)⟩
          case measure => simp [intOf]; omega
    · have hks : ps.drop k = [] := List.drop_eq_nil_of_le (by omega)
      have d3 : wr.cell? ⟨fb, 3, none⟩ = some (.slice pa ps.length pc) := by rw [blk_cell A.out.1]; rfl
      have f3 : wr.frozen? ⟨fb, 3, none⟩ = false := blk_frozen A.out.1 3
      have HKS := hid hks
      clear hks
      go_wp2
      go_end0
      have h4 := A.out.2.2.2.1
      rw [HKS.out] at h4
      cases rest with
      | cons x r => exact h4.elim
      | nil =>
        have h6 := A.out.2.2.2.2.2.1
        simp only [List.flatten_nil, List.take_nil, List.append_nil] at h6
        have h2 := A.out.2.1
        rw [h6] at h2
        exact ⟨rfl, settle_end A.out.1 h2 A.out.2.2.2.2.2.2.1 A.out.2.2.2.2.2.2.2⟩
end Go.Proofs.Ytilgagmnifbdpaa
