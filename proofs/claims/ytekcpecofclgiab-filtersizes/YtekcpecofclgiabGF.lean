/-
  FilterSizes: the walk.
-/
import Derived.Test.YtekcpecofclgiabGC
namespace Go.Proofs.Ytekcpecofclgiab
open Go.ChangeShapes Go.WideShapes Go.ChangeAt Go.RowKit

/-- A list of the call's own with one row more. -/
theorem OwnL.grow {w w5 : World} {B : Nat} {v v5 u : Value} {rs : List (List Nat)} {r : List Nat} {cs : List Value} (o : w.ownsRow B 25 1 v rs.length cs) (l : Lst w B [v.ownBlock] rs cs) (ou : w.ownsRow B 5 1 u r.length (bv r)) (hb : By r) (hl : r.length ≤ 140737488355328) {X : Obj}
    (o5 : w5.ownsRow B 25 1 v5 (rs.length + 1) (cs ++ [u])) (g5 : (w.alloc X).grownBy w5 v.ownBlock) (q5 : v5.ownBlock = v.ownBlock ∨ v5.ownBlock = some (w.alloc X).heap.size) : OwnL w5 B v5 (rs ++ [r]) := by
  have hsz : w.heap.size < (w.alloc X).heap.size := by simp
  have hs5 : w.heap.size ≤ w5.heap.size := Nat.le_trans (Nat.le_of_lt hsz) g5.size
  have keep : ∀ k, k < w.heap.size → v.ownBlock ≠ some k → w5.heap[k]? = w.heap[k]? := fun k hk hq => by
    rw [g5.block k (by omega) (fun e => hq e.symm), blk_old _ _ hk]
  have hav := own_types ou o (by decide)
  refine ⟨cs ++ [u], by rw [List.length_append]; exact o5, Lst.snoc (l.step hs5 (fun k _ b2 b3 => keep k b2 (b3 _ (by simp))) ?_) ((Rd.ownB ou).step fun k hk => keep k (ou.lt k hk).2 (hav k hk)) hb hl ?_⟩
  · intro q hq
    simp only [List.mem_cons, List.not_mem_nil, or_false] at hq
    subst hq
    rcases q5 with e | e
    · rw [e]; exact .inl (by simp)
    · exact .inr fun k hk => by rw [e] at hk; simp at hk; omega
  · intro k hk
    refine ⟨(ou.lt k hk).1, by have := (ou.lt k hk).2; omega, fun q hq e => ?_⟩
    simp only [List.mem_cons, List.not_mem_nil, or_false] at hq
    subst hq
    rcases q5 with e' | e'
    · exact hav k hk (by rw [← e']; exact e)
    · rw [e'] at e; simp at e; have := (ou.lt k hk).2; omega
def ksN (n : Nat) : List (List Nat) := (List.range n).map fun i => [i % 256, i / 256]
theorem ksN_len (n : Nat) : (ksN n).length = n := by unfold ksN; rw [List.length_map, List.length_range]
theorem ksN_succ (n : Nat) : ksN (n + 1) = ksN n ++ [[n % 256, n / 256]] := by unfold ksN; rw [List.range_succ, List.map_append]; rfl
set_option maxRecDepth 20000 in
set_option maxHeartbeats 3200000 in
theorem sizes_c (w : World) (n bits : Int) :
    Calls Try.prog 4 #[.int .i64 n, .int .i64 bits] w fun e w' => e = .returned (.bool true) ∧ Fr [] w w' := by
  have KN := hid (known_c w)
  by_cases hbad : n < 0 ∨ 300 < n ∨ bits < 1 ∨ 64 < bits
  · rcases hbad with h | h | h | h
    all_goals
      go_enter Try.func4, Try.ntmps4
      go_wp2_with fail
      refine KN.out.mono ?_
      rintro e w1 ⟨rfl, f1⟩
      go_wp2
      all_goals
        go_ret
        exact ⟨rfl, f1⟩
  obtain ⟨nn, hnn⟩ : ∃ nn : Nat, n = (nn : Int) := ⟨n.toNat, by omega⟩
  obtain ⟨bb, hbb⟩ : ∃ bb : Nat, bits = (bb : Int) := ⟨bits.toNat, by omega⟩
  subst hnn
  subst hbb
  have h1 : nn ≤ 300 := by omega
  have h2 : 1 ≤ bb := by omega
  have h3 : bb ≤ 64 := by omega
  clear hbad
  go_enter Try.func4, Try.ntmps4
  go_wp2_with fail
  refine KN.out.mono ?_
  rintro e w1 ⟨rfl, f1⟩
  have F1 := hid f1
  clear f1 KN
  go_wp2_with fail
  go_loopw [5, 6] (fun v5 v6 wr => ∃ i : Nat, i ≤ nn ∧ v6 = .int .i64 (i : Int) ∧ OwnL wr w1.heap.size v5 (ksN i) ∧ Fr [] w1 wr) (fun _ v6 _ => nn - (intOf v6).toNat)
  case atStart => exact ⟨0, Nat.zero_le _, rfl, ⟨[], World.ownsRow_nil _ _ _ _, Lst.nil _ _ _⟩, Fr.refl _ _⟩
  case round =>
    obtain ⟨i, hi, rfl, oi, fi⟩ := hrel
    have HI := hid (And.intro oi fi)
    clear oi fi
    by_cases hlt : i < nn
    · obtain ⟨cs, o, l⟩ := HI.out.1
      rw [ksN_len] at o
      have c1 : ((i : Int) % 256) = ((i % 256 : Nat) : Int) := by omega
      have c2 : ((i : Int) / 256) = ((i / 256 : Nat) : Int) := by omega
      obtain ⟨x1, hx1⟩ : ∃ x, x = i % 256 := ⟨_, rfl⟩
      obtain ⟨x2, hx2⟩ : ∃ x, x = i / 256 := ⟨_, rfl⟩
      rw [← hx1] at c1
      rw [← hx2] at c2
      have HX := hid (And.intro hx1 hx2)
      have hxb : x1 < 256 ∧ x2 < 256 := by omega
      clear hx1 hx2
      obtain ⟨W2, hW2⟩ : ∃ W, W = wr.alloc (.cells #[.int .u8 (x1 : Int), .int .u8 (x2 : Int)] 5) := ⟨_, rfl⟩
      have F2 : Fr [] wr W2 := by rw [hW2]; exact (Fr.refl _ _).alloc _
      have hs2 : w1.heap.size ≤ wr.heap.size := HI.out.2.size
      have ou : W2.ownsRow w1.heap.size 5 1 (.slice (some ⟨wr.heap.size, 0, none⟩) 2 2) [x1, x2].length (bv [x1, x2]) := by
        rw [hW2]
        exact World.ownsRow_lit (base := w1.heap.size) (e := 5) (size := 1) wr #[.int .u8 (x1 : Int), .int .u8 (x2 : Int)] 2 hs2 (by unfold maxLen; omega) (by simp)
      obtain ⟨W3, hW3⟩ : ∃ W, W = W2.alloc (.cells #[.slice (some ⟨wr.heap.size, 0, none⟩) 2 2] 25) := ⟨_, rfl⟩
      have F3 : Fr [] W2 W3 := by rw [hW3]; exact (Fr.refl _ _).alloc _
      have X3 : W3.heap[W2.heap.size]? = some (.cells #[.slice (some ⟨wr.heap.size, 0, none⟩) 2 2] 25 (0, 0)) := by rw [hW3]; exact blk_new _ _
      have s2 : W2.heap.size = wr.heap.size + 1 := by rw [hW2]; simp
      have o2 := ownsRow_fr o F2
      have o3 := ownsRow_fr o2 F3
      have l2 : Lst W2 w1.heap.size [u5.ownBlock] (ksN i) cs := l.step F2.size (fun k _ hk _ => F2.block k hk (by simp)) (fun q hq => .inl hq)
      have hs3 : w1.heap.size ≤ W3.heap.size := by have := F2.size; have := F3.size; omega
      have GR : Hid (∀ v5 W5, W5.ownsRow w1.heap.size 25 1 v5 (i + 1) (cs ++ [.slice (some ⟨wr.heap.size, 0, none⟩) 2 2]) → W3.grownBy W5 u5.ownBlock → (v5.ownBlock = u5.ownBlock ∨ v5.ownBlock = some W3.heap.size) → OwnL W5 w1.heap.size v5 (ksN (i + 1)) ∧ Fr [] w1 W5) := hid fun v5 W5 o5 g5 q5 => by
        refine ⟨?_, ?_⟩
        · rw [ksN_succ, ← HX.out.1, ← HX.out.2]
          rw [hW3] at g5 q5
          exact OwnL.grow (rs := ksN i) (by rw [ksN_len]; exact o2) l2 ou (fun n hn => by simp at hn; rcases hn with rfl | rfl <;> omega) (by simp) (by rw [ksN_len]; exact o5) g5 q5
        · exact (HI.out.2.trans (F2.trans F3)).grown g5 (fun k hk => .inr (o3.lt k hk).1)
      clear o l o2 l2 ou F2 F3
      go_wp2_with (at_builtin; rw [← hW2, ← s2, ← hW3]; refine wpList_append_row rfl _ _ rfl w1.heap.size hs3 _ _ _ rfl o3 W2.heap.size rfl X3 rfl (by omega) ?_; intro v5 W5 o5 g5 q5; have H5 : Hid (OwnL W5 w1.heap.size v5 (ksN (i + 1)) ∧ Fr [] w1 W5) := hid (GR.out v5 W5 o5 g5 q5); clear o5 g5 q5)
      go_roundw
      case rel => exact ⟨i + 1, by omega, by go_num, H5.out.1, H5.out.2⟩
      case measure => simp [intOf]; omega
    · have hie : i = nn := by omega
      subst hie
      have RL := HI.out.1.rd
      have FC := hid (filter_c wr RL (by rw [ksN_len]; omega) bb h2 h3)
      obtain ⟨la, lc, rfl, _⟩ := RL
      rw [ksN_len] at FC ⊢
      go_wp2_with fail
      refine FC.out.mono ?_
      rintro e W2 ⟨v2, rfl, o2, f2⟩
      obtain ⟨b2, c2, rfl, hc2⟩ := ownsRow_slice o2
      have hlen : (fltL bb (ksN i)).length = fL bb i + 1 := by rw [fltL_len, ksN_len]
      have hT := fT_bd bb
      have hlast : (fltL bb (ksN i))[fL bb i]? = some (fT bb) := by
        unfold fltL
        rw [ksN_len, List.getElem?_append_right (by rw [fM_len]; exact Nat.le_refl _), fM_len, Nat.sub_self]; rfl
      have hz := (Rd.ownB o2)
      have hfl : fL bb i = max ((bb * i + 7) / 8) 8 := rfl
      have hp := fL_pos bb i
      have hfl2 : fL bb i ≤ 1000000 := by
        have : bb * i ≤ 64 * 300 := Nat.mul_le_mul h3 h1
        rw [hfl]; omega
      rw [hlen] at hc2 hz ⊢
      obtain ⟨q, o, c', e, hbc⟩ := (by rw [← hlen] at hz; exact hz.place (by omega) : ∃ q off c, Value.slice b2 (fltL bb (ksN i)).length c2 = .slice (some ⟨q, off, none⟩) (fltL bb (ksN i)).length c ∧ (fltL bb (ksN i)).length ≤ c)
      simp only [Value.slice.injEq, true_and] at e
      obtain ⟨rfl, rfl⟩ := e
      have z : W2.cell? ⟨q, o + fL bb i, none⟩ = some (.int .u8 (fT bb : Int)) := by
        rcases (Rd.ownB o2).split with ⟨e, _⟩ | ⟨b', o', c', e, _, _, g⟩
        · rw [e] at hlen; simp at hlen
        · simp only [Value.slice.injEq, Option.some.injEq, Addr.mk.injEq] at e
          obtain ⟨⟨rfl, rfl, _⟩, _⟩ := e
          exact g _ _ hlast
      have hmul : (bb : Int) * (i : Int) = ((bb * i : Nat) : Int) := by simp
      obtain ⟨p, hpp⟩ : ∃ p, p = bb * i := ⟨_, rfl⟩
      rw [← hpp] at hmul hfl
      have hmx : (if (p : Int) < 64 then 64 else (p : Int)) = (max p 64 : Nat) := by omega
      obtain ⟨mx, hmx2⟩ : ∃ mx, mx = max p 64 := ⟨_, rfl⟩
      rw [← hmx2] at hmx
      have hfq : ((mx : Int) + 7) / 8 = (fL bb i : Int) := by rw [hfl, hmx2]; omega
      have hpb : p ≤ 64 * 300 := by rw [hpp]; exact Nat.mul_le_mul h3 h1
      have hmxb : mx ≤ 64 * 300 := by omega
      have F2 := hid (F1.out.trans (HI.out.2.trans f2))
      clear o2 f2 hz hlast hlen FC hmx2 hpp hfl hbc hc2
      generalize fL bb i = L at *
      generalize fT bb = t at *
      go_wp2
      go_ret
      exact ⟨ret_bool (decide_eq_true (by omega)), F2.out⟩
end Go.Proofs.Ytekcpecofclgiab
