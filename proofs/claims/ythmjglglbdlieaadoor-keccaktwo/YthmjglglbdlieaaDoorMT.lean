/-
  What KeccakTwo keeps in memory: two sponges, two rows of bytes, and where they are told.
-/
import Derived.Test.YthmjglglbdlieaaDoorLR
import Derived.Test.YthmjglglbdlieaaDoorLP
namespace Go.Proofs.YthmjglglbdlieaaDoor
open Go.ChangeShapes Go.WideShapes Go.ChangeAt Go.RowKit

structure TQ (W : World) (P : Nat → Nat) (SB MB : Nat) (s : Nat → Sp) (M : Nat → List Nat) (v : Nat → Value) (wr : World) : Prop where
  sp : ∀ p, p < 2 → IsSp wr (P p) (s p)
  ne : P 0 ≠ P 1
  lo : ∀ p, p < 2 → W.heap.size ≤ P p
  sb : wr.heap[SB]? = some (.cells #[.pointer (some ⟨P 0, 0, none⟩), .pointer (some ⟨P 1, 0, none⟩)] 39 (0, 0))
  mb : wr.heap[MB]? = some (.cells #[v 0, v 1] 40 (0, 0))
  ml : W.heap.size ≤ MB
  own : ∀ p, p < 2 → wr.ownsRow W.heap.size 5 1 (v p) (M p).length (bv (M p))
  bd : ∀ p, p < 2 → ∀ n ∈ M p, n < 256
  ap : ∀ k, (v 0).ownBlock = some k → (v 1).ownBlock ≠ some k
  fr : Fr [] W wr
theorem two {p : Nat} (h : p < 2) : p = 0 ∨ p = 1 := by omega
theorem TQ.scell {W wr : World} {P : Nat → Nat} {SB MB : Nat} {s : Nat → Sp} {M : Nat → List Nat} {v : Nat → Value} (h : TQ W P SB MB s M v wr) {p : Nat} (hp : p < 2) : wr.cell? ⟨SB, p, none⟩ = some (.pointer (some ⟨P p, 0, none⟩)) := by
  rw [blk_cell h.sb]
  rcases two hp with rfl | rfl <;> rfl
theorem TQ.mcell {W wr : World} {P : Nat → Nat} {SB MB : Nat} {s : Nat → Sp} {M : Nat → List Nat} {v : Nat → Value} (h : TQ W P SB MB s M v wr) {p : Nat} (hp : p < 2) : wr.cell? ⟨MB, p, none⟩ = some (v p) := by
  rw [blk_cell h.mb]
  rcases two hp with rfl | rfl <;> rfl
theorem TQ.grow {W wr w' : World} {P : Nat → Nat} {SB MB : Nat} {s : Nat → Sp} {M : Nat → List Nat} {v : Nat → Value} (h : TQ W P SB MB s M v wr) (f : Fr [] wr w') : TQ W P SB MB s M v w' :=
  ⟨fun p hp => (h.sp p hp).fr f (by simp), h.ne, h.lo, f.at h.sb (by simp), f.at h.mb (by simp), h.ml, fun p hp => ownsRow_fr (h.own p hp) f, h.bd, h.ap, h.fr.trans f⟩
theorem blk_ne {w : World} {a b : Nat} {c c' : Array Value} {e e' : TypeId} (ha : w.heap[a]? = some (.cells c e (0, 0))) (hb : w.heap[b]? = some (.cells c' e' (0, 0))) (he : e ≠ e') : a ≠ b := fun h => by
  subst h
  rw [ha] at hb
  simp only [Option.some.injEq, Obj.cells.injEq] at hb
  exact he hb.2.1
/-- One sponge is turned. -/
theorem TQ.wrote {W wr w' : World} {P : Nat → Nat} {SB MB : Nat} {s : Nat → Sp} {M : Nat → List Nat} {v : Nat → Value} (h : TQ W P SB MB s M v wr) {p : Nat} (hp : p < 2) {t : Sp} (f : Fr [P p] wr w') (hs : IsSp w' (P p) t) : TQ W P SB MB (up s p t) M v w' := by
  refine ⟨fun q hq => ?_, h.ne, h.lo, f.at h.sb (by simpa using blk_ne h.sb (h.sp p hp) (by decide)), f.at h.mb (by simpa using blk_ne h.mb (h.sp p hp) (by decide)), h.ml, fun q hq => own_beside (h.own q hq) (h.sp p hp) (by decide) f, h.bd, h.ap, ?_⟩
  · by_cases e : q = p
    · subst e; rw [up_same]; exact hs
    · rw [up_ne _ _ e]
      refine (h.sp q hq).fr f ?_
      have := h.ne
      rcases two hp with rfl | rfl <;> rcases two hq with rfl | rfl <;> simp_all
      exact fun e => this e.symm
  · exact ((h.fr.mono (S' := [P p]) (by simp)).trans f).shed (S' := []) (fun k hk hl => by simp at hk; have := h.lo p hp; omega)
/-- A row has grown, and is told anew. -/
theorem TQ.app {W wr w1 : World} {P : Nat → Nat} {SB MB : Nat} {s : Nat → Sp} {M : Nat → List Nat} {v : Nat → Value} (h : TQ W P SB MB s M v wr) {p : Nat} (hp : p < 2) {x : List Nat} (hx : ∀ n ∈ x, n < 256) {v' : Value} (o : w1.ownsRow W.heap.size 5 1 v' ((M p).length + x.length) (bv (M p) ++ bv x)) (g : wr.grownBy w1 (v p).ownBlock) (b : v'.ownBlock = (v p).ownBlock ∨ v'.ownBlock = some wr.heap.size) :
    TQ W P SB MB s (up M p (M p ++ x)) (up v p v') (w1.setCell ⟨MB, p, none⟩ v') := by
  have keep : ∀ {b : Nat} {c' : Array Value} {e : TypeId}, wr.heap[b]? = some (.cells c' e (0, 0)) → e ≠ 5 → w1.heap[b]? = wr.heap[b]? := fun {b} {c'} {e} hb he => g.block b (blk_lt hb) (fun e' => own_ne (h.own p hp) hb he e'.symm)
  have hmb1 : w1.heap[MB]? = some (.cells #[v 0, v 1] 40 (0, 0)) := (keep h.mb (by decide)).trans h.mb
  have hother : ∀ q, q < 2 → q ≠ p → w1.ownsRow W.heap.size 5 1 (v q) (M q).length (bv (M q)) := fun q hq hqp => by
    refine ownsRow_of_block (h.own q hq) fun k hk => g.block k ((h.own q hq).lt k hk).2 fun e => ?_
    rcases two hp with rfl | rfl <;> rcases two hq with rfl | rfl
    · exact hqp rfl
    · exact h.ap k e.symm hk
    · exact h.ap k hk e.symm
    · exact hqp rfl
  have hset : ∀ {u : Value} {n : Nat} {ys : List Value}, w1.ownsRow W.heap.size 5 1 u n ys → (w1.setCell ⟨MB, p, none⟩ v').ownsRow W.heap.size 5 1 u n ys := fun {u} {n} {ys} hu =>
    own_beside hu hmb1 (by decide) ((Fr.refl [MB] w1).set (p := MB) p v' (.inl (by simp)))
  refine ⟨fun q hq => ?_, h.ne, h.lo, ?_, ?_, h.ml, fun q hq => ?_, fun q hq n hn => ?_, fun k hk => ?_, ?_⟩
  · exact (blk_setne w1 p v' (blk_ne (h.sp q hq) h.mb (by decide))).trans ((keep (h.sp q hq) (by decide)).trans (h.sp q hq))
  · exact (blk_setne w1 p v' (blk_ne h.sb h.mb (by decide))).trans ((keep h.sb (by decide)).trans h.sb)
  · refine (blk_set hmb1 p v').trans ?_
    rcases two hp with rfl | rfl <;> rfl
  · by_cases e : q = p
    · subst e
      rw [up_same, up_same, bv_append, List.length_append]
      exact hset o
    · rw [up_ne _ _ e, up_ne _ _ e]
      exact hset (hother q hq e)
  · by_cases e : q = p
    · subst e
      rw [up_same] at hn
      rcases List.mem_append.1 hn with h' | h'
      · exact h.bd q hq n h'
      · exact hx n h'
    · rw [up_ne _ _ e] at hn; exact h.bd q hq n hn
  · rcases two hp with rfl | rfl
    · rw [up_same] at hk
      rw [up_ne _ _ (show 1 ≠ 0 by omega)]
      rcases b with b | b
      · rw [b] at hk; exact h.ap k hk
      · rw [b] at hk
        intro h1
        have := ((h.own 1 (by omega)).lt k h1).2
        simp at hk; omega
    · rw [up_ne _ _ (show 0 ≠ 1 by omega)] at hk
      rw [up_same]
      intro h1
      rcases b with b | b
      · rw [b] at h1; exact h.ap k hk h1
      · rw [b] at h1
        have := ((h.own 0 (by omega)).lt k hk).2
        simp at h1; omega
  · exact (h.fr.grown g fun k hk => .inr ((h.own p hp).lt k hk).1).set (p := MB) p v' (.inr h.ml)
theorem TQ.mb1 {W wr w1 : World} {P : Nat → Nat} {SB MB : Nat} {s : Nat → Sp} {M : Nat → List Nat} {v : Nat → Value} (h : TQ W P SB MB s M v wr) {p : Nat} (hp : p < 2) (g : wr.grownBy w1 (v p).ownBlock) : w1.heap[MB]? = some (.cells #[v 0, v 1] 40 (0, 0)) :=
  (g.block MB (blk_lt h.mb) (fun e' => own_ne (h.own p hp) h.mb (by decide) e'.symm)).trans h.mb
theorem mcell1 {w : World} {MB p : Nat} {v : Nat → Value} (h : w.heap[MB]? = some (.cells #[v 0, v 1] 40 (0, 0))) (hp : p < 2) : w.cell? ⟨MB, p, none⟩ = some (v p) := by
  rw [blk_cell h]
  rcases two hp with rfl | rfl <;> rfl
/-- Both hashes, one behind the other. -/
def hv2 (M : Nat → List Nat) (k : Nat) : Nat → Nat := fun j => if j < 32 * k then hashOf (M (j / 32)) (j % 32) else 0
/-- A block of hashes is turned. -/
theorem TQ.beside {W wr w' : World} {P : Nat → Nat} {SB MB g : Nat} {s : Nat → Sp} {M : Nat → List Nat} {v : Nat → Value} (h : TQ W P SB MB s M v wr) (f : Fr [g] wr w') {c : Array Value} (hg : wr.heap[g]? = some (.cells c 41 (0, 0))) (hl : W.heap.size ≤ g) : TQ W P SB MB s M v w' :=
  ⟨fun p hp => (h.sp p hp).fr f (by simpa using blk_ne (h.sp p hp) hg (by decide)), h.ne, h.lo, f.at h.sb (by simpa using blk_ne h.sb hg (by decide)), f.at h.mb (by simpa using blk_ne h.mb hg (by decide)), h.ml, fun p hp => own_beside (h.own p hp) hg (by decide) f, h.bd, h.ap, ((h.fr.mono (S' := [g]) (by simp)).trans f).shed (S' := []) (fun k hk hl' => by simp at hk; omega)⟩
theorem zero64 (M : Nat → List Nat) : (#[.int .u8 0, .int .u8 0, .int .u8 0, .int .u8 0, .int .u8 0, .int .u8 0, .int .u8 0, .int .u8 0, .int .u8 0, .int .u8 0, .int .u8 0, .int .u8 0, .int .u8 0, .int .u8 0, .int .u8 0, .int .u8 0, .int .u8 0, .int .u8 0, .int .u8 0, .int .u8 0, .int .u8 0, .int .u8 0, .int .u8 0, .int .u8 0, .int .u8 0, .int .u8 0, .int .u8 0, .int .u8 0, .int .u8 0, .int .u8 0, .int .u8 0, .int .u8 0, .int .u8 0, .int .u8 0, .int .u8 0, .int .u8 0, .int .u8 0, .int .u8 0, .int .u8 0, .int .u8 0, .int .u8 0, .int .u8 0, .int .u8 0, .int .u8 0, .int .u8 0, .int .u8 0, .int .u8 0, .int .u8 0, .int .u8 0, .int .u8 0, .int .u8 0, .int .u8 0, .int .u8 0, .int .u8 0, .int .u8 0, .int .u8 0, .int .u8 0, .int .u8 0, .int .u8 0, .int .u8 0, .int .u8 0, .int .u8 0, .int .u8 0, .int .u8 0] : Array Value) = bvals 64 (hv2 M 0) := by
  have : bvals 64 (hv2 M 0) = bvals 64 (fun _ => 0) := bvals_congr fun i _ => by unfold hv2; rw [if_neg (by omega)]
  rw [this]; rfl
theorem there64 {w : World} {HB : Nat} {g : Nat → Nat} {t : TypeId} (h : w.heap[HB]? = some (.cells (bvals 64 g) t (0, 0))) {o n : Nat} (hn : o + n ≤ 64) : w.there HB o n := fun j hj => by
  refine ⟨?_, blk_frozen h _⟩
  rw [blk_cell h, bvals_at _ (by omega)]; rfl
theorem TQ.asS {W wr : World} {P : Nat → Nat} {SB MB : Nat} {s s' : Nat → Sp} {M : Nat → List Nat} {v : Nat → Value} (h : TQ W P SB MB s M v wr) (e : ∀ p, p < 2 → s p = s' p) : TQ W P SB MB s' M v wr :=
  ⟨fun p hp => by rw [← e p hp]; exact h.sp p hp, h.ne, h.lo, h.sb, h.mb, h.ml, h.own, h.bd, h.ap, h.fr⟩
theorem hv2_set (M : Nat → List Nat) (k : Nat) : ∀ i, i < 64 → (setA (bvals 64 (hv2 M k)) (32 * k) (bvals 32 (hashOf (M k))).toList)[i]? = some (.int .u8 (hv2 M (k + 1) i : Int)) := by
  intro i hi
  rw [setA_at _ _ _ _ (by rw [bvals_size]; exact hi), Array.length_toList, bvals_size]
  by_cases h : 32 * k ≤ i ∧ i < 32 * k + 32
  · rw [if_pos h, Array.getElem?_toList, bvals_at _ (by omega)]
    unfold hv2
    rw [if_pos (by omega), show i / 32 = k by omega, show i % 32 = i - 32 * k by omega]
  · rw [if_neg h, bvals_at _ hi]
    unfold hv2
    by_cases h2 : i < 32 * k
    · rw [if_pos h2, if_pos (by omega)]
    · rw [if_neg h2, if_neg (by omega)]
theorem hv2_blk {w : World} {HB k : Nat} {M : Nat → List Nat} (h : w.heap[HB]? = some (.cells (bvals 64 (hv2 M k)) 41 (0, 0))) : (w.setCells HB (32 * k) (bvals 32 (hashOf (M k))).toList).heap[HB]? = some (.cells (bvals 64 (hv2 M (k + 1))) 41 (0, 0)) := by
  refine (blk_setCells _ _ _ _ h).trans (congrArg (fun c => some (Obj.cells c 41 (0, 0))) (Array.ext_getElem? fun i => ?_))
  by_cases hi : i < 64
  · rw [hv2_set M k i hi, bvals_at _ hi]
  · rw [Array.getElem?_eq_none (by rw [setA_size, bvals_size]; omega), Array.getElem?_eq_none (by rw [bvals_size]; omega)]
theorem hv2_range {w : World} {HB : Nat} {M : Nat → List Nat} (h : w.heap[HB]? = some (.cells (bvals 64 (hv2 M 2)) 41 (0, 0))) {p : Nat} (hp : p < 2) : w.rangeAt HB (32 * p) (bvals 32 (hashOf (M p))).toList := fun j u hu => by
  rw [Array.getElem?_toList] at hu
  have hj : j < 32 := by
    rcases Nat.lt_or_ge j 32 with h | h
    · exact h
    · rw [Array.getElem?_eq_none (by rw [bvals_size]; omega)] at hu; cases hu
  rw [blk_cell h, bvals_at _ (by omega), ← hu, bvals_at _ hj]
  unfold hv2
  rw [if_pos (by omega), show (32 * p + j) / 32 = p by omega, show (32 * p + j) % 32 = j by omega]
end Go.Proofs.YthmjglglbdlieaaDoor
