/-
  Pairs of bytes in memory: those that can be read, those of the call's own; the statements' comparison of them.
-/
import Derived.Test.YtekcpecofclgiaaBM
import Derived.Test.YtekcpecofclgiaaRo
import Derived.Test.YtekcpecofclgiaaK
import Derived.Deep.Cut
import Derived.Deep.RegionHeld
import Derived.Deep.Light
import Derived.Laws.ResultCell
import Derived.Deep.WholeRow
namespace Go.Proofs.Ytekcpecofclgiaa
open Go.ChangeShapes Go.WideShapes Go.ChangeAt Go.RowKit

theorem cell_fr {w w' : World} (f : Fr [] w w') {p : Addr} {v : Value} (h : w.cell? p = some v) : w'.cell? p = some v := by
  rw [World.cell?_of_block (w := w) (f.block _ (World.block_lt_of_cell? w _ h) (by simp))]; exact h
/-- Does a block hold a byte? -/
def U8 (w : World) (k : Nat) : Prop := ∃ p n, p.block = k ∧ w.cell? p = some (.int .u8 n)
theorem U8.lt {w : World} {k : Nat} (h : U8 w k) : k < w.heap.size := by
  obtain ⟨p, n, rfl, h⟩ := h
  exact World.block_lt_of_cell? w _ h
theorem Rd.keep {w w' : World} {v : Value} {ns : List Nat} (h : Rd w v (bv ns)) (hk : ∀ k, U8 w k → w'.heap[k]? = w.heap[k]?) : Rd w' v (bv ns) := by
  rcases h with h | ⟨a, c, rfl, h4, h5⟩
  · exact .inl h
  · refine .inr ⟨a, c, rfl, h4, fun j u hj => ?_⟩
    have h6 := h5 j u hj
    have hu : ∃ n : Int, u = .int .u8 n := by
      obtain ⟨n, _, rfl⟩ := List.mem_map.1 (List.mem_of_getElem? hj)
      exact ⟨_, rfl⟩
    obtain ⟨n, rfl⟩ := hu
    rw [World.cell?_of_block (w := w) (hk _ ⟨_, _, rfl, h6⟩)]; exact h6
theorem noU8 {w : World} {b : Nat} {cs : List Value} {T : TypeId} (h : w.heap[b]? = some (.cells cs.toArray T (0, 0))) (hc : ∀ c ∈ cs, ∀ n, c ≠ .int .u8 n) : ¬ U8 w b := by
  rintro ⟨⟨_, o, sp⟩, n, rfl, hn⟩
  have hsp : sp = none := World.cell?_spot hn
  subst hsp
  rw [blk_cell h, List.getElem?_toArray] at hn
  exact hc _ (List.mem_of_getElem? hn) n rfl

theorem infoP : (Try.prog.info? 40).map (fun i => (i.zero, i.size, i.bytes)) = some (some (.agg #[.slice none 0 0, .slice none 0 0]), 2, 48) := by kernel_rfl
/-- A pair of bytes at a place. -/
structure PAt (w : World) (b o : Nat) (p : List Nat × List Nat) (ka : Option Addr) (kc : Nat) (va : Option Addr) (vc : Nat) : Prop where
  ck : w.cell? ⟨b, o, none⟩ = some (.slice ka p.1.length kc)
  cv : w.cell? ⟨b, o + 1, none⟩ = some (.slice va p.2.length vc)
  rk : Rd w (.slice ka p.1.length kc) (bv p.1)
  rv : Rd w (.slice va p.2.length vc) (bv p.2)
  bk : By p.1
  bv' : By p.2
  lk : p.1.length ≤ 140737488355328
  lv : p.2.length ≤ 140737488355328
theorem PAt.fr {w w' : World} {b o : Nat} {p : List Nat × List Nat} {ka va : Option Addr} {kc vc : Nat} (h : PAt w b o p ka kc va vc) (f : Fr [] w w') : PAt w' b o p ka kc va vc :=
  ⟨cell_fr f h.ck, cell_fr f h.cv, h.rk.fr f, h.rv.fr f, h.bk, h.bv', h.lk, h.lv⟩
/-- Pairs that can be read. -/
def RdK (w : World) (v : Value) (ps : Ps) : Prop :=
  ∃ a c, v = .slice a ps.length c ∧ ps.length ≤ c ∧ (0 < ps.length → ∃ b off, a = some ⟨b, off, none⟩ ∧ ∀ (j : Nat) (p : List Nat × List Nat), ps[j]? = some p → ∃ ka kc va vc, PAt w b (off + j * 2) p ka kc va vc)
theorem RdK.fr {w w' : World} {v : Value} {ps : Ps} (h : RdK w v ps) (f : Fr [] w w') : RdK w' v ps := by
  obtain ⟨a, c, h1, h2, h3⟩ := h
  refine ⟨a, c, h1, h2, fun h0 => ?_⟩
  obtain ⟨b, off, h4, h5⟩ := h3 h0
  refine ⟨b, off, h4, fun j p hj => ?_⟩
  obtain ⟨ka, kc, va, vc, h6⟩ := h5 j p hj
  exact ⟨ka, kc, va, vc, h6.fr f⟩
theorem RdK.by {w : World} {v : Value} {ps : Ps} (h : RdK w v ps) : ByP ps := fun p hp => by
  obtain ⟨a, c, h1, h2, h3⟩ := h
  obtain ⟨b, off, h4, h5⟩ := h3 (List.length_pos_of_mem hp)
  obtain ⟨j, hj⟩ := List.getElem?_of_mem hp
  obtain ⟨_, _, _, _, h6⟩ := h5 j p hj
  exact ⟨h6.bk, h6.bv'⟩
theorem RdK.lens {w : World} {v : Value} {ps : Ps} (h : RdK w v ps) : ∀ p ∈ ps, p.1.length ≤ 140737488355328 ∧ p.2.length ≤ 140737488355328 := fun p hp => by
  obtain ⟨a, c, h1, h2, h3⟩ := h
  obtain ⟨b, off, h4, h5⟩ := h3 (List.length_pos_of_mem hp)
  obtain ⟨j, hj⟩ := List.getElem?_of_mem hp
  obtain ⟨_, _, _, _, h6⟩ := h5 j p hj
  exact ⟨h6.lk, h6.lv⟩
theorem RdK.nil (w : World) : RdK w (.slice none 0 0) [] := ⟨none, 0, rfl, Nat.le_refl _, fun h => by simp at h⟩
/-- Pairs of the call's own. -/
def ColK (W : World) (B : Nat) (v : Value) (ps : Ps) : Prop := ∃ cs, W.ownsRow B 40 2 v ps.length cs ∧ (∀ c ∈ cs, ∃ a n k, c = Value.slice a n k) ∧
  ∀ (j : Nat) (p : List Nat × List Nat), ps[j]? = some p → ∃ kv vv, cs[j * 2]? = some kv ∧ cs[j * 2 + 1]? = some vv ∧ Rd W kv (bv p.1) ∧ Rd W vv (bv p.2) ∧ By p.1 ∧ By p.2 ∧ p.1.length ≤ 140737488355328 ∧ p.2.length ≤ 140737488355328
theorem ColK.nil (W : World) (B : Nat) : ColK W B (.slice none 0 0) [] := ⟨[], World.ownsRow_nil _ _ _ _, fun c h => (by cases h), fun j p h => by simp at h⟩
theorem ColK.step {W W' : World} {B : Nat} {v : Value} {ps : Ps} (h : ColK W B v ps) (hb : ∀ k, v.ownBlock = some k → W'.heap[k]? = W.heap[k]?) (hu : ∀ k, U8 W k → W'.heap[k]? = W.heap[k]?) : ColK W' B v ps := by
  obtain ⟨cs, o, h1, h2⟩ := h
  refine ⟨cs, ownsRow_of_block o hb, h1, fun j p hj => ?_⟩
  obtain ⟨kv, vv, c0, c1, r0, r1, b0⟩ := h2 j p hj
  exact ⟨kv, vv, c0, c1, r0.keep hu, r1.keep hu, b0⟩
theorem ColK.fr {W W' : World} {B : Nat} {v : Value} {ps : Ps} (h : ColK W B v ps) (f : Fr [] W W') : ColK W' B v ps :=
  h.step (fun k hk => by obtain ⟨cs, o, _⟩ := h; exact f.block k (o.lt k hk).2 (by simp)) (fun k hk => f.block k hk.lt (by simp))
theorem ColK.rd {w : World} {B : Nat} {v : Value} {ps : Ps} (h : ColK w B v ps) : RdK w v ps := by
  obtain ⟨cs, o, h1, h2⟩ := h
  rcases o.2 with ⟨rfl, h0⟩ | ⟨g, cap, cur, rfl, _, h3, h4, h5⟩
  · have : ps = [] := List.eq_nil_of_length_eq_zero h0
    subst this
    exact RdK.nil w
  · refine ⟨_, cap, rfl, h4, fun _ => ⟨g, 0, rfl, fun j p hj => ?_⟩⟩
    obtain ⟨kv, vv, c0, c1, r0, r1, b0, b1, l0, l1⟩ := h2 j p hj
    have d0 := o.cells rfl _ _ c0
    have d1 := o.cells rfl _ _ c1
    rw [Addr.add_lit] at d0 d1
    obtain ⟨a0, k0, e0⟩ := r0.form
    obtain ⟨a1, k1, e1⟩ := r1.form
    rw [bv_len] at e0 e1
    subst e0
    subst e1
    exact ⟨a0, k0, a1, k1, d0, by rw [show 0 + j * 2 + 1 = 0 + (j * 2 + 1) from by omega]; exact d1, r0, r1, b0, b1, l0, l1⟩
end Go.Proofs.Ytekcpecofclgiaa
