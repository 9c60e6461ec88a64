/-
  Pairs of bytes that are gathered; the statements' comparison of them.
-/
import Derived.Test.YtldcjkddalmkcaaGV
import Derived.Test.YtldcjkddalmkcaaK
namespace Go.Proofs.Ytldcjkddalmkcaa
open Go.ChangeShapes Go.WideShapes Go.ChangeAt Go.RowKit

theorem infoP : (Try.prog.info? 50).map (fun i => (i.zero, i.size, i.bytes)) = some (some (.agg #[.slice none 0 0, .slice none 0 0]), 2, 48) := by kernel_rfl
/-- Pairs of the statement's own. -/
def ColK (W : World) (B : Nat) (v : Value) (ps : List (List Nat × List Nat)) : Prop := ∃ cs, W.ownsRow B 50 2 v ps.length cs ∧ (∀ c ∈ cs, ∃ a n k, c = Value.slice a n k) ∧
  ∀ (j : Nat) (p : List Nat × List Nat), ps[j]? = some p → ∃ kv vv, cs[j * 2]? = some kv ∧ cs[j * 2 + 1]? = some vv ∧ Rd W kv (bv p.1) ∧ Rd W vv (bv p.2) ∧ By p.1 ∧ By p.2
theorem ColK.nil (W : World) (B : Nat) : ColK W B (.slice none 0 0) [] := ⟨[], World.ownsRow_nil _ _ _ _, fun c h => (by cases h), fun j p h => by simp at h⟩
theorem ColK.step {W W' : World} {B : Nat} {v : Value} {ps : List (List Nat × List Nat)} (h : ColK W B v ps) (hb : ∀ k, v.ownBlock = some k → W'.heap[k]? = W.heap[k]?) (hu : ∀ k, U8 W k → W'.heap[k]? = W.heap[k]?) : ColK W' B v ps := by
  obtain ⟨cs, o, h1, h2⟩ := h
  refine ⟨cs, ownsRow_of_block o hb, h1, fun j p hj => ?_⟩
  obtain ⟨kv, vv, c0, c1, r0, r1, b0, b1⟩ := h2 j p hj
  exact ⟨kv, vv, c0, c1, r0.keep hu, r1.keep hu, b0, b1⟩
theorem ColK.fr {W W' : World} {B : Nat} {v : Value} {ps : List (List Nat × List Nat)} (h : ColK W B v ps) (f : Fr [] W W') : ColK W' B v ps :=
  h.step (fun k hk => by obtain ⟨cs, o, _⟩ := h; exact f.block k (o.lt k hk).2 (by simp)) (fun k hk => f.block k hk.lt (by simp))
/-- Pairs that can be read. -/
def RdK (w : World) (v : Value) (ps : List (List Nat × List Nat)) : Prop :=
  ∃ a c, v = .slice a ps.length c ∧ (0 < ps.length → ∃ b off, a = some ⟨b, off, none⟩ ∧ ∀ (j : Nat) (p : List Nat × List Nat), ps[j]? = some p → ∃ ka kc va vc, w.cell? ⟨b, off + j * 2, none⟩ = some (.slice ka p.1.length kc) ∧ w.cell? ⟨b, off + j * 2 + 1, none⟩ = some (.slice va p.2.length vc) ∧ Rd w (.slice ka p.1.length kc) (bv p.1) ∧ Rd w (.slice va p.2.length vc) (bv p.2) ∧ By p.1 ∧ By p.2)
theorem ColK.rd {w : World} {B : Nat} {v : Value} {ps : List (List Nat × List Nat)} (h : ColK w B v ps) : RdK w v ps := by
  obtain ⟨cs, o, h1, h2⟩ := h
  rcases o.2 with ⟨rfl, h0⟩ | ⟨g, cap, cur, rfl, _, h3, h4, h5⟩
  · have : ps = [] := List.eq_nil_of_length_eq_zero h0
    subst this
    exact ⟨none, 0, rfl, fun h => by simp at h⟩
  · refine ⟨_, cap, rfl, fun _ => ⟨g, 0, rfl, fun j p hj => ?_⟩⟩
    obtain ⟨kv, vv, c0, c1, r0, r1, b0, b1⟩ := h2 j p hj
    have d0 := o.cells rfl _ _ c0
    have d1 := o.cells rfl _ _ c1
    rw [Addr.add_lit] at d0 d1
    obtain ⟨a0, k0, e0⟩ := r0.form
    obtain ⟨a1, k1, e1⟩ := r1.form
    rw [bv_len] at e0 e1
    subst e0
    subst e1
    exact ⟨a0, k0, a1, k1, d0, by rw [show 0 + j * 2 + 1 = 0 + (j * 2 + 1) from by omega]; exact d1, r0, r1, b0, b1⟩

set_option maxRecDepth 20000 in
set_option maxHeartbeats 4000000 in
theorem kvs_c {w : World} {v1 v2 : Value} {ps : List (List Nat × List Nat)} (h1 : RdK w v1 ps) (h2 : RdK w v2 ps) (hl : ps.length ≤ 1000000) :
    Calls Try.prog 27 #[v1, v2] w fun e w' => e = .returned (.bool true) ∧ Fr [] w w' := by
  obtain ⟨a1, c1, rfl, k1⟩ := h1
  obtain ⟨a2, c2, rfl, k2⟩ := h2
  have H1 := hid k1
  have H2 := hid k2
  clear k1 k2
  obtain ⟨n, hn⟩ : ∃ n, n = ps.length := ⟨_, rfl⟩
  have HN := hid hn
  rw [← hn] at hl ⊢
  clear hn
  go_enter Try.func27, Try.ntmps27
  go_wp2_with fail
  go_loopw [5] (fun v5 wr => ∃ k : Nat, k ≤ n ∧ v5 = .int .i64 (k : Int) ∧ Fr [] w wr) (fun v5 _ => n - (intOf v5).toNat)
  case atStart => exact ⟨0, Nat.zero_le _, rfl, Fr.refl _ _⟩
  case round =>
    obtain ⟨k, hk, rfl, hf⟩ := hrel
    have HF := hid hf
    clear hf
    by_cases hlt : k < n
    · obtain ⟨p, hp⟩ : ∃ p, ps[k]? = some p := ⟨_, List.getElem?_eq_getElem (by rw [← HN.out]; exact hlt)⟩
      obtain ⟨b1, o1, rfl, m1⟩ := H1.out (by have := HN.out; omega)
      obtain ⟨b2, o2, rfl, m2⟩ := H2.out (by have := HN.out; omega)
      obtain ⟨ka1, kc1, va1, vc1, x1, x2, x3, x4, _, _⟩ := m1 k p hp
      obtain ⟨ka2, kc2, va2, vc2, y1, y2, y3, y4, _, _⟩ := m2 k p hp
      have hs1 : ((strOf p.1).toList == (strOf p.1).toList) = true := (by simp)
      have hs2 : ((strOf p.2).toList == (strOf p.2).toList) = true := (by simp)
      have z1 := cell_fr HF.out x1
      have z2 := cell_fr HF.out x2
      have z3 := cell_fr HF.out y1
      have z4 := cell_fr HF.out y2
      have g1 := fun m : Nat => run_conv ((x3.fr HF.out).fr ((Fr.refl [] wr).drewN m))
      have g2 := fun m : Nat => run_conv ((x4.fr HF.out).fr ((Fr.refl [] wr).drewN m))
      have g3 := fun m : Nat => run_conv ((y3.fr HF.out).fr ((Fr.refl [] wr).drewN m))
      have g4 := fun m : Nat => run_conv ((y4.fr HF.out).fr ((Fr.refl [] wr).drewN m))
      have hlt' : (k : Int) < (n : Int) := by omega
      clear m1 m2 hp x1 x2 x3 x4 y1 y2 y3 y4
      generalize p.1.length = l1 at *
      generalize p.2.length = l2 at *
      generalize strOf p.1 = s1 at *
      generalize strOf p.2 = s2 at *
      go_upto_region 6 with fail
      go_quiet (fail)
      go_wp2
      go_roundw
      case rel => exact ⟨k + 1, by omega, by go_num, HF.out.drewN _⟩
      case measure => simp [intOf]; omega
    · have hk' : k = n := by omega
      subst hk'
      go_wp2
      go_ret
      exact ⟨rfl, HF.out⟩
end Go.Proofs.Ytldcjkddalmkcaa
