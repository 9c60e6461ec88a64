/-
  Items in memory, and the gate that counts them.
-/
import Derived.Test.YtbbaaegfbbjnjaaDoorDg
import Derived.Deep.Light
namespace Go.Proofs.YtbbaaegfbbjnjaaDoor
open Go.ChangeShapes Go.WideShapes Go.ChangeAt Go.RowKit

/-- A value that is an item, as deep as it is looked at. -/
def IsV (w : World) : (n : Nat) → Value → Tr n → Prop
  | 0, v, _ => ∃ l a1 n1 c1 a2 n2 c2, v = .agg #[.bool l, .slice a1 n1 c1, .slice a2 n2 c2]
  | n + 1, v, t => ∃ bs ka kc, v = .agg #[.bool (tL t), bs, .slice ka (tK t).length kc] ∧ Rd w bs (bv (tB t)) ∧ By (tB t) ∧ (tB t).length ≤ 140737488355328 ∧ (tK t).length ≤ kc ∧ (tK t).length ≤ 140737488355328 ∧
      (0 < (tK t).length → ∃ kb ko, ka = some ⟨kb, ko, none⟩ ∧ ∀ (j : Nat) (k : Tr n), (tK t)[j]? = some k → ∃ l bs' is', w.cell? ⟨kb, ko + j * 3, none⟩ = some (.bool l) ∧ w.cell? ⟨kb, ko + j * 3 + 1, none⟩ = some bs' ∧ w.cell? ⟨kb, ko + j * 3 + 2, none⟩ = some is' ∧ IsV w n (.agg #[.bool l, bs', is']) k)

theorem cell_fr {w w' : World} {a : Addr} {v : Value} (h : w.cell? a = some v) (f : Fr [] w w') : w'.cell? a = some v := by
  rw [World.cell?_of_block (w := w) (f.block _ (World.block_lt_of_cell? w _ h) (by simp))]; exact h
theorem IsV.fr : ∀ {n : Nat} {w w' : World} {v : Value} {t : Tr n}, IsV w n v t → Fr [] w w' → IsV w' n v t
  | 0, _, _, _, _, h, _ => h
  | n + 1, w, w', v, t, h, f => by
    obtain ⟨bs, ka, kc, h1, h2, h3, h4, h5, h5', h6⟩ := h
    refine ⟨bs, ka, kc, h1, h2.fr f, h3, h4, h5, h5', fun h0 => ?_⟩
    obtain ⟨kb, ko, e, h7⟩ := h6 h0
    refine ⟨kb, ko, e, fun j k hj => ?_⟩
    obtain ⟨l, b', i', c1, c2, c3, c4⟩ := h7 j k hj
    exact ⟨l, b', i', cell_fr c1 f, cell_fr c2 f, cell_fr c3 f, c4.fr f⟩
theorem IsV.byT : ∀ {n : Nat} {w : World} {v : Value} {t : Tr n}, IsV w n v t → byT n t
  | 0, _, _, _, _ => trivial
  | n + 1, w, v, t, h => by
    obtain ⟨bs, ka, kc, h1, h2, h3, h4, h5, h5', h6⟩ := h
    refine ⟨h3, fun k hk => ?_⟩
    obtain ⟨j, hj⟩ := List.getElem?_of_mem hk
    have h0 : 0 < (tK t).length := List.length_pos_of_mem hk
    obtain ⟨kb, ko, e, h7⟩ := h6 h0
    obtain ⟨l, b', i', c1, c2, c3, c4⟩ := h7 j k hj
    exact c4.byT
/-- An item in three cells. -/
theorem IsV.agg {n : Nat} {w : World} {v : Value} {t : Tr n} (h : IsV w n v t) : ∃ l a1 n1 c1 a2 n2 c2, v = .agg #[.bool l, .slice a1 n1 c1, .slice a2 n2 c2] := by
  cases n with
  | zero => exact h
  | succ n =>
    obtain ⟨bs, ka, kc, h1, h2, _⟩ := h
    obtain ⟨a, c, rfl⟩ := h2.form
    exact ⟨_, _, _, _, _, _, _, h1⟩
theorem IsV.cells {n : Nat} {w : World} {l : Bool} {bs is : Value} {t : Tr n} (h : IsV w n (.agg #[.bool l, bs, is]) t) : ∃ a1 n1 c1 a2 n2 c2, bs = .slice a1 n1 c1 ∧ is = .slice a2 n2 c2 := by
  obtain ⟨l', a1, n1, c1, a2, n2, c2, e⟩ := h.agg
  simp only [Value.agg.injEq, Array.mk.injEq, List.cons.injEq] at e
  exact ⟨a1, n1, c1, a2, n2, c2, e.2.1, e.2.2.1⟩

set_option maxRecDepth 20000 in
theorem gate_no (w : World) {g d c : Nat} (hg : w.heap[g]? = some (.cells #[.int .i64 (c : Int)] 3 (0, 0))) (h : 16 < d ∨ c = 4096) (hd : d ≤ 100000) :
    Calls Tryd.prog 45 #[.int .i64 (d : Int), .pointer (some ⟨g, 0, none⟩)] w fun e w' => e = .returned (.int .i64 43) ∧ w' = w := by
  have hc := blk_cell hg 0
  simp at hc
  by_cases h1 : 16 < d
  · go_enter Tryd.func45, Tryd.ntmps45
    go_wp2
    go_ret
    exact ⟨rfl, rfl⟩
  · have h2 : c = 4096 := by omega
    subst h2
    go_enter Tryd.func45, Tryd.ntmps45
    go_wp2
    go_ret
    exact ⟨rfl, rfl⟩
set_option maxRecDepth 20000 in
theorem gate_yes (w : World) {g d c : Nat} (hg : w.heap[g]? = some (.cells #[.int .i64 (c : Int)] 3 (0, 0))) (h : d ≤ 16) (hc : c < 4096) :
    Calls Tryd.prog 45 #[.int .i64 (d : Int), .pointer (some ⟨g, 0, none⟩)] w fun e w' => e = .returned (.int .i64 0) ∧ w'.heap[g]? = some (.cells #[.int .i64 ((c + 1 : Nat) : Int)] 3 (0, 0)) ∧ Fr [g] w w' := by
  have hc1 := blk_cell hg 0
  have hf1 := blk_frozen hg 0
  simp at hc1
  have hz : ((c : Int) == 4096) = false := beq_eq_false_iff_ne.2 (by omega)
  have H : Hid ((w.setCell ⟨g, 0, none⟩ (.int .i64 ((c : Int) + 1))).heap[g]? = some (.cells #[.int .i64 ((c + 1 : Nat) : Int)] 3 (0, 0))) := by
    unfold Hid; rw [blk_set hg]; simp
  go_enter Tryd.func45, Tryd.ntmps45
  go_wp2
  go_ret
  exact ⟨rfl, H.out, (Fr.refl _ _).set _ _ (.inl (by simp))⟩
end Go.Proofs.YtbbaaegfbbjnjaaDoor
