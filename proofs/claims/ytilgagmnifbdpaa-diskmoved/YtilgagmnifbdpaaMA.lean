/-
  A disk of one name that is renamed again and again: DiskMoved's parts.
-/
import Derived.Test.YtilgagmnifbdpaaU
import Derived.Test.YtilgagmnifbdpaaZ
import Derived.Test.YtilgagmnifbdpaaQ
namespace Go.Proofs.Ytilgagmnifbdpaa
open Go.ChangeShapes Go.WideShapes Go.ChangeAt Go.RowKit

/-- The letters' names. -/
def nm (i : Nat) : ByteArray := ⟨#[UInt8.ofNat (97 + i)]⟩
theorem nm_self (i : Nat) : (nm i == nm i) = true := ba_beq _
theorem nm_ne : ∀ i : Fin 21, (nm (i.val + 1) == nm i.val) = false := by decide
theorem nm_nl : ∀ i : Fin 21, ((nm i.val).toList == (nm (i.val + 1)).toList) = false := by decide +kernel
theorem nm_is : ∀ i : Fin 22, isNm (nm i.val) = true := by decide
theorem nm_size (i : Nat) : (nm i).size ≤ maxLen := by unfold maxLen; show 1 ≤ _; omega

def MI (w0 w : World) (b m0 m1 fb : Nat) (cnt : Int) (k : Nat) : Prop :=
  ∃ pv ps, DB w b 100 m0 m1 pv 0 1 cnt 0 (-1) false ∧ w.heap[m0]? = some (.map #[⟨.string (nm k), .pointer (some ⟨fb, 0, none⟩), k⟩] (k + 1)) ∧ w.heap[m1]? = some (.map #[⟨.string (nm 0), .pointer (some ⟨fb, 0, none⟩), 0⟩] 1) ∧ FB w fb 0 (.slice none 0 0) (.slice none 0 0) (.slice none 0 0) ∧
    w.ownsRow 0 76 1 pv (ps : List Value).length ps ∧ ps.length = k ∧ (∀ i (hi : i < ps.length), ps[i] = rn b (nm i) (nm (i + 1))) ∧ Fr [] w0 w ∧ w0.heap.size ≤ b ∧ w0.heap.size ≤ m0 ∧ w0.heap.size ≤ m1 ∧ w0.heap.size ≤ fb ∧ m0 ≠ m1 ∧ (∀ j, pv.ownBlock = some j → w0.heap.size ≤ j)

theorem mi_step {w0 w : World} {b m0 m1 fb : Nat} {cnt : Int} {k : Nat} (h : MI w0 w b m0 m1 fb cnt k) (hk : k < 20) (h0 : 0 ≤ cnt) (h1 : cnt < 1000) :
    Calls Try.prog 8 #[.pointer (some ⟨b, 0, none⟩), .string (nm k), .string (nm (k + 1))] w fun e w' => e = .returned (.int .i64 0) ∧ MI w0 w' b m0 m1 fb (cnt + 1) (k + 1) := by
  obtain ⟨pv, ps, a1, a2, a3, a4, a5, a6, a7, a8, a9, a10, a11, a12, a13, a14⟩ := h
  refine (rename_c a1 h0 (by omega) a2 (nm_self k) (nm_ne ⟨k, by omega⟩) (nm_nl ⟨k, by omega⟩) (nm_is ⟨k, by omega⟩) (nm_size _) (nm_is ⟨k + 1, by omega⟩) (nm_size _) a5 (by omega)).mono ?_
  rintro e w' ⟨rfl, pv', c1, c2, c3, c4, c5⟩
  have hs := a8.size
  have kk : ∀ j, j ≠ m0 → j ≠ b → pv.ownBlock ≠ some j → j ∉ m0 :: b :: pv.ownBlock.toList := fun j h1 h2 h3 e => by
    simp only [List.mem_cons, Option.mem_toList] at e
    rcases e with e | e | e
    · exact h1 e
    · exact h2 e
    · exact h3 e
  refine ⟨rfl, pv', _, c1, c3, c4.at a3 (kk m1 (Ne.symm a13) (notin_types a3 a1 (by simp)) (ownsRow_nemap a5 a3)), c4.at a4 (kk fb ?_ (notin_types a4 a1 (by simp)) (ownsRow_ne a5 a4 (by decide))), c2, by simp [a6], fun i hi => ?_, a8.trans' c4 fun x hx hlt => ?_, a9, a10, a11, a12, a13, fun j hj => ?_⟩
  · intro e; subst e; unfold FB at a4; rw [a2] at a4; cases a4
  · rw [List.getElem_append]
    split
    · exact a7 i _
    · have : i = k := by simp at hi; omega
      subst this; simp [a6]
  · simp only [List.mem_cons, Option.mem_toList] at hx
    rcases hx with e | e | e
    · omega
    · omega
    · have := a14 x e; omega
  · rcases c5 with h | ⟨q, h, h2⟩
    · exact a14 j (h ▸ hj)
    · rw [h] at hj; cases hj; omega

set_option maxHeartbeats 400000 in
theorem spend_nil (w : World) : Calls Try.prog 20 #[.slice none 0 0, .int .i64 0] w fun e w' => e = .returned (.int .i64 (max 0 0)) ∧ w' = w := by
  go_enter Try.func20, Try.ntmps20
  go_wp2
  go_ret
  exact ⟨rfl, rfl⟩

theorem mi_restart {w0 w : World} {b m0 m1 fb : Nat} {cnt : Int} {k : Nat} (h : MI w0 w b m0 m1 fb cnt k) (hk : k < 20) (n : Int) (hn1 : n ≤ 9223372036854775807) :
    Calls Try.prog 9 #[.pointer (some ⟨b, 0, none⟩), .agg #[.int .i64 n, .slice none 0 0]] w fun e w' => e = .returned (.tuple #[]) ∧ ∃ m0', DB w' b 100 m0' m1 (.slice none 0 0) 0 1 cnt 0 (-1) false ∧
      w'.heap[m0']? = some (.map #[⟨.string (nm (min (max n 0).toNat k)), .pointer (some ⟨fb, 0, none⟩), min (max n 0).toNat k⟩] (min (max n 0).toNat k + 1)) ∧ Fr [] w0 w' := by
  obtain ⟨pv, ps, a1, a2, a3, a4, a5, a6, a7, a8, a9, a10, a11, a12, a13, a14⟩ := h
  refine (Gen.restart_gen a1 a3 (s := nm (min (max n 0).toNat k)) (bn := min (max n 0).toNat k) (ck := min (max n 0).toNat k + 1) (by omega) a4 (sure := []) (ps := []) (xs := []) (World.ownsRow_nil _ _ _ _) (World.ownsRow_nil _ _ _ _) trivial (by simp) (by simp) (by intro u hu; simp at hu) n none 0 0 0 (by omega) (fun W hW => ?_) (fun W _ => spend_nil W)).mono ?_
  · have := settle_moves (hW.at a1 (by simp)) nm nm_self (ps := ps) (fun i hi => nm_ne ⟨i, by omega⟩) (hW.at a3 (by simp)) (ownsRow_of_block a5 fun k hk => hW.block k (a5.lt k hk).2 (by simp)) a7 (by omega) (max n 0) (by omega) (by omega)
    rw [a6] at this
    exact this
  · rintro e w' ⟨rfl, m0', sv', uv', c1, c2, _, _, _, c6⟩
    refine ⟨rfl, m0', c1, c2, a8.trans' c6 fun x hx hlt => ?_⟩
    simp only [Value.ownBlock, Option.toList_none, List.mem_cons, List.not_mem_nil, or_false] at hx
    omega
end Go.Proofs.Ytilgagmnifbdpaa
