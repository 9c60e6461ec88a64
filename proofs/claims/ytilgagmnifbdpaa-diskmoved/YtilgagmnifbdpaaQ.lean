/-
  What Sync answers, and the statements' own comparison of bytes; pending writes whose bytes lie apart from some blocks.
-/
import Derived.Test.YtilgagmnifbdpaaM
namespace Go.Proofs.Ytilgagmnifbdpaa
open Go.ChangeShapes Go.WideShapes Go.ChangeAt Go.RowKit

theorem Rd.fr {w w' : World} {v : Value} {xs : List Value} (h : Rd w v xs) (hf : Fr [] w w') : Rd w' v xs := by
  rcases h with h | ⟨a, c, rfl, h4, h5⟩
  · exact .inl h
  · refine .inr ⟨a, c, rfl, h4, fun j u hj => ?_⟩
    have h6 := h5 j u hj
    rw [World.cell?_of_block (w := w) (hf.block _ (World.block_lt_of_cell? w _ h6) (by simp))]; exact h6
theorem add_block (a : Addr) (j : Nat) : (a.add j).block = a.block := by unfold Addr.add; split <;> rfl
theorem Rd.lt {w : World} {a : Addr} {n c : Nat} {xs : List Value} (h : Rd w (.slice (some a) n c) xs) (hx : 0 < xs.length) : a.block < w.heap.size := by
  rcases h with ⟨h, _⟩ | ⟨a', c', h, _, h5⟩
  · cases h
  · cases h
    have := World.block_lt_of_cell? w _ (h5 0 xs[0] (by simp [hx]))
    rwa [add_block] at this
theorem Rd.form {w : World} {v : Value} {xs : List Value} (h : Rd w v xs) : ∃ a c, v = .slice a xs.length c := by
  rcases h with ⟨rfl, rfl⟩ | ⟨a, c, rfl, _, _⟩
  · exact ⟨_, _, rfl⟩
  · exact ⟨_, _, rfl⟩

/-- The text of a row of bytes. -/
def strOf (xs : List Value) : ByteArray := xs.foldl (fun r v => r.push (UInt8.ofNat (intOf v).toNat)) ByteArray.empty

theorem bts_ints {xs : List Value} (h : Bts xs) : ∃ ns : List Int, xs = ns.map (Value.int .u8) := by
  induction xs with
  | nil => exact ⟨[], rfl⟩
  | cons x r ih =>
    obtain ⟨n, rfl⟩ := h x (by simp)
    obtain ⟨ns, hns⟩ := ih (fun u hu => h u (by simp [hu]))
    exact ⟨n :: ns, by rw [hns]; rfl⟩

theorem run_conv {w : World} {v : Value} {xs : List Value} (h : Rd w v xs) (hb : Bts xs) : (convert 39 9 v).run Try.prog w = .ok (.string (strOf xs)) w := by
  rcases h with ⟨rfl, rfl⟩ | ⟨a, c, rfl, _, h5⟩
  · rw [run_convert_bytes_string w 39 9 5 _ _ _ Try.underlying39 Try.underlying5 Try.underlying9]; rfl
  · obtain ⟨ns, rfl⟩ := bts_ints hb
    rw [run_convert_bytes_string w 39 9 5 _ _ _ Try.underlying39 Try.underlying5 Try.underlying9, run_bytesToString w a _ c ns (run_loadCells_list (P := Try.prog) w a _ h5)]
    simp [strOf, List.foldl_map, intOf]

theorem ba_beq (s : ByteArray) : (s == s) = true := by
  show ByteArray.beq s s = true
  simp [ByteArray.beq]

/-- Pending writes of a file, whose bytes lie in rows of their own, none of them in a block of V. -/
def PX (w : World) (V : Nat → Prop) (fb : Nat) : Nat → List Value → List (List Value) → Prop
  | _, [], [] => True
  | n, p :: ps, x :: xs => (∃ bv, p = wrt fb n bv ∧ w.ownsRow 0 5 1 bv x.length x ∧ ∀ k, bv.ownBlock = some k → ¬ V k) ∧ 0 < x.length ∧ Bts x ∧ PX w V fb (n + x.length) ps xs
  | _, _, _ => False

theorem PX.pw {w : World} {V : Nat → Prop} {U : Option Nat} {fb : Nat} (hU : ∀ k, U = some k → V k) : ∀ {n : Nat} {ps : List Value} {xs : List (List Value)}, PX w V fb n ps xs → PW w U fb n ps xs
  | _, [], [], _ => trivial
  | _, [], _ :: _, h => h.elim
  | _, _ :: _, [], h => h.elim
  | n, p :: ps, x :: xs, h => by
    obtain ⟨⟨bv, h1, h2, h3⟩, h4, h5, h6⟩ := h
    exact ⟨⟨bv, h1, h2, fun k hk e => h3 k hk (hU k e)⟩, h4, h5, PX.pw hU h6⟩

theorem PX.keep {w w' : World} {V V' : Nat → Prop} {fb : Nat} {S : List Nat} (hf : Fr S w w') (hS : ∀ k ∈ S, V k ∨ ∀ v n x, w.ownsRow 0 5 1 v n x → v.ownBlock ≠ some k) (hV : ∀ k, k < w.heap.size → V' k → V k) :
    ∀ {n : Nat} {ps : List Value} {xs : List (List Value)}, PX w V fb n ps xs → PX w' V' fb n ps xs
  | _, [], [], _ => trivial
  | _, [], _ :: _, h => h.elim
  | _, _ :: _, [], h => h.elim
  | n, p :: ps, x :: xs, h => by
    obtain ⟨⟨bv, h1, h2, h3⟩, h4, h5, h6⟩ := h
    refine ⟨⟨bv, h1, ownsRow_of_block h2 fun k hk => hf.block k (h2.lt k hk).2 (fun e => ?_), fun k hk e => h3 k hk (hV k (h2.lt k hk).2 e)⟩, h4, h5, PX.keep hf hS hV h6⟩
    rcases hS k e with h | h
    · exact h3 k hk h
    · exact h _ _ _ h2 hk

theorem PX.snoc {w : World} {V : Nat → Prop} {fb : Nat} {bv : Value} {x : List Value} (hb : w.ownsRow 0 5 1 bv x.length x) (hk : ∀ k, bv.ownBlock = some k → ¬ V k) (hx : 0 < x.length) (hx2 : Bts x) :
    ∀ {n : Nat} {ps : List Value} {xs : List (List Value)}, PX w V fb n ps xs → PX w V fb n (ps ++ [wrt fb (n + xs.flatten.length : Nat) bv]) (xs ++ [x])
  | n, [], [], _ => ⟨⟨bv, by simp, hb, hk⟩, hx, hx2, trivial⟩
  | _, [], _ :: _, h => h.elim
  | _, _ :: _, [], h => h.elim
  | n, p :: ps, y :: xs, h => by
    refine ⟨h.1, h.2.1, h.2.2.1, ?_⟩
    have := PX.snoc hb hk hx hx2 h.2.2.2
    rw [show n + y.length + xs.flatten.length = n + (y :: xs).flatten.length from by simp [Nat.add_assoc]] at this
    exact this
end Go.Proofs.Ytilgagmnifbdpaa
