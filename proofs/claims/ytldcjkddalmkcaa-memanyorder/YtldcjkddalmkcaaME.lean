/-
  What New and nextHeight of package mem answer.
-/
import Derived.Test.YtldcjkddalmkcaaMD
namespace Go.Proofs.Ytldcjkddalmkcaa
open Go.ChangeShapes Go.WideShapes Go.ChangeAt Go.RowKit

/-- Ints that can be read. -/
def Ints (w : World) (na : Option Addr) (ln : Nat) (Y : Nat → Int) : Prop :=
  0 < ln → ∃ nb no, na = some ⟨nb, no, none⟩ ∧ ∀ r, r < ln → w.cell? ⟨nb, no + r, none⟩ = some (.int .i64 (Y r))
theorem Ints.fr {w w' : World} {na : Option Addr} {ln : Nat} {Y : Nat → Int} (h : Ints w na ln Y) (f : Fr [] w w') : Ints w' na ln Y := fun h0 => by
  obtain ⟨nb, no, h1, h2⟩ := h h0
  refine ⟨nb, no, h1, fun r hr => ?_⟩
  have h6 := h2 r hr
  rw [World.cell?_of_block (w := w) (f.block _ (World.block_lt_of_cell? w _ h6) (by simp))]; exact h6
/-- Heights as values. -/
def iv (H : List Nat) : List Value := H.map fun n : Nat => Value.int .i64 (n : Int)
theorem iv_len (H : List Nat) : (iv H).length = H.length := List.length_map _
/-- The nearest number from 1 to 12. -/
def clp (x : Int) : Nat := (min (max x 1) 12).toNat
theorem clp_le (x : Int) : 1 ≤ clp x ∧ clp x ≤ 12 := by unfold clp; omega
/-- The heights of a table. -/
def hts (Y : Nat → Int) (n : Nat) : List Nat := (List.range n).map fun i => clp (Y i)
theorem hts_len (Y : Nat → Int) (n : Nat) : (hts Y n).length = n := by simp [hts]
theorem hts_succ (Y : Nat → Int) (n : Nat) : hts Y (n + 1) = hts Y n ++ [clp (Y n)] := by simp [hts, List.range_succ]
theorem hts_in (Y : Nat → Int) (n : Nat) : ∀ h ∈ hts Y n, 1 ≤ h ∧ h ≤ 12 := fun h hh => by
  unfold hts at hh
  obtain ⟨i, _, rfl⟩ := List.mem_map.1 hh
  exact clp_le _

theorem infoI : (Try.prog.info? 3).map (fun i => (i.zero, i.size, i.bytes)) = some (some (.int .i64 0), 1, 8) := by kernel_rfl
/-- append(own, x) for an int. -/
theorem wpList_append_int {w : World} {ops : Array Oper} {rest : List Oper} {o : Oper} {a : Act} {Q : Exit → Act → World → Prop} (hgd : o.guard = none) (s x : Operand)
    (ho : o.op = .call { callee := .builtin .append, args := #[s, x], argTypes := #[22, 22] }) (base : Nat) (hbase : base ≤ w.heap.size) (v : Value) (n : Nat) (xs : List Value) (hs : a.eval s = v) (hown : w.ownsRow base 3 1 v n xs) (G : Nat) (hx : a.eval x = .slice (some ⟨G, 0, none⟩) 1 1) {u : Value} {T : TypeId} (hG : w.heap[G]? = some (.cells #[u] T (0, 0)))
    (hu : u.oneCell' = true) (hl : n ≤ 100000000000)
    (h : ∀ v' w', w'.ownsRow base 3 1 v' (n + 1) (xs ++ [u]) → w.grownBy w' v.ownBlock → (v'.ownBlock = v.ownBlock ∨ v'.ownBlock = some w.heap.size) → wpList Try.prog ops Q rest (a.put o.dst v') w') :
    wpList Try.prog ops Q (o :: rest) a w := by
  obtain ⟨i0, hi, hz0, hz1, hz2⟩ := info_parts infoI
  refine wpList_append_own_at w hgd s x 22 ho base 3 i0 _ 1 8 Try.underlying22 hi hz0 hz1 hz2 rfl (by decide) v n xs hs hown ⟨G, 0, none⟩ 1 1 [u] hx rfl ?_ ?_ (by unfold maxLen; omega) (by omega) hbase fun v' w' h1 h2 _ h3 => h v' w' h1 h2 h3
  · intro j u' hj
    rw [Addr.add_lit, Nat.zero_add, blk_cell hG, ← Array.getElem?_toList]
    exact hj
  · intro u' hu'
    simp at hu'
    subst hu'; exact hu

/-- A table without entries whose heights are being gathered. -/
structure NewSt (w wr : World) (H : List Nat) : Prop where
  st : ∃ hv, wr.heap[w.heap.size]? = some (.cells (tCs hv [] 0 0).toArray 72 (0, 0)) ∧ wr.ownsRow (w.heap.size + 1) 3 1 hv H.length (iv H)
  fr : Fr [] w wr

theorem NewSt.keep {w wr w5 : World} {hv : Value} {H : List Nat} (h1 : wr.heap[w.heap.size]? = some (.cells (tCs hv [] 0 0).toArray 72 (0, 0))) (h2 : wr.ownsRow (w.heap.size + 1) 3 1 hv H.length (iv H)) {X : Obj} (g5 : (wr.alloc X).grownBy w5 hv.ownBlock) : w5.heap[w.heap.size]? = some (.cells (tCs hv [] 0 0).toArray 72 (0, 0)) := by
  have hlt := blk_lt h1
  rw [g5.block _ (by simp; omega) (fun e => by have := (h2.lt _ e.symm).1; omega), blk_old _ _ hlt]; exact h1
theorem NewSt.grow {w wr w5 : World} {hv v5 u : Value} {H : List Nat} {m : Nat} (h1 : wr.heap[w.heap.size]? = some (.cells (tCs hv [] 0 0).toArray 72 (0, 0))) (h2 : wr.ownsRow (w.heap.size + 1) 3 1 hv H.length (iv H)) (hf : Fr [] w wr) {X : Obj}
    (o5 : w5.ownsRow (w.heap.size + 1) 3 1 v5 (H.length + 1) (iv H ++ [u])) (g5 : (wr.alloc X).grownBy w5 hv.ownBlock) (hu : u = .int .i64 (m : Int)) : NewSt w (w5.setCell ⟨w.heap.size, 0, none⟩ v5) (H ++ [m]) := by
  have h5 := NewSt.keep h1 h2 g5
  have hf5 : Fr [] w w5 := (hf.alloc X).grown g5 fun k hk => .inr (by have := (h2.lt k hk).1; omega)
  refine ⟨⟨v5, ?_, ?_⟩, hf5.set _ _ (.inr (Nat.le_refl _))⟩
  · rw [lst_set h5]; rfl
  · rw [List.length_append, show iv (H ++ [m]) = iv H ++ [u] from by rw [hu]; simp [iv]]
    exact ownsRow_of_block o5 fun k hk => blk_setne _ _ _ fun e => by have := (o5.lt k hk).1; omega

set_option maxRecDepth 20000 in
set_option maxHeartbeats 1600000 in
theorem new_c (w : World) {a : Option Addr} {n c : Nat} {Y : Nat → Int} (hI : Ints w a n Y) (hn : n ≤ 100000) :
    Calls Try.prog 9 #[.slice a n c] w fun e w' => e = .returned (.pointer (some ⟨w.heap.size, 0, none⟩)) ∧ NewSt w w' (hts Y n) := by
  have HI := hid hI
  clear hI
  have A0 : Hid (NewSt w (w.alloc (.cells #[.slice none 0 0, .slice none 0 0, .slice none 0 0, .int .i64 0, .slice none 0 0, .pointer none, .pointer none, .pointer none, .pointer none, .pointer none, .pointer none, .pointer none, .pointer none, .pointer none, .pointer none, .pointer none, .pointer none, .int .i64 0, .int .i64 0] 72)) []) :=
    ⟨⟨.slice none 0 0, blk_new _ _, World.ownsRow_nil _ _ _ _⟩, (Fr.refl _ _).alloc _⟩
  go_enter Try.func9, Try.ntmps9
  go_wp2_with fail
  go_loopw [10] (fun v10 wr => ∃ k : Nat, k ≤ n ∧ v10 = .int .i64 (k : Int) ∧ NewSt w wr (hts Y k)) (fun v10 _ => n - (intOf v10).toNat)
  case atStart => exact ⟨0, Nat.zero_le _, rfl, A0.out⟩
  case round =>
    obtain ⟨k, hk, rfl, S⟩ := hrel
    obtain ⟨hv, h1, h2⟩ := S.st
    by_cases hlt : k < n
    · obtain ⟨nb, no, rfl, hc⟩ := HI.out (by omega)
      have hck : wr.cell? ⟨nb, no + k, none⟩ = some (.int .i64 (Y k)) := by
        have h6 := hc k hlt
        rw [World.cell?_of_block (w := w) (S.fr.block _ (World.block_lt_of_cell? w _ h6) (by simp))]; exact h6
      have h0 := lst_cell h1 0
      have hz := blk_frozen h1 0
      replace h0 : wr.cell? ⟨w.heap.size, 0, none⟩ = some hv := h0
      have hsz : w.heap.size < wr.heap.size := blk_lt h1
      obtain ⟨ao, cap, rfl, _⟩ := ownsRow_slice h2
      have HF := hid S.fr
      have H1 := hid h1
      have H2 := hid h2
      have hhl : (hts Y k).length ≤ 100000 := by rw [hts_len]; omega
      obtain ⟨L, hL⟩ : ∃ L, L = (hts Y k).length := ⟨_, rfl⟩
      have HG := hid fun (w5 : World) (v5 u : Value) (m : Nat) (X : Obj) (o5 : w5.ownsRow (w.heap.size + 1) 3 1 v5 ((hts Y k).length + 1) (iv (hts Y k) ++ [u])) (g5 : (wr.alloc X).grownBy w5 (Value.slice ao (hts Y k).length cap).ownBlock) (hu : u = .int .i64 (m : Int)) => NewSt.grow H1.out H2.out HF.out o5 g5 hu
      have HKp := hid fun (w5 : World) (X : Obj) (g5 : (wr.alloc X).grownBy w5 (Value.slice ao (hts Y k).length cap).ownBlock) => NewSt.keep H1.out H2.out g5
      have O2 := hid fun (X : Obj) => ownsRow_fr H2.out ((Fr.refl [] wr).alloc X)
      rw [← hL] at HG HKp O2 h0 hhl
      have HS1 := hid (hts_succ Y k)
      clear S h1 h2 hc hL H1 H2
      obtain ⟨x, hx⟩ : ∃ x, x = Y k := ⟨_, rfl⟩
      rw [← hx] at hck HS1
      rcases (show x < 1 ∨ (1 ≤ x ∧ x ≤ 12) ∨ 12 < x from by omega) with q | ⟨q, q'⟩ | q
      · have HX : Hid (Value.int .i64 1 = .int .i64 (clp x : Int)) := by unfold Hid clp; congr 1; omega
        clear hx
        go_wp2_with (at_builtin; refine wpList_append_int rfl _ _ rfl (w.heap.size + 1) (by simp; omega) _ _ _ rfl (O2.out _) _ rfl (blk_new _ _) rfl (by omega) ?_; intro v5 w5 o5 g5 q5; have h5 := HKp.out _ _ g5; have y0 := blk_cell h5 0; have yz := blk_frozen h5 0; replace y0 : w5.cell? ⟨w.heap.size, 0, none⟩ = some (.slice ao L cap) := y0; have HN := hid (HG.out _ _ _ _ _ o5 g5 HX.out); obtain ⟨a5, c5, rfl, _⟩ := ownsRow_slice o5; clear o5 g5 q5 h5)
        go_roundw
        case rel => exact ⟨k + 1, by omega, by go_num, by rw [HS1.out]; exact HN.out⟩
        case measure => simp [intOf]; omega
      · have HX : Hid (Value.int .i64 x = .int .i64 (clp x : Int)) := by unfold Hid clp; congr 1; omega
        clear hx
        go_wp2_with (at_builtin; refine wpList_append_int rfl _ _ rfl (w.heap.size + 1) (by simp; omega) _ _ _ rfl (O2.out _) _ rfl (blk_new _ _) rfl (by omega) ?_; intro v5 w5 o5 g5 q5; have h5 := HKp.out _ _ g5; have y0 := blk_cell h5 0; have yz := blk_frozen h5 0; replace y0 : w5.cell? ⟨w.heap.size, 0, none⟩ = some (.slice ao L cap) := y0; have HN := hid (HG.out _ _ _ _ _ o5 g5 HX.out); obtain ⟨a5, c5, rfl, _⟩ := ownsRow_slice o5; clear o5 g5 q5 h5)
        go_roundw
        case rel => exact ⟨k + 1, by omega, by go_num, by rw [HS1.out]; exact HN.out⟩
        case measure => simp [intOf]; omega
      · have HX : Hid (Value.int .i64 12 = .int .i64 (clp x : Int)) := by unfold Hid clp; congr 1; omega
        clear hx
        go_wp2_with (at_builtin; refine wpList_append_int rfl _ _ rfl (w.heap.size + 1) (by simp; omega) _ _ _ rfl (O2.out _) _ rfl (blk_new _ _) rfl (by omega) ?_; intro v5 w5 o5 g5 q5; have h5 := HKp.out _ _ g5; have y0 := blk_cell h5 0; have yz := blk_frozen h5 0; replace y0 : w5.cell? ⟨w.heap.size, 0, none⟩ = some (.slice ao L cap) := y0; have HN := hid (HG.out _ _ _ _ _ o5 g5 HX.out); obtain ⟨a5, c5, rfl, _⟩ := ownsRow_slice o5; clear o5 g5 q5 h5)
        go_roundw
        case rel => exact ⟨k + 1, by omega, by go_num, by rw [HS1.out]; exact HN.out⟩
        case measure => simp [intOf]; omega
    · have : k = n := by omega
      subst this
      have HS := hid S
      clear S h1 h2
      go_wp2
      go_ret
      exact ⟨rfl, HS.out⟩
end Go.Proofs.Ytldcjkddalmkcaa
