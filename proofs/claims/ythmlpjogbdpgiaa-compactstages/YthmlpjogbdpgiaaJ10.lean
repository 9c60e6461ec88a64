/-
  Parts of slices of bytes that can be read.
-/
import Derived.Test.YthmlpjogbdpgiaaJ05
import Derived.Test.YthmlpjogbdpgiaaJ03
import Derived.Test.YthmlpjogbdpgiaaJ04
import Derived.Lib.SlBytesConst
import Derived.Test.YthmlpjogbdpgiaaJ07
import Derived.Deep.Cut
import Derived.Deep.RegionHeld
import Derived.Deep.Light
import Derived.Laws.ResultCell
import Derived.Deep.WholeRow
namespace Go.Proofs.Ythmlpjogbdpgiaa
open Go.ChangeShapes Go.WideShapes Go.ChangeAt Go.RowKit

theorem Rd.mid {w : World} {b off c : Nat} {ns : List Nat} (h : Rd w (.slice (some ⟨b, off, none⟩) ns.length c) (bv ns)) {i n : Nat} (hq : i + n ≤ ns.length) : Rd w (.slice (some ⟨b, off + i, none⟩) n (c - i)) (bv ((ns.drop i).take n)) := by
  rcases h with ⟨h, _⟩ | ⟨a, c', h, h4, h5⟩
  · cases h
  · simp only [Value.slice.injEq, Option.some.injEq] at h
    obtain ⟨rfl, _, rfl⟩ := h
    have hl : ((ns.drop i).take n).length = n := by rw [List.length_take, List.length_drop]; omega
    refine .inr ⟨_, _, by rw [bv_len, hl], by rw [bv_len] at h4 ⊢; rw [hl]; omega, fun j u hj => ?_⟩
    rw [bv_take, List.getElem?_take] at hj
    split at hj
    · rw [bv_drop, List.getElem?_drop] at hj
      have := h5 _ _ hj
      rw [Addr.add_lit] at this ⊢
      rw [Nat.add_assoc]; exact this
    · cases hj
theorem Rd.none_ {w : World} {a : Addr} {n c : Nat} {ns : List Nat} (h : ns.length = 0) (hn : n = 0) : Rd w (.slice (some a) n c) (bv ns) := by
  have : ns = [] := List.eq_nil_of_length_eq_zero h
  subst this
  subst hn
  exact .inr ⟨a, c, rfl, Nat.zero_le _, fun j u hj => by simp [bv] at hj⟩
end Go.Proofs.Ythmlpjogbdpgiaa
namespace Go.Proofs.Ythmlpjogbdpgiaa
open Go.ChangeShapes Go.WideShapes Go.ChangeAt Go.RowKit

theorem infoR : (Try.prog.info? 35).map (fun i => (i.zero, i.size, i.bytes)) = some (some (.slice none 0 0), 1, 24) := by kernel_rfl

/-- A list of lists of bytes that can be read. -/
def RdL (w : World) (v : Value) (rs : List (List Nat)) : Prop :=
  ∃ a c, v = .slice a rs.length c ∧ (0 < rs.length → ∃ b off, a = some ⟨b, off, none⟩ ∧ ∀ (j : Nat) (r : List Nat), rs[j]? = some r → ∃ a' c', w.cell? ⟨b, off + j, none⟩ = some (.slice a' r.length c') ∧ Rd w (.slice a' r.length c') (bv r) ∧ By r ∧ r.length ≤ 140737488355328)
theorem RdL.fr {w w' : World} {v : Value} {rs : List (List Nat)} (h : RdL w v rs) (f : Fr [] w w') : RdL w' v rs := by
  obtain ⟨a, c, h1, h2⟩ := h
  refine ⟨a, c, h1, fun h0 => ?_⟩
  obtain ⟨b, off, h3, h4⟩ := h2 h0
  refine ⟨b, off, h3, fun j r hj => ?_⟩
  obtain ⟨a', c', k1, k2, k3⟩ := h4 j r hj
  refine ⟨a', c', ?_, k2.fr f, k3⟩
  rw [World.cell?_of_block (w := w) (f.block _ (World.block_lt_of_cell? w _ k1) (by simp))]; exact k1
theorem RdL.by {w : World} {v : Value} {rs : List (List Nat)} (h : RdL w v rs) : ∀ r ∈ rs, By r := fun r hr => by
  obtain ⟨a, c, h1, h2⟩ := h
  obtain ⟨b, off, h3, h4⟩ := h2 (List.length_pos_of_mem hr)
  obtain ⟨j, hj⟩ := List.getElem?_of_mem hr
  obtain ⟨a', c', k1, k2, k3, _⟩ := h4 j r hj
  exact k3
theorem RdL.front {w : World} {a : Option Addr} {n c : Nat} {rs : List (List Nat)} (h : RdL w (.slice a n c) rs) {k : Nat} (hk : k ≤ rs.length) : RdL w (.slice a k c) (rs.take k) := by
  obtain ⟨a', c', h1, h2⟩ := h
  simp only [Value.slice.injEq] at h1
  obtain ⟨rfl, rfl, rfl⟩ := h1
  refine ⟨a, c, by rw [List.length_take, Nat.min_eq_left hk], fun h0 => ?_⟩
  rw [List.length_take] at h0
  obtain ⟨b, off, h3, h4⟩ := h2 (by omega)
  refine ⟨b, off, h3, fun j r hj => h4 j r ?_⟩
  rw [List.getElem?_take] at hj
  split at hj
  · exact hj
  · cases hj

/-- The elements of a list of the call's own: each can be read, and lies in a block of its own from B on. -/
def Lst (w : World) (B : Nat) (qs : List (Option Nat)) (rs : List (List Nat)) (cs : List Value) : Prop :=
  cs.length = rs.length ∧ ∀ (j : Nat) (r : List Nat), rs[j]? = some r → ∃ u, cs[j]? = some u ∧ Rd w u (bv r) ∧ By r ∧ r.length ≤ 140737488355328 ∧ ∀ k, u.ownBlock = some k → B ≤ k ∧ k < w.heap.size ∧ ∀ q ∈ qs, q ≠ some k
theorem Lst.nil (w : World) (B : Nat) (qs : List (Option Nat)) : Lst w B qs [] [] := ⟨rfl, fun j r h => by simp at h⟩
theorem Rd.step {w w' : World} {v : Value} {xs : List Value} (h : Rd w v xs) (hb : ∀ k, v.ownBlock = some k → w'.heap[k]? = w.heap[k]?) : Rd w' v xs := by
  rcases h with h | ⟨a, c, rfl, h4, h5⟩
  · exact .inl h
  · refine .inr ⟨a, c, rfl, h4, fun j u hj => ?_⟩
    rw [World.cell?_of_block (w := w) (by rw [add_block]; exact hb _ rfl)]; exact h5 j u hj
/-- Blocks from B on stay but for those of qs; those of qs' are of qs, or new. -/
theorem Lst.step {w w' : World} {B : Nat} {qs qs' : List (Option Nat)} {rs : List (List Nat)} {cs : List Value} (h : Lst w B qs rs cs) (hs : w.heap.size ≤ w'.heap.size) (hf : ∀ k, B ≤ k → k < w.heap.size → (∀ q ∈ qs, q ≠ some k) → w'.heap[k]? = w.heap[k]?) (hq : ∀ q ∈ qs', q ∈ qs ∨ ∀ k, q = some k → w.heap.size ≤ k) : Lst w' B qs' rs cs := by
  refine ⟨h.1, fun j r hj => ?_⟩
  obtain ⟨u, h1, h2, h3, h3', h4⟩ := h.2 j r hj
  refine ⟨u, h1, h2.step fun k hk => hf k (h4 k hk).1 (h4 k hk).2.1 (h4 k hk).2.2, h3, h3', fun k hk => ⟨(h4 k hk).1, by have := (h4 k hk).2.1; omega, fun q hq' e => ?_⟩⟩
  rcases hq q hq' with x | x
  · exact (h4 k hk).2.2 q x e
  · have := x k e; have := (h4 k hk).2.1; omega
theorem Lst.snoc {w : World} {B : Nat} {qs : List (Option Nat)} {rs : List (List Nat)} {cs : List Value} (h : Lst w B qs rs cs) {u : Value} {r : List Nat} (h1 : Rd w u (bv r)) (h2 : By r) (h3 : r.length ≤ 140737488355328) (h4 : ∀ k, u.ownBlock = some k → B ≤ k ∧ k < w.heap.size ∧ ∀ q ∈ qs, q ≠ some k) : Lst w B qs (rs ++ [r]) (cs ++ [u]) := by
  refine ⟨by simp [h.1], fun j r' hj => ?_⟩
  by_cases hjl : j < rs.length
  · rw [List.getElem?_append_left hjl] at hj
    obtain ⟨u', k1, k2⟩ := h.2 j r' hj
    exact ⟨u', by rw [List.getElem?_append_left (by rw [h.1]; exact hjl)]; exact k1, k2⟩
  · have hje : j = rs.length := by
      rcases Nat.lt_or_ge j (rs.length + 1) with h' | h'
      · omega
      · rw [List.getElem?_eq_none (by simp; omega)] at hj; cases hj
    subst hje
    rw [List.getElem?_append_right (Nat.le_refl _), Nat.sub_self] at hj
    simp at hj
    subst hj
    exact ⟨u, by rw [List.getElem?_append_right (by rw [h.1]; exact Nat.le_refl _), h.1, Nat.sub_self]; rfl, h1, h2, h3, h4⟩
/-- A list of the call's own. -/
def OwnL (w : World) (B : Nat) (v : Value) (rs : List (List Nat)) : Prop := ∃ cs, w.ownsRow B 35 1 v rs.length cs ∧ Lst w B [v.ownBlock] rs cs
theorem OwnL.rd {w : World} {B : Nat} {v : Value} {rs : List (List Nat)} (h : OwnL w B v rs) : RdL w v rs := by
  obtain ⟨cs, o, l⟩ := h
  rcases o.2 with ⟨rfl, h0⟩ | ⟨g, cap, cur, rfl, _, h3, h4, h5⟩
  · have : rs = [] := List.eq_nil_of_length_eq_zero h0
    subst this
    exact ⟨none, 0, rfl, fun h => by simp at h⟩
  · refine ⟨_, cap, rfl, fun _ => ⟨g, 0, rfl, fun j r hj => ?_⟩⟩
    obtain ⟨u, k1, k2, k3, k4, _⟩ := l.2 j r hj
    have := o.cells rfl j u k1
    rw [Addr.add_lit] at this
    obtain ⟨a', c', e⟩ := k2.form
    rw [bv_len] at e
    subst e
    exact ⟨a', c', this, k2, k3, k4⟩
/-- Blocks from B on stay. -/
theorem OwnL.step {w w' : World} {B : Nat} {v : Value} {rs : List (List Nat)} (h : OwnL w B v rs) (hs : w.heap.size ≤ w'.heap.size) (hf : ∀ k, B ≤ k → k < w.heap.size → w'.heap[k]? = w.heap[k]?) : OwnL w' B v rs := by
  obtain ⟨cs, o, l⟩ := h
  exact ⟨cs, ownsRow_of_block o fun k hk => hf k (o.lt k hk).1 (o.lt k hk).2, l.step hs (fun k k1 k2 _ => hf k k1 k2) (fun q hq => .inl hq)⟩
theorem OwnL.fr {w w' : World} {B : Nat} {v : Value} {rs : List (List Nat)} (h : OwnL w B v rs) (f : Fr [] w w') : OwnL w' B v rs := h.step f.size fun k _ k2 => f.block k k2 (by simp)

/-- Rows of unlike elements don't share a block. -/
theorem own_types {w : World} {B B' s s' n n' : Nat} {e e' : TypeId} {v v' : Value} {xs ys : List Value} (h : w.ownsRow B e s v n xs) (h' : w.ownsRow B' e' s' v' n' ys) (hne : e ≠ e') : ∀ k, v.ownBlock = some k → v'.ownBlock ≠ some k := by
  intro k hk hk'
  rcases h.2 with ⟨rfl, _⟩ | ⟨g, cap, cur, rfl, _, h3, _⟩
  · simp [Value.ownBlock] at hk
  · rcases h'.2 with ⟨rfl, _⟩ | ⟨g', cap', cur', rfl, _, h3', _⟩
    · simp [Value.ownBlock] at hk'
    · simp [Value.ownBlock] at hk hk'
      subst hk; subst hk'
      rw [h3] at h3'
      simp at h3'
      exact hne h3'.2

/-- append(own, x) for a slice of bytes. -/
theorem wpList_append_row {w : World} {ops : Array Oper} {rest : List Oper} {o : Oper} {a : Act} {Q : Exit → Act → World → Prop} (hgd : o.guard = none) (s x : Operand)
    (ho : o.op = .call { callee := .builtin .append, args := #[s, x], argTypes := #[101, 101] }) (base : Nat) (hbase : base ≤ w.heap.size) (v : Value) (n : Nat) (xs : List Value) (hs : a.eval s = v) (hown : w.ownsRow base 35 1 v n xs) (G : Nat) (hx : a.eval x = .slice (some ⟨G, 0, none⟩) 1 1) {u : Value} {T : TypeId} (hG : w.heap[G]? = some (.cells #[u] T (0, 0)))
    (hu : u.oneCell' = true) (hl : n ≤ 100000000000)
    (h : ∀ v' w', w'.ownsRow base 35 1 v' (n + 1) (xs ++ [u]) → w.grownBy w' v.ownBlock → (v'.ownBlock = v.ownBlock ∨ v'.ownBlock = some w.heap.size) → wpList Try.prog ops Q rest (a.put o.dst v') w') :
    wpList Try.prog ops Q (o :: rest) a w := by
  obtain ⟨i0, hi, hz0, hz1, hz2⟩ := info_parts infoR
  refine wpList_append_own_at w hgd s x 101 ho base 35 i0 _ 1 24 Try.underlying101 hi hz0 hz1 hz2 rfl (by decide) v n xs hs hown ⟨G, 0, none⟩ 1 1 [u] hx rfl ?_ ?_ (by unfold maxLen; omega) (by omega) hbase fun v' w' h1 h2 _ h3 => h v' w' h1 h2 h3
  · intro j u' hj
    rw [Addr.add_lit, Nat.zero_add, blk_cell hG, ← Array.getElem?_toList]
    exact hj
  · intro u' hu'
    simp at hu'
    subst hu'; exact hu
end Go.Proofs.Ythmlpjogbdpgiaa
namespace Go.Proofs.Ythmlpjogbdpgiaa
open Go.ChangeShapes Go.WideShapes Go.ChangeAt Go.RowKit

theorem wrap32_nat {n : Nat} (h : n < 4294967296) : IntKind.u32.wrap (n : Int) = (n : Int) := by rw [IntKind.wrap_u32']; omega
theorem cs_mask {r : Nat} (h : r < 4294967296) :
    bits .xor .u32 ((r : Int) / 2) (bits .and .u32 2197175160 (-bits .and .u32 (r : Int) 1 % 4294967296)) = (cs r : Int) := by
  have h1 : bits .and .u32 (r : Int) 1 = ((r % 2 : Nat) : Int) := by
    have := u32_and_nat r 1 h (by omega)
    rw [nat_mask1] at this; exact this
  rw [h1, show (r : Int) / 2 = ((r / 2 : Nat) : Int) from by omega]
  unfold cs
  rcases Nat.mod_two_eq_zero_or_one r with e | e <;> rw [e]
  · have h2 : bits .and .u32 2197175160 (-((0 : Nat) : Int) % 4294967296) = ((0 : Nat) : Int) := by decide
    rw [h2, if_neg (by omega), u32_xor_nat _ _ (by omega) (by omega)]
  · have h2 : bits .and .u32 2197175160 (-((1 : Nat) : Int) % 4294967296) = ((2197175160 : Nat) : Int) := by decide
    rw [h2, if_pos rfl, u32_xor_nat _ _ (by omega) (by omega)]
theorem crc_end {r : Nat} (h : r < 4294967296) : bits .xor .u32 4294967295 (r : Int) = ((4294967295 ^^^ r : Nat) : Int) := u32_xor_nat 4294967295 r (by omega) h
theorem crcF_snoc {ns : List Nat} {k x : Nat} (h : ns[k]? = some x) (r : Nat) : crcF r (ns.take (k + 1)) = csN 8 (crcF r (ns.take k) ^^^ x) := by
  rw [List.take_add_one, h, crcF_append]; rfl

theorem cs_odd {r : Nat} (h : r < 4294967296) (e : r % 2 = 1) : bits .xor .u32 ((r : Int) / 2) 2197175160 = (cs r : Int) := by
  rw [show (r : Int) / 2 = ((r / 2 : Nat) : Int) from by omega]
  have := u32_xor_nat (r / 2) 2197175160 (by omega) (by omega)
  unfold cs; rw [if_pos e]; exact this
theorem cs_even {r : Nat} (e : ¬ r % 2 = 1) : (r : Int) / 2 = (cs r : Int) := by
  unfold cs; rw [if_neg e, Nat.xor_zero]; omega

end Go.Proofs.Ythmlpjogbdpgiaa
namespace Go.Proofs.Ythmlpjogbdpgiaa
open Go.ChangeShapes Go.WideShapes Go.ChangeAt Go.RowKit

theorem str_key : strOf (keyL [] 1 1) = ⟨#[1, 1, 0, 0, 0, 0, 0, 0]⟩ := by decide
theorem crc_known : crc [49, 50, 51, 52, 53, 54, 55, 56, 57] = 3808858755 := by decide +kernel
theorem put_known : putL 300 = [172, 2] := by rw [putL_ge (by omega), putL_lt (by omega)]
theorem str_put : strOf [172, 2] = ⟨#[172, 2]⟩ := by decide

theorem beq_str (s t : ByteArray) : (s.toList == t.toList) = decide (s = t) := by
  by_cases h : s = t
  · subst h; simp
  · have : s.toList ≠ t.toList := fun e => h (by
      cases s with | mk a => cases t with | mk b =>
      have h1 : a.toList = b.toList := by simpa [ByteArray.toList_eq] using e
      rw [Array.toList_inj.1 h1])
    simp [this, h]

set_option maxHeartbeats 400000 in
theorem bytes_c {w : World} {v1 v2 : Value} {a b : List Nat} (h1 : Rd w v1 (bv a)) (h2 : Rd w v2 (bv b)) (ha : By a) (hb : By b) :
    Calls Try.prog 17 #[v1, v2] w fun e w' => e = .returned (.bool (decide (a = b))) ∧ w' = w := by
  have e1 := run_conv h1
  have e2 := run_conv h2
  have e3 : ((strOf a).toList == (strOf b).toList) = decide (a = b) := by
    rw [beq_str]
    by_cases h : a = b
    · subst h; simp
    · have : strOf a ≠ strOf b := fun e => h (strOf_inj ha hb e)
      simp [this, h]
  obtain ⟨a1, c1, rfl⟩ := h1.form
  obtain ⟨a2, c2, rfl⟩ := h2.form
  clear h1 h2 ha hb
  go_enter Try.func17, Try.ntmps17
  go_wp2
  go_ret
  exact ⟨rfl, rfl⟩
end Go.Proofs.Ythmlpjogbdpgiaa
namespace Go.Proofs.Ythmlpjogbdpgiaa
open Go.ChangeShapes Go.WideShapes Go.ChangeAt Go.RowKit

theorem cell_fr {w w' : World} (f : Fr [] w w') {p : Addr} {v : Value} (h : w.cell? p = some v) : w'.cell? p = some v := by
  rw [World.cell?_of_block (w := w) (f.block _ (World.block_lt_of_cell? w _ h) (by simp))]; exact h
/-- Does a block hold a byte? -/
def U8 (w : World) (k : Nat) : Prop := ∃ p n, p.block = k ∧ w.cell? p = some (.int .u8 n)
theorem U8.lt {w : World} {k : Nat} (h : U8 w k) : k < w.heap.size := by
  obtain ⟨p, n, rfl, h⟩ := h
  exact World.block_lt_of_cell? w _ h
theorem Rd.keep {w w' : World} {v : Value} {ns : List Nat} (h : Rd w v (bv ns)) (hk : ∀ k, U8 w k → w'.heap[k]? = w.heap[k]?) : Rd w' v (bv ns) := by
  rcases h with h | ⟨a, c, rfl, h4, h5⟩
  · exact .inl h
  · refine .inr ⟨a, c, rfl, h4, fun j u hj => ?_⟩
    have h6 := h5 j u hj
    have hu : ∃ n : Int, u = .int .u8 n := by
      obtain ⟨n, _, rfl⟩ := List.mem_map.1 (List.mem_of_getElem? hj)
      exact ⟨_, rfl⟩
    obtain ⟨n, rfl⟩ := hu
    rw [World.cell?_of_block (w := w) (hk _ ⟨_, _, rfl, h6⟩)]; exact h6
theorem noU8 {w : World} {b : Nat} {cs : List Value} {T : TypeId} (h : w.heap[b]? = some (.cells cs.toArray T (0, 0))) (hc : ∀ c ∈ cs, ∀ n, c ≠ .int .u8 n) : ¬ U8 w b := by
  rintro ⟨⟨_, o, sp⟩, n, rfl, hn⟩
  have hsp : sp = none := World.cell?_spot hn
  subst hsp
  rw [blk_cell h, List.getElem?_toArray] at hn
  exact hc _ (List.mem_of_getElem? hn) n rfl

theorem infoP : (Try.prog.info? 50).map (fun i => (i.zero, i.size, i.bytes)) = some (some (.agg #[.slice none 0 0, .slice none 0 0]), 2, 48) := by kernel_rfl
/-- A pair of bytes at a place. -/
structure PAt (w : World) (b o : Nat) (p : List Nat × List Nat) (ka : Option Addr) (kc : Nat) (va : Option Addr) (vc : Nat) : Prop where
  ck : w.cell? ⟨b, o, none⟩ = some (.slice ka p.1.length kc)
  cv : w.cell? ⟨b, o + 1, none⟩ = some (.slice va p.2.length vc)
  rk : Rd w (.slice ka p.1.length kc) (bv p.1)
  rv : Rd w (.slice va p.2.length vc) (bv p.2)
  bk : By p.1
  bv' : By p.2
  lk : p.1.length ≤ 140737488355328
  lv : p.2.length ≤ 140737488355328
theorem PAt.fr {w w' : World} {b o : Nat} {p : List Nat × List Nat} {ka va : Option Addr} {kc vc : Nat} (h : PAt w b o p ka kc va vc) (f : Fr [] w w') : PAt w' b o p ka kc va vc :=
  ⟨cell_fr f h.ck, cell_fr f h.cv, h.rk.fr f, h.rv.fr f, h.bk, h.bv', h.lk, h.lv⟩
/-- Pairs that can be read. -/
def RdK (w : World) (v : Value) (ps : Ps) : Prop :=
  ∃ a c, v = .slice a ps.length c ∧ ps.length ≤ c ∧ (0 < ps.length → ∃ b off, a = some ⟨b, off, none⟩ ∧ ∀ (j : Nat) (p : List Nat × List Nat), ps[j]? = some p → ∃ ka kc va vc, PAt w b (off + j * 2) p ka kc va vc)
theorem RdK.fr {w w' : World} {v : Value} {ps : Ps} (h : RdK w v ps) (f : Fr [] w w') : RdK w' v ps := by
  obtain ⟨a, c, h1, h2, h3⟩ := h
  refine ⟨a, c, h1, h2, fun h0 => ?_⟩
  obtain ⟨b, off, h4, h5⟩ := h3 h0
  refine ⟨b, off, h4, fun j p hj => ?_⟩
  obtain ⟨ka, kc, va, vc, h6⟩ := h5 j p hj
  exact ⟨ka, kc, va, vc, h6.fr f⟩
theorem RdK.by {w : World} {v : Value} {ps : Ps} (h : RdK w v ps) : ByP ps := fun p hp => by
  obtain ⟨a, c, h1, h2, h3⟩ := h
  obtain ⟨b, off, h4, h5⟩ := h3 (List.length_pos_of_mem hp)
  obtain ⟨j, hj⟩ := List.getElem?_of_mem hp
  obtain ⟨_, _, _, _, h6⟩ := h5 j p hj
  exact ⟨h6.bk, h6.bv'⟩
theorem RdK.lens {w : World} {v : Value} {ps : Ps} (h : RdK w v ps) : ∀ p ∈ ps, p.1.length ≤ 140737488355328 ∧ p.2.length ≤ 140737488355328 := fun p hp => by
  obtain ⟨a, c, h1, h2, h3⟩ := h
  obtain ⟨b, off, h4, h5⟩ := h3 (List.length_pos_of_mem hp)
  obtain ⟨j, hj⟩ := List.getElem?_of_mem hp
  obtain ⟨_, _, _, _, h6⟩ := h5 j p hj
  exact ⟨h6.lk, h6.lv⟩
theorem RdK.nil (w : World) : RdK w (.slice none 0 0) [] := ⟨none, 0, rfl, Nat.le_refl _, fun h => by simp at h⟩
/-- Pairs of the call's own. -/
def ColK (W : World) (B : Nat) (v : Value) (ps : Ps) : Prop := ∃ cs, W.ownsRow B 50 2 v ps.length cs ∧ (∀ c ∈ cs, ∃ a n k, c = Value.slice a n k) ∧
  ∀ (j : Nat) (p : List Nat × List Nat), ps[j]? = some p → ∃ kv vv, cs[j * 2]? = some kv ∧ cs[j * 2 + 1]? = some vv ∧ Rd W kv (bv p.1) ∧ Rd W vv (bv p.2) ∧ By p.1 ∧ By p.2 ∧ p.1.length ≤ 140737488355328 ∧ p.2.length ≤ 140737488355328
theorem ColK.nil (W : World) (B : Nat) : ColK W B (.slice none 0 0) [] := ⟨[], World.ownsRow_nil _ _ _ _, fun c h => (by cases h), fun j p h => by simp at h⟩
theorem ColK.step {W W' : World} {B : Nat} {v : Value} {ps : Ps} (h : ColK W B v ps) (hb : ∀ k, v.ownBlock = some k → W'.heap[k]? = W.heap[k]?) (hu : ∀ k, U8 W k → W'.heap[k]? = W.heap[k]?) : ColK W' B v ps := by
  obtain ⟨cs, o, h1, h2⟩ := h
  refine ⟨cs, ownsRow_of_block o hb, h1, fun j p hj => ?_⟩
  obtain ⟨kv, vv, c0, c1, r0, r1, b0⟩ := h2 j p hj
  exact ⟨kv, vv, c0, c1, r0.keep hu, r1.keep hu, b0⟩
theorem ColK.fr {W W' : World} {B : Nat} {v : Value} {ps : Ps} (h : ColK W B v ps) (f : Fr [] W W') : ColK W' B v ps :=
  h.step (fun k hk => by obtain ⟨cs, o, _⟩ := h; exact f.block k (o.lt k hk).2 (by simp)) (fun k hk => f.block k hk.lt (by simp))
theorem ColK.rd {w : World} {B : Nat} {v : Value} {ps : Ps} (h : ColK w B v ps) : RdK w v ps := by
  obtain ⟨cs, o, h1, h2⟩ := h
  rcases o.2 with ⟨rfl, h0⟩ | ⟨g, cap, cur, rfl, _, h3, h4, h5⟩
  · have : ps = [] := List.eq_nil_of_length_eq_zero h0
    subst this
    exact RdK.nil w
  · refine ⟨_, cap, rfl, h4, fun _ => ⟨g, 0, rfl, fun j p hj => ?_⟩⟩
    obtain ⟨kv, vv, c0, c1, r0, r1, b0, b1, l0, l1⟩ := h2 j p hj
    have d0 := o.cells rfl _ _ c0
    have d1 := o.cells rfl _ _ c1
    rw [Addr.add_lit] at d0 d1
    obtain ⟨a0, k0, e0⟩ := r0.form
    obtain ⟨a1, k1, e1⟩ := r1.form
    rw [bv_len] at e0 e1
    subst e0
    subst e1
    exact ⟨a0, k0, a1, k1, d0, by rw [show 0 + j * 2 + 1 = 0 + (j * 2 + 1) from by omega]; exact d1, r0, r1, b0, b1, l0, l1⟩
end Go.Proofs.Ythmlpjogbdpgiaa
