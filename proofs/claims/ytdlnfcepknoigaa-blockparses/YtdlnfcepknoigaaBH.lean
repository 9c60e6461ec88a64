/-
  Package block: halves; rows of lines.
-/
import Derived.Test.YtdlnfcepknoigaaBG
namespace Go.Proofs.Ytdlnfcepknoigaa
open Go.ChangeShapes Go.WideShapes Go.ChangeAt Go.RowKit

set_option maxRecDepth 20000 in
set_option maxHeartbeats 1600000 in
theorem halves_short (w : World) {v : Value} {b : List Nat} (hr : Rd w v (bv b)) (h : b.length < 4) :
    Calls Try.prog 42 #[v] w fun e w' => e = .returned (.tuple #[.slice none 0 0, .slice none 0 0, .bool false]) ∧ Fr [] w w' := by
  obtain ⟨a, c, hv⟩ := hr.form
  rw [bv_len] at hv
  subst hv
  clear hr
  generalize b.length = n at *
  go_enter Try.func42, Try.ntmps42
  go_wp2
  go_ret3
  exact ⟨rfl, Fr.refl _ _⟩
set_option maxRecDepth 20000 in
set_option maxHeartbeats 1600000 in
theorem halves_c (w : World) {q o c : Nat} {b : List Nat} (hr : Rd w (.slice (some ⟨q, o, none⟩) b.length c) (bv b)) (hb : By b) (h4 : 4 ≤ b.length) (hl : b.length ≤ 1000000000) (hc : b.length ≤ c) :
    Calls Try.prog 42 #[.slice (some ⟨q, o, none⟩) b.length c] w fun e w' => ((halfL b = none ∧ e = .returned (.tuple #[.slice none 0 0, .slice none 0 0, .bool false])) ∨ ∃ k, halfL b = some k ∧ k + 4 ≤ b.length ∧ e = .returned (.tuple #[.slice (some ⟨q, o, none⟩) k c, .slice (some ⟨q, o + k, none⟩) (b.length - 4 - k) (c - k), .bool true])) ∧ Fr [] w w' := by
  have hU := unfixed4_c (hr.back (q := b.length - 4) (by omega)) (hb.drop _) (by rw [List.length_drop]; omega) (by rw [List.length_drop]; omega)
  have ht4 : (b.drop (b.length - 4)).take 4 = b.drop (b.length - 4) := List.take_of_length_le (by rw [List.length_drop]; omega)
  rw [ht4] at hU
  have hlt := unf_lt _ (hb.drop (b.length - 4))
  rw [List.length_drop, show b.length - (b.length - 4) = 4 from by omega] at hlt
  have hh : halfL b = if unf (b.drop (b.length - 4)) ≤ (b.length - 4) / 4 then some (b.length - 4 - 4 * unf (b.drop (b.length - 4))) else none := by
    unfold halfL
    by_cases h : unf (b.drop (b.length - 4)) ≤ (b.length - 4) / 4
    · rw [if_pos ⟨h4, h⟩, if_pos h]
    · rw [if_neg (fun x => h x.2), if_neg h]
  generalize unf (b.drop (b.length - 4)) = m at *
  obtain ⟨e, he⟩ : ∃ e, b.length = e + 4 := ⟨b.length - 4, by omega⟩
  have hm32 : m < 4294967296 := hlt
  have HH := hid hh
  have HE := hid he
  clear hh ht4 hlt hr hb
  rw [he] at hU HH hl hc ⊢
  clear he h4
  simp only [Nat.add_sub_cancel, show e + 4 - e = 4 from by omega] at hU HH
  have HU := hid hU
  clear hU
  have hq : ((e : Int) / 4) = ((e / 4 : Nat) : Int) := by omega
  obtain ⟨e4, he4⟩ : ∃ x, x = e / 4 := ⟨_, rfl⟩
  rw [← he4] at hq HH
  have HE4 := hid he4
  have he4' : e4 ≤ 1000000000 := by omega
  clear he4
  by_cases hle : m ≤ e4
  · have h4m : 4 * m ≤ e := by have := HE4.out; omega
    obtain ⟨k, hk⟩ : ∃ k, k = e - 4 * m := ⟨_, rfl⟩
    have hki : (e : Int) - 4 * (m : Int) = (k : Int) := by omega
    have HK := hid hk
    have hk1 : k ≤ e := by omega
    have hng : ¬ (e4 : Int) < (m : Int) := by omega
    have hcc : ¬ c = k := by omega
    clear hk
    go_enter Try.func42, Try.ntmps42
    go_wp2_with fail
    refine HU.out.mono ?_
    rintro e1 w1 ⟨rfl, rfl⟩
    go_upto_region 8 with fail
    go_quiet (fail)
    go_wp2
    go_ret3
    refine ⟨.inr ⟨k, by rw [HH.out, if_pos hle, HK.out], by omega, ?_⟩, (Fr.refl _ _).drewN _⟩
    simp only [Nat.add_sub_cancel]
    rfl
  · have hg : (e4 : Int) < (m : Int) := by omega
    go_enter Try.func42, Try.ntmps42
    go_wp2_with fail
    refine HU.out.mono ?_
    rintro e1 w1 ⟨rfl, rfl⟩
    go_wp2
    go_ret3
    exact ⟨.inl ⟨by rw [HH.out, if_neg hle], rfl⟩, Fr.refl _ _⟩

/-- A line at a place. -/
structure LAt (w : World) (b o : Nat) (x : Ln) (ka : Option Addr) (kc : Nat) (va : Option Addr) (vc : Nat) : Prop where
  c0 : w.cell? ⟨b, o, none⟩ = some (.int .i64 (x.pos : Int))
  c1 : w.cell? ⟨b, o + 1, none⟩ = some (.int .i64 (x.sh : Int))
  c2 : w.cell? ⟨b, o + 2, none⟩ = some (.slice ka x.key.length kc)
  c3 : w.cell? ⟨b, o + 3, none⟩ = some (.slice va x.val.length vc)
  rk : Rd w (.slice ka x.key.length kc) (bv x.key)
  rv : Rd w (.slice va x.val.length vc) (bv x.val)
theorem LAt.fr {w w' : World} {b o : Nat} {x : Ln} {ka va : Option Addr} {kc vc : Nat} (h : LAt w b o x ka kc va vc) (f : Fr [] w w') : LAt w' b o x ka kc va vc :=
  ⟨cell_fr f h.c0, cell_fr f h.c1, cell_fr f h.c2, cell_fr f h.c3, h.rk.fr f, h.rv.fr f⟩
/-- What is known of each line. -/
structure OkLn (x : Ln) : Prop where
  bk : By x.key
  bv' : By x.val
  lp : x.pos ≤ 1000000000
  ls : x.sh ≤ 1000000000
  lk : x.key.length ≤ 136
  lv : x.val.length ≤ 1000000000
/-- Lines that can be read. -/
def RdN (w : World) (v : Value) (ls : List Ln) : Prop :=
  ∃ a c, v = .slice a ls.length c ∧ (0 < ls.length → ∃ b off, a = some ⟨b, off, none⟩ ∧ ∀ (j : Nat) (x : Ln), ls[j]? = some x → ∃ ka kc va vc, LAt w b (off + j * 4) x ka kc va vc)
theorem RdN.fr {w w' : World} {v : Value} {ls : List Ln} (h : RdN w v ls) (f : Fr [] w w') : RdN w' v ls := by
  obtain ⟨a, c, h1, h3⟩ := h
  refine ⟨a, c, h1, fun h0 => ?_⟩
  obtain ⟨b, off, h4, h5⟩ := h3 h0
  refine ⟨b, off, h4, fun j p hj => ?_⟩
  obtain ⟨ka, kc, va, vc, h6⟩ := h5 j p hj
  exact ⟨ka, kc, va, vc, h6.fr f⟩
theorem infoLn : (Try.prog.info? 60).map (fun i => (i.zero, i.size, i.bytes)) = some (some (.agg #[.int .i64 0, .int .i64 0, .slice none 0 0, .slice none 0 0]), 4, 64) := by kernel_rfl
/-- A block that stays while a row of lines grows: an old one, or one of bytes. -/
def Low (W : World) (B k : Nat) : Prop := k < B ∨ ∃ cs, W.heap[k]? = some (.cells cs 5 (0, 0))
/-- Lines of the call's own. -/
def ColN (W : World) (B : Nat) (v : Value) (ls : List Ln) : Prop := B ≤ W.heap.size ∧ ∃ cs, W.ownsRow B 60 4 v ls.length cs ∧
  ∀ (j : Nat) (x : Ln), ls[j]? = some x → ∃ ka kc va vc, (cs[j * 4]? = some (.int .i64 (x.pos : Int)) ∧ cs[j * 4 + 1]? = some (.int .i64 (x.sh : Int)) ∧ cs[j * 4 + 2]? = some (.slice ka x.key.length kc) ∧ cs[j * 4 + 3]? = some (.slice va x.val.length vc)) ∧ Rd W (.slice ka x.key.length kc) (bv x.key) ∧ Rd W (.slice va x.val.length vc) (bv x.val) ∧ T8 W (.slice ka x.key.length kc) (· < B) ∧ T8 W (.slice va x.val.length vc) (· < B)
theorem ColN.nil {W : World} {B : Nat} (h : B ≤ W.heap.size) : ColN W B (.slice none 0 0) [] := ⟨h, [], World.ownsRow_nil _ _ _ _, fun j p h => by simp at h⟩
theorem T8.step {W W' : World} {v : Value} {B : Nat} (h : T8 W v (· < B)) (hB : B ≤ W.heap.size) (hu : ∀ k, Low W B k → k < W.heap.size → W'.heap[k]? = W.heap[k]?) : T8 W' v (· < B) ∧ ∀ ns, Rd W v (bv ns) → Rd W' v (bv ns) := by
  have hk : ∀ k, v.ownBlock = some k → W'.heap[k]? = W.heap[k]? := fun k hk => by
    rcases h k hk with e | ⟨cs, e⟩
    · exact hu k (.inl e) (Nat.lt_of_lt_of_le e hB)
    · exact hu k (.inr ⟨cs, e⟩) (blk_lt e)
  refine ⟨fun k hv => ?_, fun ns r => r.step hk⟩
  rcases h k hv with e | ⟨cs, e⟩
  · exact .inl e
  · exact .inr ⟨cs, by rw [hk k hv]; exact e⟩
theorem ColN.step {W W' : World} {B : Nat} {v : Value} {ls : List Ln} (h : ColN W B v ls) (hs : W.heap.size ≤ W'.heap.size) (hb : ∀ k, v.ownBlock = some k → W'.heap[k]? = W.heap[k]?) (hu : ∀ k, Low W B k → k < W.heap.size → W'.heap[k]? = W.heap[k]?) : ColN W' B v ls := by
  obtain ⟨hB, cs, o, h2⟩ := h
  refine ⟨Nat.le_trans hB hs, cs, ownsRow_of_block o hb, fun j p hj => ?_⟩
  obtain ⟨ka, kc, va, vc, c0, r0, r1, t0, t1⟩ := h2 j p hj
  exact ⟨ka, kc, va, vc, c0, (t0.step hB hu).2 _ r0, (t1.step hB hu).2 _ r1, (t0.step hB hu).1, (t1.step hB hu).1⟩
theorem ColN.fr {W W' : World} {B : Nat} {v : Value} {ls : List Ln} (h : ColN W B v ls) (f : Fr [] W W') : ColN W' B v ls :=
  h.step f.size (fun k hk => by obtain ⟨_, cs, o, _⟩ := h; exact f.block k (o.lt k hk).2 (by simp)) (fun k _ hk => f.block k hk (by simp))
/-- A block of another type has changed. -/
theorem ColN.one {W W' : World} {B : Nat} {v : Value} {ls : List Ln} (h : ColN W B v ls) {t : Nat} (f : Fr [t] W W') {cs : Array Value} {T : TypeId} (ht : W.heap[t]? = some (.cells cs T (0, 0))) (h1 : T ≠ 5) (h2 : T ≠ 60) (hB : B ≤ t) : ColN W' B v ls := by
  refine h.step f.size (fun k hk => ?_) (fun k hl hk => f.block k hk (fun e => ?_))
  · obtain ⟨_, cs', o, _⟩ := h
    refine f.block k (o.lt k hk).2 (fun e => ?_)
    simp at e
    subst e
    exact own_not o ht h2 hk
  · simp at e
    subst e
    rcases hl with e | ⟨cs', e⟩
    · omega
    · rw [ht] at e; simp at e; exact h1 e.2
theorem ColN.rd {w : World} {B : Nat} {v : Value} {ls : List Ln} (h : ColN w B v ls) : RdN w v ls := by
  obtain ⟨_, cs, o, h2⟩ := h
  rcases o.2 with ⟨rfl, h0⟩ | ⟨g, cap, cur, rfl, _, h3, h4, h5⟩
  · have : ls = [] := List.eq_nil_of_length_eq_zero h0
    subst this
    exact ⟨none, 0, rfl, fun h => by simp at h⟩
  · refine ⟨_, cap, rfl, fun _ => ⟨g, 0, rfl, fun j p hj => ?_⟩⟩
    obtain ⟨ka, kc, va, vc, ⟨c0, c1, c2, c3⟩, r0, r1, _⟩ := h2 j p hj
    have d0 := o.cells rfl _ _ c0
    have d1 := o.cells rfl _ _ c1
    have d2 := o.cells rfl _ _ c2
    have d3 := o.cells rfl _ _ c3
    rw [Addr.add_lit] at d0 d1 d2 d3
    refine ⟨ka, kc, va, vc, d0, ?_, ?_, ?_, r0, r1⟩
    · rw [show 0 + j * 4 + 1 = 0 + (j * 4 + 1) from by omega]; exact d1
    · rw [show 0 + j * 4 + 2 = 0 + (j * 4 + 2) from by omega]; exact d2
    · rw [show 0 + j * 4 + 3 = 0 + (j * 4 + 3) from by omega]; exact d3
/-- A row of lines grows: blocks of bytes stay. -/
theorem grown_low {W W2 : World} {B n : Nat} {v : Value} {cs : List Value} (o : W.ownsRow B 60 4 v n cs) (g : W.grownBy W2 v.ownBlock) : ∀ k, Low W B k → k < W.heap.size → W2.heap[k]? = W.heap[k]? := fun k hl hk => by
  refine g.block k hk (fun e => ?_)
  rcases hl with e' | ⟨cs', e'⟩
  · have := (o.lt k e.symm).1; omega
  · exact own_not o e' (by decide) e.symm
theorem ColN.snoc {W W2 : World} {B : Nat} {v v2 : Value} {ls : List Ln} {cs : List Value} (hB : B ≤ W.heap.size) (o : W.ownsRow B 60 4 v ls.length cs)
    (h2 : ∀ (j : Nat) (x : Ln), ls[j]? = some x → ∃ ka kc va vc, (cs[j * 4]? = some (.int .i64 (x.pos : Int)) ∧ cs[j * 4 + 1]? = some (.int .i64 (x.sh : Int)) ∧ cs[j * 4 + 2]? = some (.slice ka x.key.length kc) ∧ cs[j * 4 + 3]? = some (.slice va x.val.length vc)) ∧ Rd W (.slice ka x.key.length kc) (bv x.key) ∧ Rd W (.slice va x.val.length vc) (bv x.val) ∧ T8 W (.slice ka x.key.length kc) (· < B) ∧ T8 W (.slice va x.val.length vc) (· < B))
    {x : Ln} {ka va : Option Addr} {kc vc : Nat} (r0 : Rd W (.slice ka x.key.length kc) (bv x.key)) (r1 : Rd W (.slice va x.val.length vc) (bv x.val)) (t0 : T8 W (.slice ka x.key.length kc) (· < B)) (t1 : T8 W (.slice va x.val.length vc) (· < B))
    (o2 : W2.ownsRow B 60 4 v2 (ls.length + 1) (cs ++ [.int .i64 (x.pos : Int), .int .i64 (x.sh : Int), .slice ka x.key.length kc, .slice va x.val.length vc])) (g : W.grownBy W2 v.ownBlock) : ColN W2 B v2 (ls ++ [x]) := by
  have hu := grown_low o g
  have hcl : cs.length = ls.length * 4 := o.1
  refine ⟨Nat.le_trans hB g.size, _, by rw [List.length_append]; exact o2, fun j y hj => ?_⟩
  by_cases hjl : j < ls.length
  · rw [List.getElem?_append_left hjl] at hj
    obtain ⟨ka', kc', va', vc', ⟨c0, c1, c2, c3⟩, s0, s1, u0, u1⟩ := h2 j y hj
    refine ⟨ka', kc', va', vc', ⟨?_, ?_, ?_, ?_⟩, (u0.step hB hu).2 _ s0, (u1.step hB hu).2 _ s1, (u0.step hB hu).1, (u1.step hB hu).1⟩
    all_goals (rw [List.getElem?_append_left (by omega)]; assumption)
  · have hje : j = ls.length := by
      rcases Nat.lt_or_ge j (ls.length + 1) with h' | h'
      · omega
      · rw [List.getElem?_eq_none (by simp; omega)] at hj; cases hj
    subst hje
    rw [List.getElem?_append_right (Nat.le_refl _), Nat.sub_self] at hj
    simp at hj
    subst hj
    refine ⟨ka, kc, va, vc, ⟨?_, ?_, ?_, ?_⟩, (t0.step hB hu).2 _ r0, (t1.step hB hu).2 _ r1, (t0.step hB hu).1, (t1.step hB hu).1⟩
    all_goals (rw [List.getElem?_append_right (by omega), hcl]; first | (rw [Nat.sub_self]; rfl) | (rw [show ls.length * 4 + 1 - ls.length * 4 = 1 from by omega]; rfl) | (rw [show ls.length * 4 + 2 - ls.length * 4 = 2 from by omega]; rfl) | (rw [show ls.length * 4 + 3 - ls.length * 4 = 3 from by omega]; rfl))
/-- append(lines, x). -/
theorem wpList_append_ln {w : World} {ops : Array Oper} {rest : List Oper} {o : Oper} {a : Act} {Q : Exit → Act → World → Prop} (hgd : o.guard = none) (s x : Operand)
    (ho : o.op = .call { callee := .builtin .append, args := #[s, x], argTypes := #[54, 54] }) (base : Nat) (hbase : base ≤ w.heap.size) (v : Value) (n : Nat) (xs : List Value) (hs : a.eval s = v) (hown : w.ownsRow base 60 4 v n xs) (G : Nat) (hx : a.eval x = .slice (some ⟨G, 0, none⟩) 1 1) {u0 u1 u2 u3 : Value} {T : TypeId} (hG : w.heap[G]? = some (.cells #[u0, u1, u2, u3] T (0, 0)))
    (hu : ∀ u ∈ [u0, u1, u2, u3], u.oneCell' = true) (hl : n ≤ 100000000000)
    (h : ∀ v' w', w'.ownsRow base 60 4 v' (n + 1) (xs ++ [u0, u1, u2, u3]) → w.grownBy w' v.ownBlock → (v'.ownBlock = v.ownBlock ∨ v'.ownBlock = some w.heap.size) → wpList Try.prog ops Q rest (a.put o.dst v') w') :
    wpList Try.prog ops Q (o :: rest) a w := by
  obtain ⟨i0, hi, hz0, hz1, hz2⟩ := info_parts infoLn
  refine wpList_append_own_at w hgd s x 54 ho base 60 i0 _ 4 64 Try.underlying54 hi hz0 hz1 hz2 rfl (by decide) v n xs hs hown ⟨G, 0, none⟩ 1 1 [u0, u1, u2, u3] hx rfl ?_ hu (by unfold maxLen; omega) (by omega) hbase fun v' w' h1 h2 _ h3 => h v' w' h1 h2 h3
  intro j u' hj
  rw [Addr.add_lit, Nat.zero_add, blk_cell hG, ← Array.getElem?_toList]
  exact hj
end Go.Proofs.Ytdlnfcepknoigaa
