/-
  Package block: halves; rows of lines.
-/
import Derived.Test.YtnnookkcnmgbfaaGreatBG
namespace Go.Proofs.YtnnookkcnmgbfaaGreat
open Go.ChangeShapes Go.WideShapes Go.ChangeAt Go.RowKit

set_option maxRecDepth 20000 in
set_option maxHeartbeats 1600000 in
theorem halves_short (w : World) {v : Value} {b : List Nat} (hr : Rd w v (bv b)) (h : b.length < 4) :
    Calls Tryz.prog 109 #[v] w fun e w' => e = .returned (.tuple #[.slice none 0 0, .slice none 0 0, .bool false]) ∧ Fr [] w w' := by
  obtain ⟨a, c, hv⟩ := hr.form
  rw [bv_len] at hv
  subst hv
  clear hr
  generalize b.length = n at *
  go_enter Tryz.func109, Tryz.ntmps109
  go_wp2
  go_ret3
  exact ⟨rfl, Fr.refl _ _⟩
set_option maxRecDepth 20000 in
set_option maxHeartbeats 1600000 in
theorem halves_c (w : World) {q o c : Nat} {b : List Nat} (hr : Rd w (.slice (some ⟨q, o, none⟩) b.length c) (bv b)) (hb : By b) (h4 : 4 ≤ b.length) (hl : b.length ≤ 1000000000) (hc : b.length ≤ c) :
    Calls Tryz.prog 109 #[.slice (some ⟨q, o, none⟩) b.length c] w fun e w' => ((halfL b = none ∧ e = .returned (.tuple #[.slice none 0 0, .slice none 0 0, .bool false])) ∨ ∃ k, halfL b = some k ∧ k + 4 ≤ b.length ∧ e = .returned (.tuple #[.slice (some ⟨q, o, none⟩) k c, .slice (some ⟨q, o + k, none⟩) (b.length - 4 - k) (c - k), .bool true])) ∧ Fr [] w w' := by
  have hU := unfixed4_c (hr.back (q := b.length - 4) (by omega)) (hb.drop _) (by rw [List.length_drop]; omega) (by rw [List.length_drop]; omega)
  have ht4 : (b.drop (b.length - 4)).take 4 = b.drop (b.length - 4) := List.take_of_length_le (by rw [List.length_drop]; omega)
  rw [ht4] at hU
  have hlt := unf_lt _ (hb.drop (b.length - 4))
  rw [List.length_drop, show b.length - (b.length - 4) = 4 from by omega] at hlt
  have hh : halfL b = if unf (b.drop (b.length - 4)) ≤ (b.length - 4) / 4 then some (b.length - 4 - 4 * unf (b.drop (b.length - 4))) else none := by
    unfold halfL
    by_cases h : unf (b.drop (b.length - 4)) ≤ (b.length - 4) / 4
    · rw [if_pos ⟨h4, h⟩, if_pos h]
    · rw [if_neg (fun x => h x.2), if_neg h]
  generalize unf (b.drop (b.length - 4)) = m at *
  obtain ⟨e, he⟩ : ∃ e, b.length = e + 4 := ⟨b.length - 4, by omega⟩
  have hm32 : m < 4294967296 := hlt
  have HH := hid hh
  have HE := hid he
  clear hh ht4 hlt hr hb
  rw [he] at hU HH hl hc ⊢
  clear he h4
  simp only [Nat.add_sub_cancel, show e + 4 - e = 4 from by omega] at hU HH
  have HU := hid hU
  clear hU
  have hq : ((e : Int) / 4) = ((e / 4 : Nat) : Int) := by omega
  obtain ⟨e4, he4⟩ : ∃ x, x = e / 4 := ⟨_, rfl⟩
  rw [← he4] at hq HH
  have HE4 := hid he4
  have he4' : e4 ≤ 1000000000 := by omega
  clear he4
  by_cases hle : m ≤ e4
  · have h4m : 4 * m ≤ e := by have := HE4.out; omega
    obtain ⟨k, hk⟩ : ∃ k, k = e - 4 * m := ⟨_, rfl⟩
    have hki : (e : Int) - 4 * (m : Int) = (k : Int) := by omega
    have HK := hid hk
    have hk1 : k ≤ e := by omega
    have hng : ¬ (e4 : Int) < (m : Int) := by omega
    have hcc : ¬ c = k := by omega
    clear hk
    go_enter Tryz.func109, Tryz.ntmps109
    go_wp2_with fail
    refine HU.out.mono ?_
    rintro e1 w1 ⟨rfl, rfl⟩
    go_upto_region 8 with fail
    go_quiet (fail)
    go_wp2
    go_ret3
    refine ⟨.inr ⟨k, by rw [HH.out, if_pos hle, HK.out], by omega, ?_⟩, (Fr.refl _ _).drewN _⟩
    simp only [Nat.add_sub_cancel]
    rfl
  · have hg : (e4 : Int) < (m : Int) := by omega
    go_enter Tryz.func109, Tryz.ntmps109
    go_wp2_with fail
    refine HU.out.mono ?_
    rintro e1 w1 ⟨rfl, rfl⟩
    go_wp2
    go_ret3
    exact ⟨.inl ⟨by rw [HH.out, if_neg hle], rfl⟩, Fr.refl _ _⟩

/-- A line at a place. -/
structure LAt (w : World) (b o : Nat) (x : Ln) (ka : Option Addr) (kc : Nat) (va : Option Addr) (vc : Nat) : Prop where
  c0 : w.cell? ⟨b, o, none⟩ = some (.int .i64 (x.pos : Int))
  c1 : w.cell? ⟨b, o + 1, none⟩ = some (.int .i64 (x.sh : Int))
  c2 : w.cell? ⟨b, o + 2, none⟩ = some (.slice ka x.key.length kc)
  c3 : w.cell? ⟨b, o + 3, none⟩ = some (.slice va x.val.length vc)
  rk : Rd w (.slice ka x.key.length kc) (bv x.key)
  rv : Rd w (.slice va x.val.length vc) (bv x.val)
theorem LAt.fr {w w' : World} {b o : Nat} {x : Ln} {ka va : Option Addr} {kc vc : Nat} (h : LAt w b o x ka kc va vc) (f : Fr [] w w') : LAt w' b o x ka kc va vc :=
  ⟨cell_fr f h.c0, cell_fr f h.c1, cell_fr f h.c2, cell_fr f h.c3, h.rk.fr f, h.rv.fr f⟩
/-- What is known of each line. -/
structure OkLn (x : Ln) : Prop where
  bk : By x.key
  bv' : By x.val
  lp : x.pos ≤ 1000000000
  ls : x.sh ≤ 1000000000
  lk : x.key.length ≤ 136
  lv : x.val.length ≤ 1000000000
/-- Lines that can be read. -/
def RdN (w : World) (v : Value) (ls : List Ln) : Prop :=
  ∃ a c, v = .slice a ls.length c ∧ (0 < ls.length → ∃ b off, a = some ⟨b, off, none⟩ ∧ ∀ (j : Nat) (x : Ln), ls[j]? = some x → ∃ ka kc va vc, LAt w b (off + j * 4) x ka kc va vc)
theorem RdN.fr {w w' : World} {v : Value} {ls : List Ln} (h : RdN w v ls) (f : Fr [] w w') : RdN w' v ls := by
  obtain ⟨a, c, h1, h3⟩ := h
  refine ⟨a, c, h1, fun h0 => ?_⟩
  obtain ⟨b, off, h4, h5⟩ := h3 h0
  refine ⟨b, off, h4, fun j p hj => ?_⟩
  obtain ⟨ka, kc, va, vc, h6⟩ := h5 j p hj
  exact ⟨ka, kc, va, vc, h6.fr f⟩
theorem infoLn : (Tryz.prog.info? 161).map (fun i => (i.zero, i.size, i.bytes)) = some (some (.agg #[.int .i64 0, .int .i64 0, .slice none 0 0, .slice none 0 0]), 4, 64) := by kernel_rfl
/-- A block that stays while a row of lines grows: an old one, or one of bytes. -/
def Low (W : World) (B k : Nat) : Prop := k < B ∨ ∃ cs, W.heap[k]? = some (.cells cs 5 (0, 0))
/-- Lines of the call's own. -/
def ColN (W : World) (B : Nat) (v : Value) (ls : List Ln) : Prop := B ≤ W.heap.size ∧ ∃ cs, W.ownsRow B 161 4 v ls.length cs ∧
  ∀ (j : Nat) (x : Ln), ls[j]? = some x → ∃ ka kc va vc, (cs[j * 4]? = some (.int .i64 (x.pos : Int)) ∧ cs[j * 4 + 1]? = some (.int .i64 (x.sh : Int)) ∧ cs[j * 4 + 2]? = some (.slice ka x.key.length kc) ∧ cs[j * 4 + 3]? = some (.slice va x.val.length vc)) ∧ Rd W (.slice ka x.key.length kc) (bv x.key) ∧ Rd W (.slice va x.val.length vc) (bv x.val) ∧ T8 W (.slice ka x.key.length kc) (· < B) ∧ T8 W (.slice va x.val.length vc) (· < B)
theorem ColN.nil {W : World} {B : Nat} (h : B ≤ W.heap.size) : ColN W B (.slice none 0 0) [] := ⟨h, [], World.ownsRow_nil _ _ _ _, fun j p h => by simp at h⟩
theorem T8.step {W W' : World} {v : Value} {B : Nat} (h : T8 W v (· < B)) (hB : B ≤ W.heap.size) (hu : ∀ k, Low W B k → k < W.heap.size → W'.heap[k]? = W.heap[k]?) : T8 W' v (· < B) ∧ ∀ ns, Rd W v (bv ns) → Rd W' v (bv ns) := by
  have hk : ∀ k, v.ownBlock = some k → W'.heap[k]? = W.heap[k]? := fun k hk => by
    rcases h k hk with e | ⟨cs, e⟩
    · exact hu k (.inl e) (Nat.lt_of_lt_of_le e hB)
    · exact hu k (.inr ⟨cs, e⟩) (blk_lt e)
  refine ⟨fun k hv => ?_, fun ns r => r.step hk⟩
  rcases h k hv with e | ⟨cs, e⟩
  · exact .inl e
  · exact .inr ⟨cs, by rw [hk k hv]; exact e⟩
theorem ColN.step {W W' : World} {B : Nat} {v : Value} {ls : List Ln} (h : ColN W B v ls) (hs : W.heap.size ≤ W'.heap.size) (hb : ∀ k, v.ownBlock = some k → W'.heap[k]? = W.heap[k]?) (hu : ∀ k, Low W B k → k < W.heap.size → W'.heap[k]? = W.heap[k]?) : ColN W' B v ls := by
  obtain ⟨hB, cs, o, h2⟩ := h
  refine ⟨Nat.le_trans hB hs, cs, ownsRow_of_block o hb, fun j p hj => ?_⟩
  obtain ⟨ka, kc, va, vc, c0, r0, r1, t0, t1⟩ := h2 j p hj
  exact ⟨ka, kc, va, vc, c0, (t0.step hB hu).2 _ r0, (t1.step hB hu).2 _ r1, (t0.step hB hu).1, (t1.step hB hu).1⟩
theorem ColN.fr {W W' : World} {B : Nat} {v : Value} {ls : List Ln} (h : ColN W B v ls) (f : Fr [] W W') : ColN W' B v ls :=
  h.step f.size (fun k hk => by obtain ⟨_, cs, o, _⟩ := h; exact f.block k (o.lt k hk).2 (by simp)) (fun k _ hk => f.block k hk (by simp))
/-- A block of another type has changed. -/
theorem ColN.one {W W' : World} {B : Nat} {v : Value} {ls : List Ln} (h : ColN W B v ls) {t : Nat} (f : Fr [t] W W') {cs : Array Value} {T : TypeId} (ht : W.heap[t]? = some (.cells cs T (0, 0))) (h1 : T ≠ 5) (h2 : T ≠ 161) (hB : B ≤ t) : ColN W' B v ls := by
  refine h.step f.size (fun k hk => ?_) (fun k hl hk => f.block k hk (fun e => ?_))
  · obtain ⟨_, cs', o, _⟩ := h
    refine f.block k (o.lt k hk).2 (fun e => ?_)
    simp at e
    subst e
    exact own_not o ht h2 hk
  · simp at e
    subst e
    rcases hl with e | ⟨cs', e⟩
    · omega
    · rw [ht] at e; simp at e; exact h1 e.2
theorem ColN.rd {w : World} {B : Nat} {v : Value} {ls : List Ln} (h : ColN w B v ls) : RdN w v ls := by
  obtain ⟨_, cs, o, h2⟩ := h
  rcases o.2 with ⟨rfl, h0⟩ | ⟨g, cap, cur, rfl, _, h3, h4, h5⟩
  · have : ls = [] := List.eq_nil_of_length_eq_zero h0
    subst this
    exact ⟨none, 0, rfl, fun h => by simp at h⟩
  · refine ⟨_, cap, rfl, fun _ => ⟨g, 0, rfl, fun j p hj => ?_⟩⟩
    obtain ⟨ka, kc, va, vc, ⟨c0, c1, c2, c3⟩, r0, r1, _⟩ := h2 j p hj
    have d0 := o.cells rfl _ _ c0
    have d1 := o.cells rfl _ _ c1
    have d2 := o.cells rfl _ _ c2
    have d3 := o.cells rfl _ _ c3
    rw [Addr.add_lit] at d0 d1 d2 d3
    refine ⟨ka, kc, va, vc, d0, ?_, ?_, ?_, r0, r1⟩
    · rw [show 0 + j * 4 + 1 = 0 + (j * 4 + 1) from by omega]; exact d1
    · rw [show 0 + j * 4 + 2 = 0 + (j * 4 + 2) from by omega]; exact d2
    · rw [show 0 + j * 4 + 3 = 0 + (j * 4 + 3) from by omega]; exact d3
/-- A row of lines grows: blocks of bytes stay. -/
theorem grown_low {W W2 : World} {B n : Nat} {v : Value} {cs : List Value} (o : W.ownsRow B 161 4 v n cs) (g : W.grownBy W2 v.ownBlock) : ∀ k, Low W B k → k < W.heap.size → W2.heap[k]? = W.heap[k]? := fun k hl hk => by
  refine g.block k hk (fun e => ?_)
  rcases hl with e' | ⟨cs', e'⟩
  · have := (o.lt k e.symm).1; omega
  · exact own_not o e' (by decide) e.symm
theorem ColN.snoc {W W2 : World} {B : Nat} {v v2 : Value} {ls : List Ln} {cs : List Value} (hB : B ≤ W.heap.size) (o : W.ownsRow B 161 4 v ls.length cs)
    (h2 : ∀ (j : Nat) (x : Ln), ls[j]? = some x → ∃ ka kc va vc, (cs[j * 4]? = some (.int .i64 (x.pos : Int)) ∧ cs[j * 4 + 1]? = some (.int .i64 (x.sh : Int)) ∧ cs[j * 4 + 2]? = some (.slice ka x.key.length kc) ∧ cs[j * 4 + 3]? = some (.slice va x.val.length vc)) ∧ Rd W (.slice ka x.key.length kc) (bv x.key) ∧ Rd W (.slice va x.val.length vc) (bv x.val) ∧ T8 W (.slice ka x.key.length kc) (· < B) ∧ T8 W (.slice va x.val.length vc) (· < B))
    {x : Ln} {ka va : Option Addr} {kc vc : Nat} (r0 : Rd W (.slice ka x.key.length kc) (bv x.key)) (r1 : Rd W (.slice va x.val.length vc) (bv x.val)) (t0 : T8 W (.slice ka x.key.length kc) (· < B)) (t1 : T8 W (.slice va x.val.length vc) (· < B))
    (o2 : W2.ownsRow B 161 4 v2 (ls.length + 1) (cs ++ [.int .i64 (x.pos : Int), .int .i64 (x.sh : Int), .slice ka x.key.length kc, .slice va x.val.length vc])) (g : W.grownBy W2 v.ownBlock) : ColN W2 B v2 (ls ++ [x]) := by
  have hu := grown_low o g
  have hcl : cs.length = ls.length * 4 := o.1
  refine ⟨Nat.le_trans hB g.size, _, by rw [List.length_append]; exact o2, fun j y hj => ?_⟩
  by_cases hjl : j < ls.length
  · rw [List.getElem?_append_left hjl] at hj
    obtain ⟨ka', kc', va', vc', ⟨c0, c1, c2, c3⟩, s0, s1, u0, u1⟩ := h2 j y hj
    refine ⟨ka', kc', va', vc', ⟨?_, ?_, ?_, ?_⟩, (u0.step hB hu).2 _ s0, (u1.step hB hu).2 _ s1, (u0.step hB hu).1, (u1.step hB hu).1⟩
    all_goals (rw [List.getElem?_append_left (by omega)]; assumption)
  · have hje : j = ls.length := by
      rcases Nat.lt_or_ge j (ls.length + 1) with h' | h'
      · omega
      · rw [List.getElem?_eq_none (by simp; omega)] at hj; cases hj
    subst hje
    rw [List.getElem?_append_right (Nat.le_refl _), Nat.sub_self] at hj
    simp at hj
    subst hj
    refine ⟨ka, kc, va, vc, ⟨?_, ?_, ?_, ?_⟩, (t0.step hB hu).2 _ r0, (t1.step hB hu).2 _ r1, (t0.step hB hu).1, (t1.step hB hu).1⟩
    all_goals (rw [List.getElem?_append_right (by omega), hcl]; first | (rw [Nat.sub_self]; rfl) | (rw [show ls.length * 4 + 1 - ls.length * 4 = 1 from by omega]; rfl) | (rw [show ls.length * 4 + 2 - ls.length * 4 = 2 from by omega]; rfl) | (rw [show ls.length * 4 + 3 - ls.length * 4 = 3 from by omega]; rfl))
/-- append(lines, x). -/
theorem wpList_append_ln {w : World} {ops : Array Oper} {rest : List Oper} {o : Oper} {a : Act} {Q : Exit → Act → World → Prop} (hgd : o.guard = none) (s x : Operand)
    (ho : o.op = .call { callee := .builtin .append, args := #[s, x], argTypes := #[155, 155] }) (base : Nat) (hbase : base ≤ w.heap.size) (v : Value) (n : Nat) (xs : List Value) (hs : a.eval s = v) (hown : w.ownsRow base 161 4 v n xs) (G : Nat) (hx : a.eval x = .slice (some ⟨G, 0, none⟩) 1 1) {u0 u1 u2 u3 : Value} {T : TypeId} (hG : w.heap[G]? = some (.cells #[u0, u1, u2, u3] T (0, 0)))
    (hu : ∀ u ∈ [u0, u1, u2, u3], u.oneCell' = true) (hl : n ≤ 100000000000)
    (h : ∀ v' w', w'.ownsRow base 161 4 v' (n + 1) (xs ++ [u0, u1, u2, u3]) → w.grownBy w' v.ownBlock → (v'.ownBlock = v.ownBlock ∨ v'.ownBlock = some w.heap.size) → wpList Tryz.prog ops Q rest (a.put o.dst v') w') :
    wpList Tryz.prog ops Q (o :: rest) a w := by
  obtain ⟨i0, hi, hz0, hz1, hz2⟩ := info_parts infoLn
  refine wpList_append_own_at w hgd s x 155 ho base 161 i0 _ 4 64 Tryz.underlying155 hi hz0 hz1 hz2 rfl (by decide) v n xs hs hown ⟨G, 0, none⟩ 1 1 [u0, u1, u2, u3] hx rfl ?_ hu (by unfold maxLen; omega) (by omega) hbase fun v' w' h1 h2 _ h3 => h v' w' h1 h2 h3
  intro j u' hj
  rw [Addr.add_lit, Nat.zero_add, blk_cell hG, ← Array.getElem?_toList]
  exact hj
end Go.Proofs.YtnnookkcnmgbfaaGreat
namespace Go.Proofs.YtnnookkcnmgbfaaGreat
open Go.ChangeShapes Go.WideShapes Go.ChangeAt Go.RowKit

theorem lineL_by {all ah : List Nat} (hb : By all) (ha : By ah) {p s p' : Nat} {k v : List Nat} (hp : p ≤ all.length) (h : lineL all ah p = some (s, k, v, p')) : By k ∧ By v ∧ s ≤ ah.length ∧ v.length ≤ all.length ∧ p + 3 ≤ p' ∧ p' ≤ all.length := by
  obtain ⟨h1, h2, h3, h4, h5, h6⟩ := lineL_inv hb hp h
  have hd := hb.drop p
  rw [h4] at hd
  unfold ent at hd
  have e := ent_len s k v
  refine ⟨?_, fun n hn => hd n (by simp [hn]), h1, by omega, by omega, h6⟩
  intro n hn
  rw [← List.take_append_drop s k, List.mem_append] at hn
  rcases hn with hn | hn
  · rw [h3] at hn; exact ha n (List.mem_of_mem_take hn)
  · exact hd n (by simp [hn])
/-- What takeLines holds ahead of a round. -/
structure TI (w wr : World) (q o c : Nat) (all : List Nat) (v4 v5 : Value) (ls : List Ln) (p : Nat) (ah : List Nat) (f : Nat) : Prop where
  tk : Tk wr w.heap.size (.slice (some ⟨q, o, none⟩) all.length c) p false
  rr : Rd wr (.slice (some ⟨q, o, none⟩) all.length c) (bv all)
  col : ColN wr w.heap.size v4 ls
  ra : Rd wr v5 (bv ah)
  ta : T8 wr v5 (· < w.heap.size)
  ba : By ah
  la : ah.length ≤ 136
  hp : p ≤ all.length
  hf : all.length - p < f
  eq : linesF (all.length + 1) all 0 [] = (linesF f all p ah).map (ls ++ ·)
  ok : ∀ x ∈ ls, OkLn x
  len : ls.length ≤ p
  fr : Fr [] w wr

set_option maxRecDepth 20000 in
set_option maxHeartbeats 3200000 in
theorem takeLines_c (w : World) {q o c : Nat} {all : List Nat} (hr : Rd w (.slice (some ⟨q, o, none⟩) all.length c) (bv all)) (hb : By all) (hc : all.length < c) (hl : all.length ≤ 1000000000) (hq : q < w.heap.size) :
    Calls Tryz.prog 110 #[.slice (some ⟨q, o, none⟩) all.length c] w fun e w' => ((linesF (all.length + 1) all 0 [] = none ∧ e = .returned (.tuple #[.slice none 0 0, .bool false])) ∨ ∃ ls v, linesF (all.length + 1) all 0 [] = some ls ∧ e = .returned (.tuple #[v, .bool true]) ∧ ColN w' w.heap.size v ls ∧ (∀ x ∈ ls, OkLn x) ∧ ls.length ≤ all.length) ∧ Fr [] w w' := by
  obtain ⟨W0, hW0⟩ : ∃ W, W = w.alloc (.cells #[.slice (some ⟨q, o, none⟩) all.length c, .int .i64 0, .bool false] 177) := ⟨_, rfl⟩
  have F0 : Fr [] w W0 := by rw [hW0]; exact (Fr.refl _ _).alloc _
  have I0 : TI w W0 q o c all (.slice none 0 0) (.slice none 0 0) [] 0 [] (all.length + 1) := by
    refine ⟨by unfold Tk; rw [hW0]; exact blk_new _ _, hr.fr F0, ColN.nil F0.size, .inl ⟨rfl, rfl⟩, fun k hk => by simp [Value.ownBlock] at hk, fun n h => absurd h (by simp), by simp, Nat.zero_le _, by omega, ?_, fun x h => absurd h (by simp), by simp, F0⟩
    cases linesF (all.length + 1) all 0 [] <;> rfl
  have HI := hid I0
  have HB := hid hb
  have HR := hid hr
  clear hr hb F0 I0
  go_enter Tryz.func110, Tryz.ntmps110
  go_wp2_with fail
  rw [← hW0]
  clear hW0
  go_loopw [4, 5] (fun v4 v5 wr => ∃ ls p ah f, TI w wr q o c all v4 v5 ls p ah f) (fun _ _ wr => all.length - (intOf ((wr.cell? ⟨w.heap.size, 1, none⟩).getD undef)).toNat)
  case atStart => exact ⟨_, _, _, _, HI.out⟩
  case round =>
    obtain ⟨ls, p, ah, f, hti⟩ := hrel
    have HT := hid hti
    have z1 : wr.cell? ⟨w.heap.size, 1, none⟩ = some (.int .i64 (p : Int)) := by rw [blk_cell hti.tk]; rfl
    clear hti
    by_cases hlt : p < all.length
    · obtain ⟨f', hf'⟩ : ∃ f', f = f' + 1 := ⟨f - 1, by have := HT.out.hf; omega⟩
      subst hf'
      have LC := hid (line_c wr HT.out.tk HT.out.rr HB.out hc hl HT.out.hp HT.out.ra (by have := HT.out.la; omega))
      go_wp2_with fail
      refine LC.out.mono ?_
      rintro e W1 ⟨s, ka, k, kc, va, v, vc, p', h', rfl, rk, tk8, rv, vq, T1, hlin, f1⟩
      have ta1 : T8 W1 u5 (· < w.heap.size) := HT.out.ta.one f1 HT.out.tk (by decide)
      have tk1 : T8 W1 (.slice ka k.length kc) (· < w.heap.size) := fun b hb => by
        rcases tk8 b hb with e | e
        · exact ta1 b e
        · exact .inr e
      have tv1 : T8 W1 (.slice va v.length vc) (· < w.heap.size) := fun b hb => .inl (by rw [vq b hb]; exact hq)
      have FR1 : Fr [] w W1 := ((HT.out.fr.mono (S' := [w.heap.size]) (by simp)).trans f1).shed (fun k hk hlt => by simp at hk; omega)
      have C1 : ColN W1 w.heap.size u4 ls := HT.out.col.one f1 HT.out.tk (by decide) (by decide) (Nat.le_refl _)
      have ra1 : Rd W1 u5 (bv ah) := HT.out.tk.keep f1 HT.out.ra
      obtain ⟨W2, hW2⟩ : ∃ W, W = W1.alloc (.cells #[.int .i64 (p : Int), .int .i64 (s : Int), .slice ka k.length kc, .slice va v.length vc] 161) := ⟨_, rfl⟩
      have F2 : Fr [] W1 W2 := by rw [hW2]; exact (Fr.refl _ _).alloc _
      have X2 : W2.heap[W1.heap.size]? = some (.cells #[.int .i64 (p : Int), .int .i64 (s : Int), .slice ka k.length kc, .slice va v.length vc] 161 (0, 0)) := by rw [hW2]; exact blk_new _ _
      have T2 := F2.at T1 (by simp)
      have HX := hid X2
      have H1 := hid (And.intro tk1 (And.intro tv1 (And.intro FR1 (And.intro C1 (And.intro ra1 (And.intro rk (And.intro rv (And.intro T2 F2))))))))
      have HL := hid hlin
      have z2 : W2.cell? ⟨w.heap.size, 2, none⟩ = some (.bool h') := by rw [blk_cell T2]; rfl
      have y2 : W2.cell? ⟨W1.heap.size, 2, none⟩ = some (.slice ka k.length kc) := by rw [blk_cell X2]; rfl
      clear z1 LC rk tk8 rv vq T1 hlin f1 ta1 tk1 tv1 FR1 C1 ra1 F2 X2 T2
      go_upto_region 6 with fail
      rw [← hW2]
      clear hW2
      rcases HL.out with ⟨rfl, hlin⟩ | ⟨rfl, hlin⟩
      · have HLL := hid hlin
        have LB := hid (lineL_by HB.out HT.out.ba HT.out.hp hlin)
        have hkl : k.length ≤ 1000000136 := by
          have h5 := (lineL_inv HB.out HT.out.hp hlin)
          have := ent_len s k v
          have := HT.out.la
          omega
        have FC := hid (follows_c W2 (H1.out.2.2.2.2.1.fr H1.out.2.2.2.2.2.2.2.2) HT.out.ba (by have := HT.out.la; omega) (H1.out.2.2.2.2.2.1.fr H1.out.2.2.2.2.2.2.2.2) LB.out.1 (by omega))
        clear hlin
        go_wp2_with fail
        refine FC.out.mono ?_
        rintro e W3 ⟨rfl, f3⟩
        have F3 := hid (H1.out.2.2.2.2.2.2.2.2.trans f3)
        have F23 := hid f3
        clear FC f3
        rcases hfl : flw ah k with _ | _
        · have HFL := hid hfl
          clear hfl
          go_wp2
          go_ret2
          refine ⟨.inl ⟨?_, rfl⟩, H1.out.2.2.1.trans F3.out⟩
          rw [HT.out.eq, linesF, if_pos hlt, HLL.out]; dsimp only
          rw [HFL.out]; rfl
        · have HFL := hid hfl
          clear hfl
          have X3 := F23.out.at HX.out (by simp)
          have y0 : W3.cell? ⟨W1.heap.size, 0, none⟩ = some (.int .i64 (p : Int)) := by rw [blk_cell X3]; rfl
          have y1 : W3.cell? ⟨W1.heap.size, 1, none⟩ = some (.int .i64 (s : Int)) := by rw [blk_cell X3]; rfl
          have y2 : W3.cell? ⟨W1.heap.size, 2, none⟩ = some (.slice ka k.length kc) := by rw [blk_cell X3]; rfl
          have y3 : W3.cell? ⟨W1.heap.size, 3, none⟩ = some (.slice va v.length vc) := by rw [blk_cell X3]; rfl
          obtain ⟨W4, hW4⟩ : ∃ W, W = W3.alloc (.cells #[.int .i64 (p : Int), .int .i64 (s : Int), .slice ka k.length kc, .slice va v.length vc] 161) := ⟨_, rfl⟩
          have F4 : Fr [] W3 W4 := by rw [hW4]; exact (Fr.refl _ _).alloc _
          have X4 : W4.heap[W3.heap.size]? = some (.cells #[.int .i64 (p : Int), .int .i64 (s : Int), .slice ka k.length kc, .slice va v.length vc] 161 (0, 0)) := by rw [hW4]; exact blk_new _ _
          have F14 := hid (F3.out.trans F4)
          obtain ⟨hB4, cs, o4, h24⟩ := H1.out.2.2.2.1.fr F14.out
          have H24 := hid h24
          have T4 := (F23.out.trans F4).at H1.out.2.2.2.2.2.2.2.1 (by simp)
          have hll := HT.out.len
          have X4' := F4.at X3 (by simp)
          have HX4 := hid X4'
          clear h24 z2 X3 X4'
          have CN : Hid (∀ v4' W6, W6.ownsRow w.heap.size 161 4 v4' (ls.length + 1) (cs ++ [.int .i64 (p : Int), .int .i64 (s : Int), .slice ka k.length kc, .slice va v.length vc]) → W4.grownBy W6 u4.ownBlock → TI w W6 q o c all v4' (.slice ka k.length kc) (ls ++ [⟨p, s, k, v⟩]) p' k f' ∧ W6.cell? ⟨W1.heap.size, 2, none⟩ = some (.slice ka k.length kc)) := by
            refine hid fun v4' W6 o6 g6 => ?_
            have hu := grown_low o4 g6
            have FR6 : Fr [] w W6 := (H1.out.2.2.1.trans F14.out).grown g6 (fun k hk => .inr (o4.lt k hk).1)
            have t4 : T8 W4 (.slice ka k.length kc) (· < w.heap.size) := H1.out.1.fr F14.out
            have t4v : T8 W4 (.slice va v.length vc) (· < w.heap.size) := H1.out.2.1.fr F14.out
            have rk4 := H1.out.2.2.2.2.2.1.fr F14.out
            have rv4 := H1.out.2.2.2.2.2.2.1.fr F14.out
            have hk136 : k.length ≤ 136 := (isK_len (flw_isK HFL.out)).2.1
            have hu4 : ∀ b, u4.ownBlock = some b → b < W1.heap.size := fun b hb => by
              obtain ⟨_, _, o1, _⟩ := H1.out.2.2.2.1
              exact (o1.lt b hb).2
            refine ⟨⟨?_, HR.out.fr FR6, ColN.snoc (x := ⟨p, s, k, v⟩) hB4 o4 H24.out rk4 rv4 t4 t4v o6 g6, (t4.step hB4 hu).2 _ rk4, (t4.step hB4 hu).1, LB.out.1, hk136, LB.out.2.2.2.2.2, ?_, ?_, ?_, ?_, FR6⟩, ?_⟩
            · unfold Tk
              rw [g6.block _ (blk_lt T4) (fun e => own_not o4 T4 (by decide) e.symm)]
              exact T4
            · have := HT.out.hf; have := LB.out.2.2.2.2; omega
            · rw [HT.out.eq, linesF, if_pos hlt, HLL.out]; dsimp only
              rw [if_pos HFL.out, Option.map_map]
              congr 1
              funext l
              simp
            · intro x hx
              rw [List.mem_append] at hx
              rcases hx with hx | hx
              · exact HT.out.ok x hx
              · simp at hx
                subst hx
                have := HT.out.la
                have := LB.out.2.2
                exact ⟨LB.out.1, LB.out.2.1, by dsimp only; omega, by dsimp only; omega, hk136, by dsimp only; omega⟩
            · have := LB.out.2.2.2.2; simp; omega
            · rw [blk_cell (show W6.heap[W1.heap.size]? = _ from by rw [g6.block _ (blk_lt HX4.out) (fun e => by have := hu4 _ e.symm; omega)]; exact HX4.out)]; rfl
          go_wp2_with (at_builtin; rw [← hW4]; refine wpList_append_ln rfl _ _ rfl w.heap.size hB4 _ _ _ rfl o4 W3.heap.size rfl X4 (by simp [Value.oneCell']) (by omega) ?_; intro v4' W6 o6 g6 q6; have TI6 : Hid (TI w W6 q o c all v4' (.slice ka k.length kc) (ls ++ [⟨p, s, k, v⟩]) p' k f') := hid (CN.out v4' W6 o6 g6).1; have y6 := (CN.out v4' W6 o6 g6).2; clear o6 g6 q6)
          go_roundw
          case rel => exact ⟨_, _, _, _, TI6.out⟩
          case measure =>
            have e1 : W6.cell? ⟨w.heap.size, 1, none⟩ = some (.int .i64 (p' : Int)) := by rw [blk_cell TI6.out.tk]; rfl
            have e2 : wr.cell? ⟨w.heap.size, 1, none⟩ = some (.int .i64 (p : Int)) := by rw [blk_cell HT.out.tk]; rfl
            rw [e1, e2]
            have := LB.out.2.2.2.2
            simp [intOf]
            omega
      · have HLL := hid hlin
        clear hlin
        go_wp2
        go_ret2
        refine ⟨.inl ⟨?_, rfl⟩, H1.out.2.2.1.trans H1.out.2.2.2.2.2.2.2.2⟩
        rw [HT.out.eq, linesF, if_pos hlt, HLL.out]; rfl
    · have hpe : ¬ (p : Int) < (all.length : Int) := by omega
      go_wp2
      go_ret2
      refine ⟨.inr ⟨ls, ?_, u4, rfl, HT.out.col, HT.out.ok, Nat.le_trans HT.out.len HT.out.hp⟩, HT.out.fr⟩
      obtain ⟨f', hf'⟩ : ∃ f', f = f' + 1 := ⟨f - 1, by have := HT.out.hf; omega⟩
      rw [HT.out.eq, hf', linesF, if_neg hlt]
      simp
end Go.Proofs.YtnnookkcnmgbfaaGreat
namespace Go.Proofs.YtnnookkcnmgbfaaGreat
open Go.ChangeShapes Go.WideShapes Go.ChangeAt Go.RowKit

set_option maxRecDepth 20000 in
set_option maxHeartbeats 3200000 in
theorem search_r (w : World) (n : Nat) (hn : n ≤ 1000000000) (x1 x2 : Value) (P : Nat → Bool)
    (hF : ∀ h W, h < n → Fr [] w W → Calls Tryz.prog 116 #[.int .i64 (h : Int), x1, x2] W fun e w' => e = .returned (.bool (P h)) ∧ Fr [] W w') :
    Calls Tryz.prog 92 #[.int .i64 (n : Int), .func (.func 116) #[] #[x1, x2]] w fun e w' => ∃ k : Nat, e = .returned (.int .i64 (k : Int)) ∧ k ≤ n ∧ (k < n → P k = true) ∧ (0 < k → P (k - 1) = false) ∧ Fr [] w w' := by
  have HF := hid hF
  clear hF
  go_enter Tryz.func92, Tryz.ntmps92
  go_wp2_with fail
  go_loopw [5, 6] (fun v5 v6 wr => ∃ i j : Nat, v5 = .int .i64 (i : Int) ∧ v6 = .int .i64 (j : Int) ∧ i ≤ j ∧ j ≤ n ∧ (j < n → P j = true) ∧ (0 < i → P (i - 1) = false) ∧ Fr [] w wr) (fun v5 v6 _ => (intOf v6).toNat - (intOf v5).toNat)
  case atStart => exact ⟨0, n, rfl, rfl, Nat.zero_le _, Nat.le_refl _, fun h => by omega, fun h => by omega, Fr.refl _ _⟩
  case round =>
    obtain ⟨i, j, rfl, rfl, hij, hjn, h1, h2, hf⟩ := hrel
    have H := hid (And.intro h1 (And.intro h2 hf))
    clear h1 h2 hf
    by_cases hlt : i < j
    · obtain ⟨h, hh⟩ : ∃ h, h = (i + j) / 2 := ⟨_, rfl⟩
      have hdv : ((i : Int) + (j : Int)) / 2 = (h : Int) := by omega
      have hh1 : i ≤ h := by omega
      have hh2 : h < j := by omega
      have HC := hid (HF.out h wr (by omega) H.out.2.2)
      clear hh
      go_wp2_with fail
      refine HC.out.mono ?_
      rintro e w1 ⟨rfl, f1⟩
      have F1 := hid (H.out.2.2.trans f1)
      clear f1 HC
      rcases hp : P h with _ | _
      · have HP := hid hp
        clear hp
        go_wp2
        go_roundw
        case rel => exact ⟨h + 1, j, by go_num, rfl, by omega, hjn, H.out.1, fun _ => by rw [Nat.add_sub_cancel]; exact HP.out, F1.out⟩
        case measure => simp [intOf]; omega
      · have HP := hid hp
        clear hp
        go_wp2
        go_roundw
        case rel => exact ⟨i, h, rfl, rfl, by omega, by omega, fun _ => HP.out, H.out.2.1, F1.out⟩
        case measure => simp [intOf]; omega
    · have hij' : i = j := by omega
      subst hij'
      go_wp2
      go_ret
      exact ⟨i, rfl, hjn, H.out.1, H.out.2.1, H.out.2.2⟩
end Go.Proofs.YtnnookkcnmgbfaaGreat
namespace Go.Proofs.YtnnookkcnmgbfaaGreat
open Go.ChangeShapes Go.WideShapes Go.ChangeAt Go.RowKit

set_option maxRecDepth 20000 in
set_option maxHeartbeats 3200000 in
theorem restartOf1_c (W : World) {L S sec h : Nat} {v : Value} {ls : List Ln} (hL : W.heap[L]? = some (.cells #[v] 155 (0, 0))) (hS : W.heap[S]? = some (.cells #[.int .u32 (sec : Int)] 119 (0, 0))) (hr : RdN W v ls) (hh : h < ls.length) (hl : ls.length ≤ 1000000000) (hs : sec < 4294967296) :
    Calls Tryz.prog 116 #[.int .i64 (h : Int), .pointer (some ⟨L, 0, none⟩), .pointer (some ⟨S, 0, none⟩)] W fun e w' => e = .returned (.bool (decide (sec ≤ (lnA ls h).pos))) ∧ Fr [] W w' := by
  obtain ⟨a, c, rfl, k1⟩ := hr
  obtain ⟨b, off, rfl, m1⟩ := k1 (by omega)
  obtain ⟨ka, kc, va, vc, P⟩ := m1 h _ (lnA_at hh)
  have z1 : W.cell? ⟨L, 0, none⟩ = some (.slice (some ⟨b, off, none⟩) ls.length c) := by rw [blk_cell hL]; rfl
  have z2 : W.cell? ⟨S, 0, none⟩ = some (.int .u32 (sec : Int)) := by rw [blk_cell hS]; rfl
  have z3 := P.c0
  have hd : decide ((sec : Int) ≤ ((lnA ls h).pos : Int)) = decide (sec ≤ (lnA ls h).pos) := by congr 1; apply propext; omega
  clear m1 k1 P hL hS
  generalize (lnA ls h).pos = p at *
  generalize ls.length = n at *
  go_enter Tryz.func116, Tryz.ntmps116
  go_upto_region 1 with fail
  go_quiet (fail)
  go_wp2
  go_ret
  refine ⟨?_, (Fr.refl _ _).drewN _⟩
  rw [← hd]; rfl

set_option maxRecDepth 20000 in
set_option maxHeartbeats 3200000 in
theorem restartOf_c (w : World) {v : Value} {q o c : Nat} {ls : List Ln} {pl : List Nat} (hr : RdN w v ls) (hl : ls.length ≤ 1000000000) (hp : Rd w (.slice (some ⟨q, o, none⟩) pl.length c) (bv pl)) (hb : By pl) (hpl : pl.length ≤ 1000000000) (hc : pl.length < c) :
    Calls Tryz.prog 111 #[v, .slice (some ⟨q, o, none⟩) pl.length c] w fun e w' => ∃ r : Nat, e = .returned (.int .i64 (r : Int)) ∧ RsO ls pl r ∧ r ≤ 1000000000 ∧ Fr [] w w' := by
  have hrv := hr
  obtain ⟨la, lc, rfl, _⟩ := hrv
  have HR := hid hr
  by_cases h8 : pl.length < 8
  · have H8 := hid h8
    generalize hn : pl.length = n at *
    have HN := hid hn
    clear hr hp hb hn
    go_enter Tryz.func111, Tryz.ntmps111
    go_wp2
    go_ret
    exact ⟨64, rfl, .inl ⟨by rw [HN.out]; exact H8.out, rfl⟩, by omega, (Fr.refl _ _).alloc _⟩
  · have RB := hp.back (q := 4) (by omega)
    have BD := hb.drop 4
    obtain ⟨sec, hsec⟩ : ∃ s, s = unf ((pl.drop 4).take 4) := ⟨_, rfl⟩
    have hs32 : sec < 4294967296 := by
      have := unf_lt _ (BD.take 4)
      rw [List.length_take, List.length_drop, show min 4 (pl.length - 4) = 4 from by omega] at this
      rw [hsec]; exact this
    have HS := hid hsec
    have HU : Hid (∀ W, Fr [] w W → Calls Tryz.prog 62 #[.slice (some ⟨q, o + 4, none⟩) (pl.length - 4) (c - 4)] W fun e w' => e = .returned (.tuple #[.int .u32 (sec : Int), .int .i64 0]) ∧ w' = W) := hid fun W f => by
      rw [hsec]
      exact unfixed4_c (RB.fr f) BD (by rw [List.length_drop]; omega) (by rw [List.length_drop]; omega)
    have hc4 : ¬ c = 4 := by omega
    clear hp hb RB BD hsec hr
    obtain ⟨W1, hW1⟩ : ∃ W, W = w.alloc (.cells #[.slice la ls.length lc] 155) := ⟨_, rfl⟩
    have F1 : Hid (Fr [] w W1) := by refine hid ?_; rw [hW1]; exact (Fr.refl _ _).alloc _
    have L1 : Hid (W1.heap[w.heap.size]? = some (.cells #[.slice la ls.length lc] 155 (0, 0))) := by refine hid ?_; rw [hW1]; exact blk_new _ _
    have s1 : W1.heap.size = w.heap.size + 1 := by rw [hW1]; simp
    obtain ⟨W2, hW2⟩ : ∃ W, W = W1.alloc (.cells #[.int .u32 (sec : Int)] 119) := ⟨_, rfl⟩
    have F2 : Hid (Fr [] W1 W2) := by refine hid ?_; rw [hW2]; exact (Fr.refl _ _).alloc _
    have S2 : Hid (W2.heap[w.heap.size + 1]? = some (.cells #[.int .u32 (sec : Int)] 119 (0, 0))) := by refine hid ?_; rw [hW2]; exact new_at _ _ s1.symm
    have SC := hid (search_r W2 ls.length hl (.pointer (some ⟨w.heap.size, 0, none⟩)) (.pointer (some ⟨w.heap.size + 1, 0, none⟩)) (fun h => decide (sec ≤ (lnA ls h).pos)) (fun h W hh f => restartOf1_c W ((F2.out.trans f).at L1.out (by simp)) (f.at S2.out (by simp)) (HR.out.fr (F1.out.trans (F2.out.trans f))) hh hl hs32))
    have HL8 := hid h8
    have z1 : W2.cell? ⟨w.heap.size, 0, none⟩ = some (.slice la ls.length lc) := by rw [blk_cell (F2.out.at L1.out (by simp))]; rfl
    generalize hn : pl.length = n at *
    generalize hnl : ls.length = nl at *
    have HN := hid (And.intro hn hnl)
    clear hn hnl
    go_enter Tryz.func111, Tryz.ntmps111
    go_wp2_with fail
    rw [← hW1]
    refine (HU.out W1 F1.out).mono ?_
    rintro e w3 ⟨rfl, rfl⟩
    go_upto_region 4 with fail
    rw [← hW1, ← hW2]
    clear hW1 hW2
    go_wp2_with fail
    refine SC.out.mono ?_
    rintro e w3 ⟨k, rfl, hk, h1, h2, f3⟩
    have H3 := hid (And.intro h1 (And.intro h2 f3))
    clear h1 h2 f3 SC
    go_wp2
    go_ret
    refine ⟨k, rfl, .inr ⟨by rw [HN.out.1]; omega, by rw [HN.out.2]; exact hk, fun hlt => ?_, fun hlt => ?_⟩, by omega, F1.out.trans (F2.out.trans H3.out.2.2)⟩
    · rw [← HS.out]
      exact of_decide_eq_true (H3.out.1 (by rw [← HN.out.2]; exact hlt))
    · rw [← HS.out]
      have := of_decide_eq_false (H3.out.2.1 hlt)
      omega
end Go.Proofs.YtnnookkcnmgbfaaGreat
