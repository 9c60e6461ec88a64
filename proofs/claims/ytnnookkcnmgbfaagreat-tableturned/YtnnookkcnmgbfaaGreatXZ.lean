/-
  Range of a table, and All.
-/
import Derived.Test.YtnnookkcnmgbfaaGreatJ39
namespace Go.Proofs.YtnnookkcnmgbfaaGreat
open Go.ChangeShapes Go.WideShapes Go.ChangeAt Go.RowKit

/-- A post that no panic meets. -/
def noP (Q : Exit → Act → World → Prop) : Exit → Act → World → Prop := fun e a w => match e with
  | .panic _ => False
  | e => Q e a w
theorem noP_of {Q : Exit → Act → World → Prop} : ∀ e a w, noP Q e a w → Q e a w := fun e a w h => by
  cases e <;> first | exact h | exact h.elim
theorem ret_cc {fn : Func} {p q : Tmp} {t u : TypeId} (h : fn.results = #[.cell p t, .cell q u]) {tmps : Array Value} {w : World} {g k : Nat} {x y : Value} (hp : tmps.getD p undef = .pointer (some ⟨g, 0, none⟩)) (hq : tmps.getD q undef = .pointer (some ⟨k, 0, none⟩)) (hg : (loadVar t ⟨g, 0, none⟩).run Tryz.prog w = .ok x w) (hk : (loadVar u ⟨k, 0, none⟩).run Tryz.prog w = .ok y w) :
    (results fn tmps).run Tryz.prog w = .ok (.tuple #[x, y]) w := by
  have hp' : tmps[p]?.getD undef = .pointer (some ⟨g, 0, none⟩) := by simpa using hp
  have hq' : tmps[q]?.getD undef = .pointer (some ⟨k, 0, none⟩) := by simpa using hq
  simp [results, h, hp', hq', asAddr, hg, hk]
theorem load_one {w : World} {g : Nat} {T : TypeId} {a : Option Addr} {n c : Nat} (h : w.heap[g]? = some (.cells #[.slice a n c] T (0, 0))) : (loadVar 36 ⟨g, 0, none⟩).run Tryz.prog w = .ok (.slice a n c) w := by
  have c0 := blk_cell h 0
  simp at c0
  go_simp
theorem load_int {w : World} {g : Nat} {T : TypeId} {x : Int} (h : w.heap[g]? = some (.cells #[.int .i64 x] T (0, 0))) : (loadVar 26 ⟨g, 0, none⟩).run Tryz.prog w = .ok (.int .i64 x) w := by
  have c0 := blk_cell h 0
  simp at c0
  go_simp
theorem fold1 {t : Array Value} {p : Tmp} {v : Value} : ((#[p] : Array Tmp).zip #[v]).foldl (fun t (p, v) => t.setIfInBounds p v) t = t.setIfInBounds p v := by simp
theorem keeps_fr {B : Nat} {W W' : World} (f : Fr [] W W') : KeepsFrom B W W' := ⟨f.size, fun k o _ hk _ => f.at hk (by simp)⟩
theorem keeps_set {B : Nat} {W W1 : World} (h : KeepsFrom B W W1) {p i : Nat} {v : Value} {cs : Array Value} {T : TypeId} (hp : W1.heap[p]? = some (.cells cs T (0, 0))) : KeepsFrom B W (W1.setCell ⟨p, i, none⟩ v) :=
  ⟨by simpa [World.setCell] using h.size, fun k o hB hk ho => by
    have h1 := h.same k o hB hk ho
    rw [blk_setne _ _ _ (fun e => by subst e; rw [hp] at h1; cases h1; simp [Obj.isCells] at ho)]
    exact h1⟩
theorem keeps_grown {B : Nat} {W W1 W2 : World} (h : KeepsFrom B W W1) {row : Option Nat} (g : W1.grownBy W2 row) (hr : ∀ k, row = some k → ∃ cs T, W1.heap[k]? = some (.cells cs T (0, 0))) : KeepsFrom B W W2 :=
  ⟨Nat.le_trans h.size g.size, fun k o hB hk ho => by
    have h1 := h.same k o hB hk ho
    rw [g.block k (blk_lt h1) (fun e => by
      obtain ⟨cs, T, hc⟩ := hr k e.symm
      rw [hc] at h1
      cases h1
      simp [Obj.isCells] at ho)]
    exact h1⟩
theorem own_cells {W : World} {B n s : Nat} {T : TypeId} {v : Value} {xs : List Value} (o : W.ownsRow B T s v n xs) : ∀ k, v.ownBlock = some k → ∃ cs, W.heap[k]? = some (.cells cs T (0, 0)) := fun k hk => by
  rcases o.2 with ⟨rfl, _⟩ | ⟨g, cap, cur, rfl, _, h3, _⟩
  · simp [Value.ownBlock] at hk
  · simp [Value.ownBlock] at hk
    subst hk
    exact ⟨cur, h3⟩
theorem look_facts {dat : List Nat} {t n : Nat} {k : List Nat} {x : Nat} {qs : Ps} (h : LookR dat t n k x qs) (hl : t + n + 4 ≤ dat.length) : qs.length ≤ n ∧ (∀ p ∈ qs, isK p.1 = true) ∧ (x = 0 ∨ x = 80 ∨ x = 81) := by
  rcases h with ⟨rfl, _, rfl⟩ | ⟨rfl, _, _, rfl⟩ | ⟨rfl, _, ⟨r, hb⟩, _, _⟩
  · simp
  · simp
  · refine ⟨?_, fun p hp => ?_, .inl rfl⟩
    · have := blk_count hb
      rw [wn_len (by omega)] at this
      exact this
    · exact (asc_of hb.rises).1 p hp
/-- What Range holds while it goes on. -/
structure RgS (w W : World) (lev mov : Value) (C K p I : Nat) (v : Value) (acc : Ps) : Prop where
  fr : Fr [] w W
  b0 : W.heap[w.heap.size]? = some (.cells #[lev] 22 (0, 0))
  b1 : W.heap[w.heap.size + 1]? = some (.cells #[mov] 22 (0, 0))
  b2 : W.heap[w.heap.size + 1 + 1]? = some (.cells #[.slice none 0 0] 36 (0, 0))
  b3 : W.heap[w.heap.size + 1 + 1 + 1]? = some (.cells #[.int .i64 0] 26 (0, 0))
  b4 : W.heap[w.heap.size + 1 + 1 + 1 + 1]? = some (.cells #[v] 36 (0, 0))
  hC : W.heap[C]? = some (.cells #[.pointer (some ⟨p, 0, none⟩)] 25 (0, 0))
  hK : W.heap[K]? = some (.cells #[.int .i64 (I : Int)] 3 (0, 0))
  col : ColO W w.heap.size v acc
theorem RgS.fr' {w W W' : World} {lev mov : Value} {C K p I : Nat} {v : Value} {acc : Ps} (h : RgS w W lev mov C K p I v acc) (f : Fr [] W W') : RgS w W' lev mov C K p I v acc :=
  ⟨h.fr.trans f, f.at h.b0 (by simp), f.at h.b1 (by simp), f.at h.b2 (by simp), f.at h.b3 (by simp), f.at h.b4 (by simp), f.at h.hC (by simp), f.at h.hK (by simp), h.col.fr f⟩
theorem RgS.own {w W W' : World} {B : Nat} {lev mov : Value} {C K p I : Nat} {v : Value} {acc : Ps} (h : RgS w W lev mov C K p I v acc) (hB : w.heap.size ≤ B) {row : Option Nat} (hg : W.grownBy W' row) (hr : ∀ r, row = some r → B ≤ r ∧ ∃ o : Obj, W.heap[r]? = some o ∧ o.isCells = false) : RgS w W' lev mov C K p I v acc := by
  have hk : ∀ {k : Nat} {cs : Array Value} {T : TypeId}, W.heap[k]? = some (.cells cs T (0, 0)) → W'.heap[k]? = some (.cells cs T (0, 0)) := fun h => by rw [grownBy_keeps_cells hg (fun r e => (hr r e).2) h rfl]; exact h
  exact ⟨h.fr.grown hg (fun k e => .inr (Nat.le_trans hB (hr k e).1)), hk h.b0, hk h.b1, hk h.b2, hk h.b3, hk h.b4, hk h.hC, hk h.hK, h.col.step (fun k cs T h1 _ => by rw [hk h1]; exact h1.symm)⟩
theorem RgS.next {w W W' : World} {lev mov : Value} {C K p I : Nat} {v v' : Value} {acc acc' : Ps} (h : RgS w W lev mov C K p I v acc) (g : W.grownBy W' v.ownBlock) (co : ColO W' w.heap.size v' acc') : RgS w (W'.setCell ⟨w.heap.size + 1 + 1 + 1 + 1, 0, none⟩ v') lev mov C K p I v' acc' := by
  obtain ⟨cs, o, _⟩ := h.col
  have hk : ∀ {k : Nat} {cs : Array Value} {T : TypeId}, W.heap[k]? = some (.cells cs T (0, 0)) → T ≠ 47 → W'.heap[k]? = some (.cells cs T (0, 0)) := fun {k _ _} h1 hT => by
    rw [g.block k (blk_lt h1) (fun e => own_not o h1 hT e.symm)]; exact h1
  have h4 := hk h.b4 (by decide)
  have hs : ∀ {k : Nat} {cs : Array Value} {T : TypeId}, W.heap[k]? = some (.cells cs T (0, 0)) → T ≠ 47 → k ≠ w.heap.size + 1 + 1 + 1 + 1 → (W'.setCell ⟨w.heap.size + 1 + 1 + 1 + 1, 0, none⟩ v').heap[k]? = some (.cells cs T (0, 0)) := fun h1 hT hn => by rw [blk_setne _ _ _ hn]; exact hk h1 hT
  have hne : ∀ {k : Nat} {cs : Array Value} {T : TypeId}, W.heap[k]? = some (.cells cs T (0, 0)) → T ≠ 36 → k ≠ w.heap.size + 1 + 1 + 1 + 1 := fun h1 hT e => by
    subst e
    rw [h.b4] at h1
    simp only [Option.some.injEq, Obj.cells.injEq] at h1
    exact hT h1.2.1.symm
  refine ⟨(h.fr.grown g (fun k e => .inr (o.lt k e).1)).set _ _ (.inr (by omega)), hs h.b0 (by decide) (by omega), hs h.b1 (by decide) (by omega), hs h.b2 (by decide) (by omega), hs h.b3 (by decide) (by omega), ?_, hs h.hC (by decide) (hne h.hC (by decide)), hs h.hK (by decide) (hne h.hK (by decide)), ?_⟩
  · rw [blk_set h4]; rfl
  · refine co.step (fun k cs T h1 hT => blk_setne _ _ _ (fun e => ?_))
    subst e
    rw [h4] at h1
    simp only [Option.some.injEq, Obj.cells.injEq] at h1
    rcases hT with rfl | rfl
    · exact absurd h1.2.1 (by decide)
    · exact absurd h1.2.1 (by decide)
theorem keeps_next {B : Nat} {w W W' : World} {lev mov : Value} {C K p I : Nat} {v v' : Value} {acc : Ps} (h : RgS w W lev mov C K p I v acc) (g : W.grownBy W' v.ownBlock) : KeepsFrom B W (W'.setCell ⟨w.heap.size + 1 + 1 + 1 + 1, 0, none⟩ v') := by
  obtain ⟨cs, o, _⟩ := h.col
  have h4 : W'.heap[w.heap.size + 1 + 1 + 1 + 1]? = some (.cells #[v] 36 (0, 0)) := by
    rw [g.block _ (blk_lt h.b4) (fun e => own_not o h.b4 (by decide) e.symm)]; exact h.b4
  exact keeps_set (keeps_grown (KeepsFrom.refl B W) g (fun k e => by obtain ⟨c, hc⟩ := own_cells o k e; exact ⟨c, _, hc⟩)) h4
/-- A fault was told. -/
structure RtS (w W : World) (x : Nat) : Prop where
  fr : Fr [] w W
  b2 : W.heap[w.heap.size + 1 + 1]? = some (.cells #[.slice none 0 0] 36 (0, 0))
  b3 : W.heap[w.heap.size + 1 + 1 + 1]? = some (.cells #[.int .i64 (x : Int)] 26 (0, 0))
theorem RtS.own {w W W' : World} {B x : Nat} (h : RtS w W x) (hB : w.heap.size ≤ B) {row : Option Nat} (hg : W.grownBy W' row) (hr : ∀ r, row = some r → B ≤ r ∧ ∃ o : Obj, W.heap[r]? = some o ∧ o.isCells = false) : RtS w W' x := by
  have hk : ∀ {k : Nat} {cs : Array Value} {T : TypeId}, W.heap[k]? = some (.cells cs T (0, 0)) → W'.heap[k]? = some (.cells cs T (0, 0)) := fun h => by rw [grownBy_keeps_cells hg (fun r e => (hr r e).2) h rfl]; exact h
  exact ⟨h.fr.grown hg (fun k e => .inr (Nat.le_trans hB (hr k e).1)), hk h.b2, hk h.b3⟩
/-- What is said of the range's rounds. -/
def RgJ (w : World) (lev mov : Value) (C K p I : Nat) (ips : Ps) (R : Nat × Ps) (F : Nat → Nat → Ps → Nat × Ps) (k : Nat) (W : World) : Prop := ∃ v acc, RgS w W lev mov C K p I v acc ∧ acc.length ≤ nxN ips (I + k) ∧ R = F (ips.length - I - k) (I + k) acc
def RgX (w : World) (lev mov : Value) (C K p I : Nat) (R : Nat × Ps) (c : Code) (W : World) : Prop := (c = .ret ∧ ∃ x : Nat, R = (x, []) ∧ RtS w W x) ∨ (c = .exit 0 ∧ ∃ v acc, RgS w W lev mov C K p I v acc ∧ R = (0, acc))
/-- What a round has in hand. -/
structure RgH (w W : World) (lev mov : Value) (C K p I : Nat) (ips : Ps) (R : Nat × Ps) (F : Nat → Nat → Ps → Nat × Ps) (X : Nat → Nat) (Q : Nat → Ps) (k Eb Bm : Nat) (la : Option Addr) (lc : Nat) (ua : Option Addr) (uc : Nat) (ev v : Value) (acc : Ps) : Prop where
  s : RgS w W lev mov C K p I v acc
  len : acc.length ≤ nxN ips (I + k)
  eq : R = F (ips.length - I - k) (I + k) acc
  eb : W.heap[Eb]? = some (.cells #[.int .i64 (nxN ips (I + k) : Int), .int .i64 (szA ips (I + k) : Int), .slice la (kA ips (I + k)).length lc, .slice ua (userL (kA ips (I + k))).length uc, ev, .bool (decide (X (I + k) = 81)), .bool (decide (X (I + k) = 80))] 112 (0, 0))
  ru : Rd w (.slice ua (userL (kA ips (I + k))).length uc) (bv (userL (kA ips (I + k))))
  ce : ColO W Bm ev (Q (I + k))
  ne : ∀ j, v.ownBlock = some j → ev.ownBlock ≠ some j
  bm : w.heap.size ≤ Bm
theorem RgH.own {w W W' : World} {B : Nat} {lev mov : Value} {C K p I : Nat} {ips : Ps} {R : Nat × Ps} {F : Nat → Nat → Ps → Nat × Ps} {X : Nat → Nat} {Q : Nat → Ps} {k Eb Bm : Nat} {la ua : Option Addr} {lc uc : Nat} {ev v : Value} {acc : Ps} (h : RgH w W lev mov C K p I ips R F X Q k Eb Bm la lc ua uc ev v acc) (hB : w.heap.size ≤ B) {row : Option Nat} (hg : W.grownBy W' row) (hr : ∀ r, row = some r → B ≤ r ∧ ∃ o : Obj, W.heap[r]? = some o ∧ o.isCells = false) : RgH w W' lev mov C K p I ips R F X Q k Eb Bm la lc ua uc ev v acc := by
  have hk : ∀ {k : Nat} {cs : Array Value} {T : TypeId}, W.heap[k]? = some (.cells cs T (0, 0)) → W'.heap[k]? = some (.cells cs T (0, 0)) := fun h => by rw [grownBy_keeps_cells hg (fun r e => (hr r e).2) h rfl]; exact h
  exact ⟨h.s.own hB hg hr, h.len, h.eq, hk h.eb, h.ru, h.ce.step (fun k cs T h1 _ => by rw [hk h1]; exact h1.symm), h.ne, h.bm⟩
def RgA (w : World) (la0 : Option Addr) (ll0 lc0 : Nat) (ma0 : Option Addr) (lm0 mc0 : Nat) (C K p I : Nat) (ips : Ps) (R : Nat × Ps) (F : Nat → Nat → Ps → Nat × Ps) (X : Nat → Nat) (Q : Nat → Ps) (k : Nat) (a : Act) (W : World) : Prop :=
  ∃ Eb Bm la lc ua uc ev v acc vv, a = { tmps := #[.pointer (some ⟨p, 0, none⟩), .slice la0 ll0 lc0, .slice ma0 lm0 mc0, undef, .pointer (some ⟨w.heap.size, 0, none⟩), .pointer (some ⟨w.heap.size + 1, 0, none⟩), .pointer (some ⟨w.heap.size + 1 + 1, 0, none⟩), .pointer (some ⟨w.heap.size + 1 + 1 + 1, 0, none⟩), .pointer (some ⟨w.heap.size + 1 + 1 + 1 + 1, 0, none⟩), .pointer (some ⟨Eb, 0, none⟩), undef, .pointer (some ⟨p, 0, none⟩), .pointer (some ⟨p, 0, none⟩), .slice la0 ll0 lc0, .int .i64 (I : Int), .func (.func 102) #[] #[.pointer (some ⟨C, 0, none⟩), .pointer (some ⟨K, 0, none⟩)], vv, undef, undef, undef, undef, undef, undef, undef, undef, undef, undef, undef, undef, undef, undef, undef, undef, undef, undef], defers := [] } ∧ RgH w W (.slice la0 ll0 lc0) (.slice ma0 lm0 mc0) C K p I ips R F X Q k Eb Bm la lc ua uc ev v acc
set_option maxRecDepth 20000 in
set_option maxHeartbeats 6400000 in
theorem range_c (w : World) {p : Nat} {dat flt : List Nat} {ips : Ps} {da fa : Option Addr} {dc fc G : Nat} (T : Tab w p dat flt ips da dc fa fc G) (hb : By dat) (hl : dat.length ≤ 1000000000) (hbi : ByP ips) (hn : ips.length ≤ 1000000000) (hsp : ∀ i, i < ips.length → nxN ips i + szA ips i + 4 ≤ dat.length)
    {X : Nat → Nat} {Q : Nat → Ps} (hLk : ∀ i, i < ips.length → LookR dat (nxN ips i) (szA ips i) (kA ips i) (X i) (Q i)) {lev mov : Value} {least most : List Nat} (rl : Rd w lev (bv least)) (rm : Rd w mov (bv most)) (bl : By least) (bm : By most) :
    Calls Tryz.prog 31 #[.pointer (some ⟨p, 0, none⟩), lev, mov] w fun e w' => ∃ (I : Nat) (v' : Value), (I ≤ ips.length ∧ (I < ips.length → atU ips least I = true) ∧ (0 < I → atU ips least (I - 1) = false)) ∧
      e = .returned (.tuple #[v', .int .i64 ((rngF X Q (fun i => userL (kA ips i)) least most (ips.length - I) I []).1 : Int)]) ∧ ColO w' w.heap.size v' (rngF X Q (fun i => userL (kA ips i)) least most (ips.length - I) I []).2 ∧ Fr [] w w' := by
  have hmf : ∀ (fn : Fn) (first cap : Array Value) (w : World), (Instr.makeFunc fn first cap).run Tryz.prog w = .ok (.func fn first cap) w := fun _ _ _ _ => rfl
  have HT := hid T
  have HB := hid hb
  have HL := hid hl
  have HBI := hid hbi
  have HSP := hid hsp
  have HLK := hid hLk
  have HRL := hid rl
  have HRM := hid rm
  have BL := hid bl
  have BM' := hid bm
  obtain ⟨la0, lc0, hle⟩ := rl.form
  obtain ⟨ma0, mc0, hme⟩ := rm.form
  rw [bv_len] at hle hme
  subst hle
  subst hme
  obtain ⟨ll0, hll0⟩ : ∃ ll0, ll0 = least.length := ⟨_, rfl⟩
  obtain ⟨lm0, hlm0⟩ : ∃ lm0, lm0 = most.length := ⟨_, rfl⟩
  rw [← hll0] at HRL ⊢
  rw [← hlm0] at HRM ⊢
  clear T hb hl hbi hsp hLk rl rm bl bm hll0 hlm0
  obtain ⟨W1, hW1⟩ : ∃ W1, W1 = ((((w.alloc (.cells #[.slice la0 ll0 lc0] 22)).alloc (.cells #[.slice ma0 lm0 mc0] 22)).alloc (.cells #[.slice none 0 0] 36)).alloc (.cells #[.int .i64 0] 26)).alloc (.cells #[.slice none 0 0] 36) := ⟨_, rfl⟩
  have F1 : Hid (Fr [] w W1) := hid (by rw [hW1]; exact (((((Fr.refl _ _).alloc _).alloc _).alloc _).alloc _).alloc _)
  have B0 : Hid (W1.heap[w.heap.size]? = some (.cells #[.slice la0 ll0 lc0] 22 (0, 0))) := hid (by rw [hW1, blk_old _ _ (by simp <;> omega), blk_old _ _ (by simp <;> omega), blk_old _ _ (by simp <;> omega), blk_old _ _ (by simp)]; exact blk_new _ _)
  have B1 : Hid (W1.heap[w.heap.size + 1]? = some (.cells #[.slice ma0 lm0 mc0] 22 (0, 0))) := hid (by rw [hW1, blk_old _ _ (by simp <;> omega), blk_old _ _ (by simp <;> omega), blk_old _ _ (by simp)]; exact new_at _ _ (by simp))
  have B2 : Hid (W1.heap[w.heap.size + 1 + 1]? = some (.cells #[.slice none 0 0] 36 (0, 0))) := hid (by rw [hW1, blk_old _ _ (by simp <;> omega), blk_old _ _ (by simp)]; exact new_at _ _ (by simp))
  have B3 : Hid (W1.heap[w.heap.size + 1 + 1 + 1]? = some (.cells #[.int .i64 0] 26 (0, 0))) := hid (by rw [hW1, blk_old _ _ (by simp)]; exact new_at _ _ (by simp))
  have B4 : Hid (W1.heap[w.heap.size + 1 + 1 + 1 + 1]? = some (.cells #[.slice none 0 0] 36 (0, 0))) := hid (by rw [hW1]; exact new_at _ _ (by simp))
  have BO := hid (bof_c W1 (HT.out.fr F1.out) HBI.out hn (HRL.out.fr F1.out) BL.out)
  have c0 := blk_cell B0.out 0
  simp at c0
  refine callsIn_wide.1 (callsIn_of_wp_marks (n := 5) Tryz.func31 rfl trivial (wpIn_mono (wpIn_wide.2 ?_) noP_of) rfl)
  simp only [Tryz.ntmps31, List.size_toArray, List.length_cons, List.length_nil, Nat.reduceAdd, Nat.reduceSub, Array.replicate_succ, Array.replicate_zero, List.push_toArray, List.append_toArray, List.nil_append, List.cons_append]
  go_upto_region 2 with fail
  rw [← hW1]
  clear hW1
  go_wp2_with (go_at_call 74; refine BO.out.mono ?_; rintro e W2 ⟨I, rfl, hI, f2⟩; have HI := hid hI; have hI0 := hI.1; have F2 := hid f2; clear f2 hI)
  refine (looked_c W2 p I).mono ?_
  rintro e W3 ⟨C, K, rfl, hC3, hK3, f3⟩
  have F13 := hid (F2.out.trans f3)
  have S3 : Hid (RgS w W3 (.slice la0 ll0 lc0) (.slice ma0 lm0 mc0) C K p I (.slice none 0 0) []) := hid ⟨F1.out.trans F13.out, F13.out.at B0.out (by simp), F13.out.at B1.out (by simp), F13.out.at B2.out (by simp), F13.out.at B3.out (by simp), F13.out.at B4.out (by simp), hC3, hK3, ColO.nil _ _⟩
  have hb3 : w.heap.size ≤ W3.heap.size := S3.out.fr.size
  have hb4 : w.heap.size + 1 + 1 + 1 + 1 < W3.heap.size := blk_lt S3.out.b4
  clear hC3 hK3 f3 BO c0 B0 B1 B2 B3 B4 F13 F2
  go_wp2_with fail
  obtain ⟨F, hF⟩ : ∃ F, F = rngF X Q (fun i => userL (kA ips i)) least most := ⟨_, rfl⟩
  obtain ⟨R, hR⟩ : ∃ R, R = F (ips.length - I) I [] := ⟨_, rfl⟩
  have HF := hid hF
  have HR := hid hR
  refine wp_range2 (gf := 102) (x1 := .pointer (some ⟨C, 0, none⟩)) (x2 := .pointer (some ⟨K, 0, none⟩)) (by simp [Act.eval]) (fun _ _ => rfl) rfl (Inv := fun W => Fr [] w W ∧ W.heap[C]? = some (.cells #[.pointer (some ⟨p, 0, none⟩)] 25 (0, 0)) ∧ W.heap[K]? = some (.cells #[.int .i64 (I : Int)] 3 (0, 0)))
    (look1_gives (X := X) (Q := Q) (fun W f => HT.out.fr f.1) (fun W f => f.2.1) (fun W f => f.2.2) HB.out HL.out HBI.out hn hI0 HSP.out HLK.out)
    (RgJ w (.slice la0 ll0 lc0) (.slice ma0 lm0 mc0) C K p I ips R F) (RgX w (.slice la0 ll0 lc0) (.slice ma0 lm0 mc0) C K p I R) (RgA w la0 ll0 lc0 ma0 lm0 mc0 C K p I ips R F X Q)
    (fun k W ⟨v, acc, s, _⟩ => ⟨s.fr, s.hC, s.hK⟩) (fun k W W' row ⟨v, acc, s, h⟩ hg hr => ⟨v, acc, s.own hb3 hg hr, h⟩) ?_ (fun k a' _ W W' row ⟨Eb, Bm, la, lc, ua, uc, ev, v, acc, vv, ha, h⟩ hg hr => ⟨Eb, Bm, la, lc, ua, uc, ev, v, acc, vv, ha, h.own hb3 hg hr⟩) ⟨_, [], S3.out, by simp, hR⟩ ?_ ?_ ?_ ?_
  · intro c _ W W' row h hg hr
    rcases h with ⟨e, x, hx, h⟩ | ⟨e, v, acc, s, h⟩
    · exact .inl ⟨e, x, hx, h.own hb3 hg hr⟩
    · exact .inr ⟨e, v, acc, s.own hb3 hg hr, h⟩
  · rintro l k W0 Wa v hk ⟨v0, acc, s0, hlen, heq⟩ f ⟨la, lc, ua, uc, ev, rfl, ru, co⟩
    have ru' : Rd w (.slice ua (userL (kA ips (I + k))).length uc) (bv (userL (kA ips (I + k)))) := by
      obtain ⟨la', lc', ua', uc', sa⟩ := HT.out.rs (I + k) (by omega)
      have h1 := cell_fr (s0.fr.trans f) sa.c3
      rw [ru, Option.some.injEq] at h1
      rw [h1]
      exact sa.ru
    have co2 := co
    obtain ⟨cse, oe, _⟩ := co
    obtain ⟨ea, ec, hev, _⟩ := ownsRow_slice oe
    have H1 : Hid (∀ W', Fr [] Wa W' → W'.heap[Wa.heap.size]? = some (.cells #[.int .i64 (nxN ips (I + k) : Int), .int .i64 (szA ips (I + k) : Int), .slice la (kA ips (I + k)).length lc, .slice ua (userL (kA ips (I + k))).length uc, ev, .bool (decide (X (I + k) = 81)), .bool (decide (X (I + k) = 80))] 112 (0, 0)) → RgH w W' (.slice la0 ll0 lc0) (.slice ma0 lm0 mc0) C K p I ips R F X Q k Wa.heap.size W0.heap.size la lc ua uc ev v0 acc) := hid (fun W' f' h' => ⟨(s0.fr' f).fr' f', hlen, heq, h', ru', co2.fr f', fun j hj => (fun e => by
      obtain ⟨cs0, o0, _⟩ := s0.col
      have h1 := (o0.lt j hj).2
      have h2 := (oe.lt j e).1
      omega), s0.fr.size⟩)
    clear co2 oe ru ru' heq hlen s0 f
    subst hev
    refine wpIn_reg (fun ⟨_, _, h⟩ => h) rfl ?_
    rw [fold1]
    simp only [List.setIfInBounds_toArray, List.set_cons_succ, List.set_cons_zero]
    go_wp2
    exact ⟨keeps_fr ((Fr.refl _ _).alloc _), Wa.heap.size, W0.heap.size, la, lc, ua, uc, _, v0, acc, _, rfl, H1.out _ ((Fr.refl _ _).alloc _) (blk_new _ _)⟩
  · rintro l k a' Wb hk ⟨Eb, Bm, la, lc, ua, uc, ev, v, acc, vv, rfl, h⟩
    have H := hid h
    have hik : I + k < ips.length := by omega
    have LF := hid (look_facts (HLK.out _ hik) (HSP.out _ hik))
    have e3 := blk_cell h.eb 3
    have e4 := blk_cell h.eb 4
    have e5 := blk_cell h.eb 5
    have e6 := blk_cell h.eb 6
    obtain ⟨cse, oe, _⟩ := h.ce
    obtain ⟨ea, ec, hev, _⟩ := ownsRow_slice oe
    obtain ⟨csv, ov, _⟩ := h.s.col
    obtain ⟨va, vc, hvv, _⟩ := ownsRow_slice ov
    simp at e3 e4 e5 e6
    have x0 := blk_cell h.s.b0 0
    have x1 := blk_cell h.s.b1 0
    have x4 := blk_cell h.s.b4 0
    simp at x0 x1 x4
    have RE : Hid (R = if X (I + k) = 0 then (if beh (userL (kA ips (I + k))) most = true then (0, acc ++ (Q (I + k)).filter (inR least most)) else F (ips.length - I - (k + 1)) (I + (k + 1)) (acc ++ (Q (I + k)).filter (inR least most))) else (X (I + k), [])) := hid (by
      have e := h.eq
      rw [show ips.length - I - k = (ips.length - I - (k + 1)) + 1 from by omega] at e
      rw [e, HF.out, rngF]
      rfl)
    have hnx : Hid (nxN ips (I + (k + 1)) = nxN ips (I + k) + szA ips (I + k) + 4) := hid (by rw [← Nat.add_assoc]; rfl)
    have bad : Hid (∀ x : Nat, X (I + k) = x → x ≠ 0 → R = (x, [])) := hid (fun x hx h0 => by rw [RE.out, if_neg (by rw [hx]; exact h0), hx])
    clear h ov oe hF hR
    refine wpIn_block (wpIn_seq_k ?_)
    intro K1 hK1
    refine wpIn_seq_k ?_
    intro K2 hK2
    refine wpIn_reg (fun ⟨_, _, h⟩ => h) rfl ?_
    rcases LF.out.2.2 with hX | hX | hX
    · rw [hX, decide_eq_false (by omega)] at e5 e6
      go_wp2_with (go_at_call 55; refine (errno0_c Wb).mono ?_; rintro e Wc ⟨rfl, fc⟩; have FC := hid fc; clear fc)
      refine wpIn_seq_k ?_
      intro K3 hK3
      refine wpIn_reg (fun ⟨_, _, h⟩ => h) rfl ?_
      go_wp2
      refine wpIn_cond_false (by simp [Act.eval]) ?_
      refine wpIn_skip ?_
      refine hK1 _ _ ?_
      clear hK1 K1
      have SC := hid (H.out.s.fr' FC.out)
      subst hev
      subst hvv
      obtain ⟨csl, ol, _⟩ := SC.out.col
      have GR : Hid (∀ W, Wc.grownBy W (Value.slice va acc.length vc).ownBlock → Fr [] w W) := hid (fun W g => SC.out.fr.grown g (fun k e => .inr (ol.lt k e).1))
      have ON : Hid (∀ (k : Nat) (cs : Array Value) (T : TypeId), Wc.heap[k]? = some (.cells cs T (0, 0)) → T ≠ 47 → ∀ W, Wc.grownBy W (Value.slice va acc.length vc).ownBlock → W.heap[k]? = some (.cells cs T (0, 0))) := hid (fun k cs T h1 hT W g => by rw [g.block k (blk_lt h1) (fun e => own_not ol h1 hT e.symm)]; exact h1)
      have AW := hid (appw_c Wc SC.out.col SC.out.fr.size (H.out.ce.fr FC.out) H.out.bm H.out.ne (fun W g => HRL.out.fr (GR.out W g)) (fun W g => HRM.out.fr (GR.out W g)) BL.out BM'.out LF.out.2.1 (by have := LF.out.1; have := H.out.len; have := HSP.out _ hik; have := HL.out; omega))
      clear ol
      obtain ⟨ac2, hac2⟩ : ∃ ac2, ac2 = acc ++ (Q (I + k)).filter (inR least most) := ⟨_, rfl⟩
      rw [← hac2] at AW
      have HAC := hid hac2
      clear hac2
      have c3 := cell_fr FC.out e3
      have c4 := cell_fr FC.out e4
      have d0 := cell_fr FC.out x0
      have d1 := cell_fr FC.out x1
      have d4 := cell_fr FC.out x4
      clear e3 e4 e5 e6 x0 x1 x4
      refine wpIn_seq_k ?_
      intro K3 hK3
      refine wpIn_reg (fun ⟨_, _, h⟩ => h) rfl ?_
      go_wp2_with (go_at_call 75; refine AW.out.mono ?_; rintro e Wd ⟨v', rfl, co, g⟩; have SD := hid (SC.out.next (v' := v') g co); have KD := hid (keeps_next (B := W3.heap.size) (v' := v') SC.out g); have q4 := hid (ON.out _ _ _ SC.out.b4 (by decide) Wd g); have qe := hid (ON.out _ _ _ (FC.out.at H.out.eb (by simp)) (by decide) Wd g); obtain ⟨csd, od, hd⟩ := co; obtain ⟨ad, cd, hvd, hcd⟩ := ownsRow_slice od; subst hvd; have y4 := blk_frozen q4.out 0; have z4 := blk_cell q4.out 0; simp at z4; clear g od hd hcd)
      obtain ⟨al, hal⟩ : ∃ al, al = ac2.length := ⟨_, rfl⟩
      rw [← hal] at SD KD ⊢
      have HAL := hid hal
      clear hal
      obtain ⟨We, hWe⟩ : ∃ We, We = Wd.setCell ⟨w.heap.size + 1 + 1 + 1 + 1, 0, none⟩ (.slice ad al cd) := ⟨_, rfl⟩
      have qf : We.heap[Eb]? = some (.cells #[.int .i64 (nxN ips (I + k) : Int), .int .i64 (szA ips (I + k) : Int), .slice la (kA ips (I + k)).length lc, .slice ua (userL (kA ips (I + k))).length uc, .slice ea (Q (I + k)).length ec, .bool (decide (X (I + k) = 81)), .bool (decide (X (I + k) = 80))] 112 (0, 0)) := by
        rw [hWe, blk_setne _ _ _ (fun e => by
          have h1 := qe.out
          rw [e, q4.out] at h1
          simp only [Option.some.injEq, Obj.cells.injEq] at h1
          exact absurd h1.2.1 (by decide))]
        exact qe.out
      rw [← hWe] at SD KD ⊢
      have c3' := blk_cell qf 3
      have d1' := blk_cell SD.out.b1 0
      simp at c3' d1'
      have RU := hid (H.out.ru.fr SD.out.fr)
      have BU : Hid (By (userL (kA ips (I + k)))) := hid ((kA_by HBI.out (I + k)).1.take _)
      have BH := hid (behind_c We RU.out BU.out (HRM.out.fr SD.out.fr) BM'.out)
      have hre := RE.out
      rw [if_pos hX, ← HAC.out] at hre
      have HRE := hid hre
      have HLN : Hid (ac2.length ≤ nxN ips (I + (k + 1))) := hid (by
        rw [HAC.out, List.length_append, hnx.out]
        have := List.length_filter_le (inR least most) (Q (I + k))
        have := LF.out.1
        have := H.out.len
        omega)
      clear hre AW c3 c4 d0 d1 d4 z4 y4 qf hWe RE bad
      generalize (userL (kA ips (I + k))).length = ul at *
      obtain ⟨bb, hbb⟩ : ∃ bb, bb = beh (userL (kA ips (I + k))) most := ⟨_, rfl⟩
      rw [← hbb] at BH HRE
      clear hbb
      refine wpIn_seq_k ?_
      intro K5 hK5
      refine wpIn_reg (fun ⟨_, _, h⟩ => h) rfl ?_
      cases bb with
      | true =>
        go_wp2_with (go_at_call 76; refine BH.out.mono ?_; rintro e Wf ⟨rfl, h⟩; rw [h]; clear h)
        refine wpIn_cond_true (by simp [Act.eval]) ?_
        refine wpIn_exit ?_
        refine ⟨(keeps_fr FC.out).trans KD.out, .inr ⟨rfl, _, _, SD.out, ?_⟩⟩
        have := HRE.out
        simpa using this
      | false =>
        go_wp2_with (go_at_call 76; refine BH.out.mono ?_; rintro e Wf ⟨rfl, h⟩; rw [h]; clear h)
        refine wpIn_cond_false (by simp [Act.eval]) ?_
        refine wpIn_skip ?_
        refine ⟨(keeps_fr FC.out).trans KD.out, _, _, SD.out, HLN.out, ?_⟩
        have := HRE.out
        simpa using this
    · rw [hX, decide_eq_false (by omega)] at e5
      rw [hX, decide_eq_true rfl] at e6
      go_wp2_with (go_at_call 55; refine (errno80_c Wb).mono ?_; rintro e Wc ⟨rfl, fc⟩; have FC := hid fc; clear fc)
      refine wpIn_seq_k ?_
      intro K3 hK3
      refine wpIn_reg (fun ⟨_, _, h⟩ => h) rfl ?_
      go_wp2
      refine wpIn_cond_true (by simp [Act.eval]) ?_
      refine wpIn_seq_k ?_
      intro K4 hK4
      refine wpIn_reg (fun ⟨_, _, h⟩ => h) rfl ?_
      have SC := hid (H.out.s.fr' FC.out)
      have z2 := blk_cell SC.out.b2 0
      have z3 := blk_cell SC.out.b3 0
      have y2 := blk_frozen SC.out.b2 0
      have y3 := blk_frozen SC.out.b3 0
      simp at z2 z3
      go_wp2
      refine wpIn_ret ?_
      have q2 := blk_set SC.out.b2 0 (.slice none 0 0)
      have q3 : (Wc.setCell ⟨w.heap.size + 1 + 1, 0, none⟩ (.slice none 0 0)).heap[w.heap.size + 1 + 1 + 1]? = some (.cells #[.int .i64 0] 26 (0, 0)) := by rw [blk_setne _ _ _ (by omega)]; exact SC.out.b3
      refine ⟨keeps_set (keeps_set (keeps_fr FC.out) SC.out.b2) q3, .inl ⟨rfl, 80, bad.out _ hX (by omega), (SC.out.fr.set _ _ (.inr (by omega))).set _ _ (.inr (by omega)), ?_, ?_⟩⟩
      · rw [blk_setne _ _ _ (by omega), q2]; rfl
      · rw [blk_set q3]; rfl
    · rw [hX, decide_eq_true rfl] at e5
      rw [hX, decide_eq_false (by omega)] at e6
      go_wp2_with (go_at_call 55; refine (errno81_c Wb).mono ?_; rintro e Wc ⟨rfl, fc⟩; have FC := hid fc; clear fc)
      refine wpIn_seq_k ?_
      intro K3 hK3
      refine wpIn_reg (fun ⟨_, _, h⟩ => h) rfl ?_
      go_wp2
      refine wpIn_cond_true (by simp [Act.eval]) ?_
      refine wpIn_seq_k ?_
      intro K4 hK4
      refine wpIn_reg (fun ⟨_, _, h⟩ => h) rfl ?_
      have SC := hid (H.out.s.fr' FC.out)
      have z2 := blk_cell SC.out.b2 0
      have z3 := blk_cell SC.out.b3 0
      have y2 := blk_frozen SC.out.b2 0
      have y3 := blk_frozen SC.out.b3 0
      simp at z2 z3
      go_wp2
      refine wpIn_ret ?_
      have q2 := blk_set SC.out.b2 0 (.slice none 0 0)
      have q3 : (Wc.setCell ⟨w.heap.size + 1 + 1, 0, none⟩ (.slice none 0 0)).heap[w.heap.size + 1 + 1 + 1]? = some (.cells #[.int .i64 0] 26 (0, 0)) := by rw [blk_setne _ _ _ (by omega)]; exact SC.out.b3
      refine ⟨keeps_set (keeps_set (keeps_fr FC.out) SC.out.b2) q3, .inl ⟨rfl, 81, bad.out _ hX (by omega), (SC.out.fr.set _ _ (.inr (by omega))).set _ _ (.inr (by omega)), ?_, ?_⟩⟩
      · rw [blk_setne _ _ _ (by omega), q2]; rfl
      · rw [blk_set q3]; rfl
  · rintro W ⟨v, acc, s, _, heq⟩ hD
    have HE : Hid (R = (0, acc)) := hid (by rw [heq, Nat.sub_self, HF.out]; rfl)
    clear heq
    have HD := hid hD
    have HS := hid s
    obtain ⟨csv, ov, _⟩ := s.col
    obtain ⟨va, vc, hvv, _⟩ := ownsRow_slice ov
    subst hvv
    have z2 := blk_cell s.b2 0
    have z3 := blk_cell s.b3 0
    have z4 := blk_cell s.b4 0
    have y2 := blk_frozen s.b2 0
    have y3 := blk_frozen s.b3 0
    simp at z2 z3 z4
    have q3 : (W.setCell ⟨w.heap.size + 1 + 1, 0, none⟩ (.slice va acc.length vc)).heap[w.heap.size + 1 + 1 + 1]? = some (.cells #[.int .i64 0] 26 (0, 0)) := by rw [blk_setne _ _ _ (by omega)]; exact s.b3
    have Q3 := hid q3
    clear s hD q3 ov
    dsimp only
    go_wp2
    refine ⟨by simp, .inl ⟨_, _, rfl, run_takeDeferred (by rw [blk_setne _ _ _ (by omega), blk_setne _ _ _ (by omega)]; exact HD.out), ?_⟩⟩
    refine ⟨_, ret_cc rfl (g := w.heap.size + 1 + 1) (k := w.heap.size + 1 + 1 + 1) (by simp) (by simp) (load_one (T := 36) (a := va) (n := acc.length) (c := vc) (by rw [World.putObj_heap_other (by omega), blk_setne _ _ _ (by omega), blk_set HS.out.b2]; rfl)) (load_int (T := 26) (x := 0) (by rw [World.putObj_heap_other (by omega), blk_set Q3.out]; rfl)), ?_⟩
    refine ⟨I, _, HI.out, by rw [← HF.out, ← HR.out, HE.out]; rfl, ?_, ?_⟩
    · rw [← HF.out, ← HR.out, HE.out]
      refine HS.out.col.step (fun k cs T h1 hT => ?_)
      have n2 : k ≠ w.heap.size + 1 + 1 := fun e => by
        subst e
        rw [HS.out.b2] at h1
        simp only [Option.some.injEq, Obj.cells.injEq] at h1
        rcases hT with rfl | rfl
        · exact absurd h1.2.1 (by decide)
        · exact absurd h1.2.1 (by decide)
      have n3 : k ≠ w.heap.size + 1 + 1 + 1 := fun e => by
        subst e
        rw [HS.out.b3] at h1
        simp only [Option.some.injEq, Obj.cells.injEq] at h1
        rcases hT with rfl | rfl
        · exact absurd h1.2.1 (by decide)
        · exact absurd h1.2.1 (by decide)
      have n4 : k ≠ W3.heap.size := fun e => by
        subst e
        rw [HD.out] at h1
        cases h1
      rw [World.putObj_heap_other n4, blk_setne _ _ _ n3, blk_setne _ _ _ n2]
    · exact ((HS.out.fr.set _ _ (.inr (by omega))).set _ _ (.inr (by omega))).grown (grownBy_putObj' _ _ _) (fun k e => by cases e; exact .inr (by omega))
  · rintro c W (⟨rfl, x, hx, h⟩ | ⟨rfl, v, acc, s, hx⟩) hD
    · have HD := hid hD
      have HS := hid h
      clear h hD
      dsimp only
      go_wp2
      refine ⟨by simp, .inl ⟨_, _, rfl, run_takeDeferred HD.out, ?_⟩⟩
      refine ⟨_, ret_cc rfl (g := w.heap.size + 1 + 1) (k := w.heap.size + 1 + 1 + 1) (by simp) (by simp) (load_one (T := 36) (a := none) (n := 0) (c := 0) (by rw [World.putObj_heap_other (by omega)]; exact HS.out.b2)) (load_int (T := 26) (x := (x : Int)) (by rw [World.putObj_heap_other (by omega)]; exact HS.out.b3)), ?_⟩
      refine ⟨I, _, HI.out, by rw [← HF.out, ← HR.out, hx], ?_, ?_⟩
      · rw [← HF.out, ← HR.out, hx]; exact ColO.nil _ _
      · exact HS.out.fr.grown (grownBy_putObj' _ _ _) (fun k e => by cases e; exact .inr (by omega))
    · have HE := hid hx
      clear hx
      have HD := hid hD
      have HS := hid s
      obtain ⟨csv, ov, _⟩ := s.col
      obtain ⟨va, vc, hvv, _⟩ := ownsRow_slice ov
      subst hvv
      have z2 := blk_cell s.b2 0
      have z3 := blk_cell s.b3 0
      have z4 := blk_cell s.b4 0
      have y2 := blk_frozen s.b2 0
      have y3 := blk_frozen s.b3 0
      simp at z2 z3 z4
      have q3 : (W.setCell ⟨w.heap.size + 1 + 1, 0, none⟩ (.slice va acc.length vc)).heap[w.heap.size + 1 + 1 + 1]? = some (.cells #[.int .i64 0] 26 (0, 0)) := by rw [blk_setne _ _ _ (by omega)]; exact s.b3
      have Q3 := hid q3
      clear s hD q3 ov
      dsimp only
      go_wp2
      refine ⟨by simp, .inl ⟨_, _, rfl, run_takeDeferred (by rw [blk_setne _ _ _ (by omega), blk_setne _ _ _ (by omega)]; exact HD.out), ?_⟩⟩
      refine ⟨_, ret_cc rfl (g := w.heap.size + 1 + 1) (k := w.heap.size + 1 + 1 + 1) (by simp) (by simp) (load_one (T := 36) (a := va) (n := acc.length) (c := vc) (by rw [World.putObj_heap_other (by omega), blk_setne _ _ _ (by omega), blk_set HS.out.b2]; rfl)) (load_int (T := 26) (x := 0) (by rw [World.putObj_heap_other (by omega), blk_set Q3.out]; rfl)), ?_⟩
      refine ⟨I, _, HI.out, by rw [← HF.out, ← HR.out, HE.out]; rfl, ?_, ?_⟩
      · rw [← HF.out, ← HR.out, HE.out]
        refine HS.out.col.step (fun k cs T h1 hT => ?_)
        have n2 : k ≠ w.heap.size + 1 + 1 := fun e => by
          subst e
          rw [HS.out.b2] at h1
          simp only [Option.some.injEq, Obj.cells.injEq] at h1
          rcases hT with rfl | rfl
          · exact absurd h1.2.1 (by decide)
          · exact absurd h1.2.1 (by decide)
        have n3 : k ≠ w.heap.size + 1 + 1 + 1 := fun e => by
          subst e
          rw [HS.out.b3] at h1
          simp only [Option.some.injEq, Obj.cells.injEq] at h1
          rcases hT with rfl | rfl
          · exact absurd h1.2.1 (by decide)
          · exact absurd h1.2.1 (by decide)
        have n4 : k ≠ W3.heap.size := fun e => by
          subst e
          rw [HD.out] at h1
          cases h1
        rw [World.putObj_heap_other n4, blk_setne _ _ _ n3, blk_setne _ _ _ n2]
      · exact ((HS.out.fr.set _ _ (.inr (by omega))).set _ _ (.inr (by omega))).grown (grownBy_putObj' _ _ _) (fun k e => by cases e; exact .inr (by omega))
theorem atU_nil (ips : Ps) (k : Nat) : atU ips [] k = true := by unfold atU; exact decide_eq_true (cmpN_nil _)
theorem tall_c (w : World) {p : Nat} {dat flt : List Nat} {ips : Ps} {da fa : Option Addr} {dc fc G : Nat} (T : Tab w p dat flt ips da dc fa fc G) (hb : By dat) (hl : dat.length ≤ 1000000000) (hbi : ByP ips) (hn : ips.length ≤ 1000000000) (hsp : ∀ i, i < ips.length → nxN ips i + szA ips i + 4 ≤ dat.length)
    {X : Nat → Nat} {Q : Nat → Ps} (hLk : ∀ i, i < ips.length → LookR dat (nxN ips i) (szA ips i) (kA ips i) (X i) (Q i)) :
    Calls Tryz.prog 27 #[.pointer (some ⟨p, 0, none⟩)] w fun e w' => ∃ v' : Value,
      e = .returned (.tuple #[v', .int .i64 ((rngF X Q (fun i => userL (kA ips i)) [] [] ips.length 0 []).1 : Int)]) ∧ ColO w' w.heap.size v' (rngF X Q (fun i => userL (kA ips i)) [] [] ips.length 0 []).2 ∧ Fr [] w w' := by
  have RC := hid (range_c w T hb hl hbi hn hsp hLk (lev := .slice none 0 0) (mov := .slice none 0 0) (least := []) (most := []) (.inl ⟨rfl, rfl⟩) (.inl ⟨rfl, rfl⟩) (fun x h => by simp at h) (fun x h => by simp at h))
  clear T hb hl hbi hn hsp hLk
  go_enter Tryz.func27, Tryz.ntmps27
  go_wp2_with (go_at_call 31; refine RC.out.mono ?_; rintro e W1 ⟨I, v', ⟨_, _, hI⟩, rfl, co, f1⟩; have CO := hid co; obtain ⟨cs, o, _⟩ := co; obtain ⟨a, c, hv, _⟩ := ownsRow_slice o; subst hv; have F1 := hid f1; have HI := hid hI; clear f1 hI o)
  have h0 : I = 0 := by
    rcases Nat.eq_zero_or_pos I with h | h
    · exact h
    · have := HI.out h; rw [atU_nil] at this; cases this
  subst h0
  go_ret2
  exact ⟨_, rfl, CO.out, F1.out⟩
end Go.Proofs.YtnnookkcnmgbfaaGreat
