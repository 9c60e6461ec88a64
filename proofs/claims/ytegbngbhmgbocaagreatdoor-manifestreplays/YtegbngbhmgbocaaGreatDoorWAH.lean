/-
  One table more, one less, one in the middle: what that does to a version of the call's own.
-/
import Derived.Test.YtegbngbhmgbocaaGreatDoorJ40
namespace Go.Proofs.YtegbngbhmgbocaaGreatDoor
open Go.ChangeShapes Go.WideShapes Go.ChangeAt Go.RowKit

theorem LvV.new {wb W : World} {K : Nat} {a b c : Int} (hb : W.heap[K]? = some (.cells #[.int .i64 a, .int .i64 b, .int .u64 c, .slice none 0 0, .slice none 0 0, .slice none 0 0, .slice none 0 0, .slice none 0 0] 28 (0, 0))) (f : Fr [] wb W) (hk : wb.heap.size ≤ K) : LvV wb W K a b c (fun _ => []) (fun _ => none) (fun _ => 0) (fun _ => 0) :=
  ⟨hb, fun _ _ => rfl, fun _ _ => ⟨rfl, .inl ⟨rfl, rfl, rfl⟩⟩, fun i j _ _ _ g e => by simp [Value.ownBlock] at e, f, hk, fun _ _ x hx => by simp at hx, fun _ _ x hx => by simp at hx⟩
theorem XO.keep {B B' : Nat} {W W' : World} {f : Fl} {la ma : Option Addr} {lc mc : Nat} (h : XO B W f la lc ma mc) {a : Option Addr} {n c : Nat} {xs : List Value} (o : OwnP W B' a n c xs) (sb : ∀ k, k < W.heap.size → (Value.slice a n c).ownBlock ≠ some k → W'.heap[k]? = W.heap[k]?) : XO B W' f la lc ma mc := by
  have rowW : ∀ {v : Value} {n : Nat} {xs : List Value}, W.ownsRow B 5 1 v n xs → W'.ownsRow B 5 1 v n xs := fun {v n xs} oo => ownsRow_of_block oo fun k hk => by
    rcases oo.2 with ⟨h1, _⟩ | ⟨g', cap, cur, h1, _, h3, _⟩
    · rw [h1] at hk; simp [Value.ownBlock] at hk
    · rw [h1] at hk
      simp [Value.ownBlock] at hk
      subst hk
      exact sb _ (blk_lt h3) (o.not h3 (by decide))
  exact ⟨rowW h.ol, rowW h.om⟩
/-- One table more. -/
theorem LvV.app1 {wb W : World} {K : Nat} {a b c : Int} {Y : Nat → List Fx} {kd : Nat → Option Addr} {kl kc : Nat → Nat} (h : LvV wb W K a b c Y kd kl kc) {i : Nat} (hi : i < 5) {x : Fx} (xo : XO wb.heap.size W x.f x.la x.lc x.ma x.mc) (hb : Bys x.f) (hl : kl i ≤ 1000000) {G : Nat} (hG : W.heap[G]? = some (.cells #[.int .i64 x.f.num, .int .i64 x.f.size, .slice x.la x.f.least.length x.lc, .slice x.ma x.f.most.length x.mc] 62 (0, 0))) :
    ∃ a6 c6 w6, (Builtin.append_ #[25, 25] 25 #[(.slice (kd i) (kl i) (kc i)), .slice (some ⟨G, 0, none⟩) 1 1]).run Tryz.prog W = .ok (.slice a6 (kl i + 1) c6) w6 ∧ Fr [] wb w6 ∧ (w6.cell? ⟨K, 3 + i, none⟩ = some (.slice (kd i) (kl i) (kc i)) ∧ w6.frozen? ⟨K, 3 + i, none⟩ = false) ∧ LvV wb (w6.setCell ⟨K, 3 + i, none⟩ (.slice a6 (kl i + 1) c6)) K a b c (upA Y i (Y i ++ [x])) (upA kd i a6) (upA kl i (kl i + 1)) (upA kc i c6) := by
  obtain ⟨a6, c6, w6, hr, o6, g6, q6⟩ := run_appP (h.own i hi) hG (encX_one x) hl h.fr.size 25
  have sb : ∀ k, k < W.heap.size → (Value.slice (kd i) (kl i) (kc i)).ownBlock ≠ some k → w6.heap[k]? = W.heap[k]? := fun k hk hne => g6.block k hk (fun e => hne e.symm)
  have fw : Fr [] wb w6 := h.fr.grown g6 (fun k e => .inr ((h.own i hi).lt e).2)
  obtain ⟨u1, u2⟩ := h.upd hi (ys := Y i ++ [x]) (n' := kl i + 1) (by rw [List.length_append, h.len i hi]; rfl) (OwnP.of (by rw [List.flatMap_append, show [x].flatMap encX = encX x from by simp]; exact o6)) fw sb (q6.imp id (fun e => ⟨_, e, Nat.le_refl _⟩)) (fun y hy => by
    rcases List.mem_append.1 hy with hy | hy
    · exact .inl hy
    · have e : y = x := by simpa using hy
      subst e
      exact .inr ⟨xo.keep (h.own i hi) sb, hb⟩)
  exact ⟨a6, c6, w6, hr, fw, ⟨vn_cell u1 hi, blk_frozen u1 _⟩, u2⟩
/-- One table less. -/
theorem LvV.del1 {wb W : World} {K : Nat} {a b c : Int} {Y : Nat → List Fx} {kd : Nat → Option Addr} {kl kc : Nat → Nat} (h : LvV wb W K a b c Y kd kl kc) {i k g off : Nat} (hi : i < 5) (ha : kd i = some ⟨g, off, none⟩) (hk : k < kl i) {A : Addr} {c2 : Nat} (hA : k + 1 < kl i → A = ⟨g, (k + 1) * 4, none⟩) (hl : kl i ≤ 1000000) :
    ∃ a6 c6 w6, (Builtin.append_ #[25, 25] 25 #[.slice (some ⟨g, off, none⟩) k k, .slice (some A) (kl i - (k + 1)) c2]).run Tryz.prog W = .ok (.slice a6 (kl i - 1) c6) w6 ∧ Fr [] wb w6 ∧ (w6.cell? ⟨K, 3 + i, none⟩ = some (.slice (kd i) (kl i) (kc i)) ∧ w6.frozen? ⟨K, 3 + i, none⟩ = false) ∧ LvV wb (w6.setCell ⟨K, 3 + i, none⟩ (.slice a6 (kl i - 1) c6)) K a b c (upA Y i ((Y i).take k ++ (Y i).drop (k + 1))) (upA kd i a6) (upA kl i (kl i - 1)) (upA kc i c6) := by
  have ow := h.own i hi
  have hlen := h.len i hi
  rw [ha] at ow
  obtain ⟨a6, c6, w6, hr, o6, g6, q6⟩ := run_delP ow hk (c2 := c2) hA hl h.fr.size 25
  have sb : ∀ k, k < W.heap.size → (Value.slice (kd i) (kl i) (kc i)).ownBlock ≠ some k → w6.heap[k]? = W.heap[k]? := fun k hk _ => g6.block k hk (by simp)
  have fw : Fr [] wb w6 := h.fr.grown g6 (fun k e => by cases e)
  obtain ⟨u1, u2⟩ := h.upd hi (ys := (Y i).take k ++ (Y i).drop (k + 1)) (n' := kl i - 1) (by rw [List.length_append, List.length_take, List.length_drop]; omega) (by rw [List.flatMap_append, ← flat4_take, ← flat4_drop]; exact o6) fw sb (q6.imp (fun e => by rw [e, ha]; rfl) (fun e => ⟨_, e, Nat.le_refl _⟩)) (fun y hy => by
    rcases List.mem_append.1 hy with hy | hy
    · exact .inl (List.mem_of_mem_take hy)
    · exact .inl (List.mem_of_mem_drop hy))
  exact ⟨a6, c6, w6, hr, fw, ⟨vn_cell u1 hi, blk_frozen u1 _⟩, u2⟩
/-- All but the block of a list, and one of the call's own, is as it was. -/
structure Apt (wb W W' : World) (v : Value) (g : Nat) : Prop where
  fr : Fr [] wb W'
  sz : W.heap.size ≤ W'.heap.size
  sb : ∀ k, k < W.heap.size → v.ownBlock ≠ some k → W'.heap[k]? = W.heap[k]?
  lies : v.ownBlock = some g ∨ W.heap.size ≤ g
  ge : wb.heap.size ≤ g
theorem Apt.fr' {wb W W' W'' : World} {v : Value} {g : Nat} (h : Apt wb W W' v g) (f : Fr [] W' W'') : Apt wb W W'' v g :=
  ⟨h.fr.trans f, Nat.le_trans h.sz f.size, fun k hk hne => (f.block k (Nat.lt_of_lt_of_le hk h.sz) (by simp)).trans (h.sb k hk hne), h.lies, h.ge⟩
theorem Apt.off {wb W W' : World} {v : Value} {g : Nat} (h : Apt wb W W' v g) {k : Nat} (hk : k < W.heap.size) (hne : v.ownBlock ≠ some k) : k ≠ g := by
  intro e
  subst e
  rcases h.lies with h1 | h1
  · exact hne h1
  · omega
theorem Apt.set {wb W W' : World} {v : Value} {g : Nat} (h : Apt wb W W' v g) (i : Nat) (u : Value) : Apt wb W (W'.setCell ⟨g, i, none⟩ u) v g :=
  ⟨h.fr.set _ _ (.inr h.ge), by simpa [World.setCell] using h.sz, fun k hk hne => by rw [blk_setne _ _ _ (h.off hk hne)]; exact h.sb k hk hne, h.lies, h.ge⟩
theorem Apt.row {wb W W' : World} {v : Value} {g : Nat} (h : Apt wb W W' v g) (c : Array Value) : Apt wb W (W'.setRow g c) v g :=
  ⟨h.fr.row4 _ (.inr h.ge), by simpa [World.setRow] using h.sz, fun k hk hne => by rw [setRow_other W' g k c (h.off hk hne)]; exact h.sb k hk hne, h.lies, h.ge⟩
theorem Apt.at {wb W W' : World} {v : Value} {g : Nat} (h : Apt wb W W' v g) {k : Nat} {o : Obj} (hk : W.heap[k]? = some o) (hne : v.ownBlock ≠ some k) : W'.heap[k]? = some o := (h.sb k (blk_lt hk) hne).trans hk
/-- append(l, File{}). -/
theorem LvV.ins0 {wb W : World} {K : Nat} {a b c : Int} {Y : Nat → List Fx} {kd : Nat → Option Addr} {kl kc : Nat → Nat} (h : LvV wb W K a b c Y kd kl kc) {i : Nat} (hi : i < 5) (hl : kl i ≤ 1000000) {G : Nat} (hG : W.heap[G]? = some (.cells #[.int .i64 0, .int .i64 0, .slice none 0 0, .slice none 0 0] 62 (0, 0))) :
    ∃ g cap cur w6, (Builtin.append_ #[25, 25] 25 #[(.slice (kd i) (kl i) (kc i)), .slice (some ⟨G, 0, none⟩) 1 1]).run Tryz.prog W = .ok (.slice (some ⟨g, 0, none⟩) (kl i + 1) cap) w6 ∧ Apt wb W w6 (Value.slice (kd i) (kl i) (kc i)) g ∧ (w6.heap[g]? = some (.cells cur 62 (0, 0)) ∧ cur.size = cap * 4 ∧ kl i + 1 ≤ cap ∧ cap ≤ maxLen) ∧ cur.toList.take ((kl i + 1) * 4) = (Y i).flatMap encX ++ [.int .i64 0, .int .i64 0, .slice none 0 0, .slice none 0 0] := by
  obtain ⟨a6, c6, w6, hr, o6, g6, q6⟩ := run_appP (h.own i hi) hG (fun u hu => by simp at hu; rcases hu with rfl | rfl | rfl | rfl <;> rfl) hl h.fr.size 25
  rcases o6.2 with ⟨_, h2⟩ | ⟨g, cap, cur, h1, h2, h3, h4, h5, h6, h7⟩
  · omega
  · simp only [Value.slice.injEq] at h1
    obtain ⟨rfl, _, rfl⟩ := h1
    refine ⟨g, c6, cur, w6, hr, ⟨h.fr.grown g6 (fun k e => .inr ((h.own i hi).lt e).2), g6.size, fun k hk hne => g6.block k hk (fun e => hne e.symm), ?_, h2⟩, ⟨h3, h6, h4, h5⟩, h7⟩
    rcases q6 with q | q
    · exact .inl (by rw [← q]; rfl)
    · exact .inr (by simp [Value.ownBlock] at q; omega)
theorem LvV.one {wb W : World} {K : Nat} {a b c : Int} {Y : Nat → List Fx} {kd : Nat → Option Addr} {kl kc : Nat → Nat} (h : LvV wb W K a b c Y kd kl kc) {i : Nat} : ∀ u ∈ (Y i).flatMap encX ++ [.int .i64 0, .int .i64 0, .slice none 0 0, .slice none 0 0], u.oneCell' = true := by
  have _ := h.ge
  intro u hu
  rcases List.mem_append.1 hu with hu | hu
  · obtain ⟨x, _, hx⟩ := List.mem_flatMap.1 hu
    exact encX_one x u hx
  · simp at hu
    rcases hu with rfl | rfl | rfl | rfl <;> rfl
/-- .. and a table laid into its place. -/
theorem LvV.ins1 {wb W : World} {K : Nat} {a b c : Int} {Y : Nat → List Fx} {kd : Nat → Option Addr} {kl kc : Nat → Nat} (h : LvV wb W K a b c Y kd kl kc) {i g p cap : Nat} (hi : i < 5) {W' : World} (A : Apt wb W W' (Value.slice (kd i) (kl i) (kc i)) g) {cur : Array Value} (ht : cur.toList.take ((kl i + 1) * 4) = (Y i).flatMap encX ++ [.int .i64 0, .int .i64 0, .slice none 0 0, .slice none 0 0]) (hp : p ≤ kl i) (hsz : cur.size = cap * 4) (hcap : kl i + 1 ≤ cap) (hm : cap ≤ maxLen) (h2 : W'.heap[g]? = some (.cells (cur4 cur (kl i) p) 62 (0, 0))) {x : Fx} (xo : XO wb.heap.size W' x.f x.la x.lc x.ma x.mc) (hb : Bys x.f) :
    (((((W'.setCell ⟨g, p * 4, none⟩ (.int .i64 x.f.num)).setCell ⟨g, p * 4 + 1, none⟩ (.int .i64 x.f.size)).setCell ⟨g, p * 4 + 2, none⟩ (.slice x.la x.f.least.length x.lc)).setCell ⟨g, p * 4 + 3, none⟩ (.slice x.ma x.f.most.length x.mc)).heap[K]? = some (.cells #[.int .i64 a, .int .i64 b, .int .u64 c, .slice (kd 0) (kl 0) (kc 0), .slice (kd 1) (kl 1) (kc 1), .slice (kd 2) (kl 2) (kc 2), .slice (kd 3) (kl 3) (kc 3), .slice (kd 4) (kl 4) (kc 4)] 28 (0, 0))) ∧
    LvV wb (((((W'.setCell ⟨g, p * 4, none⟩ (.int .i64 x.f.num)).setCell ⟨g, p * 4 + 1, none⟩ (.int .i64 x.f.size)).setCell ⟨g, p * 4 + 2, none⟩ (.slice x.la x.f.least.length x.lc)).setCell ⟨g, p * 4 + 3, none⟩ (.slice x.ma x.f.most.length x.mc)).setCell ⟨K, 3 + i, none⟩ (.slice (some ⟨g, 0, none⟩) (kl i + 1) cap)) K a b c (upA Y i ((Y i).take p ++ x :: (Y i).drop p)) (upA kd i (some ⟨g, 0, none⟩)) (upA kl i (kl i + 1)) (upA kc i cap) := by
  have o := ins_own (x := x) A.ge (h.len i hi).symm (by rfl) ht hp hsz hcap hm h2
  have A4 := (((A.set (p * 4) (.int .i64 x.f.num)).set (p * 4 + 1) (.int .i64 x.f.size)).set (p * 4 + 2) (.slice x.la x.f.least.length x.lc)).set (p * 4 + 3) (.slice x.ma x.f.most.length x.mc)
  have hlen := h.len i hi
  exact h.upd hi (ys := (Y i).take p ++ x :: (Y i).drop p) (n' := kl i + 1) (by rw [List.length_append, List.length_cons, List.length_take, List.length_drop]; omega) (OwnP.of o) A4.fr A4.sb (by
    rcases A.lies with e | e
    · exact .inl (by rw [e]; rfl)
    · exact .inr ⟨g, rfl, e⟩) (fun y hy => by
    rcases List.mem_append.1 hy with hy | hy
    · exact .inl (List.mem_of_mem_take hy)
    · rcases List.mem_cons.1 hy with rfl | hy
      · exact .inr ⟨xo.put4 h2 _ _ _ _ _ _ _ _, hb⟩
      · exact .inl (List.mem_of_mem_drop hy))
/-- The lists so far. -/
def cpL (L : Nat → List Fl) (i j k : Nat) : List Fl := if k < i then L k else if k = i then (L i).take j else []
theorem cpL_step {L : Nat → List Fl} {i j : Nat} {f : Fl} (hf : (L i)[j]? = some f) (k : Nat) : cpL L i (j + 1) k = upA (cpL L i j) i (cpL L i j i ++ [f]) k := by
  unfold upA cpL
  by_cases e : k = i
  · subst e
    rw [if_neg (by omega), if_pos rfl, if_pos rfl, if_neg (by omega), if_pos rfl, List.take_add_one, hf]
    rfl
  · by_cases e2 : k < i
    · simp [e, e2]
    · simp [e, e2]
theorem cpL_end (L : Nat → List Fl) (i k : Nat) : cpL L i (L i).length k = cpL L (i + 1) 0 k := by
  unfold cpL
  by_cases e : k = i
  · subst e
    rw [if_neg (by omega), if_pos rfl, if_pos (by omega), List.take_length]
  · by_cases e2 : k < i
    · rw [if_pos e2, if_pos (by omega)]
    · rw [if_neg e2, if_neg e, if_neg (by omega)]
      split <;> simp
end Go.Proofs.YtegbngbhmgbocaaGreatDoor
