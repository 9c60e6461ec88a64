/-
  BlockParses: what both sides answer, brought to one form.
-/
import Derived.Test.YtdlnfcepknoigaaBY7
import Derived.Test.YtdlnfcepknoigaaJ40
import Derived.Test.YtdlnfcepknoigaaBS
import Derived.Test.YtdlnfcepknoigaaJ12
namespace Go.Proofs.Ytdlnfcepknoigaa
open Go.ChangeShapes Go.WideShapes Go.ChangeAt Go.RowKit

set_option maxRecDepth 20000 in
set_option maxHeartbeats 2000000 in
theorem spoil_c (w : World) {B n : Nat} {v : Value} {xs : List Value} (o : w.ownsRow B 5 1 v n xs) (hn : n ≤ 9223372036854775807) :
    Calls Try.prog 16 #[v] w fun e w' => (∃ u, e = .returned u) ∧ Fr v.ownBlock.toList w w' := by
  rcases o.2 with ⟨rfl, h0⟩ | ⟨g, cap, cur, rfl, _, h3, h4, h5⟩
  · subst h0
    clear o
    go_enter Try.func16, Try.ntmps16
    go_wp2_with fail
    go_loopw [2] (fun v2 wr => v2 = .int .i64 0 ∧ wr = w) (fun _ _ => 0)
    case atStart => exact ⟨rfl, rfl⟩
    case round =>
      obtain ⟨rfl, rfl⟩ := hrel
      go_wp2
      go_end0
      exact ⟨⟨_, rfl⟩, Fr.refl _ _⟩
  · have hsz : n ≤ cur.size := by
      have hx := o.1
      have := o.cells (g := g) rfl
      by_cases h0 : n = 0
      · omega
      · obtain ⟨x, hx⟩ : ∃ x, xs[n - 1]? = some x := ⟨_, List.getElem?_eq_getElem (by omega)⟩
        have h6 := this _ _ hx
        rw [Addr.add_lit, blk_cell h3] at h6
        have := (Array.getElem?_eq_some_iff.1 h6).1
        omega
    have H3 := hid h3
    clear h5 o h3
    go_enter Try.func16, Try.ntmps16
    go_wp2_with fail
    go_loopw [2] (fun v2 wr => ∃ k : Nat, k ≤ n ∧ v2 = .int .i64 (k : Int) ∧ Fr [g] w wr ∧ ∃ cs, wr.heap[g]? = some (.cells cs 5 (0, 0)) ∧ n ≤ cs.size) (fun v2 _ => n - (intOf v2).toNat)
    case atStart => exact ⟨0, Nat.zero_le _, rfl, Fr.refl _ _, cur, H3.out, hsz⟩
    case round =>
      obtain ⟨k, hk, rfl, hf, cs, hc, hcs⟩ := hrel
      have HF := hid hf
      have HC := hid hc
      by_cases hlt : k < n
      · obtain ⟨x, hx⟩ : ∃ x, wr.cell? ⟨g, k, none⟩ = some x := ⟨cs[k]'(by omega), by rw [blk_cell hc]; exact Array.getElem?_eq_getElem (by omega)⟩
        have hz := blk_frozen hc k
        clear hf hc
        go_wp2
        go_roundw
        case rel => exact ⟨k + 1, by omega, by go_num, HF.out.set _ _ (.inl (by simp)), _, blk_set HC.out _ _, by simpa using hcs⟩
        case measure => simp [intOf]; omega
      · have hk' : k = n := by omega
        subst hk'
        clear hf hc
        go_wp2
        go_end0
        exact ⟨⟨_, rfl⟩, HF.out⟩

/-- Which entries a block's bytes are read as, and the error. -/
def PF (b : List Nat) (ps : Ps) (E : Nat) : Prop := ((∃ r, Blk b ps r) ∧ E = 0) ∨ ((∀ ps r, ¬ Blk b ps r) ∧ ps = [] ∧ E = 72)
theorem PF.some (b : List Nat) : ∃ ps E, PF b ps E := by
  by_cases h : ∃ ps r, Blk b ps r
  · obtain ⟨ps, r, B⟩ := h
    exact ⟨ps, 0, .inl ⟨⟨r, B⟩, rfl⟩⟩
  · exact ⟨[], 72, .inr ⟨fun ps r B => h ⟨ps, r, B⟩, rfl, rfl⟩⟩
theorem PF.prs {b : List Nat} {ps : Ps} {E : Nat} (h : PF b ps E) (hb : b.length < 1073741824) {w' : World} {B : Nat} {e : Ending} (hp : PrsO w' B b e) : ∃ v, e = .returned (.tuple #[v, .int .i64 (E : Int)]) ∧ ColO w' B v ps := by
  rcases hp with ⟨ps', r', v, B', rfl, co⟩ | ⟨hno, rfl⟩
  · rcases h with ⟨⟨r, B1⟩, rfl⟩ | ⟨hno, _, _⟩
    · obtain rfl := blk_one B1 B' hb
      exact ⟨v, rfl, co⟩
    · exact absurd B' (hno ps' r')
  · rcases h with ⟨⟨r, B1⟩, rfl⟩ | ⟨_, rfl, rfl⟩
    · exact absurd B1 (hno ps r)
    · exact ⟨_, rfl, ColO.nil _ _⟩
theorem parse_both (w : World) {v : Value} {b : List Nat} (hr : Rd w v (bv b)) (hb : By b) (hl : b.length ≤ 1000000000) :
    Calls Try.prog 12 #[v] w fun e w' => PrsO w' w.heap.size b e ∧ Fr [] w w' := by
  by_cases h : ∃ ps r, Blk b ps r
  · obtain ⟨ps, r, B⟩ := h
    refine (parse_own w hr hb hl B).mono ?_
    rintro e w' ⟨v', rfl, co, f⟩
    exact ⟨.inl ⟨ps, r, v', B, rfl, co⟩, f⟩
  · refine (parse_no w hr hb hl (fun ps r B => h ⟨ps, r, B⟩)).mono ?_
    rintro e w' ⟨rfl, f⟩
    exact ⟨.inr ⟨fun ps r B => h ⟨ps, r, B⟩, rfl⟩, f⟩
theorem PF.len {b : List Nat} {ps : Ps} {E : Nat} (h : PF b ps E) (hb : b.length ≤ 1000000) : ps.length ≤ 1000000 := by
  rcases h with ⟨⟨r, B⟩, _⟩ | ⟨_, rfl, _⟩
  · have h1 : ∀ i, i ≤ (bod r ps i).length := by
      intro i
      induction i with
      | zero => simp
      | succ i ih => have := bod_lt r ps (i := i) (j := i + 1) (by omega); omega
    have h2 := h1 ps.length
    have h3 : (blk r ps).length = b.length := by rw [B.eq]
    unfold blk at h3
    rw [List.length_append] at h3
    omega
  · simp
theorem blk_val {b : List Nat} {ps : Ps} {r k : Nat} (B : Blk b ps r) (hk : k < ps.length) : (vA ps k).length ≤ b.length := by
  have h1 := (ent_len (shd r ps k) (kA ps k) (vA ps k)).2
  have h2 : (bod r ps (k + 1)).length = (bod r ps k).length + (ent (shd r ps k) (kA ps k) (vA ps k)).length := by rw [bod, List.length_append]
  have h3 := bod_le r ps (i := k + 1) (j := ps.length) (by omega)
  have h4 : (blk r ps).length = b.length := by rw [B.eq]
  unfold blk at h4
  rw [List.length_append] at h4
  omega
/-- What is found of a key. -/
inductive SF (b key : List Nat) : List Nat → List Nat → Bool → Nat → Prop
  | form (h : ∀ ps r, ¬ Blk b ps r) : SF b key [] [] false 72
  | key {ps : Ps} {r : Nat} (B : Blk b ps r) (h : isK key = false) : SF b key [] [] false 23
  | none {ps : Ps} {r : Nat} (B : Blk b ps r) (h : isK key = true) (ho : ∀ j, j < ps.length → ordK (kA ps j) key < 0) : SF b key [] [] false 0
  | found {ps : Ps} {r k : Nat} (B : Blk b ps r) (h : isK key = true) (hk : k < ps.length) (ho : ∀ j, j < k → ordK (kA ps j) key < 0) (h0 : 0 ≤ ordK (kA ps k) key) : SF b key (kA ps k) (vA ps k) true 0
theorem SF.some {w' : World} {b key : List Nat} {e : Ending} (h : SeekO w' b key e) : ∃ kk vv ok E, SF b key kk vv ok E := by
  cases h with
  | form h => exact ⟨_, _, _, _, .form h⟩
  | key B h => exact ⟨_, _, _, _, .key B h⟩
  | none B h ho => exact ⟨_, _, _, _, .none B h ho⟩
  | found B h hk ho h0 => exact ⟨_, _, _, _, .found B h hk ho h0⟩
/-- What Seek hands back of it. -/
def SeekV (w' : World) (kk vv : List Nat) (ok : Bool) (E : Nat) (e : Ending) : Prop :=
  ∃ ka kc va vc, e = .returned (.tuple #[.agg #[.slice ka kk.length kc, .slice va vv.length vc], .bool ok, .int .i64 (E : Int)]) ∧ Rd w' (.slice ka kk.length kc) (bv kk) ∧ Rd w' (.slice va vv.length vc) (bv vv) ∧ By kk ∧ By vv ∧ kk.length ≤ 140737488355328 ∧ vv.length ≤ 140737488355328
theorem seekV_nil (w' : World) (E : Nat) : SeekV w' [] [] false E (.returned (.tuple #[.agg #[.slice none 0 0, .slice none 0 0], .bool false, .int .i64 (E : Int)])) :=
  ⟨none, 0, none, 0, rfl, .inl ⟨rfl, rfl⟩, .inl ⟨rfl, rfl⟩, (fun x hx => by cases hx), (fun x hx => by cases hx), by simp, by simp⟩
theorem SF.as {w' : World} {b key kk vv : List Nat} {ok : Bool} {E : Nat} {e : Ending} (h : SF b key kk vv ok E) (hb : b.length ≤ 1000000) (hs : SeekO w' b key e) : SeekV w' kk vv ok E e := by
  cases hs with
  | form hno =>
    cases h with
    | form _ => exact seekV_nil _ 72
    | key B _ => exact absurd B (hno _ _)
    | none B _ _ => exact absurd B (hno _ _)
    | found B _ _ _ _ => exact absurd B (hno _ _)
  | key B hk =>
    cases h with
    | form hno => exact absurd B (hno _ _)
    | key _ _ => exact seekV_nil _ 23
    | none _ hk' _ => rw [hk] at hk'; cases hk'
    | found _ hk' _ _ _ => rw [hk] at hk'; cases hk'
  | none B hk ho =>
    cases h with
    | form hno => exact absurd B (hno _ _)
    | key _ hk' => rw [hk] at hk'; cases hk'
    | none _ _ _ => exact seekV_nil _ 0
    | found B' _ hlt _ h0 =>
      obtain rfl := blk_one B B' (by omega)
      have := ho _ hlt
      omega
  | @found ps r k ka va kc vc B hk hlt ho h0 rk rv byp =>
    cases h with
    | form hno => exact absurd B (hno _ _)
    | key _ hk' => rw [hk] at hk'; cases hk'
    | none B' _ ho' =>
      obtain rfl := blk_one B B' (by omega)
      have := ho' _ hlt
      omega
    | @found ps' r' k' B' _ hlt' ho' h0' =>
      obtain rfl := blk_one B B' (by omega)
      have hkk : k = k' := by
        rcases Nat.lt_trichotomy k k' with h | h | h
        · have := ho' k h; omega
        · exact h
        · have := ho k' h; omega
      subst hkk
      have hby := kA_by byp k
      exact ⟨ka, kc, va, vc, rfl, rk, rv, hby.1, hby.2, by have := kA_len B.rises k; omega, by have := blk_val B hlt; omega⟩
/-- Rows of the call's own from B on stay while a block below it changes. -/
theorem ColO.keepB {W W' : World} {B p : Nat} {v : Value} {ps : Ps} (h : ColO W B v ps) (hp : p < B) (f : Fr [p] W W') : ColO W' B v ps := by
  have key : ∀ {e : TypeId} {s n : Nat} {u : Value} {xs : List Value}, W.ownsRow B e s u n xs → W'.ownsRow B e s u n xs := fun o => ownsRow_of_block o (fun k hk => f.block k (o.lt k hk).2 (by have := (o.lt k hk).1; simp; omega))
  obtain ⟨cs, o, h2⟩ := h
  refine ⟨cs, key o, fun j p hj => ?_⟩
  obtain ⟨kv, vv, c0, c1, r0, r1, b0⟩ := h2 j p hj
  exact ⟨kv, vv, c0, c1, key r0, key r1, b0⟩
end Go.Proofs.Ytdlnfcepknoigaa
