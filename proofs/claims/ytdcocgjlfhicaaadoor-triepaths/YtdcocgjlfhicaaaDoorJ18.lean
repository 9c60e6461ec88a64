/-
  Nodes of tries in memory, and what hangs on the blocks of a set alone.
-/
import Derived.Test.YtdcocgjlfhicaaaDoorTrI
namespace Go.Proofs.YtdcocgjlfhicaaaDoor
open Go.ChangeShapes Go.WideShapes Go.ChangeAt Go.RowKit

/-- Worlds that are alike at some blocks. -/
def Agr (S : Nat → Prop) (w w' : World) : Prop := ∀ k, S k → w'.heap[k]? = w.heap[k]?
theorem Agr.refl (S : Nat → Prop) (w : World) : Agr S w w := fun _ _ => rfl
theorem Agr.trans {S : Nat → Prop} {a b c : World} (h : Agr S a b) (g : Agr S b c) : Agr S a c := fun k hk => (g k hk).trans (h k hk)
theorem Agr.sub {S T : Nat → Prop} {a b : World} (h : Agr T a b) (hs : ∀ k, S k → T k) : Agr S a b := fun k hk => h k (hs k hk)
/-- Blocks of S, and those that were made since. -/
def Up (S : Nat → Prop) (w w' : World) : Nat → Prop := fun k => S k ∨ (w.heap.size ≤ k ∧ k < w'.heap.size)
def InS (S : Nat → Prop) (w : World) : Prop := ∀ k, S k → k < w.heap.size
theorem InS.agr {S : Nat → Prop} {w w' : World} (h : InS S w) (f : Fr [] w w') : Agr S w w' := fun k hk => f.block k (h k hk) (by simp)
theorem InS.fr {S : Nat → Prop} {w w' : World} (h : InS S w) (f : Fr [] w w') : InS S w' := fun k hk => Nat.lt_of_lt_of_le (h k hk) f.size
theorem InS.up {S : Nat → Prop} {w w' : World} (h : InS S w) (f : Fr [] w w') : InS (Up S w w') w' := fun k hk => by
  rcases hk with hk | hk
  · exact Nat.lt_of_lt_of_le (h k hk) f.size
  · exact hk.2
theorem Up.old {S : Nat → Prop} {w w' : World} {k : Nat} (h : S k) : Up S w w' k := .inl h
theorem Up.two {S : Nat → Prop} {a b c : World} (f : a.heap.size ≤ b.heap.size) (g : b.heap.size ≤ c.heap.size) {k : Nat} (h : Up (Up S a b) b c k) : Up S a c k := by
  rcases h with (h | h) | h
  · exact .inl h
  · exact .inr ⟨h.1, by omega⟩
  · exact .inr ⟨by omega, h.2⟩
theorem Up.mid {S : Nat → Prop} {a b c d : World} (f : a.heap.size ≤ b.heap.size) (g : c.heap.size ≤ d.heap.size) {k : Nat} (h : Up S b c k) : Up S a d k := by
  rcases h with h | h
  · exact .inl h
  · exact .inr ⟨by omega, by omega⟩
/-- What holds wherever the blocks of S are as they are. -/
def Un (S : Nat → Prop) (w : World) (P : World → Prop) : Prop := ∀ w', Agr S w w' → P w'
theorem Un.now {S : Nat → Prop} {w : World} {P : World → Prop} (h : Un S w P) : P w := h w (Agr.refl S w)
theorem Un.step {S : Nat → Prop} {w w' : World} {P : World → Prop} (h : Un S w P) (a : Agr S w w') : Un S w' P := fun _ b => h _ (a.trans b)
theorem Un.sub {S T : Nat → Prop} {w : World} {P : World → Prop} (h : Un S w P) (hs : ∀ k, S k → T k) : Un T w P := fun _ b => h _ (b.sub hs)
theorem Un.imp {S : Nat → Prop} {w : World} {P Q : World → Prop} (h : Un S w P) (g : ∀ w, P w → Q w) : Un S w Q := fun _ b => g _ (h _ b)
/-- Bytes of the call's own, behind it. -/
theorem Un.own {S : Nat → Prop} {w W w' : World} {base : Nat} {v : Value} {p : List Nat} (h : W.ownsRow base 5 1 v p.length (bv p)) (hb : w.heap.size ≤ base) (f : Fr [] W w') : Un (Up S w w') w' (fun w'' => Rd w'' v (bv p)) := fun w'' ha => (Rd.ownB h : Rd W v (bv p)).stepT fun k hk => by
  have h1 := own_ltT h hk
  have h2 := (h.lt k hk).1
  rw [ha k (.inr ⟨by omega, Nat.lt_of_lt_of_le h1 f.size⟩), f.block k h1 (by simp)]
theorem cnt_len : ∀ (n : Nat) (t : Tr n), okT n t → cnt n t ≤ (enc n t).length
  | 0, _, _ => Nat.zero_le _
  | n + 1, t, h => by
    have hs : ∀ (l : List (Tr n)), (∀ c ∈ l, okT n c) → (l.map (cnt n)).sum ≤ (l.flatMap (enc n)).length := by
      intro l
      induction l with
      | nil => intro _; exact Nat.le_refl _
      | cons c l ih =>
        intro hl
        simp only [List.map_cons, List.sum_cons, List.flatMap_cons, List.length_append]
        have := cnt_len n c (hl c (by simp))
        have := ih (fun d hd => hl d (by simp [hd]))
        omega
    have h2 := hs (tK t) h.2
    show 1 + ((tK t).map (cnt n)).sum ≤ (if tL t = true then headL 192 ((tK t).flatMap (enc n)).length ++ (tK t).flatMap (enc n) else strL (tB t)).length
    rcases h.1 with ⟨h1, _⟩ | ⟨h1, h3⟩
    · rw [if_pos h1, List.length_append]
      have := (headL_len 192 ((tK t).flatMap (enc n)).length).1
      omega
    · rw [if_neg (by rw [h1]; decide), h3]
      have := (strL_len (tB t)).2.2
      simp only [List.map_nil, List.sum_nil]
      omega
theorem ItV.len {n : Nat} {w : World} {v : Value} {x : List Nat} {d c : Nat} (h : ItV n w v x d c) : ItV n w v x d x.length := by
  obtain ⟨t, h1, h2, h3, h4, h5, h6⟩ := h
  refine ⟨t, h1, h2, h3, h4, h5, ?_⟩
  have := cnt_len n t h4
  rw [h2] at this
  exact this
theorem ItV.by {n : Nat} {w : World} {v : Value} {x : List Nat} {d c : Nat} (h : ItV n w v x d c) (hn : n ≤ 40) : 1 ≤ x.length ∨ n = 0 := by
  rcases n with _ | n
  · exact .inr rfl
  obtain ⟨t, h1, h2, _⟩ := h
  left
  rw [← h2]
  show 1 ≤ (if tL t = true then headL 192 ((tK t).flatMap (enc n)).length ++ (tK t).flatMap (enc n) else strL (tB t)).length
  split
  · rw [List.length_append]
    have := (headL_len 192 ((tK t).flatMap (enc n)).length).1
    omega
  · exact (strL_len (tB t)).2.2
/-- An item that stands in S, with these bytes. -/
def RfS (S : Nat → Prop) (w : World) (v : Value) (x : List Nat) (e : Nat) : Prop := ∃ d, 9 * d ≤ x.length + e ∧ 1 ≤ d ∧ Un S w (fun w' => ItV 20 w' v x d x.length)
theorem RfS.step {S : Nat → Prop} {w w' : World} {v : Value} {x : List Nat} {e : Nat} (h : RfS S w v x e) (a : Agr S w w') : RfS S w' v x e := by
  obtain ⟨d, h1, h2, h3⟩ := h
  exact ⟨d, h1, h2, h3.step a⟩
theorem RfS.sub {S T : Nat → Prop} {w : World} {v : Value} {x : List Nat} {e : Nat} (h : RfS S w v x e) (hs : ∀ k, S k → T k) : RfS T w v x e := by
  obtain ⟨d, h1, h2, h3⟩ := h
  exact ⟨d, h1, h2, h3.sub hs⟩
theorem RfS.mono {S : Nat → Prop} {w : World} {v : Value} {x : List Nat} {e e' : Nat} (h : RfS S w v x e) (he : e ≤ e') : RfS S w v x e' := by
  obtain ⟨d, h1, h2, h3⟩ := h
  exact ⟨d, by omega, h2, h3⟩
theorem RfS.agg {S : Nat → Prop} {w : World} {v : Value} {x : List Nat} {e : Nat} (h : RfS S w v x e) : ∃ l a1 n1 c1 a2 n2 c2, v = .agg #[.bool l, .slice a1 n1 c1, .slice a2 n2 c2] := by
  obtain ⟨d, _, _, h3⟩ := h
  exact h3.now.agg
/-- How deep a node's reference may be. -/
def slN : Nd → Nat
  | .fork _ _ => 7
  | _ => 15
/-- A node in memory, all of it in blocks of S. -/
def NdV (S : Nat → Prop) (w : World) : Nd → Value → Prop
  | .nil, v => v = .nilIface
  | .far h, v => h.length = 32 ∧ By h ∧ v = .iface 111 (.agg (bv h).toArray)
  | .leaf p x, v => ∃ b r0 r1 r2 pv vv, v = .iface 127 (.pointer (some ⟨b, 0, none⟩)) ∧ S b ∧ w.heap[b]? = some (.cells #[r0, r1, r2, pv, vv] 143 (0, 0)) ∧ Un S w (fun w' => Rd w' pv (bv p)) ∧ Un S w (fun w' => Rd w' vv (bv x)) ∧ RfS S w (.agg #[r0, r1, r2]) (refE (.leaf p x)) 15
  | .stem p t, v => ∃ b r0 r1 r2 pv bl, v = .iface 129 (.pointer (some ⟨b, 0, none⟩)) ∧ S b ∧ w.heap[b]? = some (.cells #[r0, r1, r2, pv, bl] 137 (0, 0)) ∧ Un S w (fun w' => Rd w' pv (bv p)) ∧ NdV S w t bl ∧ RfS S w (.agg #[r0, r1, r2]) (refE (.stem p t)) 15
  | .fork c x, v => ∃ (b : Nat) (r0 r1 r2 : Value) (V : Nat → Value) (vv : Value), v = .iface 131 (.pointer (some ⟨b, 0, none⟩)) ∧ S b ∧ w.heap[b]? = some (.cells #[r0, r1, r2, V 0, V 1, V 2, V 3, V 4, V 5, V 6, V 7, V 8, V 9, V 10, V 11, V 12, V 13, V 14, V 15, vv] 140 (0, 0)) ∧ (∀ i, i < 16 → NdV S w (c i) (V i)) ∧ Un S w (fun w' => Rd w' vv (bv x)) ∧ RfS S w (.agg #[r0, r1, r2]) (refE (.fork c x)) 7
theorem NdV.step {S : Nat → Prop} {w w' : World} (a : Agr S w w') : ∀ {n : Nd} {v : Value}, NdV S w n v → NdV S w' n v
  | .nil, _, h => h
  | .far _, _, h => h
  | .leaf p x, v, h => by
    obtain ⟨b, r0, r1, r2, pv, vv, e, hb, h1, h2, h3, h4⟩ := h
    exact ⟨b, r0, r1, r2, pv, vv, e, hb, by rw [a b hb]; exact h1, h2.step a, h3.step a, h4.step a⟩
  | .stem p t, v, h => by
    obtain ⟨b, r0, r1, r2, pv, bl, e, hb, h1, h2, h3, h4⟩ := h
    exact ⟨b, r0, r1, r2, pv, bl, e, hb, by rw [a b hb]; exact h1, h2.step a, NdV.step a h3, h4.step a⟩
  | .fork c x, v, h => by
    obtain ⟨b, r0, r1, r2, V, vv, e, hb, h1, h2, h3, h4⟩ := h
    exact ⟨b, r0, r1, r2, V, vv, e, hb, by rw [a b hb]; exact h1, fun i hi => NdV.step a (h2 i hi), h3.step a, h4.step a⟩
theorem NdV.sub {S T : Nat → Prop} {w : World} (hs : ∀ k, S k → T k) : ∀ {n : Nd} {v : Value}, NdV S w n v → NdV T w n v
  | .nil, _, h => h
  | .far _, _, h => h
  | .leaf p x, v, h => by
    obtain ⟨b, r0, r1, r2, pv, vv, e, hb, h1, h2, h3, h4⟩ := h
    exact ⟨b, r0, r1, r2, pv, vv, e, hs b hb, h1, h2.sub hs, h3.sub hs, h4.sub hs⟩
  | .stem p t, v, h => by
    obtain ⟨b, r0, r1, r2, pv, bl, e, hb, h1, h2, h3, h4⟩ := h
    exact ⟨b, r0, r1, r2, pv, bl, e, hs b hb, h1, h2.sub hs, NdV.sub hs h3, h4.sub hs⟩
  | .fork c x, v, h => by
    obtain ⟨b, r0, r1, r2, V, vv, e, hb, h1, h2, h3, h4⟩ := h
    exact ⟨b, r0, r1, r2, V, vv, e, hs b hb, h1, fun i hi => NdV.sub hs (h2 i hi), h3.sub hs, h4.sub hs⟩
/-- Nodes of maps: paths are no longer than what is left of a key's. -/
def isFk : Nd → Prop
  | .fork _ _ => True
  | _ => False
def okN : Nat → Nd → Prop
  | _, .nil => True
  | _, .far _ => False
  | d, .leaf p x => Nb p ∧ p.length ≤ d ∧ By x ∧ 1 ≤ x.length ∧ x.length ≤ 1024
  | d, .stem p t => Nb p ∧ p.length ≤ d ∧ 1 ≤ p.length ∧ isFk t ∧ okN (d - p.length) t
  | d, .fork c x => 1 ≤ d ∧ (∀ i, i < 16 → okN (d - 1) (c i)) ∧ By x ∧ x.length ≤ 1024
theorem okN.mono : ∀ {n : Nd} {d d' : Nat}, okN d n → d ≤ d' → okN d' n
  | .nil, _, _, _, _ => trivial
  | .far _, _, _, h, _ => h.elim
  | .leaf _ _, _, _, h, hd => ⟨h.1, Nat.le_trans h.2.1 hd, h.2.2⟩
  | .stem p t, _, _, h, hd => ⟨h.1, Nat.le_trans h.2.1 hd, h.2.2.1, h.2.2.2.1, okN.mono h.2.2.2.2 (by omega)⟩
  | .fork c x, _, _, h, hd => ⟨Nat.le_trans h.1 hd, fun i hi => okN.mono (h.2.1 i hi) (by omega), h.2.2⟩
theorem okP_of {p : List Nat} (h : Nb p) (hl : p.length ≤ 128) : okP p = true := by
  unfold okP
  simp only [Bool.and_eq_true, decide_eq_true_eq, List.all_eq_true]
  exact ⟨hl, fun x hx => by have := h x hx; omega⟩
end Go.Proofs.YtdcocgjlfhicaaaDoor
namespace Go.Proofs.YtdcocgjlfhicaaaDoor
open Go.ChangeShapes Go.WideShapes Go.ChangeAt Go.RowKit

def updN (c : Nat → Nd) (i : Nat) (n : Nd) : Nat → Nd := fun j => if j = i then n else c j
/-- How many both begin with. -/
def cpN : List Nat → List Nat → Nat
  | a :: l, b :: m => if a = b then cpN l m + 1 else 0
  | _, _ => 0
theorem cpN_le : ∀ (a b : List Nat), cpN a b ≤ a.length ∧ cpN a b ≤ b.length
  | [], b => by simp [cpN]
  | a :: l, [] => by simp [cpN]
  | a :: l, b :: m => by
    unfold cpN
    have := cpN_le l m
    split
    · simp; omega
    · simp
theorem cpN_take : ∀ (a b : List Nat), a.take (cpN a b) = b.take (cpN a b)
  | [], b => by simp [cpN]
  | a :: l, [] => by simp [cpN]
  | a :: l, b :: m => by
    unfold cpN
    split
    · rename_i h; subst h; simp [cpN_take l m]
    · simp
theorem cpN_ne : ∀ (a b : List Nat) (x y : Nat), a[cpN a b]? = some x → b[cpN a b]? = some y → x ≠ y
  | [], b, x, y, h, _ => by simp at h
  | a :: l, [], x, y, _, h => by simp at h
  | a :: l, b :: m, x, y, h, g => by
    unfold cpN at h g
    by_cases e : a = b
    · rw [if_pos e] at h g
      simp only [List.getElem?_cons_succ] at h g
      exact cpN_ne l m x y h g
    · rw [if_neg e] at h g
      simp at h g
      rw [← h, ← g]; exact e
theorem cpN_full {a b : List Nat} (h : cpN a b = a.length) : b = a ++ b.drop a.length := by
  have := cpN_take a b
  rw [h, List.take_length] at this
  have e := (List.take_append_drop a.length b).symm
  rw [← this] at e
  exact e
/-- A path ahead of all that a node has. -/
def leadN : List Nat → Nd → Nd
  | _, .nil => .nil
  | p, .far h => if p = [] then .far h else .stem p (.far h)
  | p, .leaf q x => .leaf (p ++ q) x
  | p, .stem q t => if p = [] then .stem q t else leadN (p ++ q) t
  | p, .fork c x => if p = [] then .fork c x else .stem p (.fork c x)
/-- One more within a fork that isn't made yet. -/
def addC (c : Nat → Nd) (p v : List Nat) : Nat → Nd :=
  match p with
  | [] => c
  | i :: r => updN c i (.leaf r v)
def addV (x p v : List Nat) : List Nat := if p = [] then v else x
def growN (c : Nat → Nd) (x p : List Nat) (s : Nat) (v : List Nat) : Nd := leadN (p.take s) (.fork (addC c (p.drop s) v) (addV x (p.drop s) v))
def noN : Nat → Nd := fun _ => .nil
def putN : Nd → List Nat → List Nat → Nd
  | .nil, p, v => .leaf p v
  | .far h, _, _ => .far h
  | .leaf q x, p, v => if q = p then .leaf p v else growN (addC noN (q.drop (cpN q p)) x) (addV [] (q.drop (cpN q p)) x) p (cpN q p) v
  | .stem q t, p, v => if cpN q p = q.length then leadN q (putN t (p.drop (cpN q p)) v) else growN (updN noN (q.getD (cpN q p) 0) (leadN (q.drop (cpN q p + 1)) t)) [] p (cpN q p) v
  | .fork c x, p, v => match p with
    | [] => .fork c v
    | i :: r => .fork (updN c i (putN (c i) r v)) x
/-- A path's value; none where there is none. -/
def findN : Nd → List Nat → List Nat
  | .nil, _ => []
  | .far _, _ => []
  | .leaf q x, p => if q = p then x else []
  | .stem q t, p => if cpN q p = q.length then findN t (p.drop (cpN q p)) else []
  | .fork c x, p => match p with
    | [] => x
    | i :: r => findN (c i) r
theorem Nb.drop {p : List Nat} (h : Nb p) (s : Nat) : Nb (p.drop s) := fun x hx => h x (List.mem_of_mem_drop hx)
theorem Nb.take {p : List Nat} (h : Nb p) (s : Nat) : Nb (p.take s) := fun x hx => h x (List.mem_of_mem_take hx)
theorem Nb.app {p q : List Nat} (h : Nb p) (g : Nb q) : Nb (p ++ q) := fun x hx => by
  rcases List.mem_append.1 hx with hx | hx
  · exact h x hx
  · exact g x hx
theorem leadN_fork {p : List Nat} (hp : p ≠ []) (c : Nat → Nd) (x : List Nat) : leadN p (.fork c x) = .stem p (.fork c x) := if_neg hp
theorem leadN_ok {n : Nd} {p : List Nat} {d : Nat} (hn : Nb p) (hl : p.length ≤ d) (h : okN (d - p.length) n) : okN d (leadN p n) := by
  cases n with
  | nil => trivial
  | far h' => exact h.elim
  | leaf q x =>
    refine ⟨hn.app h.1, ?_, h.2.2⟩
    have := h.2.1
    rw [List.length_append]; omega
  | stem q t =>
    by_cases hp : p = []
    · subst hp
      show okN d (if ([] : List Nat) = [] then Nd.stem q t else _)
      rw [if_pos rfl]
      exact h
    · obtain ⟨h1, h2, h3, h4, h5⟩ := h
      show okN d (if p = [] then Nd.stem q t else leadN (p ++ q) t)
      rw [if_neg hp]
      cases t with
      | fork c x =>
        rw [leadN_fork (by simp [hp])]
        exact ⟨hn.app h1, by rw [List.length_append]; omega, by rw [List.length_append]; omega, trivial, by rw [List.length_append, ← Nat.sub_sub]; exact h5⟩
      | nil => exact h4.elim
      | far _ => exact h4.elim
      | leaf _ _ => exact h4.elim
      | stem _ _ => exact h4.elim
  | fork c x =>
    by_cases hp : p = []
    · subst hp
      show okN d (if ([] : List Nat) = [] then Nd.fork c x else _)
      rw [if_pos rfl]
      exact h
    · rw [leadN_fork hp]
      exact ⟨hn, hl, by cases p with | nil => exact absurd rfl hp | cons a l => simp, trivial, h⟩
theorem updN_ok {c : Nat → Nd} {d i : Nat} {n : Nd} (h : ∀ j, j < 16 → okN d (c j)) (hn : okN d n) : ∀ j, j < 16 → okN d (updN c i n j) := fun j hj => by
  unfold updN
  split
  · exact hn
  · exact h j hj
theorem addC_ok {c : Nat → Nd} {d : Nat} {p v : List Nat} (h : ∀ j, j < 16 → okN d (c j)) (hp : Nb p) (hl : p.length ≤ d + 1) (hv : By v) (h1 : 1 ≤ v.length) (h2 : v.length ≤ 1024) : ∀ j, j < 16 → okN d (addC c p v j) := by
  cases p with
  | nil => exact h
  | cons i r => exact updN_ok h ⟨fun x hx => hp x (by simp [hx]), by simp at hl; omega, hv, h1, h2⟩
theorem addV_ok {x p v : List Nat} (hx : By x) (hx2 : x.length ≤ 1024) (hv : By v) (h2 : v.length ≤ 1024) : By (addV x p v) ∧ (addV x p v).length ≤ 1024 := by
  unfold addV
  split
  · exact ⟨hv, h2⟩
  · exact ⟨hx, hx2⟩
theorem growN_ok {c : Nat → Nd} {x p v : List Nat} {s d : Nat} (hs : s < d) (hsp : s ≤ p.length) (h : ∀ j, j < 16 → okN (d - s - 1) (c j)) (hx : By x) (hx2 : x.length ≤ 1024) (hp : Nb p) (hl : p.length ≤ d) (hv : By v) (h1 : 1 ≤ v.length) (h2 : v.length ≤ 1024) : okN d (growN c x p s v) := by
  have e : (p.take s).length = s := by rw [List.length_take]; omega
  have a := addV_ok (p := p.drop s) hx hx2 hv h2
  refine leadN_ok (hp.take s) (by omega) ?_
  rw [e]
  exact ⟨by omega, addC_ok h (hp.drop s) (by rw [List.length_drop]; omega) hv h1 h2, a.1, a.2⟩
theorem noN_ok (d : Nat) : ∀ j, j < 16 → okN d (noN j) := fun _ _ => trivial
theorem cpN_lt {q p : List Nat} {d : Nat} (hq : q.length ≤ d) (hp : p.length ≤ d) (h : q ≠ p) : cpN q p < d := by
  have h1 := cpN_le q p
  rcases Nat.lt_or_ge (cpN q p) d with h2 | h2
  · exact h2
  · exfalso
    have e1 : cpN q p = q.length := by omega
    have e2 : cpN q p = p.length := by omega
    have := cpN_take q p
    rw [e1, List.take_length, ← e1, e2, List.take_length] at this
    exact h this
theorem putN_ok : ∀ {n : Nd} {p v : List Nat} {d : Nat}, okN d n → Nb p → p.length ≤ d → By v → 1 ≤ v.length → v.length ≤ 1024 → okN d (putN n p v)
  | .nil, _, _, _, _, hp, hl, hv, h1, h2 => ⟨hp, hl, hv, h1, h2⟩
  | .far _, _, _, _, h, _, _, _, _, _ => h.elim
  | .leaf q x, p, v, d, h, hp, hl, hv, h1, h2 => by
    obtain ⟨g1, g2, g3, g4, g5⟩ := h
    show okN d (if q = p then _ else _)
    split
    · exact ⟨hp, hl, hv, h1, h2⟩
    · rename_i hne
      have hs := cpN_lt g2 hl hne
      have hc := cpN_le q p
      have a := addV_ok (x := []) (p := q.drop (cpN q p)) (fun x hx => by cases hx) (by simp) g3 g5
      exact growN_ok hs hc.2 (addC_ok (noN_ok _) (g1.drop _) (by rw [List.length_drop]; omega) g3 g4 g5) a.1 a.2 hp hl hv h1 h2
  | .stem q t, p, v, d, h, hp, hl, hv, h1, h2 => by
    obtain ⟨g1, g2, g3, g4, g5⟩ := h
    have hc := cpN_le q p
    show okN d (if cpN q p = q.length then _ else _)
    split
    · rename_i e
      exact leadN_ok g1 g2 (putN_ok g5 (hp.drop _) (by rw [List.length_drop]; omega) hv h1 h2)
    · refine growN_ok (by omega) hc.2 (updN_ok (noN_ok _) (leadN_ok (g1.drop _) (by rw [List.length_drop]; omega) ?_)) (fun x hx => by cases hx) (by simp) hp hl hv h1 h2
      rw [List.length_drop]
      exact g5.mono (by omega)
  | .fork c x, p, v, d, h, hp, hl, hv, h1, h2 => by
    obtain ⟨g1, g2, g3, g4⟩ := h
    cases p with
    | nil => exact ⟨g1, g2, hv, h2⟩
    | cons i r =>
      have hi : i < 16 := hp i (by simp)
      exact ⟨g1, updN_ok g2 (putN_ok (g2 i hi) (fun x hx => hp x (by simp [hx])) (by simp at hl; omega) hv h1 h2), g3, g4⟩
/-- A fork with one put into it is a fork. -/
theorem putN_fk {n : Nd} (h : isFk n) (p v : List Nat) : isFk (putN n p v) := by
  cases n with
  | fork c x => cases p <;> trivial
  | nil => exact h.elim
  | far _ => exact h.elim
  | leaf _ _ => exact h.elim
  | stem _ _ => exact h.elim
end Go.Proofs.YtdcocgjlfhicaaaDoor
