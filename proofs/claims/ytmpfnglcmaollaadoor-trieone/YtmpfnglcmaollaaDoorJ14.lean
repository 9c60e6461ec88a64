/-
  Putting without the program.
-/
import Derived.Test.YtmpfnglcmaollaaDoorJ13
namespace Go.Proofs.YtmpfnglcmaollaaDoor
open Go.ChangeShapes Go.WideShapes Go.ChangeAt Go.RowKit

def updN (c : Nat → Nd) (i : Nat) (n : Nd) : Nat → Nd := fun j => if j = i then n else c j
/-- How many both begin with. -/
def cpN : List Nat → List Nat → Nat
  | a :: l, b :: m => if a = b then cpN l m + 1 else 0
  | _, _ => 0
theorem cpN_le : ∀ (a b : List Nat), cpN a b ≤ a.length ∧ cpN a b ≤ b.length
  | [], b => by simp [cpN]
  | a :: l, [] => by simp [cpN]
  | a :: l, b :: m => by
    unfold cpN
    have := cpN_le l m
    split
    · simp; omega
    · simp
theorem cpN_take : ∀ (a b : List Nat), a.take (cpN a b) = b.take (cpN a b)
  | [], b => by simp [cpN]
  | a :: l, [] => by simp [cpN]
  | a :: l, b :: m => by
    unfold cpN
    split
    · rename_i h; subst h; simp [cpN_take l m]
    · simp
theorem cpN_ne : ∀ (a b : List Nat) (x y : Nat), a[cpN a b]? = some x → b[cpN a b]? = some y → x ≠ y
  | [], b, x, y, h, _ => by simp at h
  | a :: l, [], x, y, _, h => by simp at h
  | a :: l, b :: m, x, y, h, g => by
    unfold cpN at h g
    by_cases e : a = b
    · rw [if_pos e] at h g
      simp only [List.getElem?_cons_succ] at h g
      exact cpN_ne l m x y h g
    · rw [if_neg e] at h g
      simp at h g
      rw [← h, ← g]; exact e
theorem cpN_full {a b : List Nat} (h : cpN a b = a.length) : b = a ++ b.drop a.length := by
  have := cpN_take a b
  rw [h, List.take_length] at this
  have e := (List.take_append_drop a.length b).symm
  rw [← this] at e
  exact e
/-- A path ahead of all that a node has. -/
def leadN : List Nat → Nd → Nd
  | _, .nil => .nil
  | p, .far h => if p = [] then .far h else .stem p (.far h)
  | p, .leaf q x => .leaf (p ++ q) x
  | p, .stem q t => if p = [] then .stem q t else leadN (p ++ q) t
  | p, .fork c x => if p = [] then .fork c x else .stem p (.fork c x)
/-- One more within a fork that isn't made yet. -/
def addC (c : Nat → Nd) (p v : List Nat) : Nat → Nd :=
  match p with
  | [] => c
  | i :: r => updN c i (.leaf r v)
def addV (x p v : List Nat) : List Nat := if p = [] then v else x
def growN (c : Nat → Nd) (x p : List Nat) (s : Nat) (v : List Nat) : Nd := leadN (p.take s) (.fork (addC c (p.drop s) v) (addV x (p.drop s) v))
def noN : Nat → Nd := fun _ => .nil
def putN : Nd → List Nat → List Nat → Nd
  | .nil, p, v => .leaf p v
  | .far h, _, _ => .far h
  | .leaf q x, p, v => if q = p then .leaf p v else growN (addC noN (q.drop (cpN q p)) x) (addV [] (q.drop (cpN q p)) x) p (cpN q p) v
  | .stem q t, p, v => if cpN q p = q.length then leadN q (putN t (p.drop (cpN q p)) v) else growN (updN noN (q.getD (cpN q p) 0) (leadN (q.drop (cpN q p + 1)) t)) [] p (cpN q p) v
  | .fork c x, p, v => match p with
    | [] => .fork c v
    | i :: r => .fork (updN c i (putN (c i) r v)) x
/-- A path's value; none where there is none. -/
def findN : Nd → List Nat → List Nat
  | .nil, _ => []
  | .far _, _ => []
  | .leaf q x, p => if q = p then x else []
  | .stem q t, p => if cpN q p = q.length then findN t (p.drop (cpN q p)) else []
  | .fork c x, p => match p with
    | [] => x
    | i :: r => findN (c i) r
theorem Nb.drop {p : List Nat} (h : Nb p) (s : Nat) : Nb (p.drop s) := fun x hx => h x (List.mem_of_mem_drop hx)
theorem Nb.take {p : List Nat} (h : Nb p) (s : Nat) : Nb (p.take s) := fun x hx => h x (List.mem_of_mem_take hx)
theorem Nb.app {p q : List Nat} (h : Nb p) (g : Nb q) : Nb (p ++ q) := fun x hx => by
  rcases List.mem_append.1 hx with hx | hx
  · exact h x hx
  · exact g x hx
theorem leadN_fork {p : List Nat} (hp : p ≠ []) (c : Nat → Nd) (x : List Nat) : leadN p (.fork c x) = .stem p (.fork c x) := if_neg hp
theorem leadN_ok {n : Nd} {p : List Nat} {d : Nat} (hn : Nb p) (hl : p.length ≤ d) (h : okN (d - p.length) n) : okN d (leadN p n) := by
  cases n with
  | nil => trivial
  | far h' => exact h.elim
  | leaf q x =>
    refine ⟨hn.app h.1, ?_, h.2.2⟩
    have := h.2.1
    rw [List.length_append]; omega
  | stem q t =>
    by_cases hp : p = []
    · subst hp
      show okN d (if ([] : List Nat) = [] then Nd.stem q t else _)
      rw [if_pos rfl]
      exact h
    · obtain ⟨h1, h2, h3, h4, h5⟩ := h
      show okN d (if p = [] then Nd.stem q t else leadN (p ++ q) t)
      rw [if_neg hp]
      cases t with
      | fork c x =>
        rw [leadN_fork (by simp [hp])]
        exact ⟨hn.app h1, by rw [List.length_append]; omega, by rw [List.length_append]; omega, trivial, by rw [List.length_append, ← Nat.sub_sub]; exact h5⟩
      | nil => exact h4.elim
      | far _ => exact h4.elim
      | leaf _ _ => exact h4.elim
      | stem _ _ => exact h4.elim
  | fork c x =>
    by_cases hp : p = []
    · subst hp
      show okN d (if ([] : List Nat) = [] then Nd.fork c x else _)
      rw [if_pos rfl]
      exact h
    · rw [leadN_fork hp]
      exact ⟨hn, hl, by cases p with | nil => exact absurd rfl hp | cons a l => simp, trivial, h⟩
theorem updN_ok {c : Nat → Nd} {d i : Nat} {n : Nd} (h : ∀ j, j < 16 → okN d (c j)) (hn : okN d n) : ∀ j, j < 16 → okN d (updN c i n j) := fun j hj => by
  unfold updN
  split
  · exact hn
  · exact h j hj
theorem addC_ok {c : Nat → Nd} {d : Nat} {p v : List Nat} (h : ∀ j, j < 16 → okN d (c j)) (hp : Nb p) (hl : p.length ≤ d + 1) (hv : By v) (h1 : 1 ≤ v.length) (h2 : v.length ≤ 1024) : ∀ j, j < 16 → okN d (addC c p v j) := by
  cases p with
  | nil => exact h
  | cons i r => exact updN_ok h ⟨fun x hx => hp x (by simp [hx]), by simp at hl; omega, hv, h1, h2⟩
theorem addV_ok {x p v : List Nat} (hx : By x) (hx2 : x.length ≤ 1024) (hv : By v) (h2 : v.length ≤ 1024) : By (addV x p v) ∧ (addV x p v).length ≤ 1024 := by
  unfold addV
  split
  · exact ⟨hv, h2⟩
  · exact ⟨hx, hx2⟩
theorem growN_ok {c : Nat → Nd} {x p v : List Nat} {s d : Nat} (hs : s < d) (hsp : s ≤ p.length) (h : ∀ j, j < 16 → okN (d - s - 1) (c j)) (hx : By x) (hx2 : x.length ≤ 1024) (hp : Nb p) (hl : p.length ≤ d) (hv : By v) (h1 : 1 ≤ v.length) (h2 : v.length ≤ 1024) : okN d (growN c x p s v) := by
  have e : (p.take s).length = s := by rw [List.length_take]; omega
  have a := addV_ok (p := p.drop s) hx hx2 hv h2
  refine leadN_ok (hp.take s) (by omega) ?_
  rw [e]
  exact ⟨by omega, addC_ok h (hp.drop s) (by rw [List.length_drop]; omega) hv h1 h2, a.1, a.2⟩
theorem noN_ok (d : Nat) : ∀ j, j < 16 → okN d (noN j) := fun _ _ => trivial
theorem cpN_lt {q p : List Nat} {d : Nat} (hq : q.length ≤ d) (hp : p.length ≤ d) (h : q ≠ p) : cpN q p < d := by
  have h1 := cpN_le q p
  rcases Nat.lt_or_ge (cpN q p) d with h2 | h2
  · exact h2
  · exfalso
    have e1 : cpN q p = q.length := by omega
    have e2 : cpN q p = p.length := by omega
    have := cpN_take q p
    rw [e1, List.take_length, ← e1, e2, List.take_length] at this
    exact h this
theorem putN_ok : ∀ {n : Nd} {p v : List Nat} {d : Nat}, okN d n → Nb p → p.length ≤ d → By v → 1 ≤ v.length → v.length ≤ 1024 → okN d (putN n p v)
  | .nil, _, _, _, _, hp, hl, hv, h1, h2 => ⟨hp, hl, hv, h1, h2⟩
  | .far _, _, _, _, h, _, _, _, _, _ => h.elim
  | .leaf q x, p, v, d, h, hp, hl, hv, h1, h2 => by
    obtain ⟨g1, g2, g3, g4, g5⟩ := h
    show okN d (if q = p then _ else _)
    split
    · exact ⟨hp, hl, hv, h1, h2⟩
    · rename_i hne
      have hs := cpN_lt g2 hl hne
      have hc := cpN_le q p
      have a := addV_ok (x := []) (p := q.drop (cpN q p)) (fun x hx => by cases hx) (by simp) g3 g5
      exact growN_ok hs hc.2 (addC_ok (noN_ok _) (g1.drop _) (by rw [List.length_drop]; omega) g3 g4 g5) a.1 a.2 hp hl hv h1 h2
  | .stem q t, p, v, d, h, hp, hl, hv, h1, h2 => by
    obtain ⟨g1, g2, g3, g4, g5⟩ := h
    have hc := cpN_le q p
    show okN d (if cpN q p = q.length then _ else _)
    split
    · rename_i e
      exact leadN_ok g1 g2 (putN_ok g5 (hp.drop _) (by rw [List.length_drop]; omega) hv h1 h2)
    · refine growN_ok (by omega) hc.2 (updN_ok (noN_ok _) (leadN_ok (g1.drop _) (by rw [List.length_drop]; omega) ?_)) (fun x hx => by cases hx) (by simp) hp hl hv h1 h2
      rw [List.length_drop]
      exact g5.mono (by omega)
  | .fork c x, p, v, d, h, hp, hl, hv, h1, h2 => by
    obtain ⟨g1, g2, g3, g4⟩ := h
    cases p with
    | nil => exact ⟨g1, g2, hv, h2⟩
    | cons i r =>
      have hi : i < 16 := hp i (by simp)
      exact ⟨g1, updN_ok g2 (putN_ok (g2 i hi) (fun x hx => hp x (by simp [hx])) (by simp at hl; omega) hv h1 h2), g3, g4⟩
/-- A fork with one put into it is a fork. -/
theorem putN_fk {n : Nd} (h : isFk n) (p v : List Nat) : isFk (putN n p v) := by
  cases n with
  | fork c x => cases p <;> trivial
  | nil => exact h.elim
  | far _ => exact h.elim
  | leaf _ _ => exact h.elim
  | stem _ _ => exact h.elim
end Go.Proofs.YtmpfnglcmaollaaDoor
namespace Go.Proofs.YtmpfnglcmaollaaDoor
open Go.ChangeShapes Go.WideShapes Go.ChangeAt Go.RowKit

set_option maxRecDepth 20000 in
theorem meth_leaf (w : World) (b : Nat) {r0 r1 r2 : Value} (c0 : w.cell? ⟨b, 0, none⟩ = some r0) (c1 : w.cell? ⟨b, 1, none⟩ = some r1) (c2 : w.cell? ⟨b, 2, none⟩ = some r2) : Sem.run Tryd.prog (Go.method 297 130 (.pointer (some ⟨b, 0, none⟩)) "moraine/trie.reference") w = .ok (137, .agg #[r0, r1, r2]) w := by
  have h : (Array.find? (fun x => x.name == "moraine/trie.reference") Tryd.t130.methods).map (fun m => (m.path, m.func)) = some (#[{ struct := 133, index := 0, deref := true }], some (137, false)) := by kernel_rfl
  obtain ⟨m, hm, he⟩ := Option.map_eq_some_iff.1 h
  simp only [Prod.mk.injEq] at he
  obtain ⟨hp, hf⟩ := he
  have hfo : Sem.run Tryd.prog (follow [] 123 (Place.var ⟨b, 0, none⟩)) w = .ok (123, Place.var ⟨b, 0, none⟩) w := by kernel_rfl
  unfold Go.method
  go_simp
  unfold follow receiverAt
  go_simp
  unfold Place.get
  go_simp
set_option maxRecDepth 20000 in
theorem meth_stem (w : World) (b : Nat) {r0 r1 r2 : Value} (c0 : w.cell? ⟨b, 0, none⟩ = some r0) (c1 : w.cell? ⟨b, 1, none⟩ = some r1) (c2 : w.cell? ⟨b, 2, none⟩ = some r2) : Sem.run Tryd.prog (Go.method 297 121 (.pointer (some ⟨b, 0, none⟩)) "moraine/trie.reference") w = .ok (137, .agg #[r0, r1, r2]) w := by
  have h : (Array.find? (fun x => x.name == "moraine/trie.reference") Tryd.t121.methods).map (fun m => (m.path, m.func)) = some (#[{ struct := 125, index := 0, deref := true }], some (137, false)) := by kernel_rfl
  obtain ⟨m, hm, he⟩ := Option.map_eq_some_iff.1 h
  simp only [Prod.mk.injEq] at he
  obtain ⟨hp, hf⟩ := he
  have hfo : Sem.run Tryd.prog (follow [] 123 (Place.var ⟨b, 0, none⟩)) w = .ok (123, Place.var ⟨b, 0, none⟩) w := by kernel_rfl
  unfold Go.method
  go_simp
  unfold follow receiverAt
  go_simp
  unfold Place.get
  go_simp
set_option maxRecDepth 20000 in
theorem meth_fork (w : World) (b : Nat) {r0 r1 r2 : Value} (c0 : w.cell? ⟨b, 0, none⟩ = some r0) (c1 : w.cell? ⟨b, 1, none⟩ = some r1) (c2 : w.cell? ⟨b, 2, none⟩ = some r2) : Sem.run Tryd.prog (Go.method 297 126 (.pointer (some ⟨b, 0, none⟩)) "moraine/trie.reference") w = .ok (137, .agg #[r0, r1, r2]) w := by
  have h : (Array.find? (fun x => x.name == "moraine/trie.reference") Tryd.t126.methods).map (fun m => (m.path, m.func)) = some (#[{ struct := 129, index := 0, deref := true }], some (137, false)) := by kernel_rfl
  obtain ⟨m, hm, he⟩ := Option.map_eq_some_iff.1 h
  simp only [Prod.mk.injEq] at he
  obtain ⟨hp, hf⟩ := he
  have hfo : Sem.run Tryd.prog (follow [] 123 (Place.var ⟨b, 0, none⟩)) w = .ok (123, Place.var ⟨b, 0, none⟩) w := by kernel_rfl
  unfold Go.method
  go_simp
  unfold follow receiverAt
  go_simp
  unfold Place.get
  go_simp
set_option maxRecDepth 20000 in
theorem meth_far (w : World) (x : Value) : Sem.run Tryd.prog (Go.method 297 101 x "moraine/trie.reference") w = .ok (112, x) w := by
  have h : (Array.find? (fun x => x.name == "moraine/trie.reference") Tryd.t101.methods).map (fun m => (m.path, m.func)) = some (#[], some (112, false)) := by kernel_rfl
  obtain ⟨m, hm, he⟩ := Option.map_eq_some_iff.1 h
  simp only [Prod.mk.injEq] at he
  obtain ⟨hp, hf⟩ := he
  unfold Go.method
  go_simp
  unfold follow receiverAt
  go_simp
  unfold Place.get
  go_simp
set_option maxRecDepth 20000 in
theorem sealedRef_c (w : World) {l : Bool} {a1 a2 : Option Addr} {n1 c1 n2 c2 : Nat} :
    Calls Tryd.prog 137 #[.agg #[.bool l, .slice a1 n1 c1, .slice a2 n2 c2]] w fun e w' => e = .returned (.agg #[.bool l, .slice a1 n1 c1, .slice a2 n2 c2]) ∧ Fr [] w w' := by
  go_enter Tryd.func137, Tryd.ntmps137
  go_wp2_with fail
  have hb : ((w.alloc (Obj.cells #[Value.bool l, Value.slice a1 n1 c1, Value.slice a2 n2 c2] 123)).alloc (Obj.cells #[Value.bool l, Value.slice a1 n1 c1, Value.slice a2 n2 c2] 77)).heap[w.heap.size + 1]? = some (.cells #[Value.bool l, Value.slice a1 n1 c1, Value.slice a2 n2 c2] 77 (0, 0)) := new_at _ _ (by simp)
  refine bodyPost_ret (ret_cI rfl rfl (load_it hb)) rfl ?_
  exact ⟨rfl, ((Fr.refl _ _).alloc _).alloc _⟩
theorem strL32 {h : List Nat} (hl : h.length = 32) : (strL h).length = 33 := by
  unfold strL headL
  rw [if_neg (by omega), if_pos (by omega), List.length_append]
  simp [hl]
/-- The reference of a node that isn't far, as it is asked for: what the method is handed, and tells. -/
theorem NdV.meth {S : Nat → Prop} {w : World} {n : Nd} {v : Value} (h : NdV S w n v) (hn : n ≠ .nil) (hf : ∀ x, n ≠ .far x) : ∃ T x l a1 n1 c1 a2 n2 c2, v = .iface T x ∧ (∀ w', Agr S w w' → Sem.run Tryd.prog (Go.method 297 T x "moraine/trie.reference") w' = .ok (137, .agg #[.bool l, .slice a1 n1 c1, .slice a2 n2 c2]) w') ∧ RfS S w (.agg #[.bool l, .slice a1 n1 c1, .slice a2 n2 c2]) (refE n) (slN n) := by
  cases n with
  | nil => exact absurd rfl hn
  | far h' => exact absurd rfl (hf h')
  | leaf p x =>
    obtain ⟨b, r0, r1, r2, pv, vv, rfl, hb, h1, _, _, h4⟩ := h
    obtain ⟨l, a1, n1, c1, a2, n2, c2, e⟩ := h4.agg
    simp only [Value.agg.injEq, Array.mk.injEq, List.cons.injEq, and_true] at e
    obtain ⟨rfl, rfl, rfl⟩ := e
    refine ⟨_, _, l, a1, n1, c1, a2, n2, c2, rfl, fun w' ha => ?_, h4⟩
    have g := h1
    rw [← ha b hb] at g
    exact meth_leaf w' b (by simpa using blk_cell g 0) (by simpa using blk_cell g 1) (by simpa using blk_cell g 2)
  | stem p t =>
    obtain ⟨b, r0, r1, r2, pv, bl, rfl, hb, h1, _, _, h4⟩ := h
    obtain ⟨l, a1, n1, c1, a2, n2, c2, e⟩ := h4.agg
    simp only [Value.agg.injEq, Array.mk.injEq, List.cons.injEq, and_true] at e
    obtain ⟨rfl, rfl, rfl⟩ := e
    refine ⟨_, _, l, a1, n1, c1, a2, n2, c2, rfl, fun w' ha => ?_, h4⟩
    have g := h1
    rw [← ha b hb] at g
    exact meth_stem w' b (by simpa using blk_cell g 0) (by simpa using blk_cell g 1) (by simpa using blk_cell g 2)
  | fork c x =>
    obtain ⟨b, r0, r1, r2, V, vv, rfl, hb, h1, _, _, h4⟩ := h
    obtain ⟨l, a1, n1, c1, a2, n2, c2, e⟩ := h4.agg
    simp only [Value.agg.injEq, Array.mk.injEq, List.cons.injEq, and_true] at e
    obtain ⟨rfl, rfl, rfl⟩ := e
    refine ⟨_, _, l, a1, n1, c1, a2, n2, c2, rfl, fun w' ha => ?_, h4⟩
    have g := h1
    rw [← ha b hb] at g
    exact meth_fork w' b (by simpa using blk_cell g 0) (by simpa using blk_cell g 1) (by simpa using blk_cell g 2)
end Go.Proofs.YtmpfnglcmaollaaDoor
namespace Go.Proofs.YtmpfnglcmaollaaDoor
open Go.ChangeShapes Go.WideShapes Go.ChangeAt Go.RowKit

theorem asStem_y (w : World) (b : Nat) : (Instr.typeAssert (.iface 121 (.pointer (some ⟨b, 0, none⟩))) 84 121 true).run Tryd.prog w = .ok (.tuple #[.pointer (some ⟨b, 0, none⟩), .bool true]) w := by
  kernel_rfl
theorem asLeaf_f (w : World) (b : Nat) : (Instr.typeAssert (.iface 126 (.pointer (some ⟨b, 0, none⟩))) 84 130 true).run Tryd.prog w = .ok (.tuple #[.pointer none, .bool false]) w := by
  kernel_rfl
theorem asStem_f (w : World) (b : Nat) : (Instr.typeAssert (.iface 126 (.pointer (some ⟨b, 0, none⟩))) 84 121 true).run Tryd.prog w = .ok (.tuple #[.pointer none, .bool false]) w := by
  kernel_rfl
theorem asFork_y (w : World) (b : Nat) : (Instr.typeAssert (.iface 126 (.pointer (some ⟨b, 0, none⟩))) 84 126 true).run Tryd.prog w = .ok (.tuple #[.pointer (some ⟨b, 0, none⟩), .bool true]) w := by
  kernel_rfl
set_option maxRecDepth 20000 in
set_option maxHeartbeats 1600000 in
theorem itemStem_c (w : World) {S : Nat → Prop} (hi : InS S w) {b : Nat} {T0 : TypeId} {q0 q1 q2 pv bl : Value} (hB : w.heap[b]? = some (.cells #[q0, q1, q2, pv, bl] T0 (0, 0))) {p : List Nat} {t : Nd} (hp : Un S w (fun w' => Rd w' pv (bv p))) (hok : okP p = true) (hv : NdV S w t bl) (hn : t ≠ .nil) (hf : ∀ x, t ≠ .far x) :
    Calls Tryd.prog 48 #[.iface 121 (.pointer (some ⟨b, 0, none⟩))] w fun e w' => ∃ iv d, e = .returned (.tuple #[iv, .int .i64 0]) ∧ 9 * d ≤ (refE t).length + slN t ∧ 1 ≤ d ∧ Un (Up S w w') w' (fun w'' => ItV 21 w'' iv (lstF (strL (packF p false) ++ refE t)) (d + 1) ((refE t).length + 2)) ∧ (∃ l a1 n1 c1 a2 n2 c2, iv = .agg #[.bool l, .slice a1 n1 c1, .slice a2 n2 c2]) ∧ Fr [] w w' := by
  obtain ⟨pa, pc, e1⟩ := hp.now.form
  rw [bv_len] at e1
  subst e1
  obtain ⟨np, hnp⟩ : ∃ np, np = p.length := ⟨_, rfl⟩
  rw [← hnp] at hp hB
  obtain ⟨T, x, l, b1, m1, d1, b2, m2, d2, rfl, hm, d, hd, hd1, hI⟩ := hv.meth hn hf
  have c3 := blk_cell hB 3
  have c4 := blk_cell hB 4
  simp at c3 c4
  obtain ⟨W, hW⟩ : ∃ W, W = w.alloc (.cells #[.bool false, .slice none 0 0, .slice none 0 0] 77) := ⟨_, rfl⟩
  have F : Hid (Fr [] w W) := hid (by rw [hW]; exact (Fr.refl _ w).alloc _)
  have Y : Hid (W.heap[w.heap.size]? = some (.cells #[.bool false, .slice none 0 0, .slice none 0 0] 77 (0, 0))) := hid (by rw [hW]; exact blk_new _ _)
  have PC : Hid (∀ W', Fr [] w W' → Calls Tryd.prog 67 #[.slice pa np pc, .bool false, .agg #[.bool l, .slice b1 m1 d1, .slice b2 m2 d2]] W' fun e w' => ∃ iv, e = .returned (.tuple #[iv, .int .i64 0]) ∧ (∀ w'', (∀ k, W'.heap.size ≤ k → k < w'.heap.size → w''.heap[k]? = w'.heap[k]?) → Agr S w w'' → ItV 21 w'' iv (lstF (strL (packF p false) ++ refE t)) (d + 1) ((refE t).length + 2)) ∧ (∃ l a1 n1 c1 a2 n2 c2, iv = .agg #[.bool l, .slice a1 n1 c1, .slice a2 n2 c2]) ∧ Fr [] W' w') := hid (fun W' f => (pair_c W' (hp _ (hi.agr f)) false hok (hI _ (hi.agr f)) hd1).mono (by
    rintro e w' ⟨iv, rfl, q1, q2, q3⟩
    exact ⟨iv, rfl, fun w'' h1 h2 => q1 w'' h1 (hI _ h2), q2, q3⟩))
  have MC : Hid (∀ W', Fr [] w W' → Sem.run Tryd.prog (Go.method 297 T x "moraine/trie.reference") W' = .ok (137, .agg #[.bool l, .slice b1 m1 d1, .slice b2 m2 d2]) W') := hid fun W' f => hm W' (hi.agr f)
  have SK : Hid (∀ w', Fr [] w w' → w'.cell? ⟨b, 3, none⟩ = some (.slice pa np pc) ∧ w'.cell? ⟨b, 4, none⟩ = some (.iface T x)) := hid fun w' f => ⟨cell_fr c3 f, cell_fr c4 f⟩
  have YD : Hid (W.drew.heap[w.heap.size]? = some (.cells #[.bool false, .slice none 0 0, .slice none 0 0] 77 (0, 0))) := hid (by rw [blk_drew]; exact Y.out)
  have HI0 := hid hi
  have HD := hid hd
  have HD1 := hid hd1
  clear hp hv hB c3 c4 hnp hok hm hI hi hd hd1 hn hf
  go_enter Tryd.func48, Tryd.ntmps48
  go_upto_region 1 with fail
  rw [← hW]
  clear hW
  have ta := asLeaf_s W b
  have tb := asStem_y W b
  go_upto_region 7 with fail
  clear ta tb
  refine wp_region_held_drew (S := fun w' => w'.cell? ⟨b, 3, none⟩ = some (.slice pa np pc) ∧ w'.cell? ⟨b, 4, none⟩ = some (.iface T x)) (by kernel_rfl) (SK.out _ F.out.drew) (fun hS => ?_)
  refine wpAnyH_take (i := 0) (v := .pointer (some ⟨b, 0, none⟩)) rfl (by kernel_rfl) (by kernel_rfl) (by kernel_rfl) (fun _ _ _ h => h) (.inl ⟨by rfl, fun wx _ => by go_simp⟩) hS ?_
  simp only [Act.put]
  refine wpAnyH_take (i := 1) (v := .pointer (some ⟨b, 0, none⟩)) rfl (by kernel_rfl) (by kernel_rfl) (by kernel_rfl) (fun _ _ _ h => h) (.inl ⟨by rfl, fun wx _ => by go_simp⟩) hS ?_
  simp only [Act.put]
  refine wpAnyH_take (i := 2) (v := .pointer (some ⟨b, 3, none⟩)) rfl (by kernel_rfl) (by kernel_rfl) (by kernel_rfl) (fun _ _ _ h => h) (.inl ⟨by rfl, fun wx _ => by go_simp⟩) hS ?_
  simp only [Act.put]
  refine wpAnyH_take (i := 3) (v := .slice pa np pc) rfl (by kernel_rfl) (by kernel_rfl) (by kernel_rfl) (fun _ _ _ h => h) (.inl ⟨by rfl, fun wx hX => by obtain ⟨x0, x1⟩ := hX; go_simp⟩) hS ?_
  simp only [Act.put]
  refine wpAnyH_take (i := 4) (v := .pointer (some ⟨b, 0, none⟩)) rfl (by kernel_rfl) (by kernel_rfl) (by kernel_rfl) (fun _ _ _ h => h) (.inl ⟨by rfl, fun wx _ => by go_simp⟩) hS ?_
  simp only [Act.put]
  refine wpAnyH_take (i := 5) (v := .pointer (some ⟨b, 0, none⟩)) rfl (by kernel_rfl) (by kernel_rfl) (by kernel_rfl) (fun _ _ _ h => h) (.inl ⟨by rfl, fun wx _ => by go_simp⟩) hS ?_
  simp only [Act.put]
  refine wpAnyH_take (i := 6) (v := .pointer (some ⟨b, 4, none⟩)) rfl (by kernel_rfl) (by kernel_rfl) (by kernel_rfl) (fun _ _ _ h => h) (.inl ⟨by rfl, fun wx _ => by go_simp⟩) hS ?_
  simp only [Act.put]
  refine wpAnyH_take (i := 7) (v := .iface T x) rfl (by kernel_rfl) (by kernel_rfl) (by kernel_rfl) (fun _ _ _ h => h) (.inl ⟨by rfl, fun wx hX => by obtain ⟨x0, x1⟩ := hX; go_simp⟩) hS ?_
  simp only [Act.put]
  clear hS
  refine wpAnyH_ready (rs := [8]) (by kernel_rfl) (by simp) ?_
  refine AllReadyH.cons rfl (fun K hK => ?_) AllReadyH.nil
  have mL := MC.out _ F.out.drew
  go_simp
  clear mL
  go_at_call 137
  refine (sealedRef_c _).mono ?_
  rintro e w1 ⟨rfl, f1⟩
  have F1 := hid (F.out.drew.trans f1)
  have Y1 := hid (blk_frT YD.out f1)
  clear f1
  go_simp
  have hS1 := SK.out _ F1.out
  refine hK.out _ _ hS1 (fun _ => ?_)
  clear hK K hS1
  refine wpAnyH_ready (rs := [9]) (by kernel_rfl) (by simp) ?_
  refine AllReadyH.cons rfl (fun K hK => ?_) AllReadyH.nil
  go_simp
  go_at_call 67
  refine (PC.out _ F1.out).mono ?_
  rintro e w2 ⟨iv, rfl, hI, ⟨l1, a1, n1, c1, a2, n2, c2, rfl⟩, f2⟩
  have HI := hid hI
  have F2 := hid (F1.out.trans f2)
  have Y2 := hid (blk_frT Y1.out f2)
  clear hI f2
  go_simp
  have hS2 := SK.out _ F2.out
  refine hK.out _ _ hS2 (fun _ => ?_)
  clear hK K
  refine wpAnyH_take (i := 10) (v := .agg #[.bool l1, .slice a1 n1 c1, .slice a2 n2 c2]) rfl (by kernel_rfl) (by kernel_rfl) (by kernel_rfl) (fun _ _ _ h => h) (.inl ⟨by rfl, fun wx _ => by go_simp⟩) hS2 ?_
  simp only [Act.put]
  refine wpAnyH_take (i := 11) (v := .int .i64 0) rfl (by kernel_rfl) (by kernel_rfl) (by kernel_rfl) (fun _ _ _ h => h) (.inl ⟨by rfl, fun wx _ => by go_simp⟩) hS2 ?_
  simp only [Act.put, List.getElem_toArray, List.getElem_cons_succ, List.getElem_cons_zero]
  clear hS2
  have FT := hid (((F2.out.set (p := w.heap.size) 0 (.bool l1) (.inr (Nat.le_refl _))).set (p := w.heap.size) 1 (.slice a1 n1 c1) (.inr (Nat.le_refl _))).set (p := w.heap.size) 2 (.slice a2 n2 c2) (.inr (Nat.le_refl _)))
  have T3 := hid (three_set (u := .bool l1) (v := .slice a1 n1 c1) (t := .slice a2 n2 c2) Y2.out)
  have FI : Hid (Fr [w.heap.size] w2 (((w2.setCell ⟨w.heap.size, 0, none⟩ (.bool l1)).setCell ⟨w.heap.size, 1, none⟩ (.slice a1 n1 c1)).setCell ⟨w.heap.size, 2, none⟩ (.slice a2 n2 c2))) := hid ((((Fr.refl _ _).set _ _ (.inl (by simp))).set _ _ (.inl (by simp))).set _ _ (.inl (by simp)))
  refine wpAnyH_ready (rs := [12]) (by kernel_rfl) (by simp) ?_
  refine AllReadyH.cons rfl (fun K hK => ?_) AllReadyH.nil
  refine step_store3 (l := l1) (a0 := a1) (n0 := n1) (c0 := c1) (a1 := a2) (n1 := n2) (c1 := c2) rfl rfl (.tmp 2) (.tmp 39) rfl Y2.out (by simp [Act.eval]) (by simp [Act.eval]) ?_
  refine hK.out _ _ (SK.out _ FT.out) (fun hS3 => ?_)
  clear hK K
  refine wpAnyH_take (i := 13) (v := .int .i64 0) rfl (by kernel_rfl) (by kernel_rfl) (by kernel_rfl) (fun _ _ _ h => h) (.inl ⟨by rfl, fun wx _ => by go_simp⟩) hS3 ?_
  simp only [Act.put, List.getElem_toArray, List.getElem_cons_succ, List.getElem_cons_zero]
  refine wpAnyH_done (by kernel_rfl) ?_ _
  clear hS3
  go_wp2
  refine bodyPost_ret (v := .tuple #[.agg #[.bool l1, .slice a1 n1 c1, .slice a2 n2 c2], .int .i64 0]) (ret_ctU (p := 2) (u := 3) rfl (by kernel_rfl) (by kernel_rfl) (load_it T3.out)) rfl ?_
  refine ⟨_, d, rfl, HD.out, HD1.out, fun w'' ha => HI.out w'' (fun k h1 h2 => ?_) (((HI0.out.agr FT.out).trans (ha.sub fun k hk => Up.old hk))), ⟨_, _, _, _, _, _, _, rfl⟩, FT.out⟩
  have hne : k ≠ w.heap.size := by have := (Array.getElem?_eq_some_iff.1 Y1.out).1; omega
  rw [ha k (.inr ⟨by have := F1.out.size; omega, Nat.lt_of_lt_of_le h2 FI.out.size⟩), blk_setne _ _ _ hne, blk_setne _ _ _ hne, blk_setne _ _ _ hne]
end Go.Proofs.YtmpfnglcmaollaaDoor
