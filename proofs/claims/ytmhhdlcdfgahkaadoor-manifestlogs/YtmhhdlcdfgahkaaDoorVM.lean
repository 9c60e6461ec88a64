/-
  Maps without values: sets of numbers, of dropped tables.
-/
import Derived.Test.YtmhhdlcdfgahkaaDoorJ03
import Derived.ChangeMaps4
import Derived.MapKept
namespace Go.Proofs.YtmhhdlcdfgahkaaDoor
open Go.ChangeShapes Go.WideShapes Go.ChangeAt Go.RowKit

/-- Values that are keys of one type. -/
structure KeyOk {α : Type} (kt : TypeId) (enc : α → Value) : Prop where
  check : ∀ (e : Bool) (x : α) (w : World), (Instr.checkKey e 10000 kt (enc x)).run Tryd.prog w = .ok () w
  find : ∀ (x : α) (es : List MapEntry) (w : World), (∀ e ∈ es, ∃ y, e.key = enc y) → ((∀ e ∈ es, e.key ≠ enc x) ∧ (Instr.findKey kt (enc x) es).run Tryd.prog w = .ok none w) ∨ ∃ j e, es[j]? = some e ∧ e.key = enc x ∧ (Instr.findKey kt (enc x) es).run Tryd.prog w = .ok (some (j, e.val)) w
  stays : ∀ (x : α) (w : World), (Instr.keyThatStays (enc x) (enc x)).run Tryd.prog w = .ok (enc x) w
  inj : ∀ x y : α, enc x = enc y → x = y
/-- A block that is the set of ks. -/
def SetB {α : Type} (enc : α → Value) (w : World) (m : Nat) (ks : List α) : Prop :=
  ∃ es clock, w.heap[m]? = some (.map es clock) ∧ (∀ e ∈ es.toList, e.val = .agg #[] ∧ ∃ k ∈ ks, e.key = enc k) ∧ ∀ k ∈ ks, ∃ e ∈ es.toList, e.key = enc k
theorem SetB.new {α : Type} (enc : α → Value) (w : World) {m : Nat} (hm : m = w.heap.size) : SetB enc (w.alloc (.map #[] 0)) m [] := by
  subst hm
  exact ⟨#[], 0, (MapKept.heap_alloc w _).1, by simp, by simp⟩
theorem SetB.lt {α : Type} {enc : α → Value} {w : World} {m : Nat} {ks : List α} (h : SetB enc w m ks) : m < w.heap.size := by
  obtain ⟨es, cl, hb, _⟩ := h
  exact (Array.getElem?_eq_some_iff.1 hb).1
theorem SetB.of {α : Type} {enc : α → Value} {w w' : World} {m : Nat} {ks : List α} (h : SetB enc w m ks) (e : w'.heap[m]? = w.heap[m]?) : SetB enc w' m ks := by
  obtain ⟨es, cl, hb, r⟩ := h
  exact ⟨es, cl, e.trans hb, r⟩
theorem SetB.fr {α : Type} {enc : α → Value} {w w' : World} {m : Nat} {ks : List α} (h : SetB enc w m ks) (f : Fr [] w w') : SetB enc w' m ks := h.of (f.block m h.lt (by simp))
theorem SetB.look {α : Type} {enc : α → Value} {kt mt et : TypeId} [DecidableEq α] (K : KeyOk kt enc) (ht : Tryd.prog.underlying mt = some (.map kt et)) (hz : ∀ w, (zeroValue et).run Tryd.prog w = .ok (.agg #[]) w) {w : World} {m : Nat} {ks : List α} (h : SetB enc w m ks) (x : α) :
    (Instr.lookup mt (.map (some m)) (enc x) true).run Tryd.prog w = .ok (.tuple #[.agg #[], .bool (decide (x ∈ ks))]) w := by
  obtain ⟨es, cl, hb, h1, h2⟩ := h
  rcases K.find x es.toList w (fun e he => (h1 e he).2.imp fun k hk => hk.2) with ⟨h3, h4⟩ | ⟨j, e, h3, h4, h5⟩
  · have hx : x ∉ ks := fun hx => by obtain ⟨e, he, hk⟩ := h2 x hx; exact h3 e he hk
    rw [decide_eq_false hx]
    simp [Instr.lookup, run_underlying ht, MapKept.run_getObj_map hb, K.check, h4, hz, Result.andThen]
  · have he := List.mem_of_getElem? h3
    obtain ⟨h6, k, hk, h7⟩ := h1 e he
    have hx : x ∈ ks := by rw [K.inj x k (h4.symm.trans h7)]; exact hk
    rw [decide_eq_true hx]
    simp [Instr.lookup, run_underlying ht, MapKept.run_getObj_map hb, K.check, h5, h6, Result.andThen]
theorem SetB.put {α : Type} {enc : α → Value} {kt mt et : TypeId} (K : KeyOk kt enc) (ht : Tryd.prog.underlying mt = some (.map kt et)) {w : World} {m : Nat} {ks : List α} (h : SetB enc w m ks) (x : α) :
    ∃ o, (Instr.mapUpdate mt (.map (some m)) (enc x) (.agg #[])).run Tryd.prog w = .ok () (ChangeMaps.setBlock w m o) ∧ SetB enc (ChangeMaps.setBlock w m o) m (ks ++ [x]) := by
  obtain ⟨es, cl, hb, h1, h2⟩ := h
  rcases K.find x es.toList w (fun e he => (h1 e he).2.imp fun k hk => hk.2) with ⟨h3, h4⟩ | ⟨j, e, h3, h4, h5⟩
  · refine ⟨_, by simp [Instr.mapUpdate, run_underlying ht, MapKept.run_getObj_map hb, K.check, h4, MapKept.run_setObj_map _ hb, Result.andThen, ChangeMaps.setBlock]; rfl, _, _, (MapKept.heap_set hb).1, ?_, ?_⟩
    · intro e he
      rw [Array.toList_push, List.mem_append, List.mem_singleton] at he
      rcases he with he | rfl
      · obtain ⟨q, k, hk, e1⟩ := h1 e he
        exact ⟨q, k, by simp [hk], e1⟩
      · exact ⟨rfl, x, by simp, rfl⟩
    · intro k hk
      rw [List.mem_append, List.mem_singleton] at hk
      rcases hk with hk | rfl
      · obtain ⟨e, he, e1⟩ := h2 k hk
        exact ⟨e, by rw [Array.toList_push]; simp [he], e1⟩
      · exact ⟨⟨enc k, .agg #[], cl⟩, by rw [Array.toList_push]; simp, rfl⟩
  · have hj : es[j]? = some e := by simpa using h3
    have hx : x ∈ ks := by
      obtain ⟨_, k, hk, h7⟩ := h1 e (List.mem_of_getElem? h3)
      rw [K.inj x k (h4.symm.trans h7)]; exact hk
    have hkey : ∀ e', es[j]? = some e' → ({ e' with key := enc x, val := .agg #[] } : MapEntry).key = e'.key := fun e' he' => by rw [hj] at he'; cases he'; exact h4.symm
    have hks := MapKept.modify_keys j (fun e' => ({ e' with key := enc x, val := .agg #[] } : MapEntry)) hkey
    refine ⟨_, by simp [Instr.mapUpdate, run_underlying ht, MapKept.run_getObj_map hb, K.check, h5, hj, h4, K.stays, MapKept.run_setObj_map _ hb, Result.andThen, ChangeMaps.setBlock]; rfl, _, _, (MapKept.heap_set hb).1, ?_, ?_⟩
    · intro e' he'
      obtain ⟨i, hi⟩ := List.getElem?_of_mem he'
      rw [Array.getElem?_toList, Array.getElem?_modify] at hi
      by_cases hij : j = i
      · subst hij
        rw [if_pos rfl, hj] at hi
        simp at hi
        subst hi
        exact ⟨rfl, x, by simp, rfl⟩
      · rw [if_neg hij] at hi
        obtain ⟨q, k, hk, e1⟩ := h1 e' (List.mem_of_getElem? (by rw [Array.getElem?_toList]; exact hi))
        exact ⟨q, k, by simp [hk], e1⟩
    · intro k hk
      have hk' : k ∈ ks := by
        rw [List.mem_append, List.mem_singleton] at hk
        rcases hk with hk | rfl
        · exact hk
        · exact hx
      obtain ⟨e2, he2, e1⟩ := h2 k hk'
      have h8 : e2.key ∈ es.toList.map (·.key) := List.mem_map.2 ⟨e2, he2, rfl⟩
      rw [← hks] at h8
      obtain ⟨e3, he3, e4⟩ := List.mem_map.1 h8
      exact ⟨e3, he3, e4.trans e1⟩
/-- A number as a key. -/
def encN (n : Int) : Value := .int .i64 n
theorem int_ok : KeyOk 3 encN where
  check e x w := MapKept.run_checkKey (d := .int .i64) Tryd.underlying3 (show MapKept.IsKey (.int .i64) (.int .i64 x) from rfl) e 9999
  find x es w h := by
    rcases MapKept.findNow_spec (d := .int .i64) (k := encN x) (show MapKept.IsKey (.int .i64) (.int .i64 x) from rfl) es 0 (fun e he => by obtain ⟨y, hy⟩ := h e he; rw [hy]; exact rfl) with ⟨h1, h2⟩ | ⟨j, e, h1, h2, h3⟩
    · exact .inl ⟨h2, MapKept.run_findKey Tryd.underlying3 h1⟩
    · exact .inr ⟨j, e, h2, h3, by rw [MapKept.run_findKey Tryd.underlying3 h1, Nat.zero_add]⟩
  stays x w := MapKept.run_keyThatStays (d := .int .i64) (show MapKept.IsKey (.int .i64) (.int .i64 x) from rfl)
  inj x y h := by unfold encN at h; cases h; rfl
/-- A dropped table as a key. -/
def encG (g : Int × Int) : Value := .agg #[.int .i64 g.1, .int .i64 g.2]
theorem eqG0 (a b c d : Int) (w : World) : (Op.equalIn 10000 47 (.agg #[.int .i64 a, .int .i64 b]) (.agg #[.int .i64 c, .int .i64 d])).run Tryd.prog w = .ok (a == c && b == d) w := by
  have u3 := Tryd.underlying3
  have a3 := Tryd.isAgg3
  have z3 := Tryd.sizeOf3
  have hS : Tryd.prog.underlying 47 = some (.struct (Tryd.prog.fieldsOf 47)) := by kernel_rfl
  have hp : Tryd.prog.stoodInHeld 47 = false := by kernel_rfl
  rw [show (10000 : Nat) = 9999 + 1 from rfl, run_equalIn_agg w 9999 47 _ _ hS hp]
  simp only [Program.fieldsOf, Tryd.underlying47]
  go_simp
  by_cases h1 : a = c <;> by_cases h2 : b = d <;> simp [h1, h2]
theorem eqG (x y : Int × Int) (w : World) : (Op.equal 47 (encG x) (encG y)).run Tryd.prog w = .ok (decide (x = y)) w := by
  have h : (Op.equal 47 (encG x) (encG y)).run Tryd.prog w = .ok (x.1 == y.1 && x.2 == y.2) w := eqG0 _ _ _ _ w
  have e : (x.1 == y.1 && x.2 == y.2) = decide (x = y) := by
    rw [Bool.eq_iff_iff]
    simp [Prod.ext_iff]
  rw [h, e]
theorem find_asking (x : Int × Int) (w : World) : ∀ (es : List MapEntry) (i : Nat), (∀ e ∈ es, ∃ y, e.key = encG y) → ((∀ e ∈ es, e.key ≠ encG x) ∧ (Instr.findAsking 47 (encG x) es i).run Tryd.prog w = .ok none w) ∨ ∃ j e, es[j]? = some e ∧ e.key = encG x ∧ (Instr.findAsking 47 (encG x) es i).run Tryd.prog w = .ok (some (i + j, e.val)) w
  | [], i, _ => .inl ⟨by simp, by simp [Instr.findAsking]⟩
  | e :: es, i, h => by
    obtain ⟨y, hy⟩ := h e (by simp)
    by_cases hxy : x = y
    · refine .inr ⟨0, e, rfl, by rw [hy, hxy], ?_⟩
      simp [Instr.findAsking, hy, eqG, hxy, Result.andThen]
    · rcases find_asking x w es (i + 1) (fun e' he' => h e' (by simp [he'])) with ⟨h1, h2⟩ | ⟨j, e', h1, h2, h3⟩
      · refine .inl ⟨fun e' he' => ?_, by simp [Instr.findAsking, hy, eqG, hxy, Result.andThen, h2]⟩
        rcases List.mem_cons.1 he' with rfl | he'
        · rw [hy]
          intro q
          unfold encG at q
          simp at q
          exact hxy (Prod.ext q.1.symm q.2.symm)
        · exact h1 e' he'
      · exact .inr ⟨j + 1, e', by simpa using h1, h2, by simp [Instr.findAsking, hy, eqG, hxy, Result.andThen, h3]; omega⟩
theorem gone_ok : KeyOk 47 encG where
  check e x w := by cases e <;> kernel_rfl
  find x es w h := by
    cases es with
    | nil => exact .inl ⟨by simp, by simp [Instr.findKey, run_underlying Tryd.underlying47, Instr.findNow, Result.andThen]⟩
    | cons e es =>
      obtain ⟨y, hy⟩ := h e (by simp)
      have e1 : (Instr.findKey 47 (encG x) (e :: es)).run Tryd.prog w = (Instr.findAsking 47 (encG x) (e :: es)).run Tryd.prog w := by
        simp [Instr.findKey, run_underlying Tryd.underlying47, Instr.findNow, hy, encG, Instr.sameNow, Result.andThen]
      rw [e1]
      simpa using find_asking x w (e :: es) 0 h
  stays x w := by
    have : Instr.sameBits 10000 (encG x) (encG x) = true := by
      unfold encG
      simp [Instr.sameBits]
    simp [Instr.keyThatStays, this]
  inj x y h := by unfold encG at h; simp at h; exact Prod.ext h.1 h.2
theorem zeroU (w : World) : (zeroValue 70).run Tryd.prog w = .ok (.agg #[]) w := by kernel_rfl
end Go.Proofs.YtmhhdlcdfgahkaaDoor
