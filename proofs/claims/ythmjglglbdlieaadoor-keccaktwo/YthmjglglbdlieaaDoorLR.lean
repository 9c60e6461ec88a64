/-
  What KeccakSums keeps in memory: the hash, the sponge, the pieces.
-/
import Derived.Test.YthmjglglbdlieaaDoorKK
import Derived.Test.YthmjglglbdlieaaDoorKE
import Derived.Test.YthmjglglbdlieaaDoorRS
import Derived.Test.YthmjglglbdlieaaDoorKQ
import Derived.Deep.RegionHeld
namespace Go.Proofs.YthmjglglbdlieaaDoor
open Go.ChangeShapes Go.WideShapes Go.ChangeAt Go.RowKit

theorem own_ne {w : World} {base size n g : Nat} {e t : TypeId} {v : Value} {xs : List Value} {c : Array Value} (h : w.ownsRow base e size v n xs) (hg : w.heap[g]? = some (.cells c t (0, 0))) (ht : t ≠ e) : v.ownBlock ≠ some g := by
  intro hb
  rcases h.2 with ⟨rfl, _⟩ | ⟨g', cap, cur, rfl, _, h3, _⟩
  · simp [Value.ownBlock] at hb
  · simp only [Value.ownBlock, Option.some.injEq] at hb
    subst hb
    rw [hg] at h3
    simp only [Option.some.injEq, Obj.cells.injEq] at h3
    exact ht h3.2.1
theorem add_add (a : Addr) (t j : Nat) : (a.add t).add j = a.add (t + j) := by
  unfold Addr.add
  by_cases ht : t = 0 <;> by_cases hj : j = 0 <;> simp_all [Nat.add_assoc]
theorem own_grown {w w' : World} {B n n7 : Nat} {u v7 : Value} {xs ys : List Value} (hu : w.ownsRow B 5 1 u n xs) (h7 : w.ownsRow B 22 1 v7 n7 ys) (g : w.grownBy w' v7.ownBlock) : w'.ownsRow B 5 1 u n xs := by
  refine ownsRow_of_block hu fun k hk => ?_
  rcases hu.2 with ⟨rfl, _⟩ | ⟨g', cap, cur, rfl, _, h3, _⟩
  · simp [Value.ownBlock] at hk
  · simp only [Value.ownBlock, Option.some.injEq] at hk
    subst hk
    exact g.block _ (blk_lt h3) (fun e' => own_ne h7 h3 (by decide) e'.symm)
theorem own_beside {w w' : World} {B n g : Nat} {u : Value} {xs : List Value} {c : Array Value} {t : TypeId} (hu : w.ownsRow B 5 1 u n xs) (hg : w.heap[g]? = some (.cells c t (0, 0))) (ht : t ≠ 5) (f : Fr [g] w w') : w'.ownsRow B 5 1 u n xs :=
  ownsRow_of_block hu fun k hk => f.block k (hu.lt k hk).2 (by
    have := own_ne hu hg ht
    intro e; simp at e; subst e; exact this hk)
theorem own_p {w : World} {B P : Nat} {v : Value} {x : List Nat} {c : Array Value} {t : TypeId} (hu : w.ownsRow B 5 1 v x.length (bv x)) (hg : w.heap[P]? = some (.cells c t (0, 0))) (ht : t ≠ 5) : RdP P w v x :=
  RdP.of (Rd.ownB hu) fun a l c' hv _ => by
    have := own_ne hu hg ht
    rw [hv] at this
    simpa [Value.ownBlock] using this
/-- A part of bytes that can be read. -/
theorem slice_rd {w : World} {va : Option Addr} {cap t k : Nat} {ns : List Nat} (h : Rd w (.slice va ns.length cap) (bv ns)) (hk : t + k ≤ ns.length) :
    ∃ a c, (∀ wx : World, (Instr.slice 22 (.slice va ns.length cap) (some (.int .i64 (t : Int))) (some (.int .i64 ((t : Int) + (k : Int)))) none).run Tryd.prog wx = .ok (.slice a k c) wx) ∧ Rd w (.slice a k c) (bv ((ns.drop t).take k)) := by
  have hsz : ∀ wx : World, (sizeOf (Tryd.prog.elem 22)).run Tryd.prog wx = .ok 1 wx := fun wx => by kernel_rfl
  have hcap : ns.length ≤ cap := by
    rcases h with ⟨e, h2⟩ | ⟨a, c, e, h4, _⟩
    · simp only [Value.slice.injEq] at e
      omega
    · simp only [Value.slice.injEq] at e
      rw [bv_len] at h4; omega
  have hl : ((ns.drop t).take k).length = k := by rw [List.length_take, List.length_drop]; omega
  refine ⟨if cap = t then va else va.map (·.add t), cap - t, fun wx => ?_, ?_⟩
  · rw [run_slice_lh (P := Tryd.prog) wx 22 va ns.length cap (by kernel_rfl) .i64 .i64 (t : Int) ((t : Int) + (k : Int)) (by omega) (by omega) (by omega), hsz]
    simp only [Result.andThen_ok, sliced, Nat.mul_one, Int.toNat_natCast, show ((t : Int) + (k : Int)).toNat = t + k by omega, show t + k - t = k by omega]
  · rcases h with ⟨e, h2⟩ | ⟨a, c, e, h4, h5⟩
    · simp only [Value.slice.injEq] at e
      obtain ⟨rfl, e1, rfl⟩ := e
      have hns : ns = [] := List.eq_nil_of_length_eq_zero e1
      subst hns
      simp only [List.length_nil] at hk
      obtain ⟨rfl, rfl⟩ : t = 0 ∧ k = 0 := by omega
      exact .inl ⟨by simp, by simp [bv]⟩
    · simp only [Value.slice.injEq] at e
      obtain ⟨rfl, _, rfl⟩ := e
      by_cases hc : cap = t
      · have hk0 : k = 0 := by omega
        subst hk0
        rw [if_pos hc]
        exact .inr ⟨a, cap - t, by simp [bv], by simp [bv], fun j u hj => by simp [bv] at hj⟩
      · rw [if_neg hc]
        refine .inr ⟨a.add t, cap - t, by rw [bv_len, hl]; rfl, by rw [bv_len, hl]; omega, fun j u hj => ?_⟩
        have hj' : (bv ns)[t + j]? = some u := by
          rw [bv_take, bv_drop, List.getElem?_take] at hj
          split at hj
          · rwa [List.getElem?_drop] at hj
          · cases hj
        have := h5 (t + j) u hj'
        rw [add_add]
        exact this
/-- The first bytes of what can be read. -/
theorem slice_hd {w : World} {va : Option Addr} {cap t : Nat} {ns : List Nat} (h : Rd w (.slice va ns.length cap) (bv ns)) (ht : t ≤ ns.length) :
    (∀ wx : World, (Instr.slice 22 (.slice va ns.length cap) none (some (.int .i64 (t : Int))) none).run Tryd.prog wx = .ok (.slice va t cap) wx) ∧ Rd w (.slice va t cap) (bv (ns.take t)) := by
  have hsz : ∀ wx : World, (sizeOf (Tryd.prog.elem 22)).run Tryd.prog wx = .ok 1 wx := fun wx => by kernel_rfl
  have hcap : ns.length ≤ cap := by
    rcases h with ⟨e, h2⟩ | ⟨a, c, e, h4, _⟩
    · simp only [Value.slice.injEq] at e
      omega
    · simp only [Value.slice.injEq] at e
      rw [bv_len] at h4; omega
  have hl : (ns.take t).length = t := by rw [List.length_take]; omega
  refine ⟨fun wx => ?_, ?_⟩
  · rw [run_slice_h (P := Tryd.prog) wx 22 va ns.length cap (by kernel_rfl) .i64 (t : Int) (by omega) (by omega), hsz]
    simp only [Result.andThen_ok, sliced, Nat.zero_mul, Int.toNat_natCast, Nat.sub_zero]
    congr 2
    by_cases hc : cap = 0
    · rw [if_pos hc]
    · rw [if_neg hc]
      cases va with
      | none => rfl
      | some a => simp [Addr.add]
  · rcases h with ⟨e, h2⟩ | ⟨a, c, e, h4, h5⟩
    · simp only [Value.slice.injEq] at e
      obtain ⟨rfl, e1, rfl⟩ := e
      have hns : ns = [] := List.eq_nil_of_length_eq_zero e1
      subst hns
      simp only [List.length_nil] at ht
      obtain rfl : t = 0 := by omega
      exact .inl ⟨rfl, by simp [bv]⟩
    · simp only [Value.slice.injEq] at e
      obtain ⟨rfl, _, rfl⟩ := e
      refine .inr ⟨a, cap, by rw [bv_len, hl], by rw [bv_len, hl]; omega, fun j u hj => h5 j u ?_⟩
      rw [bv_take, List.getElem?_take] at hj
      split at hj
      · exact hj
      · cases hj

structure SQ (W : World) (Hb P : Nat) (ns : List Nat) (s : Sp) (m : List Nat) (v7 : Value) (L : List Value) (X : List (List Nat)) (wr : World) : Prop where
  hb : wr.heap[Hb]? = some (.cells (bvals 32 (hashOf ns)) 26 (0, 0))
  sp : IsSp wr P s
  lo : W.heap.size ≤ P
  own : wr.ownsRow W.heap.size 22 1 v7 L.length L
  len : X.length = L.length
  rd : ∀ (j : Nat) u x, L[j]? = some u → X[j]? = some x → wr.ownsRow W.heap.size 5 1 u x.length (bv x)
  bd : ∀ x ∈ X, (∀ n ∈ x, n < 256) ∧ x.length ≤ 1000
  flat : X.flatten = m
  fr : Fr [] W wr
theorem SQ.lt {W wr : World} {Hb P : Nat} {ns m : List Nat} {s : Sp} {v7 : Value} {L : List Value} {X : List (List Nat)} (h : SQ W Hb P ns s m v7 L X wr) (j : Nat) (u : Value) (hu : L[j]? = some u) (k : Nat) (hk : u.ownBlock = some k) : k < wr.heap.size := by
  have hj : j < L.length := by
    rcases Nat.lt_or_ge j L.length with h' | h'
    · exact h'
    · rw [List.getElem?_eq_none h'] at hu; cases hu
  exact ((h.rd j u _ hu (List.getElem?_eq_getElem (by rw [h.len]; exact hj))).lt k hk).2
theorem SQ.grow {W wr w' : World} {Hb P : Nat} {ns m : List Nat} {s : Sp} {v7 : Value} {L : List Value} {X : List (List Nat)} (h : SQ W Hb P ns s m v7 L X wr) (f : Fr [] wr w') : SQ W Hb P ns s m v7 L X w' :=
  ⟨f.at h.hb (by simp), h.sp.fr f (by simp), h.lo, ownsRow_fr h.own f, h.len, fun j u x hu hx => ownsRow_fr (h.rd j u x hu hx) f, h.bd, h.flat, h.fr.trans f⟩
/-- A block of bytes that isn't one of them is turned. -/
theorem SQ.turn {W wr w' : World} {Hb P g : Nat} {ns m : List Nat} {s : Sp} {v7 : Value} {L : List Value} {X : List (List Nat)} (h : SQ W Hb P ns s m v7 L X wr) (f : Fr [g] wr w') {c : Array Value} (hg : wr.heap[g]? = some (.cells c 5 (0, 0))) (hW : W.heap.size ≤ g) (hL : ∀ (j : Nat) u, L[j]? = some u → u.ownBlock ≠ some g) : SQ W Hb P ns s m v7 L X w' := by
  have hne : ∀ {b : Nat} {c' : Array Value} {e : TypeId}, wr.heap[b]? = some (.cells c' e (0, 0)) → e ≠ 5 → b ≠ g := fun hb he e => by
    subst e
    rw [hg] at hb
    simp only [Option.some.injEq, Obj.cells.injEq] at hb
    exact he hb.2.1.symm
  refine ⟨f.at h.hb (by simpa using hne h.hb (by decide)), h.sp.fr f (by simpa using hne h.sp (by decide)), h.lo, ownsRow_of_block h.own (fun k hk => f.block k (h.own.lt k hk).2 (by
      have := own_ne h.own hg (by decide)
      intro e; simp at e; subst e; exact this hk)), h.len, fun j u x hu hx => ownsRow_of_block (h.rd j u x hu hx) (fun k hk => f.block k ((h.rd j u x hu hx).lt k hk).2 (by
      have := hL j u hu
      intro e; simp at e; subst e; exact this hk)), h.bd, h.flat, (h.fr.mono (S' := [g]) (by simp)).trans f |>.shed (S' := []) (fun k hk hl => by simp at hk; omega)⟩
/-- The sponge is turned. -/
theorem SQ.wrote {W wr w' : World} {Hb P : Nat} {ns m : List Nat} {s s' : Sp} {v7 : Value} {L : List Value} {X : List (List Nat)} (h : SQ W Hb P ns s m v7 L X wr) (f : Fr [P] wr w') (hs : IsSp w' P s') : SQ W Hb P ns s' m v7 L X w' := by
  have hne : Hb ≠ P := fun e => by
    subst e
    have h1 := h.hb
    rw [show wr.heap[Hb]? = _ from h.sp] at h1
    simp only [Option.some.injEq, Obj.cells.injEq] at h1
    exact absurd h1.2.1 (by decide)
  refine ⟨f.at h.hb (by simpa using hne), hs, h.lo, ownsRow_of_block h.own (fun k hk => f.block k (h.own.lt k hk).2 (by
      have := own_ne h.own h.sp (by decide)
      intro e; simp at e; subst e; exact this hk)), h.len, fun j u x hu hx => ownsRow_of_block (h.rd j u x hu hx) (fun k hk => f.block k ((h.rd j u x hu hx).lt k hk).2 (by
      have := own_ne (h.rd j u x hu hx) h.sp (by decide)
      intro e; simp at e; subst e; exact this hk)), h.bd, h.flat, (h.fr.mono (S' := [P]) (by simp)).trans f |>.shed (S' := []) (fun k hk hl => by simp at hk; have := h.lo; omega)⟩
/-- One more piece. -/
theorem SQ.app {W wr w' : World} {Hb P : Nat} {ns m : List Nat} {s : Sp} {v7 v' u : Value} {L : List Value} {X : List (List Nat)} {x : List Nat} (h : SQ W Hb P ns s m v7 L X wr) (hu : wr.ownsRow W.heap.size 5 1 u x.length (bv x)) (hx : (∀ n ∈ x, n < 256) ∧ x.length ≤ 1000) (o : w'.ownsRow W.heap.size 22 1 v' (L.length + 1) (L ++ [u])) (g : wr.grownBy w' v7.ownBlock) :
    SQ W Hb P ns s (m ++ x) v' (L ++ [u]) (X ++ [x]) w' := by
  have keep : ∀ {b : Nat} {c' : Array Value} {e : TypeId}, wr.heap[b]? = some (.cells c' e (0, 0)) → e ≠ 22 → w'.heap[b]? = wr.heap[b]? := fun {b} {c'} {e} hb he => g.block b (blk_lt hb) (fun e' => own_ne h.own hb he e'.symm)
  have keepr : ∀ {u : Value} {x : List Nat}, wr.ownsRow W.heap.size 5 1 u x.length (bv x) → w'.ownsRow W.heap.size 5 1 u x.length (bv x) := fun {u} {x} hu => by
    refine ownsRow_of_block hu fun k hk => ?_
    rcases hu.2 with ⟨rfl, _⟩ | ⟨g', cap, cur, rfl, _, h3, _⟩
    · simp [Value.ownBlock] at hk
    · simp only [Value.ownBlock, Option.some.injEq] at hk
      subst hk
      exact keep h3 (by decide)
  refine ⟨(keep h.hb (by decide)).trans h.hb, (keep h.sp (by decide)).trans h.sp, h.lo, by rw [List.length_append]; exact o, by rw [List.length_append, List.length_append, h.len]; rfl, fun j u' x' hu' hx' => ?_, fun x' hx' => ?_, by rw [List.flatten_append, h.flat]; simp, ?_⟩
  · rcases Nat.lt_or_ge j L.length with hj | hj
    · rw [List.getElem?_append_left hj] at hu'
      rw [List.getElem?_append_left (by rw [h.len]; exact hj)] at hx'
      exact keepr (h.rd j u' x' hu' hx')
    · rw [List.getElem?_append_right hj] at hu'
      rw [List.getElem?_append_right (by rw [h.len]; exact hj), h.len] at hx'
      cases hq : j - L.length with
      | zero =>
        rw [hq] at hu' hx'
        cases hu'; cases hx'
        exact keepr hu
      | succ q => rw [hq] at hu'; simp at hu'
  · rcases List.mem_append.1 hx' with h' | h'
    · exact h.bd x' h'
    · rw [List.mem_singleton] at h'; subst h'; exact hx
  · exact h.fr.grown g fun k hk => .inr (h.own.lt k hk).1
theorem SQ.rows {W wr : World} {Hb P : Nat} {ns m : List Nat} {s : Sp} {v7 : Value} {L : List Value} {X : List (List Nat)} (h : SQ W Hb P ns s m v7 L X wr) : Rows2 wr v7 L X := by
  refine ⟨?_, h.len, fun j u x hu hx => Rd.ownB (h.rd j u x hu hx), fun x hx => ⟨(h.bd x hx).1, by have := (h.bd x hx).2; omega⟩⟩
  rcases h.own.2 with ⟨rfl, h2⟩ | ⟨g, cap, cur, rfl, _, h3, h4, _⟩
  · exact .inl ⟨List.eq_nil_of_length_eq_zero h2, _, _, rfl⟩
  · refine .inr ⟨g, 0, cap, rfl, h4, fun j u hj => ?_⟩
    have := h.own.cells rfl j u hj
    rw [Addr.add_lit, Nat.zero_add] at this
    rw [Nat.zero_add]; exact this
theorem infoS : (Tryd.prog.info? 22).map (fun i => (i.zero, i.size, i.bytes)) = some (some (.slice none 0 0), 1, 24) := by kernel_rfl
/-- One slice appended to a row of slices of the call's own. -/
theorem wpList_append_row {w : World} {ops : Array Oper} {rest : List Oper} {o : Oper} {a : Act} {Q : Exit → Act → World → Prop} (hgd : o.guard = none) (s x : Operand)
    (ho : o.op = .call { callee := .builtin .append, args := #[s, x], argTypes := #[31, 31] }) (base : Nat) (hbase : base ≤ w.heap.size) (v : Value) (n : Nat) (xs : List Value) (hs : a.eval s = v) (hown : w.ownsRow base 22 1 v n xs) (g : Nat) (u : Value) (hx : a.eval x = .slice (some ⟨g, 0, none⟩) 1 1) (hu : w.cell? ⟨g, 0, none⟩ = some u) (h1 : u.oneCell' = true)
    (hn : n ≤ 100000)
    (h : ∀ v' w', w'.ownsRow base 22 1 v' (n + 1) (xs ++ [u]) → w.grownBy w' v.ownBlock → wpList Tryd.prog ops Q rest (a.put o.dst v') w') :
    wpList Tryd.prog ops Q (o :: rest) a w := by
  obtain ⟨i0, hi, hz0, hz1, hz2⟩ := info_parts infoS
  refine wpList_append_own_at w hgd s x 31 ho base 22 i0 (.slice none 0 0) 1 24 Tryd.underlying31 hi hz0 hz1 hz2 rfl (by decide) v n xs hs hown ⟨g, 0, none⟩ 1 1 [u] hx rfl ?_ (by intro u' hu'; rw [List.mem_singleton] at hu'; subst hu'; exact h1) (by unfold maxLen; omega) (by omega) hbase fun v' w' h1 h2 _ _ => h v' w' h1 h2
  intro j u' hj
  cases j with
  | zero => cases hj; rw [Addr.add_lit]; exact hu
  | succ j => simp at hj
end Go.Proofs.YthmjglglbdlieaaDoor
