/-
  What Put of package mem answers: an entry that is put.
-/
import Derived.Test.YtldcjkddalmkcaaMG
import Derived.Test.YtldcjkddalmkcaaKL
import Derived.Deep.Light
import Derived.Deep.RegionHeld
namespace Go.Proofs.Ytldcjkddalmkcaa
open Go.ChangeShapes Go.WideShapes Go.ChangeAt Go.RowKit

/-- One operation that hands a value on. -/
theorem wpList_val {ops : Array Oper} {rest : List Oper} {o : Oper} {a : Act} {w w' : World} {v : Value} {Q : Exit → Act → World → Prop} (hg : o.guard = none) (h0 : (execOp a.eval o).run Try.prog w = .ok (.value v) w')
    (h : wpList Try.prog ops Q rest (a.put o.dst v) w') : wpList Try.prog ops Q (o :: rest) a w :=
  wpList_plain hg fun K hK => by unfold Oper.wp; rw [h0, Oper.upon_value]; exact hK _ _ h

structure PutSt (w wr : World) (B t : Nat) (hv : Value) (H : List Nat) (pre post : List E) (n : E) (c z A j : Nat) : Prop where
  mm : Mm wr B t hv (pre ++ up j n :: post) c z
  ab : wr.heap[A]? = some (.cells (bfs t pre 0).toArray 68 (0, 0))
  fr : Fr (bks t (pre ++ post)) w wr
  ow : wr.ownsRow B 3 1 hv H.length (iv H)
theorem PutSt.drew {w wr : World} {B t : Nat} {hv : Value} {H : List Nat} {pre post : List E} {n : E} {c z A j : Nat} (h : PutSt w wr B t hv H pre post n c z A j) : PutSt w wr.drew B t hv H pre post n c z A j :=
  ⟨h.mm.fr (Fr.refl [] _).drew, h.ab, h.fr.drew, ownsRow_fr h.ow (Fr.refl [] _).drew⟩
theorem PutSt.fr' {w wr w2 : World} {B t : Nat} {hv : Value} {H : List Nat} {pre post : List E} {n : E} {c z A j : Nat} (h : PutSt w wr B t hv H pre post n c z A j) (f : Fr [] wr w2) : PutSt w w2 B t hv H pre post n c z A j :=
  ⟨h.mm.fr f, f.at h.ab (by simp), h.fr.trans (f.mono (by simp)), ownsRow_fr h.ow f⟩
theorem PutSt.nA {w wr : World} {B t : Nat} {hv : Value} {H : List Nat} {pre post : List E} {n : E} {c z A j : Nat} (h : PutSt w wr B t hv H pre post n c z A j) : ∀ k ∈ bks t (pre ++ up j n :: post), k ≠ A := fun k hk e => by
  subst e
  have h1 := h.ab
  rcases List.mem_cons.1 hk with e | hk
  · rw [e, h.mm.tab] at h1; simp at h1
  · obtain ⟨x, hx, e⟩ := List.mem_map.1 hk
    obtain ⟨r, g⟩ := h.mm.ent hx
    rw [← e, g.blk] at h1; simp at h1
theorem own_not {w : World} {B : Nat} {hv : Value} {H : List Nat} (o : w.ownsRow B 3 1 hv H.length (iv H)) {b : Nat} {cs : Array Value} {T : TypeId} (hb : w.heap[b]? = some (.cells cs T (0, 0))) (hT : T ≠ 3) : hv.ownBlock ≠ some b := fun e => by
  rcases o.2 with ⟨rfl, _⟩ | ⟨g, cap, cur, rfl, _, h3, _⟩
  · simp [Value.ownBlock] at e
  · simp [Value.ownBlock] at e
    subst e
    rw [hb] at h3
    simp at h3
    exact hT h3.2
/-- The place ahead is one of the table's. -/
theorem bfr_in (t : Nat) (pre : List E) (i : Nat) : (bfr (t, 1) pre i).1 = t ∨ ∃ e ∈ pre, (bfr (t, 1) pre i).1 = e.b := by
  rcases bfr_case (t, 1) pre i with ⟨_, e⟩ | ⟨l1, x, l2, e0, _, _, e⟩
  · rw [e]; exact .inl rfl
  · rw [e]; exact .inr ⟨x, by rw [e0]; simp, rfl⟩
theorem PutSt.step {w wr : World} {B t : Nat} {hv : Value} {H : List Nat} {pre post : List E} {n : E} {c z A j : Nat} (h : PutSt w wr B t hv H pre post n c z A j) (hj : j < 12) (hn : w.heap.size ≤ n.b) :
    PutSt w ((wr.setCell ⟨n.b, 4 + j, none⟩ (lk post j)).setCell ⟨(bfr (t, 1) pre j).1, (bfr (t, 1) pre j).2 + 4 + j, none⟩ (pt (n.b, 0))) B t hv H pre post n c z A (j + 1) := by
  have hq : (bfr (t, 1) pre j).1 ∈ bks t (pre ++ post) := by
    rcases bfr_in t pre j with e | ⟨x, hx, e⟩
    · rw [e]; exact List.mem_cons_self ..
    · rw [e]; exact List.mem_cons_of_mem _ (List.mem_map.2 ⟨x, by simp [hx], rfl⟩)
  have hq' : (bfr (t, 1) pre j).1 ∈ bks t (pre ++ up j n :: post) := by
    rcases bfr_in t pre j with e | ⟨x, hx, e⟩
    · rw [e]; exact List.mem_cons_self ..
    · rw [e]; exact List.mem_cons_of_mem _ (List.mem_map.2 ⟨x, by simp [hx], rfl⟩)
  have hn' : n.b ∈ bks t (pre ++ up j n :: post) := List.mem_cons_of_mem _ (List.mem_map.2 ⟨up j n, by simp, rfl⟩)
  refine ⟨h.mm.link1 hj, ?_, (h.fr.set _ _ (.inr hn)).set _ _ (.inl hq), ?_⟩
  · rw [blk_setne _ _ _ (fun e => h.nA _ hq' e.symm), blk_setne _ _ _ (fun e => h.nA _ hn' e.symm)]; exact h.ab
  · refine ownsRow_of_block h.ow fun k hk => ?_
    have k1 : k ≠ (bfr (t, 1) pre j).1 := fun e => by
      rcases bfr_in t pre j with e1 | ⟨x, hx, e1⟩
      · exact own_not h.ow h.mm.tab (by decide) (by rw [hk, e, e1])
      · obtain ⟨r, g⟩ := h.mm.ent (e := x) (by simp [hx])
        exact own_not h.ow g.blk (by decide) (by rw [hk, e, e1])
    have k2 : k ≠ n.b := fun e => by
      have g := Chain.mid h.mm.ch
      exact own_not h.ow g.blk (by decide) (by rw [hk, e]; rfl)
    rw [blk_setne _ _ _ k1, blk_setne _ _ _ k2]
theorem siz_mid (pre post : List E) (n : E) : siz (pre ++ n :: post) = siz (pre ++ post) + (n.key.length + n.val.length) := by
  unfold siz; simp [List.map_append, List.sum_append]; omega
/-- All heights are linked, the table has counted. -/
theorem PutSt.fin {w wr : World} {B t : Nat} {hv : Value} {H : List Nat} {pre post : List E} {n : E} {z A j : Nat} (h : PutSt w wr B t hv H pre post n (pre ++ post).length (siz (pre ++ post)) A j) (hj : 1 ≤ j ∧ j ≤ 12) (T : Tb w B t H (pre ++ post)) (hz : z = siz (pre ++ post) + (n.key.length + n.val.length)) (hlo : ∀ e ∈ pre, ordK e.key n.key < 0) (hgt : ∀ e ∈ post, ordK n.key e.key < 0) :
    Tb ((wr.setCell ⟨t, 17, none⟩ (.int .i64 (((pre ++ post).length + 1 : Nat) : Int))).setCell ⟨t, 18, none⟩ (.int .i64 (z : Int))) B t H (pre ++ up j n :: post) ∧ Fr (bks t (pre ++ post)) w ((wr.setCell ⟨t, 17, none⟩ (.int .i64 (((pre ++ post).length + 1 : Nat) : Int))).setCell ⟨t, 18, none⟩ (.int .i64 (z : Int))) := by
  refine ⟨⟨⟨hv, ?_, ?_⟩, ?_, ?_, T.hH⟩, (h.fr.set _ _ (.inl (List.mem_cons_self ..))).set _ _ (.inl (List.mem_cons_self ..))⟩
  · have := h.mm.count ((pre ++ post).length + 1) z
    rw [show (pre ++ up j n :: post).length = (pre ++ post).length + 1 from by simp; omega, siz_mid pre post (up j n), show siz (pre ++ post) + ((up j n).key.length + (up j n).val.length) = z from hz.symm]; exact this
  · refine ownsRow_of_block h.ow fun k hk => ?_
    have k1 : k ≠ t := fun e => own_not h.ow h.mm.tab (by decide) (by rw [hk, e])
    rw [blk_setne _ _ _ k1, blk_setne _ _ _ k1]
  · have hs := T.srt
    rw [List.pairwise_append] at hs ⊢
    refine ⟨hs.1, List.pairwise_cons.2 ⟨hgt, hs.2.1⟩, fun a ha b hb => ?_⟩
    rcases List.mem_cons.1 hb with rfl | hb
    · exact hlo a ha
    · exact hs.2.2 a ha b hb
  · intro e he
    rcases List.mem_append.1 he with he | he
    · exact T.hh e (by simp [he])
    · rcases List.mem_cons.1 he with rfl | he
      · exact hj
      · exact T.hh e (by simp [he])
end Go.Proofs.Ytldcjkddalmkcaa
