/-
  What is left of lists, as a heap: in memory; its methods.
-/
import Derived.Test.YthmlpjogbdpgiaaCC
import Derived.Test.YthmlpjogbdpgiaaJ09
import Derived.Test.YthmlpjogbdpgiaaJ10
namespace Go.Proofs.Ythmlpjogbdpgiaa
open Go.ChangeShapes Go.WideShapes Go.ChangeAt Go.RowKit

/-- What is left of lists, known by block P. -/
structure RW (w0 W : World) (P : Nat) (a : Option Addr) (c : Nat) (vs : List Value) (hs : List Ps) : Prop where
  hp : W.heap[P]? = some (.cells #[.slice a hs.length c] 60 (0, 0))
  own : W.ownsRow w0.heap.size 27 1 (.slice a hs.length c) hs.length vs
  el : ∀ (i : Nat) (p : Ps), hs[i]? = some p → ∃ v, vs[i]? = some v ∧ RdK w0 v p
  bp : w0.heap.size ≤ P
  fr : Fr [] w0 W
/-- Each of them rises, none is empty. -/
def OkR (hs : List Ps) : Prop := ∀ p ∈ hs, p ≠ [] ∧ Rises p
theorem own_keepF {W W' : World} {B s n : Nat} {e : TypeId} {v : Value} {xs : List Value} {S : List Nat} (o : W.ownsRow B e s v n xs) (f : Fr S W W') (hS : ∀ k, v.ownBlock = some k → k ∉ S) : W'.ownsRow B e s v n xs :=
  ownsRow_of_block o fun k hk => f.block k (o.lt k hk).2 (hS k hk)
theorem Fr.wide {w W W' : World} {S : List Nat} (h : Fr [] w W) (f : Fr S W W') (hS : ∀ k ∈ S, w.heap.size ≤ k) : Fr [] w W' :=
  ⟨f.os.trans h.os, f.tape.trans h.tape, f.output.trans h.output, Nat.le_trans h.size f.size, fun k hk _ => (f.block k (Nat.lt_of_lt_of_le hk h.size) (fun hm => by have := hS k hm; omega)).trans (h.block k hk (by simp))⟩
theorem RW.quiet {w0 W W' : World} {P : Nat} {a : Option Addr} {c : Nat} {vs : List Value} {hs : List Ps} (h : RW w0 W P a c vs hs) (f : Fr [] W W') : RW w0 W' P a c vs hs :=
  ⟨f.at h.hp (by simp), ownsRow_fr h.own f, h.el, h.bp, h.fr.trans f⟩
theorem RW.blk {w0 W : World} {P : Nat} {a : Option Addr} {c : Nat} {vs : List Value} {hs : List Ps} (h : RW w0 W P a c vs hs) (h0 : 0 < hs.length) : ∃ g cur, a = some ⟨g, 0, none⟩ ∧ w0.heap.size ≤ g ∧ W.heap[g]? = some (.cells cur 27 (0, 0)) ∧ hs.length ≤ c := by
  rcases h.own.2 with ⟨_, h1⟩ | ⟨g, cap, cur, he, hb, h3, h4, _⟩
  · omega
  · simp only [Value.slice.injEq, true_and] at he
    obtain ⟨rfl, rfl⟩ := he
    exact ⟨g, cur, rfl, hb, h3, h4⟩
/-- One of them. -/
structure El (W : World) (g i : Nat) (v : Value) (p : Ps) (b off ec : Nat) (ka : Option Addr) (kc : Nat) : Prop where
  ev : v = .slice (some ⟨b, off, none⟩) p.length ec
  cl : W.cell? ⟨g, i, none⟩ = some v
  ck : W.cell? ⟨b, off, none⟩ = some (.slice ka (kA p 0).length kc)
  rk : Rd W (.slice ka (kA p 0).length kc) (bv (kA p 0))
  bk : By (kA p 0)
  lk : (kA p 0).length ≤ 140737488355328
  pos : 0 < p.length
  hc : p.length ≤ ec
  ik : isK (kA p 0) = true
theorem RW.one {w0 W : World} {P g : Nat} {c : Nat} {vs : List Value} {hs : List Ps} (h : RW w0 W P (some ⟨g, 0, none⟩) c vs hs) (ok : OkR hs) {i : Nat} (hi : i < hs.length) : ∃ p v b off ec ka kc, hs[i]? = some p ∧ vs[i]? = some v ∧ hk hs i = kA p 0 ∧ RdK w0 v p ∧ El W g i v p b off ec ka kc := by
  obtain ⟨p, hp⟩ : ∃ p, hs[i]? = some p := ⟨_, List.getElem?_eq_getElem hi⟩
  obtain ⟨v, hv, hr⟩ := h.el i p hp
  have hok := ok p (List.mem_of_getElem? hp)
  have hpos : 0 < p.length := List.length_pos_iff.2 hok.1
  have hcl := h.own.cells (g := g) rfl _ _ hv
  rw [Addr.add_lit, Nat.zero_add] at hcl
  have hr' := hr
  obtain ⟨a, ec, rfl, hc, k1⟩ := hr
  obtain ⟨b, off, rfl, m⟩ := k1 hpos
  obtain ⟨ka, kc, va, vc, PA⟩ := m 0 _ (ps_at hpos)
  have PB := PA.fr h.fr
  refine ⟨p, _, b, off, ec, ka, kc, hp, hv, hk_at hp, hr', ⟨rfl, hcl, ?_, PB.rk, PB.bk, PB.lk, hpos, hc, rises_isK hok.2 hpos⟩⟩
  have := PB.ck
  rwa [Nat.zero_mul, Nat.add_zero] at this
theorem rlen_c (W : World) (a : Option Addr) (n c : Nat) : Calls Try.prog 43 #[.slice a n c] W fun e w' => e = .returned (.int .i64 (n : Int)) ∧ w' = W := by
  go_enter Try.func43, Try.ntmps43
  go_wp2
  go_ret
  exact ⟨rfl, rfl⟩
set_option maxRecDepth 20000 in
set_option maxHeartbeats 3200000 in
theorem less_c {w0 W : World} {P : Nat} {a : Option Addr} {c : Nat} {vs : List Value} {hs : List Ps} (h : RW w0 W P a c vs hs) (ok : OkR hs) {i k : Nat} (hi : i < hs.length) (hk' : k < hs.length) :
    Calls Try.prog 100 #[.slice a hs.length c, .int .i64 (i : Int), .int .i64 (k : Int)] W fun e w' => e = .returned (.bool (decide (ordK (hk hs i) (hk hs k) < 0))) ∧ Fr [] W w' := by
  obtain ⟨g, cur, rfl, _, _, hnc⟩ := h.blk (by omega)
  obtain ⟨p, v, b, off, ec, ka, kc, hp, hv, hke, _, E1⟩ := h.one ok hi
  obtain ⟨p2, v2, b2, off2, ec2, ka2, kc2, hp2, hv2, hke2, _, E2⟩ := h.one ok hk'
  obtain rfl := E1.ev
  obtain rfl := E2.ev
  rw [hke, hke2]
  have CP : Hid (∀ w', Fr [] W w' → Calls Try.prog 39 #[.slice ka (kA p 0).length kc, .slice ka2 (kA p2 0).length kc2] w' fun e w2 => e = .returned (.tuple #[.int .i64 (ordK (kA p 0) (kA p2 0)), .int .i64 0]) ∧ Fr [] w' w2) := hid (fun w' f => by
    have := compare_any w' (E1.rk.fr f) E1.bk E1.lk (E2.rk.fr f) E2.bk E2.lk
    rw [cx_key E1.ik E2.ik, show ce (kA p 0) (kA p2 0) = 0 from by unfold ce; rw [E1.ik, E2.ik]; rfl] at this
    exact this)
  have c1 := E1.cl
  have c2 := E1.ck
  have c3 := E2.cl
  have c4 := E2.ck
  have p1 : (0 : Int) < (p.length : Int) := by have := E1.pos; omega
  have p3 : (0 : Int) < (p2.length : Int) := by have := E2.pos; omega
  have i1 : (i : Int) < (hs.length : Int) := by omega
  have i2 : (k : Int) < (hs.length : Int) := by omega
  have SK : Hid (∀ w', Fr [] W w' → w'.cell? ⟨g, i, none⟩ = some (.slice (some ⟨b, off, none⟩) p.length ec) ∧ w'.cell? ⟨b, off, none⟩ = some (.slice ka (kA p 0).length kc) ∧ w'.cell? ⟨g, k, none⟩ = some (.slice (some ⟨b2, off2, none⟩) p2.length ec2) ∧ w'.cell? ⟨b2, off2, none⟩ = some (.slice ka2 (kA p2 0).length kc2)) := hid (fun w' f => ⟨cell_fr f c1, cell_fr f c2, cell_fr f c3, cell_fr f c4⟩)
  clear h ok E1 E2 hp hv hke hp2 hv2 hke2 c1 c2 c3 c4 hi hk'
  generalize ordK (kA p 0) (kA p2 0) = od at *
  generalize (kA p 0).length = kl at *
  generalize (kA p2 0).length = kl2 at *
  generalize p.length = pl1 at *
  generalize p2.length = pl2 at *
  generalize hs.length = n at *
  go_enter Try.func100, Try.ntmps100
  go_upto_region 1 with fail
  refine wp_region_held_drew (S := fun w' => w'.cell? ⟨g, i, none⟩ = some (.slice (some ⟨b, off, none⟩) pl1 ec) ∧ w'.cell? ⟨b, off, none⟩ = some (.slice ka kl kc) ∧ w'.cell? ⟨g, k, none⟩ = some (.slice (some ⟨b2, off2, none⟩) pl2 ec2) ∧ w'.cell? ⟨b2, off2, none⟩ = some (.slice ka2 kl2 kc2)) (by kernel_rfl) (SK.out _ (Fr.refl _ _).drew) (fun hS => ?_)
  refine wpAnyH_take (i := 0) (v := .slice (some ⟨g, 0, none⟩) n c) rfl (by kernel_rfl) (by kernel_rfl) (by kernel_rfl) (fun _ _ _ h => h) (.inl ⟨by rfl, fun wx _ => by go_simp⟩) hS ?_
  simp only [Act.put, List.getElem_toArray, List.getElem_cons_zero, List.set_cons_succ, List.set_cons_zero, List.setIfInBounds_toArray]
  refine wpAnyH_take (i := 1) (v := .int .i64 (i : Int)) rfl (by kernel_rfl) (by kernel_rfl) (by kernel_rfl) (fun _ _ _ h => h) (.inl ⟨by rfl, fun wx _ => by go_simp⟩) hS ?_
  simp only [Act.put, List.getElem_toArray, List.getElem_cons_succ, List.getElem_cons_zero, List.set_cons_succ, List.set_cons_zero, List.setIfInBounds_toArray]
  refine wpAnyH_take (i := 2) (v := .pointer (some ⟨g, i, none⟩)) rfl (by kernel_rfl) (by kernel_rfl) (by kernel_rfl) (fun _ _ _ h => h) (.inl ⟨by rfl, fun wx _ => by go_simp⟩) hS ?_
  simp only [Act.put, List.getElem_toArray, List.getElem_cons_succ, List.getElem_cons_zero, List.set_cons_succ, List.set_cons_zero, List.setIfInBounds_toArray]
  refine wpAnyH_take (i := 3) (v := .slice (some ⟨b, off, none⟩) pl1 ec) rfl (by kernel_rfl) (by kernel_rfl) (by kernel_rfl) (fun _ _ _ h => h) (.inl ⟨by rfl, fun wx hX => by obtain ⟨x0, x1, x2, x3⟩ := hX; go_simp⟩) hS ?_
  simp only [Act.put, List.getElem_toArray, List.getElem_cons_succ, List.getElem_cons_zero, List.set_cons_succ, List.set_cons_zero, List.setIfInBounds_toArray]
  refine wpAnyH_take (i := 4) (v := .pointer (some ⟨b, off, none⟩)) rfl (by kernel_rfl) (by kernel_rfl) (by kernel_rfl) (fun _ _ _ h => h) (.inl ⟨by rfl, fun wx _ => by go_simp; intro h; omega⟩) hS ?_
  simp only [Act.put, List.getElem_toArray, List.getElem_cons_succ, List.getElem_cons_zero, List.set_cons_succ, List.set_cons_zero, List.setIfInBounds_toArray]
  refine wpAnyH_take (i := 5) (v := .pointer (some ⟨b, off, none⟩)) rfl (by kernel_rfl) (by kernel_rfl) (by kernel_rfl) (fun _ _ _ h => h) (.inl ⟨by rfl, fun wx _ => by go_simp⟩) hS ?_
  simp only [Act.put, List.getElem_toArray, List.getElem_cons_succ, List.getElem_cons_zero, List.set_cons_succ, List.set_cons_zero, List.setIfInBounds_toArray]
  refine wpAnyH_take (i := 6) (v := .slice ka kl kc) rfl (by kernel_rfl) (by kernel_rfl) (by kernel_rfl) (fun _ _ _ h => h) (.inl ⟨by rfl, fun wx hX => by obtain ⟨x0, x1, x2, x3⟩ := hX; go_simp⟩) hS ?_
  simp only [Act.put, List.getElem_toArray, List.getElem_cons_succ, List.getElem_cons_zero, List.set_cons_succ, List.set_cons_zero, List.setIfInBounds_toArray]
  refine wpAnyH_take (i := 7) (v := .slice (some ⟨g, 0, none⟩) n c) rfl (by kernel_rfl) (by kernel_rfl) (by kernel_rfl) (fun _ _ _ h => h) (.inl ⟨by rfl, fun wx _ => by go_simp⟩) hS ?_
  simp only [Act.put, List.getElem_toArray, List.getElem_cons_succ, List.getElem_cons_zero, List.set_cons_succ, List.set_cons_zero, List.setIfInBounds_toArray]
  refine wpAnyH_take (i := 8) (v := .int .i64 (k : Int)) rfl (by kernel_rfl) (by kernel_rfl) (by kernel_rfl) (fun _ _ _ h => h) (.inl ⟨by rfl, fun wx _ => by go_simp⟩) hS ?_
  simp only [Act.put, List.getElem_toArray, List.getElem_cons_succ, List.getElem_cons_zero, List.set_cons_succ, List.set_cons_zero, List.setIfInBounds_toArray]
  refine wpAnyH_take (i := 9) (v := .pointer (some ⟨g, k, none⟩)) rfl (by kernel_rfl) (by kernel_rfl) (by kernel_rfl) (fun _ _ _ h => h) (.inl ⟨by rfl, fun wx _ => by go_simp⟩) hS ?_
  simp only [Act.put, List.getElem_toArray, List.getElem_cons_succ, List.getElem_cons_zero, List.set_cons_succ, List.set_cons_zero, List.setIfInBounds_toArray]
  refine wpAnyH_take (i := 10) (v := .slice (some ⟨b2, off2, none⟩) pl2 ec2) rfl (by kernel_rfl) (by kernel_rfl) (by kernel_rfl) (fun _ _ _ h => h) (.inl ⟨by rfl, fun wx hX => by obtain ⟨x0, x1, x2, x3⟩ := hX; go_simp⟩) hS ?_
  simp only [Act.put, List.getElem_toArray, List.getElem_cons_succ, List.getElem_cons_zero, List.set_cons_succ, List.set_cons_zero, List.setIfInBounds_toArray]
  refine wpAnyH_take (i := 11) (v := .pointer (some ⟨b2, off2, none⟩)) rfl (by kernel_rfl) (by kernel_rfl) (by kernel_rfl) (fun _ _ _ h => h) (.inl ⟨by rfl, fun wx _ => by go_simp; intro h; omega⟩) hS ?_
  simp only [Act.put, List.getElem_toArray, List.getElem_cons_succ, List.getElem_cons_zero, List.set_cons_succ, List.set_cons_zero, List.setIfInBounds_toArray]
  refine wpAnyH_take (i := 12) (v := .pointer (some ⟨b2, off2, none⟩)) rfl (by kernel_rfl) (by kernel_rfl) (by kernel_rfl) (fun _ _ _ h => h) (.inl ⟨by rfl, fun wx _ => by go_simp⟩) hS ?_
  simp only [Act.put, List.getElem_toArray, List.getElem_cons_succ, List.getElem_cons_zero, List.set_cons_succ, List.set_cons_zero, List.setIfInBounds_toArray]
  refine wpAnyH_take (i := 13) (v := .slice ka2 kl2 kc2) rfl (by kernel_rfl) (by kernel_rfl) (by kernel_rfl) (fun _ _ _ h => h) (.inl ⟨by rfl, fun wx hX => by obtain ⟨x0, x1, x2, x3⟩ := hX; go_simp⟩) hS ?_
  simp only [Act.put, List.getElem_toArray, List.getElem_cons_succ, List.getElem_cons_zero, List.set_cons_succ, List.set_cons_zero, List.setIfInBounds_toArray]
  clear hS
  refine wpAnyH_ready (rs := [14]) (by kernel_rfl) (by simp) ?_
  refine AllReadyH.cons rfl (fun K hK => ?_) AllReadyH.nil
  go_simp
  refine (CP.out _ (Fr.refl _ _).drew).mono ?_
  rintro e w2 ⟨rfl, f2⟩
  have F2 := hid ((Fr.refl [] W).drew.trans f2)
  refine hK.out _ _ (SK.out w2 F2.out) (fun hS => ?_)
  clear hK K f2
  refine wpAnyH_take (i := 15) (v := .tuple #[.int .i64 od, .int .i64 0]) rfl (by kernel_rfl) (by kernel_rfl) (by kernel_rfl) (fun _ _ _ h => h) (.inl ⟨by rfl, fun wx _ => by go_simp⟩) hS ?_
  simp only [Act.put, List.getElem_toArray, List.getElem_cons_succ, List.getElem_cons_zero, List.set_cons_succ, List.set_cons_zero, List.setIfInBounds_toArray]
  refine wpAnyH_take (i := 16) (v := .int .i64 od) rfl (by kernel_rfl) (by kernel_rfl) (by kernel_rfl) (fun _ _ _ h => h) (.inl ⟨by rfl, fun wx _ => by go_simp⟩) hS ?_
  simp only [Act.put, List.getElem_toArray, List.getElem_cons_succ, List.getElem_cons_zero, List.set_cons_succ, List.set_cons_zero, List.setIfInBounds_toArray]
  refine wpAnyH_take (i := 17) (v := .int .i64 0) rfl (by kernel_rfl) (by kernel_rfl) (by kernel_rfl) (fun _ _ _ h => h) (.inl ⟨by rfl, fun wx _ => by go_simp⟩) hS ?_
  simp only [Act.put, List.getElem_toArray, List.getElem_cons_succ, List.getElem_cons_zero, List.set_cons_succ, List.set_cons_zero, List.setIfInBounds_toArray]
  refine wpAnyH_take (i := 18) (v := .int .i64 od) rfl (by kernel_rfl) (by kernel_rfl) (by kernel_rfl) (fun _ _ _ h => h) (.inl ⟨by rfl, fun wx _ => by go_simp⟩) hS ?_
  simp only [Act.put, List.getElem_toArray, List.getElem_cons_succ, List.getElem_cons_zero, List.set_cons_succ, List.set_cons_zero, List.setIfInBounds_toArray]
  refine wpAnyH_take (i := 19) (v := .int .i64 0) rfl (by kernel_rfl) (by kernel_rfl) (by kernel_rfl) (fun _ _ _ h => h) (.inl ⟨by rfl, fun wx _ => by go_simp⟩) hS ?_
  simp only [Act.put, List.getElem_toArray, List.getElem_cons_succ, List.getElem_cons_zero, List.set_cons_succ, List.set_cons_zero, List.setIfInBounds_toArray]
  clear hS
  refine wpAnyH_done (by kernel_rfl) ?_ _
  go_wp2
  go_ret
  exact ⟨rfl, F2.out⟩
set_option maxRecDepth 20000 in
set_option maxHeartbeats 3200000 in
theorem swap_c {w0 W : World} {P : Nat} {a : Option Addr} {c : Nat} {vs : List Value} {hs : List Ps} (h : RW w0 W P a c vs hs) {i k : Nat} (hi : i < hs.length) (hk' : k < hs.length) :
    Calls Try.prog 101 #[.slice a hs.length c, .int .i64 (i : Int), .int .i64 (k : Int)] W fun e w' => ∃ u vs', e = .returned u ∧ RW w0 w' P a c vs' (swL hs i k) ∧ Fr (Value.slice a hs.length c).ownBlock.toList W w' := by
  obtain ⟨g, cur, rfl, hbg, hg, hnc⟩ := h.blk (by omega)
  obtain ⟨p, hp⟩ : ∃ p, hs[i]? = some p := ⟨_, List.getElem?_eq_getElem hi⟩
  obtain ⟨p2, hp2⟩ : ∃ p, hs[k]? = some p := ⟨_, List.getElem?_eq_getElem hk'⟩
  obtain ⟨v, hv, hr⟩ := h.el i p hp
  obtain ⟨v2, hv2, hr2⟩ := h.el k p2 hp2
  have c1 := h.own.cells (g := g) rfl _ _ hv
  have c2 := h.own.cells (g := g) rfl _ _ hv2
  rw [Addr.add_lit, Nat.zero_add] at c1 c2
  have i1 : (i : Int) < (hs.length : Int) := by omega
  have i2 : (k : Int) < (hs.length : Int) := by omega
  obtain ⟨va, vn, vc, rfl⟩ : ∃ a n c, v = .slice a n c := by obtain ⟨a, c, e, _⟩ := hr; exact ⟨_, _, _, e⟩
  obtain ⟨va2, vn2, vc2, rfl⟩ : ∃ a n c, v2 = .slice a n c := by obtain ⟨a, c, e, _⟩ := hr2; exact ⟨_, _, _, e⟩
  have S1 := h.own.stored i (.slice va2 vn2 vc2)
  have S2 := S1.1.stored k (.slice va vn vc)
  have hPg : P ≠ g := fun e => by
    have h1 := h.hp
    rw [e, hg] at h1
    simp at h1
  have W2E : RW w0 ((W.setCell ⟨g, i, none⟩ (.slice va2 vn2 vc2)).setCell ⟨g, k, none⟩ (.slice va vn vc)).drew P (some ⟨g, 0, none⟩) c ((vs.set i (.slice va2 vn2 vc2)).set k (.slice va vn vc)) (swL hs i k) ∧ Fr [g] W ((W.setCell ⟨g, i, none⟩ (.slice va2 vn2 vc2)).setCell ⟨g, k, none⟩ (.slice va vn vc)).drew := by
    have F1 : Fr [g] W ((W.setCell ⟨g, i, none⟩ (.slice va2 vn2 vc2)).setCell ⟨g, k, none⟩ (.slice va vn vc)).drew := (((Fr.refl [g] W).set _ _ (.inl (by simp))).set _ _ (.inl (by simp))).drew
    refine ⟨⟨?_, ?_, ?_, h.bp, h.fr.wide F1 (by simp; exact hbg)⟩, F1⟩
    · rw [swL_len]; exact F1.at h.hp (by simpa using hPg)
    · rw [swL_len]; exact S2.1
    · intro j q hj
      rw [swL_at hi hk'] at hj
      have hvl : vs.length = hs.length := by have := h.own.1; omega
      rw [List.getElem?_set, List.getElem?_set, List.length_set]
      by_cases e1 : j = k
      · subst e1
        rw [if_pos rfl] at hj
        rw [hp] at hj
        cases hj
        exact ⟨_, by rw [if_pos rfl, if_pos (by omega)], hr⟩
      · rw [if_neg e1] at hj
        rw [if_neg (show ¬ k = j from fun e => e1 e.symm)]
        by_cases e2 : j = i
        · subst e2
          rw [if_pos rfl, hp2] at hj
          cases hj
          exact ⟨_, by rw [if_pos rfl, if_pos (by omega)], hr2⟩
        · rw [if_neg e2] at hj
          rw [if_neg (show ¬ i = j from fun e => e2 e.symm)]
          exact h.el j q hj
  have HW := hid W2E
  have z1 : Hid (∀ w', Fr [g] W w' → True) := hid (fun _ _ => trivial)
  have fz0 : Hid (W.frozen? ⟨g, i, none⟩ = false) := hid (h.own.frozenAt i)
  have fz1 : Hid (W.frozen? ⟨g, k, none⟩ = false) := hid (h.own.frozenAt k)
  have y1 : Hid (W.cell? ⟨g, i, none⟩ = some (.slice va vn vc)) := hid c1
  have y2 : Hid (∃ x, (W.setCell ⟨g, i, none⟩ (.slice va2 vn2 vc2)).cell? ⟨g, k, none⟩ = some x) := hid (by
    have hvl : vs.length = hs.length := by have := h.own.1; omega
    have hl : k < (vs.set i (Value.slice va2 vn2 vc2)).length := by rw [List.length_set]; omega
    have := S1.1.cells (g := g) rfl _ _ (List.getElem?_eq_getElem hl)
    rw [Addr.add_lit, Nat.zero_add] at this
    exact ⟨_, this⟩)
  have C1 := hid c1
  have C2 := hid c2
  clear h S1 S2 W2E c1 c2 hi hk' hp hp2 hv hv2 hr hr2 hbg hg hPg z1
  generalize hs.length = n at *
  go_enter Try.func101, Try.ntmps101
  have hS : True := trivial
  refine wp_region_held_drew (S := fun _ => True) (by kernel_rfl) trivial (fun hS => ?_)
  refine wpAnyH_take (i := 0) (v := .slice (some ⟨g, 0, none⟩) n c) rfl (by kernel_rfl) (by kernel_rfl) (by kernel_rfl) (fun _ _ _ h => h) (.inl ⟨by rfl, fun wx _ => by go_simp⟩) hS ?_
  simp only [Act.put, List.getElem_toArray, List.getElem_cons_zero, List.set_cons_succ, List.set_cons_zero, List.setIfInBounds_toArray]
  refine wpAnyH_take (i := 1) (v := .int .i64 (i : Int)) rfl (by kernel_rfl) (by kernel_rfl) (by kernel_rfl) (fun _ _ _ h => h) (.inl ⟨by rfl, fun wx _ => by go_simp⟩) hS ?_
  simp only [Act.put, List.getElem_toArray, List.getElem_cons_succ, List.getElem_cons_zero, List.set_cons_succ, List.set_cons_zero, List.setIfInBounds_toArray]
  refine wpAnyH_take (i := 2) (v := .slice (some ⟨g, 0, none⟩) n c) rfl (by kernel_rfl) (by kernel_rfl) (by kernel_rfl) (fun _ _ _ h => h) (.inl ⟨by rfl, fun wx _ => by go_simp⟩) hS ?_
  simp only [Act.put, List.getElem_toArray, List.getElem_cons_succ, List.getElem_cons_zero, List.set_cons_succ, List.set_cons_zero, List.setIfInBounds_toArray]
  refine wpAnyH_take (i := 3) (v := .int .i64 (k : Int)) rfl (by kernel_rfl) (by kernel_rfl) (by kernel_rfl) (fun _ _ _ h => h) (.inl ⟨by rfl, fun wx _ => by go_simp⟩) hS ?_
  simp only [Act.put, List.getElem_toArray, List.getElem_cons_succ, List.getElem_cons_zero, List.set_cons_succ, List.set_cons_zero, List.setIfInBounds_toArray]
  refine wpAnyH_take (i := 4) (v := .slice (some ⟨g, 0, none⟩) n c) rfl (by kernel_rfl) (by kernel_rfl) (by kernel_rfl) (fun _ _ _ h => h) (.inl ⟨by rfl, fun wx _ => by go_simp⟩) hS ?_
  simp only [Act.put, List.getElem_toArray, List.getElem_cons_succ, List.getElem_cons_zero, List.set_cons_succ, List.set_cons_zero, List.setIfInBounds_toArray]
  refine wpAnyH_take (i := 5) (v := .int .i64 (k : Int)) rfl (by kernel_rfl) (by kernel_rfl) (by kernel_rfl) (fun _ _ _ h => h) (.inl ⟨by rfl, fun wx _ => by go_simp⟩) hS ?_
  simp only [Act.put, List.getElem_toArray, List.getElem_cons_succ, List.getElem_cons_zero, List.set_cons_succ, List.set_cons_zero, List.setIfInBounds_toArray]
  refine wpAnyH_take (i := 6) (v := .pointer (some ⟨g, k, none⟩)) rfl (by kernel_rfl) (by kernel_rfl) (by kernel_rfl) (fun _ _ _ h => h) (.inl ⟨by rfl, fun wx _ => by go_simp⟩) hS ?_
  simp only [Act.put, List.getElem_toArray, List.getElem_cons_succ, List.getElem_cons_zero, List.set_cons_succ, List.set_cons_zero, List.setIfInBounds_toArray]
  refine wpAnyH_take (i := 8) (v := .slice (some ⟨g, 0, none⟩) n c) rfl (by kernel_rfl) (by kernel_rfl) (by kernel_rfl) (fun _ _ _ h => h) (.inl ⟨by rfl, fun wx _ => by go_simp⟩) hS ?_
  simp only [Act.put, List.getElem_toArray, List.getElem_cons_succ, List.getElem_cons_zero, List.set_cons_succ, List.set_cons_zero, List.setIfInBounds_toArray]
  refine wpAnyH_take (i := 9) (v := .int .i64 (i : Int)) rfl (by kernel_rfl) (by kernel_rfl) (by kernel_rfl) (fun _ _ _ h => h) (.inl ⟨by rfl, fun wx _ => by go_simp⟩) hS ?_
  simp only [Act.put, List.getElem_toArray, List.getElem_cons_succ, List.getElem_cons_zero, List.set_cons_succ, List.set_cons_zero, List.setIfInBounds_toArray]
  refine wpAnyH_take (i := 10) (v := .pointer (some ⟨g, i, none⟩)) rfl (by kernel_rfl) (by kernel_rfl) (by kernel_rfl) (fun _ _ _ h => h) (.inl ⟨by rfl, fun wx _ => by go_simp⟩) hS ?_
  simp only [Act.put, List.getElem_toArray, List.getElem_cons_succ, List.getElem_cons_zero, List.set_cons_succ, List.set_cons_zero, List.setIfInBounds_toArray]
  have q3 := y1.out
  have q4 : W.cell? ⟨g, k, none⟩ = some (.slice va2 vn2 vc2) := C2.out
  refine wpAnyH_ready (rs := [7, 11]) (by kernel_rfl) (by simp) ?_
  refine AllReadyH.cons rfl (fun K hK => ?_) (AllReadyH.cons rfl (fun K hK => ?_) AllReadyH.nil)
  · go_simp
    refine hK.out _ _ trivial (fun hS => ?_)
    clear hK K
    refine wpAnyH_ready (rs := [11]) (by kernel_rfl) (by simp) ?_
    refine AllReadyH.cons rfl (fun K hK => ?_) AllReadyH.nil
    go_simp
    refine hK.out _ _ trivial (fun _ => ?_)
    clear hK K
    refine wpAnyH_take (i := 12) (v := .pointer (some ⟨g, i, none⟩)) rfl (by kernel_rfl) (by kernel_rfl) (by kernel_rfl) (fun _ _ _ h => h) (.inl ⟨by rfl, fun wx _ => by go_simp⟩) hS ?_
    simp only [Act.put, List.getElem_toArray, List.getElem_cons_succ, List.getElem_cons_zero, List.set_cons_succ, List.set_cons_zero, List.setIfInBounds_toArray]
    refine wpAnyH_ready (rs := [13]) (by kernel_rfl) (by simp) ?_
    refine AllReadyH.cons rfl (fun K hK => ?_) AllReadyH.nil
    have q1 := y1.out
    have q2 := fz0.out
    go_simp
    refine hK.out _ _ trivial (fun _ => ?_)
    clear hK K q1 q2
    refine wpAnyH_take (i := 14) (v := .pointer (some ⟨g, k, none⟩)) rfl (by kernel_rfl) (by kernel_rfl) (by kernel_rfl) (fun _ _ _ h => h) (.inl ⟨by rfl, fun wx _ => by go_simp⟩) hS ?_
    simp only [Act.put, List.getElem_toArray, List.getElem_cons_succ, List.getElem_cons_zero, List.set_cons_succ, List.set_cons_zero, List.setIfInBounds_toArray]
    refine wpAnyH_ready (rs := [15]) (by kernel_rfl) (by simp) ?_
    refine AllReadyH.cons rfl (fun K hK => ?_) AllReadyH.nil
    obtain ⟨x2, q1⟩ := y2.out
    have q2 := fz1.out
    go_simp
    refine hK.out _ _ trivial (fun _ => ?_)
    clear hK K q1 q2
    refine wpAnyH_done (by kernel_rfl) ?_ _
    go_end0
    exact ⟨_, _, rfl, HW.out.1, HW.out.2⟩
  · go_simp
    refine hK.out _ _ trivial (fun hS => ?_)
    clear hK K
    refine wpAnyH_ready (rs := [7]) (by kernel_rfl) (by simp) ?_
    refine AllReadyH.cons rfl (fun K hK => ?_) AllReadyH.nil
    go_simp
    refine hK.out _ _ trivial (fun _ => ?_)
    clear hK K
    refine wpAnyH_take (i := 12) (v := .pointer (some ⟨g, i, none⟩)) rfl (by kernel_rfl) (by kernel_rfl) (by kernel_rfl) (fun _ _ _ h => h) (.inl ⟨by rfl, fun wx _ => by go_simp⟩) hS ?_
    simp only [Act.put, List.getElem_toArray, List.getElem_cons_succ, List.getElem_cons_zero, List.set_cons_succ, List.set_cons_zero, List.setIfInBounds_toArray]
    refine wpAnyH_ready (rs := [13]) (by kernel_rfl) (by simp) ?_
    refine AllReadyH.cons rfl (fun K hK => ?_) AllReadyH.nil
    have q1 := y1.out
    have q2 := fz0.out
    go_simp
    refine hK.out _ _ trivial (fun _ => ?_)
    clear hK K q1 q2
    refine wpAnyH_take (i := 14) (v := .pointer (some ⟨g, k, none⟩)) rfl (by kernel_rfl) (by kernel_rfl) (by kernel_rfl) (fun _ _ _ h => h) (.inl ⟨by rfl, fun wx _ => by go_simp⟩) hS ?_
    simp only [Act.put, List.getElem_toArray, List.getElem_cons_succ, List.getElem_cons_zero, List.set_cons_succ, List.set_cons_zero, List.setIfInBounds_toArray]
    refine wpAnyH_ready (rs := [15]) (by kernel_rfl) (by simp) ?_
    refine AllReadyH.cons rfl (fun K hK => ?_) AllReadyH.nil
    obtain ⟨x2, q1⟩ := y2.out
    have q2 := fz1.out
    go_simp
    refine hK.out _ _ trivial (fun _ => ?_)
    clear hK K q1 q2
    refine wpAnyH_done (by kernel_rfl) ?_ _
    go_end0
    exact ⟨_, _, rfl, HW.out.1, HW.out.2⟩
end Go.Proofs.Ythmlpjogbdpgiaa
