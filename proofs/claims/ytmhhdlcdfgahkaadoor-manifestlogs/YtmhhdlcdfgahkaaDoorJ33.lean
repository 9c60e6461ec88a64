/-
  Tables that are added and dropped again, without the program.
-/
import Derived.Test.YtmhhdlcdfgahkaaDoorVO
import Derived.Test.YtmhhdlcdfgahkaaDoorDM4
import Derived.Test.YtmhhdlcdfgahkaaDoorJ12
import Derived.Test.YtmhhdlcdfgahkaaDoorJ18
import Derived.Deep.CutRange
import Derived.Test.YtmhhdlcdfgahkaaDoorJ06
import Derived.Test.YtmhhdlcdfgahkaaDoorJ11
import Derived.Test.YtmhhdlcdfgahkaaDoorJ16
import Derived.Test.YtmhhdlcdfgahkaaDoorJ21
import Derived.Test.YtmhhdlcdfgahkaaDoorEI
namespace Go.Proofs.YtmhhdlcdfgahkaaDoor

/-- A version that may be. -/
structure GoodV (v : Vn) : Prop where
  head : okH v.log v.next v.seq = true
  file : ∀ f ∈ v.all, okF f = true
  once : (v.all.map Fl.num).Nodup
  below : ∀ f ∈ v.all, f.num < v.next
  rise : ∀ i, i < 5 → risesF i (v.lv i) = true
theorem chk_iff (v : Vn) : chkV v = 0 ↔ GoodV v := by
  unfold chkV
  constructor
  · intro h
    by_cases h1 : (!(okH v.log v.next v.seq) || !(v.all.all okF)) = true
    · rw [if_pos h1] at h; omega
    rw [if_neg h1] at h
    by_cases h2 : runP freshP [] v.all = false
    · rw [if_pos h2] at h; omega
    rw [if_neg h2] at h
    by_cases h3 : v.all.all (fun f => decide (f.num < v.next)) = false
    · rw [if_pos h3] at h; omega
    rw [if_neg h3] at h
    by_cases h4 : (List.range 5).all (fun i => risesF i (v.lv i)) = false
    · rw [if_pos h4] at h; omega
    simp only [Bool.or_eq_true, Bool.not_eq_true', not_or, Bool.not_eq_false] at h1 h2 h3 h4
    refine ⟨h1.1, List.all_eq_true.1 h1.2, ?_, fun f hf => by simpa using List.all_eq_true.1 h3 f hf, fun i hi => List.all_eq_true.1 h4 i (by simpa using hi)⟩
    have := (runP_fresh v.all [] (by simp)).1 h2
    simpa using this
  · intro h
    rw [if_neg (by simp [h.head, List.all_eq_true.2 h.file]), if_neg (by
      rw [Bool.not_eq_false, runP_fresh v.all [] (by simp)]
      simpa using h.once), if_neg (by
      rw [Bool.not_eq_false, List.all_eq_true]
      intro f hf
      simpa using h.below f hf), if_neg (by
      rw [Bool.not_eq_false, List.all_eq_true]
      intro i hi
      exact h.rise i (by simpa using hi))]
/-- Of one order there is one list. -/
theorem sort_one (i : Nat) : ∀ (l1 l2 : List Fl), l1.Perm l2 → l1.Pairwise (fun a b => ¬ cmpF i b a < 0) → l2.Pairwise (fun a b => cmpF i a b < 0) → l1 = l2
  | [], l2, hp, _, _ => (List.nil_perm.1 hp).symm
  | a :: t1, [], hp, _, _ => by have := hp.length_eq; simp at this
  | a :: t1, b :: t2, hp, h1, h2 => by
    obtain ⟨p1, p2⟩ := List.pairwise_cons.1 h1
    obtain ⟨q1, q2⟩ := List.pairwise_cons.1 h2
    by_cases e : a = b
    · subst e
      rw [sort_one i t1 t2 (List.perm_cons _ |>.1 hp) p2 q2]
    · exfalso
      have m1 : a ∈ t2 := by
        have := hp.mem_iff.1 (List.mem_cons_self (a := a) (l := t1))
        rcases List.mem_cons.1 this with h | h
        · exact absurd h e
        · exact h
      have m2 : b ∈ t1 := by
        have := hp.mem_iff.2 (List.mem_cons_self (a := b) (l := t2))
        rcases List.mem_cons.1 this with h | h
        · exact absurd h.symm e
        · exact h
      exact p1 b m2 (q1 a m1)
theorem rises_pair (i : Nat) : ∀ (l : List Fl), risesF i l = true → l.Pairwise (fun a b => cmpF i a b < 0)
  | [], _ => List.Pairwise.nil
  | [a], _ => List.pairwise_singleton _ _
  | a :: b :: r, h => by
    unfold risesF at h
    rw [Bool.and_eq_true] at h
    have ih := rises_pair i (b :: r) h.2
    have hab : cmpF i a b < 0 := by
      have := h.1
      unfold apartF at this
      rw [Bool.and_eq_true] at this
      exact of_decide_eq_true this.1
    refine List.pairwise_cons.2 ⟨fun c hc => ?_, ih⟩
    rcases List.mem_cons.1 hc with rfl | hc
    · exact hab
    · exact cmpF_lt i hab ((List.pairwise_cons.1 ih).1 c hc)
theorem lv_sub (L : Nat → List Fl) : ∀ n i, i < n → (L i).Sublist (pfx L n)
  | 0, i, h => by omega
  | n + 1, i, h => by
    rw [pfx_succ]
    rcases Nat.lt_or_ge i n with h1 | h1
    · exact (lv_sub L n i h1).trans (List.sublist_append_left _ _)
    · rw [show i = n from by omega]; exact List.sublist_append_right _ _
theorem lv_once {v : Vn} (h : GoodV v) {i : Nat} (hi : i < 5) : ((v.lv i).map Fl.num).Nodup := (h.once).sublist ((lv_sub v.lv 5 i hi).map _)
theorem addF_mem {ps : List (Int × Fl)} {i : Nat} {f : Fl} : f ∈ addF ps i ↔ ((i : Int), f) ∈ ps := by
  unfold addF
  rw [List.mem_map]
  constructor
  · rintro ⟨p, hp, rfl⟩
    obtain ⟨h1, h2⟩ := List.mem_filter.1 hp
    have : p.1 = (i : Int) := by simpa using h2
    rw [← this]; exact h1
  · intro h
    exact ⟨_, List.mem_filter.2 ⟨h, by simp⟩, rfl⟩
/-- What is dropped again. -/
def dropsOf (ps : List (Int × Fl)) : List (Int × Int) := ps.map (fun p => (p.1, p.2.num))
theorem drops_mem {ps : List (Int × Fl)} {i : Nat} {n : Int} : ((i : Int), n) ∈ dropsOf ps ↔ ∃ f ∈ addF ps i, f.num = n := by
  unfold dropsOf
  rw [List.mem_map]
  constructor
  · rintro ⟨p, hp, e⟩
    simp only [Prod.mk.injEq] at e
    exact ⟨p.2, addF_mem.2 (by rw [← e.1]; exact hp), e.2⟩
  · rintro ⟨f, hf, rfl⟩
    exact ⟨_, addF_mem.1 hf, rfl⟩
theorem kept_none (L : Nat → List Fl) (i : Nat) : keptF [] L i = L i := by
  unfold keptF drF
  simp
theorem add_count : ∀ (ps : List (Int × Fl)), (∀ p ∈ ps, 0 ≤ p.1 ∧ p.1 < 5) → (addF ps 0).length + (addF ps 1).length + (addF ps 2).length + (addF ps 3).length + (addF ps 4).length = ps.length
  | [], _ => rfl
  | p :: r, h => by
    have ih := add_count r (fun q hq => h q (by simp [hq]))
    have hp := h p (by simp)
    have e : ∀ i : Nat, (addF (p :: r) i).length = (if p.1 = (i : Int) then 1 else 0) + (addF r i).length := fun i => by
      unfold addF
      by_cases hq : p.1 = (i : Int)
      · rw [List.filter_cons_of_pos (by simpa using hq), if_pos hq]; simp; omega
      · rw [List.filter_cons_of_neg (by simpa using hq), if_neg hq]; simp
    rw [e 0, e 1, e 2, e 3, e 4, List.length_cons]
    rcases (show p.1 = 0 ∨ p.1 = 1 ∨ p.1 = 2 ∨ p.1 = 3 ∨ p.1 = 4 from by omega) with q | q | q | q | q <;> rw [q] <;> simp <;> omega
/-- The edit that adds, the one that drops again. -/
def addE (v : Vn) (nx : Int) (ps : List (Int × Fl)) : Ed := ⟨v.log, nx, v.seq, [], ps⟩
def dropE (v : Vn) (nx : Int) (ps : List (Int × Fl)) : Ed := ⟨v.log, nx, v.seq, dropsOf ps, []⟩
structure Undo (v : Vn) (nx : Int) (ps : List (Int × Fl)) (U : Nat → List Fl) : Prop where
  good : chkV v = 0
  ok : okE (addE v nx ps) = true
  made : okA9 v (addE v nx ps) U
section
variable {v : Vn} {nx : Int} {ps : List (Int × Fl)} {U : Nat → List Fl}
theorem Undo.perm (h : Undo v nx ps U) {i : Nat} (hi : i < 5) : (U i).Perm (v.lv i ++ addF ps i) := by
  have := h.made.comes.perm i hi
  rw [show (addE v nx ps).drop = [] from rfl, kept_none] at this
  exact this
theorem Undo.lev (h : Undo v nx ps U) : ∀ p ∈ ps, 0 ≤ p.1 ∧ p.1 < 5 := by
  intro p hp
  have h1 := h.ok
  unfold okE at h1
  simp only [Bool.and_eq_true] at h1
  have h2 := List.all_eq_true.1 h1.2.1 p hp
  unfold okA at h2
  simp only [Bool.and_eq_true] at h2
  exact okV_iff.1 h2.1
theorem Undo.num (h : Undo v nx ps U) : ∀ p ∈ ps, okN p.2.num = true := by
  intro p hp
  have h1 := h.ok
  unfold okE at h1
  simp only [Bool.and_eq_true] at h1
  have h2 := List.all_eq_true.1 h1.2.1 p hp
  unfold okA okF at h2
  simp only [Bool.and_eq_true] at h2
  exact h2.2.2.2.2.1
theorem Undo.goodw (h : Undo v nx ps U) : GoodV ⟨v.log, nx, v.seq, U⟩ := (chk_iff _).1 h.made.chk
theorem Undo.apart (h : Undo v nx ps U) {i : Nat} (hi : i < 5) : ∀ f ∈ v.lv i, drF (dropsOf ps) i f = false := by
  intro f hf
  unfold drF
  rw [decide_eq_false_iff_not, drops_mem]
  rintro ⟨g, hg, e⟩
  have h1 := lv_once h.goodw hi
  have h2 : ((v.lv i ++ addF ps i).map Fl.num).Nodup := ((h.perm hi).map Fl.num).nodup_iff.1 h1
  rw [List.map_append, List.nodup_append] at h2
  exact h2.2.2 f.num (List.mem_map_of_mem hf) g.num (List.mem_map_of_mem hg) e.symm
theorem Undo.all (_ : Undo v nx ps U) {i : Nat} : ∀ f ∈ addF ps i, drF (dropsOf ps) i f = true := by
  intro f hf
  unfold drF
  rw [decide_eq_true_eq, drops_mem]
  exact ⟨f, hf, rfl⟩
theorem Undo.cnt (h : Undo v nx ps U) : dcF (dropsOf ps) U 5 = (dropsOf ps).length := by
  have hc : ∀ i, i < 5 → (U i).countP (drF (dropsOf ps) i) = (addF ps i).length := fun i hi => by
    rw [(h.perm hi).countP_eq, List.countP_append, List.countP_eq_zero.2 (fun f hf => by rw [h.apart hi f hf]; simp), Nat.zero_add, List.countP_eq_length.2 (fun f hf => h.all f hf)]
  show 0 + (U 0).countP _ + (U 1).countP _ + (U 2).countP _ + (U 3).countP _ + (U 4).countP _ = _
  rw [hc 0 (by omega), hc 1 (by omega), hc 2 (by omega), hc 3 (by omega), hc 4 (by omega)]
  have := add_count ps h.lev
  unfold dropsOf
  rw [List.length_map]
  omega
theorem Undo.back (h : Undo v nx ps U) {U2 : Nat → List Fl} (hc : Comes ⟨v.log, nx, v.seq, U⟩ (dropE v nx ps) U2) {i : Nat} (hi : i < 5) : U2 i = v.lv i := by
  have h1 := hc.perm i hi
  have h2 : keptF (dropsOf ps) U i ++ addF [] i = keptF (dropsOf ps) U i := by unfold addF; simp
  have h3 : (keptF (dropsOf ps) U i).Perm (v.lv i) := by
    unfold keptF
    have := (h.perm hi).filter (fun f => !drF (dropsOf ps) i f)
    have e1 : (v.lv i).filter (fun f => !drF (dropsOf ps) i f) = v.lv i := List.filter_eq_self.2 (fun f hf => by rw [h.apart hi f hf]; rfl)
    have e2 : (addF ps i).filter (fun f => !drF (dropsOf ps) i f) = [] := List.filter_eq_nil_iff.2 (fun f hf => by rw [h.all f hf]; simp)
    rw [List.filter_append, e1, e2, List.append_nil] at this
    exact this
  have h4 : (U2 i).Perm (v.lv i) := by
    refine h1.trans ?_
    show (keptF (dropsOf ps) U i ++ addF [] i).Perm (v.lv i)
    rw [h2]; exact h3
  exact sort_one i _ _ h4 (hc.sort i hi) (rises_pair i _ (((chk_iff v).1 h.good).rise i hi))
theorem Undo.chk2 (h : Undo v nx ps U) {U2 : Nat → List Fl} (hc : Comes ⟨v.log, nx, v.seq, U⟩ (dropE v nx ps) U2) : chkV ⟨v.log, nx, v.seq, U2⟩ = 0 := by
  rw [chk_lv (v := ⟨v.log, nx, v.seq, U2⟩) (v' := ⟨v.log, nx, v.seq, v.lv⟩) rfl rfl rfl (fun i hi => h.back hc hi), chk_iff]
  have g := (chk_iff v).1 h.good
  have hn : v.next ≤ nx := by
    have := h.made.back
    unfold backE at this
    simp only [not_or] at this
    have h2 := this.2.1
    change ¬ nx < v.next at h2
    omega
  exact ⟨h.goodw.head, g.file, g.once, fun f hf => by have := g.below f hf; show f.num < nx; omega, g.rise⟩
theorem Undo.ok2 (h : Undo v nx ps U) : okE (dropE v nx ps) = true := by
  unfold okE
  rw [Bool.and_eq_true, Bool.and_eq_true]
  refine ⟨?_, rfl, h.goodw.head⟩
  rw [List.all_eq_true]
  intro g hg
  obtain ⟨p, hp, rfl⟩ := List.mem_map.1 hg
  unfold okD
  rw [Bool.and_eq_true]
  exact ⟨okV_iff.2 (h.lev p hp), h.num p hp⟩
theorem Undo.back2 (_ : Undo v nx ps U) : ¬ backE ⟨v.log, nx, v.seq, U⟩ (dropE v nx ps) := by
  unfold backE dropE
  simp
end
end Go.Proofs.YtmhhdlcdfgahkaaDoor
namespace Go.Proofs.YtmhhdlcdfgahkaaDoor
open Go.ChangeShapes Go.WideShapes Go.ChangeAt Go.RowKit

theorem cutS_by {n : Nat} {s : Option (List Nat)} (hb : ∀ l, s = some l → By l) : By (cutS n s).1 ∧ ∀ M, (∀ l, s = some l → l.length ≤ M) → (cutS n s).1.length ≤ M := by
  rcases s with _ | l
  · exact ⟨fun x hx => (by cases hx), fun M _ => Nat.zero_le _⟩
  · exact ⟨(hb l rfl).take n, fun M h => by have := h l rfl; show (l.take n).length ≤ M; rw [List.length_take]; omega⟩
theorem Sm.len {s s' : Option (List Nat)} (h : Sm s s') {M : Nat} (hl : ∀ l, s = some l → l.length ≤ M) : ∀ l, s' = some l → l.length ≤ M := fun l' e => by
  obtain ⟨l, h1, h2, _⟩ := h l' e
  have := hl l h1
  omega
/-- Keys that were taken are bytes, and not too many. -/
theorem plS_by {s : Option (List Nat)} (hb : ∀ l, s = some l → By l) {M : Nat} (hl : ∀ l, s = some l → l.length ≤ M) : (By (plS s).1.2.least ∧ (plS s).1.2.least.length ≤ M) ∧ By (plS s).1.2.most ∧ (plS s).1.2.most.length ≤ M := by
  have h1 := nmS_sh hb
  have b1 := h1.sm.by hb
  have h2 := nmS_sh b1
  have b2 := h2.sm.by b1
  have h3 := nmS_sh b2
  have b3 := h3.sm.by b2
  have l3 := h3.sm.len (h2.sm.len (h1.sm.len hl))
  have h4 := kyS_sh b3
  have b4 := h4.sm.by b3
  have l4 := h4.sm.len l3
  have c3 := ctS_sh b3
  have c4 := ctS_sh b4
  exact ⟨⟨(cutS_by (c3.sm.by b3)).1, (cutS_by (c3.sm.by b3)).2 M (c3.sm.len l3)⟩, (cutS_by (c4.sm.by b4)).1, (cutS_by (c4.sm.by b4)).2 M (c4.sm.len l4)⟩
theorem sevP_by {M : Nat} : ∀ (n : Nat) (s : Option (List Nat)), (∀ l, s = some l → By l) → (∀ l, s = some l → l.length ≤ M) → ∀ p ∈ (sevS plS n s).1, (By p.2.least ∧ p.2.least.length ≤ M) ∧ By p.2.most ∧ p.2.most.length ≤ M
  | 0, _, _, _, p, hp => by cases hp
  | _ + 1, none, _, _, p, hp => by cases hp
  | n + 1, some l, hb, hl, p, hp => by
    have h := plS_sh hb
    rcases List.mem_cons.1 (show p ∈ (plS (some l)).1 :: (sevS plS n (plS (some l)).2).1 from hp) with rfl | hp
    · exact plS_by hb hl
    · exact sevP_by n _ (h.sm.by hb) (h.sm.len hl) p hp
theorem sevS_len {α : Type} (f : Option (List Nat) → α × Option (List Nat)) : ∀ (n : Nat) (s : Option (List Nat)), (sevS f n s).1.length ≤ n
  | 0, _ => Nat.le_refl _
  | _ + 1, none => Nat.zero_le _
  | n + 1, some l => by
    have := sevS_len f n (f (some l)).2
    show ((f (some l)).1 :: (sevS f n (f (some l)).2).1).length ≤ n + 1
    rw [List.length_cons]; omega
theorem DO.rd {W : World} {B : Nat} {v : Value} {gs : List (Int × Int)} (h : DO W B v gs) : RdD W v gs := by
  have h' : W.ownsRow B 47 2 v gs.length (cellsD gs) := h
  rcases h'.2 with ⟨rfl, h0⟩ | ⟨g, cap, cur, rfl, _, h3, h4, h5⟩
  · exact ⟨none, 0, by rw [h0], fun h => by omega⟩
  · refine ⟨_, cap, rfl, fun _ => ⟨g, 0, rfl, fun j x hj => ?_⟩⟩
    obtain ⟨c0, c1⟩ := cellsD_at hj
    have d0 := h'.cells rfl _ _ c0
    have d1 := h'.cells rfl _ _ c1
    rw [Addr.add_lit] at d0 d1
    exact ⟨d0, by rw [show 0 + j * 2 + 1 = 0 + (j * 2 + 1) by omega]; exact d1⟩
theorem AO.rd {W : World} {B : Nat} {v : Value} {ps : List (Int × Fl)} (h : AO W B v ps) {M : Nat} (hM : M ≤ 140737488355328) (hb : ∀ p ∈ ps, (By p.2.least ∧ p.2.least.length ≤ M) ∧ By p.2.most ∧ p.2.most.length ≤ M) : RdA W v ps := by
  obtain ⟨cs, o, h2⟩ := h
  rcases o.2 with ⟨rfl, h0⟩ | ⟨g, cap, cur, rfl, _, h3, h4, h5⟩
  · exact ⟨none, 0, by rw [h0], fun h => by omega⟩
  · refine ⟨_, cap, rfl, fun _ => ⟨g, 0, rfl, fun j p hj => ?_⟩⟩
    obtain ⟨la, lc, ma, mc, c0, c1, c2, c3, c4, q0, q1⟩ := h2 j p hj
    obtain ⟨⟨b0, l0⟩, b1, l1⟩ := hb p (List.mem_of_getElem? hj)
    have d0 := o.cells rfl _ _ c0
    have d1 := o.cells rfl _ _ c1
    have d2 := o.cells rfl _ _ c2
    have d3 := o.cells rfl _ _ c3
    have d4 := o.cells rfl _ _ c4
    rw [Addr.add_lit] at d0 d1 d2 d3 d4
    refine ⟨d0, la, lc, ma, mc, ⟨?_, ?_, ?_, ?_, ⟨Rd.ownB q0, Rd.ownB q1, b0, b1, by omega, by omega⟩⟩⟩
    · rw [show 0 + j * 5 + 1 = 0 + (j * 5 + 1) by omega]; exact d1
    · rw [show 0 + j * 5 + 1 + 1 = 0 + (j * 5 + 2) by omega]; exact d2
    · rw [show 0 + j * 5 + 1 + 2 = 0 + (j * 5 + 3) by omega]; exact d3
    · rw [show 0 + j * 5 + 1 + 3 = 0 + (j * 5 + 4) by omega]; exact d4
theorem sizeEdit : (Tryd.prog.info? 34).map (·.size) = some 5 := by kernel_rfl
theorem load_edit {w : World} {g : Nat} {a b c d e : Value} {t : TypeId} (hg : w.heap[g]? = some (.cells #[a, b, c, d, e] t (0, 0))) : (loadVar 34 ⟨g, 0, none⟩).run Tryd.prog w = .ok (.agg #[a, b, c, d, e]) w :=
  run_loadVar_row w g t 34 #[a, b, c, d, e] (0, 0) _ hg Tryd.underlying34 rfl sizeEdit
theorem store5 {w W : World} {N : Nat} {a b c d e x0 x1 x2 x3 x4 : Value} {T : TypeId} {S : List Nat} (h : W.heap[N]? = some (.cells #[x0, x1, x2, x3, x4] T (0, 0))) (hf : Fr S w W) (hN : w.heap.size ≤ N) :
    (((((W.setCell ⟨N, 0, none⟩ a).setCell ⟨N, 1, none⟩ b).setCell ⟨N, 2, none⟩ c).setCell ⟨N, 3, none⟩ d).setCell ⟨N, 4, none⟩ e).heap[N]? = some (.cells #[a, b, c, d, e] T (0, 0)) ∧ Fr S w (((((W.setCell ⟨N, 0, none⟩ a).setCell ⟨N, 1, none⟩ b).setCell ⟨N, 2, none⟩ c).setCell ⟨N, 3, none⟩ d).setCell ⟨N, 4, none⟩ e) ∧
    ∀ k, k ≠ N → (((((W.setCell ⟨N, 0, none⟩ a).setCell ⟨N, 1, none⟩ b).setCell ⟨N, 2, none⟩ c).setCell ⟨N, 3, none⟩ d).setCell ⟨N, 4, none⟩ e).heap[k]? = W.heap[k]? :=
  ⟨by rw [blk_set (blk_set (blk_set (blk_set (blk_set h 0 a) 1 b) 2 c) 3 d) 4 e]; rfl, ((((hf.set _ _ (.inr hN)).set _ _ (.inr hN)).set _ _ (.inr hN)).set _ _ (.inr hN)).set _ _ (.inr hN), fun k hk => by rw [blk_setne _ _ _ hk, blk_setne _ _ _ hk, blk_setne _ _ _ hk, blk_setne _ _ _ hk, blk_setne _ _ _ hk]⟩
/-- What is told of bytes as an edit. -/
def DecM (w' : World) (B : Nat) (o : Option Ed) (r : Ending) : Prop := match o with
  | none => r = .returned (.tuple #[.agg #[.int .i64 0, .int .i64 0, .int .u64 0, .slice none 0 0, .slice none 0 0], .int .i64 90])
  | some e => ∃ da dc aa ac, r = .returned (.tuple #[.agg #[.int .i64 e.log, .int .i64 e.next, .int .u64 (e.seq : Int), .slice da e.drop.length dc, .slice aa e.add.length ac], .int .i64 0]) ∧ DO w' B (.slice da e.drop.length dc) e.drop ∧ AO w' B (.slice aa e.add.length ac) e.add
end Go.Proofs.YtmhhdlcdfgahkaaDoor
namespace Go.Proofs.YtmhhdlcdfgahkaaDoor
open Go.ChangeShapes Go.WideShapes Go.ChangeAt Go.RowKit

theorem results_tmp4' {fn : Func} {p q r s : Tmp} (h : fn.results = #[.tmp p, .tmp q, .tmp r, .tmp s]) (tmps : Array Value) (P : Program) (w : World) :
    (results fn tmps).run P w = .ok (.tuple #[tmps.getD p undef, tmps.getD q undef, tmps.getD r undef, tmps.getD s undef]) w := by
  simp only [results, h]
  simp

theorem take8 (b : List Nat) : (b.drop (b.length - 8)).take 8 = b.drop (b.length - 8) := List.take_of_length_le (by rw [List.length_drop]; omega)

end Go.Proofs.YtmhhdlcdfgahkaaDoor
namespace Go.Proofs.YtmhhdlcdfgahkaaDoor
open Go.ChangeShapes Go.WideShapes Go.ChangeAt Go.RowKit

end Go.Proofs.YtmhhdlcdfgahkaaDoor
namespace Go.Proofs.YtmhhdlcdfgahkaaDoor
open Go.ChangeShapes Go.WideShapes Go.ChangeAt Go.RowKit

theorem ordP_ne {u v : List Nat} {s t k l x : Int} (hx : x = cmpN u v) (h : ¬ x = 0) : ordP u v s t k l = x := by unfold ordP; rw [← hx, if_neg h]
theorem ordP_s1 {u v : List Nat} {s t k l x : Int} (hx : x = cmpN u v) (h : x = 0) (hs : t < s) : ordP u v s t k l = -1 := by
  unfold ordP; rw [← hx, if_pos h]; unfold cmpI; rw [if_pos hs]; rfl
theorem ordP_s2 {u v : List Nat} {s t k l x : Int} (hx : x = cmpN u v) (h : x = 0) (hs : s < t) : ordP u v s t k l = 1 := by
  unfold ordP; rw [← hx, if_pos h]; unfold cmpI; rw [if_neg (show ¬ t < s by omega), if_pos hs]; rfl
theorem ordP_k {u v : List Nat} {s t k l x : Int} (hx : x = cmpN u v) (h : x = 0) (hs : s = t) : ordP u v s t k l = cmpI l k := by
  unfold ordP; rw [← hx, if_pos h]; subst hs; rw [if_pos (show cmpI s s = 0 by unfold cmpI; simp)]

end Go.Proofs.YtmhhdlcdfgahkaaDoor
namespace Go.Proofs.YtmhhdlcdfgahkaaDoor
open Go.ChangeShapes Go.WideShapes Go.ChangeAt Go.RowKit

/-- All blocks stay but rows of bytes of the call's own. -/
structure Kq (base : Nat) (w w' : World) : Prop where
  os : w'.os = w.os
  tape : w'.tape = w.tape
  output : w'.output = w.output
  size : w.heap.size ≤ w'.heap.size
  blk : ∀ k, k < w.heap.size → ¬ (base ≤ k ∧ ∃ cs, w.heap[k]? = some (.cells cs 5 (0, 0))) → w'.heap[k]? = w.heap[k]?
theorem Kq.refl (base : Nat) (w : World) : Kq base w w := ⟨rfl, rfl, rfl, Nat.le_refl _, fun _ _ _ => rfl⟩
theorem Kq.trans {base : Nat} {a b c : World} (h : Kq base a b) (g : Kq base b c) : Kq base a c :=
  ⟨g.os.trans h.os, g.tape.trans h.tape, g.output.trans h.output, Nat.le_trans h.size g.size, fun k hk hb => by
    have h1 := h.blk k hk hb
    rw [g.blk k (Nat.lt_of_lt_of_le hk h.size) (by rw [h1]; exact hb), h1]⟩
theorem Kq.of {base : Nat} {w w' : World} (f : Fr [] w w') : Kq base w w' := ⟨f.os, f.tape, f.output, f.size, fun k hk _ => f.block k hk (by simp)⟩
theorem Kq.at {base : Nat} {w w' : World} (h : Kq base w w') {k : Nat} {cs : Array Value} {T : TypeId} (hk : w.heap[k]? = some (.cells cs T (0, 0))) (hT : T ≠ 5) : w'.heap[k]? = some (.cells cs T (0, 0)) := by
  rw [h.blk k (blk_lt hk) (fun hb => by
    obtain ⟨_, cs', h'⟩ := hb
    rw [hk] at h'
    simp only [Option.some.injEq, Obj.cells.injEq] at h'
    exact hT h'.2.1)]
  exact hk
theorem Kq.fr {base : Nat} {ws w w' : World} (h : Kq base w w') (hb : base = ws.heap.size) (f : Fr [] ws w) : Fr [] ws w' :=
  ⟨h.os.trans f.os, h.tape.trans f.tape, h.output.trans f.output, Nat.le_trans f.size h.size, fun k hk _ => by
    rw [h.blk k (Nat.lt_of_lt_of_le hk f.size) (fun hx => by have := hx.1; omega)]
    exact f.block k hk (by simp)⟩
theorem Kq.grown {base n : Nat} {w w' : World} {v : Value} {xs : List Value} (o : w.ownsRow base 5 1 v n xs) (g : w.grownBy w' v.ownBlock) : Kq base w w' :=
  ⟨g.os, g.tape, g.output, g.size, fun k hk hb => g.block k hk (fun e => hb ⟨(o.lt k e.symm).1, by
    rcases o.2 with ⟨rfl, _⟩ | ⟨g', cap, cur, rfl, _, h3, _⟩
    · simp [Value.ownBlock] at e
    · simp [Value.ownBlock] at e
      subst e
      exact ⟨cur, h3⟩⟩)⟩
end Go.Proofs.YtmhhdlcdfgahkaaDoor
namespace Go.Proofs.YtmhhdlcdfgahkaaDoor
open Go.ChangeShapes Go.WideShapes Go.ChangeAt Go.RowKit

/-- What the document's Encode holds. -/
structure RS (w W : World) (bx : Array Value) (v : Value) (acc : List Nat) : Prop where
  ob : W.ownsRow w.heap.size 5 1 v acc.length (bv acc)
  ed : W.heap[w.heap.size]? = some (.cells bx 34 (0, 0))
  fr : Fr [] w W
theorem RS.fr' {w W W' : World} {bx : Array Value} {v : Value} {acc : List Nat} (h : RS w W bx v acc) (f : Fr [] W W') : RS w W' bx v acc := ⟨ownsRow_fr h.ob f, f.at h.ed (by simp), h.fr.trans f⟩
/-- Bytes appended. -/
theorem RS.app {w W W' : World} {bx : Array Value} {v v' : Value} {acc more : List Nat} (h : RS w W bx v acc) (o : W'.ownsRow w.heap.size 5 1 v' (acc.length + more.length) (bv acc ++ bv more)) (g : W.grownBy W' v.ownBlock) : RS w W' bx v' (acc ++ more) ∧ Kq w.heap.size W W' := by
  have k := Kq.grown h.ob g
  exact ⟨⟨by rw [List.length_append, bv_append]; exact o, k.at h.ed (by decide), k.fr rfl h.fr⟩, k⟩
/-- What the document's Encode answers. -/
def EncR (w : World) (e : Ed) (r : Ending) (w' : World) : Prop := (okE e = true ∧ ∃ v', r = .returned (.tuple #[v', .int .i64 0]) ∧ w'.ownsRow w.heap.size 5 1 v' (encE e).length (bv (encE e))) ∨ (okE e = false ∧ r = .returned (.tuple #[.slice none 0 0, .int .i64 90]))
end Go.Proofs.YtmhhdlcdfgahkaaDoor
