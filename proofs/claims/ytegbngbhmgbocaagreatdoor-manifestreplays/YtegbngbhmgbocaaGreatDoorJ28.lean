/-
  Tables that are added and dropped again, without the program.
-/
import Derived.Test.YtegbngbhmgbocaaGreatDoorVO
import Derived.Test.YtegbngbhmgbocaaGreatDoorDM4
import Derived.Test.YtegbngbhmgbocaaGreatDoorJ09
import Derived.Test.YtegbngbhmgbocaaGreatDoorJ14
import Derived.Deep.CutRange
import Derived.Test.YtegbngbhmgbocaaGreatDoorJ04
import Derived.Test.YtegbngbhmgbocaaGreatDoorJ08
namespace Go.Proofs.YtegbngbhmgbocaaGreatDoor

/-- A version that may be. -/
structure GoodV (v : Vn) : Prop where
  head : okH v.log v.next v.seq = true
  file : ∀ f ∈ v.all, okF f = true
  once : (v.all.map Fl.num).Nodup
  below : ∀ f ∈ v.all, f.num < v.next
  rise : ∀ i, i < 5 → risesF i (v.lv i) = true
theorem chk_iff (v : Vn) : chkV v = 0 ↔ GoodV v := by
  unfold chkV
  constructor
  · intro h
    by_cases h1 : (!(okH v.log v.next v.seq) || !(v.all.all okF)) = true
    · rw [if_pos h1] at h; omega
    rw [if_neg h1] at h
    by_cases h2 : runP freshP [] v.all = false
    · rw [if_pos h2] at h; omega
    rw [if_neg h2] at h
    by_cases h3 : v.all.all (fun f => decide (f.num < v.next)) = false
    · rw [if_pos h3] at h; omega
    rw [if_neg h3] at h
    by_cases h4 : (List.range 5).all (fun i => risesF i (v.lv i)) = false
    · rw [if_pos h4] at h; omega
    simp only [Bool.or_eq_true, Bool.not_eq_true', not_or, Bool.not_eq_false] at h1 h2 h3 h4
    refine ⟨h1.1, List.all_eq_true.1 h1.2, ?_, fun f hf => by simpa using List.all_eq_true.1 h3 f hf, fun i hi => List.all_eq_true.1 h4 i (by simpa using hi)⟩
    have := (runP_fresh v.all [] (by simp)).1 h2
    simpa using this
  · intro h
    rw [if_neg (by simp [h.head, List.all_eq_true.2 h.file]), if_neg (by
      rw [Bool.not_eq_false, runP_fresh v.all [] (by simp)]
      simpa using h.once), if_neg (by
      rw [Bool.not_eq_false, List.all_eq_true]
      intro f hf
      simpa using h.below f hf), if_neg (by
      rw [Bool.not_eq_false, List.all_eq_true]
      intro i hi
      exact h.rise i (by simpa using hi))]
/-- Of one order there is one list. -/
theorem sort_one (i : Nat) : ∀ (l1 l2 : List Fl), l1.Perm l2 → l1.Pairwise (fun a b => ¬ cmpF i b a < 0) → l2.Pairwise (fun a b => cmpF i a b < 0) → l1 = l2
  | [], l2, hp, _, _ => (List.nil_perm.1 hp).symm
  | a :: t1, [], hp, _, _ => by have := hp.length_eq; simp at this
  | a :: t1, b :: t2, hp, h1, h2 => by
    obtain ⟨p1, p2⟩ := List.pairwise_cons.1 h1
    obtain ⟨q1, q2⟩ := List.pairwise_cons.1 h2
    by_cases e : a = b
    · subst e
      rw [sort_one i t1 t2 (List.perm_cons _ |>.1 hp) p2 q2]
    · exfalso
      have m1 : a ∈ t2 := by
        have := hp.mem_iff.1 (List.mem_cons_self (a := a) (l := t1))
        rcases List.mem_cons.1 this with h | h
        · exact absurd h e
        · exact h
      have m2 : b ∈ t1 := by
        have := hp.mem_iff.2 (List.mem_cons_self (a := b) (l := t2))
        rcases List.mem_cons.1 this with h | h
        · exact absurd h.symm e
        · exact h
      exact p1 b m2 (q1 a m1)
theorem rises_pair (i : Nat) : ∀ (l : List Fl), risesF i l = true → l.Pairwise (fun a b => cmpF i a b < 0)
  | [], _ => List.Pairwise.nil
  | [a], _ => List.pairwise_singleton _ _
  | a :: b :: r, h => by
    unfold risesF at h
    rw [Bool.and_eq_true] at h
    have ih := rises_pair i (b :: r) h.2
    have hab : cmpF i a b < 0 := by
      have := h.1
      unfold apartF at this
      rw [Bool.and_eq_true] at this
      exact of_decide_eq_true this.1
    refine List.pairwise_cons.2 ⟨fun c hc => ?_, ih⟩
    rcases List.mem_cons.1 hc with rfl | hc
    · exact hab
    · exact cmpF_lt i hab ((List.pairwise_cons.1 ih).1 c hc)
theorem lv_sub (L : Nat → List Fl) : ∀ n i, i < n → (L i).Sublist (pfx L n)
  | 0, i, h => by omega
  | n + 1, i, h => by
    rw [pfx_succ]
    rcases Nat.lt_or_ge i n with h1 | h1
    · exact (lv_sub L n i h1).trans (List.sublist_append_left _ _)
    · rw [show i = n from by omega]; exact List.sublist_append_right _ _
theorem lv_once {v : Vn} (h : GoodV v) {i : Nat} (hi : i < 5) : ((v.lv i).map Fl.num).Nodup := (h.once).sublist ((lv_sub v.lv 5 i hi).map _)
theorem addF_mem {ps : List (Int × Fl)} {i : Nat} {f : Fl} : f ∈ addF ps i ↔ ((i : Int), f) ∈ ps := by
  unfold addF
  rw [List.mem_map]
  constructor
  · rintro ⟨p, hp, rfl⟩
    obtain ⟨h1, h2⟩ := List.mem_filter.1 hp
    have : p.1 = (i : Int) := by simpa using h2
    rw [← this]; exact h1
  · intro h
    exact ⟨_, List.mem_filter.2 ⟨h, by simp⟩, rfl⟩
/-- What is dropped again. -/
def dropsOf (ps : List (Int × Fl)) : List (Int × Int) := ps.map (fun p => (p.1, p.2.num))
theorem drops_mem {ps : List (Int × Fl)} {i : Nat} {n : Int} : ((i : Int), n) ∈ dropsOf ps ↔ ∃ f ∈ addF ps i, f.num = n := by
  unfold dropsOf
  rw [List.mem_map]
  constructor
  · rintro ⟨p, hp, e⟩
    simp only [Prod.mk.injEq] at e
    exact ⟨p.2, addF_mem.2 (by rw [← e.1]; exact hp), e.2⟩
  · rintro ⟨f, hf, rfl⟩
    exact ⟨_, addF_mem.1 hf, rfl⟩
theorem kept_none (L : Nat → List Fl) (i : Nat) : keptF [] L i = L i := by
  unfold keptF drF
  simp
theorem add_count : ∀ (ps : List (Int × Fl)), (∀ p ∈ ps, 0 ≤ p.1 ∧ p.1 < 5) → (addF ps 0).length + (addF ps 1).length + (addF ps 2).length + (addF ps 3).length + (addF ps 4).length = ps.length
  | [], _ => rfl
  | p :: r, h => by
    have ih := add_count r (fun q hq => h q (by simp [hq]))
    have hp := h p (by simp)
    have e : ∀ i : Nat, (addF (p :: r) i).length = (if p.1 = (i : Int) then 1 else 0) + (addF r i).length := fun i => by
      unfold addF
      by_cases hq : p.1 = (i : Int)
      · rw [List.filter_cons_of_pos (by simpa using hq), if_pos hq]; simp; omega
      · rw [List.filter_cons_of_neg (by simpa using hq), if_neg hq]; simp
    rw [e 0, e 1, e 2, e 3, e 4, List.length_cons]
    rcases (show p.1 = 0 ∨ p.1 = 1 ∨ p.1 = 2 ∨ p.1 = 3 ∨ p.1 = 4 from by omega) with q | q | q | q | q <;> rw [q] <;> simp <;> omega
/-- The edit that adds, the one that drops again. -/
def addE (v : Vn) (nx : Int) (ps : List (Int × Fl)) : Ed := ⟨v.log, nx, v.seq, [], ps⟩
def dropE (v : Vn) (nx : Int) (ps : List (Int × Fl)) : Ed := ⟨v.log, nx, v.seq, dropsOf ps, []⟩
structure Undo (v : Vn) (nx : Int) (ps : List (Int × Fl)) (U : Nat → List Fl) : Prop where
  good : chkV v = 0
  ok : okE (addE v nx ps) = true
  made : okA9 v (addE v nx ps) U
section
variable {v : Vn} {nx : Int} {ps : List (Int × Fl)} {U : Nat → List Fl}
theorem Undo.perm (h : Undo v nx ps U) {i : Nat} (hi : i < 5) : (U i).Perm (v.lv i ++ addF ps i) := by
  have := h.made.comes.perm i hi
  rw [show (addE v nx ps).drop = [] from rfl, kept_none] at this
  exact this
theorem Undo.lev (h : Undo v nx ps U) : ∀ p ∈ ps, 0 ≤ p.1 ∧ p.1 < 5 := by
  intro p hp
  have h1 := h.ok
  unfold okE at h1
  simp only [Bool.and_eq_true] at h1
  have h2 := List.all_eq_true.1 h1.2.1 p hp
  unfold okA at h2
  simp only [Bool.and_eq_true] at h2
  exact okV_iff.1 h2.1
theorem Undo.num (h : Undo v nx ps U) : ∀ p ∈ ps, okN p.2.num = true := by
  intro p hp
  have h1 := h.ok
  unfold okE at h1
  simp only [Bool.and_eq_true] at h1
  have h2 := List.all_eq_true.1 h1.2.1 p hp
  unfold okA okF at h2
  simp only [Bool.and_eq_true] at h2
  exact h2.2.2.2.2.1
theorem Undo.goodw (h : Undo v nx ps U) : GoodV ⟨v.log, nx, v.seq, U⟩ := (chk_iff _).1 h.made.chk
theorem Undo.apart (h : Undo v nx ps U) {i : Nat} (hi : i < 5) : ∀ f ∈ v.lv i, drF (dropsOf ps) i f = false := by
  intro f hf
  unfold drF
  rw [decide_eq_false_iff_not, drops_mem]
  rintro ⟨g, hg, e⟩
  have h1 := lv_once h.goodw hi
  have h2 : ((v.lv i ++ addF ps i).map Fl.num).Nodup := ((h.perm hi).map Fl.num).nodup_iff.1 h1
  rw [List.map_append, List.nodup_append] at h2
  exact h2.2.2 f.num (List.mem_map_of_mem hf) g.num (List.mem_map_of_mem hg) e.symm
theorem Undo.all (_ : Undo v nx ps U) {i : Nat} : ∀ f ∈ addF ps i, drF (dropsOf ps) i f = true := by
  intro f hf
  unfold drF
  rw [decide_eq_true_eq, drops_mem]
  exact ⟨f, hf, rfl⟩
theorem Undo.cnt (h : Undo v nx ps U) : dcF (dropsOf ps) U 5 = (dropsOf ps).length := by
  have hc : ∀ i, i < 5 → (U i).countP (drF (dropsOf ps) i) = (addF ps i).length := fun i hi => by
    rw [(h.perm hi).countP_eq, List.countP_append, List.countP_eq_zero.2 (fun f hf => by rw [h.apart hi f hf]; simp), Nat.zero_add, List.countP_eq_length.2 (fun f hf => h.all f hf)]
  show 0 + (U 0).countP _ + (U 1).countP _ + (U 2).countP _ + (U 3).countP _ + (U 4).countP _ = _
  rw [hc 0 (by omega), hc 1 (by omega), hc 2 (by omega), hc 3 (by omega), hc 4 (by omega)]
  have := add_count ps h.lev
  unfold dropsOf
  rw [List.length_map]
  omega
theorem Undo.back (h : Undo v nx ps U) {U2 : Nat → List Fl} (hc : Comes ⟨v.log, nx, v.seq, U⟩ (dropE v nx ps) U2) {i : Nat} (hi : i < 5) : U2 i = v.lv i := by
  have h1 := hc.perm i hi
  have h2 : keptF (dropsOf ps) U i ++ addF [] i = keptF (dropsOf ps) U i := by unfold addF; simp
  have h3 : (keptF (dropsOf ps) U i).Perm (v.lv i) := by
    unfold keptF
    have := (h.perm hi).filter (fun f => !drF (dropsOf ps) i f)
    have e1 : (v.lv i).filter (fun f => !drF (dropsOf ps) i f) = v.lv i := List.filter_eq_self.2 (fun f hf => by rw [h.apart hi f hf]; rfl)
    have e2 : (addF ps i).filter (fun f => !drF (dropsOf ps) i f) = [] := List.filter_eq_nil_iff.2 (fun f hf => by rw [h.all f hf]; simp)
    rw [List.filter_append, e1, e2, List.append_nil] at this
    exact this
  have h4 : (U2 i).Perm (v.lv i) := by
    refine h1.trans ?_
    show (keptF (dropsOf ps) U i ++ addF [] i).Perm (v.lv i)
    rw [h2]; exact h3
  exact sort_one i _ _ h4 (hc.sort i hi) (rises_pair i _ (((chk_iff v).1 h.good).rise i hi))
theorem Undo.chk2 (h : Undo v nx ps U) {U2 : Nat → List Fl} (hc : Comes ⟨v.log, nx, v.seq, U⟩ (dropE v nx ps) U2) : chkV ⟨v.log, nx, v.seq, U2⟩ = 0 := by
  rw [chk_lv (v := ⟨v.log, nx, v.seq, U2⟩) (v' := ⟨v.log, nx, v.seq, v.lv⟩) rfl rfl rfl (fun i hi => h.back hc hi), chk_iff]
  have g := (chk_iff v).1 h.good
  have hn : v.next ≤ nx := by
    have := h.made.back
    unfold backE at this
    simp only [not_or] at this
    have h2 := this.2.1
    change ¬ nx < v.next at h2
    omega
  exact ⟨h.goodw.head, g.file, g.once, fun f hf => by have := g.below f hf; show f.num < nx; omega, g.rise⟩
theorem Undo.ok2 (h : Undo v nx ps U) : okE (dropE v nx ps) = true := by
  unfold okE
  rw [Bool.and_eq_true, Bool.and_eq_true]
  refine ⟨?_, rfl, h.goodw.head⟩
  rw [List.all_eq_true]
  intro g hg
  obtain ⟨p, hp, rfl⟩ := List.mem_map.1 hg
  unfold okD
  rw [Bool.and_eq_true]
  exact ⟨okV_iff.2 (h.lev p hp), h.num p hp⟩
theorem Undo.back2 (_ : Undo v nx ps U) : ¬ backE ⟨v.log, nx, v.seq, U⟩ (dropE v nx ps) := by
  unfold backE dropE
  simp
end
end Go.Proofs.YtegbngbhmgbocaaGreatDoor
namespace Go.Proofs.YtegbngbhmgbocaaGreatDoor
open Go.ChangeShapes Go.WideShapes Go.ChangeAt Go.RowKit

theorem cutS_by {n : Nat} {s : Option (List Nat)} (hb : ∀ l, s = some l → By l) : By (cutS n s).1 ∧ ∀ M, (∀ l, s = some l → l.length ≤ M) → (cutS n s).1.length ≤ M := by
  rcases s with _ | l
  · exact ⟨fun x hx => (by cases hx), fun M _ => Nat.zero_le _⟩
  · exact ⟨(hb l rfl).take n, fun M h => by have := h l rfl; show (l.take n).length ≤ M; rw [List.length_take]; omega⟩
theorem Sm.len {s s' : Option (List Nat)} (h : Sm s s') {M : Nat} (hl : ∀ l, s = some l → l.length ≤ M) : ∀ l, s' = some l → l.length ≤ M := fun l' e => by
  obtain ⟨l, h1, h2, _⟩ := h l' e
  have := hl l h1
  omega
/-- Keys that were taken are bytes, and not too many. -/
theorem plS_by {s : Option (List Nat)} (hb : ∀ l, s = some l → By l) {M : Nat} (hl : ∀ l, s = some l → l.length ≤ M) : (By (plS s).1.2.least ∧ (plS s).1.2.least.length ≤ M) ∧ By (plS s).1.2.most ∧ (plS s).1.2.most.length ≤ M := by
  have h1 := nmS_sh hb
  have b1 := h1.sm.by hb
  have h2 := nmS_sh b1
  have b2 := h2.sm.by b1
  have h3 := nmS_sh b2
  have b3 := h3.sm.by b2
  have l3 := h3.sm.len (h2.sm.len (h1.sm.len hl))
  have h4 := kyS_sh b3
  have b4 := h4.sm.by b3
  have l4 := h4.sm.len l3
  have c3 := ctS_sh b3
  have c4 := ctS_sh b4
  exact ⟨⟨(cutS_by (c3.sm.by b3)).1, (cutS_by (c3.sm.by b3)).2 M (c3.sm.len l3)⟩, (cutS_by (c4.sm.by b4)).1, (cutS_by (c4.sm.by b4)).2 M (c4.sm.len l4)⟩
theorem sevP_by {M : Nat} : ∀ (n : Nat) (s : Option (List Nat)), (∀ l, s = some l → By l) → (∀ l, s = some l → l.length ≤ M) → ∀ p ∈ (sevS plS n s).1, (By p.2.least ∧ p.2.least.length ≤ M) ∧ By p.2.most ∧ p.2.most.length ≤ M
  | 0, _, _, _, p, hp => by cases hp
  | _ + 1, none, _, _, p, hp => by cases hp
  | n + 1, some l, hb, hl, p, hp => by
    have h := plS_sh hb
    rcases List.mem_cons.1 (show p ∈ (plS (some l)).1 :: (sevS plS n (plS (some l)).2).1 from hp) with rfl | hp
    · exact plS_by hb hl
    · exact sevP_by n _ (h.sm.by hb) (h.sm.len hl) p hp
theorem sevS_len {α : Type} (f : Option (List Nat) → α × Option (List Nat)) : ∀ (n : Nat) (s : Option (List Nat)), (sevS f n s).1.length ≤ n
  | 0, _ => Nat.le_refl _
  | _ + 1, none => Nat.zero_le _
  | n + 1, some l => by
    have := sevS_len f n (f (some l)).2
    show ((f (some l)).1 :: (sevS f n (f (some l)).2).1).length ≤ n + 1
    rw [List.length_cons]; omega
theorem DO.rd {W : World} {B : Nat} {v : Value} {gs : List (Int × Int)} (h : DO W B v gs) : RdD W v gs := by
  have h' : W.ownsRow B 45 2 v gs.length (cellsD gs) := h
  rcases h'.2 with ⟨rfl, h0⟩ | ⟨g, cap, cur, rfl, _, h3, h4, h5⟩
  · exact ⟨none, 0, by rw [h0], fun h => by omega⟩
  · refine ⟨_, cap, rfl, fun _ => ⟨g, 0, rfl, fun j x hj => ?_⟩⟩
    obtain ⟨c0, c1⟩ := cellsD_at hj
    have d0 := h'.cells rfl _ _ c0
    have d1 := h'.cells rfl _ _ c1
    rw [Addr.add_lit] at d0 d1
    exact ⟨d0, by rw [show 0 + j * 2 + 1 = 0 + (j * 2 + 1) by omega]; exact d1⟩
theorem AO.rd {W : World} {B : Nat} {v : Value} {ps : List (Int × Fl)} (h : AO W B v ps) {M : Nat} (hM : M ≤ 140737488355328) (hb : ∀ p ∈ ps, (By p.2.least ∧ p.2.least.length ≤ M) ∧ By p.2.most ∧ p.2.most.length ≤ M) : RdA W v ps := by
  obtain ⟨cs, o, h2⟩ := h
  rcases o.2 with ⟨rfl, h0⟩ | ⟨g, cap, cur, rfl, _, h3, h4, h5⟩
  · exact ⟨none, 0, by rw [h0], fun h => by omega⟩
  · refine ⟨_, cap, rfl, fun _ => ⟨g, 0, rfl, fun j p hj => ?_⟩⟩
    obtain ⟨la, lc, ma, mc, c0, c1, c2, c3, c4, q0, q1⟩ := h2 j p hj
    obtain ⟨⟨b0, l0⟩, b1, l1⟩ := hb p (List.mem_of_getElem? hj)
    have d0 := o.cells rfl _ _ c0
    have d1 := o.cells rfl _ _ c1
    have d2 := o.cells rfl _ _ c2
    have d3 := o.cells rfl _ _ c3
    have d4 := o.cells rfl _ _ c4
    rw [Addr.add_lit] at d0 d1 d2 d3 d4
    refine ⟨d0, la, lc, ma, mc, ⟨?_, ?_, ?_, ?_, ⟨Rd.ownB q0, Rd.ownB q1, b0, b1, by omega, by omega⟩⟩⟩
    · rw [show 0 + j * 5 + 1 = 0 + (j * 5 + 1) by omega]; exact d1
    · rw [show 0 + j * 5 + 1 + 1 = 0 + (j * 5 + 2) by omega]; exact d2
    · rw [show 0 + j * 5 + 1 + 2 = 0 + (j * 5 + 3) by omega]; exact d3
    · rw [show 0 + j * 5 + 1 + 3 = 0 + (j * 5 + 4) by omega]; exact d4
theorem sizeEdit : (Tryz.prog.info? 41).map (·.size) = some 5 := by kernel_rfl
theorem load_edit {w : World} {g : Nat} {a b c d e : Value} {t : TypeId} (hg : w.heap[g]? = some (.cells #[a, b, c, d, e] t (0, 0))) : (loadVar 41 ⟨g, 0, none⟩).run Tryz.prog w = .ok (.agg #[a, b, c, d, e]) w :=
  run_loadVar_row w g t 41 #[a, b, c, d, e] (0, 0) _ hg Tryz.underlying41 rfl sizeEdit
theorem store5 {w W : World} {N : Nat} {a b c d e x0 x1 x2 x3 x4 : Value} {T : TypeId} {S : List Nat} (h : W.heap[N]? = some (.cells #[x0, x1, x2, x3, x4] T (0, 0))) (hf : Fr S w W) (hN : w.heap.size ≤ N) :
    (((((W.setCell ⟨N, 0, none⟩ a).setCell ⟨N, 1, none⟩ b).setCell ⟨N, 2, none⟩ c).setCell ⟨N, 3, none⟩ d).setCell ⟨N, 4, none⟩ e).heap[N]? = some (.cells #[a, b, c, d, e] T (0, 0)) ∧ Fr S w (((((W.setCell ⟨N, 0, none⟩ a).setCell ⟨N, 1, none⟩ b).setCell ⟨N, 2, none⟩ c).setCell ⟨N, 3, none⟩ d).setCell ⟨N, 4, none⟩ e) ∧
    ∀ k, k ≠ N → (((((W.setCell ⟨N, 0, none⟩ a).setCell ⟨N, 1, none⟩ b).setCell ⟨N, 2, none⟩ c).setCell ⟨N, 3, none⟩ d).setCell ⟨N, 4, none⟩ e).heap[k]? = W.heap[k]? :=
  ⟨by rw [blk_set (blk_set (blk_set (blk_set (blk_set h 0 a) 1 b) 2 c) 3 d) 4 e]; rfl, ((((hf.set _ _ (.inr hN)).set _ _ (.inr hN)).set _ _ (.inr hN)).set _ _ (.inr hN)).set _ _ (.inr hN), fun k hk => by rw [blk_setne _ _ _ hk, blk_setne _ _ _ hk, blk_setne _ _ _ hk, blk_setne _ _ _ hk, blk_setne _ _ _ hk]⟩
/-- What is told of bytes as an edit. -/
def DecM (w' : World) (B : Nat) (o : Option Ed) (r : Ending) : Prop := match o with
  | none => r = .returned (.tuple #[.agg #[.int .i64 0, .int .i64 0, .int .u64 0, .slice none 0 0, .slice none 0 0], .int .i64 90])
  | some e => ∃ da dc aa ac, r = .returned (.tuple #[.agg #[.int .i64 e.log, .int .i64 e.next, .int .u64 (e.seq : Int), .slice da e.drop.length dc, .slice aa e.add.length ac], .int .i64 0]) ∧ DO w' B (.slice da e.drop.length dc) e.drop ∧ AO w' B (.slice aa e.add.length ac) e.add
end Go.Proofs.YtegbngbhmgbocaaGreatDoor
namespace Go.Proofs.YtegbngbhmgbocaaGreatDoor
open Go.ChangeShapes Go.WideShapes Go.ChangeAt Go.RowKit

theorem results_tmp4' {fn : Func} {p q r s : Tmp} (h : fn.results = #[.tmp p, .tmp q, .tmp r, .tmp s]) (tmps : Array Value) (P : Program) (w : World) :
    (results fn tmps).run P w = .ok (.tuple #[tmps.getD p undef, tmps.getD q undef, tmps.getD r undef, tmps.getD s undef]) w := by
  simp only [results, h]
  simp

theorem take8 (b : List Nat) : (b.drop (b.length - 8)).take 8 = b.drop (b.length - 8) := List.take_of_length_le (by rw [List.length_drop]; omega)

set_option maxRecDepth 20000 in
set_option maxHeartbeats 800000 in
theorem refsplit_no (w : World) {v : Value} {b : List Nat} (hr : Rd w v (bv b)) (hb : By b) (hl : b.length ≤ 140737488355328) (h : isK b = false) :
    Calls Tryz.prog 76 #[v] w fun e w' => e = .returned (.tuple #[.slice none 0 0, .int .u64 0, .int .i64 0, .int .i64 23]) ∧ w' = w := by
  rcases (show b.length < 8 ∨ 136 < b.length ∨ (8 ≤ b.length ∧ b.length ≤ 136) from by omega) with q1 | q1 | ⟨q1, q2⟩
  · obtain ⟨a, c, hv⟩ := hr.form
    rw [bv_len] at hv
    subst hv
    clear hr hb h
    go_enter Tryz.func76, Tryz.ntmps76
    go_wp2
    exact bodyPost_ret (results_tmp4' rfl _ _ _) rfl ⟨rfl, rfl⟩
  · obtain ⟨a, c, hv⟩ := hr.form
    rw [bv_len] at hv
    subst hv
    clear hr hb h
    go_enter Tryz.func76, Tryz.ntmps76
    go_wp2
    exact bodyPost_ret (results_tmp4' rfl _ _ _) rfl ⟨rfl, rfl⟩
  · obtain ⟨qq, off, c, hv, h1⟩ := hr.place (by omega)
    subst hv
    have hf := refunfixed_c hr hb (b.length - 8) 8 (by omega) (by omega) hl
    rw [take8, show unf (b.drop (b.length - 8)) = tailN b from rfl, show ((b.length - 8 : Nat) : Int) = (b.length : Int) - 8 from by omega] at hf
    have ht1 := tailN_lt hb q1
    have ht2 : 1 < tailN b % 256 := by
      unfold isK at h
      rw [decide_eq_true q1, decide_eq_true q2, Bool.true_and, Bool.true_and, decide_eq_false_iff_not] at h
      have : ¬ tailN b % 256 ≤ 1 := h
      omega
    generalize tailN b = t at hf ht1 ht2
    have HF := hid hf
    clear hr hb h hf
    go_enter Tryz.func76, Tryz.ntmps76
    go_wp2_with fail
    refine HF.out.mono ?_
    rintro e w1 ⟨rfl, rfl⟩
    go_wp2
    exact bodyPost_ret (results_tmp4' rfl _ _ _) rfl ⟨rfl, rfl⟩

set_option maxRecDepth 20000 in
set_option maxHeartbeats 800000 in
theorem refsplit_yes (w : World) {q off c : Nat} {b : List Nat} (hr : Rd w (.slice (some ⟨q, off, none⟩) b.length c) (bv b)) (hb : By b) (h1 : b.length ≤ c) (h : isK b = true) :
    Calls Tryz.prog 76 #[.slice (some ⟨q, off, none⟩) b.length c] w fun e w' => e = .returned (.tuple #[.slice (some ⟨q, off, none⟩) (b.length - 8) c, .int .u64 ((tailN b / 256 : Nat) : Int), .int .i64 ((tailN b % 256 : Nat) : Int), .int .i64 0]) ∧ w' = w := by
  obtain ⟨k1, k2, k3⟩ := isK_len h
  have hf := refunfixed_c hr hb (b.length - 8) 8 (by omega) (by omega) (by omega)
  rw [take8, show unf (b.drop (b.length - 8)) = tailN b from rfl, show ((b.length - 8 : Nat) : Int) = (b.length : Int) - 8 from by omega] at hf
  have ht1 := tailN_lt hb k1
  generalize tailN b = t at hf ht1 k3 ⊢
  have HF := hid hf
  clear hr hb h hf
  go_enter Tryz.func76, Tryz.ntmps76
  go_wp2_with fail
  refine HF.out.mono ?_
  rintro e w1 ⟨rfl, rfl⟩
  go_wp2
  refine bodyPost_ret (results_tmp4' rfl _ _ _) rfl ⟨?_, rfl⟩
  rw [show ((t / 256 : Nat) : Int) = (t : Int) / 256 from by omega, show ((t % 256 : Nat) : Int) = (t : Int) % 256 from by omega]
  rfl
end Go.Proofs.YtegbngbhmgbocaaGreatDoor
namespace Go.Proofs.YtegbngbhmgbocaaGreatDoor
open Go.ChangeShapes Go.WideShapes Go.ChangeAt Go.RowKit

set_option maxRecDepth 20000 in
set_option maxHeartbeats 1600000 in
theorem refbytes_c {w : World} {v1 v2 : Value} {a b : List Nat} (h1 : Rd w v1 (bv a)) (h2 : Rd w v2 (bv b)) (ha : By a) (hb : By b) (hl1 : a.length ≤ 140737488355328) (hl2 : b.length ≤ 140737488355328) :
    Calls Tryz.prog 77 #[v1, v2] w fun e w' => e = .returned (.int .i64 (cmpN a b)) ∧ Fr [] w w' := by
  have hlo : a = [] ∨ b = [] ∨ (0 < a.length ∧ 0 < b.length) := by
    cases a with
    | nil => exact .inl rfl
    | cons => cases b with
      | nil => exact .inr (.inl rfl)
      | cons => exact .inr (.inr (by simp))
  rcases hlo with rfl | rfl | ⟨p1, p2⟩
  · obtain ⟨a1, c1, hv1⟩ := h1.form
    obtain ⟨a2, c2, hv2⟩ := h2.form
    rw [bv_len] at hv1 hv2
    subst hv1
    subst hv2
    clear h1 h2 ha hb
    cases b with
    | nil =>
      go_enter Tryz.func77, Tryz.ntmps77
      go_wp2
      refine wp_loop_rounds 1 ?_
      rw [rounds_succ]
      go_wp2
      go_ret
      exact ⟨rfl, Fr.refl _ _⟩
    | cons y b =>
      have hc : cmpN [] (y :: b) = -1 := rfl
      rw [hc]
      have hp : 0 < (y :: b).length := by simp
      generalize (y :: b).length = n at *
      go_enter Tryz.func77, Tryz.ntmps77
      go_wp2
      refine wp_loop_rounds 1 ?_
      rw [rounds_succ]
      go_wp2
      go_ret
      exact ⟨rfl, Fr.refl _ _⟩
  · obtain ⟨a1, c1, hv1⟩ := h1.form
    obtain ⟨a2, c2, hv2⟩ := h2.form
    rw [bv_len] at hv1 hv2
    subst hv1
    subst hv2
    clear h1 h2 ha hb
    cases a with
    | nil =>
      go_enter Tryz.func77, Tryz.ntmps77
      go_wp2
      refine wp_loop_rounds 1 ?_
      rw [rounds_succ]
      go_wp2
      go_ret
      exact ⟨rfl, Fr.refl _ _⟩
    | cons y a =>
      have hc : cmpN (y :: a) [] = 1 := rfl
      rw [hc]
      have hp : 0 < (y :: a).length := by simp
      generalize (y :: a).length = n at *
      go_enter Tryz.func77, Tryz.ntmps77
      go_wp2
      refine wp_loop_rounds 1 ?_
      rw [rounds_succ]
      go_wp2
      go_ret
      exact ⟨rfl, Fr.refl _ _⟩
  · rcases h1.split with ⟨rfl, _⟩ | ⟨q, off, c, rfl, g1, _, hc⟩
    · simp at p1
    rcases h2.split with ⟨rfl, _⟩ | ⟨q2, off2, c2, rfl, g2, _, hc2⟩
    · simp at p2
    have HC := hid hc
    have HC2 := hid hc2
    clear h1 h2 ha hb hc hc2
    go_enter Tryz.func77, Tryz.ntmps77
    go_wp2
    go_loopw [5] (fun v5 wr => ∃ i : Nat, i ≤ a.length ∧ i ≤ b.length ∧ v5 = .int .i64 (i : Int) ∧ cmpN (a.drop i) (b.drop i) = cmpN a b ∧ Fr [] w wr) (fun v5 _ => a.length - (intOf v5).toNat)
    case atStart => exact ⟨0, by omega, by omega, rfl, rfl, Fr.refl _ _⟩
    case round =>
      obtain ⟨i, hi1, hi2, rfl, hcm, hf⟩ := hrel
      have HCM := hid hcm
      have HF := hid hf
      clear hcm hf
      by_cases hlt : i < a.length
      · by_cases hlt2 : i < b.length
        · obtain ⟨x, hx, hd⟩ := drop_at hlt
          obtain ⟨y, hy, hd2⟩ := drop_at hlt2
          have k1 : wr.cell? ⟨q, off + i, none⟩ = some (.int .u8 (x : Int)) := by
            have h6 := HC.out i x hx
            rw [World.cell?_of_block (w := w) (HF.out.block _ (World.block_lt_of_cell? w _ h6) (by simp))]; exact h6
          have k2 : wr.cell? ⟨q2, off2 + i, none⟩ = some (.int .u8 (y : Int)) := by
            have h6 := HC2.out i y hy
            rw [World.cell?_of_block (w := w) (HF.out.block _ (World.block_lt_of_cell? w _ h6) (by simp))]; exact h6
          have j1 : (i : Int) < (a.length : Int) := by omega
          have j2 : (i : Int) < (b.length : Int) := by omega
          have HD := hid hd
          have HD2 := hid hd2
          clear hd hd2 hx hy
          rcases Nat.lt_trichotomy x y with hxy | hxy | hxy
          · have e0 : ((x : Int) == (y : Int)) = false := by simp; omega
            have e1 : (x : Int) < (y : Int) := by omega
            have HR : Hid (cmpN a b = -1) := by unfold Hid; rw [← HCM.out, HD.out, HD2.out, cmpN, if_pos hxy]
            clear hxy
            go_wp2_with fail
            go_quiet (fail)
            go_wp2_with fail
            go_quiet (fail)
            go_wp2
            go_ret
            exact ⟨by rw [HR.out]; rfl, (HF.out.drewN _).drewN _⟩
          · have e0 : ((x : Int) == (y : Int)) = true := by simp; omega
            have HR : Hid (cmpN (a.drop (i + 1)) (b.drop (i + 1)) = cmpN a b) := by unfold Hid; rw [← HCM.out, HD.out, HD2.out, cmpN, if_neg (by omega), if_neg (by omega)]
            clear hxy
            go_wp2_with fail
            go_quiet (fail)
            go_wp2
            go_roundw
            case rel => exact ⟨i + 1, by omega, by omega, by go_num, HR.out, HF.out.drewN _⟩
            case measure => simp [intOf]; omega
          · have e0 : ((x : Int) == (y : Int)) = false := by simp; omega
            have e1 : decide ((x : Int) < (y : Int)) = false := by simp; omega
            have e2 : decide (x < y) = false := by simp; omega
            have HR : Hid (cmpN a b = 1) := by unfold Hid; rw [← HCM.out, HD.out, HD2.out, cmpN, if_neg (by omega), if_pos hxy]
            clear hxy
            go_wp2_with fail
            go_quiet (fail)
            go_wp2_with fail
            go_quiet (fail)
            go_wp2
            go_ret
            exact ⟨by rw [HR.out]; rfl, (HF.out.drewN _).drewN _⟩
        · have hib : i = b.length := by omega
          have HR : Hid (cmpN a b = 1) := by
            obtain ⟨x, hx, hd⟩ := drop_at hlt
            have hn : b.drop i = [] := List.drop_eq_nil_of_le (by omega)
            unfold Hid; rw [← HCM.out, hd, hn]; rfl
          have j1 : (i : Int) < (a.length : Int) := by omega
          have j2 : (b.length : Int) < (a.length : Int) := by omega
          go_wp2
          go_ret
          exact ⟨by rw [HR.out]; rfl, HF.out⟩
      · have hia : i = a.length := by omega
        by_cases hlt2 : i < b.length
        · have HR : Hid (cmpN a b = -1) := by
            obtain ⟨x, hx, hd⟩ := drop_at hlt2
            have hn : a.drop i = [] := List.drop_eq_nil_of_le (by omega)
            unfold Hid; rw [← HCM.out, hd, hn]; rfl
          have j2 : (a.length : Int) < (b.length : Int) := by omega
          go_wp2
          go_ret
          exact ⟨by rw [HR.out]; rfl, HF.out⟩
        · have HR : Hid (cmpN a b = 0) := by
            have hn : a.drop i = [] := List.drop_eq_nil_of_le (by omega)
            have hn2 : b.drop i = [] := List.drop_eq_nil_of_le (by omega)
            unfold Hid; rw [← HCM.out, hn, hn2]; rfl
          have j2 : b.length ≤ a.length := by omega
          have j3 : a.length ≤ b.length := by omega
          go_wp2
          go_ret
          exact ⟨by rw [HR.out]; rfl, HF.out⟩
end Go.Proofs.YtegbngbhmgbocaaGreatDoor
