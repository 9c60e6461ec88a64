/-
  A version told as one edit comes back: without the program; the bytes of an edit.
-/
import Derived.Test.YtmhhdlcdfgahkaaDoorJ35
import Derived.Test.YtmhhdlcdfgahkaaDoorJ36
import Derived.Test.YtmhhdlcdfgahkaaDoorJ33
import Derived.Deep.RegionHeld
import Derived.Laws.AppendOwnNone
namespace Go.Proofs.YtmhhdlcdfgahkaaDoor
open Go.ChangeShapes Go.WideShapes Go.ChangeAt Go.RowKit

def wholeE (v : Vn) : Ed := ⟨v.log, v.next, v.seq, [], allA v.lv 5⟩
def zeroV : Vn := ⟨0, 0, 0, fun _ => []⟩
theorem addF_tag (i n : Nat) (l : List Fl) : addF (tagL n l) i = if n = i then l else [] := by
  unfold addF tagL
  rw [List.filter_map, List.map_map]
  by_cases h : n = i
  · subst h
    rw [if_pos rfl, List.filter_eq_self.2 (fun f _ => by simp)]
    induction l with
    | nil => rfl
    | cons a l ih => simp [ih]
  · rw [if_neg h, List.filter_eq_nil_iff.2 (fun f _ => by simp; omega)]
    rfl
theorem addF_app (a b : List (Int × Fl)) (i : Nat) : addF (a ++ b) i = addF a i ++ addF b i := by
  unfold addF; rw [List.filter_append, List.map_append]
theorem addF_all (L : Nat → List Fl) (i : Nat) : ∀ n, addF (allA L n) i = if i < n then L i else []
  | 0 => by simp [allA, addF]
  | n + 1 => by
    rw [allA_succ, addF_app, addF_all L i n, addF_tag]
    by_cases h1 : i < n
    · rw [if_pos h1, if_neg (by omega), if_pos (by omega), List.append_nil]
    · rw [if_neg h1, List.nil_append]
      by_cases h2 : n = i
      · subst h2; rw [if_pos rfl, if_pos (by omega)]
      · rw [if_neg h2, if_neg (by omega)]
theorem allA_mem {L : Nat → List Fl} {p : Int × Fl} (h : p ∈ allA L 5) : ∃ i : Nat, i < 5 ∧ p.1 = (i : Int) ∧ p.2 ∈ L i := by
  unfold allA at h
  obtain ⟨i, hi, hp⟩ := List.mem_flatMap.1 h
  obtain ⟨f, hf, rfl⟩ := List.mem_map.1 hp
  exact ⟨i, by simpa using hi, rfl, hf⟩
theorem zero_good : chkV zeroV = 0 := by
  rw [chk_iff]
  have ha : zeroV.all = [] := by unfold Vn.all pfx zeroV; simp
  exact ⟨by decide, by rw [ha]; simp, by rw [ha]; simp, by rw [ha]; simp, fun i _ => rfl⟩
theorem whole_ok {v : Vn} (h : GoodV v) : okE (wholeE v) = true := by
  unfold okE wholeE
  rw [Bool.and_eq_true, Bool.and_eq_true]
  refine ⟨rfl, ?_, h.head⟩
  rw [List.all_eq_true]
  intro p hp
  obtain ⟨i, hi, h1, h2⟩ := allA_mem hp
  unfold okA
  rw [Bool.and_eq_true]
  exact ⟨okV_iff.2 (by omega), h.file _ (mem_all hi h2)⟩
theorem zero_cnt : ∀ i, dcF [] zeroV.lv i = 0
  | 0 => rfl
  | i + 1 => by show dcF [] zeroV.lv i + _ = 0; rw [zero_cnt i]; rfl
theorem whole_back {v : Vn} (h : GoodV v) : ¬ backE zeroV (wholeE v) := by
  have hh := h.head
  unfold okH at hh
  simp only [Bool.and_eq_true] at hh
  have h1 := okN_iff.1 hh.1
  have h2 := okN_iff.1 hh.2.1
  unfold backE zeroV wholeE
  simp only
  omega
theorem whole_comes {v : Vn} (h : GoodV v) {U : Nat → List Fl} (hc : Comes zeroV (wholeE v) U) {i : Nat} (hi : i < 5) : U i = v.lv i := by
  have h1 := hc.perm i hi
  have e1 : keptF (wholeE v).drop zeroV.lv i = [] := rfl
  rw [e1, List.nil_append] at h1
  have e2 : addF (wholeE v).add i = v.lv i := by show addF (allA v.lv 5) i = v.lv i; rw [addF_all, if_pos hi]
  rw [e2] at h1
  exact sort_one i _ _ h1 (hc.sort i hi) (rises_pair i _ (h.rise i hi))
theorem AOut.whole {w w' : World} {v : Vn} {ln : Nat → Nat} {r : Ending} (hg : chkV v = 0) (hl : ∀ i, i < 5 → ln i = (v.lv i).length) (h : AOut w w' zeroV (wholeE v) r) : A2Out w w' v.log v.next v.seq v.lv ln r := by
  have g := (chk_iff v).1 hg
  refine ⟨h.fr, ?_⟩
  rcases h.out with ⟨h1, _⟩ | ⟨_, h2, _⟩ | ⟨_, _, ⟨c, h3, h4, _⟩ | ⟨U2, kd, kl, kc, h3, rfl, h4⟩⟩
  · exact absurd zero_good h1
  · rw [whole_ok g] at h2; cases h2
  · exfalso
    rcases h3 with ⟨h5, _⟩ | ⟨_, h5, _⟩ | ⟨_, _, U2, h5, h6, _⟩
    · exact h5 (zero_cnt 5)
    · exact whole_back g h5
    · refine h6 ?_
      have e := chk_lv (v := ⟨v.log, v.next, v.seq, U2⟩) (v' := v) rfl rfl rfl (fun i hi => whole_comes g h5 hi)
      exact e.trans hg
  · have he : ∀ i, i < 5 → kl i = ln i := fun i hi => by
      have := h4.vat.len i hi
      rw [this, whole_comes g h3.comes hi, hl i hi]
    refine ⟨kd, kc, ?_, h4.vat.congr (fun i hi => whole_comes g h3.comes hi) he⟩
    rw [he 0 (by omega), he 1 (by omega), he 2 (by omega), he 3 (by omega), he 4 (by omega)]
    rfl
theorem by_flat {α : Type} {f : α → List Nat} : ∀ (l : List α), (∀ x ∈ l, By (f x)) → By (l.flatMap f)
  | [], _ => fun n hn => by simp at hn
  | x :: l, h => by rw [List.flatMap_cons]; exact (h x (by simp)).append (by_flat l (fun y hy => h y (by simp [hy])))
theorem encE_by {e : Ed} (h : ∀ p ∈ e.add, By p.2.least ∧ By p.2.most) : By (encE e) := by
  unfold encE
  exact (nb_by _).append ((nb_by _).append ((putL_by _).append ((putL_by _).append ((by_flat _ (fun g _ => encD_by g)).append ((putL_by _).append (by_flat _ (fun p hp => encA_by (h p hp).1 (h p hp).2)))))))
theorem encE_len {e : Ed} (h : okE e = true) (hd : e.drop.length ≤ 30) (ha : e.add.length ≤ 30) : (encE e).length ≤ 50000 := by
  unfold okE okH at h
  simp only [Bool.and_eq_true] at h
  have h1 := flatD_len h.1
  have h2 := flatA_len h.2.1
  have n1 := nb_len (n := e.log) (okN_iff.1 h.2.2.1).2
  have n2 := nb_len (n := e.next) (okN_iff.1 h.2.2.2.1).2
  have n3 := putL_len10 (n := e.seq) (by have := of_decide_eq_true h.2.2.2.2; omega)
  have n4 := putL_len10 (n := e.drop.length) (by omega)
  have n5 := putL_len10 (n := e.add.length) (by omega)
  unfold encE
  simp only [List.length_append]
  omega
/-- The tables of an edit in memory have bytes for keys. -/
theorem EAt.bys {w : World} {e : Ed} {da aa : Option Addr} {dc ac : Nat} (h : EAt w e da dc aa ac) : ∀ p ∈ e.add, (By p.2.least ∧ p.2.least.length ≤ 140737488355328) ∧ By p.2.most ∧ p.2.most.length ≤ 140737488355328 := by
  intro p hp
  obtain ⟨j, hj⟩ := List.getElem?_of_mem hp
  have hjl := (List.getElem?_eq_some_iff.1 hj).1
  obtain ⟨a, c, _, k⟩ := h.ra
  obtain ⟨b, off, _, m⟩ := k (by omega)
  obtain ⟨_, la, lc, ma, mc, q⟩ := m j p hj
  exact q.by4
end Go.Proofs.YtmhhdlcdfgahkaaDoor
namespace Go.Proofs.YtmhhdlcdfgahkaaDoor
open Go.ChangeShapes Go.WideShapes Go.ChangeAt Go.RowKit

/-- Do two tables overlap? -/
def overF (f g : Fl) : Bool := decide (cmpN (userL f.least) (userL g.most) ≤ 0) && decide (cmpN (userL g.least) (userL f.most) ≤ 0)
end Go.Proofs.YtmhhdlcdfgahkaaDoor
namespace Go.Proofs.YtmhhdlcdfgahkaaDoor
open Go.ChangeShapes Go.WideShapes Go.ChangeAt Go.RowKit

theorem ordK_cmp {a b : List Nat} (h : ordK a b ≤ 0) : cmpN (userL a) (userL b) ≤ 0 := by
  unfold ordK ordP at h
  by_cases h0 : cmpN (userL a) (userL b) = 0
  · omega
  · rw [if_neg h0] at h; exact h
theorem okF_user {f : Fl} (h : okF f = true) : cmpN (userL f.least) (userL f.most) ≤ 0 := by
  unfold okF at h
  simp only [Bool.and_eq_true] at h
  exact ordK_cmp (of_decide_eq_true h.2.2.1)
theorem cmpN_lt3 {a b c d : List Nat} (h1 : cmpN a b < 0) (h2 : cmpN b c ≤ 0) (h3 : cmpN c d < 0) : cmpN a d < 0 := by
  have q1 := cmpN_trans a b c (by omega) h2
  have q2 := cmpN_trans a c d q1 (by omega)
  rcases Int.lt_or_eq_of_le q2 with h | h
  · exact h
  · exfalso
    rw [cmpN_eq] at h
    subst h
    have n1 := cmpN_neg a b
    have n2 := cmpN_neg c a
    have q3 := cmpN_trans b c a h2 (by omega)
    omega
/-- Tables that rise and are apart from their neighbours are apart from all. -/
theorem rises_apart (i : Nat) (hi : 0 < i) : ∀ (l : List Fl), (∀ f ∈ l, okF f = true) → risesF i l = true → l.Pairwise (fun a b => cmpN (userL a.most) (userL b.least) < 0)
  | [], _, _ => List.Pairwise.nil
  | [a], _, _ => List.pairwise_singleton _ _
  | a :: b :: r, ok, h => by
    unfold risesF at h
    rw [Bool.and_eq_true] at h
    have ih := rises_apart i hi (b :: r) (fun f hf => ok f (by simp [hf])) h.2
    have hab : cmpN (userL a.most) (userL b.least) < 0 := by
      have := h.1
      unfold apartF reachF at this
      rw [Bool.and_eq_true, decide_eq_true hi, Bool.true_and, Bool.not_eq_true'] at this
      have := of_decide_eq_false this.2
      omega
    refine List.pairwise_cons.2 ⟨fun c hc => ?_, ih⟩
    rcases List.mem_cons.1 hc with rfl | hc
    · exact hab
    · exact cmpN_lt3 hab (okF_user (ok b (by simp))) ((List.pairwise_cons.1 ih).1 c hc)
theorem over_not {i : Nat} (hi : 0 < i) {l : List Fl} (ok : ∀ f ∈ l, okF f = true) {j k : Nat} {f g : Fl} (hjk : j < k) (hf : l[j]? = some f) (hg : l[k]? = some g) (h : overF f g = true) : risesF i l = false := by
  rw [Bool.eq_false_iff]
  intro h2
  have h3 := rises_apart i hi l ok h2
  obtain ⟨q1, q2⟩ := List.getElem?_eq_some_iff.1 hf
  obtain ⟨q3, q4⟩ := List.getElem?_eq_some_iff.1 hg
  have h4 := List.pairwise_iff_getElem.1 h3 j k q1 q3 hjk
  rw [q2, q4] at h4
  unfold overF at h
  rw [Bool.and_eq_true] at h
  have h5 := of_decide_eq_true h.2
  have := cmpN_neg (userL f.most) (userL g.least)
  omega
theorem over_apart {i : Nat} (hi : 0 < i) {f g : Fl} (og : okF g = true) (h : ordK f.least g.least < 0) (ho : overF f g = false) : apartF i f g = true := by
  unfold apartF reachF cmpF
  rw [if_neg (by omega), decide_eq_true h, Bool.true_and, decide_eq_true hi, Bool.true_and, Bool.not_eq_true', decide_eq_false_iff_not]
  intro h2
  have h3 := ordK_cmp (a := f.least) (b := g.least) (by omega)
  have h4 := cmpN_trans _ _ _ h3 (okF_user og)
  unfold overF at ho
  rw [decide_eq_true h4, Bool.true_and] at ho
  have h5 := of_decide_eq_false ho
  have := cmpN_neg (userL f.most) (userL g.least)
  omega
theorem twice_not {l : List Fl} {j k : Nat} {f g : Fl} (hjk : j < k) (hf : l[j]? = some f) (hg : l[k]? = some g) (h : g.num = f.num) : runP freshP [] l = false := by
  rw [Bool.eq_false_iff]
  intro h2
  have h3 := (runP_fresh l [] (by simp)).1 h2
  rw [List.nil_append] at h3
  obtain ⟨q1, q2⟩ := List.getElem?_eq_some_iff.1 hf
  obtain ⟨q3, q4⟩ := List.getElem?_eq_some_iff.1 hg
  have h4 := List.pairwise_iff_getElem.1 h3 j k (by rw [List.length_map]; exact q1) (by rw [List.length_map]; exact q3) hjk
  rw [List.getElem_map, List.getElem_map, q2, q4] at h4
  exact h4 h.symm
theorem once_all {l : List Fl} (h : ∀ j k : Nat, j < k → ∀ f g : Fl, l[j]? = some f → l[k]? = some g → g.num ≠ f.num) : runP freshP [] l = true := by
  rw [runP_fresh l [] (by simp), List.nil_append]
  unfold List.Nodup
  rw [List.pairwise_iff_getElem]
  intro j k hj hk hjk
  rw [List.length_map] at hj hk
  rw [List.getElem_map, List.getElem_map]
  exact fun e => h j k hjk _ _ (List.getElem?_eq_getElem hj) (List.getElem?_eq_getElem hk) e.symm
/-- All tables of the lists. -/
def pfxX (X : Nat → List Fx) (i : Nat) : List Fx := (List.range i).flatMap X
theorem pfxX_succ (X : Nat → List Fx) (i : Nat) : pfxX X (i + 1) = pfxX X i ++ X i := by
  unfold pfxX; rw [List.range_succ, List.flatMap_append]; simp
theorem pfxX_map {X : Nat → List Fx} {L : Nat → List Fl} (h : ∀ i, i < 5 → (X i).map Fx.f = L i) : ∀ i, i ≤ 5 → (pfxX X i).map Fx.f = pfx L i
  | 0, _ => rfl
  | i + 1, hi => by rw [pfxX_succ, pfx_succ, List.map_append, pfxX_map h i (by omega), h i (by omega)]
theorem pfxX_len {X : Nat → List Fx} (h : ∀ m, m < 5 → (X m).length ≤ 1000) : ∀ i, i ≤ 5 → (pfxX X i).length ≤ i * 1000
  | 0, _ => by simp [pfxX]
  | i + 1, hi => by
    have h1 := pfxX_len h i (by omega)
    have h2 := h i (by omega)
    rw [pfxX_succ, List.length_append]
    omega
/-- Tables appended to a row of the call's own. -/
theorem wpList_app_files {w : World} {ops : Array Oper} {rest : List Oper} {o : Oper} {a : Act} {Q : Exit → Act → World → Prop} (hgd : o.guard = none) (s x : Operand)
    (ho : o.op = .call { callee := .builtin .append, args := #[s, x], argTypes := #[25, 25] }) (B : Nat) (hbase : B ≤ w.heap.size) {ga : Option Addr} {gn gc : Nat} {xs ys : List Fx} (hg : gn = xs.length) (hown : w.ownsRow B 53 4 (.slice ga gn gc) xs.length (xs.flatMap encX)) {ya : Option Addr} {yn yc : Nat} (hy : yn = ys.length) (hnil : ya = none → yn = 0 ∧ yc = 0) (hrd : 0 < yn → ∃ b off, ya = some ⟨b, off, none⟩ ∧ ∀ (j : Nat) (f : Fx), ys[j]? = some f → FAt w b (off + j * 4) f.f f.la f.lc f.ma f.mc)
    (hs : a.eval s = .slice ga gn gc) (hx : a.eval x = .slice ya yn yc) (hl1 : gn ≤ 1000000) (hl2 : yn ≤ 1000000)
    (h : ∀ a' c' w', w'.ownsRow B 53 4 (.slice a' (gn + yn) c') (xs ++ ys).length ((xs ++ ys).flatMap encX) → w.grownBy w' (Value.slice ga gn gc).ownBlock → wpList Tryd.prog ops Q rest (a.put o.dst (.slice a' (gn + yn) c')) w') :
    wpList Tryd.prog ops Q (o :: rest) a w := by
  obtain ⟨i0, hi, hz0, hz1, hz2⟩ := info_parts9 infoFile
  cases ya with
  | none =>
    obtain ⟨h1, h2⟩ := hnil rfl
    subst h1
    subst h2
    have h3 : ys = [] := List.eq_nil_of_length_eq_zero hy.symm
    subst h3
    refine wpList_append_own_none hgd s x 25 ho B 53 i0 4 Tryd.underlying25 hi _ xs.length (xs.flatMap encX) hs hown hx ?_
    have := h ga gc w (by rw [List.append_nil]; exact hown) ⟨rfl, rfl, rfl, Nat.le_refl _, fun _ _ _ => rfl⟩
    exact this
  | some ad =>
    have hsp : ∀ j u, (ys.flatMap encX)[j]? = some u → w.cell? (ad.add j) = some u := by
      intro t u hu
      have htl : t < ys.length * 4 := by
        have := (List.getElem?_eq_some_iff.1 hu).1
        rw [flat4_len] at this
        exact this
      obtain ⟨b, off, e, k⟩ := hrd (by omega)
      simp only [Option.some.injEq] at e
      subst e
      obtain ⟨f, hf⟩ : ∃ f, ys[t / 4]? = some f := ⟨_, List.getElem?_eq_getElem (by omega)⟩
      rw [flat4_at ys t f hf] at hu
      have q := k (t / 4) f hf
      rw [Addr.add_lit]
      rcases (show t % 4 = 0 ∨ t % 4 = 1 ∨ t % 4 = 2 ∨ t % 4 = 3 from by omega) with m | m | m | m <;> rw [m] at hu <;> simp [encX] at hu <;> subst hu
      · rw [show off + t = off + t / 4 * 4 from by omega]; exact q.c0
      · rw [show off + t = off + t / 4 * 4 + 1 from by omega]; exact q.c1
      · rw [show off + t = off + t / 4 * 4 + 2 from by omega]; exact q.c2
      · rw [show off + t = off + t / 4 * 4 + 3 from by omega]; exact q.c3
    have one : ∀ u ∈ ys.flatMap encX, u.oneCell' = true := fun u hu => by
      obtain ⟨f, _, hf⟩ := List.mem_flatMap.1 hu
      exact encX_one f u hf
    refine wpList_append_own_at w hgd s x 25 ho B 53 i0 _ 4 64 Tryd.underlying25 hi hz0 hz1 hz2 rfl (by decide) _ xs.length (xs.flatMap encX) hs hown ad yn yc (ys.flatMap encX) hx (by rw [flat4_len, hy]) hsp one (by unfold maxLen; omega) (by omega) hbase fun v' w' o' g' _ _ => ?_
    obtain ⟨a', c', rfl, _⟩ := ownsRow_slice o'
    rw [← hg] at o' ⊢
    refine h a' c' w' ?_ g'
    rw [List.flatMap_append, List.length_append, ← hg, ← hy]
    exact o'
end Go.Proofs.YtmhhdlcdfgahkaaDoor
namespace Go.Proofs.YtmhhdlcdfgahkaaDoor
open Go.ChangeShapes Go.WideShapes Go.ChangeAt Go.RowKit

theorem pfx_perm {U U' : Nat → List Fl} (h : ∀ i, i < 5 → (U i).Perm (U' i)) : ∀ i, i ≤ 5 → (pfx U i).Perm (pfx U' i)
  | 0, _ => List.Perm.refl _
  | i + 1, hi => by rw [pfx_succ, pfx_succ]; exact (pfx_perm h i (by omega)).append (h i (by omega))
theorem rises_eq {i : Nat} {l l' : List Fl} (hp : l.Perm l') (s : l.Pairwise (fun a b => ¬ cmpF i b a < 0)) (s' : l'.Pairwise (fun a b => ¬ cmpF i b a < 0)) : risesF i l = risesF i l' := by
  cases h : risesF i l with
  | true => rw [← sort_one i l' l hp.symm s' (rises_pair i l h)] at h; exact h.symm
  | false =>
    cases h' : risesF i l' with
    | false => rfl
    | true => rw [← sort_one i l l' hp s (rises_pair i l' h'), h] at h'; cases h'
theorem fresh_eq {l l' : List Fl} (hp : l.Perm l') : runP freshP [] l = runP freshP [] l' := by
  rw [Bool.eq_iff_iff, runP_fresh l [] (by simp), runP_fresh l' [] (by simp), List.nil_append, List.nil_append]
  exact (hp.map Fl.num).nodup_iff
theorem all_eq {l l' : List Fl} (hp : l.Perm l') (q : Fl → Bool) : l.all q = l'.all q := by
  rw [Bool.eq_iff_iff, List.all_eq_true, List.all_eq_true]
  exact ⟨fun h x hx => h x (hp.mem_iff.2 hx), fun h x hx => h x (hp.mem_iff.1 hx)⟩
/-- Two versions that an edit may come to are checked alike. -/
theorem Comes.chk {v : Vn} {e : Ed} {U U' : Nat → List Fl} (h : Comes v e U) (h' : Comes v e U') (log next : Int) (seq : Nat) : chkV ⟨log, next, seq, U⟩ = chkV ⟨log, next, seq, U'⟩ := by
  have hp : ∀ i, i < 5 → (U i).Perm (U' i) := fun i hi => (h.perm i hi).trans (h'.perm i hi).symm
  have hq := pfx_perm hp 5 (by omega)
  have h4 : (List.range 5).all (fun i => risesF i (U i)) = (List.range 5).all (fun i => risesF i (U' i)) := by
    rw [Bool.eq_iff_iff, List.all_eq_true, List.all_eq_true]
    constructor
    · intro hh i hi
      have h5 : i < 5 := by simpa using hi
      rw [← rises_eq (hp i h5) (h.sort i h5) (h'.sort i h5)]
      exact hh i hi
    · intro hh i hi
      have h5 : i < 5 := by simpa using hi
      rw [rises_eq (hp i h5) (h.sort i h5) (h'.sort i h5)]
      exact hh i hi
  show (if (!(okH log next seq) || !((pfx U 5).all okF)) = true then (90 : Int) else if runP freshP [] (pfx U 5) = false then 92 else if (pfx U 5).all (fun f => decide (f.num < next)) = false then 94 else if (List.range 5).all (fun i => risesF i (U i)) = false then 93 else 0) = (if (!(okH log next seq) || !((pfx U' 5).all okF)) = true then (90 : Int) else if runP freshP [] (pfx U' 5) = false then 92 else if (pfx U' 5).all (fun f => decide (f.num < next)) = false then 94 else if (List.range 5).all (fun i => risesF i (U' i)) = false then 93 else 0)
  rw [all_eq hq okF, fresh_eq hq, all_eq hq (fun f => decide (f.num < next)), h4]
/-- .. and are one, if they may be. -/
theorem Comes.one {v : Vn} {e : Ed} {U U' : Nat → List Fl} (h : Comes v e U) (h' : Comes v e U') {log next : Int} {seq : Nat} (c : chkV ⟨log, next, seq, U'⟩ = 0) : ∀ i, i < 5 → U i = U' i := fun i hi =>
  sort_one i (U i) (U' i) ((h.perm i hi).trans (h'.perm i hi).symm) (h.sort i hi) (rises_pair i _ (((chk_iff _).1 c).rise i hi))
/-- The error is one, whatever order equal tables come in. -/
theorem errA_one {v : Vn} {e : Ed} {c c' : Int} (h : errA v e c) (h' : errA v e c') : c = c' := by
  unfold errA at h h'
  rcases h with ⟨a1, a2⟩ | ⟨a1, a2, a3⟩ | ⟨a1, a2, U, a3, a4, a5⟩ <;> rcases h' with ⟨b1, b2⟩ | ⟨b1, b2, b3⟩ | ⟨b1, b2, U', b3, b4, b5⟩
  · rw [a2, b2]
  · exact absurd b1 a1
  · exact absurd b1 a1
  · exact absurd a1 b1
  · rw [a3, b3]
  · exact absurd a2 b2
  · exact absurd a1 b1
  · exact absurd b2 a2
  · rw [a5, b5]; exact a3.chk b3 _ _ _
theorem errA_not {v : Vn} {e : Ed} {c : Int} (h : errA v e c) (U : Nat → List Fl) : ¬ okA9 v e U := by
  intro o
  unfold errA at h
  rcases h with ⟨a1, _⟩ | ⟨_, a2, _⟩ | ⟨_, _, U', a3, a4, _⟩
  · exact a1 o.cnt
  · exact o.back a2
  · exact a4 ((a3.chk o.comes _ _ _).trans o.chk)
end Go.Proofs.YtmhhdlcdfgahkaaDoor
