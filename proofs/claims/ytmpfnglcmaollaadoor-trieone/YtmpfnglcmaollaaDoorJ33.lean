/-
  Maps as rising rows of pairs, without the program.
-/
import Derived.Test.YtmpfnglcmaollaaDoorJ32
import Derived.Test.YtmpfnglcmaollaaDoorJ31
namespace Go.Proofs.YtmpfnglcmaollaaDoor
open Go.ChangeShapes Go.WideShapes Go.ChangeAt Go.RowKit

abbrev Mp := List (List Nat × List Nat)
/-- Keys rise. -/
def SortM (ps : Mp) : Prop := ps.Pairwise (fun a b => cmpN a.1 b.1 < 0)
theorem cmpN_lt2 {a b c : List Nat} (h1 : cmpN a b < 0) (h2 : cmpN b c < 0) : cmpN a c < 0 := by
  have h := cmpN_trans a b c (by omega) (by omega)
  rcases Int.lt_or_eq_of_le h with h | h
  · exact h
  · exfalso
    have e := (cmpN_eq a c).1 h
    subst e
    have := cmpN_neg a b
    omega
theorem cmpN_le_lt {a b c : List Nat} (h1 : cmpN a b ≤ 0) (h2 : cmpN b c < 0) : cmpN a c < 0 := by
  rcases Int.lt_or_eq_of_le h1 with h | h
  · exact cmpN_lt2 h h2
  · have e := (cmpN_eq a b).1 h
    subst e; exact h2
theorem cmpN_irr (a : List Nat) : ¬ cmpN a a < 0 := by rw [(cmpN_eq _ _).2 rfl]; omega
/-- How many entries stand ahead of a key. -/
def atM : Mp → List Nat → Nat
  | [], _ => 0
  | p :: ps, k => if cmpN p.1 k < 0 then atM ps k + 1 else 0
theorem atM_le : ∀ (ps : Mp) (k : List Nat), atM ps k ≤ ps.length
  | [], _ => Nat.le_refl _
  | p :: ps, k => by
    unfold atM
    split
    · have := atM_le ps k
      simp; omega
    · omega
theorem atM_lo : ∀ {ps : Mp} {k : List Nat} {j : Nat} {p : List Nat × List Nat}, j < atM ps k → ps[j]? = some p → cmpN p.1 k < 0
  | [], k, j, p, h, _ => by simp [atM] at h
  | q :: ps, k, j, p, h, hj => by
    unfold atM at h
    by_cases hc : cmpN q.1 k < 0
    · rw [if_pos hc] at h
      cases j with
      | zero => simp at hj; subst hj; exact hc
      | succ j =>
        have hj' : ps[j]? = some p := by simpa using hj
        exact atM_lo (ps := ps) (k := k) (by omega) hj'
    · rw [if_neg hc] at h; omega
theorem atM_hi : ∀ {ps : Mp} {k : List Nat} {p : List Nat × List Nat}, ps[atM ps k]? = some p → ¬ cmpN p.1 k < 0
  | [], k, p, h => by simp at h
  | q :: ps, k, p, h => by
    unfold atM at h
    by_cases hc : cmpN q.1 k < 0
    · rw [if_pos hc] at h
      exact atM_hi (by simpa using h)
    · rw [if_neg hc] at h
      simp at h; subst h; exact hc
/-- What is told of a row: where a scan stands. -/
theorem atM_scan {ps : Mp} {k : List Nat} {i : Nat} (hlo : ∀ j, j < i → ∀ p, ps[j]? = some p → cmpN p.1 k < 0) (hi : i ≤ ps.length) (hhi : ∀ p, ps[i]? = some p → ¬ cmpN p.1 k < 0) : i = atM ps k := by
  rcases Nat.lt_trichotomy i (atM ps k) with h | h | h
  · have hl := atM_le ps k
    have := atM_lo h (List.getElem?_eq_getElem (by omega))
    exact absurd this (hhi _ (List.getElem?_eq_getElem (by omega)))
  · exact h
  · have hlt : atM ps k < ps.length := by omega
    exact absurd (hlo _ h _ (List.getElem?_eq_getElem hlt)) (atM_hi (List.getElem?_eq_getElem hlt))
def thereM (ps : Mp) (k : List Nat) : Bool :=
  match ps[atM ps k]? with
  | some p => decide (p.1 = k)
  | none => false
def newM (k v : List Nat) : Mp := if v = [] then [] else [(k, v)]
def putM (ps : Mp) (k v : List Nat) : Mp := ps.take (atM ps k) ++ newM k v ++ ps.drop (atM ps k + (if thereM ps k = true then 1 else 0))
/-- A key's value in a row of pairs; none where there is none. -/
def mapV : Mp → List Nat → List Nat
  | [], _ => []
  | p :: ps, k => if p.1 = k then p.2 else mapV ps k
theorem putM_cons (q : List Nat × List Nat) (ps : Mp) (k v : List Nat) : putM (q :: ps) k v = if cmpN q.1 k < 0 then q :: putM ps k v else newM k v ++ (if q.1 = k then ps else q :: ps) := by
  by_cases hc : cmpN q.1 k < 0
  · have e : atM (q :: ps) k = atM ps k + 1 := if_pos hc
    have e2 : thereM (q :: ps) k = thereM ps k := by unfold thereM; rw [e]; rfl
    rw [if_pos hc]
    unfold putM
    rw [e, e2, show atM ps k + 1 + (if thereM ps k = true then 1 else 0) = (atM ps k + (if thereM ps k = true then 1 else 0)) + 1 by omega]
    rfl
  · have e : atM (q :: ps) k = 0 := if_neg hc
    rw [if_neg hc]
    unfold putM
    rw [e]
    have e2 : thereM (q :: ps) k = decide (q.1 = k) := by unfold thereM; rw [e]; rfl
    rw [e2]
    by_cases h : q.1 = k
    · simp [h]
    · simp [h]
theorem putM_nil (k v : List Nat) : putM [] k v = newM k v := by unfold putM; simp [atM, thereM]
theorem mapV_no {ps : Mp} {k : List Nat} (h : ∀ p ∈ ps, cmpN k p.1 < 0) : mapV ps k = [] := by
  induction ps with
  | nil => rfl
  | cons q ps ih =>
    unfold mapV
    rw [if_neg (fun e => by have := h q (by simp); rw [e] at this; exact cmpN_irr _ this)]
    exact ih fun p hp => h p (by simp [hp])
theorem mapV_newM (k v k' : List Nat) (r : Mp) : mapV (newM k v ++ r) k' = if k' = k ∧ v ≠ [] then v else mapV r k' := by
  unfold newM
  by_cases hv : v = []
  · rw [if_pos hv, if_neg (by simp [hv])]; rfl
  · rw [if_neg hv]
    show (if k = k' then v else mapV r k') = _
    by_cases hk : k' = k
    · rw [if_pos hk.symm, if_pos ⟨hk, hv⟩]
    · rw [if_neg (fun e => hk e.symm), if_neg (fun e => hk e.1)]
theorem mapV_put : ∀ {ps : Mp}, SortM ps → ∀ (k v k' : List Nat), mapV (putM ps k v) k' = if k' = k then v else mapV ps k'
  | [], _, k, v, k' => by
    rw [putM_nil]
    have := mapV_newM k v k' []
    rw [List.append_nil] at this
    rw [this]
    by_cases hk : k' = k
    · rw [if_pos hk]
      by_cases hv : v = []
      · rw [if_neg (by simp [hv]), hv]; rfl
      · rw [if_pos ⟨hk, hv⟩]
    · rw [if_neg hk, if_neg (fun e => hk e.1)]
  | q :: ps, h, k, v, k' => by
    have hs := List.pairwise_cons.1 h
    rw [putM_cons]
    by_cases hc : cmpN q.1 k < 0
    · rw [if_pos hc]
      show (if q.1 = k' then q.2 else mapV (putM ps k v) k') = if k' = k then v else (if q.1 = k' then q.2 else mapV ps k')
      rw [mapV_put hs.2]
      by_cases hq : q.1 = k'
      · rw [if_pos hq, if_neg (fun e => by rw [hq, e] at hc; exact cmpN_irr _ hc), if_pos hq]
      · rw [if_neg hq, if_neg hq]
    · rw [if_neg hc, mapV_newM]
      by_cases hk : k' = k
      · rw [if_pos hk]
        by_cases hv : v = []
        · rw [if_neg (by simp [hv]), hv, hk]
          by_cases hqk : q.1 = k
          · rw [if_pos hqk]
            exact mapV_no fun p hp => by rw [← hqk]; exact hs.1 p hp
          · rw [if_neg hqk]
            have hlt : cmpN k q.1 < 0 := by
              have h1 := cmpN_neg q.1 k
              have h2 : cmpN q.1 k ≠ 0 := fun e => hqk ((cmpN_eq _ _).1 e)
              omega
            exact mapV_no fun p hp => by
              rcases List.mem_cons.1 hp with rfl | hp
              · exact hlt
              · exact cmpN_lt2 hlt (hs.1 p hp)
        · rw [if_pos ⟨hk, hv⟩]
      · rw [if_neg hk, if_neg (fun e => hk e.1)]
        by_cases hqk : q.1 = k
        · rw [if_pos hqk]
          show _ = if q.1 = k' then q.2 else mapV ps k'
          rw [if_neg (fun e => hk (e.symm.trans hqk))]
        · rw [if_neg hqk]
theorem mem_putM {ps : Mp} {k v : List Nat} {p : List Nat × List Nat} (h : p ∈ putM ps k v) : p ∈ ps ∨ (p = (k, v) ∧ v ≠ []) := by
  unfold putM at h
  rcases List.mem_append.1 h with h | h
  · rcases List.mem_append.1 h with h | h
    · exact .inl (List.mem_of_mem_take h)
    · unfold newM at h
      by_cases hv : v = []
      · rw [if_pos hv] at h; cases h
      · rw [if_neg hv] at h; exact .inr ⟨List.mem_singleton.1 h, hv⟩
  · exact .inl (List.mem_of_mem_drop h)
theorem sort_put : ∀ {ps : Mp}, SortM ps → ∀ (k v : List Nat), SortM (putM ps k v)
  | [], _, k, v => by
    rw [putM_nil]
    unfold newM SortM
    split
    · exact List.Pairwise.nil
    · exact List.pairwise_singleton _ _
  | q :: ps, h, k, v => by
    have hs := List.pairwise_cons.1 h
    rw [putM_cons]
    by_cases hc : cmpN q.1 k < 0
    · rw [if_pos hc]
      refine List.pairwise_cons.2 ⟨fun p hp => ?_, sort_put hs.2 k v⟩
      rcases mem_putM hp with hp | ⟨rfl, _⟩
      · exact hs.1 p hp
      · exact hc
    · rw [if_neg hc]
      have hr : SortM (if q.1 = k then ps else q :: ps) ∧ ∀ p ∈ (if q.1 = k then ps else q :: ps), cmpN k p.1 < 0 := by
        by_cases hqk : q.1 = k
        · rw [if_pos hqk]
          exact ⟨hs.2, fun p hp => by rw [← hqk]; exact hs.1 p hp⟩
        · rw [if_neg hqk]
          have hlt : cmpN k q.1 < 0 := by
            have h1 := cmpN_neg q.1 k
            have h2 : cmpN q.1 k ≠ 0 := fun e => hqk ((cmpN_eq _ _).1 e)
            omega
          refine ⟨h, fun p hp => ?_⟩
          rcases List.mem_cons.1 hp with rfl | hp
          · exact hlt
          · exact cmpN_lt2 hlt (hs.1 p hp)
      unfold newM
      by_cases hv : v = []
      · rw [if_pos hv]; exact hr.1
      · rw [if_neg hv]
        exact List.pairwise_cons.2 ⟨hr.2, hr.1⟩
/-- An entry's value is what is told of its key. -/
theorem mapV_mem : ∀ {ps : Mp}, SortM ps → ∀ {p : List Nat × List Nat}, p ∈ ps → mapV ps p.1 = p.2
  | [], _, _, h => by cases h
  | q :: ps, h, p, hp => by
    have hs := List.pairwise_cons.1 h
    unfold mapV
    rcases List.mem_cons.1 hp with rfl | hp
    · rw [if_pos rfl]
    · rw [if_neg (fun e => by have := hs.1 p hp; rw [e] at this; exact cmpN_irr _ this)]
      exact mapV_mem hs.2 hp
theorem mapV_out : ∀ {ps : Mp} {k : List Nat}, (∀ p ∈ ps, p.1 ≠ k) → mapV ps k = []
  | [], _, _ => rfl
  | q :: ps, k, h => by
    unfold mapV
    rw [if_neg (h q (by simp))]
    exact mapV_out fun p hp => h p (by simp [hp])
end Go.Proofs.YtmpfnglcmaollaaDoor
namespace Go.Proofs.YtmpfnglcmaollaaDoor
open Go.ChangeShapes Go.WideShapes Go.ChangeAt Go.RowKit

/-- A trie's nodes tell a map. -/
structure IsMap (ps : Mp) (n : Nd) : Prop where
  sort : SortM ps
  can : canN n
  ok : okN 128 n
  lens : ∀ p ∈ ps, By p.1 ∧ p.1.length ≤ 64 ∧ By p.2 ∧ 1 ≤ p.2.length ∧ p.2.length ≤ 1024
  is : ∀ k, By k → k.length ≤ 64 → findN n (nibF k) = mapV ps k
theorem nibF_inj : ∀ {a b : List Nat}, nibF a = nibF b → a = b
  | [], [], _ => rfl
  | [], y :: b, h => by simp [nibF] at h
  | x :: a, [], h => by simp [nibF] at h
  | x :: a, y :: b, h => by
    simp only [nibF, List.cons.injEq] at h
    obtain ⟨h1, h2, h3⟩ := h
    rw [show x = y by omega, nibF_inj h3]
theorem IsMap.nil : IsMap [] .nil := ⟨List.Pairwise.nil, trivial, trivial, fun p h => (by cases h), fun k _ _ => rfl⟩
theorem IsMap.put {ps : Mp} {n : Nd} (h : IsMap ps n) {k v : List Nat} (hk : By k) (hkl : k.length ≤ 64) (hv : By v) (hv1 : 1 ≤ v.length) (hvl : v.length ≤ 1024) : IsMap (putM ps k v) (putT n (nibF k) v) := by
  have hvne : v ≠ [] := fun e => by rw [e] at hv1; simp at hv1
  have hlen := nibF_len k
  have hl : ∀ p ∈ putM ps k v, By p.1 ∧ p.1.length ≤ 64 ∧ By p.2 ∧ 1 ≤ p.2.length ∧ p.2.length ≤ 1024 := fun p hp => by
    rcases mem_putM hp with hp | ⟨rfl, _⟩
    · exact h.lens p hp
    · exact ⟨hk, hkl, hv, hv1, hvl⟩
  unfold putT
  by_cases hf : findN n (nibF k) = v
  · rw [if_pos hf]
    refine ⟨sort_put h.sort k v, h.can, h.ok, hl, fun k' hk' hl' => ?_⟩
    rw [mapV_put h.sort, h.is k' hk' hl']
    by_cases e : k' = k
    · rw [if_pos e, e, ← h.is k hk hkl, hf]
    · rw [if_neg e]
  · rw [if_neg hf]
    refine ⟨sort_put h.sort k v, put_can h.ok h.can (nibF_nb hk) hvne, putN_ok h.ok (nibF_nb hk) (by omega) hv hv1 hvl, hl, fun k' hk' hl' => ?_⟩
    rw [mapV_put h.sort, find_put h.ok _ _ _ (nibF_nb hk), h.is k' hk' hl']
    by_cases e : k' = k
    · rw [if_pos e, if_pos (by rw [e])]
    · rw [if_neg e, if_neg (fun e2 => e (nibF_inj e2.symm))]
theorem IsMap.rem {ps : Mp} {n : Nd} (h : IsMap ps n) {k : List Nat} (hk : By k) (hkl : k.length ≤ 64) : IsMap (putM ps k []) (remT n (nibF k)) := by
  have hlen := nibF_len k
  have hl : ∀ p ∈ putM ps k [], By p.1 ∧ p.1.length ≤ 64 ∧ By p.2 ∧ 1 ≤ p.2.length ∧ p.2.length ≤ 1024 := fun p hp => by
    rcases mem_putM hp with hp | ⟨_, e⟩
    · exact h.lens p hp
    · exact absurd rfl e
  unfold remT
  by_cases hf : findN n (nibF k) = []
  · rw [if_pos hf]
    refine ⟨sort_put h.sort k [], h.can, h.ok, hl, fun k' hk' hl' => ?_⟩
    rw [mapV_put h.sort, h.is k' hk' hl']
    by_cases e : k' = k
    · rw [if_pos e, e, ← h.is k hk hkl, hf]
    · rw [if_neg e]
  · rw [if_neg hf]
    have hr := rem_ok h.ok h.can (nibF_nb hk) hf
    refine ⟨sort_put h.sort k [], hr.2, hr.1, hl, fun k' hk' hl' => ?_⟩
    rw [mapV_put h.sort, find_rem h.ok h.can (nibF_nb hk) hf _ (nibF_nb hk'), h.is k' hk' hl']
    by_cases e : k' = k
    · rw [if_pos e, if_pos (by rw [e])]
    · rw [if_neg e, if_neg (fun e2 => e (nibF_inj e2.symm))]
/-- What is there is put again. -/
theorem IsMap.same {ps : Mp} {n : Nd} (h : IsMap ps n) {p : List Nat × List Nat} (hp : p ∈ ps) : putT n (nibF p.1) p.2 = n := by
  have hl := h.lens p hp
  unfold putT
  rw [if_pos (by rw [h.is p.1 hl.1 hl.2.1, mapV_mem h.sort hp])]
/-- What isn't there is taken out. -/
theorem IsMap.gone {ps : Mp} {n : Nd} (h : IsMap ps n) {k : List Nat} (hk : By k) (hkl : k.length ≤ 64) (ho : ∀ p ∈ ps, p.1 ≠ k) : remT n (nibF k) = n := by
  unfold remT
  rw [if_pos (by rw [h.is k hk hkl, mapV_out ho])]
end Go.Proofs.YtmpfnglcmaollaaDoor
namespace Go.Proofs.YtmpfnglcmaollaaDoor
open Go.ChangeShapes Go.WideShapes Go.ChangeAt Go.RowKit

set_option maxRecDepth 20000 in
set_option maxHeartbeats 2000000 in
theorem spoilO_c (w : World) {B n : Nat} {v : Value} {xs : List Value} (o : w.ownsRow B 5 1 v n xs) (hn : n ≤ 9223372036854775807) :
    Calls Tryd.prog 42 #[v] w fun e w' => (∃ u, e = .returned u) ∧ Fr v.ownBlock.toList w w' := by
  rcases o.2 with ⟨rfl, h0⟩ | ⟨g, cap, cur, rfl, _, h3, h4, h5⟩
  · subst h0
    clear o
    go_enter Tryd.func42, Tryd.ntmps42
    go_wp2_with fail
    go_loopw [2] (fun v2 wr => v2 = .int .i64 0 ∧ wr = w) (fun _ _ => 0)
    case atStart => exact ⟨rfl, rfl⟩
    case round =>
      obtain ⟨rfl, rfl⟩ := hrel
      go_wp2
      go_end0
      exact ⟨⟨_, rfl⟩, Fr.refl _ _⟩
  · have hsz : n ≤ cur.size := by
      have hx := o.1
      have := o.cells (g := g) rfl
      by_cases h0 : n = 0
      · omega
      · obtain ⟨x, hx⟩ : ∃ x, xs[n - 1]? = some x := ⟨_, List.getElem?_eq_getElem (by omega)⟩
        have h6 := this _ _ hx
        rw [Addr.add_lit, blk_cell h3] at h6
        have := (Array.getElem?_eq_some_iff.1 h6).1
        omega
    have H3 := hid h3
    clear h5 o h3
    go_enter Tryd.func42, Tryd.ntmps42
    go_wp2_with fail
    go_loopw [2] (fun v2 wr => ∃ k : Nat, k ≤ n ∧ v2 = .int .i64 (k : Int) ∧ Fr [g] w wr ∧ ∃ cs, wr.heap[g]? = some (.cells cs 5 (0, 0)) ∧ n ≤ cs.size) (fun v2 _ => n - (intOf v2).toNat)
    case atStart => exact ⟨0, Nat.zero_le _, rfl, Fr.refl _ _, cur, H3.out, hsz⟩
    case round =>
      obtain ⟨k, hk, rfl, hf, cs, hc, hcs⟩ := hrel
      have HF := hid hf
      have HC := hid hc
      by_cases hlt : k < n
      · obtain ⟨x, hx⟩ : ∃ x, wr.cell? ⟨g, k, none⟩ = some x := ⟨cs[k]'(by omega), by rw [blk_cell hc]; exact Array.getElem?_eq_getElem (by omega)⟩
        have hz := blk_frozen hc k
        clear hf hc
        go_wp2
        go_roundw
        case rel => exact ⟨k + 1, by omega, by go_num, HF.out.set _ _ (.inl (by simp)), _, blk_set HC.out _ _, by simpa using hcs⟩
        case measure => simp [intOf]; omega
      · have hk' : k = n := by omega
        subst hk'
        clear hf hc
        go_wp2
        go_end0
        exact ⟨⟨_, rfl⟩, HF.out⟩
theorem Fr.more {S T : List Nat} {w W W' : World} (h : Fr S w W) (f : Fr T W W') (hS : ∀ k ∈ T, k ∈ S ∨ w.heap.size ≤ k) : Fr S w W' :=
  ⟨f.os.trans h.os, f.tape.trans h.tape, f.output.trans h.output, Nat.le_trans h.size f.size, fun k hk hn => (f.block k (Nat.lt_of_lt_of_le hk h.size) (fun hm => by rcases hS k hm with a | a; exact hn a; omega)).trans (h.block k hk hn)⟩
set_option maxRecDepth 20000 in
theorem PutKey_c (w : World) (tb : Nat) {ka va : Option Addr} {nk kc nv vc : Nat} (h : 64 < nk) :
    Calls Tryd.prog 29 #[.pointer (some ⟨tb, 0, none⟩), .slice ka nk kc, .slice va nv vc] w fun e w' => e = .returned (.int .i64 140) ∧ Fr [] w w' := by
  have h2 : (64 : Int) < (nk : Int) := by omega
  go_enter Tryd.func29, Tryd.ntmps29
  go_wp2_with fail
  go_ret
  exact ⟨rfl, Fr.refl _ _⟩
set_option maxRecDepth 20000 in
theorem PutVal_c (w : World) (tb : Nat) {ka va : Option Addr} {nk kc nv vc : Nat} (h : nk ≤ 64) (hv : 1024 < nv) :
    Calls Tryd.prog 29 #[.pointer (some ⟨tb, 0, none⟩), .slice ka nk kc, .slice va nv vc] w fun e w' => e = .returned (.int .i64 141) ∧ Fr [] w w' := by
  have h2 : ¬ (64 : Int) < (nk : Int) := by omega
  have h3 : (1024 : Int) < (nv : Int) := by omega
  have h4 : ¬ (nv : Int) = 0 := by omega
  have h5 : nv ≠ 0 := by omega
  go_enter Tryd.func29, Tryd.ntmps29
  go_wp2_with fail
  go_ret
  exact ⟨rfl, Fr.refl _ _⟩
set_option maxRecDepth 20000 in
theorem DelKey_c (w : World) (tb : Nat) {ka : Option Addr} {nk kc : Nat} (h : 64 < nk) :
    Calls Tryd.prog 31 #[.pointer (some ⟨tb, 0, none⟩), .slice ka nk kc] w fun e w' => e = .returned (.int .i64 140) ∧ Fr [] w w' := by
  have h2 : (64 : Int) < (nk : Int) := by omega
  go_enter Tryd.func31, Tryd.ntmps31
  go_wp2_with fail
  go_ret
  exact ⟨rfl, Fr.refl _ _⟩
set_option maxRecDepth 20000 in
theorem RootNil_c (w : World) {S : Nat → Prop} {tb : Nat} {g : Value} (ht : TrieI S w tb g .nil) (HT : Tabs w) :
    Calls Tryd.prog 15 #[.pointer (some ⟨tb, 0, none⟩)] w fun e w' => e = .returned (.agg (bvals 32 (hashOf [128]))) ∧ Fr [] w w' := by
  obtain ⟨⟨rv, hB, hN⟩, _, _, _⟩ := ht
  obtain rfl : rv = .nilIface := hN
  have c0 := blk_cell hB 0
  simp at c0
  have EM := hid (fun (w1 : World) (f : Fr [] w w1) => empty_c w1 (HT.fr f))
  have C0 := hid (fun (w' : World) (f : Fr [] w w') => cell_fr c0 f)
  clear hB c0 HT
  go_enter Tryd.func15, Tryd.ntmps15
  go_upto_region 1 with fail
  rw [zero32]
  have HR : Hid ((w.alloc (.cells (bvals 32 (fun _ => 0)) 28)).heap[w.heap.size]? = some (.cells (bvals 32 (fun _ => 0)) 28 (0, 0))) := blk_new _ _
  have HF : Hid (Fr [] w (w.alloc (.cells (bvals 32 (fun _ => 0)) 28))) := (Fr.refl _ _).alloc _
  generalize w.alloc (.cells (bvals 32 (fun _ => 0)) 28) = w1 at HR HF ⊢
  have c0 := C0.out _ HF.out
  go_wp2_with fail
  refine (EM.out _ HF.out).mono ?_
  rintro e w3 ⟨rfl, f3⟩
  have HR3 := hid (blk_frT HR.out f3)
  have F3 := hid (HF.out.trans f3)
  clear f3
  rename_i hK
  refine hK _ _ ?_
  refine wpList_stH (g := hashOf [128]) rfl (.tmp 2) (.tmp 8) rfl HR3.out (by simp [Act.eval]) (by simp [Act.eval]) ?_
  have RH := hid (brow_heap (g := hashOf [128]) HR3.out)
  have RF := hid (F3.out.rowT (bvals 32 (hashOf [128])) (.inr (Nat.le_refl w.heap.size)))
  generalize World.setRow w3 w.heap.size (bvals 32 (hashOf [128])) = w7 at RH RF ⊢
  clear HR3 F3 hK
  go_wp2
  exact bodyPost_ret (v := .agg (bvals 32 (hashOf [128]))) (retH rfl RH.out rfl) rfl ⟨rfl, RF.out⟩
/-- The bytes whose hash a trie's root is. -/
theorem rootAll_c (w : World) {S : Nat → Prop} {tb : Nat} {g : Value} {n : Nd} (ht : TrieI S w tb g n) (HT : Tabs w) :
    Calls Tryd.prog 15 #[.pointer (some ⟨tb, 0, none⟩)] w fun e w' => e = .returned (.agg (bvals 32 (hashOf (encN n)))) ∧ Fr [] w w' := by
  by_cases h : n = .nil
  · subst h
    exact RootNil_c w ht HT
  · exact rootAny_c w ht HT h
end Go.Proofs.YtmpfnglcmaollaaDoor
