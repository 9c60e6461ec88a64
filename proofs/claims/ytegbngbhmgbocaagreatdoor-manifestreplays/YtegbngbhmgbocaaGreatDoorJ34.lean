/-
  Whatever order equal tables come in, the version is checked alike.
-/
import Derived.Test.YtegbngbhmgbocaaGreatDoorJ28
import Derived.Test.YtegbngbhmgbocaaGreatDoorJ33
namespace Go.Proofs.YtegbngbhmgbocaaGreatDoor
open Go.ChangeShapes Go.WideShapes Go.ChangeAt Go.RowKit

theorem pfx_perm {U U' : Nat → List Fl} (h : ∀ i, i < 5 → (U i).Perm (U' i)) : ∀ i, i ≤ 5 → (pfx U i).Perm (pfx U' i)
  | 0, _ => List.Perm.refl _
  | i + 1, hi => by rw [pfx_succ, pfx_succ]; exact (pfx_perm h i (by omega)).append (h i (by omega))
theorem rises_eq {i : Nat} {l l' : List Fl} (hp : l.Perm l') (s : l.Pairwise (fun a b => ¬ cmpF i b a < 0)) (s' : l'.Pairwise (fun a b => ¬ cmpF i b a < 0)) : risesF i l = risesF i l' := by
  cases h : risesF i l with
  | true => rw [← sort_one i l' l hp.symm s' (rises_pair i l h)] at h; exact h.symm
  | false =>
    cases h' : risesF i l' with
    | false => rfl
    | true => rw [← sort_one i l l' hp s (rises_pair i l' h'), h] at h'; cases h'
theorem fresh_eq {l l' : List Fl} (hp : l.Perm l') : runP freshP [] l = runP freshP [] l' := by
  rw [Bool.eq_iff_iff, runP_fresh l [] (by simp), runP_fresh l' [] (by simp), List.nil_append, List.nil_append]
  exact (hp.map Fl.num).nodup_iff
theorem all_eq {l l' : List Fl} (hp : l.Perm l') (q : Fl → Bool) : l.all q = l'.all q := by
  rw [Bool.eq_iff_iff, List.all_eq_true, List.all_eq_true]
  exact ⟨fun h x hx => h x (hp.mem_iff.2 hx), fun h x hx => h x (hp.mem_iff.1 hx)⟩
/-- Two versions that an edit may come to are checked alike. -/
theorem Comes.chk {v : Vn} {e : Ed} {U U' : Nat → List Fl} (h : Comes v e U) (h' : Comes v e U') (log next : Int) (seq : Nat) : chkV ⟨log, next, seq, U⟩ = chkV ⟨log, next, seq, U'⟩ := by
  have hp : ∀ i, i < 5 → (U i).Perm (U' i) := fun i hi => (h.perm i hi).trans (h'.perm i hi).symm
  have hq := pfx_perm hp 5 (by omega)
  have h4 : (List.range 5).all (fun i => risesF i (U i)) = (List.range 5).all (fun i => risesF i (U' i)) := by
    rw [Bool.eq_iff_iff, List.all_eq_true, List.all_eq_true]
    constructor
    · intro hh i hi
      have h5 : i < 5 := by simpa using hi
      rw [← rises_eq (hp i h5) (h.sort i h5) (h'.sort i h5)]
      exact hh i hi
    · intro hh i hi
      have h5 : i < 5 := by simpa using hi
      rw [rises_eq (hp i h5) (h.sort i h5) (h'.sort i h5)]
      exact hh i hi
  show (if (!(okH log next seq) || !((pfx U 5).all okF)) = true then (90 : Int) else if runP freshP [] (pfx U 5) = false then 92 else if (pfx U 5).all (fun f => decide (f.num < next)) = false then 94 else if (List.range 5).all (fun i => risesF i (U i)) = false then 93 else 0) = (if (!(okH log next seq) || !((pfx U' 5).all okF)) = true then (90 : Int) else if runP freshP [] (pfx U' 5) = false then 92 else if (pfx U' 5).all (fun f => decide (f.num < next)) = false then 94 else if (List.range 5).all (fun i => risesF i (U' i)) = false then 93 else 0)
  rw [all_eq hq okF, fresh_eq hq, all_eq hq (fun f => decide (f.num < next)), h4]
/-- .. and are one, if they may be. -/
theorem Comes.one {v : Vn} {e : Ed} {U U' : Nat → List Fl} (h : Comes v e U) (h' : Comes v e U') {log next : Int} {seq : Nat} (c : chkV ⟨log, next, seq, U'⟩ = 0) : ∀ i, i < 5 → U i = U' i := fun i hi =>
  sort_one i (U i) (U' i) ((h.perm i hi).trans (h'.perm i hi).symm) (h.sort i hi) (rises_pair i _ (((chk_iff _).1 c).rise i hi))
/-- The error is one, whatever order equal tables come in. -/
theorem errA_one {v : Vn} {e : Ed} {c c' : Int} (h : errA v e c) (h' : errA v e c') : c = c' := by
  unfold errA at h h'
  rcases h with ⟨a1, a2⟩ | ⟨a1, a2, a3⟩ | ⟨a1, a2, U, a3, a4, a5⟩ <;> rcases h' with ⟨b1, b2⟩ | ⟨b1, b2, b3⟩ | ⟨b1, b2, U', b3, b4, b5⟩
  · rw [a2, b2]
  · exact absurd b1 a1
  · exact absurd b1 a1
  · exact absurd a1 b1
  · rw [a3, b3]
  · exact absurd a2 b2
  · exact absurd a1 b1
  · exact absurd b2 a2
  · rw [a5, b5]; exact a3.chk b3 _ _ _
theorem errA_not {v : Vn} {e : Ed} {c : Int} (h : errA v e c) (U : Nat → List Fl) : ¬ okA9 v e U := by
  intro o
  unfold errA at h
  rcases h with ⟨a1, _⟩ | ⟨_, a2, _⟩ | ⟨_, _, U', a3, a4, _⟩
  · exact a1 o.cnt
  · exact o.back a2
  · exact a4 ((a3.chk o.comes _ _ _).trans o.chk)
end Go.Proofs.YtegbngbhmgbocaaGreatDoor
namespace Go.Proofs.YtegbngbhmgbocaaGreatDoor
open Go.ChangeShapes Go.WideShapes Go.ChangeAt Go.RowKit

/-- The version without anything. -/
def vz : Vn := ⟨0, 0, 0, fun _ => []⟩
theorem vz_chk : chkV vz = 0 := by
  refine (chk_iff vz).2 ⟨rfl, ?_, ?_, ?_, ?_⟩
  · intro f hf; cases hf
  · exact List.nodup_nil
  · intro f hf; cases hf
  · intro i _; rfl
/-- One edit's bytes more. -/
def stepV (v : Vn) (b : List Nat) (u : Vn) : Prop := ∃ e U, decO b = some e ∧ okA9 v e U ∧ (∀ i, 5 ≤ i → U i = []) ∧ u = ⟨e.log, e.next, e.seq, U⟩
/-- .. and an error. -/
def badV (v : Vn) (b : List Nat) (c : Int) : Prop := (decO b = none ∧ c = 90) ∨ ∃ e, decO b = some e ∧ errA v e c ∧ c ≠ 0
theorem stepV.one {v u u' : Vn} {b : List Nat} (h : stepV v b u) (h' : stepV v b u') : u = u' := by
  obtain ⟨e, U, h1, h2, h3, rfl⟩ := h
  obtain ⟨e', U', k1, k2, k3, rfl⟩ := h'
  rw [h1] at k1
  cases k1
  congr 1
  funext i
  by_cases hi : i < 5
  · exact h2.comes.one k2.comes k2.chk i hi
  · rw [h3 i (by omega), k3 i (by omega)]
theorem stepV.bad {v u : Vn} {b : List Nat} {c : Int} (h : stepV v b u) : ¬ badV v b c := by
  obtain ⟨e, U, h1, h2, _, _⟩ := h
  rintro (⟨k1, _⟩ | ⟨e', k1, k2, _⟩)
  · rw [h1] at k1; cases k1
  · rw [h1] at k1
    cases k1
    exact errA_not k2 U h2
theorem stepV.chk {v u : Vn} {b : List Nat} (h : stepV v b u) : chkV u = 0 := by
  obtain ⟨e, U, _, h2, _, rfl⟩ := h
  exact h2.chk
theorem stepV.nil {v u : Vn} {b : List Nat} (h : stepV v b u) : ∀ i, 5 ≤ i → u.lv i = [] := by
  obtain ⟨e, U, _, _, h3, rfl⟩ := h
  exact h3
/-- A step by whatever lists, made one. -/
theorem stepV.of {v : Vn} {b : List Nat} {e : Ed} {U : Nat → List Fl} (h : decO b = some e) (o : okA9 v e U) : stepV v b ⟨e.log, e.next, e.seq, fun i => if i < 5 then U i else []⟩ := by
  refine ⟨e, _, h, ⟨o.cnt, o.back, ⟨fun i hi => ?_, fun i hi => ?_⟩, ?_⟩, fun i hi => if_neg (by omega), rfl⟩
  · rw [if_pos hi]; exact o.comes.perm i hi
  · rw [if_pos hi]; exact o.comes.sort i hi
  · rw [← o.chk]
    exact chk_lv rfl rfl rfl (fun i hi => if_pos hi)
theorem stepV.len {v u : Vn} {b : List Nat} {e : Ed} (h : stepV v b u) (hd : decO b = some e) {i : Nat} (hi : i < 5) : (u.lv i).length ≤ (v.lv i).length + e.add.length := by
  obtain ⟨e', U, h1, h2, _, rfl⟩ := h
  rw [h1] at hd
  cases hd
  have := (h2.comes.perm i hi).length_eq
  rw [List.length_append] at this
  have k1 : (keptF e.drop v.lv i).length ≤ (v.lv i).length := List.length_filter_le _ _
  have k2 : (addF e.add i).length ≤ e.add.length := by unfold addF; rw [List.length_map]; exact List.length_filter_le _ _
  show (U i).length ≤ _
  omega
/-- Many, one behind the other. -/
def RplF : Vn → List (List Nat) → Vn → Prop
  | v, [], u => u = v
  | v, b :: rs, u => ∃ t, stepV v b t ∧ RplF t rs u
theorem RplF.one : ∀ {rs : List (List Nat)} {v u u' : Vn}, RplF v rs u → RplF v rs u' → u = u'
  | [], _, _, _, h, h' => h.trans h'.symm
  | b :: rs, _, _, _, ⟨t, h1, h2⟩, ⟨t', k1, k2⟩ => by
    rw [h1.one k1] at h2
    exact h2.one k2
theorem RplF.snoc : ∀ {rs : List (List Nat)} {v u s : Vn} {b : List Nat}, RplF v rs u → stepV u b s → RplF v (rs ++ [b]) s
  | [], _, _, s, _, h, h' => by cases h; exact ⟨s, h', rfl⟩
  | c :: rs, _, _, _, _, ⟨t, h1, h2⟩, h' => ⟨t, h1, h2.snoc h'⟩
theorem RplF.split : ∀ {rs qs : List (List Nat)} {v u : Vn}, RplF v (rs ++ qs) u → ∃ s, RplF v rs s ∧ RplF s qs u
  | [], _, v, _, h => ⟨v, rfl, h⟩
  | b :: rs, _, _, _, ⟨t, h1, h2⟩ => by
    obtain ⟨s, k1, k2⟩ := RplF.split h2
    exact ⟨s, ⟨t, h1, k1⟩, k2⟩
theorem RplF.chk : ∀ {rs : List (List Nat)} {v u : Vn}, chkV v = 0 → RplF v rs u → chkV u = 0
  | [], _, _, hv, h => by cases h; exact hv
  | b :: rs, _, _, _, ⟨t, h1, h2⟩ => RplF.chk h1.chk h2
theorem RplF.take {rs : List (List Nat)} {v u s : Vn} {k : Nat} {b : List Nat} (h : RplF v (rs.take k) u) (hb : rs[k]? = some b) (h' : stepV u b s) : RplF v (rs.take (k + 1)) s := by
  rw [List.take_add_one, hb]
  exact h.snoc h'
/-- Where all go, none fails. -/
theorem RplF.bad {rs : List (List Nat)} {v u s : Vn} {k : Nat} {b : List Nat} {c : Int} (h : RplF v rs u) (hk : RplF v (rs.take k) s) (hb : rs[k]? = some b) : ¬ badV s b c := by
  have hl := (List.getElem?_eq_some_iff.1 hb).1
  have e : rs = rs.take k ++ b :: rs.drop (k + 1) := by
    have h1 := List.take_append_drop k rs
    have h2 : rs.drop k = b :: rs.drop (k + 1) := by
      rw [List.drop_eq_getElem_cons hl]
      rw [List.getElem?_eq_getElem hl] at hb
      cases hb
      rfl
    rw [h2] at h1
    exact h1.symm
  rw [e] at h
  obtain ⟨t, h1, h2⟩ := h.split
  obtain ⟨x, h3, _⟩ := h2
  rw [hk.one h1]
  exact h3.bad
end Go.Proofs.YtegbngbhmgbocaaGreatDoor
namespace Go.Proofs.YtegbngbhmgbocaaGreatDoor
open Go.ChangeShapes Go.WideShapes Go.ChangeAt Go.RowKit

theorem OwnV.vx {B : Nat} {W : World} {U : Nat → List Fl} {kd : Nat → Option Addr} {kl kc : Nat → Nat} (h : OwnV B W U kd kl kc) : ∃ Z : Nat → List Fx, (∀ k, k < 5 → (Z k).map Fx.f = U k) ∧ VXt W Z kd kl kc ∧ ∀ k, k < 5 → ∀ x ∈ Z k, XO B W x.f x.la x.lc x.ma x.mc := by
  obtain ⟨⟨Z, h1, h2, h3, h4⟩, h5, h6⟩ := h
  refine ⟨Z, h1, ⟨h2, fun i hi h0 => ?_⟩, h4⟩
  rcases (h3 i hi).2 with ⟨e1, e2⟩ | ⟨g, cap, cur, e1, e2, e3, e4, e5, e6, e7⟩
  · have := h2 i hi; omega
  · simp only [Value.slice.injEq] at e1
    obtain ⟨a1, _, a3⟩ := e1
    refine ⟨g, 0, a1, fun j x hxj => ?_⟩
    have hxm := List.mem_of_getElem? hxj
    obtain ⟨b1, b2, b3, b4⟩ := h5 i hi x.f (by rw [← h1 i hi]; exact List.mem_map_of_mem hxm)
    have hjl : j < (Z i).length := (List.getElem?_eq_some_iff.1 hxj).1
    have cell : ∀ c, c < 4 → W.cell? ⟨g, 0 + j * 4 + c, none⟩ = (encX x)[c]? := fun c hc => by
      rw [blk_cell e3, ← Array.getElem?_toList]
      have q2 := flat4_at (Z i) (j * 4 + c) x (by rw [show (j * 4 + c) / 4 = j from by omega]; exact hxj)
      rw [← e7, List.getElem?_take, if_pos (by omega), show (j * 4 + c) % 4 = c from by omega] at q2
      rw [show 0 + j * 4 + c = j * 4 + c from by omega]
      exact q2
    exact ⟨by have := cell 0 (by omega); simpa [encX] using this, by have := cell 1 (by omega); simpa [encX] using this, by have := cell 2 (by omega); simpa [encX] using this, by have := cell 3 (by omega); simpa [encX] using this, (h4 i hi x hxm).frd b1 b2 b3 b4⟩
theorem choose_q {P : Nat → Int → Fx → Prop} : ∀ (l : List (Int × Fl)) (n : Nat), (∀ j q, l[j]? = some q → ∃ x : Fx, x.f = q.2 ∧ P (n + j) q.1 x) → (∀ q ∈ l, okA q = true) → ∃ qs : List (Nat × Fx), qs.map (fun p => ((p.1 : Int), p.2.f)) = l ∧ (∀ j p, qs[j]? = some p → P (n + j) (p.1 : Int) p.2) ∧ ∀ p ∈ qs, p.1 < 5
  | [], _, _, _ => ⟨[], rfl, by simp, by simp⟩
  | q :: l, n, h1, h2 => by
    obtain ⟨qs, b1, b2, b3⟩ := choose_q (P := P) l (n + 1) (fun j q' hq' => by
      obtain ⟨x, c1, c2⟩ := h1 (j + 1) q' (by simpa using hq')
      exact ⟨x, c1, by rw [show n + 1 + j = n + (j + 1) from by omega]; exact c2⟩) (fun q' hq' => h2 q' (by simp [hq']))
    obtain ⟨x, c1, c2⟩ := h1 0 q rfl
    have hv : okV q.1 = true := by have := h2 q (by simp); unfold okA at this; exact (Bool.and_eq_true _ _ ▸ this).1
    have hv2 := okV_iff.1 hv
    have hn : ((q.1.toNat : Nat) : Int) = q.1 := by omega
    refine ⟨(q.1.toNat, x) :: qs, ?_, ?_, ?_⟩
    · rw [List.map_cons, b1]
      simp only [hn, c1]
    · intro j p hp
      cases j with
      | zero => simp at hp; subst hp; simp only [hn]; exact c2
      | succ j => rw [show n + (j + 1) = n + 1 + j from by omega]; exact b2 j p (by simpa using hp)
    · intro p hp
      rcases List.mem_cons.1 hp with rfl | hp
      · simp only; omega
      · exact b3 p hp
theorem AO.qx {B : Nat} {W : World} {ps : List (Int × Fl)} {aa : Option Addr} {ac : Nat} (h : AO W B (.slice aa ps.length ac) ps) (ok : ∀ q ∈ ps, okA q = true) (hb : ∀ p ∈ ps, By p.2.least ∧ By p.2.most ∧ p.2.least.length ≤ 140737488355328 ∧ p.2.most.length ≤ 140737488355328) : ∃ qs : List (Nat × Fx), qs.map (fun p => ((p.1 : Int), p.2.f)) = ps ∧ RXA W aa ps.length qs ∧ (∀ p ∈ qs, p.1 < 5) ∧ ∀ p ∈ qs, XO B W p.2.f p.2.la p.2.lc p.2.ma p.2.mc := by
  obtain ⟨cs, o, k⟩ := h
  rcases o.2 with ⟨e1, e2⟩ | ⟨g, cap, cur, e1, e2, e3, e4, e5, e6, e7⟩
  · have : ps = [] := List.eq_nil_of_length_eq_zero e2
    subst this
    exact ⟨[], rfl, ⟨rfl, fun h => absurd h (by simp)⟩, by simp, by simp⟩
  · simp only [Value.slice.injEq] at e1
    obtain ⟨a1, _, _⟩ := e1
    have cell : ∀ j c v, j < ps.length → c < 5 → cs[j * 5 + c]? = some v → W.cell? ⟨g, 0 + j * 5 + c, none⟩ = some v := fun j c v hj hc hv => by
      rw [blk_cell e3, ← Array.getElem?_toList]
      rw [← e7, List.getElem?_take, if_pos (by omega)] at hv
      rw [show 0 + j * 5 + c = j * 5 + c from by omega]
      exact hv
    obtain ⟨qs, q1, q2, q3⟩ := choose_q (P := fun j l x => (W.cell? ⟨g, 0 + j * 5, none⟩ = some (.int .i64 l) ∧ FAt W g (0 + j * 5 + 1) x.f x.la x.lc x.ma x.mc) ∧ XO B W x.f x.la x.lc x.ma x.mc) ps 0 (fun j q hq => by
      obtain ⟨la, lc, ma, mc, c0, c1, c2, c3, c4, o1, o2⟩ := k j q hq
      have hj := (List.getElem?_eq_some_iff.1 hq).1
      have xo : XO B W q.2 la lc ma mc := ⟨o1, o2⟩
      obtain ⟨b1, b2, b3, b4⟩ := hb q (List.mem_of_getElem? hq)
      refine ⟨⟨q.2, la, lc, ma, mc⟩, rfl, ?_⟩
      rw [show 0 + j = j from Nat.zero_add j]
      exact ⟨⟨by have := cell j 0 _ hj (by omega) c0; simpa using this, cell j 1 _ hj (by omega) c1, cell j 2 _ hj (by omega) c2, cell j 3 _ hj (by omega) c3, cell j 4 _ hj (by omega) c4, xo.frd b1 b2 b3 b4⟩, xo⟩) ok
    refine ⟨qs, q1, ⟨by rw [← q1, List.length_map], fun _ => ⟨g, 0, a1, fun j p hp => ?_⟩⟩, q3, fun p hp => ?_⟩
    · have := (q2 j p hp).1
      rw [show 0 + j = j from Nat.zero_add j] at this
      exact this
    · obtain ⟨j, hj⟩ := List.getElem?_of_mem hp
      exact (q2 j p hj).2
theorem follow_own (W : World) {B : Nat} {v : Vn} {ad : Nat → Option Addr} {ln cp : Nat → Nat} {e : Ed} {da aa : Option Addr} {dc ac : Nat} (hB : B ≤ W.heap.size) (o : OwnV B W v.lv ad ln cp) (c0 : chkV v = 0) (hok : okE e = true) (hdo : DO W B (.slice da e.drop.length dc) e.drop) (hao : AO W B (.slice aa e.add.length ac) e.add) (hby : ∀ p ∈ e.add, By p.2.least ∧ By p.2.most ∧ p.2.least.length ≤ 140737488355328 ∧ p.2.most.length ≤ 140737488355328) (sm : ∀ i, i < 5 → ln i ≤ 500) (sd : e.drop.length ≤ 1000000) (sa : e.add.length ≤ 500) :
    Calls Tryz.prog 12 #[.agg #[.int .i64 v.log, .int .i64 v.next, .int .u64 (v.seq : Int), .slice (ad 0) (ln 0) (cp 0), .slice (ad 1) (ln 1) (cp 1), .slice (ad 2) (ln 2) (cp 2), .slice (ad 3) (ln 3) (cp 3), .slice (ad 4) (ln 4) (cp 4)], .agg #[.int .i64 e.log, .int .i64 e.next, .int .u64 (e.seq : Int), .slice da e.drop.length dc, .slice aa e.add.length ac]] W fun r w' => Fr [] W w' ∧ ((∃ c, errA v e c ∧ c ≠ 0 ∧ r = .returned (.tuple #[.agg #[.int .i64 0, .int .i64 0, .int .u64 0, .slice none 0 0, .slice none 0 0, .slice none 0 0, .slice none 0 0, .slice none 0 0], .int .i64 c])) ∨ ∃ U kd kl kc, okA9 v e U ∧ r = .returned (.tuple #[.agg #[.int .i64 e.log, .int .i64 e.next, .int .u64 (e.seq : Int), .slice (kd 0) (kl 0) (kc 0), .slice (kd 1) (kl 1) (kc 1), .slice (kd 2) (kl 2) (kc 2), .slice (kd 3) (kl 3) (kc 3), .slice (kd 4) (kl 4) (kc 4)], .int .i64 0]) ∧ OwnV B w' U kd kl kc) := by
  have ob := o.bys
  obtain ⟨X, h1, h2, h4⟩ := o.vx
  have h2' := hok
  unfold okE at h2'
  simp only [Bool.and_eq_true] at h2'
  obtain ⟨qs, q1, q2, q3, q4⟩ := hao.qx (List.all_eq_true.1 h2'.2.1) hby
  have okx : ∀ i, i < 5 → ∀ x ∈ X i, okF x.f = true := fun i hi x hx => chk_okF c0 _ (mem_all hi (by rw [← h1 i hi]; exact List.mem_map_of_mem hx))
  have inq : ∀ p ∈ qs, ((p.1 : Int), p.2.f) ∈ e.add := fun p hp => by rw [← q1]; exact List.mem_map.2 ⟨p, hp, rfl⟩
  have okq : ∀ p ∈ qs, okF p.2.f = true := fun p hp => by
    have h4 := List.all_eq_true.1 h2'.2.1 _ (inq p hp)
    unfold okA at h4
    simp only [Bool.and_eq_true] at h4
    exact h4.2
  refine (follow_c W v.log v.next v.seq e.log e.next e.seq rfl h2 okx hdo.rd q2 okq q3 sm sd sa).mono fun r w' h => ⟨h.fr, ?_⟩
  have hd := dc_eq (gs := e.drop) h1 5 (by omega)
  have cm : ∀ Y : Nat → List Fx, (∀ i, i < 5 → (Y i).Perm (addS (keptX e.drop X) qs i) ∧ SortX i (Y i)) → Comes v e (fun i => (Y i).map Fx.f) := fun Y hY =>
    ⟨fun i hi => by
      have h1' := (hY i hi).1.map Fx.f
      rw [addS_eq, List.map_append, kept_eq (h1 i hi), add_eq q1] at h1'
      exact h1', fun i hi => by
      have h1' := (hY i hi).2
      unfold SortX at h1'
      exact List.pairwise_map.2 h1'⟩
  rcases h.out with ⟨k1, rfl⟩ | ⟨k1, k2, rfl⟩ | ⟨k1, k2, Y, hY, ⟨k3, rfl⟩ | ⟨k3, K, kd, kl, kc, rfl, lv⟩⟩
  · exact .inl ⟨91, .inl ⟨by rw [← hd]; exact k1, rfl⟩, by omega, rfl⟩
  · exact .inl ⟨94, .inr (.inl ⟨by rw [← hd]; exact k1, k2, rfl⟩), by omega, rfl⟩
  · exact .inl ⟨_, .inr (.inr ⟨by rw [← hd]; exact k1, k2, _, cm Y hY, k3, rfl⟩), k3, rfl⟩
  · have src : ∀ k, k < 5 → ∀ x ∈ Y k, x ∈ X k ∨ ∃ p ∈ qs, p.2 = x := fun k hk x hx => by
      rcases addS_mem ((hY k hk).1.mem_iff.1 hx) with h5 | h5
      · exact .inl (List.mem_filter.1 h5).1
      · exact .inr h5
    refine .inr ⟨fun i => (Y i).map Fx.f, kd, kl, kc, ⟨by rw [← hd]; exact k1, k2, cm Y hY, k3⟩, rfl, ⟨⟨Y, fun k _ => rfl, lv.len, fun k hk => own_base9 (lv.own k hk) hB, fun k hk x hx => ?_⟩, fun k hk f hf => ?_, fun k hk => ?_⟩⟩
    · rcases src k hk x hx with h5 | ⟨p, hp, rfl⟩
      · exact (h4 k hk x h5).fr h.fr
      · exact (q4 p hp).fr h.fr
    · obtain ⟨x, hx, rfl⟩ := List.mem_map.1 hf
      rcases src k hk x hx with h5 | ⟨p, hp, rfl⟩
      · exact ob k hk x.f (by rw [← h1 k hk]; exact List.mem_map_of_mem h5)
      · exact hby _ (inq p hp)
    · rw [lv.len k hk, (hY k hk).1.length_eq]
      have a1 := addS_len (keptX e.drop X) qs k
      have a2 := keptX_len (gs := e.drop) (X := X) k
      have a3 := sm k hk
      have a4 := h2.len k hk
      have a5 := q2.1
      omega
end Go.Proofs.YtegbngbhmgbocaaGreatDoor
