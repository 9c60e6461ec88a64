/-
  Taking out keeps what a node must be.
-/
import Derived.Test.YtmpfnglcmaollaaDoorJ28
namespace Go.Proofs.YtmpfnglcmaollaaDoor
open Go.ChangeShapes Go.WideShapes Go.ChangeAt Go.RowKit

theorem fill_add {c : Nat → Nd} {i : Nat} {n : Nd} (hi : i < 16) (hc : c i = .nil) (hn : n ≠ .nil) : (fillF (updN c i n)).length = (fillF c).length + 1 := by
  have h := fill_less (c := updN c i n) hi (by unfold updN; rw [if_pos rfl]; exact hn)
  have e : fillF (updN (updN c i n) i .nil) = fillF c := by
    unfold fillF
    refine List.filter_congr fun j _ => ?_
    unfold updN
    by_cases hj : j = i
    · subst hj; rw [if_pos rfl, hc]
    · rw [if_neg hj, if_neg hj]
  rw [e] at h
  omega
theorem fill_no : (fillF noN).length = 0 := by decide
theorem thin_ok {c : Nat → Nd} {x : List Nat} {d : Nat} (hd : 1 ≤ d) (hc : ∀ i, i < 16 → okN (d - 1) (c i)) (hx : By x) (hl : x.length ≤ 1024) (h1 : 1 ≤ (fillF c).length + (if x = [] then 0 else 1)) : okN d (thinN c x) := by
  unfold thinN
  split
  · rename_i h
    rw [h] at h1
    refine ⟨fun y hy => by (cases hy), Nat.zero_le _, hx, ?_, hl⟩
    cases x with
    | nil => simp at h1
    | cons a l => simp
  · rename_i i h
    have hi := (mem_fill (c := c) (i := i)).1 (by rw [h]; simp)
    split
    · exact leadN_ok (fun y hy => by simp at hy; omega) (by simpa using hd) (by simpa using hc i hi.1)
    · exact ⟨hd, hc, hx, hl⟩
  · exact ⟨hd, hc, hx, hl⟩
theorem thin_can {c : Nat → Nd} {x : List Nat} (hc : ∀ i, i < 16 → canN (c i)) : canN (thinN c x) := by
  unfold thinN
  split
  · trivial
  · rename_i i h
    have hi := (mem_fill (c := c) (i := i)).1 (by rw [h]; simp)
    split
    · exact leadN_can (hc i hi.1)
    · rename_i hx
      exact ⟨hc, by rw [h, if_neg hx]; simp⟩
  · rename_i h1 h2
    refine ⟨hc, ?_⟩
    cases hf : fillF c with
    | nil => exact absurd hf h1
    | cons a l =>
      cases l with
      | nil => exact absurd hf (h2 a)
      | cons b l => simp only [List.length_cons]; omega
theorem updN_can {c : Nat → Nd} {i : Nat} {n : Nd} (h : ∀ j, j < 16 → canN (c j)) (hn : canN n) : ∀ j, j < 16 → canN (updN c i n j) := fun j hj => by
  unfold updN
  split
  · exact hn
  · exact h j hj
theorem fill_upd {c : Nat → Nd} {i : Nat} {n : Nd} (hi : i < 16) (hc : c i ≠ .nil) : (fillF c).length ≤ (fillF (updN c i n)).length + 1 := by
  by_cases hn : n = .nil
  · subst hn
    have := fill_less hi hc
    omega
  · rw [fill_same hc hn]; omega
theorem rem_ok : ∀ {n : Nd} {d : Nat} {p : List Nat}, okN d n → canN n → Nb p → findN n p ≠ [] → okN d (remN n p) ∧ canN (remN n p)
  | .nil, _, _, _, _, _, h => absurd rfl h
  | .far _, _, _, h, _, _, _ => h.elim
  | .leaf q x, d, p, h, k, hp, hf => by
    show okN d (if q = p then Nd.nil else Nd.leaf q x) ∧ canN (if q = p then Nd.nil else Nd.leaf q x)
    split
    · exact ⟨trivial, trivial⟩
    · exact ⟨h, k⟩
  | .stem q t, d, p, h, k, hp, hf => by
    obtain ⟨g1, g2, g3, g4, g5⟩ := h
    show okN d (if cpN q p = q.length then leadN q (remN t (p.drop (cpN q p))) else Nd.stem q t) ∧ canN (if cpN q p = q.length then leadN q (remN t (p.drop (cpN q p))) else Nd.stem q t)
    have hf' : (if cpN q p = q.length then findN t (p.drop (cpN q p)) else []) ≠ [] := hf
    split
    · rename_i hin
      rw [if_pos hin] at hf'
      have ih := rem_ok g5 k (hp.drop _) hf'
      exact ⟨leadN_ok g1 g2 ih.1, leadN_can ih.2⟩
    · rename_i hin
      rw [if_neg hin] at hf'
      exact absurd rfl hf'
  | .fork c x, d, p, h, k, hp, hf => by
    obtain ⟨g1, g2, g3, g4⟩ := h
    obtain ⟨k1, k2⟩ := k
    cases p with
    | nil =>
      have hx : x ≠ [] := hf
      rw [if_neg hx] at k2
      exact ⟨thin_ok g1 g2 (fun y hy => by cases hy) (by simp) (by omega), thin_can k1⟩
    | cons i r =>
      have hi : i < 16 := hp i (by simp)
      have hci : c i ≠ .nil := fun e => hf (by show findN (c i) r = []; rw [e]; rfl)
      have ih := rem_ok (g2 i hi) (k1 i hi) (fun z hz => hp z (by simp [hz]) : Nb r) hf
      have hu := fill_upd (n := remN (c i) r) hi hci
      exact ⟨thin_ok g1 (updN_ok g2 ih.1) g3 g4 (by omega), thin_can (updN_can k1 ih.2)⟩
theorem find_rem : ∀ {n : Nd} {d : Nat} {p : List Nat}, okN d n → canN n → Nb p → findN n p ≠ [] → ∀ p', Nb p' → findN (remN n p) p' = if p = p' then [] else findN n p'
  | .nil, _, _, _, _, _, h, _, _ => absurd rfl h
  | .far _, _, _, h, _, _, _, _, _ => h.elim
  | .leaf q x, d, p, h, k, hp, hf, p', hp' => by
    have hf' : (if q = p then x else []) ≠ [] := hf
    by_cases hqp : q = p
    · subst hqp
      show findN (if q = q then Nd.nil else Nd.leaf q x) p' = if q = p' then [] else (if q = p' then x else [])
      rw [if_pos rfl]
      by_cases h2 : q = p'
      · rw [if_pos h2]; rfl
      · rw [if_neg h2, if_neg h2]; rfl
    · rw [if_neg hqp] at hf'
      exact absurd rfl hf'
  | .stem q t, d, p, h, k, hp, hf, p', hp' => by
    obtain ⟨g1, g2, g3, g4, g5⟩ := h
    have hf' : (if cpN q p = q.length then findN t (p.drop (cpN q p)) else []) ≠ [] := hf
    by_cases hin : cpN q p = q.length
    · rw [if_pos hin] at hf'
      have ih := rem_ok g5 k (hp.drop _) hf'
      show findN (if cpN q p = q.length then leadN q (remN t (p.drop (cpN q p))) else Nd.stem q t) p' = _
      rw [if_pos hin, find_lead _ _ _ ih.1.own, find_stem]
      have ep := cpN_full hin
      rw [hin] at hf' ⊢
      cases hs : strip q p' with
      | none =>
        rw [if_neg (fun e => by rw [← e, strip_some.2 ep] at hs; cases hs)]
        rfl
      | some r =>
        have e := strip_some.1 hs
        show findN (remN t (p.drop q.length)) r = if p = p' then [] else findN t r
        rw [find_rem g5 k (hp.drop _) hf' r (fun z hz => hp' z (by rw [e]; simp [hz]))]
        have d1 : p.drop q.length = r ↔ p = p' := by
          constructor
          · intro h; rw [ep, h, e]
          · intro h; rw [ep, e] at h; exact List.append_cancel_left h
        by_cases h1 : p = p'
        · rw [if_pos h1, if_pos (d1.2 h1)]
        · rw [if_neg h1, if_neg (fun e => h1 (d1.1 e))]
    · rw [if_neg hin] at hf'
      exact absurd rfl hf'
  | .fork c x, d, p, h, k, hp, hf, p', hp' => by
    obtain ⟨g1, g2, g3, g4⟩ := h
    obtain ⟨k1, k2⟩ := k
    cases p with
    | nil =>
      show findN (thinN c []) p' = _
      rw [find_thin _ _ (fun i hi => (g2 i hi).own) hp']
      cases p' with
      | nil => rw [if_pos rfl]; rfl
      | cons j s => rw [if_neg (by simp)]; rfl
    | cons i r =>
      have hi : i < 16 := hp i (by simp)
      have hr : Nb r := fun z hz => hp z (by simp [hz])
      have ih := rem_ok (g2 i hi) (k1 i hi) hr hf
      show findN (thinN (updN c i (remN (c i) r)) x) p' = _
      rw [find_thin _ _ (fun j hj => (updN_ok g2 ih.1 j hj).own) hp']
      cases p' with
      | nil => rw [if_neg (by simp)]; rfl
      | cons j s =>
        show findN (updN c i (remN (c i) r) j) s = _
        unfold updN
        by_cases hj : j = i
        · subst hj
          rw [if_pos rfl, find_rem (g2 j hi) (k1 j hi) hr hf s (fun z hz => hp' z (by simp [hz]))]
          by_cases h2 : r = s
          · subst h2; rw [if_pos rfl, if_pos rfl]
          · rw [if_neg h2, if_neg (by simp [h2])]
            rfl
        · rw [if_neg hj, if_neg (by intro e; exact hj (List.cons.inj e).1.symm)]
          rfl
end Go.Proofs.YtmpfnglcmaollaaDoor
namespace Go.Proofs.YtmpfnglcmaollaaDoor
open Go.ChangeShapes Go.WideShapes Go.ChangeAt Go.RowKit

theorem addC_can {c : Nat → Nd} {p v : List Nat} (h : ∀ j, j < 16 → canN (c j)) : ∀ j, j < 16 → canN (addC c p v j) := by
  cases p with
  | nil => exact h
  | cons i r => exact updN_can h trivial
theorem addC_fill {c : Nat → Nd} {x p v : List Nat} (hp : Nb p) (hc : ∀ j s, p = j :: s → c j = .nil) (hx : p = [] → x = []) (hv : v ≠ []) : (fillF c).length + (if x = [] then 0 else 1) + 1 ≤ (fillF (addC c p v)).length + (if addV x p v = [] then 0 else 1) := by
  cases p with
  | nil =>
    show (fillF c).length + (if x = [] then 0 else 1) + 1 ≤ (fillF c).length + (if v = [] then 0 else 1)
    rw [hx rfl, if_pos rfl, if_neg hv]
    exact Nat.le_refl _
  | cons i r =>
    show (fillF c).length + (if x = [] then 0 else 1) + 1 ≤ (fillF (updN c i (.leaf r v))).length + (if x = [] then 0 else 1)
    rw [fill_add (hp i (by simp)) (hc i r rfl) (by intro e; cases e)]
    omega
theorem put_can : ∀ {n : Nd} {d : Nat} {p v : List Nat}, okN d n → canN n → Nb p → v ≠ [] → canN (putN n p v)
  | .nil, _, _, _, _, _, _, _ => trivial
  | .far _, _, _, _, h, _, _, _ => h.elim
  | .leaf q x, d, p, v, h, k, hp, hv => by
    obtain ⟨h1, h2, h3, h4, h5⟩ := h
    show canN (if q = p then Nd.leaf p v else _)
    split
    · trivial
    · rename_i hqp
      have hx : x ≠ [] := by intro e; rw [e] at h4; simp at h4
      unfold growN
      have hc1 : ∀ j, j < 16 → canN (addC noN (q.drop (cpN q p)) x j) := addC_can (fun _ _ => trivial)
      refine leadN_can ⟨addC_can hc1, ?_⟩
      have a1 := addC_fill (c := noN) (x := []) (p := q.drop (cpN q p)) (v := x) (h1.drop _) (fun _ _ _ => rfl) (fun _ => rfl) hx
      have a2 := addC_fill (c := addC noN (q.drop (cpN q p)) x) (x := addV [] (q.drop (cpN q p)) x) (p := p.drop (cpN q p)) (v := v) (hp.drop _) (fun j b hb => by
        cases hq : q.drop (cpN q p) with
        | nil => rfl
        | cons i a =>
          show updN noN i _ j = .nil
          unfold updN
          rw [if_neg (fun e => cp_next hq hb e.symm)]
          rfl) (fun e => by
        cases hq : q.drop (cpN q p) with
        | nil =>
          have e1 := List.take_append_drop (cpN q p) q
          have e2 := List.take_append_drop (cpN q p) p
          rw [hq, cpN_take q p] at e1
          rw [e] at e2
          exact absurd (e1.symm.trans e2) hqp
        | cons i a => rfl) hv
      rw [fill_no, if_pos rfl] at a1
      omega
  | .stem q t, d, p, v, h, k, hp, hv => by
    obtain ⟨g1, g2, g3, g4, g5⟩ := h
    show canN (if cpN q p = q.length then _ else _)
    split
    · exact leadN_can (put_can g5 k (hp.drop _) hv)
    · rename_i hin
      have hlt : cpN q p < q.length := by have := cpN_le q p; omega
      have hi : q.drop (cpN q p) = q[cpN q p] :: q.drop (cpN q p + 1) := List.drop_eq_getElem_cons hlt
      have hgi : q.getD (cpN q p) 0 = q[cpN q p] := by
        rw [List.getD_eq_getElem?_getD, List.getElem?_eq_getElem hlt]; rfl
      rw [hgi]
      have hi16 : q[cpN q p] < 16 := g1 _ (List.getElem_mem hlt)
      have hne : leadN (q.drop (cpN q p + 1)) t ≠ .nil := by
        cases t with
        | fork c x => exact leadN_ne _ _ _
        | nil => exact g4.elim
        | far _ => exact g4.elim
        | leaf _ _ => exact g4.elim
        | stem _ _ => exact g4.elim
      unfold growN
      refine leadN_can ⟨addC_can (updN_can (fun _ _ => trivial) (leadN_can k)), ?_⟩
      have a2 := addC_fill (c := updN noN q[cpN q p] (leadN (q.drop (cpN q p + 1)) t)) (x := []) (p := p.drop (cpN q p)) (v := v) (hp.drop _) (fun j b hb => by
        unfold updN
        rw [if_neg (fun e => cp_next hi hb e.symm)]
        rfl) (fun _ => rfl) hv
      rw [fill_add hi16 rfl hne, fill_no, if_pos rfl] at a2
      omega
  | .fork c x, d, p, v, h, k, hp, hv => by
    obtain ⟨g1, g2, g3, g4⟩ := h
    obtain ⟨k1, k2⟩ := k
    cases p with
    | nil =>
      refine ⟨k1, ?_⟩
      rw [if_neg hv]
      split at k2 <;> omega
    | cons i r =>
      have hi : i < 16 := hp i (by simp)
      have hf := fill_more (c := c) (n := putN (c i) r v) hi (putN_ne (g2 i hi) r v)
      exact ⟨updN_can k1 (put_can (g2 i hi) (k1 i hi) (fun z hz => hp z (by simp [hz])) hv), by omega⟩
end Go.Proofs.YtmpfnglcmaollaaDoor
namespace Go.Proofs.YtmpfnglcmaollaaDoor
open Go.ChangeShapes Go.WideShapes Go.ChangeAt Go.RowKit

theorem asFork_l (w : World) (b : Nat) : (Instr.typeAssert (.iface 130 (.pointer (some ⟨b, 0, none⟩))) 84 126 true).run Tryd.prog w = .ok (.tuple #[.pointer none, .bool false]) w := by
  kernel_rfl
theorem asFork_s (w : World) (b : Nat) : (Instr.typeAssert (.iface 121 (.pointer (some ⟨b, 0, none⟩))) 84 126 true).run Tryd.prog w = .ok (.tuple #[.pointer none, .bool false]) w := by
  kernel_rfl
/-- The filled slots ahead of one. -/
def fillU (c : Nat → Nd) (k : Nat) : List Nat := (List.range k).filter (fun i => !nilB (c i))
theorem fillU_yes {c : Nat → Nd} {k : Nat} (h : c k ≠ .nil) : fillU c (k + 1) = fillU c k ++ [k] := by
  unfold fillU
  rw [List.range_succ, List.filter_append]
  have : nilB (c k) = false := by
    cases hn : nilB (c k) with
    | false => rfl
    | true => exact absurd (nilB_iff.1 hn) h
  simp [this]
theorem fillU_no {c : Nat → Nd} {k : Nat} (h : c k = .nil) : fillU c (k + 1) = fillU c k := by
  unfold fillU
  rw [List.range_succ, List.filter_append]
  simp [nilB, h]
theorem fillU_len (c : Nat → Nd) (k : Nat) : (fillU c k).length ≤ k := by
  have := List.length_filter_le (fun i => !nilB (c i)) (List.range k)
  rw [List.length_range] at this
  exact this
set_option maxRecDepth 20000 in
set_option maxHeartbeats 6400000 in
theorem thin_c (w : World) {S : Nat → Prop} (HT : Tabs w) (hi : InS S w) (tv : Value) {V : Nat → Value} {vv : Value} {c : Nat → Nd} {x : List Nat} (hc : ∀ i, i < 16 → NdV S w (c i) (V i)) (hok : ∀ i, i < 16 → okN 127 (c i)) (hv : Un S w (fun w' => Rd w' vv (bv x))) (hx : By x) (hxl : x.length ≤ 1024) (h1 : 1 ≤ (fillF c).length + (if x = [] then 0 else 1)) :
    Calls Tryd.prog 100 #[tv, .agg #[V 0, V 1, V 2, V 3, V 4, V 5, V 6, V 7, V 8, V 9, V 10, V 11, V 12, V 13, V 14, V 15], vv] w fun e w' => ∃ r, e = .returned (.tuple #[r, .int .i64 0]) ∧ NdV (Up S w w') w' (thinN c x) r ∧ Fr [] w w' := by
  obtain ⟨va, vc, e2⟩ := RdS.slice hv
  subst e2
  obtain ⟨W, hW⟩ : ∃ W, W = w.alloc (.cells #[V 0, V 1, V 2, V 3, V 4, V 5, V 6, V 7, V 8, V 9, V 10, V 11, V 12, V 13, V 14, V 15] 127) := ⟨_, rfl⟩
  have F : Hid (Fr [] w W) := hid (by rw [hW]; exact (Fr.refl _ w).alloc _)
  have Y : Hid (W.heap[w.heap.size]? = some (.cells #[V 0, V 1, V 2, V 3, V 4, V 5, V 6, V 7, V 8, V 9, V 10, V 11, V 12, V 13, V 14, V 15] 127 (0, 0))) := hid (by rw [hW]; exact blk_new _ _)
  have HI := hid hi
  have HC := hid hc
  have HOK := hid hok
  have H1 := hid h1
  have MF := hid (fun (w1 : World) (f : Fr [] w w1) => makeFork_c w1 (HT.fr f) (hi.fr f) (fun i h => (hc i h).step (hi.agr f)) (fun i h => (hok i h).own) (hv.step (hi.agr f)) hx hxl)
  have ML := hid (fun (w1 : World) (f : Fr [] w w1) (h : 1 ≤ x.length) => makeLeaf_c w1 (HT.fr f) (hi.fr f) (pv := .slice none 0 0) (p := []) (fun _ _ => .inl ⟨rfl, rfl⟩) rfl (hv.step (hi.agr f)) hx h hxl)
  have LD := hid (fun (w1 : World) (f : Fr [] w w1) (i : Nat) (hi16 : i < 16) => lead_c (w1.alloc (.cells #[.int .u8 (i : Int)] 5)) (S := Up S w (w1.alloc (.cells #[.int .u8 (i : Int)] 5))) (pv := .slice (some ⟨w1.heap.size, 0, none⟩) 1 1) (p := [i]) (n := c i) (v := V i) (HT.fr (f.alloc _)) (hi.up (f.alloc _)) (fun w'' ha => .inr ⟨_, 1, rfl, Nat.le_refl _, fun j u hj => by
    cases j with
    | zero =>
      cases hj
      rw [Addr.add_lit, Nat.zero_add, World.cell?_of_block (w := w1.alloc (.cells #[.int .u8 (i : Int)] 5)) (ha _ (.inr ⟨f.size, by simp⟩))]
      rw [blk_cell (blk_new _ _)]
      rfl
    | succ j => simp [bv] at hj⟩) (fun z hz => by simp at hz; omega) (by simp) ((hc i hi16).up hi (f.alloc _)) (by simpa using hok i hi16))
  obtain ⟨nx, hnx⟩ : ∃ n, n = x.length := ⟨_, rfl⟩
  rw [← hnx] at MF ML ⊢
  have HNX := hid hnx
  clear hi hc hv HT hx hxl hok h1 hnx
  go_enter Tryd.func100, Tryd.ntmps100
  go_upto_region 1 with fail
  rw [← hW]
  clear hW
  obtain ⟨d0, d1, d2, d3, d4, d5, d6, d7, d8, d9, d10, d11, d12, d13, d14, d15⟩ := cellsD Y.out
  go_upto_region 3 with fail
  clear d0 d1 d2 d3 d4 d5 d6 d7 d8 d9 d10 d11 d12 d13 d14 d15
  go_loopw [8, 9, 17] (fun v8 v9 v17 wr => ∃ k : Nat, k ≤ 16 ∧ v17 = .int .i64 (k : Int) ∧ v8 = .int .i64 ((fillU c k).length : Int) ∧ v9 = .int .i64 (((fillU c k).getLast?.getD 0 : Nat) : Int) ∧ Fr [] W wr) (fun _ _ v17 _ => 16 - (intOf v17).toNat)
  case atStart => exact ⟨0, Nat.zero_le _, rfl, rfl, rfl, Fr.refl _ _⟩
  case round =>
    obtain ⟨k, hk, rfl, rfl, rfl, hf⟩ := hrel
    have HF := hid hf
    clear hf
    by_cases hlt : k < 16
    · have hlt' : (k : Int) < 16 := by omega
      have hix := idxV V hlt wr
      by_cases hnil : c k = .nil
      · have hV := HC.out k hlt
        rw [hnil] at hV
        rw [show V k = .nilIface from hV] at hix
        have HN := hid hnil
        clear hV hnil
        go_wp2
        go_roundw
        case rel => exact ⟨k + 1, by omega, by go_num, by rw [fillU_no HN.out], by rw [fillU_no HN.out], HF.out⟩
        case measure => simp [intOf]; omega
      · obtain ⟨T, xx, hV⟩ := (HC.out k hlt).iface hnil
        rw [hV] at hix
        have HN := hid hnil
        have hle := fillU_len c k
        clear hV hnil
        go_wp2
        go_roundw
        case rel => exact ⟨k + 1, by omega, by go_num, by rw [fillU_yes HN.out]; simp, by rw [fillU_yes HN.out]; simp, HF.out⟩
        case measure => simp [intOf]; omega
    · have hk16 : k = 16 := by omega
      subst hk16
      have hlt' : ¬ ((16 : Nat) : Int) < 16 := by omega
      have HFU : Hid (fillU c 16 = fillF c) := hid rfl
      rw [HFU.out]
      have GFR : Hid (Fr [] w wr) := hid (F.out.trans HF.out)
      cases hfl : fillF c with
      | nil =>
        have hx1 : 1 ≤ x.length := by
          have h := H1.out
          rw [hfl] at h
          cases x with
          | nil => simp at h
          | cons a l => simp
        have HTH : Hid (thinN c x = .leaf [] x) := hid (by unfold thinN; rw [hfl])
        have ML2 := hid (ML.out wr GFR.out (by rw [HNX.out]; exact hx1))
        clear hx1 hfl
        go_wp2_with (go_at_call 77; refine ML2.out.mono ?_; rintro e w3 ⟨r, rfl, N, f3⟩; have HN := hid N; have F3 := hid f3; clear N f3)
        go_ret2
        refine ⟨r, rfl, ?_, GFR.out.trans F3.out⟩
        rw [HTH.out]
        exact HN.out.sub fun k hk => Up.mid GFR.out.size (Nat.le_refl _) hk
      | cons l ls =>
        have hl := (mem_fill (c := c) (i := l)).1 (by rw [hfl]; simp)
        by_cases h2 : ls = [] ∧ x = []
        · obtain ⟨rfl, hx0⟩ := h2
          have hl16 := hl.1
          have HTH : Hid (thinN c x = leadN [l] (c l)) := hid (by unfold thinN; rw [hfl]; exact if_pos hx0)
          have hnx0 : nx = 0 := by rw [HNX.out, hx0]; rfl
          subst hnx0
          clear hx0 hfl
          cases hcl : c l with
          | nil => exact absurd hcl hl.2
          | far y => exact absurd hcl ((HOK.out l hl16).own y)
          | leaf p y =>
            obtain ⟨b, hVb⟩ : ∃ b, V l = .iface 130 (.pointer (some ⟨b, 0, none⟩)) := by
              have h := HC.out l hl16
              rw [hcl] at h
              obtain ⟨b, _, _, _, _, _, e, _⟩ := h
              exact ⟨b, e⟩
            have LK := hid (fun w => look_leaf w tv b)
            have ta := fun w => asFork_l w b
            have k1 := d_cell (blk_frT Y.out HF.out) hl16
            rw [hVb] at k1
            have LD2 := hid (fun (w1 : World) (f : Fr [] w w1) => LD.out w1 f l hl16)
            rw [hVb] at LD2
            have GF : Hid (Fr [] w wr) := hid (F.out.trans HF.out)
            have hl16' : (l : Int) < 16 := by omega
            have HL16 := hid hl16
            have KC : Hid (∀ w', Fr [] wr w' → w'.cell? ⟨w.heap.size, l, none⟩ = some (.iface 130 (.pointer (some ⟨b, 0, none⟩)))) := hid fun w' f => cell_fr k1 f
            clear hcl hVb
            go_wp2_with (first
              | (go_at_call 73; refine (LK.out _).mono ?_; rintro e w3 ⟨rfl, f3⟩; have F3 := hid (GF.out.trans f3); have k2 := KC.out _ f3; clear f3 k1)
              | (go_at_call 80; refine (LD2.out _ F3.out).mono ?_; rintro e w4 ⟨r4, rfl, N4, f4⟩; have HN4 := hid N4; have F4 := hid ((F3.out.alloc _).trans f4); have FA := hid f4; clear N4 f4))
            go_ret2
            refine ⟨r4, rfl, ?_, F4.out⟩
            rw [show thinN c x = leadN [l] (c l) from HTH.out]
            exact HN4.out.sub fun k hk => Up.two (F3.out.alloc _).size FA.out.size hk
          | stem p t =>
            obtain ⟨b, hVb⟩ : ∃ b, V l = .iface 121 (.pointer (some ⟨b, 0, none⟩)) := by
              have h := HC.out l hl16
              rw [hcl] at h
              obtain ⟨b, _, _, _, _, _, e, _⟩ := h
              exact ⟨b, e⟩
            have LK := hid (fun w => look_stem w tv b)
            have ta := fun w => asFork_s w b
            have k1 := d_cell (blk_frT Y.out HF.out) hl16
            rw [hVb] at k1
            have LD2 := hid (fun (w1 : World) (f : Fr [] w w1) => LD.out w1 f l hl16)
            rw [hVb] at LD2
            have GF : Hid (Fr [] w wr) := hid (F.out.trans HF.out)
            have hl16' : (l : Int) < 16 := by omega
            have HL16 := hid hl16
            have KC : Hid (∀ w', Fr [] wr w' → w'.cell? ⟨w.heap.size, l, none⟩ = some (.iface 121 (.pointer (some ⟨b, 0, none⟩)))) := hid fun w' f => cell_fr k1 f
            clear hcl hVb
            go_wp2_with (first
              | (go_at_call 73; refine (LK.out _).mono ?_; rintro e w3 ⟨rfl, f3⟩; have F3 := hid (GF.out.trans f3); have k2 := KC.out _ f3; clear f3 k1)
              | (go_at_call 80; refine (LD2.out _ F3.out).mono ?_; rintro e w4 ⟨r4, rfl, N4, f4⟩; have HN4 := hid N4; have F4 := hid ((F3.out.alloc _).trans f4); have FA := hid f4; clear N4 f4))
            go_ret2
            refine ⟨r4, rfl, ?_, F4.out⟩
            rw [show thinN c x = leadN [l] (c l) from HTH.out]
            exact HN4.out.sub fun k hk => Up.two (F3.out.alloc _).size FA.out.size hk
          | fork c2 y =>
            obtain ⟨b, hVb⟩ : ∃ b, V l = .iface 126 (.pointer (some ⟨b, 0, none⟩)) := by
              have h := HC.out l hl16
              rw [hcl] at h
              obtain ⟨b, _, _, _, _, _, e, _⟩ := h
              exact ⟨b, e⟩
            have LK := hid (fun w => look_fork w tv b)
            have ta := fun w => asFork_y w b
            have k1 := d_cell (blk_frT Y.out HF.out) hl16
            rw [hVb] at k1
            have LD2 := hid (fun (w1 : World) (f : Fr [] w w1) => LD.out w1 f l hl16)
            rw [hVb] at LD2
            have GF : Hid (Fr [] w wr) := hid (F.out.trans HF.out)
            have hl16' : (l : Int) < 16 := by omega
            have HL16 := hid hl16
            have KC : Hid (∀ w', Fr [] wr w' → w'.cell? ⟨w.heap.size, l, none⟩ = some (.iface 126 (.pointer (some ⟨b, 0, none⟩)))) := hid fun w' f => cell_fr k1 f
            clear hcl hVb
            go_wp2_with (first
              | (go_at_call 73; refine (LK.out _).mono ?_; rintro e w3 ⟨rfl, f3⟩; have F3 := hid (GF.out.trans f3); have k2 := KC.out _ f3; clear f3 k1)
              | (go_at_call 80; refine (LD2.out _ F3.out).mono ?_; rintro e w4 ⟨r4, rfl, N4, f4⟩; have HN4 := hid N4; have F4 := hid ((F3.out.alloc _).trans f4); have FA := hid f4; clear N4 f4))
            go_ret2
            refine ⟨r4, rfl, ?_, F4.out⟩
            rw [show thinN c x = leadN [l] (c l) from HTH.out]
            exact HN4.out.sub fun k hk => Up.two (F3.out.alloc _).size FA.out.size hk
        · have HTH : Hid (thinN c x = .fork c x) := hid (by
            unfold thinN
            rw [hfl]
            cases ls with
            | nil => exact if_neg (fun e => h2 ⟨rfl, e⟩)
            | cons a b => rfl)
          have hcnt : 1 < (l :: ls).length ∨ 0 < nx := by
            cases ls with
            | nil =>
              right
              rw [HNX.out]
              cases x with
              | nil => exact absurd ⟨rfl, rfl⟩ h2
              | cons a b => simp
            | cons a b => left; simp
          obtain ⟨n1, hn1⟩ : ∃ n, n = (l :: ls).length := ⟨_, rfl⟩
          obtain ⟨n2, hn2⟩ : ∃ n, n = (l :: ls).getLast?.getD 0 := ⟨_, rfl⟩
          have hn1p : 1 ≤ n1 := by rw [hn1]; simp
          rw [← hn1] at hcnt
          rw [← hn1, ← hn2]
          clear hn1 hn2 hfl h2 hl
          have hz : ((n1 : Int) == 0) = false := beq_eq_false_iff_ne.2 (by omega)
          obtain ⟨d0, d1, d2, d3, d4, d5, d6, d7, d8, d9, d10, d11, d12, d13, d14, d15⟩ := cellsD (blk_frT Y.out HF.out)
          have MF2 := hid (MF.out wr GFR.out)
          by_cases h1n : 1 < n1
          · have h1n' : (1 : Int) < (n1 : Int) := by omega
            go_wp2_with (go_at_call 96; refine MF2.out.mono ?_; rintro e w3 ⟨r, rfl, N, f3⟩; have HN := hid N; have F3 := hid f3; clear N f3)
            go_ret2
            refine ⟨r, rfl, ?_, GFR.out.trans F3.out⟩
            rw [HTH.out]
            exact HN.out.sub fun k hk => Up.mid GFR.out.size (Nat.le_refl _) hk
          · have h1n' : ¬ (1 : Int) < (n1 : Int) := by omega
            have h0n : (0 : Int) < (nx : Int) := by omega
            go_wp2_with (go_at_call 96; refine MF2.out.mono ?_; rintro e w3 ⟨r, rfl, N, f3⟩; have HN := hid N; have F3 := hid f3; clear N f3)
            go_ret2
            refine ⟨r, rfl, ?_, GFR.out.trans F3.out⟩
            rw [HTH.out]
            exact HN.out.sub fun k hk => Up.mid GFR.out.size (Nat.le_refl _) hk
end Go.Proofs.YtmpfnglcmaollaaDoor
