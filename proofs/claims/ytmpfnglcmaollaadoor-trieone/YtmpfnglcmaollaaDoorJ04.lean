/-
  Items in memory, and the gate that counts them.
-/
import Derived.Test.YtmpfnglcmaollaaDoorJ03
import Derived.Deep.Light
namespace Go.Proofs.YtmpfnglcmaollaaDoor
open Go.ChangeShapes Go.WideShapes Go.ChangeAt Go.RowKit

/-- A value that is an item, as deep as it is looked at. -/
def IsV (w : World) : (n : Nat) → Value → Tr n → Prop
  | 0, v, _ => ∃ l a1 n1 c1 a2 n2 c2, v = .agg #[.bool l, .slice a1 n1 c1, .slice a2 n2 c2]
  | n + 1, v, t => ∃ bs ka kc, v = .agg #[.bool (tL t), bs, .slice ka (tK t).length kc] ∧ Rd w bs (bv (tB t)) ∧ By (tB t) ∧ (tB t).length ≤ 140737488355328 ∧ (tK t).length ≤ kc ∧ (tK t).length ≤ 140737488355328 ∧
      (0 < (tK t).length → ∃ kb ko, ka = some ⟨kb, ko, none⟩ ∧ ∀ (j : Nat) (k : Tr n), (tK t)[j]? = some k → ∃ l bs' is', w.cell? ⟨kb, ko + j * 3, none⟩ = some (.bool l) ∧ w.cell? ⟨kb, ko + j * 3 + 1, none⟩ = some bs' ∧ w.cell? ⟨kb, ko + j * 3 + 2, none⟩ = some is' ∧ IsV w n (.agg #[.bool l, bs', is']) k)

theorem cell_fr {w w' : World} {a : Addr} {v : Value} (h : w.cell? a = some v) (f : Fr [] w w') : w'.cell? a = some v := by
  rw [World.cell?_of_block (w := w) (f.block _ (World.block_lt_of_cell? w _ h) (by simp))]; exact h
theorem IsV.fr : ∀ {n : Nat} {w w' : World} {v : Value} {t : Tr n}, IsV w n v t → Fr [] w w' → IsV w' n v t
  | 0, _, _, _, _, h, _ => h
  | n + 1, w, w', v, t, h, f => by
    obtain ⟨bs, ka, kc, h1, h2, h3, h4, h5, h5', h6⟩ := h
    refine ⟨bs, ka, kc, h1, h2.fr f, h3, h4, h5, h5', fun h0 => ?_⟩
    obtain ⟨kb, ko, e, h7⟩ := h6 h0
    refine ⟨kb, ko, e, fun j k hj => ?_⟩
    obtain ⟨l, b', i', c1, c2, c3, c4⟩ := h7 j k hj
    exact ⟨l, b', i', cell_fr c1 f, cell_fr c2 f, cell_fr c3 f, c4.fr f⟩
theorem IsV.byT : ∀ {n : Nat} {w : World} {v : Value} {t : Tr n}, IsV w n v t → byT n t
  | 0, _, _, _, _ => trivial
  | n + 1, w, v, t, h => by
    obtain ⟨bs, ka, kc, h1, h2, h3, h4, h5, h5', h6⟩ := h
    refine ⟨h3, fun k hk => ?_⟩
    obtain ⟨j, hj⟩ := List.getElem?_of_mem hk
    have h0 : 0 < (tK t).length := List.length_pos_of_mem hk
    obtain ⟨kb, ko, e, h7⟩ := h6 h0
    obtain ⟨l, b', i', c1, c2, c3, c4⟩ := h7 j k hj
    exact c4.byT
/-- An item in three cells. -/
theorem IsV.agg {n : Nat} {w : World} {v : Value} {t : Tr n} (h : IsV w n v t) : ∃ l a1 n1 c1 a2 n2 c2, v = .agg #[.bool l, .slice a1 n1 c1, .slice a2 n2 c2] := by
  cases n with
  | zero => exact h
  | succ n =>
    obtain ⟨bs, ka, kc, h1, h2, _⟩ := h
    obtain ⟨a, c, rfl⟩ := h2.form
    exact ⟨_, _, _, _, _, _, _, h1⟩
theorem IsV.cells {n : Nat} {w : World} {l : Bool} {bs is : Value} {t : Tr n} (h : IsV w n (.agg #[.bool l, bs, is]) t) : ∃ a1 n1 c1 a2 n2 c2, bs = .slice a1 n1 c1 ∧ is = .slice a2 n2 c2 := by
  obtain ⟨l', a1, n1, c1, a2, n2, c2, e⟩ := h.agg
  simp only [Value.agg.injEq, Array.mk.injEq, List.cons.injEq] at e
  exact ⟨a1, n1, c1, a2, n2, c2, e.2.1, e.2.2.1⟩

set_option maxRecDepth 20000 in
theorem gate_no (w : World) {g d c : Nat} (hg : w.heap[g]? = some (.cells #[.int .i64 (c : Int)] 3 (0, 0))) (h : 16 < d ∨ c = 4096) (hd : d ≤ 100000) :
    Calls Tryd.prog 103 #[.int .i64 (d : Int), .pointer (some ⟨g, 0, none⟩)] w fun e w' => e = .returned (.int .i64 43) ∧ w' = w := by
  have hc := blk_cell hg 0
  simp at hc
  by_cases h1 : 16 < d
  · go_enter Tryd.func103, Tryd.ntmps103
    go_wp2
    go_ret
    exact ⟨rfl, rfl⟩
  · have h2 : c = 4096 := by omega
    subst h2
    go_enter Tryd.func103, Tryd.ntmps103
    go_wp2
    go_ret
    exact ⟨rfl, rfl⟩
set_option maxRecDepth 20000 in
theorem gate_yes (w : World) {g d c : Nat} (hg : w.heap[g]? = some (.cells #[.int .i64 (c : Int)] 3 (0, 0))) (h : d ≤ 16) (hc : c < 4096) :
    Calls Tryd.prog 103 #[.int .i64 (d : Int), .pointer (some ⟨g, 0, none⟩)] w fun e w' => e = .returned (.int .i64 0) ∧ w'.heap[g]? = some (.cells #[.int .i64 ((c + 1 : Nat) : Int)] 3 (0, 0)) ∧ Fr [g] w w' := by
  have hc1 := blk_cell hg 0
  have hf1 := blk_frozen hg 0
  simp at hc1
  have hz : ((c : Int) == 4096) = false := beq_eq_false_iff_ne.2 (by omega)
  have H : Hid ((w.setCell ⟨g, 0, none⟩ (.int .i64 ((c : Int) + 1))).heap[g]? = some (.cells #[.int .i64 ((c + 1 : Nat) : Int)] 3 (0, 0))) := by
    unfold Hid; rw [blk_set hg]; simp
  go_enter Tryd.func103, Tryd.ntmps103
  go_wp2
  go_ret
  exact ⟨rfl, H.out, (Fr.refl _ _).set _ _ (.inl (by simp))⟩
end Go.Proofs.YtmpfnglcmaollaaDoor
namespace Go.Proofs.YtmpfnglcmaollaaDoor
open Go.ChangeShapes Go.WideShapes Go.ChangeAt Go.RowKit

/-- The gate's counter and the two closures, in three blocks. -/
structure Clo (w : World) (F : Nat) (T : Nat) (g e k c : Nat) : Prop where
  cg : w.heap[g]? = some (.cells #[.int .i64 (c : Int)] 3 (0, 0))
  ce : w.heap[e]? = some (.cells #[.func (.func 103) #[] #[.pointer (some ⟨g, 0, none⟩)]] 154 (0, 0))
  ck : w.heap[k]? = some (.cells #[.func (.func F) #[] #[.pointer (some ⟨e, 0, none⟩), .pointer (some ⟨k, 0, none⟩)]] T (0, 0))
  eg : e ≠ g
  kg : k ≠ g
theorem Clo.step {w w' : World} {F T g e k c c' : Nat} (h : Clo w F T g e k c) (f : Fr [g] w w') (hg : w'.heap[g]? = some (.cells #[.int .i64 (c' : Int)] 3 (0, 0))) : Clo w' F T g e k c' :=
  ⟨hg, f.at h.ce (by simpa using h.eg), f.at h.ck (by simpa using h.kg), h.eg, h.kg⟩
theorem Clo.alloc {w : World} {F T g e k c : Nat} (h : Clo w F T g e k c) (o : Obj) : Clo (w.alloc o) F T g e k c :=
  ⟨by rw [blk_old w o (blk_lt h.cg)]; exact h.cg, by rw [blk_old w o (blk_lt h.ce)]; exact h.ce, by rw [blk_old w o (blk_lt h.ck)]; exact h.ck, h.eg, h.kg⟩

/-- What measure's closure tells. -/
def Told (n d : Nat) (t : Tr n) (g c : Nat) (r : Ending) (w' : World) : Prop :=
  (bad n d t = 0 ∧ r = .returned (.tuple #[.int .i64 ((enc n t).length : Int), .int .i64 0]) ∧ w'.heap[g]? = some (.cells #[.int .i64 ((c + cnt n t : Nat) : Int)] 3 (0, 0))) ∨
  (bad n d t ≠ 0 ∧ r = .returned (.tuple #[.int .i64 0, .int .i64 (bad n d t : Int)]))

theorem bad_le : ∀ (n d : Nat) (t : Tr n), bad n d t ≤ 43
  | 0, _, _ => by simp [bad]
  | n + 1, d, t => by
    unfold bad
    split
    · omega
    · split
      · omega
      · have : ∀ (l : List (Tr n)), firstBad (bad n (d + 1)) l ≤ 43 := by
          intro l
          induction l with
          | nil => simp [firstBad]
          | cons k r ih => unfold firstBad; split; exact ih; exact bad_le n (d + 1) k
        exact this _
theorem bad_deep (n : Nat) {d : Nat} (t : Tr n) (h : 16 < d) : bad n d t = 43 := by
  cases n with
  | zero => rfl
  | succ n => unfold bad; rw [if_pos h]
theorem bad_form {n d : Nat} {t : Tr (n + 1)} (h : d ≤ 16) (hf : (tL t = true ∧ tB t ≠ []) ∨ (tL t = false ∧ tK t ≠ [])) : bad (n + 1) d t = 40 := by
  unfold bad; rw [if_neg (by omega), if_pos hf]

set_option maxRecDepth 20000 in
set_option maxHeartbeats 400000 in
theorem walk_deep (w : World) {T g e k c d : Nat} (C : Clo w 85 T g e k c) (l : Bool) (bs is : Value) (hd : 16 < d) (hd2 : d ≤ 100000) :
    Calls Tryd.prog 85 #[.agg #[.bool l, bs, is], .int .i64 (d : Int), .pointer (some ⟨e, 0, none⟩), .pointer (some ⟨k, 0, none⟩)] w fun r w' => r = .returned (.tuple #[.int .i64 0, .int .i64 43]) ∧ Fr [g] w w' := by
  have C1 := C.alloc (.cells #[.bool l, bs, is] 77)
  have he := blk_cell C1.ce 0
  simp at he
  have HC := hid C1
  clear C C1
  go_enter Tryd.func85, Tryd.ntmps85
  go_wp2_with fail
  refine (gate_no _ HC.out.cg (.inl hd) hd2).mono ?_
  rintro r w1 ⟨rfl, rfl⟩
  go_wp2
  go_ret2
  exact ⟨rfl, (Fr.refl _ _).alloc _⟩
end Go.Proofs.YtmpfnglcmaollaaDoor
namespace Go.Proofs.YtmpfnglcmaollaaDoor
open Go.ChangeShapes Go.WideShapes Go.ChangeAt Go.RowKit

set_option maxRecDepth 20000 in
set_option maxHeartbeats 400000 in
theorem walk_form1 (w : World) {T g e k c d : Nat} (C : Clo w 85 T g e k c) {ba : Option Addr} {bl bc : Nat} (is : Value) (hd : d ≤ 16) (hc : c < 4096) (hl : 0 < bl) :
    Calls Tryd.prog 85 #[.agg #[.bool true, .slice ba bl bc, is], .int .i64 (d : Int), .pointer (some ⟨e, 0, none⟩), .pointer (some ⟨k, 0, none⟩)] w fun r w' => r = .returned (.tuple #[.int .i64 0, .int .i64 40]) ∧ Fr [g] w w' := by
  have C1 := C.alloc (.cells #[.bool true, .slice ba bl bc, is] 77)
  have hg := blk_lt C.cg
  have he := blk_cell C1.ce 0
  simp at he
  have HC := hid C1
  have HN := hid (blk_new w (.cells #[.bool true, .slice ba bl bc, is] 77))
  have hne : ¬ w.heap.size = g := by omega
  clear C C1
  go_enter Tryd.func85, Tryd.ntmps85
  go_wp2_with fail
  refine (gate_yes _ HC.out.cg hd hc).mono ?_
  rintro r w1 ⟨rfl, h1, f1⟩
  have hb := f1.at HN.out (by simpa using hne)
  have hb0 := blk_cell hb 0
  have hb1 := blk_cell hb 1
  have hb2 := blk_cell hb 2
  simp at hb0 hb1 hb2
  have F1 := hid f1
  clear hb f1 h1
  go_wp2
  go_ret2
  exact ⟨rfl, ((Fr.refl _ _).alloc _).trans F1.out⟩
set_option maxRecDepth 20000 in
set_option maxHeartbeats 400000 in
theorem walk_form2 (w : World) {T g e k c d : Nat} (C : Clo w 85 T g e k c) {ka : Option Addr} {kl kc : Nat} (bs : Value) (hd : d ≤ 16) (hc : c < 4096) (hl : 0 < kl) :
    Calls Tryd.prog 85 #[.agg #[.bool false, bs, .slice ka kl kc], .int .i64 (d : Int), .pointer (some ⟨e, 0, none⟩), .pointer (some ⟨k, 0, none⟩)] w fun r w' => r = .returned (.tuple #[.int .i64 0, .int .i64 40]) ∧ Fr [g] w w' := by
  have C1 := C.alloc (.cells #[.bool false, bs, .slice ka kl kc] 77)
  have hg := blk_lt C.cg
  have he := blk_cell C1.ce 0
  simp at he
  have HC := hid C1
  have HN := hid (blk_new w (.cells #[.bool false, bs, .slice ka kl kc] 77))
  have hne : ¬ w.heap.size = g := by omega
  clear C C1
  go_enter Tryd.func85, Tryd.ntmps85
  go_wp2_with fail
  refine (gate_yes _ HC.out.cg hd hc).mono ?_
  rintro r w1 ⟨rfl, h1, f1⟩
  have hb := f1.at HN.out (by simpa using hne)
  have hb0 := blk_cell hb 0
  have hb1 := blk_cell hb 1
  have hb2 := blk_cell hb 2
  simp at hb0 hb1 hb2
  have F1 := hid f1
  clear hb f1 h1
  go_wp2
  go_ret2
  exact ⟨rfl, ((Fr.refl _ _).alloc _).trans F1.out⟩

theorem strL_small {b : List Nat} {x : Nat} (h : b = [x]) (hx : x < 128) : (strL b).length = 1 := by
  subst h; unfold strL; rw [if_pos ⟨rfl, by simpa using hx⟩]; rfl
theorem strL_big {b : List Nat} (h : ¬ (b.length = 1 ∧ b.headD 0 < 128)) : strL b = headL 128 b.length ++ b := by unfold strL; rw [if_neg h]

set_option maxRecDepth 20000 in
set_option maxHeartbeats 800000 in
theorem walk_str (w0 w : World) {T g e k c d : Nat} (C : Clo w 85 T g e k c) (hf : Fr [] w0 w) (hg0 : w0.heap.size ≤ g) {bs : Value} {b : List Nat} (hr : Rd w0 bs (bv b)) (hb : By b) (hl : b.length ≤ 140737488355328) (ka : Option Addr) (kc : Nat) (hd : d ≤ 16) (hc : c < 4096) :
    Calls Tryd.prog 85 #[.agg #[.bool false, bs, .slice ka 0 kc], .int .i64 (d : Int), .pointer (some ⟨e, 0, none⟩), .pointer (some ⟨k, 0, none⟩)] w fun r w' => r = .returned (.tuple #[.int .i64 ((strL b).length : Int), .int .i64 0]) ∧ w'.heap[g]? = some (.cells #[.int .i64 ((c + 1 : Nat) : Int)] 3 (0, 0)) ∧ Fr [g] w w' := by
  obtain ⟨ba, bc, hbs⟩ := hr.form
  rw [bv_len] at hbs
  subst hbs
  have C1 := C.alloc (.cells #[.bool false, .slice ba b.length bc, .slice ka 0 kc] 77)
  have hg := blk_lt C.cg
  have he := blk_cell C1.ce 0
  simp at he
  have HC := hid C1
  have HN := hid (blk_new w (.cells #[.bool false, .slice ba b.length bc, .slice ka 0 kc] 77))
  have hne : ¬ w.heap.size = g := by omega
  have FA := hid ((Fr.refl [g] w).alloc (.cells #[.bool false, .slice ba b.length bc, .slice ka 0 kc] 77))
  have HF := hid hf
  have HR := hid hr
  have HB := hid hb
  obtain ⟨S, hS⟩ : ∃ S, S = (strL b).length := ⟨_, rfl⟩
  rw [← hS]
  have HS := hid hS
  clear C C1 hf hr hb hS
  go_enter Tryd.func85, Tryd.ntmps85
  go_wp2_with fail
  refine (gate_yes _ HC.out.cg hd hc).mono ?_
  rintro r w1 ⟨rfl, h1, f1⟩
  have hbk := f1.at HN.out (by simpa using hne)
  have hb0 := blk_cell hbk 0
  have hb1 := blk_cell hbk 1
  have hb2 := blk_cell hbk 2
  simp at hb0 hb1 hb2
  have F1 := hid (FA.out.trans f1)
  have H1 := hid h1
  have R1 : Hid (Rd w1 (.slice ba b.length bc) (bv b)) := HR.out.fr ((HF.out.mono (S' := [g]) (by simp)).trans F1.out |>.shed (fun x hx hlt => by simp at hx; omega))
  clear hbk f1 h1
  go_wp2_with fail
  refine wp_loop_rounds 1 ?_
  rw [rounds_succ]
  by_cases hs : b.length = 1 ∧ b.headD 0 < 128
  · obtain ⟨x, hx⟩ : ∃ x, b = [x] := by
      rcases b with _ | ⟨x, _ | ⟨y, r⟩⟩
      · simp at hs
      · exact ⟨x, rfl⟩
      · simp at hs
    have hx1 : x < 128 := by rw [hx] at hs; simpa using hs.2
    have HSV := hid (HS.out.trans (strL_small hx hx1))
    subst hx
    rcases R1.out.split with ⟨h0, _⟩ | ⟨q, off, c', hv, _, _, hcell⟩
    · cases h0
    · simp only [List.length_singleton] at hv
      cases hv
      have hc0 := hcell 0 x rfl
      rw [Nat.add_zero] at hc0
      simp only [List.length_singleton] at hb0 hb1 hb2 ⊢
      go_wp2_with fail
      refine (head_small w1 _ hc0 hx1).mono ?_
      rintro r w2 ⟨rfl, f2⟩
      have F2 := hid f2
      clear f2
      go_wp2
      go_ret2
      exact ⟨by rw [HSV.out]; rfl, F2.out.at H1.out (by simp), F1.out.trans (F2.out.mono (by simp))⟩
  · have hsb := strL_big hs
    have hlen : (strL b).length = (headL 128 b.length).length + b.length := by rw [hsb, List.length_append]
    have hh := headL_len 128 b.length
    obtain ⟨H, hH⟩ : ∃ H, H = headL 128 b.length := ⟨_, rfl⟩
    rw [← hH] at hh hlen
    have HH := hid hH
    have HSV := hid (HS.out.trans hlen)
    clear hH hsb hlen
    go_wp2_with fail
    refine (head_str w1 _ _ b.length hl ?_).mono ?_
    · intro h1
      rcases R1.out.split with ⟨h0, _⟩ | ⟨q, off, c', hv, _, _, hcell⟩
      · rw [h0] at h1; cases h1
      · rw [h1] at hv
        rcases b with _ | ⟨x, r⟩
        · cases h1
        · refine ⟨q, off, c', x, by rw [h1]; exact hv, by have := hcell 0 x rfl; rwa [Nat.add_zero] at this, ?_, HB.out x (by simp)⟩
          rcases Nat.lt_or_ge x 128 with h | h
          · exact absurd ⟨h1, by simpa using h⟩ hs
          · exact h
    · rintro r w2 ⟨v2, rfl, o2, f2⟩
      rw [← HH.out] at o2
      obtain ⟨a2, c2, rfl, _⟩ := ownsRow_slice o2
      have F2 := hid f2
      clear f2 o2
      go_wp2
      go_ret2
      exact ⟨by rw [HSV.out, Int.natCast_add]; rfl, F2.out.at H1.out (by simp), F1.out.trans (F2.out.mono (by simp))⟩
end Go.Proofs.YtmpfnglcmaollaaDoor
namespace Go.Proofs.YtmpfnglcmaollaaDoor
open Go.ChangeShapes Go.WideShapes Go.ChangeAt Go.RowKit

theorem firstBad_drop {α : Type} (f : α → Nat) {ks : List α} {j : Nat} {k : α} (h : ks[j]? = some k) : firstBad f (ks.drop j) = if f k = 0 then firstBad f (ks.drop (j + 1)) else f k := by
  have hj : j < ks.length := (List.getElem?_eq_some_iff.1 h).1
  rw [List.drop_eq_getElem_cons hj, (List.getElem?_eq_some_iff.1 h).2]; rfl
theorem flatMap_take {α : Type} (f : α → List Nat) {ks : List α} {j : Nat} {k : α} (h : ks[j]? = some k) : ((ks.take (j + 1)).flatMap f).length = ((ks.take j).flatMap f).length + (f k).length := by
  rw [List.take_add_one, h]; simp [List.flatMap_append]
theorem flatMap_take_le {α : Type} (f : α → List Nat) (ks : List α) (j : Nat) : ((ks.take j).flatMap f).length ≤ (ks.flatMap f).length := by
  have := congrArg (fun l => (l.flatMap f).length) (List.take_append_drop j ks)
  simp only [List.flatMap_append, List.length_append] at this
  omega
theorem sum_take {α : Type} (f : α → Nat) {ks : List α} {j : Nat} {k : α} (h : ks[j]? = some k) : ((ks.take (j + 1)).map f).sum = ((ks.take j).map f).sum + f k := by
  rw [List.take_add_one, h]; simp [List.map_append]
theorem sum_take_le {α : Type} (f : α → Nat) (ks : List α) (j : Nat) : ((ks.take j).map f).sum ≤ (ks.map f).sum := by
  have := congrArg (fun l => (l.map f).sum) (List.take_append_drop j ks)
  simp only [List.map_append, List.sum_append] at this
  omega

set_option maxRecDepth 20000 in
set_option maxHeartbeats 1600000 in
theorem walk_list (w0 w : World) {T g e k c d n : Nat} (C : Clo w 85 T g e k c) (hf : Fr [] w0 w) (hg0 : w0.heap.size ≤ g) (ba : Option Addr) (bc : Nat) {ks : List (Tr n)} {ka : Option Addr} {kc : Nat} (hkl : ks.length ≤ 140737488355328)
    (hks : 0 < ks.length → ∃ kb ko, ka = some ⟨kb, ko, none⟩ ∧ ∀ (j : Nat) (x : Tr n), ks[j]? = some x → ∃ l bs' is', w0.cell? ⟨kb, ko + j * 3, none⟩ = some (.bool l) ∧ w0.cell? ⟨kb, ko + j * 3 + 1, none⟩ = some bs' ∧ w0.cell? ⟨kb, ko + j * 3 + 2, none⟩ = some is' ∧ IsV w0 n (.agg #[.bool l, bs', is']) x)
    (ih : ∀ x ∈ ks, ∀ (w : World) (v : Value) (c : Nat), IsV w0 n v x → Fr [] w0 w → Clo w 85 T g e k c → c + cnt n x ≤ 4096 → Calls Tryd.prog 85 #[v, .int .i64 ((d + 1 : Nat) : Int), .pointer (some ⟨e, 0, none⟩), .pointer (some ⟨k, 0, none⟩)] w fun r w' => Told n (d + 1) x g c r w' ∧ Fr [g] w w')
    (hd : d ≤ 16) (hc : c + 1 + (ks.map (cnt n)).sum ≤ 4096) (hP : (ks.flatMap (enc n)).length ≤ 1000000) :
    Calls Tryd.prog 85 #[.agg #[.bool true, .slice ba 0 bc, .slice ka ks.length kc], .int .i64 (d : Int), .pointer (some ⟨e, 0, none⟩), .pointer (some ⟨k, 0, none⟩)] w fun r w' =>
      ((firstBad (bad n (d + 1)) ks = 0 ∧ r = .returned (.tuple #[.int .i64 ((headL 192 (ks.flatMap (enc n)).length).length + (ks.flatMap (enc n)).length : Int), .int .i64 0]) ∧ w'.heap[g]? = some (.cells #[.int .i64 ((c + 1 + (ks.map (cnt n)).sum : Nat) : Int)] 3 (0, 0))) ∨
       (firstBad (bad n (d + 1)) ks ≠ 0 ∧ r = .returned (.tuple #[.int .i64 0, .int .i64 (firstBad (bad n (d + 1)) ks : Int)]))) ∧ Fr [g] w w' := by
  have C1 := C.alloc (.cells #[.bool true, .slice ba 0 bc, .slice ka ks.length kc] 77)
  have hg := blk_lt C.cg
  have he := blk_cell C1.ce 0
  simp at he
  have HC := hid C1
  have HN := hid (blk_new w (.cells #[.bool true, .slice ba 0 bc, .slice ka ks.length kc] 77))
  have hne : ¬ w.heap.size = g := by omega
  have FA := hid ((Fr.refl [g] w).alloc (.cells #[.bool true, .slice ba 0 bc, .slice ka ks.length kc] 77))
  have HF := hid hf
  have HK := hid hks
  have IH := hid ih
  obtain ⟨B, hB⟩ : ∃ B, B = firstBad (bad n (d + 1)) ks := ⟨_, rfl⟩
  obtain ⟨P, hPP⟩ : ∃ P, P = (ks.flatMap (enc n)).length := ⟨_, rfl⟩
  obtain ⟨H, hH⟩ : ∃ H, H = headL 192 P := ⟨_, rfl⟩
  have hh := headL_len 192 P
  rw [← hH] at hh
  rw [← hB, ← hPP, ← hH]
  rw [← hPP] at hP
  have HB := hid hB
  have HPP := hid hPP
  have HH := hid hH
  have hcell := blk_cell C1.ck 0
  simp at hcell
  obtain ⟨L, hL⟩ : ∃ L, L = ks.length := ⟨_, rfl⟩
  rw [← hL] at HN HC hkl he ⊢
  rw [← hL] at FA HK
  have HL := hid hL
  clear C C1 hf hks ih hB hPP hH hL hcell
  have hc1 : c < 4096 := by omega
  go_enter Tryd.func85, Tryd.ntmps85
  go_wp2_with fail
  refine (gate_yes _ HC.out.cg hd hc1).mono ?_
  rintro r w1 ⟨rfl, h1, f1⟩
  have hbk := f1.at HN.out (by simpa using hne)
  have hb0 := blk_cell hbk 0
  have hb1 := blk_cell hbk 1
  have hb2 := blk_cell hbk 2
  simp at hb0 hb1 hb2
  have F1 := hid (FA.out.trans f1)
  have H1 := hid (HC.out.step f1 h1)
  have HBK := hid hbk
  clear hbk f1 h1
  go_wp2_with fail
  go_loopw [9, 45] (fun v9 v45 wr => ∃ (j p : Nat), j ≤ L ∧ v45 = .int .i64 (j : Int) ∧ v9 = .int .i64 (p : Int) ∧ p = ((ks.take j).flatMap (enc n)).length ∧ B = firstBad (bad n (d + 1)) (ks.drop j) ∧ Clo wr 85 T g e k (c + 1 + ((ks.take j).map (cnt n)).sum) ∧ Fr [g] w1 wr) (fun _ v45 _ => L - (intOf v45).toNat)
  case atStart => exact ⟨0, 0, by omega, rfl, rfl, rfl, HB.out, H1.out, Fr.refl _ _⟩
  case round =>
    obtain ⟨j, p, hj, rfl, rfl, hp, hbj, hclo, hfr⟩ := hrel
    have hpl : p ≤ P := by rw [hp, HPP.out]; exact flatMap_take_le _ _ _
    have HP2 := hid hp
    have HBJ := hid hbj
    have HCL := hid hclo
    have HFR := hid hfr
    clear hp hbj hclo hfr
    by_cases hjl : j < L
    · obtain ⟨x, hx⟩ : ∃ x, ks[j]? = some x := ⟨_, List.getElem?_eq_getElem (by rw [← HL.out]; exact hjl)⟩
      have hxm : x ∈ ks := List.mem_of_getElem? hx
      obtain ⟨kb, ko, hka, hel⟩ := HK.out (by omega)
      subst hka
      obtain ⟨l, bs', is', e1, e2, e3, e4⟩ := hel j x hx
      obtain ⟨x1, x2, x3, x4, x5, x6, rfl, rfl⟩ := e4.cells
      have f0 : Fr [] w0 wr := (((HF.out.mono (S' := [g]) (by simp)).trans F1.out).trans HFR.out).shed (fun y hy hlt => by simp at hy; omega)
      have c1 := cell_fr e1 f0
      have c2 := cell_fr e2 f0
      have c3 := cell_fr e3 f0
      have hfz : Hid (Fr [] w0 (wr.alloc (.cells #[.bool l, .slice x1 x2 x3, .slice x4 x5 x6] 77))) := f0.alloc _
      have HC2 := hid (HCL.out.alloc (.cells #[.bool l, .slice x1 x2 x3, .slice x4 x5 x6] 77))
      have hck := blk_cell HC2.out.ck 0
      simp at hck
      have hsum := sum_take (cnt n) hx
      have hsle := sum_take_le (cnt n) ks (j + 1)
      have hct : c + 1 + ((ks.take j).map (cnt n)).sum + cnt n x ≤ 4096 := by omega
      have E4 := hid e4
      have FR2 := hid (HFR.out.alloc (.cells #[.bool l, .slice x1 x2 x3, .slice x4 x5 x6] 77))
      have hxe := flatMap_take (enc n) hx
      have hxl := flatMap_take_le (enc n) ks (j + 1)
      have hfd := firstBad_drop (bad n (d + 1)) hx
      have hbl := bad_le n (d + 1) x
      obtain ⟨q, hq⟩ : ∃ q, q = (enc n x).length := ⟨_, rfl⟩
      obtain ⟨bx, hbx⟩ : ∃ bx, bx = bad n (d + 1) x := ⟨_, rfl⟩
      rw [← hq, ← HP2.out] at hxe
      rw [← HPP.out, hxe] at hxl
      rw [← hbx] at hbl hfd
      have HQ := hid hq
      have HBX := hid hbx
      have HXE := hid hxe
      have HFD := hid hfd
      have HSUM := hid hsum
      clear e1 e2 e3 e4 f0 hel hsum hsle hxe hfd hq hbx
      go_wp2_with fail
      refine (IH.out x hxm _ _ _ E4.out hfz.out HC2.out hct).mono ?_
      rintro r w2 ⟨hT, f2⟩
      have F2 := hid (FR2.out.trans f2)
      unfold Told at hT
      rw [← HQ.out, ← HBX.out] at hT
      rcases hT with ⟨t1, rfl, t3⟩ | ⟨t1, rfl⟩
      · have CL2 := hid (HC2.out.step f2 t3)
        rw [t1, if_pos rfl] at HFD
        clear f2 t3
        go_wp2_with fail
        go_roundw
        case rel => go_light; exact ⟨j + 1, p + q, by omega, by go_num, by go_num, HXE.out.symm, HBJ.out.trans HFD.out, by rw [HSUM.out, ← Nat.add_assoc]; exact CL2.out, F2.out⟩
        case measure => go_light; simp [intOf]; omega
      · have hz : ((bx : Int) == 0) = false := beq_eq_false_iff_ne.2 (by omega)
        have HT1 := hid t1
        rw [if_neg t1] at HFD
        have HBB := hid (HBJ.out.trans HFD.out)
        clear f2
        go_wp2_with fail
        go_ret2
        exact ⟨.inr ⟨by rw [HBB.out]; exact HT1.out, by rw [HBB.out]; rfl⟩, F1.out.trans F2.out⟩
    · have hjL : j = L := by omega
      subst hjL
      have hpP : p = P := by rw [HP2.out, HPP.out, List.take_of_length_le (by rw [HL.out]; exact Nat.le_refl _)]
      have hB0 : B = 0 := by rw [HBJ.out, List.drop_eq_nil_of_le (by rw [HL.out]; exact Nat.le_refl _)]; rfl
      have hcg := HCL.out.cg
      rw [List.take_of_length_le (by rw [HL.out]; exact Nat.le_refl _)] at hcg
      have HCG := hid hcg
      have HB0 := hid hB0
      have hbk := HFR.out.at HBK.out (by simpa using hne)
      have hd0 := blk_cell hbk 0
      have hd1 := blk_cell hbk 1
      have hd2 := blk_cell hbk 2
      simp at hd0 hd1 hd2
      clear hcg hB0 hbk
      subst hpP
      go_wp2_with fail
      refine (head_list wr _ _ p (by omega)).mono ?_
      rintro r w2 ⟨v2, rfl, o2, f2⟩
      rw [← HH.out] at o2
      obtain ⟨a2, c2, rfl, _⟩ := ownsRow_slice o2
      have F2 := hid f2
      clear f2 o2
      go_wp2_with fail
      go_ret2
      exact ⟨.inl ⟨HB0.out, rfl, F2.out.at HCG.out (by simp)⟩, (F1.out.trans HFR.out).trans (F2.out.mono (by simp))⟩
end Go.Proofs.YtmpfnglcmaollaaDoor
