/-
  The walk of the closure in First of package rlp over a list's items.
-/
import Derived.Test.YtbbaaegfbbjnjaaDoorRe3
namespace Go.Proofs.YtbbaaegfbbjnjaaDoor
open Go.ChangeShapes Go.WideShapes Go.ChangeAt Go.RowKit

/-- What a round keeps. -/
structure RL (w wr : World) (T g e k n : Nat) (b : List Nat) (s en N P X F : Nat) (R : Except Nat (List (Tr (n + 3)) × Nat)) (at_ : Nat) (ts : List (Tr (n + 3))) (cs : List Value) (vi : Value) (c' g' : Nat) : Prop where
  sl : s ≤ at_
  le : at_ ≤ en
  hX : wr.heap[X]? = some (.cells #[.bool true, .slice none 0 0, vi] 44 (0, 0))
  hP : wr.heap[P]? = some (.cells #[.bool true, .int .i64 (s : Int), .int .i64 (en : Int)] 77 (0, 0))
  hN : wr.heap[N]? = some (.cells #[.bool false, .slice none 0 0, .slice none 0 0] 44 (0, 0))
  own : wr.ownsRow (X + 1) 44 3 vi ts.length cs
  kids : KidsF wr X vi.ownBlock (n + 3) ts cs
  clo : Clo wr F T g e k c'
  fr : Fr [g] w wr
  fuel : en - at_ ≤ g'
  all : R = ahead ts (itemsR (rdT n) g' ((b.take en).drop at_) c')
  cl : c' ≤ 4096
  tl : ts.length ≤ at_

/-- Behind the call and the new variable of a round, in whichever order. -/
structure R6 (wr w6 : World) (g Y n : Nat) (res : Except Nat (Tr (n + 3) × Nat × Nat)) (l : Bool) (s1 s2 : Value) (kk ee : Nat) : Prop where
  fr : Fr [g] wr w6
  hY : w6.heap[Y]? = some (.cells #[.bool false, .slice none 0 0, .slice none 0 0] 44 (0, 0))
  ge : wr.heap.size ≤ Y
  told : (∃ e, res = .error e ∧ ee = e) ∨ ∃ t k c', res = .ok (t, k, c') ∧ ee = 0 ∧ kk = k ∧ (∃ B E, wr.heap.size ≤ B ∧ E ≤ w6.heap.size ∧ (Y < B ∨ E ≤ Y) ∧ IsF w6 B E (n + 3) (.agg #[.bool l, s1, s2]) t) ∧ w6.heap[g]? = some (.cells #[.int .i64 (c' : Int)] 3 (0, 0))
theorem ReadT.parts {B n g : Nat} {res : Except Nat (Tr (n + 3) × Nat × Nat)} {r : Ending} {w' : World} (h : ReadT B n res g r w') : ∃ l a1 n1 c1 a2 n2 c2, ∃ kk ee : Nat, r = .returned (.tuple #[.agg #[.bool l, .slice a1 n1 c1, .slice a2 n2 c2], .int .i64 (kk : Int), .int .i64 (ee : Int)]) ∧
    ((∃ e, res = .error e ∧ ee = e) ∨ ∃ t k c', res = .ok (t, k, c') ∧ ee = 0 ∧ kk = k ∧ IsF w' B w'.heap.size (n + 3) (.agg #[.bool l, .slice a1 n1 c1, .slice a2 n2 c2]) t ∧ w'.heap[g]? = some (.cells #[.int .i64 (c' : Int)] 3 (0, 0))) := by
  rcases res with x | ⟨t, k, c'⟩
  · exact ⟨_, _, _, _, _, _, _, 0, x, h, .inl ⟨x, rfl, rfl⟩⟩
  · obtain ⟨v5, h5, h6, h7⟩ := h
    obtain ⟨l, a1, n1, c1, a2, n2, c2, rfl⟩ := h6.isV.agg
    exact ⟨l, a1, n1, c1, a2, n2, c2, k, 0, h5, .inr ⟨t, k, c', rfl, rfl, rfl, h6, h7⟩⟩

/-- What is told of a list. -/
def ListT (B g en n : Nat) (R : Except Nat (List (Tr (n + 3)) × Nat)) (r : Ending) (w' : World) : Prop := match R with
  | .error x => r = .returned (.tuple #[.agg #[.bool false, .slice none 0 0, .slice none 0 0], .int .i64 0, .int .i64 (x : Int)])
  | .ok (ks, c') => ∃ v, r = .returned (.tuple #[v, .int .i64 (en : Int), .int .i64 0]) ∧ IsF w' B w'.heap.size (n + 4) v (mkT true [] ks) ∧ w'.heap[g]? = some (.cells #[.int .i64 (c' : Int)] 3 (0, 0))

theorem take_drop_ne {b : List Nat} {at_ en : Nat} (h : at_ < en) (he : en ≤ b.length) : (b.take en).drop at_ ≠ [] := fun e => by
  have := congrArg List.length e
  rw [mid_len b he] at this
  simp at this; omega

set_option maxRecDepth 20000 in
set_option maxHeartbeats 1600000 in
theorem read_list (w : World) {T g e k c d n : Nat} (C : Clo w 37 T g e k c) {v : Value} {b : List Nat} (hr : Rd w v (bv b)) (hb : By b) (h0 : b ≠ []) (hl : b.length ≤ 100000) (hd : d ≤ 16) (hc : c < 4096) {s en : Nat} (hx : hdr b = .ok (true, s, en)) (hn : n ≤ 15)
    (ih : ∀ (w1 : World) (v1 : Value) (b1 : List Nat) (c1 : Nat), Rd w1 v1 (bv b1) → By b1 → b1 ≠ [] → b1.length ≤ 100000 → Clo w1 37 T g e k c1 → c1 ≤ 4096 → Calls Tryd.prog 37 #[v1, .int .i64 ((d : Int) + 1), .pointer (some ⟨e, 0, none⟩), .pointer (some ⟨k, 0, none⟩)] w1 fun r w' => ReadT w1.heap.size n (rdT n b1 c1) g r w' ∧ Fr [g] w1 w') :
    Calls Tryd.prog 37 #[v, .int .i64 (d : Int), .pointer (some ⟨e, 0, none⟩), .pointer (some ⟨k, 0, none⟩)] w fun r w' => ListT w.heap.size g en n (itemsR (rdT n) (en - s) ((b.take en).drop s) (c + 1)) r w' ∧ Fr [g] w w' := by
  obtain ⟨p1, p2, p3, p4, _, p6, _⟩ := hdr_ok hb hx h0
  have C1 := C.alloc (.cells #[.bool false, .slice none 0 0, .slice none 0 0] 44)
  have hg := blk_lt C.cg
  have he := blk_cell C1.ce 0
  simp at he
  have HC := hid C1
  have F0 := hid ((Fr.refl [g] w).alloc (.cells #[.bool false, .slice none 0 0, .slice none 0 0] 44))
  have HN := hid (blk_new w (.cells #[.bool false, .slice none 0 0, .slice none 0 0] 44))
  have hne : ¬ w.heap.size = g := by omega
  have HG := hid C.cg
  have HC0 := hid C
  have HB := hid hb
  have HX := hid hx
  obtain ⟨q, off, cc, hv, hcc, _⟩ := hr.spot (List.length_pos_iff.2 h0)
  subst hv
  have HR := hid hr
  have IH := hid ih
  obtain ⟨R, hRR⟩ : ∃ R, R = itemsR (rdT n) (en - s) ((b.take en).drop s) (c + 1) := ⟨_, rfl⟩
  rw [← hRR]
  have HRR := hid hRR
  clear C C1 hr hb hx ih hRR
  go_enter Tryd.func37, Tryd.ntmps37
  go_wp2_with fail
  refine (gate_yes _ HC.out.cg hd hc).mono ?_
  rintro r w1 ⟨rfl, h1, f1⟩
  have F1 := hid (F0.out.trans f1)
  have hbk := f1.at HN.out (by simpa using hne)
  have HBK := hid hbk
  have H1 := hid (HC.out.step f1 h1)
  clear f1 h1 hbk
  go_wp2_with fail
  refine (find_c w1 (HR.out.frg F1.out HG.out) HB.out h0 hl).mono ?_
  rintro r w2 ⟨hF, f2⟩
  rw [HX.out] at hF
  obtain rfl : r = _ := hF
  have F2 := hid (F1.out.trans (f2.mono (S' := [g]) (by simp)))
  have HBK2 := hid (f2.at HBK.out (by simp))
  have H2 := hid (H1.out.step (f2.mono (S' := [g]) (by simp)) (f2.at H1.out.cg (by simp)))
  have hlt : w.heap.size < w2.heap.size := blk_lt HBK2.out
  have hgt : g < w2.heap.size := blk_lt H2.out.cg
  have hkt : k < w2.heap.size := blk_lt H2.out.ck
  obtain ⟨P, hP⟩ : ∃ P, P = w2.heap.size := ⟨_, rfl⟩
  clear f2
  go_wp2_with fail
  have RL0 : Hid (RL w ((w2.alloc (.cells #[.bool true, .int .i64 (s : Int), .int .i64 (en : Int)] 77)).alloc (.cells #[.bool true, .slice none 0 0, .slice none 0 0] 44)) T g e k n b s en w.heap.size P (P + 1) 37 R s [] [] (.slice none 0 0) (c + 1) (en - s)) :=
    ⟨Nat.le_refl _, p2, new_at _ _ (by simp; omega), by rw [blk_old _ _ (by simp; omega)]; exact new_at _ _ hP, by rw [blk_old _ _ (by simp; omega), blk_old _ _ (by omega)]; exact HBK2.out, World.ownsRow_nil _ _ _ _, KidsF.nil _ _ _ _, (H2.out.alloc _).alloc _, (F2.out.alloc _).alloc _, Nat.le_refl _, by rw [HRR.out]; rcases itemsR (rdT n) (en - s) ((b.take en).drop s) (c + 1) with x | ⟨u1, u2⟩ <;> rfl, by omega, Nat.zero_le _⟩
  rw [← hP]
  have hPk : k < P := by omega
  have hPg : g < P := by omega
  have hPN : w.heap.size < P := by omega
  clear hP hlt hgt hkt
  go_loopw [13] (fun v13 wr => ∃ (at_ : Nat) (ts : List (Tr (n + 3))) (cs : List Value) (vi : Value) (c' g' : Nat), v13 = .int .i64 (at_ : Int) ∧ RL w wr T g e k n b s en w.heap.size P (P + 1) 37 R at_ ts cs vi c' g') (fun v13 _ => en - (intOf v13).toNat)
  case atStart => exact ⟨s, [], [], .slice none 0 0, c + 1, en - s, rfl, RL0.out⟩
  case round =>
    obtain ⟨at_, ts, cs, vi, c', g', rfl, hRL⟩ := hrel
    have HRL := hid hRL
    have hle := hRL.le
    have hsl := hRL.sl
    have hp2 := blk_cell hRL.hP 2
    simp at hp2
    clear hRL
    by_cases hat : at_ < en
    · have hM0 := take_drop_ne hat p3
      have hMl := mid_len b (s := at_) p3
      obtain ⟨M, hM⟩ : ∃ M, M = (b.take en).drop at_ := ⟨_, rfl⟩
      rw [← hM] at hM0 hMl
      have HM := hid hM
      have HM0 := hid hM0
      have HML := hid hMl
      have hMB : Hid (By M) := by rw [hM]; exact (HB.out.take en).drop at_
      have HMR : Hid (Rd wr (.slice (some ⟨q, off + at_, none⟩) (en - at_) (cc - at_)) (bv M)) := by
        rw [hM, mid_eq]; exact (HR.out.frg HRL.out.fr HG.out).mid (by omega)
      clear hM hM0 hMl
      go_wp2_with fail
      refine wp_region_held_drew (S := fun w' => w'.heap[P]? = some (.cells #[.bool true, .int .i64 (s : Int), .int .i64 (en : Int)] 77 (0, 0)) ∧ w'.heap[k]? = some (.cells #[.func (.func 37) #[] #[.pointer (some ⟨e, 0, none⟩), .pointer (some ⟨k, 0, none⟩)]] T (0, 0))) (by kernel_rfl) ⟨HRL.out.hP, HRL.out.clo.ck⟩ (fun hH => ?_)
      refine wpAnyH_take (i := 0) (v := .func (.func 37) #[] #[.pointer (some ⟨e, 0, none⟩), .pointer (some ⟨k, 0, none⟩)]) rfl (by kernel_rfl) (by kernel_rfl) (by kernel_rfl) (fun _ _ _ h => h) (.inl ⟨by rfl, fun wx h => by have k1 := blk_cell h.2 0; simp at k1; go_simp⟩) hH ?_
      simp only [Act.put]
      refine wpAnyH_take (i := 1) (v := .slice (some ⟨q, off, none⟩) b.length cc) rfl (by kernel_rfl) (by kernel_rfl) (by kernel_rfl) (fun _ _ _ h => h) (.inl ⟨by rfl, fun wx _ => by go_simp⟩) hH ?_
      simp only [Act.put]
      refine wpAnyH_take (i := 2) (v := .int .i64 (at_ : Int)) rfl (by kernel_rfl) (by kernel_rfl) (by kernel_rfl) (fun _ _ _ h => h) (.inl ⟨by rfl, fun wx _ => by go_simp⟩) hH ?_
      simp only [Act.put]
      refine wpAnyH_take (i := 3) (v := .pointer (some ⟨P, 2, none⟩)) rfl (by kernel_rfl) (by kernel_rfl) (by kernel_rfl) (fun _ _ _ h => h) (.inl ⟨by rfl, fun wx _ => by go_simp⟩) hH ?_
      simp only [Act.put]
      refine wpAnyH_take (i := 4) (v := .int .i64 (en : Int)) rfl (by kernel_rfl) (by kernel_rfl) (by kernel_rfl) (fun _ _ _ h => h) (.inl ⟨by rfl, fun wx h => by have k1 := blk_cell h.1 2; simp at k1; go_simp⟩) hH ?_
      simp only [Act.put]
      refine wpAnyH_take (i := 5) (v := .slice (some ⟨q, off + at_, none⟩) (en - at_) (cc - at_)) rfl (by kernel_rfl) (by kernel_rfl) (by kernel_rfl) (fun _ _ _ h => h) (.inl ⟨by rfl, fun wx h => by
        have z1 : (at_ : Int) ≤ (en : Int) := by omega
        have z2 : (en : Int) ≤ (cc : Int) := by omega
        have z3 : en ≤ cc := by omega
        have z4 : ¬ cc = at_ := by omega
        go_simp⟩) hH ?_
      simp only [Act.put]
      refine wpAnyH_take (i := 6) (v := .int .i64 (d : Int)) rfl (by kernel_rfl) (by kernel_rfl) (by kernel_rfl) (fun _ _ _ h => h) (.inl ⟨by rfl, fun wx _ => by go_simp⟩) hH ?_
      simp only [Act.put]
      refine wpAnyH_take (i := 7) (v := .int .i64 ((d : Int) + 1)) rfl (by kernel_rfl) (by kernel_rfl) (by kernel_rfl) (fun _ _ _ h => h) (.inl ⟨by rfl, fun wx _ => by
        have z1 : IntKind.i64.wrap ((d : Int) + 1) = (d : Int) + 1 := by rw [IntKind.wrap_i64]; omega
        go_simp⟩) hH ?_
      simp only [Act.put]
      have HH := hid hH
      clear hH
      refine wpAnyH_ready (rs := [8, 13]) (by kernel_rfl) (by simp) ?_
      refine AllReadyH.cons rfl (fun K hK => ?_) (AllReadyH.cons rfl (fun K hK => ?_) AllReadyH.nil)
      go_simp
      have hCd : Clo wr.drew 37 T g e k c' := HRL.out.clo.step ((Fr.refl [g] wr).drew) HRL.out.clo.cg
      refine (IH.out wr.drew _ M c' (HMR.out.fr ((Fr.refl [] wr).drew)) hMB.out HM0.out (by rw [HML.out]; omega) hCd HRL.out.cl).mono ?_
      rintro r w5 ⟨hT, f5⟩
      have F5 : Hid (Fr [g] wr w5) := ((Fr.refl [g] wr).drew).trans f5
      obtain ⟨l, a1, n1, c1, a2, n2, c2, kk, ee, hr5, hT2⟩ := hT.parts
      clear hT
      subst hr5
      have hS5 := hid (show w5.heap[P]? = some (.cells #[.bool true, .int .i64 (s : Int), .int .i64 (en : Int)] 77 (0, 0)) ∧ w5.heap[k]? = some (.cells #[.func (.func 37) #[] #[.pointer (some ⟨e, 0, none⟩), .pointer (some ⟨k, 0, none⟩)]] T (0, 0)) from ⟨f5.at HH.out.1 (by simp; omega), f5.at HH.out.2 (by simpa using HRL.out.clo.kg)⟩)
      have HT := hid hT2
      clear hT2 f5 hCd
      refine hK.out _ _ hS5.out (fun _ => ?_)
      clear hK K
      refine wpAnyH_take (i := 9) (v := .tuple #[.agg #[.bool l, .slice a1 n1 c1, .slice a2 n2 c2], .int .i64 (kk : Int), .int .i64 (ee : Int)]) rfl (by kernel_rfl) (by kernel_rfl) (by kernel_rfl) (fun _ _ _ h => h) (.inl ⟨by rfl, fun wx _ => by go_simp⟩) hS5.out ?_
      simp only [Act.put]
      refine wpAnyH_take (i := 10) (v := .agg #[.bool l, .slice a1 n1 c1, .slice a2 n2 c2]) rfl (by kernel_rfl) (by kernel_rfl) (by kernel_rfl) (fun _ _ _ h => h) (.inl ⟨by rfl, fun wx _ => by go_simp⟩) hS5.out ?_
      simp only [Act.put]
      refine wpAnyH_take (i := 11) (v := .int .i64 (kk : Int)) rfl (by kernel_rfl) (by kernel_rfl) (by kernel_rfl) (fun _ _ _ h => h) (.inl ⟨by rfl, fun wx _ => by go_simp⟩) hS5.out ?_
      simp only [Act.put]
      refine wpAnyH_take (i := 12) (v := .int .i64 (ee : Int)) rfl (by kernel_rfl) (by kernel_rfl) (by kernel_rfl) (fun _ _ _ h => h) (.inl ⟨by rfl, fun wx _ => by go_simp⟩) hS5.out ?_
      simp only [Act.put]
      refine wpAnyH_ready (rs := [13]) (by kernel_rfl) (by simp) ?_
      refine AllReadyH.cons rfl (fun K hK => ?_) AllReadyH.nil
      go_simp
      obtain ⟨Y, hY⟩ : ∃ Y, Y = w5.heap.size := ⟨_, rfl⟩
      have h6 : Hid (R6 wr (w5.alloc (.cells #[.bool false, .slice none 0 0, .slice none 0 0] 44)) g Y n (rdT n M c') l (.slice a1 n1 c1) (.slice a2 n2 c2) kk ee) := by
        refine ⟨F5.out.alloc _, new_at _ _ hY, by rw [hY]; exact F5.out.size, ?_⟩
        rcases HT.out with h | ⟨t, k', c'', h1, h2, h3, h4, h5⟩
        · exact .inl h
        · refine .inr ⟨t, k', c'', h1, h2, h3, ⟨wr.heap.size, w5.heap.size, Nat.le_refl _, by simp, .inr (by omega), ?_⟩, by rw [blk_old _ _ (blk_lt h5)]; exact h5⟩
          exact h4.step fun j _ hj => blk_old _ _ hj
      have hS6 := hid (show (w5.alloc (.cells #[.bool false, .slice none 0 0, .slice none 0 0] 44)).heap[P]? = some (.cells #[.bool true, .int .i64 (s : Int), .int .i64 (en : Int)] 77 (0, 0)) ∧ (w5.alloc (.cells #[.bool false, .slice none 0 0, .slice none 0 0] 44)).heap[k]? = some (.cells #[.func (.func 37) #[] #[.pointer (some ⟨e, 0, none⟩), .pointer (some ⟨k, 0, none⟩)]] T (0, 0)) from ⟨by rw [blk_old _ _ (blk_lt hS5.out.1)]; exact hS5.out.1, by rw [blk_old _ _ (blk_lt hS5.out.2)]; exact hS5.out.2⟩)
      rw [← hY]
      generalize w5.alloc (.cells #[.bool false, .slice none 0 0, .slice none 0 0] 44) = w6 at h6 hS6 ⊢
      refine hK.out _ _ hS6.out (fun _ => ?_)
      clear hK K hY HT F5 hS5
      rotate_left
      go_simp
      obtain ⟨Y, hY⟩ : ∃ Y, Y = wr.heap.size := ⟨_, rfl⟩
      have hCd : Hid (Clo (wr.drew.alloc (.cells #[.bool false, .slice none 0 0, .slice none 0 0] 44)) 37 T g e k c') := (HRL.out.clo.step ((Fr.refl [g] wr).drew) HRL.out.clo.cg).alloc _
      have hFa : Hid (Fr [] wr (wr.drew.alloc (.cells #[.bool false, .slice none 0 0, .slice none 0 0] 44))) := ((Fr.refl [] wr).drew).alloc _
      have hYa := hid (new_at wr.drew (.cells #[.bool false, .slice none 0 0, .slice none 0 0] 44) hY)
      have hsz : Hid ((wr.drew.alloc (.cells #[.bool false, .slice none 0 0, .slice none 0 0] 44)).heap.size = Y + 1) := by unfold Hid; rw [hY]; simp
      have hSa := hid (show (wr.drew.alloc (.cells #[.bool false, .slice none 0 0, .slice none 0 0] 44)).heap[P]? = some (.cells #[.bool true, .int .i64 (s : Int), .int .i64 (en : Int)] 77 (0, 0)) ∧ (wr.drew.alloc (.cells #[.bool false, .slice none 0 0, .slice none 0 0] 44)).heap[k]? = some (.cells #[.func (.func 37) #[] #[.pointer (some ⟨e, 0, none⟩), .pointer (some ⟨k, 0, none⟩)]] T (0, 0)) from ⟨hFa.out.at HRL.out.hP (by simp), hFa.out.at HRL.out.clo.ck (by simp)⟩)
      have hYY : Hid (wr.heap.size ≤ Y) := by unfold Hid; omega
      rw [← hY]
      try rw [show (wr.alloc (.cells #[.bool false, .slice none 0 0, .slice none 0 0] 44)).drew = wr.drew.alloc (.cells #[.bool false, .slice none 0 0, .slice none 0 0] 44) from rfl]
      generalize wr.drew.alloc (.cells #[.bool false, .slice none 0 0, .slice none 0 0] 44) = w4 at hCd hFa hYa hsz hSa ⊢
      refine hK.out _ _ hSa.out (fun _ => ?_)
      clear hK K hY
      refine wpAnyH_ready (rs := [8]) (by kernel_rfl) (by simp) ?_
      refine AllReadyH.cons rfl (fun K hK => ?_) AllReadyH.nil
      go_simp
      refine (IH.out w4 _ M c' (HMR.out.fr hFa.out) hMB.out HM0.out (by rw [HML.out]; omega) hCd.out HRL.out.cl).mono ?_
      rintro r w6 ⟨hT, f5⟩
      obtain ⟨l, a1, n1, c1, a2, n2, c2, kk, ee, hr5, hT2⟩ := hT.parts
      clear hT
      subst hr5
      have hS6 := hid (show w6.heap[P]? = some (.cells #[.bool true, .int .i64 (s : Int), .int .i64 (en : Int)] 77 (0, 0)) ∧ w6.heap[k]? = some (.cells #[.func (.func 37) #[] #[.pointer (some ⟨e, 0, none⟩), .pointer (some ⟨k, 0, none⟩)]] T (0, 0)) from ⟨f5.at hSa.out.1 (by simp; omega), f5.at hSa.out.2 (by simpa using HRL.out.clo.kg)⟩)
      have h6 : Hid (R6 wr w6 g Y n (rdT n M c') l (.slice a1 n1 c1) (.slice a2 n2 c2) kk ee) := by
        refine ⟨(hFa.out.mono (by simp)).trans f5, f5.at hYa.out (by simp; have := blk_lt HRL.out.clo.cg; have := hYY.out; omega), hYY.out, ?_⟩
        rcases hT2 with h | ⟨t, k', c'', h1, h2, h3, h4, h5⟩
        · exact .inl h
        · exact .inr ⟨t, k', c'', h1, h2, h3, ⟨w4.heap.size, w6.heap.size, by have := hsz.out; have := hYY.out; omega, Nat.le_refl _, .inl (by have := hsz.out; omega), h4⟩, h5⟩
      clear hT2 f5
      refine hK.out _ _ hS6.out (fun _ => ?_)
      clear hK K hFa hYa hsz hSa hCd hYY
      refine wpAnyH_take (i := 9) (v := .tuple #[.agg #[.bool l, .slice a1 n1 c1, .slice a2 n2 c2], .int .i64 (kk : Int), .int .i64 (ee : Int)]) rfl (by kernel_rfl) (by kernel_rfl) (by kernel_rfl) (fun _ _ _ h => h) (.inl ⟨by rfl, fun wx _ => by go_simp⟩) hS6.out ?_
      simp only [Act.put]
      refine wpAnyH_take (i := 10) (v := .agg #[.bool l, .slice a1 n1 c1, .slice a2 n2 c2]) rfl (by kernel_rfl) (by kernel_rfl) (by kernel_rfl) (fun _ _ _ h => h) (.inl ⟨by rfl, fun wx _ => by go_simp⟩) hS6.out ?_
      simp only [Act.put]
      refine wpAnyH_take (i := 11) (v := .int .i64 (kk : Int)) rfl (by kernel_rfl) (by kernel_rfl) (by kernel_rfl) (fun _ _ _ h => h) (.inl ⟨by rfl, fun wx _ => by go_simp⟩) hS6.out ?_
      simp only [Act.put]
      refine wpAnyH_take (i := 12) (v := .int .i64 (ee : Int)) rfl (by kernel_rfl) (by kernel_rfl) (by kernel_rfl) (fun _ _ _ h => h) (.inl ⟨by rfl, fun wx _ => by go_simp⟩) hS6.out ?_
      simp only [Act.put]
      all_goals refine wpAnyH_ready (rs := [14]) (by kernel_rfl) (by simp) ?_
      all_goals refine AllReadyH.cons rfl (fun K hK => ?_) AllReadyH.nil
      all_goals have hd0 := blk_cell h6.out.hY 0
      all_goals have hd1 := blk_cell h6.out.hY 1
      all_goals have hd2 := blk_cell h6.out.hY 2
      all_goals have hf0 := blk_frozen h6.out.hY 0
      all_goals have hf1 := blk_frozen h6.out.hY 1
      all_goals have hf2 := blk_frozen h6.out.hY 2
      all_goals simp at hd0 hd1 hd2
      all_goals go_simp
      all_goals have hY7 := hid (store3 (a := .bool l) (b := .slice a1 n1 c1) (c := .slice a2 n2 c2) h6.out.hY)
      all_goals have hO7 : Hid (∀ j, j ≠ Y → (((w6.setCell ⟨Y, 0, none⟩ (.bool l)).setCell ⟨Y, 1, none⟩ (.slice a1 n1 c1)).setCell ⟨Y, 2, none⟩ (.slice a2 n2 c2)).heap[j]? = w6.heap[j]?) := fun j hj => by rw [blk_setne _ _ _ hj, blk_setne _ _ _ hj, blk_setne _ _ _ hj]
      all_goals have hZ7 : Hid ((((w6.setCell ⟨Y, 0, none⟩ (.bool l)).setCell ⟨Y, 1, none⟩ (.slice a1 n1 c1)).setCell ⟨Y, 2, none⟩ (.slice a2 n2 c2)).heap.size = w6.heap.size ∧ (((w6.setCell ⟨Y, 0, none⟩ (.bool l)).setCell ⟨Y, 1, none⟩ (.slice a1 n1 c1)).setCell ⟨Y, 2, none⟩ (.slice a2 n2 c2)).os = w6.os ∧ (((w6.setCell ⟨Y, 0, none⟩ (.bool l)).setCell ⟨Y, 1, none⟩ (.slice a1 n1 c1)).setCell ⟨Y, 2, none⟩ (.slice a2 n2 c2)).tape = w6.tape ∧ (((w6.setCell ⟨Y, 0, none⟩ (.bool l)).setCell ⟨Y, 1, none⟩ (.slice a1 n1 c1)).setCell ⟨Y, 2, none⟩ (.slice a2 n2 c2)).output = w6.output) := ⟨by simp [World.setCell], rfl, rfl, rfl⟩
      all_goals have hYg := h6.out.ge
      all_goals have hPl := blk_lt HRL.out.hP
      all_goals have hkl := blk_lt HRL.out.clo.ck
      all_goals have hS7 := hid (show (((w6.setCell ⟨Y, 0, none⟩ (.bool l)).setCell ⟨Y, 1, none⟩ (.slice a1 n1 c1)).setCell ⟨Y, 2, none⟩ (.slice a2 n2 c2)).heap[P]? = some (.cells #[.bool true, .int .i64 (s : Int), .int .i64 (en : Int)] 77 (0, 0)) ∧ (((w6.setCell ⟨Y, 0, none⟩ (.bool l)).setCell ⟨Y, 1, none⟩ (.slice a1 n1 c1)).setCell ⟨Y, 2, none⟩ (.slice a2 n2 c2)).heap[k]? = some (.cells #[.func (.func 37) #[] #[.pointer (some ⟨e, 0, none⟩), .pointer (some ⟨k, 0, none⟩)]] T (0, 0)) from ⟨by rw [hO7.out _ (by omega)]; exact hS6.out.1, by rw [hO7.out _ (by omega)]; exact hS6.out.2⟩)
      all_goals generalize (((w6.setCell ⟨Y, 0, none⟩ (.bool l)).setCell ⟨Y, 1, none⟩ (.slice a1 n1 c1)).setCell ⟨Y, 2, none⟩ (.slice a2 n2 c2)) = w7 at hY7 hO7 hZ7 hS7 ⊢
      all_goals refine hK.out _ _ hS7.out (fun _ => ?_)
      all_goals clear hK K hd0 hd1 hd2 hf0 hf1 hf2
      all_goals refine wpAnyH_ready (rs := [15]) (by kernel_rfl) (by simp) ?_
      all_goals refine AllReadyH.cons rfl (fun K hK => ?_) AllReadyH.nil
      all_goals go_simp
      all_goals refine hK.out _ _ hS7.out (fun _ => ?_)
      all_goals clear hK K
      all_goals refine wpAnyH_ready (rs := [16]) (by kernel_rfl) (by simp) ?_
      all_goals refine AllReadyH.cons rfl (fun K hK => ?_) AllReadyH.nil
      all_goals go_simp
      all_goals refine hK.out _ _ hS7.out (fun _ => ?_)
      all_goals clear hK K
      all_goals refine wpAnyH_done (by kernel_rfl) ?_ _
      all_goals clear hPl hkl
      all_goals have F7 : Hid (Fr [g] wr w7) := ⟨hZ7.out.2.1.trans h6.out.fr.os, hZ7.out.2.2.1.trans h6.out.fr.tape, hZ7.out.2.2.2.trans h6.out.fr.output, by rw [hZ7.out.1]; exact h6.out.fr.size, fun j hj hn => by rw [hO7.out j (by omega)]; exact h6.out.fr.block j hj hn⟩
      all_goals have hXl := blk_lt HRL.out.hX
      all_goals have hN7 := hid (F7.out.at HRL.out.hN (by simp; omega))
      all_goals have hX7 := hid (F7.out.at HRL.out.hX (by simp; omega))
      all_goals have hP7 := hid (F7.out.at HRL.out.hP (by simp; omega))
      all_goals have o7 := hid (ownsRow_of_block (w' := w7) HRL.out.own fun j hj => F7.out.block j (HRL.out.own.lt j hj).2 (by have := (HRL.out.own.lt j hj).1; simp; omega))
      all_goals have FW := hid (HRL.out.fr.trans F7.out)
      all_goals have hcl := HRL.out.cl
      all_goals (
        rcases h6.out.told with ⟨y, t1, t2⟩ | ⟨t, k', c'', t1, t2, t3, ⟨B, E, b1, b2, b3, b4⟩, t5⟩
        · subst t2
          have hee : ee ≠ 0 := by
            rcases rdT_err n M c' ee hMB.out HM0.out hcl (by omega) t1 with h | h | h <;> omega
          have hR : Hid (R = .error ee) := by unfold Hid; rw [HRL.out.all, ← HM.out]; exact ahead_err HM0.out (by rw [HML.out]; exact HRL.out.fuel) t1
          have hz : ((ee : Int) == 0) = false := beq_eq_false_iff_ne.2 (by omega)
          have hd0 := blk_cell hN7.out 0
          have hd1 := blk_cell hN7.out 1
          have hd2 := blk_cell hN7.out 2
          have hf0 := blk_frozen hN7.out 0
          have hf1 := blk_frozen hN7.out 1
          have hf2 := blk_frozen hN7.out 2
          simp at hd0 hd1 hd2
          clear t1
          go_wp2
          have K := fin_z (a := .bool false) (b := .slice none 0 0) (c := .slice none 0 0) hN7.out FW.out (Nat.le_refl _)
          exact bodyPost_ret (ret_ctt rfl rfl (load_item K.1)) rfl ⟨by rw [hR.out]; exact rfl, K.2⟩
        · subst t2
          subst t3
          obtain ⟨_, _, k1, k2, _, k4, _⟩ := rdT_inv n M c' t kk c'' (by omega) hMB.out HM0.out hcl t1
          rw [HML.out] at k2
          obtain ⟨g1, hg1, hall⟩ := ahead_ok (ts := ts) HM0.out (by rw [HML.out]; exact HRL.out.fuel) t1
          obtain ⟨ia, ic, hvi, hic⟩ := ownsRow_slice o7.out
          subst hvi
          have e2 := blk_cell hX7.out 2
          have y0 := blk_cell hY7.out 0
          have y1 := blk_cell hY7.out 1
          have y2 := blk_cell hY7.out 2
          simp at e2 y0 y1 y2
          have htl := HRL.out.tl
          have hfu := HRL.out.fuel
          have HT1 := hid t1
          have HALL := hid hall
          have HB4 := hid b4
          have HT5 := hid t5
          have hG8 := hid (blk_new w7 (.cells #[.bool l, .slice a1 n1 c1, .slice a2 n2 c2] 44))
          have o8 := hid (ownsRow_fr o7.out ((Fr.refl [] w7).alloc (.cells #[.bool l, .slice a1 n1 c1, .slice a2 n2 c2] 44)))
          have hX8 := hid (((Fr.refl [] w7).alloc (.cells #[.bool l, .slice a1 n1 c1, .slice a2 n2 c2] 44)).at hX7.out (by simp))
          have hX7l := blk_lt hX7.out
          clear t1 hall b4 t5
          go_wp2_with (
            at_builtin
            refine wpList_append_item rfl _ _ rfl (P + 1 + 1) (by simp; omega) _ _ _ rfl o8.out w7.heap.size rfl hG8.out (by omega) ?_
            intro v9 w9 o9 g9 d9
            have g9' : (w7.alloc (.cells #[.bool l, .slice a1 n1 c1, .slice a2 n2 c2] 44)).grownBy w9 (Value.slice ia ts.length ic).ownBlock := g9
            have d9' : v9.ownBlock = (Value.slice ia ts.length ic).ownBlock ∨ v9.ownBlock = some (w7.alloc (.cells #[.bool l, .slice a1 n1 c1, .slice a2 n2 c2] 44)).heap.size := d9
            have hlow : ∀ j, (Value.slice ia ts.length ic).ownBlock = some j → P + 1 + 1 ≤ j ∧ j < wr.heap.size := fun j hj => HRL.out.own.lt j hj
            have hX9 : w9.heap[P + 1]? = some (.cells #[.bool true, .slice none 0 0, .slice ia ts.length ic] 44 (0, 0)) := by
              rw [g9'.block (P + 1) (blk_lt hX8.out) (fun e => by have := hlow _ e.symm; omega)]; exact hX8.out
            obtain ⟨ja, jc, hv9, _⟩ := ownsRow_slice o9
            subst hv9
            have x2 := blk_cell hX9 2
            have x2f := blk_frozen hX9 2
            simp at x2
            have HX9 := hid hX9
            have G9 := hid g9'
            have D9 := hid d9'
            have O9 := hid o9
            have HLOW := hid hlow
            clear hX9 g9 g9' d9 d9' o9 hlow)
          go_roundw
          case rel =>
            go_light
            refine ⟨at_ + kk, ts ++ [t], cs ++ [.bool l, .slice a1 n1 c1, .slice a2 n2 c2], .slice ja (ts.length + 1) jc, c'', g1, by go_num, ?_⟩
            have hsz9 : w7.heap.size + 1 ≤ w9.heap.size := by have := G9.out.size; simpa using this
            have hstep : ∀ j, j < w7.heap.size → j ≠ P + 1 → (Value.slice ia ts.length ic).ownBlock ≠ some j → (w9.setCell ⟨P + 1, 2, none⟩ (.slice ja (ts.length + 1) jc)).heap[j]? = w7.heap[j]? := fun j hj hjX hjo => by
              rw [blk_setne _ _ _ hjX, G9.out.block j (by simp; omega) (fun e => hjo e.symm), blk_old _ _ hj]
            have hsz10 : (w9.setCell ⟨P + 1, 2, none⟩ (.slice ja (ts.length + 1) jc)).heap.size = w9.heap.size := by simp [World.setCell]
            have hsz7 := hZ7.out.1
            have hno : ∀ j, j < P + 1 + 1 → (Value.slice ia ts.length ic).ownBlock ≠ some j := fun j hj e => by have := HLOW.out j e; omega
            have fr10 : Fr [g] w (w9.setCell ⟨P + 1, 2, none⟩ (.slice ja (ts.length + 1) jc)) :=
              (((FW.out.alloc _).grown G9.out (fun j hj => .inr (by have := HLOW.out j hj; omega))).set _ _ (.inr (by omega)))
            have g10 : (w9.setCell ⟨P + 1, 2, none⟩ (.slice ja (ts.length + 1) jc)).heap[g]? = some (.cells #[.int .i64 (c'' : Int)] 3 (0, 0)) := by
              rw [hstep g (by omega) (by omega) (hno g (by omega)), hO7.out g (by omega)]; exact HT5.out
            refine ⟨by omega, by omega, ?_, ?_, ?_, ?_, ?_, HC0.out.step fr10 g10, fr10, by omega, ?_, k4, by simp; omega⟩
            · rw [blk_set HX9.out]; rfl
            · rw [hstep P (blk_lt hP7.out) (by omega) (hno P (by omega))]; exact hP7.out
            · rw [hstep _ (blk_lt hN7.out) (by omega) (hno _ (by omega))]; exact hN7.out
            · rw [List.length_append]
              refine ownsRow_of_block O9.out fun j hj => blk_setne _ _ _ ?_
              have := (O9.out.lt j hj).1; omega
            · refine KidsF.snoc (B := B) (E := E) ?_ (by omega) (by omega) ?_ ?_
              · refine (HRL.out.kids.step (w' := w7) F7.out.size (fun j hj1 hj2 _ => F7.out.block j hj2 (by simp; omega)) (.inl rfl)).step (by omega) (fun j hj1 hj2 hj3 => hstep j hj2 (by omega) hj3) ?_
                rcases D9.out with h | h
                · exact .inl h
                · right; intro j hj; rw [h] at hj; cases hj; simp
              · intro j hj
                rcases D9.out with h | h
                · rw [h] at hj; have := HLOW.out j hj; left; omega
                · rw [h] at hj; cases hj; right; simp; omega
              · refine HB4.out.step fun j hj1 hj2 => ?_
                rw [hstep j (by omega) (by omega) (fun e => by have := HLOW.out j e; omega), hO7.out j (by omega)]
            · rw [HRL.out.all, ← HM.out, HALL.out, HM.out, List.drop_drop]
          case measure => go_light; simp [intOf]; omega)
    · have hae : at_ = en := by omega
      subst hae
      have hR : Hid (R = .ok (ts, c')) := by
        unfold Hid
        rw [HRL.out.all, List.drop_eq_nil_of_le (by rw [List.length_take]; omega)]
        cases g' <;> show Except.ok (ts ++ [], c') = _ <;> rw [List.append_nil]
      obtain ⟨ia, ic, hvi, hic⟩ := ownsRow_slice HRL.out.own
      subst hvi
      have e0 := blk_cell HRL.out.hX 0
      have e1 := blk_cell HRL.out.hX 1
      have e2 := blk_cell HRL.out.hX 2
      have hd0 := blk_cell HRL.out.hN 0
      have hd1 := blk_cell HRL.out.hN 1
      have hd2 := blk_cell HRL.out.hN 2
      have hf0 := blk_frozen HRL.out.hN 0
      have hf1 := blk_frozen HRL.out.hN 1
      have hf2 := blk_frozen HRL.out.hN 2
      simp at e0 e1 e2 hd0 hd1 hd2
      have htl := HRL.out.tl
      have HI := hid (IsF.list HRL.out.kids HRL.out.own (Nat.lt_succ_self _) (by omega))
      have hXl := blk_lt HRL.out.hX
      go_wp2_with fail
      go_region
      all_goals (try go_wp2)
      all_goals (
        have K := fin_z (W := wr.drew) (a := .bool true) (b := .slice none 0 0) (c := .slice ia ts.length ic) HRL.out.hN HRL.out.fr.drew (Nat.le_refl _)
        refine bodyPost_ret (ret_ctt rfl rfl (load_item K.1)) rfl ⟨?_, K.2⟩
        rw [hR.out]
        have hst : ∀ j, j ≠ w.heap.size → (((wr.drew.setCell ⟨w.heap.size, 0, none⟩ (.bool true)).setCell ⟨w.heap.size, 1, none⟩ (.slice none 0 0)).setCell ⟨w.heap.size, 2, none⟩ (.slice ia ts.length ic)).heap[j]? = wr.heap[j]? := fun j hj => by
          rw [blk_setne _ _ _ hj, blk_setne _ _ _ hj, blk_setne _ _ _ hj]; rfl
        refine ⟨_, rfl, ?_, ?_⟩
        · exact (HI.out.step fun j hj _ => hst j (by omega)).wide (by omega) (by simp [World.setCell])
        · exact (hst g (by omega)).trans HRL.out.clo.cg)
end Go.Proofs.YtbbaaegfbbjnjaaDoor
