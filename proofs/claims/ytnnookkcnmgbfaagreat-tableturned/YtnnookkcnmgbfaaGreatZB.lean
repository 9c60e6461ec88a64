/-
  The document's Look at a data block.
-/
import Derived.Test.YtnnookkcnmgbfaaGreatZA
import Derived.Test.YtnnookkcnmgbfaaGreatBX7
import Derived.Test.YtnnookkcnmgbfaaGreatJ29
import Derived.Test.YtnnookkcnmgbfaaGreatJ03
import Derived.Test.YtnnookkcnmgbfaaGreatXL
namespace Go.Proofs.YtnnookkcnmgbfaaGreat
open Go.ChangeShapes Go.WideShapes Go.ChangeAt Go.RowKit

/-- A table of the document's in memory. -/
structure RT (W : World) (p : Nat) (b : List Nat) (a : Option Addr) (L c : Nat) (ips : Ps) (q off m pc : Nat) (fa : Option Addr) (fn fc : Nat) : Prop where
  blk : W.heap[p]? = some (.cells #[.slice a L c, .slice (some ⟨q, off, none⟩) m pc, .slice fa fn fc] 71 (0, 0))
  rd : Rd W (.slice a L c) (bv b)
  len : m = ips.length
  pts : ∀ j, j < ips.length → ∃ ka kc, W.cell? ⟨q, off + j * 3, none⟩ = some (.slice ka (kA ips j).length kc) ∧ W.cell? ⟨q, off + j * 3 + 1, none⟩ = some (.int .i64 (nxN ips j : Int)) ∧ W.cell? ⟨q, off + j * 3 + 2, none⟩ = some (.int .i64 (szA ips j : Int)) ∧ Rd W (.slice ka (kA ips j).length kc) (bv (kA ips j))
theorem RT.fr {W W' : World} {p : Nat} {b : List Nat} {a : Option Addr} {L c : Nat} {ips : Ps} {q off m pc : Nat} {fa : Option Addr} {fn fc : Nat} (h : RT W p b a L c ips q off m pc fa fn fc) (f : Fr [] W W') : RT W' p b a L c ips q off m pc fa fn fc :=
  ⟨f.at h.blk (by simp), h.rd.fr f, h.len, fun j hj => by
    obtain ⟨ka, kc, h1, h2, h3, h4⟩ := h.pts j hj
    exact ⟨ka, kc, cell_fr f h1, cell_fr f h2, cell_fr f h3, h4.fr f⟩⟩

/-- Which entries a block's bytes are read as, and the error. -/
def PF1 (b : List Nat) (ps : Ps) (E : Nat) : Prop := ((∃ r, Blk b ps r) ∧ E = 0) ∨ ((∀ ps r, ¬ Blk b ps r) ∧ ps = [] ∧ E = 72)
theorem ColO.baseD {W : World} {B B' : Nat} {v : Value} {ps : Ps} (h : ColO W B v ps) (hb : B' ≤ B) : ColO W B' v ps := by
  obtain ⟨cs, o, h2⟩ := h
  refine ⟨cs, own_base o hb, fun j p hj => ?_⟩
  obtain ⟨kv, vv, c0, c1, r0, r1, b0⟩ := h2 j p hj
  exact ⟨kv, vv, c0, c1, own_base r0 hb, own_base r1 hb, b0⟩

set_option maxRecDepth 20000 in
set_option maxHeartbeats 3200000 in
theorem rlook_c (w : World) {p : Nat} {b : List Nat} {a : Option Addr} {L c : Nat} {ips : Ps} {q off m pc : Nat} {fa : Option Addr} {fn fc : Nat} (T : RT w p b a L c ips q off m pc fa fn fc) (hL : b.length = L) (hb : By b) (hl : L ≤ 20000) {i : Nat} (hi : i < ips.length) (_hm : m ≤ 1000000) (ht : nxN ips i + szA ips i + 4 ≤ L) (bk : By (kA ips i)) (hk : isK (kA ips i) = true) {x : Nat} {qs : Ps} (hLk : LookR b (nxN ips i) (szA ips i) (kA ips i) x qs) :
    Calls Tryz.prog 71 #[.pointer (some ⟨p, 0, none⟩), .int .i64 (i : Int)] w fun e w' => ∃ v, e = .returned (.tuple #[v, .int .i64 (x : Int)]) ∧ ColO w' w.heap.size v qs ∧ Fr [] w w' := by
  have hil : (i : Int) < (m : Int) := by have := T.len; omega
  obtain ⟨ka, kc, z0, z1, z2, rk⟩ := T.pts i hi
  have y0 : w.cell? ⟨p, 0, none⟩ = some (.slice a L c) := by rw [blk_cell T.blk]; rfl
  have y1 : w.cell? ⟨p, 1, none⟩ = some (.slice (some ⟨q, off, none⟩) m pc) := by rw [blk_cell T.blk]; rfl
  have HRK := hid rk
  have HT := hid T
  have HBK := hid bk
  have HK := hid hk
  have HB := hid hb
  have HL := hid hL
  generalize htt : nxN ips i = t at *
  generalize hnn : szA ips i = n at *
  generalize hkk : kA ips i = k at *
  have HLK := hid hLk
  obtain ⟨kl, hkl⟩ : ∃ x, x = k.length := ⟨_, rfl⟩
  rw [← hkl] at z0 HRK
  obtain ⟨W1, hW1⟩ : ∃ W, W = w.alloc (.cells #[.slice ka kl kc, .int .i64 (t : Int), .int .i64 (n : Int)] 75) := ⟨_, rfl⟩
  have F1 : Hid (Fr [] w W1) := hid (by rw [hW1]; exact (Fr.refl _ w).alloc _)
  have X1 : Hid (W1.heap[w.heap.size]? = some (.cells #[.slice ka kl kc, .int .i64 (t : Int), .int .i64 (n : Int)] 75 (0, 0))) := hid (by rw [hW1]; exact blk_new _ _)
  have hsq : ∃ qb : Bool, qb = true ↔ SumAt b t n := by
    by_cases h : SumAt b t n
    · exact ⟨true, by simp [h]⟩
    · exact ⟨false, by simp [h]⟩
  obtain ⟨qb, hqb⟩ := hsq
  clear T rk bk hk hb hL hLk hkl htt hnn hkk
  go_enter Tryz.func71, Tryz.ntmps71
  go_upto_region 2 with fail
  rw [← hW1]
  clear hW1 z0 z1 z2 y0 y1
  have S1 : Hid (∀ w', Fr [] W1 w' → (w'.heap[p]? = some (.cells #[.slice a L c, .slice (some ⟨q, off, none⟩) m pc, .slice fa fn fc] 71 (0, 0))) ∧ w'.heap[w.heap.size]? = some (.cells #[.slice ka kl kc, .int .i64 (t : Int), .int .i64 (n : Int)] 75 (0, 0))) := hid (fun w' f => ⟨f.at (F1.out.at HT.out.blk (by simp)) (by simp), f.at X1.out (by simp)⟩)
  obtain ⟨D0, hD⟩ : ∃ W, W = W1.drew := ⟨_, rfl⟩
  have DF : Hid (Fr [] W1 D0) := hid (by rw [hD]; exact (Fr.refl _ W1).drew)
  refine wp_region_held_drew (S := fun w' => (w'.heap[p]? = some (.cells #[.slice a L c, .slice (some ⟨q, off, none⟩) m pc, .slice fa fn fc] 71 (0, 0))) ∧ w'.heap[w.heap.size]? = some (.cells #[.slice ka kl kc, .int .i64 (t : Int), .int .i64 (n : Int)] 75 (0, 0))) (by kernel_rfl) (by rw [← hD]; exact S1.out _ DF.out) (fun hS => ?_)
  rw [← hD] at hS ⊢
  clear hD
  refine wpAnyH_take (i := 0) (v := .pointer (some ⟨p, 0, none⟩)) rfl (by kernel_rfl) (by kernel_rfl) (by kernel_rfl) (fun _ _ _ h => h) (.inl ⟨by rfl, fun wx _ => by go_simp⟩) hS ?_
  simp only [Act.put, List.getElem_toArray, List.getElem_cons_zero, List.set_cons_succ, List.set_cons_zero, List.setIfInBounds_toArray]
  refine wpAnyH_take (i := 1) (v := .pointer (some ⟨p, 0, none⟩)) rfl (by kernel_rfl) (by kernel_rfl) (by kernel_rfl) (fun _ _ _ h => h) (.inl ⟨by rfl, fun wx _ => by go_simp⟩) hS ?_
  simp only [Act.put, List.getElem_toArray, List.getElem_cons_succ, List.getElem_cons_zero, List.set_cons_succ, List.set_cons_zero, List.setIfInBounds_toArray]
  refine wpAnyH_take (i := 2) (v := .pointer (some ⟨p, 0, none⟩)) rfl (by kernel_rfl) (by kernel_rfl) (by kernel_rfl) (fun _ _ _ h => h) (.inl ⟨by rfl, fun wx _ => by go_simp⟩) hS ?_
  simp only [Act.put, List.getElem_toArray, List.getElem_cons_succ, List.getElem_cons_zero, List.set_cons_succ, List.set_cons_zero, List.setIfInBounds_toArray]
  refine wpAnyH_take (i := 3) (v := .slice a L c) rfl (by kernel_rfl) (by kernel_rfl) (by kernel_rfl) (fun _ _ _ h => h) (.inl ⟨by rfl, fun wx hX => by have hy : wx.cell? ⟨p, 0, none⟩ = some (.slice a L c) := (by rw [blk_cell hX.1]; rfl); go_simp⟩) hS ?_
  simp only [Act.put, List.getElem_toArray, List.getElem_cons_succ, List.getElem_cons_zero, List.set_cons_succ, List.set_cons_zero, List.setIfInBounds_toArray]
  refine wpAnyH_take (i := 4) (v := .pointer (some ⟨w.heap.size, 1, none⟩)) rfl (by kernel_rfl) (by kernel_rfl) (by kernel_rfl) (fun _ _ _ h => h) (.inl ⟨by rfl, fun wx _ => by go_simp⟩) hS ?_
  simp only [Act.put, List.getElem_toArray, List.getElem_cons_succ, List.getElem_cons_zero, List.set_cons_succ, List.set_cons_zero, List.setIfInBounds_toArray]
  refine wpAnyH_take (i := 5) (v := .int .i64 (t : Int)) rfl (by kernel_rfl) (by kernel_rfl) (by kernel_rfl) (fun _ _ _ h => h) (.inl ⟨by rfl, fun wx hX => by have hy : wx.cell? ⟨w.heap.size, 1, none⟩ = some (.int .i64 (t : Int)) := (by rw [blk_cell hX.2]; rfl); go_simp⟩) hS ?_
  simp only [Act.put, List.getElem_toArray, List.getElem_cons_succ, List.getElem_cons_zero, List.set_cons_succ, List.set_cons_zero, List.setIfInBounds_toArray]
  refine wpAnyH_take (i := 6) (v := .pointer (some ⟨w.heap.size, 2, none⟩)) rfl (by kernel_rfl) (by kernel_rfl) (by kernel_rfl) (fun _ _ _ h => h) (.inl ⟨by rfl, fun wx _ => by go_simp⟩) hS ?_
  simp only [Act.put, List.getElem_toArray, List.getElem_cons_succ, List.getElem_cons_zero, List.set_cons_succ, List.set_cons_zero, List.setIfInBounds_toArray]
  refine wpAnyH_take (i := 7) (v := .int .i64 (n : Int)) rfl (by kernel_rfl) (by kernel_rfl) (by kernel_rfl) (fun _ _ _ h => h) (.inl ⟨by rfl, fun wx hX => by have hy : wx.cell? ⟨w.heap.size, 2, none⟩ = some (.int .i64 (n : Int)) := (by rw [blk_cell hX.2]; rfl); go_simp⟩) hS ?_
  simp only [Act.put, List.getElem_toArray, List.getElem_cons_succ, List.getElem_cons_zero, List.set_cons_succ, List.set_cons_zero, List.setIfInBounds_toArray]
  clear hS
  refine wpAnyH_ready (rs := [8]) (by kernel_rfl) (by simp) ?_
  refine AllReadyH.cons rfl (fun K hK => ?_) AllReadyH.nil
  go_simp
  refine (rsumAt_c D0 (HT.out.rd.fr (F1.out.trans DF.out)) HL.out HB.out (by omega) ht hqb).mono ?_
  rintro e D1 ⟨rfl, f2⟩
  have F2 := hid (DF.out.trans f2)
  refine hK.out _ _ (S1.out _ F2.out) (fun hS => ?_)
  clear hK K f2 DF
  refine wpAnyH_take (i := 9) (v := .bool (!qb)) rfl (by kernel_rfl) (by kernel_rfl) (by kernel_rfl) (fun _ _ _ h => h) (.inl ⟨by rfl, fun wx _ => by go_simp⟩) hS ?_
  simp only [Act.put, List.getElem_toArray, List.getElem_cons_succ, List.getElem_cons_zero, List.set_cons_succ, List.set_cons_zero, List.setIfInBounds_toArray]
  clear hS
  refine wpAnyH_done (by kernel_rfl) ?_ _
  cases qb
  · have hx : Hid (x = 81 ∧ qs = []) := hid (by
      have hns : ¬ SumAt b t n := fun h => by have := hqb.2 h; cases this
      rcases HLK.out with ⟨h1, _, h3⟩ | ⟨_, h2, _⟩ | ⟨_, h2, _⟩
      · exact ⟨h1, h3⟩
      · exact absurd h2 hns
      · exact absurd h2 hns)
    clear hqb
    go_wp2
    go_ret2
    rw [hx.out.1, hx.out.2]
    exact ⟨_, rfl, ColO.nil _ _, F1.out.trans F2.out⟩
  · have HSU := hid (hqb.1 rfl)
    clear hqb
    obtain ⟨u, hu⟩ : ∃ u, u = t + n := ⟨_, rfl⟩
    have hui : (t : Int) + (n : Int) = (u : Int) := by omega
    have huw : IntKind.i64.wrap (u : Int) = (u : Int) := by rw [IntKind.wrap_i64]; omega
    obtain ⟨ad, hwin, rwin, _⟩ := winB (HT.out.rd.fr (F1.out.trans F2.out)) HL.out (i := t) (m := n) (by omega) (by omega)
    rw [← hu] at hwin
    have HWIN := hid hwin
    have RWIN := hid rwin
    have hwl : ((b.drop t).take n).length = n := by rw [List.length_take, List.length_drop]; have := HL.out; omega
    clear hwin rwin hu
    go_upto_region 4 with fail
    obtain ⟨E0, hE⟩ : ∃ W, W = D1.drew := ⟨_, rfl⟩
    have EF : Hid (Fr [] D1 E0) := hid (by rw [hE]; exact (Fr.refl _ D1).drew)
    refine wp_region_held_drew (S := fun w' => (w'.heap[p]? = some (.cells #[.slice a L c, .slice (some ⟨q, off, none⟩) m pc, .slice fa fn fc] 71 (0, 0))) ∧ w'.heap[w.heap.size]? = some (.cells #[.slice ka kl kc, .int .i64 (t : Int), .int .i64 (n : Int)] 75 (0, 0))) (by kernel_rfl) (by rw [← hE]; exact S1.out _ (F2.out.trans EF.out)) (fun hS => ?_)
    rw [← hE] at hS ⊢
    clear hE
    refine wpAnyH_take (i := 0) (v := .pointer (some ⟨p, 0, none⟩)) rfl (by kernel_rfl) (by kernel_rfl) (by kernel_rfl) (fun _ _ _ h => h) (.inl ⟨by rfl, fun wx _ => by go_simp⟩) hS ?_
    simp only [Act.put, List.getElem_toArray, List.getElem_cons_zero, List.set_cons_succ, List.set_cons_zero, List.setIfInBounds_toArray]
    refine wpAnyH_take (i := 1) (v := .pointer (some ⟨p, 0, none⟩)) rfl (by kernel_rfl) (by kernel_rfl) (by kernel_rfl) (fun _ _ _ h => h) (.inl ⟨by rfl, fun wx _ => by go_simp⟩) hS ?_
    simp only [Act.put, List.getElem_toArray, List.getElem_cons_succ, List.getElem_cons_zero, List.set_cons_succ, List.set_cons_zero, List.setIfInBounds_toArray]
    refine wpAnyH_take (i := 2) (v := .pointer (some ⟨p, 0, none⟩)) rfl (by kernel_rfl) (by kernel_rfl) (by kernel_rfl) (fun _ _ _ h => h) (.inl ⟨by rfl, fun wx _ => by go_simp⟩) hS ?_
    simp only [Act.put, List.getElem_toArray, List.getElem_cons_succ, List.getElem_cons_zero, List.set_cons_succ, List.set_cons_zero, List.setIfInBounds_toArray]
    refine wpAnyH_take (i := 3) (v := .slice a L c) rfl (by kernel_rfl) (by kernel_rfl) (by kernel_rfl) (fun _ _ _ h => h) (.inl ⟨by rfl, fun wx hX => by have hy : wx.cell? ⟨p, 0, none⟩ = some (.slice a L c) := (by rw [blk_cell hX.1]; rfl); go_simp⟩) hS ?_
    simp only [Act.put, List.getElem_toArray, List.getElem_cons_succ, List.getElem_cons_zero, List.set_cons_succ, List.set_cons_zero, List.setIfInBounds_toArray]
    refine wpAnyH_take (i := 4) (v := .pointer (some ⟨w.heap.size, 1, none⟩)) rfl (by kernel_rfl) (by kernel_rfl) (by kernel_rfl) (fun _ _ _ h => h) (.inl ⟨by rfl, fun wx _ => by go_simp⟩) hS ?_
    simp only [Act.put, List.getElem_toArray, List.getElem_cons_succ, List.getElem_cons_zero, List.set_cons_succ, List.set_cons_zero, List.setIfInBounds_toArray]
    refine wpAnyH_take (i := 5) (v := .int .i64 (t : Int)) rfl (by kernel_rfl) (by kernel_rfl) (by kernel_rfl) (fun _ _ _ h => h) (.inl ⟨by rfl, fun wx hX => by have hy : wx.cell? ⟨w.heap.size, 1, none⟩ = some (.int .i64 (t : Int)) := (by rw [blk_cell hX.2]; rfl); go_simp⟩) hS ?_
    simp only [Act.put, List.getElem_toArray, List.getElem_cons_succ, List.getElem_cons_zero, List.set_cons_succ, List.set_cons_zero, List.setIfInBounds_toArray]
    refine wpAnyH_take (i := 6) (v := .pointer (some ⟨w.heap.size, 1, none⟩)) rfl (by kernel_rfl) (by kernel_rfl) (by kernel_rfl) (fun _ _ _ h => h) (.inl ⟨by rfl, fun wx _ => by go_simp⟩) hS ?_
    simp only [Act.put, List.getElem_toArray, List.getElem_cons_succ, List.getElem_cons_zero, List.set_cons_succ, List.set_cons_zero, List.setIfInBounds_toArray]
    refine wpAnyH_take (i := 7) (v := .int .i64 (t : Int)) rfl (by kernel_rfl) (by kernel_rfl) (by kernel_rfl) (fun _ _ _ h => h) (.inl ⟨by rfl, fun wx hX => by have hy : wx.cell? ⟨w.heap.size, 1, none⟩ = some (.int .i64 (t : Int)) := (by rw [blk_cell hX.2]; rfl); go_simp⟩) hS ?_
    simp only [Act.put, List.getElem_toArray, List.getElem_cons_succ, List.getElem_cons_zero, List.set_cons_succ, List.set_cons_zero, List.setIfInBounds_toArray]
    refine wpAnyH_take (i := 8) (v := .pointer (some ⟨w.heap.size, 2, none⟩)) rfl (by kernel_rfl) (by kernel_rfl) (by kernel_rfl) (fun _ _ _ h => h) (.inl ⟨by rfl, fun wx _ => by go_simp⟩) hS ?_
    simp only [Act.put, List.getElem_toArray, List.getElem_cons_succ, List.getElem_cons_zero, List.set_cons_succ, List.set_cons_zero, List.setIfInBounds_toArray]
    refine wpAnyH_take (i := 9) (v := .int .i64 (n : Int)) rfl (by kernel_rfl) (by kernel_rfl) (by kernel_rfl) (fun _ _ _ h => h) (.inl ⟨by rfl, fun wx hX => by have hy : wx.cell? ⟨w.heap.size, 2, none⟩ = some (.int .i64 (n : Int)) := (by rw [blk_cell hX.2]; rfl); go_simp⟩) hS ?_
    simp only [Act.put, List.getElem_toArray, List.getElem_cons_succ, List.getElem_cons_zero, List.set_cons_succ, List.set_cons_zero, List.setIfInBounds_toArray]
    refine wpAnyH_take (i := 10) (v := .int .i64 (u : Int)) rfl (by kernel_rfl) (by kernel_rfl) (by kernel_rfl) (fun _ _ _ h => h) (.inl ⟨by rfl, fun wx _ => by have := hui; have := huw; go_simp⟩) hS ?_
    simp only [Act.put, List.getElem_toArray, List.getElem_cons_succ, List.getElem_cons_zero, List.set_cons_succ, List.set_cons_zero, List.setIfInBounds_toArray]
    refine wpAnyH_take (i := 11) (v := .slice (some ad) n (c - t)) rfl (by kernel_rfl) (by kernel_rfl) (by kernel_rfl) (fun _ _ _ h => h) (.inl ⟨by rfl, fun wx _ => by have := HWIN.out wx; go_simp⟩) hS ?_
    simp only [Act.put, List.getElem_toArray, List.getElem_cons_succ, List.getElem_cons_zero, List.set_cons_succ, List.set_cons_zero, List.setIfInBounds_toArray]
    clear hS
    refine wpAnyH_ready (rs := [12]) (by kernel_rfl) (by simp) ?_
    refine AllReadyH.cons rfl (fun K hK => ?_) AllReadyH.nil
    go_simp
    refine (rparse_c E0 (RWIN.out.fr EF.out) ((HB.out.drop t).take n) (by rw [hwl]; omega)).mono ?_
    rintro e E1 ⟨hp, f3⟩
    have F3 := hid ((F2.out.trans EF.out).trans f3)
    have hse : w.heap.size ≤ E0.heap.size := Nat.le_trans (F1.out.trans (F2.out.trans EF.out)).size (Nat.le_refl _)
    obtain ⟨ps, E, hpf, v3, rfl, co⟩ : ∃ ps E, PF1 ((b.drop t).take n) ps E ∧ ∃ v3, e = .returned (.tuple #[v3, .int .i64 (E : Int)]) ∧ ColO E1 E0.heap.size v3 ps := by
      rcases hp with ⟨ps, r, v, B, rfl, co⟩ | ⟨hno, rfl⟩
      · exact ⟨ps, 0, .inl ⟨⟨r, B⟩, rfl⟩, v, rfl, co⟩
      · exact ⟨[], 72, .inr ⟨hno, rfl, rfl⟩, _, rfl, ColO.nil _ _⟩
    obtain ⟨la, lc, hv3⟩ : ∃ la lc, v3 = .slice la ps.length lc := by
      obtain ⟨cs, o, _⟩ := co
      obtain ⟨x, y, e, _⟩ := ownsRow_slice o
      exact ⟨x, y, e⟩
    subst hv3
    have HPF := hid hpf
    have CO : Hid (ColO E1 w.heap.size (.slice la ps.length lc) ps) := hid (co.baseD hse)
    obtain ⟨P, hP⟩ : ∃ P, P = ps.length := ⟨_, rfl⟩
    have HP := hid hP
    rw [← hP] at CO ⊢
    refine hK.out _ _ (S1.out _ F3.out) (fun hS => ?_)
    clear hK K hp f3 hpf co hP EF
    refine wpAnyH_take (i := 13) (v := .tuple #[.slice la P lc, .int .i64 (E : Int)]) rfl (by kernel_rfl) (by kernel_rfl) (by kernel_rfl) (fun _ _ _ h => h) (.inl ⟨by rfl, fun wx _ => by go_simp⟩) hS ?_
    simp only [Act.put, List.getElem_toArray, List.getElem_cons_succ, List.getElem_cons_zero, List.set_cons_succ, List.set_cons_zero, List.setIfInBounds_toArray]
    refine wpAnyH_take (i := 14) (v := .slice la P lc) rfl (by kernel_rfl) (by kernel_rfl) (by kernel_rfl) (fun _ _ _ h => h) (.inl ⟨by rfl, fun wx _ => by go_simp⟩) hS ?_
    simp only [Act.put, List.getElem_toArray, List.getElem_cons_succ, List.getElem_cons_zero, List.set_cons_succ, List.set_cons_zero, List.setIfInBounds_toArray]
    refine wpAnyH_take (i := 15) (v := .int .i64 (E : Int)) rfl (by kernel_rfl) (by kernel_rfl) (by kernel_rfl) (fun _ _ _ h => h) (.inl ⟨by rfl, fun wx _ => by go_simp⟩) hS ?_
    simp only [Act.put, List.getElem_toArray, List.getElem_cons_succ, List.getElem_cons_zero, List.set_cons_succ, List.set_cons_zero, List.setIfInBounds_toArray]
    clear hS
    refine wpAnyH_ready (rs := [16]) (by kernel_rfl) (by simp) ?_
    refine AllReadyH.cons rfl (fun K hK => ?_) AllReadyH.nil
    go_simp
    refine hK.out _ _ (S1.out _ F3.out) (fun _ => ?_)
    clear hK K
    refine wpAnyH_ready (rs := [17]) (by kernel_rfl) (by simp) ?_
    refine AllReadyH.cons rfl (fun K hK => ?_) AllReadyH.nil
    go_simp
    refine hK.out _ _ (S1.out _ F3.out) (fun _ => ?_)
    clear hK K
    refine wpAnyH_done (by kernel_rfl) ?_ _
    have HUNI : Hid (∀ ps', (∃ r, Blk ((b.drop t).take n) ps' r) → ∀ r, Blk ((b.drop t).take n) ps r → ps' = ps) := hid (fun ps' ⟨r', B'⟩ r B => blk_one B' B (by rw [hwl]; omega))
    go_upto_region 5 with fail
    obtain ⟨G0, hG⟩ : ∃ W, W = E1.drew := ⟨_, rfl⟩
    have GF : Hid (Fr [] E1 G0) := hid (by rw [hG]; exact (Fr.refl _ E1).drew)
    have FW : Hid (Fr [] w G0) := hid ((F1.out.trans F3.out).trans GF.out)
    rcases HPF.out with ⟨⟨r, hB⟩, hE0⟩ | ⟨hno, hps, hE7⟩
    · subst hE0
      by_cases hP0 : P = 0
      · have hp0 : ((P : Int) == 0) = true := by rw [hP0]; rfl
        have hx : Hid (x = 80 ∧ qs = []) := hid (by
          have hps : ps = [] := List.eq_nil_of_length_eq_zero (by rw [← HP.out]; exact hP0)
          rcases HLK.out with ⟨_, h2, _⟩ | ⟨h1, _, _, h4⟩ | ⟨_, _, h3, h4, _⟩
          · exact absurd HSU.out h2
          · exact ⟨h1, h4⟩
          · exact absurd ((HUNI.out qs h3 r hB).trans hps) h4)
        clear hP0
        refine wp_region_held_drew (S := fun _ => True) (by kernel_rfl) trivial (fun hS => ?_)
        rw [← hG]
        clear hG
        refine wpAnyH_take (i := 0) (v := .int .i64 0) rfl (by kernel_rfl) (by kernel_rfl) (by kernel_rfl) (fun _ _ _ h => h) (.inl ⟨by rfl, fun wx _ => by go_simp⟩) hS ?_
        simp only [Act.put, List.getElem_toArray, List.getElem_cons_zero, List.set_cons_succ, List.set_cons_zero, List.setIfInBounds_toArray]
        refine wpAnyH_take (i := 1) (v := .bool false) rfl (by kernel_rfl) (by kernel_rfl) (by kernel_rfl) (fun _ _ _ h => h) (.inl ⟨by rfl, fun wx _ => by go_simp⟩) hS ?_
        simp only [Act.put, List.getElem_toArray, List.getElem_cons_succ, List.getElem_cons_zero, List.set_cons_succ, List.set_cons_zero, List.setIfInBounds_toArray]
        refine wpAnyH_take (i := 2) (v := .bool false) rfl (by kernel_rfl) (by kernel_rfl) (by kernel_rfl) (fun _ _ _ h => h) (.inl ⟨by rfl, fun wx _ => by go_simp⟩) hS ?_
        simp only [Act.put, List.getElem_toArray, List.getElem_cons_succ, List.getElem_cons_zero, List.set_cons_succ, List.set_cons_zero, List.setIfInBounds_toArray]
        refine wpAnyH_take (i := 3) (v := .slice la P lc) rfl (by kernel_rfl) (by kernel_rfl) (by kernel_rfl) (fun _ _ _ h => h) (.inl ⟨by kernel_rfl, fun wx _ => by go_simp⟩) hS ?_
        simp only [Act.put, List.getElem_toArray, List.getElem_cons_succ, List.getElem_cons_zero, List.set_cons_succ, List.set_cons_zero, List.setIfInBounds_toArray]
        refine wpAnyH_take (i := 4) (v := .int .i64 (P : Int)) rfl (by kernel_rfl) (by kernel_rfl) (by kernel_rfl) (fun _ _ _ h => h) (.inl ⟨by kernel_rfl, fun wx _ => by go_simp⟩) hS ?_
        simp only [Act.put, List.getElem_toArray, List.getElem_cons_succ, List.getElem_cons_zero, List.set_cons_succ, List.set_cons_zero, List.setIfInBounds_toArray]
        refine wpAnyH_take (i := 5) (v := .bool true) rfl (by kernel_rfl) (by kernel_rfl) (by kernel_rfl) (fun _ _ _ h => h) (.inl ⟨by kernel_rfl, fun wx _ => by have := hp0; go_simp⟩) hS ?_
        simp only [Act.put, List.getElem_toArray, List.getElem_cons_succ, List.getElem_cons_zero, List.set_cons_succ, List.set_cons_zero, List.setIfInBounds_toArray]
        refine wpAnyH_take (i := 6) (v := .bool true) rfl (by kernel_rfl) (by kernel_rfl) (by kernel_rfl) (fun _ _ _ h => h) (.inl ⟨by rfl, fun wx _ => by go_simp⟩) hS ?_
        simp only [Act.put, List.getElem_toArray, List.getElem_cons_succ, List.getElem_cons_zero, List.set_cons_succ, List.set_cons_zero, List.setIfInBounds_toArray]
        refine wpAnyH_take (i := 7) (v := .bool true) rfl (by kernel_rfl) (by kernel_rfl) (by kernel_rfl) (fun _ _ _ h => h) (.inl ⟨by rfl, fun wx _ => by go_simp⟩) hS ?_
        simp only [Act.put, List.getElem_toArray, List.getElem_cons_succ, List.getElem_cons_zero, List.set_cons_succ, List.set_cons_zero, List.setIfInBounds_toArray]
        refine wpAnyH_take (i := 8) (v := undef) rfl (by kernel_rfl) (by kernel_rfl) (by kernel_rfl) (fun _ _ _ h => h) (.inr ⟨by kernel_rfl, rfl⟩) hS ?_
        simp only [Act.put, List.getElem_toArray, List.getElem_cons_succ, List.getElem_cons_zero, List.set_cons_succ, List.set_cons_zero, List.setIfInBounds_toArray]
        refine wpAnyH_take (i := 9) (v := undef) rfl (by kernel_rfl) (by kernel_rfl) (by kernel_rfl) (fun _ _ _ h => h) (.inr ⟨by kernel_rfl, rfl⟩) hS ?_
        simp only [Act.put, List.getElem_toArray, List.getElem_cons_succ, List.getElem_cons_zero, List.set_cons_succ, List.set_cons_zero, List.setIfInBounds_toArray]
        refine wpAnyH_take (i := 10) (v := undef) rfl (by kernel_rfl) (by kernel_rfl) (by kernel_rfl) (fun _ _ _ h => h) (.inr ⟨by kernel_rfl, rfl⟩) hS ?_
        simp only [Act.put, List.getElem_toArray, List.getElem_cons_succ, List.getElem_cons_zero, List.set_cons_succ, List.set_cons_zero, List.setIfInBounds_toArray]
        refine wpAnyH_take (i := 11) (v := undef) rfl (by kernel_rfl) (by kernel_rfl) (by kernel_rfl) (fun _ _ _ h => h) (.inr ⟨by kernel_rfl, rfl⟩) hS ?_
        simp only [Act.put, List.getElem_toArray, List.getElem_cons_succ, List.getElem_cons_zero, List.set_cons_succ, List.set_cons_zero, List.setIfInBounds_toArray]
        refine wpAnyH_take (i := 12) (v := undef) rfl (by kernel_rfl) (by kernel_rfl) (by kernel_rfl) (fun _ _ _ h => h) (.inr ⟨by kernel_rfl, rfl⟩) hS ?_
        simp only [Act.put, List.getElem_toArray, List.getElem_cons_succ, List.getElem_cons_zero, List.set_cons_succ, List.set_cons_zero, List.setIfInBounds_toArray]
        refine wpAnyH_take (i := 13) (v := undef) rfl (by kernel_rfl) (by kernel_rfl) (by kernel_rfl) (fun _ _ _ h => h) (.inr ⟨by kernel_rfl, rfl⟩) hS ?_
        simp only [Act.put, List.getElem_toArray, List.getElem_cons_succ, List.getElem_cons_zero, List.set_cons_succ, List.set_cons_zero, List.setIfInBounds_toArray]
        refine wpAnyH_take (i := 14) (v := undef) rfl (by kernel_rfl) (by kernel_rfl) (by kernel_rfl) (fun _ _ _ h => h) (.inr ⟨by kernel_rfl, rfl⟩) hS ?_
        simp only [Act.put, List.getElem_toArray, List.getElem_cons_succ, List.getElem_cons_zero, List.set_cons_succ, List.set_cons_zero, List.setIfInBounds_toArray]
        refine wpAnyH_take (i := 15) (v := undef) rfl (by kernel_rfl) (by kernel_rfl) (by kernel_rfl) (fun _ _ _ h => h) (.inr ⟨by kernel_rfl, rfl⟩) hS ?_
        simp only [Act.put, List.getElem_toArray, List.getElem_cons_succ, List.getElem_cons_zero, List.set_cons_succ, List.set_cons_zero, List.setIfInBounds_toArray]
        refine wpAnyH_take (i := 16) (v := undef) rfl (by kernel_rfl) (by kernel_rfl) (by kernel_rfl) (fun _ _ _ h => h) (.inr ⟨by kernel_rfl, rfl⟩) hS ?_
        simp only [Act.put, List.getElem_toArray, List.getElem_cons_succ, List.getElem_cons_zero, List.set_cons_succ, List.set_cons_zero, List.setIfInBounds_toArray]
        refine wpAnyH_take (i := 17) (v := undef) rfl (by kernel_rfl) (by kernel_rfl) (by kernel_rfl) (fun _ _ _ h => h) (.inr ⟨by kernel_rfl, rfl⟩) hS ?_
        simp only [Act.put, List.getElem_toArray, List.getElem_cons_succ, List.getElem_cons_zero, List.set_cons_succ, List.set_cons_zero, List.setIfInBounds_toArray]
        refine wpAnyH_take (i := 18) (v := undef) rfl (by kernel_rfl) (by kernel_rfl) (by kernel_rfl) (fun _ _ _ h => h) (.inr ⟨by kernel_rfl, rfl⟩) hS ?_
        simp only [Act.put, List.getElem_toArray, List.getElem_cons_succ, List.getElem_cons_zero, List.set_cons_succ, List.set_cons_zero, List.setIfInBounds_toArray]
        refine wpAnyH_take (i := 19) (v := .bool true) rfl (by kernel_rfl) (by kernel_rfl) (by kernel_rfl) (fun _ _ _ h => h) (.inl ⟨by rfl, fun wx _ => by go_simp⟩) hS ?_
        simp only [Act.put, List.getElem_toArray, List.getElem_cons_succ, List.getElem_cons_zero, List.set_cons_succ, List.set_cons_zero, List.setIfInBounds_toArray]
        clear hS
        refine wpAnyH_done (by kernel_rfl) ?_ _
        go_wp2
        go_ret2
        rw [hx.out.1, hx.out.2]
        exact ⟨_, rfl, ColO.nil _ _, FW.out⟩
      · have hp0 : ((P : Int) == 0) = false := beq_eq_false_iff_ne.2 (by omega)
        obtain ⟨R, hR⟩ : ∃ R, R = P - 1 := ⟨_, rfl⟩
        have hRi : (P : Int) - 1 = (R : Int) := by omega
        have hPb : P ≤ 20000 := by
          have := (blk_lens hB (by rw [hwl]; omega)).1
          have h1 : ∀ i, i ≤ (bod r ps i).length := by
            intro i
            induction i with
            | zero => simp
            | succ i ih => have := bod_lt r ps (i := i) (j := i + 1) (by omega); omega
          have h2 := h1 ps.length
          have h3 : (blk r ps).length = n := by rw [hB.eq]; exact hwl
          unfold blk at h3
          rw [List.length_append] at h3
          have := HP.out
          omega
        have hRw : IntKind.i64.wrap (R : Int) = (R : Int) := by rw [IntKind.wrap_i64]; omega
        have hRP : (R : Int) < (P : Int) := by omega
        have hRl : R < ps.length := by rw [← HP.out]; omega
        obtain ⟨la', lc', e0, _, m0⟩ := CO.out.rd
        simp only [Value.slice.injEq] at e0
        obtain ⟨e01, e02, e03⟩ := e0
        subst e01
        subst e03
        clear e02
        obtain ⟨lb, loff, rfl, m1⟩ := m0 (by omega)
        obtain ⟨ja, jc, va, vc, PP⟩ := m1 R _ (ps_at hRl)
        have j0 := PP.ck
        have HPP := hid PP
        have HLA : Hid (lastK ps = kA ps R) := hid (by unfold lastK; rw [← HP.out, hR])
        dsimp only at j0
        obtain ⟨jl, hjl⟩ : ∃ x, x = (kA ps R).length := ⟨_, rfl⟩
        rw [← hjl] at j0
        have HJL := hid hjl
        have S5 : Hid (∀ w', Fr [] E1 w' → (w'.heap[w.heap.size]? = some (.cells #[.slice ka kl kc, .int .i64 (t : Int), .int .i64 (n : Int)] 75 (0, 0))) ∧ w'.cell? ⟨lb, loff + R * 2, none⟩ = some (.slice ja jl jc)) := hid (fun w' f => ⟨(S1.out w' (F3.out.trans f)).2, cell_fr f j0⟩)
        have OC := hid (order_c G0 (PP.rk.fr GF.out) PP.bk (flw_isK (hB.rises R hRl)) (HRK.out.fr FW.out) HBK.out HK.out)
        dsimp only at OC
        rw [← hjl] at OC
        clear m0 m1 PP hjl hR hRl j0 hP0
        refine wp_region_held_drew (S := fun w' => (w'.heap[w.heap.size]? = some (.cells #[.slice ka kl kc, .int .i64 (t : Int), .int .i64 (n : Int)] 75 (0, 0))) ∧ w'.cell? ⟨lb, loff + R * 2, none⟩ = some (.slice ja jl jc)) (by kernel_rfl) (by rw [← hG]; exact S5.out _ GF.out) (fun hS => ?_)
        rw [← hG] at hS ⊢
        clear hG
        refine wpAnyH_take (i := 0) (v := .int .i64 0) rfl (by kernel_rfl) (by kernel_rfl) (by kernel_rfl) (fun _ _ _ h => h) (.inl ⟨by rfl, fun wx _ => by go_simp⟩) hS ?_
        simp only [Act.put, List.getElem_toArray, List.getElem_cons_zero, List.set_cons_succ, List.set_cons_zero, List.setIfInBounds_toArray]
        refine wpAnyH_take (i := 1) (v := .bool false) rfl (by kernel_rfl) (by kernel_rfl) (by kernel_rfl) (fun _ _ _ h => h) (.inl ⟨by rfl, fun wx _ => by go_simp⟩) hS ?_
        simp only [Act.put, List.getElem_toArray, List.getElem_cons_succ, List.getElem_cons_zero, List.set_cons_succ, List.set_cons_zero, List.setIfInBounds_toArray]
        refine wpAnyH_take (i := 2) (v := .bool false) rfl (by kernel_rfl) (by kernel_rfl) (by kernel_rfl) (fun _ _ _ h => h) (.inl ⟨by rfl, fun wx _ => by go_simp⟩) hS ?_
        simp only [Act.put, List.getElem_toArray, List.getElem_cons_succ, List.getElem_cons_zero, List.set_cons_succ, List.set_cons_zero, List.setIfInBounds_toArray]
        refine wpAnyH_take (i := 3) (v := .slice (some ⟨lb, loff, none⟩) P lc) rfl (by kernel_rfl) (by kernel_rfl) (by kernel_rfl) (fun _ _ _ h => h) (.inl ⟨by kernel_rfl, fun wx _ => by go_simp⟩) hS ?_
        simp only [Act.put, List.getElem_toArray, List.getElem_cons_succ, List.getElem_cons_zero, List.set_cons_succ, List.set_cons_zero, List.setIfInBounds_toArray]
        refine wpAnyH_take (i := 4) (v := .int .i64 (P : Int)) rfl (by kernel_rfl) (by kernel_rfl) (by kernel_rfl) (fun _ _ _ h => h) (.inl ⟨by kernel_rfl, fun wx _ => by go_simp⟩) hS ?_
        simp only [Act.put, List.getElem_toArray, List.getElem_cons_succ, List.getElem_cons_zero, List.set_cons_succ, List.set_cons_zero, List.setIfInBounds_toArray]
        refine wpAnyH_take (i := 5) (v := .bool false) rfl (by kernel_rfl) (by kernel_rfl) (by kernel_rfl) (fun _ _ _ h => h) (.inl ⟨by kernel_rfl, fun wx _ => by have := hp0; go_simp⟩) hS ?_
        simp only [Act.put, List.getElem_toArray, List.getElem_cons_succ, List.getElem_cons_zero, List.set_cons_succ, List.set_cons_zero, List.setIfInBounds_toArray]
        refine wpAnyH_take (i := 6) (v := .bool false) rfl (by kernel_rfl) (by kernel_rfl) (by kernel_rfl) (fun _ _ _ h => h) (.inl ⟨by rfl, fun wx _ => by go_simp⟩) hS ?_
        simp only [Act.put, List.getElem_toArray, List.getElem_cons_succ, List.getElem_cons_zero, List.set_cons_succ, List.set_cons_zero, List.setIfInBounds_toArray]
        refine wpAnyH_take (i := 7) (v := .bool false) rfl (by kernel_rfl) (by kernel_rfl) (by kernel_rfl) (fun _ _ _ h => h) (.inl ⟨by rfl, fun wx _ => by go_simp⟩) hS ?_
        simp only [Act.put, List.getElem_toArray, List.getElem_cons_succ, List.getElem_cons_zero, List.set_cons_succ, List.set_cons_zero, List.setIfInBounds_toArray]
        refine wpAnyH_take (i := 8) (v := .slice (some ⟨lb, loff, none⟩) P lc) rfl (by kernel_rfl) (by kernel_rfl) (by kernel_rfl) (fun _ _ _ h => h) (.inl ⟨by kernel_rfl, fun wx _ => by go_simp⟩) hS ?_
        simp only [Act.put, List.getElem_toArray, List.getElem_cons_succ, List.getElem_cons_zero, List.set_cons_succ, List.set_cons_zero, List.setIfInBounds_toArray]
        refine wpAnyH_take (i := 9) (v := .slice (some ⟨lb, loff, none⟩) P lc) rfl (by kernel_rfl) (by kernel_rfl) (by kernel_rfl) (fun _ _ _ h => h) (.inl ⟨by kernel_rfl, fun wx _ => by go_simp⟩) hS ?_
        simp only [Act.put, List.getElem_toArray, List.getElem_cons_succ, List.getElem_cons_zero, List.set_cons_succ, List.set_cons_zero, List.setIfInBounds_toArray]
        refine wpAnyH_take (i := 10) (v := .int .i64 (P : Int)) rfl (by kernel_rfl) (by kernel_rfl) (by kernel_rfl) (fun _ _ _ h => h) (.inl ⟨by kernel_rfl, fun wx _ => by go_simp⟩) hS ?_
        simp only [Act.put, List.getElem_toArray, List.getElem_cons_succ, List.getElem_cons_zero, List.set_cons_succ, List.set_cons_zero, List.setIfInBounds_toArray]
        refine wpAnyH_take (i := 11) (v := .int .i64 (R : Int)) rfl (by kernel_rfl) (by kernel_rfl) (by kernel_rfl) (fun _ _ _ h => h) (.inl ⟨by kernel_rfl, fun wx _ => by have := hRi; have := hRw; go_simp⟩) hS ?_
        simp only [Act.put, List.getElem_toArray, List.getElem_cons_succ, List.getElem_cons_zero, List.set_cons_succ, List.set_cons_zero, List.setIfInBounds_toArray]
        refine wpAnyH_take (i := 12) (v := .pointer (some ⟨lb, loff + R * 2, none⟩)) rfl (by kernel_rfl) (by kernel_rfl) (by kernel_rfl) (fun _ _ _ h => h) (.inl ⟨by kernel_rfl, fun wx _ => by have := hRP; go_simp⟩) hS ?_
        simp only [Act.put, List.getElem_toArray, List.getElem_cons_succ, List.getElem_cons_zero, List.set_cons_succ, List.set_cons_zero, List.setIfInBounds_toArray]
        refine wpAnyH_take (i := 13) (v := .pointer (some ⟨lb, loff + R * 2, none⟩)) rfl (by kernel_rfl) (by kernel_rfl) (by kernel_rfl) (fun _ _ _ h => h) (.inl ⟨by kernel_rfl, fun wx _ => by go_simp⟩) hS ?_
        simp only [Act.put, List.getElem_toArray, List.getElem_cons_succ, List.getElem_cons_zero, List.set_cons_succ, List.set_cons_zero, List.setIfInBounds_toArray]
        refine wpAnyH_take (i := 14) (v := .slice ja jl jc) rfl (by kernel_rfl) (by kernel_rfl) (by kernel_rfl) (fun _ _ _ h => h) (.inl ⟨by kernel_rfl, fun wx hX => by have := hX.2; go_simp⟩) hS ?_
        simp only [Act.put, List.getElem_toArray, List.getElem_cons_succ, List.getElem_cons_zero, List.set_cons_succ, List.set_cons_zero, List.setIfInBounds_toArray]
        refine wpAnyH_take (i := 15) (v := .pointer (some ⟨w.heap.size, 0, none⟩)) rfl (by kernel_rfl) (by kernel_rfl) (by kernel_rfl) (fun _ _ _ h => h) (.inl ⟨by kernel_rfl, fun wx _ => by go_simp⟩) hS ?_
        simp only [Act.put, List.getElem_toArray, List.getElem_cons_succ, List.getElem_cons_zero, List.set_cons_succ, List.set_cons_zero, List.setIfInBounds_toArray]
        refine wpAnyH_take (i := 16) (v := .slice ka kl kc) rfl (by kernel_rfl) (by kernel_rfl) (by kernel_rfl) (fun _ _ _ h => h) (.inl ⟨by kernel_rfl, fun wx hX => by have hy : wx.cell? ⟨w.heap.size, 0, none⟩ = some (.slice ka kl kc) := (by rw [blk_cell hX.1]; rfl); go_simp⟩) hS ?_
        simp only [Act.put, List.getElem_toArray, List.getElem_cons_succ, List.getElem_cons_zero, List.set_cons_succ, List.set_cons_zero, List.setIfInBounds_toArray]
        clear hS
        refine wpAnyH_ready (rs := [17]) (by kernel_rfl) (by simp) ?_
        refine AllReadyH.cons rfl (fun K hK => ?_) AllReadyH.nil
        rw [if_pos (by kernel_rfl)]
        go_simp
        refine OC.out.mono ?_
        rintro e G1 ⟨rfl, f5⟩
        have GF1 := hid (GF.out.trans f5)
        have CO5 := hid (CO.out.fr GF1.out)
        have FW1 := hid (FW.out.trans f5)
        have hkl8 := (isK_len (flw_isK (hB.rises R (by have := HP.out; omega)))).1
        have hk8 := (isK_len HK.out).1
        have HOR : Hid (ordK (kA ps R) k = 0 ↔ lastK ps = k) := hid (by
          rw [HLA.out]
          constructor
          · intro h; exact ordK_eq HPP.out.bk HBK.out (by omega) (by omega) h
          · intro h; rw [h]; have := ordK_neg k k; omega)
        refine hK.out _ _ (S5.out _ GF1.out) (fun hS => ?_)
        clear hK K f5 OC hkl8 hk8
        generalize ordK (kA ps R) k = o at HOR
        by_cases ho : o = 0
        · subst ho
          have hx : Hid (x = 0 ∧ qs = ps) := hid (by
            rcases HLK.out with ⟨_, h2, _⟩ | ⟨_, _, h3, _⟩ | ⟨h1, _, h3, _, _⟩
            · exact absurd HSU.out h2
            · rcases h3 ps r hB with h | h
              · have := HP.out; rw [h] at this; simp at this; omega
              · exact absurd (HOR.out.1 rfl) h
            · exact ⟨h1, HUNI.out qs h3 r hB⟩)
          refine wpAnyH_take (i := 18) (v := .bool false) rfl (by kernel_rfl) (by kernel_rfl) (by kernel_rfl) (fun _ _ _ h => h) (.inl ⟨by kernel_rfl, fun wx _ => by go_simp⟩) hS ?_
          simp only [Act.put, List.getElem_toArray, List.getElem_cons_succ, List.getElem_cons_zero, List.set_cons_succ, List.set_cons_zero, List.setIfInBounds_toArray]
          refine wpAnyH_take (i := 19) (v := .bool false) rfl (by kernel_rfl) (by kernel_rfl) (by kernel_rfl) (fun _ _ _ h => h) (.inl ⟨by rfl, fun wx _ => by go_simp⟩) hS ?_
          simp only [Act.put, List.getElem_toArray, List.getElem_cons_succ, List.getElem_cons_zero, List.set_cons_succ, List.set_cons_zero, List.setIfInBounds_toArray]
          clear hS
          refine wpAnyH_done (by kernel_rfl) ?_ _
          go_wp2
          go_ret2
          rw [hx.out.1, hx.out.2]
          exact ⟨_, rfl, CO5.out, FW1.out⟩
        · have ho' : (o == 0) = false := beq_eq_false_iff_ne.2 ho
          have hx : Hid (x = 80 ∧ qs = []) := hid (by
            rcases HLK.out with ⟨_, h2, _⟩ | ⟨h1, _, _, h4⟩ | ⟨_, _, h3, _, h5⟩
            · exact absurd HSU.out h2
            · exact ⟨h1, h4⟩
            · obtain rfl := HUNI.out qs h3 r hB
              exact absurd (HOR.out.2 h5) ho)
          have HO := hid ho
          clear ho ho'
          refine wpAnyH_take (i := 18) (v := .bool true) rfl (by kernel_rfl) (by kernel_rfl) (by kernel_rfl) (fun _ _ _ h => h) (.inl ⟨by kernel_rfl, fun wx _ => by go_simp; exact HO.out⟩) hS ?_
          simp only [Act.put, List.getElem_toArray, List.getElem_cons_succ, List.getElem_cons_zero, List.set_cons_succ, List.set_cons_zero, List.setIfInBounds_toArray]
          refine wpAnyH_take (i := 19) (v := .bool true) rfl (by kernel_rfl) (by kernel_rfl) (by kernel_rfl) (fun _ _ _ h => h) (.inl ⟨by rfl, fun wx _ => by go_simp⟩) hS ?_
          simp only [Act.put, List.getElem_toArray, List.getElem_cons_succ, List.getElem_cons_zero, List.set_cons_succ, List.set_cons_zero, List.setIfInBounds_toArray]
          clear hS
          refine wpAnyH_done (by kernel_rfl) ?_ _
          go_wp2
          go_ret2
          rw [hx.out.1, hx.out.2]
          exact ⟨_, rfl, ColO.nil _ _, FW1.out⟩
    · subst hE7
      have hx : Hid (x = 80 ∧ qs = []) := hid (by
        rcases HLK.out with ⟨_, h2, _⟩ | ⟨h1, _, _, h4⟩ | ⟨_, _, ⟨r, h3⟩, _, _⟩
        · exact absurd HSU.out h2
        · exact ⟨h1, h4⟩
        · exact absurd h3 (hno qs r))
      clear hno hps
      refine wp_region_held_drew (S := fun _ => True) (by kernel_rfl) trivial (fun hS => ?_)
      rw [← hG]
      clear hG
      refine wpAnyH_take (i := 0) (v := .int .i64 72) rfl (by kernel_rfl) (by kernel_rfl) (by kernel_rfl) (fun _ _ _ h => h) (.inl ⟨by rfl, fun wx _ => by go_simp⟩) hS ?_
      simp only [Act.put, List.getElem_toArray, List.getElem_cons_zero, List.set_cons_succ, List.set_cons_zero, List.setIfInBounds_toArray]
      refine wpAnyH_take (i := 1) (v := .bool true) rfl (by kernel_rfl) (by kernel_rfl) (by kernel_rfl) (fun _ _ _ h => h) (.inl ⟨by rfl, fun wx _ => by go_simp⟩) hS ?_
      simp only [Act.put, List.getElem_toArray, List.getElem_cons_succ, List.getElem_cons_zero, List.set_cons_succ, List.set_cons_zero, List.setIfInBounds_toArray]
      refine wpAnyH_take (i := 2) (v := .bool true) rfl (by kernel_rfl) (by kernel_rfl) (by kernel_rfl) (fun _ _ _ h => h) (.inl ⟨by rfl, fun wx _ => by go_simp⟩) hS ?_
      simp only [Act.put, List.getElem_toArray, List.getElem_cons_succ, List.getElem_cons_zero, List.set_cons_succ, List.set_cons_zero, List.setIfInBounds_toArray]
      refine wpAnyH_take (i := 3) (v := undef) rfl (by kernel_rfl) (by kernel_rfl) (by kernel_rfl) (fun _ _ _ h => h) (.inr ⟨by kernel_rfl, rfl⟩) hS ?_
      simp only [Act.put, List.getElem_toArray, List.getElem_cons_succ, List.getElem_cons_zero, List.set_cons_succ, List.set_cons_zero, List.setIfInBounds_toArray]
      refine wpAnyH_take (i := 4) (v := undef) rfl (by kernel_rfl) (by kernel_rfl) (by kernel_rfl) (fun _ _ _ h => h) (.inr ⟨by kernel_rfl, rfl⟩) hS ?_
      simp only [Act.put, List.getElem_toArray, List.getElem_cons_succ, List.getElem_cons_zero, List.set_cons_succ, List.set_cons_zero, List.setIfInBounds_toArray]
      refine wpAnyH_take (i := 5) (v := undef) rfl (by kernel_rfl) (by kernel_rfl) (by kernel_rfl) (fun _ _ _ h => h) (.inr ⟨by kernel_rfl, rfl⟩) hS ?_
      simp only [Act.put, List.getElem_toArray, List.getElem_cons_succ, List.getElem_cons_zero, List.set_cons_succ, List.set_cons_zero, List.setIfInBounds_toArray]
      refine wpAnyH_take (i := 6) (v := .bool true) rfl (by kernel_rfl) (by kernel_rfl) (by kernel_rfl) (fun _ _ _ h => h) (.inl ⟨by rfl, fun wx _ => by go_simp⟩) hS ?_
      simp only [Act.put, List.getElem_toArray, List.getElem_cons_succ, List.getElem_cons_zero, List.set_cons_succ, List.set_cons_zero, List.setIfInBounds_toArray]
      refine wpAnyH_take (i := 7) (v := .bool true) rfl (by kernel_rfl) (by kernel_rfl) (by kernel_rfl) (fun _ _ _ h => h) (.inl ⟨by rfl, fun wx _ => by go_simp⟩) hS ?_
      simp only [Act.put, List.getElem_toArray, List.getElem_cons_succ, List.getElem_cons_zero, List.set_cons_succ, List.set_cons_zero, List.setIfInBounds_toArray]
      refine wpAnyH_take (i := 8) (v := undef) rfl (by kernel_rfl) (by kernel_rfl) (by kernel_rfl) (fun _ _ _ h => h) (.inr ⟨by kernel_rfl, rfl⟩) hS ?_
      simp only [Act.put, List.getElem_toArray, List.getElem_cons_succ, List.getElem_cons_zero, List.set_cons_succ, List.set_cons_zero, List.setIfInBounds_toArray]
      refine wpAnyH_take (i := 9) (v := undef) rfl (by kernel_rfl) (by kernel_rfl) (by kernel_rfl) (fun _ _ _ h => h) (.inr ⟨by kernel_rfl, rfl⟩) hS ?_
      simp only [Act.put, List.getElem_toArray, List.getElem_cons_succ, List.getElem_cons_zero, List.set_cons_succ, List.set_cons_zero, List.setIfInBounds_toArray]
      refine wpAnyH_take (i := 10) (v := undef) rfl (by kernel_rfl) (by kernel_rfl) (by kernel_rfl) (fun _ _ _ h => h) (.inr ⟨by kernel_rfl, rfl⟩) hS ?_
      simp only [Act.put, List.getElem_toArray, List.getElem_cons_succ, List.getElem_cons_zero, List.set_cons_succ, List.set_cons_zero, List.setIfInBounds_toArray]
      refine wpAnyH_take (i := 11) (v := undef) rfl (by kernel_rfl) (by kernel_rfl) (by kernel_rfl) (fun _ _ _ h => h) (.inr ⟨by kernel_rfl, rfl⟩) hS ?_
      simp only [Act.put, List.getElem_toArray, List.getElem_cons_succ, List.getElem_cons_zero, List.set_cons_succ, List.set_cons_zero, List.setIfInBounds_toArray]
      refine wpAnyH_take (i := 12) (v := undef) rfl (by kernel_rfl) (by kernel_rfl) (by kernel_rfl) (fun _ _ _ h => h) (.inr ⟨by kernel_rfl, rfl⟩) hS ?_
      simp only [Act.put, List.getElem_toArray, List.getElem_cons_succ, List.getElem_cons_zero, List.set_cons_succ, List.set_cons_zero, List.setIfInBounds_toArray]
      refine wpAnyH_take (i := 13) (v := undef) rfl (by kernel_rfl) (by kernel_rfl) (by kernel_rfl) (fun _ _ _ h => h) (.inr ⟨by kernel_rfl, rfl⟩) hS ?_
      simp only [Act.put, List.getElem_toArray, List.getElem_cons_succ, List.getElem_cons_zero, List.set_cons_succ, List.set_cons_zero, List.setIfInBounds_toArray]
      refine wpAnyH_take (i := 14) (v := undef) rfl (by kernel_rfl) (by kernel_rfl) (by kernel_rfl) (fun _ _ _ h => h) (.inr ⟨by kernel_rfl, rfl⟩) hS ?_
      simp only [Act.put, List.getElem_toArray, List.getElem_cons_succ, List.getElem_cons_zero, List.set_cons_succ, List.set_cons_zero, List.setIfInBounds_toArray]
      refine wpAnyH_take (i := 15) (v := undef) rfl (by kernel_rfl) (by kernel_rfl) (by kernel_rfl) (fun _ _ _ h => h) (.inr ⟨by kernel_rfl, rfl⟩) hS ?_
      simp only [Act.put, List.getElem_toArray, List.getElem_cons_succ, List.getElem_cons_zero, List.set_cons_succ, List.set_cons_zero, List.setIfInBounds_toArray]
      refine wpAnyH_take (i := 16) (v := undef) rfl (by kernel_rfl) (by kernel_rfl) (by kernel_rfl) (fun _ _ _ h => h) (.inr ⟨by kernel_rfl, rfl⟩) hS ?_
      simp only [Act.put, List.getElem_toArray, List.getElem_cons_succ, List.getElem_cons_zero, List.set_cons_succ, List.set_cons_zero, List.setIfInBounds_toArray]
      refine wpAnyH_take (i := 17) (v := undef) rfl (by kernel_rfl) (by kernel_rfl) (by kernel_rfl) (fun _ _ _ h => h) (.inr ⟨by kernel_rfl, rfl⟩) hS ?_
      simp only [Act.put, List.getElem_toArray, List.getElem_cons_succ, List.getElem_cons_zero, List.set_cons_succ, List.set_cons_zero, List.setIfInBounds_toArray]
      refine wpAnyH_take (i := 18) (v := undef) rfl (by kernel_rfl) (by kernel_rfl) (by kernel_rfl) (fun _ _ _ h => h) (.inr ⟨by kernel_rfl, rfl⟩) hS ?_
      simp only [Act.put, List.getElem_toArray, List.getElem_cons_succ, List.getElem_cons_zero, List.set_cons_succ, List.set_cons_zero, List.setIfInBounds_toArray]
      refine wpAnyH_take (i := 19) (v := .bool true) rfl (by kernel_rfl) (by kernel_rfl) (by kernel_rfl) (fun _ _ _ h => h) (.inl ⟨by rfl, fun wx _ => by go_simp⟩) hS ?_
      simp only [Act.put, List.getElem_toArray, List.getElem_cons_succ, List.getElem_cons_zero, List.set_cons_succ, List.set_cons_zero, List.setIfInBounds_toArray]
      clear hS
      refine wpAnyH_done (by kernel_rfl) ?_ _
      go_wp2
      go_ret2
      rw [hx.out.1, hx.out.2]
      exact ⟨_, rfl, ColO.nil _ _, FW.out⟩
end Go.Proofs.YtnnookkcnmgbfaaGreat
