/-
  The document's reader of items: what it keeps, its faults, single bytes.
-/
import Derived.Test.YtbbaaegfbbjnjaaDoorRe4
import Derived.Test.YtbbaaegfbbjnjaaDoorHa
namespace Go.Proofs.YtbbaaegfbbjnjaaDoor
open Go.ChangeShapes Go.WideShapes Go.ChangeAt Go.RowKit

/-- A reader at p over the bytes b that lie in block q: how many items it met, its first fault. -/
structure RS (w : World) (p q off L cc : Nat) (b : List Nat) (c e : Nat) : Prop where
  rd : Rd w (.slice (some ⟨q, off, none⟩) L cc) (bv b)
  rr : w.heap[p]? = some (.cells #[.slice (some ⟨q, off, none⟩) L cc, .int .i64 (c : Int), .int .i64 (e : Int)] 92 (0, 0))
  hq : q < w.heap.size
  ne : q ≠ p
theorem RS.cells {w : World} {p q off L cc : Nat} {b : List Nat} {c e : Nat} (h : RS w p q off L cc b c e) : w.cell? ⟨p, 0, none⟩ = some (.slice (some ⟨q, off, none⟩) L cc) ∧ w.cell? ⟨p, 1, none⟩ = some (.int .i64 (c : Int)) ∧ w.cell? ⟨p, 2, none⟩ = some (.int .i64 (e : Int)) ∧ w.frozen? ⟨p, 1, none⟩ = false ∧ w.frozen? ⟨p, 2, none⟩ = false :=
  ⟨by rw [blk_cell h.rr]; rfl, by rw [blk_cell h.rr]; rfl, by rw [blk_cell h.rr]; rfl, blk_frozen h.rr 1, blk_frozen h.rr 2⟩
theorem RS.step {w w' : World} {p q off L cc : Nat} {b : List Nat} {c e c' e' : Nat} (h : RS w p q off L cc b c e) (hs : w.heap.size ≤ w'.heap.size) (hq : w'.heap[q]? = w.heap[q]?) (hp : w'.heap[p]? = some (.cells #[.slice (some ⟨q, off, none⟩) L cc, .int .i64 (c' : Int), .int .i64 (e' : Int)] 92 (0, 0))) : RS w' p q off L cc b c' e' :=
  ⟨h.rd.step (fun k hk => by simp only [Value.ownBlock, Option.some.injEq] at hk; subst hk; exact hq), hp, Nat.lt_of_lt_of_le h.hq hs, h.ne⟩
theorem RS.fr {w w' : World} {p q off L cc : Nat} {b : List Nat} {c e : Nat} (h : RS w p q off L cc b c e) (f : Fr [] w w') : RS w' p q off L cc b c e :=
  h.step f.size (f.block q h.hq (by simp)) (f.at h.rr (by simp))
theorem RS.frp {w w' : World} {p q off L cc : Nat} {b : List Nat} {c e c' e' : Nat} (h : RS w p q off L cc b c e) (f : Fr [p] w w') (hp : w'.heap[p]? = some (.cells #[.slice (some ⟨q, off, none⟩) L cc, .int .i64 (c' : Int), .int .i64 (e' : Int)] 92 (0, 0))) : RS w' p q off L cc b c' e' :=
  h.step f.size (f.block q h.hq (by simp; exact h.ne)) hp
theorem RS.more {w : World} {p q off L cc : Nat} {b : List Nat} {c e : Nat} (h : RS w p q off L cc b c e) : RS (w.setCell ⟨p, 1, none⟩ (.int .i64 ((c : Int) + 1))) p q off L cc b (c + 1) e :=
  h.step (by simp [World.setCell]) (blk_setne _ _ _ h.ne) (by rw [blk_set h.rr]; rfl)
theorem RS.bad {w : World} {p q off L cc : Nat} {b : List Nat} {c e : Nat} (h : RS w p q off L cc b c e) (e' : Nat) : RS (w.setCell ⟨p, 2, none⟩ (.int .i64 (e' : Int))) p q off L cc b c e' :=
  h.step (by simp [World.setCell]) (blk_setne _ _ _ h.ne) (by rw [blk_set h.rr]; rfl)
theorem RS.set3 {w : World} {p q off L cc N : Nat} {b : List Nat} {c e : Nat} (h : RS w p q off L cc b c e) (h1 : N ≠ p) (h2 : N ≠ q) (x y z : Value) : RS (((w.setCell ⟨N, 0, none⟩ x).setCell ⟨N, 1, none⟩ y).setCell ⟨N, 2, none⟩ z) p q off L cc b c e := by
  have hk : ∀ k, k ≠ N → (((w.setCell ⟨N, 0, none⟩ x).setCell ⟨N, 1, none⟩ y).setCell ⟨N, 2, none⟩ z).heap[k]? = w.heap[k]? := fun k hk => by rw [blk_setne _ _ _ hk, blk_setne _ _ _ hk, blk_setne _ _ _ hk]
  exact h.step (by simp [World.setCell]) (hk q (Ne.symm h2)) (by rw [hk p (Ne.symm h1)]; exact h.rr)
theorem RS.at {w : World} {p q off L cc : Nat} {b : List Nat} {c e : Nat} (h : RS w p q off L cc b c e) {i x : Nat} (hx : b[i]? = some x) : w.cell? ⟨q, off + i, none⟩ = some (.int .u8 (x : Int)) := by
  rcases h.rd with ⟨_, h0⟩ | ⟨a, c', e1, _, h5⟩
  · have : b = [] := by simpa [bv] using h0
    subst this; simp at hx
  · simp only [Value.slice.injEq] at e1
    obtain ⟨e2, _, _⟩ := e1
    cases e2
    have := h5 i _ (bv_at hx)
    rwa [Addr.add_lit] at this

/-- What the reader tells of an item that stands at a. -/
def RIT (w w' : World) (p q off L cc : Nat) (b : List Nat) (a m : Nat) (res : Except Nat (Tr m × Nat × Nat)) (r : Ending) : Prop := match res with
  | .error e => r = .returned (.tuple #[.agg #[.bool false, .slice none 0 0, .slice none 0 0], .int .i64 0]) ∧ ∃ c', RS w' p q off L cc b c' e
  | .ok (t, k, c') => (∃ u, r = .returned (.tuple #[u, .int .i64 ((a + k : Nat) : Int)]) ∧ IsF w' w.heap.size w'.heap.size m u t) ∧ RS w' p q off L cc b c' 0

set_option maxRecDepth 20000 in
set_option maxHeartbeats 800000 in
theorem rfault_c (w : World) {p q off L cc : Nat} {b : List Nat} {c : Nat} (h : RS w p q off L cc b c 0) (e : Nat) :
    Calls Tryd.prog 51 #[.pointer (some ⟨p, 0, none⟩), .int .i64 (e : Int)] w fun r w' => r = .returned (.tuple #[.agg #[.bool false, .slice none 0 0, .slice none 0 0], .int .i64 0]) ∧ RS w' p q off L cc b c e ∧ Fr [p] w w' := by
  obtain ⟨W, hW⟩ : ∃ W, W = w.alloc (.cells #[.bool false, .slice none 0 0, .slice none 0 0] 44) := ⟨_, rfl⟩
  have S : Hid (RS W p q off L cc b c 0) := hid (by rw [hW]; exact h.fr ((Fr.refl [] w).alloc _))
  have F : Hid (Fr [p] w W) := hid (by rw [hW]; exact (Fr.refl _ w).alloc _)
  have N : Hid (W.heap[w.heap.size]? = some (.cells #[.bool false, .slice none 0 0, .slice none 0 0] 44 (0, 0))) := hid (by rw [hW]; exact blk_new _ _)
  have hNp : w.heap.size ≠ p := by have := blk_lt h.rr; omega
  have hNq : w.heap.size ≠ q := by have := h.hq; omega
  obtain ⟨W2, hW2⟩ : ∃ W2, W2 = W.setCell ⟨p, 2, none⟩ (.int .i64 (e : Int)) := ⟨_, rfl⟩
  have S2 : Hid (RS W2 p q off L cc b c e) := hid (by rw [hW2]; exact S.out.bad e)
  have F2 : Hid (Fr [p] w W2) := hid (by rw [hW2]; exact F.out.set _ _ (.inl (by simp)))
  have N2 : Hid (W2.heap[w.heap.size]? = some (.cells #[.bool false, .slice none 0 0, .slice none 0 0] 44 (0, 0))) := hid (by rw [hW2, blk_setne _ _ _ hNp]; exact N.out)
  obtain ⟨c0, c1, c2, z1, z2⟩ := S.out.cells
  have d0 := blk_cell N2.out 0
  have d1 := blk_cell N2.out 1
  have d2 := blk_cell N2.out 2
  have f0 := blk_frozen N2.out 0
  have f1 := blk_frozen N2.out 1
  have f2 := blk_frozen N2.out 2
  simp at d0 d1 d2
  have HNP := hid hNp
  have HNQ := hid hNq
  clear h hNp hNq
  go_enter Tryd.func51, Tryd.ntmps51
  go_upto_region 1 with fail
  rw [← hW]
  clear hW
  go_upto_region 3 with fail
  rw [← hW2]
  clear hW2
  go_wp2
  have K := fin_z (a := .bool false) (b := .slice none 0 0) (c := .slice none 0 0) N2.out F2.out (Nat.le_refl _)
  exact bodyPost_ret (ret_ct rfl rfl (load_item K.1)) rfl ⟨rfl, S2.out.set3 HNP.out HNQ.out _ _ _, K.2⟩

theorem isF_str {w : World} {base m : Nat} {v : Value} {s : List Nat} (o : w.ownsRow base 5 1 v s.length (bv s)) (hb : By s) (hl : s.length ≤ 140737488355328) {B : Nat} (hB : B ≤ base) : IsF w B w.heap.size (m + 1) (.agg #[.bool false, v, .slice none 0 0]) (mkT false s []) :=
  ⟨v, none, 0, rfl, Rd.ownB o, fun k hk => ⟨Nat.le_trans hB (o.lt k hk).1, (o.lt k hk).2⟩, hb, hl, Nat.le_refl _, Nat.zero_le _, fun h => by cases h⟩
/-- Stored as the result, it is still there. -/
theorem isF_out {w W : World} {m : Nat} {u : Value} {t : Tr m} (h : IsF W (w.heap.size + 1) W.heap.size m u t) (x y z : Value) : IsF (((W.setCell ⟨w.heap.size, 0, none⟩ x).setCell ⟨w.heap.size, 1, none⟩ y).setCell ⟨w.heap.size, 2, none⟩ z) w.heap.size (((W.setCell ⟨w.heap.size, 0, none⟩ x).setCell ⟨w.heap.size, 1, none⟩ y).setCell ⟨w.heap.size, 2, none⟩ z).heap.size m u t := by
  refine (h.step (w' := ((W.setCell ⟨w.heap.size, 0, none⟩ x).setCell ⟨w.heap.size, 1, none⟩ y).setCell ⟨w.heap.size, 2, none⟩ z) fun k hk _ => ?_).wide (by omega) (by simp [World.setCell])
  rw [blk_setne _ _ _ (by omega), blk_setne _ _ _ (by omega), blk_setne _ _ _ (by omega)]
/-- What the head of an item is, if it isn't a single byte. -/
theorem hdr_base {M : List Nat} (h : ¬ M.getD 0 0 < 128) : ∃ base l, hdr M = hdrM M l (M.getD 0 0 - base) ∧ ((l = false ∧ base = 128 ∧ M.getD 0 0 < 192) ∨ (l = true ∧ base = 192 ∧ 192 ≤ M.getD 0 0)) := by
  unfold hdr
  rw [if_neg h]
  by_cases h2 : M.getD 0 0 < 192
  · rw [if_pos h2]; exact ⟨128, false, rfl, .inl ⟨rfl, rfl, h2⟩⟩
  · rw [if_neg h2]; exact ⟨192, true, rfl, .inr ⟨rfl, rfl, by omega⟩⟩
theorem rdT_bad {n c e : Nat} {M : List Nat} (hc : c ≠ 4096) (h : hdr M = .error e) : rdT (n + 1) M c = .error e := by unfold rdT; rw [if_neg hc, h]
theorem rdT_str {n c s e : Nat} {M : List Nat} (hc : c ≠ 4096) (h : hdr M = .ok (false, s, e)) : rdT (n + 1) M c = .ok (mkT false ((M.take e).drop s) [], e, c + 1) := by unfold rdT; rw [if_neg hc, h]; rfl

set_option maxRecDepth 20000 in
set_option maxHeartbeats 800000 in
theorem rread_deep (w : World) {p q off L cc : Nat} {b : List Nat} {c a en d : Nat} (h : RS w p q off L cc b c 0) (ha : a < en) (hd : 16 < d ∨ c = 4096) (hd2 : d ≤ 100000) {m : Nat} :
    Calls Tryd.prog 49 #[.pointer (some ⟨p, 0, none⟩), .int .i64 (a : Int), .int .i64 (en : Int), .int .i64 (d : Int)] w fun r w' => RIT w w' p q off L cc b a m (.error 43) r ∧ Fr [p] w w' := by
  obtain ⟨W, hW⟩ : ∃ W, W = w.alloc (.cells #[.bool false, .slice none 0 0, .slice none 0 0] 44) := ⟨_, rfl⟩
  have S : Hid (RS W p q off L cc b c 0) := hid (by rw [hW]; exact h.fr ((Fr.refl [] w).alloc _))
  have F : Hid (Fr [p] w W) := hid (by rw [hW]; exact (Fr.refl _ w).alloc _)
  have N : Hid (W.heap[w.heap.size]? = some (.cells #[.bool false, .slice none 0 0, .slice none 0 0] 44 (0, 0))) := hid (by rw [hW]; exact blk_new _ _)
  have HNP : Hid (w.heap.size ≠ p) := hid (by have := blk_lt h.rr; omega)
  have HNQ : Hid (w.heap.size ≠ q) := hid (by have := h.hq; omega)
  have FC := hid (rfault_c W S.out 43)
  obtain ⟨c0, c1, c2, z1, z2⟩ := S.out.cells
  have h1 : (a : Int) < (en : Int) := by omega
  have hcut : Hid (16 < d ∨ c = 4096) := hid hd
  clear h hd
  go_enter Tryd.func49, Tryd.ntmps49
  go_upto_region 1 with fail
  rw [← hW]
  clear hW
  by_cases hd1 : 16 < d
  · have hd' : (16 : Int) < (d : Int) := by omega
    go_wp2_with fail
    refine FC.out.mono ?_
    rintro r w3 ⟨rfl, s3, f3⟩
    have S3 := hid s3
    have F3 := hid (F.out.trans f3)
    have N3 := hid (f3.at N.out (by simp; exact HNP.out))
    have d0 := blk_cell N3.out 0
    have d1 := blk_cell N3.out 1
    have d2 := blk_cell N3.out 2
    have f0 := blk_frozen N3.out 0
    have f1 := blk_frozen N3.out 1
    have f2 := blk_frozen N3.out 2
    simp at d0 d1 d2
    clear s3 f3
    go_wp2
    have K := fin_z (a := .bool false) (b := .slice none 0 0) (c := .slice none 0 0) N3.out F3.out (Nat.le_refl _)
    exact bodyPost_ret (ret_ct rfl rfl (load_item K.1)) rfl ⟨⟨rfl, _, S3.out.set3 HNP.out HNQ.out _ _ _⟩, K.2⟩
  · have hd' : ¬ (16 : Int) < (d : Int) := by omega
    have hc : c = 4096 := by have := hcut.out; omega
    subst hc
    go_wp2_with fail
    refine FC.out.mono ?_
    rintro r w3 ⟨rfl, s3, f3⟩
    have S3 := hid s3
    have F3 := hid (F.out.trans f3)
    have N3 := hid (f3.at N.out (by simp; exact HNP.out))
    have d0 := blk_cell N3.out 0
    have d1 := blk_cell N3.out 1
    have d2 := blk_cell N3.out 2
    have f0 := blk_frozen N3.out 0
    have f1 := blk_frozen N3.out 1
    have f2 := blk_frozen N3.out 2
    simp at d0 d1 d2
    clear s3 f3
    go_wp2
    have K := fin_z (a := .bool false) (b := .slice none 0 0) (c := .slice none 0 0) N3.out F3.out (Nat.le_refl _)
    exact bodyPost_ret (ret_ct rfl rfl (load_item K.1)) rfl ⟨⟨rfl, _, S3.out.set3 HNP.out HNQ.out _ _ _⟩, K.2⟩

set_option maxRecDepth 20000 in
set_option maxHeartbeats 800000 in
theorem rread_one (w : World) {p q off L cc : Nat} {b : List Nat} {c a en d n : Nat} (h : RS w p q off L cc b c 0) (ha : a < en) (hen : en ≤ b.length) (hLb : b.length = L) (hl : L ≤ 100000) (hd : d ≤ 16) (hc : c < 4096) {x : Nat} (hx : b[a]? = some x) (hx1 : x < 128) :
    Calls Tryd.prog 49 #[.pointer (some ⟨p, 0, none⟩), .int .i64 (a : Int), .int .i64 (en : Int), .int .i64 (d : Int)] w fun r w' => RIT w w' p q off L cc b a (n + 1 + 3) (rdT (n + 1) ((b.take en).drop a) c) r ∧ Fr [p] w w' := by
  have hM0 : ((b.take en).drop a).getD 0 0 = x := by
    rw [List.getD_eq_getElem?_getD, List.getElem?_drop, List.getElem?_take, if_pos (by omega), Nat.add_zero, hx]; rfl
  have hres : rdT (n + 1) ((b.take en).drop a) c = .ok (mkT false [x] [], 1, c + 1) := by
    rw [rdT_str (s := 0) (e := 1) (by omega) (by unfold hdr; rw [hM0, if_pos hx1])]
    congr 2
    rw [List.drop_zero, mid_eq, List.take_take, Nat.min_eq_left (by omega), List.take_one, List.head?_drop, hx]
    rfl
  rw [hres]
  obtain ⟨W, hW⟩ : ∃ W, W = w.alloc (.cells #[.bool false, .slice none 0 0, .slice none 0 0] 44) := ⟨_, rfl⟩
  have S : Hid (RS W p q off L cc b c 0) := hid (by rw [hW]; exact h.fr ((Fr.refl [] w).alloc _))
  have F : Hid (Fr [p] w W) := hid (by rw [hW]; exact (Fr.refl _ w).alloc _)
  have N : Hid (W.heap[w.heap.size]? = some (.cells #[.bool false, .slice none 0 0, .slice none 0 0] 44 (0, 0))) := hid (by rw [hW]; exact blk_new _ _)
  have hNp : w.heap.size ≠ p := by have := blk_lt h.rr; omega
  have HNQ : Hid (w.heap.size ≠ q) := hid (by have := h.hq; omega)
  obtain ⟨W2, hW2⟩ : ∃ W2, W2 = W.setCell ⟨p, 1, none⟩ (.int .i64 ((c : Int) + 1)) := ⟨_, rfl⟩
  have S2 : Hid (RS W2 p q off L cc b (c + 1) 0) := hid (by rw [hW2]; exact S.out.more)
  have F2 : Hid (Fr [p] w W2) := hid (by rw [hW2]; exact F.out.set _ _ (.inl (by simp)))
  have N2 : Hid (W2.heap[w.heap.size]? = some (.cells #[.bool false, .slice none 0 0, .slice none 0 0] 44 (0, 0))) := hid (by rw [hW2, blk_setne _ _ _ hNp]; exact N.out)
  have HNP := hid hNp
  obtain ⟨c0, c1, c2, z1, z2⟩ := S.out.cells
  obtain ⟨e0, e1, e2, y1, y2⟩ := S2.out.cells
  have hca := S2.out.at hx
  obtain ⟨W3, hW3⟩ : ∃ W3, W3 = W2.alloc (.cells #[.int .u8 (x : Int)] 5) := ⟨_, rfl⟩
  have S3 : Hid (RS W3 p q off L cc b (c + 1) 0) := hid (by rw [hW3]; exact S2.out.fr ((Fr.refl [] W2).alloc _))
  have F3 : Hid (Fr [p] w W3) := hid (by rw [hW3]; exact F2.out.alloc _)
  have N3 : Hid (W3.heap[w.heap.size]? = some (.cells #[.bool false, .slice none 0 0, .slice none 0 0] 44 (0, 0))) := hid (by rw [hW3, blk_old _ _ (blk_lt N2.out)]; exact N2.out)
  have O3 : Hid (W3.ownsRow (w.heap.size + 1) 5 1 (.slice (some ⟨W2.heap.size, 0, none⟩) 1 1) 1 (bv [x])) := hid (by rw [hW3]; exact own_lit1 W2 rfl rfl (by have := blk_lt N2.out; omega))
  have HB : Hid (By [x]) := hid (fun y hy => by simp at hy; omega)
  have d0 := blk_cell N3.out 0
  have d1 := blk_cell N3.out 1
  have d2 := blk_cell N3.out 2
  have f0 := blk_frozen N3.out 0
  have f1 := blk_frozen N3.out 1
  have f2 := blk_frozen N3.out 2
  simp at d0 d1 d2
  have h1 : (a : Int) < (en : Int) := by omega
  have h2 : ¬ (16 : Int) < (d : Int) := by omega
  have h3 : ((c : Int) == 4096) = false := beq_eq_false_iff_ne.2 (by omega)
  have h4 : (a : Int) < (L : Int) := by omega
  have h5 : (x : Int) < 128 := by omega
  have h6 : IntKind.u8.wrap (x : Int) = (x : Int) := by rw [IntKind.wrap_u8]; omega
  have h7 : IntKind.i64.wrap ((c : Int) + 1) = (c : Int) + 1 := by rw [IntKind.wrap_i64]; omega
  clear h hx hres hM0 hNp
  go_enter Tryd.func49, Tryd.ntmps49
  go_upto_region 1 with fail
  rw [← hW]
  clear hW
  go_upto_region 6 with fail
  rw [← hW2]
  clear hW2
  subst hW3
  go_wp2
  have K := fin_z (a := .bool false) (b := .slice (some ⟨W2.heap.size, 0, none⟩) 1 1) (c := .slice none 0 0) N3.out F3.out (Nat.le_refl _)
  exact bodyPost_ret (ret_ct rfl rfl (load_item K.1)) rfl ⟨⟨⟨_, rfl, isF_out (isF_str O3.out HB.out (by simp) (Nat.le_refl _)) _ _ _⟩, S3.out.set3 HNP.out HNQ.out _ _ _⟩, K.2⟩
end Go.Proofs.YtbbaaegfbbjnjaaDoor
