/-
  The document's reader of items, walked.
-/
import Derived.Test.YtbbaaegfbbjnjaaDoorHr
import Derived.Deep.CutRange
namespace Go.Proofs.YtbbaaegfbbjnjaaDoor
open Go.ChangeShapes Go.WideShapes Go.ChangeAt Go.RowKit

/-- A length as far as it isn't too great. -/
def Cap (n B : Nat) : Prop := (B ≤ 2147483648 ∧ n = B) ∨ (2147483648 < B ∧ 2147483648 < n ∧ n ≤ 1000000000000)
/-- What is known of a head. -/
def Hd (M : List Nat) (l : Bool) (s m : Nat) : Prop := hdr M = hdrF M l s m ∧ 1 ≤ s ∧ s ≤ 9 ∧ m ≤ 2147483648 ∧ s ≤ M.length
theorem mid_at {b : List Nat} {a en i : Nat} (h : a + i < en) : ((b.take en).drop a)[i]? = b[a + i]? := by
  rw [List.getElem?_drop, List.getElem?_take, if_pos h]
theorem mid_getD {b : List Nat} {a en i x : Nat} (h : a + i < en) (hx : b[a + i]? = some x) : ((b.take en).drop a).getD i 0 = x := by
  rw [List.getD_eq_getElem?_getD, mid_at h, hx]; rfl
theorem mid_mid {b : List Nat} {a en s e : Nat} (h : a + e ≤ en) : ((((b.take en).drop a).take e).drop s) = (b.take (a + e)).drop (a + s) := by
  rw [mid_eq, mid_eq, mid_eq, List.drop_take, List.drop_drop, List.take_take, Nat.min_eq_left (by omega), show a + e - (a + s) = e - s by omega]
/-- What is told of a list. -/
def outL {n : Nat} (k : Nat) : Except Nat (List (Tr (n + 3)) × Nat) → Except Nat (Tr (n + 1 + 3) × Nat × Nat)
  | .error e => .error e
  | .ok (ks, c') => .ok (mkT true [] ks, k, c')
theorem rdT_list {n c s e : Nat} {M : List Nat} (hc : c ≠ 4096) (h : hdr M = .ok (true, s, e)) : rdT (n + 1) M c = outL e (itemsR (rdT n) (e - s) ((M.take e).drop s) (c + 1)) := by
  unfold rdT
  rw [if_neg hc, h]
  simp only [if_true]
  rcases itemsR (rdT n) (e - s) ((M.take e).drop s) (c + 1) with x | ⟨u1, u2⟩ <;> rfl

/-- What a round over a list's items keeps. -/
structure RQ (w wr : World) (p q off L cc : Nat) (b : List Nat) (n t X : Nat) (R : Except Nat (List (Tr (n + 3)) × Nat)) (f : Nat) (ts : List (Tr (n + 3))) (cs : List Value) (vi : Value) (c' g' : Nat) : Prop where
  le : f ≤ t
  hX : wr.heap[X]? = some (.cells #[.bool true, .slice none 0 0, vi] 44 (0, 0))
  hN : wr.heap[w.heap.size]? = some (.cells #[.bool false, .slice none 0 0, .slice none 0 0] 44 (0, 0))
  own : wr.ownsRow (X + 1) 44 3 vi ts.length cs
  kids : KidsF wr X vi.ownBlock (n + 3) ts cs
  st : RS wr p q off L cc b c' 0
  fr : Fr [p] w wr
  fuel : t - f ≤ g'
  all : R = ahead ts (itemsR (rdT n) g' ((b.take t).drop f) c')
  cl : c' ≤ 4096
  tl : ts.length ≤ f
/-- A round's beginning: all went well so far, or an item was at fault. -/
def RQE (w wr : World) (p q off L cc : Nat) (b : List Nat) (n t X : Nat) (R : Except Nat (List (Tr (n + 3)) × Nat)) (v13 : Value) : Prop :=
  (∃ f ts cs vi c' g', v13 = .int .i64 ((f : Nat) : Int) ∧ RQ w wr p q off L cc b n t X R f ts cs vi c' g') ∨
  (v13 = .int .i64 0 ∧ ∃ e c', 0 < e ∧ e < 100 ∧ R = .error e ∧ RS wr p q off L cc b c' e ∧ Fr [p] w wr ∧ wr.heap[w.heap.size]? = some (.cells #[.bool false, .slice none 0 0, .slice none 0 0] 44 (0, 0)))
/-- How much is left to be read. -/
def mesR (p t : Nat) (v : Value) (wr : World) : Nat := match wr.cell? ⟨p, 2, none⟩ with
  | some (.int .i64 0) => t + 1 - (intOf v).toNat
  | _ => 0
theorem mes_ok {p t f : Nat} {wr : World} (h : wr.cell? ⟨p, 2, none⟩ = some (.int .i64 ((0 : Nat) : Int))) : mesR p t (.int .i64 (f : Int)) wr = t + 1 - f := by
  unfold mesR
  rw [h]
  simp [intOf]
theorem mes_bad {p t e : Nat} {v : Value} {wr : World} (h : wr.cell? ⟨p, 2, none⟩ = some (.int .i64 (e : Int))) (he : 0 < e) : mesR p t v wr = 0 := by
  unfold mesR
  rw [h]
  obtain ⟨k, rfl⟩ : ∃ k, e = k + 1 := ⟨e - 1, by omega⟩
  rfl
theorem RIT.parts {w w' : World} {p q off L cc : Nat} {b : List Nat} {a m : Nat} {res : Except Nat (Tr m × Nat × Nat)} {r : Ending} (h : RIT w w' p q off L cc b a m res r) : ∃ l a1 n1 c1 a2 n2 c2, ∃ nx : Nat, r = .returned (.tuple #[.agg #[.bool l, .slice a1 n1 c1, .slice a2 n2 c2], .int .i64 (nx : Int)]) ∧
    ((∃ e c', res = .error e ∧ nx = 0 ∧ RS w' p q off L cc b c' e) ∨ ∃ t k c', res = .ok (t, k, c') ∧ nx = a + k ∧ IsF w' w.heap.size w'.heap.size m (.agg #[.bool l, .slice a1 n1 c1, .slice a2 n2 c2]) t ∧ RS w' p q off L cc b c' 0) := by
  rcases res with x | ⟨t, k, c'⟩
  · obtain ⟨h1, c', h2⟩ := h
    exact ⟨_, _, _, _, _, _, _, 0, h1, .inl ⟨x, c', rfl, rfl, h2⟩⟩
  · obtain ⟨⟨u, h1, h2⟩, h3⟩ := h
    obtain ⟨l, a1, n1, c1, a2, n2, c2, rfl⟩ := h2.isV.agg
    exact ⟨l, a1, n1, c1, a2, n2, c2, a + k, h1, .inr ⟨t, k, c', rfl, rfl, h2, h3⟩⟩

set_option maxRecDepth 20000 in
set_option maxHeartbeats 6400000 in
theorem rread_big (w : World) {p q off L cc : Nat} {b : List Nat} {c a en d n : Nat} (h : RS w p q off L cc b c 0) (hB : By b) (ha : a < en) (hen : en ≤ L) (hLb : b.length = L) (hl : L ≤ 100000) (hLc : L ≤ cc) (hd : d ≤ 16) (hc : c < 4096) (hn : n ≤ 15) {x : Nat} (hx : b[a]? = some x) (hx1 : ¬ x < 128)
    (ih : ∀ (w1 : World) (a1 e1 c1 : Nat), RS w1 p q off L cc b c1 0 → a1 < e1 → e1 ≤ L → c1 ≤ 4096 → Calls Tryd.prog 49 #[.pointer (some ⟨p, 0, none⟩), .int .i64 (a1 : Int), .int .i64 (e1 : Int), .int .i64 ((d : Int) + 1)] w1 fun r w' => RIT w1 w' p q off L cc b a1 (n + 3) (rdT n ((b.take e1).drop a1) c1) r ∧ Fr [p] w1 w') :
    Calls Tryd.prog 49 #[.pointer (some ⟨p, 0, none⟩), .int .i64 (a : Int), .int .i64 (en : Int), .int .i64 (d : Int)] w fun r w' => RIT w w' p q off L cc b a (n + 1 + 3) (rdT (n + 1) ((b.take en).drop a) c) r ∧ Fr [p] w w' := by
  have hxb : x < 256 := hB.at hx
  obtain ⟨M, hM⟩ : ∃ M, M = (b.take en).drop a := ⟨_, rfl⟩
  have HM := hid hM
  have hMl : M.length = en - a := by rw [hM]; exact mid_len b (by omega)
  have hM0 : M.getD 0 0 = x := by rw [hM]; exact mid_getD (by omega) hx
  obtain ⟨base, l, hh, hbase⟩ := hdr_base (M := M) (by rw [hM0]; exact hx1)
  rw [hM0] at hh hbase
  rw [← hM]
  obtain ⟨R, hR⟩ : ∃ R, R = rdT (n + 1) M c := ⟨_, rfl⟩
  rw [← hR]
  have HR := hid hR
  have HH := hid hh
  have HB := hid hB
  have IH := hid ih
  have HLB := hid hLb
  have HML := hid hMl
  obtain ⟨W, hW⟩ : ∃ W, W = w.alloc (.cells #[.bool false, .slice none 0 0, .slice none 0 0] 44) := ⟨_, rfl⟩
  have S : Hid (RS W p q off L cc b c 0) := hid (by rw [hW]; exact h.fr ((Fr.refl [] w).alloc _))
  have F : Hid (Fr [p] w W) := hid (by rw [hW]; exact (Fr.refl _ w).alloc _)
  have N : Hid (W.heap[w.heap.size]? = some (.cells #[.bool false, .slice none 0 0, .slice none 0 0] 44 (0, 0))) := hid (by rw [hW]; exact blk_new _ _)
  have hNp : w.heap.size ≠ p := by have := blk_lt h.rr; omega
  have HNQ : Hid (w.heap.size ≠ q) := hid (by have := h.hq; omega)
  obtain ⟨W2, hW2⟩ : ∃ W2, W2 = W.setCell ⟨p, 1, none⟩ (.int .i64 ((c : Int) + 1)) := ⟨_, rfl⟩
  have S2 : Hid (RS W2 p q off L cc b (c + 1) 0) := hid (by rw [hW2]; exact S.out.more)
  have F2 : Hid (Fr [p] w W2) := hid (by rw [hW2]; exact F.out.set _ _ (.inl (by simp)))
  have N2 : Hid (W2.heap[w.heap.size]? = some (.cells #[.bool false, .slice none 0 0, .slice none 0 0] 44 (0, 0))) := hid (by rw [hW2, blk_setne _ _ _ hNp]; exact N.out)
  have HNP := hid hNp
  obtain ⟨c0, c1, c2, z1, z2⟩ := S.out.cells
  obtain ⟨e0, e1, e2, y1, y2⟩ := S2.out.cells
  have hca := S2.out.at hx
  have h1 : ¬ (en : Int) ≤ (a : Int) := by omega
  have h1n : ¬ en ≤ a := by omega
  have h2 : ¬ (16 : Int) < (d : Int) := by omega
  have h3 : ((c : Int) == 4096) = false := beq_eq_false_iff_ne.2 (by omega)
  have h4 : (a : Int) < (L : Int) := by omega
  have h5 : ¬ (x : Int) < 128 := by omega
  have h7 : IntKind.i64.wrap ((c : Int) + 1) = (c : Int) + 1 := by rw [IntKind.wrap_i64]; omega
  have HC0 : Hid (c ≠ 4096) := hid (by omega)
  clear h hB hx hM hh hR ih hLb hMl hM0 hNp
  go_enter Tryd.func49, Tryd.ntmps49
  go_upto_region 1 with fail
  rw [← hW]
  clear hW
  go_upto_region 6 with fail
  rw [← hW2]
  clear hW2 c0 c1 c2 z1 z2 h3 h7
  go_upto_if 64 with fail
  go_cut [11] from 63 to 64 (fun v11 W' => v11 = .int .i64 (base : Int) ∧ W2 = W')
  case first =>
    rcases hbase with ⟨rfl, rfl, hb⟩ | ⟨rfl, rfl, hb⟩
    · have hb' : ¬ (192 : Int) ≤ (x : Int) := by omega
      go_wp2
      go_meet
      exact ⟨rfl, rfl⟩
    · have hb' : (192 : Int) ≤ (x : Int) := by omega
      go_wp2
      go_meet
      exact ⟨rfl, rfl⟩
  case rest =>
    obtain ⟨rfl, rfl⟩ := hcut
    obtain ⟨m, hm⟩ : ∃ m, m = x - base := ⟨_, rfl⟩
    have hmi : (x : Int) - (base : Int) = (m : Int) := by omega
    have hm64 : m < 64 := by omega
    rw [← hm] at HH
    clear hm
    go_upto_if 71 with fail
    go_cut [12, 13, 14, 15] from 70 to 129 (fun v12 v13 _ _ W' => ∃ s f m' : Nat, v12 = .int .i64 (m' : Int) ∧ v13 = .int .i64 (f : Int) ∧ f = a + s ∧ W2 = W' ∧ Hd M l s m')
    case first =>
      by_cases h55 : m ≤ 55
      · have h55' : ¬ (55 : Int) < (m : Int) := by omega
        have HD : Hid (Hd M l 1 m) := hid ⟨by rw [HH.out]; unfold hdrM; rw [if_pos h55], by omega, by omega, by omega, by rw [HML.out]; omega⟩
        go_wp2
        go_meet
        exact ⟨1, a + 1, m, rfl, by go_num, rfl, rfl, HD.out⟩
      · have h55' : (55 : Int) < (m : Int) := by omega
        obtain ⟨k, hk⟩ : ∃ k, m = 55 + k := ⟨m - 55, by omega⟩
        subst hk
        have hki : ((55 + k : Nat) : Int) - 55 = (k : Int) := by omega
        by_cases hsh : M.length < 1 + k
        · have hsh' : (en : Int) < (a : Int) + 1 + (k : Int) := by rw [HML.out] at hsh; omega
          have hres : Hid (R = .error 41) := hid (by rw [HR.out]; exact rdT_bad HC0.out (by rw [HH.out]; unfold hdrM; rw [if_neg (by omega), if_pos (by omega)]))
          clear hsh
          go_wp2_with fail
          refine (rfault_c W2 S2.out 41).mono ?_
          rintro r w3 ⟨rfl, s3, f3⟩
          have S3 := hid s3
          have F3 := hid (F2.out.trans f3)
          have N3 := hid (f3.at N2.out (by simp; exact HNP.out))
          have d0 := blk_cell N3.out 0
          have d1 := blk_cell N3.out 1
          have d2 := blk_cell N3.out 2
          have f0 := blk_frozen N3.out 0
          have f1 := blk_frozen N3.out 1
          have f2 := blk_frozen N3.out 2
          simp at d0 d1 d2
          clear s3 f3
          go_wp2
          have K := fin_z (a := .bool false) (b := .slice none 0 0) (c := .slice none 0 0) N3.out F3.out (Nat.le_refl _)
          exact bodyPost_ret (ret_ct rfl rfl (load_item K.1)) rfl ⟨by rw [hres.out]; exact ⟨rfl, _, S3.out.set3 HNP.out HNQ.out _ _ _⟩, K.2⟩
        · have hsh' : ¬ (en : Int) < (a : Int) + 1 + (k : Int) := by rw [HML.out] at hsh; omega
          have hake : a + 1 + k ≤ en := by rw [HML.out] at hsh; omega
          obtain ⟨D, hD⟩ : ∃ D, D = M.drop 1 := ⟨_, rfl⟩
          have HD1 := hid hD
          have HDB : Hid (By D) := hid (by rw [hD, HM.out]; exact ((HB.out.take en).drop a).drop 1)
          have HDX : Hid (∀ i, i < k → ∃ y, D[i]? = some y ∧ b[a + 1 + i]? = some y) := hid (fun i hi => by
            obtain ⟨y, hy⟩ : ∃ y, b[a + 1 + i]? = some y := ⟨_, List.getElem?_eq_getElem (by rw [HLB.out]; omega)⟩
            refine ⟨y, ?_, hy⟩
            rw [hD, HM.out, List.getElem?_drop, mid_at (by omega), ← Nat.add_assoc]; exact hy)
          clear hsh hD
          go_wp2_with fail
          go_loopw [12, 15] (fun v12 v15 wr => W2 = wr ∧ ∃ i m' : Nat, i ≤ k ∧ v15 = .int .i64 (i : Int) ∧ v12 = .int .i64 (m' : Int) ∧ Cap m' (big (D.take i))) (fun _ v15 _ => k - (intOf v15).toNat)
          case atStart => exact ⟨rfl, 0, 0, by omega, rfl, rfl, .inl ⟨by simp [big], by simp [big]⟩⟩
          case round =>
            obtain ⟨rfl, i, m', hi, rfl, rfl, hcap⟩ := hrel
            have hm' : m' ≤ 1000000000000 := by unfold Cap at hcap; omega
            have HCAP := hid hcap
            clear hcap
            by_cases hik : i < k
            · obtain ⟨y, hy1, hy2⟩ := HDX.out i hik
              have hyb : y < 256 := HDB.out.at hy1
              have hcy := S2.out.at hy2
              have hbt := big_take hy1
              have HBT := hid hbt
              have hik' : (i : Int) < (k : Int) := by omega
              have hi8 : (i : Int) < 8 := by omega
              have hidx : (a : Int) + 1 + (i : Int) < (L : Int) := by omega
              have hidx2 : ((a : Int) + 1 + (i : Int)).toNat = a + 1 + i := by omega
              have hw1 : IntKind.i64.wrap ((a : Int) + 1 + (i : Int)) = (a : Int) + 1 + (i : Int) := by rw [IntKind.wrap_i64]; omega
              clear hy1 hy2 hbt
              by_cases hcm : m' ≤ 2147483648
              · have hcm' : (m' : Int) ≤ 2147483648 := by omega
                have hw2 : IntKind.i64.wrap (256 * (m' : Int)) = 256 * (m' : Int) := by rw [IntKind.wrap_i64]; omega
                have hw3 : IntKind.i64.wrap (256 * (m' : Int) + (y : Int)) = 256 * (m' : Int) + (y : Int) := by rw [IntKind.wrap_i64]; omega
                have HC2 : Hid (Cap (256 * m' + y) (big (D.take (i + 1)))) := hid (by
                  have := HCAP.out
                  rw [HBT.out]
                  unfold Cap at *
                  omega)
                go_wp2
                go_roundw
                case rel => exact ⟨trivial, i + 1, 256 * m' + y, by omega, by go_num, by go_num, HC2.out⟩
                case measure => simp [intOf]; omega
              · have hcm' : ¬ (m' : Int) ≤ 2147483648 := by omega
                have HC2 : Hid (Cap m' (big (D.take (i + 1)))) := hid (by
                  have := HCAP.out
                  rw [HBT.out]
                  unfold Cap at *
                  omega)
                go_wp2
                go_roundw
                case rel => exact ⟨trivial, i + 1, m', by omega, by go_num, rfl, HC2.out⟩
                case measure => simp [intOf]; omega
            · have hik2 : i = k := by omega
              subst hik2
              have hik' : ¬ (i : Int) < (i : Int) := by omega
              have hk0 : 0 < i := by omega
              obtain ⟨y, hy1, hy2⟩ := HDX.out 0 hk0
              have hyb : y < 256 := HDB.out.at hy1
              have hcy := S2.out.at hy2
              have HG1 : Hid (M.getD 1 0 = y) := hid (by
                rw [HD1.out, List.getElem?_drop] at hy1
                rw [List.getD_eq_getElem?_getD, hy1]; rfl)
              have hidx : (a : Int) + 1 < (L : Int) := by omega
              have hidx2 : ((a : Int) + 1).toNat = a + 1 := by omega
              rw [Nat.add_zero] at hcy
              have HMK : Hid (hdrM M l (55 + i) = if y = 0 ∨ big (D.take i) ≤ 55 ∨ 2147483648 < big (D.take i) then .error 40 else hdrF M l (1 + i) (big (D.take i))) := hid (by
                unfold hdrM
                rw [if_neg (by omega), if_neg (by rw [HML.out]; omega), Nat.add_sub_cancel_left, HG1.out, ← HD1.out])
              clear hy1 hy2
              by_cases hbadF : y = 0 ∨ m' < 56 ∨ 2147483648 < m'
              · have hres : Hid (R = .error 40) := hid (by
                  rw [HR.out]
                  refine rdT_bad HC0.out ?_
                  rw [HH.out, HMK.out, if_pos]
                  have := HCAP.out
                  unfold Cap at this
                  omega)
                have HBF := hid hbadF
                clear hbadF
                by_cases hy0 : y = 0
                · subst hy0
                  go_wp2_with fail
                  refine (rfault_c W2 S2.out 40).mono ?_
                  rintro r w3 ⟨rfl, s3, f3⟩
                  have S3 := hid s3
                  have F3 := hid (F2.out.trans f3)
                  have N3 := hid (f3.at N2.out (by simp; exact HNP.out))
                  have d0 := blk_cell N3.out 0
                  have d1 := blk_cell N3.out 1
                  have d2 := blk_cell N3.out 2
                  have f0 := blk_frozen N3.out 0
                  have f1 := blk_frozen N3.out 1
                  have f2 := blk_frozen N3.out 2
                  simp at d0 d1 d2
                  clear s3 f3
                  go_wp2
                  have K := fin_z (a := .bool false) (b := .slice none 0 0) (c := .slice none 0 0) N3.out F3.out (Nat.le_refl _)
                  exact bodyPost_ret (ret_ct rfl rfl (load_item K.1)) rfl ⟨by rw [hres.out]; exact ⟨rfl, _, S3.out.set3 HNP.out HNQ.out _ _ _⟩, K.2⟩
                · have hy0' : ((y : Int) == 0) = false := beq_eq_false_iff_ne.2 (by omega)
                  by_cases hm56 : m' < 56
                  · have hm56' : (m' : Int) < 56 := by omega
                    go_wp2_with fail
                    refine (rfault_c W2 S2.out 40).mono ?_
                    rintro r w3 ⟨rfl, s3, f3⟩
                    have S3 := hid s3
                    have F3 := hid (F2.out.trans f3)
                    have N3 := hid (f3.at N2.out (by simp; exact HNP.out))
                    have d0 := blk_cell N3.out 0
                    have d1 := blk_cell N3.out 1
                    have d2 := blk_cell N3.out 2
                    have f0 := blk_frozen N3.out 0
                    have f1 := blk_frozen N3.out 1
                    have f2 := blk_frozen N3.out 2
                    simp at d0 d1 d2
                    clear s3 f3
                    go_wp2
                    have K := fin_z (a := .bool false) (b := .slice none 0 0) (c := .slice none 0 0) N3.out F3.out (Nat.le_refl _)
                    exact bodyPost_ret (ret_ct rfl rfl (load_item K.1)) rfl ⟨by rw [hres.out]; exact ⟨rfl, _, S3.out.set3 HNP.out HNQ.out _ _ _⟩, K.2⟩
                  · have hm56' : ¬ (m' : Int) < 56 := by omega
                    have hmg : (2147483648 : Int) < (m' : Int) := by have := HBF.out; omega
                    go_wp2_with fail
                    refine (rfault_c W2 S2.out 40).mono ?_
                    rintro r w3 ⟨rfl, s3, f3⟩
                    have S3 := hid s3
                    have F3 := hid (F2.out.trans f3)
                    have N3 := hid (f3.at N2.out (by simp; exact HNP.out))
                    have d0 := blk_cell N3.out 0
                    have d1 := blk_cell N3.out 1
                    have d2 := blk_cell N3.out 2
                    have f0 := blk_frozen N3.out 0
                    have f1 := blk_frozen N3.out 1
                    have f2 := blk_frozen N3.out 2
                    simp at d0 d1 d2
                    clear s3 f3
                    go_wp2
                    have K := fin_z (a := .bool false) (b := .slice none 0 0) (c := .slice none 0 0) N3.out F3.out (Nat.le_refl _)
                    exact bodyPost_ret (ret_ct rfl rfl (load_item K.1)) rfl ⟨by rw [hres.out]; exact ⟨rfl, _, S3.out.set3 HNP.out HNQ.out _ _ _⟩, K.2⟩
              · have hy0' : ((y : Int) == 0) = false := beq_eq_false_iff_ne.2 (by omega)
                have hm56' : ¬ (m' : Int) < 56 := by omega
                have hmg : ¬ (2147483648 : Int) < (m' : Int) := by omega
                have HD : Hid (Hd M l (1 + i) m') := hid (by
                  have hcp := HCAP.out
                  have e : m' = big (D.take i) := by unfold Cap at hcp; omega
                  refine ⟨?_, by omega, by omega, by omega, by rw [HML.out]; omega⟩
                  rw [HH.out, HMK.out, if_neg (by unfold Cap at hcp; omega), e])
                clear hbadF
                go_wp2
                go_meet
                exact ⟨1 + i, a + (1 + i), m', rfl, by go_num, rfl, rfl, HD.out⟩
    case rest =>
      obtain ⟨s, f, m', rfl, rfl, hsf, rfl, hHd⟩ := hcut
      obtain ⟨g1, g2, g3, g4, g5⟩ := hHd
      have HG1 := hid g1
      rw [HML.out] at g5
      clear g1
      have HSF := hid hsf
      have hsf2 : f ≤ a + s ∧ a + s ≤ f := by omega
      clear hsf
      have hfe : f ≤ en := by omega
      obtain ⟨t, ht0⟩ : ∃ t, t = f + m' := ⟨_, rfl⟩
      have ht : t ≤ f + m' ∧ f + m' ≤ t := by omega
      clear ht0
      have hti : (f : Int) + (m' : Int) = (t : Int) := by omega
      have HT : Hid (a + (s + m') = t) := hid (by omega)
      by_cases hov : M.length < s + m'
      · have hov' : (en : Int) - (f : Int) < (m' : Int) := by rw [HML.out] at hov; omega
        have hres : Hid (R = .error 41) := hid (by rw [HR.out]; exact rdT_bad HC0.out (by rw [HG1.out]; unfold hdrF; rw [if_pos hov]))
        clear hov
        go_wp2_with fail
        refine (rfault_c W2 S2.out 41).mono ?_
        rintro r w3 ⟨rfl, s3, f3⟩
        have S3 := hid s3
        have F3 := hid (F2.out.trans f3)
        have N3 := hid (f3.at N2.out (by simp; exact HNP.out))
        have d0 := blk_cell N3.out 0
        have d1 := blk_cell N3.out 1
        have d2 := blk_cell N3.out 2
        have f0 := blk_frozen N3.out 0
        have f1 := blk_frozen N3.out 1
        have f2 := blk_frozen N3.out 2
        simp at d0 d1 d2
        clear s3 f3
        go_wp2
        have K := fin_z (a := .bool false) (b := .slice none 0 0) (c := .slice none 0 0) N3.out F3.out (Nat.le_refl _)
        exact bodyPost_ret (ret_ct rfl rfl (load_item K.1)) rfl ⟨by rw [hres.out]; exact ⟨rfl, _, S3.out.set3 HNP.out HNQ.out _ _ _⟩, K.2⟩
      have hov' : ¬ (en : Int) - (f : Int) < (m' : Int) := by rw [HML.out] at hov; omega
      have hte : t ≤ en := by rw [HML.out] at hov; omega
      have HOV := hid hov
      have hMS := mid_mid (b := b) (a := a) (en := en) (s := s) (e := s + m') (by omega)
      rw [← HM.out, HT.out, show a + s = f by omega] at hMS
      obtain ⟨MS, hMSe⟩ : ∃ MS, MS = (b.take t).drop f := ⟨_, rfl⟩
      rw [← hMSe] at hMS
      have HMS := hid hMS
      have HMSE := hid hMSe
      have HMSL : Hid (MS.length = m') := hid (by rw [hMSe, mid_len b (by rw [HLB.out]; omega)]; omega)
      have HMSB : Hid (By MS) := hid (by rw [hMSe]; exact (HB.out.take t).drop f)
      clear hov hMS hMSe
      rcases hbase with ⟨rfl, rfl, hb⟩ | ⟨rfl, rfl, hb⟩
      · obtain ⟨bb, hbb⟩ : ∃ bb : Bool, bb = true ↔ (m' = 1 ∧ M.getD s 0 < 128) := by
          by_cases h : m' = 1 ∧ M.getD s 0 < 128
          · exact ⟨true, fun _ => h, fun _ => rfl⟩
          · exact ⟨false, fun e => (by cases e), fun e => absurd e h⟩
        have HBB := hid hbb
        clear hbb
        go_upto_region 30 with fail
        go_cut [155] from 144 to 154 (fun v W' => v = .bool bb ∧ W2 = W')
        case first =>
          by_cases hm1 : m' = 1
          · subst hm1
            obtain ⟨y, hy⟩ : ∃ y, b[f]? = some y := ⟨_, List.getElem?_eq_getElem (by rw [HLB.out]; omega)⟩
            have hMy : M.getD s 0 = y := by rw [HM.out]; exact mid_getD (by omega) (by rw [← HSF.out]; exact hy)
            have hcy := S2.out.at hy
            have hfl : (f : Int) < (L : Int) := by omega
            by_cases hy128 : y < 128
            · have hb1 : bb = true := HBB.out.2 ⟨rfl, by rw [hMy]; exact hy128⟩
              subst hb1
              have hy' : (y : Int) < 128 := by omega
              clear hy hMy
              go_wp2
              go_meet
              exact ⟨rfl, rfl⟩
            · have hb1 : bb = false := by
                rcases bb with _ | _
                · rfl
                · exact absurd (by rw [← hMy]; exact (HBB.out.1 rfl).2) hy128
              subst hb1
              have hy' : ¬ (y : Int) < 128 := by omega
              clear hy hMy
              go_wp2
              go_meet
              exact ⟨rfl, rfl⟩
          · have hm1' : ((m' : Int) == 1) = false := beq_eq_false_iff_ne.2 (by omega)
            have hb1 : bb = false := by
              rcases bb with _ | _
              · rfl
              · exact absurd (HBB.out.1 rfl).1 hm1
            subst hb1
            go_wp2
            go_meet
            exact ⟨rfl, rfl⟩
        case rest =>
          obtain ⟨rfl, rfl⟩ := hcut
          rcases bb with _ | _
          · have hres : Hid (R = .ok (mkT false MS [], s + m', c + 1)) := hid (by
              rw [HR.out, ← HMS.out]
              refine rdT_str HC0.out ?_
              rw [HG1.out]
              unfold hdrF
              rw [if_neg HOV.out, if_neg (fun h => by have := HBB.out.2 h.2; cases this)])
            have h9 : (f : Int) ≤ (t : Int) := by omega
            have h10 : (t : Int) ≤ (cc : Int) := by omega
            have h11 : t ≤ cc := by omega
            have h12 : f ≤ t := by omega
            have h13 : t - f = m' := by omega
            have hmsl : Hid (MS.length ≤ 140737488355328) := hid (by rw [HMSL.out]; omega)
            by_cases hcs : cc = f
            · have hm0 : m' = 0 := by omega
              have hMS0 : Hid (MS = []) := hid (List.eq_nil_of_length_eq_zero (by rw [HMSL.out]; exact hm0))
              subst hm0
              have htf : t = f := by omega
              subst htf
              subst hcs
              go_wp2_with (at_builtin; refine wpList_append_nil rfl _ _ rfl rfl (Fr.refl _ W2) _ (Rd.none_ (ns := MS) HMSL.out rfl) rfl hmsl.out ?_; intro v4 w4 o4 f4 _; rw [HMSL.out] at o4; obtain ⟨a4, c4, rfl, _⟩ := ownsRow_slice o4; have O4 := hid (ownsRow_base o4 (show w.heap.size + 1 ≤ W2.heap.size by have := blk_lt N2.out; omega)); have F4 := hid (F2.out.trans (f4.mono (S' := [p]) (by simp))); have S4 := hid (S2.out.fr f4); have N4 := hid (f4.at N2.out (by simp)); have d0 := blk_cell N4.out 0; have d1 := blk_cell N4.out 1; have d2 := blk_cell N4.out 2; have f0 := blk_frozen N4.out 0; have f1 := blk_frozen N4.out 1; have f2 := blk_frozen N4.out 2; simp at d0 d1 d2; clear o4 f4)
              have K := fin_z (a := .bool false) (b := .slice a4 0 c4) (c := .slice none 0 0) N4.out F4.out (Nat.le_refl _)
              exact bodyPost_ret (ret_ct rfl rfl (load_item K.1)) rfl ⟨by rw [hres.out]; exact ⟨⟨_, by rw [HT.out]; rfl, isF_out (isF_str (by rw [HMSL.out]; exact O4.out) HMSB.out hmsl.out (Nat.le_refl _)) _ _ _⟩, S4.out.set3 HNP.out HNQ.out _ _ _⟩, K.2⟩
            · have RSL : Hid (Rd W2 (.slice (some ⟨q, off + f, none⟩) m' (cc - f)) (bv MS)) := hid (by
                rw [HMSE.out, mid_eq, show t - f = m' by omega]
                have := S2.out.rd
                rw [← HLB.out] at this
                exact this.mid (by rw [HLB.out]; omega))
              go_wp2_with (at_builtin; refine wpList_append_nil rfl _ _ rfl rfl (Fr.refl _ W2) _ RSL.out rfl hmsl.out ?_; intro v4 w4 o4 f4 _; rw [HMSL.out] at o4; obtain ⟨a4, c4, rfl, _⟩ := ownsRow_slice o4; have O4 := hid (ownsRow_base o4 (show w.heap.size + 1 ≤ W2.heap.size by have := blk_lt N2.out; omega)); have F4 := hid (F2.out.trans (f4.mono (S' := [p]) (by simp))); have S4 := hid (S2.out.fr f4); have N4 := hid (f4.at N2.out (by simp)); have d0 := blk_cell N4.out 0; have d1 := blk_cell N4.out 1; have d2 := blk_cell N4.out 2; have f0 := blk_frozen N4.out 0; have f1 := blk_frozen N4.out 1; have f2 := blk_frozen N4.out 2; simp at d0 d1 d2; clear o4 f4)
              have K := fin_z (a := .bool false) (b := .slice a4 m' c4) (c := .slice none 0 0) N4.out F4.out (Nat.le_refl _)
              exact bodyPost_ret (ret_ct rfl rfl (load_item K.1)) rfl ⟨by rw [hres.out]; exact ⟨⟨_, by rw [HT.out]; rfl, isF_out (isF_str (by rw [HMSL.out]; exact O4.out) HMSB.out hmsl.out (Nat.le_refl _)) _ _ _⟩, S4.out.set3 HNP.out HNQ.out _ _ _⟩, K.2⟩
          · have hres : Hid (R = .error 40) := hid (by
              rw [HR.out]
              refine rdT_bad HC0.out ?_
              rw [HG1.out]
              unfold hdrF
              rw [if_neg HOV.out, if_pos ⟨rfl, HBB.out.1 rfl⟩])
            go_wp2_with fail
            refine (rfault_c W2 S2.out 40).mono ?_
            rintro r w3 ⟨rfl, s3, f3⟩
            have S3 := hid s3
            have F3 := hid (F2.out.trans f3)
            have N3 := hid (f3.at N2.out (by simp; exact HNP.out))
            have d0 := blk_cell N3.out 0
            have d1 := blk_cell N3.out 1
            have d2 := blk_cell N3.out 2
            have f0 := blk_frozen N3.out 0
            have f1 := blk_frozen N3.out 1
            have f2 := blk_frozen N3.out 2
            simp at d0 d1 d2
            clear s3 f3
            go_wp2
            have K := fin_z (a := .bool false) (b := .slice none 0 0) (c := .slice none 0 0) N3.out F3.out (Nat.le_refl _)
            exact bodyPost_ret (ret_ct rfl rfl (load_item K.1)) rfl ⟨by rw [hres.out]; exact ⟨rfl, _, S3.out.set3 HNP.out HNQ.out _ _ _⟩, K.2⟩
      · obtain ⟨RI, hRI⟩ : ∃ RI, RI = itemsR (rdT n) m' MS (c + 1) := ⟨_, rfl⟩
        have HRI := hid hRI
        have HRL : Hid (R = outL (s + m') RI) := hid (by
          rw [HR.out, rdT_list HC0.out (s := s) (e := s + m') (by rw [HG1.out]; unfold hdrF; rw [if_neg HOV.out, if_neg (by simp)]), Nat.add_sub_cancel_left, HMS.out, ← hRI])
        have hRQ : Hid (RQ w (W2.alloc (.cells #[.bool true, .slice none 0 0, .slice none 0 0] 44)) p q off L cc b n t W2.heap.size RI f [] [] (.slice none 0 0) (c + 1) m') := hid (by
          have hlt := blk_lt N2.out
          refine ⟨by omega, blk_new _ _, by rw [blk_old _ _ hlt]; exact N2.out, World.ownsRow_nil _ _ _ _, KidsF.nil _ _ _ _, S2.out.fr ((Fr.refl [] W2).alloc _), F2.out.alloc _, by omega, ?_, by omega, by simp⟩
          rw [hRI, HMSE.out]
          rcases itemsR (rdT n) m' ((b.take t).drop f) (c + 1) with x | ⟨u1, u2⟩ <;> rfl)
        have hXN : w.heap.size < W2.heap.size := blk_lt N2.out
        have hXp : p < W2.heap.size := blk_lt S2.out.rr
        have hXq : q < W2.heap.size := S2.out.hq
        clear hRI
        go_wp2_with fail
        obtain ⟨X, hX⟩ : ∃ X, X = W2.heap.size := ⟨_, rfl⟩
        rw [← hX] at hRQ hXN hXp hXq ⊢
        clear hX
        go_loopw [13, 18, 19] (fun v13 _ _ wr => RQE w wr p q off L cc b n t X RI v13) (fun v13 _ _ wr => mesR p t v13 wr)
        case atStart => exact .inl ⟨f, [], [], .slice none 0 0, c + 1, m', rfl, hRQ.out⟩
        case round =>
          rcases hrel with ⟨f', ts, cs, vi, c', g', rfl, hq'⟩ | ⟨rfl, e, c', he0, he1, hRe, hst, hfr, hNN⟩
          · have HQ := hid hq'
            have hle := hq'.le
            have hcl := hq'.cl
            have htl := hq'.tl
            have hfu := hq'.fuel
            have hXl := blk_lt hq'.hX
            obtain ⟨s0, s1, s2, s3, s4⟩ := hq'.st.cells
            have hmes : Hid (mesR p t (.int .i64 (f' : Int)) wr = t + 1 - f') := hid (mes_ok s2)
            by_cases hft : f' < t
            · have hM0 := take_drop_ne hft (b := b) (by rw [HLB.out]; omega)
              have hMl := mid_len b (s := f') (e := t) (by rw [HLB.out]; omega)
              obtain ⟨M', hM'⟩ : ∃ M', M' = (b.take t).drop f' := ⟨_, rfl⟩
              have IC := hid (IH.out wr f' t c' hq'.st hft (by omega) hcl)
              rw [← hM'] at hM0 hMl IC
              have HM' := hid hM'
              have HM0 := hid hM0
              have HML' := hid hMl
              have hMB : Hid (By M') := hid (by rw [hM']; exact (HB.out.take t).drop f')
              have hft' : (f' : Int) < (t : Int) := by omega
              have hdd : IntKind.i64.wrap ((d : Int) + 1) = (d : Int) + 1 := by rw [IntKind.wrap_i64]; omega
              clear hM' hM0 hMl hq'
              go_wp2_with fail
              refine IC.out.mono ?_
              rintro r w6 ⟨hT, f6⟩
              obtain ⟨l, a1, n1, c1, a2, n2, c2, nx, hr6, hT2⟩ := hT.parts
              clear hT IC
              subst hr6
              obtain ⟨w7, hw7⟩ : ∃ w7, w7 = w6.alloc (.cells #[.bool l, .slice a1 n1 c1, .slice a2 n2 c2] 44) := ⟨_, rfl⟩
              have F6 := hid f6
              have F67 : Hid (Fr [] w6 w7) := hid (by rw [hw7]; exact (Fr.refl [] w6).alloc _)
              have F7 : Hid (Fr [p] wr w7) := hid (by rw [hw7]; exact f6.alloc _)
              have hY7 : Hid (w7.heap[w6.heap.size]? = some (.cells #[.bool l, .slice a1 n1 c1, .slice a2 n2 c2] 44 (0, 0))) := hid (by rw [hw7]; exact blk_new _ _)
              have hs67 := f6.size
              have HT2 := hid hT2
              have hX7 := hid (F7.out.at HQ.out.hX (by simp; omega))
              have hN7 := hid (F7.out.at HQ.out.hN (by simp; exact HNP.out))
              have o7 := hid (ownsRow_of_block (w' := w7) HQ.out.own fun j hj => F7.out.block j (HQ.out.own.lt j hj).2 (by have := (HQ.out.own.lt j hj).1; simp; omega))
              have FW := hid (HQ.out.fr.trans F7.out)
              obtain ⟨ia, ic, hvi, hic⟩ := ownsRow_slice o7.out
              subst hvi
              have e2' := blk_cell hX7.out 2
              have y0' := blk_cell hY7.out 0
              have y1' := blk_cell hY7.out 1
              have y2' := blk_cell hY7.out 2
              simp at e2' y0' y1' y2'
              have hG8 := hid (blk_new w7 (.cells #[.bool l, .slice a1 n1 c1, .slice a2 n2 c2] 44))
              have o8 := hid (ownsRow_fr o7.out ((Fr.refl [] w7).alloc (.cells #[.bool l, .slice a1 n1 c1, .slice a2 n2 c2] 44)))
              have hX8 := hid (((Fr.refl [] w7).alloc (.cells #[.bool l, .slice a1 n1 c1, .slice a2 n2 c2] 44)).at hX7.out (by simp))
              have hX7l := blk_lt hX7.out
              clear hT2 f6 s0 s1 s2 s3 s4
              go_upto_region 36 with fail
              rw [← hw7]
              clear hw7
              go_wp2_with (
                at_builtin
                refine wpList_append_item rfl _ _ rfl (X + 1) (by simp; omega) _ _ _ rfl o8.out w7.heap.size rfl hG8.out (by omega) ?_
                intro v9 w9 o9 g9 d9
                have g9' : (w7.alloc (.cells #[.bool l, .slice a1 n1 c1, .slice a2 n2 c2] 44)).grownBy w9 (Value.slice ia ts.length ic).ownBlock := g9
                have d9' : v9.ownBlock = (Value.slice ia ts.length ic).ownBlock ∨ v9.ownBlock = some (w7.alloc (.cells #[.bool l, .slice a1 n1 c1, .slice a2 n2 c2] 44)).heap.size := d9
                have hlow : ∀ j, (Value.slice ia ts.length ic).ownBlock = some j → X + 1 ≤ j ∧ j < wr.heap.size := fun j hj => HQ.out.own.lt j hj
                have hX9 : w9.heap[X]? = some (.cells #[.bool true, .slice none 0 0, .slice ia ts.length ic] 44 (0, 0)) := by
                  rw [g9'.block X (blk_lt hX8.out) (fun e => by have := hlow _ e.symm; omega)]; exact hX8.out
                obtain ⟨ja, jc, hv9, _⟩ := ownsRow_slice o9
                subst hv9
                have x2 := blk_cell hX9 2
                have x2f := blk_frozen hX9 2
                simp at x2
                have HX9 := hid hX9
                have G9 := hid g9'
                have D9 := hid d9'
                have O9 := hid o9
                have HLOW := hid hlow
                clear hX9 g9 g9' d9 d9' o9 hlow)
              have hsz9 : w7.heap.size + 1 ≤ w9.heap.size := by have := G9.out.size; simpa using this
              have hstep : Hid (∀ j, j < w7.heap.size → j ≠ X → (Value.slice ia ts.length ic).ownBlock ≠ some j → (w9.setCell ⟨X, 2, none⟩ (.slice ja (ts.length + 1) jc)).heap[j]? = w7.heap[j]?) := hid (fun j hj hjX hjo => by
                rw [blk_setne _ _ _ hjX, G9.out.block j (by simp; omega) (fun e => hjo e.symm), blk_old _ _ hj])
              have hsz10 : (w9.setCell ⟨X, 2, none⟩ (.slice ja (ts.length + 1) jc)).heap.size = w9.heap.size := by simp [World.setCell]
              have hno : Hid (∀ j, j < X + 1 → (Value.slice ia ts.length ic).ownBlock ≠ some j) := hid (fun j hj e => by have := HLOW.out j e; omega)
              have fr10 : Hid (Fr [p] w (w9.setCell ⟨X, 2, none⟩ (.slice ja (ts.length + 1) jc))) := hid
                (((FW.out.alloc _).grown G9.out (fun j hj => .inr (by have := HLOW.out j hj; omega))).set _ _ (.inr (by omega)))
              have hX10 : Hid ((w9.setCell ⟨X, 2, none⟩ (.slice ja (ts.length + 1) jc)).heap[X]? = some (.cells #[.bool true, .slice none 0 0, .slice ja (ts.length + 1) jc] 44 (0, 0))) := hid (by rw [blk_set HX9.out]; rfl)
              have HOE : Hid ((w9.setCell ⟨X, 2, none⟩ (.slice ja (ts.length + 1) jc)).ownsRow (X + 1) 44 3 (.slice ja (ts.length + 1) jc) (ts.length + 1) (cs ++ [.bool l, .slice a1 n1 c1, .slice a2 n2 c2])) := hid (by
                refine ownsRow_of_block O9.out fun j hj => blk_setne _ _ _ ?_
                have := (O9.out.lt j hj).1; omega)
              have HKE : Hid (∀ tt : Tr (n + 3), IsF w6 wr.heap.size w6.heap.size (n + 3) (.agg #[.bool l, .slice a1 n1 c1, .slice a2 n2 c2]) tt → KidsF (w9.setCell ⟨X, 2, none⟩ (.slice ja (ts.length + 1) jc)) X (Value.slice ja (ts.length + 1) jc).ownBlock (n + 3) (ts ++ [tt]) (cs ++ [.bool l, .slice a1 n1 c1, .slice a2 n2 c2])) := hid (fun tt t3 => by
                have hs7 := F67.out.size
                refine KidsF.snoc (B := wr.heap.size) (E := w6.heap.size) ?_ (by omega) (by omega) ?_ ?_
                · refine (HQ.out.kids.step (w' := w7) F7.out.size (fun j hj1 hj2 _ => F7.out.block j hj2 (by simp; omega)) (.inl rfl)).step (by omega) (fun j hj1 hj2 hj3 => hstep.out j hj2 (by omega) hj3) ?_
                  rcases D9.out with h | h
                  · exact .inl h
                  · right; intro j hj; rw [h] at hj; cases hj; simp
                · intro j hj
                  rcases D9.out with h | h
                  · rw [h] at hj; have := HLOW.out j hj; left; omega
                  · rw [h] at hj; cases hj; right; simp; omega
                · refine t3.step fun j hj1 hj2 => ?_
                  rw [hstep.out j (by omega) (by omega) (fun e => by have := HLOW.out j e; omega)]
                  exact F67.out.block j hj2 (by simp))
              generalize w9.setCell ⟨X, 2, none⟩ (.slice ja (ts.length + 1) jc) = wE at hstep hsz10 fr10 hX10 HOE HKE ⊢
              have hp7 : p < w7.heap.size := by have := blk_lt (HQ.out.st.rr); have := F7.out.size; omega
              have hq7 : q < w7.heap.size := by have := HQ.out.st.hq; have := F7.out.size; omega
              have hNE : Hid (wE.heap[w.heap.size]? = some (.cells #[.bool false, .slice none 0 0, .slice none 0 0] 44 (0, 0))) := hid (by rw [hstep.out _ (blk_lt hN7.out) (by omega) (hno.out _ (by omega))]; exact hN7.out)
              have hSE : Hid (∀ c1 e1, RS w6 p q off L cc b c1 e1 → RS wE p q off L cc b c1 e1) := hid (fun c1 e1 h => by
                have h7 := h.fr F67.out
                refine h7.step (by omega) (hstep.out q hq7 (by omega) (hno.out q (by omega))) ?_
                rw [hstep.out p hp7 (by omega) (hno.out p (by omega))]
                exact h7.rr)
              have hE : Hid (RQE w wE p q off L cc b n t X RI (.int .i64 (nx : Int)) ∧ mesR p t (.int .i64 (nx : Int)) wE < t + 1 - f') := hid (by
                rcases HT2.out with ⟨e, c1', t1, rfl, t3⟩ | ⟨tt, k', c'', t1, rfl, t3, t4⟩
                · have hee : 0 < e ∧ e < 100 := by
                    rcases rdT_err n M' c' e hMB.out HM0.out hcl (by omega) t1 with h | h | h <;> omega
                  have hS := hSE.out _ _ t3
                  refine ⟨.inr ⟨rfl, e, c1', hee.1, hee.2, ?_, hS, fr10.out, hNE.out⟩, ?_⟩
                  · rw [HQ.out.all, ← HM'.out]; exact ahead_err HM0.out (by rw [HML'.out]; exact hfu) t1
                  · rw [mes_bad hS.cells.2.2.1 hee.1]; omega
                · obtain ⟨_, _, k1, k2, _, k4, _⟩ := rdT_inv n M' c' tt k' c'' (by omega) hMB.out HM0.out hcl t1
                  rw [HML'.out] at k2
                  obtain ⟨g1, hg1, hall⟩ := ahead_ok (ts := ts) HM0.out (by rw [HML'.out]; exact hfu) t1
                  have hS := hSE.out _ _ t4
                  refine ⟨.inl ⟨f' + k', ts ++ [tt], cs ++ [.bool l, .slice a1 n1 c1, .slice a2 n2 c2], .slice ja (ts.length + 1) jc, c'', g1, rfl, ?_⟩, ?_⟩
                  · refine ⟨by omega, hX10.out, hNE.out, ?_, ?_, hS, fr10.out, by omega, ?_, k4, by simp; omega⟩
                    · rw [List.length_append]
                      exact HOE.out
                    · exact HKE.out tt t3
                    · rw [HQ.out.all, ← HM'.out, hall, HM'.out, List.drop_drop]
                  · rw [mes_ok hS.cells.2.2.1]; omega)
              go_roundw
              case rel => go_light; exact hE.out.1
              case measure => go_light; rw [hmes.out]; exact hE.out.2
            · have hft2 : f' = t := by omega
              subst hft2
              have hRI2 : Hid (RI = .ok (ts, c')) := hid (by
                rw [HQ.out.all, List.drop_eq_nil_of_le (by rw [List.length_take]; omega)]
                cases g' <;> show Except.ok (ts ++ [], c') = _ <;> rw [List.append_nil])
              have hres : Hid (R = .ok (mkT true [] ts, s + m', c')) := hid (by rw [HRL.out, hRI2.out]; rfl)
              obtain ⟨ia, ic, hvi, hic⟩ := ownsRow_slice HQ.out.own
              subst hvi
              have HI := hid ((IsF.list HQ.out.kids HQ.out.own (Nat.lt_succ_self _) (by omega)).wide (show w.heap.size + 1 ≤ X + 1 by omega) (Nat.le_refl _))
              have i0 := blk_cell HQ.out.hX 0
              have i1 := blk_cell HQ.out.hX 1
              have i2 := blk_cell HQ.out.hX 2
              have d0 := blk_cell HQ.out.hN 0
              have d1 := blk_cell HQ.out.hN 1
              have d2 := blk_cell HQ.out.hN 2
              have f0 := blk_frozen HQ.out.hN 0
              have f1 := blk_frozen HQ.out.hN 1
              have f2 := blk_frozen HQ.out.hN 2
              simp at i0 i1 i2 d0 d1 d2
              have hnl : ¬ (f' : Int) < (f' : Int) := by omega
              clear hq'
              go_wp2
              have K := fin_z (a := .bool true) (b := .slice none 0 0) (c := .slice ia ts.length ic) HQ.out.hN HQ.out.fr (Nat.le_refl _)
              exact bodyPost_ret (ret_ct rfl rfl (load_item K.1)) rfl ⟨by rw [hres.out]; exact ⟨⟨_, by rw [HT.out]; rfl, isF_out HI.out _ _ _⟩, HQ.out.st.set3 HNP.out HNQ.out _ _ _⟩, K.2⟩
          · have hres : Hid (R = .error e) := hid (by rw [HRL.out, hRe]; rfl)
            have HST := hid hst
            have HFR := hid hfr
            have HNN := hid hNN
            obtain ⟨s0, s1, s2, s3, s4⟩ := hst.cells
            have d0 := blk_cell hNN 0
            have d1 := blk_cell hNN 1
            have d2 := blk_cell hNN 2
            have f0 := blk_frozen hNN 0
            have f1 := blk_frozen hNN 1
            have f2 := blk_frozen hNN 2
            simp at d0 d1 d2
            have ht0 : (0 : Int) < (t : Int) := by omega
            have hez : ((e : Int) == 0) = false := beq_eq_false_iff_ne.2 (by omega)
            clear hst hfr hNN hRe
            go_wp2
            have K := fin_z (a := .bool false) (b := .slice none 0 0) (c := .slice none 0 0) HNN.out HFR.out (Nat.le_refl _)
            exact bodyPost_ret (ret_ct rfl rfl (load_item K.1)) rfl ⟨by rw [hres.out]; exact ⟨rfl, _, HST.out.set3 HNP.out HNQ.out _ _ _⟩, K.2⟩
end Go.Proofs.YtbbaaegfbbjnjaaDoor
