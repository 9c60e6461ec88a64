/-
  The document's Decode of edits.
-/
import Derived.Test.YtegbngbhmgbocaaGreatDoorJ43
import Derived.Test.YtegbngbhmgbocaaGreatDoorDM6
import Derived.Test.YtegbngbhmgbocaaGreatDoorEK
import Derived.Deep.RegionHeld
import Derived.Deep.CutRange
namespace Go.Proofs.YtegbngbhmgbocaaGreatDoor
open Go.ChangeShapes Go.WideShapes Go.ChangeAt Go.RowKit

/-- How much is left to be read. -/
def mes9 (p AL : Nat) (wr : World) : Nat := match wr.cell? ⟨p, 1, none⟩, wr.cell? ⟨p, 2, none⟩ with
  | some (.int _ a), some (.bool false) => AL + 1 - a.toNat
  | _, _ => 0
theorem mes9_ok {p AL a : Nat} {v : Value} {wr : World} (h : wr.heap[p]? = some (.cells #[v, .int .i64 (a : Int), .bool false] 89 (0, 0))) : mes9 p AL wr = AL + 1 - a := by
  unfold mes9
  rw [blk_cell h, blk_cell h]
  simp
theorem mes9_no {p AL a : Nat} {v : Value} {wr : World} (h : wr.heap[p]? = some (.cells #[v, .int .i64 (a : Int), .bool true] 89 (0, 0))) : mes9 p AL wr = 0 := by
  unfold mes9
  rw [blk_cell h, blk_cell h]
  simp
/-- A round that takes something leaves less to be read. -/
theorem mes9_lt {ws w w' : World} {p : Nat} {v : Value} {all l : List Nat} {s : Option (List Nat)} (h : RkM ws w p v all (some l)) (h' : RkM ws w' p v all s) (hs : Sh (some l) s) : mes9 p all.length w' < mes9 p all.length w := by
  obtain ⟨⟨a, x, hla, ha⟩, _⟩ := h
  rw [mes9_ok x]
  obtain ⟨h1, _⟩ := h'
  rcases s with _ | l'
  · obtain ⟨b, y, _⟩ := h1
    rw [mes9_no y]; omega
  · obtain ⟨b, y, hlb, hb⟩ := h1
    rw [mes9_ok y]
    obtain ⟨m, e1, e2, _⟩ := hs l' rfl
    cases e1
    rw [hla, hlb, List.length_drop, List.length_drop] at e2
    omega
/-- What a round of the first loop keeps. -/
structure LQ (ws W wr : World) (p E : Nat) (v : Value) (all : List Nat) (n1 n2 n3 : Nat) (dv av : Value) (s : Option (List Nat)) : Prop where
  e : wr.heap[E]? = some (.cells #[.int .i64 (n1 : Int), .int .i64 (n2 : Int), .int .u64 (n3 : Int), dv, av] 41 (0, 0))
  r : RkM ws wr p v all s
  f : Fr [p, E] W wr
def Bnd (AL : Nat) (k : Nat) (s : Option (List Nat)) : Prop := k ≤ AL + 1 ∧ ∀ l, s = some l → k + l.length ≤ AL
theorem Bnd.next {AL k : Nat} {l : List Nat} {s : Option (List Nat)} (h : Bnd AL k (some l)) (hs : Sh (some l) s) : Bnd AL (k + 1) s := by
  have h1 := h.2 l rfl
  refine ⟨by omega, fun l' e => ?_⟩
  obtain ⟨m, e1, e2, _⟩ := hs l' e
  cases e1
  omega
theorem step9_build {ops : Array Oper} {o : Oper} {a : Act} {w : World} {K : Act → World → Prop} {Q : Exit → Act → World → Prop} {E : Prop} (hg : o.guard = none) (x : Operand) (hop : o.op = Op.buildSlice 38 1 #[(0, x)]) {y z : Int} (hx : a.eval x = .agg #[.int .i64 y, .int .i64 z]) {d : Tmp} (hd : o.dst = some d)
    (hK : K (a.put (some d) (.slice (some ⟨w.heap.size, 0, none⟩) 1 1)) (w.alloc (.cells #[.int .i64 y, .int .i64 z] 45))) :
    if Region.wanted o (yielded ops a.tmps) = true then Oper.wp Tryz.prog o a w K Q else E := by
  have hw : Region.wanted o (yielded ops a.tmps) = true := by simp [Region.wanted, hg]
  rw [if_pos hw]
  unfold Oper.wp
  simp [execOp, hop, hx]
  go_simp
  simp only [Act.put] at hK
  exact hK
theorem step9_app {ops : Array Oper} {o : Oper} {a : Act} {w : World} {K : Act → World → Prop} {Q : Exit → Act → World → Prop} {E : Prop} (hg : o.guard = none) (s x : Operand) (hop : o.op = Op.call { callee := Callee.builtin Builtin.append, args := #[s, x], argTypes := #[38, 38] }) (base : Nat) {va : Option Addr} {n vc : Nat} {xs : List Value} (hs : a.eval s = .slice va n vc) (hown : w.ownsRow base 45 2 (.slice va n vc) n xs) {G : Nat} (hx : a.eval x = .slice (some ⟨G, 0, none⟩) 1 1) {y z : Int} {T : TypeId} (hG : w.heap[G]? = some (.cells #[.int .i64 y, .int .i64 z] T (0, 0)))
    (hl : n ≤ 100000) (hbase : base ≤ w.heap.size) {d : Tmp} (hd : o.dst = some d)
    (hK : ∀ a' c' w', w'.ownsRow base 45 2 (.slice a' (n + 1) c') (n + 1) (xs ++ [.int .i64 y, .int .i64 z]) → w.grownBy w' (Value.slice va n vc).ownBlock → K (a.put (some d) (.slice a' (n + 1) c')) w') :
    if Region.wanted o (yielded ops a.tmps) = true then Oper.wp Tryz.prog o a w K Q else E := by
  rw [← hd] at hK
  obtain ⟨i0, hi0, hz0, hz1, hz2⟩ := info_parts infoGone
  exact step_append_own hg s x 38 hop base 45 i0 _ 2 16 Tryz.underlying38 hi0 hz0 hz1 hz2 rfl (by decide) _ n xs hs hown ⟨G, 0, none⟩ 1 1 [.int .i64 y, .int .i64 z] hx rfl (fun j u hj => by rw [Addr.add_lit, Nat.zero_add, blk_cell hG, ← Array.getElem?_toList]; exact hj) (by intro u hu; simp at hu; rcases hu with rfl | rfl <;> rfl) (by unfold maxLen; omega) (by omega) hbase (fun v' w' o' g' _ => by
    obtain ⟨a', c', rfl, _⟩ := ownsRow_slice o'
    exact hK a' c' w' o' g')

set_option maxRecDepth 20000 in
set_option maxHeartbeats 12800000 in
theorem rdec_c (w : World) {va : Option Addr} {AL vc : Nat} {b : List Nat} (hr : Rd w (.slice va AL vc) (bv b)) (hb : By b) (hL : b.length = AL) (hl : AL ≤ 4000) :
    Calls Tryz.prog 14 #[.slice va AL vc] w fun r w' => DecM w' w.heap.size (decO b) r ∧ Fr [] w w' := by
  obtain ⟨W, hW⟩ : ∃ W, W = (w.alloc (.cells #[.int .i64 0, .int .i64 0, .int .u64 0, .slice none 0 0, .slice none 0 0] 41)).alloc (.cells #[.slice va AL vc, .int .i64 0, .bool false] 89) := ⟨_, rfl⟩
  have F0 : Hid (Fr [] w W) := hid (by rw [hW]; exact ((Fr.refl _ w).alloc _).alloc _)
  have N0 : Hid (W.heap[w.heap.size]? = some (.cells #[.int .i64 0, .int .i64 0, .int .u64 0, .slice none 0 0, .slice none 0 0] 41 (0, 0))) := hid (by rw [hW, blk_old _ _ (by simp)]; exact blk_new _ _)
  have T0 : Hid (RkM w W (w.heap.size + 1) (.slice va AL vc) b (some b)) := hid ⟨⟨0, by rw [hW]; exact new_at _ _ (by simp), rfl, Nat.zero_le _⟩, ⟨hr, hb, by omega⟩, F0.out, by omega⟩
  have hWs : W.heap.size = w.heap.size + 2 := by rw [hW]; simp
  have b0 : ∀ l, some b = some l → By l := fun l e => by cases e; exact hb
  have l0 : ∀ l, some b = some l → l.length ≤ AL := fun l e => by cases e; omega
  have h1 := nmS_sh b0
  have b1 := h1.sm.by b0
  have l1 := h1.sm.len l0
  have h2 := nmS_sh b1
  have b2 := h2.sm.by b1
  have l2 := h2.sm.len l1
  have h3 := tkS_sh b2
  have b3 : ∀ l, hdS b = some l → By l := h3.sm.by b2
  have l3 : ∀ l, hdS b = some l → l.length ≤ AL := h3.sm.len l2
  have h4 := tkS_sh b3
  have b4 := h4.sm.by b3
  have l4 := h4.sm.len l3
  have h5 := sevS_sm (f := gnS) (fun s => gnS_sh) (tkS (hdS b)).1 _ b4
  have b5 : ∀ l, (drR b).2 = some l → By l := h5.by b4
  have l5 : ∀ l, (drR b).2 = some l → l.length ≤ AL := h5.len l4
  have h6 := tkS_sh b5
  have b6 := h6.sm.by b5
  have l6 := h6.sm.len l5
  have HPB : Hid (∀ p ∈ (adR b).1, (By p.2.least ∧ p.2.least.length ≤ AL) ∧ By p.2.most ∧ p.2.most.length ≤ AL) := hid (sevP_by (M := AL) (tkS (drR b).2).1 _ b6 l6)
  have HDEC := hid (decO_ref hb)
  have HB := hid hb
  have HLb := hid hL
  obtain ⟨n1, hn1⟩ : ∃ n, n = (nmS (some b)).1 := ⟨_, rfl⟩
  obtain ⟨s1, hs1⟩ : ∃ x, x = (nmS (some b)).2 := ⟨_, rfl⟩
  obtain ⟨n2, hn2⟩ : ∃ n, n = (nmS s1).1 := ⟨_, rfl⟩
  obtain ⟨s2, hs2⟩ : ∃ x, x = (nmS s1).2 := ⟨_, rfl⟩
  obtain ⟨n3, hn3⟩ : ∃ n, n = (tkS s2).1 := ⟨_, rfl⟩
  obtain ⟨s3, hs3⟩ : ∃ x, x = (tkS s2).2 := ⟨_, rfl⟩
  obtain ⟨m4, hm4⟩ : ∃ n, n = (tkS s3).1 := ⟨_, rfl⟩
  obtain ⟨s4, hs4⟩ : ∃ x, x = (tkS s3).2 := ⟨_, rfl⟩
  obtain ⟨DR, hDR⟩ : ∃ R, R = sevS gnS m4 s4 := ⟨_, rfl⟩
  obtain ⟨m6, hm6⟩ : ∃ n, n = (tkS DR.2).1 := ⟨_, rfl⟩
  obtain ⟨s6, hs6⟩ : ∃ x, x = (tkS DR.2).2 := ⟨_, rfl⟩
  obtain ⟨AR, hAR⟩ : ∃ R, R = sevS plS m6 s6 := ⟨_, rfl⟩
  have eh : hdS b = s3 := by rw [hs3, hs2, hs1]; rfl
  have ed : drR b = DR := by unfold drR; rw [eh, hDR, hm4, hs4]
  have ea : adR b = AR := by unfold adR; rw [ed, hAR, hm6, hs6]
  have ee : ∀ g p, edS b g p = ⟨(n1 : Int), (n2 : Int), n3, g, p⟩ := fun g p => by unfold edS; rw [hn3, hs2, hn2, hs1, hn1]
  rw [ea, ed, ee] at HDEC
  rw [ea] at HPB
  have C1 : Hid (Calls Tryz.prog 35 #[.pointer (some ⟨w.heap.size + 1, 0, none⟩)] W fun r w' => r = .returned (.int .i64 (n1 : Int)) ∧ RkM w w' (w.heap.size + 1) (.slice va AL vc) b s1 ∧ Fr [w.heap.size + 1] W w') := hid (by rw [hn1, hs1]; exact rint9_c T0.out)
  have C2 : Hid (∀ w1, RkM w w1 (w.heap.size + 1) (.slice va AL vc) b s1 → Calls Tryz.prog 35 #[.pointer (some ⟨w.heap.size + 1, 0, none⟩)] w1 fun r w' => r = .returned (.int .i64 (n2 : Int)) ∧ RkM w w' (w.heap.size + 1) (.slice va AL vc) b s2 ∧ Fr [w.heap.size + 1] w1 w') := hid (fun w1 h1 => by rw [hn2, hs2]; exact rint9_c h1)
  have C3 : Hid (∀ w1, RkM w w1 (w.heap.size + 1) (.slice va AL vc) b s2 → Calls Tryz.prog 36 #[.pointer (some ⟨w.heap.size + 1, 0, none⟩)] w1 fun r w' => r = .returned (.int .u64 (n3 : Int)) ∧ RkM w w' (w.heap.size + 1) (.slice va AL vc) b s3 ∧ Fr [w.heap.size + 1] w1 w') := hid (fun w1 h1 => by rw [hn3, hs3]; exact rtake_c h1)
  have C4 : Hid (∀ w1, RkM w w1 (w.heap.size + 1) (.slice va AL vc) b s3 → Calls Tryz.prog 36 #[.pointer (some ⟨w.heap.size + 1, 0, none⟩)] w1 fun r w' => r = .returned (.int .u64 (m4 : Int)) ∧ RkM w w' (w.heap.size + 1) (.slice va AL vc) b s4 ∧ Fr [w.heap.size + 1] w1 w') := hid (fun w1 h1 => by rw [hm4, hs4]; exact rtake_c h1)
  have C5 : Hid (∀ w1, RkM w w1 (w.heap.size + 1) (.slice va AL vc) b DR.2 → Calls Tryz.prog 36 #[.pointer (some ⟨w.heap.size + 1, 0, none⟩)] w1 fun r w' => r = .returned (.int .u64 (m6 : Int)) ∧ RkM w w' (w.heap.size + 1) (.slice va AL vc) b s6 ∧ Fr [w.heap.size + 1] w1 w') := hid (fun w1 h1 => by rw [hm6, hs6]; exact rtake_c h1)
  have hm4l : m4 < 18446744073709551616 := by rw [hm4]; exact tkS_lt (by rw [← eh]; exact b3)
  have hm6l : m6 < 18446744073709551616 := by rw [hm6]; exact tkS_lt (by rw [← ed]; exact b5)
  have L4 : Hid (∀ l, s4 = some l → l.length ≤ AL) := hid (by rw [hs4, ← eh]; exact l4)
  have L6 : Hid (∀ l, s6 = some l → l.length ≤ AL) := hid (by rw [hs6, ← ed]; exact l6)
  have HDR := hid hDR
  have HAR := hid hAR
  have HR := hid hr
  clear hn1 hs1 hn2 hs2 hn3 hs3 hm4 hs4 hDR hm6 hs6 hAR eh ed ea ee b0 l0 b1 l1 b2 l2 b3 l3 b4 l4 b5 l5 b6 l6 h1 h2 h3 h4 h5 h6 hb hL hr
  obtain ⟨O, hO⟩ : ∃ O, O = decO b := ⟨_, rfl⟩
  rw [← hO]
  rw [← hO] at HDEC
  clear hO
  go_enter Tryz.func14, Tryz.ntmps14
  go_upto_region 2 with fail
  rw [← hW]
  clear hW
  go_wp2_with fail
  refine C1.out.mono ?_
  rintro r w1 ⟨rfl, t1, f1⟩
  have D2 := hid (C2.out w1 t1)
  have F1 := hid f1
  clear t1 f1
  go_wp2_with fail
  refine D2.out.mono ?_
  rintro r w2 ⟨rfl, t2, f2⟩
  have D3 := hid (C3.out w2 t2)
  have F2 := hid (F1.out.trans f2)
  clear t2 f2
  go_wp2_with fail
  refine D3.out.mono ?_
  rintro r w3 ⟨rfl, t3, f3⟩
  obtain ⟨W3, hW3⟩ : ∃ W3, W3 = w3.alloc (.cells #[.int .i64 (n1 : Int), .int .i64 (n2 : Int), .int .u64 (n3 : Int), .slice none 0 0, .slice none 0 0] 41) := ⟨_, rfl⟩
  have T3 : Hid (RkM w W3 (w.heap.size + 1) (.slice va AL vc) b s3) := hid (by rw [hW3]; exact t3.fr ((Fr.refl [] w3).alloc _))
  have F3 : Hid (Fr [w.heap.size + 1] W W3) := hid (by rw [hW3]; exact (F2.out.trans f3).alloc _)
  have E3 : Hid (W3.heap[w3.heap.size]? = some (.cells #[.int .i64 (n1 : Int), .int .i64 (n2 : Int), .int .u64 (n3 : Int), .slice none 0 0, .slice none 0 0] 41 (0, 0))) := hid (by rw [hW3]; exact blk_new _ _)
  have hE3 : w.heap.size + 2 ≤ w3.heap.size := by have := (F2.out.trans f3).size; omega
  have hW3s : W3.heap.size = w3.heap.size + 1 := by rw [hW3]; simp
  obtain ⟨E, hE⟩ : ∃ E, E = w3.heap.size := ⟨_, rfl⟩
  rw [← hE] at E3 hE3 hW3s
  have D4 := hid (C4.out W3 T3.out)
  clear t3 f3
  go_upto_region 3 with fail
  rw [← hW3, ← hE]
  clear hW3 hE
  go_wp2_with fail
  refine D4.out.mono ?_
  rintro r w4 ⟨rfl, t4, f4⟩
  have Q4 : Hid (LQ w W w4 (w.heap.size + 1) E (.slice va AL vc) b n1 n2 n3 (.slice none 0 0) (.slice none 0 0) s4) := hid ⟨f4.at E3.out (by simp; omega), t4, (F3.out.mono (S' := [w.heap.size + 1, E]) (by simp)).trans (f4.mono (S' := [w.heap.size + 1, E]) (by simp))⟩
  clear t4 f4
  go_wp2_with fail
  obtain ⟨p, hp⟩ : ∃ p, p = w.heap.size + 1 := ⟨_, rfl⟩
  rw [← hp] at C5 Q4 ⊢
  have HP := hid hp
  have hpE : p < E := by omega
  have hpw : w.heap.size < p := by omega
  clear hp
  go_loopw [6] (fun v6 wr => ∃ (m : Nat) (gs : List (Int × Int)) (s : Option (List Nat)) (da : Option Addr) (dc : Nat), v6 = .int .u64 (m : Int) ∧ m < 18446744073709551616 ∧ LQ w W wr p E (.slice va AL vc) b n1 n2 n3 (.slice da gs.length dc) (.slice none 0 0) s ∧ DO wr (E + 1) (.slice da gs.length dc) gs ∧ DR = ahS gs (sevS gnS m s) ∧ Bnd AL gs.length s) (fun _ wr => mes9 p b.length wr)
  case atStart => exact ⟨m4, [], s4, none, 0, rfl, hm4l, Q4.out, World.ownsRow_nil _ _ _ _, by rw [HDR.out]; unfold ahS; simp, ⟨by simp, fun l e => by have := L4.out l e; simp; omega⟩⟩
  case round =>
    obtain ⟨m, gs, s, da, dc, rfl, hm, hq, hdo, hdr, hbn⟩ := hrel
    have HQ := hid hq
    have HDO := hid hdo
    have HDRR := hid hdr
    have HBN := hid hbn
    obtain ⟨lg, hlg⟩ : ∃ l, l = gs.length := ⟨_, rfl⟩
    have HLG := hid hlg
    rw [← hlg] at HQ HDO HBN
    clear hq hdo hdr hbn hlg
    by_cases hgo : 0 < m ∧ ∃ l, s = some l
    case pos =>
      obtain ⟨hm0, l, rfl⟩ := hgo
      obtain ⟨rst, hrr, hrf, hrp⟩ := HQ.out.r
      obtain ⟨at_, x, hla, hat⟩ := rst
      have c2 := blk_cell x 2
      simp at c2
      have hm0' : (0 : Int) < (m : Int) := by omega
      have hmw : IntKind.u64.wrap ((m : Int) - 1) = ((m - 1 : Nat) : Int) := by rw [IntKind.wrap_u64]; omega
      have IC1 := hid (rint9_c HQ.out.r)
      have hsh := gnS_sh (s := some l) HQ.out.r.by
      have HSH := hid hsh
      obtain ⟨k, hk⟩ : ∃ k, m = k + 1 := ⟨m - 1, by omega⟩
      have HST : Hid (DR = ahS (gs ++ [(gnS (some l)).1]) (sevS gnS (m - 1) (gnS (some l)).2)) := hid (by rw [HDRR.out, hk, ahS_step, Nat.add_sub_cancel])
      obtain ⟨g1, hg1⟩ : ∃ n, n = (nmS (some l)).1 := ⟨_, rfl⟩
      obtain ⟨q1, hq1⟩ : ∃ x, x = (nmS (some l)).2 := ⟨_, rfl⟩
      obtain ⟨g2, hg2⟩ : ∃ n, n = (nmS q1).1 := ⟨_, rfl⟩
      obtain ⟨q2, hq2⟩ : ∃ x, x = (nmS q1).2 := ⟨_, rfl⟩
      have eg : gnS (some l) = (((g1 : Int), (g2 : Int)), q2) := by unfold gnS; rw [hq2, hg2, hq1, hg1]
      rw [eg] at HST HSH
      rw [← hg1, ← hq1] at IC1
      have IC2 : Hid (∀ w1, RkM w w1 p (.slice va AL vc) b q1 → Calls Tryz.prog 35 #[.pointer (some ⟨p, 0, none⟩)] w1 fun r w' => r = .returned (.int .i64 (g2 : Int)) ∧ RkM w w' p (.slice va AL vc) b q2 ∧ Fr [p] w1 w') := hid (fun w1 h1 => by rw [hg2, hq2]; exact rint9_c h1)
      have hlgb : lg ≤ AL := by have := (HBN.out.2 l rfl); omega
      have hEr := blk_lt HQ.out.e
      clear eg hg2 hq2 hk hsh x hrr hrf hrp
      have OWN : Hid (∀ x2, Fr [p] wr.drew x2 → (x2.alloc (.cells #[.int .i64 (g1 : Int), .int .i64 (g2 : Int)] 45)).ownsRow (E + 1) 45 2 (.slice da lg dc) lg (cellsD gs)) := hid (fun x2 f2 => by
        have o : wr.ownsRow (E + 1) 45 2 (.slice da lg dc) gs.length (cellsD gs) := HDO.out
        rw [← HLG.out] at o
        exact ownsRow_fr (ownsRow_of_block (w' := x2) o fun k hk => f2.block k (o.lt k hk).2 (by have := (o.lt k hk).1; simp; omega)) ((Fr.refl [] x2).alloc _))
      have IC1' : Hid (Calls Tryz.prog 35 #[.pointer (some ⟨p, 0, none⟩)] wr.drew fun r w' => r = .returned (.int .i64 (g1 : Int)) ∧ RkM w w' p (.slice va AL vc) b q1 ∧ Fr [p] wr.drew w') := hid (by rw [hg1, hq1]; exact rint9_c (HQ.out.r.fr (Fr.refl [] wr).drew))
      have HE0 : Hid (wr.drew.heap[E]? = some (.cells #[.int .i64 (n1 : Int), .int .i64 (n2 : Int), .int .u64 (n3 : Int), .slice da lg dc, .slice none 0 0] 41 (0, 0))) := hid HQ.out.e
      have HFIN : Hid (∀ x2, Fr [p] wr.drew x2 → RkM w x2 p (.slice va AL vc) b q2 → ∀ a' c' x4, x4.ownsRow (E + 1) 45 2 (.slice a' (lg + 1) c') (lg + 1) (cellsD gs ++ [.int .i64 (g1 : Int), .int .i64 (g2 : Int)]) → (x2.alloc (.cells #[.int .i64 (g1 : Int), .int .i64 (g2 : Int)] 45)).grownBy x4 (Value.slice da lg dc).ownBlock → x4.heap[E]? = some (.cells #[.int .i64 (n1 : Int), .int .i64 (n2 : Int), .int .u64 (n3 : Int), .slice da lg dc, .slice none 0 0] 41 (0, 0)) ∧ LQ w W (x4.setCell ⟨E, 3, none⟩ (.slice a' (lg + 1) c')) p E (.slice va AL vc) b n1 n2 n3 (.slice a' (lg + 1) c') (.slice none 0 0) q2 ∧ DO (x4.setCell ⟨E, 3, none⟩ (.slice a' (lg + 1) c')) (E + 1) (.slice a' (lg + 1) c') (gs ++ [((g1 : Int), (g2 : Int))])) := hid (fun x2 f2 t2 a' c' x4 o4 g4 => by
        have hlow : ∀ k, (Value.slice da lg dc).ownBlock = some k → E + 1 ≤ k := fun k hk => (World.ownsRow.lt HDO.out k hk).1
        have e2 := f2.at HE0.out (by simp; omega)
        have e3 : (x2.alloc (.cells #[.int .i64 (g1 : Int), .int .i64 (g2 : Int)] 45)).heap[E]? = _ := (blk_old _ _ (blk_lt e2)).trans e2
        have e4 := (g4.block E (blk_lt e3) (fun e => by have := hlow E e.symm; omega)).trans e3
        have t3 := t2.fr ((Fr.refl [] x2).alloc (.cells #[.int .i64 (g1 : Int), .int .i64 (g2 : Int)] 45))
        have hE0 : w.heap.size ≤ E := by omega
        have r4 : Fr [] w x4 := t3.2.2.1.grown g4 (fun k hk => .inr (by have := hlow k hk; omega))
        have r5 : Fr [] w (x4.setCell ⟨E, 3, none⟩ (.slice a' (lg + 1) c')) := r4.set _ _ (.inr hE0)
        have t5 : RkM w (x4.setCell ⟨E, 3, none⟩ (.slice a' (lg + 1) c')) p (.slice va AL vc) b q2 := t3.keep ((blk_setne _ _ _ (by omega)).trans (g4.block p t3.lt (fun e => by have := hlow p e.symm; omega))) r5
        have f5 : Fr [p, E] W (x4.setCell ⟨E, 3, none⟩ (.slice a' (lg + 1) c')) := ((((HQ.out.f.drew).trans (f2.mono (S' := [p, E]) (by simp))).alloc _).grown g4 (fun k hk => .inr (by have := hlow k hk; omega))).set _ _ (.inl (by simp))
        refine ⟨e4, ⟨by rw [blk_set e4]; rfl, t5, f5⟩, ?_⟩
        unfold DO
        rw [List.length_append, cellsD_snoc, ← HLG.out]
        exact ownsRow_of_block o4 fun k hk => blk_setne _ _ _ (by have := (o4.lt k hk).1; omega))
      clear hg1 hq1
      go_upto_region 6 with fail
      refine wp_region_held_drew (S := fun _ => True) (by kernel_rfl) trivial (fun hS => ?_)
      refine wpAnyH_take (i := 0) (v := .pointer (some ⟨E, 3, none⟩)) rfl (by kernel_rfl) (by kernel_rfl) (by kernel_rfl) (fun _ _ _ h => h) (.inl ⟨by rfl, fun wx _ => by go_simp⟩) hS ?_
      simp only [Act.put]
      refine wpAnyH_take (i := 2) (v := .pointer (some ⟨p, 0, none⟩)) rfl (by kernel_rfl) (by kernel_rfl) (by kernel_rfl) (fun _ _ _ h => h) (.inl ⟨by rfl, fun wx _ => by go_simp⟩) hS ?_
      simp only [Act.put]
      refine wpAnyH_take (i := 4) (v := .pointer (some ⟨p, 0, none⟩)) rfl (by kernel_rfl) (by kernel_rfl) (by kernel_rfl) (fun _ _ _ h => h) (.inl ⟨by rfl, fun wx _ => by go_simp⟩) hS ?_
      simp only [Act.put]
      clear hS
      refine wpAnyH_ready (rs := [1, 3]) (by kernel_rfl) (by simp) ?_
      refine AllReadyH.cons rfl (fun K hK => ?_) (AllReadyH.cons rfl (fun K hK => ?_) AllReadyH.nil)
      · have z := blk_cell (HE0.out) 3
        simp at z
        go_simp
        refine hK.out _ _ trivial (fun _ => ?_)
        clear hK K z
        refine wpAnyH_ready (rs := [3]) (by kernel_rfl) (by simp) ?_
        refine AllReadyH.cons rfl (fun K hK => ?_) AllReadyH.nil
        go_simp
        refine IC1'.out.mono ?_
        rintro r x1 ⟨rfl, t1, f1⟩
        have D5 := hid (IC2.out x1 t1)
        have F1 := hid f1
        refine hK.out _ _ trivial (fun _ => ?_)
        clear hK K t1 f1
        refine wpAnyH_ready (rs := [5]) (by kernel_rfl) (by simp) ?_
        refine AllReadyH.cons rfl (fun K hK => ?_) AllReadyH.nil
        go_simp
        refine D5.out.mono ?_
        rintro r x2 ⟨rfl, t2, f2⟩
        have T2 := hid t2
        have F2 := hid (F1.out.trans f2)
        refine hK.out _ _ trivial (fun hS2 => ?_)
        clear hK K t2 f2
        have hS2 : True := trivial
        refine wpAnyH_take (i := 6) (v := .agg #[.int .i64 (g1 : Int), .int .i64 (g2 : Int)]) rfl (by kernel_rfl) (by kernel_rfl) (by kernel_rfl) (fun _ _ _ h => h) (.inl ⟨by rfl, fun wx _ => by go_simp⟩) hS2 ?_
        simp only [Act.put]
        refine wpAnyH_ready (rs := [7]) (by kernel_rfl) (by simp) ?_
        refine AllReadyH.cons rfl (fun K hK => ?_) AllReadyH.nil
        refine step9_build (y := (g1 : Int)) (z := (g2 : Int)) rfl (.tmp 40) rfl (by simp [Act.eval]) (d := 41) rfl ?_
        refine hK.out _ _ trivial (fun _ => ?_)
        clear hK K
        refine wpAnyH_ready (rs := [8]) (by kernel_rfl) (by simp) ?_
        refine AllReadyH.cons rfl (fun K hK => ?_) AllReadyH.nil
        refine step9_app (va := da) (n := lg) (vc := dc) (xs := cellsD gs) (G := x2.heap.size) (y := (g1 : Int)) (z := (g2 : Int)) rfl (.tmp 35) (.tmp 41) rfl (E + 1) (by first | (simp [Act.eval]; done) | simp [Act.eval, Act.put]) (OWN.out x2 F2.out) (by first | (simp [Act.eval]; done) | simp [Act.eval, Act.put]) (blk_new _ _) (by omega) (by have := F2.out.size; have : wr.drew.heap.size = wr.heap.size := rfl; simp; omega) (d := 42) rfl ?_
        intro a' c' x4 o4 g4
        obtain ⟨e4, LQ5, DO5⟩ := HFIN.out x2 F2.out T2.out a' c' x4 o4 g4
        have LQ5 := hid LQ5
        have DO5 := hid DO5
        have y3 := blk_cell e4 3
        have yf := blk_frozen e4 3
        simp at y3
        refine hK.out _ _ trivial (fun _ => ?_)
        clear hK K o4 g4 e4
        refine wpAnyH_take (i := 9) (v := .pointer (some ⟨E, 3, none⟩)) rfl (by kernel_rfl) (by kernel_rfl) (by kernel_rfl) (fun _ _ _ h => h) (.inl ⟨by rfl, fun wx _ => by go_simp⟩) hS2 ?_
        simp only [Act.put]
        refine wpAnyH_ready (rs := [10]) (by kernel_rfl) (by simp) ?_
        refine AllReadyH.cons rfl (fun K hK => ?_) AllReadyH.nil
        go_simp
        refine hK.out _ _ trivial (fun _ => ?_)
        clear hK K
        refine wpAnyH_done (by kernel_rfl) ?_ _
        have hlen : Hid ((gs ++ [((g1 : Int), (g2 : Int))]).length = lg + 1) := hid (by rw [List.length_append, ← HLG.out]; rfl)
        have hmes : Hid (mes9 p b.length (x4.setCell ⟨E, 3, none⟩ (.slice a' (lg + 1) c')) < mes9 p b.length wr) := hid (mes9_lt HQ.out.r LQ5.out.r HSH.out)
        have hbn2 : Hid (Bnd AL (lg + 1) q2) := hid (HBN.out.next HSH.out)
        go_wp2_with fail
        go_roundw
        case rel =>
          go_light
          refine ⟨m - 1, gs ++ [((g1 : Int), (g2 : Int))], q2, a', c', rfl, by omega, ?_, ?_, HST.out, ?_⟩
          · rw [hlen.out]; exact LQ5.out
          · rw [hlen.out]; exact DO5.out
          · rw [hlen.out]; exact hbn2.out
        case measure => go_light; exact hmes.out
      · go_simp
        refine IC1'.out.mono ?_
        rintro r x1 ⟨rfl, t1, f1⟩
        have D5 := hid (IC2.out x1 t1)
        have F1 := hid f1
        refine hK.out _ _ trivial (fun _ => ?_)
        clear hK K t1 f1
        refine wpAnyH_ready (rs := [1, 5]) (by kernel_rfl) (by simp) ?_
        refine AllReadyH.cons rfl (fun K hK => ?_) (AllReadyH.cons rfl (fun K hK => ?_) AllReadyH.nil)
        · have z := blk_cell (F1.out.at HE0.out (by simp; omega)) 3
          simp at z
          go_simp
          refine hK.out _ _ trivial (fun _ => ?_)
          clear hK K z
          refine wpAnyH_ready (rs := [5]) (by kernel_rfl) (by simp) ?_
          refine AllReadyH.cons rfl (fun K hK => ?_) AllReadyH.nil
          go_simp
          refine D5.out.mono ?_
          rintro r x2 ⟨rfl, t2, f2⟩
          have T2 := hid t2
          have F2 := hid (F1.out.trans f2)
          refine hK.out _ _ trivial (fun hS2 => ?_)
          clear hK K t2 f2
          have hS2 : True := trivial
          refine wpAnyH_take (i := 6) (v := .agg #[.int .i64 (g1 : Int), .int .i64 (g2 : Int)]) rfl (by kernel_rfl) (by kernel_rfl) (by kernel_rfl) (fun _ _ _ h => h) (.inl ⟨by rfl, fun wx _ => by go_simp⟩) hS2 ?_
          simp only [Act.put]
          refine wpAnyH_ready (rs := [7]) (by kernel_rfl) (by simp) ?_
          refine AllReadyH.cons rfl (fun K hK => ?_) AllReadyH.nil
          refine step9_build (y := (g1 : Int)) (z := (g2 : Int)) rfl (.tmp 40) rfl (by simp [Act.eval]) (d := 41) rfl ?_
          refine hK.out _ _ trivial (fun _ => ?_)
          clear hK K
          refine wpAnyH_ready (rs := [8]) (by kernel_rfl) (by simp) ?_
          refine AllReadyH.cons rfl (fun K hK => ?_) AllReadyH.nil
          refine step9_app (va := da) (n := lg) (vc := dc) (xs := cellsD gs) (G := x2.heap.size) (y := (g1 : Int)) (z := (g2 : Int)) rfl (.tmp 35) (.tmp 41) rfl (E + 1) (by first | (simp [Act.eval]; done) | simp [Act.eval, Act.put]) (OWN.out x2 F2.out) (by first | (simp [Act.eval]; done) | simp [Act.eval, Act.put]) (blk_new _ _) (by omega) (by have := F2.out.size; have : wr.drew.heap.size = wr.heap.size := rfl; simp; omega) (d := 42) rfl ?_
          intro a' c' x4 o4 g4
          obtain ⟨e4, LQ5, DO5⟩ := HFIN.out x2 F2.out T2.out a' c' x4 o4 g4
          have LQ5 := hid LQ5
          have DO5 := hid DO5
          have y3 := blk_cell e4 3
          have yf := blk_frozen e4 3
          simp at y3
          refine hK.out _ _ trivial (fun _ => ?_)
          clear hK K o4 g4 e4
          refine wpAnyH_take (i := 9) (v := .pointer (some ⟨E, 3, none⟩)) rfl (by kernel_rfl) (by kernel_rfl) (by kernel_rfl) (fun _ _ _ h => h) (.inl ⟨by rfl, fun wx _ => by go_simp⟩) hS2 ?_
          simp only [Act.put]
          refine wpAnyH_ready (rs := [10]) (by kernel_rfl) (by simp) ?_
          refine AllReadyH.cons rfl (fun K hK => ?_) AllReadyH.nil
          go_simp
          refine hK.out _ _ trivial (fun _ => ?_)
          clear hK K
          refine wpAnyH_done (by kernel_rfl) ?_ _
          have hlen : Hid ((gs ++ [((g1 : Int), (g2 : Int))]).length = lg + 1) := hid (by rw [List.length_append, ← HLG.out]; rfl)
          have hmes : Hid (mes9 p b.length (x4.setCell ⟨E, 3, none⟩ (.slice a' (lg + 1) c')) < mes9 p b.length wr) := hid (mes9_lt HQ.out.r LQ5.out.r HSH.out)
          have hbn2 : Hid (Bnd AL (lg + 1) q2) := hid (HBN.out.next HSH.out)
          go_wp2_with fail
          go_roundw
          case rel =>
            go_light
            refine ⟨m - 1, gs ++ [((g1 : Int), (g2 : Int))], q2, a', c', rfl, by omega, ?_, ?_, HST.out, ?_⟩
            · rw [hlen.out]; exact LQ5.out
            · rw [hlen.out]; exact DO5.out
            · rw [hlen.out]; exact hbn2.out
          case measure => go_light; exact hmes.out
        · go_simp
          refine D5.out.mono ?_
          rintro r x2 ⟨rfl, t2, f2⟩
          have T2 := hid t2
          have F2 := hid (F1.out.trans f2)
          refine hK.out _ _ trivial (fun hS2 => ?_)
          clear hK K t2 f2
          have hS2 : True := trivial
          refine wpAnyH_take (i := 6) (v := .agg #[.int .i64 (g1 : Int), .int .i64 (g2 : Int)]) rfl (by kernel_rfl) (by kernel_rfl) (by kernel_rfl) (fun _ _ _ h => h) (.inl ⟨by rfl, fun wx _ => by go_simp⟩) hS2 ?_
          simp only [Act.put]
          refine wpAnyH_ready (rs := [1, 7]) (by kernel_rfl) (by simp) ?_
          refine AllReadyH.cons rfl (fun K hK => ?_) (AllReadyH.cons rfl (fun K hK => ?_) AllReadyH.nil)
          · have z := blk_cell (F2.out.at HE0.out (by simp; omega)) 3
            simp at z
            go_simp
            refine hK.out _ _ trivial (fun _ => ?_)
            clear hK K z
            refine wpAnyH_ready (rs := [7]) (by kernel_rfl) (by simp) ?_
            refine AllReadyH.cons rfl (fun K hK => ?_) AllReadyH.nil
            refine step9_build (y := (g1 : Int)) (z := (g2 : Int)) rfl (.tmp 40) rfl (by simp [Act.eval]) (d := 41) rfl ?_
            refine hK.out _ _ trivial (fun _ => ?_)
            clear hK K
            refine wpAnyH_ready (rs := [8]) (by kernel_rfl) (by simp) ?_
            refine AllReadyH.cons rfl (fun K hK => ?_) AllReadyH.nil
            refine step9_app (va := da) (n := lg) (vc := dc) (xs := cellsD gs) (G := x2.heap.size) (y := (g1 : Int)) (z := (g2 : Int)) rfl (.tmp 35) (.tmp 41) rfl (E + 1) (by first | (simp [Act.eval]; done) | simp [Act.eval, Act.put]) (OWN.out x2 F2.out) (by first | (simp [Act.eval]; done) | simp [Act.eval, Act.put]) (blk_new _ _) (by omega) (by have := F2.out.size; have : wr.drew.heap.size = wr.heap.size := rfl; simp; omega) (d := 42) rfl ?_
            intro a' c' x4 o4 g4
            obtain ⟨e4, LQ5, DO5⟩ := HFIN.out x2 F2.out T2.out a' c' x4 o4 g4
            have LQ5 := hid LQ5
            have DO5 := hid DO5
            have y3 := blk_cell e4 3
            have yf := blk_frozen e4 3
            simp at y3
            refine hK.out _ _ trivial (fun _ => ?_)
            clear hK K o4 g4 e4
            refine wpAnyH_take (i := 9) (v := .pointer (some ⟨E, 3, none⟩)) rfl (by kernel_rfl) (by kernel_rfl) (by kernel_rfl) (fun _ _ _ h => h) (.inl ⟨by rfl, fun wx _ => by go_simp⟩) hS2 ?_
            simp only [Act.put]
            refine wpAnyH_ready (rs := [10]) (by kernel_rfl) (by simp) ?_
            refine AllReadyH.cons rfl (fun K hK => ?_) AllReadyH.nil
            go_simp
            refine hK.out _ _ trivial (fun _ => ?_)
            clear hK K
            refine wpAnyH_done (by kernel_rfl) ?_ _
            have hlen : Hid ((gs ++ [((g1 : Int), (g2 : Int))]).length = lg + 1) := hid (by rw [List.length_append, ← HLG.out]; rfl)
            have hmes : Hid (mes9 p b.length (x4.setCell ⟨E, 3, none⟩ (.slice a' (lg + 1) c')) < mes9 p b.length wr) := hid (mes9_lt HQ.out.r LQ5.out.r HSH.out)
            have hbn2 : Hid (Bnd AL (lg + 1) q2) := hid (HBN.out.next HSH.out)
            go_wp2_with fail
            go_roundw
            case rel =>
              go_light
              refine ⟨m - 1, gs ++ [((g1 : Int), (g2 : Int))], q2, a', c', rfl, by omega, ?_, ?_, HST.out, ?_⟩
              · rw [hlen.out]; exact LQ5.out
              · rw [hlen.out]; exact DO5.out
              · rw [hlen.out]; exact hbn2.out
            case measure => go_light; exact hmes.out
          · refine step9_build (y := (g1 : Int)) (z := (g2 : Int)) rfl (.tmp 40) rfl (by simp [Act.eval]) (d := 41) rfl ?_
            refine hK.out _ _ trivial (fun _ => ?_)
            clear hK K
            refine wpAnyH_ready (rs := [1]) (by kernel_rfl) (by simp) ?_
            refine AllReadyH.cons rfl (fun K hK => ?_) AllReadyH.nil
            have z := blk_cell ((F2.out.alloc (.cells #[.int .i64 (g1 : Int), .int .i64 (g2 : Int)] 45)).at HE0.out (by simp; omega)) 3
            simp at z
            go_simp
            refine hK.out _ _ trivial (fun _ => ?_)
            clear hK K z
            refine wpAnyH_ready (rs := [8]) (by kernel_rfl) (by simp) ?_
            refine AllReadyH.cons rfl (fun K hK => ?_) AllReadyH.nil
            refine step9_app (va := da) (n := lg) (vc := dc) (xs := cellsD gs) (G := x2.heap.size) (y := (g1 : Int)) (z := (g2 : Int)) rfl (.tmp 35) (.tmp 41) rfl (E + 1) (by first | (simp [Act.eval]; done) | simp [Act.eval, Act.put]) (OWN.out x2 F2.out) (by first | (simp [Act.eval]; done) | simp [Act.eval, Act.put]) (blk_new _ _) (by omega) (by have := F2.out.size; have : wr.drew.heap.size = wr.heap.size := rfl; simp; omega) (d := 42) rfl ?_
            intro a' c' x4 o4 g4
            obtain ⟨e4, LQ5, DO5⟩ := HFIN.out x2 F2.out T2.out a' c' x4 o4 g4
            have LQ5 := hid LQ5
            have DO5 := hid DO5
            have y3 := blk_cell e4 3
            have yf := blk_frozen e4 3
            simp at y3
            refine hK.out _ _ trivial (fun _ => ?_)
            clear hK K o4 g4 e4
            refine wpAnyH_take (i := 9) (v := .pointer (some ⟨E, 3, none⟩)) rfl (by kernel_rfl) (by kernel_rfl) (by kernel_rfl) (fun _ _ _ h => h) (.inl ⟨by rfl, fun wx _ => by go_simp⟩) hS2 ?_
            simp only [Act.put]
            refine wpAnyH_ready (rs := [10]) (by kernel_rfl) (by simp) ?_
            refine AllReadyH.cons rfl (fun K hK => ?_) AllReadyH.nil
            go_simp
            refine hK.out _ _ trivial (fun _ => ?_)
            clear hK K
            refine wpAnyH_done (by kernel_rfl) ?_ _
            have hlen : Hid ((gs ++ [((g1 : Int), (g2 : Int))]).length = lg + 1) := hid (by rw [List.length_append, ← HLG.out]; rfl)
            have hmes : Hid (mes9 p b.length (x4.setCell ⟨E, 3, none⟩ (.slice a' (lg + 1) c')) < mes9 p b.length wr) := hid (mes9_lt HQ.out.r LQ5.out.r HSH.out)
            have hbn2 : Hid (Bnd AL (lg + 1) q2) := hid (HBN.out.next HSH.out)
            go_wp2_with fail
            go_roundw
            case rel =>
              go_light
              refine ⟨m - 1, gs ++ [((g1 : Int), (g2 : Int))], q2, a', c', rfl, by omega, ?_, ?_, HST.out, ?_⟩
              · rw [hlen.out]; exact LQ5.out
              · rw [hlen.out]; exact DO5.out
              · rw [hlen.out]; exact hbn2.out
            case measure => go_light; exact hmes.out
    case neg =>
      have hDRe : Hid (DR = (gs, s)) := hid (by
        rw [HDRR.out]
        rcases s with _ | l
        · exact ahS_none
        · have : m = 0 := by
            rcases Nat.eq_zero_or_pos m with h | h
            · exact h
            · exact absurd ⟨h, l, rfl⟩ hgo
          rw [this]; exact ahS_end)
      go_upto_region 4 with fail
      go_cut [31] from 23 to 30 (fun v W' => v = .bool false ∧ wr = W')
      case first =>
        by_cases hm0 : 0 < m
        · have hm0' : (0 : Int) < (m : Int) := by omega
          obtain ⟨rst, _⟩ := HQ.out.r
          rcases s with _ | l
          · obtain ⟨at_, x, _⟩ := rst
            have c2 := blk_cell x 2
            simp at c2
            clear x
            go_wp2
            go_meet
            exact ⟨rfl, rfl⟩
          · exact absurd ⟨hm0, l, rfl⟩ hgo
        · have hm0' : ¬ (0 : Int) < (m : Int) := by omega
          go_wp2
          go_meet
          exact ⟨rfl, rfl⟩
      case rest =>
        obtain ⟨rfl, rfl⟩ := hcut
        rw [hDRe.out] at C5
        dsimp only at C5
        have D6 := hid (C5.out wr HQ.out.r)
        have HBG : Hid (lg ≤ AL + 1) := hid HBN.out.1
        clear hgo
        go_wp2_with fail
        refine D6.out.mono ?_
        rintro r w6 ⟨rfl, t6, f6⟩
        have Q6 : Hid (LQ w W w6 p E (.slice va AL vc) b n1 n2 n3 (.slice da lg dc) (.slice none 0 0) s6) := hid ⟨f6.at HQ.out.e (by simp; omega), t6, HQ.out.f.trans (f6.mono (S' := [p, E]) (by simp))⟩
        have DO6 : Hid (DO w6 (E + 1) (.slice da lg dc) gs) := hid (HDO.out.step fun k hk hk2 => f6.block k hk2 (by simp; omega))
        clear t6 f6 D6
        go_wp2_with fail
        go_loopw [7, 8] (fun v7 _ wr => ∃ (m : Nat) (ps : List (Int × Fl)) (s : Option (List Nat)) (aa : Option Addr) (ac : Nat), v7 = .int .u64 (m : Int) ∧ m < 18446744073709551616 ∧ LQ w W wr p E (.slice va AL vc) b n1 n2 n3 (.slice da lg dc) (.slice aa ps.length ac) s ∧ DO wr (E + 1) (.slice da lg dc) gs ∧ AO wr (E + 1) (.slice aa ps.length ac) ps ∧ AR = ahS ps (sevS plS m s) ∧ Bnd AL ps.length s) (fun _ _ wr => mes9 p b.length wr)
        case atStart => exact ⟨m6, [], s6, none, 0, rfl, hm6l, Q6.out, DO6.out, AO.nil _ _, by rw [HAR.out]; unfold ahS; simp, ⟨by simp, fun l e => by have := L6.out l e; simp; omega⟩⟩
        case round =>
          obtain ⟨m, ps, s, aa, ac, rfl, hm, hq, hdo, hao, har, hbn⟩ := hrel
          have HQ := hid hq
          have HDO := hid hdo
          have HAO := hid hao
          have HARR := hid har
          have HBN := hid hbn
          obtain ⟨lp, hlp⟩ : ∃ l, l = ps.length := ⟨_, rfl⟩
          have HLP := hid hlp
          rw [← hlp] at HQ HAO HBN
          clear hq hdo hao har hbn hlp
          by_cases hgo : 0 < m ∧ ∃ l, s = some l
          case pos =>
            obtain ⟨hm0, l, rfl⟩ := hgo
            obtain ⟨rst, _⟩ := HQ.out.r
            obtain ⟨at_, x, hla, hat⟩ := rst
            have c2 := blk_cell x 2
            simp at c2
            have hm0' : (0 : Int) < (m : Int) := by omega
            have hmw : IntKind.u64.wrap ((m : Int) - 1) = ((m - 1 : Nat) : Int) := by rw [IntKind.wrap_u64]; omega
            have hsh := plS_sh (s := some l) HQ.out.r.by
            have HSH := hid hsh
            obtain ⟨k, hk⟩ : ∃ k, m = k + 1 := ⟨m - 1, by omega⟩
            have HST : Hid (AR = ahS (ps ++ [(plS (some l)).1]) (sevS plS (m - 1) (plS (some l)).2)) := hid (by rw [HARR.out, hk, ahS_step, Nat.add_sub_cancel])
            obtain ⟨g1, hg1⟩ : ∃ n, n = (nmS (some l)).1 := ⟨_, rfl⟩
            obtain ⟨q1, hq1⟩ : ∃ x, x = (nmS (some l)).2 := ⟨_, rfl⟩
            obtain ⟨g2, hg2⟩ : ∃ n, n = (nmS q1).1 := ⟨_, rfl⟩
            obtain ⟨q2, hq2⟩ : ∃ x, x = (nmS q1).2 := ⟨_, rfl⟩
            obtain ⟨g3, hg3⟩ : ∃ n, n = (nmS q2).1 := ⟨_, rfl⟩
            obtain ⟨q3, hq3⟩ : ∃ x, x = (nmS q2).2 := ⟨_, rfl⟩
            obtain ⟨k1, hk1⟩ : ∃ n, n = (kyS q3).1 := ⟨_, rfl⟩
            obtain ⟨q4, hq4⟩ : ∃ x, x = (kyS q3).2 := ⟨_, rfl⟩
            obtain ⟨k2, hk2⟩ : ∃ n, n = (kyS q4).1 := ⟨_, rfl⟩
            obtain ⟨q5, hq5⟩ : ∃ x, x = (kyS q4).2 := ⟨_, rfl⟩
            have eg : plS (some l) = (((g1 : Int), ⟨(g2 : Int), (g3 : Int), k1, k2⟩), q5) := by unfold plS; rw [hq5, hk2, hq4, hk1, hq3, hg3, hq2, hg2, hq1, hg1]
            rw [eg] at HST HSH
            have I1 : Hid (Calls Tryz.prog 35 #[.pointer (some ⟨p, 0, none⟩)] wr fun r w' => r = .returned (.int .i64 (g1 : Int)) ∧ RkM w w' p (.slice va AL vc) b q1 ∧ Fr [p] wr w') := hid (by rw [hg1, hq1]; exact rint9_c HQ.out.r)
            have I2 : Hid (∀ w1, RkM w w1 p (.slice va AL vc) b q1 → Calls Tryz.prog 35 #[.pointer (some ⟨p, 0, none⟩)] w1 fun r w' => r = .returned (.int .i64 (g2 : Int)) ∧ RkM w w' p (.slice va AL vc) b q2 ∧ Fr [p] w1 w') := hid (fun w1 h1 => by rw [hg2, hq2]; exact rint9_c h1)
            have I3 : Hid (∀ w1, RkM w w1 p (.slice va AL vc) b q2 → Calls Tryz.prog 35 #[.pointer (some ⟨p, 0, none⟩)] w1 fun r w' => r = .returned (.int .i64 (g3 : Int)) ∧ RkM w w' p (.slice va AL vc) b q3 ∧ Fr [p] w1 w') := hid (fun w1 h1 => by rw [hg3, hq3]; exact rint9_c h1)
            have I4 : Hid (∀ w1, RkM w w1 p (.slice va AL vc) b q3 → Calls Tryz.prog 37 #[.pointer (some ⟨p, 0, none⟩)] w1 fun r w' => (∃ a c, r = .returned (.slice a k1.length c) ∧ w'.ownsRow w1.heap.size 5 1 (.slice a k1.length c) k1.length (bv k1)) ∧ RkM w w' p (.slice va AL vc) b q4 ∧ Fr [p] w1 w') := hid (fun w1 h1 => by rw [hk1, hq4]; exact rbytes9_c h1)
            have I5 : Hid (∀ w1, RkM w w1 p (.slice va AL vc) b q4 → Calls Tryz.prog 37 #[.pointer (some ⟨p, 0, none⟩)] w1 fun r w' => (∃ a c, r = .returned (.slice a k2.length c) ∧ w'.ownsRow w1.heap.size 5 1 (.slice a k2.length c) k2.length (bv k2)) ∧ RkM w w' p (.slice va AL vc) b q5 ∧ Fr [p] w1 w') := hid (fun w1 h1 => by rw [hk2, hq5]; exact rbytes9_c h1)
            obtain ⟨l1, hl1⟩ : ∃ l, l = k1.length := ⟨_, rfl⟩
            obtain ⟨l2, hl2⟩ : ∃ l, l = k2.length := ⟨_, rfl⟩
            simp only [← hl1] at I4
            simp only [← hl2] at I5
            have HL1 := hid hl1
            have HL2 := hid hl2
            have hlpb : lp ≤ AL := by have := (HBN.out.2 l rfl); omega
            have hEr := blk_lt HQ.out.e
            clear eg hg1 hq1 hg2 hq2 hg3 hq3 hk1 hq4 hk2 hq5 hk hsh x hl1 hl2
            go_wp2_with fail
            refine I1.out.mono ?_
            rintro r y1 ⟨rfl, t1, f1⟩
            obtain ⟨Y1, hY1⟩ : ∃ Y, Y = y1.alloc (.cells #[.int .i64 (g1 : Int), .int .i64 0, .int .i64 0, .slice none 0 0, .slice none 0 0] 64) := ⟨_, rfl⟩
            obtain ⟨Z, hZ⟩ : ∃ Z, Z = y1.heap.size := ⟨_, rfl⟩
            have hZr : wr.heap.size ≤ Z := by rw [hZ]; exact f1.size
            have B1 : Hid (Y1.heap[Z]? = some (.cells #[.int .i64 (g1 : Int), .int .i64 0, .int .i64 0, .slice none 0 0, .slice none 0 0] 64 (0, 0))) := hid (by rw [hY1, hZ]; exact blk_new _ _)
            have T1 : Hid (RkM w Y1 p (.slice va AL vc) b q1) := hid (by rw [hY1]; exact t1.fr ((Fr.refl [] y1).alloc _))
            have F1 : Hid (Fr [p] wr Y1) := hid (by rw [hY1]; exact f1.alloc _)
            have hpZ : p < Z := by omega
            have hwZ : w.heap.size ≤ Z := by omega
            have J2 := hid (I2.out Y1 T1.out)
            clear t1 f1
            go_upto_region 11 with fail
            rw [← hY1, ← hZ]
            clear hY1 hZ
            go_wp2_with fail
            refine J2.out.mono ?_
            rintro r y2 ⟨rfl, t2, f2⟩
            have b2 := f2.at B1.out (by simp; omega)
            have e2 := blk_cell b2 1
            have z2 := blk_frozen b2 1
            simp at e2
            obtain ⟨Y2, hY2⟩ : ∃ Y, Y = y2.setCell ⟨Z, 1, none⟩ (.int .i64 (g2 : Int)) := ⟨_, rfl⟩
            have B2 : Hid (Y2.heap[Z]? = some (.cells #[.int .i64 (g1 : Int), .int .i64 (g2 : Int), .int .i64 0, .slice none 0 0, .slice none 0 0] 64 (0, 0))) := hid (by rw [hY2, blk_set b2]; rfl)
            have T2 : Hid (RkM w Y2 p (.slice va AL vc) b q2) := hid (t2.keep (by rw [hY2]; exact blk_setne _ _ _ (by omega)) (by rw [hY2]; exact t2.2.2.1.set _ _ (.inr hwZ)))
            have F2 : Hid (Fr [p] wr Y2) := hid (by rw [hY2]; exact (F1.out.trans f2).set _ _ (.inr hZr))
            have J3 := hid (I3.out Y2 T2.out)
            clear t2 f2 b2
            go_upto_region 12 with fail
            rw [← hY2]
            clear hY2 e2 z2
            go_wp2_with fail
            refine J3.out.mono ?_
            rintro r y3 ⟨rfl, t3, f3⟩
            have b3 := f3.at B2.out (by simp; omega)
            have e3 := blk_cell b3 2
            have z3 := blk_frozen b3 2
            simp at e3
            obtain ⟨Y3, hY3⟩ : ∃ Y, Y = y3.setCell ⟨Z, 2, none⟩ (.int .i64 (g3 : Int)) := ⟨_, rfl⟩
            have B3 : Hid (Y3.heap[Z]? = some (.cells #[.int .i64 (g1 : Int), .int .i64 (g2 : Int), .int .i64 (g3 : Int), .slice none 0 0, .slice none 0 0] 64 (0, 0))) := hid (by rw [hY3, blk_set b3]; rfl)
            have T3 : Hid (RkM w Y3 p (.slice va AL vc) b q3) := hid (t3.keep (by rw [hY3]; exact blk_setne _ _ _ (by omega)) (by rw [hY3]; exact t3.2.2.1.set _ _ (.inr hwZ)))
            have F3 : Hid (Fr [p] wr Y3) := hid (by rw [hY3]; exact (F2.out.trans f3).set _ _ (.inr hZr))
            have J4 := hid (I4.out Y3 T3.out)
            clear t3 f3 b3
            go_upto_region 13 with fail
            rw [← hY3]
            clear hY3 e3 z3
            go_wp2_with fail
            refine J4.out.mono ?_
            rintro r y4 ⟨⟨a4, c4, rfl, o4⟩, t4, f4⟩
            have b4 := f4.at B3.out (by simp; omega)
            have e4 := blk_cell b4 3
            have z4 := blk_frozen b4 3
            simp at e4
            obtain ⟨Y4, hY4⟩ : ∃ Y, Y = y4.setCell ⟨Z, 3, none⟩ (.slice a4 l1 c4) := ⟨_, rfl⟩
            have B4 : Hid (Y4.heap[Z]? = some (.cells #[.int .i64 (g1 : Int), .int .i64 (g2 : Int), .int .i64 (g3 : Int), .slice a4 l1 c4, .slice none 0 0] 64 (0, 0))) := hid (by rw [hY4, blk_set b4]; rfl)
            have T4 : Hid (RkM w Y4 p (.slice va AL vc) b q4) := hid (t4.keep (by rw [hY4]; exact blk_setne _ _ _ (by omega)) (by rw [hY4]; exact t4.2.2.1.set _ _ (.inr hwZ)))
            have F4 : Hid (Fr [p] wr Y4) := hid (by rw [hY4]; exact (F3.out.trans f4).set _ _ (.inr hZr))
            have hY3 := F3.out.size
            have J5 := hid (I5.out Y4 T4.out)
            have OK1 : Hid (Y4.ownsRow (Z + 1) 5 1 (.slice a4 l1 c4) l1 (bv k1)) := hid (by
              have hb : Z + 1 ≤ Y3.heap.size := blk_lt B3.out
              rw [hY4]; exact own_set (ownsRow_base o4 hb) (Nat.lt_succ_self _))
            clear o4
            clear t4 f4 b4
            go_upto_region 14 with fail
            rw [← hY4]
            clear hY4 e4 z4
            go_wp2_with fail
            refine J5.out.mono ?_
            rintro r y5 ⟨⟨a5, c5, rfl, o5⟩, t5, f5⟩
            have b5 := f5.at B4.out (by simp; omega)
            have e5 := blk_cell b5 4
            have z5 := blk_frozen b5 4
            simp at e5
            obtain ⟨Y5, hY5⟩ : ∃ Y, Y = y5.setCell ⟨Z, 4, none⟩ (.slice a5 l2 c5) := ⟨_, rfl⟩
            have B5 : Hid (Y5.heap[Z]? = some (.cells #[.int .i64 (g1 : Int), .int .i64 (g2 : Int), .int .i64 (g3 : Int), .slice a4 l1 c4, .slice a5 l2 c5] 64 (0, 0))) := hid (by rw [hY5, blk_set b5]; rfl)
            have T5 : Hid (RkM w Y5 p (.slice va AL vc) b q5) := hid (t5.keep (by rw [hY5]; exact blk_setne _ _ _ (by omega)) (by rw [hY5]; exact t5.2.2.1.set _ _ (.inr hwZ)))
            have F5 : Hid (Fr [p] wr Y5) := hid (by rw [hY5]; exact (F4.out.trans f5).set _ _ (.inr hZr))
            have OK2 : Hid (Y5.ownsRow (Z + 1) 5 1 (.slice a5 l2 c5) l2 (bv k2)) := hid (by
              have hb : Z + 1 ≤ Y4.heap.size := blk_lt B4.out
              rw [hY5]; exact own_set (ownsRow_base o5 hb) (Nat.lt_succ_self _))
            have OK15 : Hid (Y5.ownsRow (Z + 1) 5 1 (.slice a4 l1 c4) l1 (bv k1)) := hid (by
              rw [hY5]
              exact own_set (ownsRow_of_block (w' := y5) OK1.out fun k hk => f5.block k (OK1.out.lt k hk).2 (by have := (OK1.out.lt k hk).1; simp; omega)) (Nat.lt_succ_self _))
            clear o5
            clear t5 f5 b5
            go_upto_region 15 with fail
            rw [← hY5]
            clear hY5 e5 z5
            have hE5 := F5.out.at HQ.out.e (by simp; omega)
            have HE5 := hid hE5
            obtain ⟨x0, x1, x2, x3, x4⟩ : Y5.cell? ⟨Z, 0, none⟩ = some (.int .i64 (g1 : Int)) ∧ Y5.cell? ⟨Z, 1, none⟩ = some (.int .i64 (g2 : Int)) ∧ Y5.cell? ⟨Z, 2, none⟩ = some (.int .i64 (g3 : Int)) ∧ Y5.cell? ⟨Z, 3, none⟩ = some (.slice a4 l1 c4) ∧ Y5.cell? ⟨Z, 4, none⟩ = some (.slice a5 l2 c5) := ⟨by rw [blk_cell B5.out]; rfl, by rw [blk_cell B5.out]; rfl, by rw [blk_cell B5.out]; rfl, by rw [blk_cell B5.out]; rfl, by rw [blk_cell B5.out]; rfl⟩
            have e4 := blk_cell hE5 4
            simp at e4
            obtain ⟨cs, oa, hcs⟩ := HAO.out
            rw [← HLP.out] at oa
            have stay : ∀ {e : TypeId} {s n : Nat} {v : Value} {xs : List Value}, wr.ownsRow (E + 1) e s v n xs → Y5.ownsRow (E + 1) e s v n xs := fun o => ownsRow_of_block o fun k hk => F5.out.block k (o.lt k hk).2 (by have := (o.lt k hk).1; simp; omega)
            have O5 := hid (stay oa)
            have CS5 : Hid (∀ (j : Nat) (p : Int × Fl), ps[j]? = some p → ∃ la lc ma mc, cs[j * 5]? = some (.int .i64 p.1) ∧ cs[j * 5 + 1]? = some (.int .i64 p.2.num) ∧ cs[j * 5 + 2]? = some (.int .i64 p.2.size) ∧ cs[j * 5 + 3]? = some (.slice la p.2.least.length lc) ∧ cs[j * 5 + 4]? = some (.slice ma p.2.most.length mc) ∧ Y5.ownsRow (E + 1) 5 1 (.slice la p.2.least.length lc) p.2.least.length (bv p.2.least) ∧ Y5.ownsRow (E + 1) 5 1 (.slice ma p.2.most.length mc) p.2.most.length (bv p.2.most)) := hid (fun j p hj => by
              obtain ⟨a, b, c, d, c0, c1, c2, c3, c4, r0, r1⟩ := hcs j p hj
              exact ⟨a, b, c, d, c0, c1, c2, c3, c4, stay r0, stay r1⟩)
            have DO5 : Hid (DO Y5 (E + 1) (.slice da lg dc) gs) := hid (HDO.out.step fun k hk hk2 => F5.out.block k hk2 (by simp; omega))
            have FA := hid ((Fr.refl [] Y5).alloc (.cells #[.int .i64 (g1 : Int), .int .i64 (g2 : Int), .int .i64 (g3 : Int), .slice a4 l1 c4, .slice a5 l2 c5] 64))
            have O6 := hid (ownsRow_fr O5.out FA.out)
            have G6 := hid (blk_new Y5 (.cells #[.int .i64 (g1 : Int), .int .i64 (g2 : Int), .int .i64 (g3 : Int), .slice a4 l1 c4, .slice a5 l2 c5] 64))
            have hlow : Hid (∀ k, (Value.slice aa lp ac).ownBlock = some k → E + 1 ≤ k) := hid (fun k hk => (oa.lt k hk).1)
            have hY5s := F5.out.size
            have hZ5 := blk_lt B5.out
            clear hE5 oa hcs stay
            go_wp2_with (at_builtin; refine wpList_append_placed rfl _ _ rfl (E + 1) (by simp; omega) _ _ _ rfl O6.out Y5.heap.size rfl G6.out (by omega) ?_; intro v7 x7 o7 g7; obtain ⟨a7, c7, rfl, _⟩ := ownsRow_slice o7; have hE7 : x7.heap[E]? = some (.cells #[.int .i64 (n1 : Int), .int .i64 (n2 : Int), .int .u64 (n3 : Int), .slice da lg dc, .slice aa lp ac] 41 (0, 0)) := by { have h6 := FA.out.at HE5.out (by simp); exact (g7.block E (blk_lt h6) (fun e => by have := hlow.out E e.symm; omega)).trans h6 }; have q4 := blk_cell hE7 4; have q4f := blk_frozen hE7 4; simp at q4; have HE7 := hid hE7; have O7 := hid o7; have G7 := hid g7; clear hE7 o7 g7)
            have FIN : Hid (LQ w W (x7.setCell ⟨E, 4, none⟩ (.slice a7 (lp + 1) c7)) p E (.slice va AL vc) b n1 n2 n3 (.slice da lg dc) (.slice a7 (lp + 1) c7) q5 ∧ DO (x7.setCell ⟨E, 4, none⟩ (.slice a7 (lp + 1) c7)) (E + 1) (.slice da lg dc) gs ∧ AO (x7.setCell ⟨E, 4, none⟩ (.slice a7 (lp + 1) c7)) (E + 1) (.slice a7 (lp + 1) c7) (ps ++ [((g1 : Int), ⟨(g2 : Int), (g3 : Int), k1, k2⟩)])) := hid (by
              have t6 := T5.out.fr FA.out
              have hE0 : w.heap.size ≤ E := by omega
              have r7 : Fr [] w x7 := t6.2.2.1.grown G7.out (fun k hk => .inr (by have := hlow.out k hk; omega))
              have f7 : Fr [p, E] W x7 := ((HQ.out.f.trans (F5.out.mono (S' := [p, E]) (by simp))).alloc _).grown G7.out (fun k hk => .inr (by have := hlow.out k hk; omega))
              refine ⟨⟨by rw [blk_set HE7.out]; rfl, t6.keep ((blk_setne _ _ _ (by omega)).trans (G7.out.block p t6.lt (fun e => by have := hlow.out p e.symm; omega))) (r7.set _ _ (.inr hE0)), f7.set _ _ (.inl (by simp))⟩, ?_, ?_⟩
              · have d6 : DO (Y5.alloc (.cells #[.int .i64 (g1 : Int), .int .i64 (g2 : Int), .int .i64 (g3 : Int), .slice a4 l1 c4, .slice a5 l2 c5] 64)) (E + 1) (.slice da lg dc) gs := DO5.out.step fun k _ hk => blk_old _ _ hk
                have d6' : World.ownsRow _ (E + 1) 45 2 (.slice da lg dc) gs.length (cellsD gs) := d6
                have d7 : x7.ownsRow (E + 1) 45 2 (.slice da lg dc) gs.length (cellsD gs) := by
                  refine ownsRow_of_block d6' fun k hk => ?_
                  rcases d6'.2 with ⟨h, _⟩ | ⟨h, cap, cur, hh, _, h3, _⟩
                  · rw [h] at hk; simp [Value.ownBlock] at hk
                  · rw [hh] at hk
                    simp [Value.ownBlock] at hk
                    subst hk
                    exact G7.out.block _ (blk_lt h3) (fun e' => own_apart O6.out h3 (by decide) e'.symm)
                exact ownsRow_of_block d7 fun k hk => blk_setne _ _ _ (by have := (d7.lt k hk).1; omega)
              · have hZE : E + 1 ≤ Z + 1 := by omega
                have a7' : AO x7 (E + 1) (.slice a7 (lp + 1) c7) (ps ++ [((g1 : Int), ⟨(g2 : Int), (g3 : Int), k1, k2⟩)]) := by
                  refine AO.app (W := Y5.alloc (.cells #[.int .i64 (g1 : Int), .int .i64 (g2 : Int), .int .i64 (g3 : Int), .slice a4 l1 c4, .slice a5 l2 c5] 64)) (v := .slice aa lp ac) (cs := cs) (p := ((g1 : Int), ⟨(g2 : Int), (g3 : Int), k1, k2⟩)) (la := a4) (lc := c4) (ma := a5) (mc := c5) (by rw [← HLP.out]; exact O6.out) (fun j p hj => ?_) ?_ ?_ ?_ G7.out
                  · obtain ⟨a, b, c, d, c0, c1, c2, c3, c4, r0, r1⟩ := CS5.out j p hj
                    exact ⟨a, b, c, d, c0, c1, c2, c3, c4, ownsRow_fr r0 FA.out, ownsRow_fr r1 FA.out⟩
                  · have q := ownsRow_base OK15.out hZE
                    rw [HL1.out] at q; exact ownsRow_fr q FA.out
                  · have q := ownsRow_base OK2.out hZE
                    rw [HL2.out] at q; exact ownsRow_fr q FA.out
                  · have := O7.out
                    rw [HLP.out, HL1.out, HL2.out] at this
                    rw [HLP.out]; exact this
                exact a7'.step fun k hk _ => blk_setne _ _ _ (by omega))
            have hlen : Hid ((ps ++ [(((g1 : Int), ⟨(g2 : Int), (g3 : Int), k1, k2⟩) : Int × Fl)]).length = lp + 1) := hid (by rw [List.length_append, ← HLP.out]; rfl)
            have hmes : Hid (mes9 p b.length (x7.setCell ⟨E, 4, none⟩ (.slice a7 (lp + 1) c7)) < mes9 p b.length wr) := hid (mes9_lt HQ.out.r FIN.out.1.r HSH.out)
            have hbn2 : Hid (Bnd AL (lp + 1) q5) := hid (HBN.out.next HSH.out)
            go_roundw
            case rel =>
              go_light
              refine ⟨m - 1, ps ++ [((g1 : Int), ⟨(g2 : Int), (g3 : Int), k1, k2⟩)], q5, a7, c7, rfl, by omega, ?_, FIN.out.2.1, ?_, HST.out, ?_⟩
              · rw [hlen.out]; exact FIN.out.1
              · rw [hlen.out]; exact FIN.out.2.2
              · rw [hlen.out]; exact hbn2.out
            case measure => go_light; exact hmes.out
          case neg =>
            have hARe : Hid (AR = (ps, s)) := hid (by
              rw [HARR.out]
              rcases s with _ | l
              · exact ahS_none
              · have : m = 0 := by
                  rcases Nat.eq_zero_or_pos m with h | h
                  · exact h
                  · exact absurd ⟨h, l, rfl⟩ hgo
                rw [this]; exact ahS_end)
            go_upto_region 8 with fail
            go_cut [54] from 46 to 53 (fun v W' => v = .bool false ∧ wr = W')
            case first =>
              by_cases hm0 : 0 < m
              · have hm0' : (0 : Int) < (m : Int) := by omega
                obtain ⟨rst, _⟩ := HQ.out.r
                rcases s with _ | l
                · obtain ⟨at_, x, _⟩ := rst
                  have c2 := blk_cell x 2
                  simp at c2
                  clear x
                  go_wp2
                  go_meet
                  exact ⟨rfl, rfl⟩
                · exact absurd ⟨hm0, l, rfl⟩ hgo
              · have hm0' : ¬ (0 : Int) < (m : Int) := by omega
                go_wp2
                go_meet
                exact ⟨rfl, rfl⟩
            case rest =>
              obtain ⟨rfl, rfl⟩ := hcut
              clear hgo
              rw [hARe.out, hDRe.out] at HDEC
              rw [hARe.out] at HPB
              dsimp only at HDEC HPB
              have N5 := hid (HQ.out.f.at N0.out (by simp; omega))
              have R5 := hid HQ.out.r.2.2.1
              obtain ⟨bad, hbad⟩ : ∃ g : Bool, g = false ↔ s = some [] := by
                by_cases h : s = some []
                · exact ⟨false, fun _ => h, fun _ => rfl⟩
                · exact ⟨true, fun e => (by cases e), fun e => absurd e h⟩
              have HBD := hid hbad
              clear hbad
              go_upto_region 16 with fail
              go_cut [94] from 82 to 93 (fun v W' => v = .bool bad ∧ wr = W')
              case first =>
                obtain ⟨rst, _⟩ := HQ.out.r
                rcases s with _ | l
                · obtain ⟨at_, x, _⟩ := rst
                  have c2 := blk_cell x 2
                  simp at c2
                  have hb : bad = true := by
                    rcases bad with _ | _
                    · have := HBD.out.1 rfl; cases this
                    · rfl
                  subst hb
                  clear x
                  go_wp2
                  go_meet
                  exact ⟨rfl, rfl⟩
                · obtain ⟨at_, x, hla, hat⟩ := rst
                  rw [HLb.out] at hat
                  have c1 := blk_cell x 1
                  have c2 := blk_cell x 2
                  simp at c1 c2
                  clear x
                  by_cases hl0 : at_ = AL
                  · have hb : bad = false := HBD.out.2 (by rw [hla, List.drop_eq_nil_of_le (by rw [HLb.out]; omega)])
                    subst hb
                    subst hl0
                    have hz : ((at_ : Int) == (at_ : Int)) = true := by simp
                    clear hla
                    go_wp2
                    go_meet
                    exact ⟨rfl, rfl⟩
                  · have hb : bad = true := by
                      rcases bad with _ | _
                      · have h := HBD.out.1 rfl
                        simp only [Option.some.injEq] at h
                        rw [h] at hla
                        have := congrArg List.length hla
                        rw [List.length_drop, HLb.out] at this
                        simp at this
                        omega
                      · rfl
                    subst hb
                    have hz : ((at_ : Int) == (AL : Int)) = false := beq_eq_false_iff_ne.2 (by omega)
                    have hz2 : ((at_ : Int) != (AL : Int)) = true := by rw [bne, hz]; rfl
                    clear hla
                    go_wp2
                    go_meet
                    exact ⟨by first | rfl | rw [hz2], rfl⟩
              case rest =>
                obtain ⟨rfl, rfl⟩ := hcut
                have d0 := blk_cell N5.out 0
                have d1 := blk_cell N5.out 1
                have d2 := blk_cell N5.out 2
                have d3 := blk_cell N5.out 3
                have d4 := blk_cell N5.out 4
                have z0 := blk_frozen N5.out 0
                have z1 := blk_frozen N5.out 1
                have z2 := blk_frozen N5.out 2
                have z3 := blk_frozen N5.out 3
                have z4 := blk_frozen N5.out 4
                simp at d0 d1 d2 d3 d4
                rcases bad with _ | _
                · have hs := HBD.out.1 rfl
                  have EA : Hid (EAt wr ⟨(n1 : Int), (n2 : Int), n3, gs, ps⟩ da dc aa ac) := hid ⟨by have := HDO.out.rd; rw [HLG.out] at this; exact this, by have := HAO.out.rd (M := AL) (by omega) HPB.out; rw [HLP.out] at this; exact this, by rw [← HLG.out]; have := HBG.out; omega, by rw [← HLP.out]; have := HBN.out.1; omega⟩
                  have EC : Hid (Calls Tryz.prog 38 #[.agg #[.int .i64 (n1 : Int), .int .i64 (n2 : Int), .int .u64 (n3 : Int), .slice da lg dc, .slice aa lp ac]] wr fun r w' => EncR wr ⟨(n1 : Int), (n2 : Int), n3, gs, ps⟩ r w' ∧ Fr [] wr w') := hid (by
                    have := renc_c wr EA.out (by rw [← HLG.out]; have := HBG.out; omega) (by rw [← HLP.out]; have := HBN.out.1; omega)
                    rw [HLG.out, HLP.out]; exact this)
                  obtain ⟨x0, x1, x2, x3, x4⟩ : wr.cell? ⟨E, 0, none⟩ = some (.int .i64 (n1 : Int)) ∧ wr.cell? ⟨E, 1, none⟩ = some (.int .i64 (n2 : Int)) ∧ wr.cell? ⟨E, 2, none⟩ = some (.int .u64 (n3 : Int)) ∧ wr.cell? ⟨E, 3, none⟩ = some (.slice da lg dc) ∧ wr.cell? ⟨E, 4, none⟩ = some (.slice aa lp ac) := ⟨by rw [blk_cell HQ.out.e]; rfl, by rw [blk_cell HQ.out.e]; rfl, by rw [blk_cell HQ.out.e]; rfl, by rw [blk_cell HQ.out.e]; rfl, by rw [blk_cell HQ.out.e]; rfl⟩
                  have HS := hid hs
                  clear hs
                  go_wp2_with fail
                  refine EC.out.mono ?_
                  rintro r w8 ⟨hE8, f8⟩
                  have N8 := hid (f8.at N5.out (by simp))
                  have E8 := hid (f8.at HQ.out.e (by simp))
                  have R8 := hid (R5.out.trans f8)
                  have DO8 := hid (HDO.out.step (W' := w8) fun k _ hk => f8.block k hk (by simp))
                  have AO8 := hid (HAO.out.step (W' := w8) fun k _ hk => f8.block k hk (by simp))
                  clear d0 d1 d2 d3 d4 z0 z1 z2 z3 z4 x0 x1 x2 x3 x4 f8
                  have d0 := blk_cell N8.out 0
                  have d1 := blk_cell N8.out 1
                  have d2 := blk_cell N8.out 2
                  have d3 := blk_cell N8.out 3
                  have d4 := blk_cell N8.out 4
                  have z0 := blk_frozen N8.out 0
                  have z1 := blk_frozen N8.out 1
                  have z2 := blk_frozen N8.out 2
                  have z3 := blk_frozen N8.out 3
                  have z4 := blk_frozen N8.out 4
                  have x0 := blk_cell E8.out 0
                  have x1 := blk_cell E8.out 1
                  have x2 := blk_cell E8.out 2
                  have x3 := blk_cell E8.out 3
                  have x4 := blk_cell E8.out 4
                  simp at d0 d1 d2 d3 d4 x0 x1 x2 x3 x4
                  rcases hE8 with ⟨hok, v8, rfl, _⟩ | ⟨hok, rfl⟩
                  · have hO : Hid (O = some ⟨(n1 : Int), (n2 : Int), n3, gs, ps⟩) := hid (by rw [HDEC.out, if_pos ⟨HS.out, hok⟩])
                    clear hok
                    go_wp2
                    have K := store5 (a := .int .i64 (n1 : Int)) (b := .int .i64 (n2 : Int)) (c := .int .u64 (n3 : Int)) (d := .slice da lg dc) (e := .slice aa lp ac) N8.out R8.out (Nat.le_refl _)
                    refine bodyPost_ret (ret_ct9 rfl rfl (load_edit K.1)) rfl ⟨?_, K.2.1⟩
                    rw [hO.out]
                    have hb : w.heap.size ≤ E + 1 := by omega
                    refine ⟨da, dc, aa, ac, by rw [← HLG.out, ← HLP.out]; rfl, ?_, ?_⟩
                    · have q : DO _ (E + 1) (.slice da lg dc) gs := DO8.out.step (fun k hk _ => K.2.2 k (by omega))
                      have q' := ownsRow_base (show World.ownsRow _ _ _ _ _ _ _ from q) hb
                      show DO _ w.heap.size (.slice da gs.length dc) gs
                      rw [← HLG.out]; exact q'
                    · have q : AO _ (E + 1) (.slice aa lp ac) ps := AO8.out.step (fun k hk _ => K.2.2 k (by omega))
                      obtain ⟨cs, q1, q2⟩ := q
                      show AO _ w.heap.size (.slice aa ps.length ac) ps
                      rw [← HLP.out]
                      exact ⟨cs, ownsRow_base q1 hb, fun j p hj => by
                        obtain ⟨x1, x2, x3, x4, y0, y1, y2, y3, y4, z0, z1⟩ := q2 j p hj
                        exact ⟨x1, x2, x3, x4, y0, y1, y2, y3, y4, ownsRow_base z0 hb, ownsRow_base z1 hb⟩⟩
                  · have hO : Hid (O = none) := hid (by
                      rw [HDEC.out, if_neg]
                      intro h
                      rw [hok] at h
                      exact absurd h.2 (by simp))
                    clear hok
                    go_wp2
                    have K := store5 (a := .int .i64 0) (b := .int .i64 0) (c := .int .u64 0) (d := .slice none 0 0) (e := .slice none 0 0) N8.out R8.out (Nat.le_refl _)
                    refine bodyPost_ret (ret_ct9 rfl rfl (load_edit K.1)) rfl ⟨?_, K.2.1⟩
                    rw [hO.out]
                    rfl
                · have hO : Hid (O = none) := hid (by
                    rw [HDEC.out, if_neg]
                    intro h
                    have := HBD.out.2 h.1
                    cases this)
                  go_wp2
                  have K := store5 (a := .int .i64 0) (b := .int .i64 0) (c := .int .u64 0) (d := .slice none 0 0) (e := .slice none 0 0) N5.out R5.out (Nat.le_refl _)
                  refine bodyPost_ret (ret_ct9 rfl rfl (load_edit K.1)) rfl ⟨?_, K.2.1⟩
                  rw [hO.out]
                  rfl
end Go.Proofs.YtegbngbhmgbocaaGreatDoor
