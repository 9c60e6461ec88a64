/-
  The document's All.
-/
import Derived.Test.YtnnookkcnmgbfaaGreatZB
import Derived.Test.YtnnookkcnmgbfaaGreatJ23
namespace Go.Proofs.YtnnookkcnmgbfaaGreat
open Go.ChangeShapes Go.WideShapes Go.ChangeAt Go.RowKit

theorem oneD {W : World} {B : Nat} {v : Value} {ps : Ps} {cs : List Value} (o : W.ownsRow B 47 2 v ps.length cs)
    (h : ∀ (j : Nat) (p : List Nat × List Nat), ps[j]? = some p → ∃ kv vv, cs[j * 2]? = some kv ∧ cs[j * 2 + 1]? = some vv ∧ W.ownsRow B 5 1 kv p.1.length (bv p.1) ∧ W.ownsRow B 5 1 vv p.2.length (bv p.2) ∧ By p.1 ∧ By p.2 ∧ p.1.length ≤ 140737488355328 ∧ p.2.length ≤ 140737488355328) : ∀ u ∈ cs, u.oneCell' = true := fun u hu => by
  obtain ⟨i, hi⟩ := List.getElem?_of_mem hu
  have hl := (List.getElem?_eq_some_iff.1 hi).1
  have hcl := o.1
  have hj : i / 2 < ps.length := by omega
  obtain ⟨kv, vv, c0, c1, r0, r1, _⟩ := h (i / 2) _ (ps_at hj)
  obtain ⟨_, _, rfl, _⟩ := ownsRow_slice r0
  obtain ⟨_, _, rfl, _⟩ := ownsRow_slice r1
  rcases Nat.mod_two_eq_zero_or_one i with e | e
  · rw [show i / 2 * 2 = i from by omega, hi, Option.some.injEq] at c0
    rw [c0]; rfl
  · rw [show i / 2 * 2 + 1 = i from by omega, hi, Option.some.injEq] at c1
    rw [c1]; rfl
/-- append(own, l...) for pairs of the call's own: what comes out is the call's own again. -/
theorem wpList_app_kvsD {w w0 : World} {ops : Array Oper} {rest : List Oper} {o : Oper} {a : Act} {Q : Exit → Act → World → Prop} (hgd : o.guard = none) (s x : Operand)
    (ho : o.op = .call { callee := .builtin .append, args := #[s, x], argTypes := #[36, 36] }) {B : Nat} (hB0 : w0.heap.size ≤ B) (hbase : B ≤ w.heap.size) (f : Fr [] w0 w) {v mv : Value} {ps qs : Ps} (h1 : ColO w B v ps) (h2 : ColO w B mv qs) (hs : a.eval s = v) (hx : a.eval x = mv)
    (hl1 : ps.length ≤ 1000000) (hl2 : qs.length ≤ 1000000)
    (h : ∀ v' w', ColO w' B v' (ps ++ qs) → Fr [] w0 w' → wpList Tryz.prog ops Q rest (a.put o.dst v') w') :
    wpList Tryz.prog ops Q (o :: rest) a w := by
  obtain ⟨i0, hi, hz0, hz1, hz2⟩ := info_parts infoP
  have h1' := h1
  obtain ⟨cs, oc, rc⟩ := h1
  obtain ⟨ds, od, rd⟩ := h2
  have one := oneD od rd
  rcases od.2 with ⟨rfl, h0⟩ | ⟨g, cap, cur, rfl, _, h3, h4, h5⟩
  · have : qs = [] := List.eq_nil_of_length_eq_zero h0
    subst this
    exact wpList_append_own_none hgd s x 36 ho B 47 i0 2 Tryz.underlying36 hi v ps.length cs hs oc hx (h v w (by rw [List.append_nil]; exact h1') f)
  · refine wpList_append_own_at w hgd s x 36 ho B 47 i0 _ 2 48 Tryz.underlying36 hi hz0 hz1 hz2 rfl (by decide) v ps.length cs hs oc ⟨g, 0, none⟩ qs.length cap ds hx od.1 (od.cells rfl) one (by unfold maxLen; omega) (by omega) hbase fun v' w' o' g' _ _ => h v' w' ?_ (f.grown g' (fun k e => .inr (Nat.le_trans hB0 (oc.lt k e).1)))
    refine ⟨cs ++ ds, by rw [List.length_append]; exact o', fun j p hj => ?_⟩
    have hcl := oc.1
    by_cases hjl : j < ps.length
    · rw [List.getElem?_append_left hjl] at hj
      obtain ⟨kv, vv, c0, c1, q0, q1, b0⟩ := rc j p hj
      exact ⟨kv, vv, by rw [List.getElem?_append_left (by omega)]; exact c0, by rw [List.getElem?_append_left (by omega)]; exact c1, own_stays oc g' q0 (by decide), own_stays oc g' q1 (by decide), b0⟩
    · rw [List.getElem?_append_right (by omega)] at hj
      obtain ⟨kv, vv, c0, c1, q0, q1, b0⟩ := rd _ p hj
      exact ⟨kv, vv, by rw [List.getElem?_append_right (by omega), show j * 2 - cs.length = (j - ps.length) * 2 from by omega]; exact c0, by rw [List.getElem?_append_right (by omega), show j * 2 + 1 - cs.length = (j - ps.length) * 2 + 1 from by omega]; exact c1, own_stays oc g' q0 (by decide), own_stays oc g' q1 (by decide), b0⟩

theorem inR_all (p : List Nat × List Nat) : inR [] [] p = true := by
  unfold inR beh
  have : 0 ≤ cmpN (userL p.1) [] := by cases userL p.1 <;> simp [cmpN]
  simp [this]
theorem rng_step {X : Nat → Nat} {Q : Nat → Ps} {U : Nat → List Nat} {d i : Nat} {acc : Ps} (h : X i = 0) : rngF X Q U [] [] (d + 1) i acc = rngF X Q U [] [] d (i + 1) (acc ++ Q i) := by
  rw [rngF, if_pos h, if_neg (by unfold beh; simp), List.filter_eq_self.2 (fun p _ => inR_all p)]
theorem rng_stop {X : Nat → Nat} {Q : Nat → Ps} {U : Nat → List Nat} {d i : Nat} {acc : Ps} (h : X i ≠ 0) : rngF X Q U [] [] (d + 1) i acc = (X i, []) := by
  rw [rngF, if_neg h]

set_option maxRecDepth 20000 in
set_option maxHeartbeats 3200000 in
theorem rall_c (w : World) {p : Nat} {b : List Nat} {a : Option Addr} {L c : Nat} {ips : Ps} {q off m pc : Nat} {fa : Option Addr} {fn fc : Nat} (T : RT w p b a L c ips q off m pc fa fn fc) (hL : b.length = L) (hb : By b) (hl : L ≤ 20000) (hm : m ≤ 20000) (ht : ∀ i, i < ips.length → nxN ips i + szA ips i + 4 ≤ L) (bk : ∀ i, i < ips.length → By (kA ips i)) (hk : ∀ i, i < ips.length → isK (kA ips i) = true)
    {X : Nat → Nat} {Q : Nat → Ps} (hLk : ∀ i, i < ips.length → LookR b (nxN ips i) (szA ips i) (kA ips i) (X i) (Q i)) (hQ : ∀ i, i < ips.length → (Q i).length ≤ szA ips i) (U : Nat → List Nat) :
    Calls Tryz.prog 28 #[.pointer (some ⟨p, 0, none⟩)] w fun e w' => ∃ v, e = .returned (.tuple #[v, .int .i64 ((rngF X Q U [] [] ips.length 0 []).1 : Int)]) ∧ ColO w' w.heap.size v (rngF X Q U [] [] ips.length 0 []).2 ∧ Fr [] w w' := by
  have HT := hid T
  have HL := hid hL
  have HB := hid hb
  have HH := hid ht
  have HBK := hid bk
  have HK := hid hk
  have HLK := hid hLk
  have HQ := hid hQ
  have HM := hid T.len
  obtain ⟨R, hR⟩ : ∃ R, R = rngF X Q U [] [] ips.length 0 [] := ⟨_, rfl⟩
  have HR := hid hR
  rw [← hR]
  clear T hL hb ht bk hk hLk hQ hR
  go_enter Tryz.func28, Tryz.ntmps28
  go_wp2_with fail
  go_loopw [4, 5] (fun v4 v5 wr => ∃ (i : Nat) (acc : Ps) (oa : Option Addr) (on oc : Nat), v5 = .int .i64 (i : Int) ∧ v4 = .slice oa on oc ∧ i ≤ m ∧ acc.length ≤ nxN ips i ∧ ColO wr w.heap.size (.slice oa on oc) acc ∧ R = rngF X Q U [] [] (m - i) i acc ∧ Fr [] w wr) (fun _ v5 _ => m - (intOf v5).toNat)
  case atStart => exact ⟨0, [], none, 0, 0, rfl, rfl, by omega, by simp, ColO.nil _ _, by rw [HR.out, ← HM.out]; rfl, Fr.refl _ _⟩
  case round =>
    obtain ⟨i, acc, oa, on, oc, rfl, rfl, hi, hac, hC, hRR, hF⟩ := hrel
    have HC := hid hC
    have HRR := hid hRR
    have HF := hid hF
    have TW := hid (HT.out.fr hF)
    have HAC := hid hac
    clear hC hRR hF hac HR
    have y1 : wr.cell? ⟨p, 1, none⟩ = some (.slice (some ⟨q, off, none⟩) m pc) := by rw [blk_cell TW.out.blk]; rfl
    by_cases hlt : i < m
    · have hlt' : (i : Int) < (m : Int) := by omega
      have hil : i < ips.length := by rw [← HM.out]; exact hlt
      have LC := hid (rlook_c wr TW.out HL.out HB.out hl hil (by omega) (HH.out i hil) (HBK.out i hil) (HK.out i hil) (HLK.out i hil))
      have hnx := HH.out i hil
      have hqq := HQ.out i hil
      go_wp2_with fail
      refine LC.out.mono ?_
      rintro e w2 ⟨v2, rfl, co, f2⟩
      obtain ⟨la, lc, hv2⟩ : ∃ la lc, v2 = .slice la (Q i).length lc := by
        obtain ⟨cs, o, _⟩ := co
        obtain ⟨x, y, e, _⟩ := ownsRow_slice o
        exact ⟨x, y, e⟩
      subst hv2
      have CQ : Hid (ColO w2 w.heap.size (.slice la (Q i).length lc) (Q i)) := hid (co.baseD HF.out.size)
      have F2 := hid (HF.out.trans f2)
      have C2 := hid (HC.out.fr f2)
      have HACL := HAC.out
      clear co f2 LC HC y1
      obtain ⟨ql, hql⟩ : ∃ x, x = (Q i).length := ⟨_, rfl⟩
      have HQL := hid hql
      rw [← hql] at CQ ⊢
      clear hql
      generalize hXi : X i = xi at *
      have HXI := hid hXi
      clear hXi
      by_cases hx : xi = 0
      · subst hx
        have hl1 : acc.length ≤ 1000000 := by omega
        have hl2 : (Q i).length ≤ 1000000 := by omega
        have hszw := F2.out.size
        go_wp2_with (at_builtin; refine wpList_app_kvsD rfl _ _ rfl (Nat.le_refl w.heap.size) hszw F2.out C2.out CQ.out rfl rfl hl1 hl2 ?_; intro v5 w5 co5 f5; obtain ⟨oa5, oc5, rfl⟩ : ∃ la lc, v5 = .slice la (acc ++ Q i).length lc := (by obtain ⟨cs, o, _⟩ := co5; obtain ⟨x, y, e, _⟩ := ownsRow_slice o; exact ⟨x, y, e⟩); have C5 := hid co5; have F5 := hid f5; clear co5 f5)
        go_roundw
        case rel =>
          refine ⟨i + 1, acc ++ Q i, oa5, _, oc5, by go_num, rfl, by omega, ?_, by have := C5.out; rwa [List.length_append] at this, ?_, F5.out⟩
          · rw [List.length_append, nxN]; omega
          · rw [HRR.out, show m - i = (m - (i + 1)) + 1 by omega, rng_step HXI.out]
        case measure => simp [intOf]; omega
      · have hx' : ((xi : Int) == 0) = false := beq_eq_false_iff_ne.2 (by omega)
        have hRx : Hid (R = (xi, [])) := hid (by rw [HRR.out, show m - i = (m - (i + 1)) + 1 by omega, rng_stop (by rw [HXI.out]; exact hx), HXI.out])
        clear hx
        go_wp2
        go_ret2
        rw [hRx.out]
        exact ⟨_, rfl, ColO.nil _ _, F2.out⟩
    · have hlt' : ¬ (i : Int) < (m : Int) := by omega
      have hRx : Hid (R = (0, acc)) := hid (by rw [HRR.out, show m - i = 0 by omega]; rfl)
      go_wp2
      go_ret2
      rw [hRx.out]
      exact ⟨_, rfl, HC.out, HF.out⟩
end Go.Proofs.YtnnookkcnmgbfaaGreat
