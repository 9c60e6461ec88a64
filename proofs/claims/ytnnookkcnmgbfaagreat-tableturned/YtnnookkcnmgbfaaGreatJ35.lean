/-
  The document's Range.
-/
import Derived.Test.YtnnookkcnmgbfaaGreatZC
import Derived.Test.YtnnookkcnmgbfaaGreatJ29
import Derived.Test.YtnnookkcnmgbfaaGreatJ20
namespace Go.Proofs.YtnnookkcnmgbfaaGreat
open Go.ChangeShapes Go.WideShapes Go.ChangeAt Go.RowKit

set_option maxRecDepth 20000 in
set_option maxHeartbeats 1600000 in
theorem user8d_c {w : World} {q o c : Nat} {k : List Nat} (h8 : 8 ≤ k.length) (hl : k.length ≤ 1000000000) (hc : k.length ≤ c) :
    Calls Tryz.prog 36 #[.slice (some ⟨q, o, none⟩) k.length c] w fun e w' => e = .returned (.slice (some ⟨q, o, none⟩) (userL k).length c) ∧ w' = w := by
  have hu : (userL k).length = k.length - 8 := by unfold userL; rw [List.length_take]; omega
  rw [hu]
  generalize k.length = L at *
  have h1 : ((L : Int) - 8).toNat = L - 8 := by omega
  have h2 : (0 : Int) ≤ (L : Int) - 8 := by omega
  have h3 : (L : Int) - 8 ≤ (c : Int) := by omega
  have h4 : L - 8 ≤ c := by omega
  clear hu
  go_enter Tryz.func36, Tryz.ntmps36
  go_wp2
  go_ret
  exact ⟨rfl, rfl⟩

/-- The user key of a key that can be read. -/
theorem userD_c {w : World} {ka : Option Addr} {kl kc : Nat} {k : List Nat} (h : Rd w (.slice ka kl kc) (bv k)) (hk : k.length = kl) (h8 : 8 ≤ kl) (hl : kl ≤ 1000000000) {ul : Nat} (hu : (userL k).length = ul) :
    Calls Tryz.prog 36 #[.slice ka kl kc] w (fun e w' => e = .returned (.slice ka ul kc) ∧ w' = w) ∧ Rd w (.slice ka ul kc) (bv (userL k)) := by
  rcases h.split with ⟨rfl, _⟩ | ⟨q, o, c', e, hc, _, _⟩
  · simp at hk; omega
  simp only [Value.slice.injEq] at e
  obtain ⟨rfl, _, rfl⟩ := e
  subst hu
  subst hk
  refine ⟨user8d_c h8 hl hc, ?_⟩
  have hul : userL k = k.take (k.length - 8) := rfl
  have := (headB (l := k.length - 8) h rfl (by omega)).2
  rw [hul]
  have e2 : (k.take (k.length - 8)).length = k.length - 8 := by rw [List.length_take]; omega
  rw [e2]
  exact this
/-- An entry of a list of the call's own. -/
theorem ColO.atD {W : World} {B : Nat} {la : Option Addr} {n lc : Nat} {ps : Ps} (h : ColO W B (.slice la n lc) ps) {j : Nat} (hj : j < ps.length) : ∃ g ka kc va vc, la = some ⟨g, 0, none⟩ ∧ W.cell? ⟨g, j * 2, none⟩ = some (.slice ka (kA ps j).length kc) ∧ W.cell? ⟨g, j * 2 + 1, none⟩ = some (.slice va (vA ps j).length vc) ∧ W.ownsRow B 5 1 (.slice ka (kA ps j).length kc) (kA ps j).length (bv (kA ps j)) ∧ W.ownsRow B 5 1 (.slice va (vA ps j).length vc) (vA ps j).length (bv (vA ps j)) ∧ By (kA ps j) ∧ By (vA ps j) ∧ (kA ps j).length ≤ 140737488355328 ∧ (vA ps j).length ≤ 140737488355328 := by
  obtain ⟨cs, o, h2⟩ := h
  obtain ⟨kv, vv, c0, c1, q0, q1, b0, b1, l0, l1⟩ := h2 j _ (ps_at hj)
  rcases o.2 with ⟨e, h0⟩ | ⟨g, cap, cur, e, _, h3, _⟩
  · omega
  · have d0 := o.cells (g := g) (by rw [e]; rfl) _ _ c0
    have d1 := o.cells (g := g) (by rw [e]; rfl) _ _ c1
    rw [Addr.add_lit, Nat.zero_add] at d0 d1
    obtain ⟨a0, k0, e0, _⟩ := ownsRow_slice q0
    obtain ⟨a1, k1, e1, _⟩ := ownsRow_slice q1
    subst e0
    subst e1
    simp only [Value.slice.injEq] at e
    exact ⟨g, a0, k0, a1, k1, e.1, d0, d1, q0, q1, b0, b1, l0, l1⟩

/-- What is told of the blocks, those behind least passed by. -/
def rngS (X : Nat → Nat) (Q : Nat → Ps) (U : Nat → List Nat) (least most : List Nat) : Nat → Nat → Ps → Nat × Ps
  | 0, _, acc => (0, acc)
  | d + 1, i, acc => if cmpN (U i) least < 0 then rngS X Q U least most d (i + 1) acc else if X i = 0 then (if beh (U i) most = true then (0, acc ++ (Q i).filter (inR least most)) else rngS X Q U least most d (i + 1) (acc ++ (Q i).filter (inR least most))) else (X i, [])
theorem filt_take {P : List Nat × List Nat → Bool} {ps : Ps} {j : Nat} (h : j < ps.length) : (ps.take (j + 1)).filter P = (ps.take j).filter P ++ (if P (kA ps j, vA ps j) = true then [(kA ps j, vA ps j)] else []) := by
  rw [List.take_add_one, ps_at h, List.filter_append]
  by_cases hp : P (kA ps j, vA ps j) = true
  · rw [if_pos hp]; simp [hp]
  · rw [if_neg hp]; simp [hp]
/-- A list of the call's own stays while another one grows. -/
theorem ColO.besides {W W' : World} {B B' n : Nat} {v u : Value} {qs : Ps} {cs : List Value} (o : W.ownsRow B 47 2 v n cs) (g : W.grownBy W' v.ownBlock) (h : ColO W B' u qs) (hd : ∀ k, u.ownBlock = some k → v.ownBlock ≠ some k) : ColO W' B' u qs := by
  obtain ⟨ds, q, h2⟩ := h
  refine ⟨ds, ownsRow_of_block q fun k hk => g.block k (q.lt k hk).2 (fun e => hd k hk e.symm), fun j p hj => ?_⟩
  obtain ⟨kv, vv, c0, c1, q0, q1, b0⟩ := h2 j p hj
  exact ⟨kv, vv, c0, c1, own_stays o g q0 (by decide), own_stays o g q1 (by decide), b0⟩
/-- append(own, p) beside a list that p comes from. -/
theorem wpList_app_oneD {w w0 : World} {ops : Array Oper} {rest : List Oper} {o : Oper} {a : Act} {Q : Exit → Act → World → Prop} (hgd : o.guard = none) (s x : Operand)
    (ho : o.op = .call { callee := .builtin .append, args := #[s, x], argTypes := #[36, 36] }) {B : Nat} (hB0 : w0.heap.size ≤ B) (hbase : B ≤ w.heap.size) (f : Fr [] w0 w) {v u : Value} {ps qs : Ps} (h1 : ColO w B v ps) (hs : a.eval s = v) (G : Nat) (hx : a.eval x = .slice (some ⟨G, 0, none⟩) 1 1) {u0 u1 : Value} {T : TypeId} (hG : w.heap[G]? = some (.cells #[u0, u1] T (0, 0)))
    {p : List Nat × List Nat} (q0 : w.ownsRow B 5 1 u0 p.1.length (bv p.1)) (q1 : w.ownsRow B 5 1 u1 p.2.length (bv p.2)) (b0 : By p.1) (b1 : By p.2) (l0 : p.1.length ≤ 140737488355328) (l1 : p.2.length ≤ 140737488355328) (h2 : ColO w B u qs) (hd : ∀ k, u.ownBlock = some k → v.ownBlock ≠ some k) (hl : ps.length ≤ 1000000)
    (h : ∀ v' w', ColO w' B v' (ps ++ [p]) → ColO w' B u qs → (∀ k, u.ownBlock = some k → v'.ownBlock ≠ some k) → Fr [] w0 w' → wpList Tryz.prog ops Q rest (a.put o.dst v') w') :
    wpList Tryz.prog ops Q (o :: rest) a w := by
  obtain ⟨i0, hi, hz0, hz1, hz2⟩ := info_parts infoP
  obtain ⟨cs, oc, rc⟩ := h1
  have hu : ∀ u ∈ [u0, u1], u.oneCell' = true := by
    obtain ⟨_, _, rfl, _⟩ := ownsRow_slice q0
    obtain ⟨_, _, rfl, _⟩ := ownsRow_slice q1
    intro u hu
    simp at hu
    rcases hu with rfl | rfl <;> rfl
  refine wpList_append_own_at w hgd s x 36 ho B 47 i0 _ 2 48 Tryz.underlying36 hi hz0 hz1 hz2 rfl (by decide) v ps.length cs hs oc ⟨G, 0, none⟩ 1 1 [u0, u1] hx rfl (fun j u hj => by rw [Addr.add_lit, Nat.zero_add, blk_cell hG, ← Array.getElem?_toList]; exact hj) hu (by unfold maxLen; omega) (by omega) hbase fun v' w' o' g' _ n' => h v' w' (ColO.app oc rc q0 q1 b0 b1 l0 l1 o' g') (ColO.besides oc g' h2 hd) (fun k hk e => ?_) (f.grown g' (fun k e => .inr (Nat.le_trans hB0 (oc.lt k e).1)))
  rcases n' with n' | n'
  · exact hd k hk (n' ▸ e)
  · obtain ⟨ds, q, _⟩ := h2
    have := (q.lt k hk).2
    rw [n'] at e
    simp only [Option.some.injEq] at e
    omega

set_option maxRecDepth 20000 in
set_option maxHeartbeats 3200000 in
theorem rrange_c (w : World) {p : Nat} {b : List Nat} {a : Option Addr} {L c : Nat} {ips : Ps} {q off m pc : Nat} {fa : Option Addr} {fn fc : Nat} (T : RT w p b a L c ips q off m pc fa fn fc) (hL : b.length = L) (hb : By b) (hl : L ≤ 20000) (hm : m ≤ 20000) (ht : ∀ i, i < ips.length → nxN ips i + szA ips i + 4 ≤ L) (bk : ∀ i, i < ips.length → By (kA ips i)) (hk : ∀ i, i < ips.length → isK (kA ips i) = true)
    {X : Nat → Nat} {Q : Nat → Ps} (hLk : ∀ i, i < ips.length → LookR b (nxN ips i) (szA ips i) (kA ips i) (X i) (Q i)) (hQ : ∀ i, i < ips.length → (Q i).length ≤ szA ips i ∧ ∀ j, j < (Q i).length → isK (kA (Q i) j) = true)
    {sa ma : Option Addr} {sn sc mn mc : Nat} {least most : List Nat} (rs : Rd w (.slice sa sn sc) (bv least)) (rm : Rd w (.slice ma mn mc) (bv most)) (bs : By least) (bm : By most) (ls : least.length ≤ 140737488355328) (lm : most.length = mn) (lm2 : mn ≤ 140737488355328) :
    Calls Tryz.prog 32 #[.pointer (some ⟨p, 0, none⟩), .slice sa sn sc, .slice ma mn mc] w fun e w' => ∃ v, e = .returned (.tuple #[v, .int .i64 ((rngS X Q (fun i => userL (kA ips i)) least most ips.length 0 []).1 : Int)]) ∧ ColO w' w.heap.size v (rngS X Q (fun i => userL (kA ips i)) least most ips.length 0 []).2 ∧ Fr [] w w' := by
  have HT := hid T
  have HL := hid hL
  have HB := hid hb
  have HH := hid ht
  have HBK := hid bk
  have HK := hid hk
  have HLK := hid hLk
  have HQ := hid hQ
  have HM := hid T.len
  have RS := hid rs
  have RM := hid rm
  have BS := hid bs
  have BM := hid bm
  have LS := hid ls
  have LM := hid lm
  obtain ⟨R, hR⟩ : ∃ R, R = rngS X Q (fun i => userL (kA ips i)) least most ips.length 0 [] := ⟨_, rfl⟩
  have HR := hid hR
  rw [← hR]
  clear T hL hb ht bk hk hLk hQ hR rs rm bs bm ls lm
  go_enter Tryz.func32, Tryz.ntmps32
  go_wp2_with fail
  go_loopw [8, 9] (fun v8 v9 wr => ∃ (i : Nat) (acc : Ps) (oa : Option Addr) (on oc : Nat), v9 = .int .i64 (i : Int) ∧ v8 = .slice oa on oc ∧ i ≤ m ∧ acc.length ≤ nxN ips i ∧ on = acc.length ∧ ColO wr w.heap.size (.slice oa on oc) acc ∧ R = rngS X Q (fun i => userL (kA ips i)) least most (m - i) i acc ∧ Fr [] w wr) (fun _ v9 _ => m - (intOf v9).toNat)
  case atStart => exact ⟨0, [], none, 0, 0, rfl, rfl, by omega, by simp, rfl, ColO.nil _ _, by rw [HR.out, ← HM.out]; rfl, Fr.refl _ _⟩
  case round =>
    obtain ⟨i, acc, oa, on, oc, rfl, rfl, hi, hac, hon, hC, hRR, hF⟩ := hrel
    have HC := hid hC
    have HRR := hid hRR
    have HF := hid hF
    have TW := hid (HT.out.fr hF)
    have HAC := hid hac
    have HON := hid hon
    clear hC hRR hF hac HR hon
    have y1 : wr.cell? ⟨p, 1, none⟩ = some (.slice (some ⟨q, off, none⟩) m pc) := by rw [blk_cell TW.out.blk]; rfl
    by_cases hlt : i < m
    · have hlt' : (i : Int) < (m : Int) := by omega
      have hil : i < ips.length := by rw [← HM.out]; exact hlt
      obtain ⟨ka, kc, z0, _, _, rk0⟩ := HT.out.pts i hil
      have z0 := cell_fr HF.out z0
      have rk := rk0.fr HF.out
      have hkl := isK_len (HK.out i hil)
      obtain ⟨kl, hkle⟩ : ∃ x, x = (kA ips i).length := ⟨_, rfl⟩
      rw [← hkle] at z0 rk rk0
      obtain ⟨ul, hule⟩ : ∃ x, x = (userL (kA ips i)).length := ⟨_, rfl⟩
      obtain ⟨UC, RU⟩ := userD_c rk hkle.symm (by omega) (by omega) hule.symm
      have hulb : ul ≤ 1000000 := by rw [hule]; unfold userL; rw [List.length_take]; omega
      have RU0 := hid (userD_c rk0 hkle.symm (by omega) (by omega) hule.symm).2
      have UC := hid UC
      have HRU := hid RU
      have HUL := hid hule
      have BU : Hid (By (userL (kA ips i))) := hid ((HBK.out i hil).take _)
      clear rk rk0 RU hkle hule hkl
      go_wp2_with fail
      refine UC.out.mono ?_
      rintro e w' ⟨rfl, hw'⟩
      have hw'' := hw'.symm
      clear hw' UC
      subst hw''
      have BC := hid (refbytes_c HRU.out (RS.out.fr HF.out) BU.out BS.out (by rw [← HUL.out]; omega) LS.out)
      go_wp2_with fail
      refine BC.out.mono ?_
      rintro e w2 ⟨rfl, f2⟩
      have F2 := hid (HF.out.trans f2)
      have C2 := hid (HC.out.fr f2)
      clear f2 BC z0 y1 HRU
      have LC := hid (rlook_c w2 (HT.out.fr F2.out) HL.out HB.out hl hil (by omega) (HH.out i hil) (HBK.out i hil) (HK.out i hil) (HLK.out i hil))
      have hnx := HH.out i hil
      have hqq := (HQ.out i hil).1
      have HQK := hid (HQ.out i hil).2
      have hmi : m - i = (m - (i + 1)) + 1 := by omega
      have HMI := hid hmi
      clear hmi
      by_cases ho : cmpN (userL (kA ips i)) least < 0
      · have HR1 : Hid (R = rngS X Q (fun i => userL (kA ips i)) least most (m - (i + 1)) (i + 1) acc) := hid (by rw [HRR.out, HMI.out, rngS, if_pos ho])
        have HAC1 : Hid (acc.length ≤ nxN ips (i + 1)) := hid (by have := HAC.out; rw [nxN]; omega)
        generalize cmpN (userL (kA ips i)) least = o1 at *
        clear LC
        go_wp2
        go_roundw
        case rel => exact ⟨i + 1, acc, oa, on, oc, by go_num, rfl, by omega, HAC1.out, HON.out, C2.out, HR1.out, F2.out⟩
        case measure => simp [intOf]; omega
      · have HR1 : Hid (R = if X i = 0 then (if beh (userL (kA ips i)) most = true then (0, acc ++ (Q i).filter (inR least most)) else rngS X Q (fun i => userL (kA ips i)) least most (m - (i + 1)) (i + 1) (acc ++ (Q i).filter (inR least most))) else (X i, [])) := hid (by rw [HRR.out, HMI.out, rngS, if_neg ho])
        generalize cmpN (userL (kA ips i)) least = o1 at *
        go_wp2_with fail
        refine LC.out.mono ?_
        rintro e w3 ⟨v3, rfl, co, f3⟩
        obtain ⟨la, lc, hv3⟩ : ∃ la lc, v3 = .slice la (Q i).length lc := by
          obtain ⟨cs, o, _⟩ := co
          obtain ⟨x, y, e, _⟩ := ownsRow_slice o
          exact ⟨x, y, e⟩
        subst hv3
        have HD : Hid (∀ k, (Value.slice la (Q i).length lc).ownBlock = some k → (Value.slice oa on oc).ownBlock ≠ some k) := hid (fun k hk e => by
          obtain ⟨cs1, o1, _⟩ := co
          obtain ⟨cs2, o2, _⟩ := C2.out
          have := (o1.lt k hk).1
          have := (o2.lt k e).2
          omega)
        have CQ : Hid (ColO w3 w.heap.size (.slice la (Q i).length lc) (Q i)) := hid (co.baseD F2.out.size)
        have F3 := hid (F2.out.trans f3)
        have C3 := hid (C2.out.fr f3)
        clear co f3 LC C2
        obtain ⟨ql, hql⟩ : ∃ x, x = (Q i).length := ⟨_, rfl⟩
        have HQL := hid hql
        rw [← hql] at CQ HD hqq ⊢
        clear hql
        generalize hXi : X i = xi at *
        by_cases hx : xi = 0
        · subst hx
          have HR2 : Hid (R = if beh (userL (kA ips i)) most = true then (0, acc ++ (Q i).filter (inR least most)) else rngS X Q (fun i => userL (kA ips i)) least most (m - (i + 1)) (i + 1) (acc ++ (Q i).filter (inR least most))) := hid (by rw [HR1.out, if_pos rfl])
          clear HR1 HRR HLK hXi
          go_wp2_with fail
          go_loopw [8, 13] (fun v8 v13 wx => ∃ (j : Nat) (oa2 : Option Addr) (on2 oc2 : Nat), v13 = .int .i64 (j : Int) ∧ v8 = .slice oa2 on2 oc2 ∧ j ≤ ql ∧ on2 = (acc ++ ((Q i).take j).filter (inR least most)).length ∧ on2 ≤ on + j ∧ ColO wx w.heap.size (.slice oa2 on2 oc2) (acc ++ ((Q i).take j).filter (inR least most)) ∧ ColO wx w.heap.size (.slice la ql lc) (Q i) ∧ (∀ k, (Value.slice la ql lc).ownBlock = some k → (Value.slice oa2 on2 oc2).ownBlock ≠ some k) ∧ Fr [] w wx) (fun _ v13 _ => ql - (intOf v13).toNat)
          case atStart => exact ⟨0, oa, on, oc, rfl, rfl, by omega, by simpa using HON.out, by omega, by simpa using C3.out, CQ.out, HD.out, F3.out⟩
          case round =>
            obtain ⟨j, oa2, on2, oc2, rfl, rfl, hj, hon2, hon3, co, cq, hd, hF⟩ := hrel
            have C5 := hid co
            have CQ5 := hid cq
            have HD2 := hid hd
            have F5 := hid hF
            have ON2 := hid hon2
            have HACL := HAC.out
            have HONL := HON.out
            clear co cq hd hF hon2 HD C3 CQ F3
            by_cases hjl : j < ql
            · have hjl' : (j : Int) < (ql : Int) := by omega
              have hjq : j < (Q i).length := by rw [← HQL.out]; exact hjl
              obtain ⟨g, xa, xc, va, vc, rfl, d0, d1, q0, q1, b0, b1, l0, l1⟩ := CQ5.out.atD hjq
              obtain ⟨xl, hxl⟩ : ∃ x, x = (kA (Q i) j).length := ⟨_, rfl⟩
              obtain ⟨yl, hyl⟩ : ∃ x, x = (vA (Q i) j).length := ⟨_, rfl⟩
              have hkl := isK_len (HQK.out j hjq)
              have rx := Rd.ownB q0
              have BB := hid (show By (kA (Q i) j, vA (Q i) j).1 ∧ By (kA (Q i) j, vA (Q i) j).2 ∧ (kA (Q i) j, vA (Q i) j).1.length ≤ 140737488355328 ∧ (kA (Q i) j, vA (Q i) j).2.length ≤ 140737488355328 from ⟨b0, b1, l0, l1⟩)
              rw [← hxl] at d0 q0 hkl rx l0
              rw [← hyl] at d1 q1
              obtain ⟨ul2, hul2⟩ : ∃ x, x = (userL (kA (Q i) j)).length := ⟨_, rfl⟩
              obtain ⟨UC2, RU2⟩ := userD_c rx hxl.symm (by omega) (by omega) hul2.symm
              have hulb2 : ul2 ≤ 140737488355328 := by rw [hul2]; unfold userL; rw [List.length_take]; omega
              have UC2 := hid UC2
              have RU2 := hid RU2
              have BU2 : Hid (By (userL (kA (Q i) j))) := hid (b0.take _)
              have Q0 := hid q0
              have Q1 := hid q1
              have XL := hid hxl
              have YL := hid hyl
              have UL2 := hid hul2
              clear rx q0 q1 b0 b1 l0 l1 hxl hyl hul2 hkl
              go_wp2_with fail
              refine UC2.out.mono ?_
              rintro e w' ⟨rfl, hw'⟩
              have hw'' := hw'.symm
              clear hw' UC2
              subst hw''
              have BC := hid (refbytes_c RU2.out (RS.out.fr F5.out) BU2.out BS.out (by rw [← UL2.out]; exact hulb2) LS.out)
              go_wp2_with fail
              refine BC.out.mono ?_
              rintro e w6 ⟨rfl, f6⟩
              have F6 := hid (F5.out.trans f6)
              have C6 := hid (C5.out.fr f6)
              have CQ6 := hid (CQ5.out.fr f6)
              have d0 := cell_fr f6 d0
              have d1 := cell_fr f6 d1
              have RU6 := hid (RU2.out.fr f6)
              have Q06 := hid (ownsRow_fr Q0.out f6)
              have Q16 := hid (ownsRow_fr Q1.out f6)
              clear f6 BC RU2 Q0 Q1 C5 CQ5 F5
              by_cases ho2 : cmpN (userL (kA (Q i) j)) least < 0
              · have HIN : Hid (¬ inR least most (kA (Q i) j, vA (Q i) j) = true) := hid (by unfold inR; simp; intro h; omega)
                generalize cmpN (userL (kA (Q i) j)) least = o2 at *
                have ho3 : ¬ 0 ≤ o2 := by omega
                have HFT : Hid (((Q i).take (j + 1)).filter (inR least most) = ((Q i).take j).filter (inR least most)) := hid (by rw [filt_take hjq, if_neg HIN.out, List.append_nil])
                go_wp2
                go_roundw
                case rel => exact ⟨j + 1, oa2, on2, oc2, by go_num, rfl, by omega, by rw [HFT.out]; exact ON2.out, by omega, by rw [HFT.out]; exact C6.out, CQ6.out, HD2.out, F6.out⟩
                case measure => simp [intOf]; omega
              · by_cases hm0 : mn = 0
                · have HIN : Hid (inR least most (kA (Q i) j, vA (Q i) j) = true) := hid (by have := LM.out; unfold inR beh; simp; exact ⟨by omega, .inl (List.eq_nil_of_length_eq_zero (by omega))⟩)
                  generalize cmpN (userL (kA (Q i) j)) least = o2 at *
                  have ho3 : 0 ≤ o2 := by omega
                  subst hm0
                  have APL : (acc ++ ((Q i).take j).filter (inR least most)).length ≤ 1000000 := by rw [← ON2.out]; omega
                  have HFT : Hid (((Q i).take (j + 1)).filter (inR least most) = ((Q i).take j).filter (inR least most) ++ [(kA (Q i) j, vA (Q i) j)]) := hid (by rw [filt_take hjq, if_pos HIN.out])
                  go_wp2_with (at_builtin; refine wpList_app_oneD rfl _ _ rfl (Nat.le_refl w.heap.size) (F6.out.alloc _).size (F6.out.alloc _) (C6.out.fr ((Fr.refl [] w6).alloc _)) rfl w6.heap.size rfl (blk_new _ _) (p := (kA (Q i) j, vA (Q i) j)) (by show World.ownsRow _ _ _ _ _ (kA (Q i) j).length _; rw [← XL.out]; exact ownsRow_fr Q06.out ((Fr.refl [] w6).alloc _)) (by show World.ownsRow _ _ _ _ _ (vA (Q i) j).length _; rw [← YL.out]; exact ownsRow_fr Q16.out ((Fr.refl [] w6).alloc _)) BB.out.1 BB.out.2.1 BB.out.2.2.1 BB.out.2.2.2 (CQ6.out.fr ((Fr.refl [] w6).alloc _)) HD2.out APL ?_; intro v7 w7 co7 cq7 hd7 f7; obtain ⟨oa7, on7, oc7, hn7, rfl⟩ : ∃ la n lc, n = (acc ++ ((Q i).take j).filter (inR least most) ++ [(kA (Q i) j, vA (Q i) j)]).length ∧ v7 = .slice la n lc := (by obtain ⟨cs, o, _⟩ := co7; obtain ⟨x, y, e, _⟩ := ownsRow_slice o; exact ⟨x, _, y, rfl, e⟩); have N7 := hid hn7; clear hn7; have C7 := hid co7; have CQ7 := hid cq7; have HD7 := hid hd7; have F7 := hid f7; clear co7 cq7 hd7 f7)
                  go_roundw
                  case rel =>
                    refine ⟨j + 1, oa7, on7, oc7, by go_num, rfl, by omega, by rw [N7.out, HFT.out, List.append_assoc], ?_, by rw [HFT.out, ← List.append_assoc]; exact C7.out, CQ7.out, HD7.out, F7.out⟩
                    rw [N7.out, List.length_append, ← ON2.out]; simp; omega
                  case measure => simp [intOf]; omega
                · have hm1 : ((mn : Int) == 0) = false := beq_eq_false_iff_ne.2 (by omega)
                  have ho3 : 0 ≤ cmpN (userL (kA (Q i) j)) least := by omega
                  have HO3 := hid ho3
                  have BC := hid (refbytes_c RU6.out (RM.out.fr F6.out) BU2.out BM.out (by rw [← UL2.out]; exact hulb2) (by rw [LM.out]; exact lm2))
                  generalize hgo : cmpN (userL (kA (Q i) j)) least = o2 at *
                  have HGO := hid hgo
                  clear hgo ho2 ho
                  go_wp2_with fail
                  refine BC.out.mono ?_
                  rintro e w8 ⟨rfl, f8⟩
                  have F8 := hid (F6.out.trans f8)
                  have C8 := hid (C6.out.fr f8)
                  have CQ8 := hid (CQ6.out.fr f8)
                  have d0 := cell_fr f8 d0
                  have d1 := cell_fr f8 d1
                  have Q08 := hid (ownsRow_fr Q06.out f8)
                  have Q18 := hid (ownsRow_fr Q16.out f8)
                  clear f8 BC RU6 Q06 Q16 C6 CQ6 F6
                  by_cases ho4 : cmpN (userL (kA (Q i) j)) most ≤ 0
                  · have HIN : Hid (inR least most (kA (Q i) j, vA (Q i) j) = true) := hid (by have := HGO.out; have := HO3.out; unfold inR beh; simp; exact ⟨by omega, .inr ho4⟩)
                    generalize cmpN (userL (kA (Q i) j)) most = o4 at *
                    have APL : (acc ++ ((Q i).take j).filter (inR least most)).length ≤ 1000000 := by rw [← ON2.out]; omega
                    have HFT : Hid (((Q i).take (j + 1)).filter (inR least most) = ((Q i).take j).filter (inR least most) ++ [(kA (Q i) j, vA (Q i) j)]) := hid (by rw [filt_take hjq, if_pos HIN.out])
                    go_wp2_with (at_builtin; refine wpList_app_oneD rfl _ _ rfl (Nat.le_refl w.heap.size) (F8.out.alloc _).size (F8.out.alloc _) (C8.out.fr ((Fr.refl [] w8).alloc _)) rfl w8.heap.size rfl (blk_new _ _) (p := (kA (Q i) j, vA (Q i) j)) (by show World.ownsRow _ _ _ _ _ (kA (Q i) j).length _; rw [← XL.out]; exact ownsRow_fr Q08.out ((Fr.refl [] w8).alloc _)) (by show World.ownsRow _ _ _ _ _ (vA (Q i) j).length _; rw [← YL.out]; exact ownsRow_fr Q18.out ((Fr.refl [] w8).alloc _)) BB.out.1 BB.out.2.1 BB.out.2.2.1 BB.out.2.2.2 (CQ8.out.fr ((Fr.refl [] w8).alloc _)) HD2.out APL ?_; intro v7 w7 co7 cq7 hd7 f7; obtain ⟨oa7, on7, oc7, hn7, rfl⟩ : ∃ la n lc, n = (acc ++ ((Q i).take j).filter (inR least most) ++ [(kA (Q i) j, vA (Q i) j)]).length ∧ v7 = .slice la n lc := (by obtain ⟨cs, o, _⟩ := co7; obtain ⟨x, y, e, _⟩ := ownsRow_slice o; exact ⟨x, _, y, rfl, e⟩); have N7 := hid hn7; clear hn7; have C7 := hid co7; have CQ7 := hid cq7; have HD7 := hid hd7; have F7 := hid f7; clear co7 cq7 hd7 f7)
                    go_roundw
                    case rel =>
                      refine ⟨j + 1, oa7, on7, oc7, by go_num, rfl, by omega, by rw [N7.out, HFT.out, List.append_assoc], ?_, by rw [HFT.out, ← List.append_assoc]; exact C7.out, CQ7.out, HD7.out, F7.out⟩
                      rw [N7.out, List.length_append, ← ON2.out]; simp; omega
                    case measure => simp [intOf]; omega
                  · have HIN : Hid (¬ inR least most (kA (Q i) j, vA (Q i) j) = true) := hid (by have := LM.out; unfold inR beh; simp; intro h; exact ⟨by intro h; simp [h] at this; omega, by omega⟩)
                    generalize cmpN (userL (kA (Q i) j)) most = o4 at *
                    have HFT : Hid (((Q i).take (j + 1)).filter (inR least most) = ((Q i).take j).filter (inR least most)) := hid (by rw [filt_take hjq, if_neg HIN.out, List.append_nil])
                    go_wp2
                    go_roundw
                    case rel => exact ⟨j + 1, oa2, on2, oc2, by go_num, rfl, by omega, by rw [HFT.out]; exact ON2.out, by omega, by rw [HFT.out]; exact C8.out, CQ8.out, HD2.out, F8.out⟩
                    case measure => simp [intOf]; omega
            · have hjl' : ¬ (j : Int) < (ql : Int) := by omega
              obtain rfl : j = ql := by omega
              have HTK : Hid ((Q i).take j = Q i) := hid (List.take_of_length_le (by rw [← HQL.out]; omega))
              have CF : Hid (ColO wr w.heap.size (.slice oa2 on2 oc2) (acc ++ (Q i).filter (inR least most))) := hid (by have := C5.out; rwa [HTK.out] at this)
              have OF : Hid (on2 = (acc ++ (Q i).filter (inR least most)).length) := hid (by have := ON2.out; rwa [HTK.out] at this)
              have HAC1 : Hid ((acc ++ (Q i).filter (inR least most)).length ≤ nxN ips (i + 1)) := hid (by rw [← OF.out, nxN]; omega)
              by_cases hm0 : mn = 0
              · have HR3 : Hid (R = rngS X Q (fun i => userL (kA ips i)) least most (m - (i + 1)) (i + 1) (acc ++ (Q i).filter (inR least most))) := hid (by rw [HR2.out, if_neg (by have := LM.out; unfold beh; simp; intro h; omega)])
                subst hm0
                go_wp2
                go_roundw
                case rel => exact ⟨i + 1, _, oa2, on2, oc2, by go_num, rfl, by omega, HAC1.out, OF.out, CF.out, HR3.out, F5.out⟩
                case measure => simp [intOf]; omega
              · have hm1 : (0 : Int) < (mn : Int) := by omega
                have BC := hid (refbytes_c (RU0.out.fr F5.out) (RM.out.fr F5.out) BU.out BM.out (by rw [← HUL.out]; omega) (by rw [LM.out]; exact lm2))
                go_wp2_with fail
                refine BC.out.mono ?_
                rintro e w8 ⟨rfl, f8⟩
                have F8 := hid (F5.out.trans f8)
                have C8 := hid (CF.out.fr f8)
                clear f8 BC
                by_cases ho4 : 0 < cmpN (userL (kA ips i)) most
                · have HR3 : Hid (R = (0, acc ++ (Q i).filter (inR least most))) := hid (by rw [HR2.out, if_pos (by have := LM.out; unfold beh; simp; exact ⟨by omega, ho4⟩)])
                  generalize cmpN (userL (kA ips i)) most = o4 at *
                  go_wp2
                  go_ret2
                  rw [HR3.out]
                  exact ⟨_, rfl, C8.out, F8.out⟩
                · have HR3 : Hid (R = rngS X Q (fun i => userL (kA ips i)) least most (m - (i + 1)) (i + 1) (acc ++ (Q i).filter (inR least most))) := hid (by rw [HR2.out, if_neg (by unfold beh; simp; intro _; omega)])
                  generalize cmpN (userL (kA ips i)) most = o4 at *
                  go_wp2
                  go_roundw
                  case rel => exact ⟨i + 1, _, oa2, on2, oc2, by go_num, rfl, by omega, HAC1.out, OF.out, C8.out, HR3.out, F8.out⟩
                  case measure => simp [intOf]; omega
        · have hx' : ((xi : Int) == 0) = false := beq_eq_false_iff_ne.2 (by omega)
          have hRx : Hid (R = (xi, [])) := hid (by rw [HR1.out, if_neg hx])
          clear hx HR1 HRR HLK
          go_wp2
          go_ret2
          rw [hRx.out]
          exact ⟨_, rfl, ColO.nil _ _, F3.out⟩
    · have hlt' : ¬ (i : Int) < (m : Int) := by omega
      have hRx : Hid (R = (0, acc)) := hid (by rw [HRR.out, show m - i = 0 by omega]; rfl)
      go_wp2
      go_ret2
      rw [hRx.out]
      exact ⟨_, rfl, HC.out, HF.out⟩
end Go.Proofs.YtnnookkcnmgbfaaGreat
namespace Go.Proofs.YtnnookkcnmgbfaaGreat
open Go.ChangeShapes Go.WideShapes Go.ChangeAt Go.RowKit

theorem infoU : (Tryz.prog.info? 23).map (fun i => (i.zero, i.size, i.bytes)) = some (some (.int .u64 0), 1, 8) := by kernel_rfl
theorem wpList_append_u {w : World} {ops : Array Oper} {rest : List Oper} {o : Oper} {a : Act} {Q : Exit → Act → World → Prop} (hgd : o.guard = none) (s x : Operand)
    (ho : o.op = .call { callee := .builtin .append, args := #[s, x], argTypes := #[137, 137] }) (base : Nat) (hbase : base ≤ w.heap.size) (v : Value) (n : Nat) (xs : List Value) (hs : a.eval s = v) (hown : w.ownsRow base 23 1 v n xs) (G : Nat) (hx : a.eval x = .slice (some ⟨G, 0, none⟩) 1 1) {u : Value} {T : TypeId} (hG : w.heap[G]? = some (.cells #[u] T (0, 0)))
    (hu : u.oneCell' = true) (hl : n ≤ 100000000000)
    (h : ∀ v' w', w'.ownsRow base 23 1 v' (n + 1) (xs ++ [u]) → w.grownBy w' v.ownBlock → wpList Tryz.prog ops Q rest (a.put o.dst v') w') :
    wpList Tryz.prog ops Q (o :: rest) a w := by
  obtain ⟨i0, hi, hz0, hz1, hz2⟩ := info_parts infoU
  refine wpList_append_own_at w hgd s x 137 ho base 23 i0 _ 1 8 Tryz.underlying137 hi hz0 hz1 hz2 rfl (by decide) v n xs hs hown ⟨G, 0, none⟩ 1 1 [u] hx rfl ?_ ?_ (by unfold maxLen; omega) (by omega) hbase fun v' w' h1 h2 _ _ => h v' w' h1 h2
  · intro j u' hj
    rw [Addr.add_lit, Nat.zero_add, blk_cell hG, ← Array.getElem?_toList]
    exact hj
  · intro u' hu'
    simp at hu'
    subst hu'; exact hu
def stV (key : List Nat) (m : Nat) (k : Nat) : List Value := (List.range k).map fun j => .int .u64 ((hs (crc key) (rt (crc key)) j % m : Nat) : Int)
theorem stV_succ (key : List Nat) (m k : Nat) : stV key m (k + 1) = stV key m k ++ [.int .u64 ((hs (crc key) (rt (crc key)) k % m : Nat) : Int)] := by unfold stV; rw [List.range_succ, List.map_append]; rfl
theorem stV_at (key : List Nat) (m : Nat) {k j : Nat} (h : j < k) : (stV key m k)[j]? = some (.int .u64 ((hs (crc key) (rt (crc key)) j % m : Nat) : Int)) := by unfold stV; rw [List.getElem?_map, List.getElem?_range h]; rfl
set_option maxRecDepth 20000 in
set_option maxHeartbeats 3200000 in
theorem steps_c (w : World) {kv : Value} {key : List Nat} (rk : Rd w kv (bv key)) (bk : By key) (hkl : key.length ≤ 140737488355328) (m : Nat) (hm : 0 < m) (hm2 : m ≤ 100000000000) (t : Nat) (ht : t ≤ 255) :
    Calls Tryz.prog 79 #[kv, .int .u64 (m : Int), .int .i64 (t : Int)] w fun e w' => ∃ v', e = .returned v' ∧ w'.ownsRow w.heap.size 23 1 v' t (stV key m t) ∧ Fr [] w w' := by
  have hcr := crc_lt bk
  have SC := hid (refsum_c rk bk hkl)
  obtain ⟨ka, kc, hkv⟩ := rk.form
  subst hkv
  generalize (bv key).length = kn at *
  have hd := rt_lt hcr
  have HS : Hid (∀ k, stV key m (k + 1) = stV key m k ++ [.int .u64 ((hs (crc key) (rt (crc key)) k % m : Nat) : Int)]) := hid (stV_succ key m)
  obtain ⟨h0, hh0⟩ : ∃ h, h = crc key := ⟨_, rfl⟩
  have HLT : Hid (∀ j, hs h0 (rt h0) j < 4294967296) := hid fun j => hs_lt (by rw [hh0]; exact hcr) j
  rw [← hh0] at SC hcr hd HS
  clear hh0
  have hor : bits .or .u32 ((h0 / 131072 : Nat) : Int) (((h0 * 32768 % 4294967296 : Nat) : Int)) = ((rt h0 : Nat) : Int) := by
    rw [u32_or_nat _ _ (by omega) (by omega), Nat.or_comm]; rfl
  have e1 : ((h0 * 32768 % 4294967296 : Nat) : Int) = (h0 : Int) * 32768 % 4294967296 := by omega
  have e2 : ((h0 / 131072 : Nat) : Int) = (h0 : Int) / 131072 := by omega
  rw [e1, e2] at hor
  clear e1 e2
  obtain ⟨d, hdd⟩ : ∃ d, d = rt h0 := ⟨_, rfl⟩
  rw [← hdd] at hd HLT HS hor
  have HNX : Hid (∀ j, hs h0 d (j + 1) = (hs h0 d j + d) % 4294967296) := hid fun j => rfl
  clear hdd rk bk hkl
  have O0 : Hid (w.ownsRow w.heap.size 23 1 (.slice none 0 0) 0 (stV key m 0)) := hid ⟨rfl, .inl ⟨rfl, rfl⟩⟩
  go_enter Tryz.func79, Tryz.ntmps79
  go_wp2_with fail
  refine SC.out.mono ?_
  rintro e w1 ⟨rfl, rfl⟩
  clear SC
  go_wp2_with fail
  clear hor
  have hm0 : ¬ (m : Int) = 0 := by omega
  go_loopw [7, 9, 10] (fun v7 v9 v10 wr => ∃ j : Nat, j ≤ t ∧ v10 = .int .i64 (j : Int) ∧ v7 = .int .u32 (hs h0 d j : Int) ∧ wr.ownsRow w1.heap.size 23 1 v9 j (stV key m j) ∧ Fr [] w1 wr) (fun _ _ v10 _ => t - (intOf v10).toNat)
  case atStart => exact ⟨0, Nat.zero_le _, rfl, rfl, O0.out, Fr.refl _ _⟩
  case round =>
    obtain ⟨j, hj, rfl, rfl, oj, fj⟩ := hrel
    have HJ := hid fj
    clear fj
    by_cases hlt : j < t
    · have hlt32 := HLT.out j
      have HN1 := hid (HNX.out j)
      have HS1 := hid (HS.out j)
      obtain ⟨va, vc, hv9, _⟩ := ownsRow_slice oj
      subst hv9
      generalize hs h0 d j = hj' at *
      have hmod : (((hj' % m : Nat) : Nat) : Int) = (hj' : Int) % (m : Int) := by simp
      obtain ⟨W4, hW4⟩ : ∃ W, W = wr.alloc (.cells #[.int .u64 ((hj' : Int) % (m : Int))] 23) := ⟨_, rfl⟩
      have F4 : Fr [] wr W4 := by rw [hW4]; exact (Fr.refl _ _).alloc _
      have X4 : W4.heap[wr.heap.size]? = some (.cells #[.int .u64 ((hj' : Int) % (m : Int))] 23 (0, 0)) := by rw [hW4]; exact blk_new _ _
      have o4 := ownsRow_fr oj F4
      have hs4 : w1.heap.size ≤ W4.heap.size := by have := HJ.out.size; have := F4.size; omega
      have FF4 := hid (HJ.out.trans F4)
      go_wp2_with (at_builtin; rw [← hW4]; refine wpList_append_u rfl _ _ rfl w1.heap.size hs4 _ _ _ rfl o4 wr.heap.size rfl X4 rfl (by omega) ?_; intro v5 W5 o5 g5)
      have F5 : Fr [] w1 W5 := FF4.out.grown g5 (fun k hk => .inr (o4.lt k hk).1)
      go_roundw
      case rel => exact ⟨j + 1, by omega, by go_num, by rw [HN1.out]; go_num, by rw [HS1.out, hmod]; exact o5, F5⟩
      case measure => simp [intOf]; omega
    · have hje : j = t := by omega
      subst hje
      go_wp2
      go_ret
      exact ⟨_, rfl, oj, HJ.out⟩
end Go.Proofs.YtnnookkcnmgbfaaGreat
