/-
  Entries of a range appended to those that were told before.
-/
import Derived.Test.YtobdegmlijnogaaXW
import Derived.Test.YtobdegmlijnogaaRL2
namespace Go.Proofs.Ytobdegmlijnogaa
open Go.ChangeShapes Go.WideShapes Go.ChangeAt Go.RowKit

theorem ColO.grown {W W' : World} {B B' n : Nat} {v mv : Value} {xs : List Value} {ps : Ps} (h : ColO W B mv ps) (o : W.ownsRow B' 41 2 v n xs) (g : W.grownBy W' v.ownBlock) (hne : ∀ k, v.ownBlock = some k → mv.ownBlock ≠ some k) : ColO W' B mv ps := by
  obtain ⟨cs, o2, r⟩ := h
  refine ⟨cs, ownsRow_of_block o2 fun k hk => g.block k (o2.lt k hk).2 (fun e => hne k e.symm hk), fun j p hj => ?_⟩
  obtain ⟨kv, vv, c0, c1, r0, r1, b0⟩ := r j p hj
  exact ⟨kv, vv, c0, c1, own_stays o g r0 (by decide), own_stays o g r1 (by decide), b0⟩
theorem grown_step {w wr W W' : World} {row r2 : Option Nat} (g : w.grownBy wr row) (f : Fr [] wr W) (g2 : W.grownBy W' r2) (h : r2 = row ∨ ∀ k, r2 = some k → w.heap.size ≤ k) : w.grownBy W' row := by
  refine ⟨g2.os.trans (f.os.trans g.os), g2.tape.trans (f.tape.trans g.tape), g2.output.trans (f.output.trans g.output), Nat.le_trans g.size (Nat.le_trans f.size g2.size), fun k hk hn => ?_⟩
  have h1 := g.block k hk hn
  have h2 := f.block k (Nat.lt_of_lt_of_le hk g.size) (by simp)
  rw [g2.block k (Nat.lt_of_lt_of_le hk (Nat.le_trans g.size f.size)) (fun e => ?_), h2, h1]
  rcases h with h | h
  · exact hn (by rw [e, h])
  · have := h k e.symm; omega
theorem grown_fr {w wr W : World} {row : Option Nat} (g : w.grownBy wr row) (f : Fr [] wr W) : w.grownBy W row :=
  grown_step g f (r2 := row) ⟨rfl, rfl, rfl, Nat.le_refl _, fun _ _ _ => rfl⟩ (.inl rfl)
theorem wpList_app_kv {w : World} {ops : Array Oper} {rest : List Oper} {o : Oper} {a : Act} {Q : Exit → Act → World → Prop} (hgd : o.guard = none) (s x : Operand)
    (ho : o.op = .call { callee := .builtin .append, args := #[s, x], argTypes := #[22, 22] }) (base : Nat) (hbase : base ≤ w.heap.size) (v : Value) (n : Nat) (xs : List Value) (hs : a.eval s = v) (hown : w.ownsRow base 41 2 v n xs) (G : Nat) (hx : a.eval x = .slice (some ⟨G, 0, none⟩) 1 1) {a1 a2 : Option Addr} {n1 c1 n2 c2 : Nat} {T : TypeId} (hG : w.heap[G]? = some (.cells #[.slice a1 n1 c1, .slice a2 n2 c2] T (0, 0)))
    (hl : n ≤ 1000000000)
    (h : ∀ v' w', w'.ownsRow base 41 2 v' (n + 1) (xs ++ [.slice a1 n1 c1, .slice a2 n2 c2]) → w.grownBy w' v.ownBlock → (v'.ownBlock = v.ownBlock ∨ v'.ownBlock = some w.heap.size) → wpList Try.prog ops Q rest (a.put o.dst v') w') :
    wpList Try.prog ops Q (o :: rest) a w := by
  obtain ⟨i0, hi, hz0, hz1, hz2⟩ := info_parts infoP
  refine wpList_append_own_at w hgd s x 22 ho base 41 i0 _ 2 48 Try.underlying22 hi hz0 hz1 hz2 rfl (by decide) v n xs hs hown ⟨G, 0, none⟩ 1 1 [.slice a1 n1 c1, .slice a2 n2 c2] hx rfl ?_ ?_ (by unfold maxLen; omega) (by omega) hbase fun v' w' h1 h2 _ h3 => h v' w' h1 h2 h3
  · intro j u hj
    rw [Addr.add_lit, Nat.zero_add, blk_cell hG, ← Array.getElem?_toList]
    exact hj
  · intro u hu
    simp at hu
    rcases hu with rfl | rfl <;> rfl
/-- What appendWithin holds ahead of its i-th entry. -/
structure AwS (w wr : World) (B : Nat) (lv v : Value) (acc qs : Ps) (least most : List Nat) (i : Nat) : Prop where
  col : ColO wr B v (acc ++ (qs.take i).filter (inR least most))
  g : w.grownBy wr lv.ownBlock
  row : v.ownBlock = lv.ownBlock ∨ ∀ k, v.ownBlock = some k → w.heap.size ≤ k
theorem AwS.skip {w wr W : World} {B : Nat} {lv v : Value} {acc qs : Ps} {least most : List Nat} {i : Nat} (h : AwS w wr B lv v acc qs least most i) (f : Fr [] wr W) {p : List Nat × List Nat} (hp : qs[i]? = some p) (hn : inR least most p = false) : AwS w W B lv v acc qs least most (i + 1) := by
  refine ⟨?_, grown_fr h.g f, h.row⟩
  rw [List.take_add_one, hp, Option.toList_some, List.filter_append, List.filter_cons_of_neg (by rw [hn]; simp), List.filter_nil, List.append_nil]
  exact h.col.fr f
theorem AwS.app {w wr W W' : World} {B : Nat} {lv v v' kv vv : Value} {acc qs : Ps} {least most : List Nat} {i : Nat} (h : AwS w wr B lv v acc qs least most i) (f : Fr [] wr W) {p : List Nat × List Nat} (hp : qs[i]? = some p) (hn : inR least most p = true) {cs : List Value}
    (o : W.ownsRow B 41 2 v (acc ++ (qs.take i).filter (inR least most)).length cs)
    (hc : ∀ (j : Nat) (q : List Nat × List Nat), (acc ++ (qs.take i).filter (inR least most))[j]? = some q → ∃ kv vv, cs[j * 2]? = some kv ∧ cs[j * 2 + 1]? = some vv ∧ W.ownsRow B 5 1 kv q.1.length (bv q.1) ∧ W.ownsRow B 5 1 vv q.2.length (bv q.2) ∧ By q.1 ∧ By q.2 ∧ q.1.length ≤ 140737488355328 ∧ q.2.length ≤ 140737488355328)
    (ok : W.ownsRow B 5 1 kv p.1.length (bv p.1)) (ov : W.ownsRow B 5 1 vv p.2.length (bv p.2)) (bk : By p.1) (bw : By p.2) (lk : p.1.length ≤ 140737488355328) (lv' : p.2.length ≤ 140737488355328)
    (o' : W'.ownsRow B 41 2 v' ((acc ++ (qs.take i).filter (inR least most)).length + 1) (cs ++ [kv, vv])) (g : W.grownBy W' v.ownBlock) (hv : v'.ownBlock = v.ownBlock ∨ v'.ownBlock = some W.heap.size) : AwS w W' B lv v' acc qs least most (i + 1) := by
  refine ⟨?_, grown_step h.g f g h.row, ?_⟩
  · rw [List.take_add_one, hp, Option.toList_some, List.filter_append, List.filter_cons_of_pos hn, List.filter_nil, ← List.append_assoc]
    exact ColO.app o hc ok ov bk bw lk lv' o' g
  · rcases hv with hv | hv
    · rw [hv]; exact h.row
    · right
      intro k hk
      rw [hv] at hk
      cases hk
      exact Nat.le_trans h.g.size f.size
set_option maxRecDepth 20000 in
set_option maxHeartbeats 6400000 in
theorem appw_c (w : World) {B Bm : Nat} {lv mv lev mov : Value} {acc qs : Ps} {least most : List Nat} (hA : ColO w B lv acc) (hB : B ≤ w.heap.size) (hQ : ColO w Bm mv qs) (hBm : B ≤ Bm) (hlt : ∀ k, lv.ownBlock = some k → mv.ownBlock ≠ some k)
    (hL : ∀ W, w.grownBy W lv.ownBlock → Rd W lev (bv least)) (hM : ∀ W, w.grownBy W lv.ownBlock → Rd W mov (bv most)) (bl : By least) (bm : By most) (hk : ∀ p ∈ qs, isK p.1 = true) (hlen : acc.length + qs.length ≤ 1000000000) :
    Calls Try.prog 42 #[lv, mv, lev, mov] w fun e w' => ∃ v', e = .returned v' ∧ ColO w' B v' (acc ++ qs.filter (inR least most)) ∧ w.grownBy w' lv.ownBlock := by
  have g0 : w.grownBy w lv.ownBlock := ⟨rfl, rfl, rfl, Nat.le_refl _, fun _ _ _ => rfl⟩
  have S0 : Hid (AwS w w B lv lv acc qs least most 0) := hid ⟨by rw [List.take_zero, List.filter_nil, List.append_nil]; exact hA, g0, .inl rfl⟩
  obtain ⟨ea, ec, hle⟩ := (hL w g0).form
  obtain ⟨ma, mc, hme⟩ := (hM w g0).form
  rw [bv_len] at hle hme
  subst hle
  subst hme
  obtain ⟨csl, ol, hx0⟩ := hA
  clear hx0
  obtain ⟨la, lc, hlv, _⟩ := ownsRow_slice ol
  have QG : Hid (∀ W, w.grownBy W lv.ownBlock → ColO W Bm mv qs) := hid (fun W g => hQ.grown ol g hlt)
  obtain ⟨qa, qc, hmv, hqc, hx1⟩ := hQ.rd
  clear hx1
  have HL := hid hL
  have HM := hid hM
  have BL := hid bl
  have BM' := hid bm
  have HK := hid hk
  subst hlv
  subst hmv
  clear hL hM bl bm hk hQ hlt ol g0
  obtain ⟨n, hn⟩ : ∃ n, n = qs.length := ⟨_, rfl⟩
  have HN := hid hn
  rw [← hn] at hlen hqc QG ⊢
  clear hn
  obtain ⟨LV, hLV⟩ : ∃ LV, LV = Value.slice la acc.length lc := ⟨_, rfl⟩
  rw [← hLV] at S0 QG HL HM ⊢
  have HLV := hid hLV
  rw [hLV]
  clear hLV
  generalize least.length = ll at *
  generalize most.length = lm at *
  go_enter Try.func42, Try.ntmps42
  go_wp2_with fail
  go_loopw [0, 17] (fun v0 v17 wr => ∃ i : Nat, i ≤ n ∧ v17 = .int .i64 (i : Int) ∧ AwS w wr B LV v0 acc qs least most i) (fun _ v17 _ => n - (intOf v17).toNat)
  case atStart => exact ⟨0, Nat.zero_le _, rfl, by rw [← HLV.out]; exact S0.out⟩
  case round =>
    obtain ⟨i, hi, rfl, hs⟩ := hrel
    have HS := hid hs
    clear hs S0
    by_cases hlt : i < n
    · have hil : i < qs.length := by rw [← HN.out]; exact hlt
      have CQ := QG.out wr HS.out.g
      obtain ⟨cq, oq, rq⟩ := CQ
      obtain ⟨kv, vv, k0, k1, ok, ov, bk, bw, lk, lw⟩ := rq i _ (ps_at hil)
      rcases oq.2 with ⟨e, h0⟩ | ⟨g, cap, cur, e, _, h3, h4, h5⟩
      · omega
      simp only [Value.slice.injEq] at e
      obtain ⟨rfl, hqe, rfl⟩ := e
      clear hqe
      have z0 := oq.cells rfl _ _ k0
      have z1 := oq.cells rfl _ _ k1
      rw [Addr.add_lit, Nat.zero_add] at z0 z1
      obtain ⟨ka, kc, rfl, _⟩ := ownsRow_slice ok
      obtain ⟨va, vc, rfl, _⟩ := ownsRow_slice ov
      have OK := hid ok
      have OV := hid ov
      have HP := hid (ps_at hil)
      have BK := hid (And.intro bk (And.intro bw (And.intro lk lw)))
      have KI := hid (HK.out _ (List.mem_of_getElem? (ps_at hil)))
      clear rq ok ov oq k0 k1 h3 h4 h5 bk bw lk lw
      dsimp only at OK OV BK KI z0 z1
      obtain ⟨W0, hW0⟩ : ∃ W0, W0 = wr.alloc (.cells #[.slice ka (kA qs i).length kc, .slice va (vA qs i).length vc] 41) := ⟨_, rfl⟩
      have F0 : Hid (Fr [] wr W0) := hid (by rw [hW0]; exact (Fr.refl _ _).alloc _)
      have N0 : Hid (W0.heap[wr.heap.size]? = some (.cells #[.slice ka (kA qs i).length kc, .slice va (vA qs i).length vc] 41 (0, 0))) := hid (by rw [hW0]; exact blk_new _ _)
      have SP := hid (Split_yes W0 ((Rd.ownB OK.out).fr F0.out) BK.out.1 KI.out)
      have BU := hid (show By (userL (kA qs i)) from BK.out.1.take _)
      obtain ⟨u, hu⟩ : ∃ u, u = userL (kA qs i) := ⟨_, rfl⟩
      have HU := hid hu
      rw [← hu] at SP BU
      clear hu
      generalize (tailN (kA qs i) / 256 : Nat) = t1 at *
      generalize (tailN (kA qs i) % 256 : Nat) = t2 at *
      obtain ⟨lk, hlk⟩ : ∃ lk, lk = (kA qs i).length := ⟨_, rfl⟩
      obtain ⟨lw, hlw⟩ : ∃ lw, lw = (vA qs i).length := ⟨_, rfl⟩
      have HLK := hid hlk
      have HLW := hid hlw
      rw [← hlk] at z0 N0 OK hW0 SP
      rw [← hlw] at z1 N0 OV hW0
      clear hlk hlw
      go_upto_region 5 with (go_at_call 36; rw [← hW0]; refine SP.out.mono ?_; rintro e W1 ⟨sv, rfl, o1, f1⟩; obtain ⟨sa, sc, rfl, _⟩ := ownsRow_slice o1; have RU := hid (Rd.ownB o1); have F1 := hid (F0.out.trans f1); have N1 := hid (f1.at N0.out (by simp)); clear o1 f1)
      have CL := hid (bcmp_c RU.out (HL.out W1 (grown_fr HS.out.g F1.out)) BU.out BL.out)
      have CB := hid (behind_c W1 RU.out BU.out (HM.out W1 (grown_fr HS.out.g F1.out)) BM'.out)
      have EI : Hid (inR least most (kA qs i, vA qs i) = (decide (0 ≤ cmpN u least) && !beh u most)) := hid (by unfold inR; rw [HU.out])
      obtain ⟨cv, hcv⟩ : ∃ cv, cv = cmpN u least := ⟨_, rfl⟩
      obtain ⟨bb, hbb⟩ : ∃ bb, bb = beh u most := ⟨_, rfl⟩
      rw [← hcv] at CL EI
      rw [← hbb] at CB EI
      clear hcv hbb SP hW0 z0 z1 N0
      generalize u.length = ul at *
      by_cases hc : 0 ≤ cv
      · rw [decide_eq_true hc, Bool.true_and] at EI
        cases bb with
        | true =>
          go_wp2_with (first | (go_at_call 72; refine CL.out.mono ?_; rintro e w2 ⟨rfl, h⟩; rw [h]; clear h) | (go_at_call 43; refine CB.out.mono ?_; rintro e w2 ⟨rfl, h⟩; rw [h]; clear h))
          go_roundw
          case rel => exact ⟨i + 1, by omega, by go_num, HS.out.skip F1.out HP.out EI.out⟩
          case measure => simp [intOf]; omega
        | false =>
          obtain ⟨cs, oc, hcs⟩ := HS.out.col.fr F1.out
          obtain ⟨a0, c0, rfl, _⟩ := ownsRow_slice oc
          have OC := hid oc
          have HCS := hid hcs
          have hal : (acc ++ (qs.take i).filter (inR least most)).length ≤ 1000000000 := by
            have := List.length_filter_le (inR least most) (qs.take i)
            rw [List.length_append]; rw [List.length_take] at this; omega
          have y0 := blk_cell N1.out 0
          have y1 := blk_cell N1.out 1
          simp at y0 y1
          obtain ⟨al, hal2⟩ : ∃ al, al = (acc ++ (qs.take i).filter (inR least most)).length := ⟨_, rfl⟩
          have HAL := hid hal2
          rw [← hal2] at OC hal ⊢
          clear hal2 oc hcs
          obtain ⟨W2, hW2⟩ : ∃ W2, W2 = W1.alloc (.cells #[.slice ka lk kc, .slice va lw vc] 41) := ⟨_, rfl⟩
          have F2 : Hid (Fr [] W1 W2) := hid (by rw [hW2]; exact (Fr.refl _ _).alloc _)
          have N2 : Hid (W2.heap[W1.heap.size]? = some (.cells #[.slice ka lk kc, .slice va lw vc] 41 (0, 0))) := hid (by rw [hW2]; exact blk_new _ _)
          go_wp2_with (first | (go_at_call 72; refine CL.out.mono ?_; rintro e w2 ⟨rfl, h⟩; rw [h]; clear h) | (go_at_call 43; refine CB.out.mono ?_; rintro e w2 ⟨rfl, h⟩; rw [h]; clear h) | (rw [← hW2]; refine wpList_app_kv rfl _ _ rfl B (Nat.le_trans hB (Nat.le_trans HS.out.g.size (Nat.le_trans F1.out.size F2.out.size))) (.slice a0 al c0) al cs (by simp [Act.eval]) (ownsRow_fr OC.out F2.out) W1.heap.size (by simp [Act.eval]) N2.out hal ?_; intro v3 W3 o3 g3 b3; obtain ⟨a3, c3, rfl, _⟩ := ownsRow_slice o3; have O3 := hid o3; have G3 := hid g3; have B3 := hid b3; clear o3 g3 b3))
          go_roundw
          case rel =>
            have hal3 := HAL.out
            subst hal3
            refine ⟨i + 1, by omega, by go_num, ?_⟩
            have f12 := F1.out.trans F2.out
            refine HS.out.app f12 HP.out EI.out (cs := cs) (ownsRow_fr OC.out F2.out) (fun j q hj => ?_) (own_base (ownsRow_fr (by dsimp only; rw [← HLK.out]; exact OK.out) f12) hBm) (own_base (ownsRow_fr (by dsimp only; rw [← HLW.out]; exact OV.out) f12) hBm) BK.out.1 BK.out.2.1 BK.out.2.2.1 BK.out.2.2.2 O3.out G3.out B3.out
            obtain ⟨kv, vv, c0, c1, r0, r1, b0⟩ := HCS.out j q hj
            exact ⟨kv, vv, c0, c1, ownsRow_fr r0 F2.out, ownsRow_fr r1 F2.out, b0⟩
          case measure => simp [intOf]; omega
      · rw [decide_eq_false hc, Bool.false_and] at EI
        have hc2 : cv < 0 := by omega
        go_wp2_with (go_at_call 72; refine CL.out.mono ?_; rintro e w2 ⟨rfl, h⟩; rw [h]; clear h)
        go_roundw
        case rel => exact ⟨i + 1, by omega, by go_num, HS.out.skip F1.out HP.out EI.out⟩
        case measure => simp [intOf]; omega
    · have hie : i = n := by omega
      subst hie
      have hs := HS.out
      obtain ⟨cs, oc, hcs⟩ := hs.col
      obtain ⟨a0, c0, rfl, _⟩ := ownsRow_slice oc
      clear oc hcs hs
      go_wp2
      go_ret
      have gg := HS.out.g
      have cc := HS.out.col
      have e : qs.take i = qs := by rw [HN.out, List.take_length]
      rw [HLV.out] at gg
      refine ⟨_, rfl, ?_, gg⟩
      rw [e] at cc ⊢
      exact cc
end Go.Proofs.Ytobdegmlijnogaa
