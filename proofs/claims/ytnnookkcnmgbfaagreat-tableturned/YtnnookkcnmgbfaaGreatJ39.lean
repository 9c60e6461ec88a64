/-
  Entries of a range appended to those that were told before.
-/
import Derived.Test.YtnnookkcnmgbfaaGreatJ23
import Derived.Test.YtnnookkcnmgbfaaGreatJ38
namespace Go.Proofs.YtnnookkcnmgbfaaGreat
open Go.ChangeShapes Go.WideShapes Go.ChangeAt Go.RowKit

theorem ColO.grown {W W' : World} {B B' n : Nat} {v mv : Value} {xs : List Value} {ps : Ps} (h : ColO W B mv ps) (o : W.ownsRow B' 47 2 v n xs) (g : W.grownBy W' v.ownBlock) (hne : ∀ k, v.ownBlock = some k → mv.ownBlock ≠ some k) : ColO W' B mv ps := by
  obtain ⟨cs, o2, r⟩ := h
  refine ⟨cs, ownsRow_of_block o2 fun k hk => g.block k (o2.lt k hk).2 (fun e => hne k e.symm hk), fun j p hj => ?_⟩
  obtain ⟨kv, vv, c0, c1, r0, r1, b0⟩ := r j p hj
  exact ⟨kv, vv, c0, c1, own_stays o g r0 (by decide), own_stays o g r1 (by decide), b0⟩
theorem grown_step {w wr W W' : World} {row r2 : Option Nat} (g : w.grownBy wr row) (f : Fr [] wr W) (g2 : W.grownBy W' r2) (h : r2 = row ∨ ∀ k, r2 = some k → w.heap.size ≤ k) : w.grownBy W' row := by
  refine ⟨g2.os.trans (f.os.trans g.os), g2.tape.trans (f.tape.trans g.tape), g2.output.trans (f.output.trans g.output), Nat.le_trans g.size (Nat.le_trans f.size g2.size), fun k hk hn => ?_⟩
  have h1 := g.block k hk hn
  have h2 := f.block k (Nat.lt_of_lt_of_le hk g.size) (by simp)
  rw [g2.block k (Nat.lt_of_lt_of_le hk (Nat.le_trans g.size f.size)) (fun e => ?_), h2, h1]
  rcases h with h | h
  · exact hn (by rw [e, h])
  · have := h k e.symm; omega
theorem grown_fr {w wr W : World} {row : Option Nat} (g : w.grownBy wr row) (f : Fr [] wr W) : w.grownBy W row :=
  grown_step g f (r2 := row) ⟨rfl, rfl, rfl, Nat.le_refl _, fun _ _ _ => rfl⟩ (.inl rfl)
theorem wpList_app_kv {w : World} {ops : Array Oper} {rest : List Oper} {o : Oper} {a : Act} {Q : Exit → Act → World → Prop} (hgd : o.guard = none) (s x : Operand)
    (ho : o.op = .call { callee := .builtin .append, args := #[s, x], argTypes := #[36, 36] }) (base : Nat) (hbase : base ≤ w.heap.size) (v : Value) (n : Nat) (xs : List Value) (hs : a.eval s = v) (hown : w.ownsRow base 47 2 v n xs) (G : Nat) (hx : a.eval x = .slice (some ⟨G, 0, none⟩) 1 1) {a1 a2 : Option Addr} {n1 c1 n2 c2 : Nat} {T : TypeId} (hG : w.heap[G]? = some (.cells #[.slice a1 n1 c1, .slice a2 n2 c2] T (0, 0)))
    (hl : n ≤ 1000000000)
    (h : ∀ v' w', w'.ownsRow base 47 2 v' (n + 1) (xs ++ [.slice a1 n1 c1, .slice a2 n2 c2]) → w.grownBy w' v.ownBlock → (v'.ownBlock = v.ownBlock ∨ v'.ownBlock = some w.heap.size) → wpList Tryz.prog ops Q rest (a.put o.dst v') w') :
    wpList Tryz.prog ops Q (o :: rest) a w := by
  obtain ⟨i0, hi, hz0, hz1, hz2⟩ := info_parts infoP
  refine wpList_append_own_at w hgd s x 36 ho base 47 i0 _ 2 48 Tryz.underlying36 hi hz0 hz1 hz2 rfl (by decide) v n xs hs hown ⟨G, 0, none⟩ 1 1 [.slice a1 n1 c1, .slice a2 n2 c2] hx rfl ?_ ?_ (by unfold maxLen; omega) (by omega) hbase fun v' w' h1 h2 _ h3 => h v' w' h1 h2 h3
  · intro j u hj
    rw [Addr.add_lit, Nat.zero_add, blk_cell hG, ← Array.getElem?_toList]
    exact hj
  · intro u hu
    simp at hu
    rcases hu with rfl | rfl <;> rfl
/-- What appendWithin holds ahead of its i-th entry. -/
structure AwS (w wr : World) (B : Nat) (lv v : Value) (acc qs : Ps) (least most : List Nat) (i : Nat) : Prop where
  col : ColO wr B v (acc ++ (qs.take i).filter (inR least most))
  g : w.grownBy wr lv.ownBlock
  row : v.ownBlock = lv.ownBlock ∨ ∀ k, v.ownBlock = some k → w.heap.size ≤ k
theorem AwS.skip {w wr W : World} {B : Nat} {lv v : Value} {acc qs : Ps} {least most : List Nat} {i : Nat} (h : AwS w wr B lv v acc qs least most i) (f : Fr [] wr W) {p : List Nat × List Nat} (hp : qs[i]? = some p) (hn : inR least most p = false) : AwS w W B lv v acc qs least most (i + 1) := by
  refine ⟨?_, grown_fr h.g f, h.row⟩
  rw [List.take_add_one, hp, Option.toList_some, List.filter_append, List.filter_cons_of_neg (by rw [hn]; simp), List.filter_nil, List.append_nil]
  exact h.col.fr f
theorem AwS.app {w wr W W' : World} {B : Nat} {lv v v' kv vv : Value} {acc qs : Ps} {least most : List Nat} {i : Nat} (h : AwS w wr B lv v acc qs least most i) (f : Fr [] wr W) {p : List Nat × List Nat} (hp : qs[i]? = some p) (hn : inR least most p = true) {cs : List Value}
    (o : W.ownsRow B 47 2 v (acc ++ (qs.take i).filter (inR least most)).length cs)
    (hc : ∀ (j : Nat) (q : List Nat × List Nat), (acc ++ (qs.take i).filter (inR least most))[j]? = some q → ∃ kv vv, cs[j * 2]? = some kv ∧ cs[j * 2 + 1]? = some vv ∧ W.ownsRow B 5 1 kv q.1.length (bv q.1) ∧ W.ownsRow B 5 1 vv q.2.length (bv q.2) ∧ By q.1 ∧ By q.2 ∧ q.1.length ≤ 140737488355328 ∧ q.2.length ≤ 140737488355328)
    (ok : W.ownsRow B 5 1 kv p.1.length (bv p.1)) (ov : W.ownsRow B 5 1 vv p.2.length (bv p.2)) (bk : By p.1) (bw : By p.2) (lk : p.1.length ≤ 140737488355328) (lv' : p.2.length ≤ 140737488355328)
    (o' : W'.ownsRow B 47 2 v' ((acc ++ (qs.take i).filter (inR least most)).length + 1) (cs ++ [kv, vv])) (g : W.grownBy W' v.ownBlock) (hv : v'.ownBlock = v.ownBlock ∨ v'.ownBlock = some W.heap.size) : AwS w W' B lv v' acc qs least most (i + 1) := by
  refine ⟨?_, grown_step h.g f g h.row, ?_⟩
  · rw [List.take_add_one, hp, Option.toList_some, List.filter_append, List.filter_cons_of_pos hn, List.filter_nil, ← List.append_assoc]
    exact ColO.app o hc ok ov bk bw lk lv' o' g
  · rcases hv with hv | hv
    · rw [hv]; exact h.row
    · right
      intro k hk
      rw [hv] at hk
      cases hk
      exact Nat.le_trans h.g.size f.size
set_option maxRecDepth 20000 in
set_option maxHeartbeats 6400000 in
theorem appw_c (w : World) {B Bm : Nat} {lv mv lev mov : Value} {acc qs : Ps} {least most : List Nat} (hA : ColO w B lv acc) (hB : B ≤ w.heap.size) (hQ : ColO w Bm mv qs) (hBm : B ≤ Bm) (hlt : ∀ k, lv.ownBlock = some k → mv.ownBlock ≠ some k)
    (hL : ∀ W, w.grownBy W lv.ownBlock → Rd W lev (bv least)) (hM : ∀ W, w.grownBy W lv.ownBlock → Rd W mov (bv most)) (bl : By least) (bm : By most) (hk : ∀ p ∈ qs, isK p.1 = true) (hlen : acc.length + qs.length ≤ 1000000000) :
    Calls Tryz.prog 75 #[lv, mv, lev, mov] w fun e w' => ∃ v', e = .returned v' ∧ ColO w' B v' (acc ++ qs.filter (inR least most)) ∧ w.grownBy w' lv.ownBlock := by
  have g0 : w.grownBy w lv.ownBlock := ⟨rfl, rfl, rfl, Nat.le_refl _, fun _ _ _ => rfl⟩
  have S0 : Hid (AwS w w B lv lv acc qs least most 0) := hid ⟨by rw [List.take_zero, List.filter_nil, List.append_nil]; exact hA, g0, .inl rfl⟩
  obtain ⟨ea, ec, hle⟩ := (hL w g0).form
  obtain ⟨ma, mc, hme⟩ := (hM w g0).form
  rw [bv_len] at hle hme
  subst hle
  subst hme
  obtain ⟨csl, ol, hx0⟩ := hA
  clear hx0
  obtain ⟨la, lc, hlv, _⟩ := ownsRow_slice ol
  have QG : Hid (∀ W, w.grownBy W lv.ownBlock → ColO W Bm mv qs) := hid (fun W g => hQ.grown ol g hlt)
  obtain ⟨qa, qc, hmv, hqc, hx1⟩ := hQ.rd
  clear hx1
  have HL := hid hL
  have HM := hid hM
  have BL := hid bl
  have BM' := hid bm
  have HK := hid hk
  subst hlv
  subst hmv
  clear hL hM bl bm hk hQ hlt ol g0
  obtain ⟨n, hn⟩ : ∃ n, n = qs.length := ⟨_, rfl⟩
  have HN := hid hn
  rw [← hn] at hlen hqc QG ⊢
  clear hn
  obtain ⟨LV, hLV⟩ : ∃ LV, LV = Value.slice la acc.length lc := ⟨_, rfl⟩
  rw [← hLV] at S0 QG HL HM ⊢
  have HLV := hid hLV
  rw [hLV]
  clear hLV
  generalize least.length = ll at *
  generalize most.length = lm at *
  go_enter Tryz.func75, Tryz.ntmps75
  go_wp2_with fail
  go_loopw [0, 17] (fun v0 v17 wr => ∃ i : Nat, i ≤ n ∧ v17 = .int .i64 (i : Int) ∧ AwS w wr B LV v0 acc qs least most i) (fun _ v17 _ => n - (intOf v17).toNat)
  case atStart => exact ⟨0, Nat.zero_le _, rfl, by rw [← HLV.out]; exact S0.out⟩
  case round =>
    obtain ⟨i, hi, rfl, hs⟩ := hrel
    have HS := hid hs
    clear hs S0
    by_cases hlt : i < n
    · have hil : i < qs.length := by rw [← HN.out]; exact hlt
      have CQ := QG.out wr HS.out.g
      obtain ⟨cq, oq, rq⟩ := CQ
      obtain ⟨kv, vv, k0, k1, ok, ov, bk, bw, lk, lw⟩ := rq i _ (ps_at hil)
      rcases oq.2 with ⟨e, h0⟩ | ⟨g, cap, cur, e, _, h3, h4, h5⟩
      · omega
      simp only [Value.slice.injEq] at e
      obtain ⟨rfl, hqe, rfl⟩ := e
      clear hqe
      have z0 := oq.cells rfl _ _ k0
      have z1 := oq.cells rfl _ _ k1
      rw [Addr.add_lit, Nat.zero_add] at z0 z1
      obtain ⟨ka, kc, rfl, _⟩ := ownsRow_slice ok
      obtain ⟨va, vc, rfl, _⟩ := ownsRow_slice ov
      have OK := hid ok
      have OV := hid ov
      have HP := hid (ps_at hil)
      have BK := hid (And.intro bk (And.intro bw (And.intro lk lw)))
      have KI := hid (HK.out _ (List.mem_of_getElem? (ps_at hil)))
      clear rq ok ov oq k0 k1 h3 h4 h5 bk bw lk lw
      dsimp only at OK OV BK KI z0 z1
      obtain ⟨W0, hW0⟩ : ∃ W0, W0 = wr.alloc (.cells #[.slice ka (kA qs i).length kc, .slice va (vA qs i).length vc] 47) := ⟨_, rfl⟩
      have F0 : Hid (Fr [] wr W0) := hid (by rw [hW0]; exact (Fr.refl _ _).alloc _)
      have N0 : Hid (W0.heap[wr.heap.size]? = some (.cells #[.slice ka (kA qs i).length kc, .slice va (vA qs i).length vc] 47 (0, 0))) := hid (by rw [hW0]; exact blk_new _ _)
      have SP := hid (Split_yes W0 ((Rd.ownB OK.out).fr F0.out) BK.out.1 KI.out)
      have BU := hid (show By (userL (kA qs i)) from BK.out.1.take _)
      obtain ⟨u, hu⟩ : ∃ u, u = userL (kA qs i) := ⟨_, rfl⟩
      have HU := hid hu
      rw [← hu] at SP BU
      clear hu
      generalize (tailN (kA qs i) / 256 : Nat) = t1 at *
      generalize (tailN (kA qs i) % 256 : Nat) = t2 at *
      obtain ⟨lk, hlk⟩ : ∃ lk, lk = (kA qs i).length := ⟨_, rfl⟩
      obtain ⟨lw, hlw⟩ : ∃ lw, lw = (vA qs i).length := ⟨_, rfl⟩
      have HLK := hid hlk
      have HLW := hid hlw
      rw [← hlk] at z0 N0 OK hW0 SP
      rw [← hlw] at z1 N0 OV hW0
      clear hlk hlw
      go_upto_region 5 with (go_at_call 57; rw [← hW0]; refine SP.out.mono ?_; rintro e W1 ⟨sv, rfl, o1, f1⟩; obtain ⟨sa, sc, rfl, _⟩ := ownsRow_slice o1; have RU := hid (Rd.ownB o1); have F1 := hid (F0.out.trans f1); have N1 := hid (f1.at N0.out (by simp)); clear o1 f1)
      have CL := hid (bcmp_c RU.out (HL.out W1 (grown_fr HS.out.g F1.out)) BU.out BL.out)
      have CB := hid (behind_c W1 RU.out BU.out (HM.out W1 (grown_fr HS.out.g F1.out)) BM'.out)
      have EI : Hid (inR least most (kA qs i, vA qs i) = (decide (0 ≤ cmpN u least) && !beh u most)) := hid (by unfold inR; rw [HU.out])
      obtain ⟨cv, hcv⟩ : ∃ cv, cv = cmpN u least := ⟨_, rfl⟩
      obtain ⟨bb, hbb⟩ : ∃ bb, bb = beh u most := ⟨_, rfl⟩
      rw [← hcv] at CL EI
      rw [← hbb] at CB EI
      clear hcv hbb SP hW0 z0 z1 N0
      generalize u.length = ul at *
      by_cases hc : 0 ≤ cv
      · rw [decide_eq_true hc, Bool.true_and] at EI
        cases bb with
        | true =>
          go_wp2_with (first | (go_at_call 104; refine CL.out.mono ?_; rintro e w2 ⟨rfl, h⟩; rw [h]; clear h) | (go_at_call 76; refine CB.out.mono ?_; rintro e w2 ⟨rfl, h⟩; rw [h]; clear h))
          go_roundw
          case rel => exact ⟨i + 1, by omega, by go_num, HS.out.skip F1.out HP.out EI.out⟩
          case measure => simp [intOf]; omega
        | false =>
          obtain ⟨cs, oc, hcs⟩ := HS.out.col.fr F1.out
          obtain ⟨a0, c0, rfl, _⟩ := ownsRow_slice oc
          have OC := hid oc
          have HCS := hid hcs
          have hal : (acc ++ (qs.take i).filter (inR least most)).length ≤ 1000000000 := by
            have := List.length_filter_le (inR least most) (qs.take i)
            rw [List.length_append]; rw [List.length_take] at this; omega
          have y0 := blk_cell N1.out 0
          have y1 := blk_cell N1.out 1
          simp at y0 y1
          obtain ⟨al, hal2⟩ : ∃ al, al = (acc ++ (qs.take i).filter (inR least most)).length := ⟨_, rfl⟩
          have HAL := hid hal2
          rw [← hal2] at OC hal ⊢
          clear hal2 oc hcs
          obtain ⟨W2, hW2⟩ : ∃ W2, W2 = W1.alloc (.cells #[.slice ka lk kc, .slice va lw vc] 47) := ⟨_, rfl⟩
          have F2 : Hid (Fr [] W1 W2) := hid (by rw [hW2]; exact (Fr.refl _ _).alloc _)
          have N2 : Hid (W2.heap[W1.heap.size]? = some (.cells #[.slice ka lk kc, .slice va lw vc] 47 (0, 0))) := hid (by rw [hW2]; exact blk_new _ _)
          go_wp2_with (first | (go_at_call 104; refine CL.out.mono ?_; rintro e w2 ⟨rfl, h⟩; rw [h]; clear h) | (go_at_call 76; refine CB.out.mono ?_; rintro e w2 ⟨rfl, h⟩; rw [h]; clear h) | (rw [← hW2]; refine wpList_app_kv rfl _ _ rfl B (Nat.le_trans hB (Nat.le_trans HS.out.g.size (Nat.le_trans F1.out.size F2.out.size))) (.slice a0 al c0) al cs (by simp [Act.eval]) (ownsRow_fr OC.out F2.out) W1.heap.size (by simp [Act.eval]) N2.out hal ?_; intro v3 W3 o3 g3 b3; obtain ⟨a3, c3, rfl, _⟩ := ownsRow_slice o3; have O3 := hid o3; have G3 := hid g3; have B3 := hid b3; clear o3 g3 b3))
          go_roundw
          case rel =>
            have hal3 := HAL.out
            subst hal3
            refine ⟨i + 1, by omega, by go_num, ?_⟩
            have f12 := F1.out.trans F2.out
            refine HS.out.app f12 HP.out EI.out (cs := cs) (ownsRow_fr OC.out F2.out) (fun j q hj => ?_) (own_base (ownsRow_fr (by dsimp only; rw [← HLK.out]; exact OK.out) f12) hBm) (own_base (ownsRow_fr (by dsimp only; rw [← HLW.out]; exact OV.out) f12) hBm) BK.out.1 BK.out.2.1 BK.out.2.2.1 BK.out.2.2.2 O3.out G3.out B3.out
            obtain ⟨kv, vv, c0, c1, r0, r1, b0⟩ := HCS.out j q hj
            exact ⟨kv, vv, c0, c1, ownsRow_fr r0 F2.out, ownsRow_fr r1 F2.out, b0⟩
          case measure => simp [intOf]; omega
      · rw [decide_eq_false hc, Bool.false_and] at EI
        have hc2 : cv < 0 := by omega
        go_wp2_with (go_at_call 104; refine CL.out.mono ?_; rintro e w2 ⟨rfl, h⟩; rw [h]; clear h)
        go_roundw
        case rel => exact ⟨i + 1, by omega, by go_num, HS.out.skip F1.out HP.out EI.out⟩
        case measure => simp [intOf]; omega
    · have hie : i = n := by omega
      subst hie
      have hs := HS.out
      obtain ⟨cs, oc, hcs⟩ := hs.col
      obtain ⟨a0, c0, rfl, _⟩ := ownsRow_slice oc
      clear oc hcs hs
      go_wp2
      go_ret
      have gg := HS.out.g
      have cc := HS.out.col
      have e : qs.take i = qs := by rw [HN.out, List.take_length]
      rw [HLV.out] at gg
      refine ⟨_, rfl, ?_, gg⟩
      rw [e] at cc ⊢
      exact cc
end Go.Proofs.YtnnookkcnmgbfaaGreat
namespace Go.Proofs.YtnnookkcnmgbfaaGreat
open Go.ChangeShapes Go.WideShapes Go.ChangeAt Go.RowKit

theorem wpListIn_valW {n : Nat} {P : Program} {ops : Array Oper} {rest : List Oper} {o : Oper} {a : Act} {w w' : World} {v : Value} {Q : Exit → Act → World → Prop} (hg : o.guard = none) (h0 : (execOp a.eval o).run P w = .ok (.value v) w') (h : wpListIn Fence.wide n P ops Q rest (a.put o.dst v) w') : wpListIn Fence.wide n P ops Q (o :: rest) a w :=
  wpListIn_plain hg fun K hK => ⟨fun _ _ => trivial, by rw [show Fence.wide.round = none from rfl, Oper.semAt_none, h0]; exact hK _ _ h⟩
theorem wpListIn_callW {n : Nat} {P : Program} {ops : Array Oper} {rest : List Oper} {o : Oper} {a : Act} {w w' : World} {f : FuncId} {args : Array Value} {Q : Exit → Act → World → Prop} (hg : o.guard = none) (h0 : (execOp a.eval o).run P w = .ok (.enter f args) w') (h : Calls P f args w' fun e w'' => ∃ v, e = .returned v ∧ wpListIn Fence.wide n P ops Q rest (a.put o.dst v) w'') : wpListIn Fence.wide n P ops Q (o :: rest) a w :=
  wpListIn_plain hg fun K hK => ⟨fun _ _ => trivial, by
    rw [show Fence.wide.round = none from rfl, Oper.semAt_none, h0]
    refine ⟨fun e => by simp [Fence.wide] at e, callsIn_wide.2 (h.mono ?_)⟩
    rintro e w2 ⟨v, rfl, h2⟩
    exact hK _ _ h2⟩
theorem wpListIn_roundW {n : Nat} {P : Program} {ops : Array Oper} {rest : List Oper} {o : Oper} {a : Act} {w w' : World} {l : Nat} {f : FuncId} {tmps : Array Value} {assign body : Code} {Q : Exit → Act → World → Prop} (hg : o.guard = none) (h0 : (execOp a.eval o).run P w = .ok (.round l f tmps assign body) w') (h : RoundIn Fence.wide (n - 1) P l f tmps assign body w' fun e w'' => ∃ v, e = .returned v ∧ wpListIn Fence.wide n P ops Q rest (a.put o.dst v) w'') : wpListIn Fence.wide n P ops Q (o :: rest) a w :=
  wpListIn_plain hg fun K hK => ⟨fun _ _ => trivial, by
    rw [show Fence.wide.round = none from rfl, Oper.semAt_none, h0]
    refine ⟨fun e => by simp [Fence.wide] at e, h.mono ?_⟩
    rintro e w2 ⟨v, rfl, h2⟩
    exact hK _ _ h2⟩
theorem looked_c (w : World) (p k : Nat) :
    Calls Tryz.prog 73 #[.pointer (some ⟨p, 0, none⟩), .int .i64 (k : Int)] w fun e w' => ∃ C K, e = .returned (.func (.func 102) #[] #[.pointer (some ⟨C, 0, none⟩), .pointer (some ⟨K, 0, none⟩)]) ∧ w'.heap[C]? = some (.cells #[.pointer (some ⟨p, 0, none⟩)] 25 (0, 0)) ∧ w'.heap[K]? = some (.cells #[.int .i64 (k : Int)] 3 (0, 0)) ∧ Fr [] w w' := by
  have hmf : ∀ (fn : Fn) (first cap : Array Value) (w : World), (Instr.makeFunc fn first cap).run Tryz.prog w = .ok (.func fn first cap) w := fun _ _ _ _ => rfl
  go_enter Tryz.func73, Tryz.ntmps73
  go_wp2
  go_ret
  exact ⟨_, _, rfl, by rw [blk_old _ _ (by simp)]; exact blk_new _ _, new_at _ _ (by simp), ((Fr.refl _ _).alloc _).alloc _⟩
/-- What is given of a data block. -/
def EnL (ips : Ps) (X : Nat → Nat) (Q : Nat → Ps) (I G : Nat) : Nat → World → World → Value → Prop := fun k W0 W1 v => ∃ la lc ua uc ev, v = .agg #[.int .i64 (nxN ips (I + k) : Int), .int .i64 (szA ips (I + k) : Int), .slice la (kA ips (I + k)).length lc, .slice ua (userL (kA ips (I + k))).length uc, ev, .bool (decide (X (I + k) = 81)), .bool (decide (X (I + k) = 80))] ∧ W1.cell? ⟨G, (I + k) * 4 + 3, none⟩ = some (.slice ua (userL (kA ips (I + k))).length uc) ∧ ColO W1 W0.heap.size ev (Q (I + k))
set_option maxRecDepth 20000 in
set_option maxHeartbeats 6400000 in
theorem look1_gives {Inv : World → Prop} {p C K I : Nat} {dat flt : List Nat} {ips : Ps} {da fa : Option Addr} {dc fc G : Nat} {X : Nat → Nat} {Q : Nat → Ps} (T : ∀ W, Inv W → Tab W p dat flt ips da dc fa fc G)
    (hC : ∀ W, Inv W → W.heap[C]? = some (.cells #[.pointer (some ⟨p, 0, none⟩)] 25 (0, 0))) (hK : ∀ W, Inv W → W.heap[K]? = some (.cells #[.int .i64 (I : Int)] 3 (0, 0))) (hb : By dat) (hl : dat.length ≤ 1000000000) (hbi : ByP ips) (hn : ips.length ≤ 1000000000) (hI : I ≤ ips.length)
    (hsp : ∀ i, i < ips.length → nxN ips i + szA ips i + 4 ≤ dat.length) (hLk : ∀ i, i < ips.length → LookR dat (nxN ips i) (szA ips i) (kA ips i) (X i) (Q i)) :
    Gives2 Tryz.prog 102 (.pointer (some ⟨C, 0, none⟩)) (.pointer (some ⟨K, 0, none⟩)) Inv (ips.length - I) (EnL ips X Q I G) := by
  intro l J Jx W hJ0 hJf hY h0
  have HT := hid T
  have HC := hid hC
  have HKK := hid hK
  have HB := hid hb
  have HL := hid hl
  have HBI := hid hbi
  have HSP := hid hsp
  have HLK := hid hLk
  have HJ0 := hid hJ0
  have HJF := hid hJf
  have HY := hid hY
  have H0 := hid h0
  have c0 : W.cell? ⟨C, 0, none⟩ = some (.pointer (some ⟨p, 0, none⟩)) := by rw [blk_cell (hC W (hJ0 0 W h0))]; rfl
  have c1 : W.cell? ⟨K, 0, none⟩ = some (.int .i64 (I : Int)) := by rw [blk_cell (hK W (hJ0 0 W h0))]; rfl
  have c2 : W.cell? ⟨p, 2, none⟩ = some (.slice (some ⟨G, 0, none⟩) ips.length ips.length) := by rw [blk_cell (T W (hJ0 0 W h0)).at']; rfl
  clear T hC hK hb hl hbi hsp hLk hJ0 hJf hY h0
  obtain ⟨n, hnn⟩ : ∃ n, n = ips.length := ⟨_, rfl⟩
  have HN := hid hnn
  rw [← hnn] at hn hI c2 HSP HLK HY
  rw [← hnn]
  clear hnn
  have hI1 : (I : Int) ≤ (n : Int) := by omega
  have hI2 : (0 : Int) ≤ (I : Int) := by omega
  obtain ⟨N, hN⟩ : ∃ N, N = n - I := ⟨_, rfl⟩
  rw [← hN] at HY ⊢
  refine callsIn_of_wp Tryz.func102 rfl trivial (wpIn_wide.2 ?_) rfl
  simp only [Tryz.ntmps102, List.size_toArray, List.length_cons, List.length_nil, Nat.reduceAdd, Nat.reduceSub, Array.replicate_succ, Array.replicate_zero, List.push_toArray, List.append_toArray, List.nil_append, List.cons_append]
  by_cases hIn : n = I
  · subst hIn
    go_upto_region 0 with fail
    go_quiet (fail)
    have JQ := hid (HJF.out 0 _ _ H0.out ((Fr.refl [] W).drewN nq))
    clear c0 c1 c2 HY HSP HLK
    generalize W.drewN nq = Wq at *
    have hN0 : Hid (N = 0) := hid (by omega)
    clear hN
    go_wp2_with fail
    go_loopw [13] (fun v13 wr => v13 = .int .i64 0 ∧ J 0 wr) (fun _ _ => 0)
    case atStart => exact ⟨rfl, JQ.out⟩
    case round =>
      obtain ⟨rfl, hj⟩ := hrel
      have HJ := hid hj
      clear hj
      go_wp2
      go_end0
      exact ⟨⟨_, rfl⟩, .inl (by rw [hN0.out]; exact HJ.out)⟩
  · go_upto_region 0 with fail
    go_quiet (fail)
    have JQ := hid (HJF.out 0 _ _ H0.out ((Fr.refl [] W).drewN nq))
    clear c0 c1 c2
    generalize W.drewN nq = Wq at *
    go_wp2_with fail
    go_loopw [13] (fun v13 wr => ∃ k : Nat, k ≤ N ∧ v13 = .int .i64 (k : Int) ∧ J k wr) (fun v13 _ => N - (intOf v13).toNat)
    case atStart => exact ⟨0, Nat.zero_le _, rfl, JQ.out⟩
    case round =>
      clear JQ
      obtain ⟨k, hk, rfl, hj⟩ := hrel
      have HJ := hid hj
      clear hj
      by_cases hlt : k < N
      · have iv := HJ0.out k wr HJ.out
        have tab := HT.out wr iv
        obtain ⟨la, lc, ua, uc, s⟩ := tab.rs (I + k) (by rw [← HN.out]; omega)
        have e4 : (I + k) * 4 = I * 4 + k * 4 := by omega
        have s0 := s.c0
        have s1 := s.c1
        have s2 := s.c2
        have s3 := s.c3
        rw [e4] at s0 s1 s2 s3
        obtain ⟨W0, hW0⟩ : ∃ W0, W0 = wr.alloc (.cells #[.int .i64 (nxN ips (I + k) : Int), .int .i64 (szA ips (I + k) : Int), .slice la (kA ips (I + k)).length lc, .slice ua (userL (kA ips (I + k))).length uc] 108) := ⟨_, rfl⟩
        have F0 : Hid (Fr [] wr W0) := hid (by rw [hW0]; exact (Fr.refl _ _).alloc _)
        have N0 : W0.heap[wr.heap.size]? = some (.cells #[.int .i64 (nxN ips (I + k) : Int), .int .i64 (szA ips (I + k) : Int), .slice la (kA ips (I + k)).length lc, .slice ua (userL (kA ips (I + k))).length uc] 108 (0, 0)) := by rw [hW0]; exact blk_new _ _
        have y0 : W0.cell? ⟨wr.heap.size, 0, none⟩ = some (.int .i64 (nxN ips (I + k) : Int)) := by rw [blk_cell N0]; rfl
        have y1 : W0.cell? ⟨wr.heap.size, 1, none⟩ = some (.int .i64 (szA ips (I + k) : Int)) := by rw [blk_cell N0]; rfl
        have y2 : W0.cell? ⟨wr.heap.size, 2, none⟩ = some (.slice la (kA ips (I + k)).length lc) := by rw [blk_cell N0]; rfl
        have y3 : W0.cell? ⟨wr.heap.size, 3, none⟩ = some (.slice ua (userL (kA ips (I + k))).length uc) := by rw [blk_cell N0]; rfl
        have y4 : W0.cell? ⟨C, 0, none⟩ = some (.pointer (some ⟨p, 0, none⟩)) := by rw [blk_cell (F0.out.at (HC.out wr iv) (by simp))]; rfl
        have hik : I + k < n := by omega
        have LA := hid (look_any W0 (tab.fr F0.out) HB.out HL.out (nxN ips (I + k)) (szA ips (I + k)) (HSP.out _ hik) (la := la) (ua := ua) (lc := lc) (un := (userL (kA ips (I + k))).length) (uc := uc) (s.rl.fr F0.out) (kA_by HBI.out _).1 (HLK.out _ hik))
        have RU := hid (cell_fr F0.out s.c3)
        clear s tab iv N0
        go_upto_region 3 with fail
        rw [← hW0]
        clear hW0 s0 s1 s2 s3
        refine (wpIn_wide (n := 4)).1 (wpIn_region_lit ?_)
        refine wpListIn_valW (v := .func (.yield l) #[] #[]) (w' := W0) rfl (by go_simp) ?_
        refine wpListIn_valW (v := .pointer (some ⟨p, 0, none⟩)) (w' := W0) rfl (by go_simp) ?_
        refine wpListIn_valW (v := .agg #[.int .i64 (nxN ips (I + k) : Int), .int .i64 (szA ips (I + k) : Int), .slice la (kA ips (I + k)).length lc, .slice ua (userL (kA ips (I + k))).length uc]) (w' := W0) rfl (by go_simp) ?_
        refine wpListIn_callW (f := 54) (args := #[.pointer (some ⟨p, 0, none⟩), .agg #[.int .i64 (nxN ips (I + k) : Int), .int .i64 (szA ips (I + k) : Int), .slice la (kA ips (I + k)).length lc, .slice ua (userL (kA ips (I + k))).length uc]]) (w' := W0) rfl (by go_simp) ?_
        refine LA.out.mono ?_
        rintro r w2 ⟨ev, rfl, co, f2⟩
        refine ⟨_, rfl, ?_⟩
        obtain ⟨fn, tmps, assign, body, hy, hR⟩ := HY.out k wr w2 _ hlt HJ.out (F0.out.trans f2) ⟨la, lc, ua, uc, ev, rfl, cell_fr f2 RU.out, co.base F0.out.size⟩
        have HRR := hid hR
        clear hR LA co f2 y0 y1 y2 y3 y4
        simp only [Act.put]
        refine wpListIn_roundW (l := l) (f := fn) (tmps := tmps) (assign := assign) (body := body) (w' := w2) rfl (by go_simp) ?_
        refine HRR.out.mono ?_
        rintro r w3 (⟨rfl, hj3⟩ | ⟨rfl, hx3⟩)
        · refine ⟨_, rfl, ?_⟩
          have HJ3 := hid hj3
          clear hj3 hy HRR
          refine wpListIn_valW (v := .bool false) (w' := w3) rfl (by go_simp) ?_
          show Exit.then _ _ .normal _ _
          simp only [Act.put, List.setIfInBounds_toArray, List.set_cons_succ, List.set_cons_zero]
          go_wp2
          go_roundw
          case rel => exact ⟨k + 1, by omega, by go_num, HJ3.out⟩
          case measure => simp [intOf]; omega
        · refine ⟨_, rfl, ?_⟩
          have HX3 := hid hx3
          clear hx3 hy HRR
          refine wpListIn_valW (v := .bool true) (w' := w3) rfl (by go_simp) ?_
          show Exit.then _ _ .normal _ _
          simp only [Act.put, List.setIfInBounds_toArray, List.set_cons_succ, List.set_cons_zero]
          go_wp2
          exact bodyPost_ret (results_none rfl _ _ _) rfl ⟨⟨_, rfl⟩, .inr HX3.out⟩
      · have hkN : k = N := by omega
        subst hkN
        go_wp2
        go_end0
        exact ⟨⟨_, rfl⟩, .inl HJ.out⟩
end Go.Proofs.YtnnookkcnmgbfaaGreat
