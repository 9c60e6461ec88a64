/-
  Package manifest: rows of dropped and of placed tables are taken.
-/
import Derived.Test.YtegbngbhmgbocaaGreatDoorDM3
import Derived.Test.YtegbngbhmgbocaaGreatDoorJ02
namespace Go.Proofs.YtegbngbhmgbocaaGreatDoor
open Go.ChangeShapes Go.WideShapes Go.ChangeAt Go.RowKit

theorem info_parts9 {P : Program} {t : TypeId} {z : Value} {s b : Nat} (h : (P.info? t).map (fun i => (i.zero, i.size, i.bytes)) = some (some z, s, b)) : ∃ i, P.info? t = some i ∧ i.zero = some z ∧ i.size = s ∧ i.bytes = b := by
  rcases hi : P.info? t with _ | i
  · rw [hi] at h; cases h
  · rw [hi] at h
    simp only [Option.map_some, Option.some.injEq, Prod.mk.injEq] at h
    exact ⟨i, rfl, h.1, h.2.1, h.2.2⟩
/-- A row of the call's own isn't another kind's block. -/
theorem own_apart {W : World} {B s n k : Nat} {e T : TypeId} {v : Value} {xs : List Value} {cur : Array Value} (o : W.ownsRow B e s v n xs) (h : W.heap[k]? = some (.cells cur T (0, 0))) (hne : T ≠ e) : v.ownBlock ≠ some k := by
  intro hk
  rcases o.2 with ⟨rfl, _⟩ | ⟨g, cap, cur', rfl, _, h3, _⟩
  · simp [Value.ownBlock] at hk
  · simp [Value.ownBlock] at hk
    subst hk
    rw [h3] at h
    simp only [Option.some.injEq, Obj.cells.injEq] at h
    exact hne h.2.1.symm
theorem own_stays9 {W W' : World} {B B' s n m : Nat} {e : TypeId} {v u : Value} {xs ys : List Value} (o : W.ownsRow B e s v n xs) (g : W.grownBy W' v.ownBlock) (q : W.ownsRow B' 5 1 u m ys) (hne : 5 ≠ e) : W'.ownsRow B' 5 1 u m ys := by
  refine ownsRow_of_block q fun k hk => ?_
  rcases q.2 with ⟨rfl, _⟩ | ⟨h, cap, cur, rfl, _, h3, _⟩
  · simp [Value.ownBlock] at hk
  · simp [Value.ownBlock] at hk
    subst hk
    exact g.block _ (blk_lt h3) (fun e' => own_apart o h3 hne e'.symm)

/-- Dropped tables in a row of the call's own. -/
def cellsD (gs : List (Int × Int)) : List Value := gs.flatMap fun g => [.int .i64 g.1, .int .i64 g.2]
theorem cellsD_snoc (gs : List (Int × Int)) (g : Int × Int) : cellsD (gs ++ [g]) = cellsD gs ++ [.int .i64 g.1, .int .i64 g.2] := by unfold cellsD; simp
theorem cellsD_len (gs : List (Int × Int)) : (cellsD gs).length = gs.length * 2 := by
  induction gs with
  | nil => rfl
  | cons g r ih => simp only [cellsD, List.flatMap_cons, List.length_append, List.length_cons, List.length_nil] at *; omega
theorem cellsD_at : ∀ {gs : List (Int × Int)} {j : Nat} {g : Int × Int}, gs[j]? = some g → (cellsD gs)[j * 2]? = some (.int .i64 g.1) ∧ (cellsD gs)[j * 2 + 1]? = some (.int .i64 g.2)
  | [], _, _, h => by simp at h
  | x :: r, 0, g, h => by simp at h; subst h; exact ⟨rfl, rfl⟩
  | x :: r, j + 1, g, h => by
    have := cellsD_at (gs := r) (j := j) (g := g) (by simpa using h)
    have e : cellsD (x :: r) = .int .i64 x.1 :: .int .i64 x.2 :: cellsD r := rfl
    rw [e, show (j + 1) * 2 = j * 2 + 1 + 1 by omega]
    exact ⟨by simpa using this.1, by simpa using this.2⟩
def DO (W : World) (B : Nat) (v : Value) (gs : List (Int × Int)) : Prop := W.ownsRow B 45 2 v gs.length (cellsD gs)
/-- Placed tables in a row of the call's own, their keys too. -/
def AO (W : World) (B : Nat) (v : Value) (ps : List (Int × Fl)) : Prop := ∃ cs, W.ownsRow B 64 5 v ps.length cs ∧
  ∀ (j : Nat) (p : Int × Fl), ps[j]? = some p → ∃ la lc ma mc, cs[j * 5]? = some (.int .i64 p.1) ∧ cs[j * 5 + 1]? = some (.int .i64 p.2.num) ∧ cs[j * 5 + 2]? = some (.int .i64 p.2.size) ∧ cs[j * 5 + 3]? = some (.slice la p.2.least.length lc) ∧ cs[j * 5 + 4]? = some (.slice ma p.2.most.length mc) ∧ W.ownsRow B 5 1 (.slice la p.2.least.length lc) p.2.least.length (bv p.2.least) ∧ W.ownsRow B 5 1 (.slice ma p.2.most.length mc) p.2.most.length (bv p.2.most)
theorem AO.nil (W : World) (B : Nat) : AO W B (.slice none 0 0) [] := ⟨[], World.ownsRow_nil _ _ _ _, fun j p h => by simp at h⟩
theorem AO.step {W W' : World} {B : Nat} {v : Value} {ps : List (Int × Fl)} (h : AO W B v ps) (f : ∀ k, B ≤ k → k < W.heap.size → W'.heap[k]? = W.heap[k]?) : AO W' B v ps := by
  obtain ⟨cs, o, h2⟩ := h
  have st : ∀ {e : TypeId} {s n : Nat} {v : Value} {xs : List Value}, W.ownsRow B e s v n xs → W'.ownsRow B e s v n xs := fun o => ownsRow_of_block o fun k hk => f k (o.lt k hk).1 (o.lt k hk).2
  refine ⟨cs, st o, fun j p hj => ?_⟩
  obtain ⟨la, lc, ma, mc, c0, c1, c2, c3, c4, q0, q1⟩ := h2 j p hj
  exact ⟨la, lc, ma, mc, c0, c1, c2, c3, c4, st q0, st q1⟩
theorem DO.step {W W' : World} {B : Nat} {v : Value} {gs : List (Int × Int)} (h : DO W B v gs) (f : ∀ k, B ≤ k → k < W.heap.size → W'.heap[k]? = W.heap[k]?) : DO W' B v gs := ownsRow_of_block h fun k hk => f k (World.ownsRow.lt h k hk).1 (World.ownsRow.lt h k hk).2
theorem AO.app {W W' : World} {B : Nat} {v v' : Value} {ps : List (Int × Fl)} {p : Int × Fl} {cs : List Value} {la ma : Option Addr} {lc mc : Nat} (o : W.ownsRow B 64 5 v ps.length cs)
    (h : ∀ (j : Nat) (p : Int × Fl), ps[j]? = some p → ∃ la lc ma mc, cs[j * 5]? = some (.int .i64 p.1) ∧ cs[j * 5 + 1]? = some (.int .i64 p.2.num) ∧ cs[j * 5 + 2]? = some (.int .i64 p.2.size) ∧ cs[j * 5 + 3]? = some (.slice la p.2.least.length lc) ∧ cs[j * 5 + 4]? = some (.slice ma p.2.most.length mc) ∧ W.ownsRow B 5 1 (.slice la p.2.least.length lc) p.2.least.length (bv p.2.least) ∧ W.ownsRow B 5 1 (.slice ma p.2.most.length mc) p.2.most.length (bv p.2.most))
    (ol : W.ownsRow B 5 1 (.slice la p.2.least.length lc) p.2.least.length (bv p.2.least)) (om : W.ownsRow B 5 1 (.slice ma p.2.most.length mc) p.2.most.length (bv p.2.most))
    (o' : W'.ownsRow B 64 5 v' (ps.length + 1) (cs ++ [.int .i64 p.1, .int .i64 p.2.num, .int .i64 p.2.size, .slice la p.2.least.length lc, .slice ma p.2.most.length mc])) (g : W.grownBy W' v.ownBlock) : AO W' B v' (ps ++ [p]) := by
  refine ⟨_, by rw [List.length_append]; exact o', fun j p' hj => ?_⟩
  have hcl := o.1
  rcases Nat.lt_or_ge j ps.length with hlt | hge
  · rw [List.getElem?_append_left hlt] at hj
    obtain ⟨a, b, c, d, c0, c1, c2, c3, c4, q0, q1⟩ := h j p' hj
    exact ⟨a, b, c, d, by rw [List.getElem?_append_left (by omega)]; exact c0, by rw [List.getElem?_append_left (by omega)]; exact c1, by rw [List.getElem?_append_left (by omega)]; exact c2, by rw [List.getElem?_append_left (by omega)]; exact c3, by rw [List.getElem?_append_left (by omega)]; exact c4, own_stays9 o g q0 (by decide), own_stays9 o g q1 (by decide)⟩
  · rw [List.getElem?_append_right hge] at hj
    have hjj : j = ps.length := by
      rcases Nat.lt_or_ge (j - ps.length) 1 with h1 | h1
      · omega
      · rw [List.getElem?_eq_none (by simpa using h1)] at hj; cases hj
    subst hjj
    simp at hj
    subst hj
    have e : ∀ i, ps.length * 5 + i - ps.length * 5 = i := fun i => by omega
    exact ⟨la, lc, ma, mc, by rw [List.getElem?_append_right (by omega), hcl, Nat.sub_self]; rfl, by rw [List.getElem?_append_right (by omega), hcl, e]; rfl, by rw [List.getElem?_append_right (by omega), hcl, e]; rfl, by rw [List.getElem?_append_right (by omega), hcl, e]; rfl, by rw [List.getElem?_append_right (by omega), hcl, e]; rfl, own_stays9 o g ol (by decide), own_stays9 o g om (by decide)⟩
theorem infoGone : (Tryz.prog.info? 45).map (fun i => (i.zero, i.size, i.bytes)) = some (some (.agg #[.int .i64 0, .int .i64 0]), 2, 16) := by kernel_rfl
theorem infoPlaced : (Tryz.prog.info? 64).map (fun i => (i.zero, i.size, i.bytes)) = some (some (.agg #[.int .i64 0, .int .i64 0, .int .i64 0, .slice none 0 0, .slice none 0 0]), 5, 72) := by kernel_rfl
theorem wpList_append_gone {w : World} {ops : Array Oper} {rest : List Oper} {o : Oper} {a : Act} {Q : Exit → Act → World → Prop} (hgd : o.guard = none) (s x : Operand)
    (ho : o.op = .call { callee := .builtin .append, args := #[s, x], argTypes := #[38, 38] }) (base : Nat) (hbase : base ≤ w.heap.size) (v : Value) (n : Nat) (xs : List Value) (hs : a.eval s = v) (hown : w.ownsRow base 45 2 v n xs) (G : Nat) (hx : a.eval x = .slice (some ⟨G, 0, none⟩) 1 1) {y z : Int} {T : TypeId} (hG : w.heap[G]? = some (.cells #[.int .i64 y, .int .i64 z] T (0, 0)))
    (hl : n ≤ 200000)
    (h : ∀ v' w', w'.ownsRow base 45 2 v' (n + 1) (xs ++ [.int .i64 y, .int .i64 z]) → w.grownBy w' v.ownBlock → wpList Tryz.prog ops Q rest (a.put o.dst v') w') :
    wpList Tryz.prog ops Q (o :: rest) a w := by
  obtain ⟨i0, hi, hz0, hz1, hz2⟩ := info_parts9 infoGone
  refine wpList_append_own_at w hgd s x 38 ho base 45 i0 _ 2 16 Tryz.underlying38 hi hz0 hz1 hz2 rfl (by decide) v n xs hs hown ⟨G, 0, none⟩ 1 1 [.int .i64 y, .int .i64 z] hx rfl ?_ ?_ (by unfold maxLen; omega) (by omega) hbase fun v' w' h1 h2 _ _ => h v' w' h1 h2
  · intro j u hj
    rw [Addr.add_lit, Nat.zero_add, blk_cell hG, ← Array.getElem?_toList]
    exact hj
  · intro u hu
    simp at hu
    rcases hu with rfl | rfl <;> rfl
theorem wpList_append_placed {w : World} {ops : Array Oper} {rest : List Oper} {o : Oper} {a : Act} {Q : Exit → Act → World → Prop} (hgd : o.guard = none) (s x : Operand)
    (ho : o.op = .call { callee := .builtin .append, args := #[s, x], argTypes := #[39, 39] }) (base : Nat) (hbase : base ≤ w.heap.size) (v : Value) (n : Nat) (xs : List Value) (hs : a.eval s = v) (hown : w.ownsRow base 64 5 v n xs) (G : Nat) (hx : a.eval x = .slice (some ⟨G, 0, none⟩) 1 1) {y z u : Int} {la ma : Option Addr} {ln lc mn mc : Nat} {T : TypeId} (hG : w.heap[G]? = some (.cells #[.int .i64 y, .int .i64 z, .int .i64 u, .slice la ln lc, .slice ma mn mc] T (0, 0)))
    (hl : n ≤ 200000)
    (h : ∀ v' w', w'.ownsRow base 64 5 v' (n + 1) (xs ++ [.int .i64 y, .int .i64 z, .int .i64 u, .slice la ln lc, .slice ma mn mc]) → w.grownBy w' v.ownBlock → wpList Tryz.prog ops Q rest (a.put o.dst v') w') :
    wpList Tryz.prog ops Q (o :: rest) a w := by
  obtain ⟨i0, hi, hz0, hz1, hz2⟩ := info_parts9 infoPlaced
  refine wpList_append_own_at w hgd s x 39 ho base 64 i0 _ 5 72 Tryz.underlying39 hi hz0 hz1 hz2 rfl (by decide) v n xs hs hown ⟨G, 0, none⟩ 1 1 [.int .i64 y, .int .i64 z, .int .i64 u, .slice la ln lc, .slice ma mn mc] hx rfl ?_ ?_ (by unfold maxLen; omega) (by omega) hbase fun v' w' h1 h2 _ _ => h v' w' h1 h2
  · intro j u' hj
    rw [Addr.add_lit, Nat.zero_add, blk_cell hG, ← Array.getElem?_toList]
    exact hj
  · intro u' hu
    simp at hu
    rcases hu with rfl | rfl | rfl | rfl | rfl <;> rfl
/-- What was taken ahead of what is still to be taken. -/
def ahS {α : Type} (xs : List α) (r : List α × Option (List Nat)) : List α × Option (List Nat) := (xs ++ r.1, r.2)
theorem ahS_step {α : Type} {f : Option (List Nat) → α × Option (List Nat)} {xs : List α} {n : Nat} {l : List Nat} : ahS xs (sevS f (n + 1) (some l)) = ahS (xs ++ [(f (some l)).1]) (sevS f n (f (some l)).2) := by
  unfold ahS; simp [sevS]
theorem ahS_none {α : Type} {f : Option (List Nat) → α × Option (List Nat)} {xs : List α} {n : Nat} : ahS xs (sevS f n none) = (xs, none) := by
  unfold ahS; cases n <;> simp [sevS]
theorem ahS_end {α : Type} {f : Option (List Nat) → α × Option (List Nat)} {xs : List α} {s : Option (List Nat)} : ahS xs (sevS f 0 s) = (xs, s) := by
  unfold ahS; simp [sevS]

set_option maxRecDepth 20000 in
set_option maxHeartbeats 3200000 in
theorem sevG_c {ws w : World} {t : Nat} {s : Option (List Nat)} (h : TkM ws w t s) (hl : ∀ l, s = some l → l.length ≤ 100000) :
    Calls Tryz.prog 27 #[.pointer (some ⟨t, 0, none⟩), .func (.func 28) #[.pointer (some ⟨t, 0, none⟩)] #[]] w fun r w' => (∃ v', r = .returned v' ∧ DO w' w.heap.size v' (sevS gnS (ctS s).1 (ctS s).2).1) ∧ TkM ws w' t (sevS gnS (ctS s).1 (ctS s).2).2 ∧ Fr [t] w w' := by
  have CC := hid (countM_c h)
  have hle := ctS_le (s := s)
  have hsm := (ctS_sh h.by).sm
  have HTL := hid h.lt
  have HWS : Hid (ws.heap.size ≤ w.heap.size) := hid (by have := h.2.2; have := h.lt; omega)
  have HTW := hid h.2.2
  obtain ⟨n, hn⟩ : ∃ n, n = (ctS s).1 := ⟨_, rfl⟩
  obtain ⟨s', hs'⟩ : ∃ s', s' = (ctS s).2 := ⟨_, rfl⟩
  rw [← hn, ← hs'] at CC hle
  rw [← hs'] at hsm
  rw [← hn, ← hs']
  have hnl : n ≤ 100000 := by
    rcases s' with _ | l
    · have := hle.2 rfl; omega
    · have h1 := hle.1 l rfl
      obtain ⟨m, e1, e2, _⟩ := hsm l rfl
      have := hl m e1
      omega
  obtain ⟨R, hR⟩ : ∃ R, R = sevS gnS n s' := ⟨_, rfl⟩
  rw [← hR]
  have HR := hid hR
  clear hn hs' hle hsm h hR hl
  go_enter Tryz.func27, Tryz.ntmps27
  go_wp2_with fail
  refine CC.out.mono ?_
  rintro r w1 ⟨rfl, t1, f1⟩
  have T1 := hid t1
  have F1 := hid f1
  clear t1 f1
  go_wp2_with fail
  go_loopw [5, 8] (fun v5 v8 wr => ∃ (i : Nat) (xs : List (Int × Int)) (s2 : Option (List Nat)), i ≤ n ∧ v8 = .int .i64 (i : Int) ∧ xs.length ≤ i ∧ DO wr w.heap.size v5 xs ∧ TkM ws wr t s2 ∧ R = ahS xs (sevS gnS (n - i) s2) ∧ Fr [t] w wr) (fun _ v8 _ => n - (intOf v8).toNat)
  case atStart => exact ⟨0, [], s', by omega, rfl, by simp, World.ownsRow_nil _ _ _ _, T1.out, by rw [HR.out, Nat.sub_zero]; unfold ahS; simp, F1.out⟩
  case round =>
    obtain ⟨i, xs, s2, hi, rfl, hxi, ho, ht, hr, hf⟩ := hrel
    have HO := hid ho
    have HT := hid ht
    have HRR := hid hr
    have HF := hid hf
    have oo : wr.ownsRow w.heap.size 45 2 _ xs.length (cellsD xs) := ho
    obtain ⟨lx, hlx⟩ : ∃ lx, lx = xs.length := ⟨_, rfl⟩
    have HLX := hid hlx
    rw [← hlx] at oo hxi
    obtain ⟨va, vc, rfl, _⟩ := ownsRow_slice oo
    have OO := hid oo
    clear ho ht hr hf oo hlx
    by_cases hin : i < n
    · have hin' : (i : Int) < (n : Int) := by omega
      rcases s2 with _ | l
      · obtain ⟨⟨e, a, he0, he1⟩, _, _⟩ := HT.out
        have c1 := blk_cell a 1
        simp at c1
        have hz : ((e : Int) == 0) = false := beq_eq_false_iff_ne.2 (by omega)
        have hRe : Hid (R = (xs, none)) := hid (by rw [HRR.out, ahS_none])
        clear a
        go_wp2
        go_ret
        rw [hRe.out]
        exact ⟨⟨_, rfl, HO.out⟩, HT.out, HF.out⟩
      · obtain ⟨⟨v0, a, _⟩, _, _⟩ := HT.out
        have c1 := blk_cell a 1
        simp at c1
        have GC := hid (goneM_c HT.out)
        obtain ⟨m, hm⟩ : ∃ m, n - i = m + 1 := ⟨n - i - 1, by omega⟩
        have hRs : Hid (R = ahS (xs ++ [(gnS (some l)).1]) (sevS gnS (n - (i + 1)) (gnS (some l)).2)) := hid (by rw [HRR.out, hm, ahS_step, show n - (i + 1) = m by omega])
        clear a hm
        obtain ⟨x, hx⟩ : ∃ x, x = (gnS (some l)).1 := ⟨_, rfl⟩
        obtain ⟨s3, hs3⟩ : ∃ s3, s3 = (gnS (some l)).2 := ⟨_, rfl⟩
        rw [← hx, ← hs3] at GC hRs
        clear hx hs3
        obtain ⟨x1, x2⟩ := x
        go_wp2_with fail
        refine GC.out.mono ?_
        rintro r w2 ⟨rfl, t2, f2⟩
        have T2 := hid t2
        have F2 := hid f2
        have hsz2 := f2.size
        have hszr := HF.out.size
        have O2 : Hid (w2.ownsRow w.heap.size 45 2 (.slice va lx vc) lx (cellsD xs)) := hid (ownsRow_of_block OO.out fun k hk => f2.block k (OO.out.lt k hk).2 (by have := (OO.out.lt k hk).1; have := HTL.out; simp; omega))
        have O3 := hid (ownsRow_fr O2.out ((Fr.refl [] w2).alloc (.cells #[.int .i64 x1, .int .i64 x2] 45)))
        have G3 := hid (blk_new w2 (.cells #[.int .i64 x1, .int .i64 x2] 45))
        have T3 := hid (T2.out.fr ((Fr.refl [] w2).alloc (.cells #[.int .i64 x1, .int .i64 x2] 45)))
        have F3 := hid ((HF.out.trans F2.out).alloc (.cells #[.int .i64 x1, .int .i64 x2] 45))
        clear t2 f2
        go_wp2_with (at_builtin; refine wpList_append_gone rfl _ _ rfl w.heap.size (by simp; omega) _ _ _ rfl O3.out w2.heap.size rfl G3.out (by omega) ?_; intro v4 w4 o4 g4; have O4 := hid o4; have G4 := hid g4; clear o4 g4)
        have hbk : Hid (∀ k, (Value.slice va lx vc).ownBlock = some k → w.heap.size ≤ k) := hid (fun k hk => (OO.out.lt k hk).1)
        have T4 : Hid (TkM ws w4 t s3) := hid (T3.out.keep (G4.out.block t T3.out.lt (fun e => by have := hbk.out t e.symm; have := HTL.out; omega)) (T3.out.2.1.grown G4.out (fun k hk => .inr (by have := hbk.out k hk; have := HWS.out; omega))))
        have F4 : Hid (Fr [t] w w4) := hid (F3.out.grown G4.out (fun k hk => .inr (hbk.out k hk)))
        have D4 : Hid (DO w4 w.heap.size v4 (xs ++ [(x1, x2)])) := hid (by
          unfold DO
          rw [List.length_append, cellsD_snoc, ← HLX.out]
          exact O4.out)
        have hlen : Hid ((xs ++ [(x1, x2)]).length ≤ i + 1) := hid (by rw [List.length_append, ← HLX.out]; simp; omega)
        go_roundw
        case rel => go_light; exact ⟨i + 1, xs ++ [(x1, x2)], s3, by omega, by go_num, hlen.out, D4.out, T4.out, hRs.out, F4.out⟩
        case measure => go_light; simp [intOf]; omega
    · have hin2 : i = n := by omega
      subst hin2
      have hin' : ¬ (i : Int) < (i : Int) := by omega
      have hRe : Hid (R = (xs, s2)) := hid (by rw [HRR.out, Nat.sub_self, ahS_end])
      go_wp2
      go_ret
      rw [hRe.out]
      exact ⟨⟨_, rfl, HO.out⟩, HT.out, HF.out⟩

set_option maxRecDepth 20000 in
set_option maxHeartbeats 3200000 in
theorem sevP_c {ws w : World} {t : Nat} {s : Option (List Nat)} (h : TkM ws w t s) (hl : ∀ l, s = some l → l.length ≤ 100000) :
    Calls Tryz.prog 29 #[.pointer (some ⟨t, 0, none⟩), .func (.func 30) #[.pointer (some ⟨t, 0, none⟩)] #[]] w fun r w' => (∃ v', r = .returned v' ∧ AO w' w.heap.size v' (sevS plS (ctS s).1 (ctS s).2).1) ∧ TkM ws w' t (sevS plS (ctS s).1 (ctS s).2).2 ∧ Fr [t] w w' := by
  have CC := hid (countM_c h)
  have hle := ctS_le (s := s)
  have hsm := (ctS_sh h.by).sm
  have HTL := hid h.lt
  have HWS : Hid (ws.heap.size ≤ w.heap.size) := hid (by have := h.2.2; have := h.lt; omega)
  have HTW := hid h.2.2
  obtain ⟨n, hn⟩ : ∃ n, n = (ctS s).1 := ⟨_, rfl⟩
  obtain ⟨s', hs'⟩ : ∃ s', s' = (ctS s).2 := ⟨_, rfl⟩
  rw [← hn, ← hs'] at CC hle
  rw [← hs'] at hsm
  rw [← hn, ← hs']
  have hnl : n ≤ 100000 := by
    rcases s' with _ | l
    · have := hle.2 rfl; omega
    · have h1 := hle.1 l rfl
      obtain ⟨m, e1, e2, _⟩ := hsm l rfl
      have := hl m e1
      omega
  obtain ⟨R, hR⟩ : ∃ R, R = sevS plS n s' := ⟨_, rfl⟩
  rw [← hR]
  have HR := hid hR
  clear hn hs' hle hsm h hR hl
  go_enter Tryz.func29, Tryz.ntmps29
  go_wp2_with fail
  refine CC.out.mono ?_
  rintro r w1 ⟨rfl, t1, f1⟩
  have T1 := hid t1
  have F1 := hid f1
  clear t1 f1
  go_wp2_with fail
  go_loopw [5, 8] (fun v5 v8 wr => ∃ (i : Nat) (xs : List (Int × Fl)) (s2 : Option (List Nat)), i ≤ n ∧ v8 = .int .i64 (i : Int) ∧ xs.length ≤ i ∧ AO wr w.heap.size v5 xs ∧ TkM ws wr t s2 ∧ R = ahS xs (sevS plS (n - i) s2) ∧ Fr [t] w wr) (fun _ v8 _ => n - (intOf v8).toNat)
  case atStart => exact ⟨0, [], s', by omega, rfl, by simp, AO.nil _ _, T1.out, by rw [HR.out, Nat.sub_zero]; unfold ahS; simp, F1.out⟩
  case round =>
    obtain ⟨i, xs, s2, hi, rfl, hxi, ho, ht, hr, hf⟩ := hrel
    have HO := hid ho
    have HT := hid ht
    have HRR := hid hr
    have HF := hid hf
    have ho2 := ho
    obtain ⟨cs, oo, hcs⟩ := ho2
    have HCS := hid hcs
    clear hcs
    obtain ⟨lx, hlx⟩ : ∃ lx, lx = xs.length := ⟨_, rfl⟩
    have HLX := hid hlx
    rw [← hlx] at oo hxi
    obtain ⟨va, vc, rfl, _⟩ := ownsRow_slice oo
    have OO := hid oo
    clear ho ht hr hf oo hlx
    by_cases hin : i < n
    · have hin' : (i : Int) < (n : Int) := by omega
      rcases s2 with _ | l
      · obtain ⟨⟨e, a, he0, he1⟩, _, _⟩ := HT.out
        have c1 := blk_cell a 1
        simp at c1
        have hz : ((e : Int) == 0) = false := beq_eq_false_iff_ne.2 (by omega)
        have hRe : Hid (R = (xs, none)) := hid (by rw [HRR.out, ahS_none])
        clear a
        go_wp2
        go_ret
        rw [hRe.out]
        exact ⟨⟨_, rfl, HO.out⟩, HT.out, HF.out⟩
      · obtain ⟨⟨v0, a, _⟩, _, _⟩ := HT.out
        have c1 := blk_cell a 1
        simp at c1
        have GC := hid (placedM_c HT.out)
        obtain ⟨m, hm⟩ : ∃ m, n - i = m + 1 := ⟨n - i - 1, by omega⟩
        have hRs : Hid (R = ahS (xs ++ [(plS (some l)).1]) (sevS plS (n - (i + 1)) (plS (some l)).2)) := hid (by rw [HRR.out, hm, ahS_step, show n - (i + 1) = m by omega])
        clear a hm
        obtain ⟨x, hx⟩ : ∃ x, x = (plS (some l)).1 := ⟨_, rfl⟩
        obtain ⟨s3, hs3⟩ : ∃ s3, s3 = (plS (some l)).2 := ⟨_, rfl⟩
        rw [← hx, ← hs3] at GC hRs
        clear hx hs3
        obtain ⟨x1, x2, x3, x4, x5⟩ := x
        dsimp only at GC
        obtain ⟨l4, hl4⟩ : ∃ l, l = x4.length := ⟨_, rfl⟩
        obtain ⟨l5, hl5⟩ : ∃ l, l = x5.length := ⟨_, rfl⟩
        simp only [← hl4, ← hl5] at GC
        have HL4 := hid hl4
        have HL5 := hid hl5
        clear hl4 hl5
        go_wp2_with fail
        refine GC.out.mono ?_
        rintro r w2 ⟨⟨la, lc, ma, mc, rfl, q0, q1⟩, t2, f2⟩
        have T2 := hid t2
        have F2 := hid f2
        have hsz2 := f2.size
        have hszr := HF.out.size
        have Q0 := hid q0
        have Q1 := hid q1
        have stay : ∀ {e : TypeId} {s n : Nat} {v : Value} {xs : List Value}, wr.ownsRow w.heap.size e s v n xs → w2.ownsRow w.heap.size e s v n xs := fun o => ownsRow_of_block o fun k hk => f2.block k (o.lt k hk).2 (by have := (o.lt k hk).1; have := HTL.out; simp; omega)
        have ST : Hid (∀ (j : Nat) (p : Int × Fl), xs[j]? = some p → ∃ la lc ma mc, cs[j * 5]? = some (.int .i64 p.1) ∧ cs[j * 5 + 1]? = some (.int .i64 p.2.num) ∧ cs[j * 5 + 2]? = some (.int .i64 p.2.size) ∧ cs[j * 5 + 3]? = some (.slice la p.2.least.length lc) ∧ cs[j * 5 + 4]? = some (.slice ma p.2.most.length mc) ∧ w2.ownsRow w.heap.size 5 1 (.slice la p.2.least.length lc) p.2.least.length (bv p.2.least) ∧ w2.ownsRow w.heap.size 5 1 (.slice ma p.2.most.length mc) p.2.most.length (bv p.2.most)) := hid (fun j p hj => by
          obtain ⟨a, b, c, d, c0, c1, c2, c3, c4, r0, r1⟩ := HCS.out j p hj
          exact ⟨a, b, c, d, c0, c1, c2, c3, c4, stay r0, stay r1⟩)
        have O2 : Hid (w2.ownsRow w.heap.size 64 5 (.slice va lx vc) lx cs) := hid (stay OO.out)
        have FA := hid ((Fr.refl [] w2).alloc (.cells #[.int .i64 x1, .int .i64 x2, .int .i64 x3, .slice la l4 lc, .slice ma l5 mc] 64))
        have O3 := hid (ownsRow_fr O2.out FA.out)
        have G3 := hid (blk_new w2 (.cells #[.int .i64 x1, .int .i64 x2, .int .i64 x3, .slice la l4 lc, .slice ma l5 mc] 64))
        have T3 := hid (T2.out.fr FA.out)
        have F3 := hid ((HF.out.trans F2.out).alloc (.cells #[.int .i64 x1, .int .i64 x2, .int .i64 x3, .slice la l4 lc, .slice ma l5 mc] 64))
        clear t2 f2 q0 q1 stay
        go_wp2_with (at_builtin; refine wpList_append_placed rfl _ _ rfl w.heap.size (by simp; omega) _ _ _ rfl O3.out w2.heap.size rfl G3.out (by omega) ?_; intro v4 w4 o4 g4; have O4 := hid o4; have G4 := hid g4; clear o4 g4)
        have hbk : Hid (∀ k, (Value.slice va lx vc).ownBlock = some k → w.heap.size ≤ k) := hid (fun k hk => (OO.out.lt k hk).1)
        have T4 : Hid (TkM ws w4 t s3) := hid (T3.out.keep (G4.out.block t T3.out.lt (fun e => by have := hbk.out t e.symm; have := HTL.out; omega)) (T3.out.2.1.grown G4.out (fun k hk => .inr (by have := hbk.out k hk; have := HWS.out; omega))))
        have F4 : Hid (Fr [t] w w4) := hid (F3.out.grown G4.out (fun k hk => .inr (hbk.out k hk)))
        have D4 : Hid (AO w4 w.heap.size v4 (xs ++ [(x1, ⟨x2, x3, x4, x5⟩)])) := hid (by
          refine AO.app (W := w2.alloc (.cells #[.int .i64 x1, .int .i64 x2, .int .i64 x3, .slice la l4 lc, .slice ma l5 mc] 64)) (v := .slice va lx vc) (cs := cs) (p := (x1, ⟨x2, x3, x4, x5⟩)) (la := la) (lc := lc) (ma := ma) (mc := mc) (by rw [← HLX.out]; exact O3.out) (fun j p hj => ?_) ?_ ?_ ?_ G4.out
          · obtain ⟨a, b, c, d, c0, c1, c2, c3, c4, r0, r1⟩ := ST.out j p hj
            exact ⟨a, b, c, d, c0, c1, c2, c3, c4, ownsRow_fr r0 FA.out, ownsRow_fr r1 FA.out⟩
          · have q := ownsRow_base Q0.out hszr
            rw [HL4.out] at q; exact ownsRow_fr q FA.out
          · have q := ownsRow_base Q1.out hszr
            rw [HL5.out] at q; exact ownsRow_fr q FA.out
          · have := O4.out
            rw [HLX.out, HL4.out, HL5.out] at this; exact this)
        have hlen : Hid ((xs ++ [((x1, ⟨x2, x3, x4, x5⟩) : Int × Fl)]).length ≤ i + 1) := hid (by rw [List.length_append, ← HLX.out]; simp; omega)
        go_roundw
        case rel => go_light; exact ⟨i + 1, _, s3, by omega, by go_num, hlen.out, D4.out, T4.out, hRs.out, F4.out⟩
        case measure => go_light; simp [intOf]; omega
    · have hin2 : i = n := by omega
      subst hin2
      have hin' : ¬ (i : Int) < (i : Int) := by omega
      have hRe : Hid (R = (xs, s2)) := hid (by rw [HRR.out, Nat.sub_self, ahS_end])
      go_wp2
      go_ret
      rw [hRe.out]
      exact ⟨⟨_, rfl, HO.out⟩, HT.out, HF.out⟩

end Go.Proofs.YtegbngbhmgbocaaGreatDoor
