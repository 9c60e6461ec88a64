/-
  Lists of the call's own that grow, copies of lists.
-/
import Derived.Test.YtplghoibadmdjaaDoorWm
namespace Go.Proofs.YtplghoibadmdjaaDoor
open Go.ChangeShapes Go.WideShapes Go.ChangeAt Go.RowKit

/-- A list of the call's own with one row more. -/
theorem OwnL.grow {w w5 : World} {B : Nat} {v v5 u : Value} {rs : List (List Nat)} {r : List Nat} {cs : List Value} (o : w.ownsRow B 22 1 v rs.length cs) (l : Lst w B [v.ownBlock] rs cs) (ou : w.ownsRow B 5 1 u r.length (bv r)) (hb : By r) (hl : r.length ≤ 140737488355328) {X : Obj}
    (o5 : w5.ownsRow B 22 1 v5 (rs.length + 1) (cs ++ [u])) (g5 : (w.alloc X).grownBy w5 v.ownBlock) (q5 : v5.ownBlock = v.ownBlock ∨ v5.ownBlock = some (w.alloc X).heap.size) : OwnL w5 B v5 (rs ++ [r]) := by
  have hsz : w.heap.size < (w.alloc X).heap.size := by simp
  have hs5 : w.heap.size ≤ w5.heap.size := Nat.le_trans (Nat.le_of_lt hsz) g5.size
  have keep : ∀ k, k < w.heap.size → v.ownBlock ≠ some k → w5.heap[k]? = w.heap[k]? := fun k hk hq => by
    rw [g5.block k (by omega) (fun e => hq e.symm), blk_old _ _ hk]
  have hav := own_types ou o (by decide)
  refine ⟨cs ++ [u], by rw [List.length_append]; exact o5, Lst.snoc (l.step hs5 (fun k _ b2 b3 => keep k b2 (b3 _ (by simp))) ?_) ((Rd.ownB ou).step fun k hk => keep k (ou.lt k hk).2 (hav k hk)) hb hl ?_⟩
  · intro q hq
    simp only [List.mem_cons, List.not_mem_nil, or_false] at hq
    subst hq
    rcases q5 with e | e
    · rw [e]; exact .inl (by simp)
    · exact .inr fun k hk => by rw [e] at hk; simp at hk; omega
  · intro k hk
    refine ⟨(ou.lt k hk).1, by have := (ou.lt k hk).2; omega, fun q hq e => ?_⟩
    simp only [List.mem_cons, List.not_mem_nil, or_false] at hq
    subst hq
    rcases q5 with e' | e'
    · exact hav k hk (by rw [← e']; exact e)
    · rw [e'] at e; simp at e; have := (ou.lt k hk).2; omega
theorem RdL.slice {w : World} {v : Value} {rs : List (List Nat)} (h : RdL w v rs) : ∃ a c, v = .slice a rs.length c := by
  obtain ⟨a, c, e, _⟩ := h
  exact ⟨a, c, e⟩

set_option maxRecDepth 20000 in
set_option maxHeartbeats 1600000 in
theorem copyLists_c {w : World} {v : Value} {rs : List (List Nat)} (h : RdL w v rs) (hl : rs.length ≤ 1000000) :
    Calls Tryd.prog 22 #[v] w fun e w' => ∃ v', e = .returned v' ∧ OwnL w' w.heap.size v' rs ∧ Fr [] w w' := by
  obtain ⟨a, c, rfl, k1⟩ := h
  have H1 := hid k1
  clear k1
  go_enter Tryd.func22, Tryd.ntmps22
  go_wp2_with fail
  go_loopw [3, 4] (fun v3 v4 wr => ∃ k : Nat, k ≤ rs.length ∧ v4 = .int .i64 (k : Int) ∧ OwnL wr w.heap.size v3 (rs.take k) ∧ Fr [] w wr) (fun _ v4 _ => rs.length - (intOf v4).toNat)
  case atStart => exact ⟨0, Nat.zero_le _, rfl, ⟨[], World.ownsRow_nil _ _ _ _, Lst.nil _ _ _⟩, Fr.refl _ _⟩
  case round =>
    obtain ⟨k, hk, rfl, ho, hf⟩ := hrel
    have RO := hid ho
    have RF := hid hf
    clear ho hf
    by_cases hlt : k < rs.length
    · obtain ⟨r, hr⟩ : ∃ r, rs[k]? = some r := ⟨_, List.getElem?_eq_getElem hlt⟩
      obtain ⟨b, off, rfl, m1⟩ := H1.out (by omega)
      obtain ⟨x1, y1, e1, e2, e3, e4⟩ := m1 k r hr
      have d1 := cell_fr e1 RF.out
      have D2 := hid (e2.fr RF.out)
      have B3 := hid e3
      have htk : rs.take (k + 1) = rs.take k ++ [r] := by rw [List.take_add_one, hr]; rfl
      have HTK := hid htk
      obtain ⟨rt, hrt⟩ : ∃ rt, rt = rs.take k := ⟨_, rfl⟩
      have hrtl : rt.length = k := by rw [hrt, List.length_take]; omega
      rw [← hrt] at RO HTK
      have HLK := hid hrtl
      clear e1 e2 e3 m1 hr htk hrt
      go_wp2_with (at_builtin; first
        | (refine wpList_append_nil rfl _ _ rfl rfl RF.out _ D2.out rfl e4 ?_
           intro v6 w6 o6 f6 f60
           obtain ⟨a6, c6, hv6, _⟩ := ownsRow_slice o6
           subst hv6
           have OL6 := hid (RO.out.fr f6)
           have O6 := hid (ownsRow_base o6 RF.out.size)
           have F6 := hid f60
           have G6 := hid (blk_new w6 (.cells #[.slice a6 r.length c6] 22))
           have HB6 : Hid (w.heap.size ≤ (w6.alloc (.cells #[.slice a6 r.length c6] 22)).heap.size) := by unfold Hid; have := f60.size; simp; omega
           obtain ⟨cs, oc, lc⟩ := OL6.out
           have OC := hid oc
           have LC := hid lc
           have OC' := hid (ownsRow_fr oc ((Fr.refl [] w6).alloc (.cells #[.slice a6 r.length c6] 22)))
           clear o6 f6 f60 oc lc)
        | (refine wpList_append_row rfl _ _ rfl _ HB6.out _ _ _ rfl OC'.out _ rfl G6.out rfl (by rw [HLK.out]; omega) ?_
           intro v7 w7 o7 g7 q7
           have L7 := hid (OwnL.grow OC.out LC.out O6.out B3.out e4 o7 g7 q7)
           have F7 : Hid (Fr [] w w7) := (F6.out.alloc (.cells #[.slice a6 r.length c6] 22)).grown g7 fun q hq => .inr (OC.out.lt q hq).1
           clear o7 g7 q7))
      exact ⟨⟨k + 1, by omega, by go_num, by rw [HTK.out]; exact L7.out, F7.out⟩, by simp [intOf]; omega⟩
    · have : k = rs.length := by omega
      subst this
      rw [List.take_length] at RO
      go_wp2
      go_ret
      exact ⟨_, rfl, RO.out, RF.out⟩

/-- append(own, x...) for lists of bytes: what comes out can be read. -/
theorem wpList_append_lists {w : World} {ops : Array Oper} {rest : List Oper} {o : Oper} {a : Act} {Q : Exit → Act → World → Prop} (hgd : o.guard = none) (s x : Operand)
    (ho : o.op = .call { callee := .builtin .append, args := #[s, x], argTypes := #[32, 32] }) {w0 : World} {base : Nat} (hb0 : w0.heap.size ≤ base) (hbase : base ≤ w.heap.size) (hf : Fr [] w0 w) {v : Value} {rs qs : List (List Nat)} (hown : OwnL w base v rs) (hs : a.eval s = v) {ax : Option Addr} {cx : Nat} (hx : a.eval x = .slice ax qs.length cx) (hr : RdL w0 (.slice ax qs.length cx) qs) (hn : ax = none → cx = 0 ∧ qs.length = 0)
    (hl1 : rs.length ≤ 1000000) (hl2 : qs.length ≤ 1000000)
    (h : ∀ v' w', RdL w' v' (rs ++ qs) → Fr [] w0 w' → wpList Tryd.prog ops Q rest (a.put o.dst v') w') :
    wpList Tryd.prog ops Q (o :: rest) a w := by
  obtain ⟨i0, hi, hz0, hz1, hz2⟩ := info_parts infoR
  obtain ⟨cs, oc, lc⟩ := hown
  cases ax with
  | none =>
    obtain ⟨rfl, h0⟩ := hn rfl
    have : qs = [] := List.eq_nil_of_length_eq_zero h0
    subst this
    exact wpList_append_own_none hgd s x 32 ho base 22 i0 1 Tryd.underlying32 hi v rs.length cs hs oc hx (h v w (by rw [List.append_nil]; exact OwnL.rd ⟨cs, oc, lc⟩) hf)
  | some ad =>
    obtain ⟨_, _, e, hq⟩ := hr
    simp only [Value.slice.injEq, true_and] at e
    obtain ⟨rfl, rfl⟩ := e
    obtain ⟨news, hnl, hnc, hn1, hne⟩ : ∃ news : List Value, news.length = qs.length ∧ (∀ j u, news[j]? = some u → w.cell? (ad.add j) = some u) ∧ (∀ u ∈ news, u.oneCell' = true) ∧ ∀ (j : Nat) (r : List Nat), qs[j]? = some r → ∃ a' c', news[j]? = some (.slice a' r.length c') ∧ Rd w0 (.slice a' r.length c') (bv r) ∧ By r ∧ r.length ≤ 140737488355328 := by
      by_cases h0 : 0 < qs.length
      · obtain ⟨b, off, e, h4⟩ := hq h0
        simp only [Option.some.injEq] at e
        subst e
        have hh : ∀ j, j < qs.length → ∃ u, w0.cell? ⟨b, off + j, none⟩ = some u ∧ u.oneCell' = true := fun j hj => by
          obtain ⟨a', c', k1, _⟩ := h4 j _ (List.getElem?_eq_getElem hj)
          exact ⟨_, k1, rfl⟩
        refine ⟨(List.range qs.length).map fun j => (w0.cell? ⟨b, off + j, none⟩).getD default, by simp, fun j u hj => ?_, fun u hu => ?_, fun j r hj => ?_⟩
        · rw [List.getElem?_map] at hj
          have hjl : j < qs.length := by
            rcases Nat.lt_or_ge j qs.length with h | h
            · exact h
            · rw [List.getElem?_eq_none (by simpa using h)] at hj; cases hj
          rw [List.getElem?_range hjl] at hj
          obtain ⟨u', k1, _⟩ := hh j hjl
          simp [k1] at hj
          subst hj
          rw [Addr.add_lit]
          exact cell_fr k1 hf
        · obtain ⟨j, hj, rfl⟩ := List.mem_map.1 hu
          obtain ⟨u', k1, k2⟩ := hh j (List.mem_range.1 hj)
          simp only [k1, Option.getD_some]; exact k2
        · obtain ⟨a', c', k1, k2, k3, k4⟩ := h4 j r hj
          have hjl := (List.getElem?_eq_some_iff.1 hj).1
          exact ⟨a', c', by rw [List.getElem?_map, List.getElem?_range hjl]; simp [k1], k2, k3, k4⟩
      · have : qs = [] := List.eq_nil_of_length_eq_zero (by omega)
        subst this
        exact ⟨[], rfl, fun j u hj => by simp at hj, fun u hu => by simp at hu, fun j r hj => by simp at hj⟩
    refine wpList_append_own_at w hgd s x 32 ho base 22 i0 _ 1 24 Tryd.underlying32 hi hz0 hz1 hz2 rfl (by decide) v rs.length cs hs oc ad qs.length cx news hx (by rw [Nat.mul_one]; exact hnl) hnc hn1 (by unfold maxLen; omega) (by omega) hbase fun v' w' h1 h2 _ h3 => h v' w' ?_ (hf.grown h2 fun q hq => .inr (Nat.le_trans hb0 (oc.lt q hq).1))
    have hsz := h2.size
    have keep : ∀ k, k < w.heap.size → v.ownBlock ≠ some k → w'.heap[k]? = w.heap[k]? := fun k hk hq => h2.block k hk (fun e => hq e.symm)
    have hf' : Fr [] w0 w' := hf.grown h2 fun q hq => .inr (Nat.le_trans hb0 (oc.lt q hq).1)
    obtain ⟨a', c', rfl, _⟩ := ownsRow_slice h1
    refine ⟨a', c', by rw [List.length_append], fun hpos => ?_⟩
    rw [List.length_append] at hpos
    rcases h1.2 with ⟨_, h0⟩ | ⟨g, cap, cur, e1, _, _, _⟩
    · omega
    simp only [Value.slice.injEq, true_and] at e1
    obtain ⟨rfl, rfl⟩ := e1
    refine ⟨g, 0, rfl, fun j r hj => ?_⟩
    have hcl := lc.1
    by_cases hjl : j < rs.length
    · rw [List.getElem?_append_left hjl] at hj
      obtain ⟨u, k1, k2, k3, k4, k5⟩ := lc.2 j r hj
      obtain ⟨a2, c2, e⟩ := k2.form
      rw [bv_len] at e
      subst e
      have hc := h1.cells rfl j _ (by rw [List.getElem?_append_left (by omega)]; exact k1)
      rw [Addr.add_lit] at hc
      exact ⟨a2, c2, hc, k2.step fun k hk => keep k (k5 k hk).2.1 ((k5 k hk).2.2 _ (by simp)), k3, k4⟩
    · rw [List.getElem?_append_right (by omega)] at hj
      obtain ⟨a2, c2, k1, k2, k3, k4⟩ := hne _ r hj
      have hc := h1.cells rfl j _ (by rw [List.getElem?_append_right (by omega), hcl]; exact k1)
      rw [Addr.add_lit] at hc
      exact ⟨a2, c2, hc, k2.fr hf', k3, k4⟩
end Go.Proofs.YtplghoibadmdjaaDoor
