/-
  What the statements' few and log answer.
-/
import Derived.Test.YtplghoibadmdjaaDoorWi
namespace Go.Proofs.YtplghoibadmdjaaDoor
open Go.ChangeShapes Go.WideShapes Go.ChangeAt Go.RowKit

/-- The bytes of records together. -/
def sz (rs : List (List Nat)) : Nat := (rs.map List.length).sum
theorem sz_snoc {rs : List (List Nat)} {k : Nat} {r : List Nat} (h : rs[k]? = some r) : sz (rs.take (k + 1)) = sz (rs.take k) + r.length := by
  unfold sz; rw [List.take_add_one, h]; simp
theorem sz_take_le (rs : List (List Nat)) (k : Nat) : sz (rs.take k) ≤ sz rs := by
  have h : sz rs = sz (rs.take k) + sz (rs.drop k) := by
    unfold sz
    rw [← List.sum_append, ← List.map_append, List.take_append_drop]
  omega
theorem sz_mem {rs : List (List Nat)} {r : List Nat} (h : r ∈ rs) : r.length ≤ sz rs := by
  obtain ⟨k, hk⟩ := List.getElem?_of_mem h
  have := sz_snoc hk
  have := sz_take_le rs (k + 1)
  omega

/-- What few tells. -/
def FewT (rs : List (List Nat)) (e : Ending) : Prop := ∃ fb, e = .returned (.bool fb) ∧ (fb = true → rs.length ≤ 30 ∧ sz rs ≤ 3000)
set_option maxRecDepth 20000 in
set_option maxHeartbeats 800000 in
theorem few_c {w : World} {v : Value} {rs : List (List Nat)} (h : RdL w v rs) (hl : rs.length ≤ 9223372036854775807) :
    Calls Tryd.prog 19 #[v] w fun e w' => FewT rs e ∧ w' = w := by
  obtain ⟨a, c, rfl, k1⟩ := h
  have H1 := hid k1
  clear k1
  go_enter Tryd.func19, Tryd.ntmps19
  go_wp2
  go_loop [3, 4] (fun v3 v4 => ∃ (k n : Nat), k ≤ rs.length ∧ v4 = .int .i64 (k : Int) ∧ v3 = .int .i64 (n : Int) ∧ n = sz (rs.take k) ∧ n ≤ 140737488355328 + 3000) (fun _ v4 => rs.length - (intOf v4).toNat)
  case atStart => exact ⟨0, 0, Nat.zero_le _, rfl, rfl, by simp [sz], by omega⟩
  case round =>
    obtain ⟨k, n, hk, rfl, rfl, hn, hn2⟩ := hrel
    have HN := hid hn
    clear hn
    by_cases hlt : k < rs.length ∧ n ≤ 3000
    · obtain ⟨hlt, hn3⟩ := hlt
      obtain ⟨r, hr⟩ : ∃ r, rs[k]? = some r := ⟨_, List.getElem?_eq_getElem hlt⟩
      obtain ⟨b, off, rfl, m1⟩ := H1.out (by omega)
      obtain ⟨x1, y1, e1, _, _, e4⟩ := m1 k r hr
      have HS := hid (sz_snoc hr)
      clear m1 hr
      go_wp2
      go_round
      case rel => exact ⟨k + 1, n + r.length, by omega, by go_num, by go_num, by rw [HS.out, HN.out], by omega⟩
      case measure => simp [intOf]; omega
    · have hcase : k = rs.length ∨ (k < rs.length ∧ 3000 < n) := by omega
      rcases hcase with rfl | ⟨q1, q2⟩
      · have HN' : Hid (n = sz rs) := by have := HN.out; rw [List.take_length] at this; exact this
        go_wp2
        all_goals go_ret
        all_goals refine ⟨⟨_, rfl, fun hb => ?_⟩, rfl⟩
        all_goals have := HN'.out
        all_goals first | (simp at hb; done) | (simp at hb; omega)
      · go_wp2
        all_goals go_ret
        all_goals refine ⟨⟨_, rfl, fun hb => ?_⟩, rfl⟩
        all_goals first | (simp at hb; done) | (simp at hb; omega)

theorem infoN : (Tryd.prog.info? 3).map (fun i => (i.zero, i.size, i.bytes)) = some (some (.int .i64 0), 1, 8) := by kernel_rfl
/-- Numbers as the program's values. -/
def iv (ns : List Nat) : List Value := ns.map fun n : Nat => Value.int .i64 (n : Int)
/-- append(own, n) for a number. -/
theorem wpList_append_int {w : World} {ops : Array Oper} {rest : List Oper} {o : Oper} {a : Act} {Q : Exit → Act → World → Prop} (hgd : o.guard = none) (s x : Operand)
    (ho : o.op = .call { callee := .builtin .append, args := #[s, x], argTypes := #[39, 39] }) (base : Nat) (hbase : base ≤ w.heap.size) (v : Value) (n : Nat) (xs : List Value) (hs : a.eval s = v) (hown : w.ownsRow base 3 1 v n xs) (G : Nat) (hx : a.eval x = .slice (some ⟨G, 0, none⟩) 1 1) {z : Int} {T : TypeId} (hG : w.heap[G]? = some (.cells #[.int .i64 z] T (0, 0)))
    (hl : n ≤ 100000000000)
    (h : ∀ v' w', w'.ownsRow base 3 1 v' (n + 1) (xs ++ [.int .i64 z]) → w.grownBy w' v.ownBlock → (v'.ownBlock = v.ownBlock ∨ v'.ownBlock = some w.heap.size) → wpList Tryd.prog ops Q rest (a.put o.dst v') w') :
    wpList Tryd.prog ops Q (o :: rest) a w := by
  obtain ⟨i0, hi, hz0, hz1, hz2⟩ := info_parts infoN
  refine wpList_append_own_at w hgd s x 39 ho base 3 i0 _ 1 8 Tryd.underlying39 hi hz0 hz1 hz2 rfl (by decide) v n xs hs hown ⟨G, 0, none⟩ 1 1 [.int .i64 z] hx rfl ?_ ?_ (by unfold maxLen; omega) (by omega) hbase fun v' w' h1 h2 _ h3 => h v' w' h1 h2 h3
  · intro j u' hj
    rw [Addr.add_lit, Nat.zero_add, blk_cell hG, ← Array.getElem?_toList]
    exact hj
  · intro u' hu'
    simp at hu'
    subst hu'; rfl

theorem logL_take {rs : List (List Nat)} {k : Nat} {r : List Nat} (h : rs[k]? = some r) : logL 0 (rs.take (k + 1)) = logL 0 (rs.take k) ++ appL (logL 0 (rs.take k)).length r := by
  rw [List.take_add_one, h]
  show logL 0 (rs.take k ++ [r]) = _
  rw [logL_snoc, Nat.zero_add]
theorem endsL_take {rs : List (List Nat)} {k : Nat} {r : List Nat} (h : rs[k]? = some r) : endsL 0 (rs.take (k + 1)) = endsL 0 (rs.take k) ++ [(logL 0 (rs.take (k + 1))).length] := by
  rw [List.take_add_one, h]
  show endsL 0 (rs.take k ++ [r]) = _
  rw [endsL_snoc, Nat.zero_add]; rfl

set_option maxRecDepth 20000 in
set_option maxHeartbeats 1600000 in
theorem log_c {w : World} {v : Value} {rs : List (List Nat)} (h : RdL w v rs) (h30 : rs.length ≤ 100) (h3 : sz rs ≤ 100000) :
    Calls Tryd.prog 20 #[v] w fun e w' => ∃ v1 v2, e = .returned (.tuple #[v1, v2, .bool true]) ∧ w'.ownsRow w.heap.size 5 1 v1 (logL 0 rs).length (bv (logL 0 rs)) ∧ w'.ownsRow w.heap.size 3 1 v2 rs.length (iv (endsL 0 rs)) ∧ Fr [] w w' := by
  have HB := hid h.by
  obtain ⟨a, c, rfl, k1⟩ := h
  have H1 := hid k1
  clear k1
  go_enter Tryd.func20, Tryd.ntmps20
  go_wp2_with fail
  go_loopw [5, 6, 7] (fun v5 v6 v7 wr => ∃ k : Nat, k ≤ rs.length ∧ v7 = .int .i64 (k : Int) ∧ wr.ownsRow w.heap.size 5 1 v5 (logL 0 (rs.take k)).length (bv (logL 0 (rs.take k))) ∧ wr.ownsRow w.heap.size 3 1 v6 k (iv (endsL 0 (rs.take k))) ∧ Fr [] w wr) (fun _ _ v7 _ => rs.length - (intOf v7).toNat)
  case atStart => exact ⟨0, Nat.zero_le _, rfl, World.ownsRow_nil _ _ _ _, World.ownsRow_nil _ _ _ _, Fr.refl _ _⟩
  case round =>
    obtain ⟨k, hk, rfl, ho, he, hf⟩ := hrel
    have RO := hid ho
    have RE := hid he
    have RF := hid hf
    clear ho he hf
    by_cases hlt : k < rs.length
    · obtain ⟨r, hr⟩ : ∃ r, rs[k]? = some r := ⟨_, List.getElem?_eq_getElem hlt⟩
      obtain ⟨b, off, rfl, m1⟩ := H1.out (by omega)
      obtain ⟨x1, y1, e1, e2, e3, e4⟩ := m1 k r hr
      have d1 := cell_fr e1 RF.out
      have D2 := hid (e2.fr RF.out)
      have hrl := sz_mem (List.mem_of_getElem? hr)
      have hll := logL_len_le (rs.take k) 0
      have hsz := sz_take_le rs k
      have hll' : (logL 0 (rs.take k)).length ≤ 10000000 := by unfold sz at hsz h3; rw [List.length_take] at hll; omega
      have HLT := hid (logL_take hr)
      have HET := hid (endsL_take hr)
      have B3 := hid e3
      have hal := appL_len (logL 0 (rs.take k)).length r
      have hal' : (appL (logL 0 (rs.take k)).length r).length ≤ 10000000 := by
        have := zr_le (logL 0 (rs.take k)).length
        have := lf_ge (logL 0 (rs.take k)).length
        rw [hal]; unfold nfr; omega
      obtain ⟨a5, c5, hv5, _⟩ := ownsRow_slice RO.out
      subst hv5
      generalize logL 0 (rs.take k) = X at *
      clear e1 e2 e3 m1 hr hal hll
      go_wp2_with fail
      refine (append_c wr (X.length : Int) (by omega) D2.out B3.out (by omega)).mono ?_
      rintro e w1 ⟨v1, rfl, o1, f1⟩
      rw [Int.toNat_natCast] at o1
      obtain ⟨a1, c1, hv1, _⟩ := ownsRow_slice o1
      subst hv1
      have P1 := hid (Rd.ownB o1)
      have O1 := hid (ownsRow_fr RO.out f1)
      have E1 := hid (ownsRow_fr RE.out f1)
      have F1 := hid (RF.out.trans f1)
      have HLA : Hid ((bv (appL X.length r)).length = (appL X.length r).length) := bv_len _
      clear o1 f1
      go_wp2_with (at_builtin; first
        | (refine wpList_append_rd rfl _ _ rfl w.heap.size F1.out.size _ _ _ rfl O1.out _ _ rfl P1.out bv_one (by rw [HLA.out]; omega) ?_
           intro v2 w2 o2 g2 q2
           rw [HLA.out, ← List.length_append, ← bv_append, ← HLT.out] at o2
           have hE : w2.ownsRow w.heap.size 3 1 u6 k (iv (endsL 0 (rs.take k))) := ownsRow_of_block E1.out fun q hq => g2.block q (E1.out.lt q hq).2 (fun e => own_types E1.out O1.out (by decide) q hq e.symm)
           have F2 := hid (F1.out.grew O1.out (Nat.le_refl _) g2)
           obtain ⟨a2, c2, hv2, _⟩ := ownsRow_slice o2
           subst hv2
           have O2 := hid (ownsRow_fr o2 ((Fr.refl [] w2).alloc (.cells #[.int .i64 ((logL 0 (rs.take (k + 1))).length : Int)] 3)))
           have E2 := hid (ownsRow_fr hE ((Fr.refl [] w2).alloc (.cells #[.int .i64 ((logL 0 (rs.take (k + 1))).length : Int)] 3)))
           have G2 := hid (blk_new w2 (.cells #[.int .i64 ((logL 0 (rs.take (k + 1))).length : Int)] 3))
           have F2' := hid (F2.out.alloc (.cells #[.int .i64 ((logL 0 (rs.take (k + 1))).length : Int)] 3))
           have HB2 : Hid (w.heap.size ≤ (w2.alloc (.cells #[.int .i64 ((logL 0 (rs.take (k + 1))).length : Int)] 3)).heap.size) := F2'.out.size
           clear o2 g2 q2 hE)
        | (refine wpList_append_int rfl _ _ rfl w.heap.size HB2.out _ _ _ rfl E2.out _ rfl G2.out (by omega) ?_
           intro v3 w3 o3 g3 q3
           have hO : w3.ownsRow w.heap.size 5 1 (.slice a2 (logL 0 (rs.take (k + 1))).length c2) (logL 0 (rs.take (k + 1))).length (bv (logL 0 (rs.take (k + 1)))) := ownsRow_of_block O2.out fun q hq => g3.block q (O2.out.lt q hq).2 (fun e => own_types O2.out E2.out (by decide) q hq e.symm)
           have O3 := hid hO
           have E3 := hid o3
           have F3 : Hid (Fr [] w w3) := F2'.out.grown g3 fun q hq => .inr (E2.out.lt q hq).1
           clear o3 g3 q3 hO))
      exact ⟨⟨k + 1, by omega, by go_num, O3.out, by rw [HET.out]; unfold iv; rw [List.map_append]; exact E3.out, F3.out⟩, by simp [intOf]; omega⟩
    · have : k = rs.length := by omega
      subst this
      rw [List.take_length] at RO RE
      go_wp2
      go_ret3
      exact ⟨_, _, rfl, RO.out, RE.out, RF.out⟩
end Go.Proofs.YtplghoibadmdjaaDoor
