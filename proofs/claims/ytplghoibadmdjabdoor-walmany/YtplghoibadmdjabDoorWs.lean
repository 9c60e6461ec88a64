/-
  The walk of WalMany.
-/
import Derived.Test.YtplghoibadmdjabDoorWl
namespace Go.Proofs.YtplghoibadmdjabDoor
open Go.ChangeShapes Go.WideShapes Go.ChangeAt Go.RowKit

/-- A list of the call's own with one row more, beside another row. -/
theorem Lst.grow2 {w w5 : World} {B : Nat} {v v5 u : Value} {q : Option Nat} {rs : List (List Nat)} {r : List Nat} {cs : List Value} (o : w.ownsRow B 23 1 v rs.length cs) (l : Lst w B [v.ownBlock, q] rs cs) (ou : w.ownsRow B 5 1 u r.length (bv r)) (hu : ∀ k, u.ownBlock = some k → q ≠ some k) (hb : By r) (hl : r.length ≤ 140737488355328) {X : Obj}
    (g5 : (w.alloc X).grownBy w5 v.ownBlock) (q5 : v5.ownBlock = v.ownBlock ∨ v5.ownBlock = some (w.alloc X).heap.size) : Lst w5 B [v5.ownBlock, q] (rs ++ [r]) (cs ++ [u]) := by
  have hsz : w.heap.size < (w.alloc X).heap.size := by simp
  have hs5 : w.heap.size ≤ w5.heap.size := Nat.le_trans (Nat.le_of_lt hsz) g5.size
  have keep : ∀ k, k < w.heap.size → v.ownBlock ≠ some k → w5.heap[k]? = w.heap[k]? := fun k hk hq => by
    rw [g5.block k (by omega) (fun e => hq e.symm), blk_old _ _ hk]
  have hav := own_types ou o (by decide)
  refine Lst.snoc (l.step hs5 (fun k _ b2 b3 => keep k b2 (b3 _ (by simp))) ?_) ((Rd.ownB ou).step fun k hk => keep k (ou.lt k hk).2 (hav k hk)) hb hl ?_
  · intro x hx
    simp only [List.mem_cons, List.not_mem_nil, or_false] at hx
    rcases hx with rfl | rfl
    · rcases q5 with e | e
      · rw [e]; exact .inl (by simp)
      · exact .inr fun k hk => by rw [e] at hk; simp at hk; omega
    · exact .inl (by simp)
  · intro k hk
    refine ⟨(ou.lt k hk).1, by have := (ou.lt k hk).2; omega, fun x hx e => ?_⟩
    simp only [List.mem_cons, List.not_mem_nil, or_false] at hx
    rcases hx with rfl | rfl
    · rcases q5 with e' | e'
      · exact hav k hk (by rw [← e']; exact e)
      · rw [e'] at e; simp at e; have := (ou.lt k hk).2; omega
    · exact hu k hk e

/-- The statement's own records. -/
def recM (s i : Nat) : List Nat := (List.range s).map fun k => (i + k) % 256
def recsM (s n : Nat) : List (List Nat) := (List.range n).map (recM s)
def partM (s i k : Nat) : List Nat := (recM s i).take k ++ List.replicate (s - k) 0
theorem recM_len (s i : Nat) : (recM s i).length = s := by simp [recM]
theorem recM_by (s i : Nat) : By (recM s i) := fun x hx => by
  obtain ⟨k, _, rfl⟩ := List.mem_map.1 hx
  omega
theorem partM_len {s k : Nat} (i : Nat) (h : k ≤ s) : (partM s i k).length = s := by
  unfold partM; rw [List.length_append, List.length_take, recM_len, List.length_replicate]; omega
theorem partM_zero (s i : Nat) : partM s i 0 = List.replicate s 0 := by simp [partM]
theorem partM_full (s i : Nat) : partM s i s = recM s i := by
  unfold partM
  rw [Nat.sub_self, List.replicate_zero, List.append_nil, List.take_of_length_le (by rw [recM_len]; omega)]
theorem partM_set {s k : Nat} (i : Nat) (h : k < s) : (bv (partM s i k)).set k (.int .u8 (((i + k) % 256 : Nat) : Int)) = bv (partM s i (k + 1)) := by
  have hl : ((recM s i).take k).length = k := by rw [List.length_take, recM_len]; omega
  have hk : (recM s i)[k]? = some ((i + k) % 256) := by unfold recM; rw [List.getElem?_map, List.getElem?_range h]; rfl
  have e1 : (partM s i k).set k ((i + k) % 256) = partM s i (k + 1) := by
    unfold partM
    rw [List.set_append, if_neg (by omega), hl, Nat.sub_self, show s - k = (s - (k + 1)) + 1 from by omega, List.replicate_succ, List.set_cons_zero, List.take_add_one, hk, List.append_assoc]
    rfl
  rw [← e1]
  unfold bv
  rw [List.map_set]
theorem recsM_succ (s n : Nat) : recsM s (n + 1) = recsM s n ++ [recM s n] := by unfold recsM; rw [List.range_succ, List.map_append]; rfl
theorem recsM_len (s n : Nat) : (recsM s n).length = n := by simp [recsM]
theorem recsM_by (s n : Nat) : ∀ r ∈ recsM s n, By r := fun r hr => by
  obtain ⟨k, _, rfl⟩ := List.mem_map.1 hr
  exact recM_by s k
theorem recsM_sz (s : Nat) : ∀ n, sz (recsM s n) = n * s
  | 0 => by simp [recsM, sz]
  | n + 1 => by
    rw [recsM_succ]
    have h : sz (recsM s n ++ [recM s n]) = sz (recsM s n) + s := by simp [sz, recM_len]
    rw [h, recsM_sz s n, Nat.succ_mul]
theorem logL_recs (s n : Nat) : logL 0 (recsM s (n + 1)) = logL 0 (recsM s n) ++ appL (logL 0 (recsM s n)).length (recM s n) := by
  rw [recsM_succ, logL_snoc, Nat.zero_add]
theorem logL_recs_le {s n : Nat} (hs : s ≤ 300) (hn : n ≤ 60) : (logL 0 (recsM s n)).length ≤ 200000 := by
  have h1 := logL_len_le (recsM s n) 0
  have h2 := recsM_sz s n
  unfold sz at h2
  rw [recsM_len] at h1
  have : n * s ≤ 60 * 300 := Nat.mul_le_mul hn hs
  omega

/-- What holds at a round's beginning. -/
structure MnSt (w wr : World) (s i : Nat) (v5 v6 : Value) : Prop where
  b : wr.ownsRow w.heap.size 5 1 v5 (logL 0 (recsM s i)).length (bv (logL 0 (recsM s i)))
  l : ∃ cs, wr.ownsRow w.heap.size 23 1 v6 (recsM s i).length cs ∧ Lst wr w.heap.size [v6.ownBlock, v5.ownBlock] (recsM s i) cs
  fr : Fr [] w wr

set_option maxRecDepth 20000 in
set_option maxHeartbeats 3200000 in
theorem many_small (w : World) (n s : Nat) (hn : n ≤ 60) (hs : s ≤ 300) :
    Calls Tryd.prog 3 #[.int .i64 (n : Int), .int .i64 (s : Int)] w fun e w' => e = .returned (.bool true) ∧ Fr [] w w' := by
  have q1 : ¬ (n : Int) < 0 := by omega
  have q2 : ¬ (60 : Int) < (n : Int) := by omega
  have q3 : ¬ (s : Int) < 0 := by omega
  have q4 : ¬ (300 : Int) < (s : Int) := by omega
  go_enter Tryd.func3, Tryd.ntmps3
  go_wp2_with fail
  refine (known_c w).mono ?_
  rintro e w1 ⟨rfl, f1⟩
  have F1 := hid f1
  clear f1
  go_wp2_with fail
  go_loopw [5, 6, 7, 8] (fun v5 v6 v7 v8 wr => ∃ i : Nat, i ≤ n ∧ v8 = .int .i64 (i : Int) ∧ v7 = .int .i64 ((logL 0 (recsM s i)).length : Int) ∧ MnSt w wr s i v5 v6) (fun _ _ _ v8 _ => n - (intOf v8).toNat)
  case atStart => exact ⟨0, Nat.zero_le _, rfl, rfl, ⟨World.ownsRow_nil _ _ _ _, ⟨[], World.ownsRow_nil _ _ _ _, Lst.nil _ _ _⟩, F1.out⟩⟩
  case round =>
    obtain ⟨W0, hW0⟩ : ∃ W0, W0 = wr := ⟨_, rfl⟩
    subst hW0
    obtain ⟨i, hi, rfl, rfl, S⟩ := hrel
    have HS := hid S
    clear S
    by_cases hlt : i < n
    · have MR := make_run W0 (n := s) (c := s) (Nat.le_refl _) (by omega)
      have MO := hid (make_own W0 (n := s) (c := s) (Nat.le_refl _) (by omega))
      have MF := hid ((Fr.refl [] W0).alloc (.cells (madeCells #[.int .u8 0] s) 5))
      have hll := logL_recs_le (n := i) hs (by omega)
      have HLT := hid (logL_recs s i)
      have hal := appL_len (logL 0 (recsM s i)).length (recM s i)
      rw [recM_len] at hal
      have hal' : (appL (logL 0 (recsM s i)).length (recM s i)).length ≤ 100000 := by
        have := zr_le (logL 0 (recsM s i)).length
        have := lf_ge (logL 0 (recsM s i)).length
        rw [hal]; unfold nfr; omega
      have LC := hid (fun w => length_c w ((logL 0 (recsM s i)).length : Int) (by omega) s (by omega))
      rw [Int.toNat_natCast, ← hal] at LC
      clear hal
      go_wp2_with fail
      go_loopw [10] (fun v10 wq => ∃ k : Nat, k ≤ s ∧ v10 = .int .i64 (k : Int) ∧ wq.ownsRow W0.heap.size 5 1 (.slice (some ⟨W0.heap.size, 0, none⟩) s s) s (bv (partM s i k)) ∧ Fr [] W0 wq) (fun v10 _ => s - (intOf v10).toNat)
      case atStart => exact ⟨0, Nat.zero_le _, rfl, by rw [partM_zero]; exact MO.out, MF.out⟩
      case round =>
        obtain ⟨k, hk, rfl, ho, hf⟩ := hrel
        have RO := hid ho
        have RF := hid hf
        clear ho hf
        by_cases hks : k < s
        · have S1 := RO.out.stored k (.int .u8 (((i + k) % 256 : Nat) : Int))
          rw [partM_set i hks] at S1
          obtain ⟨u, hc⟩ : ∃ u, wr.cell? ⟨W0.heap.size, k, none⟩ = some u := by
            rw [RO.out.cellAt k (by omega)]
            exact ⟨_, List.getElem?_eq_getElem (by rw [bv_len, partM_len i hk]; omega)⟩
          have hz := RO.out.frozenAt k
          have hwu : IntKind.u8.wrap ((i : Int) + (k : Int)) = (((i + k) % 256 : Nat) : Int) := by rw [IntKind.wrap_u8']; omega
          go_wp2
          go_roundw
          case rel => go_light; exact ⟨k + 1, by omega, by go_num, S1.1, RF.out.grown S1.2 fun q hq => .inr (by cases hq; omega)⟩
          case measure => go_light; simp [intOf]; omega
        · have hks' : k = s := by omega
          rw [hks', partM_full] at RO
          have hk2 : ¬ (k : Int) < (s : Int) := by omega
          obtain ⟨cs, oc, lc⟩ := HS.out.l
          have hbl := HS.out.b
          have hfw := HS.out.fr
          have hrf := RF.out
          have OC := hid (ownsRow_fr oc hrf)
          have LC2 : Hid (Lst wr w.heap.size [u6.ownBlock, u5.ownBlock] (recsM s i) cs) := lc.step hrf.size (fun q _ q2 _ => hrf.block q q2 (by simp)) (fun q hq => .inl hq)
          have OB := hid (ownsRow_fr hbl hrf)
          have OU : Hid (wr.ownsRow w.heap.size 5 1 (.slice (some ⟨W0.heap.size, 0, none⟩) s s) (recM s i).length (bv (recM s i))) := by unfold Hid; rw [recM_len]; exact ownsRow_base RO.out hfw.size
          have HU : Hid (∀ q, (Value.slice (some ⟨W0.heap.size, 0, none⟩) s s).ownBlock = some q → u5.ownBlock ≠ some q) := fun q hq hq' => by
            have := (hbl.lt q hq').2
            simp [Value.ownBlock] at hq
            omega
          have FW := hid (hfw.trans hrf)
          have OC' := hid (ownsRow_fr OC.out ((Fr.refl [] wr).alloc (.cells #[.slice (some ⟨W0.heap.size, 0, none⟩) s s] 23)))
          have GN := hid (blk_new wr (.cells #[.slice (some ⟨W0.heap.size, 0, none⟩) s s] 23))
          have HB2 : Hid (w.heap.size ≤ (wr.alloc (.cells #[.slice (some ⟨W0.heap.size, 0, none⟩) s s] 23)).heap.size) := by unfold Hid; have := FW.out.size; simp; omega
          have hrl : (recsM s i).length = i := recsM_len s i
          have hrm : (recM s i).length = s := recM_len s i
          obtain ⟨a5, c5, hv5, _⟩ := ownsRow_slice OB.out
          subst hv5
          have HLEN : Hid (((logL 0 (recsM s i)).length : Int) + ((appL (logL 0 (recsM s i)).length (recM s i)).length : Int) = ((logL 0 (recsM s (i + 1))).length : Int)) := by unfold Hid; rw [HLT.out, List.length_append]; omega
          clear oc lc hbl hfw hrf hks' hks
          go_wp2_with (at_builtin; refine wpList_append_row rfl _ _ rfl _ HB2.out _ _ _ rfl OC'.out _ rfl GN.out rfl (by rw [hrl]; omega) ?_; intro v2 w2 o2 g2 q2; have L2 := hid (Lst.grow2 OC.out LC2.out OU.out HU.out (recM_by s i) (by rw [hrm]; omega) g2 q2); have keep2 : ∀ q, q < wr.heap.size → u6.ownBlock ≠ some q → w2.heap[q]? = wr.heap[q]? := (fun q hq hn => by rw [g2.block q (by simp; omega) (fun e => hn e.symm), blk_old _ _ hq]); have O2 := hid (ownsRow_of_block OB.out fun q hq => keep2 q (OB.out.lt q hq).2 (own_types OB.out OC.out (by decide) q hq)); have U2 := hid ((Rd.ownB OU.out).step fun q hq => keep2 q (OU.out.lt q hq).2 (own_types OU.out OC.out (by decide) q hq)); have R2 := hid o2; have F2 : Hid (Fr [] w w2) := (FW.out.alloc _).grown g2 (fun q hq => .inr (OC.out.lt q hq).1); clear o2 g2 q2 keep2)
          refine (append_c w2 ((logL 0 (recsM s i)).length : Int) (by omega) U2.out (recM_by s i) (by omega)).mono ?_
          rintro e w3 ⟨v3, rfl, o3, f3⟩
          rw [Int.toNat_natCast] at o3
          have P3 := hid (Rd.ownB o3)
          have O3 := hid (ownsRow_fr O2.out f3)
          have R3 := hid (ownsRow_fr R2.out f3)
          have L3 : Hid (Lst w3 w.heap.size [v2.ownBlock, (Value.slice a5 (logL 0 (recsM s i)).length c5).ownBlock] (recsM s i ++ [recM s i]) (cs ++ [.slice (some ⟨W0.heap.size, 0, none⟩) s s])) := L2.out.step f3.size (fun q _ q2 _ => f3.block q q2 (by simp)) (fun q hq => .inl hq)
          have F3 := hid (F2.out.trans f3)
          have HLA : Hid ((bv (appL (logL 0 (recsM s i)).length (recM s i))).length = (appL (logL 0 (recsM s i)).length (recM s i)).length) := bv_len _
          clear o3 f3
          go_wp2_with fail
          refine (LC.out w3).mono ?_
          rintro e w3' ⟨rfl, rfl⟩
          have hBE : (((logL 0 (recsM s (i + 1))).length : Int) == ((logL 0 (recsM s i)).length : Int) + ((appL (logL 0 (recsM s i)).length (recM s i)).length : Int)) = true := by rw [HLEN.out]; simp
          have hSL : (recsM s i).length + 1 = (recsM s (i + 1)).length := by rw [recsM_len, recsM_len]
          have HSL := hid hSL
          clear hSL
          go_wp2_with (at_builtin; refine wpList_append_rd rfl _ _ rfl w.heap.size F3.out.size _ _ _ rfl O3.out _ _ rfl P3.out bv_one (by rw [HLA.out]; omega) ?_; intro v4 w4 o4 g4 q4; replace g4 : World.grownBy _ w4 (Value.slice a5 (logL 0 (recsM s i)).length c5).ownBlock := g4; replace q4 : v4.ownBlock = (Value.slice a5 (logL 0 (recsM s i)).length c5).ownBlock ∨ v4.ownBlock = some _ := q4; rw [HLA.out, ← List.length_append, ← bv_append, ← HLT.out] at o4; have R4 := hid (ownsRow_of_block R3.out fun q hq => g4.block q (R3.out.lt q hq).2 (fun e => own_types R3.out O3.out (by decide) q hq e.symm)); have L4 : Hid (Lst w4 w.heap.size [v2.ownBlock, v4.ownBlock] (recsM s i ++ [recM s i]) (cs ++ [.slice (some ⟨W0.heap.size, 0, none⟩) s s])) := (L3.out.step g4.size (fun q _ q2 q3 => g4.block q q2 (fun e => q3 _ (by simp) e.symm)) (fun q hq => by simp only [List.mem_cons, List.not_mem_nil, or_false] at hq; rcases hq with rfl | rfl; exact .inl (by simp); rcases q4 with e | e; exact .inl (by rw [e]; simp); exact .inr fun k hk => by rw [e] at hk; simp at hk; omega)); have F4 := hid (F3.out.grew O3.out (Nat.le_refl _) g4); have e4 := ownsRow_slice o4; obtain ⟨a4, c4, hv4, _⟩ := e4; subst hv4; have O4 := hid o4; clear o4 g4 q4)
          rw [HLEN.out]
          exact ⟨⟨i + 1, by omega, by go_num, rfl, ⟨O4.out, ⟨_, by rw [← HSL.out]; exact R4.out, by have h := L4.out; rw [← recsM_succ] at h; exact h⟩, F4.out⟩⟩, by simp [intOf]; omega⟩
    · have hin : i = n := by omega
      subst hin
      have hrd := read_log (recsM_by s i)
      have hll := logL_recs_le (n := i) hs (by omega)
      have HBL := hid (logL_by _ 0 (recsM_by s i))
      have hbl := HS.out.b
      obtain ⟨a5, c5, hv5, _⟩ := ownsRow_slice hbl
      subst hv5
      have P5 := hid (Rd.ownB hbl)
      obtain ⟨cs, oc, lc⟩ := HS.out.l
      have L6 : Hid (RdL W0 u6 (recsM s i)) := OwnL.rd ⟨cs, oc, lc.step (Nat.le_refl _) (fun _ _ _ _ => rfl) (fun q hq => .inl (by simp at hq; simp [hq]))⟩
      have hrl := recsM_len s i
      obtain ⟨Y, hY⟩ : ∃ Y, Y = logL 0 (recsM s i) := ⟨_, rfl⟩
      rw [← hY] at hrd hll HBL P5
      rw [← hY]
      have HRD := hid hrd
      have FW := hid HS.out.fr
      clear hbl oc lc hrd hY HS
      have hyy : ((Y.length : Int) == (Y.length : Int)) = true := by simp
      go_wp2_with fail
      refine (read_c W0 P5.out HBL.out (by omega)).mono ?_
      rintro e w2 ⟨v2, rfl, o2, f2⟩
      rw [HRD.out] at o2 ⊢
      have L2 := hid o2.rd
      have L7 := hid (L6.out.fr f2)
      have F2 := hid (FW.out.trans f2)
      clear o2 f2
      go_wp2_with fail
      refine (lists_c L7.out L2.out (by omega)).mono ?_
      rintro e w3 ⟨rfl, f3⟩
      rw [decide_eq_true rfl]
      have F3 := hid (F2.out.trans f3)
      clear f3
      go_wp2
      go_ret
      exact ⟨by simp, F3.out⟩
set_option maxRecDepth 20000 in
set_option maxHeartbeats 800000 in
theorem many_c (w : World) (n s : Int) : Calls Tryd.prog 3 #[.int .i64 n, .int .i64 s] w fun e w' => e = .returned (.bool true) ∧ Fr [] w w' := by
  by_cases h : 0 ≤ n ∧ n ≤ 60 ∧ 0 ≤ s ∧ s ≤ 300
  · obtain ⟨n', rfl⟩ : ∃ n' : Nat, n = (n' : Int) := ⟨n.toNat, by omega⟩
    obtain ⟨s', rfl⟩ : ∃ s' : Nat, s = (s' : Int) := ⟨s.toNat, by omega⟩
    exact many_small w n' s' (by omega) (by omega)
  · have hs' : n < 0 ∨ (0 ≤ n ∧ 60 < n) ∨ (0 ≤ n ∧ n ≤ 60 ∧ s < 0) ∨ (0 ≤ n ∧ n ≤ 60 ∧ 0 ≤ s ∧ 300 < s) := by omega
    rcases hs' with q | ⟨q1, q2⟩ | ⟨q1, q2, q3⟩ | ⟨q1, q2, q3, q4⟩
    all_goals
      go_enter Tryd.func3, Tryd.ntmps3
      go_wp2_with fail
      refine (known_c w).mono ?_
      rintro e w1 ⟨rfl, f1⟩
      go_wp2
      go_ret
      exact ⟨rfl, f1⟩
end Go.Proofs.YtplghoibadmdjabDoor
