/-
  The document's filters: the bits of a key.
-/
import Derived.Test.YtekcpecofclgiaaGC
namespace Go.Proofs.Ytekcpecofclgiaa
open Go.ChangeShapes Go.WideShapes Go.ChangeAt Go.RowKit

theorem infoU : (Try.prog.info? 56).map (fun i => (i.zero, i.size, i.bytes)) = some (some (.int .u64 0), 1, 8) := by kernel_rfl
theorem wpList_append_u {w : World} {ops : Array Oper} {rest : List Oper} {o : Oper} {a : Act} {Q : Exit → Act → World → Prop} (hgd : o.guard = none) (s x : Operand)
    (ho : o.op = .call { callee := .builtin .append, args := #[s, x], argTypes := #[82, 82] }) (base : Nat) (hbase : base ≤ w.heap.size) (v : Value) (n : Nat) (xs : List Value) (hs : a.eval s = v) (hown : w.ownsRow base 56 1 v n xs) (G : Nat) (hx : a.eval x = .slice (some ⟨G, 0, none⟩) 1 1) {u : Value} {T : TypeId} (hG : w.heap[G]? = some (.cells #[u] T (0, 0)))
    (hu : u.oneCell' = true) (hl : n ≤ 100000000000)
    (h : ∀ v' w', w'.ownsRow base 56 1 v' (n + 1) (xs ++ [u]) → w.grownBy w' v.ownBlock → wpList Try.prog ops Q rest (a.put o.dst v') w') :
    wpList Try.prog ops Q (o :: rest) a w := by
  obtain ⟨i0, hi, hz0, hz1, hz2⟩ := info_parts infoU
  refine wpList_append_own_at w hgd s x 82 ho base 56 i0 _ 1 8 Try.underlying82 hi hz0 hz1 hz2 rfl (by decide) v n xs hs hown ⟨G, 0, none⟩ 1 1 [u] hx rfl ?_ ?_ (by unfold maxLen; omega) (by omega) hbase fun v' w' h1 h2 _ _ => h v' w' h1 h2
  · intro j u' hj
    rw [Addr.add_lit, Nat.zero_add, blk_cell hG, ← Array.getElem?_toList]
    exact hj
  · intro u' hu'
    simp at hu'
    subst hu'; exact hu
def stV (key : List Nat) (m : Nat) (k : Nat) : List Value := (List.range k).map fun j => .int .u64 ((hs (crc key) (rt (crc key)) j % m : Nat) : Int)
theorem stV_succ (key : List Nat) (m k : Nat) : stV key m (k + 1) = stV key m k ++ [.int .u64 ((hs (crc key) (rt (crc key)) k % m : Nat) : Int)] := by unfold stV; rw [List.range_succ, List.map_append]; rfl
theorem stV_at (key : List Nat) (m : Nat) {k j : Nat} (h : j < k) : (stV key m k)[j]? = some (.int .u64 ((hs (crc key) (rt (crc key)) j % m : Nat) : Int)) := by unfold stV; rw [List.getElem?_map, List.getElem?_range h]; rfl
set_option maxRecDepth 20000 in
set_option maxHeartbeats 3200000 in
theorem steps_c (w : World) {kv : Value} {key : List Nat} (rk : Rd w kv (bv key)) (bk : By key) (hkl : key.length ≤ 140737488355328) (m : Nat) (hm : 0 < m) (hm2 : m ≤ 100000000000) (t : Nat) (ht : t ≤ 255) :
    Calls Try.prog 46 #[kv, .int .u64 (m : Int), .int .i64 (t : Int)] w fun e w' => ∃ v', e = .returned v' ∧ w'.ownsRow w.heap.size 56 1 v' t (stV key m t) ∧ Fr [] w w' := by
  have hcr := crc_lt bk
  have SC := hid (refsum_c rk bk hkl)
  obtain ⟨ka, kc, hkv⟩ := rk.form
  subst hkv
  generalize (bv key).length = kn at *
  have hd := rt_lt hcr
  have HS : Hid (∀ k, stV key m (k + 1) = stV key m k ++ [.int .u64 ((hs (crc key) (rt (crc key)) k % m : Nat) : Int)]) := hid (stV_succ key m)
  obtain ⟨h0, hh0⟩ : ∃ h, h = crc key := ⟨_, rfl⟩
  have HLT : Hid (∀ j, hs h0 (rt h0) j < 4294967296) := hid fun j => hs_lt (by rw [hh0]; exact hcr) j
  rw [← hh0] at SC hcr hd HS
  clear hh0
  have hor : bits .or .u32 ((h0 / 131072 : Nat) : Int) (((h0 * 32768 % 4294967296 : Nat) : Int)) = ((rt h0 : Nat) : Int) := by
    rw [u32_or_nat _ _ (by omega) (by omega), Nat.or_comm]; rfl
  have e1 : ((h0 * 32768 % 4294967296 : Nat) : Int) = (h0 : Int) * 32768 % 4294967296 := by omega
  have e2 : ((h0 / 131072 : Nat) : Int) = (h0 : Int) / 131072 := by omega
  rw [e1, e2] at hor
  clear e1 e2
  obtain ⟨d, hdd⟩ : ∃ d, d = rt h0 := ⟨_, rfl⟩
  rw [← hdd] at hd HLT HS hor
  have HNX : Hid (∀ j, hs h0 d (j + 1) = (hs h0 d j + d) % 4294967296) := hid fun j => rfl
  clear hdd rk bk hkl
  have O0 : Hid (w.ownsRow w.heap.size 56 1 (.slice none 0 0) 0 (stV key m 0)) := hid ⟨rfl, .inl ⟨rfl, rfl⟩⟩
  go_enter Try.func46, Try.ntmps46
  go_wp2_with fail
  refine SC.out.mono ?_
  rintro e w1 ⟨rfl, rfl⟩
  clear SC
  go_wp2_with fail
  clear hor
  have hm0 : ¬ (m : Int) = 0 := by omega
  go_loopw [7, 9, 10] (fun v7 v9 v10 wr => ∃ j : Nat, j ≤ t ∧ v10 = .int .i64 (j : Int) ∧ v7 = .int .u32 (hs h0 d j : Int) ∧ wr.ownsRow w1.heap.size 56 1 v9 j (stV key m j) ∧ Fr [] w1 wr) (fun _ _ v10 _ => t - (intOf v10).toNat)
  case atStart => exact ⟨0, Nat.zero_le _, rfl, rfl, O0.out, Fr.refl _ _⟩
  case round =>
    obtain ⟨j, hj, rfl, rfl, oj, fj⟩ := hrel
    have HJ := hid fj
    clear fj
    by_cases hlt : j < t
    · have hlt32 := HLT.out j
      have HN1 := hid (HNX.out j)
      have HS1 := hid (HS.out j)
      obtain ⟨va, vc, hv9, _⟩ := ownsRow_slice oj
      subst hv9
      generalize hs h0 d j = hj' at *
      have hmod : (((hj' % m : Nat) : Nat) : Int) = (hj' : Int) % (m : Int) := by simp
      obtain ⟨W4, hW4⟩ : ∃ W, W = wr.alloc (.cells #[.int .u64 ((hj' : Int) % (m : Int))] 56) := ⟨_, rfl⟩
      have F4 : Fr [] wr W4 := by rw [hW4]; exact (Fr.refl _ _).alloc _
      have X4 : W4.heap[wr.heap.size]? = some (.cells #[.int .u64 ((hj' : Int) % (m : Int))] 56 (0, 0)) := by rw [hW4]; exact blk_new _ _
      have o4 := ownsRow_fr oj F4
      have hs4 : w1.heap.size ≤ W4.heap.size := by have := HJ.out.size; have := F4.size; omega
      have FF4 := hid (HJ.out.trans F4)
      go_wp2_with (at_builtin; rw [← hW4]; refine wpList_append_u rfl _ _ rfl w1.heap.size hs4 _ _ _ rfl o4 wr.heap.size rfl X4 rfl (by omega) ?_; intro v5 W5 o5 g5)
      have F5 : Fr [] w1 W5 := FF4.out.grown g5 (fun k hk => .inr (o4.lt k hk).1)
      go_roundw
      case rel => exact ⟨j + 1, by omega, by go_num, by rw [HN1.out]; go_num, by rw [HS1.out, hmod]; exact o5, F5⟩
      case measure => simp [intOf]; omega
    · have hje : j = t := by omega
      subst hje
      go_wp2
      go_ret
      exact ⟨_, rfl, oj, HJ.out⟩
end Go.Proofs.Ytekcpecofclgiaa
