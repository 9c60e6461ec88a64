/-
  The walk of WalReads.
-/
import Derived.Test.YtplghoibadmdjaaDoorWu
namespace Go.Proofs.YtplghoibadmdjaaDoor
open Go.ChangeShapes Go.WideShapes Go.ChangeAt Go.RowKit

set_option maxRecDepth 20000 in
set_option maxHeartbeats 800000 in
theorem spoil_c {w : World} {base : Nat} {v : Value} {xs : List Nat} (o : w.ownsRow base 5 1 v xs.length (bv xs)) (hl : xs.length ≤ 1000000) :
    Calls Tryd.prog 18 #[v] w fun e w' => e = .returned (.tuple #[]) ∧ Fr v.ownBlock.toList w w' := by
  obtain ⟨a, c, rfl, hc⟩ := ownsRow_slice o
  have O := hid o
  clear o
  go_enter Tryd.func18, Tryd.ntmps18
  go_wp2_with fail
  go_loopw [2] (fun v2 wr => ∃ (k : Nat) (ys : List Nat), k ≤ xs.length ∧ v2 = .int .i64 (k : Int) ∧ ys.length = xs.length ∧ wr.ownsRow base 5 1 (.slice a xs.length c) xs.length (bv ys) ∧ Fr (Value.slice a xs.length c).ownBlock.toList w wr) (fun v2 _ => xs.length - (intOf v2).toNat)
  case atStart => exact ⟨0, xs, Nat.zero_le _, rfl, rfl, O.out, Fr.refl _ _⟩
  case round =>
    obtain ⟨k, ys, hk, rfl, hy, ho, hf⟩ := hrel
    have RO := hid ho
    have RF := hid hf
    clear ho hf
    by_cases hlt : k < xs.length
    · rcases RO.out.2 with ⟨_, h0⟩ | ⟨g, cap, cur, hv, _⟩
      · omega
      simp only [Value.slice.injEq, true_and] at hv
      obtain ⟨rfl, rfl⟩ := hv
      have S1 := RO.out.stored k (.int .u8 238)
      have hset : (bv ys).set k (.int .u8 238) = bv (ys.set k 238) := by unfold bv; rw [List.map_set]; rfl
      rw [hset] at S1
      obtain ⟨u, hcu⟩ : ∃ u, wr.cell? ⟨g, k, none⟩ = some u := by
        have := RO.out.cells rfl k _ (List.getElem?_eq_getElem (by rw [bv_len]; omega))
        rw [Addr.add_lit, Nat.zero_add] at this
        exact ⟨_, this⟩
      have hz := RO.out.frozenAt k
      have F2 : Hid (Fr (Value.slice (some ⟨g, 0, none⟩) xs.length c).ownBlock.toList w (wr.setCell ⟨g, k, none⟩ (.int .u8 238))) := RF.out.grown S1.2 fun q hq => .inl (by cases hq; simp [Value.ownBlock])
      have O2 := hid S1.1
      clear S1 hset
      go_wp2
      exact ⟨⟨k + 1, ys.set k 238, by omega, by go_num, by rw [List.length_set]; exact hy, O2.out, F2.out⟩, by simp [intOf]; omega⟩
    · go_wp2
      go_end0
      exact ⟨rfl, RF.out⟩

set_option maxRecDepth 20000 in
set_option maxHeartbeats 1600000 in
theorem reads_c (w : World) {v : Value} {b : List Nat} (hr : Rd w v (bv b)) (hb : By b) (hl : b.length ≤ 140737488355328) :
    Calls Tryd.prog 4 #[v] w fun e w' => e = .returned (.bool true) ∧ Fr [] w w' := by
  obtain ⟨a, c, hv⟩ := hr.form
  rw [bv_len] at hv
  subst hv
  have HR := hid hr
  have HB := hid hb
  clear hr hb
  by_cases h5 : 5000 < b.length
  · go_enter Tryd.func4, Tryd.ntmps4
    go_wp2_with fail
    refine (known_c w).mono ?_
    rintro e w1 ⟨rfl, f1⟩
    go_wp2
    go_ret
    exact ⟨rfl, f1⟩
  · have hN : ((readL b).2 == (readL b).2) = true := by simp
    go_enter Tryd.func4, Tryd.ntmps4
    go_wp2_with fail
    refine (known_c w).mono ?_
    rintro e w1 ⟨rfl, f1⟩
    have F1 := hid f1
    have R1 := hid (HR.out.fr f1)
    clear f1
    go_wp2_with (at_builtin; refine wpList_append_nil rfl _ _ rfl rfl F1.out _ R1.out rfl hl ?_; intro v2 w2 o2 f2 f20; have O2 := hid o2; have P2 := hid (Rd.ownB o2); have F2 := hid f20; have R2 := hid (R1.out.fr f2); clear o2 f2 f20)
    refine (read_c w2 P2.out HB.out (by omega)).mono ?_
    rintro e w3 ⟨v3, rfl, o3, f3⟩
    have L3 := hid o3
    have F3 := hid (F2.out.trans f3)
    have R3 := hid (R2.out.fr f3)
    have P3 := hid (P2.out.fr f3)
    have O3 := hid (ownsRow_fr O2.out f3)
    have S23 := hid f3.size
    clear o3 f3
    go_wp2_with fail
    refine (refread_c w3 R3.out HB.out (by omega)).mono ?_
    rintro e w4 ⟨v4, rfl, o4, f4⟩
    have L4 := hid o4
    have L34 := hid (L3.out.fr f4)
    have F4 := hid (F3.out.trans f4)
    have R4 := hid (R3.out.fr f4)
    have P4 := hid (P3.out.fr f4)
    have O4 := hid (ownsRow_fr O3.out f4)
    clear o4 f4
    obtain ⟨N, hNN⟩ : ∃ N, N = (readL b).2 := ⟨_, rfl⟩
    obtain ⟨RS, hRS⟩ : ∃ RS, RS = (readL b).1 := ⟨_, rfl⟩
    have hrsl : RS.length ≤ 9223372036854775807 := by
      obtain ⟨cs, oc, lc⟩ := L34.out
      rcases oc.2 with ⟨_, h0⟩ | ⟨g, cap, cur, _, _, _, h4, h5, _⟩
      · rw [hRS]; omega
      · rw [hRS]; unfold maxLen at h5; omega
    rw [← hRS] at L4 L34
    rw [← hNN]
    clear hN hNN hRS L3
    have hnn : ((N : Int) == (N : Int)) = true := by simp
    go_wp2_with fail
    refine (lists_c L34.out.rd L4.out.rd hrsl).mono ?_
    rintro e w5 ⟨rfl, f5⟩
    rw [decide_eq_true rfl]
    have L5 := hid (L34.out.fr f5)
    have M5 := hid (L4.out.fr f5)
    have F5 := hid (F4.out.trans f5)
    have R5 := hid (R4.out.fr f5)
    have P5 := hid (P4.out.fr f5)
    have O5 := hid (ownsRow_fr O4.out f5)
    clear f5
    go_wp2_with fail
    refine (bytes_c P5.out R5.out HB.out HB.out).mono ?_
    rintro e w6 ⟨rfl, rfl⟩
    rw [decide_eq_true rfl]
    go_wp2_with fail
    refine (spoil_c O5.out (by omega)).mono ?_
    rintro e w7 ⟨rfl, f7⟩
    have hbk : ∀ k, v2.ownBlock = some k → w1.heap.size ≤ k ∧ k < w2.heap.size := fun k hk => O2.out.lt k hk
    have keep : ∀ k, w2.heap.size ≤ k → k < w6.heap.size → w7.heap[k]? = w6.heap[k]? := fun k k1 k2 => f7.block k k2 (fun e => by
      have := (hbk k (by simpa using e)).2
      omega)
    have L7 := hid (L5.out.step f7.size keep)
    have M7 := hid (M5.out.step f7.size (fun k k1 k2 => keep k (by have := S23.out; omega) k2))
    have F7 : Hid (Fr [] w w7) := ⟨f7.os.trans F5.out.os, f7.tape.trans F5.out.tape, f7.output.trans F5.out.output, Nat.le_trans F5.out.size f7.size, fun k hk _ => by
      rw [f7.block k (by have := F5.out.size; omega) (fun e => by have := (hbk k (by simpa using e)).1; have := F1.out.size; omega)]
      exact F5.out.block k hk (by simp)⟩
    clear hbk keep f7
    go_wp2_with fail
    refine (lists_c L7.out.rd M7.out.rd hrsl).mono ?_
    rintro e w8 ⟨rfl, f8⟩
    rw [decide_eq_true rfl]
    have F8 := hid (F7.out.trans f8)
    clear f8
    go_wp2
    go_ret
    exact ⟨rfl, F8.out⟩
end Go.Proofs.YtplghoibadmdjaaDoor
