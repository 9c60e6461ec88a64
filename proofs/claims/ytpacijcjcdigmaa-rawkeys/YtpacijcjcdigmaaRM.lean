/-
  The document's keys: a letter and what follows, a number's eight bytes; lists compared.
-/
import Derived.Test.YtpacijcjcdigmaaJ18
import Derived.Test.YtpacijcjcdigmaaRL
namespace Go.Proofs.Ytpacijcjcdigmaa
open Go.ChangeShapes Go.WideShapes Go.ChangeAt Go.RowKit

theorem rdL_atM {w : World} {L n m : Nat} {rs : List (List Nat)} {j : Nat} {r : List Nat} (h : RdL w (.slice (some ⟨L, 0, none⟩) n m) rs) (hj : rs[j]? = some r) : ∃ a c, w.cell? ⟨L, j, none⟩ = some (.slice a r.length c) ∧ Rd w (.slice a r.length c) (bv r) ∧ By r := by
  obtain ⟨a, c, e, k⟩ := h
  have h0 : 0 < rs.length := by
    rcases Nat.lt_or_ge j rs.length with h | h
    · omega
    · rw [List.getElem?_eq_none h] at hj; cases hj
  obtain ⟨b, off, e2, k2⟩ := k h0
  simp only [Value.slice.injEq] at e
  obtain ⟨rfl, _, _⟩ := e
  simp only [Option.some.injEq, Addr.mk.injEq] at e2
  obtain ⟨rfl, rfl, _⟩ := e2
  obtain ⟨a', c', h1, h2, h3, _⟩ := k2 j r hj
  rw [Nat.zero_add] at h1
  exact ⟨a', c', h1, h2, h3⟩
theorem cellM {w w' : World} {p : Addr} {v : Value} (h : w.cell? p = some v) (hf : Fr [] w w') : w'.cell? p = some v := by
  rw [World.cell?_of_block (w := w) (hf.block _ (World.block_lt_of_cell? w _ h) (by simp))]; exact h
theorem flat_take {rs : List (List Nat)} {k : Nat} {r : List Nat} (h : rs[k]? = some r) : (rs.take (k + 1)).flatten = (rs.take k).flatten ++ r := by
  rw [List.take_add_one, h]; simp

set_option maxRecDepth 20000 in
set_option maxHeartbeats 1600000 in
theorem of_c (w : World) {c L k N : Nat} {rs : List (List Nat)} (hN : (c :: rs.flatten).length = N) (hr : RdL w (.slice (some ⟨L, 0, none⟩) k k) rs) (hk : rs.length = k) (hk2 : k ≤ 2) (hs : ∀ i, i ≤ k → (rs.take i).flatten.length ≤ 1000) :
    Calls Try.prog 13 #[.int .u8 (c : Int), .slice (some ⟨L, 0, none⟩) k k] w fun e w' => ∃ v, e = .returned v ∧ w'.ownsRow w.heap.size 5 1 v N (bv (c :: rs.flatten)) ∧ Fr [] w w' := by
  have HNN := hid hN
  clear hN
  have HR := hid hr
  have HS := hid hs
  have HK := hid hk
  clear hr hs hk
  have O0 : Hid ((w.alloc (.cells #[.int .u8 (c : Int)] 5)).ownsRow w.heap.size 5 1 (.slice (some ⟨w.heap.size, 0, none⟩) 1 1) 1 (bv [c])) := hid (World.ownsRow_lit (base := w.heap.size) w #[.int .u8 (c : Int)] 1 (Nat.le_refl _) (by unfold maxLen; omega) rfl)
  go_enter Try.func13, Try.ntmps13
  go_wp2_with fail
  go_loopw [5, 6] (fun v5 v6 wr => ∃ (i : Nat) (a : Option Addr) (n cc : Nat), i ≤ k ∧ v6 = .int .i64 (i : Int) ∧ v5 = .slice a n cc ∧ n = (c :: (rs.take i).flatten).length ∧ wr.ownsRow w.heap.size 5 1 (.slice a n cc) n (bv (c :: (rs.take i).flatten)) ∧ Fr [] w wr) (fun _ v6 _ => k - (intOf v6).toNat)
  case atStart => exact ⟨0, _, _, _, by omega, rfl, rfl, rfl, O0.out, (Fr.refl _ w).alloc _⟩
  case round =>
    obtain ⟨i, a, n, cc, hi, rfl, rfl, hn, hO, hF⟩ := hrel
    have HO := hid hO
    have HF := hid hF
    have HN := hid hn
    clear hO hF hn O0
    by_cases hlt : i < k
    · have hlt' : (i : Int) < (k : Int) := by omega
      obtain ⟨r, hrr⟩ : ∃ r, rs[i]? = some r := ⟨_, List.getElem?_eq_getElem (by have := HK.out; omega)⟩
      obtain ⟨ra, rc, c1, d1, _⟩ := rdL_atM HR.out hrr
      have hc1 := cellM c1 HF.out
      have D1 := hid (d1.fr HF.out)
      have HT := hid (flat_take hrr)
      have HL : Hid (n + (bv r).length ≤ 140737488355328) := hid (by
        have h1 := HS.out (i + 1) (by omega)
        rw [HT.out, List.length_append] at h1
        have h2 := HN.out
        rw [bv_len]
        rw [List.length_cons] at h2
        omega)
      have HSZ := HF.out.size
      clear c1 d1 hrr
      generalize r.length = rl at hc1 D1
      go_wp2_with (at_builtin; refine wpList_append_rd rfl _ _ rfl w.heap.size HSZ _ _ _ rfl HO.out _ _ rfl D1.out bv_one HL.out ?_; intro v' w2 o1 o2 o3; obtain ⟨va, vc, rfl, _⟩ := ownsRow_slice o1; have O1 := hid o1; have F1 := hid (HF.out.grew HO.out (Nat.le_refl _) o2); clear o1 o2 o3)
      go_roundw
      case rel =>
        refine ⟨i + 1, _, _, _, by omega, by go_num, rfl, ?_, ?_, F1.out⟩
        · rw [HT.out, HN.out, bv_len]; simp; omega
        · have := O1.out; rw [HT.out, ← List.cons_append, bv_append]; exact this
      case measure => simp [intOf]; omega
    · have hlt' : ¬ (i : Int) < (k : Int) := by omega
      obtain rfl : i = k := by omega
      have HE : Hid (rs.take i = rs) := hid (List.take_of_length_le (by have := HK.out; omega))
      go_wp2
      go_ret
      have h1 := HO.out
      have h2 := HN.out
      rw [HE.out] at h1 h2
      rw [HNN.out] at h2
      rw [h2] at h1
      have h3 := h2
      subst h3
      exact ⟨_, rfl, h1, HF.out⟩

theorem be_at : ∀ (K n k : Nat), k < K → (be K n)[k]? = some (n / 256 ^ (K - 1 - k) % 256)
  | 0, _, _, h => by omega
  | K + 1, n, 0, _ => rfl
  | K + 1, n, k + 1, h => by
    rw [be, List.getElem?_cons_succ, be_at K n k (by omega)]
    congr 4
    omega

set_option maxRecDepth 20000 in
set_option maxHeartbeats 1600000 in
theorem eight_c (w : World) {n : Nat} (_hn : n < 18446744073709551616) :
    Calls Try.prog 14 #[.int .u64 (n : Int)] w fun e w' => ∃ v, e = .returned v ∧ w'.ownsRow w.heap.size 5 1 v 8 (bv (be 8 n)) ∧ Fr [] w w' := by
  go_enter Try.func14, Try.ntmps14
  go_wp2_with fail
  go_loopw [3, 4] (fun v3 v4 wr => ∃ (k : Nat) (a : Option Addr) (cc : Nat), k ≤ 8 ∧ v4 = .int .i64 (7 - (k : Int)) ∧ v3 = .slice a k cc ∧ wr.ownsRow w.heap.size 5 1 (.slice a k cc) k (bv ((be 8 n).take k)) ∧ Fr [] w wr) (fun _ v4 _ => (intOf v4 + 1).toNat)
  case atStart => exact ⟨0, none, 0, by omega, rfl, rfl, World.ownsRow_nil _ _ _ _, Fr.refl _ w⟩
  case round =>
    obtain ⟨k, a, cc, hk, rfl, rfl, hO, hF⟩ := hrel
    have HO := hid hO
    have HF := hid hF
    clear hO hF
    by_cases hlt : k < 8
    · obtain ⟨e, he⟩ : ∃ e, e = 7 - k := ⟨_, rfl⟩
      have he' : (7 : Int) - (k : Int) = (e : Int) := by omega
      have hge : 0 ≤ (e : Int) := by omega
      have he7 : e ≤ 7 := by omega
      rw [he']
      obtain ⟨x, hx⟩ : ∃ x, x = n / 256 ^ e % 256 := ⟨_, rfl⟩
      have HX : Hid ((be 8 n).take (k + 1) = (be 8 n).take k ++ [x]) := hid (by rw [List.take_add_one, be_at 8 n k hlt, hx, he]; rfl)
      have HV : Hid ((n : Int) / 2 ^ (8 * e) % 256 = (x : Int)) := hid (by
        rw [hx, show ((2 : Int) ^ (8 * e)) = ((256 ^ e : Nat) : Int) by rw [← pow8]; simp]; simp)
      have HE := hid he'
      have HSZ := HF.out.size
      clear he he' hx
      go_wp2_with (at_builtin; rw [HV.out]; refine wpList_append_rd rfl _ _ rfl w.heap.size (by simp; omega) _ _ _ rfl (HO.out.alloc _) _ [_] rfl (Rd_lit1 _ _) (by simp [Value.oneCell']) (by simp; omega) ?_; intro v' w2 o1 o2 o3; obtain ⟨va, vc, rfl, _⟩ := ownsRow_slice o1; have O1 := hid o1; have F1 := hid ((HF.out.alloc _).grew (HO.out.alloc _) (Nat.le_refl _) o2); clear o1 o2 o3)
      go_roundw
      case rel =>
        refine ⟨k + 1, _, _, by omega, ?_, rfl, ?_, F1.out⟩
        · have := HE.out; congr 1; omega
        · have := O1.out; rw [HX.out, bv_append]; exact this
      case measure => simp [intOf]
    · have hlt' : ¬ 0 ≤ (7 : Int) - (k : Int) := by omega
      obtain rfl : k = 8 := by omega
      go_wp2
      go_ret
      have h1 := HO.out
      rw [List.take_of_length_le (by rw [be_len]; omega)] at h1
      exact ⟨_, rfl, h1, HF.out⟩
end Go.Proofs.Ytpacijcjcdigmaa
