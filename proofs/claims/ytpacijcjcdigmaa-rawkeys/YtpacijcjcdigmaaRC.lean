/-
  Names of markers, and numbers read, the program's and the document's.
-/
import Derived.Test.YtpacijcjcdigmaaRB
namespace Go.Proofs.Ytpacijcjcdigmaa
open Go.ChangeShapes Go.WideShapes Go.ChangeAt Go.RowKit

def okb (c : UInt8) : Bool := decide (97 ≤ c.toNat) && decide (c.toNat ≤ 122)
/-- May a marker have that name? -/
def nmOk (s : ByteArray) : Bool := decide (1 ≤ s.size) && (decide (s.size ≤ 32) && s.data.toList.all okb)
theorem all_take_succ {α : Type} (p : α → Bool) (l : List α) (k : Nat) (h : k < l.length) : (l.take (k + 1)).all p = ((l.take k).all p && p l[k]) := by
  rw [List.take_succ_eq_append_getElem h, List.all_append]; simp
theorem all_false_of {α : Type} (p : α → Bool) (l : List α) (k : Nat) (h : k < l.length) (hp : p l[k] = false) : l.all p = false := by
  rw [List.all_eq_false]; exact ⟨l[k], List.getElem_mem h, by simp [hp]⟩

set_option maxRecDepth 20000 in
set_option maxHeartbeats 800000 in
theorem isName_c (s : ByteArray) (w : World) (hs : s.size ≤ 140737488355328) :
    Calls Try.prog 23 #[.string s] w fun e w' => e = .returned (.bool (nmOk s)) ∧ w' = w := by
  go_enter Try.func23, Try.ntmps23
  go_wp2
  go_loop [6] (fun i => ∃ k : Nat, k ≤ s.size ∧ i = .int .i64 k ∧ (s.data.toList.take k).all okb = true) (fun i => s.size - (intOf i).toNat)
  case atStart => exact ⟨0, Nat.zero_le _, rfl, by simp⟩
  case round =>
    obtain ⟨k, hk, rfl, hall⟩ := hrel
    have HA : Hid ((s.data.toList.take k).all okb = true) := hall
    clear hall
    by_cases hlt : k < s.size
    · have no : okb s[k] = false → nmOk s = false := fun hc => by
        have := all_false_of okb s.data.toList k (by simpa using hlt) (by rw [Array.getElem_toList]; exact hc)
        simp [nmOk, this]
      by_cases h1 : s[k].toNat < 97
      · have HN : Hid (nmOk s = false) := hid (no (by unfold okb; rw [decide_eq_false (by omega)]; rfl))
        clear no
        have h1' : (s[k].toNat : Int) < 97 := by omega
        go_wp2
        go_ret
        exact ⟨ret_bool HN.out.symm, rfl⟩
      · have h1' : ¬ (s[k].toNat : Int) < 97 := by omega
        by_cases h2 : 122 < s[k].toNat
        · have HN : Hid (nmOk s = false) := hid (no (by unfold okb; rw [decide_eq_false (p := s[k].toNat ≤ 122) (by omega)]; simp))
          clear no
          have h2' : (122 : Int) < (s[k].toNat : Int) := by omega
          go_wp2
          go_ret
          exact ⟨ret_bool HN.out.symm, rfl⟩
        · have HC : Hid (okb s[k] = true) := hid (by unfold okb; rw [decide_eq_true (by omega), decide_eq_true (by omega)]; rfl)
          have h2' : ¬ (122 : Int) < (s[k].toNat : Int) := by omega
          clear no
          go_wp2
          go_round
          case rel => exact ⟨k + 1, by omega, by go_num, by rw [all_take_succ _ _ _ (by simpa using hlt), HA.out, Bool.true_and, Array.getElem_toList]; exact HC.out⟩
          case measure => simp [intOf]; omega
    · have HB : Hid (nmOk s = (decide (1 ≤ s.size) && decide (s.size ≤ 32))) := hid (by
        have := HA.out
        rw [List.take_of_length_le (by simp; omega)] at this
        simp [nmOk, this])
      clear HA
      by_cases h1 : 1 ≤ s.size
      · by_cases h2 : s.size ≤ 32
        · have h1' : (1 : Int) ≤ (s.size : Int) := by omega
          have h2' : (s.size : Int) ≤ 32 := by omega
          go_wp2
          go_ret
          exact ⟨ret_bool (by rw [HB.out, decide_eq_true h1, decide_eq_true h2]; rfl), rfl⟩
        · have h1' : (1 : Int) ≤ (s.size : Int) := by omega
          have h2' : ¬ (s.size : Int) ≤ 32 := by omega
          go_wp2
          go_ret
          exact ⟨ret_bool (by rw [HB.out, decide_eq_false h2]; simp), rfl⟩
      · have h1' : ¬ (1 : Int) ≤ (s.size : Int) := by omega
        go_wp2
        go_ret
        exact ⟨ret_bool (by rw [HB.out, decide_eq_false h1]; rfl), rfl⟩

set_option maxRecDepth 20000 in
set_option maxHeartbeats 800000 in
theorem rname_c (s : ByteArray) (w : World) (hs : s.size ≤ 140737488355328) :
    Calls Try.prog 19 #[.string s] w fun e w' => e = .returned (.bool (nmOk s)) ∧ w' = w := by
  by_cases h1 : 1 ≤ s.size
  · have h1' : ¬ (s.size : Int) < 1 := by omega
    by_cases h2 : s.size ≤ 32
    · have h2' : ¬ (32 : Int) < (s.size : Int) := by omega
      go_enter Try.func19, Try.ntmps19
      go_wp2
      go_loop [3] (fun i => ∃ k : Nat, k ≤ s.size ∧ i = .int .i64 k ∧ (s.data.toList.take k).all okb = true) (fun i => s.size - (intOf i).toNat)
      case atStart => exact ⟨0, Nat.zero_le _, rfl, by simp⟩
      case round =>
        obtain ⟨k, hk, rfl, hall⟩ := hrel
        have HA : Hid ((s.data.toList.take k).all okb = true) := hall
        clear hall
        by_cases hlt : k < s.size
        · have no : okb s[k] = false → nmOk s = false := fun hc => by
            have := all_false_of okb s.data.toList k (by simpa using hlt) (by rw [Array.getElem_toList]; exact hc)
            simp [nmOk, this]
          by_cases h1 : s[k].toNat < 97
          · have HN : Hid (nmOk s = false) := hid (no (by unfold okb; rw [decide_eq_false (by omega)]; rfl))
            clear no
            have h1' : (s[k].toNat : Int) < 97 := by omega
            go_wp2
            go_ret
            exact ⟨ret_bool HN.out.symm, rfl⟩
          · have h1' : ¬ (s[k].toNat : Int) < 97 := by omega
            by_cases h2 : 122 < s[k].toNat
            · have HN : Hid (nmOk s = false) := hid (no (by unfold okb; rw [decide_eq_false (p := s[k].toNat ≤ 122) (by omega)]; simp))
              clear no
              have h2' : (122 : Int) < (s[k].toNat : Int) := by omega
              go_wp2
              go_ret
              exact ⟨ret_bool HN.out.symm, rfl⟩
            · have HC : Hid (okb s[k] = true) := hid (by unfold okb; rw [decide_eq_true (by omega), decide_eq_true (by omega)]; rfl)
              have h2' : ¬ (122 : Int) < (s[k].toNat : Int) := by omega
              clear no
              go_wp2
              go_round
              case rel => exact ⟨k + 1, by omega, by go_num, by rw [all_take_succ _ _ _ (by simpa using hlt), HA.out, Bool.true_and, Array.getElem_toList]; exact HC.out⟩
              case measure => simp [intOf]; omega
        · have HB : Hid (nmOk s = true) := hid (by
            have := HA.out
            rw [List.take_of_length_le (by simp; omega)] at this
            simp [nmOk, this, h1, h2])
          clear HA
          go_wp2
          go_ret
          exact ⟨ret_bool HB.out.symm, rfl⟩
    · have h2' : (32 : Int) < (s.size : Int) := by omega
      go_enter Try.func19, Try.ntmps19
      go_wp2
      go_ret
      exact ⟨ret_bool (by simp [nmOk, h2]), rfl⟩
  · have h1' : (s.size : Int) < 1 := by omega
    go_enter Try.func19, Try.ntmps19
    go_wp2
    go_ret
    exact ⟨ret_bool (by simp [nmOk, h1]), rfl⟩

/-- The number whose bytes are these, the highest first, cut off at 64 bits. -/
def nbr (b : List Nat) : Nat := b.foldl (fun n x => n % 72057594037927936 * 256 + x) 0
theorem nbr_snoc (b : List Nat) (x : Nat) : nbr (b ++ [x]) = nbr b % 72057594037927936 * 256 + x := by simp [nbr]
theorem nbr_lt {b : List Nat} (h : By b) : nbr b < 18446744073709551616 := by
  rcases List.eq_nil_or_concat b with rfl | ⟨r, x, rfl⟩
  · simp [nbr]
  · rw [List.concat_eq_append, nbr_snoc]
    have := h x (by simp)
    omega

theorem nbr_val {m x : Nat} (hx : x < 256) : bits .or .u64 (IntKind.u64.wrap ((m : Int) * 256)) (x : Int) = ((m % 72057594037927936 * 256 + x : Nat) : Int) := by
  have h : IntKind.u64.wrap ((m : Int) * 256) = ((m % 72057594037927936 * 256 : Nat) : Int) := by rw [IntKind.wrap_u64]; omega
  rw [h, u64_or_nat _ _ (by omega) (by omega), Nat.or_comm, or_add (i := 8) hx (by omega)]
  congr 1
  omega

set_option maxRecDepth 20000 in
set_option maxHeartbeats 800000 in
theorem numberOf_c (w : World) {v : Value} {b : List Nat} (hr : Rd w v (bv b)) (hb : By b) (hl : b.length ≤ 140737488355328) :
    Calls Try.prog 22 #[v] w fun e w' => e = .returned (.int .u64 (nbr b : Int)) ∧ w' = w := by
  rcases hr.split with ⟨rfl, a, c, rfl⟩ | ⟨p, off, c, rfl, h1, h2, hc⟩
  · clear hr
    go_enter Try.func22, Try.ntmps22
    go_wp2
    refine wp_loop_rounds 1 ?_
    rw [rounds_succ]
    go_wp2
    go_ret
    exact ⟨rfl, rfl⟩
  · clear hr
    have HC := hid hc
    have HB := hid hb
    clear hc hb
    go_enter Try.func22, Try.ntmps22
    go_wp2
    go_loop [3, 8] (fun v3 v8 => ∃ k : Nat, k ≤ b.length ∧ v8 = .int .i64 (k : Int) ∧ v3 = .int .u64 (nbr (b.take k) : Int)) (fun _ v8 => b.length - (intOf v8).toNat)
    case atStart => exact ⟨0, by omega, rfl, rfl⟩
    case round =>
      obtain ⟨k, hk, rfl, rfl⟩ := hrel
      by_cases hlt : k < b.length
      · obtain ⟨x, hx, hd⟩ := drop_at hlt
        have hcell := HC.out k x hx
        have hx256 : x < 256 := HB.out.at hx
        have hm : nbr (b.take k) < 18446744073709551616 := nbr_lt (HB.out.take k)
        have HU : Hid (nbr (b.take (k + 1)) = nbr (b.take k) % 72057594037927936 * 256 + x) := hid (by
          rw [List.take_add_one, hx]; exact nbr_snoc _ _)
        clear hd hx
        generalize hg : nbr (b.take k) = m at *
        go_wp2
        go_round
        case rel => exact ⟨k + 1, by omega, by go_num, by rw [HU.out, nbr_val hx256]⟩
        case measure => simp [intOf]; omega
      · have : k = b.length := by omega
        subst this
        go_wp2
        go_ret
        exact ⟨rfl, rfl⟩
end Go.Proofs.Ytpacijcjcdigmaa
