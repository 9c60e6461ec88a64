/-
  What Parse answers of every key, the program's and the document's.
-/
import Derived.Test.YtpacijcjcdigmaaRE
import Derived.Test.YtpacijcjcdigmaaRF
import Derived.Test.YtpacijcjcdigmaaRF2
import Derived.Test.YtpacijcjcdigmaaRF3
import Derived.Test.YtpacijcjcdigmaaRH
import Derived.Test.YtpacijcjcdigmaaRH2
import Derived.Test.YtpacijcjcdigmaaRH3
import Derived.Test.YtpacijcjcdigmaaRH4
namespace Go.Proofs.Ytpacijcjcdigmaa
open Go.ChangeShapes Go.WideShapes Go.ChangeAt Go.RowKit

/-- What a key is made of: the letter, both hashes, the number, the name; an error. -/
structure PK where
  c : Nat
  f : List Nat
  s : List Nat
  n : Nat
  nm : ByteArray
  e : Nat
def PK.none : PK := ⟨0, z32, z32, 0, es, 132⟩
def PK.cells (k : PK) : List Value := rkc k.c k.f k.s k.n k.nm
structure PK.Ok (k : PK) : Prop where
  f : k.f.length = 32
  s : k.s.length = 32
theorem PK.none_ok : PK.none.Ok := ⟨rfl, rfl⟩
def prc (c : Nat) (b : List Nat) : PK :=
  if (c = 110 ∨ c = 99 ∨ c = 97) ∧ b.length = 32 then ⟨c, b, z32, 0, es, 0⟩
  else if c = 111 ∧ b.length = 64 then ⟨111, b.take 32, b.drop 32, 0, es, 0⟩
  else if (c = 114 ∨ c = 98) ∧ b.length = 8 then ⟨c, z32, z32, nbr b, es, 0⟩
  else if c = 109 ∧ nmOk (strOf b) = true then ⟨109, z32, z32, 0, strOf b, 0⟩
  else .none
def prs : List Nat → PK
  | [] => .none
  | c :: b => prc c b
theorem prs_cons (c : Nat) (b : List Nat) : prs (c :: b) = prc c b := rfl
theorem prs_ok (key : List Nat) : (prs key).Ok := by
  cases key with
  | nil => exact PK.none_ok
  | cons c b =>
    rw [prs_cons]
    unfold prc
    by_cases h1 : (c = 110 ∨ c = 99 ∨ c = 97) ∧ b.length = 32
    · rw [if_pos h1]; exact ⟨h1.2, rfl⟩
    · rw [if_neg h1]
      by_cases h2 : c = 111 ∧ b.length = 64
      · rw [if_pos h2]; exact ⟨by show (b.take 32).length = 32; rw [List.length_take]; omega, by show (b.drop 32).length = 32; rw [List.length_drop]; omega⟩
      · rw [if_neg h2]
        by_cases h3 : (c = 114 ∨ c = 98) ∧ b.length = 8
        · rw [if_pos h3]; exact ⟨rfl, rfl⟩
        · rw [if_neg h3]
          by_cases h4 : c = 109 ∧ nmOk (strOf b) = true
          · rw [if_pos h4]; exact ⟨rfl, rfl⟩
          · rw [if_neg h4]; exact PK.none_ok

/-- What Parse owes. -/
def Prsd (w : World) (key : List Nat) (e : Ending) (w' : World) : Prop := e = .returned (.tuple #[.agg (prs key).cells.toArray, .int .i64 ((prs key).e : Int)]) ∧ Fr [] w w'

set_option maxRecDepth 20000 in
theorem parse_nil (w : World) {a : Option Addr} {c : Nat} : Calls Try.prog 16 #[.slice a 0 c] w fun e w' => e = .returned (.tuple #[.agg (rkc 0 z32 z32 0 es).toArray, .int .i64 132]) ∧ Fr [] w w' := by
  have hz := zeroK
  obtain ⟨W0, hW0⟩ : ∃ W, W = w.alloc (.cells (rkc 0 z32 z32 0 es).toArray 36) := ⟨_, rfl⟩
  have F0 : Hid (Fr [] w W0) := hid (by rw [hW0]; exact (Fr.refl _ w).alloc _)
  have X0 : Hid (W0.heap[w.heap.size]? = some (.cells (rkc 0 z32 z32 0 es).toArray 36 (0, 0))) := hid (by rw [hW0]; exact blk_new _ _)
  have hlen0 : (rkc 0 z32 z32 0 es).length = 67 := rkc_len z32_len z32_len
  have hst2 := stKc hlen0 hlen0 rkc_one X0.out
  obtain ⟨WZ, hWZ⟩ : ∃ W, W = W0.setRow w.heap.size (rkc 0 z32 z32 0 es).toArray := ⟨_, rfl⟩
  rw [← hWZ] at hst2
  have ZZ : Hid (WZ.heap[w.heap.size]? = some (.cells (rkc 0 z32 z32 0 es).toArray 36 (0, 0))) := hid (by rw [hWZ]; exact setRow_heap _ _ _ _ _ _ X0.out)
  have FZ : Hid (Fr [] w WZ) := hid (by rw [hWZ]; exact F0.out.newer (p := w.heap.size) ⟨rfl, rfl, rfl, by simp [World.setRow], fun k hk hn => setRow_other _ _ _ _ (by simpa using hn)⟩ (by omega))
  clear hWZ
  go_enter Try.func16, Try.ntmps16
  go_upto_region 2 with fail
  rw [← hW0]
  clear hW0
  go_wp2
  exact bodyPost_ret (ret_ct rfl rfl (ldK hlen0 ZZ.out)) rfl ⟨rfl, FZ.out⟩
set_option maxRecDepth 20000 in
theorem rparse_nil (w : World) {a : Option Addr} {c : Nat} : Calls Try.prog 17 #[.slice a 0 c] w fun e w' => e = .returned (.tuple #[.agg (rkc 0 z32 z32 0 es).toArray, .int .i64 132]) ∧ Fr [] w w' := by
  have hz := zeroK
  obtain ⟨W0, hW0⟩ : ∃ W, W = w.alloc (.cells (rkc 0 z32 z32 0 es).toArray 36) := ⟨_, rfl⟩
  have F0 : Hid (Fr [] w W0) := hid (by rw [hW0]; exact (Fr.refl _ w).alloc _)
  have X0 : Hid (W0.heap[w.heap.size]? = some (.cells (rkc 0 z32 z32 0 es).toArray 36 (0, 0))) := hid (by rw [hW0]; exact blk_new _ _)
  have hlen0 : (rkc 0 z32 z32 0 es).length = 67 := rkc_len z32_len z32_len
  have hst2 := stKc hlen0 hlen0 rkc_one X0.out
  obtain ⟨WZ, hWZ⟩ : ∃ W, W = W0.setRow w.heap.size (rkc 0 z32 z32 0 es).toArray := ⟨_, rfl⟩
  rw [← hWZ] at hst2
  have ZZ : Hid (WZ.heap[w.heap.size]? = some (.cells (rkc 0 z32 z32 0 es).toArray 36 (0, 0))) := hid (by rw [hWZ]; exact setRow_heap _ _ _ _ _ _ X0.out)
  have FZ : Hid (Fr [] w WZ) := hid (by rw [hWZ]; exact F0.out.newer (p := w.heap.size) ⟨rfl, rfl, rfl, by simp [World.setRow], fun k hk hn => setRow_other _ _ _ _ (by simpa using hn)⟩ (by omega))
  clear hWZ
  go_enter Try.func17, Try.ntmps17
  go_upto_region 2 with fail
  rw [← hW0]
  clear hW0
  go_wp2
  exact bodyPost_ret (ret_ct rfl rfl (ldK hlen0 ZZ.out)) rfl ⟨rfl, FZ.out⟩

theorem prs_h {c : Nat} {b : List Nat} (hc : c = 110 ∨ c = 99 ∨ c = 97) (h : b.length = 32) : prs (c :: b) = ⟨c, b, z32, 0, es, 0⟩ := by rw [prs_cons]; unfold prc; rw [if_pos ⟨hc, h⟩]
theorem prs_o {b : List Nat} (h : b.length = 64) : prs (111 :: b) = ⟨111, b.take 32, b.drop 32, 0, es, 0⟩ := by
  rw [prs_cons]; unfold prc; rw [if_neg (by omega), if_pos ⟨rfl, h⟩]
theorem prs_n {c : Nat} {b : List Nat} (hc : c = 114 ∨ c = 98) (h : b.length = 8) : prs (c :: b) = ⟨c, z32, z32, nbr b, es, 0⟩ := by
  rw [prs_cons]; unfold prc; rw [if_neg (by omega), if_neg (by omega), if_pos ⟨hc, h⟩]
theorem prs_m {b : List Nat} (h : nmOk (strOf b) = true) : prs (109 :: b) = ⟨109, z32, z32, 0, strOf b, 0⟩ := by
  rw [prs_cons]; unfold prc; rw [if_neg (by omega), if_neg (by omega), if_neg (by omega), if_pos ⟨rfl, h⟩]
theorem prs_no {c : Nat} {b : List Nat} (h1 : (c = 110 ∨ c = 99 ∨ c = 97) → b.length ≠ 32) (h2 : c = 111 → b.length ≠ 64) (h3 : (c = 114 ∨ c = 98) → b.length ≠ 8) (h4 : c = 109 → nmOk (strOf b) = false) : prs (c :: b) = .none := by
  rw [prs_cons]
  unfold prc
  rw [if_neg (fun h => h1 h.1 h.2), if_neg (fun h => h2 h.1 h.2), if_neg (fun h => h3 h.1 h.2), if_neg (fun h => by rw [h4 h.1] at h; cases h.2)]

theorem parse_c (w : World) {v : Value} {key : List Nat} (hr : Rd w v (bv key)) (hb : By key) (hl : key.length ≤ 140737488355328) : Calls Try.prog 16 #[v] w (Prsd w key) := by
  unfold Prsd
  cases key with
  | nil =>
    obtain ⟨a, c, rfl⟩ := hr.form
    exact parse_nil w
  | cons c b =>
    have hl' : b.length < 140737488355328 := by simp at hl; omega
    by_cases h1 : c = 110
    · subst h1
      by_cases h : b.length = 32
      · rw [prs_h (.inl rfl) h]; exact parse_n_ok w hr hb rfl hl' h
      · rw [prs_no (fun _ => h) (by omega) (by omega) (by omega)]; exact parse_n_no w hr hb rfl hl' h
    by_cases h2 : c = 99
    · subst h2
      by_cases h : b.length = 32
      · rw [prs_h (.inr (.inl rfl)) h]; exact parse_c_ok w hr hb rfl hl' h
      · rw [prs_no (fun _ => h) (by omega) (by omega) (by omega)]; exact parse_c_no w hr hb rfl hl' h
    by_cases h3 : c = 97
    · subst h3
      by_cases h : b.length = 32
      · rw [prs_h (.inr (.inr rfl)) h]; exact parse_a_ok w hr hb rfl hl' h
      · rw [prs_no (fun _ => h) (by omega) (by omega) (by omega)]; exact parse_a_no w hr hb rfl hl' h
    by_cases h4 : c = 111
    · subst h4
      by_cases h : b.length = 64
      · rw [prs_o h]; exact parse_o_ok w hr hb rfl hl' h
      · rw [prs_no (by omega) (fun _ => h) (by omega) (by omega)]
        by_cases hg : 32 ≤ b.length
        · exact parse_o_no w hr hb rfl hl' hg h
        · exact parse_o_lt w hr hb rfl hl' (by omega)
    by_cases h5 : c = 114
    · subst h5
      by_cases h : b.length = 8
      · rw [prs_n (.inl rfl) h]; exact parse_r_ok w hr hb rfl hl' h
      · rw [prs_no (by omega) (by omega) (fun _ => h) (by omega)]; exact parse_r_no w hr hb rfl hl' h
    by_cases h6 : c = 98
    · subst h6
      by_cases h : b.length = 8
      · rw [prs_n (.inr rfl) h]; exact parse_b_ok w hr hb rfl hl' h
      · rw [prs_no (by omega) (by omega) (fun _ => h) (by omega)]; exact parse_b_no w hr hb rfl hl' h
    by_cases h7 : c = 109
    · subst h7
      cases h : nmOk (strOf b)
      · rw [prs_no (by omega) (by omega) (by omega) (fun _ => h)]; exact parse_m_no w hr hb rfl hl' rfl h
      · rw [prs_m h]; exact parse_m_ok w hr hb rfl hl' rfl h
    · rw [prs_no (by omega) (by omega) (by omega) (by omega)]; exact parse_x w hr hb rfl hl' ⟨h4, h1, h2, h3, h5, h6, h7⟩

theorem rparse_c (w : World) {v : Value} {key : List Nat} (hr : Rd w v (bv key)) (hb : By key) (hl : key.length ≤ 140737488355328) : Calls Try.prog 17 #[v] w (Prsd w key) := by
  unfold Prsd
  cases key with
  | nil =>
    obtain ⟨a, c, rfl⟩ := hr.form
    exact rparse_nil w
  | cons c b =>
    have hl' : b.length < 140737488355328 := by simp at hl; omega
    by_cases h1 : c = 110
    · subst h1
      by_cases h : b.length = 32
      · rw [prs_h (.inl rfl) h]; exact rparse_n_ok w hr hb rfl hl' h
      · rw [prs_no (fun _ => h) (by omega) (by omega) (by omega)]; exact rparse_n_no w hr hb rfl hl' h
    by_cases h2 : c = 99
    · subst h2
      by_cases h : b.length = 32
      · rw [prs_h (.inr (.inl rfl)) h]; exact rparse_c_ok w hr hb rfl hl' h
      · rw [prs_no (fun _ => h) (by omega) (by omega) (by omega)]; exact rparse_c_no w hr hb rfl hl' h
    by_cases h3 : c = 97
    · subst h3
      by_cases h : b.length = 32
      · rw [prs_h (.inr (.inr rfl)) h]; exact rparse_a_ok w hr hb rfl hl' h
      · rw [prs_no (fun _ => h) (by omega) (by omega) (by omega)]; exact rparse_a_no w hr hb rfl hl' h
    by_cases h4 : c = 111
    · subst h4
      by_cases h : b.length = 64
      · rw [prs_o h]; exact rparse_o_ok w hr hb rfl hl' h
      · rw [prs_no (by omega) (fun _ => h) (by omega) (by omega)]; exact rparse_o_no w hr hb rfl hl' h
    by_cases h5 : c = 114
    · subst h5
      by_cases h : b.length = 8
      · rw [prs_n (.inl rfl) h]; exact rparse_r_ok w hr hb rfl hl' h
      · rw [prs_no (by omega) (by omega) (fun _ => h) (by omega)]; exact rparse_r_no w hr hb rfl hl' h
    by_cases h6 : c = 98
    · subst h6
      by_cases h : b.length = 8
      · rw [prs_n (.inr rfl) h]; exact rparse_b_ok w hr hb rfl hl' h
      · rw [prs_no (by omega) (by omega) (fun _ => h) (by omega)]; exact rparse_b_no w hr hb rfl hl' h
    by_cases h7 : c = 109
    · subst h7
      cases h : nmOk (strOf b)
      · rw [prs_no (by omega) (by omega) (by omega) (fun _ => h)]; exact rparse_m_no w hr hb rfl hl' rfl h
      · rw [prs_m h]; exact rparse_m_ok w hr hb rfl hl' rfl h
    · rw [prs_no (by omega) (by omega) (by omega) (by omega)]; exact rparse_x w hr hb rfl hl' ⟨h4, h1, h2, h3, h5, h6, h7⟩
end Go.Proofs.Ytpacijcjcdigmaa
