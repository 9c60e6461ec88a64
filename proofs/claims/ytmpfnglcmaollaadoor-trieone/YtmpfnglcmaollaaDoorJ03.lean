/-
  Items without the program: trees of bytes cut off at a depth, their encoding, their faults, and how they are read again.
-/
import Derived.Test.YtmpfnglcmaollaaDoorJ00
import Derived.Test.YtmpfnglcmaollaaDoorJ02
namespace Go.Proofs.YtmpfnglcmaollaaDoor

/-- An item, so many levels of it; what lies deeper is not looked at. -/
def Tr : Nat → Type
  | 0 => Unit
  | n + 1 => Bool × List Nat × List (Tr n)
def mkT {n : Nat} (l : Bool) (b : List Nat) (ks : List (Tr n)) : Tr (n + 1) := (l, b, ks)
def tL {n : Nat} (t : Tr (n + 1)) : Bool := Prod.fst (α := Bool) (β := List Nat × List (Tr n)) t
def tB {n : Nat} (t : Tr (n + 1)) : List Nat := (Prod.snd (α := Bool) (β := List Nat × List (Tr n)) t).1
def tK {n : Nat} (t : Tr (n + 1)) : List (Tr n) := (Prod.snd (α := Bool) (β := List Nat × List (Tr n)) t).2
theorem tL_mk {n : Nat} (l : Bool) (b : List Nat) (ks : List (Tr n)) : tL (mkT l b ks) = l := rfl
theorem tB_mk {n : Nat} (l : Bool) (b : List Nat) (ks : List (Tr n)) : tB (mkT l b ks) = b := rfl
theorem tK_mk {n : Nat} (l : Bool) (b : List Nat) (ks : List (Tr n)) : tK (mkT l b ks) = ks := rfl
theorem tr_eta {n : Nat} (t : Tr (n + 1)) : mkT (tL t) (tB t) (tK t) = t := rfl

/-- A number's bytes, the highest first. -/
def digF : Nat → Nat → List Nat
  | 0, _ => []
  | f + 1, n => if n = 0 then [] else digF f (n / 256) ++ [n % 256]
def digs (n : Nat) : List Nat := digF 8 n
/-- What bytes say, the highest first. -/
def big (b : List Nat) : Nat := b.foldl (fun a x => 256 * a + x) 0
theorem big_snoc (a : List Nat) (x : Nat) : big (a ++ [x]) = 256 * big a + x := by unfold big; rw [List.foldl_append]; rfl
theorem digF_len : ∀ (f n : Nat), (digF f n).length ≤ f
  | 0, _ => Nat.le_refl _
  | f + 1, n => by
    unfold digF
    split
    · simp
    · rw [List.length_append]; have := digF_len f (n / 256); simp; omega
theorem digF_by : ∀ (f n : Nat), By (digF f n)
  | 0, _ => fun x hx => by simp [digF] at hx
  | f + 1, n => by
    unfold digF
    split
    · intro x hx; simp at hx
    · refine (digF_by f _).append fun x hx => ?_
      simp at hx; omega
theorem digF_big : ∀ (f n : Nat), n < 256 ^ f → big (digF f n) = n
  | 0, n, h => by simp at h; subst h; rfl
  | f + 1, n, h => by
    unfold digF
    split
    · subst_vars; rfl
    · rw [big_snoc, digF_big f (n / 256) (by rw [Nat.pow_succ] at h; omega)]; omega
theorem digF_head : ∀ (f n x : Nat) (r : List Nat), n < 256 ^ f → digF f n = x :: r → x ≠ 0
  | 0, n, x, r, _, h => by simp [digF] at h
  | f + 1, n, x, r, hn, h => by
    unfold digF at h
    split at h
    · cases h
    · rename_i h0
      have hq : n / 256 < 256 ^ f := by rw [Nat.pow_succ] at hn; omega
      rcases hd : digF f (n / 256) with _ | ⟨y, s⟩
      · rw [hd] at h
        have hz := digF_big f (n / 256) hq
        rw [hd] at hz
        simp at h
        have : n / 256 = 0 := by rw [← hz]; rfl
        omega
      · rw [hd] at h
        simp at h
        have := digF_head f (n / 256) y s hq hd
        omega
theorem digF_pos {f n : Nat} (h : n ≠ 0) : 0 < (digF (f + 1) n).length := by unfold digF; rw [if_neg h]; simp
theorem big_pos : ∀ (b : List Nat) (x : Nat) (r : List Nat), b = x :: r → x ≠ 0 → big b ≠ 0 := by
  intro b
  induction hb : b.length generalizing b with
  | zero => intro x r h; subst h; simp at hb
  | succ m ih =>
    intro x r h hx
    rcases List.eq_nil_or_concat b with h0 | ⟨a, y, rfl⟩
    · rw [h0] at h; cases h
    · rw [List.concat_eq_append] at h ⊢
      rw [big_snoc]
      rcases a with _ | ⟨z, s⟩
      · simp at h; omega
      · simp at h hb
        have := ih (z :: s) (by simp; omega) x s (by rw [h.1]) hx
        omega
theorem digF_of_big : ∀ (f : Nat) (b : List Nat), By b → b.length ≤ f → (∀ x r, b = x :: r → x ≠ 0) → digF f (big b) = b
  | 0, b, _, h, _ => by
    have : b = [] := List.eq_nil_of_length_eq_zero (by omega)
    subst this; rfl
  | f + 1, b, hb, h, h0 => by
    rcases List.eq_nil_or_concat b with rfl | ⟨a, y, rfl⟩
    · rfl
    · rw [List.concat_eq_append] at *
      have hy : y < 256 := hb y (by simp)
      rw [big_snoc]
      unfold digF
      have hne : ¬ 256 * big a + y = 0 := by
        rcases a with _ | ⟨z, s⟩
        · have := h0 y [] rfl; simp [big]; exact this
        · have := big_pos (z :: s) z s rfl (h0 z (s ++ [y]) rfl)
          omega
      rw [if_neg hne, show (256 * big a + y) / 256 = big a by omega, show (256 * big a + y) % 256 = y by omega,
        digF_of_big f a (fun n hn => hb n (by simp [hn])) (by simp at h; omega) (fun x r e => h0 x (r ++ [y]) (by rw [e]; rfl))]
theorem big_lt : ∀ (b : List Nat), By b → big b < 256 ^ b.length := by
  intro b
  induction hb : b.length generalizing b with
  | zero => intro _; have : b = [] := List.eq_nil_of_length_eq_zero hb; subst this; simp [big]
  | succ m ih =>
    intro h
    rcases List.eq_nil_or_concat b with h0 | ⟨a, y, rfl⟩
    · rw [h0] at hb; simp at hb
    · rw [List.concat_eq_append] at *
      have hy : y < 256 := h y (by simp)
      have := ih a (by simp at hb; exact hb) (fun n hn => h n (by simp [hn]))
      rw [big_snoc, Nat.pow_succ]; omega

/-- What stands ahead of so many bytes. -/
def headL (base n : Nat) : List Nat := if n ≤ 55 then [base + n] else (base + 55 + (digs n).length) :: digs n
def strL (b : List Nat) : List Nat := if b.length = 1 ∧ b.headD 0 < 128 then b else headL 128 b.length ++ b
theorem headL_len (base n : Nat) : 1 ≤ (headL base n).length ∧ (headL base n).length ≤ 9 := by
  unfold headL
  split
  · simp
  · have := digF_len 8 n; simp [digs]; omega
theorem headL_by {base n : Nat} (h : base ≤ 192) : By (headL base n) := by
  unfold headL
  split
  · intro x hx; simp at hx; omega
  · intro x hx
    rcases List.mem_cons.1 hx with rfl | hx
    · have := digF_len 8 n; unfold digs; omega
    · exact digF_by 8 n x hx
theorem strL_by {b : List Nat} (h : By b) : By (strL b) := by
  unfold strL
  split
  · exact h
  · exact (headL_by (by omega)).append h
theorem strL_len (b : List Nat) : b.length ≤ (strL b).length ∧ (strL b).length ≤ b.length + 9 ∧ 1 ≤ (strL b).length := by
  unfold strL
  split
  · omega
  · have := headL_len 128 b.length; rw [List.length_append]; omega

/-- The bytes of an item. -/
def enc : (n : Nat) → Tr n → List Nat
  | 0, _ => []
  | n + 1, t => if tL t = true then headL 192 ((tK t).flatMap (enc n)).length ++ (tK t).flatMap (enc n) else strL (tB t)

/-- The first of a row's answers that isn't 0. -/
def firstBad {α : Type} (f : α → Nat) : List α → Nat
  | [] => 0
  | k :: r => if f k = 0 then firstBad f r else f k
/-- The first fault of an item that stands so deep. -/
def bad : (n : Nat) → Nat → Tr n → Nat
  | 0, _, _ => 43
  | n + 1, d, t => if 16 < d then 43 else if (tL t = true ∧ tB t ≠ []) ∨ (tL t = false ∧ tK t ≠ []) then 40 else firstBad (bad n (d + 1)) (tK t)
/-- How many items an item is. -/
def cnt : (n : Nat) → Tr n → Nat
  | 0, _ => 0
  | n + 1, t => 1 + ((tK t).map (cnt n)).sum
/-- How many the statements count. -/
def cw : (n : Nat) → Tr n → Nat
  | 0, _ => 401
  | n + 1, t => 1 + (tB t).length / 50 + ((tK t).map (cw n)).sum
/-- Nothing is cut off. -/
def full : (n : Nat) → Tr n → Prop
  | 0, _ => False
  | n + 1, t => ∀ k ∈ tK t, full n k
/-- All bytes are bytes. -/
def byT : (n : Nat) → Tr n → Prop
  | 0, _ => True
  | n + 1, t => By (tB t) ∧ ∀ k ∈ tK t, byT n k

theorem firstBad_zero {α : Type} {f : α → Nat} : ∀ {l : List α}, firstBad f l = 0 ↔ ∀ k ∈ l, f k = 0
  | [] => by simp [firstBad]
  | k :: r => by
    unfold firstBad
    by_cases h : f k = 0
    · rw [if_pos h, firstBad_zero]; simp [h]
    · rw [if_neg h]; simp [h]
theorem bad_cases {n d : Nat} {t : Tr (n + 1)} (h : bad (n + 1) d t = 0) : d ≤ 16 ∧ ((tL t = true ∧ tB t = [] ∧ ∀ k ∈ tK t, bad n (d + 1) k = 0) ∨ (tL t = false ∧ tK t = [])) := by
  unfold bad at h
  split at h
  · cases h
  · split at h
    · cases h
    · rename_i h1 h2
      refine ⟨by omega, ?_⟩
      rcases hl : tL t with _ | _
      · right
        refine ⟨rfl, ?_⟩
        rcases hk : tK t with _ | _
        · rfl
        · exact absurd (.inr ⟨hl, by simp [hk]⟩) h2
      · left
        refine ⟨rfl, ?_, firstBad_zero.1 h⟩
        rcases hk : tB t with _ | _
        · rfl
        · exact absurd (.inl ⟨hl, by simp [hk]⟩) h2
theorem bad_of {n d : Nat} {t : Tr (n + 1)} (hd : d ≤ 16) (h : (tL t = true ∧ tB t = [] ∧ ∀ k ∈ tK t, bad n (d + 1) k = 0) ∨ (tL t = false ∧ tK t = [])) : bad (n + 1) d t = 0 := by
  unfold bad
  rw [if_neg (by omega)]
  rcases h with ⟨h1, h2, h3⟩ | ⟨h1, h2⟩
  · rw [if_neg (by simp [h1, h2]), firstBad_zero]; exact h3
  · rw [if_neg (by simp [h1, h2]), h2]; rfl
theorem full_of_bad : ∀ (n d : Nat) (t : Tr n), bad n d t = 0 → full n t
  | 0, _, _, h => by simp [bad] at h
  | n + 1, d, t, h => by
    intro k hk
    rcases (bad_cases h).2 with ⟨_, _, h3⟩ | ⟨_, h3⟩
    · exact full_of_bad n (d + 1) k (h3 k hk)
    · rw [h3] at hk; cases hk
theorem sum_mem {α : Type} {f : α → Nat} : ∀ {l : List α} {k : α}, k ∈ l → f k ≤ (l.map f).sum
  | [], _, h => by cases h
  | x :: r, k, h => by
    rcases List.mem_cons.1 h with rfl | h
    · simp
    · have := sum_mem (f := f) h; simp; omega
theorem full_of_cw : ∀ (n : Nat) (t : Tr n), cw n t ≤ 400 → full n t
  | 0, _, h => by simp [cw] at h
  | n + 1, t, h => by
    intro k hk
    unfold cw at h
    have := sum_mem (f := cw n) hk
    exact full_of_cw n k (by omega)
theorem sum_le {α : Type} {f g : α → Nat} : ∀ {l : List α}, (∀ k ∈ l, f k ≤ g k) → (l.map f).sum ≤ (l.map g).sum
  | [], _ => by simp
  | x :: r, h => by
    have h1 := h x (by simp)
    have h2 := sum_le (l := r) (f := f) (g := g) fun k hk => h k (by simp [hk])
    simp; omega
theorem sum_mul {α : Type} {f : α → Nat} (c : Nat) : ∀ {l : List α}, (l.map fun x => c * f x).sum = c * (l.map f).sum
  | [] => by simp
  | x :: r => by simp [sum_mul c (l := r), Nat.mul_add]
theorem flatMap_len {α : Type} (f : α → List Nat) : ∀ (l : List α), (l.flatMap f).length = (l.map fun x => (f x).length).sum
  | [] => rfl
  | x :: r => by simp [List.flatMap_cons, flatMap_len f r]
theorem cnt_cw : ∀ (n : Nat) (t : Tr n), cnt n t ≤ cw n t
  | 0, _ => by simp [cnt]
  | n + 1, t => by
    unfold cnt cw
    have := sum_le (l := tK t) (f := cnt n) (g := cw n) fun k _ => cnt_cw n k
    omega
theorem enc_cw : ∀ (n : Nat) (t : Tr n), (enc n t).length ≤ 59 * cw n t
  | 0, _ => by simp [enc]
  | n + 1, t => by
    unfold enc cw
    split
    · have h1 := headL_len 192 ((tK t).flatMap (enc n)).length
      rw [List.length_append]
      have h2 : ((tK t).flatMap (enc n)).length ≤ 59 * ((tK t).map (cw n)).sum := by
        rw [flatMap_len, ← sum_mul]
        exact sum_le fun k _ => enc_cw n k
      omega
    · have := strL_len (tB t)
      omega
theorem enc_by : ∀ (n : Nat) (t : Tr n), byT n t → By (enc n t)
  | 0, _, _ => fun x hx => by simp [enc] at hx
  | n + 1, t, h => by
    unfold enc
    split
    · refine (headL_by (by omega)).append fun x hx => ?_
      obtain ⟨k, hk, hx⟩ := List.mem_flatMap.1 hx
      exact enc_by n k (h.2 k hk) x hx
    · exact strL_by h.1
theorem enc_pos {n : Nat} (t : Tr (n + 1)) : 1 ≤ (enc (n + 1) t).length := by
  unfold enc
  split
  · have := headL_len 192 ((tK t).flatMap (enc n)).length; rw [List.length_append]; omega
  · exact (strL_len _).2.2

/-- Are two the same? -/
def eqT : (n : Nat) → Tr n → Tr n → Bool
  | 0, _, _ => true
  | n + 1, t, u => tL t == tL u && (decide (tB t = tB u) && (decide ((tK t).length = (tK u).length) && ((tK t).zip (tK u)).all fun p => eqT n p.1 p.2))
theorem zip_all_eq {α : Type} {f : α → α → Bool} (hf : ∀ a b, f a b = true ↔ a = b) : ∀ (l m : List α), l.length = m.length → ((l.zip m).all (fun p => f p.1 p.2) = true ↔ l = m)
  | [], [], _ => by simp
  | [], _ :: _, h => by simp at h
  | _ :: _, [], h => by simp at h
  | x :: l, y :: m, h => by
    have := zip_all_eq hf l m (by simpa using h)
    rw [List.zip_cons_cons, List.all_cons, Bool.and_eq_true, this, hf]
    simp
theorem eqT_iff : ∀ (n : Nat) (t u : Tr n), eqT n t u = true ↔ t = u
  | 0, _, _ => ⟨fun _ => rfl, fun _ => rfl⟩
  | n + 1, t, u => by
    have hz := fun h => zip_all_eq (f := eqT n) (eqT_iff n) (tK t) (tK u) h
    unfold eqT
    constructor
    · intro h
      simp only [Bool.and_eq_true, beq_iff_eq, decide_eq_true_eq] at h
      obtain ⟨h1, h2, h3, h4⟩ := h
      rw [← tr_eta t, ← tr_eta u, h1, h2, (hz h3).1 h4]
    · intro h
      subst h
      simp only [Bool.and_eq_true, beq_iff_eq, decide_eq_true_eq]
      exact ⟨trivial, trivial, trivial, (hz rfl).2 rfl⟩
end Go.Proofs.YtmpfnglcmaollaaDoor
namespace Go.Proofs.YtmpfnglcmaollaaDoor
open Go.ChangeShapes Go.WideShapes Go.ChangeAt Go.RowKit

theorem big_take {b : List Nat} {k x : Nat} (h : b[k]? = some x) : big (b.take (k + 1)) = 256 * big (b.take k) + x := by
  rw [List.take_add_one, h]; exact big_snoc _ _
theorem or_byte {a x : Nat} (hx : x < 256) : a * 256 ||| x = a * 256 + x := by
  have := Nat.two_pow_add_eq_or_of_lt (i := 8) (b := x) (by omega) a
  rw [show 2 ^ 8 * a = a * 256 by omega] at this
  exact this.symm

set_option maxRecDepth 20000 in
set_option maxHeartbeats 400000 in
theorem number_c (w : World) {v : Value} {b : List Nat} (hr : Rd w v (bv b)) (hb : By b) (hl : b.length ≤ 8) :
    Calls Tryd.prog 118 #[v] w fun e w' => e = .returned (.int .u64 (big b : Int)) ∧ w' = w := by
  have HB := hid hb
  have HR := hid hr
  rcases hr.split with ⟨rfl, a, c, rfl⟩ | ⟨q, off, c, rfl, h1, h2, h3⟩
  · clear hb hr HB HR
    go_enter Tryd.func118, Tryd.ntmps118
    go_wp2
    refine wp_loop_rounds 1 ?_
    rw [rounds_succ]
    go_wp2
    go_ret
    exact ⟨rfl, rfl⟩
  · have HC := hid h3
    clear hb hr h3 HR
    go_enter Tryd.func118, Tryd.ntmps118
    go_wp2
    go_loop [3, 8] (fun v3 v8 => ∃ (k m : Nat), k ≤ b.length ∧ v8 = .int .i64 (k : Int) ∧ v3 = .int .u64 (m : Int) ∧ m = big (b.take k)) (fun _ v8 => b.length - (intOf v8).toNat)
    case atStart => exact ⟨0, 0, by omega, rfl, rfl, rfl⟩
    case round =>
      obtain ⟨k, m, hk, rfl, rfl, hm⟩ := hrel
      have HM := hid hm
      have hm1 : m < 256 ^ k := by rw [hm]; have := big_lt (b.take k) (HB.out.take k); rwa [List.length_take, Nat.min_eq_left hk] at this
      clear hm
      by_cases hkl : k < b.length
      · obtain ⟨x, hx⟩ : ∃ x, b[k]? = some x := ⟨_, List.getElem?_eq_getElem hkl⟩
        have hc := HC.out k x hx
        have hx1 := HB.out.at hx
        have hstep : m * 256 < 18446744073709551616 := by
          have : (256 : Nat) ^ k * 256 ≤ 256 ^ 8 := by rw [← Nat.pow_succ]; exact Nat.pow_le_pow_right (by omega) (by omega)
          omega
        have hor : bits .or .u64 ((m : Int) * 256) (x : Int) = (m : Int) * 256 + (x : Int) := by
          have h := u64_or_nat (m * 256) x (by omega) (by omega)
          rw [or_byte hx1] at h
          simpa using h
        go_wp2
        go_round
        case rel => exact ⟨k + 1, m * 256 + x, by omega, by go_num, by go_num, by rw [big_take hx, HM.out]; omega⟩
        case measure => simp [intOf]; omega
      · have : k = b.length := by omega
        subst this
        rw [List.take_length] at HM
        have hmb := HM.out
        subst hmb
        go_wp2
        go_ret
        exact ⟨rfl, rfl⟩

theorem slice8 (w : World) (p l : Nat) (hl : l ≤ 8) : (Instr.sliceAt 174 (.pointer (some ⟨p, 0, none⟩)) (some (.int .i64 (l : Int))) none none).run Tryd.prog w = .ok (.slice (some ⟨p, if l = 8 then 0 else l, none⟩) (8 - l) (8 - l)) w := by
  have h1 : Tryd.prog.arrayLen 174 = 8 := by kernel_rfl
  have h3 : (sizeOf (Tryd.prog.elem 174)).run Tryd.prog w = .ok 1 w := by kernel_rfl
  have := run_sliceAt_array_l (P := Tryd.prog) w 174 ⟨p, 0, none⟩ (by kernel_rfl) .i64 (l : Int) (by omega) (by rw [h1]; omega)
  rw [this, h3, h1]
  simp only [Result.andThen_ok, slicedAt, Int.toNat_natCast, Nat.mul_one]
  by_cases h : l = 8
  · subst h; rfl
  · rw [if_neg (by omega), if_neg h, Addr.add_lit, Nat.zero_add]
theorem digF_zero (f : Nat) : digF f 0 = [] := by cases f <;> rfl

set_option maxRecDepth 20000 in
set_option maxHeartbeats 400000 in
theorem digits_c (w : World) (n : Nat) (hn : n < 18446744073709551616) :
    Calls Tryd.prog 104 #[.int .u64 (n : Int)] w fun e w' => ∃ v', e = .returned v' ∧ w'.ownsRow w.heap.size 5 1 v' (digs n).length (bv (digs n)) ∧ Fr [] w w' := by
  have hs8 := slice8
  obtain ⟨N, hN⟩ : ∃ N, N = w.heap.size := ⟨_, rfl⟩
  have HN := hid hN
  have HS := hid (show digs n = digF 8 n from rfl)
  go_enter Tryd.func104, Tryd.ntmps104
  go_wp2
  rw [← hN]
  clear hN
  go_loopw [0, 4] (fun v0 v4 wr => ∃ (s m : Nat) (ds : List Nat) (cur : List Value), s ≤ 8 ∧ v0 = .int .u64 (m : Int) ∧ v4 = .int .i64 (s : Int) ∧ m < 256 ^ s ∧ ds.length = 8 - s ∧ cur.length = 8 ∧ cur.drop s = bv ds ∧ wr.heap[N]? = some (.cells cur.toArray 174 (0, 0)) ∧ Fr [] w wr ∧ digs n = digF s m ++ ds) (fun _ v4 _ => (intOf v4).toNat)
  case atStart => exact ⟨8, n, [], _, by omega, rfl, rfl, by omega, rfl, rfl, rfl, new_at w _ HN.out, (Fr.refl _ _).alloc _, by rw [HS.out, List.append_nil]⟩
  case round =>
    obtain ⟨s, m, ds, cur, h1, rfl, rfl, h2, h3, h4, h5, h6, h7, h8⟩ := hrel
    have H3 := hid h3
    have H5 := hid h5
    have H6 := hid h6
    have H7 := hid h7
    have H8 := hid h8
    clear h3 h5 h6 h7 h8
    by_cases hm : m = 0
    · subst hm
      have hr : Rd wr (.slice (some ⟨N, if s = 8 then 0 else s, none⟩) (8 - s) (8 - s)) (bv ds) := by
        refine .inr ⟨_, _, by rw [bv_len, H3.out], by rw [bv_len, H3.out]; exact Nat.le_refl _, fun j u hj => ?_⟩
        rw [← H5.out, List.getElem?_drop] at hj
        by_cases h : s = 8
        · subst h; rw [List.getElem?_eq_none (by omega)] at hj; cases hj
        · rw [if_neg h, Addr.add_lit, blk_cell H6.out]; simpa using hj
      have hd : ds = digs n := by rw [H8.out, digF_zero]; rfl
      have HD := hid hd
      clear hd hs8
      by_cases h88 : s = 8
      · subst h88
        rw [if_pos rfl] at hr
        have HR := hid hr
        clear hr
        go_wp2_with fail
        refine (cloneR_c HR.out (by rw [H3.out]; omega)).mono ?_
        rintro e w1 ⟨v1, rfl, o1, f1⟩
        rw [HD.out] at o1
        have O1 := hid (ownsRow_base o1 H7.out.size)
        have F1 := hid (H7.out.trans f1)
        clear o1 f1
        go_wp2
        go_ret
        exact ⟨v1, rfl, O1.out, F1.out⟩
      · have hs8' : s < 8 := by omega
        rw [if_neg h88] at hr
        have hsl := slice8 wr N s h1
        rw [if_neg h88] at hsl
        have HR := hid hr
        clear hr
        go_wp2_with fail
        refine (cloneR_c HR.out (by rw [H3.out]; omega)).mono ?_
        rintro e w1 ⟨v1, rfl, o1, f1⟩
        rw [HD.out] at o1
        have O1 := hid (ownsRow_base o1 H7.out.size)
        have F1 := hid (H7.out.trans f1)
        clear o1 f1
        go_wp2
        go_ret
        exact ⟨v1, rfl, O1.out, F1.out⟩
    · have hs0 : s ≠ 0 := fun e => by subst e; simp at h2; exact hm h2
      obtain ⟨q, rfl⟩ : ∃ q, s = q + 1 := ⟨s - 1, by omega⟩
      have hcell : wr.cell? ⟨N, q, none⟩ = some (cur[q]'(by omega)) := by rw [blk_cell H6.out]; simp
      have hfz : wr.frozen? ⟨N, q, none⟩ = false := blk_frozen H6.out q
      have hm0 : 0 < m := by omega
      have hm1 : m < 18446744073709551616 := by
        have : (256 : Nat) ^ (q + 1) ≤ 256 ^ 8 := Nat.pow_le_pow_right (by omega) h1
        omega
      have B : Hid (∀ w2, w2 = wr.setCell ⟨N, q, none⟩ (.int .u8 (m % 256 : Nat)) → w2.heap[N]? = some (.cells (cur.set q (.int .u8 (m % 256 : Nat))).toArray 174 (0, 0)) ∧ Fr [] w w2) := fun w2 e => by
        subst e
        refine ⟨?_, H7.out.set _ _ (.inr (by rw [HN.out]; exact Nat.le_refl _))⟩
        rw [blk_set H6.out]
        simp
      go_wp2
      go_roundw
      case rel =>
        obtain ⟨b1, b2⟩ := B.out (wr.setCell ⟨N, q, none⟩ (.int .u8 ((m : Int) % 256))) (by rw [Int.natCast_emod]; rfl)
        refine ⟨q, m / 256, (m % 256) :: ds, _, by omega, by go_num, by go_num, ?_, by rw [List.length_cons, H3.out]; omega, by rw [List.length_set]; exact h4, ?_, b1, b2, ?_⟩
        · rw [Nat.pow_succ] at h2; omega
        · rw [List.drop_eq_getElem_cons (by rw [List.length_set]; omega), List.getElem_set_self, List.drop_set_of_lt (by omega), H5.out]; rfl
        · rw [H8.out, digF, if_neg (by omega), List.append_assoc]; rfl
      case measure => simp [intOf]

theorem own_lit1 (W : World) {z : Int} {x g B : Nat} (hz : z = (x : Int)) (hg : g = W.heap.size) (hB : B ≤ W.heap.size) : (W.alloc (.cells #[.int .u8 z] 5)).ownsRow B 5 1 (.slice (some ⟨g, 0, none⟩) 1 1) 1 (bv [x]) := by
  subst hz; subst hg
  exact World.ownsRow_lit W #[.int .u8 (x : Int)] 1 hB (by unfold maxLen; omega) rfl
theorem cut8 {n : Nat} (h : n < 256) : IntKind.u8.wrap (n : Int) = (n : Int) := by rw [IntKind.wrap_u8]; omega
theorem headL_short {base n : Nat} (h : n ≤ 55) : headL base n = [base + n] := by unfold headL; rw [if_pos h]
theorem headL_long {base n : Nat} (h : 55 < n) : headL base n = [base + 55 + (digs n).length] ++ digs n := by unfold headL; rw [if_neg (by omega)]; rfl
theorem headL_one : headL 128 1 = [129] := rfl

/-- What is in the last statement of head, behind digits. -/
theorem insert_head {w w1 : World} {v1 : Value} {D : List Nat} {x : Nat} {z : Int} (o1 : w1.ownsRow w.heap.size 5 1 v1 D.length (bv D)) (f1 : Fr [] w w1) (hz : z = (x : Int)) (hl : D.length ≤ 8) :
    Calls Tryd.prog 87 #[v1, .int .i64 0, .slice (some ⟨w1.heap.size, 0, none⟩) 1 1] (w1.alloc (.cells #[.int .u8 z] 5)) fun e w' => ∃ v', e = .returned v' ∧ w'.ownsRow w.heap.size 5 1 v' ([x] ++ D).length (bv ([x] ++ D)) ∧ Fr [] w w' := by
  have o2 : (w1.alloc (.cells #[.int .u8 z] 5)).ownsRow w.heap.size 5 1 v1 D.length (bv D) := ownsRow_fr o1 ((Fr.refl _ _).alloc _)
  have hsz := f1.size
  refine (insert_c (w1.alloc (.cells #[.int .u8 z] 5)) (base := w.heap.size) (base2 := w.heap.size) (ys := [x]) (i := 0) (by simp; omega) o2 (own_lit1 w1 hz rfl hsz) ?_ (by omega) (by simp; omega)).mono ?_
  · intro k hk h
    simp only [Value.ownBlock, Option.some.injEq] at h
    have := (o1.lt k hk).2
    omega
  · rintro e w' ⟨v', rfl, o, g⟩
    refine ⟨v', rfl, ?_, (f1.alloc _).grew o2 (Nat.le_refl _) g⟩
    rw [List.take_zero, List.drop_zero, List.nil_append] at o
    rw [List.length_append, Nat.add_comm]
    exact o

set_option maxRecDepth 20000 in
set_option maxHeartbeats 400000 in
theorem head_str (w : World) (bs is : Value) (n : Nat) (hn : n ≤ 140737488355328) (hs : n = 1 → ∃ (q off c x : Nat), bs = .slice (some ⟨q, off, none⟩) 1 c ∧ w.cell? ⟨q, off, none⟩ = some (.int .u8 (x : Int)) ∧ 128 ≤ x ∧ x < 256) :
    Calls Tryd.prog 86 #[.agg #[.bool false, bs, is], .int .i64 (n : Int)] w fun e w' => ∃ v', e = .returned v' ∧ w'.ownsRow w.heap.size 5 1 v' (headL 128 n).length (bv (headL 128 n)) ∧ Fr [] w w' := by
  by_cases h1 : n = 1
  · obtain ⟨q, off, c, x, rfl, hc, hx, hx2⟩ := hs h1
    subst h1
    have hc1 : (w.alloc (.cells #[.bool false, .slice (some ⟨q, off, none⟩) 1 c, is] 77)).cell? ⟨q, off, none⟩ = some (.int .u8 (x : Int)) := by
      rw [World.cell?_of_block (w := w) (blk_old w _ (World.block_lt_of_cell? w _ hc))]; exact hc
    rw [headL_one]
    clear hc hs
    go_enter Tryd.func86, Tryd.ntmps86
    go_wp2
    go_ret
    exact ⟨_, rfl, own_lit1 (w.alloc _) rfl (by simp) (by simp), ((Fr.refl _ _).alloc _).alloc _⟩
  · have hz : ((n : Int) == 1) = false := beq_eq_false_iff_ne.2 (by omega)
    clear hs
    by_cases h55 : n ≤ 55
    · have hw1 : IntKind.u8.wrap (n : Int) = (n : Int) := cut8 (by omega)
      have hw2 : IntKind.u8.wrap (128 + (n : Int)) = 128 + (n : Int) := by rw [IntKind.wrap_u8]; omega
      rw [headL_short h55]
      go_enter Tryd.func86, Tryd.ntmps86
      go_wp2
      go_ret
      exact ⟨_, rfl, own_lit1 (w.alloc _) (by omega) (by simp) (by simp), ((Fr.refl _ _).alloc _).alloc _⟩
    · rw [headL_long (by omega)]
      have hdl : (digs n).length ≤ 8 := digF_len 8 n
      obtain ⟨D, hD⟩ : ∃ D, D = digs n := ⟨_, rfl⟩
      have HD := hid hD
      rw [← hD] at hdl ⊢
      have hw1 : IntKind.u8.wrap (D.length : Int) = (D.length : Int) := cut8 (by omega)
      have hw2 : IntKind.u8.wrap (183 + (D.length : Int)) = 183 + (D.length : Int) := by rw [IntKind.wrap_u8]; omega
      clear hD
      go_enter Tryd.func86, Tryd.ntmps86
      go_wp2_with fail
      refine (digits_c _ n (by omega)).mono ?_
      rintro e w1 ⟨v1, rfl, o1, f1⟩
      rw [← HD.out] at o1
      have O1 := hid (ownsRow_base (B' := w.heap.size) o1 (by simp))
      have F1 := hid (((Fr.refl [] w).alloc _).trans f1)
      obtain ⟨a1, c1, rfl, hc1⟩ := ownsRow_slice o1
      clear o1 f1
      go_wp2_with fail
      refine (insert_head (x := 128 + 55 + D.length) O1.out F1.out (by omega) hdl).mono ?_
      rintro e w2 ⟨v2, rfl, o2, f2⟩
      have O2 := hid o2
      have F2 := hid f2
      clear o2 f2
      go_wp2
      go_ret
      exact ⟨v2, rfl, O2.out, F2.out⟩

set_option maxRecDepth 20000 in
set_option maxHeartbeats 400000 in
theorem head_list (w : World) (bs is : Value) (n : Nat) (hn : n ≤ 140737488355328) :
    Calls Tryd.prog 86 #[.agg #[.bool true, bs, is], .int .i64 (n : Int)] w fun e w' => ∃ v', e = .returned v' ∧ w'.ownsRow w.heap.size 5 1 v' (headL 192 n).length (bv (headL 192 n)) ∧ Fr [] w w' := by
  by_cases h55 : n ≤ 55
  · have hw1 : IntKind.u8.wrap (n : Int) = (n : Int) := cut8 (by omega)
    have hw2 : IntKind.u8.wrap (192 + (n : Int)) = 192 + (n : Int) := by rw [IntKind.wrap_u8]; omega
    rw [headL_short h55]
    go_enter Tryd.func86, Tryd.ntmps86
    go_wp2
    go_ret
    exact ⟨_, rfl, own_lit1 (w.alloc _) (by omega) (by simp) (by simp), ((Fr.refl _ _).alloc _).alloc _⟩
  · rw [headL_long (by omega)]
    have hdl : (digs n).length ≤ 8 := digF_len 8 n
    obtain ⟨D, hD⟩ : ∃ D, D = digs n := ⟨_, rfl⟩
    have HD := hid hD
    rw [← hD] at hdl ⊢
    have hw1 : IntKind.u8.wrap (D.length : Int) = (D.length : Int) := cut8 (by omega)
    have hw2 : IntKind.u8.wrap (247 + (D.length : Int)) = 247 + (D.length : Int) := by rw [IntKind.wrap_u8]; omega
    clear hD
    go_enter Tryd.func86, Tryd.ntmps86
    go_wp2_with fail
    refine (digits_c _ n (by omega)).mono ?_
    rintro e w1 ⟨v1, rfl, o1, f1⟩
    rw [← HD.out] at o1
    have O1 := hid (ownsRow_base (B' := w.heap.size) o1 (by simp))
    have F1 := hid (((Fr.refl [] w).alloc _).trans f1)
    obtain ⟨a1, c1, rfl, hc1⟩ := ownsRow_slice o1
    clear o1 f1
    go_wp2_with fail
    refine (insert_head (x := 192 + 55 + D.length) O1.out F1.out (by omega) hdl).mono ?_
    rintro e w2 ⟨v2, rfl, o2, f2⟩
    have O2 := hid o2
    have F2 := hid f2
    clear o2 f2
    go_wp2
    go_ret
    exact ⟨v2, rfl, O2.out, F2.out⟩

set_option maxRecDepth 20000 in
/-- One small byte has no head. -/
theorem head_small (w : World) (is : Value) {q off c x : Nat} (hc : w.cell? ⟨q, off, none⟩ = some (.int .u8 (x : Int))) (hx : x < 128) :
    Calls Tryd.prog 86 #[.agg #[.bool false, .slice (some ⟨q, off, none⟩) 1 c, is], .int .i64 1] w fun e w' => e = .returned (.slice none 0 0) ∧ Fr [] w w' := by
  have hc1 : (w.alloc (.cells #[.bool false, .slice (some ⟨q, off, none⟩) 1 c, is] 77)).cell? ⟨q, off, none⟩ = some (.int .u8 (x : Int)) := by
    rw [World.cell?_of_block (w := w) (blk_old w _ (World.block_lt_of_cell? w _ hc))]; exact hc
  clear hc
  go_enter Tryd.func86, Tryd.ntmps86
  go_wp2
  go_ret
  exact ⟨rfl, (Fr.refl _ _).alloc _⟩
end Go.Proofs.YtmpfnglcmaollaaDoor
