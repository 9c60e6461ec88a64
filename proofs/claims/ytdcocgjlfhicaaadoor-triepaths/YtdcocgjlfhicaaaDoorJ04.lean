/-
  slices.Insert of bytes of the call's own, in one word.
-/
import Derived.Test.YtdcocgjlfhicaaaDoorIn
import Derived.Test.YtdcocgjlfhicaaaDoorNum
namespace Go.Proofs.YtdcocgjlfhicaaaDoor
open Go.ChangeShapes Go.WideShapes Go.ChangeAt Go.RowKit

theorem insert_c (w : World) {base base2 : Nat} (hbw : base ≤ w.heap.size) {v u : Value} {xs ys : List Nat} {i : Nat} (hs : w.ownsRow base 5 1 v xs.length (bv xs)) (hy : w.ownsRow base2 5 1 u ys.length (bv ys)) (hne : ∀ k, v.ownBlock = some k → u.ownBlock ≠ some k) (hi : i ≤ xs.length) (hl : xs.length + ys.length ≤ 140737488355328) :
    Calls Tryd.prog 89 #[v, .int .i64 (i : Int), u] w fun e w' => ∃ v', e = .returned v' ∧ w'.ownsRow base 5 1 v' (xs.length + ys.length) (bv (xs.take i ++ ys ++ xs.drop i)) ∧ w.grownBy w' v.ownBlock := by
  by_cases hm : ys.length = 0
  · have h0 : ys = [] := List.eq_nil_of_length_eq_zero hm
    subst h0
    obtain ⟨a, c, rfl, hc⟩ := ownsRow_slice hs
    obtain ⟨au, cu, rfl, _⟩ := ownsRow_slice hy
    refine (insert_none w rfl rfl hi hc (by omega) ?_).mono ?_
    · intro e
      subst e
      rcases hs.2 with ⟨h, _⟩ | ⟨g, cap, cur, h, _⟩
      · simp only [Value.slice.injEq] at h; exact ⟨h.2.2, h.2.1⟩
      · cases h
    · rintro e w' ⟨rfl, rfl⟩
      refine ⟨_, rfl, ?_, rfl, rfl, rfl, Nat.le_refl _, fun _ _ _ => rfl⟩
      rw [List.append_nil, List.take_append_drop]
      exact hs
  · by_cases hie : i = xs.length
    · subst hie
      refine (insert_end w hbw hs (Rd.ownB hy) (by omega) hl).mono ?_
      rintro e w' ⟨v', rfl, o, g⟩
      refine ⟨v', rfl, ?_, g⟩
      rw [List.take_length, List.drop_length, List.append_nil]
      exact o
    · rcases hs.2 with ⟨_, h0⟩ | ⟨g, c, cur, rfl, hb, hg, hnc, hcm, hsz, hx⟩
      · omega
      · rcases hy.2 with ⟨_, h0⟩ | ⟨gu, cu, curu, rfl, _, hgu, hncu, _, hszu, hyu⟩
        · omega
        · have hne' : gu ≠ g := fun e => hne g rfl (by rw [e]; rfl)
          rw [Nat.mul_one] at hsz hszu hx hyu
          by_cases hroom : xs.length + ys.length ≤ c
          · exact insert_shift w (cur := cur.toList) (curu := curu.toList) hb (by simpa using hg) (by simpa using hsz) hcm hx (by simpa using hgu) hyu hne' (by omega) (by omega) hroom
          · exact insert_grow w (cur := cur.toList) (curu := curu.toList) hbw (by simpa using hg) (by simpa using hsz) hnc hx (by simpa using hgu) hyu (by omega) (by omega) (by omega) hl
end Go.Proofs.YtdcocgjlfhicaaaDoor
namespace Go.Proofs.YtdcocgjlfhicaaaDoor

/-- An item, so many levels of it; what lies deeper is not looked at. -/
def Tr : Nat → Type
  | 0 => Unit
  | n + 1 => Bool × List Nat × List (Tr n)
def mkT {n : Nat} (l : Bool) (b : List Nat) (ks : List (Tr n)) : Tr (n + 1) := (l, b, ks)
def tL {n : Nat} (t : Tr (n + 1)) : Bool := Prod.fst (α := Bool) (β := List Nat × List (Tr n)) t
def tB {n : Nat} (t : Tr (n + 1)) : List Nat := (Prod.snd (α := Bool) (β := List Nat × List (Tr n)) t).1
def tK {n : Nat} (t : Tr (n + 1)) : List (Tr n) := (Prod.snd (α := Bool) (β := List Nat × List (Tr n)) t).2
theorem tL_mk {n : Nat} (l : Bool) (b : List Nat) (ks : List (Tr n)) : tL (mkT l b ks) = l := rfl
theorem tB_mk {n : Nat} (l : Bool) (b : List Nat) (ks : List (Tr n)) : tB (mkT l b ks) = b := rfl
theorem tK_mk {n : Nat} (l : Bool) (b : List Nat) (ks : List (Tr n)) : tK (mkT l b ks) = ks := rfl
theorem tr_eta {n : Nat} (t : Tr (n + 1)) : mkT (tL t) (tB t) (tK t) = t := rfl

/-- A number's bytes, the highest first. -/
def digF : Nat → Nat → List Nat
  | 0, _ => []
  | f + 1, n => if n = 0 then [] else digF f (n / 256) ++ [n % 256]
def digs (n : Nat) : List Nat := digF 8 n
/-- What bytes say, the highest first. -/
def big (b : List Nat) : Nat := b.foldl (fun a x => 256 * a + x) 0
theorem big_snoc (a : List Nat) (x : Nat) : big (a ++ [x]) = 256 * big a + x := by unfold big; rw [List.foldl_append]; rfl
theorem digF_len : ∀ (f n : Nat), (digF f n).length ≤ f
  | 0, _ => Nat.le_refl _
  | f + 1, n => by
    unfold digF
    split
    · simp
    · rw [List.length_append]; have := digF_len f (n / 256); simp; omega
theorem digF_by : ∀ (f n : Nat), By (digF f n)
  | 0, _ => fun x hx => by simp [digF] at hx
  | f + 1, n => by
    unfold digF
    split
    · intro x hx; simp at hx
    · refine (digF_by f _).append fun x hx => ?_
      simp at hx; omega
theorem digF_big : ∀ (f n : Nat), n < 256 ^ f → big (digF f n) = n
  | 0, n, h => by simp at h; subst h; rfl
  | f + 1, n, h => by
    unfold digF
    split
    · subst_vars; rfl
    · rw [big_snoc, digF_big f (n / 256) (by rw [Nat.pow_succ] at h; omega)]; omega
theorem digF_head : ∀ (f n x : Nat) (r : List Nat), n < 256 ^ f → digF f n = x :: r → x ≠ 0
  | 0, n, x, r, _, h => by simp [digF] at h
  | f + 1, n, x, r, hn, h => by
    unfold digF at h
    split at h
    · cases h
    · rename_i h0
      have hq : n / 256 < 256 ^ f := by rw [Nat.pow_succ] at hn; omega
      rcases hd : digF f (n / 256) with _ | ⟨y, s⟩
      · rw [hd] at h
        have hz := digF_big f (n / 256) hq
        rw [hd] at hz
        simp at h
        have : n / 256 = 0 := by rw [← hz]; rfl
        omega
      · rw [hd] at h
        simp at h
        have := digF_head f (n / 256) y s hq hd
        omega
theorem digF_pos {f n : Nat} (h : n ≠ 0) : 0 < (digF (f + 1) n).length := by unfold digF; rw [if_neg h]; simp
theorem big_pos : ∀ (b : List Nat) (x : Nat) (r : List Nat), b = x :: r → x ≠ 0 → big b ≠ 0 := by
  intro b
  induction hb : b.length generalizing b with
  | zero => intro x r h; subst h; simp at hb
  | succ m ih =>
    intro x r h hx
    rcases List.eq_nil_or_concat b with h0 | ⟨a, y, rfl⟩
    · rw [h0] at h; cases h
    · rw [List.concat_eq_append] at h ⊢
      rw [big_snoc]
      rcases a with _ | ⟨z, s⟩
      · simp at h; omega
      · simp at h hb
        have := ih (z :: s) (by simp; omega) x s (by rw [h.1]) hx
        omega
theorem digF_of_big : ∀ (f : Nat) (b : List Nat), By b → b.length ≤ f → (∀ x r, b = x :: r → x ≠ 0) → digF f (big b) = b
  | 0, b, _, h, _ => by
    have : b = [] := List.eq_nil_of_length_eq_zero (by omega)
    subst this; rfl
  | f + 1, b, hb, h, h0 => by
    rcases List.eq_nil_or_concat b with rfl | ⟨a, y, rfl⟩
    · rfl
    · rw [List.concat_eq_append] at *
      have hy : y < 256 := hb y (by simp)
      rw [big_snoc]
      unfold digF
      have hne : ¬ 256 * big a + y = 0 := by
        rcases a with _ | ⟨z, s⟩
        · have := h0 y [] rfl; simp [big]; exact this
        · have := big_pos (z :: s) z s rfl (h0 z (s ++ [y]) rfl)
          omega
      rw [if_neg hne, show (256 * big a + y) / 256 = big a by omega, show (256 * big a + y) % 256 = y by omega,
        digF_of_big f a (fun n hn => hb n (by simp [hn])) (by simp at h; omega) (fun x r e => h0 x (r ++ [y]) (by rw [e]; rfl))]
theorem big_lt : ∀ (b : List Nat), By b → big b < 256 ^ b.length := by
  intro b
  induction hb : b.length generalizing b with
  | zero => intro _; have : b = [] := List.eq_nil_of_length_eq_zero hb; subst this; simp [big]
  | succ m ih =>
    intro h
    rcases List.eq_nil_or_concat b with h0 | ⟨a, y, rfl⟩
    · rw [h0] at hb; simp at hb
    · rw [List.concat_eq_append] at *
      have hy : y < 256 := h y (by simp)
      have := ih a (by simp at hb; exact hb) (fun n hn => h n (by simp [hn]))
      rw [big_snoc, Nat.pow_succ]; omega

/-- What stands ahead of so many bytes. -/
def headL (base n : Nat) : List Nat := if n ≤ 55 then [base + n] else (base + 55 + (digs n).length) :: digs n
def strL (b : List Nat) : List Nat := if b.length = 1 ∧ b.headD 0 < 128 then b else headL 128 b.length ++ b
theorem headL_len (base n : Nat) : 1 ≤ (headL base n).length ∧ (headL base n).length ≤ 9 := by
  unfold headL
  split
  · simp
  · have := digF_len 8 n; simp [digs]; omega
theorem headL_by {base n : Nat} (h : base ≤ 192) : By (headL base n) := by
  unfold headL
  split
  · intro x hx; simp at hx; omega
  · intro x hx
    rcases List.mem_cons.1 hx with rfl | hx
    · have := digF_len 8 n; unfold digs; omega
    · exact digF_by 8 n x hx
theorem strL_by {b : List Nat} (h : By b) : By (strL b) := by
  unfold strL
  split
  · exact h
  · exact (headL_by (by omega)).append h
theorem strL_len (b : List Nat) : b.length ≤ (strL b).length ∧ (strL b).length ≤ b.length + 9 ∧ 1 ≤ (strL b).length := by
  unfold strL
  split
  · omega
  · have := headL_len 128 b.length; rw [List.length_append]; omega

/-- The bytes of an item. -/
def enc : (n : Nat) → Tr n → List Nat
  | 0, _ => []
  | n + 1, t => if tL t = true then headL 192 ((tK t).flatMap (enc n)).length ++ (tK t).flatMap (enc n) else strL (tB t)

/-- The first of a row's answers that isn't 0. -/
def firstBad {α : Type} (f : α → Nat) : List α → Nat
  | [] => 0
  | k :: r => if f k = 0 then firstBad f r else f k
/-- The first fault of an item that stands so deep. -/
def bad : (n : Nat) → Nat → Tr n → Nat
  | 0, _, _ => 43
  | n + 1, d, t => if 16 < d then 43 else if (tL t = true ∧ tB t ≠ []) ∨ (tL t = false ∧ tK t ≠ []) then 40 else firstBad (bad n (d + 1)) (tK t)
/-- How many items an item is. -/
def cnt : (n : Nat) → Tr n → Nat
  | 0, _ => 0
  | n + 1, t => 1 + ((tK t).map (cnt n)).sum
/-- How many the statements count. -/
def cw : (n : Nat) → Tr n → Nat
  | 0, _ => 401
  | n + 1, t => 1 + (tB t).length / 50 + ((tK t).map (cw n)).sum
/-- Nothing is cut off. -/
def full : (n : Nat) → Tr n → Prop
  | 0, _ => False
  | n + 1, t => ∀ k ∈ tK t, full n k
/-- All bytes are bytes. -/
def byT : (n : Nat) → Tr n → Prop
  | 0, _ => True
  | n + 1, t => By (tB t) ∧ ∀ k ∈ tK t, byT n k

theorem firstBad_zero {α : Type} {f : α → Nat} : ∀ {l : List α}, firstBad f l = 0 ↔ ∀ k ∈ l, f k = 0
  | [] => by simp [firstBad]
  | k :: r => by
    unfold firstBad
    by_cases h : f k = 0
    · rw [if_pos h, firstBad_zero]; simp [h]
    · rw [if_neg h]; simp [h]
theorem bad_cases {n d : Nat} {t : Tr (n + 1)} (h : bad (n + 1) d t = 0) : d ≤ 16 ∧ ((tL t = true ∧ tB t = [] ∧ ∀ k ∈ tK t, bad n (d + 1) k = 0) ∨ (tL t = false ∧ tK t = [])) := by
  unfold bad at h
  split at h
  · cases h
  · split at h
    · cases h
    · rename_i h1 h2
      refine ⟨by omega, ?_⟩
      rcases hl : tL t with _ | _
      · right
        refine ⟨rfl, ?_⟩
        rcases hk : tK t with _ | _
        · rfl
        · exact absurd (.inr ⟨hl, by simp [hk]⟩) h2
      · left
        refine ⟨rfl, ?_, firstBad_zero.1 h⟩
        rcases hk : tB t with _ | _
        · rfl
        · exact absurd (.inl ⟨hl, by simp [hk]⟩) h2
theorem bad_of {n d : Nat} {t : Tr (n + 1)} (hd : d ≤ 16) (h : (tL t = true ∧ tB t = [] ∧ ∀ k ∈ tK t, bad n (d + 1) k = 0) ∨ (tL t = false ∧ tK t = [])) : bad (n + 1) d t = 0 := by
  unfold bad
  rw [if_neg (by omega)]
  rcases h with ⟨h1, h2, h3⟩ | ⟨h1, h2⟩
  · rw [if_neg (by simp [h1, h2]), firstBad_zero]; exact h3
  · rw [if_neg (by simp [h1, h2]), h2]; rfl
theorem full_of_bad : ∀ (n d : Nat) (t : Tr n), bad n d t = 0 → full n t
  | 0, _, _, h => by simp [bad] at h
  | n + 1, d, t, h => by
    intro k hk
    rcases (bad_cases h).2 with ⟨_, _, h3⟩ | ⟨_, h3⟩
    · exact full_of_bad n (d + 1) k (h3 k hk)
    · rw [h3] at hk; cases hk
theorem sum_mem {α : Type} {f : α → Nat} : ∀ {l : List α} {k : α}, k ∈ l → f k ≤ (l.map f).sum
  | [], _, h => by cases h
  | x :: r, k, h => by
    rcases List.mem_cons.1 h with rfl | h
    · simp
    · have := sum_mem (f := f) h; simp; omega
theorem full_of_cw : ∀ (n : Nat) (t : Tr n), cw n t ≤ 400 → full n t
  | 0, _, h => by simp [cw] at h
  | n + 1, t, h => by
    intro k hk
    unfold cw at h
    have := sum_mem (f := cw n) hk
    exact full_of_cw n k (by omega)
theorem sum_le {α : Type} {f g : α → Nat} : ∀ {l : List α}, (∀ k ∈ l, f k ≤ g k) → (l.map f).sum ≤ (l.map g).sum
  | [], _ => by simp
  | x :: r, h => by
    have h1 := h x (by simp)
    have h2 := sum_le (l := r) (f := f) (g := g) fun k hk => h k (by simp [hk])
    simp; omega
theorem sum_mul {α : Type} {f : α → Nat} (c : Nat) : ∀ {l : List α}, (l.map fun x => c * f x).sum = c * (l.map f).sum
  | [] => by simp
  | x :: r => by simp [sum_mul c (l := r), Nat.mul_add]
theorem flatMap_len {α : Type} (f : α → List Nat) : ∀ (l : List α), (l.flatMap f).length = (l.map fun x => (f x).length).sum
  | [] => rfl
  | x :: r => by simp [List.flatMap_cons, flatMap_len f r]
theorem cnt_cw : ∀ (n : Nat) (t : Tr n), cnt n t ≤ cw n t
  | 0, _ => by simp [cnt]
  | n + 1, t => by
    unfold cnt cw
    have := sum_le (l := tK t) (f := cnt n) (g := cw n) fun k _ => cnt_cw n k
    omega
theorem enc_cw : ∀ (n : Nat) (t : Tr n), (enc n t).length ≤ 59 * cw n t
  | 0, _ => by simp [enc]
  | n + 1, t => by
    unfold enc cw
    split
    · have h1 := headL_len 192 ((tK t).flatMap (enc n)).length
      rw [List.length_append]
      have h2 : ((tK t).flatMap (enc n)).length ≤ 59 * ((tK t).map (cw n)).sum := by
        rw [flatMap_len, ← sum_mul]
        exact sum_le fun k _ => enc_cw n k
      omega
    · have := strL_len (tB t)
      omega
theorem enc_by : ∀ (n : Nat) (t : Tr n), byT n t → By (enc n t)
  | 0, _, _ => fun x hx => by simp [enc] at hx
  | n + 1, t, h => by
    unfold enc
    split
    · refine (headL_by (by omega)).append fun x hx => ?_
      obtain ⟨k, hk, hx⟩ := List.mem_flatMap.1 hx
      exact enc_by n k (h.2 k hk) x hx
    · exact strL_by h.1
theorem enc_pos {n : Nat} (t : Tr (n + 1)) : 1 ≤ (enc (n + 1) t).length := by
  unfold enc
  split
  · have := headL_len 192 ((tK t).flatMap (enc n)).length; rw [List.length_append]; omega
  · exact (strL_len _).2.2

/-- Are two the same? -/
def eqT : (n : Nat) → Tr n → Tr n → Bool
  | 0, _, _ => true
  | n + 1, t, u => tL t == tL u && (decide (tB t = tB u) && (decide ((tK t).length = (tK u).length) && ((tK t).zip (tK u)).all fun p => eqT n p.1 p.2))
theorem zip_all_eq {α : Type} {f : α → α → Bool} (hf : ∀ a b, f a b = true ↔ a = b) : ∀ (l m : List α), l.length = m.length → ((l.zip m).all (fun p => f p.1 p.2) = true ↔ l = m)
  | [], [], _ => by simp
  | [], _ :: _, h => by simp at h
  | _ :: _, [], h => by simp at h
  | x :: l, y :: m, h => by
    have := zip_all_eq hf l m (by simpa using h)
    rw [List.zip_cons_cons, List.all_cons, Bool.and_eq_true, this, hf]
    simp
theorem eqT_iff : ∀ (n : Nat) (t u : Tr n), eqT n t u = true ↔ t = u
  | 0, _, _ => ⟨fun _ => rfl, fun _ => rfl⟩
  | n + 1, t, u => by
    have hz := fun h => zip_all_eq (f := eqT n) (eqT_iff n) (tK t) (tK u) h
    unfold eqT
    constructor
    · intro h
      simp only [Bool.and_eq_true, beq_iff_eq, decide_eq_true_eq] at h
      obtain ⟨h1, h2, h3, h4⟩ := h
      rw [← tr_eta t, ← tr_eta u, h1, h2, (hz h3).1 h4]
    · intro h
      subst h
      simp only [Bool.and_eq_true, beq_iff_eq, decide_eq_true_eq]
      exact ⟨trivial, trivial, trivial, (hz rfl).2 rfl⟩
end Go.Proofs.YtdcocgjlfhicaaaDoor
