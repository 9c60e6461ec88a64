/-
  Edits without the program: which may be, and their bytes.
-/
import Derived.Test.YtbiohbaoeobccaaJ06
import Derived.Test.YtbiohbaoeobccaaB
import Derived.Test.YtbiohbaoeobccaaJ05
import Derived.Lib.SlBytesConst
namespace Go.Proofs.Ytbiohbaoeobccaa

/-- A table. -/
structure Fl where
  num : Int
  size : Int
  least : List Nat
  most : List Nat
/-- An edit. -/
structure Ed where
  log : Int
  next : Int
  seq : Nat
  drop : List (Int × Int)
  add : List (Int × Fl)
def okN (n : Int) : Bool := decide (0 ≤ n) && decide (n ≤ 2147483647)
def okV (n : Int) : Bool := decide (0 ≤ n) && decide (n < 5)
def okF (f : Fl) : Bool := isK f.least && (isK f.most && (decide (ordK f.least f.most ≤ 0) && (okN f.num && okN f.size)))
def okD (g : Int × Int) : Bool := okV g.1 && okN g.2
def okA (p : Int × Fl) : Bool := okV p.1 && okF p.2
def okH (log next : Int) (seq : Nat) : Bool := okN log && (okN next && decide (seq ≤ 72057594037927935))
def okE (e : Ed) : Bool := e.drop.all okD && (e.add.all okA && okH e.log e.next e.seq)
def nb (n : Int) : List Nat := putL n.toNat
def encD (g : Int × Int) : List Nat := nb g.1 ++ nb g.2
def encA (p : Int × Fl) : List Nat := nb p.1 ++ (nb p.2.num ++ (nb p.2.size ++ (putL p.2.least.length ++ (p.2.least ++ (putL p.2.most.length ++ p.2.most)))))
/-- The bytes of an edit. -/
def encE (e : Ed) : List Nat := nb e.log ++ (nb e.next ++ (putL e.seq ++ (putL e.drop.length ++ (e.drop.flatMap encD ++ (putL e.add.length ++ e.add.flatMap encA)))))
theorem okN_iff {n : Int} : okN n = true ↔ 0 ≤ n ∧ n ≤ 2147483647 := by unfold okN; simp
theorem okV_iff {n : Int} : okV n = true ↔ 0 ≤ n ∧ n < 5 := by unfold okV; simp
theorem nb_by (n : Int) : By (nb n) := putL_by _
theorem encD_by (g : Int × Int) : By (encD g) := (nb_by _).append (nb_by _)
theorem encA_by {p : Int × Fl} (h1 : By p.2.least) (h2 : By p.2.most) : By (encA p) := (nb_by _).append ((nb_by _).append ((nb_by _).append ((putL_by _).append (h1.append ((putL_by _).append h2)))))
theorem nb_len {n : Int} (h : n ≤ 2147483647) : (nb n).length ≤ 10 := putL_len10 (by omega)
theorem okF_len {f : Fl} (h : okF f = true) : f.least.length ≤ 136 ∧ f.most.length ≤ 136 := by
  unfold okF at h
  simp only [Bool.and_eq_true] at h
  exact ⟨(isK_len h.1).2.1, (isK_len h.2.1).2.1⟩
end Go.Proofs.Ytbiohbaoeobccaa
namespace Go.Proofs.Ytbiohbaoeobccaa

/-- A number at the beginning of what is left; nothing is left behind a fault. -/
def tkS : Option (List Nat) → Nat × Option (List Nat)
  | none => (0, none)
  | some l => if (takeL l).2.2 = 0 then ((takeL l).1, some (l.drop (takeL l).2.1)) else (0, none)
def nmS (s : Option (List Nat)) : Nat × Option (List Nat) := if 2147483647 < (tkS s).1 then (0, none) else tkS s
def fitS (n : Nat) : Option (List Nat) → Nat × Option (List Nat)
  | none => (0, none)
  | some l => if l.length < n then (0, none) else (n, some l)
def ctS (s : Option (List Nat)) : Nat × Option (List Nat) := fitS (tkS s).1 (tkS s).2
def cutS (n : Nat) : Option (List Nat) → List Nat × Option (List Nat)
  | none => ([], none)
  | some l => (l.take n, some (l.drop n))
def kyS (s : Option (List Nat)) : List Nat × Option (List Nat) := cutS (ctS s).1 (ctS s).2
def gnS (s : Option (List Nat)) : (Int × Int) × Option (List Nat) := ((((nmS s).1 : Int), ((nmS (nmS s).2).1 : Int)), (nmS (nmS s).2).2)
def plS (s : Option (List Nat)) : (Int × Fl) × Option (List Nat) :=
  ((((nmS s).1 : Int), ⟨((nmS (nmS s).2).1 : Int), ((nmS (nmS (nmS s).2).2).1 : Int), (kyS (nmS (nmS (nmS s).2).2).2).1, (kyS (kyS (nmS (nmS (nmS s).2).2).2).2).1⟩), (kyS (kyS (nmS (nmS (nmS s).2).2).2).2).2)
def sevS {α : Type} (f : Option (List Nat) → α × Option (List Nat)) : Nat → Option (List Nat) → List α × Option (List Nat)
  | 0, s => ([], s)
  | _ + 1, none => ([], none)
  | n + 1, some l => ((f (some l)).1 :: (sevS f n (f (some l)).2).1, (sevS f n (f (some l)).2).2)
/-- What is left behind the three numbers ahead; all of it. -/
def hdS (b : List Nat) : Option (List Nat) := (tkS (nmS (nmS (some b)).2).2).2
def edS (b : List Nat) (g : List (Int × Int)) (p : List (Int × Fl)) : Ed := ⟨((nmS (some b)).1 : Int), ((nmS (nmS (some b)).2).1 : Int), (tkS (nmS (nmS (some b)).2).2).1, g, p⟩
def drS (b : List Nat) : List (Int × Int) × Option (List Nat) := sevS gnS (ctS (hdS b)).1 (ctS (hdS b)).2
def adS (b : List Nat) : List (Int × Fl) × Option (List Nat) := sevS plS (ctS (drS b).2).1 (ctS (drS b).2).2
/-- The edit that bytes are, if any. -/
def decO (b : List Nat) : Option Ed := if (adS b).2 = some [] ∧ okE (edS b (drS b).1 (adS b).1) = true then some (edS b (drS b).1 (adS b).1) else none
/-- The same, with counts as they stand. -/
def drR (b : List Nat) : List (Int × Int) × Option (List Nat) := sevS gnS (tkS (hdS b)).1 (tkS (hdS b)).2
def adR (b : List Nat) : List (Int × Fl) × Option (List Nat) := sevS plS (tkS (drR b).2).1 (tkS (drR b).2).2

theorem tk_pos : ∀ (l : List Nat) (i v : Nat), (tk i v l).2.2 = 0 → i < (tk i v l).2.1
  | [], _, _, h => by simp [tk] at h
  | x :: r, i, v, h => by
    unfold tk at h ⊢
    split at h
    · simp at h
    · rename_i h1
      rw [if_neg h1]
      split at h
      · rename_i h2; rw [if_pos h2]; simp
      · rename_i h2
        rw [if_neg h2]
        have := tk_pos r (i + 1) _ h
        omega
/-- What is left is shorter, and part of it. -/
def Sh (s s' : Option (List Nat)) : Prop := ∀ l', s' = some l' → ∃ l, s = some l ∧ l'.length < l.length ∧ ∃ k, l' = l.drop k
def Sm (s s' : Option (List Nat)) : Prop := ∀ l', s' = some l' → ∃ l, s = some l ∧ l'.length ≤ l.length ∧ ∃ k, l' = l.drop k
theorem Sh.sm {s s' : Option (List Nat)} (h : Sh s s') : Sm s s' := fun l' e => by
  obtain ⟨l, h1, h2, h3⟩ := h l' e
  exact ⟨l, h1, by omega, h3⟩
theorem Sm.trans {a b c : Option (List Nat)} (h : Sm a b) (g : Sm b c) : Sm a c := fun l' e => by
  obtain ⟨l, h1, h2, k, h3⟩ := g l' e
  obtain ⟨m, g1, g2, j, g3⟩ := h l h1
  exact ⟨m, g1, by omega, j + k, by rw [h3, g3, List.drop_drop]⟩
theorem Sh.trans {a b c : Option (List Nat)} (h : Sh a b) (g : Sm b c) : Sh a c := fun l' e => by
  obtain ⟨l, h1, h2, k, h3⟩ := g l' e
  obtain ⟨m, g1, g2, j, g3⟩ := h l h1
  exact ⟨m, g1, by omega, j + k, by rw [h3, g3, List.drop_drop]⟩
theorem tkS_ok {l : List Nat} (h : (takeL l).2.2 = 0) : tkS (some l) = ((takeL l).1, some (l.drop (takeL l).2.1)) := if_pos h
theorem tkS_no {l : List Nat} (h : (takeL l).2.2 ≠ 0) : tkS (some l) = (0, none) := if_neg h
theorem tkS_sh {s : Option (List Nat)} (hb : ∀ l, s = some l → By l) : Sh s (tkS s).2 := by
  intro l' e
  rcases s with _ | l
  · simp [tkS] at e
  · by_cases h : (takeL l).2.2 = 0
    · rw [tkS_ok h] at e
      simp only [Option.some.injEq] at e
      have h1 := tk_pos l 0 0 h
      have h2 := (tk_bound l (hb l rfl) 0 0 (by omega) (by simp)).2.1
      refine ⟨l, rfl, ?_, _, e.symm⟩
      rw [← e, List.length_drop]
      have : (takeL l).2.1 = (tk 0 0 l).2.1 := rfl
      omega
    · rw [tkS_no h] at e; cases e
theorem Sm.by {s s' : Option (List Nat)} (h : Sm s s') (hb : ∀ l, s = some l → By l) : ∀ l, s' = some l → By l := fun l' e => by
  obtain ⟨l, h1, _, k, h3⟩ := h l' e
  rw [h3]; exact (hb l h1).drop k
theorem nmS_sh {s : Option (List Nat)} (hb : ∀ l, s = some l → By l) : Sh s (nmS s).2 := by
  unfold nmS
  split
  · intro l' e; cases e
  · exact tkS_sh hb
theorem ctS_sh {s : Option (List Nat)} (hb : ∀ l, s = some l → By l) : Sh s (ctS s).2 := by
  unfold ctS
  have h := tkS_sh hb
  rcases hs : (tkS s).2 with _ | l
  · intro l' e; cases e
  · unfold fitS
    rw [hs] at h
    by_cases hl : l.length < (tkS s).1
    · simp only [hl, if_true]; intro l' e; cases e
    · simp only [hl, if_false]; exact h
theorem kyS_sh {s : Option (List Nat)} (hb : ∀ l, s = some l → By l) : Sh s (kyS s).2 := by
  unfold kyS
  have h := ctS_sh hb
  rcases hs : (ctS s).2 with _ | l
  · intro l' e; cases e
  · rw [hs] at h
    refine h.trans fun l' e => ?_
    simp only [cutS, Option.some.injEq] at e
    exact ⟨l, rfl, by rw [← e, List.length_drop]; omega, _, e.symm⟩
theorem gnS_sh {s : Option (List Nat)} (hb : ∀ l, s = some l → By l) : Sh s (gnS s).2 := by
  have h1 := nmS_sh hb
  exact h1.trans (nmS_sh (h1.sm.by hb)).sm
theorem plS_sh {s : Option (List Nat)} (hb : ∀ l, s = some l → By l) : Sh s (plS s).2 := by
  have h1 := nmS_sh hb
  have b1 := h1.sm.by hb
  have h2 := nmS_sh b1
  have b2 := h2.sm.by b1
  have h3 := nmS_sh b2
  have b3 := h3.sm.by b2
  have h4 := kyS_sh b3
  have b4 := h4.sm.by b3
  have h5 := kyS_sh b4
  exact h1.trans (h2.sm.trans (h3.sm.trans (h4.sm.trans h5.sm)))
theorem sevS_none {α : Type} (f : Option (List Nat) → α × Option (List Nat)) : ∀ n, (sevS f n none).2 = none
  | 0 => rfl
  | _ + 1 => rfl
theorem sevS_sm {α : Type} {f : Option (List Nat) → α × Option (List Nat)} (hf : ∀ s, (∀ l, s = some l → By l) → Sh s (f s).2) : ∀ (n : Nat) (s : Option (List Nat)), (∀ l, s = some l → By l) → Sm s (sevS f n s).2
  | 0, s, _ => fun l' e => ⟨l', e, Nat.le_refl _, 0, rfl⟩
  | n + 1, none, _ => fun l' e => by cases e
  | n + 1, some l, hb => by
    have h := hf (some l) hb
    exact h.sm.trans (sevS_sm hf n _ (h.sm.by hb))
/-- More entries than bytes: a fault. -/
theorem sevS_many {α : Type} {f : Option (List Nat) → α × Option (List Nat)} (hf : ∀ s, (∀ l, s = some l → By l) → Sh s (f s).2) : ∀ (n : Nat) (l : List Nat), By l → l.length < n → (sevS f n (some l)).2 = none
  | 0, _, _, h => by omega
  | n + 1, l, hb, h => by
    have hs := hf (some l) (fun l' e => by cases e; exact hb)
    show (sevS f n (f (some l)).2).2 = none
    rcases hr : (f (some l)).2 with _ | l'
    · exact sevS_none f n
    · obtain ⟨m, e1, e2, k, e3⟩ := hs l' hr
      cases e1
      exact sevS_many hf n l' (by rw [e3]; exact hb.drop k) (by omega)
theorem sev_count {α : Type} {f : Option (List Nat) → α × Option (List Nat)} (hf : ∀ s, (∀ l, s = some l → By l) → Sh s (f s).2) {s : Option (List Nat)} (hb : ∀ l, s = some l → By l) : sevS f (tkS s).1 (tkS s).2 = sevS f (ctS s).1 (ctS s).2 ∨ ((sevS f (tkS s).1 (tkS s).2).2 = none ∧ (sevS f (ctS s).1 (ctS s).2).2 = none) := by
  unfold ctS
  have h := (tkS_sh hb).sm.by hb
  rcases hs : (tkS s).2 with _ | l
  · right; exact ⟨sevS_none f _, sevS_none f _⟩
  · rw [hs] at h
    unfold fitS
    by_cases hl : l.length < (tkS s).1
    · right
      simp only [hl, if_true]
      exact ⟨sevS_many hf _ l (h l rfl) hl, sevS_none f _⟩
    · left
      simp only [hl, if_false]
/-- Both ways tell the same. -/
theorem decO_ref {b : List Nat} (hb : By b) : decO b = if (adR b).2 = some [] ∧ okE (edS b (drR b).1 (adR b).1) = true then some (edS b (drR b).1 (adR b).1) else none := by
  have h0 : ∀ l, some b = some l → By l := fun l e => by cases e; exact hb
  have h1 := nmS_sh h0
  have b1 := h1.sm.by h0
  have h2 := nmS_sh b1
  have b2 := h2.sm.by b1
  have h3 := tkS_sh b2
  have b3 : ∀ l, hdS b = some l → By l := h3.sm.by b2
  have none_ad : ∀ (s : Option (List Nat)), s = none → (sevS plS (ctS s).1 (ctS s).2).2 = none ∧ (sevS plS (tkS s).1 (tkS s).2).2 = none := fun s e => by subst e; exact ⟨sevS_none _ _, sevS_none _ _⟩
  rcases sev_count (f := gnS) (fun s => gnS_sh) b3 with e | ⟨e1, e2⟩
  · have hd : drR b = drS b := e
    have bd : ∀ l, (drS b).2 = some l → By l := by
      have hc := ctS_sh b3
      exact (sevS_sm (fun s => gnS_sh) _ _ (hc.sm.by b3)).by (hc.sm.by b3)
    rcases sev_count (f := plS) (fun s => plS_sh) bd with e | ⟨e1, e2⟩
    · have ha : adR b = adS b := by unfold adR; rw [hd]; exact e
      unfold decO
      rw [ha, hd]
    · have a1 : (adS b).2 = none := e2
      have a2 : (adR b).2 = none := by unfold adR; rw [hd]; exact e1
      unfold decO
      rw [if_neg (by rw [a1]; simp), if_neg (by rw [a2]; simp)]
  · have a1 : (adS b).2 = none := (none_ad _ e2).1
    have a2 : (adR b).2 = none := (none_ad _ e1).2
    unfold decO
    rw [if_neg (by rw [a1]; simp), if_neg (by rw [a2]; simp)]
end Go.Proofs.Ytbiohbaoeobccaa
namespace Go.Proofs.Ytbiohbaoeobccaa
open Go.ChangeShapes Go.WideShapes Go.ChangeAt Go.RowKit

theorem wrap32_nat {n : Nat} (h : n < 4294967296) : IntKind.u32.wrap (n : Int) = (n : Int) := by rw [IntKind.wrap_u32']; omega
theorem cs_mask {r : Nat} (h : r < 4294967296) :
    bits .xor .u32 ((r : Int) / 2) (bits .and .u32 2197175160 (-bits .and .u32 (r : Int) 1 % 4294967296)) = (cs r : Int) := by
  have h1 : bits .and .u32 (r : Int) 1 = ((r % 2 : Nat) : Int) := by
    have := u32_and_nat r 1 h (by omega)
    rw [nat_mask1] at this; exact this
  rw [h1, show (r : Int) / 2 = ((r / 2 : Nat) : Int) from by omega]
  unfold cs
  rcases Nat.mod_two_eq_zero_or_one r with e | e <;> rw [e]
  · have h2 : bits .and .u32 2197175160 (-((0 : Nat) : Int) % 4294967296) = ((0 : Nat) : Int) := by decide
    rw [h2, if_neg (by omega), u32_xor_nat _ _ (by omega) (by omega)]
  · have h2 : bits .and .u32 2197175160 (-((1 : Nat) : Int) % 4294967296) = ((2197175160 : Nat) : Int) := by decide
    rw [h2, if_pos rfl, u32_xor_nat _ _ (by omega) (by omega)]
theorem crc_end {r : Nat} (h : r < 4294967296) : bits .xor .u32 4294967295 (r : Int) = ((4294967295 ^^^ r : Nat) : Int) := u32_xor_nat 4294967295 r (by omega) h
theorem crcF_snoc {ns : List Nat} {k x : Nat} (h : ns[k]? = some x) (r : Nat) : crcF r (ns.take (k + 1)) = csN 8 (crcF r (ns.take k) ^^^ x) := by
  rw [List.take_add_one, h, crcF_append]; rfl

theorem cs_odd {r : Nat} (h : r < 4294967296) (e : r % 2 = 1) : bits .xor .u32 ((r : Int) / 2) 2197175160 = (cs r : Int) := by
  rw [show (r : Int) / 2 = ((r / 2 : Nat) : Int) from by omega]
  have := u32_xor_nat (r / 2) 2197175160 (by omega) (by omega)
  unfold cs; rw [if_pos e]; exact this
theorem cs_even {r : Nat} (e : ¬ r % 2 = 1) : (r : Int) / 2 = (cs r : Int) := by
  unfold cs; rw [if_neg e, Nat.xor_zero]; omega

end Go.Proofs.Ytbiohbaoeobccaa
namespace Go.Proofs.Ytbiohbaoeobccaa
open Go.ChangeShapes Go.WideShapes Go.ChangeAt Go.RowKit

theorem str_key : strOf (keyL [] 1 1) = ⟨#[1, 1, 0, 0, 0, 0, 0, 0]⟩ := by decide
theorem crc_known : crc [49, 50, 51, 52, 53, 54, 55, 56, 57] = 3808858755 := by decide +kernel
theorem put_known : putL 300 = [172, 2] := by rw [putL_ge (by omega), putL_lt (by omega)]
theorem str_put : strOf [172, 2] = ⟨#[172, 2]⟩ := by decide

theorem beq_str (s t : ByteArray) : (s.toList == t.toList) = decide (s = t) := by
  by_cases h : s = t
  · subst h; simp
  · have : s.toList ≠ t.toList := fun e => h (by
      cases s with | mk a => cases t with | mk b =>
      have h1 : a.toList = b.toList := by simpa [ByteArray.toList_eq] using e
      rw [Array.toList_inj.1 h1])
    simp [this, h]

set_option maxHeartbeats 400000 in
theorem bytes_c {w : World} {v1 v2 : Value} {a b : List Nat} (h1 : Rd w v1 (bv a)) (h2 : Rd w v2 (bv b)) (ha : By a) (hb : By b) :
    Calls Try.prog 11 #[v1, v2] w fun e w' => e = .returned (.bool (decide (a = b))) ∧ w' = w := by
  have e1 := run_conv h1
  have e2 := run_conv h2
  have e3 : ((strOf a).toList == (strOf b).toList) = decide (a = b) := by
    rw [beq_str]
    by_cases h : a = b
    · subst h; simp
    · have : strOf a ≠ strOf b := fun e => h (strOf_inj ha hb e)
      simp [this, h]
  obtain ⟨a1, c1, rfl⟩ := h1.form
  obtain ⟨a2, c2, rfl⟩ := h2.form
  clear h1 h2 ha hb
  go_enter Try.func11, Try.ntmps11
  go_wp2
  go_ret
  exact ⟨rfl, rfl⟩
end Go.Proofs.Ytbiohbaoeobccaa
