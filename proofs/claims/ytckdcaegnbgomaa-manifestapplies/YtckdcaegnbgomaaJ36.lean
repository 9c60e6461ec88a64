/-
  Edits come back from their bytes, and bytes from their edits: without the program.
-/
import Derived.Test.YtckdcaegnbgomaaJ15
import Derived.Test.YtckdcaegnbgomaaVR
import Derived.Test.YtckdcaegnbgomaaVT
namespace Go.Proofs.Ytckdcaegnbgomaa

theorem tk_inv9 : ∀ (b : List Nat), By b → ∀ (i v n k : Nat), tk i v b = (n, k, 0) → ∃ m, n = v + m * 2 ^ (7 * i) ∧ i + (putL m).length = k ∧ b = putL m ++ b.drop (k - i) ∧ (0 < i → m ≠ 0)
  | [], _, i, v, n, k, h => by rw [tk_nil] at h; simp at h
  | x :: r, hb, i, v, n, k, h => by
    by_cases h1 : i = 9 ∧ 1 < x ∨ 0 < i ∧ x = 0
    · rw [tk_bad h1] at h; simp at h
    · have hx : x < 256 := hb x (by simp)
      by_cases h2 : x < 128
      · rw [tk_end h1 h2] at h
        simp only [Prod.mk.injEq, and_true] at h
        obtain ⟨h3, h4⟩ := h
        refine ⟨x, by rw [← h3, Nat.mod_eq_of_lt h2], by rw [putL_lt h2]; exact h4, ?_, fun hi e => h1 (.inr ⟨hi, e⟩)⟩
        rw [putL_lt h2, ← h4, show i + 1 - i = 1 from by omega]; rfl
      · rw [tk_on h1 h2] at h
        obtain ⟨m, m1, m2, m3, m4⟩ := tk_inv9 r (fun y hy => hb y (List.mem_cons_of_mem _ hy)) _ _ _ _ h
        have hm := m4 (by omega)
        have hp : putL (x % 128 + 128 * m) = x :: putL m := by
          rw [putL_ge (by omega), show (x % 128 + 128 * m) % 128 + 128 = x from by omega, show (x % 128 + 128 * m) / 128 = m from by omega]
        refine ⟨x % 128 + 128 * m, ?_, by rw [hp, List.length_cons]; omega, ?_, fun _ => by omega⟩
        · rw [m1, show 7 * (i + 1) = 7 * i + 7 from by omega, Nat.pow_add, Nat.add_mul, show (2 : Nat) ^ 7 = 128 from rfl, Nat.add_assoc, Nat.mul_comm 128 m, Nat.mul_assoc m 128, Nat.mul_comm 128]
        · rw [hp, show k - i = (k - (i + 1)) + 1 from by omega, List.drop_succ_cons, List.cons_append, ← m3]
theorem takeL_inv9 {b : List Nat} (hb : By b) {n k : Nat} (h : takeL b = (n, k, 0)) : b = putL n ++ b.drop k ∧ k = (putL n).length := by
  obtain ⟨m, m1, m2, m3, _⟩ := tk_inv9 b hb 0 0 n k h
  have e : m = n := by rw [m1]; simp
  subst e
  exact ⟨by simpa using m3, by omega⟩

section
variable {s : Option (List Nat)} {r : List Nat}
theorem tkS_put {n : Nat} (h : n < 18446744073709551616) (r : List Nat) : tkS (some (putL n ++ r)) = (n, some r) := by
  have e := takeL_put h r
  rw [tkS_ok (by rw [e]), e]
  simp
theorem nmS_put {n : Int} (h : okN n = true) (r : List Nat) : nmS (some (nb n ++ r)) = (n.toNat, some r) := by
  have hn := okN_iff.1 h
  unfold nmS nb
  rw [tkS_put (by omega)]
  rw [if_neg (by show ¬ 2147483647 < n.toNat; omega)]
theorem ctS_put {n : Nat} (h : n < 18446744073709551616) {r : List Nat} (hr : n ≤ r.length) : ctS (some (putL n ++ r)) = (n, some r) := by
  unfold ctS
  rw [tkS_put h]
  show (if r.length < n then (0, none) else (n, some r)) = (n, some r)
  rw [if_neg (by omega)]
theorem kyS_put {k : List Nat} (h : k.length < 18446744073709551616) (r : List Nat) : kyS (some (putL k.length ++ (k ++ r))) = (k, some r) := by
  unfold kyS
  rw [ctS_put h (by rw [List.length_append]; omega)]
  simp [cutS]
theorem okV_N {n : Int} (h : okV n = true) : okN n = true := by
  have := okV_iff.1 h
  rw [okN_iff]; omega
theorem cast_toNat {n : Int} (h : okN n = true) : ((n.toNat : Nat) : Int) = n := by have := okN_iff.1 h; omega
theorem gnS_put {g : Int × Int} (h : okD g = true) (r : List Nat) : gnS (some (encD g ++ r)) = (g, some r) := by
  unfold okD at h
  rw [Bool.and_eq_true] at h
  have h1 := okV_N h.1
  unfold gnS encD
  rw [List.append_assoc, nmS_put h1]
  simp only
  rw [nmS_put h.2]
  simp only
  rw [cast_toNat h1, cast_toNat h.2]
theorem plS_put {p : Int × Fl} (h : okA p = true) (r : List Nat) : plS (some (encA p ++ r)) = (p, some r) := by
  unfold okA at h
  rw [Bool.and_eq_true] at h
  have h1 := okV_N h.1
  have hl := okF_len h.2
  have hf := h.2
  unfold okF at hf
  simp only [Bool.and_eq_true] at hf
  have h2 := hf.2.2.2.1
  have h3 := hf.2.2.2.2
  unfold plS encA
  simp only [List.append_assoc]
  rw [nmS_put h1]
  simp only
  rw [nmS_put h2]
  simp only
  rw [nmS_put h3]
  simp only
  rw [kyS_put (by omega)]
  simp only
  rw [kyS_put (by omega)]
  simp only
  rw [cast_toNat h1, cast_toNat h2, cast_toNat h3]
theorem sevS_put {α : Type} {f : Option (List Nat) → α × Option (List Nat)} {enc : α → List Nat} {ok : α → Bool} (hf : ∀ x, ok x = true → ∀ r, f (some (enc x ++ r)) = (x, some r)) : ∀ (xs : List α), xs.all ok = true → ∀ r, sevS f xs.length (some (xs.flatMap enc ++ r)) = (xs, some r)
  | [], _, r => rfl
  | x :: xs, h, r => by
    rw [List.all_cons, Bool.and_eq_true] at h
    rw [List.flatMap_cons, List.append_assoc, List.length_cons]
    show ((f (some (enc x ++ (xs.flatMap enc ++ r)))).1 :: (sevS f xs.length (f (some (enc x ++ (xs.flatMap enc ++ r)))).2).1, (sevS f xs.length (f (some (enc x ++ (xs.flatMap enc ++ r)))).2).2) = _
    rw [hf x h.1]
    simp only
    rw [sevS_put hf xs h.2 r]
theorem flat_len9 {α : Type} {enc : α → List Nat} (h : ∀ x, 0 < (enc x).length) : ∀ xs : List α, xs.length ≤ (xs.flatMap enc).length
  | [] => Nat.le_refl _
  | x :: xs => by rw [List.flatMap_cons, List.length_append, List.length_cons]; have := h x; have := flat_len9 h xs; omega
theorem encD_pos (g : Int × Int) : 0 < (encD g).length := by unfold encD nb; rw [List.length_append]; have := putL_pos g.1.toNat; omega
theorem encA_pos (p : Int × Fl) : 0 < (encA p).length := by unfold encA nb; rw [List.length_append]; have := putL_pos p.1.toNat; omega
/-- An edit comes back from its bytes. -/
theorem decO_enc {e : Ed} (h : okE e = true) (hd : e.drop.length < 18446744073709551616) (ha : e.add.length < 18446744073709551616) : decO (encE e) = some e := by
  have h' := h
  unfold okE okH at h
  simp only [Bool.and_eq_true] at h
  obtain ⟨hD, hA, hl, hn, hs⟩ := h
  have hs' : e.seq < 18446744073709551616 := by have := of_decide_eq_true hs; omega
  have e1 : nmS (some (encE e)) = (e.log.toNat, some (nb e.next ++ (putL e.seq ++ (putL e.drop.length ++ (e.drop.flatMap encD ++ (putL e.add.length ++ e.add.flatMap encA)))))) := nmS_put hl _
  have e2 : nmS (nmS (some (encE e))).2 = (e.next.toNat, some (putL e.seq ++ (putL e.drop.length ++ (e.drop.flatMap encD ++ (putL e.add.length ++ e.add.flatMap encA))))) := by rw [e1]; exact nmS_put hn _
  have e3 : tkS (nmS (nmS (some (encE e))).2).2 = (e.seq, some (putL e.drop.length ++ (e.drop.flatMap encD ++ (putL e.add.length ++ e.add.flatMap encA)))) := by rw [e2]; exact tkS_put hs' _
  have e4 : hdS (encE e) = some (putL e.drop.length ++ (e.drop.flatMap encD ++ (putL e.add.length ++ e.add.flatMap encA))) := by unfold hdS; rw [e3]
  have e5 : drS (encE e) = (e.drop, some (putL e.add.length ++ e.add.flatMap encA)) := by
    unfold drS
    rw [e4, ctS_put hd (by rw [List.length_append]; have := flat_len9 encD_pos e.drop; omega)]
    exact sevS_put (ok := okD) (fun g hg r => gnS_put hg r) e.drop hD _
  have e6 : adS (encE e) = (e.add, some []) := by
    unfold adS
    rw [e5]
    rw [ctS_put ha (flat_len9 encA_pos e.add)]
    have := sevS_put (f := plS) (enc := encA) (ok := okA) (fun p hp r => plS_put hp r) e.add hA []
    rw [List.append_nil] at this
    exact this
  have e7 : edS (encE e) e.drop e.add = e := by
    unfold edS
    rw [e3, e2, e1]
    simp only
    rw [cast_toNat hl, cast_toNat hn]
  unfold decO
  rw [e6, e5]
  simp only
  rw [e7, if_pos ⟨trivial, h'⟩]
/-- What was read, stands there. -/
theorem tkS_inv (hb : ∀ l, s = some l → By l) (h : (tkS s).2 = some r) : ∃ l, s = some l ∧ l = putL (tkS s).1 ++ r := by
  rcases s with _ | l
  · cases h
  · by_cases h0 : (takeL l).2.2 = 0
    · rw [tkS_ok h0] at h ⊢
      simp only [Option.some.injEq] at h
      have := takeL_inv9 (hb l rfl) (n := (takeL l).1) (k := (takeL l).2.1) (by rw [← h0])
      exact ⟨l, rfl, by rw [← h]; exact this.1⟩
    · rw [tkS_no h0] at h; cases h
theorem nmS_inv (hb : ∀ l, s = some l → By l) (h : (nmS s).2 = some r) : ∃ l, s = some l ∧ l = nb ((nmS s).1 : Int) ++ r := by
  unfold nmS at h ⊢
  by_cases hn : 2147483647 < (tkS s).1
  · rw [if_pos hn] at h; cases h
  · rw [if_neg hn] at h ⊢
    obtain ⟨l, h1, h2⟩ := tkS_inv hb h
    exact ⟨l, h1, by unfold nb; simpa using h2⟩
theorem ctS_inv (hb : ∀ l, s = some l → By l) (h : (ctS s).2 = some r) : ∃ l, s = some l ∧ l = putL (ctS s).1 ++ r ∧ (ctS s).1 ≤ r.length := by
  unfold ctS at h ⊢
  rcases hs : (tkS s).2 with _ | l'
  · rw [hs] at h; cases h
  · try rw [hs] at h
    unfold fitS at h ⊢
    by_cases hl : l'.length < (tkS s).1
    · simp only [hl, if_true] at h; cases h
    · simp only [hl, if_false] at h ⊢
      simp only [Option.some.injEq] at h
      subst h
      obtain ⟨l, h1, h2⟩ := tkS_inv hb hs
      exact ⟨l, h1, h2, by omega⟩
theorem kyS_inv (hb : ∀ l, s = some l → By l) (h : (kyS s).2 = some r) : ∃ l, s = some l ∧ l = putL (kyS s).1.length ++ ((kyS s).1 ++ r) := by
  unfold kyS at h ⊢
  rcases hs : (ctS s).2 with _ | l'
  · rw [hs] at h; cases h
  · try rw [hs] at h
    simp only [cutS, Option.some.injEq] at h ⊢
    obtain ⟨l, h1, h2, h3⟩ := ctS_inv hb hs
    refine ⟨l, h1, ?_⟩
    rw [List.length_take, Nat.min_eq_left h3, ← h, List.take_append_drop]
    exact h2
theorem gnS_inv (hb : ∀ l, s = some l → By l) (h : (gnS s).2 = some r) : ∃ l, s = some l ∧ l = encD (gnS s).1 ++ r := by
  have b1 := (nmS_sh hb).sm.by hb
  obtain ⟨l1, h1, h2⟩ := nmS_inv b1 h
  obtain ⟨l0, h3, h4⟩ := nmS_inv hb h1
  refine ⟨l0, h3, ?_⟩
  rw [h4, h2]
  unfold gnS encD
  rw [List.append_assoc]
theorem plS_inv (hb : ∀ l, s = some l → By l) (h : (plS s).2 = some r) : ∃ l, s = some l ∧ l = encA (plS s).1 ++ r := by
  have b1 := (nmS_sh hb).sm.by hb
  have b2 := (nmS_sh b1).sm.by b1
  have b3 := (nmS_sh b2).sm.by b2
  have b4 := (kyS_sh b3).sm.by b3
  obtain ⟨l4, a4, c4⟩ := kyS_inv b4 h
  obtain ⟨l3, a3, c3⟩ := kyS_inv b3 a4
  obtain ⟨l2, a2, c2⟩ := nmS_inv b2 a3
  obtain ⟨l1, a1, c1⟩ := nmS_inv b1 a2
  obtain ⟨l0, a0, c0⟩ := nmS_inv hb a1
  refine ⟨l0, a0, ?_⟩
  rw [c0, c1, c2, c3, c4]
  unfold plS encA
  simp only [List.append_assoc]
theorem sevS_inv {α : Type} {f : Option (List Nat) → α × Option (List Nat)} {enc : α → List Nat} (hs : ∀ s, (∀ l, s = some l → By l) → Sh s (f s).2) (hf : ∀ s r, (∀ l, s = some l → By l) → (f s).2 = some r → ∃ l, s = some l ∧ l = enc (f s).1 ++ r) : ∀ (n : Nat) (s : Option (List Nat)) (r : List Nat), (∀ l, s = some l → By l) → (sevS f n s).2 = some r → ∃ l, s = some l ∧ l = (sevS f n s).1.flatMap enc ++ r ∧ (sevS f n s).1.length = n
  | 0, s, r, _, h => ⟨r, h, rfl, rfl⟩
  | n + 1, none, r, _, h => by cases h
  | n + 1, some l, r, hb, h => by
    have b1 := (hs (some l) hb).sm.by hb
    obtain ⟨l1, h1, h2, h3⟩ := sevS_inv hs hf n (f (some l)).2 r b1 h
    obtain ⟨l0, h4, h5⟩ := hf (some l) l1 hb h1
    refine ⟨l0, h4, ?_, ?_⟩
    · rw [h5, h2]
      show _ = ((f (some l)).1 :: (sevS f n (f (some l)).2).1).flatMap enc ++ r
      rw [List.flatMap_cons, List.append_assoc]
    · show ((f (some l)).1 :: (sevS f n (f (some l)).2).1).length = n + 1
      rw [List.length_cons, h3]
/-- There is one spelling. -/
theorem enc_decO {b : List Nat} {e : Ed} (hb : By b) (h : decO b = some e) : encE e = b := by
  unfold decO at h
  by_cases hc : (adS b).2 = some [] ∧ okE (edS b (drS b).1 (adS b).1) = true
  · rw [if_pos hc] at h
    simp only [Option.some.injEq] at h
    have b0 : ∀ l, some b = some l → By l := fun l e => by cases e; exact hb
    have b1 := (nmS_sh b0).sm.by b0
    have b2 := (nmS_sh b1).sm.by b1
    have b3 : ∀ l, hdS b = some l → By l := (tkS_sh b2).sm.by b2
    have b4 := (ctS_sh b3).sm.by b3
    have b5 : ∀ l, (drS b).2 = some l → By l := (sevS_sm (fun s => gnS_sh) _ _ b4).by b4
    have b6 := (ctS_sh b5).sm.by b5
    obtain ⟨l6, a6, c6, n6⟩ := sevS_inv (enc := encA) (fun s => plS_sh) (fun s r => plS_inv) _ _ _ b6 hc.1
    obtain ⟨l5, a5, c5, _⟩ := ctS_inv b5 a6
    obtain ⟨l4, a4, c4, n4⟩ := sevS_inv (enc := encD) (fun s => gnS_sh) (fun s r => gnS_inv) _ _ _ b4 a5
    obtain ⟨l3, a3, c3, _⟩ := ctS_inv b3 a4
    obtain ⟨l2, a2, c2⟩ := tkS_inv b2 a3
    obtain ⟨l1, a1, c1⟩ := nmS_inv b1 a2
    obtain ⟨l0, a0, c0⟩ := nmS_inv b0 a1
    cases a0
    have m4 : (drS b).1.length = (ctS (hdS b)).1 := n4
    have m6 : (adS b).1.length = (ctS (drS b).2).1 := n6
    rw [← h]
    unfold encE edS
    simp only
    rw [m4, m6]
    refine Eq.symm (c0.trans ?_)
    rw [c1, c2, c3, c4, c5, c6, List.append_nil]
    rfl
  · rw [if_neg hc] at h; cases h
end
end Go.Proofs.Ytckdcaegnbgomaa
namespace Go.Proofs.Ytckdcaegnbgomaa
open Go.ChangeShapes Go.WideShapes Go.ChangeAt Go.RowKit

def wholeE (v : Vn) : Ed := ⟨v.log, v.next, v.seq, [], allA v.lv 5⟩
def zeroV : Vn := ⟨0, 0, 0, fun _ => []⟩
theorem addF_tag (i n : Nat) (l : List Fl) : addF (tagL n l) i = if n = i then l else [] := by
  unfold addF tagL
  rw [List.filter_map, List.map_map]
  by_cases h : n = i
  · subst h
    rw [if_pos rfl, List.filter_eq_self.2 (fun f _ => by simp)]
    induction l with
    | nil => rfl
    | cons a l ih => simp [ih]
  · rw [if_neg h, List.filter_eq_nil_iff.2 (fun f _ => by simp; omega)]
    rfl
theorem addF_app (a b : List (Int × Fl)) (i : Nat) : addF (a ++ b) i = addF a i ++ addF b i := by
  unfold addF; rw [List.filter_append, List.map_append]
theorem addF_all (L : Nat → List Fl) (i : Nat) : ∀ n, addF (allA L n) i = if i < n then L i else []
  | 0 => by simp [allA, addF]
  | n + 1 => by
    rw [allA_succ, addF_app, addF_all L i n, addF_tag]
    by_cases h1 : i < n
    · rw [if_pos h1, if_neg (by omega), if_pos (by omega), List.append_nil]
    · rw [if_neg h1, List.nil_append]
      by_cases h2 : n = i
      · subst h2; rw [if_pos rfl, if_pos (by omega)]
      · rw [if_neg h2, if_neg (by omega)]
theorem allA_mem {L : Nat → List Fl} {p : Int × Fl} (h : p ∈ allA L 5) : ∃ i : Nat, i < 5 ∧ p.1 = (i : Int) ∧ p.2 ∈ L i := by
  unfold allA at h
  obtain ⟨i, hi, hp⟩ := List.mem_flatMap.1 h
  obtain ⟨f, hf, rfl⟩ := List.mem_map.1 hp
  exact ⟨i, by simpa using hi, rfl, hf⟩
theorem zero_good : chkV zeroV = 0 := by
  rw [chk_iff]
  have ha : zeroV.all = [] := by unfold Vn.all pfx zeroV; simp
  exact ⟨by decide, by rw [ha]; simp, by rw [ha]; simp, by rw [ha]; simp, fun i _ => rfl⟩
theorem whole_ok {v : Vn} (h : GoodV v) : okE (wholeE v) = true := by
  unfold okE wholeE
  rw [Bool.and_eq_true, Bool.and_eq_true]
  refine ⟨rfl, ?_, h.head⟩
  rw [List.all_eq_true]
  intro p hp
  obtain ⟨i, hi, h1, h2⟩ := allA_mem hp
  unfold okA
  rw [Bool.and_eq_true]
  exact ⟨okV_iff.2 (by omega), h.file _ (mem_all hi h2)⟩
theorem zero_cnt : ∀ i, dcF [] zeroV.lv i = 0
  | 0 => rfl
  | i + 1 => by show dcF [] zeroV.lv i + _ = 0; rw [zero_cnt i]; rfl
theorem whole_back {v : Vn} (h : GoodV v) : ¬ backE zeroV (wholeE v) := by
  have hh := h.head
  unfold okH at hh
  simp only [Bool.and_eq_true] at hh
  have h1 := okN_iff.1 hh.1
  have h2 := okN_iff.1 hh.2.1
  unfold backE zeroV wholeE
  simp only
  omega
theorem whole_comes {v : Vn} (h : GoodV v) {U : Nat → List Fl} (hc : Comes zeroV (wholeE v) U) {i : Nat} (hi : i < 5) : U i = v.lv i := by
  have h1 := hc.perm i hi
  have e1 : keptF (wholeE v).drop zeroV.lv i = [] := rfl
  rw [e1, List.nil_append] at h1
  have e2 : addF (wholeE v).add i = v.lv i := by show addF (allA v.lv 5) i = v.lv i; rw [addF_all, if_pos hi]
  rw [e2] at h1
  exact sort_one i _ _ h1 (hc.sort i hi) (rises_pair i _ (h.rise i hi))
theorem AOut.whole {w w' : World} {v : Vn} {ln : Nat → Nat} {r : Ending} (hg : chkV v = 0) (hl : ∀ i, i < 5 → ln i = (v.lv i).length) (h : AOut w w' zeroV (wholeE v) r) : A2Out w w' v.log v.next v.seq v.lv ln r := by
  have g := (chk_iff v).1 hg
  refine ⟨h.fr, ?_⟩
  rcases h.out with ⟨h1, _⟩ | ⟨_, h2, _⟩ | ⟨_, _, ⟨c, h3, h4, _⟩ | ⟨U2, kd, kl, kc, h3, rfl, h4⟩⟩
  · exact absurd zero_good h1
  · rw [whole_ok g] at h2; cases h2
  · exfalso
    rcases h3 with ⟨h5, _⟩ | ⟨_, h5, _⟩ | ⟨_, _, U2, h5, h6, _⟩
    · exact h5 (zero_cnt 5)
    · exact whole_back g h5
    · refine h6 ?_
      have e := chk_lv (v := ⟨v.log, v.next, v.seq, U2⟩) (v' := v) rfl rfl rfl (fun i hi => whole_comes g h5 hi)
      exact e.trans hg
  · have he : ∀ i, i < 5 → kl i = ln i := fun i hi => by
      have := h4.vat.len i hi
      rw [this, whole_comes g h3.comes hi, hl i hi]
    refine ⟨kd, kc, ?_, h4.vat.congr (fun i hi => whole_comes g h3.comes hi) he⟩
    rw [he 0 (by omega), he 1 (by omega), he 2 (by omega), he 3 (by omega), he 4 (by omega)]
    rfl
theorem by_flat {α : Type} {f : α → List Nat} : ∀ (l : List α), (∀ x ∈ l, By (f x)) → By (l.flatMap f)
  | [], _ => fun n hn => by simp at hn
  | x :: l, h => by rw [List.flatMap_cons]; exact (h x (by simp)).append (by_flat l (fun y hy => h y (by simp [hy])))
theorem encE_by {e : Ed} (h : ∀ p ∈ e.add, By p.2.least ∧ By p.2.most) : By (encE e) := by
  unfold encE
  exact (nb_by _).append ((nb_by _).append ((putL_by _).append ((putL_by _).append ((by_flat _ (fun g _ => encD_by g)).append ((putL_by _).append (by_flat _ (fun p hp => encA_by (h p hp).1 (h p hp).2)))))))
theorem encE_len {e : Ed} (h : okE e = true) (hd : e.drop.length ≤ 30) (ha : e.add.length ≤ 30) : (encE e).length ≤ 50000 := by
  unfold okE okH at h
  simp only [Bool.and_eq_true] at h
  have h1 := flatD_len h.1
  have h2 := flatA_len h.2.1
  have n1 := nb_len (n := e.log) (okN_iff.1 h.2.2.1).2
  have n2 := nb_len (n := e.next) (okN_iff.1 h.2.2.2.1).2
  have n3 := putL_len10 (n := e.seq) (by have := of_decide_eq_true h.2.2.2.2; omega)
  have n4 := putL_len10 (n := e.drop.length) (by omega)
  have n5 := putL_len10 (n := e.add.length) (by omega)
  unfold encE
  simp only [List.length_append]
  omega
/-- The tables of an edit in memory have bytes for keys. -/
theorem EAt.bys {w : World} {e : Ed} {da aa : Option Addr} {dc ac : Nat} (h : EAt w e da dc aa ac) : ∀ p ∈ e.add, (By p.2.least ∧ p.2.least.length ≤ 140737488355328) ∧ By p.2.most ∧ p.2.most.length ≤ 140737488355328 := by
  intro p hp
  obtain ⟨j, hj⟩ := List.getElem?_of_mem hp
  have hjl := (List.getElem?_eq_some_iff.1 hj).1
  obtain ⟨a, c, _, k⟩ := h.ra
  obtain ⟨b, off, _, m⟩ := k (by omega)
  obtain ⟨_, la, lc, ma, mc, q⟩ := m j p hj
  exact q.by4
end Go.Proofs.Ytckdcaegnbgomaa
