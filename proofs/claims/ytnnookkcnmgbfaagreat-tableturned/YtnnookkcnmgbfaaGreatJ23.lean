/-
  Ranges of a table without the program: what is told of blocks one after the other; parts; how many blocks.
-/
import Derived.Test.YtnnookkcnmgbfaaGreatJ05
import Derived.Test.YtnnookkcnmgbfaaGreatJ21
import Derived.Test.YtnnookkcnmgbfaaGreatJ22
namespace Go.Proofs.YtnnookkcnmgbfaaGreat

/-- Does a user key lie behind another one, if that is none that ends nothing? -/
def beh (u most : List Nat) : Bool := decide (0 < most.length) && decide (0 < cmpN u most)
def inR (least most : List Nat) (p : List Nat × List Nat) : Bool := decide (0 ≤ cmpN (userL p.1) least) && !beh (userL p.1) most
/-- What is told of the blocks from a place on. -/
def rngF (X : Nat → Nat) (Q : Nat → Ps) (U : Nat → List Nat) (least most : List Nat) : Nat → Nat → Ps → Nat × Ps
  | 0, _, acc => (0, acc)
  | d + 1, i, acc => if X i = 0 then (if beh (U i) most = true then (0, acc ++ (Q i).filter (inR least most)) else rngF X Q U least most d (i + 1) (acc ++ (Q i).filter (inR least most))) else (X i, [])
theorem ordU {a b : List Nat} (h : ordK a b < 0) : cmpN (userL a) (userL b) ≤ 0 := by
  unfold ordK at h
  unfold ordP at h
  split at h
  · omega
  · omega
theorem cmpN_le_lt {a b c : List Nat} (h1 : cmpN a b ≤ 0) (h2 : cmpN b c < 0) : cmpN a c < 0 := by
  have h3 := cmpN_trans a b c h1 (by omega)
  rcases Int.lt_or_eq_of_le h3 with h | h
  · exact h
  · have e := (cmpN_eq a c).1 h
    subst e
    rw [cmpN_neg a b] at h2
    omega
theorem cmpN_lt_le {a b c : List Nat} (h1 : 0 < cmpN a c) (h2 : cmpN a b ≤ 0) : 0 < cmpN b c := by
  rcases Int.lt_or_le 0 (cmpN b c) with h | h
  · exact h
  · have := cmpN_trans a b c h2 h
    omega
theorem lastK_eq {c : Ps} (h : c ≠ []) : lastK c = (c.getLast h).1 := by
  have hl := List.length_pos_iff.2 h
  unfold lastK
  have : c[c.length - 1]? = some (c.getLast h) := by rw [← List.getLast?_eq_getElem?, List.getLast?_eq_some_getLast h]
  exact (kA_at this).1
theorem behind_all {D : List Ps} (hr : Rises D.flatten) (hne : ∀ c ∈ D, c ≠ []) {i : Nat} {c : Ps} (hc : D[i]? = some c) {p : List Nat × List Nat} (hp : p ∈ (D.drop (i + 1)).flatten) : cmpN (userL (lastK c)) (userL p.1) ≤ 0 := by
  have ha := (asc_of hr).2
  obtain ⟨hl, he⟩ := List.getElem?_eq_some_iff.1 hc
  have e : D = D.take i ++ (c :: D.drop (i + 1)) := by rw [← he, ← List.drop_eq_getElem_cons hl, List.take_append_drop]
  have hm : c ∈ D := List.mem_of_getElem? hc
  rw [e, List.flatten_append, List.flatten_cons] at ha
  have h2 := (List.pairwise_append.1 (List.pairwise_append.1 ha).2.1).2.2
  rw [lastK_eq (hne c hm)]
  exact ordU (h2 _ (List.getLast_mem _) p hp)
theorem ahead_all {D : List Ps} (hr : Rises D.flatten) (hne : ∀ c ∈ D, c ≠ []) {i : Nat} {c : Ps} (hc : D[i]? = some c) {p : List Nat × List Nat} (hp : p ∈ (D.take (i + 1)).flatten) : cmpN (userL p.1) (userL (lastK c)) ≤ 0 := by
  have ha := (asc_of hr).2
  have hm : c ∈ D := List.mem_of_getElem? hc
  have e : D.take (i + 1) = D.take i ++ [c] := by rw [List.take_add_one, hc]; rfl
  have hs : ((D.take (i + 1)).flatten).Sublist D.flatten := by
    rw [show D.flatten = (D.take (i + 1) ++ D.drop (i + 1)).flatten from by rw [List.take_append_drop], List.flatten_append]
    exact List.sublist_append_left _ _
  have h1 := ha.sublist hs
  rw [e, List.flatten_append] at h1 hp
  simp only [List.flatten_cons, List.flatten_nil, List.append_nil] at h1 hp
  have hcl : c = c.dropLast ++ [c.getLast (hne c hm)] := (List.dropLast_concat_getLast (hne c hm)).symm
  rw [lastK_eq (hne c hm)]
  rw [hcl, ← List.append_assoc] at h1 hp
  rcases List.mem_append.1 hp with hp | hp
  · exact ordU ((List.pairwise_append.1 h1).2.2 p hp _ (by simp))
  · simp at hp
    rw [hp, show cmpN (userL (c.getLast (hne c hm)).1) (userL (c.getLast (hne c hm)).1) = 0 from (cmpN_eq _ _).2 rfl]
    exact Int.le_refl _
theorem rng_good {D : List Ps} (hr : Rises D.flatten) (hne : ∀ c ∈ D, c ≠ []) {X : Nat → Nat} {Q : Nat → Ps} {U : Nat → List Nat} (hX : ∀ i c, D[i]? = some c → X i = 0 ∧ Q i = c ∧ U i = userL (lastK c)) (least most : List Nat) :
    ∀ (d i : Nat) (acc : Ps), i + d = D.length → rngF X Q U least most d i acc = (0, acc ++ (D.drop i).flatten.filter (inR least most))
  | 0, i, acc, h => by rw [List.drop_eq_nil_of_le (by omega)]; simp [rngF]
  | d + 1, i, acc, h => by
    have hil : i < D.length := by omega
    have hc : D[i]? = some D[i] := List.getElem?_eq_getElem hil
    obtain ⟨h1, h2, h3⟩ := hX i _ hc
    rw [rngF, if_pos h1, h2, h3, List.drop_eq_getElem_cons hil, List.flatten_cons, List.filter_append]
    by_cases hb : beh (userL (lastK D[i])) most = true
    · rw [if_pos hb]
      have hz : (D.drop (i + 1)).flatten.filter (inR least most) = [] := by
        rw [List.filter_eq_nil_iff]
        intro p hp
        have k := behind_all hr hne hc hp
        unfold beh at hb
        simp only [Bool.and_eq_true, decide_eq_true_eq] at hb
        have k2 := cmpN_lt_le hb.2 k
        unfold inR beh
        rw [decide_eq_true hb.1, decide_eq_true k2]
        simp
      rw [hz, List.append_nil]
    · rw [if_neg hb, rng_good hr hne hX least most d (i + 1) _ (by omega), List.append_assoc]
theorem skip_good {D : List Ps} (hr : Rises D.flatten) (hne : ∀ c ∈ D, c ≠ []) {I : Nat} (hI : I ≤ D.length) {least : List Nat} (most : List Nat) (h : ∀ c, 0 < I → D[I - 1]? = some c → cmpN (userL (lastK c)) least < 0) : (D.take I).flatten.filter (inR least most) = [] := by
  by_cases h0 : I = 0
  · subst h0; simp
  · rw [List.filter_eq_nil_iff]
    intro p hp
    have hc : D[I - 1]? = some (D[I - 1]'(by omega)) := List.getElem?_eq_getElem (by omega)
    have k := ahead_all hr hne hc (p := p) (by rw [show I - 1 + 1 = I from by omega]; exact hp)
    have k2 := cmpN_le_lt k (h _ (by omega) hc)
    unfold inR
    rw [decide_eq_false (by omega)]
    simp
/-- What is told of all blocks, from the first on that isn't ahead of least. -/
theorem rng_all {D : List Ps} (hr : Rises D.flatten) (hne : ∀ c ∈ D, c ≠ []) {X : Nat → Nat} {Q : Nat → Ps} {U : Nat → List Nat} (hX : ∀ i c, D[i]? = some c → X i = 0 ∧ Q i = c ∧ U i = userL (lastK c)) (least most : List Nat) {I : Nat} (hI : I ≤ D.length) (h : 0 < I → cmpN (U (I - 1)) least < 0) :
    rngF X Q U least most (D.length - I) I [] = (0, D.flatten.filter (inR least most)) := by
  rw [rng_good hr hne hX least most _ _ _ (by omega), List.nil_append]
  have hs := skip_good hr hne hI (least := least) most (fun c h0 hc => by rw [← (hX _ _ hc).2.2]; exact h h0)
  have e : D.flatten = (D.take I).flatten ++ (D.drop I).flatten := by rw [← List.flatten_append, List.take_append_drop]
  rw [e, List.filter_append, hs, List.nil_append]
theorem inR_nil (p : List Nat × List Nat) : inR [] [] p = true := by
  unfold inR beh
  cases h : userL p.1 <;> simp [cmpN]
theorem filter_nil (ps : Ps) : ps.filter (inR [] []) = ps := by
  rw [List.filter_eq_self]
  exact fun p _ => inR_nil p
/-- A fault anywhere is told. -/
theorem rng_bad {X : Nat → Nat} {Q : Nat → Ps} {U : Nat → List Nat} : ∀ (d i : Nat) (acc : Ps) {j : Nat}, i ≤ j → j < i + d → X j ≠ 0 → ∃ k, i ≤ k ∧ k < i + d ∧ X k ≠ 0 ∧ rngF X Q U [] [] d i acc = (X k, [])
  | 0, i, acc, j, h1, h2, _ => by omega
  | d + 1, i, acc, j, h1, h2, h3 => by
    rw [rngF]
    by_cases h0 : X i = 0
    · have hb : beh (U i) [] = false := by simp [beh]
      rw [if_pos h0, hb, if_neg (by simp)]
      have hij : i ≠ j := fun e => h3 (by rw [← e]; exact h0)
      obtain ⟨k, k1, k2, k3, k4⟩ := rng_bad (X := X) (Q := Q) (U := U) d (i + 1) (acc ++ (Q i).filter (inR [] [])) (j := j) (by omega) (by omega) h3
      exact ⟨k, by omega, by omega, k3, k4⟩
    · rw [if_neg h0]
      exact ⟨i, Nat.le_refl _, by omega, h0, rfl⟩

/-! The entries up to a user key, and those behind it. -/
theorem cmpN_z : ∀ (a b : List Nat), (0 < cmpN a b ↔ 0 ≤ cmpN a (b ++ [0]))
  | [], [] => by simp [cmpN]
  | [], _ :: _ => by simp [cmpN]
  | x :: a, [] => by
    rw [List.nil_append]
    unfold cmpN
    by_cases h : x = 0
    · subst h
      simp only [Nat.lt_irrefl, if_false]
      cases a <;> simp [cmpN]
    · rw [if_neg (by omega), if_pos (by omega)]; simp
  | x :: a, y :: b => by
    rw [List.cons_append]
    unfold cmpN
    rcases Nat.lt_trichotomy x y with h | h | h
    · rw [if_pos h, if_pos h]; simp
    · rw [if_neg (by omega), if_neg (by omega), if_neg (by omega), if_neg (by omega)]; exact cmpN_z a b
    · rw [if_neg (by omega), if_pos h, if_neg (by omega), if_pos h]; simp
theorem cmpN_nil (a : List Nat) : 0 ≤ cmpN a [] := by cases a <;> simp [cmpN]
theorem part_lo {u : List Nat} (hu : 0 < u.length) (p : List Nat × List Nat) : inR [] u p = decide (cmpN (userL p.1) u ≤ 0) := by
  unfold inR beh
  rw [decide_eq_true (cmpN_nil _), decide_eq_true hu]
  simp only [Bool.true_and]
  by_cases h : 0 < cmpN (userL p.1) u
  · rw [decide_eq_true h, decide_eq_false (by omega)]; rfl
  · rw [decide_eq_false h, decide_eq_true (by omega)]; rfl
theorem part_hi (u : List Nat) (p : List Nat × List Nat) : inR (u ++ [0]) [] p = decide (0 < cmpN (userL p.1) u) := by
  unfold inR beh
  simp only [List.length_nil, Nat.lt_irrefl, decide_false, Bool.false_and, Bool.not_false, Bool.and_true]
  exact decide_eq_decide.2 (cmpN_z _ _).symm
theorem parts_all {u : List Nat} (hu : 0 < u.length) : ∀ (ps : Ps), Asc ps → ps.filter (inR [] u) ++ ps.filter (inR (u ++ [0]) []) = ps
  | [], _ => rfl
  | p :: ps, h => by
    have h2 : Asc ps := ⟨fun q hq => h.1 q (List.mem_cons_of_mem _ hq), (List.pairwise_cons.1 h.2).2⟩
    have ih := parts_all hu ps h2
    by_cases hp : cmpN (userL p.1) u ≤ 0
    · rw [List.filter_cons_of_pos (by rw [part_lo hu]; exact decide_eq_true hp), List.filter_cons_of_neg (by rw [part_hi]; simp; omega), List.cons_append, ih]
    · have hall : ∀ q ∈ ps, 0 < cmpN (userL q.1) u := fun q hq => cmpN_lt_le (by omega) (ordU ((List.pairwise_cons.1 h.2).1 q hq))
      rw [List.filter_cons_of_neg (by rw [part_lo hu]; simp; omega), List.filter_cons_of_pos (by rw [part_hi]; simp; omega)]
      rw [List.filter_eq_nil_iff.2 (fun q hq => by rw [part_lo hu]; have := hall q hq; simp; omega), List.nil_append, List.filter_eq_self.2 (fun q hq => by rw [part_hi]; simpa using hall q hq)]

/-! Entries of one length: how many blocks they make. -/
theorem tot_uni {ps : Ps} {s : Nat} (h : ∀ p ∈ ps, pl p = s) : ∀ i, i ≤ ps.length → tot ps i = i * s
  | 0, _ => by simp [tot]
  | i + 1, hi => by
    have := h _ (List.mem_of_getElem? (ps_at (ps := ps) (i := i) (by omega)))
    unfold pl at this
    dsimp only at this
    rw [tot, tot_uni h i (by omega), Nat.add_mul]; omega
theorem filF_uni {ps : Ps} {s most k : Nat} (h : ∀ p ∈ ps, pl p = s) (hk1 : most ≤ k * s) (hk2 : ∀ j, j < k → j * s < most) : ∀ (d i : Nat), i + d = ps.length → i < k → filF most ps d i = min k ps.length
  | 0, i, hd, hi => by rw [filF]; omega
  | d + 1, i, hd, hi => by
    rw [filF, tot_uni h (i + 1) (by omega)]
    by_cases he : i + 1 = k
    · rw [he, if_pos hk1]; omega
    · rw [if_neg (by have := hk2 (i + 1) (by omega); omega)]
      exact filF_uni h hk1 hk2 d (i + 1) (by omega) (by omega)
theorem fil_uni {ps : Ps} {s most k : Nat} (h : ∀ p ∈ ps, pl p = s) (hk : 0 < k) (hk1 : most ≤ k * s) (hk2 : ∀ j, j < k → j * s < most) : fil most ps = min k ps.length := filF_uni h hk1 hk2 ps.length 0 (by omega) hk
theorem chs_uni {s most k : Nat} (hk : 0 < k) (hk1 : most ≤ k * s) (hk2 : ∀ j, j < k → j * s < most) : ∀ (n : Nat) (ps : Ps), ps.length ≤ n → (∀ p ∈ ps, pl p = s) → (chs most ps).length = (ps.length + k - 1) / k
  | n, ps, hn, h => by
    by_cases h0 : ps = []
    · subst h0
      rw [chs_nil]
      symm
      exact Nat.div_eq_of_lt (by simp; omega)
    · have hl := List.length_pos_iff.2 h0
      match n, hn with
      | 0, hn => omega
      | n + 1, hn =>
        rw [chs_cons h0, List.length_cons, fil_uni h hk hk1 hk2, chs_uni hk hk1 hk2 n (ps.drop (min k ps.length)) (by rw [List.length_drop]; omega) (fun p hp => h p (List.mem_of_mem_drop hp)), List.length_drop]
        by_cases hle : ps.length ≤ k
        · rw [Nat.min_eq_right hle, Nat.sub_self, Nat.zero_add, Nat.div_eq_of_lt (by omega)]
          have : ps.length + k - 1 = (ps.length - 1) + k := by omega
          rw [this, Nat.add_div_right _ hk, Nat.div_eq_of_lt (by omega)]
        · rw [Nat.min_eq_left (by omega)]
          have : ps.length + k - 1 = (ps.length - k + k - 1) + k := by omega
          rw [this, Nat.add_div_right _ hk]
end Go.Proofs.YtnnookkcnmgbfaaGreat
namespace Go.Proofs.YtnnookkcnmgbfaaGreat
open Go.ChangeShapes Go.WideShapes Go.ChangeAt Go.RowKit

theorem look_any (w : World) {p : Nat} {dat flt : List Nat} {ips : Ps} {da fa : Option Addr} {dc fc G : Nat} (T : Tab w p dat flt ips da dc fa fc G) (hb : By dat) (hl : dat.length ≤ 1000000000) (t n : Nat) (ht : t + n + 4 ≤ dat.length) {la ua : Option Addr} {ln lc un uc : Nat} {k : List Nat} (hk : Rd w (.slice la ln lc) (bv k)) (bk : By k) {x : Nat} {qs : Ps} (hL : LookR dat t n k x qs) :
    Calls Tryz.prog 54 #[.pointer (some ⟨p, 0, none⟩), .agg #[.int .i64 (t : Int), .int .i64 (n : Int), .slice la ln lc, .slice ua un uc]] w fun e w' => ∃ ev, e = .returned (.agg #[.int .i64 (t : Int), .int .i64 (n : Int), .slice la ln lc, .slice ua un uc, ev, .bool (decide (x = 81)), .bool (decide (x = 80))]) ∧ ColO w' w.heap.size ev qs ∧ Fr [] w w' := by
  rcases hL with ⟨rfl, hs, rfl⟩ | ⟨rfl, hs, hno, rfl⟩ | ⟨rfl, hs, ⟨r, hq⟩, hne, hla⟩
  · exact (look_sum w T hb hl t n ht hs).mono fun e w' ⟨e1, f⟩ => ⟨_, e1, ColO.nil _ _, f⟩
  · by_cases hex : ∃ ps r, Blk (wn dat t n) ps r
    · obtain ⟨ps, r, hq⟩ := hex
      by_cases h0 : ps = []
      · subst h0
        exact (look_empty w T hb hl t n ht hs hq).mono fun e w' ⟨e1, f⟩ => ⟨_, e1, ColO.nil _ _, f⟩
      · rcases hno ps r hq with h | h
        · exact absurd h h0
        · exact (look_last w T hb hl t n ht hs hk bk hq h0 h).mono fun e w' ⟨e1, f⟩ => ⟨_, e1, ColO.nil _ _, f⟩
    · exact (look_noblk w T hb hl t n ht hs (fun ps r h => hex ⟨ps, r, h⟩)).mono fun e w' ⟨e1, f⟩ => ⟨_, e1, ColO.nil _ _, f⟩
  · exact (look_own w T hb hl t n ht hs hk bk hq hne hla).mono fun e w' ⟨ev, e1, c, f⟩ => ⟨ev, e1, c, f⟩
set_option maxRecDepth 20000 in
theorem behind_c (w : World) {v1 v2 : Value} {u most : List Nat} (h1 : Rd w v1 (bv u)) (hu : By u) (h2 : Rd w v2 (bv most)) (hm : By most) :
    Calls Tryz.prog 76 #[v1, v2] w fun e w' => e = .returned (.bool (beh u most)) ∧ w' = w := by
  have BC := hid (bcmp_c h1 h2 hu hm)
  obtain ⟨a1, c1, rfl⟩ := h1.form
  obtain ⟨a2, c2, rfl⟩ := h2.form
  rw [bv_len, bv_len] at *
  unfold beh
  clear h1 h2
  generalize cmpN u most = o at *
  generalize most.length = L at *
  by_cases hl : 0 < L
  · rw [decide_eq_true hl, Bool.true_and]
    go_enter Tryz.func76, Tryz.ntmps76
    go_wp2_with (go_at_call 104; refine BC.out.mono ?_; rintro e w1 ⟨rfl, h⟩; rw [h]; clear h)
    go_ret
    exact ⟨rfl, rfl⟩
  · rw [decide_eq_false hl, Bool.false_and]
    have h0 : L = 0 := by omega
    subst h0
    go_enter Tryz.func76, Tryz.ntmps76
    go_wp2
    go_ret
    exact ⟨rfl, rfl⟩
set_option maxRecDepth 20000 in
set_option maxHeartbeats 3200000 in
theorem search_o (w : World) (n : Nat) (hn : n ≤ 1000000000) (x1 x2 : Value) (P : Nat → Bool)
    (hF : ∀ h W, h < n → Fr [] w W → Calls Tryz.prog 103 #[.int .i64 (h : Int), x1, x2] W fun e w' => e = .returned (.bool (P h)) ∧ Fr [] W w') :
    Calls Tryz.prog 92 #[.int .i64 (n : Int), .func (.func 103) #[] #[x1, x2]] w fun e w' => ∃ k : Nat, e = .returned (.int .i64 (k : Int)) ∧ k ≤ n ∧ (k < n → P k = true) ∧ (0 < k → P (k - 1) = false) ∧ Fr [] w w' := by
  have HF := hid hF
  clear hF
  go_enter Tryz.func92, Tryz.ntmps92
  go_wp2_with fail
  go_loopw [5, 6] (fun v5 v6 wr => ∃ i j : Nat, v5 = .int .i64 (i : Int) ∧ v6 = .int .i64 (j : Int) ∧ i ≤ j ∧ j ≤ n ∧ (j < n → P j = true) ∧ (0 < i → P (i - 1) = false) ∧ Fr [] w wr) (fun v5 v6 _ => (intOf v6).toNat - (intOf v5).toNat)
  case atStart => exact ⟨0, n, rfl, rfl, Nat.zero_le _, Nat.le_refl _, fun h => by omega, fun h => by omega, Fr.refl _ _⟩
  case round =>
    obtain ⟨i, j, rfl, rfl, hij, hjn, h1, h2, hf⟩ := hrel
    have H := hid (And.intro h1 (And.intro h2 hf))
    clear h1 h2 hf
    by_cases hlt : i < j
    · obtain ⟨h, hh⟩ : ∃ h, h = (i + j) / 2 := ⟨_, rfl⟩
      have hdv : ((i : Int) + (j : Int)) / 2 = (h : Int) := by omega
      have hh1 : i ≤ h := by omega
      have hh2 : h < j := by omega
      have HC := hid (HF.out h wr (by omega) H.out.2.2)
      clear hh
      go_wp2_with fail
      refine HC.out.mono ?_
      rintro e w1 ⟨rfl, f1⟩
      have F1 := hid (H.out.2.2.trans f1)
      clear f1 HC
      rcases hp : P h with _ | _
      · have HP := hid hp
        clear hp
        go_wp2
        go_roundw
        case rel => exact ⟨h + 1, j, by go_num, rfl, by omega, hjn, H.out.1, fun _ => by rw [Nat.add_sub_cancel]; exact HP.out, F1.out⟩
        case measure => simp [intOf]; omega
      · have HP := hid hp
        clear hp
        go_wp2
        go_roundw
        case rel => exact ⟨i, h, rfl, rfl, by omega, by omega, fun _ => HP.out, H.out.2.1, F1.out⟩
        case measure => simp [intOf]; omega
    · have hij' : i = j := by omega
      subst hij'
      go_wp2
      go_ret
      exact ⟨i, rfl, hjn, H.out.1, H.out.2.1, H.out.2.2⟩
set_option maxRecDepth 20000 in
set_option maxHeartbeats 3200000 in
theorem bof1_c (w : World) {p C K : Nat} {dat flt : List Nat} {ips : Ps} {da fa : Option Addr} {dc fc G : Nat} (T : Tab w p dat flt ips da dc fa fc G) (hby : ByP ips) {key : List Nat} {qa : Option Addr} {qc : Nat} (rk : Rd w (.slice qa key.length qc) (bv key)) (bk : By key) (cC : w.cell? ⟨C, 0, none⟩ = some (.pointer (some ⟨p, 0, none⟩))) (cK : w.cell? ⟨K, 0, none⟩ = some (.slice qa key.length qc)) (i : Nat) (hi : i < ips.length) :
    Calls Tryz.prog 103 #[.int .i64 (i : Int), .pointer (some ⟨C, 0, none⟩), .pointer (some ⟨K, 0, none⟩)] w fun e w' => e = .returned (.bool (decide (0 ≤ cmpN (userL (kA ips i)) key))) ∧ Fr [] w w' := by
  obtain ⟨xa, xc, la, lc, s⟩ := T.rs i hi
  have AC := hid (bcmp_c (w := w.drew) (s.ru.fr (Fr.refl _ _).drew) (rk.fr (Fr.refl _ _).drew) ((kA_by hby i).1.take _) bk)
  have z1 : w.cell? ⟨p, 2, none⟩ = some (.slice (some ⟨G, 0, none⟩) ips.length ips.length) := by rw [blk_cell T.at']; rfl
  have z2 := s.c3
  clear T s rk bk hby
  generalize cmpN (userL (kA ips i)) key = y at *
  generalize (userL (kA ips i)).length = kl at *
  generalize key.length = kl2 at *
  generalize ips.length = n at *
  have SK : Hid (∀ w', Fr [] w w' → (fun w' => w'.cell? ⟨C, 0, none⟩ = some (.pointer (some ⟨p, 0, none⟩)) ∧ w'.cell? ⟨K, 0, none⟩ = some (.slice qa kl2 qc) ∧ w'.cell? ⟨p, 2, none⟩ = some (.slice (some ⟨G, 0, none⟩) n n) ∧ w'.cell? ⟨G, i * 4 + 3, none⟩ = some (.slice la kl lc)) w') := hid fun w' f => ⟨cell_fr f cC, cell_fr f cK, cell_fr f z1, cell_fr f z2⟩
  have hiI : (i : Int) < (n : Int) := by omega
  clear cC cK z1 z2
  go_enter Tryz.func103, Tryz.ntmps103
  go_upto_region 1 with fail
  refine wp_region_held_drew (S := fun w' => w'.cell? ⟨C, 0, none⟩ = some (.pointer (some ⟨p, 0, none⟩)) ∧ w'.cell? ⟨K, 0, none⟩ = some (.slice qa kl2 qc) ∧ w'.cell? ⟨p, 2, none⟩ = some (.slice (some ⟨G, 0, none⟩) n n) ∧ w'.cell? ⟨G, i * 4 + 3, none⟩ = some (.slice la kl lc)) (by kernel_rfl) (SK.out _ ((Fr.refl _ _).drew)) (fun hS => ?_)
  refine wpAnyH_take (i := 0) (v := .pointer (some ⟨p, 0, none⟩)) rfl (by kernel_rfl) (by kernel_rfl) (by kernel_rfl) (fun _ _ _ h => h) (.inl ⟨by rfl, fun wx hX => by obtain ⟨x0, x1, x2, x3⟩ := hX; go_simp⟩) hS ?_
  simp only [Act.put]
  refine wpAnyH_take (i := 1) (v := .pointer (some ⟨p, 0, none⟩)) rfl (by kernel_rfl) (by kernel_rfl) (by kernel_rfl) (fun _ _ _ h => h) (.inl ⟨by rfl, fun wx _ => by go_simp⟩) hS ?_
  simp only [Act.put]
  refine wpAnyH_take (i := 2) (v := .pointer (some ⟨p, 2, none⟩)) rfl (by kernel_rfl) (by kernel_rfl) (by kernel_rfl) (fun _ _ _ h => h) (.inl ⟨by rfl, fun wx _ => by go_simp⟩) hS ?_
  simp only [Act.put]
  refine wpAnyH_take (i := 3) (v := .slice (some ⟨G, 0, none⟩) n n) rfl (by kernel_rfl) (by kernel_rfl) (by kernel_rfl) (fun _ _ _ h => h) (.inl ⟨by rfl, fun wx hX => by obtain ⟨x0, x1, x2, x3⟩ := hX; go_simp⟩) hS ?_
  simp only [Act.put]
  refine wpAnyH_take (i := 4) (v := .int .i64 (i : Int)) rfl (by kernel_rfl) (by kernel_rfl) (by kernel_rfl) (fun _ _ _ h => h) (.inl ⟨by rfl, fun wx _ => by go_simp⟩) hS ?_
  simp only [Act.put]
  refine wpAnyH_take (i := 5) (v := .pointer (some ⟨G, i * 4, none⟩)) rfl (by kernel_rfl) (by kernel_rfl) (by kernel_rfl) (fun _ _ _ h => h) (.inl ⟨by rfl, fun wx _ => by go_simp⟩) hS ?_
  simp only [Act.put]
  refine wpAnyH_take (i := 6) (v := .pointer (some ⟨G, i * 4 + 3, none⟩)) rfl (by kernel_rfl) (by kernel_rfl) (by kernel_rfl) (fun _ _ _ h => h) (.inl ⟨by rfl, fun wx _ => by go_simp⟩) hS ?_
  simp only [Act.put]
  refine wpAnyH_take (i := 7) (v := .slice la kl lc) rfl (by kernel_rfl) (by kernel_rfl) (by kernel_rfl) (fun _ _ _ h => h) (.inl ⟨by rfl, fun wx hX => by obtain ⟨x0, x1, x2, x3⟩ := hX; go_simp⟩) hS ?_
  simp only [Act.put]
  refine wpAnyH_take (i := 8) (v := .slice qa kl2 qc) rfl (by kernel_rfl) (by kernel_rfl) (by kernel_rfl) (fun _ _ _ h => h) (.inl ⟨by rfl, fun wx hX => by obtain ⟨x0, x1, x2, x3⟩ := hX; go_simp⟩) hS ?_
  simp only [Act.put]
  refine wpAnyH_ready (rs := [9]) (by kernel_rfl) (by simp) ?_
  refine AllReadyH.cons rfl (fun K' hK => ?_) AllReadyH.nil
  go_simp
  refine AC.out.mono ?_
  rintro e w1 ⟨rfl, h1⟩
  rw [h1]
  clear h1
  refine hK.out _ _ hS (fun _ => ?_)
  clear hK K'
  refine wpAnyH_take (i := 10) (v := .bool (decide (0 ≤ y))) rfl (by kernel_rfl) (by kernel_rfl) (by kernel_rfl) (fun _ _ _ h => h) (.inl ⟨by rfl, fun wx _ => by go_simp⟩) hS ?_
  simp only [Act.put]
  refine wpAnyH_ready (rs := [11]) (by kernel_rfl) (by simp) ?_
  refine AllReadyH.cons rfl (fun K hK => ?_) AllReadyH.nil
  go_simp
  refine hK.out _ _ hS (fun _ => ?_)
  clear hK K
  clear hS
  refine wpAnyH_done (by kernel_rfl) ?_ _
  go_wp2
  go_ret
  exact ⟨rfl, (Fr.refl _ _).drew⟩
/-- Isn't a block's last user key ahead of a key? -/
def atU (ips : Ps) (key : List Nat) (k : Nat) : Bool := decide (0 ≤ cmpN (userL (kA ips k)) key)
set_option maxRecDepth 20000 in
set_option maxHeartbeats 1600000 in
theorem bof_c (w : World) {p : Nat} {dat flt : List Nat} {ips : Ps} {da fa : Option Addr} {dc fc G : Nat} (T : Tab w p dat flt ips da dc fa fc G) (hby : ByP ips) (hn : ips.length ≤ 1000000000) {key : List Nat} {kv : Value} (rk : Rd w kv (bv key)) (bk : By key) :
    Calls Tryz.prog 74 #[.pointer (some ⟨p, 0, none⟩), kv] w fun e w' => ∃ k : Nat, e = .returned (.int .i64 (k : Int)) ∧ (k ≤ ips.length ∧ (k < ips.length → atU ips key k = true) ∧ (0 < k → atU ips key (k - 1) = false)) ∧ Fr [] w w' := by
  obtain ⟨qa, qc, hv⟩ := rk.form
  rw [bv_len] at hv
  subst hv
  obtain ⟨W, hW⟩ : ∃ W, W = (w.alloc (.cells #[.pointer (some ⟨p, 0, none⟩)] 25)).alloc (.cells #[.slice qa key.length qc] 22) := ⟨_, rfl⟩
  have F0 : Hid (Fr [] w W) := hid (by rw [hW]; exact ((Fr.refl _ _).alloc _).alloc _)
  have n0 : W.heap[w.heap.size]? = some (.cells #[.pointer (some ⟨p, 0, none⟩)] 25 (0, 0)) := by rw [hW, blk_old _ _ (by simp)]; exact blk_new _ _
  have n1 : W.heap[w.heap.size + 1]? = some (.cells #[.slice qa key.length qc] 22 (0, 0)) := by rw [hW]; exact new_at _ _ (by simp)
  have T0 := T.fr F0.out
  have SE := hid (search_o W ips.length hn (.pointer (some ⟨w.heap.size, 0, none⟩)) (.pointer (some ⟨w.heap.size + 1, 0, none⟩)) (atU ips key) (fun h W' hh f => bof1_c W' (T0.fr f) hby ((rk.fr F0.out).fr f) bk (cell_fr f (by rw [blk_cell n0]; rfl)) (cell_fr f (by rw [blk_cell n1]; rfl)) h hh))
  have c0 : W.cell? ⟨w.heap.size, 0, none⟩ = some (.pointer (some ⟨p, 0, none⟩)) := by rw [blk_cell n0]; rfl
  have c2 : W.cell? ⟨p, 2, none⟩ = some (.slice (some ⟨G, 0, none⟩) ips.length ips.length) := by rw [blk_cell T0.at']; rfl
  clear T T0 rk n0 n1 hby bk
  generalize atU ips key = PP at *
  generalize key.length = kl at *
  generalize ips.length = n at *
  go_enter Tryz.func74, Tryz.ntmps74
  go_upto_region 1 with fail
  rw [← hW]
  clear hW
  go_wp2_with (go_at_call 92; refine SE.out.mono ?_; rintro e w1 ⟨k, rfl, k1, k2, k3, f1⟩; have EK := hid (And.intro k1 (And.intro k2 k3)); have F1 := hid (F0.out.trans f1); clear f1 k1 k2 k3)
  go_ret
  exact ⟨_, rfl, EK.out, F1.out⟩
end Go.Proofs.YtnnookkcnmgbfaaGreat
