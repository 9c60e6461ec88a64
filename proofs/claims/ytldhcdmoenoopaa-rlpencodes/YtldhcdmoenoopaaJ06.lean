/-
  Items in memory, and the gate that counts them.
-/
import Derived.Test.YtldhcdmoenoopaaDg
import Derived.Deep.Light
namespace Go.Proofs.Ytldhcdmoenoopaa
open Go.ChangeShapes Go.WideShapes Go.ChangeAt Go.RowKit

/-- A value that is an item, as deep as it is looked at. -/
def IsV (w : World) : (n : Nat) → Value → Tr n → Prop
  | 0, v, _ => ∃ l a1 n1 c1 a2 n2 c2, v = .agg #[.bool l, .slice a1 n1 c1, .slice a2 n2 c2]
  | n + 1, v, t => ∃ bs ka kc, v = .agg #[.bool (tL t), bs, .slice ka (tK t).length kc] ∧ Rd w bs (bv (tB t)) ∧ By (tB t) ∧ (tB t).length ≤ 140737488355328 ∧ (tK t).length ≤ kc ∧ (tK t).length ≤ 140737488355328 ∧
      (0 < (tK t).length → ∃ kb ko, ka = some ⟨kb, ko, none⟩ ∧ ∀ (j : Nat) (k : Tr n), (tK t)[j]? = some k → ∃ l bs' is', w.cell? ⟨kb, ko + j * 3, none⟩ = some (.bool l) ∧ w.cell? ⟨kb, ko + j * 3 + 1, none⟩ = some bs' ∧ w.cell? ⟨kb, ko + j * 3 + 2, none⟩ = some is' ∧ IsV w n (.agg #[.bool l, bs', is']) k)

theorem cell_fr {w w' : World} {a : Addr} {v : Value} (h : w.cell? a = some v) (f : Fr [] w w') : w'.cell? a = some v := by
  rw [World.cell?_of_block (w := w) (f.block _ (World.block_lt_of_cell? w _ h) (by simp))]; exact h
theorem IsV.fr : ∀ {n : Nat} {w w' : World} {v : Value} {t : Tr n}, IsV w n v t → Fr [] w w' → IsV w' n v t
  | 0, _, _, _, _, h, _ => h
  | n + 1, w, w', v, t, h, f => by
    obtain ⟨bs, ka, kc, h1, h2, h3, h4, h5, h5', h6⟩ := h
    refine ⟨bs, ka, kc, h1, h2.fr f, h3, h4, h5, h5', fun h0 => ?_⟩
    obtain ⟨kb, ko, e, h7⟩ := h6 h0
    refine ⟨kb, ko, e, fun j k hj => ?_⟩
    obtain ⟨l, b', i', c1, c2, c3, c4⟩ := h7 j k hj
    exact ⟨l, b', i', cell_fr c1 f, cell_fr c2 f, cell_fr c3 f, c4.fr f⟩
theorem IsV.byT : ∀ {n : Nat} {w : World} {v : Value} {t : Tr n}, IsV w n v t → byT n t
  | 0, _, _, _, _ => trivial
  | n + 1, w, v, t, h => by
    obtain ⟨bs, ka, kc, h1, h2, h3, h4, h5, h5', h6⟩ := h
    refine ⟨h3, fun k hk => ?_⟩
    obtain ⟨j, hj⟩ := List.getElem?_of_mem hk
    have h0 : 0 < (tK t).length := List.length_pos_of_mem hk
    obtain ⟨kb, ko, e, h7⟩ := h6 h0
    obtain ⟨l, b', i', c1, c2, c3, c4⟩ := h7 j k hj
    exact c4.byT
/-- An item in three cells. -/
theorem IsV.agg {n : Nat} {w : World} {v : Value} {t : Tr n} (h : IsV w n v t) : ∃ l a1 n1 c1 a2 n2 c2, v = .agg #[.bool l, .slice a1 n1 c1, .slice a2 n2 c2] := by
  cases n with
  | zero => exact h
  | succ n =>
    obtain ⟨bs, ka, kc, h1, h2, _⟩ := h
    obtain ⟨a, c, rfl⟩ := h2.form
    exact ⟨_, _, _, _, _, _, _, h1⟩
theorem IsV.cells {n : Nat} {w : World} {l : Bool} {bs is : Value} {t : Tr n} (h : IsV w n (.agg #[.bool l, bs, is]) t) : ∃ a1 n1 c1 a2 n2 c2, bs = .slice a1 n1 c1 ∧ is = .slice a2 n2 c2 := by
  obtain ⟨l', a1, n1, c1, a2, n2, c2, e⟩ := h.agg
  simp only [Value.agg.injEq, Array.mk.injEq, List.cons.injEq] at e
  exact ⟨a1, n1, c1, a2, n2, c2, e.2.1, e.2.2.1⟩

set_option maxRecDepth 20000 in
theorem gate_no (w : World) {g d c : Nat} (hg : w.heap[g]? = some (.cells #[.int .i64 (c : Int)] 3 (0, 0))) (h : 16 < d ∨ c = 4096) (hd : d ≤ 100000) :
    Calls Try.prog 35 #[.int .i64 (d : Int), .pointer (some ⟨g, 0, none⟩)] w fun e w' => e = .returned (.int .i64 43) ∧ w' = w := by
  have hc := blk_cell hg 0
  simp at hc
  by_cases h1 : 16 < d
  · go_enter Try.func35, Try.ntmps35
    go_wp2
    go_ret
    exact ⟨rfl, rfl⟩
  · have h2 : c = 4096 := by omega
    subst h2
    go_enter Try.func35, Try.ntmps35
    go_wp2
    go_ret
    exact ⟨rfl, rfl⟩
set_option maxRecDepth 20000 in
theorem gate_yes (w : World) {g d c : Nat} (hg : w.heap[g]? = some (.cells #[.int .i64 (c : Int)] 3 (0, 0))) (h : d ≤ 16) (hc : c < 4096) :
    Calls Try.prog 35 #[.int .i64 (d : Int), .pointer (some ⟨g, 0, none⟩)] w fun e w' => e = .returned (.int .i64 0) ∧ w'.heap[g]? = some (.cells #[.int .i64 ((c + 1 : Nat) : Int)] 3 (0, 0)) ∧ Fr [g] w w' := by
  have hc1 := blk_cell hg 0
  have hf1 := blk_frozen hg 0
  simp at hc1
  have hz : ((c : Int) == 4096) = false := beq_eq_false_iff_ne.2 (by omega)
  have H : Hid ((w.setCell ⟨g, 0, none⟩ (.int .i64 ((c : Int) + 1))).heap[g]? = some (.cells #[.int .i64 ((c + 1 : Nat) : Int)] 3 (0, 0))) := by
    unfold Hid; rw [blk_set hg]; simp
  go_enter Try.func35, Try.ntmps35
  go_wp2
  go_ret
  exact ⟨rfl, H.out, (Fr.refl _ _).set _ _ (.inl (by simp))⟩
end Go.Proofs.Ytldhcdmoenoopaa
namespace Go.Proofs.Ytldhcdmoenoopaa
open Go.ChangeShapes Go.WideShapes Go.ChangeAt Go.RowKit

set_option maxRecDepth 20000 in
set_option maxHeartbeats 800000 in
theorem rhead_c (w : World) (base n : Nat) (hb : base ≤ 192) (hn : n ≤ 1000000) :
    Calls Try.prog 42 #[.int .i64 (base : Int), .int .i64 (n : Int)] w fun e w' => ∃ v', e = .returned v' ∧ w'.ownsRow w.heap.size 5 1 v' (headL base n).length (bv (headL base n)) ∧ Fr [] w w' := by
  by_cases h55 : n ≤ 55
  · rw [headL_short h55]
    have h1 : (n : Int) ≤ 55 := by omega
    have hw : IntKind.u8.wrap ((base : Int) + (n : Int)) = ((base + n : Nat) : Int) := by rw [IntKind.wrap_u8]; omega
    have O := hid (own_lit1 w (z := ((base + n : Nat) : Int)) (x := base + n) rfl rfl (Nat.le_refl _))
    have F := hid ((Fr.refl [] w).alloc (.cells #[.int .u8 ((base + n : Nat) : Int)] 5))
    generalize base + n = s at *
    go_enter Try.func42, Try.ntmps42
    go_wp2
    go_ret
    exact ⟨_, rfl, O.out, F.out⟩
  · rw [headL_long (by omega)]
    obtain ⟨G, hG⟩ : ∃ G, G = digs n := ⟨_, rfl⟩
    rw [← hG]
    have HG := hid hG
    clear hG
    go_enter Try.func42, Try.ntmps42
    go_wp2
    go_loopw [5, 6] (fun v5 v6 wr => ∃ (s m : Nat) (ds : List Nat), v6 = .int .i64 (m : Int) ∧ m ≤ 1000000 ∧ s + ds.length = 8 ∧ m < 256 ^ s ∧ G = digF s m ++ ds ∧ wr.ownsRow w.heap.size 5 1 v5 ds.length (bv ds) ∧ Fr [] w wr) (fun _ v6 _ => (intOf v6).toNat)
    case atStart => exact ⟨8, n, [], rfl, by omega, rfl, (by rw [show (256 : Nat) ^ 8 = 18446744073709551616 from rfl]; omega), by rw [HG.out, List.append_nil]; rfl, World.ownsRow_nil _ _ _ _, Fr.refl _ _⟩
    case round =>
      obtain ⟨s, m, ds, rfl, hm6, hs, hms, hd, ho, hf⟩ := hrel
      have HS := hid hs
      have HMS := hid hms
      have HD := hid hd
      have RO := hid ho
      have RF := hid hf
      obtain ⟨L, hL⟩ : ∃ L, L = ds.length := ⟨_, rfl⟩
      rw [← hL] at ho
      obtain ⟨a5, c5, rfl, _⟩ := ownsRow_slice ho
      have RR := hid (Rd.ownN ho hL)
      have HL := hid hL
      have hL8 : L ≤ 8 := by omega
      clear hs hms hd ho hL
      by_cases hm : m = 0
      · subst hm
        have hx : IntKind.u8.wrap ((base : Int) + 55 + (L : Int)) = ((base + 55 + L : Nat) : Int) := by rw [IntKind.wrap_u8]; omega
        have HGD : Hid (G = ds) := by unfold Hid; rw [HD.out, digF_zero]; rfl
        obtain ⟨X, hX⟩ : ∃ X, X = base + 55 + L := ⟨_, rfl⟩
        have OX := hid (own_lit1 wr (z := (X : Int)) (x := X) rfl rfl hf.size)
        rw [← hX] at hx
        have FX := hid (hf.alloc (.cells #[.int .u8 (X : Int)] 5))
        have RX := hid (RR.out.fr ((Fr.refl [] wr).alloc (.cells #[.int .u8 (X : Int)] 5)))
        have HX := hid hX
        have hl1 : Hid ([X].length + ds.length ≤ 140737488355328) := by unfold Hid; rw [← HL.out]; simp; omega
        clear hX hf
        go_wp2_with (at_builtin; refine wpList_append_bv rfl _ _ rfl OX.out rfl FX.out (Nat.le_refl _) FX.out.size _ RX.out rfl hl1.out ?_; intro v8 w8 o8 f8; have O8 := hid o8; have F8 := hid f8; clear o8 f8)
        go_ret
        refine ⟨v8, rfl, ?_, F8.out⟩
        have := O8.out
        rw [← HL.out] at this
        rw [HGD.out, ← HL.out, ← HX.out, Nat.add_comm]
        exact this
      · have hm0 : (0 : Int) < (m : Int) := by omega
        have OX := hid (own_lit1 wr (z := (m : Int) % 256) (x := m % 256) (by omega) rfl hf.size)
        have FX := hid (hf.alloc (.cells #[.int .u8 ((m : Int) % 256)] 5))
        have RX := hid (RR.out.fr ((Fr.refl [] wr).alloc (.cells #[.int .u8 ((m : Int) % 256)] 5)))
        have hl1 : Hid ([m % 256].length + ds.length ≤ 140737488355328) := by unfold Hid; rw [← HL.out]; simp; omega
        clear hf
        go_wp2_with (at_builtin; refine wpList_append_bv rfl _ _ rfl OX.out rfl FX.out (Nat.le_refl _) FX.out.size _ RX.out rfl hl1.out ?_; intro v8 w8 o8 f8; have O8 := hid o8; have F8 := hid f8; clear o8 f8)
        go_roundw
        case rel =>
          have hs0 : s ≠ 0 := fun e => by have := HMS.out; rw [e] at this; simp at this; exact hm this
          obtain ⟨q, rfl⟩ : ∃ q, s = q + 1 := ⟨s - 1, by omega⟩
          refine ⟨q, m / 256, [m % 256] ++ ds, by go_num, by omega, by have := HS.out; simp; omega, ?_, ?_, ?_, F8.out⟩
          · have := HMS.out; rw [Nat.pow_succ] at this; omega
          · rw [HD.out, digF, if_neg hm, List.append_assoc]
          · have := O8.out
            rw [← List.length_append] at this
            exact this
        case measure => simp [intOf]; omega

set_option maxRecDepth 20000 in
set_option maxHeartbeats 800000 in
theorem rlist_c (w : World) {v : Value} {b : List Nat} (hr : Rd w v (bv b)) (hl : b.length ≤ 1000000) :
    Calls Try.prog 34 #[v] w fun e w' => ∃ v', e = .returned v' ∧ w'.ownsRow w.heap.size 5 1 v' (headL 192 b.length ++ b).length (bv (headL 192 b.length ++ b)) ∧ Fr [] w w' := by
  obtain ⟨a, c, hv⟩ := hr.form
  rw [bv_len] at hv
  subst hv
  obtain ⟨L, hL⟩ : ∃ L, L = b.length := ⟨_, rfl⟩
  rw [← hL] at hr hl ⊢
  have HR := hid hr
  have HL := hid hL
  have HH := hid (rhead_c w 192 L (by omega) hl)
  have hh : Hid ((headL 192 L).length + b.length ≤ 140737488355328) := by unfold Hid; have := (headL_len 192 L).2; omega
  clear hr hL
  go_enter Try.func34, Try.ntmps34
  go_wp2_with fail
  refine HH.out.mono ?_
  rintro e w1 ⟨v1, rfl, o1, f1⟩
  have O1 := hid o1
  have F1 := hid f1
  have R1 := hid (HR.out.fr f1)
  clear o1 f1
  go_wp2_with (at_builtin; refine wpList_append_bv rfl _ _ rfl O1.out rfl F1.out (Nat.le_refl _) F1.out.size _ R1.out rfl hh.out ?_; intro v8 w8 o8 f8; rw [← List.length_append] at o8; have O8 := hid o8; have F8 := hid f8; clear o8 f8)
  go_ret
  exact ⟨v8, rfl, O8.out, F8.out⟩

set_option maxRecDepth 20000 in
set_option maxHeartbeats 800000 in
theorem rbytes_c (w : World) {v : Value} {b : List Nat} (hr : Rd w v (bv b)) (hb : By b) (hl : b.length ≤ 1000000) :
    Calls Try.prog 33 #[v] w fun e w' => ∃ v', e = .returned v' ∧ w'.ownsRow w.heap.size 5 1 v' (strL b).length (bv (strL b)) ∧ Fr [] w w' := by
  by_cases h1 : b.length = 1 ∧ b.headD 0 < 128
  · have hs : strL b = b := by unfold strL; rw [if_pos h1]
    obtain ⟨x, rfl⟩ : ∃ x, b = [x] := by
      rcases b with _ | ⟨x, _ | ⟨y, r⟩⟩
      · simp at h1
      · exact ⟨x, rfl⟩
      · simp at h1
    rw [hs]
    have hx : x < 128 := by simpa using h1.2
    rcases hr.split with ⟨h, _⟩ | ⟨q, off, c, rfl, h2, h3, h4⟩
    · cases h
    have hc := h4 0 x rfl
    simp at hc
    have O := hid (own_lit1 w (z := (x : Int)) (x := x) rfl rfl (Nat.le_refl _))
    have F := hid ((Fr.refl [] w).alloc (.cells #[.int .u8 (x : Int)] 5))
    have hx' : (x : Int) < 128 := by omega
    clear hs h1 hr h4
    go_enter Try.func33, Try.ntmps33
    go_wp2
    go_ret
    exact ⟨_, rfl, O.out, F.out⟩
  · have hs : strL b = headL 128 b.length ++ b := by unfold strL; rw [if_neg h1]
    rw [hs]
    obtain ⟨a, c, hv⟩ := hr.form
    rw [bv_len] at hv
    subst hv
    obtain ⟨L, hL⟩ : ∃ L, L = b.length := ⟨_, rfl⟩
    rw [← hL] at hr hl h1 ⊢
    have HR := hid hr
    have HL := hid hL
    have HH := hid (rhead_c w 128 L (by omega) hl)
    have hh : Hid ((headL 128 L).length + b.length ≤ 140737488355328) := by unfold Hid; have := (headL_len 128 L).2; omega
    by_cases hL1 : L = 1
    · subst hL1
      have hx0 : ¬ b.headD 0 < 128 := fun h => h1 ⟨rfl, h⟩
      obtain ⟨x, rfl⟩ : ∃ x, b = [x] := by
        rcases b with _ | ⟨x, _ | ⟨y, r⟩⟩
        · simp at hL
        · exact ⟨x, rfl⟩
        · simp at hL
      have hx : ¬ x < 128 := by simpa using hx0
      rcases hr.split with ⟨h, _⟩ | ⟨q, off, c', he, h2, h3, h4⟩
      · cases h
      simp only [Value.slice.injEq] at he
      obtain ⟨rfl, he2, rfl⟩ := he
      clear he2
      have hc := h4 0 x rfl
      simp at hc
      have hx' : ¬ (x : Int) < 128 := by omega
      clear hs h1 hr h4 hL hx0
      go_enter Try.func33, Try.ntmps33
      go_wp2_with fail
      refine HH.out.mono ?_
      rintro e w1 ⟨v1, rfl, o1, f1⟩
      have O1 := hid o1
      have F1 := hid f1
      have R1 := hid (HR.out.fr f1)
      clear o1 f1
      go_wp2_with (at_builtin; refine wpList_append_bv rfl _ _ rfl O1.out rfl F1.out (Nat.le_refl _) F1.out.size _ R1.out rfl hh.out ?_; intro v8 w8 o8 f8; rw [← List.length_append] at o8; have O8 := hid o8; have F8 := hid f8; clear o8 f8)
      go_ret
      exact ⟨v8, rfl, O8.out, F8.out⟩
    · have hz : ((L : Int) == 1) = false := beq_eq_false_iff_ne.2 (by omega)
      clear hs h1 hr hL
      go_enter Try.func33, Try.ntmps33
      go_wp2_with fail
      refine HH.out.mono ?_
      rintro e w1 ⟨v1, rfl, o1, f1⟩
      have O1 := hid o1
      have F1 := hid f1
      have R1 := hid (HR.out.fr f1)
      clear o1 f1
      go_wp2_with (at_builtin; refine wpList_append_bv rfl _ _ rfl O1.out rfl F1.out (Nat.le_refl _) F1.out.size _ R1.out rfl hh.out ?_; intro v8 w8 o8 f8; rw [← List.length_append] at o8; have O8 := hid o8; have F8 := hid f8; clear o8 f8)
      go_ret
      exact ⟨v8, rfl, O8.out, F8.out⟩
end Go.Proofs.Ytldhcdmoenoopaa
