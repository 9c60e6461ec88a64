/-
  The document's head, Bytes and List of an item.
-/
import Derived.Test.YtbbaaegfbbjnjaaDoorDg
import Derived.Test.YtbbaaegfbbjnjaaDoorIt
namespace Go.Proofs.YtbbaaegfbbjnjaaDoor
open Go.ChangeShapes Go.WideShapes Go.ChangeAt Go.RowKit

set_option maxRecDepth 20000 in
set_option maxHeartbeats 800000 in
theorem rhead_c (w : World) (base n : Nat) (hb : base ≤ 192) (hn : n ≤ 1000000) :
    Calls Tryd.prog 33 #[.int .i64 (base : Int), .int .i64 (n : Int)] w fun e w' => ∃ v', e = .returned v' ∧ w'.ownsRow w.heap.size 5 1 v' (headL base n).length (bv (headL base n)) ∧ Fr [] w w' := by
  by_cases h55 : n ≤ 55
  · rw [headL_short h55]
    have h1 : (n : Int) ≤ 55 := by omega
    have hw : IntKind.u8.wrap ((base : Int) + (n : Int)) = ((base + n : Nat) : Int) := by rw [IntKind.wrap_u8]; omega
    have O := hid (own_lit1 w (z := ((base + n : Nat) : Int)) (x := base + n) rfl rfl (Nat.le_refl _))
    have F := hid ((Fr.refl [] w).alloc (.cells #[.int .u8 ((base + n : Nat) : Int)] 5))
    generalize base + n = s at *
    go_enter Tryd.func33, Tryd.ntmps33
    go_wp2
    go_ret
    exact ⟨_, rfl, O.out, F.out⟩
  · rw [headL_long (by omega)]
    obtain ⟨G, hG⟩ : ∃ G, G = digs n := ⟨_, rfl⟩
    rw [← hG]
    have HG := hid hG
    clear hG
    go_enter Tryd.func33, Tryd.ntmps33
    go_wp2
    go_loopw [5, 6] (fun v5 v6 wr => ∃ (s m : Nat) (ds : List Nat), v6 = .int .i64 (m : Int) ∧ m ≤ 1000000 ∧ s + ds.length = 8 ∧ m < 256 ^ s ∧ G = digF s m ++ ds ∧ wr.ownsRow w.heap.size 5 1 v5 ds.length (bv ds) ∧ Fr [] w wr) (fun _ v6 _ => (intOf v6).toNat)
    case atStart => exact ⟨8, n, [], rfl, by omega, rfl, (by rw [show (256 : Nat) ^ 8 = 18446744073709551616 from rfl]; omega), by rw [HG.out, List.append_nil]; rfl, World.ownsRow_nil _ _ _ _, Fr.refl _ _⟩
    case round =>
      obtain ⟨s, m, ds, rfl, hm6, hs, hms, hd, ho, hf⟩ := hrel
      have HS := hid hs
      have HMS := hid hms
      have HD := hid hd
      have RO := hid ho
      have RF := hid hf
      obtain ⟨L, hL⟩ : ∃ L, L = ds.length := ⟨_, rfl⟩
      rw [← hL] at ho
      obtain ⟨a5, c5, rfl, _⟩ := ownsRow_slice ho
      have RR := hid (Rd.ownN ho hL)
      have HL := hid hL
      have hL8 : L ≤ 8 := by omega
      clear hs hms hd ho hL
      by_cases hm : m = 0
      · subst hm
        have hx : IntKind.u8.wrap ((base : Int) + 55 + (L : Int)) = ((base + 55 + L : Nat) : Int) := by rw [IntKind.wrap_u8]; omega
        have HGD : Hid (G = ds) := by unfold Hid; rw [HD.out, digF_zero]; rfl
        obtain ⟨X, hX⟩ : ∃ X, X = base + 55 + L := ⟨_, rfl⟩
        have OX := hid (own_lit1 wr (z := (X : Int)) (x := X) rfl rfl hf.size)
        rw [← hX] at hx
        have FX := hid (hf.alloc (.cells #[.int .u8 (X : Int)] 5))
        have RX := hid (RR.out.fr ((Fr.refl [] wr).alloc (.cells #[.int .u8 (X : Int)] 5)))
        have HX := hid hX
        have hl1 : Hid ([X].length + ds.length ≤ 140737488355328) := by unfold Hid; rw [← HL.out]; simp; omega
        clear hX hf
        go_wp2_with (at_builtin; refine wpList_append_bv rfl _ _ rfl OX.out rfl FX.out (Nat.le_refl _) FX.out.size _ RX.out rfl hl1.out ?_; intro v8 w8 o8 f8; have O8 := hid o8; have F8 := hid f8; clear o8 f8)
        go_ret
        refine ⟨v8, rfl, ?_, F8.out⟩
        have := O8.out
        rw [← HL.out] at this
        rw [HGD.out, ← HL.out, ← HX.out, Nat.add_comm]
        exact this
      · have hm0 : (0 : Int) < (m : Int) := by omega
        have OX := hid (own_lit1 wr (z := (m : Int) % 256) (x := m % 256) (by omega) rfl hf.size)
        have FX := hid (hf.alloc (.cells #[.int .u8 ((m : Int) % 256)] 5))
        have RX := hid (RR.out.fr ((Fr.refl [] wr).alloc (.cells #[.int .u8 ((m : Int) % 256)] 5)))
        have hl1 : Hid ([m % 256].length + ds.length ≤ 140737488355328) := by unfold Hid; rw [← HL.out]; simp; omega
        clear hf
        go_wp2_with (at_builtin; refine wpList_append_bv rfl _ _ rfl OX.out rfl FX.out (Nat.le_refl _) FX.out.size _ RX.out rfl hl1.out ?_; intro v8 w8 o8 f8; have O8 := hid o8; have F8 := hid f8; clear o8 f8)
        go_roundw
        case rel =>
          have hs0 : s ≠ 0 := fun e => by have := HMS.out; rw [e] at this; simp at this; exact hm this
          obtain ⟨q, rfl⟩ : ∃ q, s = q + 1 := ⟨s - 1, by omega⟩
          refine ⟨q, m / 256, [m % 256] ++ ds, by go_num, by omega, by have := HS.out; simp; omega, ?_, ?_, ?_, F8.out⟩
          · have := HMS.out; rw [Nat.pow_succ] at this; omega
          · rw [HD.out, digF, if_neg hm, List.append_assoc]
          · have := O8.out
            rw [← List.length_append] at this
            exact this
        case measure => simp [intOf]; omega

set_option maxRecDepth 20000 in
set_option maxHeartbeats 800000 in
theorem rbytes_c (w : World) {v : Value} {b : List Nat} (hr : Rd w v (bv b)) (hb : By b) (hl : b.length ≤ 1000000) :
    Calls Tryd.prog 19 #[v] w fun e w' => ∃ v', e = .returned v' ∧ w'.ownsRow w.heap.size 5 1 v' (strL b).length (bv (strL b)) ∧ Fr [] w w' := by
  by_cases h1 : b.length = 1 ∧ b.headD 0 < 128
  · have hs : strL b = b := by unfold strL; rw [if_pos h1]
    obtain ⟨x, rfl⟩ : ∃ x, b = [x] := by
      rcases b with _ | ⟨x, _ | ⟨y, r⟩⟩
      · simp at h1
      · exact ⟨x, rfl⟩
      · simp at h1
    rw [hs]
    have hx : x < 128 := by simpa using h1.2
    rcases hr.split with ⟨h, _⟩ | ⟨q, off, c, rfl, h2, h3, h4⟩
    · cases h
    have hc := h4 0 x rfl
    simp at hc
    have O := hid (own_lit1 w (z := (x : Int)) (x := x) rfl rfl (Nat.le_refl _))
    have F := hid ((Fr.refl [] w).alloc (.cells #[.int .u8 (x : Int)] 5))
    have hx' : (x : Int) < 128 := by omega
    clear hs h1 hr h4
    go_enter Tryd.func19, Tryd.ntmps19
    go_wp2
    go_ret
    exact ⟨_, rfl, O.out, F.out⟩
  · have hs : strL b = headL 128 b.length ++ b := by unfold strL; rw [if_neg h1]
    rw [hs]
    obtain ⟨a, c, hv⟩ := hr.form
    rw [bv_len] at hv
    subst hv
    obtain ⟨L, hL⟩ : ∃ L, L = b.length := ⟨_, rfl⟩
    rw [← hL] at hr hl h1 ⊢
    have HR := hid hr
    have HL := hid hL
    have HH := hid (rhead_c w 128 L (by omega) hl)
    have hh : Hid ((headL 128 L).length + b.length ≤ 140737488355328) := by unfold Hid; have := (headL_len 128 L).2; omega
    by_cases hL1 : L = 1
    · subst hL1
      have hx0 : ¬ b.headD 0 < 128 := fun h => h1 ⟨rfl, h⟩
      obtain ⟨x, rfl⟩ : ∃ x, b = [x] := by
        rcases b with _ | ⟨x, _ | ⟨y, r⟩⟩
        · simp at hL
        · exact ⟨x, rfl⟩
        · simp at hL
      have hx : ¬ x < 128 := by simpa using hx0
      rcases hr.split with ⟨h, _⟩ | ⟨q, off, c', he, h2, h3, h4⟩
      · cases h
      simp only [Value.slice.injEq] at he
      obtain ⟨rfl, he2, rfl⟩ := he
      clear he2
      have hc := h4 0 x rfl
      simp at hc
      have hx' : ¬ (x : Int) < 128 := by omega
      clear hs h1 hr h4 hL hx0
      go_enter Tryd.func19, Tryd.ntmps19
      go_wp2_with fail
      refine HH.out.mono ?_
      rintro e w1 ⟨v1, rfl, o1, f1⟩
      have O1 := hid o1
      have F1 := hid f1
      have R1 := hid (HR.out.fr f1)
      clear o1 f1
      go_wp2_with (at_builtin; refine wpList_append_bv rfl _ _ rfl O1.out rfl F1.out (Nat.le_refl _) F1.out.size _ R1.out rfl hh.out ?_; intro v8 w8 o8 f8; rw [← List.length_append] at o8; have O8 := hid o8; have F8 := hid f8; clear o8 f8)
      go_ret
      exact ⟨v8, rfl, O8.out, F8.out⟩
    · have hz : ((L : Int) == 1) = false := beq_eq_false_iff_ne.2 (by omega)
      clear hs h1 hr hL
      go_enter Tryd.func19, Tryd.ntmps19
      go_wp2_with fail
      refine HH.out.mono ?_
      rintro e w1 ⟨v1, rfl, o1, f1⟩
      have O1 := hid o1
      have F1 := hid f1
      have R1 := hid (HR.out.fr f1)
      clear o1 f1
      go_wp2_with (at_builtin; refine wpList_append_bv rfl _ _ rfl O1.out rfl F1.out (Nat.le_refl _) F1.out.size _ R1.out rfl hh.out ?_; intro v8 w8 o8 f8; rw [← List.length_append] at o8; have O8 := hid o8; have F8 := hid f8; clear o8 f8)
      go_ret
      exact ⟨v8, rfl, O8.out, F8.out⟩
end Go.Proofs.YtbbaaegfbbjnjaaDoor
