/-
  The walk of DiskRoom.
-/
import Derived.Test.YtiiielhhddfdpabN
namespace Go.Proofs.Ytiiielhhddfdpab
open Go.ChangeShapes Go.WideShapes Go.ChangeAt Go.RowKit

theorem isNm_x : isNm ⟨#[120]⟩ = true := by decide
theorem isNm_y : isNm ⟨#[121]⟩ = true := by decide
/-- The entries of the map: two names. -/
def esXY (fx fy : Nat) : Array MapEntry := #[⟨.string ⟨#[120]⟩, .pointer (some ⟨fx, 0, none⟩), 0⟩, ⟨.string ⟨#[121]⟩, .pointer (some ⟨fy, 0, none⟩), 1⟩]
theorem SK_xy (fx fy : Nat) : SK (esXY fx fy).toList := fun e he => by simp [esXY] at he; rcases he with rfl | rfl <;> exact ⟨_, rfl⟩
theorem lk_x (fx fy : Nat) : lk (esXY fx fy).toList ⟨#[120]⟩ = some (.pointer (some ⟨fx, 0, none⟩)) := rfl
theorem lk_y (fx fy : Nat) : lk (esXY fx fy).toList ⟨#[121]⟩ = some (.pointer (some ⟨fy, 0, none⟩)) := rfl
theorem lk_xn (v : Value) : lk [⟨.string ⟨#[120]⟩, v, 0⟩] ⟨#[121]⟩ = none := rfl

theorem two_made {w w2 w3 w4 : World} {b m0 m1 fx fy : Nat} {cap : Int} {pv3 pv4 : Value}
    (h2 : DB w2 b cap m0 m1 (.slice none 0 0) 0 0 0 0 (-1) false ∧ w2.heap[m0]? = some (.map #[] 0) ∧ w.heap.size ≤ b ∧ w.heap.size ≤ m0 ∧ Fr [] w w2)
    (h3 : DB w3 b cap m0 m1 pv3 0 (0 + 1) (0 + 1) 0 (-1) false ∧ w3.ownsRow 0 67 1 pv3 ([] ++ [cr b ⟨#[120]⟩ fx]).length ([] ++ [cr b ⟨#[120]⟩ fx]) ∧ w3.heap[m0]? = some (.map (#[].push ⟨.string ⟨#[120]⟩, .pointer (some ⟨fx, 0, none⟩), 0⟩) (0 + 1)) ∧
      FB w3 fx 0 (.slice none 0 0) (.slice none 0 0) (.slice none 0 0) ∧ w2.heap.size ≤ fx ∧ Fr (m0 :: b :: (Value.slice none 0 0).ownBlock.toList) w2 w3 ∧ (pv3.ownBlock = (Value.slice none 0 0).ownBlock ∨ ∃ k, pv3.ownBlock = some k ∧ w2.heap.size ≤ k))
    (h4 : DB w4 b cap m0 m1 pv4 0 (0 + 1 + 1) (0 + 1 + 1) 0 (-1) false ∧ w4.ownsRow 0 67 1 pv4 (([] ++ [cr b ⟨#[120]⟩ fx]) ++ [cr b ⟨#[121]⟩ fy]).length (([] ++ [cr b ⟨#[120]⟩ fx]) ++ [cr b ⟨#[121]⟩ fy]) ∧
      w4.heap[m0]? = some (.map ((#[].push ⟨.string ⟨#[120]⟩, .pointer (some ⟨fx, 0, none⟩), 0⟩).push ⟨.string ⟨#[121]⟩, .pointer (some ⟨fy, 0, none⟩), 0 + 1⟩) (0 + 1 + 1)) ∧
      FB w4 fy (0 + 1) (.slice none 0 0) (.slice none 0 0) (.slice none 0 0) ∧ w3.heap.size ≤ fy ∧ Fr (m0 :: b :: pv3.ownBlock.toList) w3 w4 ∧ (pv4.ownBlock = pv3.ownBlock ∨ ∃ k, pv4.ownBlock = some k ∧ w3.heap.size ≤ k)) :
    Two w w4 b m0 m1 cap 0 2 (esXY fx fy) 2 fx fy 0 1 0 := by
  obtain ⟨_, _, a3, a4, a5⟩ := h2
  obtain ⟨b1, b2, b3, b4, b5, b6, b7⟩ := h3
  obtain ⟨c1, _, c3, c4, c5, c6, _⟩ := h4
  have s5 := a5.size
  have s6 := b6.size
  have hfx := blk_lt b4
  have kx : fx ∉ m0 :: b :: pv3.ownBlock.toList := by
    intro e
    simp only [List.mem_cons, Option.mem_toList] at e
    rcases e with e | e | e
    · subst e; unfold FB at b4; rw [b3] at b4; cases b4
    · subst e; unfold FB at b4; unfold DB at b1; rw [b1] at b4; simp at b4
    · exact ownsRow_ne b2 b4 (by decide) e
  refine ⟨pv4, 0, 0, none, none, none, none, c1, c3, ?_, ?_, by simp, by omega, by simp, by simp, ?_, a3⟩
  · exact ⟨_, _, _, [], [], c6.at b4 kx, World.ownsRow_nil _ _ _ _, World.ownsRow_nil _ _ _ _, rfl, by simp, rfl, rfl, by simp, by simp, by omega⟩
  · exact ⟨_, _, _, [], [], c4, World.ownsRow_nil _ _ _ _, World.ownsRow_nil _ _ _ _, rfl, by simp, rfl, rfl, by simp, by simp, by omega⟩
  · refine (a5.trans' b6 fun x hx hlt => ?_).trans' c6 fun x hx hlt => ?_
    · simp only [Value.ownBlock, Option.toList_none, List.mem_cons, List.not_mem_nil, or_false] at hx; omega
    · simp only [List.mem_cons, Option.mem_toList] at hx
      rcases hx with e | e | e
      · omega
      · omega
      · rcases b7 with h | ⟨k, h, h2⟩
        · rw [h] at e; simp [Value.ownBlock] at e
        · rw [h] at e; cases e; omega

/-- An Append to the first of two files, whatever its bytes. -/
theorem app_two {w0 w : World} {b m0 m1 : Nat} {cap used cnt : Int} {es : Array MapEntry} {clk f g : Nat} {nf ng : Int} {pn : Nat} (h : Two w0 w b m0 m1 cap used cnt es clk f g nf ng pn) (h0 : 0 ≤ cnt) (h1 : cnt < 1000000) (hpn : pn ≤ 1000) (hc : cap ≤ 2000) (hu : used ≤ cap)
    {s : ByteArray} (hs : SK es.toList) (hv : lk es.toList s = some (.pointer (some ⟨f, 0, none⟩))) (hn : isNm s = true) (hl : s.size ≤ maxLen) {ba : Option Addr} {bc : Nat} {xs : List Value} (hr : Rd w (.slice ba xs.length bc) xs) (hb : Bts xs) (hxl : xs.length ≤ 140737488355328) (hrb : ∀ a, ba = some a → 0 < xs.length → a.block < w0.heap.size) :
    Calls Try.prog 7 #[.pointer (some ⟨b, 0, none⟩), .string s, .slice ba xs.length bc] w fun e w' => e = .returned (.int .i64 (if 0 < xs.length ∧ cap < used + xs.length then 15 else 0)) ∧
      Two w0 w' b m0 m1 cap (if 0 < xs.length ∧ cap < used + xs.length then used else used + xs.length) (cnt + 1) es clk f g nf ng (pn + 1) := by
  have h' := h
  obtain ⟨pv, lf, lg, sf, pf, sg, pg, a1, a2, a3, a4, a5, a6, a7, a8, a9, a10⟩ := h'
  obtain ⟨sv, uv, fpv, olds, ps, b1, b2, b3, b4, b5, b6, b7, b8, b9, b10⟩ := a3
  obtain ⟨sa, sc, rfl, _⟩ := ownsRow_slice b2
  by_cases hx : 0 < xs.length
  · by_cases hf : cap < used + xs.length
    · rw [if_pos ⟨hx, hf⟩, if_pos ⟨hx, hf⟩]
      refine (append_full a1 h0 h1 a2 hs hv hn hl b1 ba xs.length bc hx hxl (by omega) (by omega) (by omega) hf).mono ?_
      rintro e w' ⟨rfl, c1, c2⟩
      exact ⟨rfl, h.idle a1 c1 c2⟩
    · rw [if_neg (fun e => hf e.2), if_neg (fun e => hf e.2)]
      refine (append_ok a1 h0 h1 a2 hs hv hn hl b1 b2 b3 hr hb (fun a n c e => ?_) hx (by omega) (by omega) (by omega) (by omega) (by omega) (by omega)).mono ?_
      · cases e; have := hrb a rfl hx; omega
      · rintro e w' ⟨rfl, v', pv', bv', c⟩
        refine ⟨rfl, Two.app a1 a2 b1 b2 b3 b4 b5 (b6 ▸ b8) (b7 ▸ b9) b10 a4 a5 a6 (b6 ▸ a7) (b7 ▸ a8) a9 a10 c⟩
  · have hx0 : xs.length = 0 := by omega
    rw [if_neg (fun e => hx e.1), if_neg (fun e => hx e.1), hx0]
    refine (append_none a1 h0 h1 a2 hs hv hn hl b1 ba bc (by omega)).mono ?_
    rintro e w' ⟨rfl, c1, c2⟩
    have := h.idle a1 c1 c2
    exact ⟨rfl, by simpa using this⟩

theorem Two.db {w0 w : World} {b m0 m1 : Nat} {cap used cnt : Int} {es : Array MapEntry} {clk f g : Nat} {nf ng : Int} {pn : Nat} (h : Two w0 w b m0 m1 cap used cnt es clk f g nf ng pn) : ∃ pv, DB w b cap m0 m1 pv used 2 cnt 0 (-1) false := by
  obtain ⟨pv, lf, lg, sf, pf, sg, pg, a1, _⟩ := h
  exact ⟨pv, a1⟩

theorem Two.fr {w0 w : World} {b m0 m1 : Nat} {cap used cnt : Int} {es : Array MapEntry} {clk f g : Nat} {nf ng : Int} {pn : Nat} (h : Two w0 w b m0 m1 cap used cnt es clk f g nf ng pn) : Fr [] w0 w := by
  obtain ⟨pv, lf, lg, sf, pf, sg, pg, _, _, _, _, _, _, _, _, a9, _⟩ := h
  exact a9

set_option maxHeartbeats 4000000 in
theorem room_c (w : World) (cap : Int) (la : Option Addr) (len lc : Nat) (hlc : len ≤ 9223372036854775807) (A : Nat → Option Addr) (C : Nat → Nat) (X : Nat → List Value)
    (hl : 0 < len → ∃ lb lo, la = some ⟨lb, lo, none⟩ ∧ ∀ r, r < len → w.cell? ⟨lb, lo + r, none⟩ = some (.slice (A r) (X r).length (C r)) ∧ Rd w (.slice (A r) (X r).length (C r)) (X r) ∧ Bts (X r) ∧ (X r).length ≤ 140737488355328) :
    Calls Try.prog 3 #[.int .i64 cap, .slice la len lc] w fun e w' => e = .returned (.bool true) ∧ Fr [] w w' := by
  have HL := hid hl
  clear hl
  by_cases hcap : 0 ≤ cap ∧ cap ≤ 2000 ∧ len ≤ 40
  · obtain ⟨hc0, hc1, hle⟩ := hcap
    have hd1 : decide (cap < 0) = false := by simp; omega
    have hd2 : decide (2000 < cap) = false := by simp; omega
    have hd3 : decide (40 < (len : Int)) = false := by simp; omega
    go_enter Try.func3, Try.ntmps3
    go_wp2_with fail
    refine (known_c _).mono ?_
    rintro e w1 ⟨rfl, f1⟩
    have F1 := hid f1
    clear f1
    go_wp2_with fail
    refine (new_c cap _ hc0 (by omega)).mono ?_
    rintro e w2 ⟨b, m0, m1, rfl, a1, a2, a3, a4, a5, a6, a7, a8⟩
    have A2 := hid (And.intro a1 (And.intro a2 (And.intro (Nat.le_trans F1.out.size a5) (And.intro (Nat.le_trans F1.out.size a6) (F1.out.trans a8)))))
    clear a1 a2 a3 a4 a5 a6 a7 a8
    go_wp2_with fail
    refine (create_c A2.out.1 (by omega) (by omega) (by omega) (by omega) A2.out.2.1 SK_nil rfl isNm_x (by decide) (ps := []) (World.ownsRow_nil _ _ _ _) (by simp)).mono ?_
    rintro e w3 ⟨rfl, pv3, fx, d3, o3, n3, g3, s3, f3, q3⟩
    have A3 := hid (And.intro d3 (And.intro o3 (And.intro n3 (And.intro g3 (And.intro s3 (And.intro f3 q3))))))
    clear d3 o3 n3 g3 s3 f3 q3
    go_wp2_with fail
    refine (create_c A3.out.1 (by omega) (by omega) (by omega) (by omega) A3.out.2.2.1 (SK_one _ _ _) (lk_xn _) isNm_y (by decide) A3.out.2.1 (by simp)).mono ?_
    rintro e w4 ⟨rfl, pv4, fy, d4, o4, n4, g4, s4, f4, q4⟩
    have A4 := hid (And.intro d4 (And.intro o4 (And.intro n4 (And.intro g4 (And.intro s4 (And.intro f4 q4))))))
    clear d4 o4 n4 g4 s4 f4 q4
    have T4 : Hid (Two w w4 b m0 m1 cap 0 2 (esXY fx fy) 2 fx fy 0 1 0) := two_made A2.out A3.out A4.out
    clear A2 A3 A4 F1
    go_wp2_with fail
    go_loopw [7, 8] (fun v7 v8 wr => ∃ (k : Nat) (u : Int), k ≤ len ∧ v8 = .int .i64 k ∧ v7 = .int .i64 u ∧ u ≤ cap ∧ Two w wr b m0 m1 cap u (2 + k) (esXY fx fy) 2 fx fy 0 1 k) (fun _ v8 _ => len - (intOf v8).toNat)
    case atStart => exact ⟨0, 0, Nat.zero_le _, rfl, rfl, hc0, T4.out⟩
    case round =>
      obtain ⟨k, u, hk, rfl, rfl, hu, ht⟩ := hrel
      have HT := hid ht
      clear ht T4
      have hu0 : 0 ≤ u := by
        obtain ⟨pv, lf, lg, sf, pf, sg, pg, _, _, _, _, a5, _⟩ := HT.out; omega
      by_cases hlt : k < len
      · obtain ⟨lb, lo, rfl, hcs⟩ := HL.out (by omega)
        obtain ⟨ck0, hrd, hbt, hxl⟩ := hcs k hlt
        have F := hid (show Fr [] w wr by obtain ⟨pv, lf, lg, sf, pf, sg, pg, _, _, _, _, _, _, _, _, a9, _⟩ := HT.out; exact a9)
        have ck : wr.cell? ⟨lb, lo + k, none⟩ = some (.slice (A k) (X k).length (C k)) := by
          rw [World.cell?_of_block (w := w) (F.out.block _ (World.block_lt_of_cell? w _ ck0) (by simp))]; exact ck0
        have HRD := hid (hrd.fr F.out)
        have HBT := hid hbt
        have HRB := hid (fun a (ha : A k = some a) (hx : 0 < (X k).length) => Rd.lt (ha ▸ hrd) hx)
        have CK0 := hid ck0
        clear hcs ck0 hrd hbt
        rcases Nat.mod_two_eq_zero_or_one k with hp | hp
        · have hp' : (k : Int) % 2 = 0 := by omega
          go_wp2_with fail
          rw [show (ByteArray.mk #[120, 121]).extract 0 1 = ⟨#[120]⟩ from by decide]
          refine (app_two HT.out (by omega) (by omega) (by omega) hc1 hu (SK_xy _ _) (lk_x _ _) isNm_x (by decide) HRD.out HBT.out hxl HRB.out).mono ?_
          rintro e w5 ⟨rfl, ht5⟩
          obtain ⟨pv5, hd5⟩ := ht5.db
          have T5 := hid ht5
          have D5 := hid hd5
          have ck5 : w5.cell? ⟨lb, lo + k, none⟩ = some (.slice (A k) (X k).length (C k)) := by
            rw [World.cell?_of_block (w := w) (T5.out.fr.block _ (World.block_lt_of_cell? w _ CK0.out) (by simp))]; exact CK0.out
          clear ht5 hd5
          by_cases hx : 0 < (X k).length ∧ cap < u + (X k).length
          · rw [if_pos hx] at T5 D5
            rw [if_pos hx]
            obtain ⟨hx1, hx2⟩ := hx
            go_wp2_with fail
            refine (used_c D5.out).mono ?_
            rintro e w6 ⟨rfl, rfl⟩
            go_wp2
            go_roundw
            case rel => exact ⟨k + 1, u, by omega, by go_num, rfl, hu, by have := T5.out; rw [show (2 : Int) + (k + 1 : Nat) = 2 + k + 1 from by omega]; exact this⟩
            case measure => simp [intOf]; omega
          · rw [if_neg hx] at T5 D5
            rw [if_neg hx]
            have hx' : (X k).length = 0 ∨ u + (X k).length ≤ cap := by omega
            clear hx
            by_cases hz : cap < u + (X k).length
            · exfalso; omega
            · have hz' : u + ((X k).length : Int) ≤ cap := by omega
              go_wp2_with fail
              refine (used_c D5.out).mono ?_
              rintro e w6 ⟨rfl, rfl⟩
              go_wp2
              go_roundw
              case rel => exact ⟨k + 1, u + (X k).length, by omega, by go_num, rfl, hz', by have := T5.out; rw [show (2 : Int) + (k + 1 : Nat) = 2 + k + 1 from by omega]; exact this⟩
              case measure => simp [intOf]; omega
        · have hp' : (k : Int) % 2 = 1 := by omega
          go_wp2_with fail
          rw [show (ByteArray.mk #[120, 121]).extract 1 2 = ⟨#[121]⟩ from by decide]
          refine (app_two HT.out.swap (by omega) (by omega) (by omega) hc1 hu (SK_xy _ _) (lk_y _ _) isNm_y (by decide) HRD.out HBT.out hxl HRB.out).mono ?_
          rintro e w5 ⟨rfl, ht5⟩
          obtain ⟨pv5, hd5⟩ := ht5.db
          have T5 := hid ht5.swap
          have D5 := hid hd5
          have ck5 : w5.cell? ⟨lb, lo + k, none⟩ = some (.slice (A k) (X k).length (C k)) := by
            rw [World.cell?_of_block (w := w) (T5.out.fr.block _ (World.block_lt_of_cell? w _ CK0.out) (by simp))]; exact CK0.out
          clear ht5 hd5
          by_cases hx : 0 < (X k).length ∧ cap < u + (X k).length
          · rw [if_pos hx] at T5 D5
            rw [if_pos hx]
            obtain ⟨hx1, hx2⟩ := hx
            go_wp2_with fail
            refine (used_c D5.out).mono ?_
            rintro e w6 ⟨rfl, rfl⟩
            go_wp2
            go_roundw
            case rel => exact ⟨k + 1, u, by omega, by go_num, rfl, hu, by have := T5.out; rw [show (2 : Int) + (k + 1 : Nat) = 2 + k + 1 from by omega]; exact this⟩
            case measure => simp [intOf]; omega
          · rw [if_neg hx] at T5 D5
            rw [if_neg hx]
            have hx' : (X k).length = 0 ∨ u + (X k).length ≤ cap := by omega
            clear hx
            by_cases hz : cap < u + (X k).length
            · exfalso; omega
            · have hz' : u + ((X k).length : Int) ≤ cap := by omega
              go_wp2_with fail
              refine (used_c D5.out).mono ?_
              rintro e w6 ⟨rfl, rfl⟩
              go_wp2
              go_roundw
              case rel => exact ⟨k + 1, u + (X k).length, by omega, by go_num, rfl, hz', by have := T5.out; rw [show (2 : Int) + (k + 1 : Nat) = 2 + k + 1 from by omega]; exact this⟩
              case measure => simp [intOf]; omega
      · go_wp2
        go_ret
        obtain ⟨pv, lf, lg, sf, pf, sg, pg, _, _, _, _, _, _, _, _, a9, _⟩ := HT.out
        exact ⟨rfl, a9⟩
  · have hcap' : cap < 0 ∨ (0 ≤ cap ∧ 2000 < cap) ∨ (0 ≤ cap ∧ cap ≤ 2000 ∧ 40 < len) := by omega
    clear hcap
    rcases hcap' with h | ⟨h, h'⟩ | ⟨h, h', h''⟩
    all_goals go_enter Try.func3, Try.ntmps3
    all_goals go_wp2_with fail
    all_goals refine (known_c _).mono ?_
    all_goals rintro e w1 ⟨rfl, f1⟩
    all_goals have F1 := hid f1
    all_goals clear f1
    all_goals go_wp2
    all_goals go_ret
    all_goals exact ⟨rfl, F1.out⟩
end Go.Proofs.Ytiiielhhddfdpab
