/-
  ManifestBack walked.
-/
import Derived.Test.YtkljblgogiheoaaJ39
import Derived.Test.YtkljblgogiheoaaDM6
import Derived.Test.YtkljblgogiheoaaEI2
namespace Go.Proofs.Ytkljblgogiheoaa
open Go.ChangeShapes Go.WideShapes Go.ChangeAt Go.RowKit

/-- What Encode answers, in one form. -/
structure EFm (w w' : World) (e : Ed) (a : Option Addr) (n c : Nat) (x : Int) : Prop where
  fr : Fr [] w w'
  out : (okE e = true ∧ x = 0 ∧ n = (encE e).length ∧ w'.ownsRow w.heap.size 5 1 (.slice a n c) (encE e).length (bv (encE e))) ∨ (okE e = false ∧ x = 90)
theorem enc_form (w : World) {e : Ed} {da aa : Option Addr} {dc ac : Nat} (h : EAt w e da dc aa ac) (hd1 : e.drop.length ≤ 100000) (ha1 : e.add.length ≤ 100000) :
    Calls Try.prog 17 #[.agg #[.int .i64 e.log, .int .i64 e.next, .int .u64 (e.seq : Int), .slice da e.drop.length dc, .slice aa e.add.length ac]] w fun r w' => ∃ a n c x, r = .returned (.tuple #[.slice a n c, .int .i64 x]) ∧ EFm w w' e a n c x := by
  cases hk : okE e with
  | true =>
    refine (enc_ok2 w h hk hd1 ha1).mono ?_
    rintro r w' ⟨v', rfl, o, f⟩
    obtain ⟨a, c, rfl, _⟩ := ownsRow_slice o
    exact ⟨a, _, c, 0, rfl, f, .inl ⟨hk, rfl, rfl, o⟩⟩
  | false =>
    refine (enc_bad w h hk).mono ?_
    rintro r w' ⟨rfl, f⟩
    exact ⟨none, 0, 0, 90, rfl, f, .inr ⟨hk, rfl⟩⟩
/-- What Decode answers, in one form. -/
structure DFm (w w' : World) (b : List Nat) (lg nx : Int) (sq : Nat) (da : Option Addr) (dl dc : Nat) (aa : Option Addr) (al ac : Nat) (x : Int) : Prop where
  fr : Fr [] w w'
  out : (∃ e : Ed, decO b = some e ∧ x = 0 ∧ (lg = e.log ∧ nx = e.next ∧ sq = e.seq ∧ dl = e.drop.length ∧ al = e.add.length) ∧ DO w' w.heap.size (.slice da dl dc) e.drop ∧ AO w' w.heap.size (.slice aa al ac) e.add) ∨ (decO b = none ∧ x = 90)
theorem dec_form (w : World) {a : Option Addr} {L cc : Nat} {b : List Nat} (hr : Rd w (.slice a L cc) (bv b)) (hb : By b) (hL : b.length = L) (hl : L ≤ 50000) :
    Calls Try.prog 18 #[.slice a L cc] w fun r w' => ∃ lg nx sq da dl dc aa al ac x, r = .returned (.tuple #[.agg #[.int .i64 lg, .int .i64 nx, .int .u64 ((sq : Nat) : Int), .slice da dl dc, .slice aa al ac], .int .i64 x]) ∧ DFm w w' b lg nx sq da dl dc aa al ac x := by
  refine (decM_c w hr hb hL hl).mono ?_
  rintro r w' ⟨h, f⟩
  cases hd : decO b with
  | none =>
    rw [hd] at h
    exact ⟨0, 0, 0, none, 0, 0, none, 0, 0, 90, h, f, .inr ⟨hd, rfl⟩⟩
  | some e =>
    rw [hd] at h
    obtain ⟨da, dc, aa, ac, h1, h2, h3⟩ := h
    exact ⟨e.log, e.next, e.seq, da, _, dc, aa, _, ac, 0, h1, f, .inl ⟨e, hd, rfl, ⟨rfl, rfl, rfl, rfl, rfl⟩, h2, h3⟩⟩
/-- What Whole answers, in one form. -/
structure WFm (w w' : World) (v : Vn) (a0 a1 a2 : Int) (aa : Option Addr) (al ac : Nat) (c : Int) : Prop where
  fr : Fr [] w w'
  out : c ≠ 0 ∨ (c = 0 ∧ chkV v = 0 ∧ (a0 = v.log ∧ a1 = v.next ∧ a2 = (v.seq : Int)) ∧ al = (allA v.lv 5).length ∧ RdA w' (.slice aa al ac) (allA v.lv 5))
theorem WhOut.form {w w' : World} {v : Vn} {r : Ending} (h : WhOut w w' v r) : ∃ a0 a1 a2 aa al ac c, r = .returned (.tuple #[.agg #[.int .i64 a0, .int .i64 a1, .int .u64 a2, .slice none 0 0, .slice aa al ac], .int .i64 c]) ∧ WFm w w' v a0 a1 a2 aa al ac c := by
  rcases h.out with ⟨h1, rfl⟩ | ⟨h1, aa, al, ac, rfl, h2, h3⟩
  · exact ⟨0, 0, 0, none, 0, 0, _, rfl, h.fr, .inl h1⟩
  · exact ⟨_, _, _, aa, al, ac, 0, rfl, h.fr, .inr ⟨rfl, h1, ⟨rfl, rfl, rfl⟩, h2, h3⟩⟩
theorem decO_ok {b : List Nat} {e : Ed} (h : decO b = some e) : okE e = true := by
  unfold decO at h
  by_cases hc : (adS b).2 = some [] ∧ okE (edS b (drS b).1 (adS b).1) = true
  · rw [if_pos hc] at h
    simp only [Option.some.injEq] at h
    rw [← h]; exact hc.2
  · rw [if_neg hc] at h; cases h
theorem by_app {a b : List Nat} (h : By (a ++ b)) : By a ∧ By b := ⟨fun n hn => h n (by simp [hn]), fun n hn => h n (by simp [hn])⟩
theorem by_flatI {α : Type} {f : α → List Nat} : ∀ (l : List α), By (l.flatMap f) → ∀ x ∈ l, By (f x)
  | [], _, x, hx => by cases hx
  | y :: l, h, x, hx => by
    rw [List.flatMap_cons] at h
    rcases List.mem_cons.1 hx with rfl | hx
    · exact (by_app h).1
    · exact by_flatI l (by_app h).2 x hx
/-- What was read has bytes for keys, and isn't longer than what it was read from. -/
theorem dec_bys {b : List Nat} {e : Ed} (hb : By b) (h : decO b = some e) : (∀ p ∈ e.add, (By p.2.least ∧ p.2.least.length ≤ 140737488355328) ∧ By p.2.most ∧ p.2.most.length ≤ 140737488355328) ∧ e.drop.length ≤ b.length ∧ e.add.length ≤ b.length := by
  have he := enc_decO hb h
  have hok := decO_ok h
  rw [← he] at hb ⊢
  have hb2 := hb
  unfold encE at hb2
  have h1 := by_flatI _ (by_app (by_app (by_app (by_app (by_app (by_app hb2).2).2).2).2).2).2
  refine ⟨fun p hp => ?_, ?_, ?_⟩
  · have h2 := h1 p hp
    unfold encA at h2
    have h3 := (by_app (by_app (by_app (by_app h2).2).2).2).2
    unfold okE at hok
    simp only [Bool.and_eq_true] at hok
    have h4 := List.all_eq_true.1 hok.2.1 p hp
    unfold okA at h4
    simp only [Bool.and_eq_true] at h4
    have h5 := okF_len h4.2
    exact ⟨⟨(by_app h3).1, by omega⟩, (by_app (by_app h3).2).2, by omega⟩
  · have h2 := flat_len9 encD_pos e.drop
    unfold encE
    simp only [List.length_append]
    omega
  · have h2 := flat_len9 encA_pos e.add
    unfold encE
    simp only [List.length_append]
    omega
/-- An edit read: in memory. -/
theorem dec_eat {w' : World} {B : Nat} {b : List Nat} {e : Ed} {da aa : Option Addr} {dc ac : Nat} (hb : By b) (hl : b.length ≤ 140737488355328) (h : decO b = some e) (h1 : DO w' B (.slice da e.drop.length dc) e.drop) (h2 : AO w' B (.slice aa e.add.length ac) e.add) : EAt w' e da dc aa ac := by
  obtain ⟨q1, q2, q3⟩ := dec_bys hb h
  exact ⟨h1.rd, h2.rd (Nat.le_refl _) q1, by omega, by omega⟩
set_option maxRecDepth 20000 in
set_option maxHeartbeats 6400000 in
theorem back_c (w : World) {v : Vn} {ad : Nat → Option Addr} {ln cp : Nat → Nat} {e : Ed} {da aa : Option Addr} {dc ac : Nat} {b : List Nat} {ba : Option Addr} {bl bc : Nat} (hv : VAt w v.lv ad ln cp) (he : EAt w e da dc aa ac) (hr : Rd w (.slice ba bl bc) (bv b)) (hb : By b) (hbl : bl = b.length) (hbm : bl ≤ 140737488355328) :
    Calls Try.prog 4 #[.agg #[.int .i64 v.log, .int .i64 v.next, .int .u64 (v.seq : Int), .slice (ad 0) (ln 0) (cp 0), .slice (ad 1) (ln 1) (cp 1), .slice (ad 2) (ln 2) (cp 2), .slice (ad 3) (ln 3) (cp 3), .slice (ad 4) (ln 4) (cp 4)], .agg #[.int .i64 e.log, .int .i64 e.next, .int .u64 (e.seq : Int), .slice da e.drop.length dc, .slice aa e.add.length ac], .slice ba bl bc] w fun r w' => r = .returned (.bool true) ∧ Fr [] w w' := by
  obtain ⟨vl, hvl⟩ : ∃ x, x = v.log := ⟨_, rfl⟩
  obtain ⟨vn, hvn⟩ : ∃ x, x = v.next := ⟨_, rfl⟩
  obtain ⟨vs, hvs⟩ : ∃ x, x = v.seq := ⟨_, rfl⟩
  obtain ⟨el, hel⟩ : ∃ x, x = e.log := ⟨_, rfl⟩
  obtain ⟨en, hen⟩ : ∃ x, x = e.next := ⟨_, rfl⟩
  obtain ⟨es, hes⟩ : ∃ x, x = e.seq := ⟨_, rfl⟩
  obtain ⟨dl, hdl⟩ : ∃ x, x = e.drop.length := ⟨_, rfl⟩
  obtain ⟨al, hal⟩ : ∃ x, x = e.add.length := ⟨_, rfl⟩
  have hld := he.ld
  have hla := he.la
  rw [← hvl, ← hvn, ← hvs, ← hel, ← hen, ← hes, ← hdl, ← hal]
  rw [← hdl] at hld
  rw [← hal] at hla
  obtain ⟨W0, hW0⟩ : ∃ W0, W0 = (w.alloc (.cells #[.int .i64 vl, .int .i64 vn, .int .u64 (vs : Int), .slice (ad 0) (ln 0) (cp 0), .slice (ad 1) (ln 1) (cp 1), .slice (ad 2) (ln 2) (cp 2), .slice (ad 3) (ln 3) (cp 3), .slice (ad 4) (ln 4) (cp 4)] 26)).alloc (.cells #[.int .i64 el, .int .i64 en, .int .u64 (es : Int), .slice da dl dc, .slice aa al ac] 30) := ⟨_, rfl⟩
  have F0 : Hid (Fr [] w W0) := hid (by rw [hW0]; exact ((Fr.refl _ _).alloc _).alloc _)
  have N0 : Hid (W0.heap[w.heap.size]? = some (.cells #[.int .i64 vl, .int .i64 vn, .int .u64 (vs : Int), .slice (ad 0) (ln 0) (cp 0), .slice (ad 1) (ln 1) (cp 1), .slice (ad 2) (ln 2) (cp 2), .slice (ad 3) (ln 3) (cp 3), .slice (ad 4) (ln 4) (cp 4)] 26 (0, 0))) := hid (by rw [hW0, blk_old _ _ (by simp)]; exact blk_new _ _)
  have N1 : Hid (W0.heap[w.heap.size + 1]? = some (.cells #[.int .i64 el, .int .i64 en, .int .u64 (es : Int), .slice da dl dc, .slice aa al ac] 30 (0, 0))) := hid (by rw [hW0]; exact new_at _ _ (by simp))
  have KN : Hid (∀ W, _) := hid (fun W => known9_c W)
  have SMC : Hid (∀ W, _) := hid (fun W => small_c W vl vn vs ad ln cp hv.small)
  have FW : Hid (∀ W, Calls Try.prog 7 #[.agg #[.int .i64 el, .int .i64 en, .int .u64 (es : Int), .slice da dl dc, .slice aa al ac]] W fun r w' => r = .returned (.bool (decide (dl ≤ 30) && decide (al ≤ 30))) ∧ Fr [] W w') := hid (fun W => few9_c W)
  have HV := hid (hv.fr F0.out)
  have HE := hid (he.fr F0.out)
  have HR := hid (hr.fr F0.out)
  have HB := hid hb
  have HBL := hid hbl
  have HVE := hid (And.intro hvl (And.intro hvn hvs))
  have HEE := hid (And.intro hel (And.intro hen (And.intro hes (And.intro hdl hal))))
  have CV : Hid (∀ W, Fr [] W0 W → _) := hid (fun W f => vn_cells (f.at N0.out (by simp)))
  have CE : Hid (∀ W, Fr [] W0 W → _) := hid (fun W f => ed5_cells (f.at N1.out (by simp)))
  clear hv he hr hb hbl hvl hvn hvs hel hen hes hdl hal
  go_enter Try.func4, Try.ntmps4
  go_upto_region 1 with fail
  rw [← hW0]
  clear hW0
  go_upto_region 3 with (go_at_call 6; refine (KN.out _).mono ?_; rintro r W1 ⟨rfl, f1⟩; have F1 := hid f1; clear f1)
  clear KN
  obtain ⟨y0, y1, y2, y3, y4⟩ := CE.out W1 F1.out
  by_cases hfew : dl ≤ 30 ∧ al ≤ 30
  · obtain ⟨hd30, ha30⟩ := hfew
    have FW1 : Hid (Calls Try.prog 7 #[.agg #[.int .i64 el, .int .i64 en, .int .u64 (es : Int), .slice da dl dc, .slice aa al ac]] W1 fun r w' => r = .returned (.bool true) ∧ Fr [] W1 w') := hid (by have := FW.out W1; rw [decide_eq_true hd30, decide_eq_true ha30] at this; exact this)
    by_cases hs : smallV ln
    · have SM1 : Hid (∀ W, Calls Try.prog 8 #[.agg #[.int .i64 vl, .int .i64 vn, .int .u64 (vs : Int), .slice (ad 0) (ln 0) (cp 0), .slice (ad 1) (ln 1) (cp 1), .slice (ad 2) (ln 2) (cp 2), .slice (ad 3) (ln 3) (cp 3), .slice (ad 4) (ln 4) (cp 4)]] W fun r w' => r = .returned (.bool true) ∧ Fr [] W w') := hid (fun W => (SMC.out W).mono fun r w' h => by obtain ⟨bb, h1, h2⟩ := h.out; rw [h2.2 hs] at h1; exact ⟨h1, h.fr⟩)
      have HS := hid hs
      clear SMC FW hs
      by_cases h3 : bl ≤ 3000
      · have h3' : ¬ (3000 : Int) < (bl : Int) := by omega
        go_upto_region 5 with (first
          | (go_at_call 7; refine FW1.out.mono ?_; rintro r W2 ⟨rfl, f2⟩; have F2 := hid (F1.out.trans f2); obtain ⟨z0, z1, z2, z3, z4, z5, z6, z7⟩ := CV.out W2 (F1.out.trans f2); clear f2)
          | (go_at_call 8; refine (SM1.out _).mono ?_; rintro r W3 ⟨rfl, f3⟩; have F3 := hid (F2.out.trans f3); clear f3))
        clear y0 y1 y2 y3 y4 z0 z1 z2 z3 z4 z5 z6 z7 FW1 SM1 F1 F2
        obtain ⟨y0, y1, y2, y3, y4⟩ := CE.out W3 F3.out
        have EN1 : Hid (Calls Try.prog 17 #[.agg #[.int .i64 el, .int .i64 en, .int .u64 (es : Int), .slice da dl dc, .slice aa al ac]] W3 fun r w' => ∃ a n c x, r = .returned (.tuple #[.slice a n c, .int .i64 x]) ∧ EFm W3 w' e a n c x) := hid (by
          have q := HEE.out
          rw [q.1, q.2.1, q.2.2.1, q.2.2.2.1, q.2.2.2.2]
          exact enc_form W3 (HE.out.fr F3.out) (by rw [← q.2.2.2.1]; omega) (by rw [← q.2.2.2.2]; omega))
        go_upto_region 6 with (go_at_call 17; refine EN1.out.mono ?_; rintro r W5 ⟨a5, n5, c5, x5, rfl, e5⟩; have E5 := hid e5; have F5 := hid (F3.out.trans e5.fr); clear e5)
        clear y0 y1 y2 y3 y4 EN1
        go_upto_if 38 with fail
        go_cut [9, 10] from 39 (fun _ _ W => Fr [] W0 W)
        case first =>
          rcases E5.out.out with ⟨hk, rfl, rfl, o5⟩ | ⟨hk, rfl⟩
          · have HK := hid hk
            have hby : By (encE e) := encE_by (fun p hp => ⟨(HE.out.bys p hp).1.1, (HE.out.bys p hp).2.1⟩)
            have hdec : decO (encE e) = some e := decO_enc hk (by rw [← HEE.out.2.2.2.1]; omega) (by rw [← HEE.out.2.2.2.2]; omega)
            have hel : (encE e).length ≤ 50000 := encE_len hk (by rw [← HEE.out.2.2.2.1]; exact hd30) (by rw [← HEE.out.2.2.2.2]; exact ha30)
            have DE := hid (dec_form W5 (Rd.ownB o5) hby rfl hel)
            have HD := hid hdec
            have HBY := hid hby
            have HEL := hid hel
            clear hk o5 hby hdec hel
            generalize (encE e).length = le at *
            go_upto_region 8 with (go_at_call 18; refine DE.out.mono ?_; rintro r W6 ⟨lg, nx, sq, da6, dl6, dc6, aa6, al6, ac6, x6, rfl, d6⟩; have D6 := hid d6; have F6 := hid (F5.out.trans d6.fr); clear d6)
            clear DE
            obtain ⟨Q9, hQ9⟩ : ∃ Q9, Q9 = W6.heap.size := ⟨_, rfl⟩
            obtain ⟨W7, hW7⟩ : ∃ W7, W7 = W6.alloc (.cells #[.int .i64 lg, .int .i64 nx, .int .u64 (sq : Int), .slice da6 dl6 dc6, .slice aa6 al6 ac6] 30) := ⟨_, rfl⟩
            have f7 : Fr [] W6 W7 := by rw [hW7]; exact (Fr.refl _ _).alloc _
            have N7 : Hid (W7.heap[Q9]? = some (.cells #[.int .i64 lg, .int .i64 nx, .int .u64 (sq : Int), .slice da6 dl6 dc6, .slice aa6 al6 ac6] 30 (0, 0))) := hid (by rw [hW7, hQ9]; exact blk_new _ _)
            have F7 := hid (F6.out.trans f7)
            rcases D6.out.out with ⟨e', h1, rfl, ⟨q1, q2, q3, q4, q5⟩, hdo, hao⟩ | ⟨h1, _⟩
            · rw [HD.out] at h1
              simp only [Option.some.injEq] at h1
              subst h1
              have ES : Hid (Calls Try.prog 16 #[.agg #[.int .i64 el, .int .i64 en, .int .u64 (es : Int), .slice da dl dc, .slice aa al ac], .agg #[.int .i64 lg, .int .i64 nx, .int .u64 (sq : Int), .slice da6 dl6 dc6, .slice aa6 al6 ac6]] W7 fun r w' => r = .returned (.bool true) ∧ Fr [] W7 w') := hid (by
                have q := HEE.out
                rw [q4] at hdo
                rw [q5] at hao
                have ea := (dec_eat HBY.out (by have := encE_len HK.out (by rw [← q.2.2.2.1]; exact hd30) (by rw [← q.2.2.2.2]; exact ha30); omega) HD.out hdo hao).fr f7
                rw [q.1, q.2.1, q.2.2.1, q.2.2.2.1, q.2.2.2.2, q1, q2, q3, q4, q5]
                exact editSame_c W7 (HE.out.fr F7.out) ea)
              clear q1 q2 q3 q4 q5 hdo hao f7
              rw [← hW7, ← hQ9]
              clear hW7 hQ9
              obtain ⟨y0, y1, y2, y3, y4⟩ := CE.out W7 F7.out
              obtain ⟨x0, x1, x2, x3, x4⟩ := ed5_cells N7.out
              go_wp2_with (go_at_call 16; refine ES.out.mono ?_; rintro r W8 ⟨rfl, f8⟩; have F8 := hid (F7.out.trans f8); clear f8)
              go_meet
              case rel => exact F8.out
            · rw [HD.out] at h1; cases h1
          · go_wp2_with fail
            go_meet
            case rel => exact F5.out
        case rest =>
          have FC : Hid (Fr [] W0 wc) := hid hcut
          clear hcut E5 F5 F3
          have DE := hid (dec_form wc (HR.out.fr FC.out) HB.out HBL.out.symm (by omega))
          go_upto_region 11 with (go_at_call 18; refine DE.out.mono ?_; rintro r W6 ⟨lg, nx, sq, da6, dl6, dc6, aa6, al6, ac6, x6, rfl, d6⟩; have D6 := hid d6; have F6 := hid (FC.out.trans d6.fr); clear d6)
          clear DE
          obtain ⟨Q9, hQ9⟩ : ∃ Q9, Q9 = W6.heap.size := ⟨_, rfl⟩
          obtain ⟨W7, hW7⟩ : ∃ W7, W7 = W6.alloc (.cells #[.int .i64 lg, .int .i64 nx, .int .u64 (sq : Int), .slice da6 dl6 dc6, .slice aa6 al6 ac6] 30) := ⟨_, rfl⟩
          have f7 : Fr [] W6 W7 := by rw [hW7]; exact (Fr.refl _ _).alloc _
          have N7 : Hid (W7.heap[Q9]? = some (.cells #[.int .i64 lg, .int .i64 nx, .int .u64 (sq : Int), .slice da6 dl6 dc6, .slice aa6 al6 ac6] 30 (0, 0))) := hid (by rw [hW7, hQ9]; exact blk_new _ _)
          have F7 := hid (F6.out.trans f7)
          have ff7 := hid f7
          rw [← hW7, ← hQ9]
          clear hW7 hQ9 f7
          go_upto_if 58 with fail
          go_cut [12, 13] from 59 (fun _ _ W => Fr [] W0 W)
          case first =>
            rcases D6.out.out with ⟨e', h1, rfl, ⟨q1, q2, q3, q4, q5⟩, hdo, hao⟩ | ⟨h1, rfl⟩
            · have EN2 : Hid (Calls Try.prog 17 #[.agg #[.int .i64 lg, .int .i64 nx, .int .u64 (sq : Int), .slice da6 dl6 dc6, .slice aa6 al6 ac6]] W7 fun r w' => ∃ a n c, r = .returned (.tuple #[.slice a n c, .int .i64 0]) ∧ Fr [] W7 w' ∧ Calls Try.prog 19 #[.slice a n c, .slice ba bl bc] w' fun r w'' => r = .returned (.bool true) ∧ w'' = w') := hid (by
                rw [q4] at hdo
                rw [q5] at hao
                have ea := (dec_eat HB.out (by rw [← HBL.out]; omega) h1 hdo hao).fr ff7.out
                obtain ⟨_, u2, u3⟩ := dec_bys HB.out h1
                rw [q1, q2, q3, q4, q5]
                have hl3 := HBL.out
                refine (enc_form W7 ea (by omega) (by omega)).mono ?_
                rintro r w' ⟨a, n, c, x, rfl, ef⟩
                rcases ef.out with ⟨_, rfl, rfl, o⟩ | ⟨k, _⟩
                · refine ⟨a, _, c, rfl, ef.fr, ?_⟩
                  have r1 := Rd.ownB o
                  have hb := enc_decO HB.out h1
                  rw [hb] at r1 ⊢
                  exact bytes_same r1 ((HR.out.fr F7.out).fr ef.fr)
                · rw [decO_ok h1] at k; cases k)
              clear q1 q2 q3 q4 q5 hdo hao h1
              obtain ⟨x0, x1, x2, x3, x4⟩ := ed5_cells N7.out
              go_upto_region 13 with (go_at_call 17; refine EN2.out.mono ?_; rintro r W8 ⟨a8, n8, c8, rfl, f8, b8⟩; have F8 := hid (F7.out.trans f8); have B8 := hid b8; clear f8 b8)
              go_wp2_with (go_at_call 19; refine B8.out.mono ?_; rintro r W9 ⟨rfl, h⟩; rw [h]; clear h)
              go_meet
              case rel => exact F8.out
            · go_wp2_with fail
              go_meet
              case rel => exact F7.out
          case rest =>
            have FD : Hid (Fr [] W0 wc) := hid hcut
            clear hcut D6 F6 F7 N7 ff7 FC
            obtain ⟨z0, z1, z2, z3, z4, z5, z6, z7⟩ := CV.out wc FD.out
            obtain ⟨y0, y1, y2, y3, y4⟩ := CE.out wc FD.out
            have AP1 : Hid (Calls Try.prog 9 #[.agg #[.int .i64 vl, .int .i64 vn, .int .u64 (vs : Int), .slice (ad 0) (ln 0) (cp 0), .slice (ad 1) (ln 1) (cp 1), .slice (ad 2) (ln 2) (cp 2), .slice (ad 3) (ln 3) (cp 3), .slice (ad 4) (ln 4) (cp 4)], .agg #[.int .i64 el, .int .i64 en, .int .u64 (es : Int), .slice da dl dc, .slice aa al ac]] wc fun r w' => AOut wc w' v e r) := hid (by
              have q := HEE.out
              have p := HVE.out
              rw [p.1, p.2.1, p.2.2, q.1, q.2.1, q.2.2.1, q.2.2.2.1, q.2.2.2.2]
              exact apply_c wc (HV.out.fr FD.out) (HE.out.fr FD.out) (fun i hi => by have := HS.out i hi; omega) (by rw [← q.2.2.2.1]; omega) (by rw [← q.2.2.2.2]; omega))
            go_upto_region 16 with (go_at_call 9; refine AP1.out.mono ?_; intro r W8 hg; obtain ⟨a0, a1, a2, kd, kl, kc, c, rfl, gf⟩ := hg.form; have GF := hid gf; clear hg gf)
            clear z0 z1 z2 z3 z4 z5 z6 z7 y0 y1 y2 y3 y4 AP1
            obtain ⟨Q8, hQ8⟩ : ∃ Q8, Q8 = W8.heap.size := ⟨_, rfl⟩
            obtain ⟨W9, hW9⟩ : ∃ W9, W9 = W8.alloc (.cells #[.int .i64 a0, .int .i64 a1, .int .u64 a2, .slice (kd 0) (kl 0) (kc 0), .slice (kd 1) (kl 1) (kc 1), .slice (kd 2) (kl 2) (kc 2), .slice (kd 3) (kl 3) (kc 3), .slice (kd 4) (kl 4) (kc 4)] 26) := ⟨_, rfl⟩
            have f9 : Fr [] W8 W9 := by rw [hW9]; exact (Fr.refl _ _).alloc _
            have F9 : Hid (Fr [] W0 W9) := hid ((FD.out.trans GF.out.fr).trans f9)
            have N9 : Hid (W9.heap[Q8]? = some (.cells #[.int .i64 a0, .int .i64 a1, .int .u64 a2, .slice (kd 0) (kl 0) (kc 0), .slice (kd 1) (kl 1) (kc 1), .slice (kd 2) (kl 2) (kc 2), .slice (kd 3) (kl 3) (kc 3), .slice (kd 4) (kl 4) (kc 4)] 26 (0, 0))) := hid (by rw [hW9, hQ8]; exact blk_new _ _)
            rw [← hW9, ← hQ8]
            clear hW9 hQ8
            have ff9 := hid f9
            clear f9
            go_cut [84] from 78 to 83 (fun v84 W => v84 = .bool false ∧ Fr [] W0 W)
            case first =>
              rcases GF.out.out with hc | ⟨hc, U, ⟨ha0, ha1, ha2⟩, hg1, hg2, hg3, hg4⟩
              · have hc1 : (c == 0) = false := by simpa using hc
                clear hc
                go_wp2_with fail
                go_meet
                case rel => exact ⟨rfl, F9.out⟩
              · subst hc
                have CK : Hid (Calls Try.prog 14 #[.agg #[.int .i64 a0, .int .i64 a1, .int .u64 a2, .slice (kd 0) (kl 0) (kc 0), .slice (kd 1) (kl 1) (kc 1), .slice (kd 2) (kl 2) (kc 2), .slice (kd 3) (kl 3) (kc 3), .slice (kd 4) (kl 4) (kc 4)]] W9 fun r w' => r = .returned (.int .i64 0) ∧ Fr [] W9 w') := hid (by
                  rw [ha0, ha1, ha2]
                  have := check_c W9 (v := ⟨e.log, e.next, e.seq, U⟩) ((hg4.fr' ff9.out).vat)
                  rw [hg3.chk] at this
                  exact this)
                obtain ⟨z0, z1, z2, z3, z4, z5, z6, z7⟩ := vn_cells N9.out
                clear ha0 ha1 ha2 hg1 hg2 hg3 hg4
                go_wp2_with (go_at_call 14; refine CK.out.mono ?_; rintro r WA ⟨rfl, fA⟩; have FA := hid (F9.out.trans fA); clear fA)
                go_meet
                case rel => exact ⟨rfl, FA.out⟩
            case rest =>
              obtain ⟨rfl, hfe⟩ := hcut
              have FE : Hid (Fr [] W0 wc) := hid hfe
              clear hfe GF F9 N9 ff9 FD
              have WH : Hid (Calls Try.prog 11 #[.agg #[.int .i64 vl, .int .i64 vn, .int .u64 (vs : Int), .slice (ad 0) (ln 0) (cp 0), .slice (ad 1) (ln 1) (cp 1), .slice (ad 2) (ln 2) (cp 2), .slice (ad 3) (ln 3) (cp 3), .slice (ad 4) (ln 4) (cp 4)]] wc fun r w' => ∃ a0 a1 a2 aa al ac c, r = .returned (.tuple #[.agg #[.int .i64 a0, .int .i64 a1, .int .u64 a2, .slice none 0 0, .slice aa al ac], .int .i64 c]) ∧ WFm wc w' v a0 a1 a2 aa al ac c) := hid (by
                have p := HVE.out
                rw [p.1, p.2.1, p.2.2]
                exact (whole_c wc (HV.out.fr FE.out) (fun i hi => by have := HS.out i hi; omega)).mono fun r w' h => h.form)
              obtain ⟨z0, z1, z2, z3, z4, z5, z6, z7⟩ := CV.out wc FE.out
              go_upto_region 19 with (go_at_call 11; refine WH.out.mono ?_; rintro r WB ⟨b0, b1, b2, wa, wl, wcc, c, rfl, wf⟩; have WF := hid wf; clear wf)
              clear z0 z1 z2 z3 z4 z5 z6 z7 WH
              obtain ⟨QF, hQF⟩ : ∃ QF, QF = WB.heap.size := ⟨_, rfl⟩
              obtain ⟨WC, hWC⟩ : ∃ WC, WC = WB.alloc (.cells #[.int .i64 b0, .int .i64 b1, .int .u64 b2, .slice none 0 0, .slice wa wl wcc] 30) := ⟨_, rfl⟩
              have fC : Fr [] WB WC := by rw [hWC]; exact (Fr.refl _ _).alloc _
              have FG : Hid (Fr [] W0 WC) := hid ((FE.out.trans WF.out.fr).trans fC)
              have NC : Hid (WC.heap[QF]? = some (.cells #[.int .i64 b0, .int .i64 b1, .int .u64 b2, .slice none 0 0, .slice wa wl wcc] 30 (0, 0))) := hid (by rw [hWC, hQF]; exact blk_new _ _)
              rw [← hWC, ← hQF]
              clear hWC hQF
              have ffC := hid fC
              clear fC
              rcases WF.out.out with hc | ⟨hc, hck, ⟨hb0, hb1, hb2⟩, hwl, hra⟩
              · have hc1 : (c == 0) = false := by simpa using hc
                clear hc
                go_wp2_with fail
                go_ret
                exact ⟨rfl, F0.out.trans FG.out⟩
              · subst hc
                have AP2 : Hid (Calls Try.prog 9 #[.agg #[.int .i64 0, .int .i64 0, .int .u64 0, .slice none 0 0, .slice none 0 0, .slice none 0 0, .slice none 0 0, .slice none 0 0], .agg #[.int .i64 b0, .int .i64 b1, .int .u64 b2, .slice none 0 0, .slice wa wl wcc]] WC fun r w' => A2Out WC w' vl vn vs v.lv ln r) := hid (by
                  have p := HVE.out
                  have hlen := allA_len v.lv (fun i hi => by rw [← HV.out.len i hi]; have := HS.out i hi; omega) 5 (by omega)
                  rw [hb0, hb1, hb2, p.1, p.2.1, p.2.2]
                  rw [hwl] at hra ⊢
                  have ap := apply_c WC (v := zeroV) (e := wholeE v) (ad := fun _ => none) (ln := fun _ => 0) (cp := fun _ => 0) (da := none) (dc := 0) (aa := wa) (ac := wcc) ⟨fun _ _ => rfl, fun _ _ => by simp, fun _ _ h => by simp at h⟩ ⟨⟨none, 0, rfl, fun h => by simp [wholeE] at h⟩, hra.fr ffC.out, by simp [wholeE], by show (allA v.lv 5).length ≤ _; omega⟩ (fun _ _ => by simp) (by simp [wholeE]) (by show (allA v.lv 5).length ≤ _; omega)
                  exact ap.mono fun r w' h => h.whole hck HV.out.len)
                clear hck hb0 hb1 hb2 hwl hra WF
                obtain ⟨x0, x1, x2, x3, x4⟩ := ed5_cells NC.out
                go_upto_region 22 with (go_at_call 9; refine AP2.out.mono ?_; intro r WD hg; obtain ⟨fD, kd2, kc2, rfl, vD⟩ := hg; have FH := hid (FG.out.trans fD); have VD := hid vD; clear fD vD)
                clear x0 x1 x2 x3 x4 AP2
                obtain ⟨QC, hQC⟩ : ∃ QC, QC = WD.heap.size := ⟨_, rfl⟩
                obtain ⟨WE, hWE⟩ : ∃ WE, WE = WD.alloc (.cells #[.int .i64 vl, .int .i64 vn, .int .u64 (vs : Int), .slice (kd2 0) (ln 0) (kc2 0), .slice (kd2 1) (ln 1) (kc2 1), .slice (kd2 2) (ln 2) (kc2 2), .slice (kd2 3) (ln 3) (kc2 3), .slice (kd2 4) (ln 4) (kc2 4)] 26) := ⟨_, rfl⟩
                have fE : Fr [] WD WE := by rw [hWE]; exact (Fr.refl _ _).alloc _
                have NE : Hid (WE.heap[QC]? = some (.cells #[.int .i64 vl, .int .i64 vn, .int .u64 (vs : Int), .slice (kd2 0) (ln 0) (kc2 0), .slice (kd2 1) (ln 1) (kc2 1), .slice (kd2 2) (ln 2) (kc2 2), .slice (kd2 3) (ln 3) (kc2 3), .slice (kd2 4) (ln 4) (kc2 4)] 26 (0, 0))) := hid (by rw [hWE, hQC]; exact blk_new _ _)
                have VC := hid (version_c WE vl vn vs (VD.out.fr fE) ((HV.out.fr FH.out).fr fE))
                have FI := hid (FH.out.trans fE)
                rw [← hWE, ← hQC]
                clear hWE hQC fE
                obtain ⟨z0, z1, z2, z3, z4, z5, z6, z7⟩ := CV.out WE FI.out
                obtain ⟨y0, y1, y2, y3, y4, y5, y6, y7⟩ := vn_cells NE.out
                go_wp2_with (go_at_call 13; refine VC.out.mono ?_; rintro r WJ ⟨rfl, fJ⟩; have FJ := hid fJ; clear fJ)
                go_ret
                exact ⟨rfl, (F0.out.trans FI.out).trans FJ.out⟩
      · have h3' : (3000 : Int) < (bl : Int) := by omega
        go_wp2_with (first
          | (go_at_call 7; refine FW1.out.mono ?_; rintro r W2 ⟨rfl, f2⟩; have F2 := hid (F1.out.trans f2); obtain ⟨z0, z1, z2, z3, z4, z5, z6, z7⟩ := CV.out W2 (F1.out.trans f2); clear f2)
          | (go_at_call 8; refine (SM1.out _).mono ?_; rintro r W3 ⟨rfl, f3⟩; have F3 := hid (F2.out.trans f3); clear f3))
        go_ret
        exact ⟨rfl, F0.out.trans F3.out⟩
    · have SM1 : Hid (∀ W, Calls Try.prog 8 #[.agg #[.int .i64 vl, .int .i64 vn, .int .u64 (vs : Int), .slice (ad 0) (ln 0) (cp 0), .slice (ad 1) (ln 1) (cp 1), .slice (ad 2) (ln 2) (cp 2), .slice (ad 3) (ln 3) (cp 3), .slice (ad 4) (ln 4) (cp 4)]] W fun r w' => r = .returned (.bool false) ∧ Fr [] W w') := hid (fun W => (SMC.out W).mono fun r w' h => by
        obtain ⟨bb, h1, h2⟩ := h.out
        have hb : bb = false := by rw [Bool.eq_false_iff]; exact fun hb => hs (h2.1 hb)
        rw [hb] at h1
        exact ⟨h1, h.fr⟩)
      clear SMC FW hs
      go_wp2_with (first
        | (go_at_call 7; refine FW1.out.mono ?_; rintro r W2 ⟨rfl, f2⟩; have F2 := hid (F1.out.trans f2); obtain ⟨z0, z1, z2, z3, z4, z5, z6, z7⟩ := CV.out W2 (F1.out.trans f2); clear f2)
        | (go_at_call 8; refine (SM1.out _).mono ?_; rintro r W3 ⟨rfl, f3⟩; have F3 := hid (F2.out.trans f3); clear f3))
      go_ret
      exact ⟨rfl, F0.out.trans F3.out⟩
  · have FW1 : Hid (Calls Try.prog 7 #[.agg #[.int .i64 el, .int .i64 en, .int .u64 (es : Int), .slice da dl dc, .slice aa al ac]] W1 fun r w' => r = .returned (.bool false) ∧ Fr [] W1 w') := hid (by
      have := FW.out W1
      rw [show (decide (dl ≤ 30) && decide (al ≤ 30)) = false from by rw [Bool.eq_false_iff]; simpa using hfew] at this
      exact this)
    clear SMC FW hfew
    go_wp2_with (go_at_call 7; refine FW1.out.mono ?_; rintro r W2 ⟨rfl, f2⟩; have F2 := hid (F1.out.trans f2); clear f2)
    go_ret
    exact ⟨rfl, F0.out.trans F2.out⟩
end Go.Proofs.Ytkljblgogiheoaa
