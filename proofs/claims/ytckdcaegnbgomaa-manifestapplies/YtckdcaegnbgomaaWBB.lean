/-
  ManifestApplies walked.
-/
import Derived.Test.YtckdcaegnbgomaaWAI
import Derived.Test.YtckdcaegnbgomaaWBA
import Derived.Test.YtckdcaegnbgomaaVR
namespace Go.Proofs.Ytckdcaegnbgomaa
open Go.ChangeShapes Go.WideShapes Go.ChangeAt Go.RowKit

/-- What Apply answers, without the program: the error, the version. -/
def ResV (v : Vn) (e : Ed) (a0 a1 : Int) (a2 : Nat) (U : Nat → List Fl) (x : Int) : Prop :=
  ((a0 = 0 ∧ a1 = 0 ∧ a2 = 0 ∧ ∀ i, i < 5 → U i = []) ∧ ((chkV v ≠ 0 ∧ x = chkV v) ∨ (chkV v = 0 ∧ okE e = false ∧ x = 90) ∨ (chkV v = 0 ∧ okE e = true ∧ errA v e x))) ∨ (chkV v = 0 ∧ okE e = true ∧ x = 0 ∧ okA9 v e U ∧ a0 = e.log ∧ a1 = e.next ∧ a2 = e.seq)
theorem ResV.one {v : Vn} {e : Ed} {a0 a1 : Int} {a2 : Nat} {U : Nat → List Fl} {x : Int} {b0 b1 : Int} {b2 : Nat} {U' : Nat → List Fl} {y : Int} (h : ResV v e a0 a1 a2 U x) (h' : ResV v e b0 b1 b2 U' y) : x = y ∧ a0 = b0 ∧ a1 = b1 ∧ a2 = b2 ∧ ∀ i, i < 5 → U i = U' i := by
  rcases h with ⟨⟨p1, p2, p3, p4⟩, p5⟩ | ⟨p1, p2, p3, p4, p5, p6, p7⟩ <;> rcases h' with ⟨⟨q1, q2, q3, q4⟩, q5⟩ | ⟨q1, q2, q3, q4, q5, q6, q7⟩
  · refine ⟨?_, by rw [p1, q1], by rw [p2, q2], by rw [p3, q3], fun i hi => by rw [p4 i hi, q4 i hi]⟩
    rcases p5 with ⟨r1, r2⟩ | ⟨r1, r2, r3⟩ | ⟨r1, r2, r3⟩ <;> rcases q5 with ⟨s1, s2⟩ | ⟨s1, s2, s3⟩ | ⟨s1, s2, s3⟩
    · rw [r2, s2]
    · exact absurd s1 r1
    · exact absurd s1 r1
    · exact absurd r1 s1
    · rw [r3, s3]
    · rw [r2] at s2; cases s2
    · exact absurd r1 s1
    · rw [r2] at s2; cases s2
    · exact errA_one r3 s3
  · rcases p5 with ⟨r1, r2⟩ | ⟨r1, r2, r3⟩ | ⟨r1, r2, r3⟩
    · exact absurd q1 r1
    · rw [r2] at q2; cases q2
    · exact absurd q4 (errA_not r3 U')
  · rcases q5 with ⟨r1, r2⟩ | ⟨r1, r2, r3⟩ | ⟨r1, r2, r3⟩
    · exact absurd p1 r1
    · rw [r2] at p2; cases p2
    · exact absurd p4 (errA_not r3 U)
  · exact ⟨by rw [p3, q3], by rw [p5, q5], by rw [p6, q6], by rw [p7, q7], p4.comes.one q4.comes q4.chk⟩
theorem vat_none (w : World) : VAt w (fun _ => []) (fun _ => none) (fun _ => 0) (fun _ => 0) := ⟨fun _ _ => rfl, fun _ _ => by omega, fun _ _ h => by omega⟩
theorem AOut.res {w w' : World} {v : Vn} {e : Ed} {r : Ending} (h : AOut w w' v e r) : ∃ (a0 a1 : Int) (a2 : Nat) (kd : Nat → Option Addr) (kl kc : Nat → Nat) (x : Int) (U : Nat → List Fl), r = .returned (.tuple #[.agg #[.int .i64 a0, .int .i64 a1, .int .u64 (a2 : Int), .slice (kd 0) (kl 0) (kc 0), .slice (kd 1) (kl 1) (kc 1), .slice (kd 2) (kl 2) (kc 2), .slice (kd 3) (kl 3) (kc 3), .slice (kd 4) (kl 4) (kc 4)], .int .i64 x]) ∧ ResV v e a0 a1 a2 U x ∧ VAt w' U kd kl kc ∧ Fr [] w w' := by
  rcases h.out with ⟨h1, rfl⟩ | ⟨h1, h2, rfl⟩ | ⟨h1, h2, ⟨c, h3, h4, rfl⟩ | ⟨U, kd, kl, kc, h3, rfl, h4⟩⟩
  · exact ⟨0, 0, 0, _, _, _, _, fun _ => [], rfl, .inl ⟨⟨rfl, rfl, rfl, fun _ _ => rfl⟩, .inl ⟨h1, rfl⟩⟩, vat_none _, h.fr⟩
  · exact ⟨0, 0, 0, _, _, _, _, fun _ => [], rfl, .inl ⟨⟨rfl, rfl, rfl, fun _ _ => rfl⟩, .inr (.inl ⟨h1, h2, rfl⟩)⟩, vat_none _, h.fr⟩
  · exact ⟨0, 0, 0, _, _, _, _, fun _ => [], rfl, .inl ⟨⟨rfl, rfl, rfl, fun _ _ => rfl⟩, .inr (.inr ⟨h1, h2, h3⟩)⟩, vat_none _, h.fr⟩
  · exact ⟨_, _, _, kd, kl, kc, 0, U, rfl, .inr ⟨h1, h2, rfl, h3, rfl, rfl, rfl⟩, h4.vat, h.fr⟩
theorem RAOut.res {w w' : World} {v : Vn} {e : Ed} {r : Ending} (h : RAOut w w' v e r) : ∃ (a0 a1 : Int) (a2 : Nat) (kd : Nat → Option Addr) (kl kc : Nat → Nat) (x : Int) (U : Nat → List Fl), r = .returned (.tuple #[.agg #[.int .i64 a0, .int .i64 a1, .int .u64 (a2 : Int), .slice (kd 0) (kl 0) (kc 0), .slice (kd 1) (kl 1) (kc 1), .slice (kd 2) (kl 2) (kc 2), .slice (kd 3) (kl 3) (kc 3), .slice (kd 4) (kl 4) (kc 4)], .int .i64 x]) ∧ ResV v e a0 a1 a2 U x ∧ VAt w' U kd kl kc ∧ Fr [] w w' := by
  rcases h.out with ⟨h1, rfl⟩ | ⟨h1, h2, rfl⟩ | ⟨h1, h2, ⟨c, h3, h4, rfl⟩ | ⟨U, kd, kl, kc, h3, rfl, h4⟩⟩
  · exact ⟨0, 0, 0, _, _, _, _, fun _ => [], rfl, .inl ⟨⟨rfl, rfl, rfl, fun _ _ => rfl⟩, .inl ⟨h1, rfl⟩⟩, vat_none _, h.fr⟩
  · exact ⟨0, 0, 0, _, _, _, _, fun _ => [], rfl, .inl ⟨⟨rfl, rfl, rfl, fun _ _ => rfl⟩, .inr (.inl ⟨h1, h2, rfl⟩)⟩, vat_none _, h.fr⟩
  · exact ⟨0, 0, 0, _, _, _, _, fun _ => [], rfl, .inl ⟨⟨rfl, rfl, rfl, fun _ _ => rfl⟩, .inr (.inr ⟨h1, h2, h3⟩)⟩, vat_none _, h.fr⟩
  · exact ⟨_, _, _, kd, kl, kc, 0, U, rfl, .inr ⟨h1, h2, rfl, h3, rfl, rfl, rfl⟩, h4, h.fr⟩
/-- The edit that a version is told as. -/
noncomputable def whE (v : Vn) : Ed := open Classical in if chkV v = 0 then ⟨v.log, v.next, v.seq, [], allA v.lv 5⟩ else ⟨0, 0, 0, [], []⟩
theorem WhOut.res {w w' : World} {v : Vn} {r : Ending} (h : WhOut w w' v r) (hl : ∀ i, i < 5 → (v.lv i).length ≤ 100) : ∃ da dc aa ac, r = .returned (.tuple #[.agg #[.int .i64 (whE v).log, .int .i64 (whE v).next, .int .u64 ((whE v).seq : Int), .slice da (whE v).drop.length dc, .slice aa (whE v).add.length ac], .int .i64 (chkV v)]) ∧ EAt w' (whE v) da dc aa ac ∧ Fr [] w w' := by
  rcases h.out with ⟨h1, rfl⟩ | ⟨h1, aa, al, ac, rfl, h2, h3⟩
  · have e : whE v = ⟨0, 0, 0, [], []⟩ := by unfold whE; rw [if_neg h1]
    rw [e]
    exact ⟨none, 0, none, 0, rfl, ⟨⟨none, 0, rfl, fun h => absurd h (by simp)⟩, ⟨none, 0, rfl, fun h => absurd h (by simp)⟩, by simp, by simp⟩, h.fr⟩
  · have e : whE v = ⟨v.log, v.next, v.seq, [], allA v.lv 5⟩ := by unfold whE; rw [if_pos h1]
    rw [e, h1]
    subst h2
    exact ⟨none, 0, aa, ac, rfl, ⟨⟨none, 0, rfl, fun h => absurd h (by simp)⟩, h3, by simp, by have := allA_len v.lv hl 5 (by omega); simp only; omega⟩, h.fr⟩
/-- Two answers compared. -/
theorem version2_c (w : World) {v : Vn} {e : Ed} {a0 a1 : Int} {a2 : Nat} {U : Nat → List Fl} {x : Int} {b0 b1 : Int} {b2 : Nat} {U' : Nat → List Fl} {y : Int} {kd md : Nat → Option Addr} {kl kc ml mc : Nat → Nat} (h : ResV v e a0 a1 a2 U x) (h' : ResV v e b0 b1 b2 U' y) (h1 : VAt w U kd kl kc) (h2 : VAt w U' md ml mc) :
    Calls Try.prog 13 #[.agg #[.int .i64 a0, .int .i64 a1, .int .u64 (a2 : Int), .slice (kd 0) (kl 0) (kc 0), .slice (kd 1) (kl 1) (kc 1), .slice (kd 2) (kl 2) (kc 2), .slice (kd 3) (kl 3) (kc 3), .slice (kd 4) (kl 4) (kc 4)], .agg #[.int .i64 b0, .int .i64 b1, .int .u64 (b2 : Int), .slice (md 0) (ml 0) (mc 0), .slice (md 1) (ml 1) (mc 1), .slice (md 2) (ml 2) (mc 2), .slice (md 3) (ml 3) (mc 3), .slice (md 4) (ml 4) (mc 4)]] w fun r w' => r = .returned (.bool true) ∧ Fr [] w w' := by
  obtain ⟨_, rfl, rfl, rfl, hu⟩ := h.one h'
  have hl : ∀ i, i < 5 → ml i = kl i := fun i hi => by rw [h1.len i hi, h2.len i hi, hu i hi]
  rw [hl 0 (by omega), hl 1 (by omega), hl 2 (by omega), hl 3 (by omega), hl 4 (by omega)]
  refine version_c w _ _ _ h1 ⟨h1.len, h1.small, fun i hi h0 => ?_⟩
  obtain ⟨b, off, e1, k⟩ := h2.rd i hi (by rw [hl i hi]; exact h0)
  exact ⟨b, off, e1, fun j f hf => k j f (by rw [← hu i hi]; exact hf)⟩
set_option maxRecDepth 20000 in
set_option maxHeartbeats 6400000 in
theorem applies_c (w : World) {v : Vn} {ad : Nat → Option Addr} {ln cp : Nat → Nat} {e : Ed} {da aa : Option Addr} {dc ac : Nat} (hv : VAt w v.lv ad ln cp) (hnil : ∀ i, i < 5 → ad i = none → ln i = 0 ∧ cp i = 0) (he : EAt w e da dc aa ac) :
    Calls Try.prog 3 #[.agg #[.int .i64 v.log, .int .i64 v.next, .int .u64 (v.seq : Int), .slice (ad 0) (ln 0) (cp 0), .slice (ad 1) (ln 1) (cp 1), .slice (ad 2) (ln 2) (cp 2), .slice (ad 3) (ln 3) (cp 3), .slice (ad 4) (ln 4) (cp 4)], .agg #[.int .i64 e.log, .int .i64 e.next, .int .u64 (e.seq : Int), .slice da e.drop.length dc, .slice aa e.add.length ac]] w fun r w' => r = .returned (.bool true) ∧ Fr [] w w' := by
  have hld := he.ld
  have hla := he.la
  obtain ⟨dl, hdl⟩ : ∃ x, x = e.drop.length := ⟨_, rfl⟩
  obtain ⟨al, hal⟩ : ∃ x, x = e.add.length := ⟨_, rfl⟩
  rw [← hdl] at hld
  rw [← hal] at hla
  have AC : Hid (smallV ln → dl ≤ 30 ∧ al ≤ 30 → ∀ W, Fr [] w W → Calls Try.prog 9 #[.agg #[.int .i64 v.log, .int .i64 v.next, .int .u64 (v.seq : Int), .slice (ad 0) (ln 0) (cp 0), .slice (ad 1) (ln 1) (cp 1), .slice (ad 2) (ln 2) (cp 2), .slice (ad 3) (ln 3) (cp 3), .slice (ad 4) (ln 4) (cp 4)], .agg #[.int .i64 e.log, .int .i64 e.next, .int .u64 (e.seq : Int), .slice da e.drop.length dc, .slice aa e.add.length ac]] W fun r w' => AOut W w' v e r) := hid (fun hs hf W f => apply_c W (hv.fr f) (he.fr f) (fun i hi => by have := hs i hi; omega) (by omega) (by omega))
  have RAC : Hid (smallV ln → dl ≤ 30 ∧ al ≤ 30 → ∀ W, Fr [] w W → Calls Try.prog 10 #[.agg #[.int .i64 v.log, .int .i64 v.next, .int .u64 (v.seq : Int), .slice (ad 0) (ln 0) (cp 0), .slice (ad 1) (ln 1) (cp 1), .slice (ad 2) (ln 2) (cp 2), .slice (ad 3) (ln 3) (cp 3), .slice (ad 4) (ln 4) (cp 4)], .agg #[.int .i64 e.log, .int .i64 e.next, .int .u64 (e.seq : Int), .slice da e.drop.length dc, .slice aa e.add.length ac]] W fun r w' => RAOut W w' v e r) := hid (fun hs hf W f => rapply_c W (hv.fr f) hnil (he.fr f) (fun i hi => by have := hs i hi; omega) (by omega) (by omega))
  have WC : Hid (smallV ln → ∀ W, Fr [] w W → Calls Try.prog 11 #[.agg #[.int .i64 v.log, .int .i64 v.next, .int .u64 (v.seq : Int), .slice (ad 0) (ln 0) (cp 0), .slice (ad 1) (ln 1) (cp 1), .slice (ad 2) (ln 2) (cp 2), .slice (ad 3) (ln 3) (cp 3), .slice (ad 4) (ln 4) (cp 4)]] W fun r w' => WhOut W w' v r) := hid (fun hs W f => whole_c W (hv.fr f) (fun i hi => by have := hs i hi; omega))
  have RWC : Hid (smallV ln → ∀ W, Fr [] w W → Calls Try.prog 12 #[.agg #[.int .i64 v.log, .int .i64 v.next, .int .u64 (v.seq : Int), .slice (ad 0) (ln 0) (cp 0), .slice (ad 1) (ln 1) (cp 1), .slice (ad 2) (ln 2) (cp 2), .slice (ad 3) (ln 3) (cp 3), .slice (ad 4) (ln 4) (cp 4)]] W fun r w' => WhOut W w' v r) := hid (fun hs W f => rwhole_c W (hv.fr f) hnil (fun i hi => by have := hs i hi; omega))
  have CK0 : Hid (∀ W, Fr [] w W → Calls Try.prog 14 #[.agg #[.int .i64 v.log, .int .i64 v.next, .int .u64 (v.seq : Int), .slice (ad 0) (ln 0) (cp 0), .slice (ad 1) (ln 1) (cp 1), .slice (ad 2) (ln 2) (cp 2), .slice (ad 3) (ln 3) (cp 3), .slice (ad 4) (ln 4) (cp 4)]] W fun r w' => r = .returned (.int .i64 (chkV v)) ∧ Fr [] W w') := hid (fun W f => check_c W (hv.fr f))
  have RCK0 : Hid (smallV ln → ∀ W, Fr [] w W → Calls Try.prog 15 #[.agg #[.int .i64 v.log, .int .i64 v.next, .int .u64 (v.seq : Int), .slice (ad 0) (ln 0) (cp 0), .slice (ad 1) (ln 1) (cp 1), .slice (ad 2) (ln 2) (cp 2), .slice (ad 3) (ln 3) (cp 3), .slice (ad 4) (ln 4) (cp 4)]] W fun r w' => r = .returned (.int .i64 (chkV v)) ∧ Fr [] W w') := hid (fun hs W f => rcheck_c W (hv.fr f) hnil (fun i hi => by have := hs i hi; omega))
  have HLV : Hid (smallV ln → ∀ i, i < 5 → (v.lv i).length ≤ 100) := hid (fun hs i hi => by rw [← hv.len i hi]; have := hs i hi; omega)
  rw [← hdl, ← hal] at AC RAC ⊢
  obtain ⟨vl, hvl⟩ : ∃ x, x = v.log := ⟨_, rfl⟩
  obtain ⟨vn, hvn⟩ : ∃ x, x = v.next := ⟨_, rfl⟩
  obtain ⟨vs, hvs⟩ : ∃ x, x = v.seq := ⟨_, rfl⟩
  obtain ⟨el, hel⟩ : ∃ x, x = e.log := ⟨_, rfl⟩
  obtain ⟨en, hen⟩ : ∃ x, x = e.next := ⟨_, rfl⟩
  obtain ⟨es, hes⟩ : ∃ x, x = e.seq := ⟨_, rfl⟩
  rw [← hvl, ← hvn, ← hvs] at AC RAC WC RWC CK0 RCK0 ⊢
  rw [← hel, ← hen, ← hes] at AC RAC ⊢
  obtain ⟨W0, hW0⟩ : ∃ W0, W0 = (w.alloc (.cells #[.int .i64 vl, .int .i64 vn, .int .u64 (vs : Int), .slice (ad 0) (ln 0) (cp 0), .slice (ad 1) (ln 1) (cp 1), .slice (ad 2) (ln 2) (cp 2), .slice (ad 3) (ln 3) (cp 3), .slice (ad 4) (ln 4) (cp 4)] 26)).alloc (.cells #[.int .i64 el, .int .i64 en, .int .u64 (es : Int), .slice da dl dc, .slice aa al ac] 30) := ⟨_, rfl⟩
  have F0 : Hid (Fr [] w W0) := hid (by rw [hW0]; exact ((Fr.refl _ _).alloc _).alloc _)
  have N0 : Hid (W0.heap[w.heap.size]? = some (.cells #[.int .i64 vl, .int .i64 vn, .int .u64 (vs : Int), .slice (ad 0) (ln 0) (cp 0), .slice (ad 1) (ln 1) (cp 1), .slice (ad 2) (ln 2) (cp 2), .slice (ad 3) (ln 3) (cp 3), .slice (ad 4) (ln 4) (cp 4)] 26 (0, 0))) := hid (by rw [hW0, blk_old _ _ (by simp)]; exact blk_new _ _)
  have N1 : Hid (W0.heap[w.heap.size + 1]? = some (.cells #[.int .i64 el, .int .i64 en, .int .u64 (es : Int), .slice da dl dc, .slice aa al ac] 30 (0, 0))) := hid (by rw [hW0]; exact new_at _ _ (by simp))
  have KN : Hid (∀ W, _) := hid (fun W => known9_c W)
  have SMC : Hid (∀ W, _) := hid (fun W => small_c W vl vn vs ad ln cp hv.small)
  have FW : Hid (∀ W, Calls Try.prog 7 #[.agg #[.int .i64 el, .int .i64 en, .int .u64 (es : Int), .slice da dl dc, .slice aa al ac]] W fun r w' => r = .returned (.bool (decide (dl ≤ 30) && decide (al ≤ 30))) ∧ Fr [] W w') := hid (fun W => few9_c W)
  have CV : Hid (∀ W, Fr [] W0 W → _) := hid (fun W f => vn_cells (f.at N0.out (by simp)))
  have CE : Hid (∀ W, Fr [] W0 W → _) := hid (fun W f => ed5_cells (f.at N1.out (by simp)))
  clear hv he hnil hvl hvn hvs hel hen hes hdl hal
  go_enter Try.func3, Try.ntmps3
  go_upto_region 1 with fail
  rw [← hW0]
  clear hW0
  go_upto_region 3 with (go_at_call 6; refine (KN.out _).mono ?_; rintro r W1 ⟨rfl, f1⟩; have F1 := hid f1; clear f1)
  clear KN
  obtain ⟨y0, y1, y2, y3, y4⟩ := CE.out W1 F1.out
  by_cases hfew : dl ≤ 30 ∧ al ≤ 30
  · have FW1 : Hid (Calls Try.prog 7 #[.agg #[.int .i64 el, .int .i64 en, .int .u64 (es : Int), .slice da dl dc, .slice aa al ac]] W1 fun r w' => r = .returned (.bool true) ∧ Fr [] W1 w') := hid (by have := FW.out W1; rw [decide_eq_true hfew.1, decide_eq_true hfew.2] at this; exact this)
    have HFEW := hid hfew
    clear hfew
    by_cases hs : smallV ln
    · have SM1 : Hid (∀ W, Calls Try.prog 8 #[.agg #[.int .i64 vl, .int .i64 vn, .int .u64 (vs : Int), .slice (ad 0) (ln 0) (cp 0), .slice (ad 1) (ln 1) (cp 1), .slice (ad 2) (ln 2) (cp 2), .slice (ad 3) (ln 3) (cp 3), .slice (ad 4) (ln 4) (cp 4)]] W fun r w' => r = .returned (.bool true) ∧ Fr [] W w') := hid (fun W => (SMC.out W).mono fun r w' h => by obtain ⟨bb, h1, h2⟩ := h.out; rw [h2.2 hs] at h1; exact ⟨h1, h.fr⟩)
      have HS := hid hs
      clear SMC FW hs
      go_upto_region 5 with (first
        | (go_at_call 7; refine FW1.out.mono ?_; rintro r W2 ⟨rfl, f2⟩; have F2 := hid (F1.out.trans f2); obtain ⟨z0, z1, z2, z3, z4, z5, z6, z7⟩ := CV.out W2 (F1.out.trans f2); clear f2)
        | (go_at_call 8; refine (SM1.out _).mono ?_; rintro r W3 ⟨rfl, f3⟩; have F3 := hid (F2.out.trans f3); clear f3))
      clear y0 y1 y2 y3 y4 z0 z1 z2 z3 z4 z5 z6 z7 FW1 SM1 F1 F2
      obtain ⟨y0, y1, y2, y3, y4⟩ := CE.out W3 F3.out
      obtain ⟨z0, z1, z2, z3, z4, z5, z6, z7⟩ := CV.out W3 F3.out
      have A3 := hid (AC.out HS.out HFEW.out W3 (F0.out.trans F3.out))
      clear AC
      go_upto_region 6 with (go_at_call 9; refine A3.out.mono ?_; intro r W4 h4; obtain ⟨a0, a1, a2, kd, kl, kc, x, U, rfl, h41, h42, h43⟩ := h4.res; have R4 := hid h41; have V4 := hid h42; have F4 := hid (F3.out.trans h43); clear h4 h41 h42 h43)
      clear y0 y1 y2 y3 y4 z0 z1 z2 z3 z4 z5 z6 z7 A3
      obtain ⟨Q5, hQ5⟩ : ∃ Q5, Q5 = W4.heap.size := ⟨_, rfl⟩
      obtain ⟨W5, hW5⟩ : ∃ W5, W5 = W4.alloc (.cells #[.int .i64 a0, .int .i64 a1, .int .u64 (a2 : Int), .slice (kd 0) (kl 0) (kc 0), .slice (kd 1) (kl 1) (kc 1), .slice (kd 2) (kl 2) (kc 2), .slice (kd 3) (kl 3) (kc 3), .slice (kd 4) (kl 4) (kc 4)] 26) := ⟨_, rfl⟩
      have f5 : Fr [] W4 W5 := by rw [hW5]; exact (Fr.refl _ _).alloc _
      have N5 : Hid (W5.heap[Q5]? = some (.cells #[.int .i64 a0, .int .i64 a1, .int .u64 (a2 : Int), .slice (kd 0) (kl 0) (kc 0), .slice (kd 1) (kl 1) (kc 1), .slice (kd 2) (kl 2) (kc 2), .slice (kd 3) (kl 3) (kc 3), .slice (kd 4) (kl 4) (kc 4)] 26 (0, 0))) := hid (by rw [hW5, hQ5]; exact blk_new _ _)
      have V5 := hid (V4.out.fr f5)
      have F5 := hid (F4.out.trans f5)
      rw [← hW5, ← hQ5]
      clear hW5 hQ5 f5 V4 F4 F3
      obtain ⟨y0, y1, y2, y3, y4⟩ := CE.out W5 F5.out
      obtain ⟨z0, z1, z2, z3, z4, z5, z6, z7⟩ := CV.out W5 F5.out
      have A5 := hid (RAC.out HS.out HFEW.out W5 (F0.out.trans F5.out))
      clear RAC HFEW
      go_upto_region 7 with (go_at_call 10; refine A5.out.mono ?_; intro r W6 h4; obtain ⟨b0, b1, b2, md, ml, mc, y, U', rfl, h41, h42, h43⟩ := h4.res; have R6 := hid h41; have V6 := hid h42; have F6 := hid h43; clear h4 h41 h42 h43)
      clear y0 y1 y2 y3 y4 z0 z1 z2 z3 z4 z5 z6 z7 A5
      obtain ⟨Q7, hQ7⟩ : ∃ Q7, Q7 = W6.heap.size := ⟨_, rfl⟩
      obtain ⟨W7, hW7⟩ : ∃ W7, W7 = W6.alloc (.cells #[.int .i64 b0, .int .i64 b1, .int .u64 (b2 : Int), .slice (md 0) (ml 0) (mc 0), .slice (md 1) (ml 1) (mc 1), .slice (md 2) (ml 2) (mc 2), .slice (md 3) (ml 3) (mc 3), .slice (md 4) (ml 4) (mc 4)] 26) := ⟨_, rfl⟩
      have f7 : Fr [] W6 W7 := by rw [hW7]; exact (Fr.refl _ _).alloc _
      have N7 : Hid (W7.heap[Q7]? = some (.cells #[.int .i64 b0, .int .i64 b1, .int .u64 (b2 : Int), .slice (md 0) (ml 0) (mc 0), .slice (md 1) (ml 1) (mc 1), .slice (md 2) (ml 2) (mc 2), .slice (md 3) (ml 3) (mc 3), .slice (md 4) (ml 4) (mc 4)] 26 (0, 0))) := hid (by rw [hW7, hQ7]; exact blk_new _ _)
      have V7 := hid (V6.out.fr f7)
      have G57 := hid (F6.out.trans f7)
      have F7 := hid (F5.out.trans (F6.out.trans f7))
      rw [← hW7, ← hQ7]
      clear hW7 hQ7 f7 V6 F6
      have hxy0 := (R4.out.one R6.out).1
      have hxy : (x == y) = true := by rw [hxy0]; simp
      clear hxy0
      obtain ⟨z0, z1, z2, z3, z4, z5, z6, z7⟩ := CV.out W7 F7.out
      obtain ⟨C, hC⟩ : ∃ C, C = chkV v := ⟨_, rfl⟩
      obtain ⟨E, hE⟩ : ∃ E, E = whE v := ⟨_, rfl⟩
      have WA : Hid (∀ W, Fr [] w W → Calls Try.prog 11 #[.agg #[.int .i64 vl, .int .i64 vn, .int .u64 (vs : Int), .slice (ad 0) (ln 0) (cp 0), .slice (ad 1) (ln 1) (cp 1), .slice (ad 2) (ln 2) (cp 2), .slice (ad 3) (ln 3) (cp 3), .slice (ad 4) (ln 4) (cp 4)]] W fun r w' => ∃ da1 dc1 aa1 ac1, r = .returned (.tuple #[.agg #[.int .i64 E.log, .int .i64 E.next, .int .u64 (E.seq : Int), .slice da1 E.drop.length dc1, .slice aa1 E.add.length ac1], .int .i64 C]) ∧ EAt w' E da1 dc1 aa1 ac1 ∧ Fr [] W w') := hid (fun W f => (WC.out HS.out W f).mono fun r w' h => by rw [hC, hE]; exact h.res (HLV.out HS.out))
      have WB : Hid (∀ W, Fr [] w W → Calls Try.prog 12 #[.agg #[.int .i64 vl, .int .i64 vn, .int .u64 (vs : Int), .slice (ad 0) (ln 0) (cp 0), .slice (ad 1) (ln 1) (cp 1), .slice (ad 2) (ln 2) (cp 2), .slice (ad 3) (ln 3) (cp 3), .slice (ad 4) (ln 4) (cp 4)]] W fun r w' => ∃ da1 dc1 aa1 ac1, r = .returned (.tuple #[.agg #[.int .i64 E.log, .int .i64 E.next, .int .u64 (E.seq : Int), .slice da1 E.drop.length dc1, .slice aa1 E.add.length ac1], .int .i64 C]) ∧ EAt w' E da1 dc1 aa1 ac1 ∧ Fr [] W w') := hid (fun W f => (RWC.out HS.out W f).mono fun r w' h => by rw [hC, hE]; exact h.res (HLV.out HS.out))
      have CK : Hid (∀ W, Fr [] w W → Calls Try.prog 14 #[.agg #[.int .i64 vl, .int .i64 vn, .int .u64 (vs : Int), .slice (ad 0) (ln 0) (cp 0), .slice (ad 1) (ln 1) (cp 1), .slice (ad 2) (ln 2) (cp 2), .slice (ad 3) (ln 3) (cp 3), .slice (ad 4) (ln 4) (cp 4)]] W fun r w' => r = .returned (.int .i64 C) ∧ Fr [] W w') := hid (by rw [hC]; exact CK0.out)
      have RCK : Hid (∀ W, Fr [] w W → Calls Try.prog 15 #[.agg #[.int .i64 vl, .int .i64 vn, .int .u64 (vs : Int), .slice (ad 0) (ln 0) (cp 0), .slice (ad 1) (ln 1) (cp 1), .slice (ad 2) (ln 2) (cp 2), .slice (ad 3) (ln 3) (cp 3), .slice (ad 4) (ln 4) (cp 4)]] W fun r w' => r = .returned (.int .i64 C) ∧ Fr [] W w') := hid (by rw [hC]; exact RCK0.out HS.out)
      have hcc : (C == C) = true := by simp
      clear hC hE CK0 RCK0 WC RWC HLV HS
      have ES : Hid (∀ (W : World) (da1 : Option Addr) (dc1 : Nat) (aa1 : Option Addr) (ac1 : Nat) (da2 : Option Addr) (dc2 : Nat) (aa2 : Option Addr) (ac2 : Nat), EAt W E da1 dc1 aa1 ac1 → EAt W E da2 dc2 aa2 ac2 → Calls Try.prog 16 #[.agg #[.int .i64 E.log, .int .i64 E.next, .int .u64 (E.seq : Int), .slice da1 E.drop.length dc1, .slice aa1 E.add.length ac1], .agg #[.int .i64 E.log, .int .i64 E.next, .int .u64 (E.seq : Int), .slice da2 E.drop.length dc2, .slice aa2 E.add.length ac2]] W fun r w' => r = .returned (.bool true) ∧ Fr [] W w') := hid (fun W da1 dc1 aa1 ac1 da2 dc2 aa2 ac2 h1 h2 => editSame_c W h1 h2)
      obtain ⟨wl, hwl⟩ : ∃ x, x = E.log := ⟨_, rfl⟩
      obtain ⟨wn, hwn⟩ : ∃ x, x = E.next := ⟨_, rfl⟩
      obtain ⟨ws, hws⟩ : ∃ x, x = E.seq := ⟨_, rfl⟩
      obtain ⟨wd, hwd⟩ : ∃ x, x = E.drop.length := ⟨_, rfl⟩
      obtain ⟨wa, hwa⟩ : ∃ x, x = E.add.length := ⟨_, rfl⟩
      rw [← hwl, ← hwn, ← hws, ← hwd, ← hwa] at WA WB ES
      clear hwl hwn hws hwd hwa
      have A7 := hid (WA.out W7 (F0.out.trans F7.out))
      go_upto_region 8 with (go_at_call 11; refine A7.out.mono ?_; rintro r W9 ⟨da1, dc1, aa1, ac1, rfl, e9, f9⟩; have E9 := hid e9; have G79 := hid f9; clear e9 f9)
      clear z0 z1 z2 z3 z4 z5 z6 z7 A7 WA
      obtain ⟨Q9, hQ9⟩ : ∃ Q9, Q9 = W9.heap.size := ⟨_, rfl⟩
      obtain ⟨W10, hW10⟩ : ∃ W10, W10 = W9.alloc (.cells #[.int .i64 wl, .int .i64 wn, .int .u64 (ws : Int), .slice da1 wd dc1, .slice aa1 wa ac1] 30) := ⟨_, rfl⟩
      have f10 : Fr [] W9 W10 := by rw [hW10]; exact (Fr.refl _ _).alloc _
      have N10 : Hid (W10.heap[Q9]? = some (.cells #[.int .i64 wl, .int .i64 wn, .int .u64 (ws : Int), .slice da1 wd dc1, .slice aa1 wa ac1] 30 (0, 0))) := hid (by rw [hW10, hQ9]; exact blk_new _ _)
      have E10 := hid (E9.out.fr f10)
      have G710 := hid (G79.out.trans f10)
      have F10 := hid (F7.out.trans G710.out)
      rw [← hW10, ← hQ9]
      clear hW10 hQ9 f10 E9 G79
      obtain ⟨z0, z1, z2, z3, z4, z5, z6, z7⟩ := CV.out W10 F10.out
      have A10 := hid (WB.out W10 (F0.out.trans F10.out))
      go_upto_region 9 with (go_at_call 12; refine A10.out.mono ?_; rintro r W11 ⟨da2, dc2, aa2, ac2, rfl, e9, f9⟩; have E11 := hid e9; have G1011 := hid f9; clear e9 f9)
      clear z0 z1 z2 z3 z4 z5 z6 z7 A10 WB
      obtain ⟨Q11, hQ11⟩ : ∃ Q11, Q11 = W11.heap.size := ⟨_, rfl⟩
      obtain ⟨W8, hW8⟩ : ∃ W8, W8 = W11.alloc (.cells #[.int .i64 wl, .int .i64 wn, .int .u64 (ws : Int), .slice da2 wd dc2, .slice aa2 wa ac2] 30) := ⟨_, rfl⟩
      have f8 : Fr [] W11 W8 := by rw [hW8]; exact (Fr.refl _ _).alloc _
      have N8 : Hid (W8.heap[Q11]? = some (.cells #[.int .i64 wl, .int .i64 wn, .int .u64 (ws : Int), .slice da2 wd dc2, .slice aa2 wa ac2] 30 (0, 0))) := hid (by rw [hW8, hQ11]; exact blk_new _ _)
      have E8 := hid (E11.out.fr f8)
      have G108 := hid (G1011.out.trans f8)
      have F8 := hid (F10.out.trans G108.out)
      rw [← hW8, ← hQ11]
      clear hW8 hQ11 f8 E11 G1011
      have G58 := hid (G57.out.trans (G710.out.trans G108.out))
      have C5 : Hid (∀ W, Fr [] W8 W → _) := hid (fun W f => vn_cells ((G58.out.trans f).at N5.out (by simp)))
      have C7 : Hid (∀ W, Fr [] W8 W → _) := hid (fun W f => vn_cells (((G710.out.trans G108.out).trans f).at N7.out (by simp)))
      have C9 : Hid (∀ W, Fr [] W8 W → _) := hid (fun W f => ed5_cells ((G108.out.trans f).at N10.out (by simp)))
      have C11 : Hid (∀ W, Fr [] W8 W → _) := hid (fun W f => ed5_cells (f.at N8.out (by simp)))
      have CV8 : Hid (∀ W, Fr [] W8 W → _) := hid (fun W f => CV.out W (F8.out.trans f))
      have VC : Hid (∀ W, Fr [] W8 W → Calls Try.prog 13 #[.agg #[.int .i64 a0, .int .i64 a1, .int .u64 (a2 : Int), .slice (kd 0) (kl 0) (kc 0), .slice (kd 1) (kl 1) (kc 1), .slice (kd 2) (kl 2) (kc 2), .slice (kd 3) (kl 3) (kc 3), .slice (kd 4) (kl 4) (kc 4)], .agg #[.int .i64 b0, .int .i64 b1, .int .u64 (b2 : Int), .slice (md 0) (ml 0) (mc 0), .slice (md 1) (ml 1) (mc 1), .slice (md 2) (ml 2) (mc 2), .slice (md 3) (ml 3) (mc 3), .slice (md 4) (ml 4) (mc 4)]] W fun r w' => r = .returned (.bool true) ∧ Fr [] W w') := hid (fun W f => version2_c W R4.out R6.out (V5.out.fr (G58.out.trans f)) (V7.out.fr ((G710.out.trans G108.out).trans f)))
      have CKK : Hid (∀ W, Fr [] W8 W → Calls Try.prog 14 #[.agg #[.int .i64 vl, .int .i64 vn, .int .u64 (vs : Int), .slice (ad 0) (ln 0) (cp 0), .slice (ad 1) (ln 1) (cp 1), .slice (ad 2) (ln 2) (cp 2), .slice (ad 3) (ln 3) (cp 3), .slice (ad 4) (ln 4) (cp 4)]] W fun r w' => r = .returned (.int .i64 C) ∧ Fr [] W w') := hid (fun W f => CK.out W (F0.out.trans (F8.out.trans f)))
      have RCKK : Hid (∀ W, Fr [] W8 W → Calls Try.prog 15 #[.agg #[.int .i64 vl, .int .i64 vn, .int .u64 (vs : Int), .slice (ad 0) (ln 0) (cp 0), .slice (ad 1) (ln 1) (cp 1), .slice (ad 2) (ln 2) (cp 2), .slice (ad 3) (ln 3) (cp 3), .slice (ad 4) (ln 4) (cp 4)]] W fun r w' => r = .returned (.int .i64 C) ∧ Fr [] W w') := hid (fun W f => RCK.out W (F0.out.trans (F8.out.trans f)))
      have EC : Hid (∀ W, Fr [] W8 W → Calls Try.prog 16 #[.agg #[.int .i64 wl, .int .i64 wn, .int .u64 (ws : Int), .slice da1 wd dc1, .slice aa1 wa ac1], .agg #[.int .i64 wl, .int .i64 wn, .int .u64 (ws : Int), .slice da2 wd dc2, .slice aa2 wa ac2]] W fun r w' => r = .returned (.bool true) ∧ Fr [] W w') := hid (fun W f => ES.out W da1 dc1 aa1 ac1 da2 dc2 aa2 ac2 (E10.out.fr (G108.out.trans f)) (E8.out.fr f))
      clear R4 R6 V5 V7 E10 E8 G58 G710 G108 G57 N5 N7 N10 N8 ES CV CE N0 N1 CK RCK F5 F7 F10
      refine wp_region_held_drew (S := fun w' => Fr [] W8 w') (by kernel_rfl) (Fr.refl [] W8).drew (fun hS => ?_)
      refine wpAnyH_take (i := 0) (v := .int .i64 x) rfl (by kernel_rfl) (by kernel_rfl) (by kernel_rfl) (fun _ _ _ h => h) (.inl ⟨by kernel_rfl, fun wx _ => by go_simp⟩) hS ?_
      simp only [Act.put, List.getElem_toArray, List.getElem_cons_zero, List.set_cons_succ, List.set_cons_zero, List.setIfInBounds_toArray]
      refine wpAnyH_take (i := 1) (v := .int .i64 y) rfl (by kernel_rfl) (by kernel_rfl) (by kernel_rfl) (fun _ _ _ h => h) (.inl ⟨by kernel_rfl, fun wx _ => by go_simp⟩) hS ?_
      simp only [Act.put, List.getElem_toArray, List.getElem_cons_succ, List.getElem_cons_zero, List.set_cons_succ, List.set_cons_zero, List.setIfInBounds_toArray]
      refine wpAnyH_take (i := 2) (v := .bool (x == y)) rfl (by kernel_rfl) (by kernel_rfl) (by kernel_rfl) (fun _ _ _ h => h) (.inl ⟨by kernel_rfl, fun wx _ => by go_simp⟩) hS ?_
      simp only [Act.put, List.getElem_toArray, List.getElem_cons_succ, List.getElem_cons_zero, List.set_cons_succ, List.set_cons_zero, List.setIfInBounds_toArray]
      rw [hxy]
      refine wpAnyH_take (i := 3) (v := .bool true) rfl (by kernel_rfl) (by kernel_rfl) (by kernel_rfl) (fun _ _ _ h => h) (.inl ⟨by kernel_rfl, fun wx _ => by go_simp⟩) hS ?_
      simp only [Act.put, List.getElem_toArray, List.getElem_cons_succ, List.getElem_cons_zero, List.set_cons_succ, List.set_cons_zero, List.setIfInBounds_toArray]
      refine wpAnyH_take (i := 4) (v := .agg #[.int .i64 a0, .int .i64 a1, .int .u64 (a2 : Int), .slice (kd 0) (kl 0) (kc 0), .slice (kd 1) (kl 1) (kc 1), .slice (kd 2) (kl 2) (kc 2), .slice (kd 3) (kl 3) (kc 3), .slice (kd 4) (kl 4) (kc 4)]) rfl (by kernel_rfl) (by kernel_rfl) (by kernel_rfl) (fun _ _ _ h => h) (.inl ⟨by kernel_rfl, fun wx hX => by obtain ⟨s0, s1, s2, s3, s4, s5, s6, s7⟩ := C5.out wx hX; go_simp⟩) hS ?_
      simp only [Act.put, List.getElem_toArray, List.getElem_cons_succ, List.getElem_cons_zero, List.set_cons_succ, List.set_cons_zero, List.setIfInBounds_toArray]
      refine wpAnyH_take (i := 5) (v := .agg #[.int .i64 b0, .int .i64 b1, .int .u64 (b2 : Int), .slice (md 0) (ml 0) (mc 0), .slice (md 1) (ml 1) (mc 1), .slice (md 2) (ml 2) (mc 2), .slice (md 3) (ml 3) (mc 3), .slice (md 4) (ml 4) (mc 4)]) rfl (by kernel_rfl) (by kernel_rfl) (by kernel_rfl) (fun _ _ _ h => h) (.inl ⟨by kernel_rfl, fun wx hX => by obtain ⟨s0, s1, s2, s3, s4, s5, s6, s7⟩ := C7.out wx hX; go_simp⟩) hS ?_
      simp only [Act.put, List.getElem_toArray, List.getElem_cons_succ, List.getElem_cons_zero, List.set_cons_succ, List.set_cons_zero, List.setIfInBounds_toArray]
      clear hS
      refine wpAnyH_ready (rs := [6]) (by kernel_rfl) (by simp) ?_
      refine AllReadyH.cons rfl (fun K hK => ?_) AllReadyH.nil
      go_simp
      refine (VC.out _ (Fr.refl [] W8).drew).mono ?_
      rintro r V1 ⟨rfl, fV1⟩
      have FV1 := hid (((Fr.refl [] W8).drew).trans fV1)
      clear fV1
      refine hK.out _ _ FV1.out (fun hS => ?_)
      clear hK K
      refine wpAnyH_take (i := 7) (v := .bool true) rfl (by kernel_rfl) (by kernel_rfl) (by kernel_rfl) (fun _ _ _ h => h) (.inl ⟨by kernel_rfl, fun wx _ => by go_simp⟩) hS ?_
      simp only [Act.put, List.getElem_toArray, List.getElem_cons_succ, List.getElem_cons_zero, List.set_cons_succ, List.set_cons_zero, List.setIfInBounds_toArray]
      refine wpAnyH_take (i := 8) (v := .bool true) rfl (by kernel_rfl) (by kernel_rfl) (by kernel_rfl) (fun _ _ _ h => h) (.inl ⟨by kernel_rfl, fun wx _ => by go_simp⟩) hS ?_
      simp only [Act.put, List.getElem_toArray, List.getElem_cons_succ, List.getElem_cons_zero, List.set_cons_succ, List.set_cons_zero, List.setIfInBounds_toArray]
      refine wpAnyH_take (i := 9) (v := .agg #[.int .i64 vl, .int .i64 vn, .int .u64 (vs : Int), .slice (ad 0) (ln 0) (cp 0), .slice (ad 1) (ln 1) (cp 1), .slice (ad 2) (ln 2) (cp 2), .slice (ad 3) (ln 3) (cp 3), .slice (ad 4) (ln 4) (cp 4)]) rfl (by kernel_rfl) (by kernel_rfl) (by kernel_rfl) (fun _ _ _ h => h) (.inl ⟨by kernel_rfl, fun wx hX => by obtain ⟨s0, s1, s2, s3, s4, s5, s6, s7⟩ := CV8.out wx hX; go_simp⟩) hS ?_
      simp only [Act.put, List.getElem_toArray, List.getElem_cons_succ, List.getElem_cons_zero, List.set_cons_succ, List.set_cons_zero, List.setIfInBounds_toArray]
      refine wpAnyH_take (i := 11) (v := .agg #[.int .i64 vl, .int .i64 vn, .int .u64 (vs : Int), .slice (ad 0) (ln 0) (cp 0), .slice (ad 1) (ln 1) (cp 1), .slice (ad 2) (ln 2) (cp 2), .slice (ad 3) (ln 3) (cp 3), .slice (ad 4) (ln 4) (cp 4)]) rfl (by kernel_rfl) (by kernel_rfl) (by kernel_rfl) (fun _ _ _ h => h) (.inl ⟨by kernel_rfl, fun wx hX => by obtain ⟨s0, s1, s2, s3, s4, s5, s6, s7⟩ := CV8.out wx hX; go_simp⟩) hS ?_
      simp only [Act.put, List.getElem_toArray, List.getElem_cons_succ, List.getElem_cons_zero, List.set_cons_succ, List.set_cons_zero, List.setIfInBounds_toArray]
      clear hS
      refine wpAnyH_ready (rs := [10]) (by kernel_rfl) (by simp) ?_
      refine AllReadyH.cons rfl (fun K hK => ?_) AllReadyH.nil
      go_simp
      refine (CKK.out _ FV1.out).mono ?_
      rintro r V2 ⟨rfl, fV2⟩
      have FV2 := hid ((FV1.out).trans fV2)
      clear fV2
      refine hK.out _ _ FV2.out (fun hS => ?_)
      clear hK K
      clear hS
      refine wpAnyH_ready (rs := [12]) (by kernel_rfl) (by simp) ?_
      refine AllReadyH.cons rfl (fun K hK => ?_) AllReadyH.nil
      go_simp
      refine (RCKK.out _ FV2.out).mono ?_
      rintro r V3 ⟨rfl, fV3⟩
      have FV3 := hid ((FV2.out).trans fV3)
      clear fV3
      refine hK.out _ _ FV3.out (fun hS => ?_)
      clear hK K
      refine wpAnyH_take (i := 13) (v := .bool (C == C)) rfl (by kernel_rfl) (by kernel_rfl) (by kernel_rfl) (fun _ _ _ h => h) (.inl ⟨by kernel_rfl, fun wx _ => by go_simp⟩) hS ?_
      simp only [Act.put, List.getElem_toArray, List.getElem_cons_succ, List.getElem_cons_zero, List.set_cons_succ, List.set_cons_zero, List.setIfInBounds_toArray]
      rw [hcc]
      refine wpAnyH_take (i := 14) (v := .bool true) rfl (by kernel_rfl) (by kernel_rfl) (by kernel_rfl) (fun _ _ _ h => h) (.inl ⟨by kernel_rfl, fun wx _ => by go_simp⟩) hS ?_
      simp only [Act.put, List.getElem_toArray, List.getElem_cons_succ, List.getElem_cons_zero, List.set_cons_succ, List.set_cons_zero, List.setIfInBounds_toArray]
      refine wpAnyH_take (i := 15) (v := .bool true) rfl (by kernel_rfl) (by kernel_rfl) (by kernel_rfl) (fun _ _ _ h => h) (.inl ⟨by kernel_rfl, fun wx _ => by go_simp⟩) hS ?_
      simp only [Act.put, List.getElem_toArray, List.getElem_cons_succ, List.getElem_cons_zero, List.set_cons_succ, List.set_cons_zero, List.setIfInBounds_toArray]
      refine wpAnyH_take (i := 16) (v := .int .i64 C) rfl (by kernel_rfl) (by kernel_rfl) (by kernel_rfl) (fun _ _ _ h => h) (.inl ⟨by kernel_rfl, fun wx _ => by go_simp⟩) hS ?_
      simp only [Act.put, List.getElem_toArray, List.getElem_cons_succ, List.getElem_cons_zero, List.set_cons_succ, List.set_cons_zero, List.setIfInBounds_toArray]
      refine wpAnyH_take (i := 17) (v := .int .i64 C) rfl (by kernel_rfl) (by kernel_rfl) (by kernel_rfl) (fun _ _ _ h => h) (.inl ⟨by kernel_rfl, fun wx _ => by go_simp⟩) hS ?_
      simp only [Act.put, List.getElem_toArray, List.getElem_cons_succ, List.getElem_cons_zero, List.set_cons_succ, List.set_cons_zero, List.setIfInBounds_toArray]
      refine wpAnyH_take (i := 18) (v := .bool (C == C)) rfl (by kernel_rfl) (by kernel_rfl) (by kernel_rfl) (fun _ _ _ h => h) (.inl ⟨by kernel_rfl, fun wx _ => by go_simp⟩) hS ?_
      simp only [Act.put, List.getElem_toArray, List.getElem_cons_succ, List.getElem_cons_zero, List.set_cons_succ, List.set_cons_zero, List.setIfInBounds_toArray]
      rw [hcc]
      refine wpAnyH_take (i := 19) (v := .bool true) rfl (by kernel_rfl) (by kernel_rfl) (by kernel_rfl) (fun _ _ _ h => h) (.inl ⟨by kernel_rfl, fun wx _ => by go_simp⟩) hS ?_
      simp only [Act.put, List.getElem_toArray, List.getElem_cons_succ, List.getElem_cons_zero, List.set_cons_succ, List.set_cons_zero, List.setIfInBounds_toArray]
      refine wpAnyH_take (i := 20) (v := .bool true) rfl (by kernel_rfl) (by kernel_rfl) (by kernel_rfl) (fun _ _ _ h => h) (.inl ⟨by kernel_rfl, fun wx _ => by go_simp⟩) hS ?_
      simp only [Act.put, List.getElem_toArray, List.getElem_cons_succ, List.getElem_cons_zero, List.set_cons_succ, List.set_cons_zero, List.setIfInBounds_toArray]
      refine wpAnyH_take (i := 21) (v := .agg #[.int .i64 wl, .int .i64 wn, .int .u64 (ws : Int), .slice da1 wd dc1, .slice aa1 wa ac1]) rfl (by kernel_rfl) (by kernel_rfl) (by kernel_rfl) (fun _ _ _ h => h) (.inl ⟨by kernel_rfl, fun wx hX => by obtain ⟨s0, s1, s2, s3, s4⟩ := C9.out wx hX; go_simp⟩) hS ?_
      simp only [Act.put, List.getElem_toArray, List.getElem_cons_succ, List.getElem_cons_zero, List.set_cons_succ, List.set_cons_zero, List.setIfInBounds_toArray]
      refine wpAnyH_take (i := 22) (v := .agg #[.int .i64 wl, .int .i64 wn, .int .u64 (ws : Int), .slice da2 wd dc2, .slice aa2 wa ac2]) rfl (by kernel_rfl) (by kernel_rfl) (by kernel_rfl) (fun _ _ _ h => h) (.inl ⟨by kernel_rfl, fun wx hX => by obtain ⟨s0, s1, s2, s3, s4⟩ := C11.out wx hX; go_simp⟩) hS ?_
      simp only [Act.put, List.getElem_toArray, List.getElem_cons_succ, List.getElem_cons_zero, List.set_cons_succ, List.set_cons_zero, List.setIfInBounds_toArray]
      clear hS
      refine wpAnyH_ready (rs := [23]) (by kernel_rfl) (by simp) ?_
      refine AllReadyH.cons rfl (fun K hK => ?_) AllReadyH.nil
      go_simp
      refine (EC.out _ FV3.out).mono ?_
      rintro r V4 ⟨rfl, fV4⟩
      have FV4 := hid ((FV3.out).trans fV4)
      clear fV4
      refine hK.out _ _ FV4.out (fun hS => ?_)
      clear hK K
      refine wpAnyH_take (i := 24) (v := .bool true) rfl (by kernel_rfl) (by kernel_rfl) (by kernel_rfl) (fun _ _ _ h => h) (.inl ⟨by kernel_rfl, fun wx _ => by go_simp⟩) hS ?_
      simp only [Act.put, List.getElem_toArray, List.getElem_cons_succ, List.getElem_cons_zero, List.set_cons_succ, List.set_cons_zero, List.setIfInBounds_toArray]
      refine wpAnyH_take (i := 25) (v := .bool true) rfl (by kernel_rfl) (by kernel_rfl) (by kernel_rfl) (fun _ _ _ h => h) (.inl ⟨by kernel_rfl, fun wx _ => by go_simp⟩) hS ?_
      simp only [Act.put, List.getElem_toArray, List.getElem_cons_succ, List.getElem_cons_zero, List.set_cons_succ, List.set_cons_zero, List.setIfInBounds_toArray]
      clear hS
      refine wpAnyH_done (by kernel_rfl) ?_ _
      go_wp2_with fail
      go_ret
      exact ⟨rfl, (F0.out.trans F8.out).trans FV4.out⟩
    · have SM0 : Hid (∀ W, Calls Try.prog 8 #[.agg #[.int .i64 vl, .int .i64 vn, .int .u64 (vs : Int), .slice (ad 0) (ln 0) (cp 0), .slice (ad 1) (ln 1) (cp 1), .slice (ad 2) (ln 2) (cp 2), .slice (ad 3) (ln 3) (cp 3), .slice (ad 4) (ln 4) (cp 4)]] W fun r w' => r = .returned (.bool false) ∧ Fr [] W w') := hid (fun W => (SMC.out W).mono fun r w' h => by
        obtain ⟨bb, h1, h2⟩ := h.out
        cases bb with
        | true => exact absurd (h2.1 rfl) hs
        | false => exact ⟨h1, h.fr⟩)
      clear SMC FW hs
      go_wp2_with (first
        | (go_at_call 7; refine FW1.out.mono ?_; rintro r W2 ⟨rfl, f2⟩; have F2 := hid (F1.out.trans f2); obtain ⟨z0, z1, z2, z3, z4, z5, z6, z7⟩ := CV.out W2 (F1.out.trans f2); clear f2)
        | (go_at_call 8; refine (SM0.out _).mono ?_; rintro r W3 ⟨rfl, f3⟩; have F3 := hid (F2.out.trans f3); clear f3))
      go_ret
      exact ⟨rfl, F0.out.trans F3.out⟩
  · have FW0 : Hid (Calls Try.prog 7 #[.agg #[.int .i64 el, .int .i64 en, .int .u64 (es : Int), .slice da dl dc, .slice aa al ac]] W1 fun r w' => r = .returned (.bool false) ∧ Fr [] W1 w') := hid (by
      have := FW.out W1
      have e1 : (decide (dl ≤ 30) && decide (al ≤ 30)) = false := by rw [Bool.eq_false_iff]; intro h; simp at h; exact hfew h
      rw [e1] at this
      exact this)
    clear FW SMC hfew
    go_wp2_with (go_at_call 7; refine FW0.out.mono ?_; rintro r W2 ⟨rfl, f2⟩; have F2 := hid (F1.out.trans f2); clear f2)
    go_ret
    exact ⟨rfl, F0.out.trans F2.out⟩
end Go.Proofs.Ytckdcaegnbgomaa
