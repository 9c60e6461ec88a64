/-
  ManifestBack walked.
-/
import Derived.Test.YtmhhdlcdfgahkaaDoorJ37
import Derived.Test.YtmhhdlcdfgahkaaDoorDM6
import Derived.Test.YtmhhdlcdfgahkaaDoorEI2
namespace Go.Proofs.YtmhhdlcdfgahkaaDoor
open Go.ChangeShapes Go.WideShapes Go.ChangeAt Go.RowKit

/-- What Encode answers, in one form. -/
structure EFm (w w' : World) (e : Ed) (a : Option Addr) (n c : Nat) (x : Int) : Prop where
  fr : Fr [] w w'
  out : (okE e = true ∧ x = 0 ∧ n = (encE e).length ∧ w'.ownsRow w.heap.size 5 1 (.slice a n c) (encE e).length (bv (encE e))) ∨ (okE e = false ∧ x = 90)
theorem enc_form (w : World) {e : Ed} {da aa : Option Addr} {dc ac : Nat} (h : EAt w e da dc aa ac) (hd1 : e.drop.length ≤ 100000) (ha1 : e.add.length ≤ 100000) :
    Calls Tryd.prog 6 #[.agg #[.int .i64 e.log, .int .i64 e.next, .int .u64 (e.seq : Int), .slice da e.drop.length dc, .slice aa e.add.length ac]] w fun r w' => ∃ a n c x, r = .returned (.tuple #[.slice a n c, .int .i64 x]) ∧ EFm w w' e a n c x := by
  cases hk : okE e with
  | true =>
    refine (enc_ok2 w h hk hd1 ha1).mono ?_
    rintro r w' ⟨v', rfl, o, f⟩
    obtain ⟨a, c, rfl, _⟩ := ownsRow_slice o
    exact ⟨a, _, c, 0, rfl, f, .inl ⟨hk, rfl, rfl, o⟩⟩
  | false =>
    refine (enc_bad w h hk).mono ?_
    rintro r w' ⟨rfl, f⟩
    exact ⟨none, 0, 0, 90, rfl, f, .inr ⟨hk, rfl⟩⟩
/-- What Decode answers, in one form. -/
structure DFm (w w' : World) (b : List Nat) (lg nx : Int) (sq : Nat) (da : Option Addr) (dl dc : Nat) (aa : Option Addr) (al ac : Nat) (x : Int) : Prop where
  fr : Fr [] w w'
  out : (∃ e : Ed, decO b = some e ∧ x = 0 ∧ (lg = e.log ∧ nx = e.next ∧ sq = e.seq ∧ dl = e.drop.length ∧ al = e.add.length) ∧ DO w' w.heap.size (.slice da dl dc) e.drop ∧ AO w' w.heap.size (.slice aa al ac) e.add) ∨ (decO b = none ∧ x = 90)
theorem dec_form (w : World) {a : Option Addr} {L cc : Nat} {b : List Nat} (hr : Rd w (.slice a L cc) (bv b)) (hb : By b) (hL : b.length = L) (hl : L ≤ 50000) :
    Calls Tryd.prog 20 #[.slice a L cc] w fun r w' => ∃ lg nx sq da dl dc aa al ac x, r = .returned (.tuple #[.agg #[.int .i64 lg, .int .i64 nx, .int .u64 ((sq : Nat) : Int), .slice da dl dc, .slice aa al ac], .int .i64 x]) ∧ DFm w w' b lg nx sq da dl dc aa al ac x := by
  refine (decM_c w hr hb hL hl).mono ?_
  rintro r w' ⟨h, f⟩
  cases hd : decO b with
  | none =>
    rw [hd] at h
    exact ⟨0, 0, 0, none, 0, 0, none, 0, 0, 90, h, f, .inr ⟨hd, rfl⟩⟩
  | some e =>
    rw [hd] at h
    obtain ⟨da, dc, aa, ac, h1, h2, h3⟩ := h
    exact ⟨e.log, e.next, e.seq, da, _, dc, aa, _, ac, 0, h1, f, .inl ⟨e, hd, rfl, ⟨rfl, rfl, rfl, rfl, rfl⟩, h2, h3⟩⟩
/-- What Whole answers, in one form. -/
structure WFm (w w' : World) (v : Vn) (a0 a1 a2 : Int) (aa : Option Addr) (al ac : Nat) (c : Int) : Prop where
  fr : Fr [] w w'
  out : c ≠ 0 ∨ (c = 0 ∧ chkV v = 0 ∧ (a0 = v.log ∧ a1 = v.next ∧ a2 = (v.seq : Int)) ∧ al = (allA v.lv 5).length ∧ RdA w' (.slice aa al ac) (allA v.lv 5))
theorem WhOut.form {w w' : World} {v : Vn} {r : Ending} (h : WhOut w w' v r) : ∃ a0 a1 a2 aa al ac c, r = .returned (.tuple #[.agg #[.int .i64 a0, .int .i64 a1, .int .u64 a2, .slice none 0 0, .slice aa al ac], .int .i64 c]) ∧ WFm w w' v a0 a1 a2 aa al ac c := by
  rcases h.out with ⟨h1, rfl⟩ | ⟨h1, aa, al, ac, rfl, h2, h3⟩
  · exact ⟨0, 0, 0, none, 0, 0, _, rfl, h.fr, .inl h1⟩
  · exact ⟨_, _, _, aa, al, ac, 0, rfl, h.fr, .inr ⟨rfl, h1, ⟨rfl, rfl, rfl⟩, h2, h3⟩⟩
theorem decO_ok {b : List Nat} {e : Ed} (h : decO b = some e) : okE e = true := by
  unfold decO at h
  by_cases hc : (adS b).2 = some [] ∧ okE (edS b (drS b).1 (adS b).1) = true
  · rw [if_pos hc] at h
    simp only [Option.some.injEq] at h
    rw [← h]; exact hc.2
  · rw [if_neg hc] at h; cases h
theorem by_app {a b : List Nat} (h : By (a ++ b)) : By a ∧ By b := ⟨fun n hn => h n (by simp [hn]), fun n hn => h n (by simp [hn])⟩
theorem by_flatI {α : Type} {f : α → List Nat} : ∀ (l : List α), By (l.flatMap f) → ∀ x ∈ l, By (f x)
  | [], _, x, hx => by cases hx
  | y :: l, h, x, hx => by
    rw [List.flatMap_cons] at h
    rcases List.mem_cons.1 hx with rfl | hx
    · exact (by_app h).1
    · exact by_flatI l (by_app h).2 x hx
/-- What was read has bytes for keys, and isn't longer than what it was read from. -/
theorem dec_bys {b : List Nat} {e : Ed} (hb : By b) (h : decO b = some e) : (∀ p ∈ e.add, (By p.2.least ∧ p.2.least.length ≤ 140737488355328) ∧ By p.2.most ∧ p.2.most.length ≤ 140737488355328) ∧ e.drop.length ≤ b.length ∧ e.add.length ≤ b.length := by
  have he := enc_decO hb h
  have hok := decO_ok h
  rw [← he] at hb ⊢
  have hb2 := hb
  unfold encE at hb2
  have h1 := by_flatI _ (by_app (by_app (by_app (by_app (by_app (by_app hb2).2).2).2).2).2).2
  refine ⟨fun p hp => ?_, ?_, ?_⟩
  · have h2 := h1 p hp
    unfold encA at h2
    have h3 := (by_app (by_app (by_app (by_app h2).2).2).2).2
    unfold okE at hok
    simp only [Bool.and_eq_true] at hok
    have h4 := List.all_eq_true.1 hok.2.1 p hp
    unfold okA at h4
    simp only [Bool.and_eq_true] at h4
    have h5 := okF_len h4.2
    exact ⟨⟨(by_app h3).1, by omega⟩, (by_app (by_app h3).2).2, by omega⟩
  · have h2 := flat_len9 encD_pos e.drop
    unfold encE
    simp only [List.length_append]
    omega
  · have h2 := flat_len9 encA_pos e.add
    unfold encE
    simp only [List.length_append]
    omega
/-- An edit read: in memory. -/
theorem dec_eat {w' : World} {B : Nat} {b : List Nat} {e : Ed} {da aa : Option Addr} {dc ac : Nat} (hb : By b) (hl : b.length ≤ 140737488355328) (h : decO b = some e) (h1 : DO w' B (.slice da e.drop.length dc) e.drop) (h2 : AO w' B (.slice aa e.add.length ac) e.add) : EAt w' e da dc aa ac := by
  obtain ⟨q1, q2, q3⟩ := dec_bys hb h
  exact ⟨h1.rd, h2.rd (Nat.le_refl _) q1, by omega, by omega⟩
end Go.Proofs.YtmhhdlcdfgahkaaDoor
