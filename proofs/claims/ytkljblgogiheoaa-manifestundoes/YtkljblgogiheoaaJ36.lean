/-
  Package manifest: Decode.
-/
import Derived.Test.YtkljblgogiheoaaDM4
import Derived.Test.YtkljblgogiheoaaEG
import Derived.Test.YtkljblgogiheoaaEQ
import Derived.Deep.CutRange
import Derived.Test.YtkljblgogiheoaaJ06
namespace Go.Proofs.Ytkljblgogiheoaa
open Go.ChangeShapes Go.WideShapes Go.ChangeAt Go.RowKit

theorem cutS_by {n : Nat} {s : Option (List Nat)} (hb : ∀ l, s = some l → By l) : By (cutS n s).1 ∧ ∀ M, (∀ l, s = some l → l.length ≤ M) → (cutS n s).1.length ≤ M := by
  rcases s with _ | l
  · exact ⟨fun x hx => (by cases hx), fun M _ => Nat.zero_le _⟩
  · exact ⟨(hb l rfl).take n, fun M h => by have := h l rfl; show (l.take n).length ≤ M; rw [List.length_take]; omega⟩
theorem Sm.len {s s' : Option (List Nat)} (h : Sm s s') {M : Nat} (hl : ∀ l, s = some l → l.length ≤ M) : ∀ l, s' = some l → l.length ≤ M := fun l' e => by
  obtain ⟨l, h1, h2, _⟩ := h l' e
  have := hl l h1
  omega
/-- Keys that were taken are bytes, and not too many. -/
theorem plS_by {s : Option (List Nat)} (hb : ∀ l, s = some l → By l) {M : Nat} (hl : ∀ l, s = some l → l.length ≤ M) : (By (plS s).1.2.least ∧ (plS s).1.2.least.length ≤ M) ∧ By (plS s).1.2.most ∧ (plS s).1.2.most.length ≤ M := by
  have h1 := nmS_sh hb
  have b1 := h1.sm.by hb
  have h2 := nmS_sh b1
  have b2 := h2.sm.by b1
  have h3 := nmS_sh b2
  have b3 := h3.sm.by b2
  have l3 := h3.sm.len (h2.sm.len (h1.sm.len hl))
  have h4 := kyS_sh b3
  have b4 := h4.sm.by b3
  have l4 := h4.sm.len l3
  have c3 := ctS_sh b3
  have c4 := ctS_sh b4
  exact ⟨⟨(cutS_by (c3.sm.by b3)).1, (cutS_by (c3.sm.by b3)).2 M (c3.sm.len l3)⟩, (cutS_by (c4.sm.by b4)).1, (cutS_by (c4.sm.by b4)).2 M (c4.sm.len l4)⟩
theorem sevP_by {M : Nat} : ∀ (n : Nat) (s : Option (List Nat)), (∀ l, s = some l → By l) → (∀ l, s = some l → l.length ≤ M) → ∀ p ∈ (sevS plS n s).1, (By p.2.least ∧ p.2.least.length ≤ M) ∧ By p.2.most ∧ p.2.most.length ≤ M
  | 0, _, _, _, p, hp => by cases hp
  | _ + 1, none, _, _, p, hp => by cases hp
  | n + 1, some l, hb, hl, p, hp => by
    have h := plS_sh hb
    rcases List.mem_cons.1 (show p ∈ (plS (some l)).1 :: (sevS plS n (plS (some l)).2).1 from hp) with rfl | hp
    · exact plS_by hb hl
    · exact sevP_by n _ (h.sm.by hb) (h.sm.len hl) p hp
theorem sevS_len {α : Type} (f : Option (List Nat) → α × Option (List Nat)) : ∀ (n : Nat) (s : Option (List Nat)), (sevS f n s).1.length ≤ n
  | 0, _ => Nat.le_refl _
  | _ + 1, none => Nat.zero_le _
  | n + 1, some l => by
    have := sevS_len f n (f (some l)).2
    show ((f (some l)).1 :: (sevS f n (f (some l)).2).1).length ≤ n + 1
    rw [List.length_cons]; omega
theorem DO.rd {W : World} {B : Nat} {v : Value} {gs : List (Int × Int)} (h : DO W B v gs) : RdD W v gs := by
  have h' : W.ownsRow B 59 2 v gs.length (cellsD gs) := h
  rcases h'.2 with ⟨rfl, h0⟩ | ⟨g, cap, cur, rfl, _, h3, h4, h5⟩
  · exact ⟨none, 0, by rw [h0], fun h => by omega⟩
  · refine ⟨_, cap, rfl, fun _ => ⟨g, 0, rfl, fun j x hj => ?_⟩⟩
    obtain ⟨c0, c1⟩ := cellsD_at hj
    have d0 := h'.cells rfl _ _ c0
    have d1 := h'.cells rfl _ _ c1
    rw [Addr.add_lit] at d0 d1
    exact ⟨d0, by rw [show 0 + j * 2 + 1 = 0 + (j * 2 + 1) by omega]; exact d1⟩
theorem AO.rd {W : World} {B : Nat} {v : Value} {ps : List (Int × Fl)} (h : AO W B v ps) {M : Nat} (hM : M ≤ 140737488355328) (hb : ∀ p ∈ ps, (By p.2.least ∧ p.2.least.length ≤ M) ∧ By p.2.most ∧ p.2.most.length ≤ M) : RdA W v ps := by
  obtain ⟨cs, o, h2⟩ := h
  rcases o.2 with ⟨rfl, h0⟩ | ⟨g, cap, cur, rfl, _, h3, h4, h5⟩
  · exact ⟨none, 0, by rw [h0], fun h => by omega⟩
  · refine ⟨_, cap, rfl, fun _ => ⟨g, 0, rfl, fun j p hj => ?_⟩⟩
    obtain ⟨la, lc, ma, mc, c0, c1, c2, c3, c4, q0, q1⟩ := h2 j p hj
    obtain ⟨⟨b0, l0⟩, b1, l1⟩ := hb p (List.mem_of_getElem? hj)
    have d0 := o.cells rfl _ _ c0
    have d1 := o.cells rfl _ _ c1
    have d2 := o.cells rfl _ _ c2
    have d3 := o.cells rfl _ _ c3
    have d4 := o.cells rfl _ _ c4
    rw [Addr.add_lit] at d0 d1 d2 d3 d4
    refine ⟨d0, la, lc, ma, mc, ⟨?_, ?_, ?_, ?_, ⟨Rd.ownB q0, Rd.ownB q1, b0, b1, by omega, by omega⟩⟩⟩
    · rw [show 0 + j * 5 + 1 = 0 + (j * 5 + 1) by omega]; exact d1
    · rw [show 0 + j * 5 + 1 + 1 = 0 + (j * 5 + 2) by omega]; exact d2
    · rw [show 0 + j * 5 + 1 + 2 = 0 + (j * 5 + 3) by omega]; exact d3
    · rw [show 0 + j * 5 + 1 + 3 = 0 + (j * 5 + 4) by omega]; exact d4
theorem sizeEdit : (Try.prog.info? 30).map (·.size) = some 5 := by kernel_rfl
theorem load_edit {w : World} {g : Nat} {a b c d e : Value} {t : TypeId} (hg : w.heap[g]? = some (.cells #[a, b, c, d, e] t (0, 0))) : (loadVar 30 ⟨g, 0, none⟩).run Try.prog w = .ok (.agg #[a, b, c, d, e]) w :=
  run_loadVar_row w g t 30 #[a, b, c, d, e] (0, 0) _ hg Try.underlying30 rfl sizeEdit
theorem store5 {w W : World} {N : Nat} {a b c d e x0 x1 x2 x3 x4 : Value} {T : TypeId} {S : List Nat} (h : W.heap[N]? = some (.cells #[x0, x1, x2, x3, x4] T (0, 0))) (hf : Fr S w W) (hN : w.heap.size ≤ N) :
    (((((W.setCell ⟨N, 0, none⟩ a).setCell ⟨N, 1, none⟩ b).setCell ⟨N, 2, none⟩ c).setCell ⟨N, 3, none⟩ d).setCell ⟨N, 4, none⟩ e).heap[N]? = some (.cells #[a, b, c, d, e] T (0, 0)) ∧ Fr S w (((((W.setCell ⟨N, 0, none⟩ a).setCell ⟨N, 1, none⟩ b).setCell ⟨N, 2, none⟩ c).setCell ⟨N, 3, none⟩ d).setCell ⟨N, 4, none⟩ e) ∧
    ∀ k, k ≠ N → (((((W.setCell ⟨N, 0, none⟩ a).setCell ⟨N, 1, none⟩ b).setCell ⟨N, 2, none⟩ c).setCell ⟨N, 3, none⟩ d).setCell ⟨N, 4, none⟩ e).heap[k]? = W.heap[k]? :=
  ⟨by rw [blk_set (blk_set (blk_set (blk_set (blk_set h 0 a) 1 b) 2 c) 3 d) 4 e]; rfl, ((((hf.set _ _ (.inr hN)).set _ _ (.inr hN)).set _ _ (.inr hN)).set _ _ (.inr hN)).set _ _ (.inr hN), fun k hk => by rw [blk_setne _ _ _ hk, blk_setne _ _ _ hk, blk_setne _ _ _ hk, blk_setne _ _ _ hk, blk_setne _ _ _ hk]⟩
/-- What is told of bytes as an edit. -/
def DecM (w' : World) (B : Nat) (o : Option Ed) (r : Ending) : Prop := match o with
  | none => r = .returned (.tuple #[.agg #[.int .i64 0, .int .i64 0, .int .u64 0, .slice none 0 0, .slice none 0 0], .int .i64 90])
  | some e => ∃ da dc aa ac, r = .returned (.tuple #[.agg #[.int .i64 e.log, .int .i64 e.next, .int .u64 (e.seq : Int), .slice da e.drop.length dc, .slice aa e.add.length ac], .int .i64 0]) ∧ DO w' B (.slice da e.drop.length dc) e.drop ∧ AO w' B (.slice aa e.add.length ac) e.add
end Go.Proofs.Ytkljblgogiheoaa
namespace Go.Proofs.Ytkljblgogiheoaa
open Go.ChangeShapes Go.WideShapes Go.ChangeAt Go.RowKit

theorem results_tmp4' {fn : Func} {p q r s : Tmp} (h : fn.results = #[.tmp p, .tmp q, .tmp r, .tmp s]) (tmps : Array Value) (P : Program) (w : World) :
    (results fn tmps).run P w = .ok (.tuple #[tmps.getD p undef, tmps.getD q undef, tmps.getD r undef, tmps.getD s undef]) w := by
  simp only [results, h]
  simp

theorem take8 (b : List Nat) : (b.drop (b.length - 8)).take 8 = b.drop (b.length - 8) := List.take_of_length_le (by rw [List.length_drop]; omega)

set_option maxRecDepth 20000 in
set_option maxHeartbeats 800000 in
theorem refsplit_no (w : World) {v : Value} {b : List Nat} (hr : Rd w v (bv b)) (hb : By b) (hl : b.length ≤ 140737488355328) (h : isK b = false) :
    Calls Try.prog 55 #[v] w fun e w' => e = .returned (.tuple #[.slice none 0 0, .int .u64 0, .int .i64 0, .int .i64 23]) ∧ w' = w := by
  rcases (show b.length < 8 ∨ 136 < b.length ∨ (8 ≤ b.length ∧ b.length ≤ 136) from by omega) with q1 | q1 | ⟨q1, q2⟩
  · obtain ⟨a, c, hv⟩ := hr.form
    rw [bv_len] at hv
    subst hv
    clear hr hb h
    go_enter Try.func55, Try.ntmps55
    go_wp2
    exact bodyPost_ret (results_tmp4' rfl _ _ _) rfl ⟨rfl, rfl⟩
  · obtain ⟨a, c, hv⟩ := hr.form
    rw [bv_len] at hv
    subst hv
    clear hr hb h
    go_enter Try.func55, Try.ntmps55
    go_wp2
    exact bodyPost_ret (results_tmp4' rfl _ _ _) rfl ⟨rfl, rfl⟩
  · obtain ⟨qq, off, c, hv, h1⟩ := hr.place (by omega)
    subst hv
    have hf := refunfixed_c hr hb (b.length - 8) 8 (by omega) (by omega) hl
    rw [take8, show unf (b.drop (b.length - 8)) = tailN b from rfl, show ((b.length - 8 : Nat) : Int) = (b.length : Int) - 8 from by omega] at hf
    have ht1 := tailN_lt hb q1
    have ht2 : 1 < tailN b % 256 := by
      unfold isK at h
      rw [decide_eq_true q1, decide_eq_true q2, Bool.true_and, Bool.true_and, decide_eq_false_iff_not] at h
      have : ¬ tailN b % 256 ≤ 1 := h
      omega
    generalize tailN b = t at hf ht1 ht2
    have HF := hid hf
    clear hr hb h hf
    go_enter Try.func55, Try.ntmps55
    go_wp2_with fail
    refine HF.out.mono ?_
    rintro e w1 ⟨rfl, rfl⟩
    go_wp2
    exact bodyPost_ret (results_tmp4' rfl _ _ _) rfl ⟨rfl, rfl⟩

set_option maxRecDepth 20000 in
set_option maxHeartbeats 800000 in
theorem refsplit_yes (w : World) {q off c : Nat} {b : List Nat} (hr : Rd w (.slice (some ⟨q, off, none⟩) b.length c) (bv b)) (hb : By b) (h1 : b.length ≤ c) (h : isK b = true) :
    Calls Try.prog 55 #[.slice (some ⟨q, off, none⟩) b.length c] w fun e w' => e = .returned (.tuple #[.slice (some ⟨q, off, none⟩) (b.length - 8) c, .int .u64 ((tailN b / 256 : Nat) : Int), .int .i64 ((tailN b % 256 : Nat) : Int), .int .i64 0]) ∧ w' = w := by
  obtain ⟨k1, k2, k3⟩ := isK_len h
  have hf := refunfixed_c hr hb (b.length - 8) 8 (by omega) (by omega) (by omega)
  rw [take8, show unf (b.drop (b.length - 8)) = tailN b from rfl, show ((b.length - 8 : Nat) : Int) = (b.length : Int) - 8 from by omega] at hf
  have ht1 := tailN_lt hb k1
  generalize tailN b = t at hf ht1 k3 ⊢
  have HF := hid hf
  clear hr hb h hf
  go_enter Try.func55, Try.ntmps55
  go_wp2_with fail
  refine HF.out.mono ?_
  rintro e w1 ⟨rfl, rfl⟩
  go_wp2
  refine bodyPost_ret (results_tmp4' rfl _ _ _) rfl ⟨?_, rfl⟩
  rw [show ((t / 256 : Nat) : Int) = (t : Int) / 256 from by omega, show ((t % 256 : Nat) : Int) = (t : Int) % 256 from by omega]
  rfl
end Go.Proofs.Ytkljblgogiheoaa
