/-
  The places of package mem, bytes.Equal, first.
-/
import Derived.Test.YtldcjkddalmkcaaMC
import Derived.Test.YtldcjkddalmkcaaU
namespace Go.Proofs.Ytldcjkddalmkcaa
open Go.ChangeShapes Go.WideShapes Go.ChangeAt Go.RowKit

set_option maxHeartbeats 400000 in
theorem bytesEqual_c {w : World} {v1 v2 : Value} {a b : List Nat} (h1 : Rd w v1 (bv a)) (h2 : Rd w v2 (bv b)) (ha : By a) (hb : By b) :
    Calls Try.prog 32 #[v1, v2] w fun e w' => e = .returned (.bool (decide (a = b))) ∧ w' = w := by
  have e1 := run_conv h1
  have e2 := run_conv h2
  obtain ⟨a1, c1, rfl⟩ := h1.form
  obtain ⟨a2, c2, rfl⟩ := h2.form
  by_cases hab : a = b
  · subst hab
    have e3 := ba_beq (strOf a)
    rw [decide_eq_true rfl]
    clear h1 h2
    go_enter Try.func32, Try.ntmps32
    go_wp2
    go_ret
    exact ⟨rfl, rfl⟩
  · have e3 : ((strOf a).toList == (strOf b).toList) = false := beq_eq_false_iff_ne.2 fun h => hab (strOf_inj ha hb (by
      rw [ByteArray.toList_eq, ByteArray.toList_eq] at h
      exact ByteArray.ext (Array.toList_inj.1 h)))
    rw [decide_eq_false hab]
    clear h1 h2 hab
    go_enter Try.func32, Try.ntmps32
    go_wp2
    go_ret
    exact ⟨by simp, rfl⟩

/-- What the cells of an entry are. -/
theorem EntB.cells {w : World} {B : Nat} {e : E} {r : List E} (h : EntB w B e r) : w.cell? ⟨e.b, 0, none⟩ = some e.kv ∧ w.cell? ⟨e.b, 1, none⟩ = some e.uv ∧ w.cell? ⟨e.b, 2, none⟩ = some (.int .i64 ((tailN e.key % 256 : Nat) : Int)) ∧ w.cell? ⟨e.b, 3, none⟩ = some e.vv := by
  refine ⟨?_, ?_, ?_, ?_⟩ <;> rw [lst_cell h.blk] <;> rfl

set_option maxRecDepth 20000 in
set_option maxHeartbeats 400000 in
theorem keyBehind_c (w : World) {B : Nat} {e : E} {r : List E} (h : EntB w B e r) {v : Value} {k : List Nat} (hr : Rd w v (bv k)) (hk : isK k = true) (hb : By k) :
    Calls Try.prog 31 #[v, pt (e.b, 0)] w fun r w' => r = .returned (.bool (decide (ordK e.key k < 0))) ∧ Fr [] w w' := by
  have hc := h.cells.1
  obtain ⟨a1, c1, h1⟩ := h.rk.form
  obtain ⟨a2, c2, h2⟩ := hr.form
  have HC := hid (compare_yes w h.rk h.byk h.isk hr hb hk)
  rw [h1] at hc HC
  rw [h2] at HC
  subst h2
  generalize ordK e.key k = o at HC ⊢
  clear h hr h1
  unfold pt
  go_enter Try.func31, Try.ntmps31
  go_wp2_with fail
  refine HC.out.mono ?_
  rintro e w1 ⟨rfl, f1⟩
  go_wp2
  go_ret
  exact ⟨rfl, f1⟩

set_option maxRecDepth 20000 in
set_option maxHeartbeats 400000 in
theorem userBehind_c (w : World) {B : Nat} {e : E} {r : List E} (h : EntB w B e r) {v : Value} {k : List Nat} (hr : Rd w v (bv k)) (hb : By k) :
    Calls Try.prog 47 #[v, pt (e.b, 0)] w fun r w' => r = .returned (.bool (decide (cmpN (userL e.key) k < 0))) ∧ Fr [] w w' := by
  have hc := h.cells.2.1
  obtain ⟨a1, c1, h1⟩ := h.ru.form
  obtain ⟨a2, c2, h2⟩ := hr.form
  have HC := hid (bcmp_c h.ru hr (h.byk.take _) hb)
  rw [h1] at hc HC
  rw [h2] at HC
  subst h2
  generalize cmpN (userL e.key) k = o at HC ⊢
  clear h hr h1
  unfold pt
  go_enter Try.func47, Try.ntmps47
  go_wp2_with fail
  refine HC.out.mono ?_
  rintro e w1 ⟨rfl, rfl⟩
  go_wp2
  go_ret
  exact ⟨rfl, Fr.refl _ _⟩

/-- Where a key stands, or would stand. -/
structure CutK (es pre post : List E) (k : List Nat) : Prop where
  eq : es = pre ++ post
  lo : ∀ e ∈ pre, ordK e.key k < 0
  hi : ∀ e ∈ post, ¬ ordK e.key k < 0
/-- Where the entries begin whose user key isn't ahead of u. -/
structure CutU (es pre post : List E) (u : List Nat) : Prop where
  eq : es = pre ++ post
  lo : ∀ e ∈ pre, cmpN (userL e.key) u < 0
  hi : ∀ e ∈ post, ¬ cmpN (userL e.key) u < 0

theorem Mm.ent {w : World} {B t : Nat} {hv : Value} {es : List E} {c z : Nat} (h : Mm w B t hv es c z) {e : E} (he : e ∈ es) : ∃ r, EntB w B e r := h.ch.of e he
theorem beforeK_c (w : World) {B t : Nat} {hv : Value} {es pre post : List E} {c z : Nat} (M : Mm w B t hv es c z) {v : Value} {k : List Nat} (hr : Rd w v (bv k)) (hk : isK k = true) (hb : By k) (C : CutK es pre post k) :
    Calls Try.prog 30 #[.pointer (some ⟨t, 0, none⟩), .func (.func 31) #[v] #[]] w fun e w' => e = .returned (.agg (bfs t pre 0).toArray) ∧ Fr [] w w' := by
  obtain ⟨rfl, hlo, hhi⟩ := C
  refine before_k w M v (fun e => decide (ordK e.key k < 0)) (fun e he w' f => ?_) (fun e he => decide_eq_true (hlo e he)) (fun e he => decide_eq_false (hhi e he))
  obtain ⟨r, g⟩ := (M.fr f).ent he
  exact keyBehind_c w' g (hr.fr f) hk hb
theorem beforeU_c (w : World) {B t : Nat} {hv : Value} {es pre post : List E} {c z : Nat} (M : Mm w B t hv es c z) {v : Value} {k : List Nat} (hr : Rd w v (bv k)) (hb : By k) (C : CutU es pre post k) :
    Calls Try.prog 30 #[.pointer (some ⟨t, 0, none⟩), .func (.func 47) #[v] #[]] w fun e w' => e = .returned (.agg (bfs t pre 0).toArray) ∧ Fr [] w w' := by
  obtain ⟨rfl, hlo, hhi⟩ := C
  refine before_u w M v (fun e => decide (cmpN (userL e.key) k < 0)) (fun e he w' f => ?_) (fun e he => decide_eq_true (hlo e he)) (fun e he => decide_eq_false (hhi e he))
  obtain ⟨r, g⟩ := (M.fr f).ent he
  exact userBehind_c w' g (hr.fr f) hb

/-- The place that is the last one ahead at height 0 has the first of what follows as its link. -/
theorem Mm.link {w : World} {B t : Nat} {hv : Value} {pre post : List E} {c z : Nat} (M : Mm w B t hv (pre ++ post) c z) {i : Nat} (hi : i < 12) : w.cell? ⟨(bfr (t, 1) pre i).1, (bfr (t, 1) pre i).2 + 4 + i, none⟩ = some (lk post i) := by
  rcases bfr_case (t, 1) pre i with ⟨h1, h2⟩ | ⟨l1, e, l2, h0, h1, h2, h3⟩
  · rw [h2]
    have := M.atHead.cell i hi
    rw [lk_none h1] at this
    exact this
  · rw [h3]
    subst h0
    have hc : Chain w B (l1 ++ e :: (l2 ++ post)) := by simpa [List.append_assoc] using M.ch
    have := ((Chain.mid hc).at (k := min 12 e.h) (Nat.min_le_right _ _) (Nat.min_le_left _ _)).cell i (by omega)
    rw [lk_none h2] at this
    exact this

set_option maxRecDepth 20000 in
set_option maxHeartbeats 400000 in
theorem firstK_c (w : World) {B t : Nat} {hv : Value} {es pre post : List E} {c z : Nat} (M : Mm w B t hv es c z) {v : Value} {k : List Nat} (hr : Rd w v (bv k)) (hk : isK k = true) (hb : By k) (C : CutK es pre post k) :
    Calls Try.prog 37 #[.pointer (some ⟨t, 0, none⟩), .func (.func 31) #[v] #[]] w fun e w' => e = .returned (lk post 0) ∧ Fr [] w w' := by
  have HB := hid (beforeK_c w M hr hk hb C)
  have hix := fun w => run_indexT0 (w := w) (bfs_tw t pre 0)
  rw [bfs_at t pre (by omega)] at hix
  obtain ⟨rfl, _, _⟩ := C
  have HL := hid fun w' f => Mm.link (i := 0) (Mm.fr (w' := w') M f) (by omega)
  obtain ⟨p, hp⟩ := lk_ptr post 0
  rw [hp] at HL ⊢
  generalize bfr (t, 1) pre 0 = q at hix HL
  generalize (bfs t pre 0).toArray = cs at hix HB
  obtain ⟨q1, q2⟩ := q
  unfold pt at hix
  replace hix : ∀ w, (Instr.index 68 (.agg cs) (.int .i64 0)).run Try.prog w = .ok (.pointer (some ⟨q1, q2, none⟩)) w := hix
  clear M hr hk hb hp
  go_enter Try.func37, Try.ntmps37
  go_wp2_with fail
  refine HB.out.mono ?_
  rintro e w1 ⟨rfl, f1⟩
  have hc := HL.out w1 f1
  rw [Nat.add_zero] at hc
  go_wp2
  go_ret
  exact ⟨rfl, f1⟩
set_option maxRecDepth 20000 in
set_option maxHeartbeats 400000 in
theorem firstU_c (w : World) {B t : Nat} {hv : Value} {es pre post : List E} {c z : Nat} (M : Mm w B t hv es c z) {v : Value} {k : List Nat} (hr : Rd w v (bv k)) (hb : By k) (C : CutU es pre post k) :
    Calls Try.prog 37 #[.pointer (some ⟨t, 0, none⟩), .func (.func 47) #[v] #[]] w fun e w' => e = .returned (lk post 0) ∧ Fr [] w w' := by
  have HB := hid (beforeU_c w M hr hb C)
  have hix := fun w => run_indexT0 (w := w) (bfs_tw t pre 0)
  rw [bfs_at t pre (by omega)] at hix
  obtain ⟨rfl, _, _⟩ := C
  have HL := hid fun w' f => Mm.link (i := 0) (Mm.fr (w' := w') M f) (by omega)
  obtain ⟨p, hp⟩ := lk_ptr post 0
  rw [hp] at HL ⊢
  generalize bfr (t, 1) pre 0 = q at hix HL
  generalize (bfs t pre 0).toArray = cs at hix HB
  obtain ⟨q1, q2⟩ := q
  unfold pt at hix
  replace hix : ∀ w, (Instr.index 68 (.agg cs) (.int .i64 0)).run Try.prog w = .ok (.pointer (some ⟨q1, q2, none⟩)) w := hix
  clear M hr hb hp
  go_enter Try.func37, Try.ntmps37
  go_wp2_with fail
  refine HB.out.mono ?_
  rintro e w1 ⟨rfl, f1⟩
  have hc := HL.out w1 f1
  rw [Nat.add_zero] at hc
  go_wp2
  go_ret
  exact ⟨rfl, f1⟩
end Go.Proofs.Ytldcjkddalmkcaa
