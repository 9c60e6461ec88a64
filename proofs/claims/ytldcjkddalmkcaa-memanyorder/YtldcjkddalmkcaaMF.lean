/-
  Tables; what nextHeight of package mem answers.
-/
import Derived.Test.YtldcjkddalmkcaaME
namespace Go.Proofs.Ytldcjkddalmkcaa
open Go.ChangeShapes Go.WideShapes Go.ChangeAt Go.RowKit

/-- The bytes of entries. -/
def siz (es : List E) : Nat := (es.map fun e => e.key.length + e.val.length).sum
/-- How high the next tower is. -/
def htN (H : List Nat) (c : Nat) : Nat := if H.length = 0 then 1 else H.getD (c % H.length) 1
theorem htN_le {H : List Nat} (h : ∀ x ∈ H, 1 ≤ x ∧ x ≤ 12) (c : Nat) : 1 ≤ htN H c ∧ htN H c ≤ 12 := by
  unfold htN
  split
  · omega
  · rename_i h0
    have hl : c % H.length < H.length := Nat.mod_lt _ (by omega)
    rw [List.getD_eq_getElem?_getD, List.getElem?_eq_getElem hl]
    exact h _ (List.getElem_mem hl)
/-- A table. -/
structure Tb (w : World) (B t : Nat) (H : List Nat) (es : List E) : Prop where
  mm : ∃ hv, Mm w B t hv es es.length (siz es) ∧ w.ownsRow B 3 1 hv H.length (iv H)
  srt : es.Pairwise (fun a b => ordK a.key b.key < 0)
  hh : ∀ e ∈ es, 1 ≤ e.h ∧ e.h ≤ 12
  hH : ∀ h ∈ H, 1 ≤ h ∧ h ≤ 12
theorem NewSt.tb {w w' : World} {Y : Nat → Int} {n : Nat} (h : NewSt w w' (hts Y n)) : Tb w' w.heap.size w.heap.size (hts Y n) [] := by
  obtain ⟨⟨hv, h1, h2⟩, _⟩ := h
  obtain ⟨a, c, rfl, _⟩ := ownsRow_slice h2
  exact ⟨⟨_, ⟨h1, ⟨_, _, _, rfl⟩, Nat.le_refl _, trivial, List.nodup_nil⟩, ownsRow_base h2 (Nat.le_succ _)⟩, List.Pairwise.nil, fun e he => (by cases he), hts_in Y n⟩
theorem Tb.fr {w w' : World} {B t : Nat} {H : List Nat} {es : List E} (h : Tb w B t H es) (f : Fr [] w w') : Tb w' B t H es := by
  obtain ⟨⟨hv, h1, h2⟩, h3, h4, h5⟩ := h
  exact ⟨⟨hv, h1.fr f, ownsRow_fr h2 f⟩, h3, h4, h5⟩
theorem Tb.base {w : World} {B B' t : Nat} {H : List Nat} {es : List E} (h : Tb w B t H es) (hB : B' ≤ B) : Tb w B' t H es := by
  obtain ⟨⟨hv, h1, h2⟩, h3, h4, h5⟩ := h
  have hch : ∀ {es : List E}, Chain w B es → Chain w B' es := by
    intro es
    induction es with
    | nil => exact fun _ => trivial
    | cons e es ih => exact fun h => ⟨⟨h.1.blk, Nat.le_trans hB h.1.base, h.1.isk, h.1.rk, h.1.ru, h.1.rv, h.1.byk, h.1.byv, h.1.vl⟩, ih h.2⟩
  exact ⟨⟨hv, ⟨h1.tab, h1.hs, Nat.le_trans hB h1.bt, hch h1.ch, h1.nd⟩, ownsRow_base h2 hB⟩, h3, h4, h5⟩
theorem Tb.lt {w : World} {B t : Nat} {H : List Nat} {es : List E} (h : Tb w B t H es) : ∀ k ∈ bks t es, B ≤ k ∧ k < w.heap.size := by
  obtain ⟨⟨hv, h1, _⟩, _⟩ := h
  exact h1.lt
theorem Tb.rd {w w' : World} {B t : Nat} {H : List Nat} {es : List E} (h : Tb w B t H es) (f : Fr (bks t es) w w') {v : Value} {ns : List Nat} (r : Rd w v (bv ns)) : Rd w' v (bv ns) := by
  obtain ⟨⟨hv, h1, _⟩, _⟩ := h
  exact h1.rd f r
/-- What lies below a table's blocks stays. -/
theorem Tb.shed {w0 w w' : World} {B t : Nat} {H : List Nat} {es : List E} (h : Tb w B t H es) (hB : w0.heap.size ≤ B) (f0 : Fr [] w0 w) (f : Fr (bks t es) w w') : Fr [] w0 w' :=
  ((f0.mono (S' := bks t es) (by simp)).trans f).shed fun k hk hl => by have := (h.lt k hk).1; omega

theorem tab_cells {w : World} {B t : Nat} {hv : Value} {es : List E} {c z : Nat} (M : Mm w B t hv es c z) : w.cell? ⟨t, 0, none⟩ = some hv ∧ w.cell? ⟨t, 17, none⟩ = some (.int .i64 (c : Int)) ∧ w.cell? ⟨t, 18, none⟩ = some (.int .i64 (z : Int)) := by
  refine ⟨by rw [lst_cell M.tab]; rfl, ?_, ?_⟩
  · rw [lst_cell M.tab]; unfold tCs
    rw [List.getElem?_append_right (by rw [List.length_append, tow_len]; simp), List.length_append, tow_len]; rfl
  · rw [lst_cell M.tab]; unfold tCs
    rw [List.getElem?_append_right (by rw [List.length_append, tow_len]; simp), List.length_append, tow_len]; rfl

set_option maxRecDepth 20000 in
set_option maxHeartbeats 800000 in
theorem nextHeight_c (w : World) {B t : Nat} {hv : Value} {H : List Nat} {es : List E} {c z : Nat} (M : Mm w B t hv es c z) (o : w.ownsRow B 3 1 hv H.length (iv H)) (hH : H.length ≤ 1000000) :
    Calls Try.prog 34 #[.pointer (some ⟨t, 0, none⟩)] w fun e w' => e = .returned (.int .i64 (htN H c : Int)) ∧ ∃ n, w' = w.drewN n := by
  obtain ⟨h0, h17, h18⟩ := tab_cells M
  unfold htN
  by_cases hn : H.length = 0
  · rw [if_pos hn]
    obtain ⟨a, k, rfl, _⟩ := ownsRow_slice o
    rw [hn] at h0
    clear M o h17 h18 hn
    go_enter Try.func34, Try.ntmps34
    go_wp2
    go_ret
    exact ⟨rfl, 0, rfl⟩
  · rw [if_neg hn]
    have hl : c % H.length < H.length := Nat.mod_lt _ (by omega)
    rw [List.getD_eq_getElem?_getD, List.getElem?_eq_getElem hl, Option.getD_some]
    obtain ⟨m, hm⟩ : ∃ m, m = H[c % H.length] := ⟨_, rfl⟩
    rw [← hm]
    rcases o.2 with ⟨_, e⟩ | ⟨g, cap, cur, rfl, _, h3, h4, h5⟩
    · omega
    have hcell := o.cells rfl (c % H.length) (.int .i64 (m : Int)) (by unfold iv; rw [List.getElem?_map, List.getElem?_eq_getElem hl, ← hm]; rfl)
    rw [Addr.add_lit, Nat.zero_add] at hcell
    have e1 : ((H.length : Int) == 0) = false := beq_eq_false_iff_ne.2 (by omega)
    have e2 : ¬ (H.length : Int) = 0 := by omega
    have hl' := hid hl
    clear hm M o h3 h5
    generalize H.length = L at *
    have hl := hl'.out
    obtain ⟨y, hy⟩ : ∃ y, y = c % L := ⟨_, rfl⟩
    rw [← hy] at hcell hl
    have e6 : Int.tmod (c : Int) (L : Int) = (y : Int) := by rw [hy]; exact (Int.ofNat_tmod c L).symm
    have e7 : (c : Int) % (L : Int) = (y : Int) := by rw [hy]; exact (Int.natCast_emod c L).symm
    have e8 : IntKind.i64.wrap (y : Int) = (y : Int) := by rw [IntKind.wrap_i64]; omega
    clear h18 hn hl' hy
    go_enter Try.func34, Try.ntmps34
    go_wp2_with fail
    go_quiet (fail)
    go_wp2
    go_ret
    exact ⟨rfl, _, rfl⟩
end Go.Proofs.Ytldcjkddalmkcaa
