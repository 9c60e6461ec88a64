/-
  What slices.Clone of bytes answers: a slice of its own with the same bytes.
-/
import Derived.Test.YtilgagmnifbdpaaB
import Derived.Maps.AppendAt
import Derived.Laws.AppendOwnNone
namespace Go.Proofs.Ytilgagmnifbdpaa
open Go.ChangeShapes Go.WideShapes Go.ChangeAt Go.RowKit

/-- A slice that can be read: its elements. -/
def Rd (w : World) (v : Value) (xs : List Value) : Prop :=
  (v = .slice none 0 0 ∧ xs = []) ∨ ∃ a c, v = .slice (some a) xs.length c ∧ xs.length ≤ c ∧ ∀ j u, xs[j]? = some u → w.cell? (a.add j) = some u
def Bts (xs : List Value) : Prop := ∀ u ∈ xs, ∃ n, u = .int .u8 n
theorem Bts.one {xs : List Value} (h : Bts xs) : ∀ u ∈ xs, u.oneCell' = true := fun u hu => by obtain ⟨n, rfl⟩ := h u hu; rfl

theorem infoB : (Try.prog.info? 5).map (fun i => (i.zero, i.size, i.bytes)) = some (some (.int .u8 0), 1, 1) := by kernel_rfl

theorem ownsRow_base {w : World} {B B' : Nat} {e : TypeId} {size : Nat} {v : Value} {n : Nat} {xs : List Value} (h : w.ownsRow B e size v n xs) (hB : B' ≤ B) : w.ownsRow B' e size v n xs := by
  refine ⟨h.1, ?_⟩
  rcases h.2 with h | ⟨g, cap, cur, h1, h2, h3⟩
  · exact .inl h
  · exact .inr ⟨g, cap, cur, h1, by omega, h3⟩

set_option maxHeartbeats 400000 in
theorem clone_c {w : World} {v : Value} {xs : List Value} (hr : Rd w v xs) (hb : Bts xs) (hl : xs.length ≤ 100000000) :
    Calls Try.prog 21 #[v] w fun e w' => ∃ v', e = .returned v' ∧ w'.ownsRow w.heap.size 5 1 v' xs.length xs ∧ Fr [] w w' := by
  obtain ⟨i0, hi, hz0, hz1, hz2⟩ := info_parts infoB
  have heq := fun (w : World) (a : Option Addr) (n c : Nat) => Lib.run_eql_slice_nil (P := Try.prog) w 39 5 a n c 0 0 Try.underlying39
  rcases hr with ⟨rfl, rfl⟩ | ⟨a, c, rfl, _, hc⟩
  · go_enter Try.func21, Try.ntmps21
    go_wp2
    go_ret
    exact ⟨_, rfl, World.ownsRow_nil _ _ _ _, Fr.refl _ _⟩
  · have hown : (w.alloc (.cells #[] 5)).ownsRow w.heap.size 5 1 (.slice (some ⟨w.heap.size, 0, none⟩) 0 0) 0 [] := World.ownsRow_lit w #[] 0 (Nat.le_refl _) (by unfold maxLen; omega) rfl
    have hc' : ∀ j u, xs[j]? = some u → (w.alloc (.cells #[] 5)).cell? (a.add j) = some u := fun j u hj => by
      have h1 := hc j u hj
      rw [World.cell?_of_block (w := w) (blk_old _ _ (World.block_lt_of_cell? w _ h1))]; exact h1
    have HO : Hid _ := hown
    have HC : Hid _ := hc'
    clear hown hc' hc
    go_enter Try.func21, Try.ntmps21
    go_wp2_with (at_builtin; refine wpList_append_own_at _ rfl _ _ 39 rfl w.heap.size 5 i0 (.int .u8 0) 1 1 Try.underlying39 hi hz0 hz1 hz2 rfl (by decide) _ _ _ rfl HO.out a xs.length c xs rfl (by simp) HC.out hb.one (by unfold maxLen; omega) (by omega) (by simp) ?_; intro v' w1 hown' hgrow hnil hat)
    go_ret
    refine ⟨v', rfl, by simpa using hown', ?_⟩
    exact ((Fr.refl _ _).alloc _).grown hgrow (fun k hk => .inr (by have e : some w.heap.size = some k := hk; simp only [Option.some.injEq] at e; omega))

theorem blk_block {w : World} {m : Nat} {o : Obj} (h : m < w.heap.size) : (ChangeMaps.setBlock w m o).heap[m]? = some o := by
  simp [ChangeMaps.setBlock, h]
theorem blk_blockne (w : World) {m k : Nat} (o : Obj) (h : k ≠ m) : (ChangeMaps.setBlock w m o).heap[k]? = w.heap[k]? := by
  simp [ChangeMaps.setBlock, Ne.symm h]
theorem Fr.block_ {S : List Nat} {a b : World} (h : Fr S a b) {p : Nat} (o : Obj) (hp : p ∈ S ∨ a.heap.size ≤ p) : Fr S a (ChangeMaps.setBlock b p o) :=
  ⟨h.os, h.tape, h.output, by simpa [ChangeMaps.setBlock] using h.size, fun k hk hn => by
    rw [blk_blockne _ _ (by rcases hp with hp | hp <;> intro e <;> subst e; exact hn hp; omega)]; exact h.block k hk hn⟩

theorem run_update_new (w : World) (r : Nat) (es : Array MapEntry) (clk : Nat) (s : ByteArray) (v : Value) (hb : w.heap[r]? = some (.map es clk)) (hs : SK es.toList) (hv : lk es.toList s = none) :
    (Instr.mapUpdate 42 (.map (some r)) (.string s) v).run Try.prog w = .ok () (ChangeMaps.setBlock w r (.map (es.push ⟨.string s, v, clk⟩) (clk + 1))) := by
  have hj := (findNow_str s es.toList 0 hs).1 hv
  simp [Instr.mapUpdate, run_underlying Try.underlying42, run_getObj_at hb, run_checkKey _ 9999, run_underlying Try.underlying9, Instr.findKey, hj, setObj, Sem.run, hb, ChangeMaps.setBlock]

set_option maxHeartbeats 400000 in
/-- A creation, on the seen side. -/
theorem create_seen {w : World} {b m0 m1 : Nat} {cap used made cnt fail halt : Int} {pv : Value} {down : Bool} (h : DB w b cap m0 m1 pv used made cnt fail halt down)
    {es : Array MapEntry} {clk : Nat} {s : ByteArray} {fb : Nat} (hm : w.heap[m0]? = some (.map es clk)) (hs : SK es.toList) (hv : lk es.toList s = none) (left : Int) (h0 : 0 < left) (h1 : left ≤ 9223372036854775807) :
    Calls Try.prog 70 #[.agg #[.pointer (some ⟨b, 1, none⟩), .string s, .pointer (some ⟨fb, 0, none⟩)], .int .i64 0, .int .i64 left] w fun e w' =>
      e = .returned (.int .i64 (left - 1)) ∧ w'.heap[m0]? = some (.map (es.push ⟨.string s, .pointer (some ⟨fb, 0, none⟩), clk⟩) (clk + 1)) ∧ Fr [m0] w w' := by
  have c1 : w.cell? ⟨b, 1, none⟩ = some (.map (some m0)) := by rw [blk_cell h]; rfl
  have hlt := blk_lt hm
  have hblt := blk_lt h
  have hup := run_update_new (w.alloc (.cells #[.pointer (some ⟨b, 1, none⟩), .string s, .pointer (some ⟨fb, 0, none⟩)] 59)).drew m0 es clk s (.pointer (some ⟨fb, 0, none⟩)) (by rw [blk_drew, blk_old _ _ hlt]; exact hm) hs hv
  clear h hm hv hs
  go_enter Try.func70, Try.ntmps70
  go_wp2
  go_region
  go_wp2
  go_ret
  exact ⟨rfl, blk_block (by simp; omega), (((Fr.refl _ _).alloc _).drew).block_ _ (.inl (by simp))⟩
set_option maxHeartbeats 400000 in
/-- A creation, on the sure side. -/
theorem create_sure {w : World} {b m0 m1 : Nat} {cap used made cnt fail halt : Int} {pv : Value} {down : Bool} (h : DB w b cap m0 m1 pv used made cnt fail halt down)
    {es : Array MapEntry} {clk : Nat} {s : ByteArray} {fb : Nat} (hm : w.heap[m1]? = some (.map es clk)) (hs : SK es.toList) (hv : lk es.toList s = none) (left : Int) (h0 : 0 < left) (h1 : left ≤ 9223372036854775807) :
    Calls Try.prog 70 #[.agg #[.pointer (some ⟨b, 1, none⟩), .string s, .pointer (some ⟨fb, 0, none⟩)], .int .i64 1, .int .i64 left] w fun e w' =>
      e = .returned (.int .i64 (left - 1)) ∧ w'.heap[m1]? = some (.map (es.push ⟨.string s, .pointer (some ⟨fb, 0, none⟩), clk⟩) (clk + 1)) ∧ Fr [m1] w w' := by
  have c1 : w.cell? ⟨b, 2, none⟩ = some (.map (some m1)) := by rw [blk_cell h]; rfl
  have hlt := blk_lt hm
  have hblt := blk_lt h
  have hup := run_update_new (w.alloc (.cells #[.pointer (some ⟨b, 1, none⟩), .string s, .pointer (some ⟨fb, 0, none⟩)] 59)).drew m1 es clk s (.pointer (some ⟨fb, 0, none⟩)) (by rw [blk_drew, blk_old _ _ hlt]; exact hm) hs hv
  clear h hm hv hs
  go_enter Try.func70, Try.ntmps70
  go_wp2
  go_region
  go_wp2
  go_ret
  exact ⟨rfl, blk_block (by simp; omega), (((Fr.refl _ _).alloc _).drew).block_ _ (.inl (by simp))⟩
end Go.Proofs.Ytilgagmnifbdpaa
