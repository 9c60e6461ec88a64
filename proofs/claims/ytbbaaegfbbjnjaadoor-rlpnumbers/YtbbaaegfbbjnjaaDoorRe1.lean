/-
  What the closure in First of package rlp answers: where it refuses, and for strings.
-/
import Derived.Test.YtbbaaegfbbjnjaaDoorJ11
import Derived.Test.YtbbaaegfbbjnjaaDoorJ14
import Derived.Deep.RegionHeld
namespace Go.Proofs.YtbbaaegfbbjnjaaDoor
open Go.ChangeShapes Go.WideShapes Go.ChangeAt Go.RowKit

theorem cell_frg {w w' : World} {a : Addr} {v : Value} {g : Nat} {c : Int} {T : TypeId} (h : w.cell? a = some v) (f : Fr [g] w w') (hg : w.heap[g]? = some (.cells #[.int .i64 c] T (0, 0))) (hv : ∀ n, v ≠ .int .i64 n) : w'.cell? a = some v := by
  rw [World.cell?_of_block (w := w) (f.block _ (World.block_lt_of_cell? w _ h) ?_)]
  · exact h
  · intro e
    simp at e
    obtain ⟨ab, ao, asp⟩ := a
    simp only at e
    subst e
    have hs : asp = none := World.cell?_spot h
    subst hs
    rw [blk_cell hg] at h
    cases ao with
    | zero => simp at h; exact hv c h.symm
    | succ i => simp at h
theorem Rd.frg {w w' : World} {v : Value} {ns : List Nat} {g : Nat} {c : Int} {T : TypeId} (h : Rd w v (bv ns)) (f : Fr [g] w w') (hg : w.heap[g]? = some (.cells #[.int .i64 c] T (0, 0))) : Rd w' v (bv ns) := by
  rcases h with h | ⟨a, c', rfl, h4, h5⟩
  · exact .inl h
  · refine .inr ⟨a, c', rfl, h4, fun j u hj => cell_frg (h5 j u hj) f hg fun n e => ?_⟩
    subst e
    obtain ⟨m, _, e⟩ := List.mem_map.1 (List.mem_of_getElem? hj)
    cases e
theorem IsV.frg : ∀ {n : Nat} {w w' : World} {v : Value} {t : Tr n} {g : Nat} {c : Int} {T : TypeId}, IsV w n v t → Fr [g] w w' → w.heap[g]? = some (.cells #[.int .i64 c] T (0, 0)) → IsV w' n v t
  | 0, _, _, _, _, _, _, _, h, _, _ => h
  | n + 1, w, w', v, t, g, c, T, h, f, hg => by
    obtain ⟨bs, ka, kc, h1, h2, h3, h4, h5, h5', h6⟩ := h
    refine ⟨bs, ka, kc, h1, h2.frg f hg, h3, h4, h5, h5', fun h0 => ?_⟩
    obtain ⟨kb, ko, e, h7⟩ := h6 h0
    refine ⟨kb, ko, e, fun j k hj => ?_⟩
    obtain ⟨l, b', i', c1, c2, c3, c4⟩ := h7 j k hj
    obtain ⟨x1, x2, x3, x4, x5, x6, rfl, rfl⟩ := c4.cells
    exact ⟨l, _, _, cell_frg c1 f hg (fun n e => by cases e), cell_frg c2 f hg (fun n e => by cases e), cell_frg c3 f hg (fun n e => by cases e), c4.frg f hg⟩

/-- What the closure tells. -/
def ReadT (B n : Nat) (res : Except Nat (Tr (n + 3) × Nat × Nat)) (g : Nat) (r : Ending) (w' : World) : Prop := match res with
  | .error e => r = .returned (.tuple #[.agg #[.bool false, .slice none 0 0, .slice none 0 0], .int .i64 0, .int .i64 (e : Int)])
  | .ok (t, k, c') => ∃ v, r = .returned (.tuple #[v, .int .i64 (k : Int), .int .i64 0]) ∧ IsF w' B w'.heap.size (n + 3) v t ∧ w'.heap[g]? = some (.cells #[.int .i64 (c' : Int)] 3 (0, 0))

theorem fin_z {w W : World} {N : Nat} {x y z a b c : Value} {T : TypeId} {S : List Nat} (h : W.heap[N]? = some (.cells #[x, y, z] T (0, 0))) (hf : Fr S w W) (hN : w.heap.size ≤ N) :
    (((W.setCell ⟨N, 0, none⟩ a).setCell ⟨N, 1, none⟩ b).setCell ⟨N, 2, none⟩ c).heap[N]? = some (.cells #[a, b, c] T (0, 0)) ∧ Fr S w (((W.setCell ⟨N, 0, none⟩ a).setCell ⟨N, 1, none⟩ b).setCell ⟨N, 2, none⟩ c) :=
  ⟨store3 h, ((hf.set _ _ (.inr hN)).set _ _ (.inr hN)).set _ _ (.inr hN)⟩

set_option maxRecDepth 20000 in
set_option maxHeartbeats 400000 in
theorem read_deep (w : World) {T g e k c d : Nat} (C : Clo w 37 T g e k c) (v : Value) (h : 16 < d ∨ c = 4096) (hd2 : d ≤ 100000) :
    Calls Tryd.prog 37 #[v, .int .i64 (d : Int), .pointer (some ⟨e, 0, none⟩), .pointer (some ⟨k, 0, none⟩)] w fun r w' => r = .returned (.tuple #[.agg #[.bool false, .slice none 0 0, .slice none 0 0], .int .i64 0, .int .i64 43]) ∧ Fr [g] w w' := by
  have C1 := C.alloc (.cells #[.bool false, .slice none 0 0, .slice none 0 0] 44)
  have he := blk_cell C1.ce 0
  simp at he
  have HC := hid C1
  clear C C1
  go_enter Tryd.func37, Tryd.ntmps37
  go_wp2_with fail
  refine (gate_no _ HC.out.cg h hd2).mono ?_
  rintro r w1 ⟨rfl, rfl⟩
  go_wp2
  go_returns
  exact ⟨rfl, (Fr.refl _ _).alloc _⟩

set_option maxRecDepth 20000 in
set_option maxHeartbeats 400000 in
theorem read_bad (w : World) {T g e k c d : Nat} (C : Clo w 37 T g e k c) {v : Value} {b : List Nat} (hr : Rd w v (bv b)) (hb : By b) (h0 : b ≠ []) (hl : b.length ≤ 100000) (hd : d ≤ 16) (hc : c < 4096) {x : Nat} (hx : hdr b = .error x) (hx0 : x ≠ 0) :
    Calls Tryd.prog 37 #[v, .int .i64 (d : Int), .pointer (some ⟨e, 0, none⟩), .pointer (some ⟨k, 0, none⟩)] w fun r w' => r = .returned (.tuple #[.agg #[.bool false, .slice none 0 0, .slice none 0 0], .int .i64 0, .int .i64 (x : Int)]) ∧ Fr [g] w w' := by
  have C1 := C.alloc (.cells #[.bool false, .slice none 0 0, .slice none 0 0] 44)
  have hg := blk_lt C.cg
  have he := blk_cell C1.ce 0
  simp at he
  have HC := hid C1
  have F0 := hid ((Fr.refl [g] w).alloc (.cells #[.bool false, .slice none 0 0, .slice none 0 0] 44))
  have HN := hid (blk_new w (.cells #[.bool false, .slice none 0 0, .slice none 0 0] 44))
  have hne : ¬ w.heap.size = g := by omega
  have HR := hid hr
  have HG := hid C.cg
  have HB := hid hb
  have HX := hid hx
  have hz : ((x : Int) == 0) = false := beq_eq_false_iff_ne.2 (by omega)
  obtain ⟨q, off, cc, hv, _⟩ := hr.spot (List.length_pos_iff.2 h0)
  subst hv
  clear C C1 hr hb hx
  go_enter Tryd.func37, Tryd.ntmps37
  go_wp2_with fail
  refine (gate_yes _ HC.out.cg hd hc).mono ?_
  rintro r w1 ⟨rfl, h1, f1⟩
  have F1 := hid (F0.out.trans f1)
  have hbk := f1.at HN.out (by simpa using hne)
  have HBK := hid hbk
  clear f1 h1 hbk
  go_wp2_with fail
  refine (find_c w1 (HR.out.frg F1.out HG.out) HB.out h0 hl).mono ?_
  rintro r w2 ⟨hF, f2⟩
  rw [HX.out] at hF
  obtain rfl : r = _ := hF
  have F2 := hid (F1.out.trans (f2.mono (S' := [g]) (by simp)))
  have hbk2 := f2.at HBK.out (by simp)
  have hlt := blk_lt hbk2
  have hd0 := blk_cell hbk2 0
  have hd1 := blk_cell hbk2 1
  have hd2 := blk_cell hbk2 2
  have hf0 := blk_frozen hbk2 0
  have hf1 := blk_frozen hbk2 1
  have hf2 := blk_frozen hbk2 2
  simp at hd0 hd1 hd2
  have HBK2 := hid hbk2
  clear f2 hbk2
  go_wp2
  have K := fin_z (a := .bool false) (b := .slice none 0 0) (c := .slice none 0 0) HBK2.out F2.out (Nat.le_refl _)
  exact bodyPost_ret (ret_ctt rfl rfl (load_item (by rw [blk_old _ _ (blk_lt K.1)]; exact K.1))) rfl ⟨rfl, K.2.alloc _⟩
end Go.Proofs.YtbbaaegfbbjnjaaDoor
