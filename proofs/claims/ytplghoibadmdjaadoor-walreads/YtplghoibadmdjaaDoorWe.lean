/-
  What find of package wal answers.
-/
import Derived.Test.YtplghoibadmdjaaDoorWd
import Derived.Test.YtplghoibadmdjaaDoorE
import Derived.Test.YtplghoibadmdjaaDoorD
import Derived.Laws.ResultCell
namespace Go.Proofs.YtplghoibadmdjaaDoor
open Go.ChangeShapes Go.WideShapes Go.ChangeAt Go.RowKit

theorem cell_fr {w w' : World} {p : Addr} {v : Value} (h : w.cell? p = some v) (hf : Fr [] w w') : w'.cell? p = some v := by
  rw [World.cell?_of_block (w := w) (hf.block _ (World.block_lt_of_cell? w _ h) (by simp))]; exact h
theorem store3 {W : World} {g : Nat} {x y z a b c : Value} {T : TypeId} (h : W.heap[g]? = some (.cells #[x, y, z] T (0, 0))) : (((W.setCell ⟨g, 0, none⟩ a).setCell ⟨g, 1, none⟩ b).setCell ⟨g, 2, none⟩ c).heap[g]? = some (.cells #[a, b, c] T (0, 0)) := by
  rw [blk_set (blk_set (blk_set h 0 a) 1 b) 2 c]; rfl
theorem fr3 {w W : World} {g : Nat} (h : Fr [] w W) (hg : w.heap.size ≤ g) (a b c : Value) : Fr [] w (((W.setCell ⟨g, 0, none⟩ a).setCell ⟨g, 1, none⟩ b).setCell ⟨g, 2, none⟩ c) :=
  ((h.set _ _ (.inr hg)).set _ _ (.inr hg)).set _ _ (.inr hg)
theorem sizeFrag : (Tryd.prog.info? 55).map (·.size) = some 3 := by kernel_rfl
theorem load_frag {w : World} {g : Nat} {a b c : Value} {t : TypeId} (hg : w.heap[g]? = some (.cells #[a, b, c] t (0, 0))) : (loadVar 55 ⟨g, 0, none⟩).run Tryd.prog w = .ok (.agg #[a, b, c]) w :=
  run_loadVar_row w g t 55 #[a, b, c] (0, 0) _ hg Tryd.underlying55 rfl sizeFrag
theorem ret_ct {fn : Func} {p u : Tmp} {ty : TypeId} (h : fn.results = #[.cell p ty, .tmp u]) {tmps : Array Value} {w : World} {g : Nat} {cs : Array Value} (hp : tmps.getD p undef = .pointer (some ⟨g, 0, none⟩)) (hg : (loadVar ty ⟨g, 0, none⟩).run Tryd.prog w = .ok (.agg cs) w) :
    (results fn tmps).run Tryd.prog w = .ok (.tuple #[.agg cs, tmps.getD u undef]) w := by
  rw [results_cell_tmp h, hp]
  simp [asAddr, hg]

set_option maxRecDepth 20000 in
set_option maxHeartbeats 800000 in
theorem find_short (w : World) {v : Value} {b : List Nat} (hr : Rd w v (bv b)) {t : Nat} (ht : t ≤ b.length) (hl : b.length ≤ 4194304) (hs : b.length < t + zr t + 7) :
    Calls Tryd.prog 28 #[v, .int .i64 (t : Int)] w fun r w' => r = .returned (.tuple #[.agg #[.int .u8 0, .slice none 0 0, .int .i64 0], .bool false]) ∧ Fr [] w w' := by
  obtain ⟨a, c, hv⟩ := hr.form
  rw [bv_len] at hv
  subst hv
  have h1 := lf_ge t
  have h2 := lf_le t
  have h3 := zr_le t
  have RC := fun w => room_nat w t (by omega)
  generalize zr t = z at *
  generalize lf t = l at *
  have k1 : (b.length : Int) - ((t : Int) + (z : Int)) < (l : Int) := by omega
  have k2 : (b.length : Int) - ((t : Int) + (z : Int)) < 7 := by omega
  have RCH := hid RC
  clear hr RC
  go_enter Tryd.func28, Tryd.ntmps28
  go_wp2_with (go_at_call 23; refine (RCH.out _).mono ?_; rintro e w1 ⟨rfl, rfl⟩)
  exact bodyPost_ret (ret_ct rfl rfl (load_frag (blk_new _ _))) rfl ⟨rfl, (Fr.refl _ _).alloc _⟩

/-- What find has in hand behind the bytes 0. -/
theorem frag0 {w w1 : World} (f : Fr [] (w.alloc (.cells #[.int .u8 0, .slice none 0 0, .int .i64 0] 55)) w1) : w1.heap[w.heap.size]? = some (.cells #[.int .u8 0, .slice none 0 0, .int .i64 0] 55 (0, 0)) :=
  f.at (blk_new w _) (by simp)
set_option maxRecDepth 20000 in
set_option maxHeartbeats 800000 in
theorem find_fill (w : World) {v : Value} {b : List Nat} (hr : Rd w v (bv b)) (hb : By b) {t : Nat} (hl : b.length ≤ 4194304) (hs : t + zr t + 7 ≤ b.length) (hz : ¬ ∀ x ∈ (b.drop t).take (zr t), x = 0) :
    Calls Tryd.prog 28 #[v, .int .i64 (t : Int)] w fun r w' => r = .returned (.tuple #[.agg #[.int .u8 0, .slice none 0 0, .int .i64 0], .bool false]) ∧ Fr [] w w' := by
  obtain ⟨q, off, c, rfl, hc⟩ := hr.place (by omega)
  have h1 := lf_ge t
  have h2 := lf_le t
  have h3 := zr_le t
  have RC := fun w => room_nat w t (by omega)
  have f0 : Fr [] w (w.alloc (.cells #[.int .u8 0, .slice none 0 0, .int .i64 0] 55)) := (Fr.refl [] w).alloc _
  have RZ := hid ((hr.mid (i := t) (n := zr t) (by omega)).fr f0)
  have BZ := hid ((hb.drop t).take (zr t))
  have LZ : ((b.drop t).take (zr t)).length ≤ 1000 := by rw [List.length_take]; omega
  have HZ := hid hz
  have F0 := hid f0
  clear hz f0 hr hb
  generalize (b.drop t).take (zr t) = zs at *
  generalize zr t = z at *
  generalize lf t = l at *
  have k0 : ¬ (c = t) := by omega
  have RCH := hid RC
  clear RC
  rcases (show (b.length : Int) - ((t : Int) + (z : Int)) < (l : Int) ∨ ¬ ((b.length : Int) - ((t : Int) + (z : Int)) < (l : Int)) from by omega) with k1 | k1
  all_goals
    have k3 : ¬ (b.length : Int) - ((t : Int) + (z : Int)) < 7 := by omega
    have k4 : ¬ (l : Int) < 7 := by omega
    have k5 : ((t : Int) + (z : Int)).toNat = t + z := by omega
    have k6 : t + z ≤ c := by omega
    have k7 : t + z - t = z := by omega
    go_enter Tryd.func28, Tryd.ntmps28
    go_wp2_with (first
      | (go_at_call 23; refine (RCH.out _).mono ?_; rintro e w1 ⟨rfl, rfl⟩)
      | (go_at_call 33
         refine (trim_c RZ.out BZ.out LZ).mono ?_
         rintro e w2 ⟨a2, n2, c2, rfl, f2, hz2⟩
         have hn2 : 0 < n2 := Nat.pos_of_ne_zero fun e => HZ.out (hz2.1 e)
         have F2 := hid f2
         have hg := frag0 f2
         have g0 := blk_cell hg 0
         have g1 := blk_cell hg 1
         have g2 := blk_cell hg 2
         have z0 := blk_frozen hg 0
         have z1 := blk_frozen hg 1
         have z2 := blk_frozen hg 2
         simp at g0 g1 g2
         have HG := hid hg
         clear hz2 f2 hg))
    exact bodyPost_ret (ret_ct rfl rfl (load_frag (store3 HG.out))) rfl ⟨rfl, fr3 (F0.out.trans F2.out) (Nat.le_refl _) _ _ _⟩
end Go.Proofs.YtplghoibadmdjaaDoor
