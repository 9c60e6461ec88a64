/-
  Package manifest: dropped and placed tables are taken.
-/
import Derived.Test.YtegbngbhmgbocaaGreatDoorJ18
namespace Go.Proofs.YtegbngbhmgbocaaGreatDoor
open Go.ChangeShapes Go.WideShapes Go.ChangeAt Go.RowKit

theorem ret_c9 {fn : Func} {p : Tmp} {ty : TypeId} (h : fn.results = #[.cell p ty]) {tmps : Array Value} {w : World} {g : Nat} {cs : Array Value} (hp : tmps.getD p undef = .pointer (some ⟨g, 0, none⟩)) (hg : (loadVar ty ⟨g, 0, none⟩).run Tryz.prog w = .ok (.agg cs) w) :
    (results fn tmps).run Tryz.prog w = .ok (.agg cs) w := by
  have hp' : tmps[p]?.getD undef = .pointer (some ⟨g, 0, none⟩) := by simpa using hp
  simp [results, h, hp', asAddr, hg]
theorem sizeGone : (Tryz.prog.info? 45).map (·.size) = some 2 := by kernel_rfl
theorem sizePlaced : (Tryz.prog.info? 64).map (·.size) = some 5 := by kernel_rfl
theorem load_gone {w : World} {g : Nat} {a b : Value} {t : TypeId} (hg : w.heap[g]? = some (.cells #[a, b] t (0, 0))) : (loadVar 45 ⟨g, 0, none⟩).run Tryz.prog w = .ok (.agg #[a, b]) w :=
  run_loadVar_row w g t 45 #[a, b] (0, 0) _ hg Tryz.underlying45 rfl sizeGone
theorem load_placed {w : World} {g : Nat} {a b c d e : Value} {t : TypeId} (hg : w.heap[g]? = some (.cells #[a, b, c, d, e] t (0, 0))) : (loadVar 64 ⟨g, 0, none⟩).run Tryz.prog w = .ok (.agg #[a, b, c, d, e]) w :=
  run_loadVar_row w g t 64 #[a, b, c, d, e] (0, 0) _ hg Tryz.underlying64 rfl sizePlaced

set_option maxRecDepth 20000 in
set_option maxHeartbeats 1600000 in
theorem goneM_c {ws w : World} {t : Nat} {s : Option (List Nat)} (h : TkM ws w t s) :
    Calls Tryz.prog 28 #[.pointer (some ⟨t, 0, none⟩)] w fun r w' => r = .returned (.agg #[.int .i64 (gnS s).1.1, .int .i64 (gnS s).1.2]) ∧ TkM ws w' t (gnS s).2 ∧ Fr [t] w w' := by
  obtain ⟨W, hW⟩ : ∃ W, W = w.alloc (.cells #[.int .i64 0, .int .i64 0] 45) := ⟨_, rfl⟩
  have T0 : Hid (TkM ws W t s) := hid (by rw [hW]; exact h.fr ((Fr.refl [] w).alloc _))
  have F0 : Hid (Fr [t] w W) := hid (by rw [hW]; exact (Fr.refl _ w).alloc _)
  have N0 : Hid (W.heap[w.heap.size]? = some (.cells #[.int .i64 0, .int .i64 0] 45 (0, 0))) := hid (by rw [hW]; exact blk_new _ _)
  have HTL := hid h.lt
  have hg : gnS s = ((((nmS s).1 : Int), ((nmS (nmS s).2).1 : Int)), (nmS (nmS s).2).2) := rfl
  rw [hg]
  obtain ⟨n1, hn1⟩ : ∃ n, n = (nmS s).1 := ⟨_, rfl⟩
  obtain ⟨s1, hs1⟩ : ∃ x, x = (nmS s).2 := ⟨_, rfl⟩
  have C1 := hid (numberM_c T0.out)
  rw [← hn1, ← hs1] at C1
  rw [← hn1, ← hs1]
  obtain ⟨n2, hn2⟩ : ∃ n, n = (nmS s1).1 := ⟨_, rfl⟩
  obtain ⟨s2, hs2⟩ : ∃ x, x = (nmS s1).2 := ⟨_, rfl⟩
  have C2 : Hid (∀ w1, TkM ws w1 t s1 → Calls Tryz.prog 25 #[.pointer (some ⟨t, 0, none⟩)] w1 fun r w' => r = .returned (.int .i64 (n2 : Int)) ∧ TkM ws w' t s2 ∧ Fr [t] w1 w') := hid (fun w1 h1 => by rw [hn2, hs2]; exact numberM_c h1)
  rw [← hn2, ← hs2]
  clear h hg hn1 hs1 hn2 hs2
  go_enter Tryz.func28, Tryz.ntmps28
  go_upto_region 1 with fail
  rw [← hW]
  clear hW
  go_wp2_with fail
  refine C1.out.mono ?_
  rintro r w1 ⟨rfl, t1, f1⟩
  have C2' := hid (C2.out w1 t1)
  have F1 := hid f1
  clear t1 f1
  go_wp2_with fail
  refine C2'.out.mono ?_
  rintro r w2 ⟨rfl, t2, f2⟩
  have T2 := hid t2
  have F2 := hid (F1.out.trans f2)
  have N2 := hid (F2.out.at N0.out (by simp; have := HTL.out; omega))
  have d0 := blk_cell N2.out 0
  have d1 := blk_cell N2.out 1
  have z0 := blk_frozen N2.out 0
  have z1 := blk_frozen N2.out 1
  simp at d0 d1
  clear t2 f2
  go_wp2
  refine bodyPost_ret (ret_c9 rfl rfl (load_gone (by rw [blk_set (blk_set N2.out 0 _) 1 _]; rfl))) rfl ⟨rfl, T2.out.keep ?_ ?_, ?_⟩
  · rw [blk_setne _ _ _ (by have := HTL.out; omega), blk_setne _ _ _ (by have := HTL.out; omega)]
  · have hle : ws.heap.size ≤ w.heap.size := by have := T2.out.2.2; have := HTL.out; omega
    exact (T2.out.2.1.set _ _ (.inr hle)).set _ _ (.inr hle)
  · exact ((F0.out.trans F2.out).set _ _ (.inr (Nat.le_refl _))).set _ _ (.inr (Nat.le_refl _))

set_option maxRecDepth 20000 in
set_option maxHeartbeats 3200000 in
theorem placedM_c {ws w : World} {t : Nat} {s : Option (List Nat)} (h : TkM ws w t s) :
    Calls Tryz.prog 30 #[.pointer (some ⟨t, 0, none⟩)] w fun r w' => (∃ la lc ma mc, r = .returned (.agg #[.int .i64 (plS s).1.1, .int .i64 (plS s).1.2.num, .int .i64 (plS s).1.2.size, .slice la (plS s).1.2.least.length lc, .slice ma (plS s).1.2.most.length mc]) ∧ w'.ownsRow w.heap.size 5 1 (.slice la (plS s).1.2.least.length lc) (plS s).1.2.least.length (bv (plS s).1.2.least) ∧ w'.ownsRow w.heap.size 5 1 (.slice ma (plS s).1.2.most.length mc) (plS s).1.2.most.length (bv (plS s).1.2.most)) ∧ TkM ws w' t (plS s).2 ∧ Fr [t] w w' := by
  obtain ⟨W, hW⟩ : ∃ W, W = w.alloc (.cells #[.int .i64 0, .int .i64 0, .int .i64 0, .slice none 0 0, .slice none 0 0] 64) := ⟨_, rfl⟩
  have T0 : Hid (TkM ws W t s) := hid (by rw [hW]; exact h.fr ((Fr.refl [] w).alloc _))
  have F0 : Hid (Fr [t] w W) := hid (by rw [hW]; exact (Fr.refl _ w).alloc _)
  have N0 : Hid (W.heap[w.heap.size]? = some (.cells #[.int .i64 0, .int .i64 0, .int .i64 0, .slice none 0 0, .slice none 0 0] 64 (0, 0))) := hid (by rw [hW]; exact blk_new _ _)
  have HTL := hid h.lt
  have hws : ws.heap.size ≤ w.heap.size := by have := h.2.2; have := h.lt; omega
  have HWS := hid hws
  obtain ⟨n1, hn1⟩ : ∃ n, n = (nmS s).1 := ⟨_, rfl⟩
  obtain ⟨s1, hs1⟩ : ∃ x, x = (nmS s).2 := ⟨_, rfl⟩
  obtain ⟨n2, hn2⟩ : ∃ n, n = (nmS s1).1 := ⟨_, rfl⟩
  obtain ⟨s2, hs2⟩ : ∃ x, x = (nmS s1).2 := ⟨_, rfl⟩
  obtain ⟨n3, hn3⟩ : ∃ n, n = (nmS s2).1 := ⟨_, rfl⟩
  obtain ⟨s3, hs3⟩ : ∃ x, x = (nmS s2).2 := ⟨_, rfl⟩
  obtain ⟨k1, hk1⟩ : ∃ n, n = (kyS s3).1 := ⟨_, rfl⟩
  obtain ⟨s4, hs4⟩ : ∃ x, x = (kyS s3).2 := ⟨_, rfl⟩
  obtain ⟨k2, hk2⟩ : ∃ n, n = (kyS s4).1 := ⟨_, rfl⟩
  obtain ⟨s5, hs5⟩ : ∃ x, x = (kyS s4).2 := ⟨_, rfl⟩
  have hg : plS s = (((n1 : Int), ⟨(n2 : Int), (n3 : Int), k1, k2⟩), s5) := by unfold plS; rw [hs5, hk2, hs4, hk1, hs3, hn3, hs2, hn2, hs1, hn1]
  rw [hg]
  have C1 : Hid (Calls Tryz.prog 25 #[.pointer (some ⟨t, 0, none⟩)] W fun r w' => r = .returned (.int .i64 (n1 : Int)) ∧ TkM ws w' t s1 ∧ Fr [t] W w') := hid (by rw [hn1, hs1]; exact numberM_c T0.out)
  have C2 : Hid (∀ w1, TkM ws w1 t s1 → Calls Tryz.prog 25 #[.pointer (some ⟨t, 0, none⟩)] w1 fun r w' => r = .returned (.int .i64 (n2 : Int)) ∧ TkM ws w' t s2 ∧ Fr [t] w1 w') := hid (fun w1 h1 => by rw [hn2, hs2]; exact numberM_c h1)
  have C3 : Hid (∀ w1, TkM ws w1 t s2 → Calls Tryz.prog 25 #[.pointer (some ⟨t, 0, none⟩)] w1 fun r w' => r = .returned (.int .i64 (n3 : Int)) ∧ TkM ws w' t s3 ∧ Fr [t] w1 w') := hid (fun w1 h1 => by rw [hn3, hs3]; exact numberM_c h1)
  have C4 : Hid (∀ w1, TkM ws w1 t s3 → Calls Tryz.prog 60 #[.pointer (some ⟨t, 0, none⟩)] w1 fun r w' => (∃ a c, r = .returned (.slice a k1.length c) ∧ w'.ownsRow w1.heap.size 5 1 (.slice a k1.length c) k1.length (bv k1)) ∧ TkM ws w' t s4 ∧ Fr [t] w1 w') := hid (fun w1 h1 => by rw [hk1, hs4]; exact keyM_c h1)
  have C5 : Hid (∀ w1, TkM ws w1 t s4 → Calls Tryz.prog 60 #[.pointer (some ⟨t, 0, none⟩)] w1 fun r w' => (∃ a c, r = .returned (.slice a k2.length c) ∧ w'.ownsRow w1.heap.size 5 1 (.slice a k2.length c) k2.length (bv k2)) ∧ TkM ws w' t s5 ∧ Fr [t] w1 w') := hid (fun w1 h1 => by rw [hk2, hs5]; exact keyM_c h1)
  obtain ⟨l1, hl1⟩ : ∃ l, l = k1.length := ⟨_, rfl⟩
  obtain ⟨l2, hl2⟩ : ∃ l, l = k2.length := ⟨_, rfl⟩
  simp only [← hl1] at C4 ⊢
  simp only [← hl2] at C5 ⊢
  clear h hg hn1 hs1 hn2 hs2 hn3 hs3 hk1 hs4 hk2 hs5 hws hl1 hl2
  go_enter Tryz.func30, Tryz.ntmps30
  go_upto_region 1 with fail
  rw [← hW]
  clear hW
  go_wp2_with fail
  refine C1.out.mono ?_
  rintro r w1 ⟨rfl, t1, f1⟩
  have D2 := hid (C2.out w1 t1)
  have F1 := hid f1
  clear t1 f1
  go_wp2_with fail
  refine D2.out.mono ?_
  rintro r w2 ⟨rfl, t2, f2⟩
  have D3 := hid (C3.out w2 t2)
  have F2 := hid (F1.out.trans f2)
  clear t2 f2
  go_wp2_with fail
  refine D3.out.mono ?_
  rintro r w3 ⟨rfl, t3, f3⟩
  have D4 := hid (C4.out w3 t3)
  have F3 := hid (F2.out.trans f3)
  clear t3 f3
  go_wp2_with fail
  refine D4.out.mono ?_
  rintro r w4 ⟨⟨a4, c4, rfl, o4⟩, t4, f4⟩
  have D5 := hid (C5.out w4 t4)
  have F4 := hid (F3.out.trans f4)
  have O4 := hid o4
  have hs3' := F3.out.size
  have hs4' := f4.size
  clear t4 f4 o4
  go_wp2_with fail
  refine D5.out.mono ?_
  rintro r w5 ⟨⟨a5, c5, rfl, o5⟩, t5, f5⟩
  have hN := blk_lt N0.out
  obtain ⟨w6, hw6⟩ : ∃ w6, w6 = w5.alloc (.cells #[.int .i64 (n2 : Int), .int .i64 (n3 : Int), .slice a4 l1 c4, .slice a5 l2 c5] 62) := ⟨_, rfl⟩
  have F6 : Hid (Fr [t] W w6) := hid (by rw [hw6]; exact (F4.out.trans f5).alloc _)
  have T6 : Hid (TkM ws w6 t s5) := hid (by rw [hw6]; exact t5.fr ((Fr.refl [] w5).alloc _))
  have O5 : Hid (w6.ownsRow (w.heap.size + 1) 5 1 (.slice a5 l2 c5) l2 (bv k2)) := hid (by rw [hw6]; exact ownsRow_base (ownsRow_fr o5 ((Fr.refl [] w5).alloc _)) (by omega))
  have O46 : Hid (w6.ownsRow (w.heap.size + 1) 5 1 (.slice a4 l1 c4) l1 (bv k1)) := hid (by
    have o45 : w5.ownsRow w3.heap.size 5 1 (.slice a4 l1 c4) l1 (bv k1) := ownsRow_of_block O4.out fun k hk => f5.block k (O4.out.lt k hk).2 (by have := (O4.out.lt k hk).1; have := HTL.out; simp; omega)
    rw [hw6]; exact ownsRow_base (ownsRow_fr o45 ((Fr.refl [] w5).alloc _)) (by omega))
  have N6 := hid (F6.out.at N0.out (by simp; have := HTL.out; omega))
  have X6 : Hid (w6.heap[w5.heap.size]? = some (.cells #[.int .i64 (n2 : Int), .int .i64 (n3 : Int), .slice a4 l1 c4, .slice a5 l2 c5] 62 (0, 0))) := hid (by rw [hw6]; exact blk_new _ _)
  have d0 := blk_cell N6.out 0
  have d1 := blk_cell N6.out 1
  have d2 := blk_cell N6.out 2
  have d3 := blk_cell N6.out 3
  have d4 := blk_cell N6.out 4
  have z0 := blk_frozen N6.out 0
  have z1 := blk_frozen N6.out 1
  have z2 := blk_frozen N6.out 2
  have z3 := blk_frozen N6.out 3
  have z4 := blk_frozen N6.out 4
  have x0 := blk_cell X6.out 0
  have x1 := blk_cell X6.out 1
  have x2 := blk_cell X6.out 2
  have x3 := blk_cell X6.out 3
  simp at d0 d1 d2 d3 d4 x0 x1 x2 x3
  clear t5 f5 o5
  go_upto_region 3 with fail
  rw [← hw6]
  clear hw6
  go_wp2
  refine bodyPost_ret (ret_c9 rfl rfl (load_placed (by rw [blk_set (blk_set (blk_set (blk_set (blk_set N6.out 0 _) 1 _) 2 _) 3 _) 4 _]; rfl))) rfl ⟨⟨a4, c4, a5, c5, rfl, ?_, ?_⟩, T6.out.keep ?_ ?_, ?_⟩
  · exact ownsRow_base (own_set (own_set (own_set (own_set (own_set O46.out (Nat.lt_succ_self _)) (Nat.lt_succ_self _)) (Nat.lt_succ_self _)) (Nat.lt_succ_self _)) (Nat.lt_succ_self _)) (Nat.le_succ _)
  · exact ownsRow_base (own_set (own_set (own_set (own_set (own_set O5.out (Nat.lt_succ_self _)) (Nat.lt_succ_self _)) (Nat.lt_succ_self _)) (Nat.lt_succ_self _)) (Nat.lt_succ_self _)) (Nat.le_succ _)
  · have hne : t ≠ w.heap.size := by have := HTL.out; omega
    rw [blk_setne _ _ _ hne, blk_setne _ _ _ hne, blk_setne _ _ _ hne, blk_setne _ _ _ hne, blk_setne _ _ _ hne]
  · have hle := HWS.out
    exact ((((T6.out.2.1.set _ _ (.inr hle)).set _ _ (.inr hle)).set _ _ (.inr hle)).set _ _ (.inr hle)).set _ _ (.inr hle)
  · have hle := Nat.le_refl w.heap.size
    exact (((((F0.out.trans F6.out).set _ _ (.inr hle)).set _ _ (.inr hle)).set _ _ (.inr hle)).set _ _ (.inr hle)).set _ _ (.inr hle)
end Go.Proofs.YtegbngbhmgbocaaGreatDoor
