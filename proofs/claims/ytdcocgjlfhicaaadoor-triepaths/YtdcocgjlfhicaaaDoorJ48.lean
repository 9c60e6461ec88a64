/-
  What package trie is known to tell: the document's empty root; a key and its value as literals.
-/
import Derived.Test.YtdcocgjlfhicaaaDoorJ45
import Derived.Test.YtdcocgjlfhicaaaDoorRS
import Derived.Lib.SlBytesConst
namespace Go.Proofs.YtdcocgjlfhicaaaDoor
open Go.ChangeShapes Go.WideShapes Go.ChangeAt Go.RowKit

theorem alloc32T (w : World) : (Instr.alloc 36 true (.tuple #[])).run Tryd.prog w = .ok (.pointer (some ⟨w.heap.size, 0, none⟩)) (w.alloc (.cells (bvals 32 (fun _ => 0)) 36)) := by kernel_rfl
/-- A hash is laid into a variable. -/
theorem wpList_made32T {ops : Array Oper} {rest : List Oper} {o1 o2 : Oper} {a : Act} {w : World} {Q : Exit → Act → World → Prop} {t1 t2 : Tmp} {g : Nat → Nat} (g1 : o1.guard = none) (g2 : o2.guard = none) (h1 : o1.op = .alloc 36) (h2 : o2.op = .store 36 (.tmp t1) (.tmp t2)) (d1 : o1.dst = some t1) (d2 : o2.dst = none)
    (hx : (a.put (some t1) (.pointer (some ⟨w.heap.size, 0, none⟩))).eval (.tmp t1) = .pointer (some ⟨w.heap.size, 0, none⟩)) (hy : (a.put (some t1) (.pointer (some ⟨w.heap.size, 0, none⟩))).eval (.tmp t2) = .agg (bvals 32 g))
    (h : wpList Tryd.prog ops Q rest ((a.put (some t1) (.pointer (some ⟨w.heap.size, 0, none⟩))).put none undef) (w.alloc (.cells (bvals 32 g) 36))) : wpList Tryd.prog ops Q (o1 :: o2 :: rest) a w := by
  refine wpList_plain g1 fun K hK => ?_
  unfold Oper.wp execOp
  simp only [h1, Sem.run_bind, alloc32T, Result.andThen_ok, Sem.run_pure]
  rw [Oper.upon_value, d1]
  refine hK _ _ ?_
  refine wpList_plain g2 fun K hK => ?_
  unfold Oper.wp execOp
  have hs := stVar32 (g := g) (heap_alloc_last w (.cells (bvals 32 (fun _ => 0)) 36))
  rw [World.setRow_alloc_new] at hs
  simp only [h2, hx, hy, Instr.storeAt, Instr.sureAddr, Sem.run_bind, Sem.run_pure, Result.andThen_ok, hs]
  rw [Oper.upon_skip, d2]
  exact hK _ _ h
set_option maxRecDepth 20000 in
set_option maxHeartbeats 1600000 in
theorem rempty_c (w : World) (f : Nat → Nat) (hf : f = hashOf [128]) :
    Calls Tryd.prog 33 #[] w fun e w' => e = .returned (.agg (bvals 32 f)) ∧ Fr [] w w' := by
  have HFH := hid hf
  clear hf
  go_enter Tryd.func33, Tryd.ntmps33
  go_upto_region 1 with fail
  rw [zero32]
  have HR : Hid ((w.alloc (.cells (bvals 32 (fun _ => 0)) 36)).heap[w.heap.size]? = some (.cells (bvals 32 (fun _ => 0)) 36 (0, 0))) := blk_new _ _
  have HF : Hid (Fr [] w (w.alloc (.cells (bvals 32 (fun _ => 0)) 36))) := (Fr.refl _ _).alloc _
  generalize w.alloc (.cells (bvals 32 (fun _ => 0)) 36) = w1 at HR HF ⊢
  have RV : Hid (Rd (w1.alloc (.cells #[.int .u8 128] 5)) (.slice (some ⟨w1.heap.size, 0, none⟩) 1 1) (bv [128])) := by
    refine .inr ⟨_, _, rfl, by simp [bv], fun j u hj => ?_⟩
    rw [Addr.add_lit, Nat.zero_add, blk_cell (blk_new _ _), ← Array.getElem?_toList]
    exact hj
  have F2 : Hid (Fr [] w (w1.alloc (.cells #[.int .u8 128] 5))) := HF.out.alloc _
  have HR2 : Hid ((w1.alloc (.cells #[.int .u8 128] 5)).heap[w.heap.size]? = some (.cells (bvals 32 (fun _ => 0)) 36 (0, 0))) := hid (blk_frT HR.out ((Fr.refl _ _).alloc _))
  have SC := hid (refSum_c _ RV.out (fun x hx => by simp at hx; omega) (by simp))
  rw [← HFH.out] at SC
  clear RV
  go_wp2_with fail
  refine SC.out.mono ?_
  rintro e w3 ⟨rfl, f3⟩
  have HR3 := hid (blk_frT HR2.out f3)
  have F3 := hid (F2.out.trans f3)
  clear f3 SC F2 HR2
  rename_i hK
  refine hK _ _ ?_
  refine wpList_stH (g := f) rfl (.tmp 0) (.tmp 2) rfl HR3.out (by simp [Act.eval]) (by simp [Act.eval]) ?_
  have RH := hid (brow_heap (g := f) HR3.out)
  have RF := hid (F3.out.rowT (bvals 32 f) (.inr (Nat.le_refl w.heap.size)))
  generalize World.setRow w3 w.heap.size (bvals 32 f) = w7 at RH RF ⊢
  clear HR3 F3 hK
  go_wp2
  exact bodyPost_ret (v := .agg (bvals 32 f)) (retH rfl RH.out rfl) rfl ⟨rfl, RF.out⟩
end Go.Proofs.YtdcocgjlfhicaaaDoor
namespace Go.Proofs.YtdcocgjlfhicaaaDoor
open Go.ChangeShapes Go.WideShapes Go.ChangeAt Go.RowKit

/-- Bytes of a literal, as they are laid. -/
theorem Rd.lit (w : World) (k : List Nat) (fz : Nat × Nat) : Rd (w.alloc (.cells (bv k).toArray 5 fz)) (.slice (some ⟨w.heap.size, 0, none⟩) k.length k.length) (bv k) :=
  .inr ⟨_, _, by rw [bv_len], by rw [bv_len]; exact Nat.le_refl _, fun j u hj => by
    rw [Addr.add_lit, Nat.zero_add, World.cell?_alloc_mark, ← Array.getElem?_toList]
    exact hj⟩
theorem putLit_c (w : World) {S : Nat → Prop} {tb : Nat} {g : Value} {n : Nd} (HT : Tabs w) (ht : TrieI S w tb g n) (k x : List Nat) (fk fx : Nat × Nat) (hkb : By k) (hkl : k.length ≤ 64) (hvb : By x) (hv1 : 1 ≤ x.length) (hvl : x.length ≤ 1024) :
    Calls Tryd.prog 21 #[.pointer (some ⟨tb, 0, none⟩), .slice (some ⟨w.heap.size, 0, none⟩) k.length k.length, .slice (some ⟨w.heap.size + 1, 0, none⟩) x.length x.length] ((w.alloc (.cells (bv k).toArray 5 fk)).alloc (.cells (bv x).toArray 5 fx)) fun e w' => e = .returned (.int .i64 0) ∧ (∃ S', TrieI S' w' tb g (putT n (nibF k) x)) ∧ Fr [tb] w w' := by
  have F1 : Fr [] w (w.alloc (.cells (bv k).toArray 5 fk)) := (Fr.refl _ _).alloc _
  have F2 : Fr [] w ((w.alloc (.cells (bv k).toArray 5 fk)).alloc (.cells (bv x).toArray 5 fx)) := F1.alloc _
  have R1 := (Rd.lit w k fk).fr ((Fr.refl _ (w.alloc (.cells (bv k).toArray 5 fk))).alloc (.cells (bv x).toArray 5 fx))
  have R2 := Rd.lit (w.alloc (.cells (bv k).toArray 5 fk)) x fx
  rw [show (w.alloc (.cells (bv k).toArray 5 fk)).heap.size = w.heap.size + 1 by simp] at R2
  refine (Put_c _ (HT.fr F2) (ht.fr F2) R1 hkb hkl R2 hvb hv1 hvl).mono ?_
  rintro e w' ⟨rfl, ⟨S', h, _⟩, f⟩
  exact ⟨rfl, ⟨S', h⟩, (F2.mono (by simp)).trans f⟩
theorem put1_c (w : World) {S : Nat → Prop} {tb : Nat} {g : Value} (HT : Tabs w) (ht : TrieI S w tb g (.nil)) :
    Calls Tryd.prog 21 #[.pointer (some ⟨tb, 0, none⟩), .slice (some ⟨w.heap.size, 0, none⟩) 2 2, .slice (some ⟨w.heap.size + 1, 0, none⟩) 4 4] ((w.alloc (.cells #[.int .u8 100, .int .u8 111] 5 (2, 3))).alloc (.cells #[.int .u8 118, .int .u8 101, .int .u8 114, .int .u8 98] 5 (4, 5))) fun e w' => e = .returned (.int .i64 0) ∧ (∃ S', TrieI S' w' tb g wT1) ∧ Fr [tb] w w' :=
  putLit_c w HT ht [100, 111] [118, 101, 114, 98] _ _ (by unfold By; decide) (by decide) (by unfold By; decide) (by decide) (by decide)
theorem put2_c (w : World) {S : Nat → Prop} {tb : Nat} {g : Value} (HT : Tabs w) (ht : TrieI S w tb g (wT1)) :
    Calls Tryd.prog 21 #[.pointer (some ⟨tb, 0, none⟩), .slice (some ⟨w.heap.size, 0, none⟩) 3 3, .slice (some ⟨w.heap.size + 1, 0, none⟩) 5 5] ((w.alloc (.cells #[.int .u8 100, .int .u8 111, .int .u8 103] 5 (3, 4))).alloc (.cells #[.int .u8 112, .int .u8 117, .int .u8 112, .int .u8 112, .int .u8 121] 5 (5, 6))) fun e w' => e = .returned (.int .i64 0) ∧ (∃ S', TrieI S' w' tb g wT2) ∧ Fr [tb] w w' :=
  putLit_c w HT ht [100, 111, 103] [112, 117, 112, 112, 121] _ _ (by unfold By; decide) (by decide) (by unfold By; decide) (by decide) (by decide)
theorem put3_c (w : World) {S : Nat → Prop} {tb : Nat} {g : Value} (HT : Tabs w) (ht : TrieI S w tb g (wT2)) :
    Calls Tryd.prog 21 #[.pointer (some ⟨tb, 0, none⟩), .slice (some ⟨w.heap.size, 0, none⟩) 4 4, .slice (some ⟨w.heap.size + 1, 0, none⟩) 4 4] ((w.alloc (.cells #[.int .u8 100, .int .u8 111, .int .u8 103, .int .u8 101] 5 (4, 5))).alloc (.cells #[.int .u8 99, .int .u8 111, .int .u8 105, .int .u8 110] 5 (4, 5))) fun e w' => e = .returned (.int .i64 0) ∧ (∃ S', TrieI S' w' tb g wT3) ∧ Fr [tb] w w' :=
  putLit_c w HT ht [100, 111, 103, 101] [99, 111, 105, 110] _ _ (by unfold By; decide) (by decide) (by unfold By; decide) (by decide) (by decide)
theorem put4_c (w : World) {S : Nat → Prop} {tb : Nat} {g : Value} (HT : Tabs w) (ht : TrieI S w tb g (wT3)) :
    Calls Tryd.prog 21 #[.pointer (some ⟨tb, 0, none⟩), .slice (some ⟨w.heap.size, 0, none⟩) 5 5, .slice (some ⟨w.heap.size + 1, 0, none⟩) 8 8] ((w.alloc (.cells #[.int .u8 104, .int .u8 111, .int .u8 114, .int .u8 115, .int .u8 101] 5 (5, 6))).alloc (.cells #[.int .u8 115, .int .u8 116, .int .u8 97, .int .u8 108, .int .u8 108, .int .u8 105, .int .u8 111, .int .u8 110] 5 (8, 9))) fun e w' => e = .returned (.int .i64 0) ∧ (∃ S', TrieI S' w' tb g wT4) ∧ Fr [tb] w w' :=
  putLit_c w HT ht [104, 111, 114, 115, 101] [115, 116, 97, 108, 108, 105, 111, 110] _ _ (by unfold By; decide) (by decide) (by unfold By; decide) (by decide) (by decide)
theorem getDog_c (w : World) {S : Nat → Prop} {tb : Nat} {g : Value} (ht : TrieI S w tb g wT4) :
    Calls Tryd.prog 36 #[.pointer (some ⟨tb, 0, none⟩), .slice (some ⟨w.heap.size, 0, none⟩) 3 3] (w.alloc (.cells #[.int .u8 100, .int .u8 111, .int .u8 103] 5 (3, 4))) fun e w' => ∃ a c, e = .returned (.tuple #[.slice a 5 c, .bool true, .int .i64 0]) ∧ Rd w' (.slice a 5 c) (bv [112, 117, 112, 112, 121]) ∧ Fr [] w w' := by
  have F1 : Fr [] w (w.alloc (.cells (bv [100, 111, 103]).toArray 5 (3, 4))) := (Fr.refl _ _).alloc _
  refine (Get_c _ (ht.fr F1) (Rd.lit w [100, 111, 103] (3, 4)) (by unfold By; decide) (by decide) (by rw [wT4_find]; decide)).mono ?_
  rintro e w' ⟨v', rfl, h, f⟩
  rw [wT4_find] at h ⊢
  obtain ⟨a, c, e1⟩ := h.form
  rw [bv_len] at e1
  subst e1
  exact ⟨a, c, rfl, h, F1.trans f⟩
theorem str_puppy : strOf [112, 117, 112, 112, 121] = ⟨#[112, 117, 112, 112, 121]⟩ := by decide
set_option maxRecDepth 20000 in
set_option maxHeartbeats 6400000 in
theorem known_c (w : World) (HT : Tabs w) (f : Nat → Nat) (hf : f = hashOf [128]) (G : Nat → Nat) (hG : G = hashOf trRX) :
    Calls Tryd.prog 9 #[] w fun e w' => e = .returned (.bool true) ∧ Fr [] w w' := by
  have HTH := hid HT
  have EM := hid (fun (w1 : World) (g : Fr [] w w1) => empty_c w1 (HT.fr g))
  rw [← hf] at EM
  have NW := hid (fun (w1 : World) (g : Fr [] w w1) => new_cT w1 (HT.fr g) f hf)
  have RE := hid (fun (w1 : World) => rempty_c w1 f hf)
  have RT := hid (fun (w1 : World) (S : Nat → Prop) (tb : Nat) (g : Value) (h : TrieI S w1 tb g wT4) => Root_c w1 h wT4_ne wT4_ref)
  rw [← hG] at RT
  have HB := root_bytes
  rw [← hG] at HB
  obtain ⟨hb0, hb1, hb31⟩ := HB
  clear HT hf hG
  have kc := fun (w : World) (C : Array Value) (n c : Nat) => Lib.run_convert_bytes_const (P := Tryd.prog) w 22 5 C n c Tryd.underlying22 Tryd.underlying5
  have kc2 : ∀ (w : World) (o : Obj) (C : Array Value) (n c : Nat), (convert 22 22 (.slice (some ⟨w.heap.size + 1, 0, none⟩) n c)).run Tryd.prog ((w.alloc o).alloc (.cells C 5)) = .ok (.slice (some ⟨w.heap.size + 1, 0, none⟩) n c) ((w.alloc o).alloc (.cells C 5 (C.size, C.size + 1))) := fun w o C n c => by
    have := kc (w.alloc o) C n c
    rw [World.size_alloc] at this; exact this
  go_enter Tryd.func9, Tryd.ntmps9
  go_upto_region 2 with (first
    | (go_at_call 20; refine (EM.out _ (Fr.refl _ _)).mono ?_; rintro e w1 ⟨rfl, f1⟩; have F1 := hid f1; clear f1)
    | (go_at_call 19; refine (NW.out _ F1.out).mono ?_; rintro e w2 ⟨tb, gv, rfl, hT, hb, f2⟩; have HTI := hid hT; have HTB := hid (Nat.le_trans F1.out.size hb); have F2 := hid (F1.out.trans f2); clear hT hb f2 NW))
  go_wp2_with fail
  refine (put1_c _ (HTH.out.fr F2.out) HTI.out).mono ?_
  rintro e w3 ⟨rfl, ⟨S3, t3⟩, f3⟩
  have F3 := hid (F2.out.overT f3 HTB.out)
  have HT3 := hid t3
  clear f3 t3
  clear HTI F1
  go_wp2_with fail
  refine (put2_c _ (HTH.out.fr F3.out) HT3.out).mono ?_
  rintro e w4 ⟨rfl, ⟨S4, t4⟩, f4⟩
  have F4 := hid (F3.out.overT f4 HTB.out)
  have HT4 := hid t4
  clear f4 t4 HT3 F3
  go_wp2_with fail
  refine (put3_c _ (HTH.out.fr F4.out) HT4.out).mono ?_
  rintro e w5 ⟨rfl, ⟨S5, t5⟩, f5⟩
  have F5 := hid (F4.out.overT f5 HTB.out)
  have HT5 := hid t5
  clear f5 t5 HT4 F4
  go_wp2_with fail
  refine (put4_c _ (HTH.out.fr F5.out) HT5.out).mono ?_
  rintro e w6 ⟨rfl, ⟨S6, t6⟩, f6⟩
  have F6 := hid (F5.out.overT f6 HTB.out)
  have HT6 := hid t6
  clear f6 t6 HT5 F5
  go_wp2_with fail
  refine (RT.out w6 S6 tb gv HT6.out).mono ?_
  rintro e w7 ⟨rfl, f7⟩
  have F7 := hid (F6.out.trans f7)
  have HT7 := hid (HT6.out.fr f7)
  clear f7 RT
  rename_i hK
  refine hK _ _ ?_
  refine wpList_made32T (t1 := 2) (t2 := 47) (g := G) rfl rfl rfl rfl rfl rfl (by simp [Act.eval, Act.put]) (by simp [Act.eval, Act.put]) ?_
  have HR8 : Hid ((w7.alloc (.cells (bvals 32 G) 36)).heap[w7.heap.size]? = some (.cells (bvals 32 G) 36 (0, 0))) := hid (blk_new _ _)
  have F8 : Hid (Fr [] w (w7.alloc (.cells (bvals 32 G) 36))) := hid (F7.out.alloc _)
  have HT8 : Hid (TrieI S6 (w7.alloc (.cells (bvals 32 G) 36)) tb gv wT4) := hid (HT7.out.fr ((Fr.refl _ _).alloc _))
  generalize w7.alloc (.cells (bvals 32 G) 36) = w8 at HR8 F8 HT8 ⊢
  clear hK HT6 HT7 F6 F7
  go_wp2_with fail
  refine (getDog_c w8 HT8.out).mono ?_
  rintro e w9 ⟨ga, gc, rfl, hg, f9⟩
  have F9 := hid (F8.out.trans f9)
  have HR9 := hid (blk_frT HR8.out f9)
  have hcv := run_conv hg
  rw [str_puppy] at hcv
  clear f9 hg HT8 F8 HR8
  have r0 := blk_cell HR9.out 0
  have r1 := blk_cell HR9.out 1
  have r31 := blk_cell HR9.out 31
  rw [bvals_at _ (by omega)] at r0 r1 r31
  rw [hb0] at r0
  rw [hb1] at r1
  rw [hb31] at r31
  go_wp2_with fail
  refine (EM.out w9 F9.out).mono ?_
  rintro e w10 ⟨rfl, f10⟩
  have F10 := hid (F9.out.trans f10)
  clear f10 EM r0 r1 r31 hcv
  go_wp2_with fail
  refine (RE.out w10).mono ?_
  rintro e w11 ⟨rfl, f11⟩
  have F11 := hid (F10.out.trans f11)
  have heq := eqIn32 w11 f f (fun _ _ => rfl)
  clear f11
  go_wp2
  go_ret
  exact ⟨rfl, F11.out⟩
end Go.Proofs.YtdcocgjlfhicaaaDoor
namespace Go.Proofs.YtdcocgjlfhicaaaDoor
open Go.ChangeShapes Go.WideShapes Go.ChangeAt Go.RowKit

theorem beq_str (s t : ByteArray) : (s.toList == t.toList) = decide (s = t) := by
  by_cases h : s = t
  · subst h; simp
  · have : s.toList ≠ t.toList := fun e => h (by
      cases s with | mk a => cases t with | mk b =>
      have h1 : a.toList = b.toList := by simpa [ByteArray.toList_eq] using e
      rw [Array.toList_inj.1 h1])
    simp [this, h]

set_option maxHeartbeats 400000 in
theorem bytes_c {w : World} {v1 v2 : Value} {a b : List Nat} (h1 : Rd w v1 (bv a)) (h2 : Rd w v2 (bv b)) (ha : By a) (hb : By b) :
    Calls Tryd.prog 12 #[v1, v2] w fun e w' => e = .returned (.bool (decide (a = b))) ∧ w' = w := by
  have e1 := run_conv h1
  have e2 := run_conv h2
  have e3 : ((strOf a).toList == (strOf b).toList) = decide (a = b) := by
    rw [beq_str]
    by_cases h : a = b
    · subst h; simp
    · have : strOf a ≠ strOf b := fun e => h (strOf_inj ha hb e)
      simp [this, h]
  obtain ⟨a1, c1, rfl⟩ := h1.form
  obtain ⟨a2, c2, rfl⟩ := h2.form
  clear h1 h2 ha hb
  go_enter Tryd.func12, Tryd.ntmps12
  go_wp2
  go_ret
  exact ⟨rfl, rfl⟩
theorem alenHT : Tryd.prog.arrayLen 36 = 32 := by kernel_rfl
theorem elemHT (w : World) : (sizeOf (Tryd.prog.elem 36)).run Tryd.prog w = .ok 1 w := by kernel_rfl
theorem slice_hash (w : World) (p : Nat) : (Instr.sliceAt 36 (.pointer (some ⟨p, 0, none⟩)) none none none).run Tryd.prog w = .ok (.slice (some ⟨p, 0, none⟩) 32 32) w := slice_allT 36 32 alenHT elemHT (by kernel_rfl) w p 0
theorem Rd.hash {w : World} {p : Nat} {y : List Nat} {T : TypeId} (h : w.heap[p]? = some (.cells (bvals 32 (hashOf y)) T (0, 0))) : Rd w (.slice (some ⟨p, 0, none⟩) 32 32) (bv (hshF y)) := by
  rw [hash_bv] at h
  refine .inr ⟨_, 32, by rw [bv_len, hshF_len], by rw [bv_len, hshF_len]; exact Nat.le_refl _, fun j u hj => ?_⟩
  rw [Addr.add_lit, Nat.zero_add, blk_cell h, ← Array.getElem?_toList]
  exact hj
set_option maxRecDepth 20000 in
set_option maxHeartbeats 1600000 in
theorem secure_c (w : World) (HT : Tabs w) {v : Value} {k : List Nat} (hk : Rd w v (bv k)) (hb : By k) (hl : k.length ≤ 100000) :
    Calls Tryd.prog 18 #[v] w fun e w' => ∃ p, e = .returned (.slice (some ⟨p, 0, none⟩) 32 32) ∧ Rd w' (.slice (some ⟨p, 0, none⟩) 32 32) (bv (hshF k)) ∧ Fr [] w w' := by
  obtain ⟨ka, kc, e1⟩ := hk.form
  subst e1
  have FA : Hid (Fr [] w (w.alloc (.cells #[.slice ka (bv k).length kc] 22))) := hid ((Fr.refl _ _).alloc _)
  have SC := hid (sum_c _ (HT.fr FA.out) (Rows2.oneT hk hb (by omega)) (by simp))
  rw [show ([k] : List (List Nat)).flatten = k by simp] at SC
  obtain ⟨nk, hnk⟩ : ∃ n, n = (bv k).length := ⟨_, rfl⟩
  rw [← hnk] at SC FA ⊢
  clear hk hb hl HT hnk
  go_enter Tryd.func18, Tryd.ntmps18
  go_wp2_with fail
  refine SC.out.mono ?_
  rintro e w2 ⟨rfl, f2⟩
  have F2 := hid (FA.out.trans f2)
  clear f2 SC FA
  rename_i hK
  refine hK _ _ ?_
  refine wpList_made32T (t1 := 3) (t2 := 6) (g := hashOf k) rfl rfl rfl rfl rfl rfl (by simp [Act.eval, Act.put]) (by simp [Act.eval, Act.put]) ?_
  have HR8 : Hid ((w2.alloc (.cells (bvals 32 (hashOf k)) 36)).heap[w2.heap.size]? = some (.cells (bvals 32 (hashOf k)) 36 (0, 0))) := hid (blk_new _ _)
  have F8 : Hid (Fr [] w (w2.alloc (.cells (bvals 32 (hashOf k)) 36))) := hid (F2.out.alloc _)
  generalize w2.alloc (.cells (bvals 32 (hashOf k)) 36) = w8 at HR8 F8 ⊢
  clear hK F2
  have s1 := slice_hash w8 w2.heap.size
  go_wp2
  go_ret
  exact ⟨_, rfl, Rd.hash HR8.out, F8.out⟩
end Go.Proofs.YtdcocgjlfhicaaaDoor
