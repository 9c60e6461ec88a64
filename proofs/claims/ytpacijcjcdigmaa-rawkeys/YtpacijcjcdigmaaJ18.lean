/-
  Keys of markers; the statements' own known examples; RawParses.
-/
import Derived.Test.YtpacijcjcdigmaaRG
import Derived.Lib.SlBytesConst
namespace Go.Proofs.Ytpacijcjcdigmaa
open Go.ChangeShapes Go.WideShapes Go.ChangeAt Go.RowKit

/-- A text's bytes. -/
def sb (s : ByteArray) : List Nat := s.data.toList.map (·.toNat)
theorem sb_len (s : ByteArray) : (sb s).length = s.size := by simp [sb]
theorem sb_by (s : ByteArray) : By (sb s) := fun x hx => by
  obtain ⟨b, _, rfl⟩ := List.mem_map.1 hx; exact b.toNat_lt
theorem sb_bv (s : ByteArray) : Lib.byteCells s.data.toList = bv (sb s) := by
  unfold sb bv
  rw [List.map_map]; rfl
theorem strOf_sb (s : ByteArray) : strOf (sb s) = s := by
  apply ByteArray.ext
  apply Array.toList_inj.1
  rw [strOf_data]
  unfold sb
  rw [List.map_map]
  exact (List.map_congr_left (g := id) (fun x _ => UInt8.ofNat_toNat)).trans (List.map_id _)

set_option maxRecDepth 20000 in
set_option maxHeartbeats 1600000 in
theorem marker_no (w : World) {s : ByteArray} (hs : s.size ≤ 140737488355328) (hok : nmOk s = false) :
    Calls Try.prog 18 #[.string s] w fun e w' => e = .returned (.tuple #[.slice none 0 0, .int .i64 130]) ∧ w' = w := by
  have NC := isName_c s w hs
  rw [hok] at NC
  have NC := hid NC
  clear hok
  go_enter Try.func18, Try.ntmps18
  go_wp2_with fail
  refine NC.out.mono ?_
  rintro e w1 ⟨rfl, hw1⟩
  subst hw1
  go_wp2
  go_ret2
  exact ⟨rfl, rfl⟩

set_option maxRecDepth 20000 in
set_option maxHeartbeats 1600000 in
theorem marker_ok (w : World) {s : ByteArray} {n : Nat} (hn : s.size = n) (hok : nmOk s = true) :
    Calls Try.prog 18 #[.string s] w fun e w' => ∃ p, e = .returned (.tuple #[.slice (some ⟨p, 0, none⟩) (n + 1) 33, .int .i64 0]) ∧ Rd w' (.slice (some ⟨p, 0, none⟩) (n + 1) 33) (bv (109 :: sb s)) ∧ Fr [] w w' := by
  have h32 : n ≤ 32 := by
    unfold nmOk at hok
    simp only [Bool.and_eq_true, decide_eq_true_eq] at hok
    omega
  have NC := isName_c s w (by omega)
  rw [hok] at NC
  have NC := hid NC
  obtain ⟨W, hW⟩ : ∃ W, W = w.alloc (.cells #[.int .u8 0, .int .u8 0, .int .u8 0, .int .u8 0, .int .u8 0, .int .u8 0, .int .u8 0, .int .u8 0, .int .u8 0, .int .u8 0, .int .u8 0, .int .u8 0, .int .u8 0, .int .u8 0, .int .u8 0, .int .u8 0, .int .u8 0, .int .u8 0, .int .u8 0, .int .u8 0, .int .u8 0, .int .u8 0, .int .u8 0, .int .u8 0, .int .u8 0, .int .u8 0, .int .u8 0, .int .u8 0, .int .u8 0, .int .u8 0, .int .u8 0, .int .u8 0, .int .u8 0] 51) := ⟨_, rfl⟩
  have F : Hid (Fr [] w W) := hid (by rw [hW]; exact (Fr.refl _ w).alloc _)
  have Y : Hid (W.heap[w.heap.size]? = some (.cells (bv (List.replicate 33 0)).toArray 51 (0, 0))) := hid (by rw [hW]; exact blk_new _ _)
  have hcell : W.cell? ⟨w.heap.size, 0, none⟩ = some (.int .u8 0) := by rw [blk_cell Y.out]; rfl
  have hfz := blk_frozen Y.out 0
  obtain ⟨W1, hW1⟩ : ∃ W1, W1 = W.setCell ⟨w.heap.size, 0, none⟩ (.int .u8 109) := ⟨_, rfl⟩
  have F1 : Hid (Fr [] w W1) := hid (by rw [hW1]; exact F.out.set _ _ (.inr (by omega)))
  have Y1 : Hid (W1.heap[w.heap.size]? = some (.cells (bv (109 :: List.replicate 32 0)).toArray 51 (0, 0))) := hid (by
    rw [hW1, blk_set Y.out]; exact congrArg (fun x => some (Obj.cells x 51 (0, 0))) (bv_set _ 0 109))
  have s1 : (Instr.sliceAt 51 (.pointer (some ⟨w.heap.size, 0, none⟩)) (some (.int .i64 1)) none none).run Try.prog W1 = .ok (.slice (some ⟨w.heap.size, 1, none⟩) 32 32) W1 := slice_from 51 33 alen33 elem33 (by kernel_rfl) W1 w.heap.size 0 1 (by omega)
  have hcp := Lib.run_copy_row_string (P := Try.prog) W1 26 9 3 5 w.heap.size 1 32 32 s (bv (109 :: List.replicate 32 0)).toArray 51 Try.underlying26 (by kernel_rfl) Y1.out (by omega) (by rw [List.size_toArray, bv_len]; simp; omega)
  obtain ⟨W2, hW2⟩ : ∃ W, W = W1.setRow w.heap.size ((bv (109 :: List.replicate 32 0)).toArray.toList.take 1 ++ Lib.byteCells s.data.toList ++ (bv (109 :: List.replicate 32 0)).toArray.toList.drop (1 + s.size)).toArray := ⟨_, rfl⟩
  rw [← hW2, hn] at hcp
  rw [show goInt ((n : Nat) : Int) = .int .i64 (n : Int) from rfl] at hcp
  have Y2 : Hid (W2.heap[w.heap.size]? = some (.cells (bv (109 :: (sb s ++ List.replicate (32 - n) 0))).toArray 51 (0, 0))) := hid (by
    rw [hW2, setRow_heap _ _ _ _ _ _ Y1.out]
    have e1 : (bv (109 :: List.replicate 32 0)).take 1 = bv [109] := rfl
    have e2 : (bv (109 :: List.replicate 32 0)).drop (1 + s.size) = bv (List.replicate (32 - n) 0) := by
      rw [← bv_drop, Nat.add_comm, List.drop_succ_cons, List.drop_replicate, hn]
    rw [List.toList_toArray, e1, e2, sb_bv, ← bv_append, ← bv_append]; rfl)
  have F2 : Hid (Fr [] w W2) := hid (by rw [hW2]; exact F1.out.newer (p := w.heap.size) ⟨rfl, rfl, rfl, by simp [World.setRow], fun k hk hn => setRow_other _ _ _ _ (by simpa using hn)⟩ (by omega))
  have hu : (Instr.sliceAt 51 (.pointer (some ⟨w.heap.size, 0, none⟩)) none (some (.int .i64 (1 + (n : Int)))) none).run Try.prog W2 = .ok (.slice (some ⟨w.heap.size, 0, none⟩) (n + 1) 33) W2 := by
    have := slice_upto 51 33 alen33 elem33 (by kernel_rfl) W2 w.heap.size 0 (n + 1) (by omega) (by omega)
    rwa [show (((n + 1 : Nat)) : Int) = 1 + (n : Int) by omega] at this
  have R2 : Hid (Rd W2 (.slice (some ⟨w.heap.size, 0, none⟩) (n + 1) 33) (bv (109 :: sb s))) := hid (by
    have := Rd.blk Y2.out (c := 33) (by simp [sb_len, hn]; omega)
    have h2 := (headB (l := n + 1) this rfl (by simp [sb_len, hn])).2
    rwa [List.take_succ_cons, List.take_append_of_le_length (by rw [sb_len, hn]; omega), List.take_of_length_le (by rw [sb_len, hn]; omega)] at h2)
  clear hok hW2
  go_enter Try.func18, Try.ntmps18
  go_wp2_with fail
  refine NC.out.mono ?_
  rintro e w1 ⟨rfl, hw1⟩
  have hw1' := hw1.symm
  clear hw1
  subst hw1'
  go_upto_region 4 with fail
  rw [← hW]
  clear hW
  go_upto_region 5 with fail
  rw [← hW1]
  clear hW1
  go_wp2
  go_ret2
  exact ⟨_, rfl, R2.out, F2.out⟩
end Go.Proofs.Ytpacijcjcdigmaa
namespace Go.Proofs.Ytpacijcjcdigmaa
open Go.ChangeShapes Go.WideShapes Go.ChangeAt Go.RowKit

theorem prune_ok : nmOk ⟨#[112, 114, 117, 110, 101]⟩ = true := by decide
theorem prune_str : strOf (109 :: sb ⟨#[112, 114, 117, 110, 101]⟩) = ⟨#[109, 112, 114, 117, 110, 101]⟩ := by decide
theorem root_str : strOf (114 :: be 8 258) = ⟨#[114, 0, 0, 0, 0, 0, 0, 1, 2]⟩ := by decide
theorem Rd_const (w : World) (x : Value) : Rd (w.alloc (.cells #[x] 5 (1, 2))) (.slice (some ⟨w.heap.size, 0, none⟩) 1 1) [x] :=
  .inr ⟨_, _, rfl, Nat.le_refl _, fun j u hj => by
    rw [Addr.add_lit, Nat.zero_add]
    have hb := blk_new w (.cells #[x] 5 (1, 2))
    simp only [World.cell?, hb]
    rw [← Array.getElem?_toList]; exact hj⟩
theorem prs_n1 : prs [110] = .none := prs_no (fun _ => by simp) (by omega) (by omega) (by omega)

set_option maxRecDepth 20000 in
set_option maxHeartbeats 1600000 in
theorem known_c (w : World) : Calls Try.prog 6 #[] w fun e w' => e = .returned (.bool true) ∧ Fr [] w w' := by
  have hz := zeroK
  have hlen0 : (rkc 0 z32 z32 0 es).length = 67 := rkc_len z32_len z32_len
  have MK := hid (marker_ok w (s := ⟨#[112, 114, 117, 110, 101]⟩) (n := 5) rfl prune_ok)
  go_enter Try.func6, Try.ntmps6
  go_wp2_with fail
  refine MK.out.mono ?_
  rintro e w1 ⟨p, rfl, r1, f1⟩
  have R1 := hid r1
  have F1 := hid f1
  clear r1 f1 MK
  have hcn : (convert 26 26 (.slice (some ⟨w1.heap.size, 0, none⟩) 1 1)).run Try.prog (w1.alloc (.cells #[.int .u8 110] 5)) = .ok (.slice (some ⟨w1.heap.size, 0, none⟩) 1 1) (w1.alloc (.cells #[.int .u8 110] 5 (1, 2))) := Lib.run_convert_bytes_const (P := Try.prog) w1 26 5 #[.int .u8 110] 1 1 Try.underlying26 Try.underlying5
  have PC := parse_c (w1.alloc (.cells #[.int .u8 110] 5 (1, 2))) (Rd_const w1 (.int .u8 110) : Rd _ _ (bv [110])) (show By [110] from fun x hx => by rcases List.mem_cons.1 hx with rfl | h; omega; cases h) (by decide)
  unfold Prsd at PC
  rw [prs_n1] at PC
  have PC := hid PC
  go_wp2_with fail
  refine PC.out.mono ?_
  rintro e w2 ⟨rfl, f2⟩
  have F2 : Hid (Fr [] w w2) := hid ((F1.out.alloc _).trans f2)
  have R2 : Hid (Rd w2 (.slice (some ⟨p, 0, none⟩) 6 33) (bv (109 :: sb ⟨#[112, 114, 117, 110, 101]⟩))) := hid (R1.out.fr (((Fr.refl _ w1).alloc _).trans f2))
  clear f2 PC
  rw [show PK.none.cells = rkc 0 z32 z32 0 es from rfl, show ((PK.none.e : Nat) : Int) = 132 from rfl]
  have hst : (storeCells ⟨w2.heap.size, 0, none⟩ (rkc 0 z32 z32 0 es)).run Try.prog (w2.alloc (.cells (rkc 0 z32 z32 0 es).toArray 36)) = _ := stKc hlen0 hlen0 rkc_one (blk_new _ _)
  obtain ⟨w3, hw3⟩ : ∃ W, W = (w2.alloc (.cells (rkc 0 z32 z32 0 es).toArray 36)).setRow w2.heap.size (rkc 0 z32 z32 0 es).toArray := ⟨_, rfl⟩
  have F23 : Hid (Fr [] w2 w3) := hid (by rw [hw3]; exact ((Fr.refl _ w2).alloc _).newer (p := w2.heap.size) ⟨rfl, rfl, rfl, by simp [World.setRow], fun k hk hn => setRow_other _ _ _ _ (by simpa using hn)⟩ (Nat.le_refl _))
  rw [← hw3] at hst
  have F3 := hid (F2.out.trans F23.out)
  have hcv := run_conv (R2.out.fr F23.out)
  rw [prune_str] at hcv
  have RK := hid (rootKey_c w3 (n := 258) (by omega))
  clear hw3
  go_wp2_with fail
  refine RK.out.mono ?_
  rintro e w4 ⟨p4, rfl, _, h4, f4⟩
  have hcv4 : (convert 26 9 (.slice (some ⟨p4, 0, none⟩) 9 9)).run Try.prog w4 = .ok (.string (strOf (114 :: be 8 258))) w4 := run_conv (Rd.blk h4 (c := 9) (by simp [be_len]))
  rw [root_str] at hcv4
  have F4 := hid (F3.out.trans f4)
  clear h4 f4
  go_wp2
  go_ret
  exact ⟨rfl, F4.out⟩

set_option maxRecDepth 20000 in
set_option maxHeartbeats 1600000 in
theorem rawParses_c (w : World) {v : Value} {key : List Nat} (hr : Rd w v (bv key)) (hb : By key) (hl : key.length ≤ 140737488355328) : Calls Try.prog 5 #[v] w fun e w' => e = .returned (.bool true) ∧ Fr [] w w' := by
  have hz := zeroK
  have hlen0 : (rkc 0 z32 z32 0 es).length = 67 := rkc_len z32_len z32_len
  have KC := hid (known_c w)
  have HR := hid hr
  have HB := hid hb
  obtain ⟨a, cc, hv⟩ := hr.form
  subst hv
  generalize hL : (bv key).length = L at *
  clear hr hb hL
  obtain ⟨K, hK⟩ : ∃ K, K = prs key := ⟨_, rfl⟩
  have KO : Hid K.Ok := hid (by rw [hK]; exact prs_ok key)
  have hlk : K.cells.length = 67 := rkc_len KO.out.f KO.out.s
  have h1 : K.cells.toArray.all (·.oneCell') = true := rkc_one
  have HK := hid hK
  clear hK
  have P1 := fun W (hF : Fr [] w W) => parse_c W (HR.out.fr hF) HB.out hl
  have P2 := fun W (hF : Fr [] w W) => rparse_c W (HR.out.fr hF) HB.out hl
  unfold Prsd at P1 P2
  rw [← HK.out] at P1 P2
  obtain ⟨E, hE⟩ : ∃ E : Nat, E = K.e := ⟨_, rfl⟩
  rw [← hE] at P1 P2
  have P1 := hid P1
  have P2 := hid P2
  have HQ : Hid (∀ W, (binOp .eql 36 (.agg K.cells.toArray) (.agg K.cells.toArray)).run Try.prog W = .ok (.bool true) W) := hid (fun W => eqlK W KO.out.f KO.out.s)
  have h1' := hid h1
  clear hE HK KO h1
  generalize hKC : K.cells = C at *
  clear hKC
  go_enter Try.func5, Try.ntmps5
  go_wp2_with fail
  refine KC.out.mono ?_
  rintro e w1 ⟨rfl, f1⟩
  have F1 := hid f1
  clear f1
  go_wp2_with fail
  refine (P1.out w1 F1.out).mono ?_
  rintro e w2 ⟨rfl, f2⟩
  have F2 := hid (F1.out.trans f2)
  clear f2
  have hst : (storeCells ⟨w2.heap.size, 0, none⟩ C).run Try.prog (w2.alloc (.cells (rkc 0 z32 z32 0 es).toArray 36)) = _ := stKc hlen0 hlk h1'.out (blk_new _ _)
  obtain ⟨w3, hw3⟩ : ∃ W, W = (w2.alloc (.cells (rkc 0 z32 z32 0 es).toArray 36)).setRow w2.heap.size C.toArray := ⟨_, rfl⟩
  have F3 : Hid (Fr [] w w3) := hid (by rw [hw3]; exact F2.out.trans (((Fr.refl _ w2).alloc _).newer (p := w2.heap.size) ⟨rfl, rfl, rfl, by simp [World.setRow], fun k hk hn => setRow_other _ _ _ _ (by simpa using hn)⟩ (Nat.le_refl _)))
  have Y3 : Hid (w3.heap[w2.heap.size]? = some (.cells C.toArray 36 (0, 0))) := hid (by rw [hw3]; exact setRow_heap _ _ _ _ _ _ (blk_new _ _))
  rw [← hw3] at hst
  clear hw3
  go_wp2_with fail
  refine (P2.out w3 F3.out).mono ?_
  rintro e w4 ⟨rfl, f4⟩
  have F4 := hid (F3.out.trans f4)
  have Y4 := hid (f4.at Y3.out (by simp))
  clear f4
  have hst2 : (storeCells ⟨w4.heap.size, 0, none⟩ C).run Try.prog (w4.alloc (.cells (rkc 0 z32 z32 0 es).toArray 36)) = _ := stKc hlen0 hlk h1'.out (blk_new _ _)
  obtain ⟨w5, hw5⟩ : ∃ W, W = (w4.alloc (.cells (rkc 0 z32 z32 0 es).toArray 36)).setRow w4.heap.size C.toArray := ⟨_, rfl⟩
  have f5 : Fr [] w4 w5 := by rw [hw5]; exact ((Fr.refl _ w4).alloc _).newer (p := w4.heap.size) ⟨rfl, rfl, rfl, by simp [World.setRow], fun k hk hn => setRow_other _ _ _ _ (by simpa using hn)⟩ (Nat.le_refl _)
  have F5 : Hid (Fr [] w w5) := hid (F4.out.trans f5)
  have Y5 : Hid (w5.heap[w4.heap.size]? = some (.cells C.toArray 36 (0, 0))) := hid (by rw [hw5]; exact setRow_heap _ _ _ _ _ _ (blk_new _ _))
  have X5 : Hid (w5.heap[w2.heap.size]? = some (.cells C.toArray 36 (0, 0))) := hid (f5.at Y4.out (by simp))
  rw [← hw5] at hst2
  clear hw5 f5
  go_wp2_with (with_reducible (show wpList Try.prog _ _ (_ :: _) _ _); first | refine wpList_ldK (by kernel_rfl) (.tmp 3) rfl hlk X5.out rfl ?_ | refine wpList_ldK (by kernel_rfl) (.tmp 5) rfl hlk Y5.out rfl ?_ | refine wpList_eqK (by kernel_rfl) (.tmp 19) (.tmp 20) rfl (HQ.out _) rfl rfl ?_)
  go_ret
  exact ⟨rfl, F5.out⟩
end Go.Proofs.Ytpacijcjcdigmaa
