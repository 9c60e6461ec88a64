/-
  The document's Parse, letter by letter.
-/
import Derived.Test.YtpacijcjcdigmaaRD
namespace Go.Proofs.Ytpacijcjcdigmaa
open Go.ChangeShapes Go.WideShapes Go.ChangeAt Go.RowKit

set_option maxRecDepth 20000 in
set_option maxHeartbeats 1600000 in
theorem rparse_o_no (w : World) {v : Value} {n : Nat} {b : List Nat} (hr : Rd w v (bv (111 :: b))) (hb : By (111 :: b)) (hn : b.length = n) (hl : n < 140737488355328) (h32 : n ≠ 64) :
    Calls Try.prog 17 #[v] w fun e w' => e = .returned (.tuple #[.agg (rkc 0 z32 z32 0 es).toArray, .int .i64 132]) ∧ Fr [] w w' := by
  have H32 := hid h32
  clear h32
  obtain ⟨a, cc, hv⟩ := hr.form
  have hbl : (bv (111 :: b)).length = n + 1 := by rw [bv_len]; simp [hn]
  rw [hbl] at hv
  subst hv
  have hz := zeroK
  have hne : ¬ rkc 0 z32 z32 0 es = [] := fun h => by cases h
  have hset : (rkc 0 z32 z32 0 es).set 0 (.int .u8 111) = rkc 111 z32 z32 0 es := rfl
  obtain ⟨p, off, rfl⟩ : ∃ p off, a = some ⟨p, off, none⟩ := by
    rcases hr.split with ⟨e, _⟩ | ⟨p, off, _, e, _⟩
    · cases e
    · simp only [Value.slice.injEq] at e; exact ⟨p, off, e.1⟩
  obtain ⟨q, hcut, hq⟩ := cutB (l := 1) hr (by simp [hn]) (by omega)
  rw [show n + 1 - 1 = n from rfl, List.drop_one, List.tail_cons] at hq
  rw [show n + 1 - 1 = n from rfl] at hcut
  rw [show (((1 : Nat) : Int)) = (1 : Int) from rfl] at hcut
  obtain ⟨W0, hW0⟩ : ∃ W, W = w.alloc (.cells (rkc 0 z32 z32 0 es).toArray 36) := ⟨_, rfl⟩
  have F0 : Hid (Fr [] w W0) := hid (by rw [hW0]; exact (Fr.refl _ w).alloc _)
  have N0 : W0.heap.size = w.heap.size + 1 := by rw [hW0]; simp
  have X0 : Hid (W0.heap[w.heap.size]? = some (.cells (rkc 0 z32 z32 0 es).toArray 36 (0, 0))) := hid (by rw [hW0]; exact blk_new _ _)
  have celled : ∀ W, Fr [] w W → W.cell? ⟨p, off, none⟩ = some (.int .u8 111) := fun W hF => by
    rcases (hr.fr hF) with ⟨h, _⟩ | ⟨a, c', h, h4, h5⟩
    · cases h
    · simp only [Value.slice.injEq, Option.some.injEq] at h
      obtain ⟨rfl, _, rfl⟩ := h
      have := h5 0 _ (bv_at (k := 0) rfl)
      rwa [Addr.add_lit] at this
  have hcell := celled W0 F0.out
  have hlen : (rkc 111 z32 z32 0 es).length = 67 := rkc_len z32_len z32_len
  have hlen0 : (rkc 0 z32 z32 0 es).length = 67 := rkc_len z32_len z32_len
  have hst : (storeCells ⟨w.heap.size + 1, 0, none⟩ (rkc 111 z32 z32 0 es)).run Try.prog (W0.alloc (.cells (rkc 0 z32 z32 0 es).toArray 36)) = _ := stKc (l := rkc 0 z32 z32 0 es) (t := 36) (m := rkc 111 z32 z32 0 es) hlen0 hlen rkc_one (by rw [← N0]; exact blk_new _ _)
  obtain ⟨W1, hW1⟩ : ∃ W, W = (W0.alloc (.cells (rkc 0 z32 z32 0 es).toArray 36)).setRow (w.heap.size + 1) (rkc 111 z32 z32 0 es).toArray := ⟨_, rfl⟩
  have Y1 : Hid (W1.heap[w.heap.size + 1]? = some (.cells (rkc 111 z32 z32 0 es).toArray 36 (0, 0))) := hid (by rw [hW1]; exact setRow_heap _ _ (rkc 0 z32 z32 0 es).toArray _ _ _ (by rw [← N0]; exact blk_new _ _))
  have X1 : Hid (W1.heap[w.heap.size]? = some (.cells (rkc 0 z32 z32 0 es).toArray 36 (0, 0))) := hid (by rw [hW1, setRow_other _ _ _ _ (by omega), blk_old _ _ (by rw [N0]; omega)]; exact X0.out)
  have F1 : Hid (Fr [] w W1) := hid (by rw [hW1]; exact (F0.out.alloc _).newer (p := w.heap.size + 1) ⟨rfl, rfl, rfl, by simp [World.setRow], fun k hk hn => setRow_other _ _ _ _ (by simpa using hn)⟩ (by omega))
  have HQ := hid hq
  have R1 : Hid (Rd W1 (.slice q n (cc - 1)) (bv b)) := hid (hq.fr F1.out)
  have hcell1 := celled W1 F1.out
  have BB : Hid (By b) := hid (fun x hx => hb x (by simp [hx]))
  clear hq hb celled
  rw [← hW1] at hst
  clear hW1
  go_enter Try.func17, Try.ntmps17
  go_upto_region 3 with fail
  rw [← hW0]
  clear hW0
  go_upto_region 5 with fail
  clear hst hcell hcut X0 F0 N0 hset
  have h32 := H32.out
  clear H32
  have hn32 : ((n : Int) == 64) = false := beq_eq_false_iff_ne.2 (by omega)
  have hst2 := stKc hlen0 hlen0 rkc_one X1.out
  obtain ⟨WZ, hWZ⟩ : ∃ W, W = (W1).setRow w.heap.size (rkc 0 z32 z32 0 es).toArray := ⟨_, rfl⟩
  rw [← hWZ] at hst2
  have ZZ : Hid (WZ.heap[w.heap.size]? = some (.cells (rkc 0 z32 z32 0 es).toArray 36 (0, 0))) := hid (by rw [hWZ]; exact setRow_heap _ _ _ _ _ _ X1.out)
  have FZ : Hid (Fr [] w WZ) := hid (by rw [hWZ]; exact F1.out.newer (p := w.heap.size) ⟨rfl, rfl, rfl, by simp [World.setRow], fun k hk hn => setRow_other _ _ _ _ (by simpa using hn)⟩ (by omega))
  clear hWZ
  go_wp2
  exact bodyPost_ret (ret_ct rfl rfl (ldK hlen0 ZZ.out)) rfl ⟨rfl, FZ.out⟩

set_option maxRecDepth 20000 in
set_option maxHeartbeats 1600000 in
theorem rparse_o_ok (w : World) {v : Value} {n : Nat} {b : List Nat} (hr : Rd w v (bv (111 :: b))) (hb : By (111 :: b)) (hn : b.length = n) (hl : n < 140737488355328) (h32 : n = 64) :
    Calls Try.prog 17 #[v] w fun e w' => e = .returned (.tuple #[.agg (rkc 111 (b.take 32) (b.drop 32) 0 es).toArray, .int .i64 0]) ∧ Fr [] w w' := by
  have H32 := hid h32
  clear h32
  obtain ⟨a, cc, hv⟩ := hr.form
  have hbl : (bv (111 :: b)).length = n + 1 := by rw [bv_len]; simp [hn]
  rw [hbl] at hv
  subst hv
  have hz := zeroK
  have hne : ¬ rkc 0 z32 z32 0 es = [] := fun h => by cases h
  have hset : (rkc 0 z32 z32 0 es).set 0 (.int .u8 111) = rkc 111 z32 z32 0 es := rfl
  obtain ⟨p, off, rfl⟩ : ∃ p off, a = some ⟨p, off, none⟩ := by
    rcases hr.split with ⟨e, _⟩ | ⟨p, off, _, e, _⟩
    · cases e
    · simp only [Value.slice.injEq] at e; exact ⟨p, off, e.1⟩
  obtain ⟨q, hcut, hq⟩ := cutB (l := 1) hr (by simp [hn]) (by omega)
  rw [show n + 1 - 1 = n from rfl, List.drop_one, List.tail_cons] at hq
  rw [show n + 1 - 1 = n from rfl] at hcut
  rw [show (((1 : Nat) : Int)) = (1 : Int) from rfl] at hcut
  obtain ⟨W0, hW0⟩ : ∃ W, W = w.alloc (.cells (rkc 0 z32 z32 0 es).toArray 36) := ⟨_, rfl⟩
  have F0 : Hid (Fr [] w W0) := hid (by rw [hW0]; exact (Fr.refl _ w).alloc _)
  have N0 : W0.heap.size = w.heap.size + 1 := by rw [hW0]; simp
  have X0 : Hid (W0.heap[w.heap.size]? = some (.cells (rkc 0 z32 z32 0 es).toArray 36 (0, 0))) := hid (by rw [hW0]; exact blk_new _ _)
  have celled : ∀ W, Fr [] w W → W.cell? ⟨p, off, none⟩ = some (.int .u8 111) := fun W hF => by
    rcases (hr.fr hF) with ⟨h, _⟩ | ⟨a, c', h, h4, h5⟩
    · cases h
    · simp only [Value.slice.injEq, Option.some.injEq] at h
      obtain ⟨rfl, _, rfl⟩ := h
      have := h5 0 _ (bv_at (k := 0) rfl)
      rwa [Addr.add_lit] at this
  have hcell := celled W0 F0.out
  have hlen : (rkc 111 z32 z32 0 es).length = 67 := rkc_len z32_len z32_len
  have hlen0 : (rkc 0 z32 z32 0 es).length = 67 := rkc_len z32_len z32_len
  have hst : (storeCells ⟨w.heap.size + 1, 0, none⟩ (rkc 111 z32 z32 0 es)).run Try.prog (W0.alloc (.cells (rkc 0 z32 z32 0 es).toArray 36)) = _ := stKc (l := rkc 0 z32 z32 0 es) (t := 36) (m := rkc 111 z32 z32 0 es) hlen0 hlen rkc_one (by rw [← N0]; exact blk_new _ _)
  obtain ⟨W1, hW1⟩ : ∃ W, W = (W0.alloc (.cells (rkc 0 z32 z32 0 es).toArray 36)).setRow (w.heap.size + 1) (rkc 111 z32 z32 0 es).toArray := ⟨_, rfl⟩
  have Y1 : Hid (W1.heap[w.heap.size + 1]? = some (.cells (rkc 111 z32 z32 0 es).toArray 36 (0, 0))) := hid (by rw [hW1]; exact setRow_heap _ _ (rkc 0 z32 z32 0 es).toArray _ _ _ (by rw [← N0]; exact blk_new _ _))
  have X1 : Hid (W1.heap[w.heap.size]? = some (.cells (rkc 0 z32 z32 0 es).toArray 36 (0, 0))) := hid (by rw [hW1, setRow_other _ _ _ _ (by omega), blk_old _ _ (by rw [N0]; omega)]; exact X0.out)
  have F1 : Hid (Fr [] w W1) := hid (by rw [hW1]; exact (F0.out.alloc _).newer (p := w.heap.size + 1) ⟨rfl, rfl, rfl, by simp [World.setRow], fun k hk hn => setRow_other _ _ _ _ (by simpa using hn)⟩ (by omega))
  have HQ := hid hq
  have R1 : Hid (Rd W1 (.slice q n (cc - 1)) (bv b)) := hid (hq.fr F1.out)
  have hcell1 := celled W1 F1.out
  have BB : Hid (By b) := hid (fun x hx => hb x (by simp [hx]))
  clear hq hb celled
  rw [← hW1] at hst
  clear hW1
  go_enter Try.func17, Try.ntmps17
  go_upto_region 3 with fail
  rw [← hW0]
  clear hW0
  go_upto_region 5 with fail
  clear hst hcell hcut X0 F0 N0 hset
  have hn64 : ((n : Int) == 64) = true := beq_iff_eq.2 (by have := H32.out; omega)
  have h32n : 32 ≤ n := by have := H32.out; omega
  obtain ⟨q2, hcut, hq2⟩ := cutB (l := 32) HQ.out hn h32n
  obtain ⟨hhead, hq1⟩ := headB (l := 32) HQ.out hn h32n
  rw [show (((32 : Nat) : Int)) = (32 : Int) from rfl] at hcut hhead
  have s14 := slice_all 23 32 alenH elemH (by kernel_rfl) W1.drew (w.heap.size + 1) 1
  obtain ⟨w2, hcp, x2, f2⟩ := copyB (w := W1.drew) (p := w.heap.size + 1) (t := 36) (cs := rkc 111 z32 z32 0 es) (n := 32) (m := 32) (o := 1) (k := 32) (l := b.take 32) (a1 := q) (c := cc - 1) (by rw [blk_drew]; exact Y1.out) (by rw [List.length_take, hn, Nat.min_eq_left h32n]; exact hq1.fr F1.out.drew) (by rw [List.length_take, hn, Nat.min_eq_left h32n]; rfl) (by rw [hlen]; omega)
  rw [List.length_take, hn, Nat.min_eq_left h32n] at hcp
  have F2 : Hid (Fr [] w w2) := hid (F1.out.drew.newer f2 (by omega))
  have X2 : Hid (w2.heap[w.heap.size]? = some (.cells (rkc 0 z32 z32 0 es).toArray 36 (0, 0))) := hid (f2.at (by rw [blk_drew]; exact X1.out) (by simp))
  have Y2 : Hid (w2.heap[w.heap.size + 1]? = some (.cells (rkc 111 (b.take 32) z32 0 es).toArray 36 (0, 0))) := hid (by
    have e : (b.take 32).take 32 = b.take 32 := List.take_of_length_le (by rw [List.length_take]; omega)
    rw [x2, e]; rfl)
  have s15 := slice_all 23 32 alenH elemH (by kernel_rfl) w2.drew (w.heap.size + 1) 33
  have hlk2 : (rkc 111 (b.take 32) z32 0 es).length = 67 := rkc_len (by rw [List.length_take]; omega) z32_len
  obtain ⟨w3, hcp3, x3, f3⟩ := copyB (w := w2.drew) (p := w.heap.size + 1) (t := 36) (cs := rkc 111 (b.take 32) z32 0 es) (n := 32) (m := 32) (o := 33) (k := 32) (l := b.drop 32) (a1 := q2) (c := cc - 1 - 32) (by rw [blk_drew]; exact Y2.out) (by rw [List.length_drop, hn]; exact hq2.fr F2.out.drew) (by have := H32.out; rw [List.length_drop, hn]; omega) (by rw [hlk2]; omega)
  rw [List.length_drop, hn] at hcp3
  have F3 : Hid (Fr [] w w3) := hid (F2.out.drew.newer f3 (by omega))
  have X3 : Hid (w3.heap[w.heap.size]? = some (.cells (rkc 0 z32 z32 0 es).toArray 36 (0, 0))) := hid (f3.at (by rw [blk_drew]; exact X2.out) (by simp))
  have Y3 : Hid (w3.heap[w.heap.size + 1]? = some (.cells (rkc 111 (b.take 32) (b.drop 32) 0 es).toArray 36 (0, 0))) := hid (by
    have h32 := H32.out
    have e : (b.drop 32).take 32 = b.drop 32 := List.take_of_length_le (by rw [List.length_drop]; omega)
    have hk : (b.take 32).length = 32 := by rw [List.length_take]; omega
    have e1 : (rkc 111 (b.take 32) z32 0 es).take 33 = .int .u8 111 :: bv (b.take 32) := by
      unfold rkc; rw [List.take_succ_cons, List.take_append_of_le_length (by rw [bv_len, hk]; omega), List.take_of_length_le (by rw [bv_len, hk]; omega)]; rfl
    have e0 : (bv (b.take 32)).drop 32 = [] := List.drop_eq_nil_of_le (by rw [bv_len, hk]; omega)
    have e2 : (rkc 111 (b.take 32) z32 0 es).drop (33 + 32) = [.int .u64 0, .string es] := by
      unfold rkc; rw [show 33 + 32 = (32 + 32) + 1 from rfl, List.drop_succ_cons, ← List.drop_drop, List.drop_append_of_le_length (by rw [bv_len, hk]; omega), e0, List.nil_append]; rfl
    rw [x3, e, e1, e2]
    simp [rkc])
  clear x2 f2 x3 f3 hq1 hq2 hlk2
  go_wp2_with fail
  go_region
  go_wp2_with fail
  go_region
  have hlk : (rkc 111 (b.take 32) (b.drop 32) 0 es).length = 67 := rkc_len (by have := H32.out; rw [List.length_take]; omega) (by have := H32.out; rw [List.length_drop]; omega)
  have hst2 := stKc hlen0 hlk rkc_one X3.out
  obtain ⟨WZ, hWZ⟩ : ∃ W, W = (w3).setRow w.heap.size (rkc 111 (b.take 32) (b.drop 32) 0 es).toArray := ⟨_, rfl⟩
  rw [← hWZ] at hst2
  have ZZ : Hid (WZ.heap[w.heap.size]? = some (.cells (rkc 111 (b.take 32) (b.drop 32) 0 es).toArray 36 (0, 0))) := hid (by rw [hWZ]; exact setRow_heap _ _ _ _ _ _ X3.out)
  have FZ : Hid (Fr [] w WZ) := hid (by rw [hWZ]; exact F3.out.newer (p := w.heap.size) ⟨rfl, rfl, rfl, by simp [World.setRow], fun k hk hn => setRow_other _ _ _ _ (by simpa using hn)⟩ (by omega))
  clear hWZ
  go_wp2_with (with_reducible (show wpList Try.prog _ _ (_ :: _) _ _); refine wpList_ldK (by kernel_rfl) (.tmp 4) rfl hlk Y3.out rfl ?_)
  exact bodyPost_ret (ret_ct rfl rfl (ldK hlk ZZ.out)) rfl ⟨rfl, FZ.out⟩

end Go.Proofs.Ytpacijcjcdigmaa
