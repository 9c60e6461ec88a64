/-
  rawdb.Parse, letter by letter.
-/
import Derived.Test.YtpacijcjcdigmaaRD
namespace Go.Proofs.Ytpacijcjcdigmaa
open Go.ChangeShapes Go.WideShapes Go.ChangeAt Go.RowKit

set_option maxRecDepth 20000 in
set_option maxHeartbeats 1600000 in
theorem parse_x (w : World) {v : Value} {n : Nat} {c : Nat} {b : List Nat} (hr : Rd w v (bv (c :: b))) (hb : By (c :: b)) (hn : b.length = n) (hl : n < 140737488355328) (hc : c ≠ 111 ∧ c ≠ 110 ∧ c ≠ 99 ∧ c ≠ 97 ∧ c ≠ 114 ∧ c ≠ 98 ∧ c ≠ 109) :
    Calls Try.prog 16 #[v] w fun e w' => e = .returned (.tuple #[.agg (rkc 0 z32 z32 0 es).toArray, .int .i64 132]) ∧ Fr [] w w' := by
  obtain ⟨a, cc, hv⟩ := hr.form
  have hbl : (bv (c :: b)).length = n + 1 := by rw [bv_len]; simp [hn]
  rw [hbl] at hv
  subst hv
  have hz := zeroK
  have hne : ¬ rkc 0 z32 z32 0 es = [] := fun h => by cases h
  have hset : (rkc 0 z32 z32 0 es).set 0 (.int .u8 (c : Int)) = rkc c z32 z32 0 es := rfl
  obtain ⟨p, off, rfl⟩ : ∃ p off, a = some ⟨p, off, none⟩ := by
    rcases hr.split with ⟨e, _⟩ | ⟨p, off, _, e, _⟩
    · cases e
    · simp only [Value.slice.injEq] at e; exact ⟨p, off, e.1⟩
  obtain ⟨q, hcut, hq⟩ := cutB (l := 1) hr (by simp [hn]) (by omega)
  rw [show n + 1 - 1 = n from rfl, List.drop_one, List.tail_cons] at hq
  rw [show n + 1 - 1 = n from rfl] at hcut
  rw [show (((1 : Nat) : Int)) = (1 : Int) from rfl] at hcut
  obtain ⟨W0, hW0⟩ : ∃ W, W = w.alloc (.cells (rkc 0 z32 z32 0 es).toArray 36) := ⟨_, rfl⟩
  have F0 : Hid (Fr [] w W0) := hid (by rw [hW0]; exact (Fr.refl _ w).alloc _)
  have N0 : W0.heap.size = w.heap.size + 1 := by rw [hW0]; simp
  have X0 : Hid (W0.heap[w.heap.size]? = some (.cells (rkc 0 z32 z32 0 es).toArray 36 (0, 0))) := hid (by rw [hW0]; exact blk_new _ _)
  have hcell : W0.cell? ⟨p, off, none⟩ = some (.int .u8 (c : Int)) := by
    rcases (hr.fr F0.out) with ⟨h, _⟩ | ⟨a, c', h, h4, h5⟩
    · cases h
    · simp only [Value.slice.injEq, Option.some.injEq] at h
      obtain ⟨rfl, _, rfl⟩ := h
      have := h5 0 _ (bv_at (k := 0) rfl)
      rwa [Addr.add_lit] at this
  have hcell1 : (W0.alloc (.cells (rkc 0 z32 z32 0 es).toArray 36)).cell? ⟨p, off, none⟩ = some (.int .u8 (c : Int)) := by
    rw [World.cell?_of_block (w := W0) (blk_old _ _ (World.block_lt_of_cell? W0 _ hcell))]; exact hcell
  have hlen : (rkc c z32 z32 0 es).length = 67 := rkc_len z32_len z32_len
  have hlen0 : (rkc 0 z32 z32 0 es).length = 67 := rkc_len z32_len z32_len
  have hst : (storeCells ⟨w.heap.size + 1, 0, none⟩ (rkc c z32 z32 0 es)).run Try.prog (W0.alloc (.cells (rkc 0 z32 z32 0 es).toArray 36)).drew = _ := stKc (l := rkc 0 z32 z32 0 es) (t := 36) (m := rkc c z32 z32 0 es) hlen0 hlen rkc_one (by rw [blk_drew, ← N0]; exact blk_new _ _)
  obtain ⟨W1, hW1⟩ : ∃ W, W = (W0.alloc (.cells (rkc 0 z32 z32 0 es).toArray 36)).drew.setRow (w.heap.size + 1) (rkc c z32 z32 0 es).toArray := ⟨_, rfl⟩
  have Y1 : Hid (W1.heap[w.heap.size + 1]? = some (.cells (rkc c z32 z32 0 es).toArray 36 (0, 0))) := hid (by rw [hW1]; exact setRow_heap _ _ (rkc 0 z32 z32 0 es).toArray _ _ _ (by rw [blk_drew, ← N0]; exact blk_new _ _))
  have X1 : Hid (W1.heap[w.heap.size]? = some (.cells (rkc 0 z32 z32 0 es).toArray 36 (0, 0))) := hid (by rw [hW1, setRow_other _ _ _ _ (by omega), blk_drew, blk_old _ _ (by rw [N0]; omega)]; exact X0.out)
  have F1 : Hid (Fr [] w W1) := hid (by rw [hW1]; exact (F0.out.alloc _).drew.newer (p := w.heap.size + 1) ⟨rfl, rfl, rfl, by simp [World.setRow], fun k hk hn => setRow_other _ _ _ _ (by simpa using hn)⟩ (by omega))
  have HQ := hid hq
  have R1 : Hid (Rd W1 (.slice q n (cc - 1)) (bv b)) := hid (hq.fr F1.out)
  have hcw : W1.cell? ⟨w.heap.size + 1, 0, none⟩ = some (.int .u8 (c : Int)) := by rw [blk_cell Y1.out]; rfl
  have BB : Hid (By b) := hid (fun x hx => hb x (by simp [hx]))
  clear hq hb
  rw [← hW1] at hst
  clear hW1
  go_enter Try.func16, Try.ntmps16
  go_upto_region 3 with fail
  rw [← hW0]
  clear hW0
  go_region
  clear hst hcell hcell1 hcut X0 F0 N0 hset
  have hc111 : ((c : Int) == 111) = false := beq_eq_false_iff_ne.2 (by omega)
  have hc110 : ((c : Int) == 110) = false := beq_eq_false_iff_ne.2 (by omega)
  have hc99 : ((c : Int) == 99) = false := beq_eq_false_iff_ne.2 (by omega)
  have hc97 : ((c : Int) == 97) = false := beq_eq_false_iff_ne.2 (by omega)
  have hc114 : ((c : Int) == 114) = false := beq_eq_false_iff_ne.2 (by omega)
  have hc98 : ((c : Int) == 98) = false := beq_eq_false_iff_ne.2 (by omega)
  have hc109 : ((c : Int) == 109) = false := beq_eq_false_iff_ne.2 (by omega)
  clear hc
  have hst2 := stKc hlen0 hlen0 rkc_one X1.out
  obtain ⟨WZ, hWZ⟩ : ∃ W, W = (W1).setRow w.heap.size (rkc 0 z32 z32 0 es).toArray := ⟨_, rfl⟩
  rw [← hWZ] at hst2
  have ZZ : Hid (WZ.heap[w.heap.size]? = some (.cells (rkc 0 z32 z32 0 es).toArray 36 (0, 0))) := hid (by rw [hWZ]; exact setRow_heap _ _ _ _ _ _ X1.out)
  have FZ : Hid (Fr [] w WZ) := hid (by rw [hWZ]; exact F1.out.newer (p := w.heap.size) ⟨rfl, rfl, rfl, by simp [World.setRow], fun k hk hn => setRow_other _ _ _ _ (by simpa using hn)⟩ (by omega))
  clear hWZ
  go_wp2
  exact bodyPost_ret (ret_ct rfl rfl (ldK hlen0 ZZ.out)) rfl ⟨rfl, FZ.out⟩

set_option maxRecDepth 20000 in
set_option maxHeartbeats 1600000 in
theorem parse_n_ok (w : World) {v : Value} {n : Nat} {b : List Nat} (hr : Rd w v (bv (110 :: b))) (hb : By (110 :: b)) (hn : b.length = n) (hl : n < 140737488355328) (h32 : n = 32) :
    Calls Try.prog 16 #[v] w fun e w' => e = .returned (.tuple #[.agg (rkc 110 b z32 0 es).toArray, .int .i64 0]) ∧ Fr [] w w' := by
  have H32 := hid h32
  clear h32
  obtain ⟨a, cc, hv⟩ := hr.form
  have hbl : (bv (110 :: b)).length = n + 1 := by rw [bv_len]; simp [hn]
  rw [hbl] at hv
  subst hv
  have hz := zeroK
  have hne : ¬ rkc 0 z32 z32 0 es = [] := fun h => by cases h
  have hset : (rkc 0 z32 z32 0 es).set 0 (.int .u8 110) = rkc 110 z32 z32 0 es := rfl
  obtain ⟨p, off, rfl⟩ : ∃ p off, a = some ⟨p, off, none⟩ := by
    rcases hr.split with ⟨e, _⟩ | ⟨p, off, _, e, _⟩
    · cases e
    · simp only [Value.slice.injEq] at e; exact ⟨p, off, e.1⟩
  obtain ⟨q, hcut, hq⟩ := cutB (l := 1) hr (by simp [hn]) (by omega)
  rw [show n + 1 - 1 = n from rfl, List.drop_one, List.tail_cons] at hq
  rw [show n + 1 - 1 = n from rfl] at hcut
  rw [show (((1 : Nat) : Int)) = (1 : Int) from rfl] at hcut
  obtain ⟨W0, hW0⟩ : ∃ W, W = w.alloc (.cells (rkc 0 z32 z32 0 es).toArray 36) := ⟨_, rfl⟩
  have F0 : Hid (Fr [] w W0) := hid (by rw [hW0]; exact (Fr.refl _ w).alloc _)
  have N0 : W0.heap.size = w.heap.size + 1 := by rw [hW0]; simp
  have X0 : Hid (W0.heap[w.heap.size]? = some (.cells (rkc 0 z32 z32 0 es).toArray 36 (0, 0))) := hid (by rw [hW0]; exact blk_new _ _)
  have hcell : W0.cell? ⟨p, off, none⟩ = some (.int .u8 110) := by
    rcases (hr.fr F0.out) with ⟨h, _⟩ | ⟨a, c', h, h4, h5⟩
    · cases h
    · simp only [Value.slice.injEq, Option.some.injEq] at h
      obtain ⟨rfl, _, rfl⟩ := h
      have := h5 0 _ (bv_at (k := 0) rfl)
      rwa [Addr.add_lit] at this
  have hcell1 : (W0.alloc (.cells (rkc 0 z32 z32 0 es).toArray 36)).cell? ⟨p, off, none⟩ = some (.int .u8 110) := by
    rw [World.cell?_of_block (w := W0) (blk_old _ _ (World.block_lt_of_cell? W0 _ hcell))]; exact hcell
  have hlen : (rkc 110 z32 z32 0 es).length = 67 := rkc_len z32_len z32_len
  have hlen0 : (rkc 0 z32 z32 0 es).length = 67 := rkc_len z32_len z32_len
  have hst : (storeCells ⟨w.heap.size + 1, 0, none⟩ (rkc 110 z32 z32 0 es)).run Try.prog (W0.alloc (.cells (rkc 0 z32 z32 0 es).toArray 36)).drew = _ := stKc (l := rkc 0 z32 z32 0 es) (t := 36) (m := rkc 110 z32 z32 0 es) hlen0 hlen rkc_one (by rw [blk_drew, ← N0]; exact blk_new _ _)
  obtain ⟨W1, hW1⟩ : ∃ W, W = (W0.alloc (.cells (rkc 0 z32 z32 0 es).toArray 36)).drew.setRow (w.heap.size + 1) (rkc 110 z32 z32 0 es).toArray := ⟨_, rfl⟩
  have Y1 : Hid (W1.heap[w.heap.size + 1]? = some (.cells (rkc 110 z32 z32 0 es).toArray 36 (0, 0))) := hid (by rw [hW1]; exact setRow_heap _ _ (rkc 0 z32 z32 0 es).toArray _ _ _ (by rw [blk_drew, ← N0]; exact blk_new _ _))
  have X1 : Hid (W1.heap[w.heap.size]? = some (.cells (rkc 0 z32 z32 0 es).toArray 36 (0, 0))) := hid (by rw [hW1, setRow_other _ _ _ _ (by omega), blk_drew, blk_old _ _ (by rw [N0]; omega)]; exact X0.out)
  have F1 : Hid (Fr [] w W1) := hid (by rw [hW1]; exact (F0.out.alloc _).drew.newer (p := w.heap.size + 1) ⟨rfl, rfl, rfl, by simp [World.setRow], fun k hk hn => setRow_other _ _ _ _ (by simpa using hn)⟩ (by omega))
  have HQ := hid hq
  have R1 : Hid (Rd W1 (.slice q n (cc - 1)) (bv b)) := hid (hq.fr F1.out)
  have hcw : W1.cell? ⟨w.heap.size + 1, 0, none⟩ = some (.int .u8 110) := by rw [blk_cell Y1.out]; rfl
  have BB : Hid (By b) := hid (fun x hx => hb x (by simp [hx]))
  clear hq hb
  rw [← hW1] at hst
  clear hW1
  go_enter Try.func16, Try.ntmps16
  go_upto_region 3 with fail
  rw [← hW0]
  clear hW0
  go_region
  clear hst hcell hcell1 hcut X0 F0 N0 hset
  have s15 := slice_all 23 32 alenH elemH (by kernel_rfl) W1 (w.heap.size + 1) 1
  obtain ⟨w2, hcp, x2, f2⟩ := copyB (n := 32) (m := 32) (o := 1) (k := min n 32) Y1.out (l := b) (by rw [hn]; exact R1.out) (by rw [hn]) (by rw [hlen]; omega)
  rw [hn] at hcp
  have F2 : Hid (Fr [] w w2) := hid (F1.out.newer f2 (by omega))
  have X2 : Hid (w2.heap[w.heap.size]? = some (.cells (rkc 0 z32 z32 0 es).toArray 36 (0, 0))) := hid (f2.at X1.out (by simp))
  have G2 := hid x2
  clear x2 f2
  have h32 := H32.out
  clear H32
  subst h32
  have Y2 : Hid (w2.heap[w.heap.size + 1]? = some (.cells (rkc 110 b z32 0 es).toArray 36 (0, 0))) := hid (by
    have e : b.take (min 32 32) = b := List.take_of_length_le (by omega)
    rw [G2.out, e]; rfl)
  have hlk : (rkc 110 b z32 0 es).length = 67 := rkc_len hn z32_len
  have hst2 := stKc hlen0 hlk rkc_one X2.out
  obtain ⟨WZ, hWZ⟩ : ∃ W, W = (w2).setRow w.heap.size (rkc 110 b z32 0 es).toArray := ⟨_, rfl⟩
  rw [← hWZ] at hst2
  have ZZ : Hid (WZ.heap[w.heap.size]? = some (.cells (rkc 110 b z32 0 es).toArray 36 (0, 0))) := hid (by rw [hWZ]; exact setRow_heap _ _ _ _ _ _ X2.out)
  have FZ : Hid (Fr [] w WZ) := hid (by rw [hWZ]; exact F2.out.newer (p := w.heap.size) ⟨rfl, rfl, rfl, by simp [World.setRow], fun k hk hn => setRow_other _ _ _ _ (by simpa using hn)⟩ (by omega))
  clear hWZ
  go_wp2_with (with_reducible (show wpList Try.prog _ _ (_ :: _) _ _); refine wpList_ldK (by kernel_rfl) (.tmp 4) rfl hlk Y2.out rfl ?_)
  exact bodyPost_ret (ret_ct rfl rfl (ldK hlk ZZ.out)) rfl ⟨rfl, FZ.out⟩

set_option maxRecDepth 20000 in
set_option maxHeartbeats 1600000 in
theorem parse_n_no (w : World) {v : Value} {n : Nat} {b : List Nat} (hr : Rd w v (bv (110 :: b))) (hb : By (110 :: b)) (hn : b.length = n) (hl : n < 140737488355328) (h32 : n ≠ 32) :
    Calls Try.prog 16 #[v] w fun e w' => e = .returned (.tuple #[.agg (rkc 0 z32 z32 0 es).toArray, .int .i64 132]) ∧ Fr [] w w' := by
  have H32 := hid h32
  clear h32
  obtain ⟨a, cc, hv⟩ := hr.form
  have hbl : (bv (110 :: b)).length = n + 1 := by rw [bv_len]; simp [hn]
  rw [hbl] at hv
  subst hv
  have hz := zeroK
  have hne : ¬ rkc 0 z32 z32 0 es = [] := fun h => by cases h
  have hset : (rkc 0 z32 z32 0 es).set 0 (.int .u8 110) = rkc 110 z32 z32 0 es := rfl
  obtain ⟨p, off, rfl⟩ : ∃ p off, a = some ⟨p, off, none⟩ := by
    rcases hr.split with ⟨e, _⟩ | ⟨p, off, _, e, _⟩
    · cases e
    · simp only [Value.slice.injEq] at e; exact ⟨p, off, e.1⟩
  obtain ⟨q, hcut, hq⟩ := cutB (l := 1) hr (by simp [hn]) (by omega)
  rw [show n + 1 - 1 = n from rfl, List.drop_one, List.tail_cons] at hq
  rw [show n + 1 - 1 = n from rfl] at hcut
  rw [show (((1 : Nat) : Int)) = (1 : Int) from rfl] at hcut
  obtain ⟨W0, hW0⟩ : ∃ W, W = w.alloc (.cells (rkc 0 z32 z32 0 es).toArray 36) := ⟨_, rfl⟩
  have F0 : Hid (Fr [] w W0) := hid (by rw [hW0]; exact (Fr.refl _ w).alloc _)
  have N0 : W0.heap.size = w.heap.size + 1 := by rw [hW0]; simp
  have X0 : Hid (W0.heap[w.heap.size]? = some (.cells (rkc 0 z32 z32 0 es).toArray 36 (0, 0))) := hid (by rw [hW0]; exact blk_new _ _)
  have hcell : W0.cell? ⟨p, off, none⟩ = some (.int .u8 110) := by
    rcases (hr.fr F0.out) with ⟨h, _⟩ | ⟨a, c', h, h4, h5⟩
    · cases h
    · simp only [Value.slice.injEq, Option.some.injEq] at h
      obtain ⟨rfl, _, rfl⟩ := h
      have := h5 0 _ (bv_at (k := 0) rfl)
      rwa [Addr.add_lit] at this
  have hcell1 : (W0.alloc (.cells (rkc 0 z32 z32 0 es).toArray 36)).cell? ⟨p, off, none⟩ = some (.int .u8 110) := by
    rw [World.cell?_of_block (w := W0) (blk_old _ _ (World.block_lt_of_cell? W0 _ hcell))]; exact hcell
  have hlen : (rkc 110 z32 z32 0 es).length = 67 := rkc_len z32_len z32_len
  have hlen0 : (rkc 0 z32 z32 0 es).length = 67 := rkc_len z32_len z32_len
  have hst : (storeCells ⟨w.heap.size + 1, 0, none⟩ (rkc 110 z32 z32 0 es)).run Try.prog (W0.alloc (.cells (rkc 0 z32 z32 0 es).toArray 36)).drew = _ := stKc (l := rkc 0 z32 z32 0 es) (t := 36) (m := rkc 110 z32 z32 0 es) hlen0 hlen rkc_one (by rw [blk_drew, ← N0]; exact blk_new _ _)
  obtain ⟨W1, hW1⟩ : ∃ W, W = (W0.alloc (.cells (rkc 0 z32 z32 0 es).toArray 36)).drew.setRow (w.heap.size + 1) (rkc 110 z32 z32 0 es).toArray := ⟨_, rfl⟩
  have Y1 : Hid (W1.heap[w.heap.size + 1]? = some (.cells (rkc 110 z32 z32 0 es).toArray 36 (0, 0))) := hid (by rw [hW1]; exact setRow_heap _ _ (rkc 0 z32 z32 0 es).toArray _ _ _ (by rw [blk_drew, ← N0]; exact blk_new _ _))
  have X1 : Hid (W1.heap[w.heap.size]? = some (.cells (rkc 0 z32 z32 0 es).toArray 36 (0, 0))) := hid (by rw [hW1, setRow_other _ _ _ _ (by omega), blk_drew, blk_old _ _ (by rw [N0]; omega)]; exact X0.out)
  have F1 : Hid (Fr [] w W1) := hid (by rw [hW1]; exact (F0.out.alloc _).drew.newer (p := w.heap.size + 1) ⟨rfl, rfl, rfl, by simp [World.setRow], fun k hk hn => setRow_other _ _ _ _ (by simpa using hn)⟩ (by omega))
  have HQ := hid hq
  have R1 : Hid (Rd W1 (.slice q n (cc - 1)) (bv b)) := hid (hq.fr F1.out)
  have hcw : W1.cell? ⟨w.heap.size + 1, 0, none⟩ = some (.int .u8 110) := by rw [blk_cell Y1.out]; rfl
  have BB : Hid (By b) := hid (fun x hx => hb x (by simp [hx]))
  clear hq hb
  rw [← hW1] at hst
  clear hW1
  go_enter Try.func16, Try.ntmps16
  go_upto_region 3 with fail
  rw [← hW0]
  clear hW0
  go_region
  clear hst hcell hcell1 hcut X0 F0 N0 hset
  have s15 := slice_all 23 32 alenH elemH (by kernel_rfl) W1 (w.heap.size + 1) 1
  obtain ⟨w2, hcp, x2, f2⟩ := copyB (n := 32) (m := 32) (o := 1) (k := min n 32) Y1.out (l := b) (by rw [hn]; exact R1.out) (by rw [hn]) (by rw [hlen]; omega)
  rw [hn] at hcp
  have F2 : Hid (Fr [] w w2) := hid (F1.out.newer f2 (by omega))
  have X2 : Hid (w2.heap[w.heap.size]? = some (.cells (rkc 0 z32 z32 0 es).toArray 36 (0, 0))) := hid (f2.at X1.out (by simp))
  have G2 := hid x2
  clear x2 f2
  have h32 := H32.out
  clear H32
  have hn32 : ((n : Int) == 32) = false := beq_eq_false_iff_ne.2 (by omega)
  have hst2 := stKc hlen0 hlen0 rkc_one X2.out
  obtain ⟨WZ, hWZ⟩ : ∃ W, W = (w2).setRow w.heap.size (rkc 0 z32 z32 0 es).toArray := ⟨_, rfl⟩
  rw [← hWZ] at hst2
  have ZZ : Hid (WZ.heap[w.heap.size]? = some (.cells (rkc 0 z32 z32 0 es).toArray 36 (0, 0))) := hid (by rw [hWZ]; exact setRow_heap _ _ _ _ _ _ X2.out)
  have FZ : Hid (Fr [] w WZ) := hid (by rw [hWZ]; exact F2.out.newer (p := w.heap.size) ⟨rfl, rfl, rfl, by simp [World.setRow], fun k hk hn => setRow_other _ _ _ _ (by simpa using hn)⟩ (by omega))
  clear hWZ
  go_wp2
  exact bodyPost_ret (ret_ct rfl rfl (ldK hlen0 ZZ.out)) rfl ⟨rfl, FZ.out⟩

set_option maxRecDepth 20000 in
set_option maxHeartbeats 1600000 in
theorem parse_c_ok (w : World) {v : Value} {n : Nat} {b : List Nat} (hr : Rd w v (bv (99 :: b))) (hb : By (99 :: b)) (hn : b.length = n) (hl : n < 140737488355328) (h32 : n = 32) :
    Calls Try.prog 16 #[v] w fun e w' => e = .returned (.tuple #[.agg (rkc 99 b z32 0 es).toArray, .int .i64 0]) ∧ Fr [] w w' := by
  have H32 := hid h32
  clear h32
  obtain ⟨a, cc, hv⟩ := hr.form
  have hbl : (bv (99 :: b)).length = n + 1 := by rw [bv_len]; simp [hn]
  rw [hbl] at hv
  subst hv
  have hz := zeroK
  have hne : ¬ rkc 0 z32 z32 0 es = [] := fun h => by cases h
  have hset : (rkc 0 z32 z32 0 es).set 0 (.int .u8 99) = rkc 99 z32 z32 0 es := rfl
  obtain ⟨p, off, rfl⟩ : ∃ p off, a = some ⟨p, off, none⟩ := by
    rcases hr.split with ⟨e, _⟩ | ⟨p, off, _, e, _⟩
    · cases e
    · simp only [Value.slice.injEq] at e; exact ⟨p, off, e.1⟩
  obtain ⟨q, hcut, hq⟩ := cutB (l := 1) hr (by simp [hn]) (by omega)
  rw [show n + 1 - 1 = n from rfl, List.drop_one, List.tail_cons] at hq
  rw [show n + 1 - 1 = n from rfl] at hcut
  rw [show (((1 : Nat) : Int)) = (1 : Int) from rfl] at hcut
  obtain ⟨W0, hW0⟩ : ∃ W, W = w.alloc (.cells (rkc 0 z32 z32 0 es).toArray 36) := ⟨_, rfl⟩
  have F0 : Hid (Fr [] w W0) := hid (by rw [hW0]; exact (Fr.refl _ w).alloc _)
  have N0 : W0.heap.size = w.heap.size + 1 := by rw [hW0]; simp
  have X0 : Hid (W0.heap[w.heap.size]? = some (.cells (rkc 0 z32 z32 0 es).toArray 36 (0, 0))) := hid (by rw [hW0]; exact blk_new _ _)
  have hcell : W0.cell? ⟨p, off, none⟩ = some (.int .u8 99) := by
    rcases (hr.fr F0.out) with ⟨h, _⟩ | ⟨a, c', h, h4, h5⟩
    · cases h
    · simp only [Value.slice.injEq, Option.some.injEq] at h
      obtain ⟨rfl, _, rfl⟩ := h
      have := h5 0 _ (bv_at (k := 0) rfl)
      rwa [Addr.add_lit] at this
  have hcell1 : (W0.alloc (.cells (rkc 0 z32 z32 0 es).toArray 36)).cell? ⟨p, off, none⟩ = some (.int .u8 99) := by
    rw [World.cell?_of_block (w := W0) (blk_old _ _ (World.block_lt_of_cell? W0 _ hcell))]; exact hcell
  have hlen : (rkc 99 z32 z32 0 es).length = 67 := rkc_len z32_len z32_len
  have hlen0 : (rkc 0 z32 z32 0 es).length = 67 := rkc_len z32_len z32_len
  have hst : (storeCells ⟨w.heap.size + 1, 0, none⟩ (rkc 99 z32 z32 0 es)).run Try.prog (W0.alloc (.cells (rkc 0 z32 z32 0 es).toArray 36)).drew = _ := stKc (l := rkc 0 z32 z32 0 es) (t := 36) (m := rkc 99 z32 z32 0 es) hlen0 hlen rkc_one (by rw [blk_drew, ← N0]; exact blk_new _ _)
  obtain ⟨W1, hW1⟩ : ∃ W, W = (W0.alloc (.cells (rkc 0 z32 z32 0 es).toArray 36)).drew.setRow (w.heap.size + 1) (rkc 99 z32 z32 0 es).toArray := ⟨_, rfl⟩
  have Y1 : Hid (W1.heap[w.heap.size + 1]? = some (.cells (rkc 99 z32 z32 0 es).toArray 36 (0, 0))) := hid (by rw [hW1]; exact setRow_heap _ _ (rkc 0 z32 z32 0 es).toArray _ _ _ (by rw [blk_drew, ← N0]; exact blk_new _ _))
  have X1 : Hid (W1.heap[w.heap.size]? = some (.cells (rkc 0 z32 z32 0 es).toArray 36 (0, 0))) := hid (by rw [hW1, setRow_other _ _ _ _ (by omega), blk_drew, blk_old _ _ (by rw [N0]; omega)]; exact X0.out)
  have F1 : Hid (Fr [] w W1) := hid (by rw [hW1]; exact (F0.out.alloc _).drew.newer (p := w.heap.size + 1) ⟨rfl, rfl, rfl, by simp [World.setRow], fun k hk hn => setRow_other _ _ _ _ (by simpa using hn)⟩ (by omega))
  have HQ := hid hq
  have R1 : Hid (Rd W1 (.slice q n (cc - 1)) (bv b)) := hid (hq.fr F1.out)
  have hcw : W1.cell? ⟨w.heap.size + 1, 0, none⟩ = some (.int .u8 99) := by rw [blk_cell Y1.out]; rfl
  have BB : Hid (By b) := hid (fun x hx => hb x (by simp [hx]))
  clear hq hb
  rw [← hW1] at hst
  clear hW1
  go_enter Try.func16, Try.ntmps16
  go_upto_region 3 with fail
  rw [← hW0]
  clear hW0
  go_region
  clear hst hcell hcell1 hcut X0 F0 N0 hset
  have s15 := slice_all 23 32 alenH elemH (by kernel_rfl) W1 (w.heap.size + 1) 1
  obtain ⟨w2, hcp, x2, f2⟩ := copyB (n := 32) (m := 32) (o := 1) (k := min n 32) Y1.out (l := b) (by rw [hn]; exact R1.out) (by rw [hn]) (by rw [hlen]; omega)
  rw [hn] at hcp
  have F2 : Hid (Fr [] w w2) := hid (F1.out.newer f2 (by omega))
  have X2 : Hid (w2.heap[w.heap.size]? = some (.cells (rkc 0 z32 z32 0 es).toArray 36 (0, 0))) := hid (f2.at X1.out (by simp))
  have G2 := hid x2
  clear x2 f2
  have h32 := H32.out
  clear H32
  subst h32
  have Y2 : Hid (w2.heap[w.heap.size + 1]? = some (.cells (rkc 99 b z32 0 es).toArray 36 (0, 0))) := hid (by
    have e : b.take (min 32 32) = b := List.take_of_length_le (by omega)
    rw [G2.out, e]; rfl)
  have hlk : (rkc 99 b z32 0 es).length = 67 := rkc_len hn z32_len
  have hst2 := stKc hlen0 hlk rkc_one X2.out
  obtain ⟨WZ, hWZ⟩ : ∃ W, W = (w2).setRow w.heap.size (rkc 99 b z32 0 es).toArray := ⟨_, rfl⟩
  rw [← hWZ] at hst2
  have ZZ : Hid (WZ.heap[w.heap.size]? = some (.cells (rkc 99 b z32 0 es).toArray 36 (0, 0))) := hid (by rw [hWZ]; exact setRow_heap _ _ _ _ _ _ X2.out)
  have FZ : Hid (Fr [] w WZ) := hid (by rw [hWZ]; exact F2.out.newer (p := w.heap.size) ⟨rfl, rfl, rfl, by simp [World.setRow], fun k hk hn => setRow_other _ _ _ _ (by simpa using hn)⟩ (by omega))
  clear hWZ
  go_wp2_with (with_reducible (show wpList Try.prog _ _ (_ :: _) _ _); refine wpList_ldK (by kernel_rfl) (.tmp 4) rfl hlk Y2.out rfl ?_)
  exact bodyPost_ret (ret_ct rfl rfl (ldK hlk ZZ.out)) rfl ⟨rfl, FZ.out⟩

set_option maxRecDepth 20000 in
set_option maxHeartbeats 1600000 in
theorem parse_c_no (w : World) {v : Value} {n : Nat} {b : List Nat} (hr : Rd w v (bv (99 :: b))) (hb : By (99 :: b)) (hn : b.length = n) (hl : n < 140737488355328) (h32 : n ≠ 32) :
    Calls Try.prog 16 #[v] w fun e w' => e = .returned (.tuple #[.agg (rkc 0 z32 z32 0 es).toArray, .int .i64 132]) ∧ Fr [] w w' := by
  have H32 := hid h32
  clear h32
  obtain ⟨a, cc, hv⟩ := hr.form
  have hbl : (bv (99 :: b)).length = n + 1 := by rw [bv_len]; simp [hn]
  rw [hbl] at hv
  subst hv
  have hz := zeroK
  have hne : ¬ rkc 0 z32 z32 0 es = [] := fun h => by cases h
  have hset : (rkc 0 z32 z32 0 es).set 0 (.int .u8 99) = rkc 99 z32 z32 0 es := rfl
  obtain ⟨p, off, rfl⟩ : ∃ p off, a = some ⟨p, off, none⟩ := by
    rcases hr.split with ⟨e, _⟩ | ⟨p, off, _, e, _⟩
    · cases e
    · simp only [Value.slice.injEq] at e; exact ⟨p, off, e.1⟩
  obtain ⟨q, hcut, hq⟩ := cutB (l := 1) hr (by simp [hn]) (by omega)
  rw [show n + 1 - 1 = n from rfl, List.drop_one, List.tail_cons] at hq
  rw [show n + 1 - 1 = n from rfl] at hcut
  rw [show (((1 : Nat) : Int)) = (1 : Int) from rfl] at hcut
  obtain ⟨W0, hW0⟩ : ∃ W, W = w.alloc (.cells (rkc 0 z32 z32 0 es).toArray 36) := ⟨_, rfl⟩
  have F0 : Hid (Fr [] w W0) := hid (by rw [hW0]; exact (Fr.refl _ w).alloc _)
  have N0 : W0.heap.size = w.heap.size + 1 := by rw [hW0]; simp
  have X0 : Hid (W0.heap[w.heap.size]? = some (.cells (rkc 0 z32 z32 0 es).toArray 36 (0, 0))) := hid (by rw [hW0]; exact blk_new _ _)
  have hcell : W0.cell? ⟨p, off, none⟩ = some (.int .u8 99) := by
    rcases (hr.fr F0.out) with ⟨h, _⟩ | ⟨a, c', h, h4, h5⟩
    · cases h
    · simp only [Value.slice.injEq, Option.some.injEq] at h
      obtain ⟨rfl, _, rfl⟩ := h
      have := h5 0 _ (bv_at (k := 0) rfl)
      rwa [Addr.add_lit] at this
  have hcell1 : (W0.alloc (.cells (rkc 0 z32 z32 0 es).toArray 36)).cell? ⟨p, off, none⟩ = some (.int .u8 99) := by
    rw [World.cell?_of_block (w := W0) (blk_old _ _ (World.block_lt_of_cell? W0 _ hcell))]; exact hcell
  have hlen : (rkc 99 z32 z32 0 es).length = 67 := rkc_len z32_len z32_len
  have hlen0 : (rkc 0 z32 z32 0 es).length = 67 := rkc_len z32_len z32_len
  have hst : (storeCells ⟨w.heap.size + 1, 0, none⟩ (rkc 99 z32 z32 0 es)).run Try.prog (W0.alloc (.cells (rkc 0 z32 z32 0 es).toArray 36)).drew = _ := stKc (l := rkc 0 z32 z32 0 es) (t := 36) (m := rkc 99 z32 z32 0 es) hlen0 hlen rkc_one (by rw [blk_drew, ← N0]; exact blk_new _ _)
  obtain ⟨W1, hW1⟩ : ∃ W, W = (W0.alloc (.cells (rkc 0 z32 z32 0 es).toArray 36)).drew.setRow (w.heap.size + 1) (rkc 99 z32 z32 0 es).toArray := ⟨_, rfl⟩
  have Y1 : Hid (W1.heap[w.heap.size + 1]? = some (.cells (rkc 99 z32 z32 0 es).toArray 36 (0, 0))) := hid (by rw [hW1]; exact setRow_heap _ _ (rkc 0 z32 z32 0 es).toArray _ _ _ (by rw [blk_drew, ← N0]; exact blk_new _ _))
  have X1 : Hid (W1.heap[w.heap.size]? = some (.cells (rkc 0 z32 z32 0 es).toArray 36 (0, 0))) := hid (by rw [hW1, setRow_other _ _ _ _ (by omega), blk_drew, blk_old _ _ (by rw [N0]; omega)]; exact X0.out)
  have F1 : Hid (Fr [] w W1) := hid (by rw [hW1]; exact (F0.out.alloc _).drew.newer (p := w.heap.size + 1) ⟨rfl, rfl, rfl, by simp [World.setRow], fun k hk hn => setRow_other _ _ _ _ (by simpa using hn)⟩ (by omega))
  have HQ := hid hq
  have R1 : Hid (Rd W1 (.slice q n (cc - 1)) (bv b)) := hid (hq.fr F1.out)
  have hcw : W1.cell? ⟨w.heap.size + 1, 0, none⟩ = some (.int .u8 99) := by rw [blk_cell Y1.out]; rfl
  have BB : Hid (By b) := hid (fun x hx => hb x (by simp [hx]))
  clear hq hb
  rw [← hW1] at hst
  clear hW1
  go_enter Try.func16, Try.ntmps16
  go_upto_region 3 with fail
  rw [← hW0]
  clear hW0
  go_region
  clear hst hcell hcell1 hcut X0 F0 N0 hset
  have s15 := slice_all 23 32 alenH elemH (by kernel_rfl) W1 (w.heap.size + 1) 1
  obtain ⟨w2, hcp, x2, f2⟩ := copyB (n := 32) (m := 32) (o := 1) (k := min n 32) Y1.out (l := b) (by rw [hn]; exact R1.out) (by rw [hn]) (by rw [hlen]; omega)
  rw [hn] at hcp
  have F2 : Hid (Fr [] w w2) := hid (F1.out.newer f2 (by omega))
  have X2 : Hid (w2.heap[w.heap.size]? = some (.cells (rkc 0 z32 z32 0 es).toArray 36 (0, 0))) := hid (f2.at X1.out (by simp))
  have G2 := hid x2
  clear x2 f2
  have h32 := H32.out
  clear H32
  have hn32 : ((n : Int) == 32) = false := beq_eq_false_iff_ne.2 (by omega)
  have hst2 := stKc hlen0 hlen0 rkc_one X2.out
  obtain ⟨WZ, hWZ⟩ : ∃ W, W = (w2).setRow w.heap.size (rkc 0 z32 z32 0 es).toArray := ⟨_, rfl⟩
  rw [← hWZ] at hst2
  have ZZ : Hid (WZ.heap[w.heap.size]? = some (.cells (rkc 0 z32 z32 0 es).toArray 36 (0, 0))) := hid (by rw [hWZ]; exact setRow_heap _ _ _ _ _ _ X2.out)
  have FZ : Hid (Fr [] w WZ) := hid (by rw [hWZ]; exact F2.out.newer (p := w.heap.size) ⟨rfl, rfl, rfl, by simp [World.setRow], fun k hk hn => setRow_other _ _ _ _ (by simpa using hn)⟩ (by omega))
  clear hWZ
  go_wp2
  exact bodyPost_ret (ret_ct rfl rfl (ldK hlen0 ZZ.out)) rfl ⟨rfl, FZ.out⟩

end Go.Proofs.Ytpacijcjcdigmaa
