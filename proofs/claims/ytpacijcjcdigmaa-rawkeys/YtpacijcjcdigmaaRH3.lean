/-
  The document's Parse, letter by letter.
-/
import Derived.Test.YtpacijcjcdigmaaRD
namespace Go.Proofs.Ytpacijcjcdigmaa
open Go.ChangeShapes Go.WideShapes Go.ChangeAt Go.RowKit

set_option maxRecDepth 20000 in
set_option maxHeartbeats 1600000 in
theorem rparse_r_no (w : World) {v : Value} {n : Nat} {b : List Nat} (hr : Rd w v (bv (114 :: b))) (hb : By (114 :: b)) (hn : b.length = n) (hl : n < 140737488355328) (h32 : n ≠ 8) :
    Calls Try.prog 17 #[v] w fun e w' => e = .returned (.tuple #[.agg (rkc 0 z32 z32 0 es).toArray, .int .i64 132]) ∧ Fr [] w w' := by
  have H32 := hid h32
  clear h32
  obtain ⟨a, cc, hv⟩ := hr.form
  have hbl : (bv (114 :: b)).length = n + 1 := by rw [bv_len]; simp [hn]
  rw [hbl] at hv
  subst hv
  have hz := zeroK
  have hne : ¬ rkc 0 z32 z32 0 es = [] := fun h => by cases h
  have hset : (rkc 0 z32 z32 0 es).set 0 (.int .u8 114) = rkc 114 z32 z32 0 es := rfl
  obtain ⟨p, off, rfl⟩ : ∃ p off, a = some ⟨p, off, none⟩ := by
    rcases hr.split with ⟨e, _⟩ | ⟨p, off, _, e, _⟩
    · cases e
    · simp only [Value.slice.injEq] at e; exact ⟨p, off, e.1⟩
  obtain ⟨q, hcut, hq⟩ := cutB (l := 1) hr (by simp [hn]) (by omega)
  rw [show n + 1 - 1 = n from rfl, List.drop_one, List.tail_cons] at hq
  rw [show n + 1 - 1 = n from rfl] at hcut
  rw [show (((1 : Nat) : Int)) = (1 : Int) from rfl] at hcut
  obtain ⟨W0, hW0⟩ : ∃ W, W = w.alloc (.cells (rkc 0 z32 z32 0 es).toArray 36) := ⟨_, rfl⟩
  have F0 : Hid (Fr [] w W0) := hid (by rw [hW0]; exact (Fr.refl _ w).alloc _)
  have N0 : W0.heap.size = w.heap.size + 1 := by rw [hW0]; simp
  have X0 : Hid (W0.heap[w.heap.size]? = some (.cells (rkc 0 z32 z32 0 es).toArray 36 (0, 0))) := hid (by rw [hW0]; exact blk_new _ _)
  have celled : ∀ W, Fr [] w W → W.cell? ⟨p, off, none⟩ = some (.int .u8 114) := fun W hF => by
    rcases (hr.fr hF) with ⟨h, _⟩ | ⟨a, c', h, h4, h5⟩
    · cases h
    · simp only [Value.slice.injEq, Option.some.injEq] at h
      obtain ⟨rfl, _, rfl⟩ := h
      have := h5 0 _ (bv_at (k := 0) rfl)
      rwa [Addr.add_lit] at this
  have hcell := celled W0 F0.out
  have hlen : (rkc 114 z32 z32 0 es).length = 67 := rkc_len z32_len z32_len
  have hlen0 : (rkc 0 z32 z32 0 es).length = 67 := rkc_len z32_len z32_len
  have hst : (storeCells ⟨w.heap.size + 1, 0, none⟩ (rkc 114 z32 z32 0 es)).run Try.prog (W0.alloc (.cells (rkc 0 z32 z32 0 es).toArray 36)) = _ := stKc (l := rkc 0 z32 z32 0 es) (t := 36) (m := rkc 114 z32 z32 0 es) hlen0 hlen rkc_one (by rw [← N0]; exact blk_new _ _)
  obtain ⟨W1, hW1⟩ : ∃ W, W = (W0.alloc (.cells (rkc 0 z32 z32 0 es).toArray 36)).setRow (w.heap.size + 1) (rkc 114 z32 z32 0 es).toArray := ⟨_, rfl⟩
  have Y1 : Hid (W1.heap[w.heap.size + 1]? = some (.cells (rkc 114 z32 z32 0 es).toArray 36 (0, 0))) := hid (by rw [hW1]; exact setRow_heap _ _ (rkc 0 z32 z32 0 es).toArray _ _ _ (by rw [← N0]; exact blk_new _ _))
  have X1 : Hid (W1.heap[w.heap.size]? = some (.cells (rkc 0 z32 z32 0 es).toArray 36 (0, 0))) := hid (by rw [hW1, setRow_other _ _ _ _ (by omega), blk_old _ _ (by rw [N0]; omega)]; exact X0.out)
  have F1 : Hid (Fr [] w W1) := hid (by rw [hW1]; exact (F0.out.alloc _).newer (p := w.heap.size + 1) ⟨rfl, rfl, rfl, by simp [World.setRow], fun k hk hn => setRow_other _ _ _ _ (by simpa using hn)⟩ (by omega))
  have HQ := hid hq
  have R1 : Hid (Rd W1 (.slice q n (cc - 1)) (bv b)) := hid (hq.fr F1.out)
  have hcell1 := celled W1 F1.out
  have BB : Hid (By b) := hid (fun x hx => hb x (by simp [hx]))
  clear hq hb celled
  rw [← hW1] at hst
  clear hW1
  go_enter Try.func17, Try.ntmps17
  go_upto_region 3 with fail
  rw [← hW0]
  clear hW0
  go_upto_region 5 with fail
  clear hst hcell hcut X0 F0 N0 hset
  have h32 := H32.out
  clear H32
  have hn32 : ((n : Int) == 8) = false := beq_eq_false_iff_ne.2 (by omega)
  have hst2 := stKc hlen0 hlen0 rkc_one X1.out
  obtain ⟨WZ, hWZ⟩ : ∃ W, W = (W1).setRow w.heap.size (rkc 0 z32 z32 0 es).toArray := ⟨_, rfl⟩
  rw [← hWZ] at hst2
  have ZZ : Hid (WZ.heap[w.heap.size]? = some (.cells (rkc 0 z32 z32 0 es).toArray 36 (0, 0))) := hid (by rw [hWZ]; exact setRow_heap _ _ _ _ _ _ X1.out)
  have FZ : Hid (Fr [] w WZ) := hid (by rw [hWZ]; exact F1.out.newer (p := w.heap.size) ⟨rfl, rfl, rfl, by simp [World.setRow], fun k hk hn => setRow_other _ _ _ _ (by simpa using hn)⟩ (by omega))
  clear hWZ
  go_wp2
  exact bodyPost_ret (ret_ct rfl rfl (ldK hlen0 ZZ.out)) rfl ⟨rfl, FZ.out⟩

set_option maxRecDepth 20000 in
set_option maxHeartbeats 1600000 in
theorem rparse_r_ok (w : World) {v : Value} {n : Nat} {b : List Nat} (hr : Rd w v (bv (114 :: b))) (hb : By (114 :: b)) (hn : b.length = n) (hl : n < 140737488355328) (h32 : n = 8) :
    Calls Try.prog 17 #[v] w fun e w' => e = .returned (.tuple #[.agg (rkc 114 z32 z32 (nbr b) es).toArray, .int .i64 0]) ∧ Fr [] w w' := by
  have H32 := hid h32
  clear h32
  obtain ⟨a, cc, hv⟩ := hr.form
  have hbl : (bv (114 :: b)).length = n + 1 := by rw [bv_len]; simp [hn]
  rw [hbl] at hv
  subst hv
  have hz := zeroK
  have hne : ¬ rkc 0 z32 z32 0 es = [] := fun h => by cases h
  have hset : (rkc 0 z32 z32 0 es).set 0 (.int .u8 114) = rkc 114 z32 z32 0 es := rfl
  obtain ⟨p, off, rfl⟩ : ∃ p off, a = some ⟨p, off, none⟩ := by
    rcases hr.split with ⟨e, _⟩ | ⟨p, off, _, e, _⟩
    · cases e
    · simp only [Value.slice.injEq] at e; exact ⟨p, off, e.1⟩
  obtain ⟨q, hcut, hq⟩ := cutB (l := 1) hr (by simp [hn]) (by omega)
  rw [show n + 1 - 1 = n from rfl, List.drop_one, List.tail_cons] at hq
  rw [show n + 1 - 1 = n from rfl] at hcut
  rw [show (((1 : Nat) : Int)) = (1 : Int) from rfl] at hcut
  obtain ⟨W0, hW0⟩ : ∃ W, W = w.alloc (.cells (rkc 0 z32 z32 0 es).toArray 36) := ⟨_, rfl⟩
  have F0 : Hid (Fr [] w W0) := hid (by rw [hW0]; exact (Fr.refl _ w).alloc _)
  have N0 : W0.heap.size = w.heap.size + 1 := by rw [hW0]; simp
  have X0 : Hid (W0.heap[w.heap.size]? = some (.cells (rkc 0 z32 z32 0 es).toArray 36 (0, 0))) := hid (by rw [hW0]; exact blk_new _ _)
  have celled : ∀ W, Fr [] w W → W.cell? ⟨p, off, none⟩ = some (.int .u8 114) := fun W hF => by
    rcases (hr.fr hF) with ⟨h, _⟩ | ⟨a, c', h, h4, h5⟩
    · cases h
    · simp only [Value.slice.injEq, Option.some.injEq] at h
      obtain ⟨rfl, _, rfl⟩ := h
      have := h5 0 _ (bv_at (k := 0) rfl)
      rwa [Addr.add_lit] at this
  have hcell := celled W0 F0.out
  have hlen : (rkc 114 z32 z32 0 es).length = 67 := rkc_len z32_len z32_len
  have hlen0 : (rkc 0 z32 z32 0 es).length = 67 := rkc_len z32_len z32_len
  have hst : (storeCells ⟨w.heap.size + 1, 0, none⟩ (rkc 114 z32 z32 0 es)).run Try.prog (W0.alloc (.cells (rkc 0 z32 z32 0 es).toArray 36)) = _ := stKc (l := rkc 0 z32 z32 0 es) (t := 36) (m := rkc 114 z32 z32 0 es) hlen0 hlen rkc_one (by rw [← N0]; exact blk_new _ _)
  obtain ⟨W1, hW1⟩ : ∃ W, W = (W0.alloc (.cells (rkc 0 z32 z32 0 es).toArray 36)).setRow (w.heap.size + 1) (rkc 114 z32 z32 0 es).toArray := ⟨_, rfl⟩
  have Y1 : Hid (W1.heap[w.heap.size + 1]? = some (.cells (rkc 114 z32 z32 0 es).toArray 36 (0, 0))) := hid (by rw [hW1]; exact setRow_heap _ _ (rkc 0 z32 z32 0 es).toArray _ _ _ (by rw [← N0]; exact blk_new _ _))
  have X1 : Hid (W1.heap[w.heap.size]? = some (.cells (rkc 0 z32 z32 0 es).toArray 36 (0, 0))) := hid (by rw [hW1, setRow_other _ _ _ _ (by omega), blk_old _ _ (by rw [N0]; omega)]; exact X0.out)
  have F1 : Hid (Fr [] w W1) := hid (by rw [hW1]; exact (F0.out.alloc _).newer (p := w.heap.size + 1) ⟨rfl, rfl, rfl, by simp [World.setRow], fun k hk hn => setRow_other _ _ _ _ (by simpa using hn)⟩ (by omega))
  have HQ := hid hq
  have R1 : Hid (Rd W1 (.slice q n (cc - 1)) (bv b)) := hid (hq.fr F1.out)
  have hcell1 := celled W1 F1.out
  have BB : Hid (By b) := hid (fun x hx => hb x (by simp [hx]))
  clear hq hb celled
  rw [← hW1] at hst
  clear hW1
  go_enter Try.func17, Try.ntmps17
  go_upto_region 3 with fail
  rw [← hW0]
  clear hW0
  go_upto_region 5 with fail
  clear hst hcell hcut X0 F0 N0 hset
  have hn8 : ((n : Int) == 8) = true := beq_iff_eq.2 (by have := H32.out; omega)
  obtain ⟨pk, ok, ck, hqq, hqc⟩ : ∃ pk ok ck, Value.slice q n (cc - 1) = .slice (some ⟨pk, ok, none⟩) n ck ∧ ∀ (j x : Nat), b[j]? = some x → W1.cell? ⟨pk, ok + j, none⟩ = some (.int .u8 (x : Int)) := by
    rcases R1.out.split with ⟨e, _⟩ | ⟨pk, ok, ck, e, _, _, h⟩
    · have := H32.out; rw [e] at hn; simp at hn; omega
    · rw [hn] at e; exact ⟨pk, ok, ck, e, h⟩
  simp only [Value.slice.injEq] at hqq
  obtain ⟨rfl, _, rfl⟩ := hqq
  have HQC : Hid (∀ W, Fr [] w W → ∀ (j x : Nat), b[j]? = some x → W.cell? ⟨pk, ok + j, none⟩ = some (.int .u8 (x : Int))) := hid (fun W hF => by
    rcases (HQ.out.fr hF).split with ⟨e, _⟩ | ⟨pk', ok', ck', e, _, _, h⟩
    · have := H32.out; rw [e] at hn; simp at hn; omega
    · simp only [Value.slice.injEq, Option.some.injEq, Addr.mk.injEq] at e
      obtain ⟨⟨rfl, rfl, _⟩, _⟩ := e
      exact h)
  clear hqc
  have H8 := H32
  clear H32
  go_wp2_with fail
  go_loopw [6] (fun v6 wr => ∃ i : Nat, i ≤ 8 ∧ v6 = .int .i64 (i : Int) ∧ wr.heap[w.heap.size + 1]? = some (.cells (rkc 114 z32 z32 (nbr (b.take i)) es).toArray 36 (0, 0)) ∧ wr.heap[w.heap.size]? = some (.cells (rkc 0 z32 z32 0 es).toArray 36 (0, 0)) ∧ Fr [] w wr) (fun v6 _ => 8 - (intOf v6).toNat)
  case atStart => exact ⟨0, by omega, rfl, Y1.out, X1.out, F1.out⟩
  case round =>
    obtain ⟨i, hi, rfl, hY, hX, hF⟩ := hrel
    have HY := hid hY
    have HX := hid hX
    have HF := hid hF
    clear hY hX hF
    by_cases hlt : i < 8
    · obtain ⟨x, hx⟩ : ∃ x, b[i]? = some x := ⟨_, List.getElem?_eq_getElem (by have := H8.out; omega)⟩
      have hin : (i : Int) < (n : Int) := by have := H8.out; omega
      have hcx := HQC.out wr.drew HF.out.drew i x hx
      have hx256 : x < 256 := BB.out.at hx
      have HU : Hid (nbr (b.take (i + 1)) = nbr (b.take i) % 72057594037927936 * 256 + x) := hid (by
        rw [List.take_add_one, hx]; exact nbr_snoc _ _)
      have hm : nbr (b.take i) < 18446744073709551616 := nbr_lt (BB.out.take i)
      generalize nbr (b.take i) = m at HU HY hm
      have hc65 : wr.drew.cell? ⟨w.heap.size + 1, 65, none⟩ = some (.int .u64 (m : Int)) := by rw [blk_cell (w := wr.drew) HY.out]; rfl
      have hf65 : wr.drew.frozen? ⟨w.heap.size + 1, 65, none⟩ = false := blk_frozen (w := wr.drew) HY.out 65
      clear hx
      go_wp2_with fail
      go_region
      go_wp2
      go_roundw
      case rel =>
        have hv : IntKind.u64.wrap (IntKind.u64.wrap (256 * (m : Int)) + (x : Int)) = ((m % 72057594037927936 * 256 + x : Nat) : Int) := by rw [IntKind.wrap_u64, IntKind.wrap_u64]; omega
        refine ⟨i + 1, by omega, by go_num, ?_, ?_, (HF.out.set _ _ (.inr (by omega))).drew⟩
        · rw [blk_drew, blk_set HY.out, HU.out, hv]; rfl
        · rw [blk_drew, blk_setne _ _ _ (by omega)]; exact HX.out
      case measure => simp [intOf]; omega
    · obtain rfl : i = 8 := by omega
      have e8 : b.take 8 = b := List.take_of_length_le (by have := H8.out; omega)
      rw [e8] at HY
      clear e8
      have hlk : (rkc 114 z32 z32 (nbr b) es).length = 67 := rkc_len z32_len z32_len
      have hst2 := stKc hlen0 hlk rkc_one HX.out
      obtain ⟨WZ, hWZ⟩ : ∃ W, W = (wr).setRow w.heap.size (rkc 114 z32 z32 (nbr b) es).toArray := ⟨_, rfl⟩
      rw [← hWZ] at hst2
      have ZZ : Hid (WZ.heap[w.heap.size]? = some (.cells (rkc 114 z32 z32 (nbr b) es).toArray 36 (0, 0))) := hid (by rw [hWZ]; exact setRow_heap _ _ _ _ _ _ HX.out)
      have FZ : Hid (Fr [] w WZ) := hid (by rw [hWZ]; exact HF.out.newer (p := w.heap.size) ⟨rfl, rfl, rfl, by simp [World.setRow], fun k hk hn => setRow_other _ _ _ _ (by simpa using hn)⟩ (by omega))
      clear hWZ
      go_wp2_with (with_reducible (show wpList Try.prog _ _ (_ :: _) _ _); refine wpList_ldK (by kernel_rfl) (.tmp 4) rfl hlk HY.out rfl ?_)
      exact bodyPost_ret (ret_ct rfl rfl (ldK hlk ZZ.out)) rfl ⟨rfl, FZ.out⟩

set_option maxRecDepth 20000 in
set_option maxHeartbeats 1600000 in
theorem rparse_b_no (w : World) {v : Value} {n : Nat} {b : List Nat} (hr : Rd w v (bv (98 :: b))) (hb : By (98 :: b)) (hn : b.length = n) (hl : n < 140737488355328) (h32 : n ≠ 8) :
    Calls Try.prog 17 #[v] w fun e w' => e = .returned (.tuple #[.agg (rkc 0 z32 z32 0 es).toArray, .int .i64 132]) ∧ Fr [] w w' := by
  have H32 := hid h32
  clear h32
  obtain ⟨a, cc, hv⟩ := hr.form
  have hbl : (bv (98 :: b)).length = n + 1 := by rw [bv_len]; simp [hn]
  rw [hbl] at hv
  subst hv
  have hz := zeroK
  have hne : ¬ rkc 0 z32 z32 0 es = [] := fun h => by cases h
  have hset : (rkc 0 z32 z32 0 es).set 0 (.int .u8 98) = rkc 98 z32 z32 0 es := rfl
  obtain ⟨p, off, rfl⟩ : ∃ p off, a = some ⟨p, off, none⟩ := by
    rcases hr.split with ⟨e, _⟩ | ⟨p, off, _, e, _⟩
    · cases e
    · simp only [Value.slice.injEq] at e; exact ⟨p, off, e.1⟩
  obtain ⟨q, hcut, hq⟩ := cutB (l := 1) hr (by simp [hn]) (by omega)
  rw [show n + 1 - 1 = n from rfl, List.drop_one, List.tail_cons] at hq
  rw [show n + 1 - 1 = n from rfl] at hcut
  rw [show (((1 : Nat) : Int)) = (1 : Int) from rfl] at hcut
  obtain ⟨W0, hW0⟩ : ∃ W, W = w.alloc (.cells (rkc 0 z32 z32 0 es).toArray 36) := ⟨_, rfl⟩
  have F0 : Hid (Fr [] w W0) := hid (by rw [hW0]; exact (Fr.refl _ w).alloc _)
  have N0 : W0.heap.size = w.heap.size + 1 := by rw [hW0]; simp
  have X0 : Hid (W0.heap[w.heap.size]? = some (.cells (rkc 0 z32 z32 0 es).toArray 36 (0, 0))) := hid (by rw [hW0]; exact blk_new _ _)
  have celled : ∀ W, Fr [] w W → W.cell? ⟨p, off, none⟩ = some (.int .u8 98) := fun W hF => by
    rcases (hr.fr hF) with ⟨h, _⟩ | ⟨a, c', h, h4, h5⟩
    · cases h
    · simp only [Value.slice.injEq, Option.some.injEq] at h
      obtain ⟨rfl, _, rfl⟩ := h
      have := h5 0 _ (bv_at (k := 0) rfl)
      rwa [Addr.add_lit] at this
  have hcell := celled W0 F0.out
  have hlen : (rkc 98 z32 z32 0 es).length = 67 := rkc_len z32_len z32_len
  have hlen0 : (rkc 0 z32 z32 0 es).length = 67 := rkc_len z32_len z32_len
  have hst : (storeCells ⟨w.heap.size + 1, 0, none⟩ (rkc 98 z32 z32 0 es)).run Try.prog (W0.alloc (.cells (rkc 0 z32 z32 0 es).toArray 36)) = _ := stKc (l := rkc 0 z32 z32 0 es) (t := 36) (m := rkc 98 z32 z32 0 es) hlen0 hlen rkc_one (by rw [← N0]; exact blk_new _ _)
  obtain ⟨W1, hW1⟩ : ∃ W, W = (W0.alloc (.cells (rkc 0 z32 z32 0 es).toArray 36)).setRow (w.heap.size + 1) (rkc 98 z32 z32 0 es).toArray := ⟨_, rfl⟩
  have Y1 : Hid (W1.heap[w.heap.size + 1]? = some (.cells (rkc 98 z32 z32 0 es).toArray 36 (0, 0))) := hid (by rw [hW1]; exact setRow_heap _ _ (rkc 0 z32 z32 0 es).toArray _ _ _ (by rw [← N0]; exact blk_new _ _))
  have X1 : Hid (W1.heap[w.heap.size]? = some (.cells (rkc 0 z32 z32 0 es).toArray 36 (0, 0))) := hid (by rw [hW1, setRow_other _ _ _ _ (by omega), blk_old _ _ (by rw [N0]; omega)]; exact X0.out)
  have F1 : Hid (Fr [] w W1) := hid (by rw [hW1]; exact (F0.out.alloc _).newer (p := w.heap.size + 1) ⟨rfl, rfl, rfl, by simp [World.setRow], fun k hk hn => setRow_other _ _ _ _ (by simpa using hn)⟩ (by omega))
  have HQ := hid hq
  have R1 : Hid (Rd W1 (.slice q n (cc - 1)) (bv b)) := hid (hq.fr F1.out)
  have hcell1 := celled W1 F1.out
  have BB : Hid (By b) := hid (fun x hx => hb x (by simp [hx]))
  clear hq hb celled
  rw [← hW1] at hst
  clear hW1
  go_enter Try.func17, Try.ntmps17
  go_upto_region 3 with fail
  rw [← hW0]
  clear hW0
  go_upto_region 5 with fail
  clear hst hcell hcut X0 F0 N0 hset
  have h32 := H32.out
  clear H32
  have hn32 : ((n : Int) == 8) = false := beq_eq_false_iff_ne.2 (by omega)
  have hst2 := stKc hlen0 hlen0 rkc_one X1.out
  obtain ⟨WZ, hWZ⟩ : ∃ W, W = (W1).setRow w.heap.size (rkc 0 z32 z32 0 es).toArray := ⟨_, rfl⟩
  rw [← hWZ] at hst2
  have ZZ : Hid (WZ.heap[w.heap.size]? = some (.cells (rkc 0 z32 z32 0 es).toArray 36 (0, 0))) := hid (by rw [hWZ]; exact setRow_heap _ _ _ _ _ _ X1.out)
  have FZ : Hid (Fr [] w WZ) := hid (by rw [hWZ]; exact F1.out.newer (p := w.heap.size) ⟨rfl, rfl, rfl, by simp [World.setRow], fun k hk hn => setRow_other _ _ _ _ (by simpa using hn)⟩ (by omega))
  clear hWZ
  go_wp2
  exact bodyPost_ret (ret_ct rfl rfl (ldK hlen0 ZZ.out)) rfl ⟨rfl, FZ.out⟩

set_option maxRecDepth 20000 in
set_option maxHeartbeats 1600000 in
theorem rparse_b_ok (w : World) {v : Value} {n : Nat} {b : List Nat} (hr : Rd w v (bv (98 :: b))) (hb : By (98 :: b)) (hn : b.length = n) (hl : n < 140737488355328) (h32 : n = 8) :
    Calls Try.prog 17 #[v] w fun e w' => e = .returned (.tuple #[.agg (rkc 98 z32 z32 (nbr b) es).toArray, .int .i64 0]) ∧ Fr [] w w' := by
  have H32 := hid h32
  clear h32
  obtain ⟨a, cc, hv⟩ := hr.form
  have hbl : (bv (98 :: b)).length = n + 1 := by rw [bv_len]; simp [hn]
  rw [hbl] at hv
  subst hv
  have hz := zeroK
  have hne : ¬ rkc 0 z32 z32 0 es = [] := fun h => by cases h
  have hset : (rkc 0 z32 z32 0 es).set 0 (.int .u8 98) = rkc 98 z32 z32 0 es := rfl
  obtain ⟨p, off, rfl⟩ : ∃ p off, a = some ⟨p, off, none⟩ := by
    rcases hr.split with ⟨e, _⟩ | ⟨p, off, _, e, _⟩
    · cases e
    · simp only [Value.slice.injEq] at e; exact ⟨p, off, e.1⟩
  obtain ⟨q, hcut, hq⟩ := cutB (l := 1) hr (by simp [hn]) (by omega)
  rw [show n + 1 - 1 = n from rfl, List.drop_one, List.tail_cons] at hq
  rw [show n + 1 - 1 = n from rfl] at hcut
  rw [show (((1 : Nat) : Int)) = (1 : Int) from rfl] at hcut
  obtain ⟨W0, hW0⟩ : ∃ W, W = w.alloc (.cells (rkc 0 z32 z32 0 es).toArray 36) := ⟨_, rfl⟩
  have F0 : Hid (Fr [] w W0) := hid (by rw [hW0]; exact (Fr.refl _ w).alloc _)
  have N0 : W0.heap.size = w.heap.size + 1 := by rw [hW0]; simp
  have X0 : Hid (W0.heap[w.heap.size]? = some (.cells (rkc 0 z32 z32 0 es).toArray 36 (0, 0))) := hid (by rw [hW0]; exact blk_new _ _)
  have celled : ∀ W, Fr [] w W → W.cell? ⟨p, off, none⟩ = some (.int .u8 98) := fun W hF => by
    rcases (hr.fr hF) with ⟨h, _⟩ | ⟨a, c', h, h4, h5⟩
    · cases h
    · simp only [Value.slice.injEq, Option.some.injEq] at h
      obtain ⟨rfl, _, rfl⟩ := h
      have := h5 0 _ (bv_at (k := 0) rfl)
      rwa [Addr.add_lit] at this
  have hcell := celled W0 F0.out
  have hlen : (rkc 98 z32 z32 0 es).length = 67 := rkc_len z32_len z32_len
  have hlen0 : (rkc 0 z32 z32 0 es).length = 67 := rkc_len z32_len z32_len
  have hst : (storeCells ⟨w.heap.size + 1, 0, none⟩ (rkc 98 z32 z32 0 es)).run Try.prog (W0.alloc (.cells (rkc 0 z32 z32 0 es).toArray 36)) = _ := stKc (l := rkc 0 z32 z32 0 es) (t := 36) (m := rkc 98 z32 z32 0 es) hlen0 hlen rkc_one (by rw [← N0]; exact blk_new _ _)
  obtain ⟨W1, hW1⟩ : ∃ W, W = (W0.alloc (.cells (rkc 0 z32 z32 0 es).toArray 36)).setRow (w.heap.size + 1) (rkc 98 z32 z32 0 es).toArray := ⟨_, rfl⟩
  have Y1 : Hid (W1.heap[w.heap.size + 1]? = some (.cells (rkc 98 z32 z32 0 es).toArray 36 (0, 0))) := hid (by rw [hW1]; exact setRow_heap _ _ (rkc 0 z32 z32 0 es).toArray _ _ _ (by rw [← N0]; exact blk_new _ _))
  have X1 : Hid (W1.heap[w.heap.size]? = some (.cells (rkc 0 z32 z32 0 es).toArray 36 (0, 0))) := hid (by rw [hW1, setRow_other _ _ _ _ (by omega), blk_old _ _ (by rw [N0]; omega)]; exact X0.out)
  have F1 : Hid (Fr [] w W1) := hid (by rw [hW1]; exact (F0.out.alloc _).newer (p := w.heap.size + 1) ⟨rfl, rfl, rfl, by simp [World.setRow], fun k hk hn => setRow_other _ _ _ _ (by simpa using hn)⟩ (by omega))
  have HQ := hid hq
  have R1 : Hid (Rd W1 (.slice q n (cc - 1)) (bv b)) := hid (hq.fr F1.out)
  have hcell1 := celled W1 F1.out
  have BB : Hid (By b) := hid (fun x hx => hb x (by simp [hx]))
  clear hq hb celled
  rw [← hW1] at hst
  clear hW1
  go_enter Try.func17, Try.ntmps17
  go_upto_region 3 with fail
  rw [← hW0]
  clear hW0
  go_upto_region 5 with fail
  clear hst hcell hcut X0 F0 N0 hset
  have hn8 : ((n : Int) == 8) = true := beq_iff_eq.2 (by have := H32.out; omega)
  obtain ⟨pk, ok, ck, hqq, hqc⟩ : ∃ pk ok ck, Value.slice q n (cc - 1) = .slice (some ⟨pk, ok, none⟩) n ck ∧ ∀ (j x : Nat), b[j]? = some x → W1.cell? ⟨pk, ok + j, none⟩ = some (.int .u8 (x : Int)) := by
    rcases R1.out.split with ⟨e, _⟩ | ⟨pk, ok, ck, e, _, _, h⟩
    · have := H32.out; rw [e] at hn; simp at hn; omega
    · rw [hn] at e; exact ⟨pk, ok, ck, e, h⟩
  simp only [Value.slice.injEq] at hqq
  obtain ⟨rfl, _, rfl⟩ := hqq
  have HQC : Hid (∀ W, Fr [] w W → ∀ (j x : Nat), b[j]? = some x → W.cell? ⟨pk, ok + j, none⟩ = some (.int .u8 (x : Int))) := hid (fun W hF => by
    rcases (HQ.out.fr hF).split with ⟨e, _⟩ | ⟨pk', ok', ck', e, _, _, h⟩
    · have := H32.out; rw [e] at hn; simp at hn; omega
    · simp only [Value.slice.injEq, Option.some.injEq, Addr.mk.injEq] at e
      obtain ⟨⟨rfl, rfl, _⟩, _⟩ := e
      exact h)
  clear hqc
  have H8 := H32
  clear H32
  go_wp2_with fail
  go_loopw [6] (fun v6 wr => ∃ i : Nat, i ≤ 8 ∧ v6 = .int .i64 (i : Int) ∧ wr.heap[w.heap.size + 1]? = some (.cells (rkc 98 z32 z32 (nbr (b.take i)) es).toArray 36 (0, 0)) ∧ wr.heap[w.heap.size]? = some (.cells (rkc 0 z32 z32 0 es).toArray 36 (0, 0)) ∧ Fr [] w wr) (fun v6 _ => 8 - (intOf v6).toNat)
  case atStart => exact ⟨0, by omega, rfl, Y1.out, X1.out, F1.out⟩
  case round =>
    obtain ⟨i, hi, rfl, hY, hX, hF⟩ := hrel
    have HY := hid hY
    have HX := hid hX
    have HF := hid hF
    clear hY hX hF
    by_cases hlt : i < 8
    · obtain ⟨x, hx⟩ : ∃ x, b[i]? = some x := ⟨_, List.getElem?_eq_getElem (by have := H8.out; omega)⟩
      have hin : (i : Int) < (n : Int) := by have := H8.out; omega
      have hcx := HQC.out wr.drew HF.out.drew i x hx
      have hx256 : x < 256 := BB.out.at hx
      have HU : Hid (nbr (b.take (i + 1)) = nbr (b.take i) % 72057594037927936 * 256 + x) := hid (by
        rw [List.take_add_one, hx]; exact nbr_snoc _ _)
      have hm : nbr (b.take i) < 18446744073709551616 := nbr_lt (BB.out.take i)
      generalize nbr (b.take i) = m at HU HY hm
      have hc65 : wr.drew.cell? ⟨w.heap.size + 1, 65, none⟩ = some (.int .u64 (m : Int)) := by rw [blk_cell (w := wr.drew) HY.out]; rfl
      have hf65 : wr.drew.frozen? ⟨w.heap.size + 1, 65, none⟩ = false := blk_frozen (w := wr.drew) HY.out 65
      clear hx
      go_wp2_with fail
      go_region
      go_wp2
      go_roundw
      case rel =>
        have hv : IntKind.u64.wrap (IntKind.u64.wrap (256 * (m : Int)) + (x : Int)) = ((m % 72057594037927936 * 256 + x : Nat) : Int) := by rw [IntKind.wrap_u64, IntKind.wrap_u64]; omega
        refine ⟨i + 1, by omega, by go_num, ?_, ?_, (HF.out.set _ _ (.inr (by omega))).drew⟩
        · rw [blk_drew, blk_set HY.out, HU.out, hv]; rfl
        · rw [blk_drew, blk_setne _ _ _ (by omega)]; exact HX.out
      case measure => simp [intOf]; omega
    · obtain rfl : i = 8 := by omega
      have e8 : b.take 8 = b := List.take_of_length_le (by have := H8.out; omega)
      rw [e8] at HY
      clear e8
      have hlk : (rkc 98 z32 z32 (nbr b) es).length = 67 := rkc_len z32_len z32_len
      have hst2 := stKc hlen0 hlk rkc_one HX.out
      obtain ⟨WZ, hWZ⟩ : ∃ W, W = (wr).setRow w.heap.size (rkc 98 z32 z32 (nbr b) es).toArray := ⟨_, rfl⟩
      rw [← hWZ] at hst2
      have ZZ : Hid (WZ.heap[w.heap.size]? = some (.cells (rkc 98 z32 z32 (nbr b) es).toArray 36 (0, 0))) := hid (by rw [hWZ]; exact setRow_heap _ _ _ _ _ _ HX.out)
      have FZ : Hid (Fr [] w WZ) := hid (by rw [hWZ]; exact HF.out.newer (p := w.heap.size) ⟨rfl, rfl, rfl, by simp [World.setRow], fun k hk hn => setRow_other _ _ _ _ (by simpa using hn)⟩ (by omega))
      clear hWZ
      go_wp2_with (with_reducible (show wpList Try.prog _ _ (_ :: _) _ _); refine wpList_ldK (by kernel_rfl) (.tmp 4) rfl hlk HY.out rfl ?_)
      exact bodyPost_ret (ret_ct rfl rfl (ldK hlk ZZ.out)) rfl ⟨rfl, FZ.out⟩

end Go.Proofs.Ytpacijcjcdigmaa
