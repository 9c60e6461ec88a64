/-
  The walk of before of package mem.
-/
import Derived.Test.YtldcjkddalmkcaaMB
namespace Go.Proofs.Ytldcjkddalmkcaa
open Go.ChangeShapes Go.WideShapes Go.ChangeAt Go.RowKit

set_option maxRecDepth 20000 in
set_option maxHeartbeats 1600000 in
theorem before_k (w : World) {B t : Nat} {hv : Value} {pre post : List E} {c z : Nat} (M : Mm w B t hv (pre ++ post) c z) (x : Value) (bh : E → Bool)
    (HB : ∀ e ∈ pre ++ post, ∀ w', Fr [] w w' → Calls Try.prog 31 #[x, pt (e.b, 0)] w' fun r w'' => r = .returned (.bool (bh e)) ∧ Fr [] w' w'')
    (h1 : ∀ e ∈ pre, bh e = true) (h2 : ∀ e ∈ post, bh e = false) :
    Calls Try.prog 30 #[.pointer (some ⟨t, 0, none⟩), .func (.func 31) #[x] #[]] w fun e w' => e = .returned (.agg (bfs t pre 0).toArray) ∧ Fr [] w w' := by
  have HM := hid M
  have HH := hid HB
  have H1 := hid h1
  have H2 := hid h2
  have A0 : Hid (BfSt w ((w.alloc (.cells #[.pointer none, .pointer none, .pointer none, .pointer none, .pointer none, .pointer none, .pointer none, .pointer none, .pointer none, .pointer none, .pointer none, .pointer none] 68)).alloc (.cells #[.pointer none, .pointer none, .pointer none, .pointer none, .pointer none, .pointer none, .pointer none, .pointer none, .pointer none, .pointer none, .pointer none, .pointer none] 68)) t pre post 12 (t, 1) pre) := by
    refine ⟨((Fr.refl _ _).alloc _).alloc _, ?_, ?_, M.atHead, ⟨[], rfl⟩, fun _ _ => rfl, ?_⟩
    · rw [bfs_all]; exact new_at _ _ (by simp)
    · rw [blk_old _ _ (by simp)]; exact new_at _ _ rfl
    · exact lft_head _ _ _ _ fun e he => M.ne e (List.mem_append_left _ he)
  clear M HB h1 h2
  go_enter Try.func30, Try.ntmps30
  go_wp2_with fail
  go_loopw [6, 7] (fun v6 v7 wr => ∃ (k : Nat) (p : Nat × Nat) (left : List E), k ≤ 12 ∧ v7 = .int .i64 ((k : Int) - 1) ∧ v6 = pt p ∧ BfSt w wr t pre post k p left) (fun _ v7 _ => (intOf v7 + 1).toNat)
  case atStart => exact ⟨12, (t, 1), pre, Nat.le_refl _, rfl, rfl, A0.out⟩
  case round =>
    obtain ⟨k, p, left, hk, rfl, rfl, S⟩ := hrel
    have HS := hid S
    clear S
    cases k with
    | zero =>
      rw [show (((0 : Nat) : Int) - 1) = -1 from rfl]
      have hL := HS.out.lst
      have hR := HS.out.res
      have HL := hid hL
      have HR := hid hR
      have HF := hid HS.out.fr
      clear hL hR
      go_upto_region 9 with fail
      apply wp_region_lit
      refine wpList_ldT rfl (.tmp 5) rfl (bfs_tw t pre 0) HL.out (by simp [Act.eval]) ?_
      refine wpList_stT rfl (.tmp 4) (.tmp 41) rfl (by rw [← bfs_all t pre]; exact bfs_tw t pre 12) (bfs_tw t pre 0) HR.out (by simp [Act.eval, Act.put]) (by simp [Act.eval, Act.put]) ?_
      have RH := hid (row_heapT (ds := bfs t pre 0) HR.out)
      have RF := hid (HF.out.row (bfs t pre 0).toArray (.inr (Nat.le_refl w.heap.size)))
      generalize World.setRow _ w.heap.size (bfs t pre 0).toArray = w2 at RH RF ⊢
      go_wp2
      exact bodyPost_ret (v := .agg (bfs t pre 0).toArray) (retT rfl (bfs_tw t pre 0) RH.out (by simp [Act.put])) rfl ⟨rfl, RF.out⟩
    | succ i =>
      rw [show (((i + 1 : Nat) : Int) - 1) = (i : Int) from by omega]
      go_wp2_with fail
      go_loopw [6] (fun v6 wr => ∃ (p : Nat × Nat) (left : List E), v6 = pt p ∧ BfSt w wr t pre post (i + 1) p left) (fun v6 _ => lft pre.length pre v6)
      case atStart => exact ⟨p, left, rfl, HS.out⟩
      case round =>
        clear HS
        obtain ⟨⟨pb, po⟩, left, rfl, S⟩ := hrel
        have HS := hid S
        have hc := (S.pl.fr S.fr).cell i (by omega)
        have hL := S.lst
        have hlz := blk_frozen hL i
        have hl0 : wr.cell? ⟨w.heap.size + 1, i, none⟩ = some (.pointer none) := by
          rw [lst_cell hL]; unfold bfs; rw [List.getElem?_map, List.getElem?_range (by omega)]; show some (if i < i + 1 then _ else _) = _; rw [if_pos (by omega)]
        clear S hL
        dsimp only at hc
        unfold pt
        rcases lk_parts left i with hn | ⟨l1, e, l2, rfl, q1, q2⟩
        · rw [lk_none hn] at hc
          have HD := hid (HS.out.down (by omega) hn)
          rcases lk_case post i with ⟨e0, _⟩ | ⟨l1, e, l2, rfl, q1, q2, q3⟩
          · rw [e0] at hc
            go_wp2_with fail
            exact ⟨⟨i, (pb, po), left, by omega, rfl, rfl, HD.out⟩, by simp [intOf]⟩
          · rw [q3] at hc
            unfold pt at hc
            clear q3
            go_wp2_with fail
            refine (HH.out e (by simp) wr HS.out.fr).mono ?_
            rintro r w1 ⟨rfl, f1⟩
            rw [H2.out e (by simp)]
            have HD1 := hid ((HS.out.fr' f1).down (by omega) hn)
            have hlz1 : w1.frozen? ⟨w.heap.size + 1, i, none⟩ = false := blk_frozen (HS.out.fr' f1).lst i
            have hl1 : w1.cell? ⟨w.heap.size + 1, i, none⟩ = some (.pointer none) := by
              rw [World.cell?_of_block (w := wr) (f1.block _ (blk_lt HS.out.lst) (by simp))]; exact hl0
            clear hl0 hlz hc
            go_wp2_with fail
            exact ⟨⟨i, (pb, po), left, by omega, rfl, rfl, HD1.out⟩, by simp [intOf]⟩
        · obtain ⟨d, hd⟩ := HS.out.sub
          have hep : e ∈ pre := by rw [hd]; simp
          have hlf := HS.out.lf
          have HLF := hid hlf
          have HEP := hid hep
          rw [List.append_assoc] at hc
          rw [show l1 ++ (e :: l2 ++ post) = l1 ++ e :: (l2 ++ post) from rfl, lk_some q1 q2] at hc
          unfold pt at hc
          have HC := hid hc
          clear hlf hep hd
          go_wp2_with fail
          refine (HH.out e (List.mem_append_left _ HEP.out) wr HS.out.fr).mono ?_
          rintro r w1 ⟨rfl, f1⟩
          rw [H1.out e HEP.out]
          have hc1 : w1.cell? ⟨pb, po + 4 + i, none⟩ = some (.pointer (some ⟨e.b, 0, none⟩)) := by
            rw [World.cell?_of_block (w := wr) (f1.block _ (World.block_lt_of_cell? wr _ HC.out) (by simp))]; exact HC.out
          have HG := hid ((HS.out.fr' f1).go HM.out.ch HM.out.nd (by omega) q2)
          clear hl0 hlz hc
          go_wp2_with fail
          go_roundw
          case rel => exact ⟨(e.b, 0), l2, rfl, HG.out⟩
          case measure =>
            have h3 := HG.out.lf
            have h4 := HLF.out
            unfold pt at h3 h4
            simp only [List.length_append, List.length_cons] at h4
            rw [h3, h4]; omega
set_option maxRecDepth 20000 in
set_option maxHeartbeats 1600000 in
theorem before_u (w : World) {B t : Nat} {hv : Value} {pre post : List E} {c z : Nat} (M : Mm w B t hv (pre ++ post) c z) (x : Value) (bh : E → Bool)
    (HB : ∀ e ∈ pre ++ post, ∀ w', Fr [] w w' → Calls Try.prog 47 #[x, pt (e.b, 0)] w' fun r w'' => r = .returned (.bool (bh e)) ∧ Fr [] w' w'')
    (h1 : ∀ e ∈ pre, bh e = true) (h2 : ∀ e ∈ post, bh e = false) :
    Calls Try.prog 30 #[.pointer (some ⟨t, 0, none⟩), .func (.func 47) #[x] #[]] w fun e w' => e = .returned (.agg (bfs t pre 0).toArray) ∧ Fr [] w w' := by
  have HM := hid M
  have HH := hid HB
  have H1 := hid h1
  have H2 := hid h2
  have A0 : Hid (BfSt w ((w.alloc (.cells #[.pointer none, .pointer none, .pointer none, .pointer none, .pointer none, .pointer none, .pointer none, .pointer none, .pointer none, .pointer none, .pointer none, .pointer none] 68)).alloc (.cells #[.pointer none, .pointer none, .pointer none, .pointer none, .pointer none, .pointer none, .pointer none, .pointer none, .pointer none, .pointer none, .pointer none, .pointer none] 68)) t pre post 12 (t, 1) pre) := by
    refine ⟨((Fr.refl _ _).alloc _).alloc _, ?_, ?_, M.atHead, ⟨[], rfl⟩, fun _ _ => rfl, ?_⟩
    · rw [bfs_all]; exact new_at _ _ (by simp)
    · rw [blk_old _ _ (by simp)]; exact new_at _ _ rfl
    · exact lft_head _ _ _ _ fun e he => M.ne e (List.mem_append_left _ he)
  clear M HB h1 h2
  go_enter Try.func30, Try.ntmps30
  go_wp2_with fail
  go_loopw [6, 7] (fun v6 v7 wr => ∃ (k : Nat) (p : Nat × Nat) (left : List E), k ≤ 12 ∧ v7 = .int .i64 ((k : Int) - 1) ∧ v6 = pt p ∧ BfSt w wr t pre post k p left) (fun _ v7 _ => (intOf v7 + 1).toNat)
  case atStart => exact ⟨12, (t, 1), pre, Nat.le_refl _, rfl, rfl, A0.out⟩
  case round =>
    obtain ⟨k, p, left, hk, rfl, rfl, S⟩ := hrel
    have HS := hid S
    clear S
    cases k with
    | zero =>
      rw [show (((0 : Nat) : Int) - 1) = -1 from rfl]
      have hL := HS.out.lst
      have hR := HS.out.res
      have HL := hid hL
      have HR := hid hR
      have HF := hid HS.out.fr
      clear hL hR
      go_upto_region 9 with fail
      apply wp_region_lit
      refine wpList_ldT rfl (.tmp 5) rfl (bfs_tw t pre 0) HL.out (by simp [Act.eval]) ?_
      refine wpList_stT rfl (.tmp 4) (.tmp 41) rfl (by rw [← bfs_all t pre]; exact bfs_tw t pre 12) (bfs_tw t pre 0) HR.out (by simp [Act.eval, Act.put]) (by simp [Act.eval, Act.put]) ?_
      have RH := hid (row_heapT (ds := bfs t pre 0) HR.out)
      have RF := hid (HF.out.row (bfs t pre 0).toArray (.inr (Nat.le_refl w.heap.size)))
      generalize World.setRow _ w.heap.size (bfs t pre 0).toArray = w2 at RH RF ⊢
      go_wp2
      exact bodyPost_ret (v := .agg (bfs t pre 0).toArray) (retT rfl (bfs_tw t pre 0) RH.out (by simp [Act.put])) rfl ⟨rfl, RF.out⟩
    | succ i =>
      rw [show (((i + 1 : Nat) : Int) - 1) = (i : Int) from by omega]
      go_wp2_with fail
      go_loopw [6] (fun v6 wr => ∃ (p : Nat × Nat) (left : List E), v6 = pt p ∧ BfSt w wr t pre post (i + 1) p left) (fun v6 _ => lft pre.length pre v6)
      case atStart => exact ⟨p, left, rfl, HS.out⟩
      case round =>
        clear HS
        obtain ⟨⟨pb, po⟩, left, rfl, S⟩ := hrel
        have HS := hid S
        have hc := (S.pl.fr S.fr).cell i (by omega)
        have hL := S.lst
        have hlz := blk_frozen hL i
        have hl0 : wr.cell? ⟨w.heap.size + 1, i, none⟩ = some (.pointer none) := by
          rw [lst_cell hL]; unfold bfs; rw [List.getElem?_map, List.getElem?_range (by omega)]; show some (if i < i + 1 then _ else _) = _; rw [if_pos (by omega)]
        clear S hL
        dsimp only at hc
        unfold pt
        rcases lk_parts left i with hn | ⟨l1, e, l2, rfl, q1, q2⟩
        · rw [lk_none hn] at hc
          have HD := hid (HS.out.down (by omega) hn)
          rcases lk_case post i with ⟨e0, _⟩ | ⟨l1, e, l2, rfl, q1, q2, q3⟩
          · rw [e0] at hc
            go_wp2_with fail
            exact ⟨⟨i, (pb, po), left, by omega, rfl, rfl, HD.out⟩, by simp [intOf]⟩
          · rw [q3] at hc
            unfold pt at hc
            clear q3
            go_wp2_with fail
            refine (HH.out e (by simp) wr HS.out.fr).mono ?_
            rintro r w1 ⟨rfl, f1⟩
            rw [H2.out e (by simp)]
            have HD1 := hid ((HS.out.fr' f1).down (by omega) hn)
            have hlz1 : w1.frozen? ⟨w.heap.size + 1, i, none⟩ = false := blk_frozen (HS.out.fr' f1).lst i
            have hl1 : w1.cell? ⟨w.heap.size + 1, i, none⟩ = some (.pointer none) := by
              rw [World.cell?_of_block (w := wr) (f1.block _ (blk_lt HS.out.lst) (by simp))]; exact hl0
            clear hl0 hlz hc
            go_wp2_with fail
            exact ⟨⟨i, (pb, po), left, by omega, rfl, rfl, HD1.out⟩, by simp [intOf]⟩
        · obtain ⟨d, hd⟩ := HS.out.sub
          have hep : e ∈ pre := by rw [hd]; simp
          have hlf := HS.out.lf
          have HLF := hid hlf
          have HEP := hid hep
          rw [List.append_assoc] at hc
          rw [show l1 ++ (e :: l2 ++ post) = l1 ++ e :: (l2 ++ post) from rfl, lk_some q1 q2] at hc
          unfold pt at hc
          have HC := hid hc
          clear hlf hep hd
          go_wp2_with fail
          refine (HH.out e (List.mem_append_left _ HEP.out) wr HS.out.fr).mono ?_
          rintro r w1 ⟨rfl, f1⟩
          rw [H1.out e HEP.out]
          have hc1 : w1.cell? ⟨pb, po + 4 + i, none⟩ = some (.pointer (some ⟨e.b, 0, none⟩)) := by
            rw [World.cell?_of_block (w := wr) (f1.block _ (World.block_lt_of_cell? wr _ HC.out) (by simp))]; exact HC.out
          have HG := hid ((HS.out.fr' f1).go HM.out.ch HM.out.nd (by omega) q2)
          clear hl0 hlz hc
          go_wp2_with fail
          go_roundw
          case rel => exact ⟨(e.b, 0), l2, rfl, HG.out⟩
          case measure =>
            have h3 := HG.out.lf
            have h4 := HLF.out
            unfold pt at h3 h4
            simp only [List.length_append, List.length_cons] at h4
            rw [h3, h4]; omega
end Go.Proofs.Ytldcjkddalmkcaa
