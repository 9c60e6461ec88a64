/-
  What Restart leaves of a disk whose one sure name is a file's: the sure bytes, and as many of the pending ones as are paid for.
-/
import Derived.Test.YtilgagmnifbdpaaL0
namespace Go.Proofs.Ytilgagmnifbdpaa
open Go.ChangeShapes Go.WideShapes Go.ChangeAt Go.RowKit

set_option maxRecDepth 100000 in
set_option maxHeartbeats 4000000 in
theorem restart_one {w : World} {b m0 m1 : Nat} {cap used made cnt fail halt : Int} {pa : Option Addr} {pc : Nat} {down : Bool} (h : DB w b cap m0 m1 (.slice pa 0 pc) used made cnt fail halt down)
    {s : ByteArray} {fb : Nat} (hm : w.heap[m1]? = some (.map #[⟨.string s, .pointer (some ⟨fb, 0, none⟩), 0⟩] 1))
    {sv uv fpv : Value} {sure ps : List Value} {xs : List (List Value)} (hf : FB w fb 0 sv uv fpv) (ho : w.ownsRow 0 5 1 uv sure.length sure)
    (hp : w.ownsRow 0 76 1 fpv ps.length ps) (hw : PW w uv.ownBlock fb sure.length ps xs) (hx1 : sure.length + xs.flatten.length ≤ 100000000) (hp1 : ps.length ≤ 1000000) (hbs : Bts (sure ++ xs.flatten))
    (n : Int) (cb : Nat) (hn1 : n ≤ 9223372036854775807) (hcb : w.cell? ⟨cb, 0, none⟩ = some (.int .i64 n)) (hcb1 : cb ≠ b) :
    Calls Try.prog 9 #[.pointer (some ⟨b, 0, none⟩), .agg #[.int .i64 0, .slice (some ⟨cb, 0, none⟩) 1 1]] w fun e w' => e = .returned (.tuple #[]) ∧ ∃ m0' sv' uv', 
      DB w' b cap m0' m1 (.slice none 0 0) (sure ++ xs.flatten.take n.toNat).length made cnt 0 (-1) false ∧ w'.heap[m0']? = some (.map #[⟨.string s, .pointer (some ⟨fb, 0, none⟩), 0⟩] 1) ∧ FB w' fb 0 sv' uv' (.slice none 0 0) ∧
      w'.ownsRow 0 5 1 sv' (sure ++ xs.flatten.take n.toNat).length (sure ++ xs.flatten.take n.toNat) ∧ w'.ownsRow 0 5 1 uv' (sure ++ xs.flatten.take n.toNat).length (sure ++ xs.flatten.take n.toNat) ∧
      Fr (b :: fb :: uv.ownBlock.toList) w w' := by
  have H := hid h
  have HM := hid hm
  have HF := hid hf
  have HO := hid ho
  have HP := hid hp
  have HW := hid hw
  have hblt := blk_lt h
  have hne : m1 ≠ b := by intro e; subst e; unfold DB at h; rw [hm] at h; cases h
  clear h hm hf ho hp hw
  go_enter Try.func9, Try.ntmps9
  go_wp2_with fail
  have HDW : Hid (DB (w.alloc (.cells #[.int .i64 0, .slice (some ⟨cb, 0, none⟩) 1 1] 33)).drew b cap m0 m1 (.slice pa 0 pc) used made cnt fail halt down) := by
    unfold Hid DB; rw [blk_drew, blk_old _ _ hblt]; exact H.out
  go_region_with (
    go_at_call 16
    go_must (
    refine (settle_nil HDW.out _).mono ?_
    rintro e w1 ⟨rfl, b1, b2⟩
    have F1 := hid ((((Fr.refl _ w).alloc _).drew).trans b2)
    have X1 : Hid (w1.heap[w.heap.size]? = some (.cells #[.int .i64 0, .slice (some ⟨cb, 0, none⟩) 1 1] 33 (0, 0))) := b2.at (by rw [blk_drew, blk_new]) (by simp; omega)
    have D1 := hid b1
    have c2 : w1.cell? ⟨b, 2, none⟩ = some (.map (some m1)) := by rw [blk_cell b1]; rfl
    have c1 : w1.cell? ⟨b, 1, none⟩ = some (.map (some m0)) := by rw [blk_cell b1]; rfl
    have z1 : w1.frozen? ⟨b, 1, none⟩ = false := blk_frozen b1 1
    have c4 : w1.cell? ⟨b, 4, none⟩ = some (.int .i64 used) := by rw [blk_cell b1]; rfl
    have z4 : w1.frozen? ⟨b, 4, none⟩ = false := blk_frozen b1 4
    have hb1 := blk_lt b1
    have M1 : Hid (w1.heap[m1]? = some (.map #[⟨.string s, .pointer (some ⟨fb, 0, none⟩), 0⟩] 1)) := F1.out.at HM.out (by simp [hne])
    clear b1 b2))
  clear HDW
  go_wp2_with fail
  have M1d : Hid (w1.drew.heap[m1]? = some (.map #[⟨.string s, .pointer (some ⟨fb, 0, none⟩), 0⟩] 1)) := M1.out
  go_region_with (
    go_at_call 19
    go_must (
    refine (mapsClone_c M1d.out).mono ?_
    rintro e w2 ⟨rfl, rfl⟩))
  go_wp2_with fail
  generalize hW2 : (((w1.setCell ⟨b, 1, none⟩ (.map (some w1.heap.size))).setCell ⟨b, 4, none⟩ (.int .i64 0)).alloc (.map #[⟨.string s, .pointer (some ⟨fb, 0, none⟩), 0⟩] 1)).drew = W2
  have d2 : DB W2 b cap w1.heap.size m1 (.slice none 0 0) 0 made cnt fail halt down := by
    rw [← hW2]; unfold DB; rw [blk_drew, blk_old _ _ (by simp [World.setCell]; omega), blk_set (blk_set D1.out _ _)]; rfl
  have f2 : Fr [b] w W2 := by
    rw [← hW2]; exact ((((F1.out.set _ _ (.inl (by simp))).set _ _ (.inl (by simp))).alloc _).drew)
  have m2 : W2.heap[w1.heap.size]? = some (.map #[⟨.string s, .pointer (some ⟨fb, 0, none⟩), 0⟩] 1) := by
    rw [← hW2, blk_drew, new_at _ _ (by simp [World.setCell])]
  have x2 : W2.heap[w.heap.size]? = some (.cells #[.int .i64 0, .slice (some ⟨cb, 0, none⟩) 1 1] 33 (0, 0)) := by
    have := blk_lt X1.out
    rw [← hW2, blk_drew, blk_old _ _ (by simp [World.setCell]; omega), blk_setne _ _ _ (by omega), blk_setne _ _ _ (by omega)]; exact X1.out
  have hs12 : w.heap.size < w1.heap.size := blk_lt X1.out
  clear hW2
  rw [run_range_map W2 _ _ _ _ _ _ Try.underlying42 m2]
  simp only [Result.andThen]
  rw [Oper.upon_value]
  have hbl2 := blk_lt d2
  have hml2 := blk_lt m2
  have D2 := hid d2
  have F2 := hid f2
  have M2 := hid m2
  have X2 := hid x2
  clear d2 f2 m2 x2 c1 c2 c4 z1 z4 D1 F1 X1 M1 M1d
  go_wp2_with fail
  simp only [Act.put, List.setIfInBounds_toArray, List.set_cons_zero, List.set_cons_succ]
  refine wp_world (fun W => DB W b cap w1.heap.size m1 (.slice none 0 0) 0 made cnt fail halt down ∧ Fr [b] w W ∧ W.heap[w1.heap.size]? = some (.map #[⟨.string s, .pointer (some ⟨fb, 0, none⟩), 0⟩] 1) ∧ W.heap[w.heap.size]? = some (.cells #[.int .i64 0, .slice (some ⟨cb, 0, none⟩) 1 1] 33 (0, 0)) ∧
    W.heap[W2.heap.size]? = some (.mapIter (some w1.heap.size) 1 #[] 1)) ⟨by unfold DB; rw [blk_old _ _ hbl2]; exact D2.out, F2.out.alloc _, by rw [blk_old _ _ hml2]; exact M2.out, by rw [blk_old _ _ (blk_lt X2.out)]; exact X2.out, blk_new _ _⟩ ?_
  rintro W3 ⟨d3, f3, m3, x3, i3⟩
  have D3 := hid d3
  have F3 := hid f3
  have M3 := hid m3
  have X3 := hid x3
  have I3 := hid i3
  clear d3 f3 m3 x3 i3 D2 F2 M2 X2
  refine wp_loop_rounds 2 ?_
  rw [rounds_succ]
  obtain ⟨W4, hnx, i4, f4⟩ := next_one I3.out M3.out 0
  have hrne : ∀ k, k < W2.heap.size → k ∉ [W2.heap.size] := fun k hk e => by simp at e; omega
  have D4 := hid (f4.at D3.out (hrne _ hbl2))
  have M4 := hid (f4.at M3.out (hrne _ hml2))
  have X4 := hid (f4.at X3.out (hrne _ (by omega)))
  have F4 : Hid (Fr [b] w W4) := F3.out.trans' f4 fun k hk hlt => by simp at hk; omega
  have hent : (Instr.entry (.pointer (some ⟨W2.heap.size, 0, none⟩))).run Try.prog W4 = .ok (.tuple #[.string s, .pointer (some ⟨fb, 0, none⟩)]) W4 :=
    run_entry_at (P := Try.prog) W4 W2.heap.size w1.heap.size 1 #[] #[⟨.string s, .pointer (some ⟨fb, 0, none⟩), 0⟩] 1 ⟨.string s, .pointer (some ⟨fb, 0, none⟩), 0⟩ i4 M4.out (by simp) (by simp)
  have I4 := hid i4
  have C4 := hid (carry H.out F4.out HF.out HO.out HP.out HW.out)
  have n0 : W4.cell? ⟨fb, 0, none⟩ = some (.int .i64 0) := by rw [blk_cell C4.out.1]; rfl
  have x1 : W4.cell? ⟨w.heap.size, 1, none⟩ = some (.slice (some ⟨cb, 0, none⟩) 1 1) := by rw [blk_cell X4.out]; rfl
  have CB4 : Hid (W4.cell? ⟨cb, 0, none⟩ = some (.int .i64 n)) := by
    unfold Hid; rw [World.cell?_of_block (w := w) (F4.out.block cb (World.block_lt_of_cell? w _ hcb) (by simp [hcb1]))]; exact hcb
  have S4 : Hid (FB W4.drew fb 0 sv uv fpv ∧ W4.drew.ownsRow 0 5 1 uv sure.length sure ∧ W4.drew.ownsRow 0 76 1 fpv ps.length ps ∧ PW W4.drew uv.ownBlock fb sure.length ps xs) := by
    have := carry H.out F4.out.drew HF.out HO.out HP.out HW.out; exact this
  clear hcb i4 f4 D3 F3 M3 X3 I3
  go_upto_region 7 with fail
  go_cut [] (fun W => R7 w b cap w1.heap.size m1 made cnt fail halt down s fb sv uv (sure ++ xs.flatten.take (max n 0).toNat) W2.heap.size W)
  case first =>
    go_region_with (first
      | (go_at_call 20
         go_must (
         refine (spend_c (by omega) (by omega) (show W4.drew.cell? ⟨cb, 0 + (0 : Int).toNat, none⟩ = some (.int .i64 n) from CB4.out)).mono ?_
         rintro e w5 ⟨rfl, rfl⟩))
      | (go_at_call 16
         go_must (
         refine (settle_writes S4.out.1 S4.out.2.1 S4.out.2.2.1 S4.out.2.2.2 (max n 0) (by omega) (by omega) hx1 hp1).mono ?_
         rintro e w5 ⟨rfl, g⟩
         have G := hid g
         clear g)))
    all_goals go_wp2_with fail
    all_goals go_meet
    all_goals exact r7_mk D4.out F4.out M4.out I4.out C4.out.1 C4.out.2.1 G.out
  case rest =>
    rw [show (max n 0).toNat = n.toNat from by omega] at hcut
    have hbT : Bts (sure ++ xs.flatten.take n.toNat) := fun u hu => hbs u (by
      rcases List.mem_append.1 hu with h | h
      · exact List.mem_append_left _ h
      · exact List.mem_append_right _ (List.mem_of_mem_take h))
    have hTl : (sure ++ xs.flatten.take n.toNat).length ≤ 100000000 := by rw [List.length_append, List.length_take]; omega
    generalize hT : sure ++ xs.flatten.take n.toNat = T at hcut hbT hTl
    have HT := hid hT
    clear hT
    have hwrap : IntKind.i64.wrap (T.length : Int) = (T.length : Int) := by simp (disch := omega) only [IntWalk.i64_in]
    obtain ⟨d7, f7, m7, i7, uv5, g1, g2⟩ := hcut
    obtain ⟨ua, uc, rfl, _⟩ := ownsRow_slice g2
    have c1 : wc.cell? ⟨fb, 1, none⟩ = some sv := by rw [blk_cell g1]; rfl
    have c2 : wc.cell? ⟨fb, 2, none⟩ = some (.slice ua T.length uc) := by rw [blk_cell g1]; rfl
    have z1 : wc.frozen? ⟨fb, 1, none⟩ = false := blk_frozen g1 1
    have RD : Hid (Rd wc.drew (.slice ua T.length uc) T) := Rd.own g2
    have HBT := hid hbT
    have G1 := hid g1
    have CC := hid (And.intro d7 (And.intro f7 (And.intro m7 (And.intro i7 (And.intro g1 g2)))))
    have hfl := blk_lt g1
    clear d7 f7 m7 i7 g1 g2 hbT D4 F4 M4 I4 C4 X4 CB4 S4 n0 x1 hent hnx
    go_upto_region 8 with fail
    go_cut [] (fun W => R8 w b cap w1.heap.size m1 0 made cnt fail halt down s fb uv T W2.heap.size W)
    case first =>
      go_region_with (
        go_at_call 21
        go_must (
        refine (clone_c RD.out HBT.out hTl).mono ?_
        rintro e w6 ⟨cv, rfl, g3, g4⟩
        obtain ⟨ca, cc, rfl, _⟩ := ownsRow_slice g3
        have e1 : w6.cell? ⟨fb, 1, none⟩ = some sv := by rw [World.cell?_of_block (w := wc) (g4.block fb hfl (by simp))]; exact c1
        have e2 : w6.frozen? ⟨fb, 1, none⟩ = false := by rw [World.frozen?_of_block (w := wc) (g4.block fb hfl (by simp))]; exact z1
        have E := hid (And.intro g3 g4)
        clear g3 g4))
      all_goals go_wp2_with fail
      all_goals go_meet
      all_goals exact r8_mk CC.out E.out
    case rest =>
      obtain ⟨d8, f8, m8, i8, sv8, uv8, q1, q2, q3⟩ := hcut
      obtain ⟨sa8, sc8, rfl, _⟩ := ownsRow_slice q2
      have c4 : wc.cell? ⟨b, 4, none⟩ = some (.int .i64 0) := by rw [blk_cell d8]; rfl
      have z4 : wc.frozen? ⟨b, 4, none⟩ = false := blk_frozen d8 4
      have Q1 := hid q1
      have Q1d : Hid (FB wc.drew fb 0 (.slice sa8 T.length sc8) uv8 (.slice none 0 0)) := q1
      have QQ := hid (And.intro d8 (And.intro f8 (And.intro m8 (And.intro i8 (And.intro q1 (And.intro q2 q3))))))
      clear d8 f8 m8 i8 q1 q2 q3 CC RD G1 c1 c2 z1
      have c7 : wc.cell? ⟨b, 7, none⟩ = some (.int .i64 fail) := by rw [blk_cell QQ.out.1]; rfl
      have z7 : wc.frozen? ⟨b, 7, none⟩ = false := blk_frozen QQ.out.1 7
      have c8 : wc.cell? ⟨b, 8, none⟩ = some (.int .i64 halt) := by rw [blk_cell QQ.out.1]; rfl
      have z8 : wc.frozen? ⟨b, 8, none⟩ = false := blk_frozen QQ.out.1 8
      have c9 : wc.cell? ⟨b, 9, none⟩ = some (.bool down) := by rw [blk_cell QQ.out.1]; rfl
      have z9 : wc.frozen? ⟨b, 9, none⟩ = false := blk_frozen QQ.out.1 9
      go_wp2_with fail
      go_region_with (
        go_at_call 18
        go_must (
        refine (size_c Q1d.out).mono ?_
        rintro e w6 ⟨rfl, rfl⟩))
      all_goals go_wp2_with fail
      all_goals rw [rounds_succ]
      all_goals refine wp_world (fun W => R8 w b cap w1.heap.size m1 T.length made cnt fail halt down s fb uv T W2.heap.size W) (r9_mk rfl QQ.out) ?_
      all_goals clear QQ Q1 Q1d c4 z4 c7 z7 c8 z8 c9 z9
      all_goals rintro W9 ⟨d9, f9, m9, i9, sv9, uv9, q1, q2, q3⟩
      all_goals have c7 : W9.cell? ⟨b, 7, none⟩ = some (.int .i64 fail) := by rw [blk_cell d9]; rfl
      all_goals have z7 : W9.frozen? ⟨b, 7, none⟩ = false := blk_frozen d9 7
      all_goals have c8 : W9.cell? ⟨b, 8, none⟩ = some (.int .i64 halt) := by rw [blk_cell d9]; rfl
      all_goals have z8 : W9.frozen? ⟨b, 8, none⟩ = false := blk_frozen d9 8
      all_goals have c9 : W9.cell? ⟨b, 9, none⟩ = some (.bool down) := by rw [blk_cell d9]; rfl
      all_goals have z9 : W9.frozen? ⟨b, 9, none⟩ = false := blk_frozen d9 9
      all_goals have hnx := next_end i9 m9 0
      all_goals have Q9 := hid (And.intro d9 (And.intro f9 (And.intro m9 (And.intro q1 (And.intro q2 q3)))))
      all_goals clear d9 f9 m9 i9 q1 q2 q3
      all_goals go_wp2
      all_goals go_end0
      all_goals rw [show sure ++ xs.flatten.take n.toNat = T from HT.out]
      all_goals exact ⟨rfl, r10_mk Q9.out⟩
end Go.Proofs.Ytilgagmnifbdpaa
