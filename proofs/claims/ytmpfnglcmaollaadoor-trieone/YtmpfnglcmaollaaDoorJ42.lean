/-
  What package trie is known to tell.
-/
import Derived.Test.YtmpfnglcmaollaaDoorJ41
import Derived.Lib.SlBytesConst
import Derived.Test.YtmpfnglcmaollaaDoorJ03
import Derived.Test.YtmpfnglcmaollaaDoorJ04
namespace Go.Proofs.YtmpfnglcmaollaaDoor
open Go.ChangeShapes Go.WideShapes Go.ChangeAt Go.RowKit

/-- Bytes of a literal, as they are laid. -/
theorem Rd.lit (w : World) (k : List Nat) (fz : Nat × Nat) : Rd (w.alloc (.cells (bv k).toArray 5 fz)) (.slice (some ⟨w.heap.size, 0, none⟩) k.length k.length) (bv k) :=
  .inr ⟨_, _, by rw [bv_len], by rw [bv_len]; exact Nat.le_refl _, fun j u hj => by
    rw [Addr.add_lit, Nat.zero_add, World.cell?_alloc_mark, ← Array.getElem?_toList]
    exact hj⟩
theorem putLit_c (w : World) {S : Nat → Prop} {tb : Nat} {g : Value} {n : Nd} (HT : Tabs w) (ht : TrieI S w tb g n) (k x : List Nat) (fk fx : Nat × Nat) (hkb : By k) (hkl : k.length ≤ 64) (hvb : By x) (hv1 : 1 ≤ x.length) (hvl : x.length ≤ 1024) :
    Calls Tryd.prog 29 #[.pointer (some ⟨tb, 0, none⟩), .slice (some ⟨w.heap.size, 0, none⟩) k.length k.length, .slice (some ⟨w.heap.size + 1, 0, none⟩) x.length x.length] ((w.alloc (.cells (bv k).toArray 5 fk)).alloc (.cells (bv x).toArray 5 fx)) fun e w' => e = .returned (.int .i64 0) ∧ (∃ S', TrieI S' w' tb g (putT n (nibF k) x)) ∧ Fr [tb] w w' := by
  have F1 : Fr [] w (w.alloc (.cells (bv k).toArray 5 fk)) := (Fr.refl _ _).alloc _
  have F2 : Fr [] w ((w.alloc (.cells (bv k).toArray 5 fk)).alloc (.cells (bv x).toArray 5 fx)) := F1.alloc _
  have R1 := (Rd.lit w k fk).fr ((Fr.refl _ (w.alloc (.cells (bv k).toArray 5 fk))).alloc (.cells (bv x).toArray 5 fx))
  have R2 := Rd.lit (w.alloc (.cells (bv k).toArray 5 fk)) x fx
  rw [show (w.alloc (.cells (bv k).toArray 5 fk)).heap.size = w.heap.size + 1 by simp] at R2
  refine (Put_c _ (HT.fr F2) (ht.fr F2) R1 hkb hkl R2 hvb hv1 hvl).mono ?_
  rintro e w' ⟨rfl, ⟨S', h, _⟩, f⟩
  exact ⟨rfl, ⟨S', h⟩, (F2.mono (by simp)).trans f⟩
theorem put1_c (w : World) {S : Nat → Prop} {tb : Nat} {g : Value} (HT : Tabs w) (ht : TrieI S w tb g (.nil)) :
    Calls Tryd.prog 29 #[.pointer (some ⟨tb, 0, none⟩), .slice (some ⟨w.heap.size, 0, none⟩) 2 2, .slice (some ⟨w.heap.size + 1, 0, none⟩) 4 4] ((w.alloc (.cells #[.int .u8 100, .int .u8 111] 5 (2, 3))).alloc (.cells #[.int .u8 118, .int .u8 101, .int .u8 114, .int .u8 98] 5 (4, 5))) fun e w' => e = .returned (.int .i64 0) ∧ (∃ S', TrieI S' w' tb g wT1) ∧ Fr [tb] w w' :=
  putLit_c w HT ht [100, 111] [118, 101, 114, 98] _ _ (by unfold By; decide) (by decide) (by unfold By; decide) (by decide) (by decide)
theorem put2_c (w : World) {S : Nat → Prop} {tb : Nat} {g : Value} (HT : Tabs w) (ht : TrieI S w tb g (wT1)) :
    Calls Tryd.prog 29 #[.pointer (some ⟨tb, 0, none⟩), .slice (some ⟨w.heap.size, 0, none⟩) 3 3, .slice (some ⟨w.heap.size + 1, 0, none⟩) 5 5] ((w.alloc (.cells #[.int .u8 100, .int .u8 111, .int .u8 103] 5 (3, 4))).alloc (.cells #[.int .u8 112, .int .u8 117, .int .u8 112, .int .u8 112, .int .u8 121] 5 (5, 6))) fun e w' => e = .returned (.int .i64 0) ∧ (∃ S', TrieI S' w' tb g wT2) ∧ Fr [tb] w w' :=
  putLit_c w HT ht [100, 111, 103] [112, 117, 112, 112, 121] _ _ (by unfold By; decide) (by decide) (by unfold By; decide) (by decide) (by decide)
theorem put3_c (w : World) {S : Nat → Prop} {tb : Nat} {g : Value} (HT : Tabs w) (ht : TrieI S w tb g (wT2)) :
    Calls Tryd.prog 29 #[.pointer (some ⟨tb, 0, none⟩), .slice (some ⟨w.heap.size, 0, none⟩) 4 4, .slice (some ⟨w.heap.size + 1, 0, none⟩) 4 4] ((w.alloc (.cells #[.int .u8 100, .int .u8 111, .int .u8 103, .int .u8 101] 5 (4, 5))).alloc (.cells #[.int .u8 99, .int .u8 111, .int .u8 105, .int .u8 110] 5 (4, 5))) fun e w' => e = .returned (.int .i64 0) ∧ (∃ S', TrieI S' w' tb g wT3) ∧ Fr [tb] w w' :=
  putLit_c w HT ht [100, 111, 103, 101] [99, 111, 105, 110] _ _ (by unfold By; decide) (by decide) (by unfold By; decide) (by decide) (by decide)
theorem put4_c (w : World) {S : Nat → Prop} {tb : Nat} {g : Value} (HT : Tabs w) (ht : TrieI S w tb g (wT3)) :
    Calls Tryd.prog 29 #[.pointer (some ⟨tb, 0, none⟩), .slice (some ⟨w.heap.size, 0, none⟩) 5 5, .slice (some ⟨w.heap.size + 1, 0, none⟩) 8 8] ((w.alloc (.cells #[.int .u8 104, .int .u8 111, .int .u8 114, .int .u8 115, .int .u8 101] 5 (5, 6))).alloc (.cells #[.int .u8 115, .int .u8 116, .int .u8 97, .int .u8 108, .int .u8 108, .int .u8 105, .int .u8 111, .int .u8 110] 5 (8, 9))) fun e w' => e = .returned (.int .i64 0) ∧ (∃ S', TrieI S' w' tb g wT4) ∧ Fr [tb] w w' :=
  putLit_c w HT ht [104, 111, 114, 115, 101] [115, 116, 97, 108, 108, 105, 111, 110] _ _ (by unfold By; decide) (by decide) (by unfold By; decide) (by decide) (by decide)
theorem getDog_c (w : World) {S : Nat → Prop} {tb : Nat} {g : Value} (ht : TrieI S w tb g wT4) :
    Calls Tryd.prog 36 #[.pointer (some ⟨tb, 0, none⟩), .slice (some ⟨w.heap.size, 0, none⟩) 3 3] (w.alloc (.cells #[.int .u8 100, .int .u8 111, .int .u8 103] 5 (3, 4))) fun e w' => ∃ a c, e = .returned (.tuple #[.slice a 5 c, .bool true, .int .i64 0]) ∧ Rd w' (.slice a 5 c) (bv [112, 117, 112, 112, 121]) ∧ Fr [] w w' := by
  have F1 : Fr [] w (w.alloc (.cells (bv [100, 111, 103]).toArray 5 (3, 4))) := (Fr.refl _ _).alloc _
  refine (Get_c _ (ht.fr F1) (Rd.lit w [100, 111, 103] (3, 4)) (by unfold By; decide) (by decide) (by rw [wT4_find]; decide)).mono ?_
  rintro e w' ⟨v', rfl, h, f⟩
  rw [wT4_find] at h ⊢
  obtain ⟨a, c, e1⟩ := h.form
  rw [bv_len] at e1
  subst e1
  exact ⟨a, c, rfl, h, F1.trans f⟩
theorem str_puppy : strOf [112, 117, 112, 112, 121] = ⟨#[112, 117, 112, 112, 121]⟩ := by decide
set_option maxRecDepth 20000 in
set_option maxHeartbeats 6400000 in
theorem known_c (w : World) (HT : Tabs w) (f : Nat → Nat) (hf : f = hashOf [128]) (G : Nat → Nat) (hG : G = hashOf trRX) :
    Calls Tryd.prog 9 #[] w fun e w' => e = .returned (.bool true) ∧ Fr [] w w' := by
  have HTH := hid HT
  have EM := hid (fun (w1 : World) (g : Fr [] w w1) => empty_c w1 (HT.fr g))
  rw [← hf] at EM
  have NW := hid (fun (w1 : World) (g : Fr [] w w1) => new_cT w1 (HT.fr g) f hf)
  have RE := hid (fun (w1 : World) => rempty_c w1 f hf)
  have RT := hid (fun (w1 : World) (S : Nat → Prop) (tb : Nat) (g : Value) (h : TrieI S w1 tb g wT4) => Root_c w1 h wT4_ne wT4_ref)
  rw [← hG] at RT
  have HB := root_bytes
  rw [← hG] at HB
  obtain ⟨hb0, hb1, hb31⟩ := HB
  clear HT hf hG
  have kc := fun (w : World) (C : Array Value) (n c : Nat) => Lib.run_convert_bytes_const (P := Tryd.prog) w 33 5 C n c Tryd.underlying33 Tryd.underlying5
  have kc2 : ∀ (w : World) (o : Obj) (C : Array Value) (n c : Nat), (convert 33 33 (.slice (some ⟨w.heap.size + 1, 0, none⟩) n c)).run Tryd.prog ((w.alloc o).alloc (.cells C 5)) = .ok (.slice (some ⟨w.heap.size + 1, 0, none⟩) n c) ((w.alloc o).alloc (.cells C 5 (C.size, C.size + 1))) := fun w o C n c => by
    have := kc (w.alloc o) C n c
    rw [World.size_alloc] at this; exact this
  go_enter Tryd.func9, Tryd.ntmps9
  go_upto_region 2 with (first
    | (go_at_call 12; refine (EM.out _ (Fr.refl _ _)).mono ?_; rintro e w1 ⟨rfl, f1⟩; have F1 := hid f1; clear f1)
    | (go_at_call 11; refine (NW.out _ F1.out).mono ?_; rintro e w2 ⟨tb, gv, rfl, hT, hb, f2⟩; have HTI := hid hT; have HTB := hid (Nat.le_trans F1.out.size hb); have F2 := hid (F1.out.trans f2); clear hT hb f2 NW))
  go_wp2_with fail
  refine (put1_c _ (HTH.out.fr F2.out) HTI.out).mono ?_
  rintro e w3 ⟨rfl, ⟨S3, t3⟩, f3⟩
  have F3 := hid (F2.out.overT f3 HTB.out)
  have HT3 := hid t3
  clear f3 t3
  clear HTI F1
  go_wp2_with fail
  refine (put2_c _ (HTH.out.fr F3.out) HT3.out).mono ?_
  rintro e w4 ⟨rfl, ⟨S4, t4⟩, f4⟩
  have F4 := hid (F3.out.overT f4 HTB.out)
  have HT4 := hid t4
  clear f4 t4 HT3 F3
  go_wp2_with fail
  refine (put3_c _ (HTH.out.fr F4.out) HT4.out).mono ?_
  rintro e w5 ⟨rfl, ⟨S5, t5⟩, f5⟩
  have F5 := hid (F4.out.overT f5 HTB.out)
  have HT5 := hid t5
  clear f5 t5 HT4 F4
  go_wp2_with fail
  refine (put4_c _ (HTH.out.fr F5.out) HT5.out).mono ?_
  rintro e w6 ⟨rfl, ⟨S6, t6⟩, f6⟩
  have F6 := hid (F5.out.overT f6 HTB.out)
  have HT6 := hid t6
  clear f6 t6 HT5 F5
  go_wp2_with fail
  refine (RT.out w6 S6 tb gv HT6.out).mono ?_
  rintro e w7 ⟨rfl, f7⟩
  have F7 := hid (F6.out.trans f7)
  have HT7 := hid (HT6.out.fr f7)
  clear f7 RT
  rename_i hK
  refine hK _ _ ?_
  refine wpList_made32T (t1 := 2) (t2 := 47) (g := G) rfl rfl rfl rfl rfl rfl (by simp [Act.eval, Act.put]) (by simp [Act.eval, Act.put]) ?_
  have HR8 : Hid ((w7.alloc (.cells (bvals 32 G) 28)).heap[w7.heap.size]? = some (.cells (bvals 32 G) 28 (0, 0))) := hid (blk_new _ _)
  have F8 : Hid (Fr [] w (w7.alloc (.cells (bvals 32 G) 28))) := hid (F7.out.alloc _)
  have HT8 : Hid (TrieI S6 (w7.alloc (.cells (bvals 32 G) 28)) tb gv wT4) := hid (HT7.out.fr ((Fr.refl _ _).alloc _))
  generalize w7.alloc (.cells (bvals 32 G) 28) = w8 at HR8 F8 HT8 ⊢
  clear hK HT6 HT7 F6 F7
  go_wp2_with fail
  refine (getDog_c w8 HT8.out).mono ?_
  rintro e w9 ⟨ga, gc, rfl, hg, f9⟩
  have F9 := hid (F8.out.trans f9)
  have HR9 := hid (blk_frT HR8.out f9)
  have hcv := run_conv hg
  rw [str_puppy] at hcv
  clear f9 hg HT8 F8 HR8
  have r0 := blk_cell HR9.out 0
  have r1 := blk_cell HR9.out 1
  have r31 := blk_cell HR9.out 31
  rw [bvals_at _ (by omega)] at r0 r1 r31
  rw [hb0] at r0
  rw [hb1] at r1
  rw [hb31] at r31
  go_wp2_with fail
  refine (EM.out w9 F9.out).mono ?_
  rintro e w10 ⟨rfl, f10⟩
  have F10 := hid (F9.out.trans f10)
  clear f10 EM r0 r1 r31 hcv
  go_wp2_with fail
  refine (RE.out w10).mono ?_
  rintro e w11 ⟨rfl, f11⟩
  have F11 := hid (F10.out.trans f11)
  have heq := eqIn32 w11 f f (fun _ _ => rfl)
  clear f11
  go_wp2
  go_ret
  exact ⟨rfl, F11.out⟩
end Go.Proofs.YtmpfnglcmaollaaDoor
namespace Go.Proofs.YtmpfnglcmaollaaDoor
open Go.ChangeShapes Go.WideShapes Go.ChangeAt Go.RowKit

set_option maxRecDepth 20000 in
set_option maxHeartbeats 800000 in
theorem rhead_c (w : World) (base n : Nat) (hb : base ≤ 192) (hn : n ≤ 1000000) :
    Calls Tryd.prog 59 #[.int .i64 (base : Int), .int .i64 (n : Int)] w fun e w' => ∃ v', e = .returned v' ∧ w'.ownsRow w.heap.size 5 1 v' (headL base n).length (bv (headL base n)) ∧ Fr [] w w' := by
  by_cases h55 : n ≤ 55
  · rw [headL_short h55]
    have h1 : (n : Int) ≤ 55 := by omega
    have hw : IntKind.u8.wrap ((base : Int) + (n : Int)) = ((base + n : Nat) : Int) := by rw [IntKind.wrap_u8]; omega
    have O := hid (own_lit1 w (z := ((base + n : Nat) : Int)) (x := base + n) rfl rfl (Nat.le_refl _))
    have F := hid ((Fr.refl [] w).alloc (.cells #[.int .u8 ((base + n : Nat) : Int)] 5))
    generalize base + n = s at *
    go_enter Tryd.func59, Tryd.ntmps59
    go_wp2
    go_ret
    exact ⟨_, rfl, O.out, F.out⟩
  · rw [headL_long (by omega)]
    obtain ⟨G, hG⟩ : ∃ G, G = digs n := ⟨_, rfl⟩
    rw [← hG]
    have HG := hid hG
    clear hG
    go_enter Tryd.func59, Tryd.ntmps59
    go_wp2
    go_loopw [5, 6] (fun v5 v6 wr => ∃ (s m : Nat) (ds : List Nat), v6 = .int .i64 (m : Int) ∧ m ≤ 1000000 ∧ s + ds.length = 8 ∧ m < 256 ^ s ∧ G = digF s m ++ ds ∧ wr.ownsRow w.heap.size 5 1 v5 ds.length (bv ds) ∧ Fr [] w wr) (fun _ v6 _ => (intOf v6).toNat)
    case atStart => exact ⟨8, n, [], rfl, by omega, rfl, (by rw [show (256 : Nat) ^ 8 = 18446744073709551616 from rfl]; omega), by rw [HG.out, List.append_nil]; rfl, World.ownsRow_nil _ _ _ _, Fr.refl _ _⟩
    case round =>
      obtain ⟨s, m, ds, rfl, hm6, hs, hms, hd, ho, hf⟩ := hrel
      have HS := hid hs
      have HMS := hid hms
      have HD := hid hd
      have RO := hid ho
      have RF := hid hf
      obtain ⟨L, hL⟩ : ∃ L, L = ds.length := ⟨_, rfl⟩
      rw [← hL] at ho
      obtain ⟨a5, c5, rfl, _⟩ := ownsRow_slice ho
      have RR := hid (Rd.ownN ho hL)
      have HL := hid hL
      have hL8 : L ≤ 8 := by omega
      clear hs hms hd ho hL
      by_cases hm : m = 0
      · subst hm
        have hx : IntKind.u8.wrap ((base : Int) + 55 + (L : Int)) = ((base + 55 + L : Nat) : Int) := by rw [IntKind.wrap_u8]; omega
        have HGD : Hid (G = ds) := by unfold Hid; rw [HD.out, digF_zero]; rfl
        obtain ⟨X, hX⟩ : ∃ X, X = base + 55 + L := ⟨_, rfl⟩
        have OX := hid (own_lit1 wr (z := (X : Int)) (x := X) rfl rfl hf.size)
        rw [← hX] at hx
        have FX := hid (hf.alloc (.cells #[.int .u8 (X : Int)] 5))
        have RX := hid (RR.out.fr ((Fr.refl [] wr).alloc (.cells #[.int .u8 (X : Int)] 5)))
        have HX := hid hX
        have hl1 : Hid ([X].length + ds.length ≤ 140737488355328) := by unfold Hid; rw [← HL.out]; simp; omega
        clear hX hf
        go_wp2_with (at_builtin; refine wpList_append_bv rfl _ _ rfl OX.out rfl FX.out (Nat.le_refl _) FX.out.size _ RX.out rfl hl1.out ?_; intro v8 w8 o8 f8; have O8 := hid o8; have F8 := hid f8; clear o8 f8)
        go_ret
        refine ⟨v8, rfl, ?_, F8.out⟩
        have := O8.out
        rw [← HL.out] at this
        rw [HGD.out, ← HL.out, ← HX.out, Nat.add_comm]
        exact this
      · have hm0 : (0 : Int) < (m : Int) := by omega
        have OX := hid (own_lit1 wr (z := (m : Int) % 256) (x := m % 256) (by omega) rfl hf.size)
        have FX := hid (hf.alloc (.cells #[.int .u8 ((m : Int) % 256)] 5))
        have RX := hid (RR.out.fr ((Fr.refl [] wr).alloc (.cells #[.int .u8 ((m : Int) % 256)] 5)))
        have hl1 : Hid ([m % 256].length + ds.length ≤ 140737488355328) := by unfold Hid; rw [← HL.out]; simp; omega
        clear hf
        go_wp2_with (at_builtin; refine wpList_append_bv rfl _ _ rfl OX.out rfl FX.out (Nat.le_refl _) FX.out.size _ RX.out rfl hl1.out ?_; intro v8 w8 o8 f8; have O8 := hid o8; have F8 := hid f8; clear o8 f8)
        go_roundw
        case rel =>
          have hs0 : s ≠ 0 := fun e => by have := HMS.out; rw [e] at this; simp at this; exact hm this
          obtain ⟨q, rfl⟩ : ∃ q, s = q + 1 := ⟨s - 1, by omega⟩
          refine ⟨q, m / 256, [m % 256] ++ ds, by go_num, by omega, by have := HS.out; simp; omega, ?_, ?_, ?_, F8.out⟩
          · have := HMS.out; rw [Nat.pow_succ] at this; omega
          · rw [HD.out, digF, if_neg hm, List.append_assoc]
          · have := O8.out
            rw [← List.length_append] at this
            exact this
        case measure => simp [intOf]; omega

set_option maxRecDepth 20000 in
set_option maxHeartbeats 800000 in
theorem rlist_c (w : World) {v : Value} {b : List Nat} (hr : Rd w v (bv b)) (hl : b.length ≤ 1000000) :
    Calls Tryd.prog 33 #[v] w fun e w' => ∃ v', e = .returned v' ∧ w'.ownsRow w.heap.size 5 1 v' (headL 192 b.length ++ b).length (bv (headL 192 b.length ++ b)) ∧ Fr [] w w' := by
  obtain ⟨a, c, hv⟩ := hr.form
  rw [bv_len] at hv
  subst hv
  obtain ⟨L, hL⟩ : ∃ L, L = b.length := ⟨_, rfl⟩
  rw [← hL] at hr hl ⊢
  have HR := hid hr
  have HL := hid hL
  have HH := hid (rhead_c w 192 L (by omega) hl)
  have hh : Hid ((headL 192 L).length + b.length ≤ 140737488355328) := by unfold Hid; have := (headL_len 192 L).2; omega
  clear hr hL
  go_enter Tryd.func33, Tryd.ntmps33
  go_wp2_with fail
  refine HH.out.mono ?_
  rintro e w1 ⟨v1, rfl, o1, f1⟩
  have O1 := hid o1
  have F1 := hid f1
  have R1 := hid (HR.out.fr f1)
  clear o1 f1
  go_wp2_with (at_builtin; refine wpList_append_bv rfl _ _ rfl O1.out rfl F1.out (Nat.le_refl _) F1.out.size _ R1.out rfl hh.out ?_; intro v8 w8 o8 f8; rw [← List.length_append] at o8; have O8 := hid o8; have F8 := hid f8; clear o8 f8)
  go_ret
  exact ⟨v8, rfl, O8.out, F8.out⟩

set_option maxRecDepth 20000 in
set_option maxHeartbeats 800000 in
theorem rbytes_c (w : World) {v : Value} {b : List Nat} (hr : Rd w v (bv b)) (hb : By b) (hl : b.length ≤ 1000000) :
    Calls Tryd.prog 34 #[v] w fun e w' => ∃ v', e = .returned v' ∧ w'.ownsRow w.heap.size 5 1 v' (strL b).length (bv (strL b)) ∧ Fr [] w w' := by
  by_cases h1 : b.length = 1 ∧ b.headD 0 < 128
  · have hs : strL b = b := by unfold strL; rw [if_pos h1]
    obtain ⟨x, rfl⟩ : ∃ x, b = [x] := by
      rcases b with _ | ⟨x, _ | ⟨y, r⟩⟩
      · simp at h1
      · exact ⟨x, rfl⟩
      · simp at h1
    rw [hs]
    have hx : x < 128 := by simpa using h1.2
    rcases hr.split with ⟨h, _⟩ | ⟨q, off, c, rfl, h2, h3, h4⟩
    · cases h
    have hc := h4 0 x rfl
    simp at hc
    have O := hid (own_lit1 w (z := (x : Int)) (x := x) rfl rfl (Nat.le_refl _))
    have F := hid ((Fr.refl [] w).alloc (.cells #[.int .u8 (x : Int)] 5))
    have hx' : (x : Int) < 128 := by omega
    clear hs h1 hr h4
    go_enter Tryd.func34, Tryd.ntmps34
    go_wp2
    go_ret
    exact ⟨_, rfl, O.out, F.out⟩
  · have hs : strL b = headL 128 b.length ++ b := by unfold strL; rw [if_neg h1]
    rw [hs]
    obtain ⟨a, c, hv⟩ := hr.form
    rw [bv_len] at hv
    subst hv
    obtain ⟨L, hL⟩ : ∃ L, L = b.length := ⟨_, rfl⟩
    rw [← hL] at hr hl h1 ⊢
    have HR := hid hr
    have HL := hid hL
    have HH := hid (rhead_c w 128 L (by omega) hl)
    have hh : Hid ((headL 128 L).length + b.length ≤ 140737488355328) := by unfold Hid; have := (headL_len 128 L).2; omega
    by_cases hL1 : L = 1
    · subst hL1
      have hx0 : ¬ b.headD 0 < 128 := fun h => h1 ⟨rfl, h⟩
      obtain ⟨x, rfl⟩ : ∃ x, b = [x] := by
        rcases b with _ | ⟨x, _ | ⟨y, r⟩⟩
        · simp at hL
        · exact ⟨x, rfl⟩
        · simp at hL
      have hx : ¬ x < 128 := by simpa using hx0
      rcases hr.split with ⟨h, _⟩ | ⟨q, off, c', he, h2, h3, h4⟩
      · cases h
      simp only [Value.slice.injEq] at he
      obtain ⟨rfl, he2, rfl⟩ := he
      clear he2
      have hc := h4 0 x rfl
      simp at hc
      have hx' : ¬ (x : Int) < 128 := by omega
      clear hs h1 hr h4 hL hx0
      go_enter Tryd.func34, Tryd.ntmps34
      go_wp2_with fail
      refine HH.out.mono ?_
      rintro e w1 ⟨v1, rfl, o1, f1⟩
      have O1 := hid o1
      have F1 := hid f1
      have R1 := hid (HR.out.fr f1)
      clear o1 f1
      go_wp2_with (at_builtin; refine wpList_append_bv rfl _ _ rfl O1.out rfl F1.out (Nat.le_refl _) F1.out.size _ R1.out rfl hh.out ?_; intro v8 w8 o8 f8; rw [← List.length_append] at o8; have O8 := hid o8; have F8 := hid f8; clear o8 f8)
      go_ret
      exact ⟨v8, rfl, O8.out, F8.out⟩
    · have hz : ((L : Int) == 1) = false := beq_eq_false_iff_ne.2 (by omega)
      clear hs h1 hr hL
      go_enter Tryd.func34, Tryd.ntmps34
      go_wp2_with fail
      refine HH.out.mono ?_
      rintro e w1 ⟨v1, rfl, o1, f1⟩
      have O1 := hid o1
      have F1 := hid f1
      have R1 := hid (HR.out.fr f1)
      clear o1 f1
      go_wp2_with (at_builtin; refine wpList_append_bv rfl _ _ rfl O1.out rfl F1.out (Nat.le_refl _) F1.out.size _ R1.out rfl hh.out ?_; intro v8 w8 o8 f8; rw [← List.length_append] at o8; have O8 := hid o8; have F8 := hid f8; clear o8 f8)
      go_ret
      exact ⟨v8, rfl, O8.out, F8.out⟩
end Go.Proofs.YtmpfnglcmaollaaDoor
