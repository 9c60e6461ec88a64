/-
  What Read of package wal answers.
-/
import Derived.Test.YtegbngbhmgbocaaGreatDoorJ05
import Derived.Deep.Light
import Derived.WalkMore
import Derived.Test.YtegbngbhmgbocaaGreatDoorJ04
import Derived.Test.YtegbngbhmgbocaaGreatDoorJ03
import Derived.Lib.SlBytesConst
namespace Go.Proofs.YtegbngbhmgbocaaGreatDoor
open Go.ChangeShapes Go.WideShapes Go.ChangeAt Go.RowKit

/-- What Read has in hand at a round's beginning. -/
structure RdSt (w wr : World) (b : List Nat) (v4 : Value) (rs : List (List Nat)) (acc : List Nat) (bg : Bool) (t en f : Nat) : Prop where
  st : ∃ av cs, wr.heap[w.heap.size]? = some (.cells #[av] 22 (0, 0)) ∧ wr.ownsRow (w.heap.size + 1) 5 1 av acc.length (bv acc) ∧ wr.ownsRow (w.heap.size + 1) 22 1 v4 rs.length cs ∧ Lst wr (w.heap.size + 1) [v4.ownBlock, av.ownBlock] rs cs
  fr : Fr [] w wr
  by' : By acc
  tb : t ≤ b.length
  tf : b.length < t + f
  al : acc.length ≤ t
  rl : rs.length ≤ t
  res : (rs ++ (rdS b f t bg acc en).1, (rdS b f t bg acc en).2) = readL b
/-- What Read has in hand once a fragment is gathered. -/
structure RdMid (w w1 : World) (v4 : Value) (rs : List (List Nat)) (acc : List Nat) : Prop where
  st : ∃ av cs, w1.heap[w.heap.size]? = some (.cells #[av] 22 (0, 0)) ∧ w1.ownsRow (w.heap.size + 1) 5 1 av acc.length (bv acc) ∧ w1.ownsRow (w.heap.size + 1) 22 1 v4 rs.length cs ∧ Lst w1 (w.heap.size + 1) [v4.ownBlock, av.ownBlock] rs cs
  fr : Fr [] w w1
theorem RdMid.fr' {w w1 w2 : World} {v4 : Value} {rs : List (List Nat)} {acc : List Nat} (h : RdMid w w1 v4 rs acc) (f : Fr [] w1 w2) : RdMid w w2 v4 rs acc := by
  obtain ⟨⟨av, cs, h1, h2, h3, h4⟩, h5⟩ := h
  exact ⟨⟨av, cs, f.at h1 (by simp), ownsRow_fr h2 f, ownsRow_fr h3 f, h4.step f.size (fun k _ k2 _ => f.block k k2 (by simp)) (fun q hq => .inl hq)⟩, h5.trans f⟩
theorem RdMid.own {w w1 : World} {v4 : Value} {rs : List (List Nat)} {acc : List Nat} (h : RdMid w w1 v4 rs acc) : OwnL w1 w.heap.size v4 rs := by
  obtain ⟨⟨av, cs, h1, h2, h3, h4⟩, h5⟩ := h
  refine ⟨cs, ownsRow_base h3 (Nat.le_succ _), h4.1, fun j r hj => ?_⟩
  obtain ⟨u, k1, k2, k3, k4, k5⟩ := h4.2 j r hj
  exact ⟨u, k1, k2, k3, k4, fun k hk => ⟨by have := (k5 k hk).1; omega, (k5 k hk).2.1, fun q hq => (k5 k hk).2.2 q (by simp at hq; simp [hq])⟩⟩
theorem RdSt.mid {w wr : World} {b : List Nat} {v4 : Value} {rs : List (List Nat)} {acc : List Nat} {bg : Bool} {t en f : Nat} (h : RdSt w wr b v4 rs acc bg t en f) : RdMid w wr v4 rs acc := ⟨h.st, h.fr⟩

/-- The closure's call, in Read's words. -/
theorem gather_mid {w w1 : World} {v4 dv : Value} {rs : List (List Nat)} {acc d : List Nat} (h : RdMid w w1 v4 rs acc) (r : Rd w1 dv (bv d)) (hl : acc.length + d.length ≤ 4194304) :
    Calls Tryz.prog 23 #[dv, .pointer (some ⟨w.heap.size, 0, none⟩)] w1 fun e w' => e = .returned (.bool true) ∧ RdMid w w' v4 rs (acc ++ d) ∧ Fr [] w w' ∧ ∀ k, w.heap.size < k → k < w1.heap.size → (∀ c T, w1.heap[k]? = some (.cells c T (0, 0)) → T ≠ 5) → w'.heap[k]? = w1.heap[k]? := by
  obtain ⟨⟨av, cs, h1, h2, h3, h4⟩, h5⟩ := h
  have hbw : w.heap.size + 1 ≤ w1.heap.size := blk_lt h1
  refine (gather_c w1 h1 h2 hbw r hl).mono ?_
  rintro e w' ⟨rfl, av', k1, k2, k3, k4⟩
  have hav := own_types h2 h3 (by decide)
  have hf' : Fr [] w w' := ⟨k3.os.trans h5.os, k3.tape.trans h5.tape, k3.output.trans h5.output, Nat.le_trans h5.size k3.size, fun k hk _ => by
    rw [k3.block k (by have := h5.size; omega) ?_]
    · exact h5.block k hk (by simp)
    · simp only [List.mem_cons, Option.mem_toList]
      rintro (e | e)
      · omega
      · have := (h2.lt k e).1; omega⟩
  refine ⟨rfl, ⟨⟨av', cs, k1, by rw [List.length_append]; exact k2, ?_, ?_⟩, hf'⟩, hf', ?_⟩
  · refine ownsRow_of_block h3 fun k hk => k3.block k (h3.lt k hk).2 ?_
    simp only [List.mem_cons, Option.mem_toList]
    rintro (e | e)
    · have := (h3.lt k hk).1; omega
    · exact hav k e hk
  · refine h4.step k3.size (fun k b1 b2 b3 => k3.block k b2 ?_) ?_
    · simp only [List.mem_cons, Option.mem_toList]
      rintro (e | e)
      · omega
      · exact b3 av.ownBlock (by simp) e
    · intro q hq
      simp only [List.mem_cons, List.not_mem_nil, or_false] at hq
      rcases hq with rfl | rfl
      · exact .inl (by simp)
      · rcases k4 with e | e
        · rw [e]; exact .inl (by simp)
        · exact .inr fun k hk => by rw [e] at hk; simp at hk; omega
  · intro k b1 b2 b3
    refine k3.block k b2 ?_
    simp only [List.mem_cons, Option.mem_toList]
    rintro (e | e)
    · omega
    · rcases h2.2 with ⟨e2, _⟩ | ⟨g, cap, cur, e2, _, e3, _⟩
      · rw [e2] at e; simp [Value.ownBlock] at e
      · rw [e2] at e; simp [Value.ownBlock] at e; subst e; exact b3 _ _ e3 rfl

theorem rdS_stop {b : List Nat} {f t en : Nat} {bg : Bool} {acc : List Nat} (h : fnd b t = none) : rdS b f t bg acc en = ([], en) := rdS_none f (one_none h)
theorem rdS_bad {b : List Nat} {f t k e en : Nat} {d : List Nat} {bg : Bool} {acc : List Nat} (h : fnd b t = some (k, d, e)) (hk : k ≠ kd bg true) (he : ¬ (k = kd bg false ∧ e % 64 = 0)) : rdS b f t bg acc en = ([], en) := rdS_none f (one_bad h hk he)
theorem RdSt.stop {w wr : World} {b : List Nat} {v4 : Value} {rs : List (List Nat)} {acc : List Nat} {bg : Bool} {t en f : Nat} (h : RdSt w wr b v4 rs acc bg t en f) (h0 : rdS b f t bg acc en = ([], en)) : readL b = (rs, en) := by
  rw [← h.res, h0, List.append_nil]
theorem ret_read {b : List Nat} {w w' : World} {v4 : Value} {rs : List (List Nat)} {acc : List Nat} {en : Nat} (h : readL b = (rs, en)) (m : RdMid w w' v4 rs acc) : ∃ v', Ending.returned (.tuple #[v4, .int .i64 (en : Int)]) = .returned (.tuple #[v', .int .i64 ((readL b).2 : Int)]) ∧ OwnL w' w.heap.size v' (readL b).1 ∧ Fr [] w w' :=
  ⟨v4, by rw [h], by rw [h]; exact m.own, m.fr⟩

/-- A record is handed over to the list. -/
theorem RdMid.took {w w2 w5 : World} {v4 v5 av : Value} {rs : List (List Nat)} {acc : List Nat} {cs : List Value} (h1 : w2.heap[w.heap.size]? = some (.cells #[av] 22 (0, 0))) (h2 : w2.ownsRow (w.heap.size + 1) 5 1 av acc.length (bv acc)) (h3 : w2.ownsRow (w.heap.size + 1) 22 1 v4 rs.length cs) (h4 : Lst w2 (w.heap.size + 1) [v4.ownBlock, av.ownBlock] rs cs) (hf : Fr [] w w2) (hb : By acc) (hl : acc.length ≤ 140737488355328) {X : Obj}
    (o5 : w5.ownsRow (w.heap.size + 1) 22 1 v5 (rs.length + 1) (cs ++ [av])) (g5 : (w2.alloc X).grownBy w5 v4.ownBlock) (q5 : v5.ownBlock = v4.ownBlock ∨ v5.ownBlock = some (w2.alloc X).heap.size) :
    RdMid w (w5.setCell ⟨w.heap.size, 0, none⟩ (.slice none 0 0)) v5 (rs ++ [acc]) [] := by
  have hlt := blk_lt h1
  have hsz : w2.heap.size < (w2.alloc X).heap.size := by simp
  have hs5 : w2.heap.size ≤ w5.heap.size := Nat.le_trans (Nat.le_of_lt hsz) g5.size
  have hn4 : v4.ownBlock ≠ some w.heap.size := fun e => by have := (h3.lt _ e).1; omega
  have keep : ∀ k, k < w2.heap.size → v4.ownBlock ≠ some k → w5.heap[k]? = w2.heap[k]? := fun k hk hq => by
    rw [g5.block k (by omega) (fun e => hq e.symm), blk_old _ _ hk]
  have hR5 : w5.heap[w.heap.size]? = some (.cells #[av] 22 (0, 0)) := by rw [keep _ hlt hn4]; exact h1
  have hav := own_types h2 h3 (by decide)
  have keep' : ∀ k, k < w2.heap.size → k ≠ w.heap.size → v4.ownBlock ≠ some k → (w5.setCell ⟨w.heap.size, 0, none⟩ (.slice none 0 0)).heap[k]? = w2.heap[k]? := fun k hk hn hq => by
    rw [blk_setne _ _ _ hn]; exact keep k hk hq
  have hss : (w5.setCell ⟨w.heap.size, 0, none⟩ (.slice none 0 0)).heap.size = w5.heap.size := by simp [World.setCell]
  refine ⟨⟨.slice none 0 0, cs ++ [av], by rw [blk_set hR5]; rfl, World.ownsRow_nil _ _ _ _, ?_, ?_⟩, ?_⟩
  · rw [List.length_append]
    refine ownsRow_of_block o5 fun k hk => blk_setne _ _ _ ?_
    intro e; subst e; have := (o5.lt _ hk).1; omega
  · refine Lst.snoc (h4.step (by omega) (fun k b1 b2 b3 => keep' k b2 (by omega) (b3 _ (by simp))) ?_) ?_ hb hl ?_
    · intro q hq
      simp only [List.mem_cons, List.not_mem_nil, or_false] at hq
      rcases hq with rfl | rfl
      · rcases q5 with e | e
        · rw [e]; exact .inl (by simp)
        · exact .inr fun k hk => by rw [e] at hk; simp at hk; omega
      · exact .inr fun k hk => by simp [Value.ownBlock] at hk
    · exact (Rd.ownB h2).step fun k hk => keep' k (h2.lt k hk).2 (by have := (h2.lt k hk).1; omega) (hav k hk)
    · intro k hk
      refine ⟨(h2.lt k hk).1, by rw [hss]; have := (h2.lt k hk).2; omega, fun q hq e => ?_⟩
      simp only [List.mem_cons, List.not_mem_nil, or_false] at hq
      rcases hq with rfl | rfl
      · rcases q5 with e' | e'
        · exact hav k hk (by rw [← e']; exact e)
        · rw [e'] at e; simp at e; have := (h2.lt k hk).2; omega
      · simp [Value.ownBlock] at e
  · have hf5 : Fr [] w w5 := ⟨g5.os.trans hf.os, g5.tape.trans hf.tape, g5.output.trans hf.output, by have := hf.size; omega, fun k hk _ => by
      rw [keep k (by have := hf.size; omega) (fun e => by have := (h3.lt _ e).1; omega)]; exact hf.block k hk (by simp)⟩
    exact hf5.set _ _ (.inr (Nat.le_refl _))
theorem RdSt.take {w wr w' : World} {b : List Nat} {v4 v5 : Value} {rs : List (List Nat)} {acc d : List Nat} {bg : Bool} {t en f k e : Nat} (S : RdSt w wr b v4 rs acc bg t en f) (hf : fnd b t = some (k, d, e)) (hk : k = kd bg true) (M : RdMid w w' v5 (rs ++ [acc ++ d]) []) : ∃ g, RdSt w w' b v5 (rs ++ [acc ++ d]) [] false e e g := by
  have he := fnd_end hf
  have htf := S.tf
  obtain ⟨g, rfl⟩ : ∃ g, f = g + 1 := ⟨f - 1, by have := S.tb; omega⟩
  refine ⟨g, M.st, M.fr, fun x hx => (by cases hx), he.2.1, by omega, Nat.zero_le _, by have := S.rl; simp; omega, ?_⟩
  rw [← S.res, rdS_end hf hk, List.append_assoc]; rfl
theorem RdSt.more {w wr w' : World} {b : List Nat} {v4 : Value} {rs : List (List Nat)} {acc d : List Nat} {bg : Bool} {t en f k e : Nat} (S : RdSt w wr b v4 rs acc bg t en f) (hf : fnd b t = some (k, d, e)) (hd : By d) (hk : k = kd bg false) (h64 : e % 64 = 0) (M : RdMid w w' v4 rs (acc ++ d)) : ∃ g, RdSt w w' b v4 rs (acc ++ d) true e en g := by
  have he := fnd_end hf
  have htf := S.tf
  obtain ⟨g, rfl⟩ : ∃ g, f = g + 1 := ⟨f - 1, by have := S.tb; omega⟩
  refine ⟨g, M.st, M.fr, S.by'.append hd, he.2.1, by omega, by have := S.al; rw [List.length_append]; omega, by have := S.rl; omega, ?_⟩
  rw [← S.res, rdS_more hf hk h64]

set_option maxRecDepth 20000 in
set_option maxHeartbeats 4000000 in
theorem read_c (w : World) {v : Value} {b : List Nat} (hr : Rd w v (bv b)) (hb : By b) (hl : b.length ≤ 4194304) :
    Calls Tryz.prog 10 #[v] w fun e w' => ∃ v', e = .returned (.tuple #[v', .int .i64 ((readL b).2 : Int)]) ∧ OwnL w' w.heap.size v' (readL b).1 ∧ Fr [] w w' := by
  obtain ⟨a, c, hv⟩ := hr.form
  rw [bv_len] at hv
  subst hv
  have HR := hid hr
  have HB := hid hb
  clear hr hb
  have A0 : Hid (RdSt w (w.alloc (.cells #[.slice none 0 0] 22)) b (.slice none 0 0) [] [] false 0 0 (b.length + 1)) :=
    ⟨⟨.slice none 0 0, [], blk_new _ _, World.ownsRow_nil _ _ _ _, World.ownsRow_nil _ _ _ _, Lst.nil _ _ _⟩, (Fr.refl _ _).alloc _, fun x hx => (by cases hx), Nat.zero_le _, (by omega), Nat.le_refl _, Nat.le_refl _, rfl⟩
  go_enter Tryz.func10, Tryz.ntmps10
  go_wp2_with fail
  go_step3
  go_wp2_with fail
  go_step3
  go_wp2_with fail
  go_loopw [4, 7, 8, 9] (fun v4 v7 v8 v9 wr => ∃ (rs : List (List Nat)) (acc : List Nat) (bg : Bool) (t en f : Nat), v7 = .bool bg ∧ v8 = .int .i64 (t : Int) ∧ v9 = .int .i64 (en : Int) ∧ RdSt w wr b v4 rs acc bg t en f) (fun _ _ v8 _ _ => b.length - (intOf v8).toNat)
  case atStart => exact ⟨[], [], false, 0, 0, b.length + 1, rfl, rfl, rfl, A0.out⟩
  case round =>
    obtain ⟨rs, acc, bg, t, en, f, rfl, rfl, rfl, S⟩ := hrel
    have HS := hid S
    have ht := S.tb
    clear S
    rcases hf : fnd b t with _ | ⟨k, d, e⟩
    · have FC := hid (find_c wr (HR.out.fr HS.out.fr) HB.out ht hl)
      rw [hf] at FC
      have HF := hid hf
      clear hf
      go_wp2_with fail
      refine FC.out.mono ?_
      rintro r w1 ⟨hr1, f1⟩
      have hr1' : r = .returned (.tuple #[.agg #[.int .u8 0, .slice none 0 0, .int .i64 0], .bool false]) := hr1
      subst hr1'
      have F1 := hid f1
      clear hr1 f1
      go_wp2
      rw [Exit.noGoto_ret]
      go_ret2
      exact ret_read (HS.out.stop (rdS_stop HF.out)) ((HS.out.mid.fr' F1.out).fr' ((Fr.refl _ _).alloc _))
    · have FC := hid (find_c wr (HR.out.fr HS.out.fr) HB.out ht hl)
      rw [hf] at FC
      have he := fnd_end hf
      have hal := HS.out.al
      have hdl : acc.length + d.length ≤ 4194304 := by omega
      have hkb : k < 256 := by
        obtain ⟨s, n, h1, h2, h3, h4, h5, h6, h7, h8, h9, h10⟩ := fnd_some hf
        rw [h9, List.getD_eq_getElem?_getD, List.getElem?_eq_getElem (by omega)]
        exact HB.out _ (List.getElem_mem _)
      have HF := hid hf
      clear hf
      go_wp2_with fail
      refine FC.out.mono ?_
      rintro r w1 ⟨⟨a1, c1, rfl, r1⟩, f1⟩
      have M1 := hid ((HS.out.mid.fr' f1).fr' ((Fr.refl _ _).alloc (.cells #[.int .u8 (k : Int), .slice a1 d.length c1, .int .i64 (e : Int)] 68)))
      have R1 := hid ((r1.fr f1).fr ((Fr.refl _ _).alloc (.cells #[.int .u8 (k : Int), .slice a1 d.length c1, .int .i64 (e : Int)] 68)))
      have hP := blk_new w1 (.cells #[.int .u8 (k : Int), .slice a1 d.length c1, .int .i64 (e : Int)] 68)
      have HP := hid hP
      have hPs : w.heap.size < w1.heap.size := by have := M1.out.st; obtain ⟨av, cs, h1, _⟩ := HS.out.st; have := blk_lt h1; have := f1.size; omega
      clear r1 f1 hP
      go_wp2_with fail
      refine (gather_mid M1.out R1.out hdl).mono ?_
      rintro r w2 ⟨rfl, m2, f2, hk2⟩
      have hP2 : w2.heap[w1.heap.size]? = some (.cells #[.int .u8 (k : Int), .slice a1 d.length c1, .int .i64 (e : Int)] 68 (0, 0)) := by
        rw [hk2 w1.heap.size hPs (by simp) (fun c T h => by rw [HP.out] at h; simp at h; rw [← h.2]; decide)]; exact HP.out
      have p0 := blk_cell hP2 0
      have p1 := blk_cell hP2 1
      have p2 := blk_cell hP2 2
      simp at p0 p1 p2
      obtain ⟨av, cs, h1, h2, h3, h4⟩ := m2.st
      obtain ⟨a5, c5, hav, _⟩ := ownsRow_slice h2
      obtain ⟨L, hL⟩ : ∃ L, L = (acc ++ d).length := ⟨_, rfl⟩
      rw [← hL] at hav
      subst hav
      clear hL
      have r0 := blk_cell h1 0
      have rz := blk_frozen h1 0
      simp at r0
      have M2 := hid m2
      have H1 := hid h1
      have H2 := hid h2
      have H3 := hid h3
      have H4 := hid h4
      have hbd : By d := by
        obtain ⟨s, n, _, _, _, _, _, _, _, _, _, h10⟩ := fnd_some HF.out
        rw [h10]; exact (HB.out.drop _).take _
      have HBD := hid hbd
      have hsz2 : w.heap.size + 1 ≤ w2.heap.size := blk_lt h1
      have hrl := HS.out.rl
      obtain ⟨he1, he2, he3, he4⟩ := he
      clear m2 f2 hk2 hP2 h1 h2 h3 h4 hbd FC M1 R1 HP
      by_cases hkk : k = kd bg true
      · have TK := hid (fun w' v5 => HS.out.take (w' := w') (v5 := v5) HF.out hkk)
        have H3' : Hid ((w2.alloc (.cells #[.slice a5 L c5] 22)).ownsRow (w.heap.size + 1) 22 1 u4 rs.length cs) := ownsRow_fr H3.out ((Fr.refl _ _).alloc _)
        have hbw2 : w.heap.size + 1 ≤ (w2.alloc (.cells #[.slice a5 L c5] 22)).heap.size := by simp; omega
        have HBW2 := hid hbw2
        have GN := hid (blk_new w2 (.cells #[.slice a5 L c5] 22))
        clear hbw2
        cases bg
        · obtain rfl : k = 1 := hkk
          go_wp2_with (at_builtin; refine wpList_append_row rfl _ _ rfl _ HBW2.out _ _ _ rfl H3'.out _ rfl GN.out rfl (by omega) ?_; intro v5 w5 o5 g5 q5; have M5 := hid (RdMid.took (X := .cells #[.slice a5 L c5] 22) H1.out H2.out H3.out H4.out M2.out.fr (HS.out.by'.append HBD.out) (by rw [List.length_append]; omega) o5 g5 q5); have hR5 : w5.heap[w.heap.size]? = some (.cells #[.slice a5 L c5] 22 (0, 0)) := (by rw [g5.block _ (by simp; omega) (fun e => by have := (H3.out.lt _ e.symm).1; omega), blk_old _ _ (by omega)]; exact H1.out); have y0 := blk_cell hR5 0; have yz := blk_frozen hR5 0; simp at y0; clear o5 g5 q5 hR5)
          obtain ⟨g, S5⟩ := TK.out _ _ M5.out
          exact ⟨⟨rs ++ [acc ++ d], [], false, e, e, g, rfl, rfl, rfl, S5⟩, by simp [intOf]; omega⟩
        · obtain rfl : k = 4 := hkk
          go_wp2_with (at_builtin; refine wpList_append_row rfl _ _ rfl _ HBW2.out _ _ _ rfl H3'.out _ rfl GN.out rfl (by omega) ?_; intro v5 w5 o5 g5 q5; have M5 := hid (RdMid.took (X := .cells #[.slice a5 L c5] 22) H1.out H2.out H3.out H4.out M2.out.fr (HS.out.by'.append HBD.out) (by rw [List.length_append]; omega) o5 g5 q5); have hR5 : w5.heap[w.heap.size]? = some (.cells #[.slice a5 L c5] 22 (0, 0)) := (by rw [g5.block _ (by simp; omega) (fun e => by have := (H3.out.lt _ e.symm).1; omega), blk_old _ _ (by omega)]; exact H1.out); have y0 := blk_cell hR5 0; have yz := blk_frozen hR5 0; simp at y0; clear o5 g5 q5 hR5)
          obtain ⟨g, S5⟩ := TK.out _ _ M5.out
          exact ⟨⟨rs ++ [acc ++ d], [], false, e, e, g, rfl, rfl, rfl, S5⟩, by simp [intOf]; omega⟩
      · by_cases hkm : k = kd bg false ∧ e % 64 = 0
        · obtain ⟨hkm, h64⟩ := hkm
          have TM := hid (HS.out.more HF.out HBD.out hkm h64 M2.out)
          have h64' : ((e : Int) % 64 == 0) = true := by simp; omega
          clear h64 hkk
          cases bg
          · obtain rfl : k = 2 := hkm
            go_wp2
            obtain ⟨g, S5⟩ := TM.out
            exact ⟨⟨rs, acc ++ d, true, e, en, g, rfl, rfl, rfl, S5⟩, by simp [intOf]; omega⟩
          · obtain rfl : k = 3 := hkm
            go_wp2
            obtain ⟨g, S5⟩ := TM.out
            exact ⟨⟨rs, acc ++ d, true, e, en, g, rfl, rfl, rfl, S5⟩, by simp [intOf]; omega⟩
        · have ST := hid (HS.out.stop (rdS_bad HF.out hkk hkm))
          clear H1 H2 H3 H4
          have hcs : k = 1 ∨ k = 2 ∨ k = 3 ∨ k = 4 ∨ (((k : Int) == 1) = false ∧ ((k : Int) == 2) = false ∧ ((k : Int) == 3) = false ∧ ((k : Int) == 4) = false) := by
            by_cases h1 : k = 1
            · exact .inl h1
            by_cases h2 : k = 2
            · exact .inr (.inl h2)
            by_cases h3 : k = 3
            · exact .inr (.inr (.inl h3))
            by_cases h4 : k = 4
            · exact .inr (.inr (.inr (.inl h4)))
            exact .inr (.inr (.inr (.inr ⟨beq_eq_false_iff_ne.2 (by omega), beq_eq_false_iff_ne.2 (by omega), beq_eq_false_iff_ne.2 (by omega), beq_eq_false_iff_ne.2 (by omega)⟩)))
          have h6 : bg = false → k = 2 → ((e : Int) % 64 == 0) = false := fun h1 h2 => beq_eq_false_iff_ne.2 (by
            have : ¬ (e % 64 = 0) := fun h => hkm ⟨by rw [h1, h2]; rfl, h⟩
            omega)
          have h7 : bg = true → k = 3 → ((e : Int) % 64 == 0) = false := fun h1 h2 => beq_eq_false_iff_ne.2 (by
            have : ¬ (e % 64 = 0) := fun h => hkm ⟨by rw [h1, h2]; rfl, h⟩
            omega)
          have h8 : bg = false → k ≠ 1 := fun h1 h2 => hkk (by rw [h1, h2]; rfl)
          have h9 : bg = true → k ≠ 4 := fun h1 h2 => hkk (by rw [h1, h2]; rfl)
          clear hkk hkm
          cases bg
          · rcases hcs with rfl | rfl | rfl | rfl | ⟨k1, k2, k3, k4⟩
            · exact absurd rfl (h8 rfl)
            · have h6' := h6 rfl rfl
              clear h6 h7 h8 h9
              go_wp2
              rw [Exit.noGoto_ret]
              go_ret2
              exact ret_read ST.out M2.out
            all_goals
              clear h6 h7 h8 h9
              go_wp2
              rw [Exit.noGoto_ret]
              go_ret2
              exact ret_read ST.out M2.out
          · rcases hcs with rfl | rfl | rfl | rfl | ⟨k1, k2, k3, k4⟩
            rotate_left 3
            · exact absurd rfl (h9 rfl)
            rotate_left 3
            · have h7' := h7 rfl rfl
              clear h6 h7 h8 h9
              go_wp2
              rw [Exit.noGoto_ret]
              go_ret2
              exact ret_read ST.out M2.out
            all_goals
              clear h6 h7 h8 h9
              go_wp2
              rw [Exit.noGoto_ret]
              go_ret2
              exact ret_read ST.out M2.out
end Go.Proofs.YtegbngbhmgbocaaGreatDoor
namespace Go.Proofs.YtegbngbhmgbocaaGreatDoor
open Go.ChangeShapes Go.WideShapes Go.ChangeAt Go.RowKit

theorem str_key : strOf (keyL [] 1 1) = ⟨#[1, 1, 0, 0, 0, 0, 0, 0]⟩ := by decide
theorem crc_known : crc [49, 50, 51, 52, 53, 54, 55, 56, 57] = 3808858755 := by decide +kernel
theorem put_known : putL 300 = [172, 2] := by rw [putL_ge (by omega), putL_lt (by omega)]
theorem str_put : strOf [172, 2] = ⟨#[172, 2]⟩ := by decide

theorem beq_str (s t : ByteArray) : (s.toList == t.toList) = decide (s = t) := by
  by_cases h : s = t
  · subst h; simp
  · have : s.toList ≠ t.toList := fun e => h (by
      cases s with | mk a => cases t with | mk b =>
      have h1 : a.toList = b.toList := by simpa [ByteArray.toList_eq] using e
      rw [Array.toList_inj.1 h1])
    simp [this, h]

end Go.Proofs.YtegbngbhmgbocaaGreatDoor
namespace Go.Proofs.YtegbngbhmgbocaaGreatDoor
open Go.ChangeShapes Go.WideShapes Go.ChangeAt Go.RowKit

theorem known_log : logL 0 [[97, 98]] = appL 0 [97, 98] := by simp [logL]
theorem known_len : (appL 0 [97, 98]).length = 9 := by rw [appL_len]; decide
theorem known_read : readL (appL 0 [97, 98]) = ([[97, 98]], 9) := by
  have h := read_log (rs := [[97, 98]]) (fun r hr => by simp at hr; subst hr; unfold By; decide)
  rw [known_log, known_len] at h
  exact h
theorem str_ab : strOf [97, 98] = ⟨#[97, 98]⟩ := by decide

end Go.Proofs.YtegbngbhmgbocaaGreatDoor
namespace Go.Proofs.YtegbngbhmgbocaaGreatDoor
open Go.ChangeShapes Go.WideShapes Go.ChangeAt Go.RowKit

/-- append(nil, make([]byte, n)...). -/
theorem zeros_run (w : World) {n : Nat} (h0 : 0 < n) (h6 : n ≤ 100000) (ty : TypeId) : ∃ v' w', (Builtin.append_ #[22, 3] ty #[.slice none 0 0, .int .i64 (n : Int)]).run Tryz.prog w = .ok v' w' ∧ w'.ownsRow w.heap.size 5 1 v' n (bv (List.replicate n 0)) ∧ Fr [] w w' := by
  obtain ⟨i0, hi, hz0, hz1, hz2⟩ := info_parts infoB
  have h := Lib.run_append_nil_zeros (P := Tryz.prog) w 22 3 ty 5 i0 (.int .u8 0) .i64 .i64 Tryz.underlying22 Tryz.underlying3 hi hz0 n h0 (by rw [hz1]; omega) (by omega) (by rw [hz2]; omega)
  have hge : n ≤ grownCap w n 0 5 := grownCap_ge w _ _ _
  have hle : grownCap w n 0 5 ≤ maxLen := grownCap_le_maxLen w n 0 _ (by unfold maxLen; omega)
  refine ⟨_, _, h, ⟨by rw [bv_len, List.length_replicate, Nat.mul_one], .inr ⟨w.heap.size, _, _, rfl, Nat.le_refl _, blk_new w.drew _, hge, hle, ?_, ?_⟩⟩, ((Fr.refl [] w).drew).alloc _⟩
  · simp only [Array.size_append, size_zeroCells, Value.cells]
    simp; omega
  · have hz : ∀ m, (Builtin.zeroCells (Value.int .u8 0).cells m).toList = bv (List.replicate m 0) := fun m => by
      rw [← made_zero m]
      unfold madeCells Builtin.zeroCells
      simp [Value.cells]
    rw [Array.toList_append, hz, hz, ← bv_append, ← bv_take, Nat.mul_one, List.take_left' (List.length_replicate)]

/-- What a round of the document's Append leaves to be laid down. -/
structure ApSt (w wr : World) (A : List Nat) (v1 v6 : Value) (p : Nat) (bg : Bool) (rs : List Nat) : Prop where
  ex : ∃ (xs : List Nat) (f : Nat) (a : Option Addr) (c : Nat), v1 = .slice a rs.length c ∧ rs.length + (if lf p = 7 then 1 else 0) < f ∧ A = xs ++ (List.replicate (zr p) 0 ++ frs f bg (lf p) rs) ∧ wr.ownsRow w.heap.size 5 1 v6 xs.length (bv xs) ∧ (64 - p < 7 → v6 = .slice none 0 0 ∧ xs = [])
  rd : Rd w v1 (bv rs)
  by' : By rs
  fr : Fr [] w wr

/-- What holds at a round's beginning. -/
def ApRel (w : World) (A : List Nat) (n : Nat) (v0 v1 v6 v7 : Value) (wr : World) : Prop := ∃ (p : Nat) (bg : Bool) (rs : List Nat), p < 64 ∧ v0 = .int .i64 (p : Int) ∧ v7 = .bool bg ∧ rs.length ≤ n ∧ ApSt w wr A v1 v6 p bg rs
def apMes (v0 v1 : Value) : Nat := slLen v1 + (if intOf v0 = 0 then 0 else 1)
end Go.Proofs.YtegbngbhmgbocaaGreatDoor
namespace Go.Proofs.YtegbngbhmgbocaaGreatDoor
open Go.ChangeShapes Go.WideShapes Go.ChangeAt Go.RowKit

end Go.Proofs.YtegbngbhmgbocaaGreatDoor
