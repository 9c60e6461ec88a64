/-
  Package block: a line's entry; read.
-/
import Derived.Test.YtobdegmlijnogaaJ16
namespace Go.Proofs.Ytobdegmlijnogaa
open Go.ChangeShapes Go.WideShapes Go.ChangeAt Go.RowKit

theorem sizeKV : (Try.prog.info? 41).map (·.size) = some 2 := by kernel_rfl
theorem sizeCo : (Try.prog.info? 129).map (·.size) = some 2 := by kernel_rfl
/-- An entry of its own memory. -/
structure EnT (w w' : World) (k v : List Nat) (kv vv : Value) : Prop where
  ok : w'.ownsRow w.heap.size 5 1 kv k.length (bv k)
  ov : w'.ownsRow w.heap.size 5 1 vv v.length (bv v)
  fr : Fr [] w w'
theorem EnT.set {w X : World} {k v : List Nat} {kv vv : Value} (h : EnT w X k v kv vv) {R : Nat} (hR : w.heap.size ≤ R) (z1 : kv.ownBlock ≠ some R) (z2 : vv.ownBlock ≠ some R) (j : Nat) (x : Value) : EnT w (X.setCell ⟨R, j, none⟩ x) k v kv vv :=
  ⟨ownsRow_of_block h.ok fun q hq => blk_setne _ _ _ (fun e => by subst e; exact z1 hq), ownsRow_of_block h.ov fun q hq => blk_setne _ _ _ (fun e => by subst e; exact z2 hq), h.fr.set _ _ (.inr hR)⟩
set_option maxRecDepth 20000 in
set_option maxHeartbeats 6400000 in
theorem entry_c (w : World) {p s : Int} {ka va : Option Addr} {kc vc : Nat} {k v : List Nat} (rk : Rd w (.slice ka k.length kc) (bv k)) (rv : Rd w (.slice va v.length vc) (bv v)) (hk : k.length ≤ 1000000000) (hv : v.length ≤ 1000000000) :
    Calls Try.prog 80 #[.agg #[.int .i64 p, .int .i64 s, .slice ka k.length kc, .slice va v.length vc]] w fun e w' => ∃ kv vv, e = .returned (.agg #[kv, vv]) ∧ EnT w w' k v kv vv := by
  obtain ⟨W, hW⟩ : ∃ W, W = ((w.alloc (.cells #[.int .i64 p, .int .i64 s, .slice ka k.length kc, .slice va v.length vc] 133)).alloc (.cells #[.slice none 0 0, .slice none 0 0] 41)).drew := ⟨_, rfl⟩
  have FA : Hid (Fr [] w W) := by refine hid ?_; rw [hW]; exact (((Fr.refl [] w).alloc _).alloc _).drew
  have X0 : W.heap[w.heap.size]? = some (.cells #[.int .i64 p, .int .i64 s, .slice ka k.length kc, .slice va v.length vc] 133 (0, 0)) := by
    rw [hW, blk_drew, blk_old _ _ (by simp)]; exact blk_new _ _
  have HR : Hid (W.heap[w.heap.size + 1]? = some (.cells #[.slice none 0 0, .slice none 0 0] 41 (0, 0))) := by
    refine hid ?_
    rw [hW, blk_drew]; exact new_at _ _ (by simp)
  have hsz : w.heap.size + 1 < W.heap.size := blk_lt HR.out
  have SK : Hid (∀ w', Fr [] W w' → w'.cell? ⟨w.heap.size, 2, none⟩ = some (.slice ka k.length kc) ∧ w'.cell? ⟨w.heap.size, 3, none⟩ = some (.slice va v.length vc)) := hid fun w' f => by
    have hx := f.at X0 (by simp)
    exact ⟨by rw [blk_cell hx]; rfl, by rw [blk_cell hx]; rfl⟩
  have SY : Hid (∀ w' j x j' x', Fr [] W w' → ((w'.setCell ⟨w.heap.size + 1, j, none⟩ x).setCell ⟨w.heap.size + 1, j', none⟩ x').cell? ⟨w.heap.size, 2, none⟩ = some (.slice ka k.length kc) ∧ ((w'.setCell ⟨w.heap.size + 1, j, none⟩ x).setCell ⟨w.heap.size + 1, j', none⟩ x').cell? ⟨w.heap.size, 3, none⟩ = some (.slice va v.length vc)) := hid fun w' j x j' x' f => by
    have hx : ((w'.setCell ⟨w.heap.size + 1, j, none⟩ x).setCell ⟨w.heap.size + 1, j', none⟩ x').heap[w.heap.size]? = some (.cells #[.int .i64 p, .int .i64 s, .slice ka k.length kc, .slice va v.length vc] 133 (0, 0)) := by rw [blk_setne _ _ _ (by omega), blk_setne _ _ _ (by omega)]; exact f.at X0 (by simp)
    exact ⟨by rw [blk_cell hx]; rfl, by rw [blk_cell hx]; rfl⟩
  have RK := hid rk
  have RV := hid rv
  clear rk rv X0
  go_enter Try.func80, Try.ntmps80
  go_upto_region 1 with fail
  refine wp_region_held_drew (S := fun w' => w'.cell? ⟨w.heap.size, 2, none⟩ = some (.slice ka k.length kc) ∧ w'.cell? ⟨w.heap.size, 3, none⟩ = some (.slice va v.length vc)) (by kernel_rfl) (by rw [← hW]; exact SK.out _ (Fr.refl _ _)) (fun hS => ?_)
  rw [← hW] at hS ⊢
  clear hW
  refine wpAnyH_take (i := 0) (v := .pointer (some ⟨w.heap.size, 2, none⟩)) rfl (by kernel_rfl) (by kernel_rfl) (by kernel_rfl) (fun _ _ _ h => h) (.inl ⟨by rfl, fun wx _ => by go_simp⟩) hS ?_
  simp only [Act.put]
  refine wpAnyH_take (i := 1) (v := .slice ka k.length kc) rfl (by kernel_rfl) (by kernel_rfl) (by kernel_rfl) (fun _ _ _ h => h) (.inl ⟨by rfl, fun wx hX => by obtain ⟨x0, x1⟩ := hX; go_simp⟩) hS ?_
  simp only [Act.put]
  refine wpAnyH_take (i := 3) (v := .pointer (some ⟨w.heap.size, 3, none⟩)) rfl (by kernel_rfl) (by kernel_rfl) (by kernel_rfl) (fun _ _ _ h => h) (.inl ⟨by rfl, fun wx _ => by go_simp⟩) hS ?_
  simp only [Act.put]
  refine wpAnyH_take (i := 4) (v := .slice va v.length vc) rfl (by kernel_rfl) (by kernel_rfl) (by kernel_rfl) (fun _ _ _ h => h) (.inl ⟨by rfl, fun wx hX => by obtain ⟨x0, x1⟩ := hX; go_simp⟩) hS ?_
  simp only [Act.put]
  clear hS
  refine wpAnyH_ready (rs := [2]) (by kernel_rfl) (by simp) ?_
  refine AllReadyH.cons rfl (fun K hK => ?_) AllReadyH.nil
  go_simp
  refine (clone_c (w := W) (RK.out.fr FA.out) (by omega)).mono ?_
  rintro e' w4 ⟨ck, rfl, ok, fk⟩
  have F4 := hid (FA.out.trans fk)
  obtain ⟨ak, qk, rfl, _⟩ := ownsRow_slice ok
  refine hK.out _ _ (SK.out _ fk) (fun _ => ?_)
  clear hK K
  refine wpAnyH_ready (rs := [5]) (by kernel_rfl) (by simp) ?_
  refine AllReadyH.cons rfl (fun K hK => ?_) AllReadyH.nil
  go_simp
  refine (clone_c (w := w4) (RV.out.fr F4.out) (by omega)).mono ?_
  rintro e' w5 ⟨cv, rfl, ov, fv⟩
  obtain ⟨av, qv, rfl, _⟩ := ownsRow_slice ov
  have s4 : W.heap.size ≤ w4.heap.size := fk.size
  have T5 : EnT w w5 k v (.slice ak k.length qk) (.slice av v.length qv) := ⟨ownsRow_base (ownsRow_fr ok fv) (by omega), ownsRow_base ov (by omega), F4.out.trans fv⟩
  have n1 : (Value.slice ak k.length qk).ownBlock ≠ some (w.heap.size + 1) := fun e => by have := (ok.lt _ e).1; omega
  have n2 : (Value.slice av v.length qv).ownBlock ≠ some (w.heap.size + 1) := fun e => by have := (ov.lt _ e).1; omega
  have HR5 := fv.at (fk.at HR.out (by simp)) (by simp)
  have y0 : w5.cell? ⟨w.heap.size + 1, 0, none⟩ = some (.slice none 0 0) := by rw [blk_cell HR5]; rfl
  have y1 : w5.cell? ⟨w.heap.size + 1, 1, none⟩ = some (.slice none 0 0) := by rw [blk_cell HR5]; rfl
  have yz := blk_frozen HR5
  have HRB : Hid (((w5.setCell ⟨w.heap.size + 1, 0, none⟩ (.slice ak k.length qk)).setCell ⟨w.heap.size + 1, 1, none⟩ (.slice av v.length qv)).heap[w.heap.size + 1]? = some (.cells #[.slice ak k.length qk, .slice av v.length qv] 41 (0, 0))) := by
    refine hid ?_
    rw [blk_set (blk_set HR5 0 _)]; rfl
  have TF := hid ((T5.set (by omega) n1 n2 0 (.slice ak k.length qk)).set (by omega) n1 n2 1 (.slice av v.length qv))
  have S5 := hid (SK.out _ (fk.trans fv))
  have S6 := hid (SY.out w5 0 (.slice ak k.length qk) 1 (.slice av v.length qv) (fk.trans fv))
  clear ok ov fk fv HR5 T5 n1 n2 SY SK
  refine hK.out _ _ S5.out (fun _ => ?_)
  clear hK K
  refine wpAnyH_ready (rs := [6]) (by kernel_rfl) (by simp) ?_
  refine AllReadyH.cons rfl (fun K hK => ?_) AllReadyH.nil
  go_simp
  refine hK.out _ _ S5.out (fun _ => ?_)
  clear hK K
  refine wpAnyH_ready (rs := [7]) (by kernel_rfl) (by simp) ?_
  refine AllReadyH.cons rfl (fun K hK => ?_) AllReadyH.nil
  go_simp
  refine hK.out _ _ S6.out (fun _ => ?_)
  clear hK K y0 y1 yz
  refine wpAnyH_done (by kernel_rfl) ?_ _
  have r0 := blk_cell HRB.out 0
  have r1 := blk_cell HRB.out 1
  generalize (w5.setCell ⟨w.heap.size + 1, 0, none⟩ (.slice ak k.length qk)).setCell ⟨w.heap.size + 1, 1, none⟩ (.slice av v.length qv) = w6 at *
  simp at r0 r1
  go_wp2
  refine bodyPost_ret (v := .agg #[.slice ak k.length qk, .slice av v.length qv]) (results_cell_row rfl _ w6 (w.heap.size + 1) 41 _ (0, 0) _ (by simp) HRB.out Try.underlying41 rfl sizeKV) rfl ⟨_, _, rfl, TF.out⟩

/-- What is told of bytes that may be a block. -/
structure RdB (w w' : World) (b : List Nat) (lv : Value) (r : Nat) (ls : List Ln) : Prop where
  blk : Blk b (psL ls) r
  col : ColN w' w.heap.size lv ls
  ok : ∀ x ∈ ls, OkLn x
  len : ls.length ≤ b.length
theorem blk_lens {b : List Nat} {ps : Ps} {r : Nat} (B : Blk b ps r) (hb : b.length ≤ 1000000000) : ps.length < 1073741824 ∧ (bod r ps ps.length).length < 1073741824 := by
  have h1 : ∀ i, i ≤ (bod r ps i).length := by
    intro i
    induction i with
    | zero => simp
    | succ i ih => have := bod_lt r ps (i := i) (j := i + 1) (by omega); omega
  have h2 := h1 ps.length
  have h3 : (Go.Proofs.Ytobdegmlijnogaa.blk r ps).length = b.length := by rw [B.eq]
  unfold Go.Proofs.Ytobdegmlijnogaa.blk at h3
  rw [List.length_append] at h3
  omega
theorem no_half {b : List Nat} (hb : b.length ≤ 1000000000) (h : halfL b = none) : ∀ ps r, ¬ Blk b ps r := fun ps r B => by
  have := read_blk B (blk_lens B hb).1 (by have := (blk_lens B hb).2; omega) (f := (bod r ps ps.length).length + 1) (by omega)
  rw [h] at this
  cases this.1
theorem no_lines {b : List Nat} (hb : b.length ≤ 1000000000) {k : Nat} (h : halfL b = some k) (hk : k + 4 ≤ b.length) (hl : linesF ((bodL b k).length + 1) (bodL b k) 0 [] = none) : ∀ ps r, ¬ Blk b ps r := fun ps r B => by
  have := read_blk B (blk_lens B hb).1 (by have := (blk_lens B hb).2; omega) (f := (bodL b k).length + 1)
  rw [h] at this
  have hkl : (bodL b k).length = k := by unfold bodL; rw [List.length_take]; omega
  have h0 := read_blk B (blk_lens B hb).1 (by have := (blk_lens B hb).2; omega) (f := (bod r ps ps.length).length + 1) (by omega)
  rw [h, Option.some.injEq] at h0
  have h1 := this (by rw [hkl, h0.1]; omega)
  rw [← h0.1, hl] at h1
  cases h1.2.1
theorem no_good {b : List Nat} (hb : b.length ≤ 1000000000) {k c : Nat} {ls : List Ln} (h : halfL b = some k) (hk : k + 4 ≤ b.length) (hl : linesF ((bodL b k).length + 1) (bodL b k) 0 [] = some ls) (hr : RsO ls (plcL b k) c) (hg : ¬ Good c ls (plcL b k)) : ∀ ps r, ¬ Blk b ps r := fun ps r B => by
  have hkl : (bodL b k).length = k := by unfold bodL; rw [List.length_take]; omega
  have h0 := read_blk B (blk_lens B hb).1 (by have := (blk_lens B hb).2; omega) (f := (bod r ps ps.length).length + 1) (by omega)
  rw [h, Option.some.injEq] at h0
  have h1 := read_blk B (blk_lens B hb).1 (by have := (blk_lens B hb).2; omega) (f := (bodL b k).length + 1) (by rw [hkl, h0.1]; omega)
  rw [← h0.1, hl, Option.some.injEq] at h1
  exact hg (by rw [h1.2.1]; exact h1.2.2 c (by rw [← h1.2.1]; exact hr))
end Go.Proofs.Ytobdegmlijnogaa
namespace Go.Proofs.Ytobdegmlijnogaa
open Go.ChangeShapes Go.WideShapes Go.ChangeAt Go.RowKit

theorem half_short {b : List Nat} (h : b.length < 4) : halfL b = none := by unfold halfL; rw [if_neg (fun x => by omega)]
theorem ColN.rd_keep {W W' : World} {B : Nat} {v : Value} {ls : List Ln} (h : ColN W B v ls) (hb : ∀ k, v.ownBlock = some k → W'.heap[k]? = W.heap[k]?) (hu : ∀ k, U8 W k → W'.heap[k]? = W.heap[k]?) : RdN W' v ls := by
  obtain ⟨_, cs, o', h2⟩ := h
  have o := ownsRow_of_block o' hb
  rcases o.2 with ⟨rfl, h0⟩ | ⟨g, cap, cur, rfl, _, h3, h4, h5⟩
  · have : ls = [] := List.eq_nil_of_length_eq_zero h0
    subst this
    exact ⟨none, 0, rfl, fun h => by simp at h⟩
  · refine ⟨_, cap, rfl, fun _ => ⟨g, 0, rfl, fun j p hj => ?_⟩⟩
    obtain ⟨ka, kc, va, vc, ⟨c0, c1, c2, c3⟩, r0, r1, _⟩ := h2 j p hj
    have d0 := o.cells rfl _ _ c0
    have d1 := o.cells rfl _ _ c1
    have d2 := o.cells rfl _ _ c2
    have d3 := o.cells rfl _ _ c3
    rw [Addr.add_lit] at d0 d1 d2 d3
    refine ⟨ka, kc, va, vc, d0, ?_, ?_, ?_, r0.keep hu, r1.keep hu⟩
    · rw [show 0 + j * 4 + 1 = 0 + (j * 4 + 1) from by omega]; exact d1
    · rw [show 0 + j * 4 + 2 = 0 + (j * 4 + 2) from by omega]; exact d2
    · rw [show 0 + j * 4 + 3 = 0 + (j * 4 + 3) from by omega]; exact d3
/-- What is told of bytes that are a block. -/
structure RdB2 (w' : World) (b : List Nat) (lv : Value) (r : Nat) (ls : List Ln) : Prop where
  blk : Blk b (psL ls) r
  rd : RdN w' lv ls
  ok : ∀ x ∈ ls, OkLn x
  len : ls.length ≤ b.length
set_option maxRecDepth 20000 in
set_option maxHeartbeats 6400000 in
theorem read_c (w : World) {v : Value} {b : List Nat} (hr : Rd w v (bv b)) (hb : By b) (hl : b.length ≤ 1000000000) :
    Calls Try.prog 79 #[v] w fun e w' => ((∃ la ln lc r, e = .returned (.tuple #[.agg #[.slice la ln lc, .int .i64 r], .bool false]) ∧ ∀ ps r, ¬ Blk b ps r) ∨ ∃ ls la lc r, e = .returned (.tuple #[.agg #[.slice la ls.length lc, .int .i64 ((r : Nat) : Int)], .bool true]) ∧ RdB2 w' b (.slice la ls.length lc) r ls) ∧ Fr [] w w' := by
  obtain ⟨W1, hW1⟩ : ∃ W, W = w.alloc (.cells #[.slice none 0 0, .int .i64 0] 129) := ⟨_, rfl⟩
  have FW1 : Hid (Fr [] w W1) := by refine hid ?_; rw [hW1]; exact (Fr.refl _ _).alloc _
  have R1 : Hid (W1.heap[w.heap.size]? = some (.cells #[.slice none 0 0, .int .i64 0] 129 (0, 0))) := by refine hid ?_; rw [hW1]; exact blk_new _ _
  have HR := hid hr
  have HB := hid hb
  by_cases h4 : b.length < 4
  · have HC := hid (halves_short W1 (HR.out.fr FW1.out) h4)
    have HNO := hid (no_half hl (half_short h4))
    obtain ⟨a, c, hv⟩ := hr.form
    rw [bv_len] at hv
    subst hv
    clear hr hb
    generalize b.length = n at *
    go_enter Try.func79, Try.ntmps79
    go_wp2_with fail
    rw [← hW1]
    clear hW1
    refine HC.out.mono ?_
    rintro e W2 ⟨rfl, f2⟩
    have F2 := hid f2
    clear f2 HC
    have rr := F2.out.at R1.out (by simp)
    have q0 : W2.cell? ⟨w.heap.size, 0, none⟩ = some (.slice none 0 0) := by rw [blk_cell rr]; rfl
    have q1 : W2.cell? ⟨w.heap.size, 1, none⟩ = some (.int .i64 0) := by rw [blk_cell rr]; rfl
    have qf := blk_frozen rr
    have FRR := hid (FW1.out.trans F2.out)
    clear rr
    go_wp2
    refine bodyPost_ret (v := .tuple #[.agg #[.slice none 0 0, .int .i64 0], .bool false]) (by rw [results_cell_tmp rfl]; go_simp) rfl ⟨.inl ⟨none, 0, 0, 0, rfl, HNO.out⟩, ?_⟩
    exact (FRR.out.set _ _ (.inr (Nat.le_refl _))).set _ _ (.inr (Nat.le_refl _))
  · obtain ⟨q, o, c, hv, hbc⟩ := hr.place (by omega)
    subst hv
    have HC := hid (halves_c W1 (HR.out.fr FW1.out) hb (by omega) hl hbc)
    have hqw : q < w.heap.size := by
      rcases hr.split with ⟨e, _⟩ | ⟨b', o', c', e, _, _, g⟩
      · rw [e] at h4; simp at h4
      · simp only [Value.slice.injEq, Option.some.injEq, Addr.mk.injEq] at e
        obtain ⟨⟨rfl, _⟩, _⟩ := e
        obtain ⟨x, hx⟩ : ∃ x, b[0]? = some x := ⟨_, List.getElem?_eq_getElem (by omega)⟩
        exact World.block_lt_of_cell? w _ (g 0 x hx)
    clear hr hb
    generalize hbn : b.length = n at *
    have HBN := hid hbn
    clear hbn
    go_enter Try.func79, Try.ntmps79
    go_wp2_with fail
    rw [← hW1]
    clear hW1
    refine HC.out.mono ?_
    rintro e W2 ⟨hcase, f2⟩
    have F2 := hid f2
    clear f2 HC
    rcases hcase with ⟨hno, rfl⟩ | ⟨k, hk, hk4, rfl⟩
    · have HNO := hid (no_half (by rw [HBN.out]; exact hl) hno)
      clear hno
      have rr := F2.out.at R1.out (by simp)
      have q0 : W2.cell? ⟨w.heap.size, 0, none⟩ = some (.slice none 0 0) := by rw [blk_cell rr]; rfl
      have q1 : W2.cell? ⟨w.heap.size, 1, none⟩ = some (.int .i64 0) := by rw [blk_cell rr]; rfl
      have qf := blk_frozen rr
      have FRR := hid (FW1.out.trans F2.out)
      clear rr
      go_wp2
      refine bodyPost_ret (v := .tuple #[.agg #[.slice none 0 0, .int .i64 0], .bool false]) (by rw [results_cell_tmp rfl]; go_simp) rfl ⟨.inl ⟨none, 0, 0, 0, rfl, HNO.out⟩, ?_⟩
      exact (FRR.out.set _ _ (.inr (Nat.le_refl _))).set _ _ (.inr (Nat.le_refl _))
    · have HK := hid hk
      have hkl : (bodL b k).length = k := by unfold bodL; rw [List.length_take, HBN.out]; omega
      have hpl : (plcL b k).length = n - 4 - k := by unfold plcL; rw [List.length_take, List.length_drop, HBN.out]; omega
      have HKL := hid (And.intro hkl hpl)
      have RB : Hid (Rd w (.slice (some ⟨q, o, none⟩) k c) (bv (bodL b k))) := by
        refine hid ?_
        have h0 := HR.out
        rw [← HBN.out] at h0
        exact h0.front (q := k) (by rw [HBN.out]; omega)
      have RP : Hid (Rd w (.slice (some ⟨q, o + k, none⟩) (n - 4 - k) (c - k)) (bv (plcL b k))) := by
        refine hid ?_
        have h0 := HR.out
        rw [← HBN.out] at h0
        have := h0.mid (i := k) (n := b.length - 4 - k) (by rw [HBN.out]; omega)
        rw [HBN.out] at this
        unfold plcL
        rw [HBN.out]
        exact this
      have TL := takeLines_c W2 (q := q) (o := o) (c := c) (all := bodL b k) (by rw [hkl]; exact (RB.out.fr FW1.out).fr F2.out) (HB.out.take k) (by rw [hkl]; omega) (by rw [hkl]; omega) (by have := FW1.out.size; have := F2.out.size; omega)
      have hk1 := hkl
      rw [hkl] at TL
      have HTL := hid TL
      clear TL hk hkl hpl hk1
      generalize hpn : n - 4 - k = np at *
      go_wp2_with fail
      refine HTL.out.mono ?_
      rintro e W3 ⟨hcase, f3⟩
      have F3 := hid (F2.out.trans f3)
      clear f3 HTL
      rcases hcase with ⟨hno, rfl⟩ | ⟨ls, lv, hls, rfl, col, ok, hlen⟩
      · have HNO := hid (no_lines (by rw [HBN.out]; exact hl) HK.out (by rw [HBN.out]; exact hk4) (by rw [HKL.out.1]; exact hno))
        clear hno
        have rr := F3.out.at R1.out (by simp)
        have q0 : W3.cell? ⟨w.heap.size, 0, none⟩ = some (.slice none 0 0) := by rw [blk_cell rr]; rfl
        have q1 : W3.cell? ⟨w.heap.size, 1, none⟩ = some (.int .i64 0) := by rw [blk_cell rr]; rfl
        have qf := blk_frozen rr
        have FRR := hid (FW1.out.trans F3.out)
        clear rr
        go_wp2
        refine bodyPost_ret (v := .tuple #[.agg #[.slice none 0 0, .int .i64 0], .bool false]) (by rw [results_cell_tmp rfl]; go_simp) rfl ⟨.inl ⟨none, 0, 0, 0, rfl, HNO.out⟩, ?_⟩
        exact (FRR.out.set _ _ (.inr (Nat.le_refl _))).set _ _ (.inr (Nat.le_refl _))
      · have HLS := hid hls
        have RN := col.rd
        obtain ⟨la, lc, rfl, _⟩ := col.rd
        have HRN := hid RN
        have HOK := hid ok
        have hln : ls.length ≤ 1000000000 := by omega
        have RC := restartOf_c W3 (ls := ls) (pl := plcL b k) (q := q) (o := o + k) (c := c - k) RN hln (by rw [HKL.out.2]; exact (RP.out.fr FW1.out).fr F3.out) ((HB.out.drop _).take _) (by rw [HKL.out.2]; omega) (by rw [HKL.out.2]; omega)
        rw [HKL.out.2] at RC
        have HRC := hid RC
        have HCOL := hid col
        clear RC RN col hls ok
        generalize hnl : ls.length = nl at *
        have HNL := hid hnl
        clear hnl
        go_wp2_with fail
        refine HRC.out.mono ?_
        rintro e W4 ⟨r, rfl, hrs, hr9, f4⟩
        have HRS := hid hrs
        have F4 := hid (F3.out.trans f4)
        have F34 := hid f4
        clear hrs f4 HRC
        go_upto_region 8 with fail
        obtain ⟨W5, hW5⟩ : ∃ W, W = (W4.alloc (.cells #[.slice la nl lc, .int .i64 (r : Int)] 129)).drew := ⟨_, rfl⟩
        have F45 : Fr [] W4 W5 := by rw [hW5]; exact ((Fr.refl _ _).alloc _).drew
        have C5 : W5.heap[W4.heap.size]? = some (.cells #[.slice la nl lc, .int .i64 (r : Int)] 129 (0, 0)) := by rw [hW5, blk_drew]; exact blk_new _ _
        have hCR : w.heap.size ≠ W4.heap.size := by have := FW1.out.size; have := F4.out.size; have := blk_lt R1.out; omega
        have F5 := hid (F4.out.trans F45)
        have SK : Hid (∀ w', Fr [] W5 w' → w'.cell? ⟨W4.heap.size, 0, none⟩ = some (.slice la nl lc) ∧ w'.cell? ⟨W4.heap.size, 1, none⟩ = some (.int .i64 (r : Int))) := hid fun w' f => by
          have hx := f.at C5 (by simp)
          exact ⟨by rw [blk_cell hx]; rfl, by rw [blk_cell hx]; rfl⟩
        have SY : Hid (∀ w' j x j' x', Fr [] W5 w' → ((w'.setCell ⟨w.heap.size, j, none⟩ x).setCell ⟨w.heap.size, j', none⟩ x').cell? ⟨W4.heap.size, 0, none⟩ = some (.slice la nl lc) ∧ ((w'.setCell ⟨w.heap.size, j, none⟩ x).setCell ⟨w.heap.size, j', none⟩ x').cell? ⟨W4.heap.size, 1, none⟩ = some (.int .i64 (r : Int))) := hid fun w' j x j' x' f => by
          have hx : ((w'.setCell ⟨w.heap.size, j, none⟩ x).setCell ⟨w.heap.size, j', none⟩ x').heap[W4.heap.size]? = some (.cells #[.slice la nl lc, .int .i64 (r : Int)] 129 (0, 0)) := by rw [blk_setne _ _ _ (fun e => hCR e.symm), blk_setne _ _ _ (fun e => hCR e.symm)]; exact f.at C5 (by simp)
          exact ⟨by rw [blk_cell hx]; rfl, by rw [blk_cell hx]; rfl⟩
        have F35 := hid (F34.out.trans F45)
        have BC : Hid (Calls Try.prog 87 #[.agg #[.slice la nl lc, .int .i64 (r : Int)], .slice (some ⟨q, o + k, none⟩) np (c - k)] W5 fun e w' => ∃ b' : Bool, e = .returned (.bool b') ∧ (b' = true ↔ Good r ls (plcL b k)) ∧ Fr [] W5 w') := by
          refine hid ?_
          by_cases h : r < 1 ∨ 64 < r
          · refine (builds_no W5 r h hr9).mono ?_
            rintro e w' ⟨rfl, f⟩
            exact ⟨false, rfl, ⟨fun h => absurd h (by simp), fun g => by have := g.1; have := g.2.1; omega⟩, f⟩
          · have h2 := builds_yes W5 (v := .slice la nl lc) (q := q) (o := o + k) (c2 := c - k) (ls := ls) (pl := plcL b k) r (by omega) (by omega) (HRN.out.fr F35.out) (by rw [HNL.out]; omega) HOK.out (by rw [HKL.out.2]; exact (RP.out.fr FW1.out).fr F5.out) ((HB.out.drop _).take _)
            rw [HKL.out.2] at h2
            exact h2
        clear C5 F45
        refine wp_region_held_drew (S := fun w' => w'.cell? ⟨W4.heap.size, 0, none⟩ = some (.slice la nl lc) ∧ w'.cell? ⟨W4.heap.size, 1, none⟩ = some (.int .i64 (r : Int))) (by kernel_rfl) (by rw [← hW5]; exact SK.out _ (Fr.refl _ _)) (fun hS => ?_)
        rw [← hW5] at hS ⊢
        clear hW5
        refine wpAnyH_take (i := 0) (v := .agg #[.slice la nl lc, .int .i64 (r : Int)]) rfl (by kernel_rfl) (by kernel_rfl) (by kernel_rfl) (fun _ _ _ h => h) (.inl ⟨by rfl, fun wx hX => by obtain ⟨x0, x1⟩ := hX; go_simp⟩) hS ?_
        simp only [Act.put]
        refine wpAnyH_take (i := 1) (v := .agg #[.slice la nl lc, .int .i64 (r : Int)]) rfl (by kernel_rfl) (by kernel_rfl) (by kernel_rfl) (fun _ _ _ h => h) (.inl ⟨by rfl, fun wx hX => by obtain ⟨x0, x1⟩ := hX; go_simp⟩) hS ?_
        simp only [Act.put]
        refine wpAnyH_take (i := 2) (v := .slice (some ⟨q, o + k, none⟩) np (c - k)) rfl (by kernel_rfl) (by kernel_rfl) (by kernel_rfl) (fun _ _ _ h => h) (.inl ⟨by rfl, fun wx _ => by go_simp⟩) hS ?_
        simp only [Act.put]
        clear hS
        refine wpAnyH_ready (rs := [3]) (by kernel_rfl) (by simp) ?_
        refine AllReadyH.cons rfl (fun K hK => ?_) AllReadyH.nil
        go_simp
        refine BC.out.mono ?_
        rintro e' W6 ⟨b', rfl, hgood, f6⟩
        have HG := hid hgood
        have F6 := hid (F5.out.trans f6)
        have F36 := hid (F35.out.trans f6)
        have rr := F6.out.at R1.out (by simp)
        have q0 : W6.cell? ⟨w.heap.size, 0, none⟩ = some (.slice none 0 0) := by rw [blk_cell rr]; rfl
        have q1 : W6.cell? ⟨w.heap.size, 1, none⟩ = some (.int .i64 0) := by rw [blk_cell rr]; rfl
        have qf := blk_frozen rr
        have HRR := hid rr
        have S6 := hid (SK.out _ f6)
        have S7 := hid (SY.out W6 0 (.slice la nl lc) 1 (.int .i64 (r : Int)) f6)
        clear rr BC SK SY hgood f6
        refine hK.out _ _ S6.out (fun _ => ?_)
        clear hK K
        refine wpAnyH_ready (rs := [4]) (by kernel_rfl) (by simp) ?_
        refine AllReadyH.cons rfl (fun K hK => ?_) AllReadyH.nil
        go_simp
        refine hK.out _ _ S7.out (fun _ => ?_)
        clear hK K
        refine wpAnyH_ready (rs := [5]) (by kernel_rfl) (by simp) ?_
        refine AllReadyH.cons rfl (fun K hK => ?_) AllReadyH.nil
        go_simp
        refine hK.out _ _ S7.out (fun _ => ?_)
        clear hK K q0 q1 qf
        refine wpAnyH_done (by kernel_rfl) ?_ _
        obtain ⟨WF, hWF⟩ : ∃ W, W = (W6.setCell ⟨w.heap.size, 0, none⟩ (.slice la nl lc)).setCell ⟨w.heap.size, 1, none⟩ (.int .i64 (r : Int)) := ⟨_, rfl⟩
        have HRB : WF.heap[w.heap.size]? = some (.cells #[.slice la nl lc, .int .i64 (r : Int)] 129 (0, 0)) := by rw [hWF, blk_set (blk_set HRR.out 0 _)]; rfl
        have kp : ∀ j, j ≠ w.heap.size → WF.heap[j]? = W6.heap[j]? := fun j hj => by rw [hWF, blk_setne _ _ _ hj, blk_setne _ _ _ hj]
        have FF : Hid (Fr [] w WF) := by refine hid ?_; rw [hWF]; exact ((FW1.out.trans F6.out).set _ _ (.inr (Nat.le_refl _))).set _ _ (.inr (Nat.le_refl _))
        have hno : ¬ U8 W6 w.heap.size := by
          refine noU8 (cs := [.slice none 0 0, .int .i64 0]) HRR.out ?_
          intro c hc n e
          simp at hc
          rcases hc with rfl | rfl <;> simp at e
        have RF : Hid (RdN WF (.slice la nl lc) ls) := by
          refine hid ((HCOL.out.fr F36.out).rd_keep (fun j hj => kp j (fun e => ?_)) (fun j hj => kp j (fun e => ?_)))
          · subst e
            obtain ⟨_, cs, o6, _⟩ := HCOL.out.fr F36.out
            exact own_not o6 HRR.out (by decide) hj
          · subst e; exact hno hj
        have g0 : WF.cell? ⟨w.heap.size, 0, none⟩ = some (.slice la nl lc) := by rw [blk_cell HRB]; rfl
        have g1 : WF.cell? ⟨w.heap.size, 1, none⟩ = some (.int .i64 (r : Int)) := by rw [blk_cell HRB]; rfl
        rw [← hWF]
        clear hWF HRB kp hno S6 S7
        go_wp2
        refine bodyPost_ret (v := .tuple #[.agg #[.slice la nl lc, .int .i64 (r : Int)], .bool b']) (by rw [results_cell_tmp rfl]; go_simp) rfl ⟨?_, FF.out⟩
        rcases hb' : b' with _ | _
        · left
          refine ⟨la, nl, lc, (r : Int), rfl, no_good (by rw [HBN.out]; exact hl) HK.out (by rw [HBN.out]; exact hk4) (by rw [HKL.out.1]; exact HLS.out) HRS.out (fun g => ?_)⟩
          have := HG.out.2 g
          rw [hb'] at this
          cases this
        · right
          refine ⟨ls, la, lc, r, by rw [HNL.out], ?_⟩
          rw [HNL.out]
          exact ⟨blk_read HB.out HK.out HLS.out (HG.out.1 hb'), RF.out, HOK.out, by rw [HNL.out, HBN.out]; omega⟩
end Go.Proofs.Ytobdegmlijnogaa
