/-
  Package block: a line's entry; read.
-/
import Derived.Test.YtdlnfcepknoigaaBL
namespace Go.Proofs.Ytdlnfcepknoigaa
open Go.ChangeShapes Go.WideShapes Go.ChangeAt Go.RowKit

theorem sizeKV : (Try.prog.info? 40).map (·.size) = some 2 := by kernel_rfl
theorem sizeCo : (Try.prog.info? 56).map (·.size) = some 2 := by kernel_rfl
/-- An entry of its own memory. -/
structure EnT (w w' : World) (k v : List Nat) (kv vv : Value) : Prop where
  ok : w'.ownsRow w.heap.size 5 1 kv k.length (bv k)
  ov : w'.ownsRow w.heap.size 5 1 vv v.length (bv v)
  fr : Fr [] w w'
theorem EnT.set {w X : World} {k v : List Nat} {kv vv : Value} (h : EnT w X k v kv vv) {R : Nat} (hR : w.heap.size ≤ R) (z1 : kv.ownBlock ≠ some R) (z2 : vv.ownBlock ≠ some R) (j : Nat) (x : Value) : EnT w (X.setCell ⟨R, j, none⟩ x) k v kv vv :=
  ⟨ownsRow_of_block h.ok fun q hq => blk_setne _ _ _ (fun e => by subst e; exact z1 hq), ownsRow_of_block h.ov fun q hq => blk_setne _ _ _ (fun e => by subst e; exact z2 hq), h.fr.set _ _ (.inr hR)⟩
set_option maxRecDepth 20000 in
set_option maxHeartbeats 6400000 in
theorem entry_c (w : World) {p s : Int} {ka va : Option Addr} {kc vc : Nat} {k v : List Nat} (rk : Rd w (.slice ka k.length kc) (bv k)) (rv : Rd w (.slice va v.length vc) (bv v)) (hk : k.length ≤ 1000000000) (hv : v.length ≤ 1000000000) :
    Calls Try.prog 26 #[.agg #[.int .i64 p, .int .i64 s, .slice ka k.length kc, .slice va v.length vc]] w fun e w' => ∃ kv vv, e = .returned (.agg #[kv, vv]) ∧ EnT w w' k v kv vv := by
  obtain ⟨W, hW⟩ : ∃ W, W = ((w.alloc (.cells #[.int .i64 p, .int .i64 s, .slice ka k.length kc, .slice va v.length vc] 60)).alloc (.cells #[.slice none 0 0, .slice none 0 0] 40)).drew := ⟨_, rfl⟩
  have FA : Hid (Fr [] w W) := by refine hid ?_; rw [hW]; exact (((Fr.refl [] w).alloc _).alloc _).drew
  have X0 : W.heap[w.heap.size]? = some (.cells #[.int .i64 p, .int .i64 s, .slice ka k.length kc, .slice va v.length vc] 60 (0, 0)) := by
    rw [hW, blk_drew, blk_old _ _ (by simp)]; exact blk_new _ _
  have HR : Hid (W.heap[w.heap.size + 1]? = some (.cells #[.slice none 0 0, .slice none 0 0] 40 (0, 0))) := by
    refine hid ?_
    rw [hW, blk_drew]; exact new_at _ _ (by simp)
  have hsz : w.heap.size + 1 < W.heap.size := blk_lt HR.out
  have SK : Hid (∀ w', Fr [] W w' → w'.cell? ⟨w.heap.size, 2, none⟩ = some (.slice ka k.length kc) ∧ w'.cell? ⟨w.heap.size, 3, none⟩ = some (.slice va v.length vc)) := hid fun w' f => by
    have hx := f.at X0 (by simp)
    exact ⟨by rw [blk_cell hx]; rfl, by rw [blk_cell hx]; rfl⟩
  have SY : Hid (∀ w' j x j' x', Fr [] W w' → ((w'.setCell ⟨w.heap.size + 1, j, none⟩ x).setCell ⟨w.heap.size + 1, j', none⟩ x').cell? ⟨w.heap.size, 2, none⟩ = some (.slice ka k.length kc) ∧ ((w'.setCell ⟨w.heap.size + 1, j, none⟩ x).setCell ⟨w.heap.size + 1, j', none⟩ x').cell? ⟨w.heap.size, 3, none⟩ = some (.slice va v.length vc)) := hid fun w' j x j' x' f => by
    have hx : ((w'.setCell ⟨w.heap.size + 1, j, none⟩ x).setCell ⟨w.heap.size + 1, j', none⟩ x').heap[w.heap.size]? = some (.cells #[.int .i64 p, .int .i64 s, .slice ka k.length kc, .slice va v.length vc] 60 (0, 0)) := by rw [blk_setne _ _ _ (by omega), blk_setne _ _ _ (by omega)]; exact f.at X0 (by simp)
    exact ⟨by rw [blk_cell hx]; rfl, by rw [blk_cell hx]; rfl⟩
  have RK := hid rk
  have RV := hid rv
  clear rk rv X0
  go_enter Try.func26, Try.ntmps26
  go_upto_region 1 with fail
  refine wp_region_held_drew (S := fun w' => w'.cell? ⟨w.heap.size, 2, none⟩ = some (.slice ka k.length kc) ∧ w'.cell? ⟨w.heap.size, 3, none⟩ = some (.slice va v.length vc)) (by kernel_rfl) (by rw [← hW]; exact SK.out _ (Fr.refl _ _)) (fun hS => ?_)
  rw [← hW] at hS ⊢
  clear hW
  refine wpAnyH_take (i := 0) (v := .pointer (some ⟨w.heap.size, 2, none⟩)) rfl (by kernel_rfl) (by kernel_rfl) (by kernel_rfl) (fun _ _ _ h => h) (.inl ⟨by rfl, fun wx _ => by go_simp⟩) hS ?_
  simp only [Act.put]
  refine wpAnyH_take (i := 1) (v := .slice ka k.length kc) rfl (by kernel_rfl) (by kernel_rfl) (by kernel_rfl) (fun _ _ _ h => h) (.inl ⟨by rfl, fun wx hX => by obtain ⟨x0, x1⟩ := hX; go_simp⟩) hS ?_
  simp only [Act.put]
  refine wpAnyH_take (i := 3) (v := .pointer (some ⟨w.heap.size, 3, none⟩)) rfl (by kernel_rfl) (by kernel_rfl) (by kernel_rfl) (fun _ _ _ h => h) (.inl ⟨by rfl, fun wx _ => by go_simp⟩) hS ?_
  simp only [Act.put]
  refine wpAnyH_take (i := 4) (v := .slice va v.length vc) rfl (by kernel_rfl) (by kernel_rfl) (by kernel_rfl) (fun _ _ _ h => h) (.inl ⟨by rfl, fun wx hX => by obtain ⟨x0, x1⟩ := hX; go_simp⟩) hS ?_
  simp only [Act.put]
  clear hS
  refine wpAnyH_ready (rs := [2]) (by kernel_rfl) (by simp) ?_
  refine AllReadyH.cons rfl (fun K hK => ?_) AllReadyH.nil
  go_simp
  refine (clone_c (w := W) (RK.out.fr FA.out) (by omega)).mono ?_
  rintro e' w4 ⟨ck, rfl, ok, fk⟩
  have F4 := hid (FA.out.trans fk)
  obtain ⟨ak, qk, rfl, _⟩ := ownsRow_slice ok
  refine hK.out _ _ (SK.out _ fk) (fun _ => ?_)
  clear hK K
  refine wpAnyH_ready (rs := [5]) (by kernel_rfl) (by simp) ?_
  refine AllReadyH.cons rfl (fun K hK => ?_) AllReadyH.nil
  go_simp
  refine (clone_c (w := w4) (RV.out.fr F4.out) (by omega)).mono ?_
  rintro e' w5 ⟨cv, rfl, ov, fv⟩
  obtain ⟨av, qv, rfl, _⟩ := ownsRow_slice ov
  have s4 : W.heap.size ≤ w4.heap.size := fk.size
  have T5 : EnT w w5 k v (.slice ak k.length qk) (.slice av v.length qv) := ⟨ownsRow_base (ownsRow_fr ok fv) (by omega), ownsRow_base ov (by omega), F4.out.trans fv⟩
  have n1 : (Value.slice ak k.length qk).ownBlock ≠ some (w.heap.size + 1) := fun e => by have := (ok.lt _ e).1; omega
  have n2 : (Value.slice av v.length qv).ownBlock ≠ some (w.heap.size + 1) := fun e => by have := (ov.lt _ e).1; omega
  have HR5 := fv.at (fk.at HR.out (by simp)) (by simp)
  have y0 : w5.cell? ⟨w.heap.size + 1, 0, none⟩ = some (.slice none 0 0) := by rw [blk_cell HR5]; rfl
  have y1 : w5.cell? ⟨w.heap.size + 1, 1, none⟩ = some (.slice none 0 0) := by rw [blk_cell HR5]; rfl
  have yz := blk_frozen HR5
  have HRB : Hid (((w5.setCell ⟨w.heap.size + 1, 0, none⟩ (.slice ak k.length qk)).setCell ⟨w.heap.size + 1, 1, none⟩ (.slice av v.length qv)).heap[w.heap.size + 1]? = some (.cells #[.slice ak k.length qk, .slice av v.length qv] 40 (0, 0))) := by
    refine hid ?_
    rw [blk_set (blk_set HR5 0 _)]; rfl
  have TF := hid ((T5.set (by omega) n1 n2 0 (.slice ak k.length qk)).set (by omega) n1 n2 1 (.slice av v.length qv))
  have S5 := hid (SK.out _ (fk.trans fv))
  have S6 := hid (SY.out w5 0 (.slice ak k.length qk) 1 (.slice av v.length qv) (fk.trans fv))
  clear ok ov fk fv HR5 T5 n1 n2 SY SK
  refine hK.out _ _ S5.out (fun _ => ?_)
  clear hK K
  refine wpAnyH_ready (rs := [6]) (by kernel_rfl) (by simp) ?_
  refine AllReadyH.cons rfl (fun K hK => ?_) AllReadyH.nil
  go_simp
  refine hK.out _ _ S5.out (fun _ => ?_)
  clear hK K
  refine wpAnyH_ready (rs := [7]) (by kernel_rfl) (by simp) ?_
  refine AllReadyH.cons rfl (fun K hK => ?_) AllReadyH.nil
  go_simp
  refine hK.out _ _ S6.out (fun _ => ?_)
  clear hK K y0 y1 yz
  refine wpAnyH_done (by kernel_rfl) ?_ _
  have r0 := blk_cell HRB.out 0
  have r1 := blk_cell HRB.out 1
  generalize (w5.setCell ⟨w.heap.size + 1, 0, none⟩ (.slice ak k.length qk)).setCell ⟨w.heap.size + 1, 1, none⟩ (.slice av v.length qv) = w6 at *
  simp at r0 r1
  go_wp2
  refine bodyPost_ret (v := .agg #[.slice ak k.length qk, .slice av v.length qv]) (results_cell_row rfl _ w6 (w.heap.size + 1) 40 _ (0, 0) _ (by simp) HRB.out Try.underlying40 rfl sizeKV) rfl ⟨_, _, rfl, TF.out⟩

/-- What is told of bytes that may be a block. -/
structure RdB (w w' : World) (b : List Nat) (lv : Value) (r : Nat) (ls : List Ln) : Prop where
  blk : Blk b (psL ls) r
  col : ColN w' w.heap.size lv ls
  ok : ∀ x ∈ ls, OkLn x
  len : ls.length ≤ b.length
theorem blk_lens {b : List Nat} {ps : Ps} {r : Nat} (B : Blk b ps r) (hb : b.length ≤ 1000000000) : ps.length < 1073741824 ∧ (bod r ps ps.length).length < 1073741824 := by
  have h1 : ∀ i, i ≤ (bod r ps i).length := by
    intro i
    induction i with
    | zero => simp
    | succ i ih => have := bod_lt r ps (i := i) (j := i + 1) (by omega); omega
  have h2 := h1 ps.length
  have h3 : (Go.Proofs.Ytdlnfcepknoigaa.blk r ps).length = b.length := by rw [B.eq]
  unfold Go.Proofs.Ytdlnfcepknoigaa.blk at h3
  rw [List.length_append] at h3
  omega
theorem no_half {b : List Nat} (hb : b.length ≤ 1000000000) (h : halfL b = none) : ∀ ps r, ¬ Blk b ps r := fun ps r B => by
  have := read_blk B (blk_lens B hb).1 (by have := (blk_lens B hb).2; omega) (f := (bod r ps ps.length).length + 1) (by omega)
  rw [h] at this
  cases this.1
theorem no_lines {b : List Nat} (hb : b.length ≤ 1000000000) {k : Nat} (h : halfL b = some k) (hk : k + 4 ≤ b.length) (hl : linesF ((bodL b k).length + 1) (bodL b k) 0 [] = none) : ∀ ps r, ¬ Blk b ps r := fun ps r B => by
  have := read_blk B (blk_lens B hb).1 (by have := (blk_lens B hb).2; omega) (f := (bodL b k).length + 1)
  rw [h] at this
  have hkl : (bodL b k).length = k := by unfold bodL; rw [List.length_take]; omega
  have h0 := read_blk B (blk_lens B hb).1 (by have := (blk_lens B hb).2; omega) (f := (bod r ps ps.length).length + 1) (by omega)
  rw [h, Option.some.injEq] at h0
  have h1 := this (by rw [hkl, h0.1]; omega)
  rw [← h0.1, hl] at h1
  cases h1.2.1
theorem no_good {b : List Nat} (hb : b.length ≤ 1000000000) {k c : Nat} {ls : List Ln} (h : halfL b = some k) (hk : k + 4 ≤ b.length) (hl : linesF ((bodL b k).length + 1) (bodL b k) 0 [] = some ls) (hr : RsO ls (plcL b k) c) (hg : ¬ Good c ls (plcL b k)) : ∀ ps r, ¬ Blk b ps r := fun ps r B => by
  have hkl : (bodL b k).length = k := by unfold bodL; rw [List.length_take]; omega
  have h0 := read_blk B (blk_lens B hb).1 (by have := (blk_lens B hb).2; omega) (f := (bod r ps ps.length).length + 1) (by omega)
  rw [h, Option.some.injEq] at h0
  have h1 := read_blk B (blk_lens B hb).1 (by have := (blk_lens B hb).2; omega) (f := (bodL b k).length + 1) (by rw [hkl, h0.1]; omega)
  rw [← h0.1, hl, Option.some.injEq] at h1
  exact hg (by rw [h1.2.1]; exact h1.2.2 c (by rw [← h1.2.1]; exact hr))
end Go.Proofs.Ytdlnfcepknoigaa
