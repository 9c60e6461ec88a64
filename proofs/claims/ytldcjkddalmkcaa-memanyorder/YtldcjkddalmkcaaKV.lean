/-
  What kv of package mem answers; how entries are given.
-/
import Derived.Test.YtldcjkddalmkcaaMK
import Derived.Test.YtldcjkddalmkcaaRL
import Derived.Laws.ResultCell
import Derived.Deep.WholeRow
namespace Go.Proofs.Ytldcjkddalmkcaa
open Go.ChangeShapes Go.WideShapes Go.ChangeAt Go.RowKit

theorem sizeKV : (Try.prog.info? 50).map (·.size) = some 2 := by kernel_rfl
/-- What kv hands over: two rows of bytes of its own, apart. -/
structure KvT (w w' : World) (e : E) (kv vv : Value) : Prop where
  ok : w'.ownsRow w.heap.size 5 1 kv e.key.length (bv e.key)
  ov : w'.ownsRow w.heap.size 5 1 vv e.val.length (bv e.val)
  ap : ∀ k, kv.ownBlock = some k → vv.ownBlock ≠ some k
  fr : Fr [] w w'

set_option maxRecDepth 20000 in
set_option maxHeartbeats 4000000 in
theorem kv_c (w : World) {B : Nat} {e : E} {r : List E} (g : EntB w B e r) :
    Calls Try.prog 48 #[pt (e.b, 0)] w fun x w' => ∃ kv vv, x = .returned (.agg #[kv, vv]) ∧ KvT w w' e kv vv := by
  obtain ⟨ce0, _, _, ce3⟩ := g.cells
  obtain ⟨ka, kc, hk⟩ := g.rk.form
  obtain ⟨va, vc, hv⟩ := g.rv.form
  rw [bv_len] at hk hv
  have RK := hid g.rk
  have RV := hid g.rv
  rw [hk] at ce0 RK
  rw [hv] at ce3 RV
  have hkl : e.key.length ≤ 140737488355328 := by have := isK_len g.isk; omega
  have hvl : e.val.length ≤ 140737488355328 := by have := g.vl; omega
  have SK : Hid (∀ w', Fr [] w w' → w'.cell? ⟨e.b, 0, none⟩ = some (.slice ka e.key.length kc) ∧ w'.cell? ⟨e.b, 3, none⟩ = some (.slice va e.val.length vc)) := fun w' f => ⟨cell_fr f ce0, cell_fr f ce3⟩
  have fa : Fr [] w (w.alloc (.cells #[.slice none 0 0, .slice none 0 0] 50)).drew := ((Fr.refl [] w).alloc _).drew
  have FA := hid fa
  have HR : Hid ((w.alloc (.cells #[.slice none 0 0, .slice none 0 0] 50)).drew.heap[w.heap.size]? = some (.cells #[.slice none 0 0, .slice none 0 0] 50 (0, 0))) := blk_new _ _
  have hsz : w.heap.size < (w.alloc (.cells #[.slice none 0 0, .slice none 0 0] 50)).drew.heap.size := blk_lt HR.out
  clear g hk hv ce0 ce3 fa
  unfold pt
  go_enter Try.func48, Try.ntmps48
  go_upto_region 1 with fail
  generalize hW : (w.alloc (.cells #[.slice none 0 0, .slice none 0 0] 50)).drew = W at FA HR hsz
  refine wp_region_held_drew (S := fun w' => w'.cell? ⟨e.b, 0, none⟩ = some (.slice ka e.key.length kc) ∧ w'.cell? ⟨e.b, 3, none⟩ = some (.slice va e.val.length vc)) (by kernel_rfl) (by rw [hW]; exact SK.out _ FA.out) (fun hS => ?_)
  rw [hW] at hS ⊢
  clear hW
  refine wpAnyH_take (i := 0) (v := .pointer (some ⟨e.b, 0, none⟩)) rfl (by kernel_rfl) (by kernel_rfl) (by kernel_rfl) (fun _ _ _ h => h) (.inl ⟨by rfl, fun wx _ => by go_simp⟩) hS ?_
  simp only [Act.put]
  refine wpAnyH_take (i := 1) (v := .pointer (some ⟨e.b, 0, none⟩)) rfl (by kernel_rfl) (by kernel_rfl) (by kernel_rfl) (fun _ _ _ h => h) (.inl ⟨by rfl, fun wx _ => by go_simp⟩) hS ?_
  simp only [Act.put]
  refine wpAnyH_take (i := 2) (v := .pointer (some ⟨e.b, 0, none⟩)) rfl (by kernel_rfl) (by kernel_rfl) (by kernel_rfl) (fun _ _ _ h => h) (.inl ⟨by rfl, fun wx _ => by go_simp⟩) hS ?_
  simp only [Act.put]
  refine wpAnyH_take (i := 3) (v := .slice ka e.key.length kc) rfl (by kernel_rfl) (by kernel_rfl) (by kernel_rfl) (fun _ _ _ h => h) (.inl ⟨by rfl, fun wx hX => by obtain ⟨x0, x1⟩ := hX; go_simp⟩) hS ?_
  simp only [Act.put]
  refine wpAnyH_take (i := 5) (v := .pointer (some ⟨e.b, 0, none⟩)) rfl (by kernel_rfl) (by kernel_rfl) (by kernel_rfl) (fun _ _ _ h => h) (.inl ⟨by rfl, fun wx _ => by go_simp⟩) hS ?_
  simp only [Act.put]
  refine wpAnyH_take (i := 6) (v := .pointer (some ⟨e.b, 0, none⟩)) rfl (by kernel_rfl) (by kernel_rfl) (by kernel_rfl) (fun _ _ _ h => h) (.inl ⟨by rfl, fun wx _ => by go_simp⟩) hS ?_
  simp only [Act.put]
  refine wpAnyH_take (i := 7) (v := .pointer (some ⟨e.b, 3, none⟩)) rfl (by kernel_rfl) (by kernel_rfl) (by kernel_rfl) (fun _ _ _ h => h) (.inl ⟨by rfl, fun wx _ => by go_simp⟩) hS ?_
  simp only [Act.put]
  refine wpAnyH_take (i := 8) (v := .slice va e.val.length vc) rfl (by kernel_rfl) (by kernel_rfl) (by kernel_rfl) (fun _ _ _ h => h) (.inl ⟨by rfl, fun wx hX => by obtain ⟨x0, x1⟩ := hX; go_simp⟩) hS ?_
  simp only [Act.put]
  clear hS
  refine wpAnyH_ready (rs := [4]) (by kernel_rfl) (by simp) ?_
  refine AllReadyH.cons rfl (fun K hK => ?_) AllReadyH.nil
  · go_simp
    refine (clone_c (w := W) (RK.out.fr FA.out) hkl).mono ?_
    rintro e' w4 ⟨ck, rfl, ok, fk⟩
    have F4 := hid (FA.out.trans fk)
    obtain ⟨ak, qk, rfl, _⟩ := ownsRow_slice ok
    refine hK.out _ _ (SK.out _ F4.out) (fun _ => ?_)
    clear hK K
    refine wpAnyH_ready (rs := [9]) (by kernel_rfl) (by simp) ?_
    refine AllReadyH.cons rfl (fun K hK => ?_) AllReadyH.nil
    go_simp
    refine (clone_c (w := w4) (RV.out.fr F4.out) hvl).mono ?_
    rintro e' w5 ⟨cv, rfl, ov, fv⟩
    have F5 := hid (F4.out.trans fv)
    obtain ⟨av, qv, rfl, _⟩ := ownsRow_slice ov
    have KT : Hid (∀ j x, KvT w (w5.setCell ⟨w.heap.size, j, none⟩ x) e (.slice ak e.key.length qk) (.slice av e.val.length qv) ∧ ∀ j' x', KvT w ((w5.setCell ⟨w.heap.size, j, none⟩ x).setCell ⟨w.heap.size, j', none⟩ x') e (.slice ak e.key.length qk) (.slice av e.val.length qv)) := fun j x => by
      have z1 : ∀ q, (Value.slice ak e.key.length qk).ownBlock = some q → w.heap.size < q ∧ q < w4.heap.size := fun q hq => by have := ok.lt q hq; exact ⟨by omega, this.2⟩
      have z2 : ∀ q, (Value.slice av e.val.length qv).ownBlock = some q → w4.heap.size ≤ q ∧ q < w5.heap.size := fun q hq => ov.lt q hq
      have s45 := fv.size
      have s4 : w.heap.size < w4.heap.size := by have := fk.size; omega
      have p1 : w5.ownsRow w.heap.size 5 1 (.slice ak e.key.length qk) e.key.length (bv e.key) := ownsRow_base (ownsRow_fr ok fv) (by omega)
      have p2 : w5.ownsRow w.heap.size 5 1 (.slice av e.val.length qv) e.val.length (bv e.val) := ownsRow_base ov (by omega)
      have up : ∀ (X : World) (j : Nat) (x : Value), KvT w X e (.slice ak e.key.length qk) (.slice av e.val.length qv) → KvT w (X.setCell ⟨w.heap.size, j, none⟩ x) e (.slice ak e.key.length qk) (.slice av e.val.length qv) := fun X j x h =>
        ⟨ownsRow_of_block h.ok fun q hq => blk_setne _ _ _ (fun eq => by have := z1 q hq; omega), ownsRow_of_block h.ov fun q hq => blk_setne _ _ _ (fun eq => by have := z2 q hq; omega), h.ap, h.fr.set _ _ (.inr (Nat.le_refl _))⟩
      have base : KvT w w5 e (.slice ak e.key.length qk) (.slice av e.val.length qv) := ⟨p1, p2, fun q h1 h2 => by have := z1 q h1; have := z2 q h2; omega, F5.out⟩
      exact ⟨up _ _ _ base, fun j' x' => up _ _ _ (up _ _ _ base)⟩
    have HR5 := fv.at (fk.at HR.out (by simp)) (by simp)
    have y0 := blk_cell HR5 0
    have y1 := blk_cell HR5 1
    have yz := blk_frozen HR5
    replace y0 : w5.cell? ⟨w.heap.size, 0, none⟩ = some (.slice none 0 0) := y0
    replace y1 : w5.cell? ⟨w.heap.size, 1, none⟩ = some (.slice none 0 0) := y1
    have HRB : Hid (((w5.setCell ⟨w.heap.size, 0, none⟩ (.slice ak e.key.length qk)).setCell ⟨w.heap.size, 1, none⟩ (.slice av e.val.length qv)).heap[w.heap.size]? = some (.cells #[.slice ak e.key.length qk, .slice av e.val.length qv] 50 (0, 0))) := by
      unfold Hid
      rw [blk_set (blk_set HR5 0 _)]; rfl
    clear ok ov fk fv HR5
    refine hK.out _ _ (SK.out _ F5.out) (fun _ => ?_)
    clear hK K
    refine wpAnyH_ready (rs := [10]) (by kernel_rfl) (by simp) ?_
    refine AllReadyH.cons rfl (fun K hK => ?_) AllReadyH.nil
    go_simp
    refine hK.out _ _ (SK.out _ F5.out) (fun _ => ?_)
    clear hK K
    refine wpAnyH_ready (rs := [11]) (by kernel_rfl) (by simp) ?_
    refine AllReadyH.cons rfl (fun K hK => ?_) AllReadyH.nil
    go_simp
    refine hK.out _ _ (SK.out _ ((KT.out 0 _).2 1 _).fr) (fun _ => ?_)
    clear hK K y0 y1 yz
    refine wpAnyH_done (by kernel_rfl) ?_ _
    have r0 := blk_cell HRB.out 0
    have r1 := blk_cell HRB.out 1
    have T2 := hid ((KT.out 0 (.slice ak e.key.length qk)).2 1 (.slice av e.val.length qv))
    generalize (w5.setCell ⟨w.heap.size, 0, none⟩ (.slice ak e.key.length qk)).setCell ⟨w.heap.size, 1, none⟩ (.slice av e.val.length qv) = w6 at *
    simp at r0 r1
    go_wp2
    refine bodyPost_ret (v := .agg #[.slice ak e.key.length qk, .slice av e.val.length qv]) (results_cell_row rfl _ w6 w.heap.size 50 _ (0, 0) _ (by simp) HRB.out Try.underlying50 rfl sizeKV) rfl ⟨_, _, rfl, T2.out⟩
end Go.Proofs.Ytldcjkddalmkcaa
