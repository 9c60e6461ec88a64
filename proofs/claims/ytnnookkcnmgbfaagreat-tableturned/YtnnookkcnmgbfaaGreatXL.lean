/-
  A data block looked at.
-/
import Derived.Test.YtnnookkcnmgbfaaGreatXK
namespace Go.Proofs.YtnnookkcnmgbfaaGreat
open Go.ChangeShapes Go.WideShapes Go.ChangeAt Go.RowKit

/-- What is told of a data block. -/
def LookR (dat : List Nat) (t n : Nat) (k : List Nat) (x : Nat) (qs : Ps) : Prop :=
  (x = 81 ∧ ¬ SumAt dat t n ∧ qs = []) ∨ (x = 80 ∧ SumAt dat t n ∧ (∀ ps r, Blk (wn dat t n) ps r → ps = [] ∨ lastK ps ≠ k) ∧ qs = []) ∨ (x = 0 ∧ SumAt dat t n ∧ (∃ r, Blk (wn dat t n) qs r) ∧ qs ≠ [] ∧ lastK qs = k)
theorem look_ex (dat : List Nat) (t n : Nat) (k : List Nat) : ∃ x qs, LookR dat t n k x qs := by
  by_cases h1 : SumAt dat t n
  · by_cases h2 : ∃ ps r, Blk (wn dat t n) ps r ∧ ps ≠ [] ∧ lastK ps = k
    · obtain ⟨ps, r, a, b, c⟩ := h2
      exact ⟨0, ps, .inr (.inr ⟨rfl, h1, ⟨r, a⟩, b, c⟩)⟩
    · refine ⟨80, [], .inr (.inl ⟨rfl, h1, fun ps r hb => ?_, rfl⟩)⟩
      by_cases h3 : ps = []
      · exact .inl h3
      · exact .inr (fun e => h2 ⟨ps, r, hb, h3, e⟩)
  · exact ⟨81, [], .inl ⟨rfl, h1, rfl⟩⟩
theorem sizeSg : (Tryz.prog.info? 112).map (·.size) = some 7 := by kernel_rfl
theorem blk_byp {b : List Nat} {ps : Ps} {r : Nat} (h : Blk b ps r) (hb : By b) (i : Nat) : By (kA ps i) ∧ By (vA ps i) := by
  have hs : ∀ n, n ≤ ps.length → By (bod r ps n) := fun n hn => by
    have h1 : By (blk r ps) := by rw [h.eq]; exact hb
    unfold blk at h1
    have h2 : By (bod r ps ps.length) := fun x hx => h1 x (List.mem_append_left _ hx)
    obtain ⟨y, hy⟩ := bod_mono r ps (ps.length - n) n
    rw [show n + (ps.length - n) = ps.length from by omega] at hy
    rw [hy] at h2
    exact fun x hx => h2 x (List.mem_append_left _ hx)
  have key : ∀ n, n ≤ ps.length → ∀ i, i < n → By (kA ps i) ∧ By (vA ps i) := by
    intro n
    induction n with
    | zero => intro _ i hi; omega
    | succ n ih =>
      intro hn i hi
      by_cases hin : i < n
      · exact ih (by omega) i hin
      · have e : i = n := by omega
        subst e
        have h1 := hs (i + 1) hn
        rw [bod] at h1
        have h2 : By (ent (shd r ps i) (kA ps i) (vA ps i)) := fun x hx => h1 x (List.mem_append_right _ hx)
        unfold ent at h2
        have h3 : By ((kA ps i).drop (shd r ps i)) := fun x hx => h2 x (by simp [hx])
        have h4 : By (vA ps i) := fun x hx => h2 x (by simp [hx])
        refine ⟨fun x hx => ?_, h4⟩
        rw [← List.take_append_drop (shd r ps i) (kA ps i)] at hx
        rcases List.mem_append.1 hx with hx | hx
        · rw [shd_take] at hx
          by_cases h0 : i = 0
          · subst h0
            have : ahd ps 0 = [] := rfl
            rw [this] at hx; simp at hx
          · have e2 : ahd ps i = kA ps (i - 1) := by unfold ahd; rw [if_neg h0]
            rw [e2] at hx
            exact (ih (by omega) (i - 1) (by omega)).1 x (List.mem_of_mem_take hx)
        · exact h3 x hx
  by_cases hi : i < ps.length
  · exact key ps.length (Nat.le_refl _) i hi
  · rw [(kA_out (by omega)).1, (kA_out (by omega)).2]
    exact ⟨fun n h => by simp at h, fun n h => by simp at h⟩
theorem ColK.base {W : World} {B B' : Nat} {v : Value} {ps : Ps} (h : ColK W B v ps) (hb : B' ≤ B) : ColK W B' v ps := by
  obtain ⟨cs, o, r⟩ := h
  exact ⟨cs, own_base o hb, r⟩
theorem seven {W : World} {B : Nat} {v : Value} {ps : Ps} (h : ColK W B v ps) {nq g : Nat} {a0 a1 a2 a3 a4 a5 a6 : Value} (hg : W.heap[g]? = some (.cells #[.int .i64 0, .int .i64 0, .slice none 0 0, .slice none 0 0, .slice none 0 0, .bool false, .bool false] 112 (0, 0))) :
    ColK ((((((((W.drewN nq).setCell ⟨g, 0, none⟩ a0).setCell ⟨g, 1, none⟩ a1).setCell ⟨g, 2, none⟩ a2).setCell ⟨g, 3, none⟩ a3).setCell ⟨g, 4, none⟩ a4).setCell ⟨g, 5, none⟩ a5).setCell ⟨g, 6, none⟩ a6) B v ps := by
  have hs : ∀ k, k ≠ g → (((((((((W.drewN nq).setCell ⟨g, 0, none⟩ a0).setCell ⟨g, 1, none⟩ a1).setCell ⟨g, 2, none⟩ a2).setCell ⟨g, 3, none⟩ a3).setCell ⟨g, 4, none⟩ a4).setCell ⟨g, 5, none⟩ a5).setCell ⟨g, 6, none⟩ a6)).heap[k]? = W.heap[k]? := fun k hk => by
    rw [blk_setne _ _ _ hk, blk_setne _ _ _ hk, blk_setne _ _ _ hk, blk_setne _ _ _ hk, blk_setne _ _ _ hk, blk_setne _ _ _ hk, blk_setne _ _ _ hk]; rfl
  refine h.step (fun k hk => hs k ?_) (fun k hk => hs k ?_)
  · obtain ⟨cs, o, _⟩ := h
    exact fun e => own_not o hg (by decide) (by rw [← e]; exact hk)
  · intro e
    subst e
    exact noU8 (cs := [.int .i64 0, .int .i64 0, .slice none 0 0, .slice none 0 0, .slice none 0 0, .bool false, .bool false]) hg (by simp) hk
set_option maxRecDepth 20000 in
set_option maxHeartbeats 6400000 in
theorem look_sum (w : World) {p : Nat} {dat flt : List Nat} {ips : Ps} {da fa : Option Addr} {dc fc G : Nat} (T : Tab w p dat flt ips da dc fa fc G) (hb : By dat) (hl : dat.length ≤ 1000000000) (t n : Nat) (ht : t + n + 4 ≤ dat.length) {la ua : Option Addr} {ln lc un uc : Nat} (hs : ¬ SumAt dat t n) :
    Calls Tryz.prog 54 #[.pointer (some ⟨p, 0, none⟩), .agg #[.int .i64 (t : Int), .int .i64 (n : Int), .slice la ln lc, .slice ua un uc]] w fun e w' => e = .returned (.agg #[.int .i64 (t : Int), .int .i64 (n : Int), .slice la ln lc, .slice ua un uc, .slice none 0 0, .bool true, .bool false]) ∧ Fr [] w w' := by
  rcases T.rd.split with ⟨e, _⟩ | ⟨q, o, c, e, _⟩
  · rw [e] at ht; simp at ht
  simp only [Value.slice.injEq] at e
  obtain ⟨rfl, _, rfl⟩ := e
  obtain ⟨W0, hW0⟩ : ∃ W0, W0 = (w.alloc (.cells #[.int .i64 (t : Int), .int .i64 (n : Int), .slice la ln lc, .slice ua un uc] 108)).alloc (.cells #[.int .i64 0, .int .i64 0, .slice none 0 0, .slice none 0 0, .slice none 0 0, .bool false, .bool false] 112) := ⟨_, rfl⟩
  have F0 : Hid (Fr [] w W0) := hid (by rw [hW0]; exact ((Fr.refl _ _).alloc _).alloc _)
  have n0 : Hid (W0.heap[w.heap.size]? = some (.cells #[.int .i64 (t : Int), .int .i64 (n : Int), .slice la ln lc, .slice ua un uc] 108 (0, 0))) := hid (by rw [hW0, blk_old _ _ (by simp)]; exact blk_new _ _)
  have n1 : Hid (W0.heap[w.heap.size + 1]? = some (.cells #[.int .i64 0, .int .i64 0, .slice none 0 0, .slice none 0 0, .slice none 0 0, .bool false, .bool false] 112 (0, 0))) := hid (by rw [hW0]; exact new_at _ _ (by simp))
  have T0 := T.fr F0.out
  have c0 : W0.cell? ⟨p, 0, none⟩ = some (.slice (some ⟨q, o, none⟩) dat.length dc) := by rw [blk_cell T0.at']; rfl
  have s0 : W0.cell? ⟨w.heap.size, 0, none⟩ = some (.int .i64 (t : Int)) := by rw [blk_cell n0.out]; rfl
  have s1 : W0.cell? ⟨w.heap.size, 1, none⟩ = some (.int .i64 (n : Int)) := by rw [blk_cell n0.out]; rfl
  have US := hid (unsealed_c W0.drew (T0.rd.fr (Fr.refl _ _).drew) hb hl t n ht false (Iff.intro (fun e => Bool.noConfusion e) (fun h => absurd h hs)))
  have wt : IntKind.u64.wrap (t : Int) = (t : Int) := wrap64_nat (by omega)
  have wn' : IntKind.u64.wrap (n : Int) = (n : Int) := wrap64_nat (by omega)
  clear T T0 hb hs
  generalize dat.length = L at *
  have CC : Hid (∀ W, Fr [] W0 W → W.cell? ⟨w.heap.size, 0, none⟩ = some (.int .i64 (t : Int)) ∧ W.cell? ⟨w.heap.size, 1, none⟩ = some (.int .i64 (n : Int)) ∧ W.cell? ⟨w.heap.size, 2, none⟩ = some (.slice la ln lc) ∧ W.cell? ⟨w.heap.size, 3, none⟩ = some (.slice ua un uc) ∧ W.cell? ⟨w.heap.size + 1, 0, none⟩ = some (.int .i64 0) ∧ W.cell? ⟨w.heap.size + 1, 1, none⟩ = some (.int .i64 0) ∧ W.cell? ⟨w.heap.size + 1, 2, none⟩ = some (.slice none 0 0) ∧ W.cell? ⟨w.heap.size + 1, 3, none⟩ = some (.slice none 0 0) ∧ W.cell? ⟨w.heap.size + 1, 4, none⟩ = some (.slice none 0 0) ∧ W.cell? ⟨w.heap.size + 1, 5, none⟩ = some (.bool false) ∧ W.cell? ⟨w.heap.size + 1, 6, none⟩ = some (.bool false) ∧ (∀ i, W.frozen? ⟨w.heap.size + 1, i, none⟩ = false) ∧ W.heap[w.heap.size + 1]? = some (.cells #[.int .i64 0, .int .i64 0, .slice none 0 0, .slice none 0 0, .slice none 0 0, .bool false, .bool false] 112 (0, 0))) := hid (fun W f => by
    have k0 := f.at n0.out (by simp)
    have k1 := f.at n1.out (by simp)
    exact ⟨by rw [blk_cell k0]; rfl, by rw [blk_cell k0]; rfl, by rw [blk_cell k0]; rfl, by rw [blk_cell k0]; rfl, by rw [blk_cell k1]; rfl, by rw [blk_cell k1]; rfl, by rw [blk_cell k1]; rfl, by rw [blk_cell k1]; rfl, by rw [blk_cell k1]; rfl, by rw [blk_cell k1]; rfl, by rw [blk_cell k1]; rfl, blk_frozen k1, k1⟩)
  go_enter Tryz.func54, Tryz.ntmps54
  go_upto_region 1 with fail
  rw [← hW0]
  clear hW0
  have hN : w.heap.size ≤ w.heap.size + 1 := by omega
  have SK : Hid (∀ w', Fr [] W0 w' → (fun w' => w'.cell? ⟨p, 0, none⟩ = some (.slice (some ⟨q, o, none⟩) L dc) ∧ w'.cell? ⟨w.heap.size, 0, none⟩ = some (.int .i64 (t : Int)) ∧ w'.cell? ⟨w.heap.size, 1, none⟩ = some (.int .i64 (n : Int))) w') := hid (fun w' f => ⟨cell_fr f c0, cell_fr f s0, cell_fr f s1⟩)
  clear c0 s0 s1
  refine wp_region_held_drew (S := fun w' => w'.cell? ⟨p, 0, none⟩ = some (.slice (some ⟨q, o, none⟩) L dc) ∧ w'.cell? ⟨w.heap.size, 0, none⟩ = some (.int .i64 (t : Int)) ∧ w'.cell? ⟨w.heap.size, 1, none⟩ = some (.int .i64 (n : Int))) (by kernel_rfl) (SK.out _ (Fr.refl [] W0).drew) (fun hS => ?_)
  refine wpAnyH_take (i := 0) (v := .pointer (some ⟨p, 0, none⟩)) rfl (by kernel_rfl) (by kernel_rfl) (by kernel_rfl) (fun _ _ _ h => h) (.inl ⟨by rfl, fun wx _ => by go_simp⟩) hS ?_
  simp only [Act.put]
  refine wpAnyH_take (i := 1) (v := .pointer (some ⟨p, 0, none⟩)) rfl (by kernel_rfl) (by kernel_rfl) (by kernel_rfl) (fun _ _ _ h => h) (.inl ⟨by rfl, fun wx _ => by go_simp⟩) hS ?_
  simp only [Act.put]
  refine wpAnyH_take (i := 2) (v := .pointer (some ⟨p, 0, none⟩)) rfl (by kernel_rfl) (by kernel_rfl) (by kernel_rfl) (fun _ _ _ h => h) (.inl ⟨by rfl, fun wx _ => by go_simp⟩) hS ?_
  simp only [Act.put]
  refine wpAnyH_take (i := 3) (v := .slice (some ⟨q, o, none⟩) L dc) rfl (by kernel_rfl) (by kernel_rfl) (by kernel_rfl) (fun _ _ _ h => h) (.inl ⟨by rfl, fun wx hX => by obtain ⟨x0, x1, x2⟩ := hX; go_simp⟩) hS ?_
  simp only [Act.put]
  refine wpAnyH_take (i := 4) (v := .pointer (some ⟨w.heap.size, 0, none⟩)) rfl (by kernel_rfl) (by kernel_rfl) (by kernel_rfl) (fun _ _ _ h => h) (.inl ⟨by rfl, fun wx _ => by go_simp⟩) hS ?_
  simp only [Act.put]
  refine wpAnyH_take (i := 5) (v := .int .i64 (t : Int)) rfl (by kernel_rfl) (by kernel_rfl) (by kernel_rfl) (fun _ _ _ h => h) (.inl ⟨by rfl, fun wx hX => by obtain ⟨x0, x1, x2⟩ := hX; go_simp⟩) hS ?_
  simp only [Act.put]
  refine wpAnyH_take (i := 6) (v := .int .u64 (t : Int)) rfl (by kernel_rfl) (by kernel_rfl) (by kernel_rfl) (fun _ _ _ h => h) (.inl ⟨by rfl, fun wx _ => by go_simp⟩) hS ?_
  simp only [Act.put]
  refine wpAnyH_take (i := 7) (v := .pointer (some ⟨w.heap.size, 1, none⟩)) rfl (by kernel_rfl) (by kernel_rfl) (by kernel_rfl) (fun _ _ _ h => h) (.inl ⟨by rfl, fun wx _ => by go_simp⟩) hS ?_
  simp only [Act.put]
  refine wpAnyH_take (i := 8) (v := .int .i64 (n : Int)) rfl (by kernel_rfl) (by kernel_rfl) (by kernel_rfl) (fun _ _ _ h => h) (.inl ⟨by rfl, fun wx hX => by obtain ⟨x0, x1, x2⟩ := hX; go_simp⟩) hS ?_
  simp only [Act.put]
  refine wpAnyH_take (i := 9) (v := .int .u64 (n : Int)) rfl (by kernel_rfl) (by kernel_rfl) (by kernel_rfl) (fun _ _ _ h => h) (.inl ⟨by rfl, fun wx _ => by go_simp⟩) hS ?_
  simp only [Act.put]
  refine wpAnyH_take (i := 10) (v := .agg #[.int .u64 (t : Int), .int .u64 (n : Int)]) rfl (by kernel_rfl) (by kernel_rfl) (by kernel_rfl) (fun _ _ _ h => h) (.inl ⟨by rfl, fun wx _ => by go_simp⟩) hS ?_
  simp only [Act.put]
  clear hS
  refine wpAnyH_ready (rs := [11]) (by kernel_rfl) (by simp) ?_
  refine AllReadyH.cons rfl (fun K hK => ?_) AllReadyH.nil
  go_simp
  refine US.out.mono ?_
  rintro e W1 ⟨rfl, f1⟩
  have F1 := hid ((Fr.refl [] W0).drew.trans f1)
  have hS1 := SK.out _ F1.out
  refine hK.out _ _ hS1 (fun _ => ?_)
  clear hK K
  refine wpAnyH_take (i := 12) (v := .tuple #[.slice (some ⟨q, o + t, none⟩) n (dc - t), .bool false]) rfl (by kernel_rfl) (by kernel_rfl) (by kernel_rfl) (fun _ _ _ h => h) (.inl ⟨by rfl, fun wx _ => by go_simp⟩) hS1 ?_
  simp only [Act.put]
  refine wpAnyH_take (i := 13) (v := .slice (some ⟨q, o + t, none⟩) n (dc - t)) rfl (by kernel_rfl) (by kernel_rfl) (by kernel_rfl) (fun _ _ _ h => h) (.inl ⟨by rfl, fun wx _ => by go_simp⟩) hS1 ?_
  simp only [Act.put]
  refine wpAnyH_take (i := 14) (v := .bool false) rfl (by kernel_rfl) (by kernel_rfl) (by kernel_rfl) (fun _ _ _ h => h) (.inl ⟨by rfl, fun wx _ => by go_simp⟩) hS1 ?_
  simp only [Act.put]
  refine wpAnyH_ready (rs := [15]) (by kernel_rfl) (by simp) ?_
  refine AllReadyH.cons rfl (fun K hK => ?_) AllReadyH.nil
  go_simp
  refine hK.out _ _ hS1 (fun _ => ?_)
  clear hK K
  refine wpAnyH_ready (rs := [16]) (by kernel_rfl) (by simp) ?_
  refine AllReadyH.cons rfl (fun K hK => ?_) AllReadyH.nil
  go_simp
  refine hK.out _ _ hS1 (fun _ => ?_)
  clear hK K
  clear hS1 SK
  refine wpAnyH_done (by kernel_rfl) ?_ _
  obtain ⟨a0, a1, a2, a3, b0, b1, b2, b3, b4, b5, b6, bf, m1⟩ := CC.out W1 F1.out
  have HM1 := hid m1
  clear m1 CC
  go_wp2
  refine bodyPost_ret (v := .agg #[.int .i64 (t : Int), .int .i64 (n : Int), .slice la ln lc, .slice ua un uc, .slice none 0 0, .bool true, .bool false]) (results_cell_row rfl _ _ (w.heap.size + 1) 112 _ (0, 0) _ (by simp) (by rw [blk_set (blk_set (blk_set (blk_set (blk_set (blk_set (blk_set HM1.out 0 _) 1 _) 2 _) 3 _) 4 _) 5 _) 6 _]; rfl) Tryz.underlying112 rfl sizeSg) rfl ?_
  exact ⟨rfl, (((((((F0.out.trans F1.out).set _ _ (.inr hN)).set _ _ (.inr hN)).set _ _ (.inr hN)).set _ _ (.inr hN)).set _ _ (.inr hN)).set _ _ (.inr hN)).set _ _ (.inr hN)⟩
set_option maxRecDepth 20000 in
set_option maxHeartbeats 6400000 in
theorem look_noblk (w : World) {p : Nat} {dat flt : List Nat} {ips : Ps} {da fa : Option Addr} {dc fc G : Nat} (T : Tab w p dat flt ips da dc fa fc G) (hb : By dat) (hl : dat.length ≤ 1000000000) (t n : Nat) (ht : t + n + 4 ≤ dat.length) {la ua : Option Addr} {ln lc un uc : Nat} (hs : SumAt dat t n) (hno : ∀ ps r, ¬ Blk (wn dat t n) ps r) :
    Calls Tryz.prog 54 #[.pointer (some ⟨p, 0, none⟩), .agg #[.int .i64 (t : Int), .int .i64 (n : Int), .slice la ln lc, .slice ua un uc]] w fun e w' => e = .returned (.agg #[.int .i64 (t : Int), .int .i64 (n : Int), .slice la ln lc, .slice ua un uc, .slice none 0 0, .bool false, .bool true]) ∧ Fr [] w w' := by
  rcases T.rd.split with ⟨e, _⟩ | ⟨q, o, c, e, _⟩
  · rw [e] at ht; simp at ht
  simp only [Value.slice.injEq] at e
  obtain ⟨rfl, _, rfl⟩ := e
  obtain ⟨W0, hW0⟩ : ∃ W0, W0 = (w.alloc (.cells #[.int .i64 (t : Int), .int .i64 (n : Int), .slice la ln lc, .slice ua un uc] 108)).alloc (.cells #[.int .i64 0, .int .i64 0, .slice none 0 0, .slice none 0 0, .slice none 0 0, .bool false, .bool false] 112) := ⟨_, rfl⟩
  have F0 : Hid (Fr [] w W0) := hid (by rw [hW0]; exact ((Fr.refl _ _).alloc _).alloc _)
  have n0 : Hid (W0.heap[w.heap.size]? = some (.cells #[.int .i64 (t : Int), .int .i64 (n : Int), .slice la ln lc, .slice ua un uc] 108 (0, 0))) := hid (by rw [hW0, blk_old _ _ (by simp)]; exact blk_new _ _)
  have n1 : Hid (W0.heap[w.heap.size + 1]? = some (.cells #[.int .i64 0, .int .i64 0, .slice none 0 0, .slice none 0 0, .slice none 0 0, .bool false, .bool false] 112 (0, 0))) := hid (by rw [hW0]; exact new_at _ _ (by simp))
  have T0 := T.fr F0.out
  have c0 : W0.cell? ⟨p, 0, none⟩ = some (.slice (some ⟨q, o, none⟩) dat.length dc) := by rw [blk_cell T0.at']; rfl
  have s0 : W0.cell? ⟨w.heap.size, 0, none⟩ = some (.int .i64 (t : Int)) := by rw [blk_cell n0.out]; rfl
  have s1 : W0.cell? ⟨w.heap.size, 1, none⟩ = some (.int .i64 (n : Int)) := by rw [blk_cell n0.out]; rfl
  have US := hid (unsealed_c W0.drew (T0.rd.fr (Fr.refl _ _).drew) hb hl t n ht true (Iff.intro (fun _ => hs) (fun _ => rfl)))
  have RW : Hid (∀ W, Fr [] W0 W → Rd W (.slice (some ⟨q, o + t, none⟩) n (dc - t)) (bv (wn dat t n))) := hid (fun W f => (T0.rd.fr f).win (by omega))
  have BW := hid (wn_by hb t n)
  have hwl : (wn dat t n).length ≤ 1000000000 := by rw [wn_len (by omega)]; omega
  have wt : IntKind.u64.wrap (t : Int) = (t : Int) := wrap64_nat (by omega)
  have wn' : IntKind.u64.wrap (n : Int) = (n : Int) := wrap64_nat (by omega)
  have PN : Hid (∀ W, Fr [] W0 W → _) := hid (fun W f => parse_no W (RW.out W f) BW.out hwl hno)
  clear T T0 hb hs hno
  generalize dat.length = L at *
  have CC : Hid (∀ W, Fr [] W0 W → W.cell? ⟨w.heap.size, 0, none⟩ = some (.int .i64 (t : Int)) ∧ W.cell? ⟨w.heap.size, 1, none⟩ = some (.int .i64 (n : Int)) ∧ W.cell? ⟨w.heap.size, 2, none⟩ = some (.slice la ln lc) ∧ W.cell? ⟨w.heap.size, 3, none⟩ = some (.slice ua un uc) ∧ W.cell? ⟨w.heap.size + 1, 0, none⟩ = some (.int .i64 0) ∧ W.cell? ⟨w.heap.size + 1, 1, none⟩ = some (.int .i64 0) ∧ W.cell? ⟨w.heap.size + 1, 2, none⟩ = some (.slice none 0 0) ∧ W.cell? ⟨w.heap.size + 1, 3, none⟩ = some (.slice none 0 0) ∧ W.cell? ⟨w.heap.size + 1, 4, none⟩ = some (.slice none 0 0) ∧ W.cell? ⟨w.heap.size + 1, 5, none⟩ = some (.bool false) ∧ W.cell? ⟨w.heap.size + 1, 6, none⟩ = some (.bool false) ∧ (∀ i, W.frozen? ⟨w.heap.size + 1, i, none⟩ = false) ∧ W.heap[w.heap.size + 1]? = some (.cells #[.int .i64 0, .int .i64 0, .slice none 0 0, .slice none 0 0, .slice none 0 0, .bool false, .bool false] 112 (0, 0))) := hid (fun W f => by
    have k0 := f.at n0.out (by simp)
    have k1 := f.at n1.out (by simp)
    exact ⟨by rw [blk_cell k0]; rfl, by rw [blk_cell k0]; rfl, by rw [blk_cell k0]; rfl, by rw [blk_cell k0]; rfl, by rw [blk_cell k1]; rfl, by rw [blk_cell k1]; rfl, by rw [blk_cell k1]; rfl, by rw [blk_cell k1]; rfl, by rw [blk_cell k1]; rfl, by rw [blk_cell k1]; rfl, by rw [blk_cell k1]; rfl, blk_frozen k1, k1⟩)
  go_enter Tryz.func54, Tryz.ntmps54
  go_upto_region 1 with fail
  rw [← hW0]
  clear hW0
  have hN : w.heap.size ≤ w.heap.size + 1 := by omega
  have SK : Hid (∀ w', Fr [] W0 w' → (fun w' => w'.cell? ⟨p, 0, none⟩ = some (.slice (some ⟨q, o, none⟩) L dc) ∧ w'.cell? ⟨w.heap.size, 0, none⟩ = some (.int .i64 (t : Int)) ∧ w'.cell? ⟨w.heap.size, 1, none⟩ = some (.int .i64 (n : Int))) w') := hid (fun w' f => ⟨cell_fr f c0, cell_fr f s0, cell_fr f s1⟩)
  clear c0 s0 s1
  refine wp_region_held_drew (S := fun w' => w'.cell? ⟨p, 0, none⟩ = some (.slice (some ⟨q, o, none⟩) L dc) ∧ w'.cell? ⟨w.heap.size, 0, none⟩ = some (.int .i64 (t : Int)) ∧ w'.cell? ⟨w.heap.size, 1, none⟩ = some (.int .i64 (n : Int))) (by kernel_rfl) (SK.out _ (Fr.refl [] W0).drew) (fun hS => ?_)
  refine wpAnyH_take (i := 0) (v := .pointer (some ⟨p, 0, none⟩)) rfl (by kernel_rfl) (by kernel_rfl) (by kernel_rfl) (fun _ _ _ h => h) (.inl ⟨by rfl, fun wx _ => by go_simp⟩) hS ?_
  simp only [Act.put]
  refine wpAnyH_take (i := 1) (v := .pointer (some ⟨p, 0, none⟩)) rfl (by kernel_rfl) (by kernel_rfl) (by kernel_rfl) (fun _ _ _ h => h) (.inl ⟨by rfl, fun wx _ => by go_simp⟩) hS ?_
  simp only [Act.put]
  refine wpAnyH_take (i := 2) (v := .pointer (some ⟨p, 0, none⟩)) rfl (by kernel_rfl) (by kernel_rfl) (by kernel_rfl) (fun _ _ _ h => h) (.inl ⟨by rfl, fun wx _ => by go_simp⟩) hS ?_
  simp only [Act.put]
  refine wpAnyH_take (i := 3) (v := .slice (some ⟨q, o, none⟩) L dc) rfl (by kernel_rfl) (by kernel_rfl) (by kernel_rfl) (fun _ _ _ h => h) (.inl ⟨by rfl, fun wx hX => by obtain ⟨x0, x1, x2⟩ := hX; go_simp⟩) hS ?_
  simp only [Act.put]
  refine wpAnyH_take (i := 4) (v := .pointer (some ⟨w.heap.size, 0, none⟩)) rfl (by kernel_rfl) (by kernel_rfl) (by kernel_rfl) (fun _ _ _ h => h) (.inl ⟨by rfl, fun wx _ => by go_simp⟩) hS ?_
  simp only [Act.put]
  refine wpAnyH_take (i := 5) (v := .int .i64 (t : Int)) rfl (by kernel_rfl) (by kernel_rfl) (by kernel_rfl) (fun _ _ _ h => h) (.inl ⟨by rfl, fun wx hX => by obtain ⟨x0, x1, x2⟩ := hX; go_simp⟩) hS ?_
  simp only [Act.put]
  refine wpAnyH_take (i := 6) (v := .int .u64 (t : Int)) rfl (by kernel_rfl) (by kernel_rfl) (by kernel_rfl) (fun _ _ _ h => h) (.inl ⟨by rfl, fun wx _ => by go_simp⟩) hS ?_
  simp only [Act.put]
  refine wpAnyH_take (i := 7) (v := .pointer (some ⟨w.heap.size, 1, none⟩)) rfl (by kernel_rfl) (by kernel_rfl) (by kernel_rfl) (fun _ _ _ h => h) (.inl ⟨by rfl, fun wx _ => by go_simp⟩) hS ?_
  simp only [Act.put]
  refine wpAnyH_take (i := 8) (v := .int .i64 (n : Int)) rfl (by kernel_rfl) (by kernel_rfl) (by kernel_rfl) (fun _ _ _ h => h) (.inl ⟨by rfl, fun wx hX => by obtain ⟨x0, x1, x2⟩ := hX; go_simp⟩) hS ?_
  simp only [Act.put]
  refine wpAnyH_take (i := 9) (v := .int .u64 (n : Int)) rfl (by kernel_rfl) (by kernel_rfl) (by kernel_rfl) (fun _ _ _ h => h) (.inl ⟨by rfl, fun wx _ => by go_simp⟩) hS ?_
  simp only [Act.put]
  refine wpAnyH_take (i := 10) (v := .agg #[.int .u64 (t : Int), .int .u64 (n : Int)]) rfl (by kernel_rfl) (by kernel_rfl) (by kernel_rfl) (fun _ _ _ h => h) (.inl ⟨by rfl, fun wx _ => by go_simp⟩) hS ?_
  simp only [Act.put]
  clear hS
  refine wpAnyH_ready (rs := [11]) (by kernel_rfl) (by simp) ?_
  refine AllReadyH.cons rfl (fun K hK => ?_) AllReadyH.nil
  go_simp
  refine US.out.mono ?_
  rintro e W1 ⟨rfl, f1⟩
  have F1 := hid ((Fr.refl [] W0).drew.trans f1)
  have hS1 := SK.out _ F1.out
  refine hK.out _ _ hS1 (fun _ => ?_)
  clear hK K
  refine wpAnyH_take (i := 12) (v := .tuple #[.slice (some ⟨q, o + t, none⟩) n (dc - t), .bool true]) rfl (by kernel_rfl) (by kernel_rfl) (by kernel_rfl) (fun _ _ _ h => h) (.inl ⟨by rfl, fun wx _ => by go_simp⟩) hS1 ?_
  simp only [Act.put]
  refine wpAnyH_take (i := 13) (v := .slice (some ⟨q, o + t, none⟩) n (dc - t)) rfl (by kernel_rfl) (by kernel_rfl) (by kernel_rfl) (fun _ _ _ h => h) (.inl ⟨by rfl, fun wx _ => by go_simp⟩) hS1 ?_
  simp only [Act.put]
  refine wpAnyH_take (i := 14) (v := .bool true) rfl (by kernel_rfl) (by kernel_rfl) (by kernel_rfl) (fun _ _ _ h => h) (.inl ⟨by rfl, fun wx _ => by go_simp⟩) hS1 ?_
  simp only [Act.put]
  refine wpAnyH_ready (rs := [15]) (by kernel_rfl) (by simp) ?_
  refine AllReadyH.cons rfl (fun K hK => ?_) AllReadyH.nil
  go_simp
  refine hK.out _ _ hS1 (fun _ => ?_)
  clear hK K
  refine wpAnyH_ready (rs := [16]) (by kernel_rfl) (by simp) ?_
  refine AllReadyH.cons rfl (fun K hK => ?_) AllReadyH.nil
  go_simp
  refine hK.out _ _ hS1 (fun _ => ?_)
  clear hK K
  clear hS1 SK
  refine wpAnyH_done (by kernel_rfl) ?_ _
  go_upto_region 5 with (go_at_call 64; refine (PN.out W1 F1.out).mono ?_; rintro e W2 ⟨rfl, f2⟩; have F2 := hid (F1.out.trans f2); clear f2)
  obtain ⟨a0, a1, a2, a3, b0, b1, b2, b3, b4, b5, b6, bf, m1⟩ := CC.out W2 F2.out
  have HM1 := hid m1
  clear m1 CC
  go_quiet (fail)
  go_wp2
  refine bodyPost_ret (v := .agg #[.int .i64 (t : Int), .int .i64 (n : Int), .slice la ln lc, .slice ua un uc, .slice none 0 0, .bool false, .bool true]) (results_cell_row rfl _ _ (w.heap.size + 1) 112 _ (0, 0) _ (by simp) (by rw [blk_set (blk_set (blk_set (blk_set (blk_set (blk_set (blk_set (show (W2.drewN nq).heap[w.heap.size + 1]? = _ from HM1.out) 0 _) 1 _) 2 _) 3 _) 4 _) 5 _) 6 _]; rfl) Tryz.underlying112 rfl sizeSg) rfl ?_
  exact ⟨rfl, ((((((((F0.out.trans F2.out).drewN _).set _ _ (.inr hN)).set _ _ (.inr hN)).set _ _ (.inr hN)).set _ _ (.inr hN)).set _ _ (.inr hN)).set _ _ (.inr hN)).set _ _ (.inr hN)⟩
set_option maxRecDepth 20000 in
set_option maxHeartbeats 6400000 in
theorem look_empty (w : World) {p : Nat} {dat flt : List Nat} {ips : Ps} {da fa : Option Addr} {dc fc G : Nat} (T : Tab w p dat flt ips da dc fa fc G) (hb : By dat) (hl : dat.length ≤ 1000000000) (t n : Nat) (ht : t + n + 4 ≤ dat.length) {la ua : Option Addr} {ln lc un uc : Nat} (hs : SumAt dat t n) {r : Nat} (hq : Blk (wn dat t n) [] r) :
    Calls Tryz.prog 54 #[.pointer (some ⟨p, 0, none⟩), .agg #[.int .i64 (t : Int), .int .i64 (n : Int), .slice la ln lc, .slice ua un uc]] w fun e w' => e = .returned (.agg #[.int .i64 (t : Int), .int .i64 (n : Int), .slice la ln lc, .slice ua un uc, .slice none 0 0, .bool false, .bool true]) ∧ Fr [] w w' := by
  rcases T.rd.split with ⟨e, _⟩ | ⟨q, o, c, e, _⟩
  · rw [e] at ht; simp at ht
  simp only [Value.slice.injEq] at e
  obtain ⟨rfl, _, rfl⟩ := e
  obtain ⟨W0, hW0⟩ : ∃ W0, W0 = (w.alloc (.cells #[.int .i64 (t : Int), .int .i64 (n : Int), .slice la ln lc, .slice ua un uc] 108)).alloc (.cells #[.int .i64 0, .int .i64 0, .slice none 0 0, .slice none 0 0, .slice none 0 0, .bool false, .bool false] 112) := ⟨_, rfl⟩
  have F0 : Hid (Fr [] w W0) := hid (by rw [hW0]; exact ((Fr.refl _ _).alloc _).alloc _)
  have n0 : Hid (W0.heap[w.heap.size]? = some (.cells #[.int .i64 (t : Int), .int .i64 (n : Int), .slice la ln lc, .slice ua un uc] 108 (0, 0))) := hid (by rw [hW0, blk_old _ _ (by simp)]; exact blk_new _ _)
  have n1 : Hid (W0.heap[w.heap.size + 1]? = some (.cells #[.int .i64 0, .int .i64 0, .slice none 0 0, .slice none 0 0, .slice none 0 0, .bool false, .bool false] 112 (0, 0))) := hid (by rw [hW0]; exact new_at _ _ (by simp))
  have T0 := T.fr F0.out
  have c0 : W0.cell? ⟨p, 0, none⟩ = some (.slice (some ⟨q, o, none⟩) dat.length dc) := by rw [blk_cell T0.at']; rfl
  have s0 : W0.cell? ⟨w.heap.size, 0, none⟩ = some (.int .i64 (t : Int)) := by rw [blk_cell n0.out]; rfl
  have s1 : W0.cell? ⟨w.heap.size, 1, none⟩ = some (.int .i64 (n : Int)) := by rw [blk_cell n0.out]; rfl
  have US := hid (unsealed_c W0.drew (T0.rd.fr (Fr.refl _ _).drew) hb hl t n ht true (Iff.intro (fun _ => hs) (fun _ => rfl)))
  have RW : Hid (∀ W, Fr [] W0 W → Rd W (.slice (some ⟨q, o + t, none⟩) n (dc - t)) (bv (wn dat t n))) := hid (fun W f => (T0.rd.fr f).win (by omega))
  have BW := hid (wn_by hb t n)
  have hwl : (wn dat t n).length ≤ 1000000000 := by rw [wn_len (by omega)]; omega
  have wt : IntKind.u64.wrap (t : Int) = (t : Int) := wrap64_nat (by omega)
  have wn' : IntKind.u64.wrap (n : Int) = (n : Int) := wrap64_nat (by omega)
  have PN : Hid (∀ W, Fr [] W0 W → _) := hid (fun W f => parse_ok W (RW.out W f) BW.out hwl hq)
  clear T T0 hb hs hq
  generalize dat.length = L at *
  have CC : Hid (∀ W, Fr [] W0 W → W.cell? ⟨w.heap.size, 0, none⟩ = some (.int .i64 (t : Int)) ∧ W.cell? ⟨w.heap.size, 1, none⟩ = some (.int .i64 (n : Int)) ∧ W.cell? ⟨w.heap.size, 2, none⟩ = some (.slice la ln lc) ∧ W.cell? ⟨w.heap.size, 3, none⟩ = some (.slice ua un uc) ∧ W.cell? ⟨w.heap.size + 1, 0, none⟩ = some (.int .i64 0) ∧ W.cell? ⟨w.heap.size + 1, 1, none⟩ = some (.int .i64 0) ∧ W.cell? ⟨w.heap.size + 1, 2, none⟩ = some (.slice none 0 0) ∧ W.cell? ⟨w.heap.size + 1, 3, none⟩ = some (.slice none 0 0) ∧ W.cell? ⟨w.heap.size + 1, 4, none⟩ = some (.slice none 0 0) ∧ W.cell? ⟨w.heap.size + 1, 5, none⟩ = some (.bool false) ∧ W.cell? ⟨w.heap.size + 1, 6, none⟩ = some (.bool false) ∧ (∀ i, W.frozen? ⟨w.heap.size + 1, i, none⟩ = false) ∧ W.heap[w.heap.size + 1]? = some (.cells #[.int .i64 0, .int .i64 0, .slice none 0 0, .slice none 0 0, .slice none 0 0, .bool false, .bool false] 112 (0, 0))) := hid (fun W f => by
    have k0 := f.at n0.out (by simp)
    have k1 := f.at n1.out (by simp)
    exact ⟨by rw [blk_cell k0]; rfl, by rw [blk_cell k0]; rfl, by rw [blk_cell k0]; rfl, by rw [blk_cell k0]; rfl, by rw [blk_cell k1]; rfl, by rw [blk_cell k1]; rfl, by rw [blk_cell k1]; rfl, by rw [blk_cell k1]; rfl, by rw [blk_cell k1]; rfl, by rw [blk_cell k1]; rfl, by rw [blk_cell k1]; rfl, blk_frozen k1, k1⟩)
  go_enter Tryz.func54, Tryz.ntmps54
  go_upto_region 1 with fail
  rw [← hW0]
  clear hW0
  have hN : w.heap.size ≤ w.heap.size + 1 := by omega
  have SK : Hid (∀ w', Fr [] W0 w' → (fun w' => w'.cell? ⟨p, 0, none⟩ = some (.slice (some ⟨q, o, none⟩) L dc) ∧ w'.cell? ⟨w.heap.size, 0, none⟩ = some (.int .i64 (t : Int)) ∧ w'.cell? ⟨w.heap.size, 1, none⟩ = some (.int .i64 (n : Int))) w') := hid (fun w' f => ⟨cell_fr f c0, cell_fr f s0, cell_fr f s1⟩)
  clear c0 s0 s1
  refine wp_region_held_drew (S := fun w' => w'.cell? ⟨p, 0, none⟩ = some (.slice (some ⟨q, o, none⟩) L dc) ∧ w'.cell? ⟨w.heap.size, 0, none⟩ = some (.int .i64 (t : Int)) ∧ w'.cell? ⟨w.heap.size, 1, none⟩ = some (.int .i64 (n : Int))) (by kernel_rfl) (SK.out _ (Fr.refl [] W0).drew) (fun hS => ?_)
  refine wpAnyH_take (i := 0) (v := .pointer (some ⟨p, 0, none⟩)) rfl (by kernel_rfl) (by kernel_rfl) (by kernel_rfl) (fun _ _ _ h => h) (.inl ⟨by rfl, fun wx _ => by go_simp⟩) hS ?_
  simp only [Act.put]
  refine wpAnyH_take (i := 1) (v := .pointer (some ⟨p, 0, none⟩)) rfl (by kernel_rfl) (by kernel_rfl) (by kernel_rfl) (fun _ _ _ h => h) (.inl ⟨by rfl, fun wx _ => by go_simp⟩) hS ?_
  simp only [Act.put]
  refine wpAnyH_take (i := 2) (v := .pointer (some ⟨p, 0, none⟩)) rfl (by kernel_rfl) (by kernel_rfl) (by kernel_rfl) (fun _ _ _ h => h) (.inl ⟨by rfl, fun wx _ => by go_simp⟩) hS ?_
  simp only [Act.put]
  refine wpAnyH_take (i := 3) (v := .slice (some ⟨q, o, none⟩) L dc) rfl (by kernel_rfl) (by kernel_rfl) (by kernel_rfl) (fun _ _ _ h => h) (.inl ⟨by rfl, fun wx hX => by obtain ⟨x0, x1, x2⟩ := hX; go_simp⟩) hS ?_
  simp only [Act.put]
  refine wpAnyH_take (i := 4) (v := .pointer (some ⟨w.heap.size, 0, none⟩)) rfl (by kernel_rfl) (by kernel_rfl) (by kernel_rfl) (fun _ _ _ h => h) (.inl ⟨by rfl, fun wx _ => by go_simp⟩) hS ?_
  simp only [Act.put]
  refine wpAnyH_take (i := 5) (v := .int .i64 (t : Int)) rfl (by kernel_rfl) (by kernel_rfl) (by kernel_rfl) (fun _ _ _ h => h) (.inl ⟨by rfl, fun wx hX => by obtain ⟨x0, x1, x2⟩ := hX; go_simp⟩) hS ?_
  simp only [Act.put]
  refine wpAnyH_take (i := 6) (v := .int .u64 (t : Int)) rfl (by kernel_rfl) (by kernel_rfl) (by kernel_rfl) (fun _ _ _ h => h) (.inl ⟨by rfl, fun wx _ => by go_simp⟩) hS ?_
  simp only [Act.put]
  refine wpAnyH_take (i := 7) (v := .pointer (some ⟨w.heap.size, 1, none⟩)) rfl (by kernel_rfl) (by kernel_rfl) (by kernel_rfl) (fun _ _ _ h => h) (.inl ⟨by rfl, fun wx _ => by go_simp⟩) hS ?_
  simp only [Act.put]
  refine wpAnyH_take (i := 8) (v := .int .i64 (n : Int)) rfl (by kernel_rfl) (by kernel_rfl) (by kernel_rfl) (fun _ _ _ h => h) (.inl ⟨by rfl, fun wx hX => by obtain ⟨x0, x1, x2⟩ := hX; go_simp⟩) hS ?_
  simp only [Act.put]
  refine wpAnyH_take (i := 9) (v := .int .u64 (n : Int)) rfl (by kernel_rfl) (by kernel_rfl) (by kernel_rfl) (fun _ _ _ h => h) (.inl ⟨by rfl, fun wx _ => by go_simp⟩) hS ?_
  simp only [Act.put]
  refine wpAnyH_take (i := 10) (v := .agg #[.int .u64 (t : Int), .int .u64 (n : Int)]) rfl (by kernel_rfl) (by kernel_rfl) (by kernel_rfl) (fun _ _ _ h => h) (.inl ⟨by rfl, fun wx _ => by go_simp⟩) hS ?_
  simp only [Act.put]
  clear hS
  refine wpAnyH_ready (rs := [11]) (by kernel_rfl) (by simp) ?_
  refine AllReadyH.cons rfl (fun K hK => ?_) AllReadyH.nil
  go_simp
  refine US.out.mono ?_
  rintro e W1 ⟨rfl, f1⟩
  have F1 := hid ((Fr.refl [] W0).drew.trans f1)
  have hS1 := SK.out _ F1.out
  refine hK.out _ _ hS1 (fun _ => ?_)
  clear hK K
  refine wpAnyH_take (i := 12) (v := .tuple #[.slice (some ⟨q, o + t, none⟩) n (dc - t), .bool true]) rfl (by kernel_rfl) (by kernel_rfl) (by kernel_rfl) (fun _ _ _ h => h) (.inl ⟨by rfl, fun wx _ => by go_simp⟩) hS1 ?_
  simp only [Act.put]
  refine wpAnyH_take (i := 13) (v := .slice (some ⟨q, o + t, none⟩) n (dc - t)) rfl (by kernel_rfl) (by kernel_rfl) (by kernel_rfl) (fun _ _ _ h => h) (.inl ⟨by rfl, fun wx _ => by go_simp⟩) hS1 ?_
  simp only [Act.put]
  refine wpAnyH_take (i := 14) (v := .bool true) rfl (by kernel_rfl) (by kernel_rfl) (by kernel_rfl) (fun _ _ _ h => h) (.inl ⟨by rfl, fun wx _ => by go_simp⟩) hS1 ?_
  simp only [Act.put]
  refine wpAnyH_ready (rs := [15]) (by kernel_rfl) (by simp) ?_
  refine AllReadyH.cons rfl (fun K hK => ?_) AllReadyH.nil
  go_simp
  refine hK.out _ _ hS1 (fun _ => ?_)
  clear hK K
  refine wpAnyH_ready (rs := [16]) (by kernel_rfl) (by simp) ?_
  refine AllReadyH.cons rfl (fun K hK => ?_) AllReadyH.nil
  go_simp
  refine hK.out _ _ hS1 (fun _ => ?_)
  clear hK K
  clear hS1 SK
  refine wpAnyH_done (by kernel_rfl) ?_ _
  go_upto_region 5 with (go_at_call 64; refine (PN.out W1 F1.out).mono ?_; rintro e W2 ⟨lv, rfl, ck, f2⟩; obtain ⟨ea, ec, hlv, _⟩ := ck.rd; rw [List.length_nil] at hlv; subst hlv; have F2 := hid (F1.out.trans f2); clear f2 ck)
  obtain ⟨a0, a1, a2, a3, b0, b1, b2, b3, b4, b5, b6, bf, m1⟩ := CC.out W2 F2.out
  have HM1 := hid m1
  clear m1 CC
  go_quiet (fail)
  go_wp2
  refine bodyPost_ret (v := .agg #[.int .i64 (t : Int), .int .i64 (n : Int), .slice la ln lc, .slice ua un uc, .slice none 0 0, .bool false, .bool true]) (results_cell_row rfl _ _ (w.heap.size + 1) 112 _ (0, 0) _ (by simp) (by rw [blk_set (blk_set (blk_set (blk_set (blk_set (blk_set (blk_set (show (W2.drewN nq).heap[w.heap.size + 1]? = _ from HM1.out) 0 _) 1 _) 2 _) 3 _) 4 _) 5 _) 6 _]; rfl) Tryz.underlying112 rfl sizeSg) rfl ?_
  exact ⟨rfl, ((((((((F0.out.trans F2.out).drewN _).set _ _ (.inr hN)).set _ _ (.inr hN)).set _ _ (.inr hN)).set _ _ (.inr hN)).set _ _ (.inr hN)).set _ _ (.inr hN)).set _ _ (.inr hN)⟩
set_option maxRecDepth 20000 in
set_option maxHeartbeats 6400000 in
theorem look_last (w : World) {p : Nat} {dat flt : List Nat} {ips : Ps} {da fa : Option Addr} {dc fc G : Nat} (T : Tab w p dat flt ips da dc fa fc G) (hb : By dat) (hl : dat.length ≤ 1000000000) (t n : Nat) (ht : t + n + 4 ≤ dat.length) {la ua : Option Addr} {ln lc un uc : Nat} (hs : SumAt dat t n) {k : List Nat} (hk : Rd w (.slice la ln lc) (bv k)) (bk : By k) {qs : Ps} {r : Nat} (hq : Blk (wn dat t n) qs r) (hne : qs ≠ []) (hl' : lastK qs ≠ k) :
    Calls Tryz.prog 54 #[.pointer (some ⟨p, 0, none⟩), .agg #[.int .i64 (t : Int), .int .i64 (n : Int), .slice la ln lc, .slice ua un uc]] w fun e w' => e = .returned (.agg #[.int .i64 (t : Int), .int .i64 (n : Int), .slice la ln lc, .slice ua un uc, .slice none 0 0, .bool false, .bool true]) ∧ Fr [] w w' := by
  rcases T.rd.split with ⟨e, _⟩ | ⟨q, o, c, e, _⟩
  · rw [e] at ht; simp at ht
  simp only [Value.slice.injEq] at e
  obtain ⟨rfl, _, rfl⟩ := e
  obtain ⟨W0, hW0⟩ : ∃ W0, W0 = (w.alloc (.cells #[.int .i64 (t : Int), .int .i64 (n : Int), .slice la ln lc, .slice ua un uc] 108)).alloc (.cells #[.int .i64 0, .int .i64 0, .slice none 0 0, .slice none 0 0, .slice none 0 0, .bool false, .bool false] 112) := ⟨_, rfl⟩
  have F0 : Hid (Fr [] w W0) := hid (by rw [hW0]; exact ((Fr.refl _ _).alloc _).alloc _)
  have n0 : Hid (W0.heap[w.heap.size]? = some (.cells #[.int .i64 (t : Int), .int .i64 (n : Int), .slice la ln lc, .slice ua un uc] 108 (0, 0))) := hid (by rw [hW0, blk_old _ _ (by simp)]; exact blk_new _ _)
  have n1 : Hid (W0.heap[w.heap.size + 1]? = some (.cells #[.int .i64 0, .int .i64 0, .slice none 0 0, .slice none 0 0, .slice none 0 0, .bool false, .bool false] 112 (0, 0))) := hid (by rw [hW0]; exact new_at _ _ (by simp))
  have T0 := T.fr F0.out
  have c0 : W0.cell? ⟨p, 0, none⟩ = some (.slice (some ⟨q, o, none⟩) dat.length dc) := by rw [blk_cell T0.at']; rfl
  have s0 : W0.cell? ⟨w.heap.size, 0, none⟩ = some (.int .i64 (t : Int)) := by rw [blk_cell n0.out]; rfl
  have s1 : W0.cell? ⟨w.heap.size, 1, none⟩ = some (.int .i64 (n : Int)) := by rw [blk_cell n0.out]; rfl
  have US := hid (unsealed_c W0.drew (T0.rd.fr (Fr.refl _ _).drew) hb hl t n ht true (Iff.intro (fun _ => hs) (fun _ => rfl)))
  have RW : Hid (∀ W, Fr [] W0 W → Rd W (.slice (some ⟨q, o + t, none⟩) n (dc - t)) (bv (wn dat t n))) := hid (fun W f => (T0.rd.fr f).win (by omega))
  have BW := hid (wn_by hb t n)
  have hwl : (wn dat t n).length ≤ 1000000000 := by rw [wn_len (by omega)]; omega
  have wt : IntKind.u64.wrap (t : Int) = (t : Int) := wrap64_nat (by omega)
  have wn' : IntKind.u64.wrap (n : Int) = (n : Int) := wrap64_nat (by omega)
  have PN : Hid (∀ W, Fr [] W0 W → _) := hid (fun W f => parse_ok W (RW.out W f) BW.out hwl hq)
  have HK := hid (hk.fr F0.out)
  have BK := hid bk
  have HL := hid hl'
  have hpos : 0 < qs.length := List.length_pos_iff.2 hne
  have hcn := Nat.le_trans (blk_count hq) hwl
  have BQ : Hid (By (kA qs (qs.length - 1)) ∧ True) := hid ⟨(blk_byp hq (wn_by hb t n) (qs.length - 1)).1, trivial⟩
  clear T T0 hb hs hq hk bk hne hl'
  generalize dat.length = L at *
  have CC : Hid (∀ W, Fr [] W0 W → W.cell? ⟨w.heap.size, 0, none⟩ = some (.int .i64 (t : Int)) ∧ W.cell? ⟨w.heap.size, 1, none⟩ = some (.int .i64 (n : Int)) ∧ W.cell? ⟨w.heap.size, 2, none⟩ = some (.slice la ln lc) ∧ W.cell? ⟨w.heap.size, 3, none⟩ = some (.slice ua un uc) ∧ W.cell? ⟨w.heap.size + 1, 0, none⟩ = some (.int .i64 0) ∧ W.cell? ⟨w.heap.size + 1, 1, none⟩ = some (.int .i64 0) ∧ W.cell? ⟨w.heap.size + 1, 2, none⟩ = some (.slice none 0 0) ∧ W.cell? ⟨w.heap.size + 1, 3, none⟩ = some (.slice none 0 0) ∧ W.cell? ⟨w.heap.size + 1, 4, none⟩ = some (.slice none 0 0) ∧ W.cell? ⟨w.heap.size + 1, 5, none⟩ = some (.bool false) ∧ W.cell? ⟨w.heap.size + 1, 6, none⟩ = some (.bool false) ∧ (∀ i, W.frozen? ⟨w.heap.size + 1, i, none⟩ = false) ∧ W.heap[w.heap.size + 1]? = some (.cells #[.int .i64 0, .int .i64 0, .slice none 0 0, .slice none 0 0, .slice none 0 0, .bool false, .bool false] 112 (0, 0))) := hid (fun W f => by
    have k0 := f.at n0.out (by simp)
    have k1 := f.at n1.out (by simp)
    exact ⟨by rw [blk_cell k0]; rfl, by rw [blk_cell k0]; rfl, by rw [blk_cell k0]; rfl, by rw [blk_cell k0]; rfl, by rw [blk_cell k1]; rfl, by rw [blk_cell k1]; rfl, by rw [blk_cell k1]; rfl, by rw [blk_cell k1]; rfl, by rw [blk_cell k1]; rfl, by rw [blk_cell k1]; rfl, by rw [blk_cell k1]; rfl, blk_frozen k1, k1⟩)
  go_enter Tryz.func54, Tryz.ntmps54
  go_upto_region 1 with fail
  rw [← hW0]
  clear hW0
  have hN : w.heap.size ≤ w.heap.size + 1 := by omega
  have SK : Hid (∀ w', Fr [] W0 w' → (fun w' => w'.cell? ⟨p, 0, none⟩ = some (.slice (some ⟨q, o, none⟩) L dc) ∧ w'.cell? ⟨w.heap.size, 0, none⟩ = some (.int .i64 (t : Int)) ∧ w'.cell? ⟨w.heap.size, 1, none⟩ = some (.int .i64 (n : Int))) w') := hid (fun w' f => ⟨cell_fr f c0, cell_fr f s0, cell_fr f s1⟩)
  clear c0 s0 s1
  refine wp_region_held_drew (S := fun w' => w'.cell? ⟨p, 0, none⟩ = some (.slice (some ⟨q, o, none⟩) L dc) ∧ w'.cell? ⟨w.heap.size, 0, none⟩ = some (.int .i64 (t : Int)) ∧ w'.cell? ⟨w.heap.size, 1, none⟩ = some (.int .i64 (n : Int))) (by kernel_rfl) (SK.out _ (Fr.refl [] W0).drew) (fun hS => ?_)
  refine wpAnyH_take (i := 0) (v := .pointer (some ⟨p, 0, none⟩)) rfl (by kernel_rfl) (by kernel_rfl) (by kernel_rfl) (fun _ _ _ h => h) (.inl ⟨by rfl, fun wx _ => by go_simp⟩) hS ?_
  simp only [Act.put]
  refine wpAnyH_take (i := 1) (v := .pointer (some ⟨p, 0, none⟩)) rfl (by kernel_rfl) (by kernel_rfl) (by kernel_rfl) (fun _ _ _ h => h) (.inl ⟨by rfl, fun wx _ => by go_simp⟩) hS ?_
  simp only [Act.put]
  refine wpAnyH_take (i := 2) (v := .pointer (some ⟨p, 0, none⟩)) rfl (by kernel_rfl) (by kernel_rfl) (by kernel_rfl) (fun _ _ _ h => h) (.inl ⟨by rfl, fun wx _ => by go_simp⟩) hS ?_
  simp only [Act.put]
  refine wpAnyH_take (i := 3) (v := .slice (some ⟨q, o, none⟩) L dc) rfl (by kernel_rfl) (by kernel_rfl) (by kernel_rfl) (fun _ _ _ h => h) (.inl ⟨by rfl, fun wx hX => by obtain ⟨x0, x1, x2⟩ := hX; go_simp⟩) hS ?_
  simp only [Act.put]
  refine wpAnyH_take (i := 4) (v := .pointer (some ⟨w.heap.size, 0, none⟩)) rfl (by kernel_rfl) (by kernel_rfl) (by kernel_rfl) (fun _ _ _ h => h) (.inl ⟨by rfl, fun wx _ => by go_simp⟩) hS ?_
  simp only [Act.put]
  refine wpAnyH_take (i := 5) (v := .int .i64 (t : Int)) rfl (by kernel_rfl) (by kernel_rfl) (by kernel_rfl) (fun _ _ _ h => h) (.inl ⟨by rfl, fun wx hX => by obtain ⟨x0, x1, x2⟩ := hX; go_simp⟩) hS ?_
  simp only [Act.put]
  refine wpAnyH_take (i := 6) (v := .int .u64 (t : Int)) rfl (by kernel_rfl) (by kernel_rfl) (by kernel_rfl) (fun _ _ _ h => h) (.inl ⟨by rfl, fun wx _ => by go_simp⟩) hS ?_
  simp only [Act.put]
  refine wpAnyH_take (i := 7) (v := .pointer (some ⟨w.heap.size, 1, none⟩)) rfl (by kernel_rfl) (by kernel_rfl) (by kernel_rfl) (fun _ _ _ h => h) (.inl ⟨by rfl, fun wx _ => by go_simp⟩) hS ?_
  simp only [Act.put]
  refine wpAnyH_take (i := 8) (v := .int .i64 (n : Int)) rfl (by kernel_rfl) (by kernel_rfl) (by kernel_rfl) (fun _ _ _ h => h) (.inl ⟨by rfl, fun wx hX => by obtain ⟨x0, x1, x2⟩ := hX; go_simp⟩) hS ?_
  simp only [Act.put]
  refine wpAnyH_take (i := 9) (v := .int .u64 (n : Int)) rfl (by kernel_rfl) (by kernel_rfl) (by kernel_rfl) (fun _ _ _ h => h) (.inl ⟨by rfl, fun wx _ => by go_simp⟩) hS ?_
  simp only [Act.put]
  refine wpAnyH_take (i := 10) (v := .agg #[.int .u64 (t : Int), .int .u64 (n : Int)]) rfl (by kernel_rfl) (by kernel_rfl) (by kernel_rfl) (fun _ _ _ h => h) (.inl ⟨by rfl, fun wx _ => by go_simp⟩) hS ?_
  simp only [Act.put]
  clear hS
  refine wpAnyH_ready (rs := [11]) (by kernel_rfl) (by simp) ?_
  refine AllReadyH.cons rfl (fun K hK => ?_) AllReadyH.nil
  go_simp
  refine US.out.mono ?_
  rintro e W1 ⟨rfl, f1⟩
  have F1 := hid ((Fr.refl [] W0).drew.trans f1)
  have hS1 := SK.out _ F1.out
  refine hK.out _ _ hS1 (fun _ => ?_)
  clear hK K
  refine wpAnyH_take (i := 12) (v := .tuple #[.slice (some ⟨q, o + t, none⟩) n (dc - t), .bool true]) rfl (by kernel_rfl) (by kernel_rfl) (by kernel_rfl) (fun _ _ _ h => h) (.inl ⟨by rfl, fun wx _ => by go_simp⟩) hS1 ?_
  simp only [Act.put]
  refine wpAnyH_take (i := 13) (v := .slice (some ⟨q, o + t, none⟩) n (dc - t)) rfl (by kernel_rfl) (by kernel_rfl) (by kernel_rfl) (fun _ _ _ h => h) (.inl ⟨by rfl, fun wx _ => by go_simp⟩) hS1 ?_
  simp only [Act.put]
  refine wpAnyH_take (i := 14) (v := .bool true) rfl (by kernel_rfl) (by kernel_rfl) (by kernel_rfl) (fun _ _ _ h => h) (.inl ⟨by rfl, fun wx _ => by go_simp⟩) hS1 ?_
  simp only [Act.put]
  refine wpAnyH_ready (rs := [15]) (by kernel_rfl) (by simp) ?_
  refine AllReadyH.cons rfl (fun K hK => ?_) AllReadyH.nil
  go_simp
  refine hK.out _ _ hS1 (fun _ => ?_)
  clear hK K
  refine wpAnyH_ready (rs := [16]) (by kernel_rfl) (by simp) ?_
  refine AllReadyH.cons rfl (fun K hK => ?_) AllReadyH.nil
  go_simp
  refine hK.out _ _ hS1 (fun _ => ?_)
  clear hK K
  clear hS1 SK
  refine wpAnyH_done (by kernel_rfl) ?_ _
  go_upto_region 5 with (go_at_call 64; refine (PN.out W1 F1.out).mono ?_; rintro e W2 ⟨lv, rfl, ck, f2⟩; have CK := hid ck; have F2 := hid (F1.out.trans f2); clear f2 ck)
  obtain ⟨ea, ec, hlv, hec, kk⟩ := CK.out.rd
  obtain ⟨eb, eo, hea, kp⟩ := kk hpos
  subst hlv
  subst hea
  obtain ⟨ka, kc, va, vc, PP⟩ := kp (qs.length - 1) _ (ps_at (by omega))
  have z1 := PP.ck
  have RKK := hid PP.rk
  dsimp only at z1 RKK
  have EQ : Hid (∀ m, Calls Tryz.prog 58 #[.slice ka (kA qs (qs.length - 1)).length kc, .slice la ln lc] (W2.drewN m) fun e w' => e = .returned (.bool false) ∧ w' = W2.drewN m) := hid (fun m => by
    have := bytesEqual_c (w := W2.drewN m) (RKK.out.fr ((Fr.refl _ _).drewN m)) ((HK.out.fr F2.out).fr ((Fr.refl _ _).drewN m)) BQ.out.1 BK.out
    rw [decide_eq_false (show ¬ kA qs (qs.length - 1) = k from HL.out)] at this
    exact this)
  clear kk kp PP
  obtain ⟨qn, hqn⟩ : ∃ qn, qn = qs.length := ⟨_, rfl⟩
  have HQN := hid hqn
  rw [← hqn] at hpos hec z1 EQ hcn ⊢
  generalize (kA qs (qn - 1)).length = kl at *
  clear hqn
  have g0 : ((qn : Int) == 0) = false := by rw [beq_eq_false_iff_ne]; omega
  have g1 : ((qn : Int) - 1).toNat = qn - 1 := by omega
  have g2 : (0 : Int) ≤ (qn : Int) - 1 := by omega
  have g3 : (qn : Int) - 1 < (qn : Int) := by omega
  have g4 : IntKind.i64.wrap ((qn : Int) - 1) = (qn : Int) - 1 := by rw [IntKind.wrap_i64]; omega
  have g5 : qn - 1 < qn := by omega
  obtain ⟨a0, a1, a2, a3, b0, b1, b2, b3, b4, b5, b6, bf, m1⟩ := CC.out W2 F2.out
  have HM1 := hid m1
  clear m1 CC
  go_quiet ((go_at_call 58; exact Calls.quiet_of_same (EQ.out _)))
  go_wp2
  refine bodyPost_ret (v := .agg #[.int .i64 (t : Int), .int .i64 (n : Int), .slice la ln lc, .slice ua un uc, .slice none 0 0, .bool false, .bool true]) (results_cell_row rfl _ _ (w.heap.size + 1) 112 _ (0, 0) _ (by simp) (by rw [blk_set (blk_set (blk_set (blk_set (blk_set (blk_set (blk_set (show (W2.drewN nq).heap[w.heap.size + 1]? = _ from HM1.out) 0 _) 1 _) 2 _) 3 _) 4 _) 5 _) 6 _]; rfl) Tryz.underlying112 rfl sizeSg) rfl ?_
  exact ⟨rfl, ((((((((F0.out.trans F2.out).drewN _).set _ _ (.inr hN)).set _ _ (.inr hN)).set _ _ (.inr hN)).set _ _ (.inr hN)).set _ _ (.inr hN)).set _ _ (.inr hN)).set _ _ (.inr hN)⟩
set_option maxRecDepth 20000 in
set_option maxHeartbeats 6400000 in
theorem look_good (w : World) {p : Nat} {dat flt : List Nat} {ips : Ps} {da fa : Option Addr} {dc fc G : Nat} (T : Tab w p dat flt ips da dc fa fc G) (hb : By dat) (hl : dat.length ≤ 1000000000) (t n : Nat) (ht : t + n + 4 ≤ dat.length) {la ua : Option Addr} {ln lc un uc : Nat} (hs : SumAt dat t n) {k : List Nat} (hk : Rd w (.slice la ln lc) (bv k)) (bk : By k) {qs : Ps} {r : Nat} (hq : Blk (wn dat t n) qs r) (hne : qs ≠ []) (hl' : lastK qs = k) :
    Calls Tryz.prog 54 #[.pointer (some ⟨p, 0, none⟩), .agg #[.int .i64 (t : Int), .int .i64 (n : Int), .slice la ln lc, .slice ua un uc]] w fun e w' => ∃ ev, e = .returned (.agg #[.int .i64 (t : Int), .int .i64 (n : Int), .slice la ln lc, .slice ua un uc, ev, .bool false, .bool false]) ∧ ColK w' w.heap.size ev qs ∧ Fr [] w w' := by
  rcases T.rd.split with ⟨e, _⟩ | ⟨q, o, c, e, _⟩
  · rw [e] at ht; simp at ht
  simp only [Value.slice.injEq] at e
  obtain ⟨rfl, _, rfl⟩ := e
  obtain ⟨W0, hW0⟩ : ∃ W0, W0 = (w.alloc (.cells #[.int .i64 (t : Int), .int .i64 (n : Int), .slice la ln lc, .slice ua un uc] 108)).alloc (.cells #[.int .i64 0, .int .i64 0, .slice none 0 0, .slice none 0 0, .slice none 0 0, .bool false, .bool false] 112) := ⟨_, rfl⟩
  have F0 : Hid (Fr [] w W0) := hid (by rw [hW0]; exact ((Fr.refl _ _).alloc _).alloc _)
  have n0 : Hid (W0.heap[w.heap.size]? = some (.cells #[.int .i64 (t : Int), .int .i64 (n : Int), .slice la ln lc, .slice ua un uc] 108 (0, 0))) := hid (by rw [hW0, blk_old _ _ (by simp)]; exact blk_new _ _)
  have n1 : Hid (W0.heap[w.heap.size + 1]? = some (.cells #[.int .i64 0, .int .i64 0, .slice none 0 0, .slice none 0 0, .slice none 0 0, .bool false, .bool false] 112 (0, 0))) := hid (by rw [hW0]; exact new_at _ _ (by simp))
  have T0 := T.fr F0.out
  have c0 : W0.cell? ⟨p, 0, none⟩ = some (.slice (some ⟨q, o, none⟩) dat.length dc) := by rw [blk_cell T0.at']; rfl
  have s0 : W0.cell? ⟨w.heap.size, 0, none⟩ = some (.int .i64 (t : Int)) := by rw [blk_cell n0.out]; rfl
  have s1 : W0.cell? ⟨w.heap.size, 1, none⟩ = some (.int .i64 (n : Int)) := by rw [blk_cell n0.out]; rfl
  have US := hid (unsealed_c W0.drew (T0.rd.fr (Fr.refl _ _).drew) hb hl t n ht true (Iff.intro (fun _ => hs) (fun _ => rfl)))
  have RW : Hid (∀ W, Fr [] W0 W → Rd W (.slice (some ⟨q, o + t, none⟩) n (dc - t)) (bv (wn dat t n))) := hid (fun W f => (T0.rd.fr f).win (by omega))
  have BW := hid (wn_by hb t n)
  have hwl : (wn dat t n).length ≤ 1000000000 := by rw [wn_len (by omega)]; omega
  have wt : IntKind.u64.wrap (t : Int) = (t : Int) := wrap64_nat (by omega)
  have wn' : IntKind.u64.wrap (n : Int) = (n : Int) := wrap64_nat (by omega)
  have PN : Hid (∀ W, Fr [] W0 W → _) := hid (fun W f => parse_ok W (RW.out W f) BW.out hwl hq)
  have HK := hid (hk.fr F0.out)
  have BK := hid bk
  have HL := hid hl'
  have hpos : 0 < qs.length := List.length_pos_iff.2 hne
  have hcn := Nat.le_trans (blk_count hq) hwl
  have BQ : Hid (By (kA qs (qs.length - 1)) ∧ True) := hid ⟨(blk_byp hq (wn_by hb t n) (qs.length - 1)).1, trivial⟩
  clear T T0 hb hs hq hk bk hne hl'
  generalize dat.length = L at *
  have CC : Hid (∀ W, Fr [] W0 W → W.cell? ⟨w.heap.size, 0, none⟩ = some (.int .i64 (t : Int)) ∧ W.cell? ⟨w.heap.size, 1, none⟩ = some (.int .i64 (n : Int)) ∧ W.cell? ⟨w.heap.size, 2, none⟩ = some (.slice la ln lc) ∧ W.cell? ⟨w.heap.size, 3, none⟩ = some (.slice ua un uc) ∧ W.cell? ⟨w.heap.size + 1, 0, none⟩ = some (.int .i64 0) ∧ W.cell? ⟨w.heap.size + 1, 1, none⟩ = some (.int .i64 0) ∧ W.cell? ⟨w.heap.size + 1, 2, none⟩ = some (.slice none 0 0) ∧ W.cell? ⟨w.heap.size + 1, 3, none⟩ = some (.slice none 0 0) ∧ W.cell? ⟨w.heap.size + 1, 4, none⟩ = some (.slice none 0 0) ∧ W.cell? ⟨w.heap.size + 1, 5, none⟩ = some (.bool false) ∧ W.cell? ⟨w.heap.size + 1, 6, none⟩ = some (.bool false) ∧ (∀ i, W.frozen? ⟨w.heap.size + 1, i, none⟩ = false) ∧ W.heap[w.heap.size + 1]? = some (.cells #[.int .i64 0, .int .i64 0, .slice none 0 0, .slice none 0 0, .slice none 0 0, .bool false, .bool false] 112 (0, 0))) := hid (fun W f => by
    have k0 := f.at n0.out (by simp)
    have k1 := f.at n1.out (by simp)
    exact ⟨by rw [blk_cell k0]; rfl, by rw [blk_cell k0]; rfl, by rw [blk_cell k0]; rfl, by rw [blk_cell k0]; rfl, by rw [blk_cell k1]; rfl, by rw [blk_cell k1]; rfl, by rw [blk_cell k1]; rfl, by rw [blk_cell k1]; rfl, by rw [blk_cell k1]; rfl, by rw [blk_cell k1]; rfl, by rw [blk_cell k1]; rfl, blk_frozen k1, k1⟩)
  go_enter Tryz.func54, Tryz.ntmps54
  go_upto_region 1 with fail
  rw [← hW0]
  clear hW0
  have hN : w.heap.size ≤ w.heap.size + 1 := by omega
  have SK : Hid (∀ w', Fr [] W0 w' → (fun w' => w'.cell? ⟨p, 0, none⟩ = some (.slice (some ⟨q, o, none⟩) L dc) ∧ w'.cell? ⟨w.heap.size, 0, none⟩ = some (.int .i64 (t : Int)) ∧ w'.cell? ⟨w.heap.size, 1, none⟩ = some (.int .i64 (n : Int))) w') := hid (fun w' f => ⟨cell_fr f c0, cell_fr f s0, cell_fr f s1⟩)
  clear c0 s0 s1
  refine wp_region_held_drew (S := fun w' => w'.cell? ⟨p, 0, none⟩ = some (.slice (some ⟨q, o, none⟩) L dc) ∧ w'.cell? ⟨w.heap.size, 0, none⟩ = some (.int .i64 (t : Int)) ∧ w'.cell? ⟨w.heap.size, 1, none⟩ = some (.int .i64 (n : Int))) (by kernel_rfl) (SK.out _ (Fr.refl [] W0).drew) (fun hS => ?_)
  refine wpAnyH_take (i := 0) (v := .pointer (some ⟨p, 0, none⟩)) rfl (by kernel_rfl) (by kernel_rfl) (by kernel_rfl) (fun _ _ _ h => h) (.inl ⟨by rfl, fun wx _ => by go_simp⟩) hS ?_
  simp only [Act.put]
  refine wpAnyH_take (i := 1) (v := .pointer (some ⟨p, 0, none⟩)) rfl (by kernel_rfl) (by kernel_rfl) (by kernel_rfl) (fun _ _ _ h => h) (.inl ⟨by rfl, fun wx _ => by go_simp⟩) hS ?_
  simp only [Act.put]
  refine wpAnyH_take (i := 2) (v := .pointer (some ⟨p, 0, none⟩)) rfl (by kernel_rfl) (by kernel_rfl) (by kernel_rfl) (fun _ _ _ h => h) (.inl ⟨by rfl, fun wx _ => by go_simp⟩) hS ?_
  simp only [Act.put]
  refine wpAnyH_take (i := 3) (v := .slice (some ⟨q, o, none⟩) L dc) rfl (by kernel_rfl) (by kernel_rfl) (by kernel_rfl) (fun _ _ _ h => h) (.inl ⟨by rfl, fun wx hX => by obtain ⟨x0, x1, x2⟩ := hX; go_simp⟩) hS ?_
  simp only [Act.put]
  refine wpAnyH_take (i := 4) (v := .pointer (some ⟨w.heap.size, 0, none⟩)) rfl (by kernel_rfl) (by kernel_rfl) (by kernel_rfl) (fun _ _ _ h => h) (.inl ⟨by rfl, fun wx _ => by go_simp⟩) hS ?_
  simp only [Act.put]
  refine wpAnyH_take (i := 5) (v := .int .i64 (t : Int)) rfl (by kernel_rfl) (by kernel_rfl) (by kernel_rfl) (fun _ _ _ h => h) (.inl ⟨by rfl, fun wx hX => by obtain ⟨x0, x1, x2⟩ := hX; go_simp⟩) hS ?_
  simp only [Act.put]
  refine wpAnyH_take (i := 6) (v := .int .u64 (t : Int)) rfl (by kernel_rfl) (by kernel_rfl) (by kernel_rfl) (fun _ _ _ h => h) (.inl ⟨by rfl, fun wx _ => by go_simp⟩) hS ?_
  simp only [Act.put]
  refine wpAnyH_take (i := 7) (v := .pointer (some ⟨w.heap.size, 1, none⟩)) rfl (by kernel_rfl) (by kernel_rfl) (by kernel_rfl) (fun _ _ _ h => h) (.inl ⟨by rfl, fun wx _ => by go_simp⟩) hS ?_
  simp only [Act.put]
  refine wpAnyH_take (i := 8) (v := .int .i64 (n : Int)) rfl (by kernel_rfl) (by kernel_rfl) (by kernel_rfl) (fun _ _ _ h => h) (.inl ⟨by rfl, fun wx hX => by obtain ⟨x0, x1, x2⟩ := hX; go_simp⟩) hS ?_
  simp only [Act.put]
  refine wpAnyH_take (i := 9) (v := .int .u64 (n : Int)) rfl (by kernel_rfl) (by kernel_rfl) (by kernel_rfl) (fun _ _ _ h => h) (.inl ⟨by rfl, fun wx _ => by go_simp⟩) hS ?_
  simp only [Act.put]
  refine wpAnyH_take (i := 10) (v := .agg #[.int .u64 (t : Int), .int .u64 (n : Int)]) rfl (by kernel_rfl) (by kernel_rfl) (by kernel_rfl) (fun _ _ _ h => h) (.inl ⟨by rfl, fun wx _ => by go_simp⟩) hS ?_
  simp only [Act.put]
  clear hS
  refine wpAnyH_ready (rs := [11]) (by kernel_rfl) (by simp) ?_
  refine AllReadyH.cons rfl (fun K hK => ?_) AllReadyH.nil
  go_simp
  refine US.out.mono ?_
  rintro e W1 ⟨rfl, f1⟩
  have F1 := hid ((Fr.refl [] W0).drew.trans f1)
  have hS1 := SK.out _ F1.out
  refine hK.out _ _ hS1 (fun _ => ?_)
  clear hK K
  refine wpAnyH_take (i := 12) (v := .tuple #[.slice (some ⟨q, o + t, none⟩) n (dc - t), .bool true]) rfl (by kernel_rfl) (by kernel_rfl) (by kernel_rfl) (fun _ _ _ h => h) (.inl ⟨by rfl, fun wx _ => by go_simp⟩) hS1 ?_
  simp only [Act.put]
  refine wpAnyH_take (i := 13) (v := .slice (some ⟨q, o + t, none⟩) n (dc - t)) rfl (by kernel_rfl) (by kernel_rfl) (by kernel_rfl) (fun _ _ _ h => h) (.inl ⟨by rfl, fun wx _ => by go_simp⟩) hS1 ?_
  simp only [Act.put]
  refine wpAnyH_take (i := 14) (v := .bool true) rfl (by kernel_rfl) (by kernel_rfl) (by kernel_rfl) (fun _ _ _ h => h) (.inl ⟨by rfl, fun wx _ => by go_simp⟩) hS1 ?_
  simp only [Act.put]
  refine wpAnyH_ready (rs := [15]) (by kernel_rfl) (by simp) ?_
  refine AllReadyH.cons rfl (fun K hK => ?_) AllReadyH.nil
  go_simp
  refine hK.out _ _ hS1 (fun _ => ?_)
  clear hK K
  refine wpAnyH_ready (rs := [16]) (by kernel_rfl) (by simp) ?_
  refine AllReadyH.cons rfl (fun K hK => ?_) AllReadyH.nil
  go_simp
  refine hK.out _ _ hS1 (fun _ => ?_)
  clear hK K
  clear hS1 SK
  refine wpAnyH_done (by kernel_rfl) ?_ _
  go_upto_region 5 with (go_at_call 64; refine (PN.out W1 F1.out).mono ?_; rintro e W2 ⟨lv, rfl, ck, f2⟩; have CK := hid ck; have F2 := hid (F1.out.trans f2); clear f2 ck)
  obtain ⟨ea, ec, hlv, hec, kk⟩ := CK.out.rd
  obtain ⟨eb, eo, hea, kp⟩ := kk hpos
  subst hlv
  subst hea
  obtain ⟨ka, kc, va, vc, PP⟩ := kp (qs.length - 1) _ (ps_at (by omega))
  have z1 := PP.ck
  have RKK := hid PP.rk
  dsimp only at z1 RKK
  have EQ : Hid (∀ m, Calls Tryz.prog 58 #[.slice ka (kA qs (qs.length - 1)).length kc, .slice la ln lc] (W2.drewN m) fun e w' => e = .returned (.bool true) ∧ w' = W2.drewN m) := hid (fun m => by
    have := bytesEqual_c (w := W2.drewN m) (RKK.out.fr ((Fr.refl _ _).drewN m)) ((HK.out.fr F2.out).fr ((Fr.refl _ _).drewN m)) BQ.out.1 BK.out
    rw [decide_eq_true (show kA qs (qs.length - 1) = k from HL.out)] at this
    exact this)
  clear kk kp PP
  obtain ⟨qn, hqn⟩ : ∃ qn, qn = qs.length := ⟨_, rfl⟩
  have HQN := hid hqn
  rw [← hqn] at hpos hec z1 EQ hcn ⊢
  generalize (kA qs (qn - 1)).length = kl at *
  clear hqn
  have g0 : ((qn : Int) == 0) = false := by rw [beq_eq_false_iff_ne]; omega
  have g1 : ((qn : Int) - 1).toNat = qn - 1 := by omega
  have g2 : (0 : Int) ≤ (qn : Int) - 1 := by omega
  have g3 : (qn : Int) - 1 < (qn : Int) := by omega
  have g4 : IntKind.i64.wrap ((qn : Int) - 1) = (qn : Int) - 1 := by rw [IntKind.wrap_i64]; omega
  have g5 : qn - 1 < qn := by omega
  obtain ⟨a0, a1, a2, a3, b0, b1, b2, b3, b4, b5, b6, bf, m1⟩ := CC.out W2 F2.out
  have HM1 := hid m1
  clear m1 CC
  go_quiet ((go_at_call 58; exact Calls.quiet_of_same (EQ.out _)))
  go_wp2
  refine bodyPost_ret (v := .agg #[.int .i64 (t : Int), .int .i64 (n : Int), .slice la ln lc, .slice ua un uc, .slice (some ⟨eb, eo, none⟩) qn ec, .bool false, .bool false]) (results_cell_row rfl _ _ (w.heap.size + 1) 112 _ (0, 0) _ (by simp) (by rw [blk_set (blk_set (blk_set (blk_set (blk_set (blk_set (blk_set (show (W2.drewN nq).heap[w.heap.size + 1]? = _ from HM1.out) 0 _) 1 _) 2 _) 3 _) 4 _) 5 _) 6 _]; rfl) Tryz.underlying112 rfl sizeSg) rfl ?_
  have ck := CK.out
  rw [← HQN.out] at ck
  have hsz : w.heap.size ≤ W1.heap.size := Nat.le_trans F0.out.size F1.out.size
  refine ⟨_, rfl, ?_, ((((((((F0.out.trans F2.out).drewN _).set _ _ (.inr hN)).set _ _ (.inr hN)).set _ _ (.inr hN)).set _ _ (.inr hN)).set _ _ (.inr hN)).set _ _ (.inr hN)).set _ _ (.inr hN)⟩
  refine (seven (ColK.base ck hsz) (nq := nq) (g := w.heap.size + 1) HM1.out)
end Go.Proofs.YtnnookkcnmgbfaaGreat
