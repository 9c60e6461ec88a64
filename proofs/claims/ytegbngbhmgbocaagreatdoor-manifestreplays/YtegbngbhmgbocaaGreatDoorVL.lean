/-
  A table copied.
-/
import Derived.Test.YtegbngbhmgbocaaGreatDoorVK
namespace Go.Proofs.YtegbngbhmgbocaaGreatDoor
open Go.ChangeShapes Go.WideShapes Go.ChangeAt Go.RowKit

/-- A table whose keys are the call's own. -/
structure XO (B : Nat) (W : World) (f : Fl) (la : Option Addr) (lc : Nat) (ma : Option Addr) (mc : Nat) : Prop where
  ol : W.ownsRow B 5 1 (.slice la f.least.length lc) f.least.length (bv f.least)
  om : W.ownsRow B 5 1 (.slice ma f.most.length mc) f.most.length (bv f.most)
theorem XO.fr {B : Nat} {W W' : World} {f : Fl} {la ma : Option Addr} {lc mc : Nat} (h : XO B W f la lc ma mc) (g : Fr [] W W') : XO B W' f la lc ma mc := ⟨ownsRow_fr h.ol g, ownsRow_fr h.om g⟩
theorem XO.frd {B : Nat} {W : World} {f : Fl} {la ma : Option Addr} {lc mc : Nat} (h : XO B W f la lc ma mc) (b1 : By f.least) (b2 : By f.most) (l1 : f.least.length ≤ 140737488355328) (l2 : f.most.length ≤ 140737488355328) : FRd W f la lc ma mc := ⟨Rd.ownB h.ol, Rd.ownB h.om, b1, b2, l1, l2⟩
/-- What copied answers. -/
structure COut (w w' : World) (f : Fl) (r : Ending) : Prop where
  out : ∃ la lc ma mc, r = .returned (.agg #[.int .i64 f.num, .int .i64 f.size, .slice la f.least.length lc, .slice ma f.most.length mc]) ∧ XO w.heap.size w' f la lc ma mc
  fr : Fr [] w w'
theorem ret_c9k {fn : Func} {p : Tmp} {ty : TypeId} (h : fn.results = #[.cell p ty]) {tmps : Array Value} {w : World} {g : Nat} {cs : Array Value} (hp : tmps.getD p undef = .pointer (some ⟨g, 0, none⟩)) (hg : (loadVar ty ⟨g, 0, none⟩).run Tryz.prog w = .ok (.agg cs) w) :
    (results fn tmps).run Tryz.prog w = .ok (.agg cs) w := by
  have hp' : tmps[p]?.getD undef = .pointer (some ⟨g, 0, none⟩) := by simpa using hp
  simp [results, h, hp', asAddr, hg]
theorem load4k {w : World} {g : Nat} {t : TypeId} {c0 c1 c2 c3 : Value} (hg : w.heap[g]? = some (.cells #[c0, c1, c2, c3] t (0, 0))) : (loadVar 62 ⟨g, 0, none⟩).run Tryz.prog w = .ok (.agg #[c0, c1, c2, c3]) w :=
  run_loadVar_row w g t 62 #[c0, c1, c2, c3] (0, 0) _ hg Tryz.underlying62 rfl (by kernel_rfl)
set_option maxRecDepth 20000 in
set_option maxHeartbeats 3200000 in
theorem copied_c (w : World) {f : Fl} {la ma : Option Addr} {lc mc : Nat} (h : FRd w f la lc ma mc) :
    Calls Tryz.prog 22 #[.agg #[.int .i64 f.num, .int .i64 f.size, .slice la f.least.length lc, .slice ma f.most.length mc]] w fun r w' => COut w w' f r := by
  obtain ⟨ll, hll⟩ : ∃ ll, ll = f.least.length := ⟨_, rfl⟩
  obtain ⟨lm, hlm⟩ : ∃ lm, lm = f.most.length := ⟨_, rfl⟩
  rw [← hll, ← hlm]
  have HLL := hid hll
  have HLM := hid hlm
  obtain ⟨W0, hW0⟩ : ∃ W0, W0 = (w.alloc (.cells #[.int .i64 f.num, .int .i64 f.size, .slice la ll lc, .slice ma lm mc] 62)).alloc (.cells #[.int .i64 0, .int .i64 0, .slice none 0 0, .slice none 0 0] 62) := ⟨_, rfl⟩
  have f0 : Fr [] w W0 := by rw [hW0]; exact ((Fr.refl _ _).alloc _).alloc _
  have n0 : W0.heap[w.heap.size]? = some (.cells #[.int .i64 f.num, .int .i64 f.size, .slice la ll lc, .slice ma lm mc] 62 (0, 0)) := by rw [hW0, blk_old _ _ (by simp)]; exact blk_new _ _
  have n1 : W0.heap[w.heap.size + 1]? = some (.cells #[.int .i64 0, .int .i64 0, .slice none 0 0, .slice none 0 0] 62 (0, 0)) := by rw [hW0]; exact new_at _ _ (by simp)
  have CL : Hid (∀ W', Fr [] W0 W' → Calls Tryz.prog 51 #[.slice la ll lc] W' fun e w' => ∃ v', e = .returned v' ∧ w'.ownsRow W'.heap.size 5 1 v' f.least.length (bv f.least) ∧ Fr [] W' w') := hid (fun W' g => by rw [hll]; exact clone_c (h.rl.fr (f0.trans g)) h.ll)
  have CM : Hid (∀ W', Fr [] W0 W' → Calls Tryz.prog 51 #[.slice ma lm mc] W' fun e w' => ∃ v', e = .returned v' ∧ w'.ownsRow W'.heap.size 5 1 v' f.most.length (bv f.most) ∧ Fr [] W' w') := hid (fun W' g => by rw [hlm]; exact clone_c (h.rm.fr (f0.trans g)) h.lm)
  have FZ : Hid (∀ W', Fr [] W0 W' → W'.frozen? ⟨w.heap.size, 2, none⟩ = false ∧ W'.frozen? ⟨w.heap.size, 3, none⟩ = false ∧ W'.cell? ⟨w.heap.size, 2, none⟩ = some (.slice la ll lc) ∧ W'.cell? ⟨w.heap.size, 3, none⟩ = some (.slice ma lm mc)) := hid (fun W' g => by
    have k := g.at n0 (by simp)
    exact ⟨blk_frozen k 2, blk_frozen k 3, (fl_cells k).2.2.1, (fl_cells k).2.2.2⟩)
  have ST : Hid (∀ W', Fr [] W0 W' → ∀ a5 c5 a7 c7, W'.ownsRow W0.heap.size 5 1 (.slice a5 f.least.length c5) f.least.length (bv f.least) → W'.ownsRow W0.heap.size 5 1 (.slice a7 f.most.length c7) f.most.length (bv f.most) →
      ∃ a5' c5' a7' c7', ((W'.setCell ⟨w.heap.size, 2, none⟩ (.slice a5 f.least.length c5)).setCell ⟨w.heap.size, 3, none⟩ (.slice a7 f.most.length c7)).heap[w.heap.size]? = some (.cells #[.int .i64 f.num, .int .i64 f.size, .slice a5' f.least.length c5', .slice a7' f.most.length c7'] 62 (0, 0)) ∧ ((W'.setCell ⟨w.heap.size, 2, none⟩ (.slice a5 f.least.length c5)).setCell ⟨w.heap.size, 3, none⟩ (.slice a7 f.most.length c7)).heap[w.heap.size + 1]? = some (.cells #[.int .i64 0, .int .i64 0, .slice none 0 0, .slice none 0 0] 62 (0, 0)) ∧ XO w.heap.size ((W'.setCell ⟨w.heap.size, 2, none⟩ (.slice a5 f.least.length c5)).setCell ⟨w.heap.size, 3, none⟩ (.slice a7 f.most.length c7)) f a5' c5' a7' c7' ∧ Fr [] w ((W'.setCell ⟨w.heap.size, 2, none⟩ (.slice a5 f.least.length c5)).setCell ⟨w.heap.size, 3, none⟩ (.slice a7 f.most.length c7))) := hid (fun W' g a5 c5 a7 c7 o5 o7 => by
    have k0 := g.at n0 (by simp)
    have k1 := g.at n1 (by simp)
    have hlt : w.heap.size < W0.heap.size := blk_lt n0
    refine ⟨a5, c5, a7, c7, by rw [blk_set (blk_set k0 2 _) 3 _]; rfl, by rw [blk_setne _ _ _ (by omega), blk_setne _ _ _ (by omega)]; exact k1, ⟨?_, ?_⟩, ((f0.trans g).set _ _ (.inr (Nat.le_refl _))).set _ _ (.inr (Nat.le_refl _))⟩
    · exact own_base9 (own_set (own_set o5 hlt) hlt) f0.size
    · exact own_base9 (own_set (own_set o7 hlt) hlt) f0.size)
  clear h n0 n1 f0 hll hlm
  have y := FZ.out W0 (Fr.refl _ _)
  go_enter Tryz.func22, Tryz.ntmps22
  go_upto_region 1 with fail
  rw [← hW0]
  clear hW0 y
  go_cut [] from 3 to 10 (fun W => ∃ a5' c5' a7' c7', W.heap[w.heap.size]? = some (.cells #[.int .i64 f.num, .int .i64 f.size, .slice a5' f.least.length c5', .slice a7' f.most.length c7'] 62 (0, 0)) ∧ W.heap[w.heap.size + 1]? = some (.cells #[.int .i64 0, .int .i64 0, .slice none 0 0, .slice none 0 0] 62 (0, 0)) ∧ XO w.heap.size W f a5' c5' a7' c7' ∧ Fr [] w W)
  case first =>
    have F0 : Hid (Fr [] W0 W0.drew) := hid (Fr.refl _ _).drew
    refine wp_region_held_drew (S := fun _ => True) (by kernel_rfl) trivial (fun hS => ?_)
    refine wpAnyH_take (i := 0) (v := .pointer (some ⟨w.heap.size, 2, none⟩)) rfl (by kernel_rfl) (by kernel_rfl) (by kernel_rfl) (fun _ _ _ h => h) (.inl ⟨by rfl, fun wx _ => by go_simp⟩) hS ?_
    simp only [Act.put]
    refine wpAnyH_take (i := 3) (v := .pointer (some ⟨w.heap.size, 3, none⟩)) rfl (by kernel_rfl) (by kernel_rfl) (by kernel_rfl) (fun _ _ _ h => h) (.inl ⟨by rfl, fun wx _ => by go_simp⟩) hS ?_
    simp only [Act.put]
    refine wpAnyH_ready (rs := [1, 4]) (by kernel_rfl) (by simp) ?_
    refine AllReadyH.cons rfl (fun K hK => ?_) (AllReadyH.cons rfl (fun K hK => ?_) AllReadyH.nil)
    · have zc := (FZ.out W0.drew F0.out).2.2.1
      go_simp
      refine hK.out _ _ trivial (fun _ => ?_)
      clear hK K zc
      refine wpAnyH_ready (rs := [2, 4]) (by kernel_rfl) (by simp) ?_
      refine AllReadyH.cons rfl (fun K hK => ?_) (AllReadyH.cons rfl (fun K hK => ?_) AllReadyH.nil)
      · go_simp
        refine (CL.out W0.drew F0.out).mono ?_
        rintro r w5 ⟨vv, rfl, oo, ff⟩
        obtain ⟨v5a, v5c, rfl, _⟩ := ownsRow_slice oo
        have FFw5 := hid (Fr.trans F0.out ff)
        have O5 := hid (own_base9 oo (Fr.size F0.out))
        refine hK.out _ _ trivial (fun _ => ?_)
        clear hK K oo ff
        refine wpAnyH_ready (rs := [4]) (by kernel_rfl) (by simp) ?_
        refine AllReadyH.cons rfl (fun K hK => ?_) AllReadyH.nil
        have zc := (FZ.out w5 FFw5.out).2.2.2
        go_simp
        refine hK.out _ _ trivial (fun _ => ?_)
        clear hK K zc
        refine wpAnyH_take (i := 6) (v := .pointer (some ⟨w.heap.size, 2, none⟩)) rfl (by kernel_rfl) (by kernel_rfl) (by kernel_rfl) (fun _ _ _ h => h) (.inl ⟨by rfl, fun wx _ => by go_simp⟩) trivial ?_
        simp only [Act.put]
        refine wpAnyH_ready (rs := [5]) (by kernel_rfl) (by simp) ?_
        refine AllReadyH.cons rfl (fun K hK => ?_) AllReadyH.nil
        go_simp
        refine (CM.out w5 FFw5.out).mono ?_
        rintro r w7 ⟨vv, rfl, oo, ff⟩
        obtain ⟨v7a, v7c, rfl, _⟩ := ownsRow_slice oo
        have FFw7 := hid (Fr.trans FFw5.out ff)
        have O7 := hid (own_base9 oo (Fr.size FFw5.out))
        have O5 := hid (ownsRow_fr O5.out ff)
        refine hK.out _ _ trivial (fun _ => ?_)
        clear hK K oo ff
        have SE := hid (ST.out w7 FFw7.out v5a v5c v7a v7c O5.out O7.out)
        have SF := hid (FZ.out w7 FFw7.out)
        have zf2 := SF.out.1
        have zf3 := SF.out.2.1
        have zc2 := SF.out.2.2.1
        have zc3 := SF.out.2.2.2
        refine wpAnyH_ready (rs := [7]) (by kernel_rfl) (by simp) ?_
        refine AllReadyH.cons rfl (fun K hK => ?_) AllReadyH.nil
        go_simp
        refine hK.out _ _ trivial (fun _ => ?_)
        clear hK K
        refine wpAnyH_ready (rs := [8]) (by kernel_rfl) (by simp) ?_
        refine AllReadyH.cons rfl (fun K hK => ?_) AllReadyH.nil
        go_simp
        refine hK.out _ _ trivial (fun _ => ?_)
        clear hK K
        refine wpAnyH_ready (rs := [9]) (by kernel_rfl) (by simp) ?_
        refine AllReadyH.cons rfl (fun K hK => ?_) AllReadyH.nil
        go_simp
        refine hK.out _ _ trivial (fun _ => ?_)
        clear hK K
        refine wpAnyH_done (by kernel_rfl) ?_ _
        go_wp2
        go_meet
        case rel => exact SE.out
      · have zc := (FZ.out W0.drew F0.out).2.2.2
        go_simp
        refine hK.out _ _ trivial (fun _ => ?_)
        clear hK K zc
        refine wpAnyH_ready (rs := [2]) (by kernel_rfl) (by simp) ?_
        refine AllReadyH.cons rfl (fun K hK => ?_) AllReadyH.nil
        go_simp
        refine (CL.out W0.drew F0.out).mono ?_
        rintro r w5 ⟨vv, rfl, oo, ff⟩
        obtain ⟨v5a, v5c, rfl, _⟩ := ownsRow_slice oo
        have FFw5 := hid (Fr.trans F0.out ff)
        have O5 := hid (own_base9 oo (Fr.size F0.out))
        refine hK.out _ _ trivial (fun _ => ?_)
        clear hK K oo ff
        refine wpAnyH_take (i := 6) (v := .pointer (some ⟨w.heap.size, 2, none⟩)) rfl (by kernel_rfl) (by kernel_rfl) (by kernel_rfl) (fun _ _ _ h => h) (.inl ⟨by rfl, fun wx _ => by go_simp⟩) trivial ?_
        simp only [Act.put]
        refine wpAnyH_ready (rs := [5]) (by kernel_rfl) (by simp) ?_
        refine AllReadyH.cons rfl (fun K hK => ?_) AllReadyH.nil
        go_simp
        refine (CM.out w5 FFw5.out).mono ?_
        rintro r w7 ⟨vv, rfl, oo, ff⟩
        obtain ⟨v7a, v7c, rfl, _⟩ := ownsRow_slice oo
        have FFw7 := hid (Fr.trans FFw5.out ff)
        have O7 := hid (own_base9 oo (Fr.size FFw5.out))
        have O5 := hid (ownsRow_fr O5.out ff)
        refine hK.out _ _ trivial (fun _ => ?_)
        clear hK K oo ff
        have SE := hid (ST.out w7 FFw7.out v5a v5c v7a v7c O5.out O7.out)
        have SF := hid (FZ.out w7 FFw7.out)
        have zf2 := SF.out.1
        have zf3 := SF.out.2.1
        have zc2 := SF.out.2.2.1
        have zc3 := SF.out.2.2.2
        refine wpAnyH_ready (rs := [7]) (by kernel_rfl) (by simp) ?_
        refine AllReadyH.cons rfl (fun K hK => ?_) AllReadyH.nil
        go_simp
        refine hK.out _ _ trivial (fun _ => ?_)
        clear hK K
        refine wpAnyH_ready (rs := [8]) (by kernel_rfl) (by simp) ?_
        refine AllReadyH.cons rfl (fun K hK => ?_) AllReadyH.nil
        go_simp
        refine hK.out _ _ trivial (fun _ => ?_)
        clear hK K
        refine wpAnyH_ready (rs := [9]) (by kernel_rfl) (by simp) ?_
        refine AllReadyH.cons rfl (fun K hK => ?_) AllReadyH.nil
        go_simp
        refine hK.out _ _ trivial (fun _ => ?_)
        clear hK K
        refine wpAnyH_done (by kernel_rfl) ?_ _
        go_wp2
        go_meet
        case rel => exact SE.out
    · have zc := (FZ.out W0.drew F0.out).2.2.2
      go_simp
      refine hK.out _ _ trivial (fun _ => ?_)
      clear hK K zc
      refine wpAnyH_ready (rs := [1]) (by kernel_rfl) (by simp) ?_
      refine AllReadyH.cons rfl (fun K hK => ?_) AllReadyH.nil
      have zc := (FZ.out W0.drew F0.out).2.2.1
      go_simp
      refine hK.out _ _ trivial (fun _ => ?_)
      clear hK K zc
      refine wpAnyH_ready (rs := [2]) (by kernel_rfl) (by simp) ?_
      refine AllReadyH.cons rfl (fun K hK => ?_) AllReadyH.nil
      go_simp
      refine (CL.out W0.drew F0.out).mono ?_
      rintro r w5 ⟨vv, rfl, oo, ff⟩
      obtain ⟨v5a, v5c, rfl, _⟩ := ownsRow_slice oo
      have FFw5 := hid (Fr.trans F0.out ff)
      have O5 := hid (own_base9 oo (Fr.size F0.out))
      refine hK.out _ _ trivial (fun _ => ?_)
      clear hK K oo ff
      refine wpAnyH_take (i := 6) (v := .pointer (some ⟨w.heap.size, 2, none⟩)) rfl (by kernel_rfl) (by kernel_rfl) (by kernel_rfl) (fun _ _ _ h => h) (.inl ⟨by rfl, fun wx _ => by go_simp⟩) trivial ?_
      simp only [Act.put]
      refine wpAnyH_ready (rs := [5]) (by kernel_rfl) (by simp) ?_
      refine AllReadyH.cons rfl (fun K hK => ?_) AllReadyH.nil
      go_simp
      refine (CM.out w5 FFw5.out).mono ?_
      rintro r w7 ⟨vv, rfl, oo, ff⟩
      obtain ⟨v7a, v7c, rfl, _⟩ := ownsRow_slice oo
      have FFw7 := hid (Fr.trans FFw5.out ff)
      have O7 := hid (own_base9 oo (Fr.size FFw5.out))
      have O5 := hid (ownsRow_fr O5.out ff)
      refine hK.out _ _ trivial (fun _ => ?_)
      clear hK K oo ff
      have SE := hid (ST.out w7 FFw7.out v5a v5c v7a v7c O5.out O7.out)
      have SF := hid (FZ.out w7 FFw7.out)
      have zf2 := SF.out.1
      have zf3 := SF.out.2.1
      have zc2 := SF.out.2.2.1
      have zc3 := SF.out.2.2.2
      refine wpAnyH_ready (rs := [7]) (by kernel_rfl) (by simp) ?_
      refine AllReadyH.cons rfl (fun K hK => ?_) AllReadyH.nil
      go_simp
      refine hK.out _ _ trivial (fun _ => ?_)
      clear hK K
      refine wpAnyH_ready (rs := [8]) (by kernel_rfl) (by simp) ?_
      refine AllReadyH.cons rfl (fun K hK => ?_) AllReadyH.nil
      go_simp
      refine hK.out _ _ trivial (fun _ => ?_)
      clear hK K
      refine wpAnyH_ready (rs := [9]) (by kernel_rfl) (by simp) ?_
      refine AllReadyH.cons rfl (fun K hK => ?_) AllReadyH.nil
      go_simp
      refine hK.out _ _ trivial (fun _ => ?_)
      clear hK K
      refine wpAnyH_done (by kernel_rfl) ?_ _
      go_wp2
      go_meet
      case rel => exact SE.out
  case rest =>
    obtain ⟨a5, c5, a7, c7, k0, k1, xo, fw⟩ := hcut
    obtain ⟨y0, y1, y2, y3⟩ := fl_cells k0
    obtain ⟨x0, x1, x2, x3⟩ := fl_cells k1
    have qf0 := blk_frozen k1 0
    have qf1 := blk_frozen k1 1
    have qf2 := blk_frozen k1 2
    have qf3 := blk_frozen k1 3
    have K1 := hid k1
    have XX := hid xo
    have FW := hid fw
    clear k0 k1 xo fw
    go_wp2_with fail
    refine bodyPost_ret (ret_c9k rfl (g := w.heap.size + 1) (by simp) (load4k (by rw [blk_set (blk_set (blk_set (blk_set K1.out 0 _) 1 _) 2 _) 3 _]; rfl))) rfl ?_
    refine ⟨⟨a5, c5, a7, c7, rfl, ?_⟩, (((FW.out.set _ _ (.inr (by omega))).set _ _ (.inr (by omega))).set _ _ (.inr (by omega))).set _ _ (.inr (by omega))⟩
    have st : ∀ {W : World} {i : Nat} {v : Value} {cs : Array Value}, W.heap[w.heap.size + 1]? = some (.cells cs 62 (0, 0)) → XO w.heap.size W f a5 c5 a7 c7 → XO w.heap.size (W.setCell ⟨w.heap.size + 1, i, none⟩ v) f a5 c5 a7 c7 := fun {W i v cs} hc hx =>
      ⟨ownsRow_of_block hx.ol fun b hb => blk_setne _ _ _ (fun e => by subst e; exact own_not hx.ol hc (by decide) hb), ownsRow_of_block hx.om fun b hb => blk_setne _ _ _ (fun e => by subst e; exact own_not hx.om hc (by decide) hb)⟩
    exact st (blk_set (blk_set (blk_set K1.out 0 _) 1 _) 2 _) (st (blk_set (blk_set K1.out 0 _) 1 _) (st (blk_set K1.out 0 _) (st K1.out XX.out)))
end Go.Proofs.YtegbngbhmgbocaaGreatDoor
