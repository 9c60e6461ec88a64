/-
  A version told as one edit comes back: without the program; the bytes of an edit.
-/
import Derived.Test.YtegbngbhmgbocaaGreatDoorJ32
import Derived.Test.YtegbngbhmgbocaaGreatDoorJ28
import Derived.Deep.RegionHeld
import Derived.Laws.AppendOwnNone
namespace Go.Proofs.YtegbngbhmgbocaaGreatDoor
open Go.ChangeShapes Go.WideShapes Go.ChangeAt Go.RowKit

def wholeE (v : Vn) : Ed := ⟨v.log, v.next, v.seq, [], allA v.lv 5⟩
def zeroV : Vn := ⟨0, 0, 0, fun _ => []⟩
theorem addF_tag (i n : Nat) (l : List Fl) : addF (tagL n l) i = if n = i then l else [] := by
  unfold addF tagL
  rw [List.filter_map, List.map_map]
  by_cases h : n = i
  · subst h
    rw [if_pos rfl, List.filter_eq_self.2 (fun f _ => by simp)]
    induction l with
    | nil => rfl
    | cons a l ih => simp [ih]
  · rw [if_neg h, List.filter_eq_nil_iff.2 (fun f _ => by simp; omega)]
    rfl
theorem addF_app (a b : List (Int × Fl)) (i : Nat) : addF (a ++ b) i = addF a i ++ addF b i := by
  unfold addF; rw [List.filter_append, List.map_append]
theorem addF_all (L : Nat → List Fl) (i : Nat) : ∀ n, addF (allA L n) i = if i < n then L i else []
  | 0 => by simp [allA, addF]
  | n + 1 => by
    rw [allA_succ, addF_app, addF_all L i n, addF_tag]
    by_cases h1 : i < n
    · rw [if_pos h1, if_neg (by omega), if_pos (by omega), List.append_nil]
    · rw [if_neg h1, List.nil_append]
      by_cases h2 : n = i
      · subst h2; rw [if_pos rfl, if_pos (by omega)]
      · rw [if_neg h2, if_neg (by omega)]
theorem allA_mem {L : Nat → List Fl} {p : Int × Fl} (h : p ∈ allA L 5) : ∃ i : Nat, i < 5 ∧ p.1 = (i : Int) ∧ p.2 ∈ L i := by
  unfold allA at h
  obtain ⟨i, hi, hp⟩ := List.mem_flatMap.1 h
  obtain ⟨f, hf, rfl⟩ := List.mem_map.1 hp
  exact ⟨i, by simpa using hi, rfl, hf⟩
theorem zero_good : chkV zeroV = 0 := by
  rw [chk_iff]
  have ha : zeroV.all = [] := by unfold Vn.all pfx zeroV; simp
  exact ⟨by decide, by rw [ha]; simp, by rw [ha]; simp, by rw [ha]; simp, fun i _ => rfl⟩
theorem whole_ok {v : Vn} (h : GoodV v) : okE (wholeE v) = true := by
  unfold okE wholeE
  rw [Bool.and_eq_true, Bool.and_eq_true]
  refine ⟨rfl, ?_, h.head⟩
  rw [List.all_eq_true]
  intro p hp
  obtain ⟨i, hi, h1, h2⟩ := allA_mem hp
  unfold okA
  rw [Bool.and_eq_true]
  exact ⟨okV_iff.2 (by omega), h.file _ (mem_all hi h2)⟩
theorem zero_cnt : ∀ i, dcF [] zeroV.lv i = 0
  | 0 => rfl
  | i + 1 => by show dcF [] zeroV.lv i + _ = 0; rw [zero_cnt i]; rfl
theorem whole_back {v : Vn} (h : GoodV v) : ¬ backE zeroV (wholeE v) := by
  have hh := h.head
  unfold okH at hh
  simp only [Bool.and_eq_true] at hh
  have h1 := okN_iff.1 hh.1
  have h2 := okN_iff.1 hh.2.1
  unfold backE zeroV wholeE
  simp only
  omega
theorem whole_comes {v : Vn} (h : GoodV v) {U : Nat → List Fl} (hc : Comes zeroV (wholeE v) U) {i : Nat} (hi : i < 5) : U i = v.lv i := by
  have h1 := hc.perm i hi
  have e1 : keptF (wholeE v).drop zeroV.lv i = [] := rfl
  rw [e1, List.nil_append] at h1
  have e2 : addF (wholeE v).add i = v.lv i := by show addF (allA v.lv 5) i = v.lv i; rw [addF_all, if_pos hi]
  rw [e2] at h1
  exact sort_one i _ _ h1 (hc.sort i hi) (rises_pair i _ (h.rise i hi))
theorem AOut.whole {w w' : World} {v : Vn} {ln : Nat → Nat} {r : Ending} (hg : chkV v = 0) (hl : ∀ i, i < 5 → ln i = (v.lv i).length) (h : AOut w w' zeroV (wholeE v) r) : A2Out w w' v.log v.next v.seq v.lv ln r := by
  have g := (chk_iff v).1 hg
  refine ⟨h.fr, ?_⟩
  rcases h.out with ⟨h1, _⟩ | ⟨_, h2, _⟩ | ⟨_, _, ⟨c, h3, h4, _⟩ | ⟨U2, kd, kl, kc, h3, rfl, h4⟩⟩
  · exact absurd zero_good h1
  · rw [whole_ok g] at h2; cases h2
  · exfalso
    rcases h3 with ⟨h5, _⟩ | ⟨_, h5, _⟩ | ⟨_, _, U2, h5, h6, _⟩
    · exact h5 (zero_cnt 5)
    · exact whole_back g h5
    · refine h6 ?_
      have e := chk_lv (v := ⟨v.log, v.next, v.seq, U2⟩) (v' := v) rfl rfl rfl (fun i hi => whole_comes g h5 hi)
      exact e.trans hg
  · have he : ∀ i, i < 5 → kl i = ln i := fun i hi => by
      have := h4.vat.len i hi
      rw [this, whole_comes g h3.comes hi, hl i hi]
    refine ⟨kd, kc, ?_, h4.vat.congr (fun i hi => whole_comes g h3.comes hi) he⟩
    rw [he 0 (by omega), he 1 (by omega), he 2 (by omega), he 3 (by omega), he 4 (by omega)]
    rfl
theorem by_flat {α : Type} {f : α → List Nat} : ∀ (l : List α), (∀ x ∈ l, By (f x)) → By (l.flatMap f)
  | [], _ => fun n hn => by simp at hn
  | x :: l, h => by rw [List.flatMap_cons]; exact (h x (by simp)).append (by_flat l (fun y hy => h y (by simp [hy])))
theorem encE_by {e : Ed} (h : ∀ p ∈ e.add, By p.2.least ∧ By p.2.most) : By (encE e) := by
  unfold encE
  exact (nb_by _).append ((nb_by _).append ((putL_by _).append ((putL_by _).append ((by_flat _ (fun g _ => encD_by g)).append ((putL_by _).append (by_flat _ (fun p hp => encA_by (h p hp).1 (h p hp).2)))))))
theorem encE_len {e : Ed} (h : okE e = true) (hd : e.drop.length ≤ 30) (ha : e.add.length ≤ 30) : (encE e).length ≤ 50000 := by
  unfold okE okH at h
  simp only [Bool.and_eq_true] at h
  have h1 := flatD_len h.1
  have h2 := flatA_len h.2.1
  have n1 := nb_len (n := e.log) (okN_iff.1 h.2.2.1).2
  have n2 := nb_len (n := e.next) (okN_iff.1 h.2.2.2.1).2
  have n3 := putL_len10 (n := e.seq) (by have := of_decide_eq_true h.2.2.2.2; omega)
  have n4 := putL_len10 (n := e.drop.length) (by omega)
  have n5 := putL_len10 (n := e.add.length) (by omega)
  unfold encE
  simp only [List.length_append]
  omega
/-- The tables of an edit in memory have bytes for keys. -/
theorem EAt.bys {w : World} {e : Ed} {da aa : Option Addr} {dc ac : Nat} (h : EAt w e da dc aa ac) : ∀ p ∈ e.add, (By p.2.least ∧ p.2.least.length ≤ 140737488355328) ∧ By p.2.most ∧ p.2.most.length ≤ 140737488355328 := by
  intro p hp
  obtain ⟨j, hj⟩ := List.getElem?_of_mem hp
  have hjl := (List.getElem?_eq_some_iff.1 hj).1
  obtain ⟨a, c, _, k⟩ := h.ra
  obtain ⟨b, off, _, m⟩ := k (by omega)
  obtain ⟨_, la, lc, ma, mc, q⟩ := m j p hj
  exact q.by4
end Go.Proofs.YtegbngbhmgbocaaGreatDoor
namespace Go.Proofs.YtegbngbhmgbocaaGreatDoor
open Go.ChangeShapes Go.WideShapes Go.ChangeAt Go.RowKit

/-- Do two tables overlap? -/
def overF (f g : Fl) : Bool := decide (cmpN (userL f.least) (userL g.most) ≤ 0) && decide (cmpN (userL g.least) (userL f.most) ≤ 0)
theorem ruser_c (w : World) {q off n c : Nat} (h8 : 8 ≤ n) (hc : n ≤ c) (hn : n ≤ 140737488355328) :
    Calls Tryz.prog 101 #[.slice (some ⟨q, off, none⟩) n c] w fun r w' => r = .returned (.slice (some ⟨q, off, none⟩) (n - 8) c) ∧ w' = w := by
  have e1 : ((n : Int) - 8).toNat = n - 8 := by omega
  have e2 : IntKind.i64.wrap ((n : Int) - 8) = (n : Int) - 8 := by rw [IntKind.wrap_i64]; omega
  have e3 : ¬ (n : Int) - 8 < 0 := by omega
  have e4 : ¬ (c : Int) < (n : Int) - 8 := by omega
  have e5 : (n : Int) - 8 ≤ (c : Int) := by omega
  go_enter Tryz.func101, Tryz.ntmps101
  go_wp2
  go_ret
  exact ⟨rfl, rfl⟩
set_option maxRecDepth 20000 in
set_option maxHeartbeats 3200000 in
theorem rover_c (w : World) {f g : Fl} {la ma la' ma' : Option Addr} {lc mc lc' mc' : Nat} (hf : FRd w f la lc ma mc) (hg : FRd w g la' lc' ma' mc') (okf : okF f = true) (okg : okF g = true) :
    Calls Tryz.prog 75 #[.agg #[.int .i64 f.num, .int .i64 f.size, .slice la f.least.length lc, .slice ma f.most.length mc], .agg #[.int .i64 g.num, .int .i64 g.size, .slice la' g.least.length lc', .slice ma' g.most.length mc']] w fun r w' => r = .returned (.bool (overF f g)) ∧ Fr [] w w' := by
  obtain ⟨kfl, kfm⟩ := okF_keys okf
  obtain ⟨kgl, kgm⟩ := okF_keys okg
  have k1 := isK_len kfl
  have k2 := isK_len kfm
  have k3 := isK_len kgl
  have k4 := isK_len kgm
  obtain ⟨fl, flo, flc, e1, c1⟩ := hf.rl.place (by omega)
  obtain ⟨fm, fmo, fmc, e2, c2⟩ := hf.rm.place (by omega)
  obtain ⟨gl, glo, glc, e3, c3⟩ := hg.rl.place (by omega)
  obtain ⟨gm, gmo, gmc, e4, c4⟩ := hg.rm.place (by omega)
  rw [e1, e2, e3, e4]
  have r1 := hf.rl
  have r2 := hf.rm
  have r3 := hg.rl
  have r4 := hg.rm
  rw [e1] at r1
  rw [e2] at r2
  rw [e3] at r3
  rw [e4] at r4
  have u1 := r1.front (q := f.least.length - 8) (by omega)
  have u2 := r2.front (q := f.most.length - 8) (by omega)
  have u3 := r3.front (q := g.least.length - 8) (by omega)
  have u4 := r4.front (q := g.most.length - 8) (by omega)
  have B1 : Hid (∀ W, Fr [] w W → Calls Tryz.prog 77 #[.slice (some ⟨fl, flo, none⟩) (f.least.length - 8) flc, .slice (some ⟨gm, gmo, none⟩) (g.most.length - 8) gmc] W fun r w' => r = .returned (.int .i64 (cmpN (userL f.least) (userL g.most))) ∧ Fr [] W w') := hid (fun W h => refbytes_c (u1.fr h) (u4.fr h) (hf.bl.take _) (hg.bm.take _) (by unfold userL; rw [List.length_take]; omega) (by unfold userL; rw [List.length_take]; omega))
  have B2 : Hid (∀ W, Fr [] w W → Calls Tryz.prog 77 #[.slice (some ⟨gl, glo, none⟩) (g.least.length - 8) glc, .slice (some ⟨fm, fmo, none⟩) (f.most.length - 8) fmc] W fun r w' => r = .returned (.int .i64 (cmpN (userL g.least) (userL f.most))) ∧ Fr [] W w') := hid (fun W h => refbytes_c (u3.fr h) (u2.fr h) (hg.bl.take _) (hf.bm.take _) (by unfold userL; rw [List.length_take]; omega) (by unfold userL; rw [List.length_take]; omega))
  obtain ⟨lf, hlf⟩ : ∃ x, x = f.least.length := ⟨_, rfl⟩
  obtain ⟨mf, hmf⟩ : ∃ x, x = f.most.length := ⟨_, rfl⟩
  obtain ⟨lg, hlg⟩ : ∃ x, x = g.least.length := ⟨_, rfl⟩
  obtain ⟨mg, hmg⟩ : ∃ x, x = g.most.length := ⟨_, rfl⟩
  rw [← hlf, ← hmg] at B1
  rw [← hmf, ← hlg] at B2
  rw [← hlf, ← hmf, ← hlg, ← hmg]
  have U1 : Hid (∀ W, _) := hid (fun W => ruser_c W (q := fl) (off := flo) (n := lf) (c := flc) (by omega) (by omega) (by omega))
  have U2 : Hid (∀ W, _) := hid (fun W => ruser_c W (q := fm) (off := fmo) (n := mf) (c := fmc) (by omega) (by omega) (by omega))
  have U3 : Hid (∀ W, _) := hid (fun W => ruser_c W (q := gl) (off := glo) (n := lg) (c := glc) (by omega) (by omega) (by omega))
  have U4 : Hid (∀ W, _) := hid (fun W => ruser_c W (q := gm) (off := gmo) (n := mg) (c := gmc) (by omega) (by omega) (by omega))
  obtain ⟨W0, hW0⟩ : ∃ W0, W0 = (w.alloc (.cells #[.int .i64 f.num, .int .i64 f.size, .slice (some ⟨fl, flo, none⟩) lf flc, .slice (some ⟨fm, fmo, none⟩) mf fmc] 62)).alloc (.cells #[.int .i64 g.num, .int .i64 g.size, .slice (some ⟨gl, glo, none⟩) lg glc, .slice (some ⟨gm, gmo, none⟩) mg gmc] 62) := ⟨_, rfl⟩
  have F0 : Hid (Fr [] w W0) := hid (by rw [hW0]; exact ((Fr.refl _ _).alloc _).alloc _)
  have N0 : Hid (W0.heap[w.heap.size]? = some (.cells #[.int .i64 f.num, .int .i64 f.size, .slice (some ⟨fl, flo, none⟩) lf flc, .slice (some ⟨fm, fmo, none⟩) mf fmc] 62 (0, 0))) := hid (by rw [hW0, blk_old _ _ (by simp)]; exact blk_new _ _)
  have N1 : Hid (W0.heap[w.heap.size + 1]? = some (.cells #[.int .i64 g.num, .int .i64 g.size, .slice (some ⟨gl, glo, none⟩) lg glc, .slice (some ⟨gm, gmo, none⟩) mg gmc] 62 (0, 0))) := hid (by rw [hW0]; exact new_at _ _ (by simp))
  have SK : Hid (∀ W', Fr [] W0 W' → (W'.cell? ⟨w.heap.size, 0, none⟩ = some (.int .i64 f.num) ∧ W'.cell? ⟨w.heap.size, 1, none⟩ = some (.int .i64 f.size) ∧ W'.cell? ⟨w.heap.size, 2, none⟩ = some (.slice (some ⟨fl, flo, none⟩) lf flc) ∧ W'.cell? ⟨w.heap.size, 3, none⟩ = some (.slice (some ⟨fm, fmo, none⟩) mf fmc)) ∧ W'.cell? ⟨w.heap.size + 1, 0, none⟩ = some (.int .i64 g.num) ∧ W'.cell? ⟨w.heap.size + 1, 1, none⟩ = some (.int .i64 g.size) ∧ W'.cell? ⟨w.heap.size + 1, 2, none⟩ = some (.slice (some ⟨gl, glo, none⟩) lg glc) ∧ W'.cell? ⟨w.heap.size + 1, 3, none⟩ = some (.slice (some ⟨gm, gmo, none⟩) mg gmc)) := hid (fun W' h => ⟨fl_cells (h.at N0.out (by simp)), fl_cells (h.at N1.out (by simp))⟩)
  unfold overF
  generalize cmpN (userL f.least) (userL g.most) = x1 at *
  generalize cmpN (userL g.least) (userL f.most) = x2 at *
  obtain ⟨R, hR⟩ : ∃ R, R = (decide (x1 ≤ 0) && decide (x2 ≤ 0)) := ⟨_, rfl⟩
  rw [← hR]
  have HR := hid hR
  clear hR hf hg okf okg kfl kfm kgl kgm k1 k2 k3 k4 e1 e2 e3 e4 r1 r2 r3 r4 u1 u2 u3 u4 c1 c2 c3 c4 hlf hmf hlg hmg
  go_enter Tryz.func75, Tryz.ntmps75
  go_upto_region 1 with fail
  rw [← hW0]
  clear hW0
  refine wp_region_held_drew (S := fun w' => Fr [] W0 w') (by kernel_rfl) (Fr.refl [] W0).drew (fun hS => ?_)
  refine wpAnyH_take (i := 0) (v := .pointer (some ⟨w.heap.size, 2, none⟩)) rfl (by kernel_rfl) (by kernel_rfl) (by kernel_rfl) (fun _ _ _ h => h) (.inl ⟨by rfl, fun wx _ => by go_simp⟩) hS ?_
  simp only [Act.put]
  refine wpAnyH_take (i := 1) (v := .slice (some ⟨fl, flo, none⟩) lf flc) rfl (by kernel_rfl) (by kernel_rfl) (by kernel_rfl) (fun _ _ _ h => h) (.inl ⟨by rfl, fun wx hX => by obtain ⟨⟨s0, s1, s2, s3⟩, s4, s5, s6, s7⟩ := SK.out wx hX; go_simp⟩) hS ?_
  simp only [Act.put]
  refine wpAnyH_take (i := 3) (v := .pointer (some ⟨w.heap.size + 1, 3, none⟩)) rfl (by kernel_rfl) (by kernel_rfl) (by kernel_rfl) (fun _ _ _ h => h) (.inl ⟨by rfl, fun wx _ => by go_simp⟩) hS ?_
  simp only [Act.put]
  refine wpAnyH_take (i := 4) (v := .slice (some ⟨gm, gmo, none⟩) mg gmc) rfl (by kernel_rfl) (by kernel_rfl) (by kernel_rfl) (fun _ _ _ h => h) (.inl ⟨by rfl, fun wx hX => by obtain ⟨⟨s0, s1, s2, s3⟩, s4, s5, s6, s7⟩ := SK.out wx hX; go_simp⟩) hS ?_
  simp only [Act.put]
  clear hS
  refine wpAnyH_ready (rs := [2]) (by kernel_rfl) (by simp) ?_
  refine AllReadyH.cons rfl (fun K hK => ?_) AllReadyH.nil
  go_simp
  refine (U1.out _).mono ?_
  rintro r w2 ⟨rfl, h2⟩
  rw [h2]
  refine hK.out _ _ (Fr.refl [] W0).drew (fun _ => ?_)
  clear hK K h2
  refine wpAnyH_ready (rs := [5]) (by kernel_rfl) (by simp) ?_
  refine AllReadyH.cons rfl (fun K hK => ?_) AllReadyH.nil
  go_simp
  refine (U4.out _).mono ?_
  rintro r w3 ⟨rfl, h3⟩
  rw [h3]
  refine hK.out _ _ (Fr.refl [] W0).drew (fun _ => ?_)
  clear hK K h3
  refine wpAnyH_ready (rs := [6]) (by kernel_rfl) (by simp) ?_
  refine AllReadyH.cons rfl (fun K hK => ?_) AllReadyH.nil
  go_simp
  refine (B1.out _ (F0.out.trans (Fr.refl [] W0).drew)).mono ?_
  rintro r w4 ⟨rfl, f4⟩
  have F4 := hid ((Fr.refl [] W0).drew.trans f4)
  refine hK.out _ _ F4.out (fun hS => ?_)
  clear hK K f4
  by_cases hx1 : x1 ≤ 0
  · have hd : decide (x1 ≤ 0) = true := decide_eq_true hx1
    rw [hd, Bool.true_and] at HR
    refine wpAnyH_take (i := 7) (v := .bool true) rfl (by kernel_rfl) (by kernel_rfl) (by kernel_rfl) (fun _ _ _ h => h) (.inl ⟨by kernel_rfl, fun wx _ => by go_simp⟩) hS ?_
    simp only [Act.put, List.getElem_toArray, List.getElem_cons_succ, List.getElem_cons_zero, List.set_cons_succ, List.set_cons_zero, List.setIfInBounds_toArray]
    refine wpAnyH_take (i := 8) (v := .bool true) rfl (by kernel_rfl) (by kernel_rfl) (by kernel_rfl) (fun _ _ _ h => h) (.inl ⟨by kernel_rfl, fun wx _ => by go_simp⟩) hS ?_
    simp only [Act.put, List.getElem_toArray, List.getElem_cons_succ, List.getElem_cons_zero, List.set_cons_succ, List.set_cons_zero, List.setIfInBounds_toArray]
    refine wpAnyH_take (i := 9) (v := .pointer (some ⟨w.heap.size + 1, 2, none⟩)) rfl (by kernel_rfl) (by kernel_rfl) (by kernel_rfl) (fun _ _ _ h => h) (.inl ⟨by kernel_rfl, fun wx _ => by go_simp⟩) hS ?_
    simp only [Act.put, List.getElem_toArray, List.getElem_cons_succ, List.getElem_cons_zero, List.set_cons_succ, List.set_cons_zero, List.setIfInBounds_toArray]
    refine wpAnyH_take (i := 10) (v := .slice (some ⟨gl, glo, none⟩) lg glc) rfl (by kernel_rfl) (by kernel_rfl) (by kernel_rfl) (fun _ _ _ h => h) (.inl ⟨by kernel_rfl, fun wx hX => by obtain ⟨⟨s0, s1, s2, s3⟩, s4, s5, s6, s7⟩ := SK.out wx hX; go_simp⟩) hS ?_
    simp only [Act.put, List.getElem_toArray, List.getElem_cons_succ, List.getElem_cons_zero, List.set_cons_succ, List.set_cons_zero, List.setIfInBounds_toArray]
    refine wpAnyH_take (i := 12) (v := .pointer (some ⟨w.heap.size, 3, none⟩)) rfl (by kernel_rfl) (by kernel_rfl) (by kernel_rfl) (fun _ _ _ h => h) (.inl ⟨by kernel_rfl, fun wx _ => by go_simp⟩) hS ?_
    simp only [Act.put, List.getElem_toArray, List.getElem_cons_succ, List.getElem_cons_zero, List.set_cons_succ, List.set_cons_zero, List.setIfInBounds_toArray]
    refine wpAnyH_take (i := 13) (v := .slice (some ⟨fm, fmo, none⟩) mf fmc) rfl (by kernel_rfl) (by kernel_rfl) (by kernel_rfl) (fun _ _ _ h => h) (.inl ⟨by kernel_rfl, fun wx hX => by obtain ⟨⟨s0, s1, s2, s3⟩, s4, s5, s6, s7⟩ := SK.out wx hX; go_simp⟩) hS ?_
    simp only [Act.put, List.getElem_toArray, List.getElem_cons_succ, List.getElem_cons_zero, List.set_cons_succ, List.set_cons_zero, List.setIfInBounds_toArray]
    clear hS
    refine wpAnyH_ready (rs := [11]) (by kernel_rfl) (by simp) ?_
    refine AllReadyH.cons rfl (fun K hK => ?_) AllReadyH.nil
    go_simp
    refine (U3.out _).mono ?_
    rintro r w5 ⟨rfl, h5⟩
    rw [h5]
    refine hK.out _ _ F4.out (fun _ => ?_)
    clear hK K h5
    refine wpAnyH_ready (rs := [14]) (by kernel_rfl) (by simp) ?_
    refine AllReadyH.cons rfl (fun K hK => ?_) AllReadyH.nil
    go_simp
    refine (U2.out _).mono ?_
    rintro r w6 ⟨rfl, h6⟩
    rw [h6]
    refine hK.out _ _ F4.out (fun _ => ?_)
    clear hK K h6
    refine wpAnyH_ready (rs := [15]) (by kernel_rfl) (by simp) ?_
    refine AllReadyH.cons rfl (fun K hK => ?_) AllReadyH.nil
    go_simp
    refine (B2.out _ (F0.out.trans F4.out)).mono ?_
    rintro r w7 ⟨rfl, f7⟩
    have F7 := hid (F4.out.trans f7)
    refine hK.out _ _ F7.out (fun hS => ?_)
    clear hK K f7
    refine wpAnyH_take (i := 16) (v := .bool (decide (x2 ≤ 0))) rfl (by kernel_rfl) (by kernel_rfl) (by kernel_rfl) (fun _ _ _ h => h) (.inl ⟨by kernel_rfl, fun wx _ => by go_simp⟩) hS ?_
    simp only [Act.put, List.getElem_toArray, List.getElem_cons_succ, List.getElem_cons_zero, List.set_cons_succ, List.set_cons_zero, List.setIfInBounds_toArray]
    refine wpAnyH_take (i := 17) (v := .bool (decide (x2 ≤ 0))) rfl (by kernel_rfl) (by kernel_rfl) (by kernel_rfl) (fun _ _ _ h => h) (.inl ⟨by kernel_rfl, fun wx _ => by go_simp⟩) hS ?_
    simp only [Act.put, List.getElem_toArray, List.getElem_cons_succ, List.getElem_cons_zero, List.set_cons_succ, List.set_cons_zero, List.setIfInBounds_toArray]
    refine wpAnyH_take (i := 18) (v := .bool (decide (x2 ≤ 0))) rfl (by kernel_rfl) (by kernel_rfl) (by kernel_rfl) (fun _ _ _ h => h) (.inl ⟨by kernel_rfl, fun wx _ => by go_simp⟩) hS ?_
    simp only [Act.put, List.getElem_toArray, List.getElem_cons_succ, List.getElem_cons_zero, List.set_cons_succ, List.set_cons_zero, List.setIfInBounds_toArray]
    clear hS
    refine wpAnyH_done (by kernel_rfl) ?_ _
    go_wp2
    go_ret
    exact ⟨ret_bool HR.out.symm, F0.out.trans F7.out⟩
  · have hd : decide (x1 ≤ 0) = false := decide_eq_false hx1
    have hx1' : 0 < x1 := by omega
    rw [hd, Bool.false_and] at HR
    refine wpAnyH_take (i := 7) (v := .bool false) rfl (by kernel_rfl) (by kernel_rfl) (by kernel_rfl) (fun _ _ _ h => h) (.inl ⟨by kernel_rfl, fun wx _ => by go_simp⟩) hS ?_
    simp only [Act.put, List.getElem_toArray, List.getElem_cons_succ, List.getElem_cons_zero, List.set_cons_succ, List.set_cons_zero, List.setIfInBounds_toArray]
    refine wpAnyH_take (i := 8) (v := .bool false) rfl (by kernel_rfl) (by kernel_rfl) (by kernel_rfl) (fun _ _ _ h => h) (.inl ⟨by kernel_rfl, fun wx _ => by go_simp⟩) hS ?_
    simp only [Act.put, List.getElem_toArray, List.getElem_cons_succ, List.getElem_cons_zero, List.set_cons_succ, List.set_cons_zero, List.setIfInBounds_toArray]
    refine wpAnyH_take (i := 9) (v := undef) rfl (by kernel_rfl) (by kernel_rfl) (by kernel_rfl) (fun _ _ _ h => h) (.inr ⟨by kernel_rfl, rfl⟩) hS ?_
    simp only [Act.put, List.getElem_toArray, List.getElem_cons_succ, List.getElem_cons_zero, List.set_cons_succ, List.set_cons_zero, List.setIfInBounds_toArray]
    refine wpAnyH_take (i := 10) (v := undef) rfl (by kernel_rfl) (by kernel_rfl) (by kernel_rfl) (fun _ _ _ h => h) (.inr ⟨by kernel_rfl, rfl⟩) hS ?_
    simp only [Act.put, List.getElem_toArray, List.getElem_cons_succ, List.getElem_cons_zero, List.set_cons_succ, List.set_cons_zero, List.setIfInBounds_toArray]
    refine wpAnyH_take (i := 11) (v := undef) rfl (by kernel_rfl) (by kernel_rfl) (by kernel_rfl) (fun _ _ _ h => h) (.inr ⟨by kernel_rfl, rfl⟩) hS ?_
    simp only [Act.put, List.getElem_toArray, List.getElem_cons_succ, List.getElem_cons_zero, List.set_cons_succ, List.set_cons_zero, List.setIfInBounds_toArray]
    refine wpAnyH_take (i := 12) (v := undef) rfl (by kernel_rfl) (by kernel_rfl) (by kernel_rfl) (fun _ _ _ h => h) (.inr ⟨by kernel_rfl, rfl⟩) hS ?_
    simp only [Act.put, List.getElem_toArray, List.getElem_cons_succ, List.getElem_cons_zero, List.set_cons_succ, List.set_cons_zero, List.setIfInBounds_toArray]
    refine wpAnyH_take (i := 13) (v := undef) rfl (by kernel_rfl) (by kernel_rfl) (by kernel_rfl) (fun _ _ _ h => h) (.inr ⟨by kernel_rfl, rfl⟩) hS ?_
    simp only [Act.put, List.getElem_toArray, List.getElem_cons_succ, List.getElem_cons_zero, List.set_cons_succ, List.set_cons_zero, List.setIfInBounds_toArray]
    refine wpAnyH_take (i := 14) (v := undef) rfl (by kernel_rfl) (by kernel_rfl) (by kernel_rfl) (fun _ _ _ h => h) (.inr ⟨by kernel_rfl, rfl⟩) hS ?_
    simp only [Act.put, List.getElem_toArray, List.getElem_cons_succ, List.getElem_cons_zero, List.set_cons_succ, List.set_cons_zero, List.setIfInBounds_toArray]
    refine wpAnyH_take (i := 15) (v := undef) rfl (by kernel_rfl) (by kernel_rfl) (by kernel_rfl) (fun _ _ _ h => h) (.inr ⟨by kernel_rfl, rfl⟩) hS ?_
    simp only [Act.put, List.getElem_toArray, List.getElem_cons_succ, List.getElem_cons_zero, List.set_cons_succ, List.set_cons_zero, List.setIfInBounds_toArray]
    refine wpAnyH_take (i := 16) (v := undef) rfl (by kernel_rfl) (by kernel_rfl) (by kernel_rfl) (fun _ _ _ h => h) (.inr ⟨by kernel_rfl, rfl⟩) hS ?_
    simp only [Act.put, List.getElem_toArray, List.getElem_cons_succ, List.getElem_cons_zero, List.set_cons_succ, List.set_cons_zero, List.setIfInBounds_toArray]
    refine wpAnyH_take (i := 17) (v := .bool false) rfl (by kernel_rfl) (by kernel_rfl) (by kernel_rfl) (fun _ _ _ h => h) (.inl ⟨by kernel_rfl, fun wx _ => by go_simp⟩) hS ?_
    simp only [Act.put, List.getElem_toArray, List.getElem_cons_succ, List.getElem_cons_zero, List.set_cons_succ, List.set_cons_zero, List.setIfInBounds_toArray]
    refine wpAnyH_take (i := 18) (v := .bool false) rfl (by kernel_rfl) (by kernel_rfl) (by kernel_rfl) (fun _ _ _ h => h) (.inl ⟨by kernel_rfl, fun wx _ => by go_simp⟩) hS ?_
    simp only [Act.put, List.getElem_toArray, List.getElem_cons_succ, List.getElem_cons_zero, List.set_cons_succ, List.set_cons_zero, List.setIfInBounds_toArray]
    clear hS
    refine wpAnyH_done (by kernel_rfl) ?_ _
    go_wp2
    go_ret
    exact ⟨ret_bool HR.out.symm, F0.out.trans F4.out⟩
end Go.Proofs.YtegbngbhmgbocaaGreatDoor
namespace Go.Proofs.YtegbngbhmgbocaaGreatDoor
open Go.ChangeShapes Go.WideShapes Go.ChangeAt Go.RowKit

theorem ordK_cmp {a b : List Nat} (h : ordK a b ≤ 0) : cmpN (userL a) (userL b) ≤ 0 := by
  unfold ordK ordP at h
  by_cases h0 : cmpN (userL a) (userL b) = 0
  · omega
  · rw [if_neg h0] at h; exact h
theorem okF_user {f : Fl} (h : okF f = true) : cmpN (userL f.least) (userL f.most) ≤ 0 := by
  unfold okF at h
  simp only [Bool.and_eq_true] at h
  exact ordK_cmp (of_decide_eq_true h.2.2.1)
theorem cmpN_lt3 {a b c d : List Nat} (h1 : cmpN a b < 0) (h2 : cmpN b c ≤ 0) (h3 : cmpN c d < 0) : cmpN a d < 0 := by
  have q1 := cmpN_trans a b c (by omega) h2
  have q2 := cmpN_trans a c d q1 (by omega)
  rcases Int.lt_or_eq_of_le q2 with h | h
  · exact h
  · exfalso
    rw [cmpN_eq] at h
    subst h
    have n1 := cmpN_neg a b
    have n2 := cmpN_neg c a
    have q3 := cmpN_trans b c a h2 (by omega)
    omega
/-- Tables that rise and are apart from their neighbours are apart from all. -/
theorem rises_apart (i : Nat) (hi : 0 < i) : ∀ (l : List Fl), (∀ f ∈ l, okF f = true) → risesF i l = true → l.Pairwise (fun a b => cmpN (userL a.most) (userL b.least) < 0)
  | [], _, _ => List.Pairwise.nil
  | [a], _, _ => List.pairwise_singleton _ _
  | a :: b :: r, ok, h => by
    unfold risesF at h
    rw [Bool.and_eq_true] at h
    have ih := rises_apart i hi (b :: r) (fun f hf => ok f (by simp [hf])) h.2
    have hab : cmpN (userL a.most) (userL b.least) < 0 := by
      have := h.1
      unfold apartF reachF at this
      rw [Bool.and_eq_true, decide_eq_true hi, Bool.true_and, Bool.not_eq_true'] at this
      have := of_decide_eq_false this.2
      omega
    refine List.pairwise_cons.2 ⟨fun c hc => ?_, ih⟩
    rcases List.mem_cons.1 hc with rfl | hc
    · exact hab
    · exact cmpN_lt3 hab (okF_user (ok b (by simp))) ((List.pairwise_cons.1 ih).1 c hc)
theorem over_not {i : Nat} (hi : 0 < i) {l : List Fl} (ok : ∀ f ∈ l, okF f = true) {j k : Nat} {f g : Fl} (hjk : j < k) (hf : l[j]? = some f) (hg : l[k]? = some g) (h : overF f g = true) : risesF i l = false := by
  rw [Bool.eq_false_iff]
  intro h2
  have h3 := rises_apart i hi l ok h2
  obtain ⟨q1, q2⟩ := List.getElem?_eq_some_iff.1 hf
  obtain ⟨q3, q4⟩ := List.getElem?_eq_some_iff.1 hg
  have h4 := List.pairwise_iff_getElem.1 h3 j k q1 q3 hjk
  rw [q2, q4] at h4
  unfold overF at h
  rw [Bool.and_eq_true] at h
  have h5 := of_decide_eq_true h.2
  have := cmpN_neg (userL f.most) (userL g.least)
  omega
theorem over_apart {i : Nat} (hi : 0 < i) {f g : Fl} (og : okF g = true) (h : ordK f.least g.least < 0) (ho : overF f g = false) : apartF i f g = true := by
  unfold apartF reachF cmpF
  rw [if_neg (by omega), decide_eq_true h, Bool.true_and, decide_eq_true hi, Bool.true_and, Bool.not_eq_true', decide_eq_false_iff_not]
  intro h2
  have h3 := ordK_cmp (a := f.least) (b := g.least) (by omega)
  have h4 := cmpN_trans _ _ _ h3 (okF_user og)
  unfold overF at ho
  rw [decide_eq_true h4, Bool.true_and] at ho
  have h5 := of_decide_eq_false ho
  have := cmpN_neg (userL f.most) (userL g.least)
  omega
theorem twice_not {l : List Fl} {j k : Nat} {f g : Fl} (hjk : j < k) (hf : l[j]? = some f) (hg : l[k]? = some g) (h : g.num = f.num) : runP freshP [] l = false := by
  rw [Bool.eq_false_iff]
  intro h2
  have h3 := (runP_fresh l [] (by simp)).1 h2
  rw [List.nil_append] at h3
  obtain ⟨q1, q2⟩ := List.getElem?_eq_some_iff.1 hf
  obtain ⟨q3, q4⟩ := List.getElem?_eq_some_iff.1 hg
  have h4 := List.pairwise_iff_getElem.1 h3 j k (by rw [List.length_map]; exact q1) (by rw [List.length_map]; exact q3) hjk
  rw [List.getElem_map, List.getElem_map, q2, q4] at h4
  exact h4 h.symm
theorem once_all {l : List Fl} (h : ∀ j k : Nat, j < k → ∀ f g : Fl, l[j]? = some f → l[k]? = some g → g.num ≠ f.num) : runP freshP [] l = true := by
  rw [runP_fresh l [] (by simp), List.nil_append]
  unfold List.Nodup
  rw [List.pairwise_iff_getElem]
  intro j k hj hk hjk
  rw [List.length_map] at hj hk
  rw [List.getElem_map, List.getElem_map]
  exact fun e => h j k hjk _ _ (List.getElem?_eq_getElem hj) (List.getElem?_eq_getElem hk) e.symm
/-- All tables of the lists. -/
def pfxX (X : Nat → List Fx) (i : Nat) : List Fx := (List.range i).flatMap X
theorem pfxX_succ (X : Nat → List Fx) (i : Nat) : pfxX X (i + 1) = pfxX X i ++ X i := by
  unfold pfxX; rw [List.range_succ, List.flatMap_append]; simp
theorem pfxX_map {X : Nat → List Fx} {L : Nat → List Fl} (h : ∀ i, i < 5 → (X i).map Fx.f = L i) : ∀ i, i ≤ 5 → (pfxX X i).map Fx.f = pfx L i
  | 0, _ => rfl
  | i + 1, hi => by rw [pfxX_succ, pfx_succ, List.map_append, pfxX_map h i (by omega), h i (by omega)]
theorem pfxX_len {X : Nat → List Fx} (h : ∀ m, m < 5 → (X m).length ≤ 1000) : ∀ i, i ≤ 5 → (pfxX X i).length ≤ i * 1000
  | 0, _ => by simp [pfxX]
  | i + 1, hi => by
    have h1 := pfxX_len h i (by omega)
    have h2 := h i (by omega)
    rw [pfxX_succ, List.length_append]
    omega
/-- Tables appended to a row of the call's own. -/
theorem wpList_app_files {w : World} {ops : Array Oper} {rest : List Oper} {o : Oper} {a : Act} {Q : Exit → Act → World → Prop} (hgd : o.guard = none) (s x : Operand)
    (ho : o.op = .call { callee := .builtin .append, args := #[s, x], argTypes := #[25, 25] }) (B : Nat) (hbase : B ≤ w.heap.size) {ga : Option Addr} {gn gc : Nat} {xs ys : List Fx} (hg : gn = xs.length) (hown : w.ownsRow B 62 4 (.slice ga gn gc) xs.length (xs.flatMap encX)) {ya : Option Addr} {yn yc : Nat} (hy : yn = ys.length) (hnil : ya = none → yn = 0 ∧ yc = 0) (hrd : 0 < yn → ∃ b off, ya = some ⟨b, off, none⟩ ∧ ∀ (j : Nat) (f : Fx), ys[j]? = some f → FAt w b (off + j * 4) f.f f.la f.lc f.ma f.mc)
    (hs : a.eval s = .slice ga gn gc) (hx : a.eval x = .slice ya yn yc) (hl1 : gn ≤ 1000000) (hl2 : yn ≤ 1000000)
    (h : ∀ a' c' w', w'.ownsRow B 62 4 (.slice a' (gn + yn) c') (xs ++ ys).length ((xs ++ ys).flatMap encX) → w.grownBy w' (Value.slice ga gn gc).ownBlock → wpList Tryz.prog ops Q rest (a.put o.dst (.slice a' (gn + yn) c')) w') :
    wpList Tryz.prog ops Q (o :: rest) a w := by
  obtain ⟨i0, hi, hz0, hz1, hz2⟩ := info_parts9 infoFile
  cases ya with
  | none =>
    obtain ⟨h1, h2⟩ := hnil rfl
    subst h1
    subst h2
    have h3 : ys = [] := List.eq_nil_of_length_eq_zero hy.symm
    subst h3
    refine wpList_append_own_none hgd s x 25 ho B 62 i0 4 Tryz.underlying25 hi _ xs.length (xs.flatMap encX) hs hown hx ?_
    have := h ga gc w (by rw [List.append_nil]; exact hown) ⟨rfl, rfl, rfl, Nat.le_refl _, fun _ _ _ => rfl⟩
    exact this
  | some ad =>
    have hsp : ∀ j u, (ys.flatMap encX)[j]? = some u → w.cell? (ad.add j) = some u := by
      intro t u hu
      have htl : t < ys.length * 4 := by
        have := (List.getElem?_eq_some_iff.1 hu).1
        rw [flat4_len] at this
        exact this
      obtain ⟨b, off, e, k⟩ := hrd (by omega)
      simp only [Option.some.injEq] at e
      subst e
      obtain ⟨f, hf⟩ : ∃ f, ys[t / 4]? = some f := ⟨_, List.getElem?_eq_getElem (by omega)⟩
      rw [flat4_at ys t f hf] at hu
      have q := k (t / 4) f hf
      rw [Addr.add_lit]
      rcases (show t % 4 = 0 ∨ t % 4 = 1 ∨ t % 4 = 2 ∨ t % 4 = 3 from by omega) with m | m | m | m <;> rw [m] at hu <;> simp [encX] at hu <;> subst hu
      · rw [show off + t = off + t / 4 * 4 from by omega]; exact q.c0
      · rw [show off + t = off + t / 4 * 4 + 1 from by omega]; exact q.c1
      · rw [show off + t = off + t / 4 * 4 + 2 from by omega]; exact q.c2
      · rw [show off + t = off + t / 4 * 4 + 3 from by omega]; exact q.c3
    have one : ∀ u ∈ ys.flatMap encX, u.oneCell' = true := fun u hu => by
      obtain ⟨f, _, hf⟩ := List.mem_flatMap.1 hu
      exact encX_one f u hf
    refine wpList_append_own_at w hgd s x 25 ho B 62 i0 _ 4 64 Tryz.underlying25 hi hz0 hz1 hz2 rfl (by decide) _ xs.length (xs.flatMap encX) hs hown ad yn yc (ys.flatMap encX) hx (by rw [flat4_len, hy]) hsp one (by unfold maxLen; omega) (by omega) hbase fun v' w' o' g' _ _ => ?_
    obtain ⟨a', c', rfl, _⟩ := ownsRow_slice o'
    rw [← hg] at o' ⊢
    refine h a' c' w' ?_ g'
    rw [List.flatMap_append, List.length_append, ← hg, ← hy]
    exact o'
end Go.Proofs.YtegbngbhmgbocaaGreatDoor
