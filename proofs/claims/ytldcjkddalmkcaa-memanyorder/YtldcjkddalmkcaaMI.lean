/-
  The walk of Put of package mem, where an entry is put.
-/
import Derived.Test.YtldcjkddalmkcaaMH
namespace Go.Proofs.Ytldcjkddalmkcaa
open Go.ChangeShapes Go.WideShapes Go.ChangeAt Go.RowKit

theorem vb_ok {l s k : Nat} (hl : l ≤ 128) (hs : s ≤ 72057594037927935) (hk : k ≤ 1) : vb l s (k : Int) = true := by
  rcases (show k = 0 ∨ k = 1 from by omega) with rfl | rfl <;> simp [vb, hl, hs]

set_option maxRecDepth 20000 in
set_option maxHeartbeats 8000000 in
theorem put_new0 (w : World) {B t : Nat} {H : List Nat} {pre : List E} (T : Tb w B t H (pre ++ ([] : List E))) (hn : (pre ++ ([] : List E)).length ≤ 1000000) (hH : H.length ≤ 1000000) {uv vv : Value} {u v : List Nat} (ru : Rd w uv (bv u)) (hu : By u) (hul : u.length ≤ 128) (s k : Nat) (hs : s ≤ 72057594037927935) (hk : k ≤ 1) (rv : Rd w vv (bv v)) (hbv : By v) (hvl : v.length ≤ 16384) (C : CutK (pre ++ ([] : List E)) pre (([] : List E)) (keyL u s k)) (hne : ∀ e ∈ ([] : List E), e.key ≠ keyL u s k) :
    Calls Try.prog 11 #[.pointer (some ⟨t, 0, none⟩), uv, .int .u64 (s : Int), .int .i64 (k : Int), vv] w fun e w' => e = .returned (.int .i64 0) ∧ Fr (bks t (pre ++ ([] : List E))) w w' ∧ ∃ n : E, n.key = keyL u s k ∧ n.val = v ∧ n.h = htN H (pre ++ ([] : List E)).length ∧ w.heap.size ≤ n.b ∧ Tb w' B t H (pre ++ n :: ([] : List E)) := by
  have hmf : ∀ (fn : Fn) (first cap : Array Value) (w : World), (Instr.makeFunc fn first cap).run Try.prog w = .ok (.func fn first cap) w := fun _ _ _ _ => rfl
  obtain ⟨hv, M, O⟩ := T.mm
  have hht := htN_le T.hH (pre ++ ([] : List E)).length
  have hgt := C.gt hne (fun e he => by obtain ⟨r, g⟩ := M.ent (e := e) (List.mem_append_right _ he); exact ⟨g.byk, (isK_len g.isk).1⟩) (keyL_by hu s k) (by rw [keyL_len]; omega)
  have HT := hid T
  have HM := hid M
  have HO := hid O
  have HRU := hid ru
  have HRV := hid rv
  have HU := hid hu
  have HBV := hid hbv
  have HC := hid C
  have HGT := hid hgt
  have HNE := hid hne
  have HIS := hid (keyL_is hul hs hk)
  have HBK := hid (keyL_by hu s k)
  have HUS := hid (keyL_user u s k)
  have HKT : Hid (tailN (keyL u s k) % 256 = k) := by unfold Hid; rw [keyL_tail u hs hk]; omega
  have HKL := hid (keyL_len u s k)
  have HSZ : Hid (siz (pre ++ ([] : List E)) ≤ 17000 * (pre ++ ([] : List E)).length) := by
    unfold Hid
    have : ∀ l : List E, (∀ e ∈ l, e.key.length + e.val.length ≤ 17000) → siz l ≤ 17000 * l.length := by
      intro l
      induction l with
      | nil => intro _; simp [siz]
      | cons x l ih =>
        intro h
        have h1 := ih fun e he => h e (List.mem_cons_of_mem _ he)
        have h2 := h x (List.mem_cons_self ..)
        unfold siz at h1 ⊢
        rw [List.map_cons, List.sum_cons, List.length_cons]; omega
    refine this _ fun e he => ?_
    obtain ⟨r, g⟩ := M.ent he
    have := (isK_len g.isk); have := g.vl; omega
  have hvl' : decide ((16384 : Int) < (v.length : Int)) = false := by simp; omega
  obtain ⟨ua, uc, hue⟩ := ru.form
  obtain ⟨va, vc, hve⟩ := rv.form
  rw [bv_len] at hue hve
  subst hue
  subst hve
  have hpp := 0
  clear hpp
  generalize hlen : (pre ++ ([] : List E)).length = c at hht hn HSZ HM
  generalize hsiz : siz (pre ++ ([] : List E)) = z at HSZ HM
  have HLEN := hid hlen
  have HSIZ := hid hsiz
  have hz1 : z ≤ 17000000000 := by have := HSZ.out; omega
  clear T M O ru rv hu hbv C hgt hne hlen hsiz
  go_enter Try.func11, Try.ntmps11
  go_wp2_with fail
  refine (key_ok w HRU.out hul s k hs hk).mono ?_
  rintro e w1 ⟨kv, rfl, o1, f1⟩
  have hkl := HKL.out
  obtain ⟨KL, hKL⟩ : ∃ KL, KL = (keyL u s k).length := ⟨_, rfl⟩
  rw [← hKL] at o1 hkl
  rw [HKL.out] at hKL
  obtain ⟨ka, kc, rfl, hkc⟩ := ownsRow_slice o1
  have RK : Hid (Rd w1 (.slice ka KL kc) (bv (keyL u s k))) := Rd.ownN o1 (by rw [hKL, HKL.out])
  have F1 := hid f1
  have M1 := hid (HM.out.fr f1)
  obtain ⟨q, off, hka, _⟩ : ∃ q off, ka = some ⟨q, off, none⟩ ∧ True := by
    rcases o1.2 with ⟨e, h0⟩ | ⟨g, cap, cur, e, _⟩
    · omega
    · simp only [Value.slice.injEq] at e
      exact ⟨g, 0, e.1, trivial⟩
  subst hka
  have hkl8 : u.length + 8 = KL := hKL.symm
  have hku : u.length ≤ KL := by omega
  have hku2 : KL ≤ 136 := by omega
  have hkcu : u.length ≤ kc := by omega
  have hKE : (keyL u s k).length = KL := by rw [HKL.out]; exact hKL.symm
  have HKE := hid hKE
  clear o1 f1 hkl hKL hkl8 hKE
  go_upto_region 6 with fail
  apply wp_region_lit
  refine wpList_val (v := .pointer (some ⟨t, 0, none⟩)) (w' := w1) rfl (by go_simp) ?_
  refine wpList_val (v := .slice (some ⟨q, off, none⟩) KL kc) (w' := w1) rfl (by go_simp) ?_
  refine wpList_val (v := .func (.func 31) #[.slice (some ⟨q, off, none⟩) KL kc] #[]) (w' := w1) rfl (by go_simp) ?_
  go_wp2_with fail
  refine (beforeK_c w1 M1.out RK.out HIS.out HBK.out HC.out).mono ?_
  rintro e w2 ⟨rfl, f2⟩
  rename_i hK
  refine hK _ _ ?_
  clear hK
  refine wpList_val (v := .pointer (some ⟨w2.heap.size, 0, none⟩)) (w' := w2.alloc (.cells (List.replicate 12 (Value.pointer none)).toArray 68)) rfl (by go_simp) ?_
  refine wpList_stT rfl (.tmp 13) (.tmp 33) rfl (by rw [← bfs_all t pre]; exact bfs_tw t pre 12) (bfs_tw t pre 0) (blk_new w2 _) (by simp [Act.eval, Act.put]) (by simp [Act.eval, Act.put]) ?_
  have AB := hid (row_heapT (ds := bfs t pre 0) (blk_new w2 (.cells (List.replicate 12 (Value.pointer none)).toArray 68)))
  have F3 := hid (((F1.out.trans f2).alloc (.cells (List.replicate 12 (Value.pointer none)).toArray 68)).row (bfs t pre 0).toArray (p := w2.heap.size) (.inr (by have := F1.out.size; have := f2.size; omega)))
  have G3 : Hid (Fr [] w1 (World.setRow (w2.alloc (.cells (List.replicate 12 (Value.pointer none)).toArray 68)) w2.heap.size (bfs t pre 0).toArray)) := (f2.alloc _).row _ (.inr f2.size)
  have hA : w.heap.size ≤ w2.heap.size := by have := F1.out.size; have := f2.size; omega
  clear f2
  generalize w2.heap.size = A at *
  generalize World.setRow _ A (bfs t pre 0).toArray = w3 at AB F3 G3 ⊢
  have M3 := hid (M1.out.fr G3.out)
  have RK3 := hid (RK.out.fr G3.out)
  have ca0 : w3.cell? ⟨A, 0, none⟩ = some (pt (bfr (t, 1) pre 0)) := by rw [lst_cell AB.out, bfs_at t pre (by omega)]
  have cl0 := M3.out.link (i := 0) (by omega)
  generalize bfr (t, 1) pre 0 = p0 at ca0 cl0
  obtain ⟨q1, q2⟩ := p0
  replace cl0 : w3.cell? ⟨q1, q2 + 4, none⟩ = some (lk ([] : List E) 0) := cl0
  unfold pt at ca0
  clear M1 RK G3
  replace cl0 : w3.cell? ⟨q1, q2 + 4, none⟩ = some (.pointer none) := cl0
  go_upto_region 10 with fail
  clear ca0 cl0 
  have W3 := hid (Fr.refl [] w3).drew
  refine wp_region_held_drew (S := fun _ => True) (by kernel_rfl) trivial (fun _ => ?_)
  refine wpAnyH_take (i := 0) (v := .slice (some ⟨q, off, none⟩) KL kc) rfl (by kernel_rfl) (by kernel_rfl) (by kernel_rfl) (fun _ _ _ h => h) (.inl ⟨by rfl, fun wx _ => by go_simp⟩) trivial ?_
  simp only [Act.put]
  refine wpAnyH_take (i := 1) (v := .slice (some ⟨q, off, none⟩) KL kc) rfl (by kernel_rfl) (by kernel_rfl) (by kernel_rfl) (fun _ _ _ h => h) (.inl ⟨by rfl, fun wx _ => by go_simp⟩) trivial ?_
  simp only [Act.put]
  refine wpAnyH_take (i := 2) (v := .slice ua u.length uc) rfl (by kernel_rfl) (by kernel_rfl) (by kernel_rfl) (fun _ _ _ h => h) (.inl ⟨by rfl, fun wx _ => by go_simp⟩) trivial ?_
  simp only [Act.put]
  refine wpAnyH_take (i := 3) (v := .int .i64 (u.length : Int)) rfl (by kernel_rfl) (by kernel_rfl) (by kernel_rfl) (fun _ _ _ h => h) (.inl ⟨by rfl, fun wx _ => by go_simp⟩) trivial ?_
  simp only [Act.put]
  refine wpAnyH_take (i := 4) (v := .slice (some ⟨q, off, none⟩) u.length kc) rfl (by kernel_rfl) (by kernel_rfl) (by kernel_rfl) (fun _ _ _ h => h) (.inl ⟨by rfl, fun wx _ => by go_simp⟩) trivial ?_
  simp only [Act.put]
  refine wpAnyH_take (i := 5) (v := .int .i64 (k : Int)) rfl (by kernel_rfl) (by kernel_rfl) (by kernel_rfl) (fun _ _ _ h => h) (.inl ⟨by rfl, fun wx _ => by go_simp⟩) trivial ?_
  simp only [Act.put]
  refine wpAnyH_take (i := 6) (v := .slice va v.length vc) rfl (by kernel_rfl) (by kernel_rfl) (by kernel_rfl) (fun _ _ _ h => h) (.inl ⟨by rfl, fun wx _ => by go_simp⟩) trivial ?_
  simp only [Act.put]
  refine wpAnyH_ready (rs := [7]) (by kernel_rfl) (by simp) ?_
  refine AllReadyH.cons rfl (fun K hK => ?_) AllReadyH.nil
  go_simp
  refine (clone_c (w := w3.drew) (HRV.out.fr (F3.out.trans W3.out)) (by omega)).mono ?_
  rintro e w4 ⟨cv, rfl, o4, f4⟩
  have F4 := hid (F3.out.trans (W3.out.trans f4))
  have M4 := hid (M3.out.fr (W3.out.trans f4))
  have RK4 := hid (RK3.out.fr (W3.out.trans f4))
  have AB4 := hid ((W3.out.trans f4).at AB.out (by simp))
  have RV4 := hid (Rd.ownB o4)
  obtain ⟨ca, cc, rfl, _⟩ := ownsRow_slice o4
  clear o4 f4 M3 RK3 AB F3
  refine hK.out _ _ trivial (fun _ => ?_)
  clear hK K
  refine wpAnyH_ready (rs := [8]) (by kernel_rfl) (by simp) ?_
  refine AllReadyH.cons rfl (fun K hK => ?_) AllReadyH.nil
  go_simp
  refine hK.out _ _ trivial (fun _ => ?_)
  clear hK K
  refine wpAnyH_ready (rs := [9]) (by kernel_rfl) (by simp) ?_
  refine AllReadyH.cons rfl (fun K hK => ?_) AllReadyH.nil
  go_simp
  refine hK.out _ _ trivial (fun _ => ?_)
  clear hK K
  refine wpAnyH_ready (rs := [10]) (by kernel_rfl) (by simp) ?_
  refine AllReadyH.cons rfl (fun K hK => ?_) AllReadyH.nil
  go_simp
  refine hK.out _ _ trivial (fun _ => ?_)
  clear hK K
  refine wpAnyH_done (by kernel_rfl) ?_ _
  obtain ⟨n, hnd⟩ : ∃ n : E, n = ⟨w4.heap.size, .slice (some ⟨q, off, none⟩) KL kc, .slice (some ⟨q, off, none⟩) u.length kc, .slice ca v.length cc, keyL u s k, v, 0⟩ := ⟨_, rfl⟩
  have hnb : n.b = w4.heap.size := by rw [hnd]
  have P0 : Hid (PutSt w (w4.alloc (.cells #[.slice (some ⟨q, off, none⟩) KL kc, .slice (some ⟨q, off, none⟩) u.length kc, .int .i64 (k : Int), .slice ca v.length cc, .pointer none, .pointer none, .pointer none, .pointer none, .pointer none, .pointer none, .pointer none, .pointer none, .pointer none, .pointer none, .pointer none, .pointer none] 70)) B t hv H pre ([] : List E) n c z A 0) := by
    have fa : Fr [] w4 (w4.alloc (.cells #[.slice (some ⟨q, off, none⟩) KL kc, .slice (some ⟨q, off, none⟩) u.length kc, .int .i64 (k : Int), .slice ca v.length cc, .pointer none, .pointer none, .pointer none, .pointer none, .pointer none, .pointer none, .pointer none, .pointer none, .pointer none, .pointer none, .pointer none, .pointer none] 70)) := (Fr.refl _ _).alloc _
    have ht : w.heap.size ≤ w4.heap.size := F4.out.size
    have hB : B ≤ w4.heap.size := by have := M4.out.bt; have := blk_lt M4.out.tab; omega
    refine ⟨(M4.out.fr fa).lay ⟨?_, ?_, by show isK n.key = true; rw [hnd]; exact HIS.out, ?_, ?_, ?_, by show By n.key; rw [hnd]; exact HBK.out, by show By n.val; rw [hnd]; exact HBV.out, by show n.val.length ≤ 16384; rw [hnd]; exact hvl⟩ ?_, fa.at AB4.out (by simp), (F4.out.trans fa).mono (by simp), ownsRow_fr HO.out (F4.out.trans fa)⟩
    · show (World.alloc _ _).heap[n.b]? = _
      rw [hnb, blk_new]
      unfold eCs up
      rw [hnd]
      show some _ = some (Obj.cells ([Value.slice (some ⟨q, off, none⟩) KL kc, .slice (some ⟨q, off, none⟩) u.length kc, .int .i64 ((tailN (keyL u s k) % 256 : Nat) : Int), .slice ca v.length cc] ++ tow 0 ([] : List E)).toArray _ _)
      rw [HKT.out, tow_nil]; rfl
    · show B ≤ n.b; rw [hnb]; exact hB
    · show Rd _ n.kv (bv n.key); rw [hnd]; exact RK4.out.fr fa
    · show Rd _ n.uv (bv (userL n.key)); rw [hnd]
      show Rd _ (.slice (some ⟨q, off, none⟩) u.length kc) (bv (userL (keyL u s k)))
      have h5 := RK4.out
      rw [← HKE.out] at h5
      replace h5 := h5.fr fa
      have h6 := h5.front (q := u.length) (by rw [HKL.out]; omega)
      rw [HUS.out, show u = (keyL u s k).take u.length from by unfold keyL; rw [List.take_left']; rfl]
      have h7 : ((keyL u s k).take u.length).length = u.length := by rw [List.length_take, HKL.out]; omega
      rw [h7]; exact h6
    · show Rd _ n.vv (bv n.val); rw [hnd]; exact RV4.out.fr fa
    · intro x hx e
      have := (M4.out.lt x.b (List.mem_cons_of_mem _ (List.mem_map.2 ⟨x, hx, rfl⟩))).2
      rw [e, hnb] at this; omega
  have hnw : w.heap.size ≤ n.b := by rw [hnb]; exact F4.out.size
  have HNK : Hid (n.key = keyL u s k ∧ n.val = v) := by rw [hnd]; exact ⟨rfl, rfl⟩
  rw [← hnb]
  clear F4 M4 RK4 AB4 RV4 hnd hnb
  generalize w4.alloc _ = w5 at P0 ⊢
  go_wp2_with fail
  refine (nextHeight_c w5 P0.out.mm P0.out.ow hH).mono ?_
  rintro e w6 ⟨rfl, nn, rfl⟩
  have P1 := hid (P0.out.fr' ((Fr.refl [] w5).drewN nn))
  generalize w5.drewN nn = w6 at P1 ⊢
  obtain ⟨h, hh⟩ : ∃ h, h = htN H c := ⟨_, rfl⟩
  rw [← hh] at hht ⊢
  have HHT := hid hh
  obtain ⟨hht1, hht2⟩ := hht
  clear hh P0
  go_wp2_with fail
  go_loopw [62] (fun v62 wr => ∃ j : Nat, j ≤ h ∧ v62 = .int .i64 (j : Int) ∧ PutSt w wr B t hv H pre ([] : List E) n c z A j) (fun v62 _ => h - (intOf v62).toNat)
  case atStart => exact ⟨0, Nat.zero_le _, rfl, P1.out⟩
  case round =>
    clear P1
    obtain ⟨j, hj, rfl, P⟩ := hrel
    have HP := hid P
    by_cases hlt : j < h
    · have hj12 : j < 12 := by omega
      have hji : (j : Int) < 12 := by omega
      have hji' : ¬ (12 : Int) ≤ (j : Int) := by omega
      have caj : ∀ wx : World, wx.heap[A]? = wr.heap[A]? → wx.cell? ⟨A, j, none⟩ = some (pt (bfr (t, 1) pre j)) := fun wx hx => by
        have h1 := P.ab
        rw [← hx] at h1
        rw [lst_cell h1, bfs_at t pre hj12]
      have clj := P.mm.link (i := j) hj12
      rw [show lk (up j n :: ([] : List E)) j = lk ([] : List E) j from lk_skip (s := []) (fun e he => by cases he)] at clj
      have HST := hid (P.drew.step hj12 hnw)
      have hqn : (bfr (t, 1) pre j).1 ≠ n.b := by
        rcases bfr_in t pre j with e | ⟨x, hx, e⟩
        · rw [e]; exact fun e => P.mm.ne (up j n) (by simp) e.symm
        · rw [e]
          have := P.mm.nd
          rw [List.map_append, List.map_cons, List.nodup_append] at this
          exact fun e => this.2.2 _ (List.mem_map.2 ⟨x, hx, rfl⟩) _ (List.mem_cons_self ..) e
      have hAn : A ≠ n.b := fun e => P.nA n.b (List.mem_cons_of_mem _ (List.mem_map.2 ⟨up j n, by simp, rfl⟩)) e.symm
      have hnB : wr.heap[n.b]? = some (.cells (eCs (up j n) ([] : List E)).toArray 70 (0, 0)) := (Chain.mid P.mm.ch).blk
      have hqf : wr.frozen? ⟨(bfr (t, 1) pre j).1, (bfr (t, 1) pre j).2 + 4 + j, none⟩ = false := by
        rcases bfr_in t pre j with e | ⟨x, hx, e⟩
        · rw [e]; exact blk_frozen P.mm.tab _
        · rw [e]; obtain ⟨r, g⟩ := P.mm.ent (e := x) (by simp [hx]); exact blk_frozen g.blk _
      obtain ⟨lp, hlp⟩ := lk_ptr ([] : List E) j
      generalize bfr (t, 1) pre j = p0 at caj clj HST hqn hqf
      obtain ⟨p1, p2⟩ := p0
      rw [hlp] at clj HST
      unfold pt at caj HST
      replace hqn : p1 ≠ n.b := hqn
      replace hqf : wr.frozen? ⟨p1, p2 + 4 + j, none⟩ = false := hqf
      replace clj : wr.cell? ⟨p1, p2 + 4 + j, none⟩ = some (.pointer lp) := clj
      have hcn : wr.cell? ⟨n.b, 4 + j, none⟩ = some (.pointer none) := by
        rw [lst_cell hnB, eCs_tow _ _ hj12]; unfold nx up; show some (if j < j then _ else _) = _; rw [if_neg (by omega)]
      have hfn : wr.frozen? ⟨n.b, 4 + j, none⟩ = false := blk_frozen hnB _
      have HS : Hid (∀ v, (wr.drew.setCell ⟨n.b, 4 + j, none⟩ v).cell? ⟨A, j, none⟩ = some (.pointer (some ⟨p1, p2, none⟩)) ∧ (wr.drew.setCell ⟨n.b, 4 + j, none⟩ v).cell? ⟨p1, p2 + 4 + j, none⟩ = some (.pointer lp) ∧ (wr.drew.setCell ⟨n.b, 4 + j, none⟩ v).frozen? ⟨p1, p2 + 4 + j, none⟩ = false) := fun v => by
        refine ⟨caj _ (blk_setne _ _ _ hAn), ?_, ?_⟩
        · rw [World.cell?_of_block (w := wr.drew) (blk_setne _ _ _ hqn)]; exact clj
        · rw [World.frozen?_setCell]; exact hqf
      have caj0 : wr.drew.cell? ⟨A, j, none⟩ = some (.pointer (some ⟨p1, p2, none⟩)) := caj _ rfl
      clear P HP hlp hnB caj
      go_upto_region 14 with fail
      refine wp_region_held_drew (S := fun w' => w'.cell? ⟨A, j, none⟩ = some (.pointer (some ⟨p1, p2, none⟩)) ∧ w'.cell? ⟨p1, p2 + 4 + j, none⟩ = some (.pointer lp)) (by kernel_rfl) ⟨caj0, clj⟩ (fun hS => ?_)
      refine wpAnyH_take (i := 0) (v := .pointer (some ⟨n.b, 0, none⟩)) rfl (by kernel_rfl) (by kernel_rfl) (by kernel_rfl) (fun _ _ _ h => h) (.inl ⟨by rfl, fun wx _ => by go_simp⟩) hS ?_
      simp only [Act.put]
      refine wpAnyH_take (i := 1) (v := .int .i64 (j : Int)) rfl (by kernel_rfl) (by kernel_rfl) (by kernel_rfl) (fun _ _ _ h => h) (.inl ⟨by rfl, fun wx _ => by go_simp⟩) hS ?_
      simp only [Act.put]
      refine wpAnyH_take (i := 2) (v := .int .i64 (j : Int)) rfl (by kernel_rfl) (by kernel_rfl) (by kernel_rfl) (fun _ _ _ h => h) (.inl ⟨by rfl, fun wx _ => by go_simp⟩) hS ?_
      simp only [Act.put]
      refine wpAnyH_take (i := 3) (v := .pointer (some ⟨A, j, none⟩)) rfl (by kernel_rfl) (by kernel_rfl) (by kernel_rfl) (fun _ _ _ h => h) (.inl ⟨by rfl, fun wx _ => by go_simp⟩) hS ?_
      simp only [Act.put]
      refine wpAnyH_take (i := 4) (v := .pointer (some ⟨p1, p2, none⟩)) rfl (by kernel_rfl) (by kernel_rfl) (by kernel_rfl) (fun _ _ _ h => h) (.inl ⟨by rfl, fun wx hX => by obtain ⟨x1, x2⟩ := hX; go_simp⟩) hS ?_
      simp only [Act.put]
      refine wpAnyH_take (i := 5) (v := .int .i64 (j : Int)) rfl (by kernel_rfl) (by kernel_rfl) (by kernel_rfl) (fun _ _ _ h => h) (.inl ⟨by rfl, fun wx _ => by go_simp⟩) hS ?_
      simp only [Act.put]
      refine wpAnyH_take (i := 6) (v := .pointer (some ⟨p1, p2, none⟩)) rfl (by kernel_rfl) (by kernel_rfl) (by kernel_rfl) (fun _ _ _ h => h) (.inl ⟨by rfl, fun wx _ => by go_simp⟩) hS ?_
      simp only [Act.put]
      refine wpAnyH_take (i := 7) (v := .pointer (some ⟨p1, p2 + 4, none⟩)) rfl (by kernel_rfl) (by kernel_rfl) (by kernel_rfl) (fun _ _ _ h => h) (.inl ⟨by rfl, fun wx _ => by go_simp⟩) hS ?_
      simp only [Act.put]
      refine wpAnyH_take (i := 8) (v := .pointer (some ⟨p1, p2 + 4 + j, none⟩)) rfl (by kernel_rfl) (by kernel_rfl) (by kernel_rfl) (fun _ _ _ h => h) (.inl ⟨by rfl, fun wx _ => by go_simp⟩) hS ?_
      simp only [Act.put]
      refine wpAnyH_take (i := 9) (v := .pointer lp) rfl (by kernel_rfl) (by kernel_rfl) (by kernel_rfl) (fun _ _ _ h => h) (.inl ⟨by rfl, fun wx hX => by obtain ⟨x1, x2⟩ := hX; go_simp⟩) hS ?_
      simp only [Act.put]
      refine wpAnyH_take (i := 10) (v := .pointer (some ⟨n.b, 0, none⟩)) rfl (by kernel_rfl) (by kernel_rfl) (by kernel_rfl) (fun _ _ _ h => h) (.inl ⟨by rfl, fun wx _ => by go_simp⟩) hS ?_
      simp only [Act.put]
      refine wpAnyH_take (i := 11) (v := .pointer (some ⟨n.b, 4, none⟩)) rfl (by kernel_rfl) (by kernel_rfl) (by kernel_rfl) (fun _ _ _ h => h) (.inl ⟨by rfl, fun wx _ => by go_simp⟩) hS ?_
      simp only [Act.put]
      refine wpAnyH_take (i := 12) (v := .pointer (some ⟨n.b, 4 + j, none⟩)) rfl (by kernel_rfl) (by kernel_rfl) (by kernel_rfl) (fun _ _ _ h => h) (.inl ⟨by rfl, fun wx _ => by go_simp⟩) hS ?_
      simp only [Act.put]
      clear hS caj0 clj
      refine wpAnyH_ready (rs := [13]) (by kernel_rfl) (by simp) ?_
      refine AllReadyH.cons rfl (fun K hK => ?_) AllReadyH.nil
      go_simp
      obtain ⟨x1, x2, x3⟩ := HS.out (.pointer lp)
      refine hK.out _ _ ⟨x1, x2⟩ (fun _ => ?_)
      clear hK K hcn hfn
      refine wpAnyH_done (by kernel_rfl) ?_ _
      go_wp2_with fail
      go_roundw
      case rel => exact ⟨j + 1, by omega, by go_num, HST.out⟩
      case measure => simp [intOf]; omega
    · have : j = h := by omega
      subst this
      obtain ⟨h0, h17, h18⟩ := tab_cells P.mm
      have z17 := blk_frozen P.mm.tab 17
      have z18 := blk_frozen P.mm.tab 18
      have HFN : Hid (Tb ((wr.setCell ⟨t, 17, none⟩ (.int .i64 ((c : Int) + 1))).setCell ⟨t, 18, none⟩ (.int .i64 ((z : Int) + ((KL : Int) + (v.length : Int))))) B t H (pre ++ up j n :: ([] : List E)) ∧ Fr (bks t (pre ++ ([] : List E))) w ((wr.setCell ⟨t, 17, none⟩ (.int .i64 ((c : Int) + 1))).setCell ⟨t, 18, none⟩ (.int .i64 ((z : Int) + ((KL : Int) + (v.length : Int)))))) := by
        have := PutSt.fin (z := z + (KL + v.length)) (by rw [HLEN.out, HSIZ.out]; exact HP.out) ⟨hht1, hht2⟩ HT.out (by rw [HNK.out.1, HNK.out.2, HKE.out, HSIZ.out]) (by rw [HNK.out.1]; exact HC.out.lo) (by rw [HNK.out.1]; exact HGT.out)
        rw [HLEN.out, show ((c + 1 : Nat) : Int) = (c : Int) + 1 from rfl, show ((z + (KL + v.length) : Nat) : Int) = (z : Int) + ((KL : Int) + (v.length : Int)) from by omega] at this
        exact this
      clear P h0
      go_wp2
      go_ret
      exact ⟨rfl, HFN.out.2, up j n, HNK.out.1, HNK.out.2, HHT.out, hnw, HFN.out.1⟩

set_option maxRecDepth 20000 in
set_option maxHeartbeats 8000000 in
theorem put_new1 (w : World) {B t : Nat} {H : List Nat} {pre : List E} {e0 : E} {r : List E} (T : Tb w B t H (pre ++ (e0 :: r))) (hn : (pre ++ (e0 :: r)).length ≤ 1000000) (hH : H.length ≤ 1000000) {uv vv : Value} {u v : List Nat} (ru : Rd w uv (bv u)) (hu : By u) (hul : u.length ≤ 128) (s k : Nat) (hs : s ≤ 72057594037927935) (hk : k ≤ 1) (rv : Rd w vv (bv v)) (hbv : By v) (hvl : v.length ≤ 16384) (C : CutK (pre ++ (e0 :: r)) pre ((e0 :: r)) (keyL u s k)) (hne : ∀ e ∈ (e0 :: r), e.key ≠ keyL u s k) :
    Calls Try.prog 11 #[.pointer (some ⟨t, 0, none⟩), uv, .int .u64 (s : Int), .int .i64 (k : Int), vv] w fun e w' => e = .returned (.int .i64 0) ∧ Fr (bks t (pre ++ (e0 :: r))) w w' ∧ ∃ n : E, n.key = keyL u s k ∧ n.val = v ∧ n.h = htN H (pre ++ (e0 :: r)).length ∧ w.heap.size ≤ n.b ∧ Tb w' B t H (pre ++ n :: (e0 :: r)) := by
  have hmf : ∀ (fn : Fn) (first cap : Array Value) (w : World), (Instr.makeFunc fn first cap).run Try.prog w = .ok (.func fn first cap) w := fun _ _ _ _ => rfl
  obtain ⟨hv, M, O⟩ := T.mm
  have hht := htN_le T.hH (pre ++ (e0 :: r)).length
  have hgt := C.gt hne (fun e he => by obtain ⟨r, g⟩ := M.ent (e := e) (List.mem_append_right _ he); exact ⟨g.byk, (isK_len g.isk).1⟩) (keyL_by hu s k) (by rw [keyL_len]; omega)
  have HT := hid T
  have HM := hid M
  have HO := hid O
  have HRU := hid ru
  have HRV := hid rv
  have HU := hid hu
  have HBV := hid hbv
  have HC := hid C
  have HGT := hid hgt
  have HNE := hid hne
  have HIS := hid (keyL_is hul hs hk)
  have HBK := hid (keyL_by hu s k)
  have HUS := hid (keyL_user u s k)
  have HKT : Hid (tailN (keyL u s k) % 256 = k) := by unfold Hid; rw [keyL_tail u hs hk]; omega
  have HKL := hid (keyL_len u s k)
  have HSZ : Hid (siz (pre ++ (e0 :: r)) ≤ 17000 * (pre ++ (e0 :: r)).length) := by
    unfold Hid
    have : ∀ l : List E, (∀ e ∈ l, e.key.length + e.val.length ≤ 17000) → siz l ≤ 17000 * l.length := by
      intro l
      induction l with
      | nil => intro _; simp [siz]
      | cons x l ih =>
        intro h
        have h1 := ih fun e he => h e (List.mem_cons_of_mem _ he)
        have h2 := h x (List.mem_cons_self ..)
        unfold siz at h1 ⊢
        rw [List.map_cons, List.sum_cons, List.length_cons]; omega
    refine this _ fun e he => ?_
    obtain ⟨r, g⟩ := M.ent he
    have := (isK_len g.isk); have := g.vl; omega
  have hvl' : decide ((16384 : Int) < (v.length : Int)) = false := by simp; omega
  obtain ⟨ua, uc, hue⟩ := ru.form
  obtain ⟨va, vc, hve⟩ := rv.form
  rw [bv_len] at hue hve
  subst hue
  subst hve
  have hh0 : 0 < e0.h := (T.hh e0 (by simp)).1
  generalize hlen : (pre ++ (e0 :: r)).length = c at hht hn HSZ HM
  generalize hsiz : siz (pre ++ (e0 :: r)) = z at HSZ HM
  have HLEN := hid hlen
  have HSIZ := hid hsiz
  have hz1 : z ≤ 17000000000 := by have := HSZ.out; omega
  clear T M O ru rv hu hbv C hgt hne hlen hsiz
  go_enter Try.func11, Try.ntmps11
  go_wp2_with fail
  refine (key_ok w HRU.out hul s k hs hk).mono ?_
  rintro e w1 ⟨kv, rfl, o1, f1⟩
  have hkl := HKL.out
  obtain ⟨KL, hKL⟩ : ∃ KL, KL = (keyL u s k).length := ⟨_, rfl⟩
  rw [← hKL] at o1 hkl
  rw [HKL.out] at hKL
  obtain ⟨ka, kc, rfl, hkc⟩ := ownsRow_slice o1
  have RK : Hid (Rd w1 (.slice ka KL kc) (bv (keyL u s k))) := Rd.ownN o1 (by rw [hKL, HKL.out])
  have F1 := hid f1
  have M1 := hid (HM.out.fr f1)
  obtain ⟨q, off, hka, _⟩ : ∃ q off, ka = some ⟨q, off, none⟩ ∧ True := by
    rcases o1.2 with ⟨e, h0⟩ | ⟨g, cap, cur, e, _⟩
    · omega
    · simp only [Value.slice.injEq] at e
      exact ⟨g, 0, e.1, trivial⟩
  subst hka
  have hkl8 : u.length + 8 = KL := hKL.symm
  have hku : u.length ≤ KL := by omega
  have hku2 : KL ≤ 136 := by omega
  have hkcu : u.length ≤ kc := by omega
  have hKE : (keyL u s k).length = KL := by rw [HKL.out]; exact hKL.symm
  have HKE := hid hKE
  clear o1 f1 hkl hKL hkl8 hKE
  go_upto_region 6 with fail
  apply wp_region_lit
  refine wpList_val (v := .pointer (some ⟨t, 0, none⟩)) (w' := w1) rfl (by go_simp) ?_
  refine wpList_val (v := .slice (some ⟨q, off, none⟩) KL kc) (w' := w1) rfl (by go_simp) ?_
  refine wpList_val (v := .func (.func 31) #[.slice (some ⟨q, off, none⟩) KL kc] #[]) (w' := w1) rfl (by go_simp) ?_
  go_wp2_with fail
  refine (beforeK_c w1 M1.out RK.out HIS.out HBK.out HC.out).mono ?_
  rintro e w2 ⟨rfl, f2⟩
  rename_i hK
  refine hK _ _ ?_
  clear hK
  refine wpList_val (v := .pointer (some ⟨w2.heap.size, 0, none⟩)) (w' := w2.alloc (.cells (List.replicate 12 (Value.pointer none)).toArray 68)) rfl (by go_simp) ?_
  refine wpList_stT rfl (.tmp 13) (.tmp 33) rfl (by rw [← bfs_all t pre]; exact bfs_tw t pre 12) (bfs_tw t pre 0) (blk_new w2 _) (by simp [Act.eval, Act.put]) (by simp [Act.eval, Act.put]) ?_
  have AB := hid (row_heapT (ds := bfs t pre 0) (blk_new w2 (.cells (List.replicate 12 (Value.pointer none)).toArray 68)))
  have F3 := hid (((F1.out.trans f2).alloc (.cells (List.replicate 12 (Value.pointer none)).toArray 68)).row (bfs t pre 0).toArray (p := w2.heap.size) (.inr (by have := F1.out.size; have := f2.size; omega)))
  have G3 : Hid (Fr [] w1 (World.setRow (w2.alloc (.cells (List.replicate 12 (Value.pointer none)).toArray 68)) w2.heap.size (bfs t pre 0).toArray)) := (f2.alloc _).row _ (.inr f2.size)
  have hA : w.heap.size ≤ w2.heap.size := by have := F1.out.size; have := f2.size; omega
  clear f2
  generalize w2.heap.size = A at *
  generalize World.setRow _ A (bfs t pre 0).toArray = w3 at AB F3 G3 ⊢
  have M3 := hid (M1.out.fr G3.out)
  have RK3 := hid (RK.out.fr G3.out)
  have ca0 : w3.cell? ⟨A, 0, none⟩ = some (pt (bfr (t, 1) pre 0)) := by rw [lst_cell AB.out, bfs_at t pre (by omega)]
  have cl0 := M3.out.link (i := 0) (by omega)
  generalize bfr (t, 1) pre 0 = p0 at ca0 cl0
  obtain ⟨q1, q2⟩ := p0
  replace cl0 : w3.cell? ⟨q1, q2 + 4, none⟩ = some (lk (e0 :: r) 0) := cl0
  unfold pt at ca0
  clear M1 RK G3
  rw [show lk (e0 :: r) 0 = .pointer (some ⟨e0.b, 0, none⟩) from by show (if 0 < e0.h then _ else _) = _; rw [if_pos hh0]; rfl] at cl0
  have g0 : EntB w3 B e0 r := Chain.mid M3.out.ch
  have ce0 := g0.cells.1
  have EQ := hid (bytesEqual_c g0.rk RK3.out g0.byk HBK.out)
  rw [decide_eq_false (HNE.out e0 (List.mem_cons_self ..))] at EQ
  obtain ⟨ea, ec, he0⟩ := g0.rk.form
  rw [he0] at ce0 EQ
  clear g0 he0
  go_upto_region 10 with (go_at_call 32; refine EQ.out.mono ?_; rintro e w3 ⟨rfl, rfl⟩)
  clear ca0 cl0 ce0 EQ
  have W3 := hid (Fr.refl [] w3).drew
  refine wp_region_held_drew (S := fun _ => True) (by kernel_rfl) trivial (fun _ => ?_)
  refine wpAnyH_take (i := 0) (v := .slice (some ⟨q, off, none⟩) KL kc) rfl (by kernel_rfl) (by kernel_rfl) (by kernel_rfl) (fun _ _ _ h => h) (.inl ⟨by rfl, fun wx _ => by go_simp⟩) trivial ?_
  simp only [Act.put]
  refine wpAnyH_take (i := 1) (v := .slice (some ⟨q, off, none⟩) KL kc) rfl (by kernel_rfl) (by kernel_rfl) (by kernel_rfl) (fun _ _ _ h => h) (.inl ⟨by rfl, fun wx _ => by go_simp⟩) trivial ?_
  simp only [Act.put]
  refine wpAnyH_take (i := 2) (v := .slice ua u.length uc) rfl (by kernel_rfl) (by kernel_rfl) (by kernel_rfl) (fun _ _ _ h => h) (.inl ⟨by rfl, fun wx _ => by go_simp⟩) trivial ?_
  simp only [Act.put]
  refine wpAnyH_take (i := 3) (v := .int .i64 (u.length : Int)) rfl (by kernel_rfl) (by kernel_rfl) (by kernel_rfl) (fun _ _ _ h => h) (.inl ⟨by rfl, fun wx _ => by go_simp⟩) trivial ?_
  simp only [Act.put]
  refine wpAnyH_take (i := 4) (v := .slice (some ⟨q, off, none⟩) u.length kc) rfl (by kernel_rfl) (by kernel_rfl) (by kernel_rfl) (fun _ _ _ h => h) (.inl ⟨by rfl, fun wx _ => by go_simp⟩) trivial ?_
  simp only [Act.put]
  refine wpAnyH_take (i := 5) (v := .int .i64 (k : Int)) rfl (by kernel_rfl) (by kernel_rfl) (by kernel_rfl) (fun _ _ _ h => h) (.inl ⟨by rfl, fun wx _ => by go_simp⟩) trivial ?_
  simp only [Act.put]
  refine wpAnyH_take (i := 6) (v := .slice va v.length vc) rfl (by kernel_rfl) (by kernel_rfl) (by kernel_rfl) (fun _ _ _ h => h) (.inl ⟨by rfl, fun wx _ => by go_simp⟩) trivial ?_
  simp only [Act.put]
  refine wpAnyH_ready (rs := [7]) (by kernel_rfl) (by simp) ?_
  refine AllReadyH.cons rfl (fun K hK => ?_) AllReadyH.nil
  go_simp
  refine (clone_c (w := w3.drew) (HRV.out.fr (F3.out.trans W3.out)) (by omega)).mono ?_
  rintro e w4 ⟨cv, rfl, o4, f4⟩
  have F4 := hid (F3.out.trans (W3.out.trans f4))
  have M4 := hid (M3.out.fr (W3.out.trans f4))
  have RK4 := hid (RK3.out.fr (W3.out.trans f4))
  have AB4 := hid ((W3.out.trans f4).at AB.out (by simp))
  have RV4 := hid (Rd.ownB o4)
  obtain ⟨ca, cc, rfl, _⟩ := ownsRow_slice o4
  clear o4 f4 M3 RK3 AB F3
  refine hK.out _ _ trivial (fun _ => ?_)
  clear hK K
  refine wpAnyH_ready (rs := [8]) (by kernel_rfl) (by simp) ?_
  refine AllReadyH.cons rfl (fun K hK => ?_) AllReadyH.nil
  go_simp
  refine hK.out _ _ trivial (fun _ => ?_)
  clear hK K
  refine wpAnyH_ready (rs := [9]) (by kernel_rfl) (by simp) ?_
  refine AllReadyH.cons rfl (fun K hK => ?_) AllReadyH.nil
  go_simp
  refine hK.out _ _ trivial (fun _ => ?_)
  clear hK K
  refine wpAnyH_ready (rs := [10]) (by kernel_rfl) (by simp) ?_
  refine AllReadyH.cons rfl (fun K hK => ?_) AllReadyH.nil
  go_simp
  refine hK.out _ _ trivial (fun _ => ?_)
  clear hK K
  refine wpAnyH_done (by kernel_rfl) ?_ _
  obtain ⟨n, hnd⟩ : ∃ n : E, n = ⟨w4.heap.size, .slice (some ⟨q, off, none⟩) KL kc, .slice (some ⟨q, off, none⟩) u.length kc, .slice ca v.length cc, keyL u s k, v, 0⟩ := ⟨_, rfl⟩
  have hnb : n.b = w4.heap.size := by rw [hnd]
  have P0 : Hid (PutSt w (w4.alloc (.cells #[.slice (some ⟨q, off, none⟩) KL kc, .slice (some ⟨q, off, none⟩) u.length kc, .int .i64 (k : Int), .slice ca v.length cc, .pointer none, .pointer none, .pointer none, .pointer none, .pointer none, .pointer none, .pointer none, .pointer none, .pointer none, .pointer none, .pointer none, .pointer none] 70)) B t hv H pre (e0 :: r) n c z A 0) := by
    have fa : Fr [] w4 (w4.alloc (.cells #[.slice (some ⟨q, off, none⟩) KL kc, .slice (some ⟨q, off, none⟩) u.length kc, .int .i64 (k : Int), .slice ca v.length cc, .pointer none, .pointer none, .pointer none, .pointer none, .pointer none, .pointer none, .pointer none, .pointer none, .pointer none, .pointer none, .pointer none, .pointer none] 70)) := (Fr.refl _ _).alloc _
    have ht : w.heap.size ≤ w4.heap.size := F4.out.size
    have hB : B ≤ w4.heap.size := by have := M4.out.bt; have := blk_lt M4.out.tab; omega
    refine ⟨(M4.out.fr fa).lay ⟨?_, ?_, by show isK n.key = true; rw [hnd]; exact HIS.out, ?_, ?_, ?_, by show By n.key; rw [hnd]; exact HBK.out, by show By n.val; rw [hnd]; exact HBV.out, by show n.val.length ≤ 16384; rw [hnd]; exact hvl⟩ ?_, fa.at AB4.out (by simp), (F4.out.trans fa).mono (by simp), ownsRow_fr HO.out (F4.out.trans fa)⟩
    · show (World.alloc _ _).heap[n.b]? = _
      rw [hnb, blk_new]
      unfold eCs up
      rw [hnd]
      show some _ = some (Obj.cells ([Value.slice (some ⟨q, off, none⟩) KL kc, .slice (some ⟨q, off, none⟩) u.length kc, .int .i64 ((tailN (keyL u s k) % 256 : Nat) : Int), .slice ca v.length cc] ++ tow 0 (e0 :: r)).toArray _ _)
      rw [HKT.out, tow_nil]; rfl
    · show B ≤ n.b; rw [hnb]; exact hB
    · show Rd _ n.kv (bv n.key); rw [hnd]; exact RK4.out.fr fa
    · show Rd _ n.uv (bv (userL n.key)); rw [hnd]
      show Rd _ (.slice (some ⟨q, off, none⟩) u.length kc) (bv (userL (keyL u s k)))
      have h5 := RK4.out
      rw [← HKE.out] at h5
      replace h5 := h5.fr fa
      have h6 := h5.front (q := u.length) (by rw [HKL.out]; omega)
      rw [HUS.out, show u = (keyL u s k).take u.length from by unfold keyL; rw [List.take_left']; rfl]
      have h7 : ((keyL u s k).take u.length).length = u.length := by rw [List.length_take, HKL.out]; omega
      rw [h7]; exact h6
    · show Rd _ n.vv (bv n.val); rw [hnd]; exact RV4.out.fr fa
    · intro x hx e
      have := (M4.out.lt x.b (List.mem_cons_of_mem _ (List.mem_map.2 ⟨x, hx, rfl⟩))).2
      rw [e, hnb] at this; omega
  have hnw : w.heap.size ≤ n.b := by rw [hnb]; exact F4.out.size
  have HNK : Hid (n.key = keyL u s k ∧ n.val = v) := by rw [hnd]; exact ⟨rfl, rfl⟩
  rw [← hnb]
  clear F4 M4 RK4 AB4 RV4 hnd hnb
  generalize w4.alloc _ = w5 at P0 ⊢
  go_wp2_with fail
  refine (nextHeight_c w5 P0.out.mm P0.out.ow hH).mono ?_
  rintro e w6 ⟨rfl, nn, rfl⟩
  have P1 := hid (P0.out.fr' ((Fr.refl [] w5).drewN nn))
  generalize w5.drewN nn = w6 at P1 ⊢
  obtain ⟨h, hh⟩ : ∃ h, h = htN H c := ⟨_, rfl⟩
  rw [← hh] at hht ⊢
  have HHT := hid hh
  obtain ⟨hht1, hht2⟩ := hht
  clear hh P0
  go_wp2_with fail
  go_loopw [62] (fun v62 wr => ∃ j : Nat, j ≤ h ∧ v62 = .int .i64 (j : Int) ∧ PutSt w wr B t hv H pre (e0 :: r) n c z A j) (fun v62 _ => h - (intOf v62).toNat)
  case atStart => exact ⟨0, Nat.zero_le _, rfl, P1.out⟩
  case round =>
    clear P1
    obtain ⟨j, hj, rfl, P⟩ := hrel
    have HP := hid P
    by_cases hlt : j < h
    · have hj12 : j < 12 := by omega
      have hji : (j : Int) < 12 := by omega
      have hji' : ¬ (12 : Int) ≤ (j : Int) := by omega
      have caj : ∀ wx : World, wx.heap[A]? = wr.heap[A]? → wx.cell? ⟨A, j, none⟩ = some (pt (bfr (t, 1) pre j)) := fun wx hx => by
        have h1 := P.ab
        rw [← hx] at h1
        rw [lst_cell h1, bfs_at t pre hj12]
      have clj := P.mm.link (i := j) hj12
      rw [show lk (up j n :: (e0 :: r)) j = lk (e0 :: r) j from lk_skip (s := []) (fun e he => by cases he)] at clj
      have HST := hid (P.drew.step hj12 hnw)
      have hqn : (bfr (t, 1) pre j).1 ≠ n.b := by
        rcases bfr_in t pre j with e | ⟨x, hx, e⟩
        · rw [e]; exact fun e => P.mm.ne (up j n) (by simp) e.symm
        · rw [e]
          have := P.mm.nd
          rw [List.map_append, List.map_cons, List.nodup_append] at this
          exact fun e => this.2.2 _ (List.mem_map.2 ⟨x, hx, rfl⟩) _ (List.mem_cons_self ..) e
      have hAn : A ≠ n.b := fun e => P.nA n.b (List.mem_cons_of_mem _ (List.mem_map.2 ⟨up j n, by simp, rfl⟩)) e.symm
      have hnB : wr.heap[n.b]? = some (.cells (eCs (up j n) (e0 :: r)).toArray 70 (0, 0)) := (Chain.mid P.mm.ch).blk
      have hqf : wr.frozen? ⟨(bfr (t, 1) pre j).1, (bfr (t, 1) pre j).2 + 4 + j, none⟩ = false := by
        rcases bfr_in t pre j with e | ⟨x, hx, e⟩
        · rw [e]; exact blk_frozen P.mm.tab _
        · rw [e]; obtain ⟨r, g⟩ := P.mm.ent (e := x) (by simp [hx]); exact blk_frozen g.blk _
      obtain ⟨lp, hlp⟩ := lk_ptr (e0 :: r) j
      generalize bfr (t, 1) pre j = p0 at caj clj HST hqn hqf
      obtain ⟨p1, p2⟩ := p0
      rw [hlp] at clj HST
      unfold pt at caj HST
      replace hqn : p1 ≠ n.b := hqn
      replace hqf : wr.frozen? ⟨p1, p2 + 4 + j, none⟩ = false := hqf
      replace clj : wr.cell? ⟨p1, p2 + 4 + j, none⟩ = some (.pointer lp) := clj
      have hcn : wr.cell? ⟨n.b, 4 + j, none⟩ = some (.pointer none) := by
        rw [lst_cell hnB, eCs_tow _ _ hj12]; unfold nx up; show some (if j < j then _ else _) = _; rw [if_neg (by omega)]
      have hfn : wr.frozen? ⟨n.b, 4 + j, none⟩ = false := blk_frozen hnB _
      have HS : Hid (∀ v, (wr.drew.setCell ⟨n.b, 4 + j, none⟩ v).cell? ⟨A, j, none⟩ = some (.pointer (some ⟨p1, p2, none⟩)) ∧ (wr.drew.setCell ⟨n.b, 4 + j, none⟩ v).cell? ⟨p1, p2 + 4 + j, none⟩ = some (.pointer lp) ∧ (wr.drew.setCell ⟨n.b, 4 + j, none⟩ v).frozen? ⟨p1, p2 + 4 + j, none⟩ = false) := fun v => by
        refine ⟨caj _ (blk_setne _ _ _ hAn), ?_, ?_⟩
        · rw [World.cell?_of_block (w := wr.drew) (blk_setne _ _ _ hqn)]; exact clj
        · rw [World.frozen?_setCell]; exact hqf
      have caj0 : wr.drew.cell? ⟨A, j, none⟩ = some (.pointer (some ⟨p1, p2, none⟩)) := caj _ rfl
      clear P HP hlp hnB caj
      go_upto_region 14 with fail
      refine wp_region_held_drew (S := fun w' => w'.cell? ⟨A, j, none⟩ = some (.pointer (some ⟨p1, p2, none⟩)) ∧ w'.cell? ⟨p1, p2 + 4 + j, none⟩ = some (.pointer lp)) (by kernel_rfl) ⟨caj0, clj⟩ (fun hS => ?_)
      refine wpAnyH_take (i := 0) (v := .pointer (some ⟨n.b, 0, none⟩)) rfl (by kernel_rfl) (by kernel_rfl) (by kernel_rfl) (fun _ _ _ h => h) (.inl ⟨by rfl, fun wx _ => by go_simp⟩) hS ?_
      simp only [Act.put]
      refine wpAnyH_take (i := 1) (v := .int .i64 (j : Int)) rfl (by kernel_rfl) (by kernel_rfl) (by kernel_rfl) (fun _ _ _ h => h) (.inl ⟨by rfl, fun wx _ => by go_simp⟩) hS ?_
      simp only [Act.put]
      refine wpAnyH_take (i := 2) (v := .int .i64 (j : Int)) rfl (by kernel_rfl) (by kernel_rfl) (by kernel_rfl) (fun _ _ _ h => h) (.inl ⟨by rfl, fun wx _ => by go_simp⟩) hS ?_
      simp only [Act.put]
      refine wpAnyH_take (i := 3) (v := .pointer (some ⟨A, j, none⟩)) rfl (by kernel_rfl) (by kernel_rfl) (by kernel_rfl) (fun _ _ _ h => h) (.inl ⟨by rfl, fun wx _ => by go_simp⟩) hS ?_
      simp only [Act.put]
      refine wpAnyH_take (i := 4) (v := .pointer (some ⟨p1, p2, none⟩)) rfl (by kernel_rfl) (by kernel_rfl) (by kernel_rfl) (fun _ _ _ h => h) (.inl ⟨by rfl, fun wx hX => by obtain ⟨x1, x2⟩ := hX; go_simp⟩) hS ?_
      simp only [Act.put]
      refine wpAnyH_take (i := 5) (v := .int .i64 (j : Int)) rfl (by kernel_rfl) (by kernel_rfl) (by kernel_rfl) (fun _ _ _ h => h) (.inl ⟨by rfl, fun wx _ => by go_simp⟩) hS ?_
      simp only [Act.put]
      refine wpAnyH_take (i := 6) (v := .pointer (some ⟨p1, p2, none⟩)) rfl (by kernel_rfl) (by kernel_rfl) (by kernel_rfl) (fun _ _ _ h => h) (.inl ⟨by rfl, fun wx _ => by go_simp⟩) hS ?_
      simp only [Act.put]
      refine wpAnyH_take (i := 7) (v := .pointer (some ⟨p1, p2 + 4, none⟩)) rfl (by kernel_rfl) (by kernel_rfl) (by kernel_rfl) (fun _ _ _ h => h) (.inl ⟨by rfl, fun wx _ => by go_simp⟩) hS ?_
      simp only [Act.put]
      refine wpAnyH_take (i := 8) (v := .pointer (some ⟨p1, p2 + 4 + j, none⟩)) rfl (by kernel_rfl) (by kernel_rfl) (by kernel_rfl) (fun _ _ _ h => h) (.inl ⟨by rfl, fun wx _ => by go_simp⟩) hS ?_
      simp only [Act.put]
      refine wpAnyH_take (i := 9) (v := .pointer lp) rfl (by kernel_rfl) (by kernel_rfl) (by kernel_rfl) (fun _ _ _ h => h) (.inl ⟨by rfl, fun wx hX => by obtain ⟨x1, x2⟩ := hX; go_simp⟩) hS ?_
      simp only [Act.put]
      refine wpAnyH_take (i := 10) (v := .pointer (some ⟨n.b, 0, none⟩)) rfl (by kernel_rfl) (by kernel_rfl) (by kernel_rfl) (fun _ _ _ h => h) (.inl ⟨by rfl, fun wx _ => by go_simp⟩) hS ?_
      simp only [Act.put]
      refine wpAnyH_take (i := 11) (v := .pointer (some ⟨n.b, 4, none⟩)) rfl (by kernel_rfl) (by kernel_rfl) (by kernel_rfl) (fun _ _ _ h => h) (.inl ⟨by rfl, fun wx _ => by go_simp⟩) hS ?_
      simp only [Act.put]
      refine wpAnyH_take (i := 12) (v := .pointer (some ⟨n.b, 4 + j, none⟩)) rfl (by kernel_rfl) (by kernel_rfl) (by kernel_rfl) (fun _ _ _ h => h) (.inl ⟨by rfl, fun wx _ => by go_simp⟩) hS ?_
      simp only [Act.put]
      clear hS caj0 clj
      refine wpAnyH_ready (rs := [13]) (by kernel_rfl) (by simp) ?_
      refine AllReadyH.cons rfl (fun K hK => ?_) AllReadyH.nil
      go_simp
      obtain ⟨x1, x2, x3⟩ := HS.out (.pointer lp)
      refine hK.out _ _ ⟨x1, x2⟩ (fun _ => ?_)
      clear hK K hcn hfn
      refine wpAnyH_done (by kernel_rfl) ?_ _
      go_wp2_with fail
      go_roundw
      case rel => exact ⟨j + 1, by omega, by go_num, HST.out⟩
      case measure => simp [intOf]; omega
    · have : j = h := by omega
      subst this
      obtain ⟨h0, h17, h18⟩ := tab_cells P.mm
      have z17 := blk_frozen P.mm.tab 17
      have z18 := blk_frozen P.mm.tab 18
      have HFN : Hid (Tb ((wr.setCell ⟨t, 17, none⟩ (.int .i64 ((c : Int) + 1))).setCell ⟨t, 18, none⟩ (.int .i64 ((z : Int) + ((KL : Int) + (v.length : Int))))) B t H (pre ++ up j n :: (e0 :: r)) ∧ Fr (bks t (pre ++ (e0 :: r))) w ((wr.setCell ⟨t, 17, none⟩ (.int .i64 ((c : Int) + 1))).setCell ⟨t, 18, none⟩ (.int .i64 ((z : Int) + ((KL : Int) + (v.length : Int)))))) := by
        have := PutSt.fin (z := z + (KL + v.length)) (by rw [HLEN.out, HSIZ.out]; exact HP.out) ⟨hht1, hht2⟩ HT.out (by rw [HNK.out.1, HNK.out.2, HKE.out, HSIZ.out]) (by rw [HNK.out.1]; exact HC.out.lo) (by rw [HNK.out.1]; exact HGT.out)
        rw [HLEN.out, show ((c + 1 : Nat) : Int) = (c : Int) + 1 from rfl, show ((z + (KL + v.length) : Nat) : Int) = (z : Int) + ((KL : Int) + (v.length : Int)) from by omega] at this
        exact this
      clear P h0
      go_wp2
      go_ret
      exact ⟨rfl, HFN.out.2, up j n, HNK.out.1, HNK.out.2, HHT.out, hnw, HFN.out.1⟩
end Go.Proofs.Ytldcjkddalmkcaa
