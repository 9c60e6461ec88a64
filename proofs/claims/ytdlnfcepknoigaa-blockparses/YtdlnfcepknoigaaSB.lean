/-
  Package block: Seek.
-/
import Derived.Test.YtdlnfcepknoigaaSA
namespace Go.Proofs.Ytdlnfcepknoigaa
open Go.ChangeShapes Go.WideShapes Go.ChangeAt Go.RowKit

theorem results_cell_tmp2 {fn : Func} {p u u2 : Tmp} {ty : TypeId} (h : fn.results = #[.cell p ty, .tmp u, .tmp u2]) (tmps : Array Value) (P : Program) (w : World) :
    (results fn tmps).run P w =
      ((asAddr (tmps.getD p undef)).run P w).andThen fun a w₁ => ((loadVar ty a).run P w₁).andThen fun v w₂ => .ok (.tuple #[v, tmps.getD u undef, tmps.getD u2 undef]) w₂ := by
  simp only [results, h]
  simp [Sem.run_bind, Result.andThen]
/-- What Seek tells. -/
inductive SeekO (w' : World) (b key : List Nat) : Ending → Prop
  | form (h : ∀ ps r, ¬ Blk b ps r) : SeekO w' b key (.returned (.tuple #[.agg #[.slice none 0 0, .slice none 0 0], .bool false, .int .i64 72]))
  | key {ps : Ps} {r : Nat} (B : Blk b ps r) (h : isK key = false) : SeekO w' b key (.returned (.tuple #[.agg #[.slice none 0 0, .slice none 0 0], .bool false, .int .i64 23]))
  | none {ps : Ps} {r : Nat} (B : Blk b ps r) (h : isK key = true) (ho : ∀ j, j < ps.length → ordK (kA ps j) key < 0) : SeekO w' b key (.returned (.tuple #[.agg #[.slice none 0 0, .slice none 0 0], .bool false, .int .i64 0]))
  | found {ps : Ps} {r k : Nat} {ka va : Option Addr} {kc vc : Nat} (B : Blk b ps r) (h : isK key = true) (hk : k < ps.length) (ho : ∀ j, j < k → ordK (kA ps j) key < 0) (h0 : 0 ≤ ordK (kA ps k) key) (rk : Rd w' (.slice ka (kA ps k).length kc) (bv (kA ps k))) (rv : Rd w' (.slice va (vA ps k).length vc) (bv (vA ps k))) (byp : ByP ps) : SeekO w' b key (.returned (.tuple #[.agg #[.slice ka (kA ps k).length kc, .slice va (vA ps k).length vc], .bool true, .int .i64 0]))
theorem reach_no {ls : List Ln} {key : List Nat} {j : Nat} (h : reach ls key j = false) : ordK (kA (psL ls) j) key < 0 := by
  have := of_decide_eq_false h
  rw [(psL_at ls j).1]; omega
theorem reach_yes {ls : List Ln} {key : List Nat} {j : Nat} (h : reach ls key j = true) : 0 ≤ ordK (kA (psL ls) j) key := by
  rw [(psL_at ls j).1]; exact of_decide_eq_true h
set_option maxRecDepth 20000 in
set_option maxHeartbeats 3200000 in
theorem seek_c (w : World) {v kv : Value} {b key : List Nat} (hr : Rd w v (bv b)) (hb : By b) (hl : b.length ≤ 1000000000) (rk : Rd w kv (bv key)) (bk : By key) (hkl : key.length ≤ 140737488355328) :
    Calls Try.prog 14 #[v, kv] w fun e w' => SeekO w' b key e ∧ Fr [] w w' := by
  obtain ⟨W1, hW1⟩ : ∃ W, W = w.alloc (.cells #[.slice none 0 0, .slice none 0 0] 40) := ⟨_, rfl⟩
  have FW1 : Hid (Fr [] w W1) := by refine hid ?_; rw [hW1]; exact (Fr.refl _ _).alloc _
  have R1 : Hid (W1.heap[w.heap.size]? = some (.cells #[.slice none 0 0, .slice none 0 0] 40 (0, 0))) := by refine hid ?_; rw [hW1]; exact blk_new _ _
  have RC := hid (read_c W1 (hr.fr FW1.out) hb hl)
  have HRK := hid rk
  have HBK := hid bk
  obtain ⟨a, c, hv⟩ := hr.form
  subst hv
  obtain ⟨a2, c2, hkv⟩ := rk.form
  subst hkv
  clear hr hb rk bk
  generalize (bv b).length = vn at *
  generalize (bv key).length = kn at *
  go_enter Try.func14, Try.ntmps14
  go_wp2_with fail
  rw [← hW1]
  clear hW1
  refine RC.out.mono ?_
  rintro e W2 ⟨⟨la, ln, lc, r', rfl, hno⟩ | ⟨ls, la, lc, r, rfl, hB⟩, f2⟩
  · obtain ⟨W3, hW3⟩ : ∃ W, W = W2.alloc (.cells #[.slice la ln lc, .int .i64 r'] 56) := ⟨_, rfl⟩
    have F3 : Hid (Fr [] W1 W3) := by refine hid ?_; rw [hW3]; exact f2.alloc _
    have HNO := hid hno
    clear hno f2 RC
    go_upto_region 2 with fail
    rw [← hW3]
    clear hW3
    have rr := F3.out.at R1.out (by simp)
    have q0 : W3.cell? ⟨w.heap.size, 0, none⟩ = some (.slice none 0 0) := by rw [blk_cell rr]; rfl
    have q1 : W3.cell? ⟨w.heap.size, 1, none⟩ = some (.slice none 0 0) := by rw [blk_cell rr]; rfl
    have qf := blk_frozen rr
    have FRR := hid (FW1.out.trans F3.out)
    clear rr
    go_wp2
    refine bodyPost_ret (v := .tuple #[.agg #[.slice none 0 0, .slice none 0 0], .bool false, .int .i64 72]) (by rw [results_cell_tmp2 rfl]; go_simp) rfl ⟨.form HNO.out, ?_⟩
    exact (FRR.out.set _ _ (.inr (Nat.le_refl _))).set _ _ (.inr (Nat.le_refl _))
  · obtain ⟨W3, hW3⟩ : ∃ W, W = W2.alloc (.cells #[.slice la ls.length lc, .int .i64 (r : Int)] 56) := ⟨_, rfl⟩
    have F3 : Hid (Fr [] W1 W3) := by refine hid ?_; rw [hW3]; exact f2.alloc _
    have C3 : Hid (W3.heap[W2.heap.size]? = some (.cells #[.slice la ls.length lc, .int .i64 (r : Int)] 56 (0, 0))) := by refine hid ?_; rw [hW3]; exact blk_new _ _
    have HB := hid hB
    have RN3 : Hid (RdN W3 (.slice la ls.length lc) ls) := by refine hid ?_; rw [hW3]; exact hB.rd.fr ((Fr.refl _ _).alloc _)
    have hln : ls.length ≤ 1000000000 := by have := hB.len; omega
    have hlo := hB.blk.lo
    have hhi := hB.blk.hi
    clear hB f2 RC
    go_upto_region 2 with fail
    rw [← hW3]
    clear hW3
    have RK3 := hid ((HRK.out.fr FW1.out).fr F3.out)
    rcases hk : isK key with _ | _
    · have SN := hid (Split_no W3 RK3.out HBK.out hkl hk)
      have HK := hid hk
      clear hk
      go_wp2_with fail
      refine SN.out.mono ?_
      rintro e W4 ⟨rfl, f4⟩
      have F4 := hid (F3.out.trans f4)
      clear f4 SN
      have rr := F4.out.at R1.out (by simp)
      have q0 : W4.cell? ⟨w.heap.size, 0, none⟩ = some (.slice none 0 0) := by rw [blk_cell rr]; rfl
      have q1 : W4.cell? ⟨w.heap.size, 1, none⟩ = some (.slice none 0 0) := by rw [blk_cell rr]; rfl
      have qf := blk_frozen rr
      have FRR := hid (FW1.out.trans F4.out)
      clear rr
      go_wp2
      refine bodyPost_ret (v := .tuple #[.agg #[.slice none 0 0, .slice none 0 0], .bool false, .int .i64 23]) (by rw [results_cell_tmp2 rfl]; go_simp) rfl ⟨.key HB.out.blk HK.out, ?_⟩
      exact (FRR.out.set _ _ (.inr (Nat.le_refl _))).set _ _ (.inr (Nat.le_refl _))
    · have SY := hid (Split_yes W3 RK3.out HBK.out hk)
      have HK := hid hk
      clear hk
      go_wp2_with fail
      refine SY.out.mono ?_
      rintro e W4 ⟨uv, rfl, _, f4⟩
      have F4 := hid (F3.out.trans f4)
      have F34 := hid f4
      clear f4 SY
      have C4 := F34.out.at C3.out (by simp)
      have y0 : W4.cell? ⟨W2.heap.size, 0, none⟩ = some (.slice la ls.length lc) := by rw [blk_cell C4]; rfl
      have y1 : W4.cell? ⟨W2.heap.size, 1, none⟩ = some (.int .i64 (r : Int)) := by rw [blk_cell C4]; rfl
      have FB := hid (fromB_c W4 (a := la) (qa := a2) (n := ls.length) (c := lc) (qn := kn) (qc := c2) (r := r) hlo hhi rfl hln (RN3.out.fr F34.out) (RK3.out.fr F34.out) HB.out.blk.rises (fun i hi => (HB.out.ok _ (List.mem_of_getElem? (lnA_at hi))).bk) HK.out HBK.out)
      clear C4
      generalize hnl : ls.length = nl at *
      have HNL := hid hnl
      clear hnl
      go_wp2_with fail
      refine FB.out.mono ?_
      rintro e W5 ⟨k, rfl, hk, hbf, hat, f5⟩
      have F5 := hid (F4.out.trans f5)
      have F35 := hid (F34.out.trans f5)
      have HBF := hid (And.intro hbf hat)
      clear f5 FB hbf hat y0 y1
      have C5 := F35.out.at C3.out (by simp)
      have y0 : W5.cell? ⟨W2.heap.size, 0, none⟩ = some (.slice la nl lc) := by rw [blk_cell C5]; rfl
      clear C5
      by_cases hkn : k = nl
      · subst hkn
        have hno : ∀ j, j < (psL ls).length → ordK (kA (psL ls) j) key < 0 := fun j hj => reach_no (HBF.out.1 j (by rw [psL_len, HNL.out] at hj; exact hj))
        have HNO := hid hno
        clear hno
        have rr := F5.out.at R1.out (by simp)
        have q0 : W5.cell? ⟨w.heap.size, 0, none⟩ = some (.slice none 0 0) := by rw [blk_cell rr]; rfl
        have q1 : W5.cell? ⟨w.heap.size, 1, none⟩ = some (.slice none 0 0) := by rw [blk_cell rr]; rfl
        have qf := blk_frozen rr
        have FRR := hid (FW1.out.trans F5.out)
        clear rr
        go_wp2
        refine bodyPost_ret (v := .tuple #[.agg #[.slice none 0 0, .slice none 0 0], .bool false, .int .i64 0]) (by rw [results_cell_tmp2 rfl]; go_simp) rfl ⟨.none HB.out.blk HK.out HNO.out, ?_⟩
        exact (FRR.out.set _ _ (.inr (Nat.le_refl _))).set _ _ (.inr (Nat.le_refl _))
      · have hkl' : k < ls.length := by rw [HNL.out]; omega
        have hkI : ¬ ((k : Int) = (nl : Int)) := by omega
        obtain ⟨a', c', e', k1⟩ := RN3.out.fr F35.out
        simp only [Value.slice.injEq] at e'
        obtain ⟨rfl, hq, rfl⟩ := e'
        clear hq
        obtain ⟨b', off, rfl, m1⟩ := k1 (by omega)
        obtain ⟨ka, kc, va, vc, P⟩ := m1 k _ (lnA_at hkl')
        have ok := HB.out.ok _ (List.mem_of_getElem? (lnA_at hkl'))
        have z0 := P.c0
        have z1 := P.c1
        have z2 := P.c2
        have z3 := P.c3
        have EC := hid (entry_c W5 (p := ((lnA ls k).pos : Int)) (s := ((lnA ls k).sh : Int)) P.rk P.rv (by have := ok.lk; omega) ok.lv)
        have HX := hid (And.intro (psL_at ls k).1 (And.intro (psL_at ls k).2 hkl'))
        have BYP : Hid (ByP (psL ls)) := hid fun p hp => by
          unfold psL at hp
          obtain ⟨x, hx, rfl⟩ := List.mem_map.1 hp
          exact ⟨(HB.out.ok x hx).bk, (HB.out.ok x hx).bv'⟩
        clear m1 k1 P ok hkl'
        generalize lnA ls k = x at *
        go_wp2_with fail
        refine EC.out.mono ?_
        rintro e W6 ⟨ekv, evv, rfl, ent⟩
        obtain ⟨kka, kkc, rfl, _⟩ := ownsRow_slice ent.ok
        obtain ⟨vva, vvc, rfl, _⟩ := ownsRow_slice ent.ov
        have F6 := hid (F5.out.trans ent.fr)
        have rr := F6.out.at R1.out (by simp)
        have q0 : W6.cell? ⟨w.heap.size, 0, none⟩ = some (.slice none 0 0) := by rw [blk_cell rr]; rfl
        have q1 : W6.cell? ⟨w.heap.size, 1, none⟩ = some (.slice none 0 0) := by rw [blk_cell rr]; rfl
        have qf := blk_frozen rr
        have hno : ¬ U8 W6 w.heap.size := by
          refine noU8 (cs := [.slice none 0 0, .slice none 0 0]) rr ?_
          intro c hc n e
          simp at hc
          subst hc
          simp at e
        obtain ⟨WF, hWF⟩ : ∃ W, W = (W6.setCell ⟨w.heap.size, 0, none⟩ (.slice kka x.key.length kkc)).setCell ⟨w.heap.size, 1, none⟩ (.slice vva x.val.length vvc) := ⟨_, rfl⟩
        have kp : ∀ j, U8 W6 j → WF.heap[j]? = W6.heap[j]? := fun j hj => by
          have : j ≠ w.heap.size := fun e => by subst e; exact hno hj
          rw [hWF, blk_setne _ _ _ this, blk_setne _ _ _ this]
        have RF := hid (And.intro ((Rd.ownB ent.ok).keep kp) ((Rd.ownB ent.ov).keep kp))
        have FF : Hid (Fr [] w WF) := by refine hid ?_; rw [hWF]; exact ((FW1.out.trans F6.out).set _ _ (.inr (Nat.le_refl _))).set _ _ (.inr (Nat.le_refl _))
        have HRB : WF.heap[w.heap.size]? = some (.cells #[.slice kka x.key.length kkc, .slice vva x.val.length vvc] 40 (0, 0)) := by rw [hWF, blk_set (blk_set rr 0 _)]; rfl
        have g0 : WF.cell? ⟨w.heap.size, 0, none⟩ = some (.slice kka x.key.length kkc) := by rw [blk_cell HRB]; rfl
        have g1 : WF.cell? ⟨w.heap.size, 1, none⟩ = some (.slice vva x.val.length vvc) := by rw [blk_cell HRB]; rfl
        clear rr hno kp ent EC HRB
        go_wp2_with fail
        rw [← hWF]
        clear hWF q0 q1 qf
        refine bodyPost_ret (v := .tuple #[.agg #[.slice kka x.key.length kkc, .slice vva x.val.length vvc], .bool true, .int .i64 0]) (by rw [results_cell_tmp2 rfl]; go_simp) rfl ⟨?_, FF.out⟩
        have hkp : k < (psL ls).length := by rw [psL_len]; exact HX.out.2.2
        have := SeekO.found (w' := WF) (b := b) (key := key) (ps := psL ls) (r := r) (k := k) (ka := kka) (va := vva) (kc := kkc) (vc := vvc) HB.out.blk HK.out hkp (fun j hj => reach_no (HBF.out.1 j hj)) (reach_yes (HBF.out.2 (by omega))) (by rw [HX.out.1]; exact RF.out.1) (by rw [HX.out.2.1]; exact RF.out.2) BYP.out
        rw [HX.out.1, HX.out.2.1] at this
        exact this
end Go.Proofs.Ytdlnfcepknoigaa
