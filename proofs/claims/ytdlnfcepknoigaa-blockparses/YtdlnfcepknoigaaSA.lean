/-
  Package block: from.
-/
import Derived.Test.YtdlnfcepknoigaaBS
import Derived.Laws.EntriesVeiled
namespace Go.Proofs.Ytdlnfcepknoigaa
open Go.ChangeShapes Go.WideShapes Go.ChangeAt Go.RowKit

/-- What from's functions see: the lines and the restart, the key, in blocks of their own. -/
structure FS (W : World) (C K : Nat) (lv kv : Value) (r : Nat) (ls : List Ln) (key : List Nat) : Prop where
  cb : W.heap[C]? = some (.cells #[lv, .int .i64 (r : Int)] 56 (0, 0))
  kb : W.heap[K]? = some (.cells #[kv] 26 (0, 0))
  rd : RdN W lv ls
  rk : Rd W kv (bv key)
theorem FS.fr {W W' : World} {C K : Nat} {lv kv : Value} {r : Nat} {ls : List Ln} {key : List Nat} (h : FS W C K lv kv r ls key) (f : Fr [] W W') : FS W' C K lv kv r ls key :=
  ⟨f.at h.cb (by simp), f.at h.kb (by simp), h.rd.fr f, h.rk.fr f⟩
set_option maxRecDepth 20000 in
set_option maxHeartbeats 3200000 in
theorem from1_c (W : World) {C K r i : Nat} {lv kv : Value} {ls : List Ln} {key : List Nat} (h : FS W C K lv kv r ls key) (hi : i < ls.length) (hl : ls.length ≤ 1000000000) (hk : isK (lnA ls i).key = true) (hb : By (lnA ls i).key) (hkk : isK key = true) (hkb : By key) :
    Calls Try.prog 49 #[.int .i64 (i : Int), .pointer (some ⟨C, 0, none⟩), .pointer (some ⟨K, 0, none⟩)] W fun e w' => e = .returned (.bool (decide (0 ≤ ordK (lnA ls i).key key))) ∧ Fr [] W w' := by
  obtain ⟨a, c, hlv, k1⟩ := h.rd
  obtain ⟨b, off, rfl, m1⟩ := k1 (by omega)
  obtain ⟨ka, kc, va, vc, P⟩ := m1 i _ (lnA_at hi)
  obtain ⟨qa, qc, hkv⟩ := h.rk.form
  rw [bv_len] at hkv
  subst hlv
  subst hkv
  have z1 : W.cell? ⟨C, 0, none⟩ = some (.slice (some ⟨b, off, none⟩) ls.length c) := by rw [blk_cell h.cb]; rfl
  have z2 : W.cell? ⟨K, 0, none⟩ = some (.slice qa key.length qc) := by rw [blk_cell h.kb]; rfl
  have z3 := P.c2
  have CY := compare_yes W.drew (P.rk.fr (Fr.refl _ _).drew) hb hk (h.rk.fr (Fr.refl _ _).drew) hkb hkk
  have HC := hid CY
  clear CY m1 k1 P h
  generalize (lnA ls i).key.length = kl at *
  generalize key.length = kl2 at *
  generalize ordK (lnA ls i).key key = o at *
  generalize ls.length = n at *
  have SK : Hid (∀ w', Fr [] W w' → w'.cell? ⟨C, 0, none⟩ = some (.slice (some ⟨b, off, none⟩) n c) ∧ w'.cell? ⟨K, 0, none⟩ = some (.slice qa kl2 qc) ∧ w'.cell? ⟨b, off + i * 4 + 2, none⟩ = some (.slice ka kl kc)) := hid fun w' f => ⟨cell_fr f z1, cell_fr f z2, cell_fr f z3⟩
  have hiI : (i : Int) < (n : Int) := by omega
  clear z1 z2 z3
  go_enter Try.func49, Try.ntmps49
  go_upto_region 1 with fail
  refine wp_region_held_drew (S := fun w' => w'.cell? ⟨C, 0, none⟩ = some (.slice (some ⟨b, off, none⟩) n c) ∧ w'.cell? ⟨K, 0, none⟩ = some (.slice qa kl2 qc) ∧ w'.cell? ⟨b, off + i * 4 + 2, none⟩ = some (.slice ka kl kc)) (by kernel_rfl) (SK.out _ ((Fr.refl _ _).drew)) (fun hS => ?_)
  refine wpAnyH_take (i := 0) (v := .pointer (some ⟨C, 0, none⟩)) rfl (by kernel_rfl) (by kernel_rfl) (by kernel_rfl) (fun _ _ _ h => h) (.inl ⟨by rfl, fun wx _ => by go_simp⟩) hS ?_
  simp only [Act.put]
  refine wpAnyH_take (i := 1) (v := .slice (some ⟨b, off, none⟩) n c) rfl (by kernel_rfl) (by kernel_rfl) (by kernel_rfl) (fun _ _ _ h => h) (.inl ⟨by rfl, fun wx hX => by obtain ⟨x0, x1, x2⟩ := hX; go_simp⟩) hS ?_
  simp only [Act.put]
  refine wpAnyH_take (i := 2) (v := .int .i64 (i : Int)) rfl (by kernel_rfl) (by kernel_rfl) (by kernel_rfl) (fun _ _ _ h => h) (.inl ⟨by rfl, fun wx _ => by go_simp⟩) hS ?_
  simp only [Act.put]
  refine wpAnyH_take (i := 3) (v := .pointer (some ⟨b, off + i * 4, none⟩)) rfl (by kernel_rfl) (by kernel_rfl) (by kernel_rfl) (fun _ _ _ h => h) (.inl ⟨by rfl, fun wx _ => by go_simp⟩) hS ?_
  simp only [Act.put]
  refine wpAnyH_take (i := 4) (v := .pointer (some ⟨b, off + i * 4 + 2, none⟩)) rfl (by kernel_rfl) (by kernel_rfl) (by kernel_rfl) (fun _ _ _ h => h) (.inl ⟨by rfl, fun wx _ => by go_simp⟩) hS ?_
  simp only [Act.put]
  refine wpAnyH_take (i := 5) (v := .slice ka kl kc) rfl (by kernel_rfl) (by kernel_rfl) (by kernel_rfl) (fun _ _ _ h => h) (.inl ⟨by rfl, fun wx hX => by obtain ⟨x0, x1, x2⟩ := hX; go_simp⟩) hS ?_
  simp only [Act.put]
  refine wpAnyH_take (i := 6) (v := .slice qa kl2 qc) rfl (by kernel_rfl) (by kernel_rfl) (by kernel_rfl) (fun _ _ _ h => h) (.inl ⟨by rfl, fun wx hX => by obtain ⟨x0, x1, x2⟩ := hX; go_simp⟩) hS ?_
  simp only [Act.put]
  clear hS
  refine wpAnyH_ready (rs := [7]) (by kernel_rfl) (by simp) ?_
  refine AllReadyH.cons rfl (fun K' hK => ?_) AllReadyH.nil
  go_simp
  refine HC.out.mono ?_
  rintro e w1 ⟨rfl, f1⟩
  have F1 := hid (((Fr.refl [] W).drew).trans f1)
  have hS1 := SK.out _ F1.out
  refine hK.out _ _ hS1 (fun _ => ?_)
  clear hK K' f1 HC
  refine wpAnyH_take (i := 8) (v := .tuple #[.int .i64 o, .int .i64 0]) rfl (by kernel_rfl) (by kernel_rfl) (by kernel_rfl) (fun _ _ _ h => h) (.inl ⟨by rfl, fun wx _ => by go_simp⟩) hS1 ?_
  simp only [Act.put]
  refine wpAnyH_take (i := 9) (v := .int .i64 o) rfl (by kernel_rfl) (by kernel_rfl) (by kernel_rfl) (fun _ _ _ h => h) (.inl ⟨by rfl, fun wx _ => by go_simp⟩) hS1 ?_
  simp only [Act.put]
  refine wpAnyH_take (i := 10) (v := .int .i64 0) rfl (by kernel_rfl) (by kernel_rfl) (by kernel_rfl) (fun _ _ _ h => h) (.inl ⟨by rfl, fun wx _ => by go_simp⟩) hS1 ?_
  simp only [Act.put]
  refine wpAnyH_ready (rs := [11]) (by kernel_rfl) (by simp) ?_
  refine AllReadyH.cons rfl (fun K' hK => ?_) AllReadyH.nil
  go_simp
  refine hK.out _ _ hS1 (fun _ => ?_)
  clear hK K'
  refine wpAnyH_ready (rs := [12]) (by kernel_rfl) (by simp) ?_
  refine AllReadyH.cons rfl (fun K' hK => ?_) AllReadyH.nil
  go_simp
  refine hK.out _ _ hS1 (fun _ => ?_)
  clear hK K' hS1
  refine wpAnyH_done (by kernel_rfl) ?_ _
  go_wp2
  go_ret
  exact ⟨rfl, F1.out⟩
theorem ord_lt {a b c : List Nat} (h1 : ordK a b ≤ 0) (h2 : ordK b c < 0) : ordK a c < 0 := by
  rcases Int.lt_or_le (ordK a c) 0 with h | h
  · exact h
  · have n1 := ordK_neg a c
    have n2 := ordK_neg b c
    have := ordK_trans c a b (by omega) h1
    omega
theorem rises_step {ps : Ps} (hr : Rises ps) {i : Nat} (hi : i + 1 < ps.length) : ordK (kA ps i) (kA ps (i + 1)) < 0 := by
  have h := hr (i + 1) hi
  have hk := isK_len (flw_isK (hr i (by omega)))
  unfold flw at h
  rw [ahd_succ, if_neg (fun e => by rw [e] at hk; simp at hk)] at h
  simp only [Bool.and_eq_true, decide_eq_true_eq] at h
  exact h.2.2
theorem rises_le {ps : Ps} (hr : Rises ps) {i : Nat} : ∀ {j : Nat}, i ≤ j → j < ps.length → ordK (kA ps i) (kA ps j) ≤ 0
  | 0, h, _ => by
    have : i = 0 := by omega
    subst this
    have := ordK_neg (kA ps 0) (kA ps 0)
    omega
  | j + 1, h, hj => by
    rcases Nat.eq_or_lt_of_le h with e | h
    · subst e
      have := ordK_neg (kA ps (j + 1)) (kA ps (j + 1))
      omega
    · have h1 := rises_le hr (i := i) (j := j) (by omega) (by omega)
      have h2 := rises_step hr hj
      exact ordK_trans _ _ _ h1 (by omega)
theorem run_lt {n r runs k : Nat} (h1 : 1 ≤ r) (hr : runs = (n + r - 1) / r) (hk : k < runs) : k * r < n := by
  have h2 := Nat.div_mul_le_self (n + r - 1) r
  rw [← hr] at h2
  have h3 : (k + 1) * r ≤ runs * r := Nat.mul_le_mul_right _ hk
  rw [Nat.add_mul, Nat.one_mul] at h3
  omega
theorem runs_le {n r runs : Nat} (h1 : 1 ≤ r) (hr : runs = (n + r - 1) / r) : runs ≤ n := by
  rcases Nat.lt_or_ge n runs with h | h
  · have := run_lt h1 hr h
    have h2 : n * 1 ≤ n * r := Nat.mul_le_mul_left _ h1
    omega
  · exact h
/-- What is asked of each line. -/
def reach (ls : List Ln) (key : List Nat) (i : Nat) : Bool := decide (0 ≤ ordK (lnA ls i).key key)
/-- .. and the function that asks, in its block. -/
structure FT (W : World) (C : Nat) (lv kv : Value) (r : Nat) (ls : List Ln) (key : List Nat) : Prop where
  fs : FS W C (C + 1) lv kv r ls key
  fb : W.heap[C + 2]? = some (.cells #[.func (.func 49) #[] #[.pointer (some ⟨C, 0, none⟩), .pointer (some ⟨C + 1, 0, none⟩)]] 91 (0, 0))
  len : ls.length ≤ 1000000000
  isk : ∀ i, i < ls.length → isK (lnA ls i).key = true ∧ By (lnA ls i).key
  kk : isK key = true
  kb : By key
theorem FT.fr {W W' : World} {C : Nat} {lv kv : Value} {r : Nat} {ls : List Ln} {key : List Nat} (h : FT W C lv kv r ls key) (f : Fr [] W W') : FT W' C lv kv r ls key :=
  ⟨h.fs.fr f, f.at h.fb (by simp), h.len, h.isk, h.kk, h.kb⟩
theorem FT.call {W : World} {C : Nat} {lv kv : Value} {r : Nat} {ls : List Ln} {key : List Nat} (h : FT W C lv kv r ls key) {i : Nat} (hi : i < ls.length) :
    Calls Try.prog 49 #[.int .i64 (i : Int), .pointer (some ⟨C, 0, none⟩), .pointer (some ⟨C + 1, 0, none⟩)] W fun e w' => e = .returned (.bool (reach ls key i)) ∧ Fr [] W w' :=
  from1_c W h.fs hi h.len (h.isk i hi).1 (h.isk i hi).2 h.kk h.kb
set_option maxRecDepth 20000 in
set_option maxHeartbeats 3200000 in
theorem from2_c (W : World) {C r k : Nat} {lv kv : Value} {ls : List Ln} {key : List Nat} (h : FT W C lv kv r ls key) (hk : k * r < ls.length) (hr : r ≤ 64) (hk2 : k ≤ 1000000000) :
    Calls Try.prog 52 #[.int .i64 (k : Int), .pointer (some ⟨C + 2, 0, none⟩), .pointer (some ⟨C, 0, none⟩)] W fun e w' => e = .returned (.bool (reach ls key (k * r))) ∧ Fr [] W w' := by
  have z1 : W.cell? ⟨C + 2, 0, none⟩ = some (.func (.func 49) #[] #[.pointer (some ⟨C, 0, none⟩), .pointer (some ⟨C + 1, 0, none⟩)]) := by rw [blk_cell h.fb]; rfl
  have z2 : W.cell? ⟨C, 1, none⟩ = some (.int .i64 (r : Int)) := by rw [blk_cell h.fs.cb]; rfl
  have CC := hid (h.call hk)
  have hb : k * r ≤ 1000000000 * 64 := Nat.mul_le_mul hk2 hr
  have hmul : (k : Int) * (r : Int) = ((k * r : Nat) : Int) := by simp
  generalize reach ls key (k * r) = rr at *
  obtain ⟨m, hm⟩ : ∃ m, m = k * r := ⟨_, rfl⟩
  rw [← hm] at hmul CC hb
  clear hm h hk
  go_enter Try.func52, Try.ntmps52
  go_wp2_with fail
  refine CC.out.mono ?_
  rintro e w1 ⟨rfl, f1⟩
  go_wp2
  go_ret
  exact ⟨rfl, f1⟩
set_option maxRecDepth 20000 in
set_option maxHeartbeats 6400000 in
theorem fromB_c (w : World) {a qa : Option Addr} {n c qn qc r : Nat} (h1 : 1 ≤ r) (h2 : r ≤ 64) {ls : List Ln} {key : List Nat} (hn : n = ls.length) (hl : n ≤ 1000000000) (hr : RdN w (.slice a n c) ls) (rk : Rd w (.slice qa qn qc) (bv key)) (hris : Rises (psL ls)) (hby : ∀ i, i < ls.length → By (lnA ls i).key) (kk : isK key = true) (kb : By key) :
    Calls Try.prog 30 #[.agg #[.slice a n c, .int .i64 (r : Int)], .slice qa qn qc] w fun e w' => ∃ k : Nat, e = .returned (.int .i64 (k : Int)) ∧ k ≤ n ∧ (∀ j, j < k → reach ls key j = false) ∧ (k < n → reach ls key k = true) ∧ Fr [] w w' := by
  obtain ⟨W3, hW3⟩ : ∃ W, W = ((w.alloc (.cells #[.slice a n c, .int .i64 (r : Int)] 56)).alloc (.cells #[.slice qa qn qc] 26)).alloc (.cells #[.func (.func 49) #[] #[.pointer (some ⟨w.heap.size, 0, none⟩), .pointer (some ⟨w.heap.size + 1, 0, none⟩)]] 91) := ⟨_, rfl⟩
  have F3 : Fr [] w W3 := by rw [hW3]; exact (((Fr.refl _ _).alloc _).alloc _).alloc _
  have hisk : ∀ i, i < ls.length → isK (lnA ls i).key = true := fun i hi => by
    have := flw_isK (hris i (by rw [psL_len]; exact hi))
    rwa [(psL_at ls i).1] at this
  have T3 : FT W3 w.heap.size (.slice a n c) (.slice qa qn qc) r ls key := by
    refine ⟨⟨?_, ?_, hr.fr F3, rk.fr F3⟩, ?_, by rw [← hn]; exact hl, fun i hi => ⟨hisk i hi, hby i hi⟩, kk, kb⟩
    · rw [hW3, blk_old _ _ (by simp; omega), blk_old _ _ (by simp)]; exact blk_new _ _
    · rw [hW3, blk_old _ _ (by simp)]; exact new_at _ _ (by simp)
    · rw [hW3]; exact new_at _ _ (by simp)
  have HT := hid T3
  have HF := hid F3
  have HN := hid hn
  have HRI := hid hris
  obtain ⟨runs, hruns⟩ : ∃ x, x = (n + r - 1) / r := ⟨_, rfl⟩
  have HRU := hid hruns
  have hrb : runs ≤ 1000000000 := Nat.le_trans (runs_le h1 hruns) hl
  have hq : ((n : Int) + (r : Int) - 1).tdiv (r : Int) = (runs : Int) := by
    rw [Int.tdiv_eq_ediv_of_nonneg (by omega), hruns]
    have : ((n : Int) + (r : Int) - 1) = ((n + r - 1 : Nat) : Int) := by omega
    rw [this]; simp
  have hq2 : ((n : Int) + (r : Int) - 1) / (r : Int) = (runs : Int) := by
    rw [← hq, Int.tdiv_eq_ediv_of_nonneg (by omega)]
  have SC := hid (search_f W3 runs hrb (.pointer (some ⟨w.heap.size + 2, 0, none⟩)) (.pointer (some ⟨w.heap.size, 0, none⟩)) (fun k => reach ls key (k * r)) (fun k W hk f => from2_c W (HT.out.fr f) (by rw [← HN.out]; exact run_lt h1 HRU.out hk) h2 (by omega)))
  clear T3 F3 hn hris hruns hr rk hisk
  go_enter Try.func30, Try.ntmps30
  go_upto_region 3 with fail
  rw [← hW3]
  clear hW3
  go_wp2_with fail
  refine SC.out.mono ?_
  rintro e W4 ⟨run, rfl, hrun, hp1, hp2, f4⟩
  have T4 := hid (HT.out.fr f4)
  have F4 := hid (HF.out.trans f4)
  have HP := hid hp2
  have z1 : W4.cell? ⟨w.heap.size, 1, none⟩ = some (.int .i64 (r : Int)) := by rw [blk_cell T4.out.fs.cb]; rfl
  obtain ⟨rm, hrm⟩ : ∃ x, x = run - 1 := ⟨_, rfl⟩
  have hmx : (if (run : Int) - 1 < 0 then 0 else (run : Int) - 1) = (rm : Int) := by omega
  have HRM := hid hrm
  have hrmb : rm * r ≤ 1000000000 * 64 := Nat.mul_le_mul (by omega) h2
  have hmul : (rm : Int) * (r : Int) = ((rm * r : Nat) : Int) := by simp
  obtain ⟨i0, hi0⟩ : ∃ x, x = rm * r := ⟨_, rfl⟩
  rw [← hi0] at hmul hrmb
  have HI0 := hid hi0
  clear f4 SC hp1 hp2 hrm hi0
  have hi0n : i0 ≤ n := by
    rcases Nat.eq_zero_or_pos run with e | e
    · rw [HI0.out, HRM.out, e]; simp
    · have := run_lt h1 HRU.out (show run - 1 < runs from by omega)
      rw [HI0.out, HRM.out]; omega
  have BEF : Hid (∀ j, j < i0 → reach ls key j = false) := hid fun j hj => by
    have hrp : 0 < run := by
      rcases Nat.eq_zero_or_pos run with e | e
      · rw [HI0.out, HRM.out, e] at hj; simp at hj
      · exact e
    have h0 := HP.out hrp
    rw [← HRM.out, ← HI0.out] at h0
    unfold reach at h0 ⊢
    have h0' := of_decide_eq_false h0
    have hlt : i0 < n := by
      have := run_lt h1 HRU.out (show run - 1 < runs from by omega)
      rw [HI0.out, HRM.out]; exact this
    have hle := rises_le HRI.out (i := j) (j := i0) (by omega) (by rw [psL_len, ← HN.out]; exact hlt)
    rw [(psL_at ls j).1, (psL_at ls i0).1] at hle
    exact decide_eq_false (by have := ord_lt hle (show ordK (lnA ls i0).key key < 0 from by omega); omega)
  go_wp2_with fail
  clear hq hq2 hmx hmul
  go_loopw [8] (fun v8 wr => ∃ i : Nat, i ≤ n ∧ v8 = .int .i64 (i : Int) ∧ (∀ j, j < i → reach ls key j = false) ∧ Fr [] W4 wr) (fun v8 _ => n - (intOf v8).toNat)
  case atStart => exact ⟨i0, hi0n, rfl, BEF.out, Fr.refl _ _⟩
  case round =>
    obtain ⟨i, hi, rfl, hbf, fi⟩ := hrel
    have HI := hid (And.intro hbf fi)
    have TI := T4.out.fr fi
    have y1 : wr.cell? ⟨w.heap.size, 0, none⟩ = some (.slice a n c) := by rw [blk_cell TI.fs.cb]; rfl
    have y2 : wr.cell? ⟨w.heap.size + 1 + 1, 0, none⟩ = some (.func (.func 49) #[] #[.pointer (some ⟨w.heap.size, 0, none⟩), .pointer (some ⟨w.heap.size + 1, 0, none⟩)]) := by rw [blk_cell TI.fb]; rfl
    have HTI := hid TI
    clear hbf fi TI
    by_cases hlt : i < n
    · have CC := hid (HTI.out.call (i := i) (by rw [← HN.out]; exact hlt))
      go_wp2_with fail
      refine CC.out.mono ?_
      rintro e W5 ⟨rfl, f5⟩
      have F5 := hid (HI.out.2.trans f5)
      clear f5 CC
      rcases hq : reach ls key i with _ | _
      · have HQ := hid hq
        clear hq
        go_wp2
        go_roundw
        case rel =>
          refine ⟨i + 1, by omega, by go_num, fun j hj => ?_, F5.out⟩
          by_cases hji : j = i
          · subst hji; exact HQ.out
          · exact HI.out.1 j (by omega)
        case measure => simp [intOf]; omega
      · have HQ := hid hq
        clear hq
        go_wp2
        go_ret
        exact ⟨i, rfl, hi, HI.out.1, fun _ => HQ.out, F4.out.trans F5.out⟩
    · have hie : i = n := by omega
      subst hie
      go_wp2
      go_ret
      exact ⟨i, rfl, Nat.le_refl _, HI.out.1, fun h => absurd h hlt, F4.out.trans HI.out.2⟩
end Go.Proofs.Ytdlnfcepknoigaa
