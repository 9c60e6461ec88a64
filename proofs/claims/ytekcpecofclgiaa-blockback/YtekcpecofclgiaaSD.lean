/-
  BlockBack: the walk.
-/
import Derived.Test.YtekcpecofclgiaaSB
import Derived.Test.YtekcpecofclgiaaSC
import Derived.Test.YtekcpecofclgiaaHA
import Derived.Test.YtekcpecofclgiaaX
namespace Go.Proofs.Ytekcpecofclgiaa
open Go.ChangeShapes Go.WideShapes Go.ChangeAt Go.RowKit

/-- A key of a block is found where it stands. -/
theorem found_at {ps : Ps} (hr : Rises ps) {i k : Nat} (hi : i < ps.length) (hk : k < ps.length) (ho : ∀ j, j < k → ordK (kA ps j) (kA ps i) < 0) (h0 : 0 ≤ ordK (kA ps k) (kA ps i)) : k = i := by
  have self := ordK_neg (kA ps i) (kA ps i)
  rcases Nat.lt_trichotomy k i with h | h | h
  · exfalso
    have h1 := rises_step hr (i := k) (by omega)
    have h2 := rises_le hr (i := k + 1) (j := i) (by omega) hi
    have n1 := ordK_neg (kA ps k) (kA ps i)
    have n2 := ordK_neg (kA ps k) (kA ps (k + 1))
    have := ordK_trans (kA ps (k + 1)) (kA ps i) (kA ps k) h2 (by omega)
    omega
  · exact h
  · exfalso
    have := ho i h
    omega
set_option maxRecDepth 20000 in
set_option maxHeartbeats 3200000 in
theorem back_c (w : World) {v kv : Value} {ps : Ps} {key : List Nat} (h : RdK w v ps) (hl : ps.length ≤ 140737488355328) (r : Int) (rk : Rd w kv (bv key)) (bk : By key) (hkl : key.length ≤ 140737488355328) :
    Calls Try.prog 5 #[v, .int .i64 r, kv] w fun e w' => e = .returned (.bool true) ∧ Fr [] w w' := by
  have HK := hid h
  have HRK := hid rk
  have HBK := hid bk
  obtain ⟨a, c, rfl, hnc, _⟩ := h
  obtain ⟨qa, qc, hkv⟩ := rk.form
  rw [bv_len] at hkv
  subst hkv
  have KN := hid (known_c w)
  clear rk bk
  generalize hnn : ps.length = n at *
  have HN := hid hnn
  clear hnn
  generalize hkn : key.length = kn at *
  have HKN := hid hkn
  clear hkn
  go_enter Try.func5, Try.ntmps5
  go_wp2_with fail
  refine KN.out.mono ?_
  rintro e w1 ⟨rfl, f1⟩
  have F1 := hid f1
  have FC := hid (few_c w1 (HK.out.fr f1) (by rw [HN.out]; exact hl))
  clear f1 KN
  go_wp2_with fail
  refine FC.out.mono ?_
  rintro e w2 ⟨hq, f2⟩
  have F2 := hid (F1.out.trans f2)
  clear f2 FC
  rcases hq with rfl | ⟨rfl, hfew⟩
  · go_wp2
    go_ret
    exact ⟨rfl, F2.out⟩
  have HFW := hid hfew
  have hn60 : n ≤ 60 := by rw [← HN.out]; exact hfew.n
  clear hfew
  by_cases hbad : r < 1 ∨ 64 < r
  · have BP := hid (build_plan w2 (a := a) (n := n) (c := c) r hbad)
    go_wp2_with fail
    refine BP.out.mono ?_
    rintro e w3 ⟨rfl, f3⟩
    have F3 := hid (F2.out.trans f3)
    clear f3 BP hbad
    go_wp2
    go_ret
    exact ⟨rfl, F3.out⟩
  obtain ⟨rn, hrn⟩ : ∃ rn : Nat, r = (rn : Int) := ⟨r.toNat, by omega⟩
  subst hrn
  have hr1 : 1 ≤ rn := by omega
  have hr2 : rn ≤ 64 := by omega
  clear hbad
  by_cases hri : Rises ps
  case neg =>
    have BO := hid (build_order w2 (HK.out.fr F2.out) (by rw [HN.out]; omega) rn hr1 hr2 hri)
    go_wp2_with fail
    refine BO.out.mono ?_
    rintro e w3 ⟨rfl, f3⟩
    have F3 := hid (F2.out.trans f3)
    clear f3 BO hri
    go_wp2
    go_ret
    exact ⟨rfl, F3.out⟩
  have HRI := hid hri
  have BO := hid (build_ok w2 (HK.out.fr F2.out) (by rw [HN.out]; omega) rn hr1 hr2 hri (by have := few_bod HFW.out.n HFW.out.t rn; omega))
  have HBY := hid HK.out.by
  have BLK : Hid (Blk (blk rn ps) ps rn) := hid ⟨hri, hr1, hr2, rfl⟩
  have hbl : (blk rn ps).length ≤ 1000000 := by
    have h1 := few_bod HFW.out.n HFW.out.t rn
    have h2 := plc_le rn ps ps.length
    rw [HN.out] at h2
    unfold blk
    rw [List.length_append, List.length_append, fixL_len]
    rw [HN.out] at h1 ⊢
    omega
  clear hri
  go_wp2_with fail
  refine BO.out.mono ?_
  rintro e w3 ⟨bv3, rfl, o3, f3⟩
  have F3 := hid (F2.out.trans f3)
  have RB := hid (Rd.ownB o3)
  obtain ⟨ba, bc, rfl, _⟩ := ownsRow_slice o3
  have PO := hid (parse_ok w3 RB.out (blk_by HBY.out rn) (by omega) BLK.out)
  have SK : Hid (∀ W kv' key', Fr [] w3 W → Rd W kv' (bv key') → By key' → key'.length ≤ 140737488355328 → Calls Try.prog 18 #[.slice ba (blk rn ps).length bc, kv'] W fun e w' => SeekO w' (blk rn ps) key' e ∧ Fr [] W w') := hid fun W kv' key' f r1 r2 r3 => seek_c W (RB.out.fr f) (blk_by HBY.out rn) (by omega) r1 r2 r3
  clear o3 f3 BO
  generalize hbbl : (blk rn ps).length = bl at *
  have hbb9 : (blk rn ps).length < 1073741824 := by omega
  have HB9 := hid hbb9
  clear hbbl hbb9
  go_wp2_with fail
  refine PO.out.mono ?_
  rintro e w4 ⟨lv, rfl, col, f4⟩
  have F4 := hid (F3.out.trans f4)
  have F34 := hid f4
  obtain ⟨la, lc, hlv, _⟩ := col.rd
  have CL := hid col.rd
  subst hlv
  rw [HN.out] at CL ⊢
  have KV := hid (kvs_c (w := w4) (HK.out.fr F4.out) CL.out (by rw [HN.out]; omega))
  clear col f4 PO
  go_wp2_with fail
  refine KV.out.mono ?_
  rintro e w5 ⟨rfl, f5⟩
  have F5 := hid (F4.out.trans f5)
  have F35 := hid (F34.out.trans f5)
  clear f5 KV
  go_wp2_with fail
  go_loopw [10] (fun v10 wr => ∃ i : Nat, i ≤ n ∧ v10 = .int .i64 (i : Int) ∧ Fr [] w5 wr) (fun v10 _ => n - (intOf v10).toNat)
  case atStart => exact ⟨0, Nat.zero_le _, rfl, Fr.refl _ _⟩
  case round =>
    obtain ⟨i, hi, rfl, fi⟩ := hrel
    have FI := hid fi
    have FIw := hid (F5.out.trans fi)
    clear fi
    by_cases hlt : i < n
    · have hil : i < ps.length := by rw [HN.out]; exact hlt
      obtain ⟨b, off, hab⟩ : ∃ b off, a = some ⟨b, off, none⟩ := by
        obtain ⟨a', c', e', _, k1⟩ := HK.out
        simp only [Value.slice.injEq] at e'
        obtain ⟨rfl, _, rfl⟩ := e'
        obtain ⟨b, off, rfl, _⟩ := k1 (by omega)
        exact ⟨b, off, rfl⟩
      subst hab
      obtain ⟨ka, kc, va, vc, P⟩ : ∃ ka kc va vc, PAt w b (off + i * 2) (kA ps i, vA ps i) ka kc va vc := by
        obtain ⟨a', c', e', _, k1⟩ := HK.out
        simp only [Value.slice.injEq] at e'
        obtain ⟨rfl, _, rfl⟩ := e'
        obtain ⟨b', off', e', m1⟩ := k1 (by omega)
        simp only [Option.some.injEq, Addr.mk.injEq] at e'
        obtain ⟨rfl, rfl, _⟩ := e'
        exact m1 i _ (ps_at hil)
      have z1 := cell_fr FIw.out P.ck
      have SS := hid (SK.out wr _ (kA ps i) (F35.out.trans FI.out) (P.rk.fr FIw.out) P.bk P.lk)
      have RO := hid (HK.out.one hil)
      have HP := hid P
      dsimp only at z1
      clear P
      generalize (kA ps i).length = lk at *
      go_wp2_with fail
      refine SS.out.mono ?_
      rintro e w6 ⟨hso, f6⟩
      have F6 := hid (FI.out.trans f6)
      have F6w := hid (FIw.out.trans f6)
      clear SS f6
      have hisk := flw_isK (HRI.out i hil)
      cases hso with
      | form hno => exact absurd BLK.out (hno _ _)
      | key B hk => rw [hisk] at hk; cases hk
      | @none ps' r' B hk ho =>
        exfalso
        have hps : ps' = ps := blk_one B BLK.out HB9.out
        subst hps
        have := ho i hil
        have n1 := ordK_neg (kA ps' i) (kA ps' i)
        omega
      | @found ps' r' k ka2 va2 kc2 vc2 B hk hkl2 ho h0 rk2 rv2 byp =>
        have hps : ps' = ps := blk_one B BLK.out HB9.out
        subst hps
        have hki := found_at HRI.out hil hkl2 ho h0
        subst hki
        have HRR := hid (And.intro rk2 rv2)
        have HBB := hid (kA_by byp k)
        have hlens := hid (And.intro HP.out.lk HP.out.lv)
        obtain ⟨W7, hW7⟩ : ∃ W, W = w6.alloc (.cells #[.slice ka2 (kA ps' k).length kc2, .slice va2 (vA ps' k).length vc2] 40) := ⟨_, rfl⟩
        have F7 : Hid (Fr [] w6 W7) := by refine hid ?_; rw [hW7]; exact (Fr.refl _ _).alloc _
        have X7 : W7.heap[w6.heap.size]? = some (.cells #[.slice ka2 (kA ps' k).length kc2, .slice va2 (vA ps' k).length vc2] 40 (0, 0)) := by rw [hW7]; exact blk_new _ _
        have y0 : W7.cell? ⟨w6.heap.size, 0, none⟩ = some (.slice ka2 (kA ps' k).length kc2) := by rw [blk_cell X7]; rfl
        have y1 : W7.cell? ⟨w6.heap.size, 1, none⟩ = some (.slice va2 (vA ps' k).length vc2) := by rw [blk_cell X7]; rfl
        obtain ⟨W8, hW8⟩ : ∃ W, W = (W7.alloc (.cells #[.slice ka2 (kA ps' k).length kc2, .slice va2 (vA ps' k).length vc2] 40)).drew := ⟨_, rfl⟩
        have F8 : Hid (Fr [] W7 W8) := by refine hid ?_; rw [hW8]; exact ((Fr.refl _ _).alloc _).drew
        have X8 : W8.heap[W7.heap.size]? = some (.cells #[.slice ka2 (kA ps' k).length kc2, .slice va2 (vA ps' k).length vc2] 40 (0, 0)) := by rw [hW8, blk_drew]; exact blk_new _ _
        have L8 : RdK W8 (.slice (some ⟨W7.heap.size, 0, none⟩) 1 1) [(kA ps' k, vA ps' k)] := RdK.lit X8 ((HRR.out.1.fr F7.out).fr F8.out) ((HRR.out.2.fr F7.out).fr F8.out) HBB.out.1 HBB.out.2 hlens.out.1 hlens.out.2
        have KV := hid (kvs_c (w := W8) L8 (RO.out.fr (F6w.out.trans (F7.out.trans F8.out))) (by simp))
        have F8w := hid (F6.out.trans (F7.out.trans F8.out))
        have hck : ¬ c = k := by omega
        clear X7 X8 L8 rk2 rv2 byp HRR B ho h0 hk
        have SX : Hid (∀ w', Fr [] W8 w' → w'.cell? ⟨w6.heap.size, 0, none⟩ = some (.slice ka2 (kA ps' k).length kc2) ∧ w'.cell? ⟨w6.heap.size, 1, none⟩ = some (.slice va2 (vA ps' k).length vc2)) := hid fun w' f => ⟨cell_fr (F8.out.trans f) y0, cell_fr (F8.out.trans f) y1⟩
        have wr1 : IntKind.i64.wrap ((k : Int) + 1) = (k : Int) + 1 := by rw [IntKind.wrap_i64]; omega
        have hk1 : k + 1 - k = 1 := by omega
        have hkc1 : k + 1 ≤ c := by omega
        have h01 : (0 : Int) ≤ (k : Int) + 1 := by omega
        have hc1' : ¬ ((c : Int) < (k : Int) + 1) := by omega
        go_upto_region 15 with fail
        rw [← hW7]
        clear hW7
        refine wp_region_held_drew (S := fun w' => w'.cell? ⟨w6.heap.size, 0, none⟩ = some (.slice ka2 (kA ps' k).length kc2) ∧ w'.cell? ⟨w6.heap.size, 1, none⟩ = some (.slice va2 (vA ps' k).length vc2)) (by kernel_rfl) ⟨y0, y1⟩ (fun hS => ?_)
        refine wpAnyH_take (i := 0) (v := .int .i64 0) rfl (by kernel_rfl) (by kernel_rfl) (by kernel_rfl) (fun _ _ _ h => h) (.inl ⟨by kernel_rfl, fun wx _ => by go_simp⟩) hS ?_
        simp only [Act.put]
        refine wpAnyH_take (i := 1) (v := .bool false) rfl (by kernel_rfl) (by kernel_rfl) (by kernel_rfl) (fun _ _ _ h => h) (.inl ⟨by kernel_rfl, fun wx _ => by go_simp⟩) hS ?_
        simp only [Act.put]
        refine wpAnyH_take (i := 2) (v := .bool false) rfl (by kernel_rfl) (by kernel_rfl) (by kernel_rfl) (fun _ _ _ h => h) (.inl ⟨by kernel_rfl, fun wx _ => by go_simp⟩) hS ?_
        simp only [Act.put]
        refine wpAnyH_take (i := 3) (v := .bool true) rfl (by kernel_rfl) (by kernel_rfl) (by kernel_rfl) (fun _ _ _ h => h) (.inl ⟨by kernel_rfl, fun wx _ => by go_simp⟩) hS ?_
        simp only [Act.put]
        refine wpAnyH_take (i := 4) (v := .bool false) rfl (by kernel_rfl) (by kernel_rfl) (by kernel_rfl) (fun _ _ _ h => h) (.inl ⟨by kernel_rfl, fun wx _ => by go_simp⟩) hS ?_
        simp only [Act.put]
        refine wpAnyH_take (i := 5) (v := .bool false) rfl (by kernel_rfl) (by kernel_rfl) (by kernel_rfl) (fun _ _ _ h => h) (.inl ⟨by kernel_rfl, fun wx _ => by go_simp⟩) hS ?_
        simp only [Act.put]
        refine wpAnyH_take (i := 6) (v := .bool false) rfl (by kernel_rfl) (by kernel_rfl) (by kernel_rfl) (fun _ _ _ h => h) (.inl ⟨by kernel_rfl, fun wx _ => by go_simp⟩) hS ?_
        simp only [Act.put]
        refine wpAnyH_take (i := 7) (v := .agg #[.slice ka2 (kA ps' k).length kc2, .slice va2 (vA ps' k).length vc2]) rfl (by kernel_rfl) (by kernel_rfl) (by kernel_rfl) (fun _ _ _ h => h) (.inl ⟨by kernel_rfl, fun wx hX => by obtain ⟨x0, x1⟩ := hX; go_simp⟩) hS ?_
        simp only [Act.put]
        refine wpAnyH_take (i := 9) (v := .slice (some ⟨b, off, none⟩) n c) rfl (by kernel_rfl) (by kernel_rfl) (by kernel_rfl) (fun _ _ _ h => h) (.inl ⟨by kernel_rfl, fun wx _ => by go_simp⟩) hS ?_
        simp only [Act.put]
        refine wpAnyH_take (i := 10) (v := .int .i64 (k : Int)) rfl (by kernel_rfl) (by kernel_rfl) (by kernel_rfl) (fun _ _ _ h => h) (.inl ⟨by kernel_rfl, fun wx _ => by go_simp⟩) hS ?_
        simp only [Act.put]
        refine wpAnyH_take (i := 11) (v := .int .i64 (k : Int)) rfl (by kernel_rfl) (by kernel_rfl) (by kernel_rfl) (fun _ _ _ h => h) (.inl ⟨by kernel_rfl, fun wx _ => by go_simp⟩) hS ?_
        simp only [Act.put]
        refine wpAnyH_take (i := 12) (v := .int .i64 ((k : Int) + 1)) rfl (by kernel_rfl) (by kernel_rfl) (by kernel_rfl) (fun _ _ _ h => h) (.inl ⟨by kernel_rfl, fun wx _ => by go_simp⟩) hS ?_
        simp only [Act.put]
        refine wpAnyH_take (i := 13) (v := .slice (some ⟨b, off + k * 2, none⟩) 1 (c - k)) rfl (by kernel_rfl) (by kernel_rfl) (by kernel_rfl) (fun _ _ _ h => h) (.inl ⟨by kernel_rfl, fun wx _ => by go_simp⟩) hS ?_
        simp only [Act.put]
        clear hS
        refine wpAnyH_ready (rs := [8]) (by kernel_rfl) (by simp) ?_
        refine AllReadyH.cons rfl (fun K' hK => ?_) AllReadyH.nil
        go_simp
        rw [← hW8]
        refine hK.out _ _ (SX.out _ (Fr.refl _ _)) (fun _ => ?_)
        clear hK K' hW8
        refine wpAnyH_ready (rs := [14]) (by kernel_rfl) (by simp) ?_
        refine AllReadyH.cons rfl (fun K' hK => ?_) AllReadyH.nil
        go_simp
        refine KV.out.mono ?_
        rintro e w9 ⟨rfl, f9⟩
        have F9 := hid (F8w.out.trans f9)
        have hS9 := SX.out _ f9
        refine hK.out _ _ hS9 (fun _ => ?_)
        clear hK K' f9 KV
        refine wpAnyH_take (i := 15) (v := .bool false) rfl (by kernel_rfl) (by kernel_rfl) (by kernel_rfl) (fun _ _ _ h => h) (.inl ⟨by kernel_rfl, fun wx _ => by go_simp⟩) hS9 ?_
        simp only [Act.put]
        refine wpAnyH_take (i := 16) (v := .bool false) rfl (by kernel_rfl) (by kernel_rfl) (by kernel_rfl) (fun _ _ _ h => h) (.inl ⟨by kernel_rfl, fun wx _ => by go_simp⟩) hS9 ?_
        simp only [Act.put]
        clear hS9
        refine wpAnyH_done (by kernel_rfl) ?_ _
        go_wp2
        go_roundw
        case rel => exact ⟨k + 1, by omega, by go_num, F9.out⟩
        case measure => simp [intOf]; omega
    · have hie : i = n := by omega
      subst hie
      clear hlt hi
      have SS := hid (SK.out wr _ key (F35.out.trans FI.out) (HRK.out.fr FIw.out) HBK.out (by rw [HKN.out]; exact hkl))
      go_wp2_with fail
      refine SS.out.mono ?_
      rintro e w6 ⟨hso, f6⟩
      have F6 := hid (FI.out.trans f6)
      have F6w := hid (FIw.out.trans f6)
      clear SS f6 SK
      have ORD : Hid (∀ W j, Fr [] w W → j < i → isK key = true → ∃ b off ka kc, a = some ⟨b, off, none⟩ ∧ W.cell? ⟨b, off + j * 2, none⟩ = some (.slice ka (kA ps j).length kc) ∧ Calls Try.prog 22 #[.slice ka (kA ps j).length kc, .slice qa kn qc] W fun e w' => e = .returned (.int .i64 (ordK (kA ps j) key)) ∧ Fr [] W w') := hid fun W j f hj hk => by
        have hjl : j < ps.length := by rw [HN.out]; exact hj
        obtain ⟨a', c', e', _, k1⟩ := HK.out
        simp only [Value.slice.injEq] at e'
        obtain ⟨rfl, _, rfl⟩ := e'
        obtain ⟨b, off, rfl, m1⟩ := k1 (by omega)
        obtain ⟨ka, kc, va, vc, P⟩ := m1 j _ (ps_at hjl)
        exact ⟨b, off, ka, kc, rfl, cell_fr f P.ck, order_c W (P.rk.fr f) P.bk (flw_isK (HRI.out j hjl)) (HRK.out.fr f) HBK.out hk⟩
      cases hso with
      | form hno => exact absurd BLK.out (hno _ _)
      | key B hk =>
        obtain ⟨W7, hW7⟩ : ∃ W, W = w6.alloc (.cells #[.slice none 0 0, .slice none 0 0] 40) := ⟨_, rfl⟩
        have F7 : Hid (Fr [] w W7) := by refine hid ?_; rw [hW7]; exact F6w.out.alloc _
        have IC := is_c W7 (HRK.out.fr F7.out) HBK.out (by rw [HKN.out]; exact hkl)
        rw [hk] at IC
        have HIC := hid IC
        clear IC hk B
        go_upto_region 18 with fail
        rw [← hW7]
        clear hW7
        go_wp2_with fail
        refine HIC.out.mono ?_
        rintro e w8 ⟨rfl, rfl⟩
        go_wp2
        go_ret
        exact ⟨rfl, F7.out⟩
      | @none ps' r' B hk ho =>
        have hps : ps' = ps := blk_one B BLK.out HB9.out
        subst hps
        have HHO := hid (And.intro hk ho)
        obtain ⟨W7, hW7⟩ : ∃ W, W = w6.alloc (.cells #[.slice none 0 0, .slice none 0 0] 40) := ⟨_, rfl⟩
        have F7 : Hid (Fr [] w W7) := by refine hid ?_; rw [hW7]; exact F6w.out.alloc _
        clear hk ho B
        go_upto_region 18 with fail
        rw [← hW7]
        clear hW7
        go_wp2_with fail
        go_loopw [17] (fun v17 wy => ∃ j : Nat, j ≤ i ∧ v17 = .int .i64 (j : Int) ∧ Fr [] W7 wy) (fun v17 _ => i - (intOf v17).toNat)
        case atStart => exact ⟨0, Nat.zero_le _, rfl, Fr.refl _ _⟩
        case round =>
          clear F6 FI
          obtain ⟨j, hj, rfl, fj⟩ := hrel
          have FJ := hid (F7.out.trans fj)
          have FJ7 := hid fj
          clear fj
          by_cases hlt : j < i
          · obtain ⟨b, off, ka, kc, rfl, z1, OC⟩ := ORD.out wr j FJ.out hlt HHO.out.1
            have ho := HHO.out.2 j (by rw [HN.out]; exact hlt)
            have HOC := hid OC
            clear OC
            generalize ordK (kA ps' j) key = od at *
            generalize (kA ps' j).length = lk at *
            go_wp2_with fail
            refine HOC.out.mono ?_
            rintro e w8 ⟨rfl, f8⟩
            have F8 := hid (FJ7.out.trans f8)
            clear f8 HOC
            go_wp2
            go_roundw
            case rel => exact ⟨j + 1, by omega, by go_num, F8.out⟩
            case measure => simp [intOf]; omega
          · have hje : j = i := by omega
            subst hje
            go_wp2
            go_ret
            exact ⟨rfl, FJ.out⟩
      | @found ps' r' k ka2 va2 kc2 vc2 B hk hkl2 ho h0 rk2 rv2 byp =>
        have hps : ps' = ps := blk_one B BLK.out HB9.out
        subst hps
        have HHO := hid (And.intro hk (And.intro ho h0))
        have HRR := hid (And.intro rk2 rv2)
        have HBB := hid (kA_by byp k)
        have hki : k < i := by rw [← HN.out]; exact hkl2
        obtain ⟨W7, hW7⟩ : ∃ W, W = w6.alloc (.cells #[.slice ka2 (kA ps' k).length kc2, .slice va2 (vA ps' k).length vc2] 40) := ⟨_, rfl⟩
        have F67 : Hid (Fr [] w6 W7) := by refine hid ?_; rw [hW7]; exact (Fr.refl _ _).alloc _
        have F7 : Hid (Fr [] w W7) := hid (F6w.out.trans F67.out)
        have X7 : Hid (W7.heap[w6.heap.size]? = some (.cells #[.slice ka2 (kA ps' k).length kc2, .slice va2 (vA ps' k).length vc2] 40 (0, 0))) := by refine hid ?_; rw [hW7]; exact blk_new _ _
        clear hk ho h0 B rk2 rv2 byp
        go_upto_region 18 with fail
        rw [← hW7]
        clear hW7
        go_wp2_with fail
        go_loopw [17] (fun v17 wy => ∃ j : Nat, j ≤ k ∧ v17 = .int .i64 (j : Int) ∧ Fr [] W7 wy) (fun v17 _ => i - (intOf v17).toNat)
        case atStart => exact ⟨0, Nat.zero_le _, rfl, Fr.refl _ _⟩
        case round =>
          clear F6 FI
          obtain ⟨j, hj, rfl, fj⟩ := hrel
          have FJ := hid (F7.out.trans fj)
          have FJ7 := hid fj
          clear fj
          obtain ⟨b, off, ka, kc, rfl, z1, OC⟩ := ORD.out wr j FJ.out (by omega) HHO.out.1
          have HOC := hid OC
          clear OC
          by_cases hlt : j < k
          · have ho := HHO.out.2.1 j hlt
            generalize ordK (kA ps' j) key = od at *
            generalize (kA ps' j).length = lk at *
            go_wp2_with fail
            refine HOC.out.mono ?_
            rintro e w8 ⟨rfl, f8⟩
            have F8 := hid (FJ7.out.trans f8)
            clear f8 HOC
            go_wp2
            go_roundw
            case rel => exact ⟨j + 1, by omega, by go_num, F8.out⟩
            case measure => simp [intOf]; omega
          · have hje : j = k := by omega
            subst hje
            have ho := HHO.out.2.2
            go_wp2_with fail
            refine HOC.out.mono ?_
            rintro e w8 ⟨rfl, f8⟩
            have F8 := hid (FJ.out.trans f8)
            have F78 := hid (FJ7.out.trans f8)
            clear f8 HOC
            generalize ordK (kA ps' j) key = od at *
            go_upto_region 24 with fail
            have RO := hid (HK.out.one (i := j) (by rw [HN.out]; exact hki))
            have hlens : Hid ((kA ps' j).length ≤ 140737488355328 ∧ (vA ps' j).length ≤ 140737488355328) := by
              obtain ⟨a', c', e', _, k1⟩ := HK.out
              obtain ⟨b', off', _, m1⟩ := k1 (by rw [HN.out]; omega)
              obtain ⟨_, _, _, _, P⟩ := m1 j _ (ps_at (by rw [HN.out]; exact hki))
              exact hid ⟨P.lk, P.lv⟩
            have hck : ¬ c = j := by omega
            have hki' := hki
            clear hki
            have y0 : w8.cell? ⟨w6.heap.size, 0, none⟩ = some (.slice ka2 (kA ps' j).length kc2) := cell_fr F78.out (by rw [blk_cell X7.out]; rfl)
            have y1 : w8.cell? ⟨w6.heap.size, 1, none⟩ = some (.slice va2 (vA ps' j).length vc2) := cell_fr F78.out (by rw [blk_cell X7.out]; rfl)
            obtain ⟨W8, hW8⟩ : ∃ W, W = (w8.alloc (.cells #[.slice ka2 (kA ps' j).length kc2, .slice va2 (vA ps' j).length vc2] 40)).drew := ⟨_, rfl⟩
            have F9 : Hid (Fr [] w8 W8) := by refine hid ?_; rw [hW8]; exact ((Fr.refl _ _).alloc _).drew
            have X8 : W8.heap[w8.heap.size]? = some (.cells #[.slice ka2 (kA ps' j).length kc2, .slice va2 (vA ps' j).length vc2] 40 (0, 0)) := by rw [hW8, blk_drew]; exact blk_new _ _
            have F68 := hid (F67.out.trans (F78.out.trans F9.out))
            have L8 : RdK W8 (.slice (some ⟨w8.heap.size, 0, none⟩) 1 1) [(kA ps' j, vA ps' j)] := RdK.lit X8 (HRR.out.1.fr F68.out) (HRR.out.2.fr F68.out) HBB.out.1 HBB.out.2 hlens.out.1 hlens.out.2
            have F8w := hid (F8.out.trans F9.out)
            have KV := hid (kvs_c (w := W8) L8 (RO.out.fr F8w.out) (by simp))
            clear X8 L8
            have SX : Hid (∀ w', Fr [] W8 w' → w'.cell? ⟨w6.heap.size, 0, none⟩ = some (.slice ka2 (kA ps' j).length kc2) ∧ w'.cell? ⟨w6.heap.size, 1, none⟩ = some (.slice va2 (vA ps' j).length vc2)) := hid fun w' f => ⟨cell_fr (F9.out.trans f) y0, cell_fr (F9.out.trans f) y1⟩
            have wr1 : IntKind.i64.wrap ((j : Int) + 1) = (j : Int) + 1 := by rw [IntKind.wrap_i64]; omega
            have hk1 : j + 1 - j = 1 := by omega
            have hkc1 : j + 1 ≤ c := by omega
            have h01 : (0 : Int) ≤ (j : Int) + 1 := by omega
            have hc1' : ¬ ((c : Int) < (j : Int) + 1) := by omega
            refine wp_region_held_drew (S := fun w' => w'.cell? ⟨w6.heap.size, 0, none⟩ = some (.slice ka2 (kA ps' j).length kc2) ∧ w'.cell? ⟨w6.heap.size, 1, none⟩ = some (.slice va2 (vA ps' j).length vc2)) (by kernel_rfl) ⟨y0, y1⟩ (fun hS => ?_)
            refine wpAnyH_take (i := 0) (v := .bool true) rfl (by kernel_rfl) (by kernel_rfl) (by kernel_rfl) (fun _ _ _ h => h) (.inl ⟨by kernel_rfl, fun wx _ => by go_simp⟩) hS ?_
            simp only [Act.put]
            refine wpAnyH_take (i := 1) (v := .bool true) rfl (by kernel_rfl) (by kernel_rfl) (by kernel_rfl) (fun _ _ _ h => h) (.inl ⟨by kernel_rfl, fun wx _ => by go_simp⟩) hS ?_
            simp only [Act.put]
            refine wpAnyH_take (i := 2) (v := .agg #[.slice ka2 (kA ps' j).length kc2, .slice va2 (vA ps' j).length vc2]) rfl (by kernel_rfl) (by kernel_rfl) (by kernel_rfl) (fun _ _ _ h => h) (.inl ⟨by kernel_rfl, fun wx hX => by obtain ⟨x0, x1⟩ := hX; go_simp⟩) hS ?_
            simp only [Act.put]
            refine wpAnyH_take (i := 4) (v := .slice (some ⟨b, off, none⟩) i c) rfl (by kernel_rfl) (by kernel_rfl) (by kernel_rfl) (fun _ _ _ h => h) (.inl ⟨by kernel_rfl, fun wx _ => by go_simp⟩) hS ?_
            simp only [Act.put]
            refine wpAnyH_take (i := 5) (v := .int .i64 (j : Int)) rfl (by kernel_rfl) (by kernel_rfl) (by kernel_rfl) (fun _ _ _ h => h) (.inl ⟨by kernel_rfl, fun wx _ => by go_simp⟩) hS ?_
            simp only [Act.put]
            refine wpAnyH_take (i := 6) (v := .int .i64 (j : Int)) rfl (by kernel_rfl) (by kernel_rfl) (by kernel_rfl) (fun _ _ _ h => h) (.inl ⟨by kernel_rfl, fun wx _ => by go_simp⟩) hS ?_
            simp only [Act.put]
            refine wpAnyH_take (i := 7) (v := .int .i64 ((j : Int) + 1)) rfl (by kernel_rfl) (by kernel_rfl) (by kernel_rfl) (fun _ _ _ h => h) (.inl ⟨by kernel_rfl, fun wx _ => by go_simp⟩) hS ?_
            simp only [Act.put]
            refine wpAnyH_take (i := 8) (v := .slice (some ⟨b, off + j * 2, none⟩) 1 (c - j)) rfl (by kernel_rfl) (by kernel_rfl) (by kernel_rfl) (fun _ _ _ h => h) (.inl ⟨by kernel_rfl, fun wx _ => by go_simp⟩) hS ?_
            simp only [Act.put]
            clear hS
            refine wpAnyH_ready (rs := [3]) (by kernel_rfl) (by simp) ?_
            refine AllReadyH.cons rfl (fun K' hK => ?_) AllReadyH.nil
            go_simp
            rw [← hW8]
            refine hK.out _ _ (SX.out _ (Fr.refl _ _)) (fun _ => ?_)
            clear hK K' hW8
            refine wpAnyH_ready (rs := [9]) (by kernel_rfl) (by simp) ?_
            refine AllReadyH.cons rfl (fun K' hK => ?_) AllReadyH.nil
            go_simp
            refine KV.out.mono ?_
            rintro e w9 ⟨rfl, f9⟩
            have F9 := hid (F8w.out.trans f9)
            have hS9 := SX.out _ f9
            refine hK.out _ _ hS9 (fun _ => ?_)
            clear hK K' f9 KV
            refine wpAnyH_take (i := 10) (v := .bool true) rfl (by kernel_rfl) (by kernel_rfl) (by kernel_rfl) (fun _ _ _ h => h) (.inl ⟨by kernel_rfl, fun wx _ => by go_simp⟩) hS9 ?_
            simp only [Act.put]
            refine wpAnyH_take (i := 11) (v := .bool true) rfl (by kernel_rfl) (by kernel_rfl) (by kernel_rfl) (fun _ _ _ h => h) (.inl ⟨by kernel_rfl, fun wx _ => by go_simp⟩) hS9 ?_
            simp only [Act.put]
            clear hS9
            refine wpAnyH_done (by kernel_rfl) ?_ _
            go_wp2
            go_ret
            exact ⟨rfl, F9.out⟩
end Go.Proofs.Ytekcpecofclgiaa
