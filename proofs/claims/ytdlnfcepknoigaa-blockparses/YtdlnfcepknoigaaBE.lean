/-
  Package block: Build.
-/
import Derived.Test.YtdlnfcepknoigaaBD
namespace Go.Proofs.Ytdlnfcepknoigaa
open Go.ChangeShapes Go.WideShapes Go.ChangeAt Go.RowKit

set_option maxRecDepth 20000 in
set_option maxHeartbeats 1600000 in
theorem build_plan (w : World) {a : Option Addr} {n c : Nat} (r : Int) (hr : r < 1 ∨ 64 < r) :
    Calls Try.prog 8 #[.slice a n c, .int .i64 r] w fun e w' => e = .returned (.tuple #[.slice none 0 0, .int .i64 71]) ∧ Fr [] w w' := by
  rcases hr with hr | hr
  all_goals
    go_enter Try.func8, Try.ntmps8
    go_wp2
    go_ret2
    exact ⟨rfl, Fr.refl _ _⟩
set_option maxRecDepth 20000 in
set_option maxHeartbeats 1600000 in
theorem build_order (w : World) {v : Value} {ps : Ps} (h : RdK w v ps) (hl : ps.length ≤ 1000000) (r : Nat) (h1 : 1 ≤ r) (h2 : r ≤ 64) (hr : ¬ Rises ps) :
    Calls Try.prog 8 #[v, .int .i64 (r : Int)] w fun e w' => e = .returned (.tuple #[.slice none 0 0, .int .i64 70]) ∧ Fr [] w w' := by
  have HR := hid (rising_c w h hl)
  have HN := hid hr
  obtain ⟨a, c, rfl, hc, k1⟩ := h
  clear k1 hr
  go_enter Try.func8, Try.ntmps8
  go_wp2_with fail
  refine HR.out.mono ?_
  rintro e w1 ⟨hq, f1⟩
  rcases hq with ⟨rfl, hx⟩ | ⟨rfl, _⟩
  · exact absurd hx HN.out
  · go_wp2
    go_ret2
    exact ⟨rfl, f1⟩
/-- What Build holds ahead of its i-th entry: the entries so far, the places so far, the key ahead. -/
structure BI (w wr : World) (r : Nat) (ps : Ps) (i : Nat) (v6 v7 v8 : Value) : Prop where
  ob : wr.ownsRow w.heap.size 5 1 v6 (bod r ps i).length (bv (bod r ps i))
  op : wr.ownsRow w.heap.size 5 1 v7 (plc r ps i).length (bv (plc r ps i))
  dis : ∀ k, v6.ownBlock = some k → v7.ownBlock ≠ some k
  ah : Rd w v8 (bv (ahd ps i))
  fr : Fr [] w wr
set_option maxRecDepth 20000 in
set_option maxHeartbeats 6400000 in
theorem build_ok (w : World) {v : Value} {ps : Ps} (h : RdK w v ps) (hl : ps.length ≤ 1000000) (r : Nat) (h1 : 1 ≤ r) (h2 : r ≤ 64) (hr : Rises ps) (hb : (bod r ps ps.length).length ≤ 1000000000) :
    Calls Try.prog 8 #[v, .int .i64 (r : Int)] w fun e w' => ∃ v', e = .returned (.tuple #[v', .int .i64 0]) ∧ w'.ownsRow w.heap.size 5 1 v' (blk r ps).length (bv (blk r ps)) ∧ Fr [] w w' := by
  have HR := hid (rising_c w h hl)
  have HN := hid hr
  obtain ⟨a, c, rfl, hc, k1⟩ := h
  have HK := hid k1
  clear k1 hr
  obtain ⟨n, hn⟩ : ∃ n, n = ps.length := ⟨_, rfl⟩
  have HNN := hid hn
  rw [← hn] at hl hc hb HR ⊢
  clear hn
  go_enter Try.func8, Try.ntmps8
  go_wp2_with fail
  refine HR.out.mono ?_
  rintro e w1 ⟨hq, f1⟩
  rcases hq with ⟨rfl, hx⟩ | ⟨rfl, hx⟩
  case inr => exact absurd HN.out hx
  have F1 := hid f1
  clear f1 HR hx
  go_wp2_with fail
  go_loopw [6, 7, 8, 25] (fun v6 v7 v8 v25 wr => ∃ i : Nat, i ≤ n ∧ v25 = .int .i64 (i : Int) ∧ BI w wr r ps i v6 v7 v8) (fun _ _ _ v25 _ => n - (intOf v25).toNat)
  case atStart => exact ⟨0, Nat.zero_le _, rfl, World.ownsRow_nil _ _ _ _, World.ownsRow_nil _ _ _ _, fun k hk => by simp [Value.ownBlock] at hk, .inl ⟨rfl, rfl⟩, F1.out⟩
  case round =>
    obtain ⟨i, hi, rfl, hbi⟩ := hrel
    have HB := hid hbi
    clear hbi
    have hmod : ((i : Int) % (r : Int)) = ((i % r : Nat) : Int) := by simp
    have hbl : (bod r ps i).length ≤ 1000000000 := Nat.le_trans (bod_le r ps hi) hb
    have hpl : (plc r ps i).length ≤ 4000000 := Nat.le_trans (plc_le r ps i) (by omega)
    by_cases hlt : i < n
    · have hil : i < ps.length := by rw [← HNN.out]; exact hlt
      obtain ⟨b, off, rfl, m1⟩ := HK.out (by omega)
      obtain ⟨ka, kc, va, vc, P⟩ := m1 i _ (ps_at hil)
      have hk8 := isK_len (flw_isK (HN.out i hil))
      obtain ⟨q0, o0, kc', hka, hkc⟩ := P.rk.place (by dsimp only; omega)
      simp only [Value.slice.injEq, true_and] at hka
      obtain ⟨rfl, rfl⟩ := hka
      have hsd := shd_lt (r := r) HN.out hil
      have z1 := cell_fr HB.out.fr P.ck
      have z2 := cell_fr HB.out.fr P.cv
      have RK := hid P.rk
      have RK2 := hid P.rk
      have RV2 := hid P.rv
      have hlv' := P.lv
      have hal := (ahd_len HN.out i)
      have HAL : Hid ((ahd ps i).length ≤ 140737488355328) := hid (by omega)
      dsimp only at z1 z2 RK RK2 RV2 hlv' hkc
      have hbs : bod r ps i ++ ent (shd r ps i) (kA ps i) (vA ps i) = bod r ps (i + 1) := by rw [bod]
      have hvb : (vA ps i).length ≤ 1000000000 := by
        have e1 := (ent_len (shd r ps i) (kA ps i) (vA ps i)).2
        have e2 := bod_le r ps (i := i + 1) (j := n) (by omega)
        rw [← hbs, List.length_append] at e2
        omega
      have hsh : (if i % r = 0 then 0 else shr (ahd ps i) (kA ps i) : Nat) = shd r ps i := rfl
      obtain ⟨sd, hsd'⟩ : ∃ s, s = shd r ps i := ⟨_, rfl⟩
      rw [← hsd'] at hsd hsh hbs
      have HSD := hid hsh
      have HBS := hid hbs
      have hpn : plc r ps (i + 1) = if i % r = 0 then plc r ps i ++ fixL (bod r ps i).length 4 else plc r ps i := rfl
      obtain ⟨lk, hlk⟩ : ∃ l, (kA ps i).length = l := ⟨_, rfl⟩
      obtain ⟨lv, hlv⟩ : ∃ l, (vA ps i).length = l := ⟨_, rfl⟩
      have HLK := hid hlk
      have HLV := hid hlv
      rw [hlk] at z1 RK hk8 hkc hsd
      rw [hlv] at z2 hlv' hvb
      clear P m1 hlk hlv hsh hbs hsd'
      obtain ⟨W0, hW0⟩ : ∃ W0, W0 = wr.alloc (.cells #[.slice (some ⟨q0, o0, none⟩) lk kc, .slice va lv vc] 40) := ⟨_, rfl⟩
      have F0 : Hid (Fr [] wr W0) := by refine hid ?_; rw [hW0]; exact (Fr.refl _ _).alloc _
      have BX0 : Hid (W0.heap[wr.heap.size]? = some (.cells #[.slice (some ⟨q0, o0, none⟩) lk kc, .slice va lv vc] 40 (0, 0))) := by refine hid ?_; rw [hW0]; exact blk_new _ _
      by_cases hm : i % r = 0
      · rw [hm] at hmod
        rw [if_pos hm] at hpn
        have HPN := hid hpn
        obtain ⟨b6, c6, hv6, _⟩ := ownsRow_slice HB.out.ob
        obtain ⟨L, hL⟩ : ∃ L, (bod r ps i).length = L := ⟨_, rfl⟩
        have HL := hid hL
        rw [hL] at hv6 hbl
        subst hv6
        clear hpn
        go_wp2_with fail
        rw [← hW0]
        refine (fixed4_c W0 L (by omega)).mono ?_
        rintro e w2 ⟨v2, rfl, o2, f2⟩
        have O2 := hid o2
        have F2 := hid (F0.out.trans f2)
        have X2 := hid (f2.at BX0.out (by simp))
        have hs2 : w.heap.size ≤ w2.heap.size := by have := HB.out.fr.size; have := F2.out.size; omega
        clear o2 f2 hW0
        go_upto_region 11 with (at_builtin; refine wpList_append_rd rfl _ _ rfl w.heap.size hs2 _ _ _ rfl (ownsRow_fr HB.out.op F2.out) _ _ rfl (Rd.ownN O2.out (by rw [fixL_len])) bv_one (by rw [bv_len, fixL_len]; omega) ?_; intro v7c W o3 g3 q3)
        have OP : Hid (W.ownsRow w.heap.size 5 1 v7c (plc r ps (i + 1)).length (bv (plc r ps (i + 1)))) := by
          refine hid ?_
          rw [HPN.out, HL.out, bv_append, List.length_append, ← bv_len (fixL L 4)]
          exact o3
        have keep : ∀ k, k < w2.heap.size → u7.ownBlock ≠ some k → W.heap[k]? = w2.heap[k]? := fun k hk hne => g3.block k hk (fun e => hne e.symm)
        have OB : Hid (W.ownsRow w.heap.size 5 1 (Value.slice b6 L c6) (bod r ps i).length (bv (bod r ps i))) := hid (ownsRow_of_block (ownsRow_fr HB.out.ob F2.out) fun k hk => keep k ((ownsRow_fr HB.out.ob F2.out).lt k hk).2 (HB.out.dis k hk))
        have DIS : Hid (∀ k, (Value.slice b6 L c6).ownBlock = some k → v7c.ownBlock ≠ some k) := by
          refine hid fun k hk hk2 => ?_
          rcases q3 with e | e
          · have e' : v7c.ownBlock = u7.ownBlock := e
            exact HB.out.dis k hk (by rw [← e']; exact hk2)
          · have e' : v7c.ownBlock = some w2.heap.size := e
            rw [e'] at hk2; simp at hk2; have := ((ownsRow_fr HB.out.ob F2.out).lt k hk).2; omega
        have FW : Hid (Fr [] w W) := hid ((HB.out.fr.trans F2.out).grew (ownsRow_fr HB.out.op F2.out) (Nat.le_refl _) g3)
        have BX : Hid (W.heap[wr.heap.size]? = some (.cells #[.slice (some ⟨q0, o0, none⟩) lk kc, .slice va lv vc] 40 (0, 0))) := hid (by rw [keep wr.heap.size (blk_lt X2.out) (own_not (ownsRow_fr HB.out.op F2.out) X2.out (by decide))]; exact X2.out)
        clear o3 g3 q3 keep
        clear z1 z2 HK hmod
        have SK : Hid (∀ w', Fr (Value.slice b6 L c6).ownBlock.toList W w' → w'.cell? ⟨wr.heap.size, 0, none⟩ = some (.slice (some ⟨q0, o0, none⟩) lk kc) ∧ w'.cell? ⟨wr.heap.size, 1, none⟩ = some (.slice va lv vc)) := fun w' f => by
          have hx := f.at BX.out (fun hm => own_not OB.out BX.out (by decide) (by rw [Option.mem_toList] at hm; exact hm))
          exact ⟨by rw [blk_cell hx]; rfl, by rw [blk_cell hx]; rfl⟩
        refine wp_region_held_drew (S := fun w' => w'.cell? ⟨wr.heap.size, 0, none⟩ = some (.slice (some ⟨q0, o0, none⟩) lk kc) ∧ w'.cell? ⟨wr.heap.size, 1, none⟩ = some (.slice va lv vc)) (by kernel_rfl) (SK.out _ ((Fr.refl _ _).drew)) (fun hS => ?_)
        refine wpAnyH_take (i := 0) (v := (Value.slice b6 L c6)) rfl (by kernel_rfl) (by kernel_rfl) (by kernel_rfl) (fun _ _ _ h => h) (.inl ⟨by rfl, fun wx _ => by go_simp⟩) hS ?_
        simp only [Act.put]
        refine wpAnyH_take (i := 1) (v := .agg #[.slice (some ⟨q0, o0, none⟩) lk kc, .slice va lv vc]) rfl (by kernel_rfl) (by kernel_rfl) (by kernel_rfl) (fun _ _ _ h => h) (.inl ⟨by rfl, fun wx hX => by obtain ⟨x0, x1⟩ := hX; go_simp⟩) hS ?_
        simp only [Act.put]
        refine wpAnyH_take (i := 2) (v := .int .i64 (i : Int)) rfl (by kernel_rfl) (by kernel_rfl) (by kernel_rfl) (fun _ _ _ h => h) (.inl ⟨by rfl, fun wx _ => by go_simp⟩) hS ?_
        simp only [Act.put]
        refine wpAnyH_take (i := 3) (v := .int .i64 (r : Int)) rfl (by kernel_rfl) (by kernel_rfl) (by kernel_rfl) (fun _ _ _ h => h) (.inl ⟨by rfl, fun wx _ => by go_simp⟩) hS ?_
        simp only [Act.put]
        refine wpAnyH_take (i := 4) (v := u8) rfl (by kernel_rfl) (by kernel_rfl) (by kernel_rfl) (fun _ _ _ h => h) (.inl ⟨by rfl, fun wx _ => by go_simp⟩) hS ?_
        simp only [Act.put]
        refine wpAnyH_take (i := 5) (v := .pointer (some ⟨wr.heap.size, 0, none⟩)) rfl (by kernel_rfl) (by kernel_rfl) (by kernel_rfl) (fun _ _ _ h => h) (.inl ⟨by rfl, fun wx _ => by go_simp⟩) hS ?_
        simp only [Act.put]
        refine wpAnyH_take (i := 6) (v := .slice (some ⟨q0, o0, none⟩) lk kc) rfl (by kernel_rfl) (by kernel_rfl) (by kernel_rfl) (fun _ _ _ h => h) (.inl ⟨by rfl, fun wx hX => by obtain ⟨x0, x1⟩ := hX; go_simp⟩) hS ?_
        simp only [Act.put]
        clear hS
        refine wpAnyH_ready (rs := [7]) (by kernel_rfl) (by simp) ?_
        refine AllReadyH.cons rfl (fun K hK => ?_) AllReadyH.nil
        go_simp
        refine (sharing_c W.drew i r (by omega) h1 h2 (HB.out.ah.fr FW.out.drew) HAL.out (RK.out.fr FW.out.drew) (by rw [HLK.out]; omega)).mono ?_
        rintro e w3 ⟨rfl, f3⟩
        rw [HSD.out]
        refine hK.out _ _ (SK.out _ (((Fr.refl _ _).drew).trans (f3.mono (by simp)))) (fun _ => ?_)
        clear hK K
        have F3 := hid (((Fr.refl [] W).drew).trans f3)
        clear f3
        refine wpAnyH_ready (rs := [8]) (by kernel_rfl) (by simp) ?_
        refine AllReadyH.cons rfl (fun K hK => ?_) AllReadyH.nil
        go_simp
        have AE := appendEntry_c w w3 sd w.heap.size (Nat.le_refl _) (FW.out.trans F3.out).size (FW.out.trans F3.out) _ (ownsRow_fr OB.out F3.out) RK2.out (by rw [HLK.out]; exact hkc) RV2.out (by rw [HLK.out]; exact hsd) (by omega) (by rw [HLK.out]; omega) (by rw [HLV.out]; omega)
        rw [HLK.out, HLV.out] at AE
        refine AE.mono ?_
        rintro e w4 ⟨v6n, rfl, g4⟩
        clear AE
        rw [HBS.out] at g4
        have G4 := hid g4
        clear g4
        refine hK.out _ _ (SK.out _ ((F3.out.mono (by simp)).trans G4.out.fr)) (fun _ => ?_)
        clear hK K
        have FN : Hid (Fr [] w w4) := hid (G4.out.old (ownsRow_fr OB.out F3.out) (FW.out.trans F3.out) (Nat.le_refl _))
        have BN : Hid (BI w w4 r ps (i + 1) v6n v7c (.slice (some ⟨q0, o0, none⟩) lk kc)) := by
          refine hid ⟨G4.out.own, ownsRow_of_block (ownsRow_fr OP.out F3.out) ?_, ?_, by rw [ahd_succ]; exact RK.out, FN.out⟩
          · intro k hk
            exact G4.out.fr.block k ((ownsRow_fr OP.out F3.out).lt k hk).2 (fun hm => DIS.out k (by rw [Option.mem_toList] at hm; exact hm) hk)
          · intro k hk hk2
            rcases G4.out.blk with e | e
            · exact DIS.out k (by rw [← e]; exact hk) hk2
            · have := e k hk; have := ((ownsRow_fr OP.out F3.out).lt k hk2).2; omega
        have hcl := (SK.out _ ((F3.out.mono (by simp)).trans G4.out.fr)).1
        refine wpAnyH_ready (rs := [9]) (by kernel_rfl) (by simp) ?_
        refine AllReadyH.cons rfl (fun K hK => ?_) AllReadyH.nil
        go_simp
        refine hK.out _ _ (SK.out _ ((F3.out.mono (by simp)).trans G4.out.fr)) (fun _ => ?_)
        clear hK K
        refine wpAnyH_done (by kernel_rfl) ?_ _
        go_wp2
        go_roundw
        case rel => exact ⟨i + 1, by omega, by go_num, BN.out⟩
        case measure => simp [intOf]; omega
      · have hm' : ¬ ((i % r : Nat) : Int) = 0 := by omega
        rw [if_neg hm] at hpn
        obtain ⟨md, hmd⟩ : ∃ md, md = i % r := ⟨_, rfl⟩
        rw [← hmd] at hmod hm'
        clear hmd
        go_upto_region 11 with fail
        rw [← hW0]
        have OP : Hid (W0.ownsRow w.heap.size 5 1 u7 (plc r ps (i + 1)).length (bv (plc r ps (i + 1)))) := by
          refine hid ?_
          rw [hpn]
          exact ownsRow_fr HB.out.op F0.out
        have OB : Hid (W0.ownsRow w.heap.size 5 1 u6 (bod r ps i).length (bv (bod r ps i))) := hid (ownsRow_fr HB.out.ob F0.out)
        have DIS : Hid (∀ k, u6.ownBlock = some k → u7.ownBlock ≠ some k) := hid HB.out.dis
        have FW : Hid (Fr [] w W0) := hid (HB.out.fr.trans F0.out)
        have BX := BX0
        clear hpn hW0
        clear z1 z2 HK hmod
        have SK : Hid (∀ w', Fr u6.ownBlock.toList W0 w' → w'.cell? ⟨wr.heap.size, 0, none⟩ = some (.slice (some ⟨q0, o0, none⟩) lk kc) ∧ w'.cell? ⟨wr.heap.size, 1, none⟩ = some (.slice va lv vc)) := fun w' f => by
          have hx := f.at BX.out (fun hm => own_not OB.out BX.out (by decide) (by rw [Option.mem_toList] at hm; exact hm))
          exact ⟨by rw [blk_cell hx]; rfl, by rw [blk_cell hx]; rfl⟩
        refine wp_region_held_drew (S := fun w' => w'.cell? ⟨wr.heap.size, 0, none⟩ = some (.slice (some ⟨q0, o0, none⟩) lk kc) ∧ w'.cell? ⟨wr.heap.size, 1, none⟩ = some (.slice va lv vc)) (by kernel_rfl) (SK.out _ ((Fr.refl _ _).drew)) (fun hS => ?_)
        refine wpAnyH_take (i := 0) (v := u6) rfl (by kernel_rfl) (by kernel_rfl) (by kernel_rfl) (fun _ _ _ h => h) (.inl ⟨by rfl, fun wx _ => by go_simp⟩) hS ?_
        simp only [Act.put]
        refine wpAnyH_take (i := 1) (v := .agg #[.slice (some ⟨q0, o0, none⟩) lk kc, .slice va lv vc]) rfl (by kernel_rfl) (by kernel_rfl) (by kernel_rfl) (fun _ _ _ h => h) (.inl ⟨by rfl, fun wx hX => by obtain ⟨x0, x1⟩ := hX; go_simp⟩) hS ?_
        simp only [Act.put]
        refine wpAnyH_take (i := 2) (v := .int .i64 (i : Int)) rfl (by kernel_rfl) (by kernel_rfl) (by kernel_rfl) (fun _ _ _ h => h) (.inl ⟨by rfl, fun wx _ => by go_simp⟩) hS ?_
        simp only [Act.put]
        refine wpAnyH_take (i := 3) (v := .int .i64 (r : Int)) rfl (by kernel_rfl) (by kernel_rfl) (by kernel_rfl) (fun _ _ _ h => h) (.inl ⟨by rfl, fun wx _ => by go_simp⟩) hS ?_
        simp only [Act.put]
        refine wpAnyH_take (i := 4) (v := u8) rfl (by kernel_rfl) (by kernel_rfl) (by kernel_rfl) (fun _ _ _ h => h) (.inl ⟨by rfl, fun wx _ => by go_simp⟩) hS ?_
        simp only [Act.put]
        refine wpAnyH_take (i := 5) (v := .pointer (some ⟨wr.heap.size, 0, none⟩)) rfl (by kernel_rfl) (by kernel_rfl) (by kernel_rfl) (fun _ _ _ h => h) (.inl ⟨by rfl, fun wx _ => by go_simp⟩) hS ?_
        simp only [Act.put]
        refine wpAnyH_take (i := 6) (v := .slice (some ⟨q0, o0, none⟩) lk kc) rfl (by kernel_rfl) (by kernel_rfl) (by kernel_rfl) (fun _ _ _ h => h) (.inl ⟨by rfl, fun wx hX => by obtain ⟨x0, x1⟩ := hX; go_simp⟩) hS ?_
        simp only [Act.put]
        clear hS
        refine wpAnyH_ready (rs := [7]) (by kernel_rfl) (by simp) ?_
        refine AllReadyH.cons rfl (fun K hK => ?_) AllReadyH.nil
        go_simp
        refine (sharing_c W0.drew i r (by omega) h1 h2 (HB.out.ah.fr FW.out.drew) HAL.out (RK.out.fr FW.out.drew) (by rw [HLK.out]; omega)).mono ?_
        rintro e w3 ⟨rfl, f3⟩
        rw [HSD.out]
        refine hK.out _ _ (SK.out _ (((Fr.refl _ _).drew).trans (f3.mono (by simp)))) (fun _ => ?_)
        clear hK K
        have F3 := hid (((Fr.refl [] W0).drew).trans f3)
        clear f3
        refine wpAnyH_ready (rs := [8]) (by kernel_rfl) (by simp) ?_
        refine AllReadyH.cons rfl (fun K hK => ?_) AllReadyH.nil
        go_simp
        have AE := appendEntry_c w w3 sd w.heap.size (Nat.le_refl _) (FW.out.trans F3.out).size (FW.out.trans F3.out) _ (ownsRow_fr OB.out F3.out) RK2.out (by rw [HLK.out]; exact hkc) RV2.out (by rw [HLK.out]; exact hsd) (by omega) (by rw [HLK.out]; omega) (by rw [HLV.out]; omega)
        rw [HLK.out, HLV.out] at AE
        refine AE.mono ?_
        rintro e w4 ⟨v6n, rfl, g4⟩
        clear AE
        rw [HBS.out] at g4
        have G4 := hid g4
        clear g4
        refine hK.out _ _ (SK.out _ ((F3.out.mono (by simp)).trans G4.out.fr)) (fun _ => ?_)
        clear hK K
        have FN : Hid (Fr [] w w4) := hid (G4.out.old (ownsRow_fr OB.out F3.out) (FW.out.trans F3.out) (Nat.le_refl _))
        have BN : Hid (BI w w4 r ps (i + 1) v6n u7 (.slice (some ⟨q0, o0, none⟩) lk kc)) := by
          refine hid ⟨G4.out.own, ownsRow_of_block (ownsRow_fr OP.out F3.out) ?_, ?_, by rw [ahd_succ]; exact RK.out, FN.out⟩
          · intro k hk
            exact G4.out.fr.block k ((ownsRow_fr OP.out F3.out).lt k hk).2 (fun hm => DIS.out k (by rw [Option.mem_toList] at hm; exact hm) hk)
          · intro k hk hk2
            rcases G4.out.blk with e | e
            · exact DIS.out k (by rw [← e]; exact hk) hk2
            · have := e k hk; have := ((ownsRow_fr OP.out F3.out).lt k hk2).2; omega
        have hcl := (SK.out _ ((F3.out.mono (by simp)).trans G4.out.fr)).1
        refine wpAnyH_ready (rs := [9]) (by kernel_rfl) (by simp) ?_
        refine AllReadyH.cons rfl (fun K hK => ?_) AllReadyH.nil
        go_simp
        refine hK.out _ _ (SK.out _ ((F3.out.mono (by simp)).trans G4.out.fr)) (fun _ => ?_)
        clear hK K
        refine wpAnyH_done (by kernel_rfl) ?_ _
        go_wp2
        go_roundw
        case rel => exact ⟨i + 1, by omega, by go_num, BN.out⟩
        case measure => simp [intOf]; omega
    · have hin : i = n := by omega
      subst hin
      have H4 := plc_four r ps i
      obtain ⟨b7, c7, hv7, _⟩ := ownsRow_slice HB.out.op
      obtain ⟨L, hL⟩ : ∃ L, (plc r ps i).length = L := ⟨_, rfl⟩
      have HL := hid hL
      rw [hL] at hv7 hpl H4
      subst hv7
      obtain ⟨q, hq⟩ : ∃ q, L = 4 * q := ⟨L / 4, by omega⟩
      have hdiv : ((L : Int) / 4) = (q : Int) := by omega
      have HQ := hid hq
      clear hq H4
      clear hmod HK
      obtain ⟨b6, c6, rfl, _⟩ := ownsRow_slice HB.out.ob
      go_wp2_with fail
      refine (fixed4_c wr q (by omega)).mono ?_
      rintro e w2 ⟨v2, rfl, o2, f2⟩
      obtain ⟨b2, c2, rfl, _⟩ := ownsRow_slice o2
      have O2 := hid o2
      have F2 := hid f2
      have CC := hid (concat3_c (Rd.ownB (ownsRow_fr HB.out.ob f2)) (Rd.ownN (ownsRow_fr HB.out.op f2) rfl) (Rd.ownN o2 (by rw [fixL_len])) (by rw [fixL_len, HL.out]; omega))
      clear o2 f2
      go_wp2_with fail
      refine CC.out.mono ?_
      rintro e w3 ⟨v3, rfl, o3, f3⟩
      have O3 := hid o3
      have F3 := hid f3
      clear o3 f3 CC
      go_wp2
      go_ret2
      have hbk : bod r ps i ++ plc r ps i ++ fixL q 4 = blk r ps := by
        unfold blk
        rw [← HNN.out, List.append_assoc, HL.out, HQ.out, Nat.mul_div_cancel_left _ (by omega)]
      refine ⟨v3, rfl, ?_, HB.out.fr.trans (F2.out.trans F3.out)⟩
      rw [← hbk]
      exact ownsRow_base O3.out (by have := HB.out.fr.size; have := F2.out.size; omega)
end Go.Proofs.Ytdlnfcepknoigaa
