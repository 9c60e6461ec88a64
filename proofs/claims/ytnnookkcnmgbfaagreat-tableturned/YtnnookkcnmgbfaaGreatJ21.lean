/-
  Searches in a table.
-/
import Derived.Test.YtnnookkcnmgbfaaGreatXL
import Derived.Test.YtnnookkcnmgbfaaGreatJ20
import Derived.Test.YtnnookkcnmgbfaaGreatJ11
import Derived.Laws.EntriesVeiled
namespace Go.Proofs.YtnnookkcnmgbfaaGreat
open Go.ChangeShapes Go.WideShapes Go.ChangeAt Go.RowKit

set_option maxRecDepth 20000 in
set_option maxHeartbeats 3200000 in
theorem search_b (w : World) (n : Nat) (hn : n ≤ 1000000000) (x1 x2 : Value) (P : Nat → Bool)
    (hF : ∀ h W, h < n → Fr [] w W → Calls Tryz.prog 93 #[.int .i64 (h : Int), x1, x2] W fun e w' => e = .returned (.bool (P h)) ∧ Fr [] W w') :
    Calls Tryz.prog 92 #[.int .i64 (n : Int), .func (.func 93) #[] #[x1, x2]] w fun e w' => ∃ k : Nat, e = .returned (.int .i64 (k : Int)) ∧ k ≤ n ∧ (k < n → P k = true) ∧ (0 < k → P (k - 1) = false) ∧ Fr [] w w' := by
  have HF := hid hF
  clear hF
  go_enter Tryz.func92, Tryz.ntmps92
  go_wp2_with fail
  go_loopw [5, 6] (fun v5 v6 wr => ∃ i j : Nat, v5 = .int .i64 (i : Int) ∧ v6 = .int .i64 (j : Int) ∧ i ≤ j ∧ j ≤ n ∧ (j < n → P j = true) ∧ (0 < i → P (i - 1) = false) ∧ Fr [] w wr) (fun v5 v6 _ => (intOf v6).toNat - (intOf v5).toNat)
  case atStart => exact ⟨0, n, rfl, rfl, Nat.zero_le _, Nat.le_refl _, fun h => by omega, fun h => by omega, Fr.refl _ _⟩
  case round =>
    obtain ⟨i, j, rfl, rfl, hij, hjn, h1, h2, hf⟩ := hrel
    have H := hid (And.intro h1 (And.intro h2 hf))
    clear h1 h2 hf
    by_cases hlt : i < j
    · obtain ⟨h, hh⟩ : ∃ h, h = (i + j) / 2 := ⟨_, rfl⟩
      have hdv : ((i : Int) + (j : Int)) / 2 = (h : Int) := by omega
      have hh1 : i ≤ h := by omega
      have hh2 : h < j := by omega
      have HC := hid (HF.out h wr (by omega) H.out.2.2)
      clear hh
      go_wp2_with fail
      refine HC.out.mono ?_
      rintro e w1 ⟨rfl, f1⟩
      have F1 := hid (H.out.2.2.trans f1)
      clear f1 HC
      rcases hp : P h with _ | _
      · have HP := hid hp
        clear hp
        go_wp2
        go_roundw
        case rel => exact ⟨h + 1, j, by go_num, rfl, by omega, hjn, H.out.1, fun _ => by rw [Nat.add_sub_cancel]; exact HP.out, F1.out⟩
        case measure => simp [intOf]; omega
      · have HP := hid hp
        clear hp
        go_wp2
        go_roundw
        case rel => exact ⟨i, h, rfl, rfl, by omega, by omega, fun _ => HP.out, H.out.2.1, F1.out⟩
        case measure => simp [intOf]; omega
    · have hij' : i = j := by omega
      subst hij'
      go_wp2
      go_ret
      exact ⟨i, rfl, hjn, H.out.1, H.out.2.1, H.out.2.2⟩
set_option maxRecDepth 20000 in
set_option maxHeartbeats 3200000 in
theorem search_e (w : World) (n : Nat) (hn : n ≤ 1000000000) (x1 x2 : Value) (P : Nat → Bool)
    (hF : ∀ h W, h < n → Fr [] w W → Calls Tryz.prog 95 #[.int .i64 (h : Int), x1, x2] W fun e w' => e = .returned (.bool (P h)) ∧ Fr [] W w') :
    Calls Tryz.prog 92 #[.int .i64 (n : Int), .func (.func 95) #[] #[x1, x2]] w fun e w' => ∃ k : Nat, e = .returned (.int .i64 (k : Int)) ∧ k ≤ n ∧ (k < n → P k = true) ∧ (0 < k → P (k - 1) = false) ∧ Fr [] w w' := by
  have HF := hid hF
  clear hF
  go_enter Tryz.func92, Tryz.ntmps92
  go_wp2_with fail
  go_loopw [5, 6] (fun v5 v6 wr => ∃ i j : Nat, v5 = .int .i64 (i : Int) ∧ v6 = .int .i64 (j : Int) ∧ i ≤ j ∧ j ≤ n ∧ (j < n → P j = true) ∧ (0 < i → P (i - 1) = false) ∧ Fr [] w wr) (fun v5 v6 _ => (intOf v6).toNat - (intOf v5).toNat)
  case atStart => exact ⟨0, n, rfl, rfl, Nat.zero_le _, Nat.le_refl _, fun h => by omega, fun h => by omega, Fr.refl _ _⟩
  case round =>
    obtain ⟨i, j, rfl, rfl, hij, hjn, h1, h2, hf⟩ := hrel
    have H := hid (And.intro h1 (And.intro h2 hf))
    clear h1 h2 hf
    by_cases hlt : i < j
    · obtain ⟨h, hh⟩ : ∃ h, h = (i + j) / 2 := ⟨_, rfl⟩
      have hdv : ((i : Int) + (j : Int)) / 2 = (h : Int) := by omega
      have hh1 : i ≤ h := by omega
      have hh2 : h < j := by omega
      have HC := hid (HF.out h wr (by omega) H.out.2.2)
      clear hh
      go_wp2_with fail
      refine HC.out.mono ?_
      rintro e w1 ⟨rfl, f1⟩
      have F1 := hid (H.out.2.2.trans f1)
      clear f1 HC
      rcases hp : P h with _ | _
      · have HP := hid hp
        clear hp
        go_wp2
        go_roundw
        case rel => exact ⟨h + 1, j, by go_num, rfl, by omega, hjn, H.out.1, fun _ => by rw [Nat.add_sub_cancel]; exact HP.out, F1.out⟩
        case measure => simp [intOf]; omega
      · have HP := hid hp
        clear hp
        go_wp2
        go_roundw
        case rel => exact ⟨i, h, rfl, rfl, by omega, by omega, fun _ => HP.out, H.out.2.1, F1.out⟩
        case measure => simp [intOf]; omega
    · have hij' : i = j := by omega
      subst hij'
      go_wp2
      go_ret
      exact ⟨i, rfl, hjn, H.out.1, H.out.2.1, H.out.2.2⟩
set_option maxRecDepth 20000 in
theorem ahead_c (w : World) {v1 v2 : Value} {a b : List Nat} (h1 : Rd w v1 (bv a)) (ha : By a) (ka : isK a = true) (h2 : Rd w v2 (bv b)) (hb : By b) (kb : isK b = true) (x : Bool) (hx : x = decide (ordK a b < 0)) :
    Calls Tryz.prog 94 #[v1, v2] w fun e w' => e = .returned (.bool x) ∧ Fr [] w w' := by
  have HC := hid (compare_yes w h1 ha ka h2 hb kb)
  obtain ⟨a1, c1, rfl⟩ := h1.form
  obtain ⟨a2, c2, rfl⟩ := h2.form
  clear h1 h2 ha hb ka kb
  generalize ordK a b = o at *
  subst hx
  go_enter Tryz.func94, Tryz.ntmps94
  go_wp2_with (go_at_call 108; refine HC.out.mono ?_; rintro e w1 ⟨rfl, f1⟩; have F1 := hid f1; clear f1)
  go_ret
  exact ⟨rfl, F1.out⟩
set_option maxRecDepth 20000 in
set_option maxHeartbeats 3200000 in
theorem bfrom1_c (w : World) {p C K : Nat} {dat flt : List Nat} {ips : Ps} {da fa : Option Addr} {dc fc G : Nat} (T : Tab w p dat flt ips da dc fa fc G) (hri : Rises ips) (hby : ByP ips) (_hn : ips.length ≤ 1000000000) {key : List Nat} {qa : Option Addr} {qc : Nat} (rk : Rd w (.slice qa key.length qc) (bv key)) (bk : By key) (hk : isK key = true) (cC : w.cell? ⟨C, 0, none⟩ = some (.pointer (some ⟨p, 0, none⟩))) (cK : w.cell? ⟨K, 0, none⟩ = some (.slice qa key.length qc)) (i : Nat) (hi : i < ips.length) :
    Calls Tryz.prog 93 #[.int .i64 (i : Int), .pointer (some ⟨C, 0, none⟩), .pointer (some ⟨K, 0, none⟩)] w fun e w' => e = .returned (.bool (!decide (ordK (kA ips i) key < 0))) ∧ Fr [] w w' := by
  obtain ⟨la, lc, ua, uc, s⟩ := T.rs i hi
  obtain ⟨x, hx⟩ : ∃ x, x = decide (ordK (kA ips i) key < 0) := ⟨_, rfl⟩
  have AC := hid (ahead_c w.drew (s.rl.fr (Fr.refl _ _).drew) (kA_by hby i).1 (rises_isK hri hi) (rk.fr (Fr.refl _ _).drew) bk hk x hx)
  have z1 : w.cell? ⟨p, 2, none⟩ = some (.slice (some ⟨G, 0, none⟩) ips.length ips.length) := by rw [blk_cell T.at']; rfl
  have z2 := s.c2
  rw [← hx]
  clear T s rk hx bk hk hri hby
  generalize (kA ips i).length = kl at *
  generalize key.length = kl2 at *
  generalize ips.length = n at *
  have SK : Hid (∀ w', Fr [] w w' → (fun w' => w'.cell? ⟨C, 0, none⟩ = some (.pointer (some ⟨p, 0, none⟩)) ∧ w'.cell? ⟨K, 0, none⟩ = some (.slice qa kl2 qc) ∧ w'.cell? ⟨p, 2, none⟩ = some (.slice (some ⟨G, 0, none⟩) n n) ∧ w'.cell? ⟨G, i * 4 + 2, none⟩ = some (.slice la kl lc)) w') := hid fun w' f => ⟨cell_fr f cC, cell_fr f cK, cell_fr f z1, cell_fr f z2⟩
  have hiI : (i : Int) < (n : Int) := by omega
  clear cC cK z1 z2
  go_enter Tryz.func93, Tryz.ntmps93
  go_upto_region 1 with fail
  refine wp_region_held_drew (S := fun w' => w'.cell? ⟨C, 0, none⟩ = some (.pointer (some ⟨p, 0, none⟩)) ∧ w'.cell? ⟨K, 0, none⟩ = some (.slice qa kl2 qc) ∧ w'.cell? ⟨p, 2, none⟩ = some (.slice (some ⟨G, 0, none⟩) n n) ∧ w'.cell? ⟨G, i * 4 + 2, none⟩ = some (.slice la kl lc)) (by kernel_rfl) (SK.out _ ((Fr.refl _ _).drew)) (fun hS => ?_)
  refine wpAnyH_take (i := 0) (v := .pointer (some ⟨p, 0, none⟩)) rfl (by kernel_rfl) (by kernel_rfl) (by kernel_rfl) (fun _ _ _ h => h) (.inl ⟨by rfl, fun wx hX => by obtain ⟨x0, x1, x2, x3⟩ := hX; go_simp⟩) hS ?_
  simp only [Act.put]
  refine wpAnyH_take (i := 1) (v := .pointer (some ⟨p, 0, none⟩)) rfl (by kernel_rfl) (by kernel_rfl) (by kernel_rfl) (fun _ _ _ h => h) (.inl ⟨by rfl, fun wx _ => by go_simp⟩) hS ?_
  simp only [Act.put]
  refine wpAnyH_take (i := 2) (v := .pointer (some ⟨p, 2, none⟩)) rfl (by kernel_rfl) (by kernel_rfl) (by kernel_rfl) (fun _ _ _ h => h) (.inl ⟨by rfl, fun wx _ => by go_simp⟩) hS ?_
  simp only [Act.put]
  refine wpAnyH_take (i := 3) (v := .slice (some ⟨G, 0, none⟩) n n) rfl (by kernel_rfl) (by kernel_rfl) (by kernel_rfl) (fun _ _ _ h => h) (.inl ⟨by rfl, fun wx hX => by obtain ⟨x0, x1, x2, x3⟩ := hX; go_simp⟩) hS ?_
  simp only [Act.put]
  refine wpAnyH_take (i := 4) (v := .int .i64 (i : Int)) rfl (by kernel_rfl) (by kernel_rfl) (by kernel_rfl) (fun _ _ _ h => h) (.inl ⟨by rfl, fun wx _ => by go_simp⟩) hS ?_
  simp only [Act.put]
  refine wpAnyH_take (i := 5) (v := .pointer (some ⟨G, i * 4, none⟩)) rfl (by kernel_rfl) (by kernel_rfl) (by kernel_rfl) (fun _ _ _ h => h) (.inl ⟨by rfl, fun wx _ => by go_simp⟩) hS ?_
  simp only [Act.put]
  refine wpAnyH_take (i := 6) (v := .pointer (some ⟨G, i * 4 + 2, none⟩)) rfl (by kernel_rfl) (by kernel_rfl) (by kernel_rfl) (fun _ _ _ h => h) (.inl ⟨by rfl, fun wx _ => by go_simp⟩) hS ?_
  simp only [Act.put]
  refine wpAnyH_take (i := 7) (v := .slice la kl lc) rfl (by kernel_rfl) (by kernel_rfl) (by kernel_rfl) (fun _ _ _ h => h) (.inl ⟨by rfl, fun wx hX => by obtain ⟨x0, x1, x2, x3⟩ := hX; go_simp⟩) hS ?_
  simp only [Act.put]
  refine wpAnyH_take (i := 8) (v := .slice qa kl2 qc) rfl (by kernel_rfl) (by kernel_rfl) (by kernel_rfl) (fun _ _ _ h => h) (.inl ⟨by rfl, fun wx hX => by obtain ⟨x0, x1, x2, x3⟩ := hX; go_simp⟩) hS ?_
  simp only [Act.put]
  clear hS
  refine wpAnyH_ready (rs := [9]) (by kernel_rfl) (by simp) ?_
  refine AllReadyH.cons rfl (fun K hK => ?_) AllReadyH.nil
  go_simp
  refine AC.out.mono ?_
  rintro e w1 ⟨rfl, f1⟩
  have F1 := hid (((Fr.refl [] w).drew).trans f1)
  have hS1 := SK.out _ F1.out
  refine hK.out _ _ hS1 (fun _ => ?_)
  clear hK K
  refine wpAnyH_take (i := 10) (v := .bool (!x)) rfl (by kernel_rfl) (by kernel_rfl) (by kernel_rfl) (fun _ _ _ h => h) (.inl ⟨by rfl, fun wx _ => by go_simp⟩) hS1 ?_
  simp only [Act.put]
  refine wpAnyH_ready (rs := [11]) (by kernel_rfl) (by simp) ?_
  refine AllReadyH.cons rfl (fun K hK => ?_) AllReadyH.nil
  go_simp
  refine hK.out _ _ hS1 (fun _ => ?_)
  clear hK K
  clear hS1
  refine wpAnyH_done (by kernel_rfl) ?_ _
  go_wp2
  go_ret
  exact ⟨rfl, F1.out⟩
set_option maxRecDepth 20000 in
set_option maxHeartbeats 3200000 in
theorem efrom1_c (w : World) {C K eb eo c : Nat} {qs : Ps} (hq : RdK w (.slice (some ⟨eb, eo, none⟩) qs.length c) qs) (hri : Rises qs) (hn : qs.length ≤ 1000000000) {key : List Nat} {qa : Option Addr} {qc : Nat} (rk : Rd w (.slice qa key.length qc) (bv key)) (bk : By key) (hk : isK key = true) (cC : w.cell? ⟨C, 0, none⟩ = some (.slice (some ⟨eb, eo, none⟩) qs.length c)) (cK : w.cell? ⟨K, 0, none⟩ = some (.slice qa key.length qc)) (i : Nat) (hi : i < qs.length) :
    Calls Tryz.prog 95 #[.int .i64 (i : Int), .pointer (some ⟨C, 0, none⟩), .pointer (some ⟨K, 0, none⟩)] w fun e w' => e = .returned (.bool (!decide (ordK (kA qs i) key < 0))) ∧ Fr [] w w' := by
  obtain ⟨a', c', e, hc, kk⟩ := hq
  simp only [Value.slice.injEq] at e
  obtain ⟨rfl, _, rfl⟩ := e
  obtain ⟨b', o', e, kp⟩ := kk (by omega)
  simp only [Option.some.injEq, Addr.mk.injEq] at e
  obtain ⟨rfl, rfl, _⟩ := e
  obtain ⟨la, lc, va, vc, s⟩ := kp i _ (ps_at hi)
  obtain ⟨x, hx⟩ : ∃ x, x = decide (ordK (kA qs i) key < 0) := ⟨_, rfl⟩
  have AC := hid (ahead_c w.drew (s.rk.fr (Fr.refl _ _).drew) s.bk (rises_isK hri hi) (rk.fr (Fr.refl _ _).drew) bk hk x hx)
  have z2 := s.ck
  rw [← hx]
  dsimp only at z2 AC
  clear s rk hx bk hk hri kk kp
  generalize (kA qs i).length = kl at *
  generalize key.length = kl2 at *
  generalize qs.length = n at *
  have SK : Hid (∀ w', Fr [] w w' → (fun w' => w'.cell? ⟨C, 0, none⟩ = some (.slice (some ⟨eb, eo, none⟩) n c) ∧ w'.cell? ⟨K, 0, none⟩ = some (.slice qa kl2 qc) ∧ w'.cell? ⟨eb, eo + i * 2, none⟩ = some (.slice la kl lc)) w') := hid fun w' f => ⟨cell_fr f cC, cell_fr f cK, cell_fr f z2⟩
  have hiI : (i : Int) < (n : Int) := by omega
  clear cC cK z2
  go_enter Tryz.func95, Tryz.ntmps95
  go_upto_region 1 with fail
  refine wp_region_held_drew (S := fun w' => w'.cell? ⟨C, 0, none⟩ = some (.slice (some ⟨eb, eo, none⟩) n c) ∧ w'.cell? ⟨K, 0, none⟩ = some (.slice qa kl2 qc) ∧ w'.cell? ⟨eb, eo + i * 2, none⟩ = some (.slice la kl lc)) (by kernel_rfl) (SK.out _ ((Fr.refl _ _).drew)) (fun hS => ?_)
  refine wpAnyH_take (i := 0) (v := .slice (some ⟨eb, eo, none⟩) n c) rfl (by kernel_rfl) (by kernel_rfl) (by kernel_rfl) (fun _ _ _ h => h) (.inl ⟨by rfl, fun wx hX => by obtain ⟨x0, x1, x2⟩ := hX; go_simp⟩) hS ?_
  simp only [Act.put]
  refine wpAnyH_take (i := 1) (v := .int .i64 (i : Int)) rfl (by kernel_rfl) (by kernel_rfl) (by kernel_rfl) (fun _ _ _ h => h) (.inl ⟨by rfl, fun wx _ => by go_simp⟩) hS ?_
  simp only [Act.put]
  refine wpAnyH_take (i := 2) (v := .pointer (some ⟨eb, eo + i * 2, none⟩)) rfl (by kernel_rfl) (by kernel_rfl) (by kernel_rfl) (fun _ _ _ h => h) (.inl ⟨by rfl, fun wx _ => by go_simp⟩) hS ?_
  simp only [Act.put]
  refine wpAnyH_take (i := 3) (v := .pointer (some ⟨eb, eo + i * 2, none⟩)) rfl (by kernel_rfl) (by kernel_rfl) (by kernel_rfl) (fun _ _ _ h => h) (.inl ⟨by rfl, fun wx _ => by go_simp⟩) hS ?_
  simp only [Act.put]
  refine wpAnyH_take (i := 4) (v := .slice la kl lc) rfl (by kernel_rfl) (by kernel_rfl) (by kernel_rfl) (fun _ _ _ h => h) (.inl ⟨by rfl, fun wx hX => by obtain ⟨x0, x1, x2⟩ := hX; go_simp⟩) hS ?_
  simp only [Act.put]
  refine wpAnyH_take (i := 5) (v := .slice qa kl2 qc) rfl (by kernel_rfl) (by kernel_rfl) (by kernel_rfl) (fun _ _ _ h => h) (.inl ⟨by rfl, fun wx hX => by obtain ⟨x0, x1, x2⟩ := hX; go_simp⟩) hS ?_
  simp only [Act.put]
  clear hS
  refine wpAnyH_ready (rs := [6]) (by kernel_rfl) (by simp) ?_
  refine AllReadyH.cons rfl (fun K hK => ?_) AllReadyH.nil
  go_simp
  refine AC.out.mono ?_
  rintro e w1 ⟨rfl, f1⟩
  have F1 := hid (((Fr.refl [] w).drew).trans f1)
  have hS1 := SK.out _ F1.out
  refine hK.out _ _ hS1 (fun _ => ?_)
  clear hK K
  refine wpAnyH_take (i := 7) (v := .bool (!x)) rfl (by kernel_rfl) (by kernel_rfl) (by kernel_rfl) (fun _ _ _ h => h) (.inl ⟨by rfl, fun wx _ => by go_simp⟩) hS1 ?_
  simp only [Act.put]
  refine wpAnyH_ready (rs := [8]) (by kernel_rfl) (by simp) ?_
  refine AllReadyH.cons rfl (fun K hK => ?_) AllReadyH.nil
  go_simp
  refine hK.out _ _ hS1 (fun _ => ?_)
  clear hK K
  clear hS1
  refine wpAnyH_done (by kernel_rfl) ?_ _
  go_wp2
  go_ret
  exact ⟨rfl, F1.out⟩
end Go.Proofs.YtnnookkcnmgbfaaGreat
namespace Go.Proofs.YtnnookkcnmgbfaaGreat
open Go.ChangeShapes Go.WideShapes Go.ChangeAt Go.RowKit

set_option maxRecDepth 20000 in
set_option maxHeartbeats 1600000 in
theorem bfrom_c (w : World) {p : Nat} {dat flt : List Nat} {ips : Ps} {da fa : Option Addr} {dc fc G : Nat} (T : Tab w p dat flt ips da dc fa fc G) (hri : Rises ips) (hby : ByP ips) (hn : ips.length ≤ 1000000000) {key : List Nat} {kv : Value} (rk : Rd w kv (bv key)) (bk : By key) (hk : isK key = true) (I : Nat)
    (hI : ∀ k, k ≤ ips.length → (k < ips.length → (!decide (ordK (kA ips k) key < 0)) = true) → (0 < k → (!decide (ordK (kA ips (k - 1)) key < 0)) = false) → k = I) :
    Calls Tryz.prog 53 #[.pointer (some ⟨p, 0, none⟩), kv] w fun e w' => e = .returned (.int .i64 (I : Int)) ∧ Fr [] w w' := by
  obtain ⟨qa, qc, hv⟩ := rk.form
  rw [bv_len] at hv
  subst hv
  obtain ⟨W, hW⟩ : ∃ W, W = (w.alloc (.cells #[.pointer (some ⟨p, 0, none⟩)] 25)).alloc (.cells #[.slice qa key.length qc] 22) := ⟨_, rfl⟩
  have F0 : Hid (Fr [] w W) := hid (by rw [hW]; exact ((Fr.refl _ _).alloc _).alloc _)
  have n0 : W.heap[w.heap.size]? = some (.cells #[.pointer (some ⟨p, 0, none⟩)] 25 (0, 0)) := by rw [hW, blk_old _ _ (by simp)]; exact blk_new _ _
  have n1 : W.heap[w.heap.size + 1]? = some (.cells #[.slice qa key.length qc] 22 (0, 0)) := by rw [hW]; exact new_at _ _ (by simp)
  have T0 := T.fr F0.out
  have SE := hid (search_b W ips.length hn (.pointer (some ⟨w.heap.size, 0, none⟩)) (.pointer (some ⟨w.heap.size + 1, 0, none⟩)) (fun k => !decide (ordK (kA ips k) key < 0)) (fun h W' hh f => bfrom1_c W' (T0.fr f) hri hby hn ((rk.fr F0.out).fr f) bk hk (cell_fr f (by rw [blk_cell n0]; rfl)) (cell_fr f (by rw [blk_cell n1]; rfl)) h hh))
  have HI := hid hI
  have c0 : W.cell? ⟨w.heap.size, 0, none⟩ = some (.pointer (some ⟨p, 0, none⟩)) := by rw [blk_cell n0]; rfl
  have c2 : W.cell? ⟨p, 2, none⟩ = some (.slice (some ⟨G, 0, none⟩) ips.length ips.length) := by rw [blk_cell T0.at']; rfl
  clear T T0 rk hI n0 n1 hri hby bk hk
  generalize key.length = kl at *
  generalize ips.length = n at *
  go_enter Tryz.func53, Tryz.ntmps53
  go_upto_region 1 with fail
  rw [← hW]
  clear hW
  go_wp2_with (go_at_call 92; refine SE.out.mono ?_; rintro e w1 ⟨k, rfl, k1, k2, k3, f1⟩; have EK := HI.out k k1 k2 k3; have F1 := hid (F0.out.trans f1); clear f1 k1 k2 k3)
  go_ret
  exact ⟨rfl, F1.out⟩
set_option maxRecDepth 20000 in
set_option maxHeartbeats 1600000 in
theorem efrom_c (w : World) {eb eo c : Nat} {qs : Ps} (hq : RdK w (.slice (some ⟨eb, eo, none⟩) qs.length c) qs) (hri : Rises qs) (hn : qs.length ≤ 1000000000) {key : List Nat} {kv : Value} (rk : Rd w kv (bv key)) (bk : By key) (hk : isK key = true) (I : Nat)
    (hI : ∀ k, k ≤ qs.length → (k < qs.length → (!decide (ordK (kA qs k) key < 0)) = true) → (0 < k → (!decide (ordK (kA qs (k - 1)) key < 0)) = false) → k = I) :
    Calls Tryz.prog 56 #[.slice (some ⟨eb, eo, none⟩) qs.length c, kv] w fun e w' => e = .returned (.int .i64 (I : Int)) ∧ Fr [] w w' := by
  obtain ⟨qa, qc, hv⟩ := rk.form
  rw [bv_len] at hv
  subst hv
  obtain ⟨W, hW⟩ : ∃ W, W = (w.alloc (.cells #[.slice (some ⟨eb, eo, none⟩) qs.length c] 36)).alloc (.cells #[.slice qa key.length qc] 22) := ⟨_, rfl⟩
  have F0 : Hid (Fr [] w W) := hid (by rw [hW]; exact ((Fr.refl _ _).alloc _).alloc _)
  have n0 : W.heap[w.heap.size]? = some (.cells #[.slice (some ⟨eb, eo, none⟩) qs.length c] 36 (0, 0)) := by rw [hW, blk_old _ _ (by simp)]; exact blk_new _ _
  have n1 : W.heap[w.heap.size + 1]? = some (.cells #[.slice qa key.length qc] 22 (0, 0)) := by rw [hW]; exact new_at _ _ (by simp)
  have SE := hid (search_e W qs.length hn (.pointer (some ⟨w.heap.size, 0, none⟩)) (.pointer (some ⟨w.heap.size + 1, 0, none⟩)) (fun k => !decide (ordK (kA qs k) key < 0)) (fun h W' hh f => efrom1_c W' ((hq.fr F0.out).fr f) hri hn ((rk.fr F0.out).fr f) bk hk (cell_fr f (by rw [blk_cell n0]; rfl)) (cell_fr f (by rw [blk_cell n1]; rfl)) h hh))
  have HI := hid hI
  have c0 : W.cell? ⟨w.heap.size, 0, none⟩ = some (.slice (some ⟨eb, eo, none⟩) qs.length c) := by rw [blk_cell n0]; rfl
  clear hq rk hI n0 n1 hri bk hk
  generalize key.length = kl at *
  generalize qs.length = n at *
  go_enter Tryz.func56, Tryz.ntmps56
  go_upto_region 1 with fail
  rw [← hW]
  clear hW
  go_wp2_with (go_at_call 92; refine SE.out.mono ?_; rintro e w1 ⟨k, rfl, k1, k2, k3, f1⟩; have EK := HI.out k k1 k2 k3; have F1 := hid (F0.out.trans f1); clear f1 k1 k2 k3)
  go_ret
  exact ⟨rfl, F1.out⟩
set_option maxRecDepth 20000 in
set_option maxHeartbeats 1600000 in
theorem errno0_c (w : World) : Calls Tryz.prog 55 #[.agg #[.bool false, .bool false]] w fun e w' => e = .returned (.int .i64 0) ∧ Fr [] w w' := by
  go_enter Tryz.func55, Tryz.ntmps55
  go_wp2
  go_ret
  exact ⟨rfl, (Fr.refl _ _).alloc _⟩
set_option maxRecDepth 20000 in
set_option maxHeartbeats 1600000 in
theorem errno81_c (w : World) : Calls Tryz.prog 55 #[.agg #[.bool true, .bool false]] w fun e w' => e = .returned (.int .i64 81) ∧ Fr [] w w' := by
  go_enter Tryz.func55, Tryz.ntmps55
  go_wp2
  go_ret
  exact ⟨rfl, (Fr.refl _ _).alloc _⟩
set_option maxRecDepth 20000 in
set_option maxHeartbeats 1600000 in
theorem errno80_c (w : World) : Calls Tryz.prog 55 #[.agg #[.bool false, .bool true]] w fun e w' => e = .returned (.int .i64 80) ∧ Fr [] w w' := by
  go_enter Tryz.func55, Tryz.ntmps55
  go_wp2
  go_ret
  exact ⟨rfl, (Fr.refl _ _).alloc _⟩
theorem tmay_c (w : World) {p : Nat} {dat flt : List Nat} {ips : Ps} {da fa : Option Addr} {dc fc G : Nat} (T : Tab w p dat flt ips da dc fa fc G) (hb : By flt) (hl : flt.length ≤ 1000000000) {kv : Value} {user : List Nat} (rk : Rd w kv (bv user)) (bk : By user) (hkl : user.length ≤ 140737488355328) :
    Calls Tryz.prog 52 #[.pointer (some ⟨p, 0, none⟩), kv] w fun e w' => e = .returned (.bool (mayF flt user)) ∧ w' = w := by
  have MC := hid (may_c w T.rf hb hl rk bk hkl)
  have c1 : w.cell? ⟨p, 1, none⟩ = some (.slice fa flt.length fc) := by rw [blk_cell T.at']; rfl
  obtain ⟨a, c, rfl⟩ := rk.form
  clear T rk
  generalize mayF flt user = x at *
  go_enter Tryz.func52, Tryz.ntmps52
  go_wp2_with (go_at_call 91; refine MC.out.mono ?_; rintro e w1 ⟨rfl, h⟩; rw [h]; clear h)
  go_ret
  exact ⟨rfl, rfl⟩
theorem blocks_c (w : World) {p : Nat} {dat flt : List Nat} {ips : Ps} {da fa : Option Addr} {dc fc G : Nat} (T : Tab w p dat flt ips da dc fa fc G) :
    Calls Tryz.prog 16 #[.pointer (some ⟨p, 0, none⟩)] w fun e w' => e = .returned (.int .i64 (ips.length : Int)) ∧ w' = w := by
  have c2 : w.cell? ⟨p, 2, none⟩ = some (.slice (some ⟨G, 0, none⟩) ips.length ips.length) := by rw [blk_cell T.at']; rfl
  clear T
  go_enter Tryz.func16, Tryz.ntmps16
  go_wp2
  go_ret
  exact ⟨rfl, rfl⟩
end Go.Proofs.YtnnookkcnmgbfaaGreat
namespace Go.Proofs.YtnnookkcnmgbfaaGreat
open Go.ChangeShapes Go.WideShapes Go.ChangeAt Go.RowKit

set_option maxRecDepth 20000 in
set_option maxHeartbeats 3200000 in
theorem get_nomay (w : World) {p : Nat} {dat flt : List Nat} {ips : Ps} {da fa : Option Addr} {dc fc G : Nat} (T : Tab w p dat flt ips da dc fa fc G) {user : List Nat} {seq : Nat} (hq : seq ≤ 72057594037927935) (bf : By flt) (lf : flt.length ≤ 1000000000) (bu : By user) (lu : user.length ≤ 128) (may : mayF flt user = false) {uv : Value} (ru : Rd w uv (bv user)) :
    Calls Tryz.prog 15 #[.pointer (some ⟨p, 0, none⟩), uv, .int .u64 (seq : Int)] w fun e w' => e = .returned (.tuple #[.slice none 0 0, .int .i64 0, .bool false, .int .i64 0]) ∧ Fr [] w w' := by
  have HT := hid T
  have HU := hid ru
  have hs' : (seq : Int) ≤ 72057594037927935 := by omega
  have KC := hid (key_ok w ru lu seq 1 (by omega) (by omega))
  have HIS := hid (keyL_is lu (show seq ≤ 72057594037927935 by omega) (show 1 ≤ 1 by omega))
  have HBK := hid (keyL_by bu seq 1)
  obtain ⟨ua, uc, hu⟩ := ru.form
  rw [bv_len] at hu
  subst hu
  have HUB := hid bu
  clear T ru 
  obtain ⟨UL, hUL⟩ : ∃ UL, UL = user.length := ⟨_, rfl⟩
  have HUL := hid hUL
  rw [← hUL] at HU KC lu ⊢
  clear hUL
  go_enter Tryz.func15, Tryz.ntmps15
  go_upto_region 2 with (go_at_call 13; refine KC.out.mono ?_; rintro e W1 ⟨kv, rfl, o1, f1⟩; obtain ⟨ka, kc, rfl, _⟩ := ownsRow_slice o1; have RK := hid (Rd.ownB o1); have F1 := hid f1; clear o1 f1)
  have MC := hid (tmay_c W1 (HT.out.fr F1.out) bf lf (HU.out.fr F1.out) HUB.out (by rw [← HUL.out]; omega))
  rw [may] at MC
  go_wp2_with (go_at_call 52; refine MC.out.mono ?_; rintro e w2 ⟨rfl, h⟩; rw [h]; clear h)
  refine bodyPost_ret (results_tmp4 rfl _ _ _) rfl ?_
  exact ⟨rfl, F1.out⟩
set_option maxRecDepth 20000 in
set_option maxHeartbeats 3200000 in
theorem get_nomayG (w : World) {p : Nat} {dat flt : List Nat} {ips : Ps} {da fa : Option Addr} {dc fc G : Nat} (T : Tab w p dat flt ips da dc fa fc G) {user : List Nat} {sq : Nat} (hq : 72057594037927935 < sq) (bf : By flt) (lf : flt.length ≤ 1000000000) (bu : By user) (lu : user.length ≤ 128) (may : mayF flt user = false) {uv : Value} (ru : Rd w uv (bv user)) :
    Calls Tryz.prog 15 #[.pointer (some ⟨p, 0, none⟩), uv, .int .u64 (sq : Int)] w fun e w' => e = .returned (.tuple #[.slice none 0 0, .int .i64 0, .bool false, .int .i64 0]) ∧ Fr [] w w' := by
  have HT := hid T
  have HU := hid ru
  have hs' : (72057594037927935 : Int) < (sq : Int) := by omega
  have KC := hid (key_ok w ru lu 72057594037927935 1 (by omega) (by omega))
  have HIS := hid (keyL_is lu (show 72057594037927935 ≤ 72057594037927935 by omega) (show 1 ≤ 1 by omega))
  have HBK := hid (keyL_by bu 72057594037927935 1)
  obtain ⟨ua, uc, hu⟩ := ru.form
  rw [bv_len] at hu
  subst hu
  have HUB := hid bu
  clear T ru 
  obtain ⟨UL, hUL⟩ : ∃ UL, UL = user.length := ⟨_, rfl⟩
  have HUL := hid hUL
  rw [← hUL] at HU KC lu ⊢
  clear hUL
  go_enter Tryz.func15, Tryz.ntmps15
  go_upto_region 2 with (go_at_call 13; refine KC.out.mono ?_; rintro e W1 ⟨kv, rfl, o1, f1⟩; obtain ⟨ka, kc, rfl, _⟩ := ownsRow_slice o1; have RK := hid (Rd.ownB o1); have F1 := hid f1; clear o1 f1)
  have MC := hid (tmay_c W1 (HT.out.fr F1.out) bf lf (HU.out.fr F1.out) HUB.out (by rw [← HUL.out]; omega))
  rw [may] at MC
  go_wp2_with (go_at_call 52; refine MC.out.mono ?_; rintro e w2 ⟨rfl, h⟩; rw [h]; clear h)
  refine bodyPost_ret (results_tmp4 rfl _ _ _) rfl ?_
  exact ⟨rfl, F1.out⟩
set_option maxRecDepth 20000 in
set_option maxHeartbeats 3200000 in
theorem get_end (w : World) {p : Nat} {dat flt : List Nat} {ips : Ps} {da fa : Option Addr} {dc fc G : Nat} (T : Tab w p dat flt ips da dc fa fc G) {user : List Nat} {seq : Nat} (hq : seq ≤ 72057594037927935) (bf : By flt) (lf : flt.length ≤ 1000000000) (bu : By user) (lu : user.length ≤ 128) (may : mayF flt user = true) (ri : Rises ips) (bi : ByP ips) (li : ips.length ≤ 1000000000) (hI : ∀ k, k ≤ ips.length → (k < ips.length → (!decide (ordK (kA ips k) (keyL user seq 1) < 0)) = true) → (0 < k → (!decide (ordK (kA ips (k - 1)) (keyL user seq 1) < 0)) = false) → k = ips.length) {uv : Value} (ru : Rd w uv (bv user)) :
    Calls Tryz.prog 15 #[.pointer (some ⟨p, 0, none⟩), uv, .int .u64 (seq : Int)] w fun e w' => e = .returned (.tuple #[.slice none 0 0, .int .i64 0, .bool false, .int .i64 0]) ∧ Fr [] w w' := by
  have HT := hid T
  have HU := hid ru
  have hs' : (seq : Int) ≤ 72057594037927935 := by omega
  have KC := hid (key_ok w ru lu seq 1 (by omega) (by omega))
  have HIS := hid (keyL_is lu (show seq ≤ 72057594037927935 by omega) (show 1 ≤ 1 by omega))
  have HBK := hid (keyL_by bu seq 1)
  obtain ⟨ua, uc, hu⟩ := ru.form
  rw [bv_len] at hu
  subst hu
  have HUB := hid bu
  have HRI := hid ri
  have HBI := hid bi
  have HII := hid hI
  clear T ru ri bi hI
  obtain ⟨UL, hUL⟩ : ∃ UL, UL = user.length := ⟨_, rfl⟩
  have HUL := hid hUL
  rw [← hUL] at HU KC lu ⊢
  clear hUL
  obtain ⟨IL, hIL⟩ : ∃ IL, IL = ips.length := ⟨_, rfl⟩
  have HIL := hid hIL
  rw [← hIL] at HII
  clear hIL
  go_enter Tryz.func15, Tryz.ntmps15
  go_upto_region 2 with (go_at_call 13; refine KC.out.mono ?_; rintro e W1 ⟨kv, rfl, o1, f1⟩; obtain ⟨ka, kc, rfl, _⟩ := ownsRow_slice o1; have RK := hid (Rd.ownB o1); have F1 := hid f1; clear o1 f1)
  have MC := hid (tmay_c W1 (HT.out.fr F1.out) bf lf (HU.out.fr F1.out) HUB.out (by rw [← HUL.out]; omega))
  rw [may] at MC
  generalize (keyL user seq 1).length = KL at RK
  have c2 : W1.cell? ⟨p, 2, none⟩ = some (.slice (some ⟨G, 0, none⟩) IL IL) := by rw [HIL.out, blk_cell (HT.out.fr F1.out).at']; rfl
  go_upto_region 4 with (go_at_call 52; refine MC.out.mono ?_; rintro e w2 ⟨rfl, h⟩; rw [h]; clear h)
  have BC := hid (bfrom_c W1 (HT.out.fr F1.out) HRI.out HBI.out li RK.out HBK.out HIS.out IL (by rw [HIL.out] at HII ⊢; exact HII.out))
  clear MC
  go_wp2_with (go_at_call 53; refine BC.out.mono ?_; rintro e W2 ⟨rfl, f2⟩; have c2 := cell_fr f2 c2; have F2 := hid (F1.out.trans f2); clear f2)
  refine bodyPost_ret (results_tmp4 rfl _ _ _) rfl ?_
  exact ⟨rfl, F2.out⟩
set_option maxRecDepth 20000 in
set_option maxHeartbeats 3200000 in
theorem get_endG (w : World) {p : Nat} {dat flt : List Nat} {ips : Ps} {da fa : Option Addr} {dc fc G : Nat} (T : Tab w p dat flt ips da dc fa fc G) {user : List Nat} {sq : Nat} (hq : 72057594037927935 < sq) (bf : By flt) (lf : flt.length ≤ 1000000000) (bu : By user) (lu : user.length ≤ 128) (may : mayF flt user = true) (ri : Rises ips) (bi : ByP ips) (li : ips.length ≤ 1000000000) (hI : ∀ k, k ≤ ips.length → (k < ips.length → (!decide (ordK (kA ips k) (keyL user 72057594037927935 1) < 0)) = true) → (0 < k → (!decide (ordK (kA ips (k - 1)) (keyL user 72057594037927935 1) < 0)) = false) → k = ips.length) {uv : Value} (ru : Rd w uv (bv user)) :
    Calls Tryz.prog 15 #[.pointer (some ⟨p, 0, none⟩), uv, .int .u64 (sq : Int)] w fun e w' => e = .returned (.tuple #[.slice none 0 0, .int .i64 0, .bool false, .int .i64 0]) ∧ Fr [] w w' := by
  have HT := hid T
  have HU := hid ru
  have hs' : (72057594037927935 : Int) < (sq : Int) := by omega
  have KC := hid (key_ok w ru lu 72057594037927935 1 (by omega) (by omega))
  have HIS := hid (keyL_is lu (show 72057594037927935 ≤ 72057594037927935 by omega) (show 1 ≤ 1 by omega))
  have HBK := hid (keyL_by bu 72057594037927935 1)
  obtain ⟨ua, uc, hu⟩ := ru.form
  rw [bv_len] at hu
  subst hu
  have HUB := hid bu
  have HRI := hid ri
  have HBI := hid bi
  have HII := hid hI
  clear T ru ri bi hI
  obtain ⟨UL, hUL⟩ : ∃ UL, UL = user.length := ⟨_, rfl⟩
  have HUL := hid hUL
  rw [← hUL] at HU KC lu ⊢
  clear hUL
  obtain ⟨IL, hIL⟩ : ∃ IL, IL = ips.length := ⟨_, rfl⟩
  have HIL := hid hIL
  rw [← hIL] at HII
  clear hIL
  go_enter Tryz.func15, Tryz.ntmps15
  go_upto_region 2 with (go_at_call 13; refine KC.out.mono ?_; rintro e W1 ⟨kv, rfl, o1, f1⟩; obtain ⟨ka, kc, rfl, _⟩ := ownsRow_slice o1; have RK := hid (Rd.ownB o1); have F1 := hid f1; clear o1 f1)
  have MC := hid (tmay_c W1 (HT.out.fr F1.out) bf lf (HU.out.fr F1.out) HUB.out (by rw [← HUL.out]; omega))
  rw [may] at MC
  generalize (keyL user 72057594037927935 1).length = KL at RK
  have c2 : W1.cell? ⟨p, 2, none⟩ = some (.slice (some ⟨G, 0, none⟩) IL IL) := by rw [HIL.out, blk_cell (HT.out.fr F1.out).at']; rfl
  go_upto_region 4 with (go_at_call 52; refine MC.out.mono ?_; rintro e w2 ⟨rfl, h⟩; rw [h]; clear h)
  have BC := hid (bfrom_c W1 (HT.out.fr F1.out) HRI.out HBI.out li RK.out HBK.out HIS.out IL (by rw [HIL.out] at HII ⊢; exact HII.out))
  clear MC
  go_wp2_with (go_at_call 53; refine BC.out.mono ?_; rintro e W2 ⟨rfl, f2⟩; have c2 := cell_fr f2 c2; have F2 := hid (F1.out.trans f2); clear f2)
  refine bodyPost_ret (results_tmp4 rfl _ _ _) rfl ?_
  exact ⟨rfl, F2.out⟩
set_option maxRecDepth 20000 in
set_option maxHeartbeats 3200000 in
theorem get_long (w : World) {p : Nat} {user : List Nat} {seq : Nat} (lu : 128 < user.length) {uv : Value} (ru : Rd w uv (bv user)) :
    Calls Tryz.prog 15 #[.pointer (some ⟨p, 0, none⟩), uv, .int .u64 (seq : Int)] w fun e w' => e = .returned (.tuple #[.slice none 0 0, .int .i64 0, .bool false, .int .i64 0]) ∧ Fr [] w w' := by
  obtain ⟨ua, uc, hu⟩ := ru.form
  rw [bv_len] at hu
  subst hu
  have hv : ∀ s, vb user.length s 1 = false := fun s => by unfold vb; rw [decide_eq_false (by omega)]; simp
  by_cases hq : seq ≤ 72057594037927935
  · have hs' : (seq : Int) ≤ 72057594037927935 := by omega
    have KC := hid (key_bad w ru seq 1 (hv _))
    clear ru hv
    generalize user.length = UL at *
    go_enter Tryz.func15, Tryz.ntmps15
    go_wp2_with (go_at_call 13; refine KC.out.mono ?_; rintro e W1 ⟨rfl, f1⟩; have F1 := hid f1; clear f1)
    refine bodyPost_ret (results_tmp4 rfl _ _ _) rfl ?_
    exact ⟨rfl, F1.out⟩
  · have hs' : (72057594037927935 : Int) < (seq : Int) := by omega
    have KC := hid (key_bad w ru 72057594037927935 1 (hv _))
    clear ru hv
    generalize user.length = UL at *
    go_enter Tryz.func15, Tryz.ntmps15
    go_wp2_with (go_at_call 13; refine KC.out.mono ?_; rintro e W1 ⟨rfl, f1⟩; have F1 := hid f1; clear f1)
    refine bodyPost_ret (results_tmp4 rfl _ _ _) rfl ?_
    exact ⟨rfl, F1.out⟩
end Go.Proofs.YtnnookkcnmgbfaaGreat
