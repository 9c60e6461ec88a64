/-
  A data block looked at, whatever it is; the block of a user key; what lies behind a user key.
-/
import Derived.Test.YtobdegmlijnogaaJ31
import Derived.Test.YtobdegmlijnogaaXL2
import Derived.Test.YtobdegmlijnogaaRN
namespace Go.Proofs.Ytobdegmlijnogaa
open Go.ChangeShapes Go.WideShapes Go.ChangeAt Go.RowKit

theorem look_any (w : World) {p : Nat} {dat flt : List Nat} {ips : Ps} {da fa : Option Addr} {dc fc G : Nat} (T : Tab w p dat flt ips da dc fa fc G) (hb : By dat) (hl : dat.length ≤ 1000000000) (t n : Nat) (ht : t + n + 4 ≤ dat.length) {la ua : Option Addr} {ln lc un uc : Nat} {k : List Nat} (hk : Rd w (.slice la ln lc) (bv k)) (bk : By k) {x : Nat} {qs : Ps} (hL : LookR dat t n k x qs) :
    Calls Try.prog 33 #[.pointer (some ⟨p, 0, none⟩), .agg #[.int .i64 (t : Int), .int .i64 (n : Int), .slice la ln lc, .slice ua un uc]] w fun e w' => ∃ ev, e = .returned (.agg #[.int .i64 (t : Int), .int .i64 (n : Int), .slice la ln lc, .slice ua un uc, ev, .bool (decide (x = 81)), .bool (decide (x = 80))]) ∧ ColO w' w.heap.size ev qs ∧ Fr [] w w' := by
  rcases hL with ⟨rfl, hs, rfl⟩ | ⟨rfl, hs, hno, rfl⟩ | ⟨rfl, hs, ⟨r, hq⟩, hne, hla⟩
  · exact (look_sum w T hb hl t n ht hs).mono fun e w' ⟨e1, f⟩ => ⟨_, e1, ColO.nil _ _, f⟩
  · by_cases hex : ∃ ps r, Blk (wn dat t n) ps r
    · obtain ⟨ps, r, hq⟩ := hex
      by_cases h0 : ps = []
      · subst h0
        exact (look_empty w T hb hl t n ht hs hq).mono fun e w' ⟨e1, f⟩ => ⟨_, e1, ColO.nil _ _, f⟩
      · rcases hno ps r hq with h | h
        · exact absurd h h0
        · exact (look_last w T hb hl t n ht hs hk bk hq h0 h).mono fun e w' ⟨e1, f⟩ => ⟨_, e1, ColO.nil _ _, f⟩
    · exact (look_noblk w T hb hl t n ht hs (fun ps r h => hex ⟨ps, r, h⟩)).mono fun e w' ⟨e1, f⟩ => ⟨_, e1, ColO.nil _ _, f⟩
  · exact (look_own w T hb hl t n ht hs hk bk hq hne hla).mono fun e w' ⟨ev, e1, c, f⟩ => ⟨ev, e1, c, f⟩
set_option maxRecDepth 20000 in
theorem behind_c (w : World) {v1 v2 : Value} {u most : List Nat} (h1 : Rd w v1 (bv u)) (hu : By u) (h2 : Rd w v2 (bv most)) (hm : By most) :
    Calls Try.prog 43 #[v1, v2] w fun e w' => e = .returned (.bool (beh u most)) ∧ w' = w := by
  have BC := hid (bcmp_c h1 h2 hu hm)
  obtain ⟨a1, c1, rfl⟩ := h1.form
  obtain ⟨a2, c2, rfl⟩ := h2.form
  rw [bv_len, bv_len] at *
  unfold beh
  clear h1 h2
  generalize cmpN u most = o at *
  generalize most.length = L at *
  by_cases hl : 0 < L
  · rw [decide_eq_true hl, Bool.true_and]
    go_enter Try.func43, Try.ntmps43
    go_wp2_with (go_at_call 72; refine BC.out.mono ?_; rintro e w1 ⟨rfl, h⟩; rw [h]; clear h)
    go_ret
    exact ⟨rfl, rfl⟩
  · rw [decide_eq_false hl, Bool.false_and]
    have h0 : L = 0 := by omega
    subst h0
    go_enter Try.func43, Try.ntmps43
    go_wp2
    go_ret
    exact ⟨rfl, rfl⟩
set_option maxRecDepth 20000 in
set_option maxHeartbeats 3200000 in
theorem search_o (w : World) (n : Nat) (hn : n ≤ 1000000000) (x1 x2 : Value) (P : Nat → Bool)
    (hF : ∀ h W, h < n → Fr [] w W → Calls Try.prog 71 #[.int .i64 (h : Int), x1, x2] W fun e w' => e = .returned (.bool (P h)) ∧ Fr [] W w') :
    Calls Try.prog 63 #[.int .i64 (n : Int), .func (.func 71) #[] #[x1, x2]] w fun e w' => ∃ k : Nat, e = .returned (.int .i64 (k : Int)) ∧ k ≤ n ∧ (k < n → P k = true) ∧ (0 < k → P (k - 1) = false) ∧ Fr [] w w' := by
  have HF := hid hF
  clear hF
  go_enter Try.func63, Try.ntmps63
  go_wp2_with fail
  go_loopw [5, 6] (fun v5 v6 wr => ∃ i j : Nat, v5 = .int .i64 (i : Int) ∧ v6 = .int .i64 (j : Int) ∧ i ≤ j ∧ j ≤ n ∧ (j < n → P j = true) ∧ (0 < i → P (i - 1) = false) ∧ Fr [] w wr) (fun v5 v6 _ => (intOf v6).toNat - (intOf v5).toNat)
  case atStart => exact ⟨0, n, rfl, rfl, Nat.zero_le _, Nat.le_refl _, fun h => by omega, fun h => by omega, Fr.refl _ _⟩
  case round =>
    obtain ⟨i, j, rfl, rfl, hij, hjn, h1, h2, hf⟩ := hrel
    have H := hid (And.intro h1 (And.intro h2 hf))
    clear h1 h2 hf
    by_cases hlt : i < j
    · obtain ⟨h, hh⟩ : ∃ h, h = (i + j) / 2 := ⟨_, rfl⟩
      have hdv : ((i : Int) + (j : Int)) / 2 = (h : Int) := by omega
      have hh1 : i ≤ h := by omega
      have hh2 : h < j := by omega
      have HC := hid (HF.out h wr (by omega) H.out.2.2)
      clear hh
      go_wp2_with fail
      refine HC.out.mono ?_
      rintro e w1 ⟨rfl, f1⟩
      have F1 := hid (H.out.2.2.trans f1)
      clear f1 HC
      rcases hp : P h with _ | _
      · have HP := hid hp
        clear hp
        go_wp2
        go_roundw
        case rel => exact ⟨h + 1, j, by go_num, rfl, by omega, hjn, H.out.1, fun _ => by rw [Nat.add_sub_cancel]; exact HP.out, F1.out⟩
        case measure => simp [intOf]; omega
      · have HP := hid hp
        clear hp
        go_wp2
        go_roundw
        case rel => exact ⟨i, h, rfl, rfl, by omega, by omega, fun _ => HP.out, H.out.2.1, F1.out⟩
        case measure => simp [intOf]; omega
    · have hij' : i = j := by omega
      subst hij'
      go_wp2
      go_ret
      exact ⟨i, rfl, hjn, H.out.1, H.out.2.1, H.out.2.2⟩
set_option maxRecDepth 20000 in
set_option maxHeartbeats 3200000 in
theorem bof1_c (w : World) {p C K : Nat} {dat flt : List Nat} {ips : Ps} {da fa : Option Addr} {dc fc G : Nat} (T : Tab w p dat flt ips da dc fa fc G) (hby : ByP ips) {key : List Nat} {qa : Option Addr} {qc : Nat} (rk : Rd w (.slice qa key.length qc) (bv key)) (bk : By key) (cC : w.cell? ⟨C, 0, none⟩ = some (.pointer (some ⟨p, 0, none⟩))) (cK : w.cell? ⟨K, 0, none⟩ = some (.slice qa key.length qc)) (i : Nat) (hi : i < ips.length) :
    Calls Try.prog 71 #[.int .i64 (i : Int), .pointer (some ⟨C, 0, none⟩), .pointer (some ⟨K, 0, none⟩)] w fun e w' => e = .returned (.bool (decide (0 ≤ cmpN (userL (kA ips i)) key))) ∧ Fr [] w w' := by
  obtain ⟨xa, xc, la, lc, s⟩ := T.rs i hi
  have AC := hid (bcmp_c (w := w.drew) (s.ru.fr (Fr.refl _ _).drew) (rk.fr (Fr.refl _ _).drew) ((kA_by hby i).1.take _) bk)
  have z1 : w.cell? ⟨p, 2, none⟩ = some (.slice (some ⟨G, 0, none⟩) ips.length ips.length) := by rw [blk_cell T.at']; rfl
  have z2 := s.c3
  clear T s rk bk hby
  generalize cmpN (userL (kA ips i)) key = y at *
  generalize (userL (kA ips i)).length = kl at *
  generalize key.length = kl2 at *
  generalize ips.length = n at *
  have SK : Hid (∀ w', Fr [] w w' → (fun w' => w'.cell? ⟨C, 0, none⟩ = some (.pointer (some ⟨p, 0, none⟩)) ∧ w'.cell? ⟨K, 0, none⟩ = some (.slice qa kl2 qc) ∧ w'.cell? ⟨p, 2, none⟩ = some (.slice (some ⟨G, 0, none⟩) n n) ∧ w'.cell? ⟨G, i * 4 + 3, none⟩ = some (.slice la kl lc)) w') := hid fun w' f => ⟨cell_fr f cC, cell_fr f cK, cell_fr f z1, cell_fr f z2⟩
  have hiI : (i : Int) < (n : Int) := by omega
  clear cC cK z1 z2
  go_enter Try.func71, Try.ntmps71
  go_upto_region 1 with fail
  refine wp_region_held_drew (S := fun w' => w'.cell? ⟨C, 0, none⟩ = some (.pointer (some ⟨p, 0, none⟩)) ∧ w'.cell? ⟨K, 0, none⟩ = some (.slice qa kl2 qc) ∧ w'.cell? ⟨p, 2, none⟩ = some (.slice (some ⟨G, 0, none⟩) n n) ∧ w'.cell? ⟨G, i * 4 + 3, none⟩ = some (.slice la kl lc)) (by kernel_rfl) (SK.out _ ((Fr.refl _ _).drew)) (fun hS => ?_)
  refine wpAnyH_take (i := 0) (v := .pointer (some ⟨p, 0, none⟩)) rfl (by kernel_rfl) (by kernel_rfl) (by kernel_rfl) (fun _ _ _ h => h) (.inl ⟨by rfl, fun wx hX => by obtain ⟨x0, x1, x2, x3⟩ := hX; go_simp⟩) hS ?_
  simp only [Act.put]
  refine wpAnyH_take (i := 1) (v := .pointer (some ⟨p, 0, none⟩)) rfl (by kernel_rfl) (by kernel_rfl) (by kernel_rfl) (fun _ _ _ h => h) (.inl ⟨by rfl, fun wx _ => by go_simp⟩) hS ?_
  simp only [Act.put]
  refine wpAnyH_take (i := 2) (v := .pointer (some ⟨p, 2, none⟩)) rfl (by kernel_rfl) (by kernel_rfl) (by kernel_rfl) (fun _ _ _ h => h) (.inl ⟨by rfl, fun wx _ => by go_simp⟩) hS ?_
  simp only [Act.put]
  refine wpAnyH_take (i := 3) (v := .slice (some ⟨G, 0, none⟩) n n) rfl (by kernel_rfl) (by kernel_rfl) (by kernel_rfl) (fun _ _ _ h => h) (.inl ⟨by rfl, fun wx hX => by obtain ⟨x0, x1, x2, x3⟩ := hX; go_simp⟩) hS ?_
  simp only [Act.put]
  refine wpAnyH_take (i := 4) (v := .int .i64 (i : Int)) rfl (by kernel_rfl) (by kernel_rfl) (by kernel_rfl) (fun _ _ _ h => h) (.inl ⟨by rfl, fun wx _ => by go_simp⟩) hS ?_
  simp only [Act.put]
  refine wpAnyH_take (i := 5) (v := .pointer (some ⟨G, i * 4, none⟩)) rfl (by kernel_rfl) (by kernel_rfl) (by kernel_rfl) (fun _ _ _ h => h) (.inl ⟨by rfl, fun wx _ => by go_simp⟩) hS ?_
  simp only [Act.put]
  refine wpAnyH_take (i := 6) (v := .pointer (some ⟨G, i * 4 + 3, none⟩)) rfl (by kernel_rfl) (by kernel_rfl) (by kernel_rfl) (fun _ _ _ h => h) (.inl ⟨by rfl, fun wx _ => by go_simp⟩) hS ?_
  simp only [Act.put]
  refine wpAnyH_take (i := 7) (v := .slice la kl lc) rfl (by kernel_rfl) (by kernel_rfl) (by kernel_rfl) (fun _ _ _ h => h) (.inl ⟨by rfl, fun wx hX => by obtain ⟨x0, x1, x2, x3⟩ := hX; go_simp⟩) hS ?_
  simp only [Act.put]
  refine wpAnyH_take (i := 8) (v := .slice qa kl2 qc) rfl (by kernel_rfl) (by kernel_rfl) (by kernel_rfl) (fun _ _ _ h => h) (.inl ⟨by rfl, fun wx hX => by obtain ⟨x0, x1, x2, x3⟩ := hX; go_simp⟩) hS ?_
  simp only [Act.put]
  refine wpAnyH_ready (rs := [9]) (by kernel_rfl) (by simp) ?_
  refine AllReadyH.cons rfl (fun K' hK => ?_) AllReadyH.nil
  go_simp
  refine AC.out.mono ?_
  rintro e w1 ⟨rfl, h1⟩
  rw [h1]
  clear h1
  refine hK.out _ _ hS (fun _ => ?_)
  clear hK K'
  refine wpAnyH_take (i := 10) (v := .bool (decide (0 ≤ y))) rfl (by kernel_rfl) (by kernel_rfl) (by kernel_rfl) (fun _ _ _ h => h) (.inl ⟨by rfl, fun wx _ => by go_simp⟩) hS ?_
  simp only [Act.put]
  refine wpAnyH_ready (rs := [11]) (by kernel_rfl) (by simp) ?_
  refine AllReadyH.cons rfl (fun K hK => ?_) AllReadyH.nil
  go_simp
  refine hK.out _ _ hS (fun _ => ?_)
  clear hK K
  clear hS
  refine wpAnyH_done (by kernel_rfl) ?_ _
  go_wp2
  go_ret
  exact ⟨rfl, (Fr.refl _ _).drew⟩
/-- Isn't a block's last user key ahead of a key? -/
def atU (ips : Ps) (key : List Nat) (k : Nat) : Bool := decide (0 ≤ cmpN (userL (kA ips k)) key)
set_option maxRecDepth 20000 in
set_option maxHeartbeats 1600000 in
theorem bof_c (w : World) {p : Nat} {dat flt : List Nat} {ips : Ps} {da fa : Option Addr} {dc fc G : Nat} (T : Tab w p dat flt ips da dc fa fc G) (hby : ByP ips) (hn : ips.length ≤ 1000000000) {key : List Nat} {kv : Value} (rk : Rd w kv (bv key)) (bk : By key) :
    Calls Try.prog 41 #[.pointer (some ⟨p, 0, none⟩), kv] w fun e w' => ∃ k : Nat, e = .returned (.int .i64 (k : Int)) ∧ (k ≤ ips.length ∧ (k < ips.length → atU ips key k = true) ∧ (0 < k → atU ips key (k - 1) = false)) ∧ Fr [] w w' := by
  obtain ⟨qa, qc, hv⟩ := rk.form
  rw [bv_len] at hv
  subst hv
  obtain ⟨W, hW⟩ : ∃ W, W = (w.alloc (.cells #[.pointer (some ⟨p, 0, none⟩)] 31)).alloc (.cells #[.slice qa key.length qc] 27) := ⟨_, rfl⟩
  have F0 : Hid (Fr [] w W) := hid (by rw [hW]; exact ((Fr.refl _ _).alloc _).alloc _)
  have n0 : W.heap[w.heap.size]? = some (.cells #[.pointer (some ⟨p, 0, none⟩)] 31 (0, 0)) := by rw [hW, blk_old _ _ (by simp)]; exact blk_new _ _
  have n1 : W.heap[w.heap.size + 1]? = some (.cells #[.slice qa key.length qc] 27 (0, 0)) := by rw [hW]; exact new_at _ _ (by simp)
  have T0 := T.fr F0.out
  have SE := hid (search_o W ips.length hn (.pointer (some ⟨w.heap.size, 0, none⟩)) (.pointer (some ⟨w.heap.size + 1, 0, none⟩)) (atU ips key) (fun h W' hh f => bof1_c W' (T0.fr f) hby ((rk.fr F0.out).fr f) bk (cell_fr f (by rw [blk_cell n0]; rfl)) (cell_fr f (by rw [blk_cell n1]; rfl)) h hh))
  have c0 : W.cell? ⟨w.heap.size, 0, none⟩ = some (.pointer (some ⟨p, 0, none⟩)) := by rw [blk_cell n0]; rfl
  have c2 : W.cell? ⟨p, 2, none⟩ = some (.slice (some ⟨G, 0, none⟩) ips.length ips.length) := by rw [blk_cell T0.at']; rfl
  clear T T0 rk n0 n1 hby bk
  generalize atU ips key = PP at *
  generalize key.length = kl at *
  generalize ips.length = n at *
  go_enter Try.func41, Try.ntmps41
  go_upto_region 1 with fail
  rw [← hW]
  clear hW
  go_wp2_with (go_at_call 63; refine SE.out.mono ?_; rintro e w1 ⟨k, rfl, k1, k2, k3, f1⟩; have EK := hid (And.intro k1 (And.intro k2 k3)); have F1 := hid (F0.out.trans f1); clear f1 k1 k2 k3)
  go_ret
  exact ⟨_, rfl, EK.out, F1.out⟩
end Go.Proofs.Ytobdegmlijnogaa
