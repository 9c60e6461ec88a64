/-
  The data blocks of an index.
-/
import Derived.Test.YtnnookkcnmgbfaaGreatJ14
import Derived.Test.YtnnookkcnmgbfaaGreatJ15
import Derived.Test.YtnnookkcnmgbfaaGreatJ06
import Derived.Test.YtnnookkcnmgbfaaGreatJ16
namespace Go.Proofs.YtnnookkcnmgbfaaGreat
open Go.ChangeShapes Go.WideShapes Go.ChangeAt Go.RowKit

set_option maxRecDepth 20000 in
set_option maxHeartbeats 1600000 in
theorem placeOf_g (w : World) {vv : Value} {v : List Nat} (hr : Rd w vv (bv v)) (hb : By v) (hl : v.length ≤ 1000000000) :
    Calls Tryz.prog 65 #[vv] w fun e w' => ((∃ a n : Nat, e = .returned (.tuple #[.agg #[.int .u64 (a : Int), .int .u64 (n : Int)], .bool true]) ∧ placeL v = some (a, n)) ∨ (e = .returned (.tuple #[.agg #[.int .u64 0, .int .u64 0], .bool false]) ∧ placeL v = none)) ∧ Fr [] w w' := by
  rcases hr.split with ⟨rfl, a, c, rfl⟩ | ⟨q, o, c, rfl, _⟩
  · obtain ⟨W0, hW0⟩ : ∃ W0, W0 = w.alloc (.cells #[.int .u64 0, .int .u64 0] 52) := ⟨_, rfl⟩
    have F0 : Hid (Fr [] w W0) := hid (by rw [hW0]; exact (Fr.refl _ _).alloc _)
    have N0 : Hid (W0.heap[w.heap.size]? = some (.cells #[.int .u64 0, .int .u64 0] 52 (0, 0))) := hid (by rw [hW0]; exact blk_new _ _)
    have T1 := hid (take_c (hr.fr F0.out) hb (by simp))
    have e0 : takeL [] = (0, 0, 20) := rfl
    rw [e0] at T1
    unfold tkv at T1
    have hpl : Hid (placeL [] = none) := hid rfl
    clear hr hb e0
    go_enter Tryz.func65, Tryz.ntmps65
    go_wp2_with (go_at_call 101; rw [← hW0]; clear hW0; have Z1 := N0.out; have z0 := (show W0.cell? ⟨w.heap.size, 0, none⟩ = some (.int .u64 0) from (by rw [blk_cell Z1]; rfl)); have z1 := (show W0.cell? ⟨w.heap.size, 1, none⟩ = some (.int .u64 0) from (by rw [blk_cell Z1]; rfl)); have zf := blk_frozen Z1; refine T1.out.mono ?_; rintro e w1 ⟨rfl, h⟩; rw [h]; clear h)
    refine bodyPost_ret (ret_ct rfl (g := w.heap.size) (by simp) (load_pc2 (a := .int .u64 0) (b := .int .u64 0) (by rw [blk_set (blk_set N0.out 0 _) 1 _]; rfl))) rfl ?_
    exact ⟨.inr ⟨rfl, hpl.out⟩, (F0.out.set _ _ (.inr (Nat.le_refl _))).set _ _ (.inr (Nat.le_refl _))⟩
  · exact placeOf_c w hr hb hl
theorem blk_count {b : List Nat} {ps : Ps} {r : Nat} (h : Blk b ps r) : ps.length ≤ b.length := by
  have h1 : ∀ i, i ≤ (bod r ps i).length := by
    intro i
    induction i with
    | zero => simp
    | succ i ih =>
      have := (ent_len (shd r ps i) (kA ps i) (vA ps i)).1
      rw [bod, List.length_append]; omega
  have := h1 ps.length
  rw [← h.eq]; unfold blk; rw [List.length_append]; omega
theorem blk_val {b : List Nat} {ps : Ps} {r : Nat} (h : Blk b ps r) {i : Nat} (hi : i < ps.length) : (vA ps i).length ≤ b.length := by
  have h1 := (ent_len (shd r ps i) (kA ps i) (vA ps i)).2
  have h2 := bod_le r ps (i := i + 1) (j := ps.length) (by omega)
  rw [bod, List.length_append] at h2
  rw [← h.eq]; unfold blk; rw [List.length_append]; omega
theorem infoS : (Tryz.prog.info? 108).map (fun i => (i.zero, i.size, i.bytes)) = some (some (.agg #[.int .i64 0, .int .i64 0, .slice none 0 0, .slice none 0 0]), 4, 64) := by kernel_rfl
theorem makeS_run (w : World) {n : Nat} (hc : n ≤ 1000000000) : (Instr.makeSlice 57 (.int .i64 (n : Int)) (.int .i64 (n : Int))).run Tryz.prog w = .ok (.slice (some ⟨w.heap.size, 0, none⟩) n n) (w.alloc (.cells (madeCells #[.int .i64 0, .int .i64 0, .slice none 0 0, .slice none 0 0] (n * 4)) 108)) := by
  obtain ⟨i0, hi, hz0, hz1, hz2⟩ := info_parts infoS
  have h := run_make (P := Tryz.prog) w 57 108 i0 (.agg #[.int .i64 0, .int .i64 0, .slice none 0 0, .slice none 0 0]) Tryz.underlying57 hi hz0 .i64 .i64 (n : Int) (n : Int) (by omega) (by omega) (by rw [hz2]; omega) (by omega)
  simpa [hz1, Value.cells] using h
/-- A data block as the index has it, in memory. -/
structure SAt (w : World) (g o : Nat) (ips : Ps) (j : Nat) (la : Option Addr) (lc : Nat) (ua : Option Addr) (uc : Nat) : Prop where
  c0 : w.cell? ⟨g, o, none⟩ = some (.int .i64 (nxN ips j : Int))
  c1 : w.cell? ⟨g, o + 1, none⟩ = some (.int .i64 (szA ips j : Int))
  c2 : w.cell? ⟨g, o + 2, none⟩ = some (.slice la (kA ips j).length lc)
  c3 : w.cell? ⟨g, o + 3, none⟩ = some (.slice ua (userL (kA ips j)).length uc)
  rl : Rd w (.slice la (kA ips j).length lc) (bv (kA ips j))
  ru : Rd w (.slice ua (userL (kA ips j)).length uc) (bv (userL (kA ips j)))
def RdS (w : World) (g : Nat) (ips : Ps) : Prop := ∀ j, j < ips.length → ∃ la lc ua uc, SAt w g (j * 4) ips j la lc ua uc
theorem RdS.fr {w w' : World} {g : Nat} {ips : Ps} (h : RdS w g ips) (f : Fr [] w w') : RdS w' g ips := fun j hj => by
  obtain ⟨la, lc, ua, uc, s⟩ := h j hj
  exact ⟨la, lc, ua, uc, cell_fr f s.c0, cell_fr f s.c1, cell_fr f s.c2, cell_fr f s.c3, s.rl.fr f, s.ru.fr f⟩
structure SI (W2 wr : World) (ips : Ps) (fin G : Nat) (cur : Array Value) (i : Nat) : Prop where
  hg : wr.heap[G]? = some (.cells cur 108 (0, 0))
  sz : cur.size = ips.length * 4
  nu : ∀ c ∈ cur.toList, ∀ n, c ≠ Value.int .u8 n
  dn : ∀ j, j < i → ∃ la lc ua uc, cur[j * 4]? = some (.int .i64 (nxN ips j : Int)) ∧ cur[j * 4 + 1]? = some (.int .i64 (szA ips j : Int)) ∧ cur[j * 4 + 2]? = some (.slice la (kA ips j).length lc) ∧ cur[j * 4 + 3]? = some (.slice ua (userL (kA ips j)).length uc) ∧ Rd wr (.slice la (kA ips j).length lc) (bv (kA ips j)) ∧ Rd wr (.slice ua (userL (kA ips j)).length uc) (bv (userL (kA ips j)))
  ok : ∀ j, j < i → OkSp fin ips j
  nx : nxN ips i ≤ i * (fin + 4)
  f2 : Fr [] W2 wr
theorem SI.no {W2 wr : World} {ips : Ps} {fin G : Nat} {cur : Array Value} {i : Nat} (h : SI W2 wr ips fin G cur i) : ¬ U8 wr G :=
  noU8 (cs := cur.toList) (T := 108) (by rw [Array.toArray_toList]; exact h.hg) h.nu
theorem SI.quiet {W2 wr w' : World} {ips : Ps} {fin G : Nat} {cur : Array Value} {i : Nat} (h : SI W2 wr ips fin G cur i) (f : Fr [] wr w') : SI W2 w' ips fin G cur i :=
  ⟨f.at h.hg (by simp), h.sz, h.nu, fun j hj => by
    obtain ⟨la, lc, ua, uc, c0, c1, c2, c3, r0, r1⟩ := h.dn j hj
    exact ⟨la, lc, ua, uc, c0, c1, c2, c3, r0.fr f, r1.fr f⟩, h.ok, h.nx, h.f2.trans f⟩
theorem SI.put {W2 wr : World} {ips : Ps} {fin G : Nat} {cur : Array Value} {i : Nat} (h : SI W2 wr ips fin G cur i) (hi : i < ips.length) (hG : W2.heap.size ≤ G) (hk : OkSp fin ips i) {la ua : Option Addr} {lc uc : Nat} (r0 : Rd wr (.slice la (kA ips i).length lc) (bv (kA ips i))) (r1 : Rd wr (.slice ua (userL (kA ips i)).length uc) (bv (userL (kA ips i)))) :
    ∃ cur', SI W2 ((((wr.setCell ⟨G, i * 4, none⟩ (.int .i64 (nxN ips i : Int))).setCell ⟨G, i * 4 + 1, none⟩ (.int .i64 (szA ips i : Int))).setCell ⟨G, i * 4 + 2, none⟩ (.slice la (kA ips i).length lc)).setCell ⟨G, i * 4 + 3, none⟩ (.slice ua (userL (kA ips i)).length uc)) ips fin G cur' (i + 1) := by
  obtain ⟨W, hW⟩ : ∃ W, W = (((wr.setCell ⟨G, i * 4, none⟩ (.int .i64 (nxN ips i : Int))).setCell ⟨G, i * 4 + 1, none⟩ (.int .i64 (szA ips i : Int))).setCell ⟨G, i * 4 + 2, none⟩ (.slice la (kA ips i).length lc)).setCell ⟨G, i * 4 + 3, none⟩ (.slice ua (userL (kA ips i)).length uc) := ⟨_, rfl⟩
  rw [← hW]
  have hu : ∀ k, U8 wr k → W.heap[k]? = wr.heap[k]? := fun k hk => by
    have : k ≠ G := fun e => by subst e; exact h.no hk
    rw [hW, blk_setne _ _ _ this, blk_setne _ _ _ this, blk_setne _ _ _ this, blk_setne _ _ _ this]
  have hsz := h.sz
  have hnx := h.nx
  refine ⟨(((cur.setIfInBounds (i * 4) (.int .i64 (nxN ips i : Int))).setIfInBounds (i * 4 + 1) (.int .i64 (szA ips i : Int))).setIfInBounds (i * 4 + 2) (.slice la (kA ips i).length lc)).setIfInBounds (i * 4 + 3) (.slice ua (userL (kA ips i)).length uc), by rw [hW, blk_set (blk_set (blk_set (blk_set h.hg _ _) _ _) _ _)], by simp [hsz], ?_, ?_, ?_, ?_, ?_⟩
  · intro c hc n
    simp only [Array.toList_setIfInBounds] at hc
    rcases List.mem_or_eq_of_mem_set hc with hc | hc
    · rcases List.mem_or_eq_of_mem_set hc with hc | hc
      · rcases List.mem_or_eq_of_mem_set hc with hc | hc
        · rcases List.mem_or_eq_of_mem_set hc with hc | hc
          · exact h.nu c hc n
          · rw [hc]; simp
        · rw [hc]; simp
      · rw [hc]; simp
    · rw [hc]; simp
  · intro j hj
    by_cases hji : j = i
    · subst hji
      refine ⟨la, lc, ua, uc, ?_, ?_, ?_, ?_, r0.keep hu, r1.keep hu⟩
      · rw [Array.getElem?_setIfInBounds_ne (by omega), Array.getElem?_setIfInBounds_ne (by omega), Array.getElem?_setIfInBounds_ne (by omega), Array.getElem?_setIfInBounds_self_of_lt (by omega)]
      · rw [Array.getElem?_setIfInBounds_ne (by omega), Array.getElem?_setIfInBounds_ne (by omega), Array.getElem?_setIfInBounds_self_of_lt (by simp; omega)]
      · rw [Array.getElem?_setIfInBounds_ne (by omega), Array.getElem?_setIfInBounds_self_of_lt (by simp; omega)]
      · rw [Array.getElem?_setIfInBounds_self_of_lt (by simp; omega)]
    · obtain ⟨la', lc', ua', uc', c0, c1, c2, c3, s0, s1⟩ := h.dn j (by omega)
      refine ⟨la', lc', ua', uc', ?_, ?_, ?_, ?_, s0.keep hu, s1.keep hu⟩
      · rw [Array.getElem?_setIfInBounds_ne (by omega), Array.getElem?_setIfInBounds_ne (by omega), Array.getElem?_setIfInBounds_ne (by omega), Array.getElem?_setIfInBounds_ne (by omega)]; exact c0
      · rw [Array.getElem?_setIfInBounds_ne (by omega), Array.getElem?_setIfInBounds_ne (by omega), Array.getElem?_setIfInBounds_ne (by omega), Array.getElem?_setIfInBounds_ne (by omega)]; exact c1
      · rw [Array.getElem?_setIfInBounds_ne (by omega), Array.getElem?_setIfInBounds_ne (by omega), Array.getElem?_setIfInBounds_ne (by omega), Array.getElem?_setIfInBounds_ne (by omega)]; exact c2
      · rw [Array.getElem?_setIfInBounds_ne (by omega), Array.getElem?_setIfInBounds_ne (by omega), Array.getElem?_setIfInBounds_ne (by omega), Array.getElem?_setIfInBounds_ne (by omega)]; exact c3
  · intro j hj
    by_cases hji : j = i
    · subst hji; exact hk
    · exact h.ok j (by omega)
  · have := hk.le
    rw [nxN, Nat.add_mul]; omega
  · rw [hW]; exact (((h.f2.set _ _ (.inr hG)).set _ _ (.inr hG)).set _ _ (.inr hG)).set _ _ (.inr hG)
/-- What spansOf tells. -/
def SpO (w : World) (ix : List Nat) (fin : Nat) (e : Ending) (w' : World) : Prop :=
  (∃ (ips : Ps) (r G : Nat), e = .returned (.tuple #[.slice (some ⟨G, 0, none⟩) ips.length ips.length, .bool true]) ∧ Blk ix ips r ∧ Spans fin ips ∧ RdS w' G ips ∧ Fr [] w w') ∨
  (∃ v', e = .returned (.tuple #[v', .bool false]) ∧ (∀ ips r, Blk ix ips r → ¬ Spans fin ips) ∧ Fr [] w w')
set_option maxRecDepth 20000 in
set_option maxHeartbeats 6400000 in
theorem spansOf_c (w : World) {v : Value} {ix : List Nat} (hr : Rd w v (bv ix)) (hb : By ix) (hl : ix.length ≤ 1000000000) (fin : Nat) (hfin : fin ≤ 1000000000) :
    Calls Tryz.prog 19 #[v, .int .u64 (fin : Int)] w fun e w' => SpO w ix fin e w' := by
  obtain ⟨a, c, hv⟩ := hr.form
  rw [bv_len] at hv
  by_cases hex : ∃ ips r, Blk ix ips r
  case neg =>
    have PN := hid (parse_no w hr hb hl (fun ps r h => hex ⟨ps, r, h⟩))
    have HX := hid hex
    subst hv
    clear hr hb hex
    go_enter Tryz.func19, Tryz.ntmps19
    go_wp2_with (go_at_call 64; refine PN.out.mono ?_; rintro e w1 ⟨rfl, f1⟩; have F1 := hid f1; clear f1)
    go_ret2
    exact .inr ⟨_, rfl, fun ips r h => absurd ⟨ips, r, h⟩ HX.out, F1.out⟩
  obtain ⟨ips, r, hbk⟩ := hex
  have PY := hid (parse_ok w hr hb hl hbk)
  have HBK := hid hbk
  have ONE : Hid (∀ ips' r', Blk ix ips' r' → ips' = ips) := hid (fun ips' r' h => blk_one h hbk (by omega))
  have hcn := blk_count hbk
  subst hv
  clear hr hb hbk
  go_enter Tryz.func19, Tryz.ntmps19
  go_upto_region 2 with (go_at_call 64; refine PY.out.mono ?_; rintro e W2 ⟨lv, rfl, ck, f1⟩; have F1 := hid f1; have CK := hid ck; clear f1 ck)
  obtain ⟨la, lc, hlv, hlc, k1⟩ := CK.out.rd
  subst hlv
  have K1 := hid k1
  have RI := hid HBK.out.rises
  have LENS := hid CK.out.rd.lens
  clear k1 PY
  obtain ⟨n, hn⟩ : ∃ n, n = ips.length := ⟨_, rfl⟩
  have HN := hid hn
  rw [← hn] at hlc hcn ⊢
  clear hn
  by_cases h0 : n = 0
  · have NO : Hid (∀ ips' r', Blk ix ips' r' → ¬ Spans fin ips') := hid (fun ips' r' h hs => hs.ne (by rw [ONE.out _ _ h]; exact List.eq_nil_of_length_eq_zero (by rw [← HN.out]; exact h0)))
    subst h0
    go_wp2
    go_ret2
    exact .inr ⟨_, rfl, NO.out, F1.out⟩
  have hn1 : n ≤ 1000000000 := by omega
  have h0' : ((n : Int) == 0) = false := by rw [beq_eq_false_iff_ne]; omega
  have hmk := makeS_run W2 hn1
  obtain ⟨W3, hW3⟩ : ∃ W3, W3 = W2.alloc (.cells (madeCells #[.int .i64 0, .int .i64 0, .slice none 0 0, .slice none 0 0] (n * 4)) 108) := ⟨_, rfl⟩
  have S3 : Hid (SI W2 W3 ips fin W2.heap.size (madeCells #[.int .i64 0, .int .i64 0, .slice none 0 0, .slice none 0 0] (n * 4)) 0) := by
    refine hid ⟨by rw [hW3]; exact blk_new _ _, by rw [size_madeCells, HN.out], ?_, fun j hj => by omega, fun j hj => by omega, by simp [nxN], by rw [hW3]; exact (Fr.refl _ _).alloc _⟩
    intro c hc m
    simp only [madeCells, Array.toList_map, List.mem_map] at hc
    obtain ⟨k, _, rfl⟩ := hc
    have hk4 : k % 4 = 0 ∨ k % 4 = 1 ∨ k % 4 = 2 ∨ k % 4 = 3 := by omega
    simp only [List.size_toArray, List.length_cons, List.length_nil]
    rcases hk4 with e | e | e | e <;> (rw [show (0 + 1 + 1 + 1 + 1 : Nat) = 4 from rfl, e]; simp)
  rw [← hW3] at hmk
  clear hW3
  obtain ⟨b, off, hab, m1⟩ := K1.out (by rw [← HN.out]; omega)
  subst hab
  have M1 := hid m1
  clear m1 K1
  go_wp2_with fail
  clear hmk
  go_loopw [9, 35] (fun v9 v35 wr => ∃ (i : Nat) (cur : Array Value), i ≤ n ∧ v35 = .int .i64 (i : Int) ∧ v9 = .int .u64 (nxN ips i : Int) ∧ SI W2 wr ips fin W2.heap.size cur i) (fun _ v35 _ => n - (intOf v35).toNat)
  case atStart => exact ⟨0, _, Nat.zero_le _, rfl, rfl, S3.out⟩
  case round =>
    obtain ⟨i, cur, hi, rfl, rfl, hsi⟩ := hrel
    have HS := hid hsi
    have hnx : nxN ips i ≤ 1000000000 * 1000000004 := Nat.le_trans hsi.nx (Nat.mul_le_mul (by omega) (by omega))
    clear hsi S3
    by_cases hlt : i < n
    · have hil : i < ips.length := by rw [← HN.out]; exact hlt
      obtain ⟨ka, kc, va, vc, P⟩ := M1.out i _ (ps_at hil)
      have z1 := cell_fr HS.out.f2 P.ck
      have z2 := cell_fr HS.out.f2 P.cv
      have RK := hid (P.rk.fr HS.out.f2)
      have RV := hid (P.rv.fr HS.out.f2)
      have BK := hid P.bk
      have BV := hid P.bv'
      dsimp only at z1 z2 RK RV BK BV
      have hlv2 : (vA ips i).length ≤ 1000000000 := Nat.le_trans (blk_val HBK.out hil) hl
      have HK := hid (rises_isK RI.out hil)
      have hkl := isK_len HK.out
      clear P
      obtain ⟨W4, hW4⟩ : ∃ W4, W4 = wr.alloc (.cells #[.slice ka (kA ips i).length kc, .slice va (vA ips i).length vc] 47) := ⟨_, rfl⟩
      have F4 : Hid (Fr [] wr W4) := hid (by rw [hW4]; exact (Fr.refl _ _).alloc _)
      have B4 : Hid (W4.heap[wr.heap.size]? = some (.cells #[.slice ka (kA ips i).length kc, .slice va (vA ips i).length vc] 47 (0, 0))) := hid (by rw [hW4]; exact blk_new _ _)
      have PO := hid (placeOf_g W4 (RV.out.fr F4.out) BV.out hlv2)
      have q0 : W4.cell? ⟨wr.heap.size, 0, none⟩ = some (.slice ka (kA ips i).length kc) := by rw [blk_cell B4.out]; rfl
      have q1 : W4.cell? ⟨wr.heap.size, 1, none⟩ = some (.slice va (vA ips i).length vc) := by rw [blk_cell B4.out]; rfl
      have szE : Hid (∀ x y, placeL (vA ips i) = some (x, y) → szA ips i = y) := hid (fun x y h => by unfold szA; rw [h]; rfl)
      have NOO : Hid (¬ OkSp fin ips i → ∀ ips' r', Blk ix ips' r' → ¬ Spans fin ips') := hid (fun hno ips' r' h hs => by rw [ONE.out _ _ h] at hs; exact hno (hs.ok i hil))
      generalize hklen : (kA ips i).length = kl at *
      generalize hvlen : (vA ips i).length = vl at *
      have HKL := hid hklen
      clear hvlen hklen
      have hnx2 := hnx
      obtain ⟨nx, hnxi⟩ : ∃ nx, nx = nxN ips i := ⟨_, rfl⟩
      have HNX := hid hnxi
      rw [← hnxi] at hnx ⊢
      clear hnxi hnx2
      go_upto_region 9 with fail
      rw [← hW4]
      clear hW4 z1 z2
      go_wp2_with fail
      refine PO.out.mono ?_
      rintro e W5 ⟨⟨x, y, rfl, hpl⟩ | ⟨rfl, hpl⟩, f5⟩
      · have F5 := hid f5
        have q0 := cell_fr f5 q0
        have q1 := cell_fr f5 q1
        clear f5
        by_cases hx : x = nx
        · by_cases hy : y ≤ fin
          · have OK : Hid (OkSp fin ips i) := hid ⟨by rw [szE.out _ _ hpl, ← HNX.out, ← hx]; exact hpl, by rw [szE.out _ _ hpl]; exact hy⟩
            have HSZ := hid (szE.out _ _ hpl)
            subst hx
            clear hpl NOO szE
            obtain ⟨W6, hW6⟩ : ∃ W6, W6 = W5.alloc (.cells #[.int .u64 (x : Int), .int .u64 (y : Int)] 52) := ⟨_, rfl⟩
            have F6 : Hid (Fr [] W5 W6) := hid (by rw [hW6]; exact (Fr.refl _ _).alloc _)
            have B6 : Hid (W6.heap[W5.heap.size]? = some (.cells #[.int .u64 (x : Int), .int .u64 (y : Int)] 52 (0, 0))) := hid (by rw [hW6]; exact blk_new _ _)
            have F46 := hid ((F4.out.trans F5.out).trans F6.out)
            have SP := hid (Split_yes W6 (by have := RK.out.fr F46.out; exact this) BK.out HK.out)
            have hy' : ¬ (fin : Int) < (y : Int) := by omega
            go_upto_region 12 with fail
            rw [← hW6]
            have q0 := cell_fr F6.out q0
            clear hW6
            go_upto_region 13 with (go_at_call 57; refine SP.out.mono ?_; rintro e W7 ⟨u7, rfl, o7, f7⟩; obtain ⟨ua, uc, rfl, _⟩ := ownsRow_slice o7; have O7 := hid o7; have F7 := hid f7; have q0 := cell_fr f7 q0; clear o7 f7)
            have S7 := hid (HS.out.quiet (F46.out.trans F7.out))
            have B7 := F7.out.at B6.out (by simp)
            have y0 : W7.cell? ⟨W5.heap.size, 0, none⟩ = some (.int .u64 (x : Int)) := by rw [blk_cell B7]; rfl
            have y1 : W7.cell? ⟨W5.heap.size, 1, none⟩ = some (.int .u64 (y : Int)) := by rw [blk_cell B7]; rfl
            have yP := hid (blk_lt B7)
            have sz := S7.out.sz
            obtain ⟨g0, e0⟩ : ∃ u, W7.cell? ⟨W2.heap.size, i * 4, none⟩ = some u := ⟨cur[i * 4]'(by omega), by rw [blk_cell S7.out.hg, Array.getElem?_eq_getElem (by omega)]⟩
            obtain ⟨g1, e1⟩ : ∃ u, W7.cell? ⟨W2.heap.size, i * 4 + 1, none⟩ = some u := ⟨cur[i * 4 + 1]'(by omega), by rw [blk_cell S7.out.hg, Array.getElem?_eq_getElem (by omega)]⟩
            obtain ⟨g2, e2⟩ : ∃ u, W7.cell? ⟨W2.heap.size, i * 4 + 2, none⟩ = some u := ⟨cur[i * 4 + 2]'(by omega), by rw [blk_cell S7.out.hg, Array.getElem?_eq_getElem (by omega)]⟩
            obtain ⟨g3, e3⟩ : ∃ u, W7.cell? ⟨W2.heap.size, i * 4 + 3, none⟩ = some u := ⟨cur[i * 4 + 3]'(by omega), by rw [blk_cell S7.out.hg, Array.getElem?_eq_getElem (by omega)]⟩
            have yf := blk_frozen S7.out.hg
            have P7 := S7.out.put hil (Nat.le_refl _) OK.out (la := ka) (lc := kc) (by have := RK.out.fr (F46.out.trans F7.out); rw [HKL.out]; exact this) (Rd.ownB O7.out)
            obtain ⟨cur', P7⟩ := P7
            have NXT : Hid (nxN ips (i + 1) = x + y + 4) := hid (by show nxN ips i + szA ips i + 4 = _; rw [HSZ.out, ← HNX.out])
            rw [← HNX.out, HSZ.out, HKL.out] at P7
            have P8 := hid P7
            have hne : ¬ W5.heap.size = W2.heap.size := fun e => by
              have h1 := S7.out.hg
              rw [← e, B7] at h1
              simp at h1
            clear P7 S7 B7 sz
            go_upto_region 14 with fail
            obtain ⟨W8, hW8⟩ : ∃ W8, W8 = (((W7.setCell ⟨W2.heap.size, i * 4, none⟩ (.int .i64 (x : Int))).setCell ⟨W2.heap.size, i * 4 + 1, none⟩ (.int .i64 (y : Int))).setCell ⟨W2.heap.size, i * 4 + 2, none⟩ (.slice ka kl kc)).setCell ⟨W2.heap.size, i * 4 + 3, none⟩ (.slice ua (userL (kA ips i)).length uc) := ⟨_, rfl⟩
            have y8 : W8.cell? ⟨W5.heap.size, 1, none⟩ = some (.int .u64 (y : Int)) := by
              rw [hW8, World.cell?_of_block (w := W7) (by show (((((W7.setCell _ _).setCell _ _).setCell _ _).setCell _ _)).heap[W5.heap.size]? = _; rw [blk_setne _ _ _ hne, blk_setne _ _ _ hne, blk_setne _ _ _ hne, blk_setne _ _ _ hne])]; exact y1
            rw [← hW8] at P8 ⊢
            clear hW8 e0 e1 e2 e3 yf y0 y1 q0 q1
            have hxn : nxN ips i = x := HNX.out.symm
            have hxb : x ≤ 1000000000 * 1000000004 := hnx
            clear hxn
            go_wp2
            go_roundw
            case rel => exact ⟨i + 1, cur', by omega, by go_num, by rw [NXT.out]; go_num, P8.out⟩
            case measure => simp [intOf]; omega
          · have NO := hid (NOO.out (fun h => hy (by have := h.le; rw [szE.out _ _ hpl] at this; exact this)))
            have hy' : (fin : Int) < (y : Int) := by omega
            subst hx
            clear hpl NOO szE hy
            go_wp2
            go_ret2
            exact .inr ⟨_, rfl, NO.out, (F1.out.trans HS.out.f2).trans (((F4.out.trans F5.out)).alloc _)⟩
        · have NO := hid (NOO.out (fun h => hx (by have := h.pl; rw [hpl] at this; simp only [Option.some.injEq, Prod.mk.injEq] at this; rw [HNX.out]; exact this.1)))
          have hx' : ((x : Int) == (nx : Int)) = false := by rw [beq_eq_false_iff_ne]; omega
          have hx2 : ¬ (x : Int) = (nx : Int) := by omega
          have hx3 : ((x : Int) != (nx : Int)) = true := by rw [bne, hx']; rfl
          clear hpl NOO szE
          go_wp2
          go_ret2
          exact .inr ⟨_, rfl, NO.out, (F1.out.trans HS.out.f2).trans (((F4.out.trans F5.out)).alloc _)⟩
      · have F5 := hid f5
        have NO := hid (NOO.out (fun h => by have := h.pl; rw [hpl] at this; cases this))
        clear f5 hpl NOO szE
        go_wp2
        go_ret2
        exact .inr ⟨_, rfl, NO.out, (F1.out.trans HS.out.f2).trans (((F4.out.trans F5.out)).alloc _)⟩
    · have hin : i = n := by omega
      subst hin
      have ALL : Hid (nxN ips i = fin → Spans fin ips) := hid (fun h => ⟨fun e => h0 (by rw [HN.out, e]; rfl), fun j hj => HS.out.ok j (by rw [HN.out]; exact hj), by rw [← HN.out]; exact h⟩)
      have RDS : Hid (RdS wr W2.heap.size ips) := hid (fun j hj => by
        obtain ⟨la, lc, ua, uc, c0, c1, c2, c3, r0, r1⟩ := HS.out.dn j (by rw [HN.out]; exact hj)
        exact ⟨la, lc, ua, uc, by rw [blk_cell HS.out.hg]; exact c0, by rw [blk_cell HS.out.hg]; exact c1, by rw [blk_cell HS.out.hg]; exact c2, by rw [blk_cell HS.out.hg]; exact c3, r0, r1⟩)
      obtain ⟨nx, hnxi⟩ : ∃ nx, nx = nxN ips i := ⟨_, rfl⟩
      have HNX := hid hnxi
      rw [← hnxi] at hnx ⊢
      clear hnxi
      by_cases hf : nx = fin
      · have hf' : ((nx : Int) == (fin : Int)) = true := by rw [beq_iff_eq]; omega
        have SPN := hid (ALL.out (by rw [← HNX.out]; exact hf))
        clear hf ALL
        go_wp2
        go_ret2
        refine .inl ⟨ips, r, W2.heap.size, ?_, HBK.out, SPN.out, RDS.out, F1.out.trans HS.out.f2⟩
        rw [← HN.out]; rfl
      · have hf' : ((nx : Int) == (fin : Int)) = false := by rw [beq_eq_false_iff_ne]; omega
        have NO : Hid (∀ ips' r', Blk ix ips' r' → ¬ Spans fin ips') := hid (fun ips' r' h hs => by
          rw [ONE.out _ _ h] at hs
          have := hs.all
          rw [← HN.out, ← HNX.out] at this
          exact hf this)
        clear hf ALL
        go_wp2
        go_ret2
        exact .inr ⟨_, rfl, NO.out, F1.out.trans HS.out.f2⟩
end Go.Proofs.YtnnookkcnmgbfaaGreat
