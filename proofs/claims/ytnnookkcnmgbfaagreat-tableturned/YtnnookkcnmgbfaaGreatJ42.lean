/-
  The data blocks of an index, and in whose blocks their keys lie.
-/
import Derived.Test.YtnnookkcnmgbfaaGreatXJ
import Derived.Test.YtnnookkcnmgbfaaGreatJ22
import Derived.Test.YtnnookkcnmgbfaaGreatJ35
import Derived.Test.YtnnookkcnmgbfaaGreatXK
import Derived.Test.YtnnookkcnmgbfaaGreatJ36
namespace Go.Proofs.YtnnookkcnmgbfaaGreat
open Go.ChangeShapes Go.WideShapes Go.ChangeAt Go.RowKit

structure SJ (B : Nat) (W2 wr : World) (ips : Ps) (fin G : Nat) (cur : Array Value) (i : Nat) : Prop where
  hg : wr.heap[G]? = some (.cells cur 108 (0, 0))
  sz : cur.size = ips.length * 4
  nu : ∀ c ∈ cur.toList, ∀ n, c ≠ Value.int .u8 n
  dn : ∀ j, j < i → ∃ la lc ua uc, cur[j * 4]? = some (.int .i64 (nxN ips j : Int)) ∧ cur[j * 4 + 1]? = some (.int .i64 (szA ips j : Int)) ∧ cur[j * 4 + 2]? = some (.slice la (kA ips j).length lc) ∧ cur[j * 4 + 3]? = some (.slice ua (userL (kA ips j)).length uc) ∧ Rd wr (.slice la (kA ips j).length lc) (bv (kA ips j)) ∧ Rd wr (.slice ua (userL (kA ips j)).length uc) (bv (userL (kA ips j))) ∧ (∀ k, (Value.slice la (kA ips j).length lc).ownBlock = some k → B ≤ k) ∧ (∀ k, (Value.slice ua (userL (kA ips j)).length uc).ownBlock = some k → B ≤ k)
  ok : ∀ j, j < i → OkSp fin ips j
  nx : nxN ips i ≤ i * (fin + 4)
  f2 : Fr [] W2 wr
theorem SJ.no {B : Nat} {W2 wr : World} {ips : Ps} {fin G : Nat} {cur : Array Value} {i : Nat} (h : SJ B W2 wr ips fin G cur i) : ¬ U8 wr G :=
  noU8 (cs := cur.toList) (T := 108) (by rw [Array.toArray_toList]; exact h.hg) h.nu
theorem SJ.quiet {B : Nat} {W2 wr w' : World} {ips : Ps} {fin G : Nat} {cur : Array Value} {i : Nat} (h : SJ B W2 wr ips fin G cur i) (f : Fr [] wr w') : SJ B W2 w' ips fin G cur i :=
  ⟨f.at h.hg (by simp), h.sz, h.nu, fun j hj => by
    obtain ⟨la, lc, ua, uc, c0, c1, c2, c3, r0, r1, b0⟩ := h.dn j hj
    exact ⟨la, lc, ua, uc, c0, c1, c2, c3, r0.fr f, r1.fr f, b0⟩, h.ok, h.nx, h.f2.trans f⟩
theorem SJ.put {B : Nat} {W2 wr : World} {ips : Ps} {fin G : Nat} {cur : Array Value} {i : Nat} (h : SJ B W2 wr ips fin G cur i) (hi : i < ips.length) (hG : W2.heap.size ≤ G) (hk : OkSp fin ips i) {la ua : Option Addr} {lc uc : Nat} (r0 : Rd wr (.slice la (kA ips i).length lc) (bv (kA ips i))) (r1 : Rd wr (.slice ua (userL (kA ips i)).length uc) (bv (userL (kA ips i)))) (kb : (∀ k, (Value.slice la (kA ips i).length lc).ownBlock = some k → B ≤ k)) (ub : (∀ k, (Value.slice ua (userL (kA ips i)).length uc).ownBlock = some k → B ≤ k)) :
    ∃ cur', SJ B W2 ((((wr.setCell ⟨G, i * 4, none⟩ (.int .i64 (nxN ips i : Int))).setCell ⟨G, i * 4 + 1, none⟩ (.int .i64 (szA ips i : Int))).setCell ⟨G, i * 4 + 2, none⟩ (.slice la (kA ips i).length lc)).setCell ⟨G, i * 4 + 3, none⟩ (.slice ua (userL (kA ips i)).length uc)) ips fin G cur' (i + 1) := by
  obtain ⟨W, hW⟩ : ∃ W, W = (((wr.setCell ⟨G, i * 4, none⟩ (.int .i64 (nxN ips i : Int))).setCell ⟨G, i * 4 + 1, none⟩ (.int .i64 (szA ips i : Int))).setCell ⟨G, i * 4 + 2, none⟩ (.slice la (kA ips i).length lc)).setCell ⟨G, i * 4 + 3, none⟩ (.slice ua (userL (kA ips i)).length uc) := ⟨_, rfl⟩
  rw [← hW]
  have hu : ∀ k, U8 wr k → W.heap[k]? = wr.heap[k]? := fun k hk => by
    have : k ≠ G := fun e => by subst e; exact h.no hk
    rw [hW, blk_setne _ _ _ this, blk_setne _ _ _ this, blk_setne _ _ _ this, blk_setne _ _ _ this]
  have hsz := h.sz
  have hnx := h.nx
  refine ⟨(((cur.setIfInBounds (i * 4) (.int .i64 (nxN ips i : Int))).setIfInBounds (i * 4 + 1) (.int .i64 (szA ips i : Int))).setIfInBounds (i * 4 + 2) (.slice la (kA ips i).length lc)).setIfInBounds (i * 4 + 3) (.slice ua (userL (kA ips i)).length uc), by rw [hW, blk_set (blk_set (blk_set (blk_set h.hg _ _) _ _) _ _)], by simp [hsz], ?_, ?_, ?_, ?_, ?_⟩
  · intro c hc n
    simp only [Array.toList_setIfInBounds] at hc
    rcases List.mem_or_eq_of_mem_set hc with hc | hc
    · rcases List.mem_or_eq_of_mem_set hc with hc | hc
      · rcases List.mem_or_eq_of_mem_set hc with hc | hc
        · rcases List.mem_or_eq_of_mem_set hc with hc | hc
          · exact h.nu c hc n
          · rw [hc]; simp
        · rw [hc]; simp
      · rw [hc]; simp
    · rw [hc]; simp
  · intro j hj
    by_cases hji : j = i
    · subst hji
      refine ⟨la, lc, ua, uc, ?_, ?_, ?_, ?_, r0.keep hu, r1.keep hu, kb, ub⟩
      · rw [Array.getElem?_setIfInBounds_ne (by omega), Array.getElem?_setIfInBounds_ne (by omega), Array.getElem?_setIfInBounds_ne (by omega), Array.getElem?_setIfInBounds_self_of_lt (by omega)]
      · rw [Array.getElem?_setIfInBounds_ne (by omega), Array.getElem?_setIfInBounds_ne (by omega), Array.getElem?_setIfInBounds_self_of_lt (by simp; omega)]
      · rw [Array.getElem?_setIfInBounds_ne (by omega), Array.getElem?_setIfInBounds_self_of_lt (by simp; omega)]
      · rw [Array.getElem?_setIfInBounds_self_of_lt (by simp; omega)]
    · obtain ⟨la', lc', ua', uc', c0, c1, c2, c3, s0, s1, b0⟩ := h.dn j (by omega)
      refine ⟨la', lc', ua', uc', ?_, ?_, ?_, ?_, s0.keep hu, s1.keep hu, b0⟩
      · rw [Array.getElem?_setIfInBounds_ne (by omega), Array.getElem?_setIfInBounds_ne (by omega), Array.getElem?_setIfInBounds_ne (by omega), Array.getElem?_setIfInBounds_ne (by omega)]; exact c0
      · rw [Array.getElem?_setIfInBounds_ne (by omega), Array.getElem?_setIfInBounds_ne (by omega), Array.getElem?_setIfInBounds_ne (by omega), Array.getElem?_setIfInBounds_ne (by omega)]; exact c1
      · rw [Array.getElem?_setIfInBounds_ne (by omega), Array.getElem?_setIfInBounds_ne (by omega), Array.getElem?_setIfInBounds_ne (by omega), Array.getElem?_setIfInBounds_ne (by omega)]; exact c2
      · rw [Array.getElem?_setIfInBounds_ne (by omega), Array.getElem?_setIfInBounds_ne (by omega), Array.getElem?_setIfInBounds_ne (by omega), Array.getElem?_setIfInBounds_ne (by omega)]; exact c3
  · intro j hj
    by_cases hji : j = i
    · subst hji; exact hk
    · exact h.ok j (by omega)
  · have := hk.le
    rw [nxN, Nat.add_mul]; omega
  · rw [hW]; exact (((h.f2.set _ _ (.inr hG)).set _ _ (.inr hG)).set _ _ (.inr hG)).set _ _ (.inr hG)
/-- Data blocks as the index has them, whose keys lie in blocks from B on. -/
def RdS2 (B : Nat) (w : World) (g : Nat) (ips : Ps) : Prop := B ≤ g ∧ g < w.heap.size ∧ ∀ j, j < ips.length → ∃ la lc ua uc, SAt w g (j * 4) ips j la lc ua uc ∧ (∀ k, (Value.slice la (kA ips j).length lc).ownBlock = some k → B ≤ k) ∧ (∀ k, (Value.slice ua (userL (kA ips j)).length uc).ownBlock = some k → B ≤ k)
theorem RdS2.rd {B : Nat} {w : World} {g : Nat} {ips : Ps} (h : RdS2 B w g ips) : RdS w g ips := fun j hj => by
  obtain ⟨la, lc, ua, uc, s, _⟩ := h.2.2 j hj
  exact ⟨la, lc, ua, uc, s⟩
theorem RdS2.fr {B : Nat} {w w' : World} {g : Nat} {ips : Ps} (h : RdS2 B w g ips) (f : Fr [] w w') : RdS2 B w' g ips := ⟨h.1, Nat.lt_of_lt_of_le h.2.1 f.size, fun j hj => by
  obtain ⟨la, lc, ua, uc, s, b⟩ := h.2.2 j hj
  exact ⟨la, lc, ua, uc, ⟨cell_fr f s.c0, cell_fr f s.c1, cell_fr f s.c2, cell_fr f s.c3, s.rl.fr f, s.ru.fr f⟩, b⟩⟩
set_option maxRecDepth 20000 in
set_option maxHeartbeats 6400000 in
theorem spansOf2_c (w : World) {v : Value} {ix : List Nat} (hr : Rd w v (bv ix)) (hb : By ix) (hl : ix.length ≤ 1000000000) (fin : Nat) (hfin : fin ≤ 1000000000) {ips : Ps} {r : Nat} (hbk : Blk ix ips r) (hspn : Spans fin ips) :
    Calls Tryz.prog 19 #[v, .int .u64 (fin : Int)] w fun e w' => ∃ G, e = .returned (.tuple #[.slice (some ⟨G, 0, none⟩) ips.length ips.length, .bool true]) ∧ RdS2 w.heap.size w' G ips ∧ Fr [] w w' := by
  obtain ⟨a, c, hv⟩ := hr.form
  rw [bv_len] at hv
  have PY := hid (parse_own w hr hb hl hbk)
  have HBK := hid hbk
  have SPS := hid hspn
  clear hspn
  have hcn := blk_count hbk
  subst hv
  clear hr hb hbk
  go_enter Tryz.func19, Tryz.ntmps19
  go_upto_region 2 with (go_at_call 64; refine PY.out.mono ?_; rintro e W2 ⟨lv, rfl, ck, f1⟩; have F1 := hid f1; have CK := hid ck; clear f1 ck)
  obtain ⟨la, lc, hlv, hlc, k1⟩ := CK.out.rd
  subst hlv
  have K1 := hid k1
  have RI := hid HBK.out.rises
  clear k1 PY
  obtain ⟨n, hn⟩ : ∃ n, n = ips.length := ⟨_, rfl⟩
  have HN := hid hn
  rw [← hn] at hlc hcn ⊢
  clear hn
  by_cases h0 : n = 0
  · exact absurd (List.eq_nil_of_length_eq_zero (by rw [← HN.out]; exact h0)) SPS.out.ne
  have hn1 : n ≤ 1000000000 := by omega
  have h0' : ((n : Int) == 0) = false := by rw [beq_eq_false_iff_ne]; omega
  have hmk := makeS_run W2 hn1
  obtain ⟨W3, hW3⟩ : ∃ W3, W3 = W2.alloc (.cells (madeCells #[.int .i64 0, .int .i64 0, .slice none 0 0, .slice none 0 0] (n * 4)) 108) := ⟨_, rfl⟩
  have S3 : Hid (SJ w.heap.size W2 W3 ips fin W2.heap.size (madeCells #[.int .i64 0, .int .i64 0, .slice none 0 0, .slice none 0 0] (n * 4)) 0) := by
    refine hid ⟨by rw [hW3]; exact blk_new _ _, by rw [size_madeCells, HN.out], ?_, fun j hj => by omega, fun j hj => by omega, by simp [nxN], by rw [hW3]; exact (Fr.refl _ _).alloc _⟩
    intro c hc m
    simp only [madeCells, Array.toList_map, List.mem_map] at hc
    obtain ⟨k, _, rfl⟩ := hc
    have hk4 : k % 4 = 0 ∨ k % 4 = 1 ∨ k % 4 = 2 ∨ k % 4 = 3 := by omega
    simp only [List.size_toArray, List.length_cons, List.length_nil]
    rcases hk4 with e | e | e | e <;> (rw [show (0 + 1 + 1 + 1 + 1 : Nat) = 4 from rfl, e]; simp)
  rw [← hW3] at hmk
  clear hW3
  obtain ⟨b, _, _, _, _, hab, _⟩ := CK.out.atD (j := 0) (by rw [← HN.out]; omega)
  subst hab
  clear K1
  go_wp2_with fail
  clear hmk
  go_loopw [9, 35] (fun v9 v35 wr => ∃ (i : Nat) (cur : Array Value), i ≤ n ∧ v35 = .int .i64 (i : Int) ∧ v9 = .int .u64 (nxN ips i : Int) ∧ SJ w.heap.size W2 wr ips fin W2.heap.size cur i) (fun _ v35 _ => n - (intOf v35).toNat)
  case atStart => exact ⟨0, _, Nat.zero_le _, rfl, rfl, S3.out⟩
  case round =>
    obtain ⟨i, cur, hi, rfl, rfl, hsi⟩ := hrel
    have HS := hid hsi
    have hnx : nxN ips i ≤ 1000000000 * 1000000004 := Nat.le_trans hsi.nx (Nat.mul_le_mul (by omega) (by omega))
    clear hsi S3
    by_cases hlt : i < n
    · have hil : i < ips.length := by rw [← HN.out]; exact hlt
      obtain ⟨b', ka, kc, va, vc, hbb, z1, z2, o1, o2, p1, p2, _, _⟩ := CK.out.atD hil
      have hbb' : b = b' := by
        simp only [Option.some.injEq, Addr.mk.injEq, and_true] at hbb
        exact hbb
      subst hbb'
      have z1 := cell_fr HS.out.f2 z1
      have z2 := cell_fr HS.out.f2 z2
      have RK := hid ((Rd.ownB o1).fr HS.out.f2)
      have RV := hid ((Rd.ownB o2).fr HS.out.f2)
      have BK := hid p1
      have BV := hid p2
      have KB : Hid (∀ k, (Value.slice ka (kA ips i).length kc).ownBlock = some k → w.heap.size ≤ k) := hid (fun k hk => (o1.lt k hk).1)
      clear o1 o2 p1 p2 hbb
      have hlv2 : (vA ips i).length ≤ 1000000000 := Nat.le_trans (blk_val HBK.out hil) hl
      have HK := hid (rises_isK RI.out hil)
      have hkl := isK_len HK.out
      obtain ⟨W4, hW4⟩ : ∃ W4, W4 = wr.alloc (.cells #[.slice ka (kA ips i).length kc, .slice va (vA ips i).length vc] 47) := ⟨_, rfl⟩
      have F4 : Hid (Fr [] wr W4) := hid (by rw [hW4]; exact (Fr.refl _ _).alloc _)
      have B4 : Hid (W4.heap[wr.heap.size]? = some (.cells #[.slice ka (kA ips i).length kc, .slice va (vA ips i).length vc] 47 (0, 0))) := hid (by rw [hW4]; exact blk_new _ _)
      have PO := hid (placeOf_g W4 (RV.out.fr F4.out) BV.out hlv2)
      have q0 : W4.cell? ⟨wr.heap.size, 0, none⟩ = some (.slice ka (kA ips i).length kc) := by rw [blk_cell B4.out]; rfl
      have q1 : W4.cell? ⟨wr.heap.size, 1, none⟩ = some (.slice va (vA ips i).length vc) := by rw [blk_cell B4.out]; rfl
      have szE : Hid (∀ x y, placeL (vA ips i) = some (x, y) → szA ips i = y) := hid (fun x y h => by unfold szA; rw [h]; rfl)
      have NOO : Hid (¬ OkSp fin ips i → False) := hid (fun hno => hno (SPS.out.ok i hil))
      generalize hklen : (kA ips i).length = kl at *
      generalize hvlen : (vA ips i).length = vl at *
      have HKL := hid hklen
      clear hvlen hklen
      have hnx2 := hnx
      obtain ⟨nx, hnxi⟩ : ∃ nx, nx = nxN ips i := ⟨_, rfl⟩
      have HNX := hid hnxi
      rw [← hnxi] at hnx ⊢
      clear hnxi hnx2
      go_upto_region 9 with fail
      rw [← hW4]
      clear hW4 z1 z2
      go_wp2_with fail
      refine PO.out.mono ?_
      rintro e W5 ⟨⟨x, y, rfl, hpl⟩ | ⟨rfl, hpl⟩, f5⟩
      · have F5 := hid f5
        have q0 := cell_fr f5 q0
        have q1 := cell_fr f5 q1
        clear f5
        by_cases hx : x = nx
        · by_cases hy : y ≤ fin
          · have OK : Hid (OkSp fin ips i) := hid ⟨by rw [szE.out _ _ hpl, ← HNX.out, ← hx]; exact hpl, by rw [szE.out _ _ hpl]; exact hy⟩
            have HSZ := hid (szE.out _ _ hpl)
            subst hx
            clear hpl NOO szE
            obtain ⟨W6, hW6⟩ : ∃ W6, W6 = W5.alloc (.cells #[.int .u64 (x : Int), .int .u64 (y : Int)] 52) := ⟨_, rfl⟩
            have F6 : Hid (Fr [] W5 W6) := hid (by rw [hW6]; exact (Fr.refl _ _).alloc _)
            have B6 : Hid (W6.heap[W5.heap.size]? = some (.cells #[.int .u64 (x : Int), .int .u64 (y : Int)] 52 (0, 0))) := hid (by rw [hW6]; exact blk_new _ _)
            have F46 := hid ((F4.out.trans F5.out).trans F6.out)
            have SP := hid (Split_yes W6 (by have := RK.out.fr F46.out; exact this) BK.out HK.out)
            have hy' : ¬ (fin : Int) < (y : Int) := by omega
            go_upto_region 12 with fail
            rw [← hW6]
            have q0 := cell_fr F6.out q0
            clear hW6
            go_upto_region 13 with (go_at_call 57; refine SP.out.mono ?_; rintro e W7 ⟨u7, rfl, o7, f7⟩; obtain ⟨ua, uc, rfl, _⟩ := ownsRow_slice o7; have O7 := hid o7; have F7 := hid f7; have q0 := cell_fr f7 q0; clear o7 f7)
            have S7 := hid (HS.out.quiet (F46.out.trans F7.out))
            have B7 := F7.out.at B6.out (by simp)
            have y0 : W7.cell? ⟨W5.heap.size, 0, none⟩ = some (.int .u64 (x : Int)) := by rw [blk_cell B7]; rfl
            have y1 : W7.cell? ⟨W5.heap.size, 1, none⟩ = some (.int .u64 (y : Int)) := by rw [blk_cell B7]; rfl
            have yP := hid (blk_lt B7)
            have sz := S7.out.sz
            obtain ⟨g0, e0⟩ : ∃ u, W7.cell? ⟨W2.heap.size, i * 4, none⟩ = some u := ⟨cur[i * 4]'(by omega), by rw [blk_cell S7.out.hg, Array.getElem?_eq_getElem (by omega)]⟩
            obtain ⟨g1, e1⟩ : ∃ u, W7.cell? ⟨W2.heap.size, i * 4 + 1, none⟩ = some u := ⟨cur[i * 4 + 1]'(by omega), by rw [blk_cell S7.out.hg, Array.getElem?_eq_getElem (by omega)]⟩
            obtain ⟨g2, e2⟩ : ∃ u, W7.cell? ⟨W2.heap.size, i * 4 + 2, none⟩ = some u := ⟨cur[i * 4 + 2]'(by omega), by rw [blk_cell S7.out.hg, Array.getElem?_eq_getElem (by omega)]⟩
            obtain ⟨g3, e3⟩ : ∃ u, W7.cell? ⟨W2.heap.size, i * 4 + 3, none⟩ = some u := ⟨cur[i * 4 + 3]'(by omega), by rw [blk_cell S7.out.hg, Array.getElem?_eq_getElem (by omega)]⟩
            have yf := blk_frozen S7.out.hg
            have P7 := S7.out.put hil (Nat.le_refl _) OK.out (la := ka) (lc := kc) (by have := RK.out.fr (F46.out.trans F7.out); rw [HKL.out]; exact this) (Rd.ownB O7.out) (fun k hk => KB.out k (by rw [← HKL.out]; exact hk)) (fun k hk => Nat.le_trans (Nat.le_trans (Nat.le_trans F1.out.size HS.out.f2.size) F46.out.size) (O7.out.lt k hk).1)
            obtain ⟨cur', P7⟩ := P7
            have NXT : Hid (nxN ips (i + 1) = x + y + 4) := hid (by show nxN ips i + szA ips i + 4 = _; rw [HSZ.out, ← HNX.out])
            rw [← HNX.out, HSZ.out, HKL.out] at P7
            have P8 := hid P7
            have hne : ¬ W5.heap.size = W2.heap.size := fun e => by
              have h1 := S7.out.hg
              rw [← e, B7] at h1
              simp at h1
            clear P7 S7 B7 sz
            go_upto_region 14 with fail
            obtain ⟨W8, hW8⟩ : ∃ W8, W8 = (((W7.setCell ⟨W2.heap.size, i * 4, none⟩ (.int .i64 (x : Int))).setCell ⟨W2.heap.size, i * 4 + 1, none⟩ (.int .i64 (y : Int))).setCell ⟨W2.heap.size, i * 4 + 2, none⟩ (.slice ka kl kc)).setCell ⟨W2.heap.size, i * 4 + 3, none⟩ (.slice ua (userL (kA ips i)).length uc) := ⟨_, rfl⟩
            have y8 : W8.cell? ⟨W5.heap.size, 1, none⟩ = some (.int .u64 (y : Int)) := by
              rw [hW8, World.cell?_of_block (w := W7) (by show (((((W7.setCell _ _).setCell _ _).setCell _ _).setCell _ _)).heap[W5.heap.size]? = _; rw [blk_setne _ _ _ hne, blk_setne _ _ _ hne, blk_setne _ _ _ hne, blk_setne _ _ _ hne])]; exact y1
            rw [← hW8] at P8 ⊢
            clear hW8 e0 e1 e2 e3 yf y0 y1 q0 q1
            have hxn : nxN ips i = x := HNX.out.symm
            have hxb : x ≤ 1000000000 * 1000000004 := hnx
            clear hxn
            go_wp2
            go_roundw
            case rel => exact ⟨i + 1, cur', by omega, by go_num, by rw [NXT.out]; go_num, P8.out⟩
            case measure => simp [intOf]; omega
          · exact (NOO.out (fun h => hy (by have := h.le; rw [szE.out _ _ hpl] at this; exact this))).elim
        · exact (NOO.out (fun h => hx (by have := h.pl; rw [hpl] at this; simp only [Option.some.injEq, Prod.mk.injEq] at this; rw [HNX.out]; exact this.1))).elim
      · exact (NOO.out (fun h => by have := h.pl; rw [hpl] at this; cases this)).elim
    · have hin : i = n := by omega
      subst hin
      have ALL : Hid (nxN ips i = fin) := hid (by have := SPS.out.all; rw [← HN.out] at this; exact this)
      have RDS : Hid (RdS2 w.heap.size wr W2.heap.size ips) := hid ⟨F1.out.size, blk_lt HS.out.hg, fun j hj => by
        obtain ⟨la, lc, ua, uc, c0, c1, c2, c3, r0, r1, b0⟩ := HS.out.dn j (by rw [HN.out]; exact hj)
        exact ⟨la, lc, ua, uc, ⟨by rw [blk_cell HS.out.hg]; exact c0, by rw [blk_cell HS.out.hg]; exact c1, by rw [blk_cell HS.out.hg]; exact c2, by rw [blk_cell HS.out.hg]; exact c3, r0, r1⟩, b0⟩⟩
      obtain ⟨nx, hnxi⟩ : ∃ nx, nx = nxN ips i := ⟨_, rfl⟩
      have HNX := hid hnxi
      rw [← hnxi] at hnx ⊢
      clear hnxi
      have hf' : ((nx : Int) == (fin : Int)) = true := by rw [beq_iff_eq]; have := HNX.out; have := ALL.out; omega
      clear ALL
      go_wp2
      go_ret2
      refine ⟨W2.heap.size, ?_, RDS.out, F1.out.trans HS.out.f2⟩
      rw [← HN.out]; rfl
end Go.Proofs.YtnnookkcnmgbfaaGreat
namespace Go.Proofs.YtnnookkcnmgbfaaGreat
open Go.ChangeShapes Go.WideShapes Go.ChangeAt Go.RowKit

theorem Rd.keepS {w w' : World} {v : Value} {xs : List Value} (h : Rd w v xs) (hk : ∀ k, v.ownBlock = some k → k < w.heap.size → w'.heap[k]? = w.heap[k]?) : Rd w' v xs := by
  rcases h with h | ⟨a, c, rfl, h4, h5⟩
  · exact .inl h
  · refine .inr ⟨a, c, rfl, h4, fun j u hj => ?_⟩
    have h6 := h5 j u hj
    have h7 := World.block_lt_of_cell? w _ h6
    rw [add_block] at h7
    rw [World.cell?_of_block (w := w) (by rw [add_block]; exact hk _ rfl h7)]; exact h6
theorem RdS2.base {B B' : Nat} {w : World} {g : Nat} {ips : Ps} (h : RdS2 B w g ips) (hb : B' ≤ B) : RdS2 B' w g ips := ⟨Nat.le_trans hb h.1, h.2.1, fun j hj => by
  obtain ⟨la, lc, ua, uc, s, b0, b1⟩ := h.2.2 j hj
  exact ⟨la, lc, ua, uc, s, fun k hk => Nat.le_trans hb (b0 k hk), fun k hk => Nat.le_trans hb (b1 k hk)⟩⟩
theorem Rd.keepF {B : Nat} {S : List Nat} {w w' : World} {v : Value} {xs : List Value} (h : Rd w v xs) (f : Fr S w w') (hS : ∀ k ∈ S, k < B) (hb : ∀ k, v.ownBlock = some k → B ≤ k) : Rd w' v xs :=
  h.keepS fun k hk hl => f.block k hl (fun hm => by have := hS k hm; have := hb k hk; omega)
theorem RdS2.keep {B : Nat} {S : List Nat} {w w' : World} {g : Nat} {ips : Ps} (h : RdS2 B w g ips) (f : Fr S w w') (hS : ∀ k ∈ S, k < B) : RdS2 B w' g ips := ⟨h.1, Nat.lt_of_lt_of_le h.2.1 f.size, fun j hj => by
  obtain ⟨la, lc, ua, uc, s, b0, b1⟩ := h.2.2 j hj
  have hg : g ∉ S := fun hm => by have := hS g hm; have := h.1; omega
  exact ⟨la, lc, ua, uc, ⟨cell_fr' f hg s.c0, cell_fr' f hg s.c1, cell_fr' f hg s.c2, cell_fr' f hg s.c3, s.rl.keepF f hS b0, s.ru.keepF f hS b1⟩, b0, b1⟩⟩
/-- A table in memory, in blocks from B on. -/
structure TabO (B : Nat) (w : World) (p : Nat) (dat flt : List Nat) (ips : Ps) (da : Option Addr) (dc : Nat) (fa : Option Addr) (fc G : Nat) : Prop where
  bp : B ≤ p
  tab : Tab w p dat flt ips da dc fa fc G
  bd : ∀ k, (Value.slice da dat.length dc).ownBlock = some k → B ≤ k
  bf : ∀ k, (Value.slice fa flt.length fc).ownBlock = some k → B ≤ k
  bs : RdS2 B w G ips
theorem TabO.keep {B : Nat} {S : List Nat} {w w' : World} {p : Nat} {dat flt : List Nat} {ips : Ps} {da fa : Option Addr} {dc fc G : Nat} (h : TabO B w p dat flt ips da dc fa fc G) (f : Fr S w w') (hS : ∀ k ∈ S, k < B) : TabO B w' p dat flt ips da dc fa fc G :=
  ⟨h.bp, ⟨f.at h.tab.at' (fun hm => by have := hS p hm; have := h.bp; omega), h.tab.rd.keepF f hS h.bd, h.tab.rf.keepF f hS h.bf, (h.bs.keep f hS).rd⟩, h.bd, h.bf, h.bs.keep f hS⟩
set_option maxRecDepth 20000 in
set_option maxHeartbeats 6400000 in
theorem open_own (w : World) {q o c : Nat} {b : List Nat} (hr : Rd w (.slice (some ⟨q, o, none⟩) b.length c) (bv b)) (hb : By b) (hl : b.length ≤ 1000000000) {ips : Ps} {r : Nat} (h : Opn b ips r) :
    Calls Tryz.prog 6 #[.slice (some ⟨q, o, none⟩) b.length c] w fun e w' => ∃ p da dc fa fc G, e = .returned (.tuple #[.pointer (some ⟨p, 0, none⟩), .int .i64 0]) ∧ TabO w.heap.size w' p (b.take (fAt b)) (wn b (fAt b) (fSz b)) ips da dc fa fc G ∧ Fr [] w w' := by
  have OF := hid (ofooter_ok w hr hb hl h.foot.len h.foot.mag h.sum h.plc)
  have h1 := h.plc.hi
  have h2 := h.plc.hf
  have h3 := h.foot.len
  have HO := hid h
  have HR := hid hr
  have HB := hid hb
  have hcap := hr.cap
  have U1 : Hid (∀ W, Fr [] w W → _) := hid (fun W f => unsealed_c W (hr.fr f) hb hl (iAt b) (iSz b) (by omega) true (Iff.intro (fun _ => h.isum) (fun _ => rfl)))
  have U2 : Hid (∀ W, Fr [] w W → _) := hid (fun W f => unsealed_c W (hr.fr f) hb hl (fAt b) (fSz b) (by omega) true (Iff.intro (fun _ => h.fsum) (fun _ => rfl)))
  have SP : Hid (∀ W, Fr [] w W → _) := hid (fun W f => spansOf2_c W ((hr.fr f).win (t := iAt b) (n := iSz b) (by omega)) (wn_by hb _ _) (by rw [wn_len (by omega)]; omega) (fAt b) (by omega) h.bl h.sp)
  have CL1 : Hid (∀ W, Fr [] w W → _) := hid (fun W f => clone_c (w := W) ((hr.fr f).front (q := fAt b) (by omega)) (by rw [List.length_take]; omega))
  have CL2 : Hid (∀ W, Fr [] w W → _) := hid (fun W f => clone_c (w := W) ((hr.fr f).win (t := fAt b) (n := fSz b) (by omega)) (by rw [wn_len (by omega)]; omega))
  have LD : Hid ((b.take (fAt b)).length = fAt b) := hid (by rw [List.length_take]; omega)
  have LF : Hid ((wn b (fAt b) (fSz b)).length = fSz b) := hid (wn_len (by omega))
  clear hr hb h
  generalize b.length = L at *
  generalize fAt b = fa at *
  generalize fSz b = fs at *
  generalize iAt b = ia at *
  generalize iSz b = is at *
  go_enter Tryz.func6, Tryz.ntmps6
  go_upto_region 2 with (go_at_call 17; refine OF.out.mono ?_; rintro e W1 ⟨rfl, f1⟩; have F1 := hid f1; clear f1)
  obtain ⟨W3, hW3⟩ : ∃ W3, W3 = (W1.alloc (.cells #[.int .u64 (fa : Int), .int .u64 (fs : Int)] 52)).alloc (.cells #[.int .u64 (ia : Int), .int .u64 (is : Int)] 52) := ⟨_, rfl⟩
  rw [← hW3]
  have F3 : Hid (Fr [] W1 W3) := hid (by rw [hW3]; exact ((Fr.refl _ _).alloc _).alloc _)
  have N0 : Hid (W3.heap[W1.heap.size]? = some (.cells #[.int .u64 (fa : Int), .int .u64 (fs : Int)] 52 (0, 0))) := hid (by rw [hW3, blk_old _ _ (by simp)]; exact blk_new _ _)
  have N1 : Hid (W3.heap[W1.heap.size + 1]? = some (.cells #[.int .u64 (ia : Int), .int .u64 (is : Int)] 52 (0, 0))) := hid (by rw [hW3]; exact new_at _ _ (by simp))
  clear hW3
  have CC : Hid (∀ W, Fr [] W3 W → W.cell? ⟨W1.heap.size, 0, none⟩ = some (.int .u64 (fa : Int)) ∧ W.cell? ⟨W1.heap.size, 1, none⟩ = some (.int .u64 (fs : Int)) ∧ W.cell? ⟨W1.heap.size + 1, 0, none⟩ = some (.int .u64 (ia : Int)) ∧ W.cell? ⟨W1.heap.size + 1, 1, none⟩ = some (.int .u64 (is : Int))) := hid (fun W f => by
    have k0 := f.at N0.out (by simp)
    have k1 := f.at N1.out (by simp)
    exact ⟨by rw [blk_cell k0]; rfl, by rw [blk_cell k0]; rfl, by rw [blk_cell k1]; rfl, by rw [blk_cell k1]; rfl⟩)
  have F13 := hid (F1.out.trans F3.out)
  obtain ⟨x0, x1, x2, x3⟩ := CC.out W3 (Fr.refl _ _)
  go_upto_region 5 with (go_at_call 18; refine (U1.out W3 F13.out).mono ?_; rintro e W4 ⟨rfl, f4⟩; have F4 := hid f4; clear f4)
  obtain ⟨y0, y1, _, _⟩ := CC.out W4 F4.out
  have F14 := hid (F13.out.trans F4.out)
  clear x0 x1 x2 x3
  go_upto_region 8 with (go_at_call 18; refine (U2.out W4 F14.out).mono ?_; rintro e W5 ⟨rfl, f5⟩; have F5 := hid (F4.out.trans f5); have F15 := hid (F14.out.trans f5); clear f5)
  obtain ⟨z0, _, _, _⟩ := CC.out W5 F5.out
  clear y0 y1
  go_upto_region 9 with (go_at_call 19; refine (SP.out W5 F15.out).mono ?_; rintro e W6 ⟨G, rfl, rs', f6⟩; have RS := hid (rs'.base F15.out.size); have F6 := hid (F5.out.trans f6); have F16 := hid (F15.out.trans f6); clear rs' f6)
  obtain ⟨u0, _, _, _⟩ := CC.out W6 F6.out
  have C1 := hid (CL1.out W6 F16.out)
  rw [LD.out] at C1
  have hfc : (fa : Int) ≤ (c : Int) := by omega
  clear z0 CL1 U1 U2 SP OF
  go_upto_region 12 with (go_at_call 20; refine C1.out.mono ?_; rintro e W7 ⟨dv, rfl, o7, f7⟩; obtain ⟨da, dc, rfl, _⟩ := ownsRow_slice o7; have O7 := hid o7; have F7 := hid f7; have F17 := hid (F16.out.trans f7); clear o7 f7)
  have C2 := hid (CL2.out W7 F17.out)
  rw [LF.out] at C2
  clear C1 CL2
  go_wp2_with (go_at_call 20; refine C2.out.mono ?_; rintro e W8 ⟨fv, rfl, o8, f8⟩; obtain ⟨fa2, fc2, rfl, _⟩ := ownsRow_slice o8; have O8 := hid o8; have F8 := hid f8; have F18 := hid (F17.out.trans f8); clear o8 f8)
  go_ret2
  have fA : Fr [] W8 (W8.alloc (.cells #[.slice da fa dc, .slice fa2 fs fc2, .slice (some ⟨G, 0, none⟩) ips.length ips.length] 62)) := (Fr.refl _ _).alloc _
  refine ⟨W8.heap.size, da, dc, fa2, fc2, G, rfl, ⟨F18.out.size, ⟨?_, ?_, ?_, ?_⟩, ?_, ?_, ((RS.out.fr F7.out).fr F8.out).fr fA⟩, F18.out.trans fA⟩
  · rw [LD.out, LF.out]; exact blk_new _ _
  · rw [LD.out]; exact (Rd.ownN (ownsRow_fr O7.out F8.out) LD.out.symm).fr fA
  · rw [LF.out]; exact (Rd.ownN O8.out LF.out.symm).fr fA
  · exact (((RS.out.fr F7.out).fr F8.out).fr fA).rd
  · intro k hk; exact Nat.le_trans F16.out.size (O7.out.lt k (by rw [LD.out] at hk; exact hk)).1
  · intro k hk; exact Nat.le_trans F17.out.size (O8.out.lt k (by rw [LF.out] at hk; exact hk)).1
end Go.Proofs.YtnnookkcnmgbfaaGreat
