/-
  Few lists.
-/
import Derived.Test.YthmlpjogbdpgiaaCU9
import Derived.Test.YthmlpjogbdpgiaaJ11
import Derived.Test.YthmlpjogbdpgiaaSl
import Derived.ShutString
import Derived.ChangeOld
import Derived.SizedLaws
import Derived.Deep.Matrix
namespace Go.Proofs.Ythmlpjogbdpgiaa
open Go.ChangeShapes Go.WideShapes Go.ChangeAt Go.RowKit

def FewO (LL : List Ps) (e : Ending) : Prop := (e = .returned (.bool true) ∧ LL.length ≤ 8 ∧ LL.flatten.length ≤ 80) ∨ e = .returned (.bool false)
set_option maxRecDepth 20000 in
set_option maxHeartbeats 3200000 in
theorem few10_c (w : World) {lv : Value} {LL : List Ps} (h : RdLL w lv LL) (hn : LL.length ≤ 140737488355328) (hp : ∀ p ∈ LL, p.length ≤ 140737488355328) :
    Calls Try.prog 9 #[lv] w fun e w' => FewO LL e ∧ Fr [] w w' := by
  obtain ⟨la, lc, rfl, hlc, k1⟩ := h
  have H1 := hid k1
  have HP := hid hp
  obtain ⟨n, hnn⟩ : ∃ n, n = LL.length := ⟨_, rfl⟩
  have HN := hid hnn
  rw [← hnn] at hn hlc ⊢
  clear k1 hnn hp
  go_enter Try.func9, Try.ntmps9
  go_wp2_with fail
  go_loopw [3, 4] (fun v3 v4 wr => ∃ i m : Nat, v3 = .int .i64 (m : Int) ∧ v4 = .int .i64 (i : Int) ∧ i ≤ n ∧ m = (LL.take i).flatten.length ∧ m ≤ 140737488355408 ∧ Fr [] w wr) (fun _ v4 _ => n - (intOf v4).toNat)
  case atStart => exact ⟨0, 0, rfl, rfl, Nat.zero_le _, by simp, by omega, Fr.refl _ _⟩
  case round =>
    obtain ⟨i, m, rfl, rfl, hi, hm, hmb, hf⟩ := hrel
    have HF := hid hf
    have HM := hid hm
    clear hf hm
    by_cases hlt : i < n
    · by_cases h8 : m ≤ 80
      · obtain ⟨p, hpp⟩ : ∃ p, LL[i]? = some p := ⟨_, List.getElem?_eq_getElem (by rw [← HN.out]; exact hlt)⟩
        obtain ⟨b, off, rfl, mm⟩ := H1.out (by rw [← HN.out]; omega)
        obtain ⟨ua, uc, z0, _⟩ := mm i p hpp
        have z1 := cell_fr HF.out z0
        have hpl := HP.out p (List.mem_of_getElem? hpp)
        have HM2 : Hid (m + p.length = (LL.take (i + 1)).flatten.length) := hid (by rw [take_oneL hpp, HM.out]; simp)
        have hlt' : (i : Int) < (n : Int) := by omega
        have h8' : (m : Int) ≤ 80 := by omega
        generalize p.length = pl at *
        clear mm z0 hpp
        go_wp2
        go_roundw
        case rel => exact ⟨i + 1, m + pl, by go_num, by go_num, by omega, HM2.out, by omega, HF.out⟩
        case measure => simp [intOf]; omega
      · have hlt' : (i : Int) < (n : Int) := by omega
        have h8' : ¬ (m : Int) ≤ 80 := by omega
        by_cases h9 : n ≤ 8
        · have h9' : (n : Int) ≤ 8 := by omega
          go_wp2
          go_ret
          exact ⟨.inr rfl, HF.out⟩
        · have h9' : ¬ (n : Int) ≤ 8 := by omega
          go_wp2
          go_ret
          exact ⟨.inr rfl, HF.out⟩
    · have hin : i = n := by omega
      have hlt' : ¬ (i : Int) < (n : Int) := by omega
      have HMA : Hid (m = LL.flatten.length) := hid (by rw [HM.out, List.take_of_length_le (by rw [← HN.out]; omega)])
      by_cases h9 : n ≤ 8
      · have h9' : (n : Int) ≤ 8 := by omega
        by_cases h8 : m ≤ 80
        · have h8' : (m : Int) ≤ 80 := by omega
          go_wp2
          go_ret
          exact ⟨.inl ⟨rfl, by rw [← HN.out]; exact h9, by rw [← HMA.out]; exact h8⟩, HF.out⟩
        · have h8' : ¬ (m : Int) ≤ 80 := by omega
          go_wp2
          go_ret
          exact ⟨.inr rfl, HF.out⟩
      · have h9' : ¬ (n : Int) ≤ 8 := by omega
        go_wp2
        go_ret
        exact ⟨.inr rfl, HF.out⟩
end Go.Proofs.Ythmlpjogbdpgiaa
namespace Go.Proofs.Ythmlpjogbdpgiaa
open Go.ChangeShapes Go.WideShapes Go.ChangeAt Go.RowKit

set_option maxRecDepth 20000 in
set_option maxHeartbeats 4000000 in
theorem kvs_c {w : World} {v1 v2 : Value} {ps : Ps} (h1 : RdK w v1 ps) (h2 : RdK w v2 ps) (hl : ps.length ≤ 1000000) :
    Calls Try.prog 12 #[v1, v2] w fun e w' => e = .returned (.bool true) ∧ Fr [] w w' := by
  obtain ⟨a1, c1, rfl, _, k1⟩ := h1
  obtain ⟨a2, c2, rfl, _, k2⟩ := h2
  have H1 := hid k1
  have H2 := hid k2
  clear k1 k2
  obtain ⟨n, hn⟩ : ∃ n, n = ps.length := ⟨_, rfl⟩
  have HN := hid hn
  rw [← hn] at hl ⊢
  clear hn
  go_enter Try.func12, Try.ntmps12
  go_wp2_with fail
  go_loopw [5] (fun v5 wr => ∃ k : Nat, k ≤ n ∧ v5 = .int .i64 (k : Int) ∧ Fr [] w wr) (fun v5 _ => n - (intOf v5).toNat)
  case atStart => exact ⟨0, Nat.zero_le _, rfl, Fr.refl _ _⟩
  case round =>
    obtain ⟨k, hk, rfl, hf⟩ := hrel
    have HF := hid hf
    clear hf
    by_cases hlt : k < n
    · obtain ⟨p, hp⟩ : ∃ p, ps[k]? = some p := ⟨_, List.getElem?_eq_getElem (by rw [← HN.out]; exact hlt)⟩
      obtain ⟨b1, o1, rfl, m1⟩ := H1.out (by have := HN.out; omega)
      obtain ⟨b2, o2, rfl, m2⟩ := H2.out (by have := HN.out; omega)
      obtain ⟨ka1, kc1, va1, vc1, P1⟩ := m1 k p hp
      obtain ⟨ka2, kc2, va2, vc2, P2⟩ := m2 k p hp
      have hs1 : ((strOf p.1).toList == (strOf p.1).toList) = true := (by simp)
      have hs2 : ((strOf p.2).toList == (strOf p.2).toList) = true := (by simp)
      have z1 := cell_fr HF.out P1.ck
      have z2 := cell_fr HF.out P1.cv
      have z3 := cell_fr HF.out P2.ck
      have z4 := cell_fr HF.out P2.cv
      have g1 := fun m : Nat => run_conv ((P1.rk.fr HF.out).fr ((Fr.refl [] wr).drewN m))
      have g2 := fun m : Nat => run_conv ((P1.rv.fr HF.out).fr ((Fr.refl [] wr).drewN m))
      have g3 := fun m : Nat => run_conv ((P2.rk.fr HF.out).fr ((Fr.refl [] wr).drewN m))
      have g4 := fun m : Nat => run_conv ((P2.rv.fr HF.out).fr ((Fr.refl [] wr).drewN m))
      have hlt' : (k : Int) < (n : Int) := by omega
      clear m1 m2 hp P1 P2
      generalize p.1.length = l1 at *
      generalize p.2.length = l2 at *
      generalize strOf p.1 = s1 at *
      generalize strOf p.2 = s2 at *
      go_upto_region 6 with fail
      go_quiet (fail)
      go_wp2
      go_roundw
      case rel => exact ⟨k + 1, by omega, by go_num, HF.out.drewN _⟩
      case measure => simp [intOf]; omega
    · have hk' : k = n := by omega
      subst hk'
      go_wp2
      go_ret
      exact ⟨rfl, HF.out⟩
theorem RdK.one {w : World} {b off n c : Nat} {ps : Ps} (h : RdK w (.slice (some ⟨b, off, none⟩) n c) ps) {i : Nat} (hi : i < ps.length) : RdK w (.slice (some ⟨b, off + i * 2, none⟩) 1 (c - i)) [(kA ps i, vA ps i)] := by
  obtain ⟨a, c', e, hc, k1⟩ := h
  obtain ⟨b', off', e', m1⟩ := k1 (by omega)
  subst e'
  simp only [Value.slice.injEq, Option.some.injEq, Addr.mk.injEq] at e
  obtain ⟨⟨rfl, rfl, _⟩, _, rfl⟩ := e
  refine ⟨_, _, rfl, by simp; omega, fun _ => ⟨_, _, rfl, fun j p hj => ?_⟩⟩
  have h0 : j = 0 := by
    rcases Nat.lt_or_ge j 1 with h | h
    · omega
    · rw [List.getElem?_eq_none (by simpa using h)] at hj; cases hj
  subst h0
  simp at hj
  subst hj
  have := m1 i _ (ps_at hi)
  simpa using this
theorem RdK.lit {w : World} {X : Nat} {ka va : Option Addr} {kc vc : Nat} {k v : List Nat} (hX : w.heap[X]? = some (.cells #[.slice ka k.length kc, .slice va v.length vc] 50 (0, 0))) (rk : Rd w (.slice ka k.length kc) (bv k)) (rv : Rd w (.slice va v.length vc) (bv v)) (bk : By k) (bv' : By v) (lk : k.length ≤ 140737488355328) (lv : v.length ≤ 140737488355328) : RdK w (.slice (some ⟨X, 0, none⟩) 1 1) [(k, v)] := by
  refine ⟨_, _, rfl, Nat.le_refl _, fun _ => ⟨_, _, rfl, fun j p hj => ?_⟩⟩
  have h0 : j = 0 := by
    rcases Nat.lt_or_ge j 1 with h | h
    · omega
    · rw [List.getElem?_eq_none (by simpa using h)] at hj; cases hj
  subst h0
  simp at hj
  subst hj
  exact ⟨ka, kc, va, vc, by rw [blk_cell hX]; rfl, by rw [blk_cell hX]; rfl, rk, rv, bk, bv', lk, lv⟩
end Go.Proofs.Ythmlpjogbdpgiaa
namespace Go.Proofs.Ythmlpjogbdpgiaa
open Go.ChangeShapes Go.WideShapes Go.ChangeAt Go.RowKit

set_option maxRecDepth 20000 in
set_option maxHeartbeats 6400000 in
theorem cmerges_c (w : World) {lv dv : Value} {LL : List Ps} {sp : Ps} (h : RdLL w lv LL) (hd : RdK w dv sp) (hn : LL.length ≤ 140737488355328) (hp : ∀ p ∈ LL, p.length ≤ 140737488355328) (hs : sp.length ≤ 140737488355328) (old : Nat) :
    Calls Try.prog 3 #[lv, .int .u64 (old : Int), dv] w fun e w' => e = .returned (.bool true) ∧ Fr [] w w' := by
  have HL := hid h
  have HD := hid hd
  have HP := hid hp
  obtain ⟨la, lc, rfl, hlc, _⟩ := h
  obtain ⟨da, dc, rfl, hdc, _⟩ := hd
  obtain ⟨n, hnn⟩ : ∃ n, n = LL.length := ⟨_, rfl⟩
  obtain ⟨dn, hdn⟩ : ∃ n, n = sp.length := ⟨_, rfl⟩
  have HN := hid hnn
  have HDN := hid hdn
  rw [← hnn] at hn hlc HL ⊢
  rw [← hdn] at hs hdc HD ⊢
  clear hnn hdn hp
  have KN := hid (known10_c w)
  go_enter Try.func3, Try.ntmps3
  go_upto_if 12 with (go_at_call 8; refine KN.out.mono ?_; rintro e w1 ⟨rfl, f1, hz⟩)
  have F1 := hid f1
  have HZ := hid hz
  clear f1 hz KN
  have FW := hid (few10_c w1 (HL.out.fr F1.out) (by rw [← HN.out]; exact hn) HP.out)
  by_cases h20 : dn ≤ 20
  · have h20' : (dn : Int) ≤ 20 := by omega
    go_upto_if 20 with (go_at_call 9; refine FW.out.mono ?_; rintro e w2 ⟨hq, f2⟩; rcases hq with ⟨rfl, h8, h80⟩ | rfl)
    · have F2 := hid (F1.out.trans f2)
      have HZ2 := hid (Nat.lt_of_lt_of_le HZ.out f2.size)
      have H80 := hid h80
      have H8 := hid h8
      clear f2 h8 h80
      have MC := hid (merge_c w2 (HL.out.fr F2.out) (HD.out.fr F2.out) (by have := H8.out; omega) (by have := H80.out; omega) (by rw [← HDN.out]; omega) HZ2.out old)
      go_upto_region 6 with (go_at_call 10; refine MC.out.mono ?_; rintro e w3 ⟨hq, f3⟩; rcases hq with ⟨S, v, hr, hm, rfl, hc⟩ | ⟨hr, rfl⟩)
      · have F3 := hid (F2.out.trans f3)
        have RC := hid (rmerge_c w3 (HL.out.fr F3.out) (HD.out.fr F3.out) (by have := H8.out; omega) (by have := H80.out; omega) (by rw [← HDN.out]; omega) old)
        have RM := hid hc.rd
        have HR := hid hr
        have MG := hid hm
        clear f3 hr hm hc
        go_upto_region 7 with (go_at_call 11; refine RC.out.mono ?_; rintro e w4 ⟨hq, f4⟩; rcases hq with ⟨S', v', _, hm', rfl, hc'⟩ | ⟨hr', rfl⟩)
        · have e := MG.out.one hm'
          subst e
          have F4 := hid (F3.out.trans f4)
          have KC := hid (kvs_c (RM.out.fr f4) hc' (Nat.le_trans (kept_len _ _ _ _) (by rw [MG.out.1.length_eq]; have := H80.out; omega)))
          clear f4 hc' hm'
          go_wp2_with (go_at_call 12; refine KC.out.mono ?_; rintro e w5 ⟨rfl, f5⟩; have F5 := hid (F4.out.trans f5); clear f5)
          go_ret
          exact ⟨rfl, F5.out⟩
        · exact absurd hr' (by
            rintro (⟨p, hp, hn⟩ | hn)
            · exact hn (HR.out p hp)
            · exact hn _ MG.out)
      · have F3 := hid (F2.out.trans f3)
        have RC := hid (rmerge_c w3 (HL.out.fr F3.out) (HD.out.fr F3.out) (by have := H8.out; omega) (by have := H80.out; omega) (by rw [← HDN.out]; omega) old)
        have HR := hid hr
        clear f3 hr
        go_upto_region 7 with (go_at_call 11; refine RC.out.mono ?_; rintro e w4 ⟨hq, f4⟩; rcases hq with ⟨S', v', hr', hm', rfl, hc'⟩ | ⟨hr', rfl⟩)
        · exact absurd HR.out (by
            rintro (⟨p, hp, hn⟩ | hn)
            · exact hn (hr' p hp)
            · exact hn _ hm')
        · have F4 := hid (F3.out.trans f4)
          have KC := hid (kvs_c (RdK.nil w4) (RdK.nil w4) (by simp))
          clear f4 hr'
          go_wp2_with (go_at_call 12; refine KC.out.mono ?_; rintro e w5 ⟨rfl, f5⟩; have F5 := hid (F4.out.trans f5); clear f5)
          go_ret
          exact ⟨rfl, F5.out⟩
    · have F2 := hid (F1.out.trans f2)
      clear f2
      go_wp2
      go_ret
      exact ⟨rfl, F2.out⟩
  · have h20' : ¬ (dn : Int) ≤ 20 := by omega
    go_upto_if 20 with (go_at_call 9; refine FW.out.mono ?_; rintro e w2 ⟨hq, f2⟩; rcases hq with ⟨rfl, h8, h80⟩ | rfl)
    · have F2 := hid (F1.out.trans f2)
      clear f2
      go_wp2
      go_ret
      exact ⟨rfl, F2.out⟩
    · have F2 := hid (F1.out.trans f2)
      clear f2
      go_wp2
      go_ret
      exact ⟨rfl, F2.out⟩
end Go.Proofs.Ythmlpjogbdpgiaa
namespace Go.Proofs.Ythmlpjogbdpgiaa
open Go.ChangeShapes Go.WideShapes Go.ChangeAt Go.RowKit Go.Deep

theorem ownKnobs : ownKnob Try.prog.godebug = none := by kernel_rfl
theorem laidOut : laidOutB Try.prog = true := by kernel_rfl

theorem nat_of {n : Int} (h : 0 ≤ n) : ∃ m : Nat, n = (m : Int) := ⟨n.toNat, by omega⟩

/-- Bytes that came in. -/
theorem bytes_of {H : Type} {enc : TypeId × Value → H} {W : World} {ua : Option Addr} {len uc : Nat} {d : DataW H} {ps : List MemPlace} (h : DataW.Trod enc Try.prog W 0 (fun _ => true) true 35 (.slice ua len uc) d ps)
    (hw : ∀ n ∈ d.weights Try.prog 35, n ≤ reachBytes) : ∃ ns : List Nat, ns.length = len ∧ Rd W (.slice ua len uc) (bv ns) ∧ By ns ∧ len ≤ 140737488351232 := by
  obtain ⟨fuel, hf⟩ := h
  rcases open_ints Try.underlying35 Try.underlying5 (by kernel_rfl) hf with ⟨hcs, _⟩ | ⟨a, l, c, zs, hcs, _, hl, hm, hz, hx, hcell, hwf⟩
  · simp [Value.cells] at hcs
    obtain ⟨rfl, rfl, rfl⟩ := hcs
    exact ⟨[], rfl, .inl ⟨rfl, rfl⟩, fun u hu => by simp at hu, by omega⟩
  · simp [Value.cells] at hcs
    obtain ⟨rfl, rfl, rfl⟩ := hcs
    simp only [Prod.mk.injEq] at hx
    obtain ⟨rfl, _⟩ := hx
    simp only [if_true] at hz
    have hXl : ((zs.take len).map Int.toNat).length = len := by rw [List.length_map, List.length_take]; omega
    have hb : ∀ z ∈ zs, 0 ≤ z ∧ z ≤ 255 := fun z hz' => bounds_u8 (hwf z hz')
    refine ⟨(zs.take len).map Int.toNat, hXl, .inr ⟨a, uc, by rw [bv_len, hXl], by rw [bv_len, hXl]; exact hl, fun j u hj => ?_⟩, fun u hu => ?_, ?_⟩
    · have hjl : j < len := by
        rcases Nat.lt_or_ge j len with h | h
        · exact h
        · rw [List.getElem?_eq_none (by rw [bv_len, hXl]; omega)] at hj; cases hj
      have hjz : j < zs.length := by omega
      rw [hcell j hjz]
      unfold bv at hj
      rw [List.getElem?_map, List.getElem?_map, List.getElem?_take, if_pos hjl, List.getElem?_eq_getElem hjz] at hj
      simp only [Option.map_some, Option.some.injEq] at hj
      rw [← hj]
      have h0 := hb _ (List.getElem_mem hjz)
      simp only [List.getD, List.getElem?_eq_getElem hjz, Option.getD_some, Int.toNat_of_nonneg h0.1]
    · obtain ⟨n, hn, rfl⟩ := List.mem_map.1 hu
      have := hb n (List.mem_of_mem_take hn)
      omega
    · have h1 := hw (uc * Try.prog.bytesOf 5) (by
        simp only [DataW.weights, Try.underlying35]
        refine List.mem_cons.2 (.inl ?_)
        rw [lits, lits, List.length_map, List.length_map, List.length_take, List.length_drop, hz]
        congr 1; omega)
      rw [show Try.prog.bytesOf 5 = 1 from by kernel_rfl] at h1
      unfold reachBytes at h1
      omega
end Go.Proofs.Ythmlpjogbdpgiaa
