/-
  ManifestLogs walked.
-/
import Derived.Test.YtmhhdlcdfgahkaaDoorWCE
namespace Go.Proofs.YtmhhdlcdfgahkaaDoor
open Go.ChangeShapes Go.WideShapes Go.ChangeAt Go.RowKit

/-- A cut log is replayed to the version that is told. -/
theorem LgS.replay {W1 wr : World} {Q5 Q6 : Nat} {es : List Ed} {cut : Int} {i : Nat} {u t : Vn} {kd : Nat → Option Addr} {kl kc : Nat → Nat} {td : Nat → Option Addr} {tl tc : Nat → Nat} {ba : Option Addr} {bl bc : Nat} (h : LgS W1 wr Q5 Q6 es cut i u t kd kl kc td tl tc ba bl bc) (h12 : i ≤ 12) (hi : i ≤ es.length) (hc : 0 ≤ cut) {mm : Nat} (hm : mm = min cut.toNat bl) :
    Calls Tryd.prog 9 #[.slice ba mm bc] wr fun r w' => ∃ (md : Nat → Option Addr) (ml mc : Nat → Nat), r = .returned (.tuple #[.agg #[.int .i64 t.log, .int .i64 t.next, .int .u64 (t.seq : Int), .slice (md 0) (ml 0) (mc 0), .slice (md 1) (ml 1) (mc 1), .slice (md 2) (ml 2) (mc 2), .slice (md 3) (ml 3) (mc 3), .slice (md 4) (ml 4) (mc 4)], .int .i64 (cntI cut (accL es i) : Int), .int .i64 ((logL 0 ((accL es i).take (cntI cut (accL es i)))).length : Int), .int .i64 0]) ∧ VAt w' t.lv md ml mc ∧ Fr [] wr w' := by
  have hl := accL_len hi
  have hby : ∀ r ∈ accL es i, By r := fun r hr => (h.ok r hr).1
  have h1 := acc_short (rs := accL es i) (by omega) (fun r hr => (h.ok r hr).2.1)
  have hle : mm ≤ bl := by rw [hm]; exact Nat.min_le_right _ _
  have h2 := (Rd.ownN h.bo h.bn).upto9 hle
  have h3 := read_min hby hc
  rw [← h.bn, ← hm] at h3
  have sub : ∀ r ∈ (accL es i).take (cntI cut (accL es i)), r ∈ accL es i := fun r hr => List.mem_of_mem_take hr
  have hin := cntI_le cut (accL es i)
  refine (replay_c wr h2 ((logL_by _ 0 hby).take mm) (by rw [List.length_take]; omega) ?_ ?_ ?_).mono fun r w' hr => ?_
  · rw [h3]
    intro r hr
    obtain ⟨q1, q2, q3⟩ := h.ok r (sub r hr)
    exact ⟨by omega, fun e he => ⟨by have := (q3 e he).1; omega, by have := (q3 e he).2; omega⟩⟩
  · rw [h3]
    intro k s hs j hj
    have hs' : RplF vz (((accL es i).take (cntI cut (accL es i))).take k) s := hs
    have h4 := hs'.short (A := 30) (fun r hr e he => ((h.ok r (sub r (List.mem_of_mem_take hr))).2.2 e he).1) hj
    have h5 : (((accL es i).take (cntI cut (accL es i))).take k).length ≤ 12 := by rw [List.length_take, List.length_take]; omega
    have h6 : (vz.lv j).length = 0 := rfl
    have h7 := Nat.mul_le_mul_right 30 h5
    omega
  · rw [h3]
    show ((accL es i).take _).length ≤ 1000000
    rw [List.length_take]
    omega
  · have ho := hr.out
    rw [h3] at ho
    rcases ho with ⟨s, md, ml, mc, q1, q2, q3⟩ | ⟨k, r0, s, c, q1, q2, q3, _⟩
    · have es' := h.tp.one q1
      subst es'
      refine ⟨md, ml, mc, ?_, q3, hr.fr⟩
      rw [q2]
      simp only [List.length_take, Nat.min_eq_left hin]
    · exact absurd q3 (h.tp.bad q2 q1)
/-- The versions are one. -/
theorem LgS.told {W1 wr : World} {Q5 Q6 : Nat} {es : List Ed} {cut : Int} {i : Nat} {u t : Vn} {kd : Nat → Option Addr} {kl kc : Nat → Nat} {td : Nat → Option Addr} {tl tc : Nat → Nat} {ba : Option Addr} {bl bc : Nat} (h : LgS W1 wr Q5 Q6 es cut i u t kd kl kc td tl tc ba bl bc) {W' : World} (f : Fr [] wr W') {md : Nat → Option Addr} {ml mc : Nat → Nat} (hv : VAt W' t.lv md ml mc) :
    Calls Tryd.prog 10 #[.agg #[.int .i64 t.log, .int .i64 t.next, .int .u64 (t.seq : Int), .slice (md 0) (ml 0) (mc 0), .slice (md 1) (ml 1) (mc 1), .slice (md 2) (ml 2) (mc 2), .slice (md 3) (ml 3) (mc 3), .slice (md 4) (ml 4) (mc 4)], .agg #[.int .i64 t.log, .int .i64 t.next, .int .u64 (t.seq : Int), .slice (td 0) (tl 0) (tc 0), .slice (td 1) (tl 1) (tc 1), .slice (td 2) (tl 2) (tc 2), .slice (td 3) (tl 3) (tc 3), .slice (td 4) (tl 4) (tc 4)]] W' fun r w' => r = .returned (.bool true) ∧ Fr [] W' w' := by
  have h2 := (h.kt.fr f).self
  have hl : ∀ i, i < 5 → tl i = ml i := fun i hi => by rw [hv.len i hi, h2.len i hi]
  rw [hl 0 (by omega), hl 1 (by omega), hl 2 (by omega), hl 3 (by omega), hl 4 (by omega)]
  refine version_c W' _ _ _ hv ⟨hv.len, hv.small, fun i hi h0 => ?_⟩
  exact h2.rd i hi (by rw [hl i hi]; exact h0)
set_option maxRecDepth 20000 in
set_option maxHeartbeats 6400000 in
theorem logs_c (w : World) {a : Option Addr} {n c : Nat} {es : List Ed} (hn : n = es.length) (h : EsAt w (.slice a n c) es) (hl : n ≤ 140737488355328) (cut : Int) :
    Calls Tryd.prog 3 #[.slice a n c, .int .i64 cut] w fun r w' => r = .returned (.bool true) ∧ Fr [] w w' := by
  have KN := hid (known9_c w)
  have HE := hid h
  have HN := hid hn
  clear h hn
  go_enter Tryd.func3, Tryd.ntmps3
  by_cases h12 : n ≤ 12
  case neg =>
    have h12' : (12 : Int) < (n : Int) := by omega
    go_wp2_with (go_at_call 4; refine KN.out.mono ?_; rintro r W1 ⟨rfl, f1⟩; have F1 := hid f1; clear f1)
    go_ret
    exact ⟨rfl, F1.out⟩
  case pos =>
  have h12' : ¬ (12 : Int) < (n : Int) := by omega
  go_upto_region 5 with (go_at_call 4; refine KN.out.mono ?_; rintro r W1 ⟨rfl, f1⟩; have F1 := hid f1; clear f1)
  clear KN
  obtain ⟨Q5, hQ5⟩ : ∃ Q5, Q5 = W1.heap.size := ⟨_, rfl⟩
  obtain ⟨W2, hW2⟩ : ∃ W2, W2 = W1.alloc (.cells #[.int .i64 0, .int .i64 0, .int .u64 0, .slice none 0 0, .slice none 0 0, .slice none 0 0, .slice none 0 0, .slice none 0 0] 28) := ⟨_, rfl⟩
  have f2 : Fr [] W1 W2 := by rw [hW2]; exact (Fr.refl _ _).alloc _
  have n2 : W2.heap[Q5]? = some (.cells #[.int .i64 0, .int .i64 0, .int .u64 0, .slice none 0 0, .slice none 0 0, .slice none 0 0, .slice none 0 0, .slice none 0 0] 28 (0, 0)) := by rw [hW2, hQ5]; exact blk_new _ _
  have hq5 : W1.heap.size ≤ Q5 := by omega
  go_upto_region 6 with fail
  rw [← hW2, ← hQ5]
  clear hW2 hQ5
  obtain ⟨z0, z1, z2, z3, z4, z5, z6, z7⟩ := vn_cells n2
  obtain ⟨Q6, hQ6⟩ : ∃ Q6, Q6 = W2.heap.size := ⟨_, rfl⟩
  obtain ⟨W3, hW3⟩ : ∃ W3, W3 = W2.alloc (.cells #[.int .i64 0, .int .i64 0, .int .u64 0, .slice none 0 0, .slice none 0 0, .slice none 0 0, .slice none 0 0, .slice none 0 0] 28) := ⟨_, rfl⟩
  have f3 : Fr [] W2 W3 := by rw [hW3]; exact (Fr.refl _ _).alloc _
  have L0 : Hid (LgS W1 W3 Q5 Q6 es cut 0 vz vz (fun _ => none) (fun _ => 0) (fun _ => 0) (fun _ => none) (fun _ => 0) (fun _ => 0) none 0 0) := hid (LgS.new es cut (f3.at n2 (by simp)) (by rw [hW3, hQ6]; exact blk_new _ _) (f2.trans f3) hq5 (by rw [hQ6]; exact f2.size) (by have := blk_lt n2; omega))
  go_upto_region 7 with fail
  rw [← hW3, ← hQ6]
  clear hW3 hQ6 z0 z1 z2 z3 z4 z5 z6 z7 n2 f2 f3 hq5
  have HC0 : Hid (cntI cut (accL es 0) = 0) := hid (cntI_nil cut)
  go_upto_region 9 with fail
  go_wp2_with fail
  go_loopw [7, 8, 9, 10] (fun v7 v8 v9 v10 wr => ∃ (i : Nat) (u t : Vn) (kd : Nat → Option Addr) (kl kc : Nat → Nat) (td : Nat → Option Addr) (tl tc : Nat → Nat) (ba : Option Addr) (bl bc : Nat), i ≤ n ∧ v7 = .int .i64 (cntI cut (accL es i) : Int) ∧ v8 = .int .i64 ((logL 0 ((accL es i).take (cntI cut (accL es i)))).length : Int) ∧ v9 = .slice ba bl bc ∧ v10 = .int .i64 (i : Int) ∧ LgS W1 wr Q5 Q6 es cut i u t kd kl kc td tl tc ba bl bc) (fun _ _ _ v10 _ => n - (intOf v10).toNat)
  case atStart => exact ⟨0, vz, vz, _, _, _, _, _, _, none, 0, 0, by omega, by rw [HC0.out]; rfl, by rw [HC0.out]; rfl, rfl, rfl, L0.out⟩
  case round =>
    obtain ⟨i, u, t, kd, kl, kc, td, tl, tc, ba, bl, bc, hi, rfl, rfl, rfl, rfl, hls⟩ := hrel
    have LS := hid hls
    clear hls L0 HC0
    obtain ⟨m, hm⟩ : ∃ m, m = cntI cut (accL es i) := ⟨_, rfl⟩
    obtain ⟨le, hle⟩ : ∃ le, le = (logL 0 ((accL es i).take m)).length := ⟨_, rfl⟩
    have HM := hid hm
    have HLE := hid hle
    rw [← hm, ← hle]
    have hm12 : m ≤ 12 := by
      have h1 := cntI_le cut (accL es i)
      rw [accL_len (by rw [← HN.out]; exact hi)] at h1
      omega
    have hbl : bl ≤ 4194304 := by
      rw [LS.out.bn]
      exact acc_short (by rw [accL_len (by rw [← HN.out]; exact hi)]; omega) (fun r hr => (LS.out.ok r hr).2.1)
    clear hm hle
    by_cases hlt : i < n
    · have hlt' : (i : Int) < (n : Int) := by omega
      obtain ⟨e, he⟩ : ∃ e, es[i]? = some e := ⟨_, List.getElem?_eq_getElem (by rw [← HN.out]; exact hlt)⟩
      obtain ⟨a2, c2, e1, k1⟩ := HE.out.fr (F1.out.trans LS.out.fr)
      simp only [Value.slice.injEq] at e1
      obtain ⟨rfl, en1, rfl⟩ := e1
      clear en1
      obtain ⟨b, off, hab, m1⟩ := k1 (by rw [← HN.out]; omega)
      subst hab
      obtain ⟨da, dc, aa, ac, xc, g⟩ := m1 i e he
      have HEI := hid he
      have EA := hid g
      clear k1 m1 he g
      obtain ⟨dl, hdl⟩ : ∃ dl, dl = e.drop.length := ⟨_, rfl⟩
      obtain ⟨al, hal⟩ : ∃ al, al = e.add.length := ⟨_, rfl⟩
      have HDA := hid (And.intro hdl hal)
      rw [← hdl, ← hal] at xc
      clear hdl hal
      have XC : Hid (∀ W, Fr [] wr W → W.cell? ⟨b, off + i * 5, none⟩ = some (.int .i64 e.log) ∧ W.cell? ⟨b, off + i * 5 + 1, none⟩ = some (.int .i64 e.next) ∧ W.cell? ⟨b, off + i * 5 + 2, none⟩ = some (.int .u64 (e.seq : Int)) ∧ W.cell? ⟨b, off + i * 5 + 3, none⟩ = some (.slice da dl dc) ∧ W.cell? ⟨b, off + i * 5 + 4, none⟩ = some (.slice aa al ac)) := hid (fun W f => ⟨cell_fr f xc.1, cell_fr f xc.2.1, cell_fr f xc.2.2.1, cell_fr f xc.2.2.2.1, cell_fr f xc.2.2.2.2⟩)
      clear xc
      obtain ⟨x0, x1, x2, x3, x4⟩ := XC.out wr (Fr.refl _ _)
      have FW : Hid (Calls Tryd.prog 5 #[.agg #[.int .i64 e.log, .int .i64 e.next, .int .u64 (e.seq : Int), .slice da dl dc, .slice aa al ac]] wr fun r w' => r = .returned (.bool (decide (dl ≤ 30) && decide (al ≤ 30))) ∧ Fr [] wr w') := hid (few9_c wr)
      by_cases hfew : dl ≤ 30 ∧ al ≤ 30
      case neg =>
        have FW0 : Hid (Calls Tryd.prog 5 #[.agg #[.int .i64 e.log, .int .i64 e.next, .int .u64 (e.seq : Int), .slice da dl dc, .slice aa al ac]] wr fun r w' => r = .returned (.bool false) ∧ Fr [] wr w') := hid (by
          have := FW.out
          have e1 : (decide (dl ≤ 30) && decide (al ≤ 30)) = false := by rw [Bool.eq_false_iff]; intro h; simp at h; exact hfew h
          rw [e1] at this
          exact this)
        clear FW hfew
        go_wp2_with (go_at_call 5; refine FW0.out.mono ?_; rintro r W2 ⟨rfl, f2⟩; have F2 := hid f2; clear f2)
        go_ret
        exact ⟨rfl, F1.out.trans (LS.out.fr.trans F2.out)⟩
      case pos =>
      have FW1 : Hid (Calls Tryd.prog 5 #[.agg #[.int .i64 e.log, .int .i64 e.next, .int .u64 (e.seq : Int), .slice da dl dc, .slice aa al ac]] wr fun r w' => r = .returned (.bool true) ∧ Fr [] wr w') := hid (by have := FW.out; rw [decide_eq_true hfew.1, decide_eq_true hfew.2] at this; exact this)
      have HFEW := hid hfew
      clear FW hfew
      go_upto_region 14 with (go_at_call 5; refine FW1.out.mono ?_; rintro r W2 ⟨rfl, f2⟩; have F2 := hid f2; clear f2)
      clear x0 x1 x2 x3 x4 FW1
      obtain ⟨x0, x1, x2, x3, x4⟩ := XC.out W2 F2.out
      have EN1 : Hid (Calls Tryd.prog 6 #[.agg #[.int .i64 e.log, .int .i64 e.next, .int .u64 (e.seq : Int), .slice da dl dc, .slice aa al ac]] W2 fun r w' => ∃ a n c x, r = .returned (.tuple #[.slice a n c, .int .i64 x]) ∧ EFm W2 w' e a n c x) := hid (by
        rw [HDA.out.1, HDA.out.2]
        exact enc_form W2 (EA.out.fr F2.out) (by rw [← HDA.out.1]; have := HFEW.out.1; omega) (by rw [← HDA.out.2]; have := HFEW.out.2; omega))
      go_upto_region 15 with (go_at_call 6; refine EN1.out.mono ?_; rintro r W4 ⟨a5, n5, c5, x5, rfl, e5⟩; have E5 := hid e5; have F4 := hid (F2.out.trans e5.fr); clear e5)
      clear x0 x1 x2 x3 x4 EN1 F2
      have L4 := hid (LS.out.fr' F4.out)
      have AC : Hid (∀ W, Fr [] W4 W → Calls Tryd.prog 7 #[.agg #[.int .i64 u.log, .int .i64 u.next, .int .u64 (u.seq : Int), .slice (kd 0) (kl 0) (kc 0), .slice (kd 1) (kl 1) (kc 1), .slice (kd 2) (kl 2) (kc 2), .slice (kd 3) (kl 3) (kc 3), .slice (kd 4) (kl 4) (kc 4)], .agg #[.int .i64 e.log, .int .i64 e.next, .int .u64 (e.seq : Int), .slice da dl dc, .slice aa al ac]] W fun r w' => ∃ (a0 a1 : Int) (a2 : Nat) (md : Nat → Option Addr) (ml mc : Nat → Nat) (x : Int), r = .returned (.tuple #[.agg #[.int .i64 a0, .int .i64 a1, .int .u64 (a2 : Int), .slice (md 0) (ml 0) (mc 0), .slice (md 1) (ml 1) (mc 1), .slice (md 2) (ml 2) (mc 2), .slice (md 3) (ml 3) (mc 3), .slice (md 4) (ml 4) (mc 4)], .int .i64 x]) ∧ Fr [] W w' ∧ (x ≠ 0 ∨ (x = 0 ∧ okE e = true ∧ ∃ U, okA9 u e U ∧ (a0 = e.log ∧ a1 = e.next ∧ a2 = e.seq) ∧ OwnV W.heap.size w' U md ml mc))) := hid (fun W f => by
        have va := (L4.out.kv.fr f).self
        rw [HDA.out.1, HDA.out.2]
        refine (apply_c W va ((EA.out.fr F4.out).fr f) (fun j hj => ?_) (by rw [← HDA.out.1]; have := HFEW.out.1; omega) (by rw [← HDA.out.2]; have := HFEW.out.2; omega)).mono fun r w' h => h.lg (L4.out.rp.chk vz_chk)
        rw [va.len j hj]
        have h1 := L4.out.rp.short (A := 30) (fun r hr e' he' => ((L4.out.ok r hr).2.2 e' he').1) hj
        have h2 : (vz.lv j).length = 0 := rfl
        rw [accL_len (by rw [← HN.out]; omega)] at h1
        omega)
      have SK : Hid (∀ W, Fr [] W4 W → _ ∧ _) := hid (fun W f => And.intro (vn_cells (f.at L4.out.n5 (by simp))) (XC.out W (F4.out.trans f)))
      go_cut [13, 14] from 48 to 56 (fun v13 v14 W => ∃ (Q13 : Nat) (a0 a1 : Int) (a2 : Nat) (md : Nat → Option Addr) (ml mc : Nat → Nat) (x : Int) (W7 : World), W7 = W ∧ v13 = .pointer (some ⟨Q13, 0, none⟩) ∧ v14 = .int .i64 x ∧ W4.heap.size ≤ Q13 ∧ W.heap[Q13]? = some (.cells #[.int .i64 a0, .int .i64 a1, .int .u64 (a2 : Int), .slice (md 0) (ml 0) (mc 0), .slice (md 1) (ml 1) (mc 1), .slice (md 2) (ml 2) (mc 2), .slice (md 3) (ml 3) (mc 3), .slice (md 4) (ml 4) (mc 4)] 28 (0, 0)) ∧ Fr [] W4 W ∧ (x ≠ 0 ∨ (x = 0 ∧ okE e = true ∧ ∃ U, okA9 u e U ∧ (a0 = e.log ∧ a1 = e.next ∧ a2 = e.seq) ∧ OwnV W4.heap.size W U md ml mc)))
      case first =>
        clear E5 HEI EA XC HFEW HDA LS L4 HE HN HM HLE
        refine wp_region_held_drew (S := fun w' => Fr [] W4 w') (by kernel_rfl) (Fr.refl [] W4).drew (fun hS => ?_)
        refine wpAnyH_take (i := 0) (v := .agg #[.int .i64 u.log, .int .i64 u.next, .int .u64 (u.seq : Int), .slice (kd 0) (kl 0) (kc 0), .slice (kd 1) (kl 1) (kc 1), .slice (kd 2) (kl 2) (kc 2), .slice (kd 3) (kl 3) (kc 3), .slice (kd 4) (kl 4) (kc 4)]) rfl (by kernel_rfl) (by kernel_rfl) (by kernel_rfl) (fun _ _ _ h => h) (.inl ⟨by kernel_rfl, fun wx hX => by obtain ⟨⟨s0, s1, s2, s3, s4, s5, s6, s7⟩, t0, t1, t2, t3, t4⟩ := SK.out wx hX; go_simp⟩) hS ?_
        simp only [Act.put, List.getElem_toArray, List.getElem_cons_zero, List.set_cons_succ, List.set_cons_zero, List.setIfInBounds_toArray]
        refine wpAnyH_take (i := 1) (v := .slice (some ⟨b, off, none⟩) n c) rfl (by kernel_rfl) (by kernel_rfl) (by kernel_rfl) (fun _ _ _ h => h) (.inl ⟨by kernel_rfl, fun wx _ => by go_simp⟩) hS ?_
        simp only [Act.put, List.getElem_toArray, List.getElem_cons_succ, List.getElem_cons_zero, List.set_cons_succ, List.set_cons_zero, List.setIfInBounds_toArray]
        refine wpAnyH_take (i := 2) (v := .int .i64 (i : Int)) rfl (by kernel_rfl) (by kernel_rfl) (by kernel_rfl) (fun _ _ _ h => h) (.inl ⟨by kernel_rfl, fun wx _ => by go_simp⟩) hS ?_
        simp only [Act.put, List.getElem_toArray, List.getElem_cons_succ, List.getElem_cons_zero, List.set_cons_succ, List.set_cons_zero, List.setIfInBounds_toArray]
        refine wpAnyH_take (i := 3) (v := .pointer (some ⟨b, off + i * 5, none⟩)) rfl (by kernel_rfl) (by kernel_rfl) (by kernel_rfl) (fun _ _ _ h => h) (.inl ⟨by kernel_rfl, fun wx _ => by go_simp⟩) hS ?_
        simp only [Act.put, List.getElem_toArray, List.getElem_cons_succ, List.getElem_cons_zero, List.set_cons_succ, List.set_cons_zero, List.setIfInBounds_toArray]
        refine wpAnyH_take (i := 4) (v := .agg #[.int .i64 e.log, .int .i64 e.next, .int .u64 (e.seq : Int), .slice da dl dc, .slice aa al ac]) rfl (by kernel_rfl) (by kernel_rfl) (by kernel_rfl) (fun _ _ _ h => h) (.inl ⟨by kernel_rfl, fun wx hX => by obtain ⟨⟨s0, s1, s2, s3, s4, s5, s6, s7⟩, t0, t1, t2, t3, t4⟩ := SK.out wx hX; go_simp⟩) hS ?_
        simp only [Act.put, List.getElem_toArray, List.getElem_cons_succ, List.getElem_cons_zero, List.set_cons_succ, List.set_cons_zero, List.setIfInBounds_toArray]
        clear hS
        refine wpAnyH_ready (rs := [5, 9]) (by kernel_rfl) (by simp) ?_
        refine AllReadyH.cons rfl (fun K hK => ?_) (AllReadyH.cons rfl (fun K hK => ?_) AllReadyH.nil)
        · go_simp
          refine (AC.out _ (Fr.refl [] W4).drew).mono ?_
          rintro r w6 ⟨a0, a1, a2, md, ml, mc, x, rfl, f6, h6⟩
          have F6 := hid ((Fr.refl [] W4).drew.trans f6)
          have H6 := hid h6
          clear f6 h6
          refine hK.out _ _ F6.out (fun hS => ?_)
          clear hK K
          refine wpAnyH_take (i := 6) (v := .tuple #[.agg #[.int .i64 a0, .int .i64 a1, .int .u64 (a2 : Int), .slice (md 0) (ml 0) (mc 0), .slice (md 1) (ml 1) (mc 1), .slice (md 2) (ml 2) (mc 2), .slice (md 3) (ml 3) (mc 3), .slice (md 4) (ml 4) (mc 4)], .int .i64 x]) rfl (by kernel_rfl) (by kernel_rfl) (by kernel_rfl) (fun _ _ _ h => h) (.inl ⟨by kernel_rfl, fun wx _ => by go_simp⟩) hS ?_
          simp only [Act.put, List.getElem_toArray, List.getElem_cons_succ, List.getElem_cons_zero, List.set_cons_succ, List.set_cons_zero, List.setIfInBounds_toArray]
          refine wpAnyH_take (i := 7) (v := .agg #[.int .i64 a0, .int .i64 a1, .int .u64 (a2 : Int), .slice (md 0) (ml 0) (mc 0), .slice (md 1) (ml 1) (mc 1), .slice (md 2) (ml 2) (mc 2), .slice (md 3) (ml 3) (mc 3), .slice (md 4) (ml 4) (mc 4)]) rfl (by kernel_rfl) (by kernel_rfl) (by kernel_rfl) (fun _ _ _ h => h) (.inl ⟨by kernel_rfl, fun wx _ => by go_simp⟩) hS ?_
          simp only [Act.put, List.getElem_toArray, List.getElem_cons_succ, List.getElem_cons_zero, List.set_cons_succ, List.set_cons_zero, List.setIfInBounds_toArray]
          refine wpAnyH_take (i := 8) (v := .int .i64 x) rfl (by kernel_rfl) (by kernel_rfl) (by kernel_rfl) (fun _ _ _ h => h) (.inl ⟨by kernel_rfl, fun wx _ => by go_simp⟩) hS ?_
          simp only [Act.put, List.getElem_toArray, List.getElem_cons_succ, List.getElem_cons_zero, List.set_cons_succ, List.set_cons_zero, List.setIfInBounds_toArray]
          clear hS
          refine wpAnyH_ready (rs := [9]) (by kernel_rfl) (by simp) ?_
          refine AllReadyH.cons rfl (fun K hK => ?_) AllReadyH.nil
          go_simp
          obtain ⟨w7, hw7⟩ : ∃ w7, w7 = w6.alloc (.cells #[.int .i64 0, .int .i64 0, .int .u64 0, .slice none 0 0, .slice none 0 0, .slice none 0 0, .slice none 0 0, .slice none 0 0] 28) := ⟨_, rfl⟩
          have F7 : Hid (Fr [] w6 w7) := hid (by rw [hw7]; exact (Fr.refl _ _).alloc _)
          have N7 : Hid (w7.heap[w6.heap.size]? = some (.cells #[.int .i64 0, .int .i64 0, .int .u64 0, .slice none 0 0, .slice none 0 0, .slice none 0 0, .slice none 0 0, .slice none 0 0] 28 (0, 0))) := hid (by rw [hw7]; exact blk_new _ _)
          have F67 := hid (F6.out.trans F7.out)
          have H7 : Hid (x ≠ 0 ∨ (x = 0 ∧ okE e = true ∧ ∃ U, okA9 u e U ∧ (a0 = e.log ∧ a1 = e.next ∧ a2 = e.seq) ∧ OwnV W4.heap.size w7 U md ml mc)) := hid (H6.out.imp id (fun q => ⟨q.1, q.2.1, q.2.2.imp fun U q => ⟨q.1, q.2.1, q.2.2.fr' F7.out⟩⟩))
          refine hK.out _ _ (by rw [← hw7]; exact F67.out) (fun _ => ?_)
          rw [← hw7]
          clear hK K hw7
          obtain ⟨q0, q1, q2, q3, q4, q5, q6, q7⟩ := vn_cells N7.out
          have qf0 := blk_frozen N7.out 0
          have qf1 := blk_frozen N7.out 1
          have qf2 := blk_frozen N7.out 2
          have qf3 := blk_frozen N7.out 3
          have qf4 := blk_frozen N7.out 4
          have qf5 := blk_frozen N7.out 5
          have qf6 := blk_frozen N7.out 6
          have qf7 := blk_frozen N7.out 7
          have hgl : W4.heap.size ≤ w6.heap.size := F6.out.size
          refine wpAnyH_ready (rs := [10]) (by kernel_rfl) (by simp) ?_
          refine AllReadyH.cons rfl (fun K hK => ?_) AllReadyH.nil
          go_simp
          refine hK.out _ _ ((((((((F67.out.set _ _ (.inr hgl)).set _ _ (.inr hgl)).set _ _ (.inr hgl)).set _ _ (.inr hgl)).set _ _ (.inr hgl)).set _ _ (.inr hgl)).set _ _ (.inr hgl)).set _ _ (.inr hgl)) (fun _ => ?_)
          clear hK K
          refine wpAnyH_ready (rs := [11]) (by kernel_rfl) (by simp) ?_
          refine AllReadyH.cons rfl (fun K hK => ?_) AllReadyH.nil
          go_simp
          refine hK.out _ _ ((((((((F67.out.set _ _ (.inr hgl)).set _ _ (.inr hgl)).set _ _ (.inr hgl)).set _ _ (.inr hgl)).set _ _ (.inr hgl)).set _ _ (.inr hgl)).set _ _ (.inr hgl)).set _ _ (.inr hgl)) (fun _ => ?_)
          clear hK K
          refine wpAnyH_done (by kernel_rfl) ?_ _
          go_wp2
          go_meet
          case rel => exact ⟨w6.heap.size, a0, a1, a2, md, ml, mc, x, _, rfl, rfl, rfl, hgl, (by rw [blk_set (blk_set (blk_set (blk_set (blk_set (blk_set (blk_set (blk_set N7.out 0 _) 1 _) 2 _) 3 _) 4 _) 5 _) 6 _) 7 _]; rfl), (((((((F67.out.set _ _ (.inr hgl)).set _ _ (.inr hgl)).set _ _ (.inr hgl)).set _ _ (.inr hgl)).set _ _ (.inr hgl)).set _ _ (.inr hgl)).set _ _ (.inr hgl)).set _ _ (.inr hgl), H7.out.imp id (fun q => ⟨q.1, q.2.1, q.2.2.imp fun U q => ⟨q.1, q.2.1, ((((((((q.2.2.setO (N7.out) 0 _).setO (blk_set (N7.out) 0 _) 1 _).setO (blk_set (blk_set (N7.out) 0 _) 1 _) 2 _).setO (blk_set (blk_set (blk_set (N7.out) 0 _) 1 _) 2 _) 3 _).setO (blk_set (blk_set (blk_set (blk_set (N7.out) 0 _) 1 _) 2 _) 3 _) 4 _).setO (blk_set (blk_set (blk_set (blk_set (blk_set (N7.out) 0 _) 1 _) 2 _) 3 _) 4 _) 5 _).setO (blk_set (blk_set (blk_set (blk_set (blk_set (blk_set (N7.out) 0 _) 1 _) 2 _) 3 _) 4 _) 5 _) 6 _).setO (blk_set (blk_set (blk_set (blk_set (blk_set (blk_set (blk_set (N7.out) 0 _) 1 _) 2 _) 3 _) 4 _) 5 _) 6 _) 7 _)⟩⟩)⟩
        · go_simp
          obtain ⟨w5, hw5⟩ : ∃ w5, w5 = (W4.alloc (.cells #[.int .i64 0, .int .i64 0, .int .u64 0, .slice none 0 0, .slice none 0 0, .slice none 0 0, .slice none 0 0, .slice none 0 0] 28)).drew := ⟨_, rfl⟩
          have F5 : Hid (Fr [] W4 w5) := hid (by rw [hw5]; exact ((Fr.refl [] W4).alloc _).drew)
          have N5 : Hid (w5.heap[W4.heap.size]? = some (.cells #[.int .i64 0, .int .i64 0, .int .u64 0, .slice none 0 0, .slice none 0 0, .slice none 0 0, .slice none 0 0, .slice none 0 0] 28 (0, 0))) := hid (by rw [hw5]; exact blk_new _ _)
          refine hK.out _ _ (by rw [← hw5]; exact F5.out) (fun _ => ?_)
          rw [← hw5]
          clear hK K hw5
          refine wpAnyH_ready (rs := [5]) (by kernel_rfl) (by simp) ?_
          refine AllReadyH.cons rfl (fun K hK => ?_) AllReadyH.nil
          go_simp
          refine (AC.out _ F5.out).mono ?_
          rintro r w6 ⟨a0, a1, a2, md, ml, mc, x, rfl, f6, h6⟩
          have F6 := hid (F5.out.trans f6)
          have hsz : W4.heap.size ≤ w5.heap.size := F5.out.size
          have H6 : Hid (x ≠ 0 ∨ (x = 0 ∧ okE e = true ∧ ∃ U, okA9 u e U ∧ (a0 = e.log ∧ a1 = e.next ∧ a2 = e.seq) ∧ OwnV W4.heap.size w6 U md ml mc)) := hid (h6.imp id (fun q => ⟨q.1, q.2.1, q.2.2.imp fun U q => ⟨q.1, q.2.1, q.2.2.base hsz⟩⟩))
          have N6 := hid (f6.at N5.out (by simp))
          clear f6 h6
          refine hK.out _ _ F6.out (fun hS => ?_)
          clear hK K
          refine wpAnyH_take (i := 6) (v := .tuple #[.agg #[.int .i64 a0, .int .i64 a1, .int .u64 (a2 : Int), .slice (md 0) (ml 0) (mc 0), .slice (md 1) (ml 1) (mc 1), .slice (md 2) (ml 2) (mc 2), .slice (md 3) (ml 3) (mc 3), .slice (md 4) (ml 4) (mc 4)], .int .i64 x]) rfl (by kernel_rfl) (by kernel_rfl) (by kernel_rfl) (fun _ _ _ h => h) (.inl ⟨by kernel_rfl, fun wx _ => by go_simp⟩) hS ?_
          simp only [Act.put, List.getElem_toArray, List.getElem_cons_succ, List.getElem_cons_zero, List.set_cons_succ, List.set_cons_zero, List.setIfInBounds_toArray]
          refine wpAnyH_take (i := 7) (v := .agg #[.int .i64 a0, .int .i64 a1, .int .u64 (a2 : Int), .slice (md 0) (ml 0) (mc 0), .slice (md 1) (ml 1) (mc 1), .slice (md 2) (ml 2) (mc 2), .slice (md 3) (ml 3) (mc 3), .slice (md 4) (ml 4) (mc 4)]) rfl (by kernel_rfl) (by kernel_rfl) (by kernel_rfl) (fun _ _ _ h => h) (.inl ⟨by kernel_rfl, fun wx _ => by go_simp⟩) hS ?_
          simp only [Act.put, List.getElem_toArray, List.getElem_cons_succ, List.getElem_cons_zero, List.set_cons_succ, List.set_cons_zero, List.setIfInBounds_toArray]
          refine wpAnyH_take (i := 8) (v := .int .i64 x) rfl (by kernel_rfl) (by kernel_rfl) (by kernel_rfl) (fun _ _ _ h => h) (.inl ⟨by kernel_rfl, fun wx _ => by go_simp⟩) hS ?_
          simp only [Act.put, List.getElem_toArray, List.getElem_cons_succ, List.getElem_cons_zero, List.set_cons_succ, List.set_cons_zero, List.setIfInBounds_toArray]
          clear hS
          obtain ⟨q0, q1, q2, q3, q4, q5, q6, q7⟩ := vn_cells N6.out
          have qf0 := blk_frozen N6.out 0
          have qf1 := blk_frozen N6.out 1
          have qf2 := blk_frozen N6.out 2
          have qf3 := blk_frozen N6.out 3
          have qf4 := blk_frozen N6.out 4
          have qf5 := blk_frozen N6.out 5
          have qf6 := blk_frozen N6.out 6
          have qf7 := blk_frozen N6.out 7
          have hgl : W4.heap.size ≤ W4.heap.size := (Nat.le_refl _)
          refine wpAnyH_ready (rs := [10]) (by kernel_rfl) (by simp) ?_
          refine AllReadyH.cons rfl (fun K hK => ?_) AllReadyH.nil
          go_simp
          refine hK.out _ _ ((((((((F6.out.set _ _ (.inr hgl)).set _ _ (.inr hgl)).set _ _ (.inr hgl)).set _ _ (.inr hgl)).set _ _ (.inr hgl)).set _ _ (.inr hgl)).set _ _ (.inr hgl)).set _ _ (.inr hgl)) (fun _ => ?_)
          clear hK K
          refine wpAnyH_ready (rs := [11]) (by kernel_rfl) (by simp) ?_
          refine AllReadyH.cons rfl (fun K hK => ?_) AllReadyH.nil
          go_simp
          refine hK.out _ _ ((((((((F6.out.set _ _ (.inr hgl)).set _ _ (.inr hgl)).set _ _ (.inr hgl)).set _ _ (.inr hgl)).set _ _ (.inr hgl)).set _ _ (.inr hgl)).set _ _ (.inr hgl)).set _ _ (.inr hgl)) (fun _ => ?_)
          clear hK K
          refine wpAnyH_done (by kernel_rfl) ?_ _
          go_wp2
          go_meet
          case rel => exact ⟨W4.heap.size, a0, a1, a2, md, ml, mc, x, _, rfl, rfl, rfl, hgl, (by rw [blk_set (blk_set (blk_set (blk_set (blk_set (blk_set (blk_set (blk_set N6.out 0 _) 1 _) 2 _) 3 _) 4 _) 5 _) 6 _) 7 _]; rfl), (((((((F6.out.set _ _ (.inr hgl)).set _ _ (.inr hgl)).set _ _ (.inr hgl)).set _ _ (.inr hgl)).set _ _ (.inr hgl)).set _ _ (.inr hgl)).set _ _ (.inr hgl)).set _ _ (.inr hgl), H6.out.imp id (fun q => ⟨q.1, q.2.1, q.2.2.imp fun U q => ⟨q.1, q.2.1, ((((((((q.2.2.setO (N6.out) 0 _).setO (blk_set (N6.out) 0 _) 1 _).setO (blk_set (blk_set (N6.out) 0 _) 1 _) 2 _).setO (blk_set (blk_set (blk_set (N6.out) 0 _) 1 _) 2 _) 3 _).setO (blk_set (blk_set (blk_set (blk_set (N6.out) 0 _) 1 _) 2 _) 3 _) 4 _).setO (blk_set (blk_set (blk_set (blk_set (blk_set (N6.out) 0 _) 1 _) 2 _) 3 _) 4 _) 5 _).setO (blk_set (blk_set (blk_set (blk_set (blk_set (blk_set (N6.out) 0 _) 1 _) 2 _) 3 _) 4 _) 5 _) 6 _).setO (blk_set (blk_set (blk_set (blk_set (blk_set (blk_set (blk_set (N6.out) 0 _) 1 _) 2 _) 3 _) 4 _) 5 _) 6 _) 7 _)⟩⟩)⟩
      case rest =>
      obtain ⟨Q13, a0, a1, a2, md, ml, mc, x, W7, hW7, rfl, rfl, hg13, hn13, hf7, h7⟩ := hcut
      subst hW7
      have N13 := hid hn13
      have F7 := hid hf7
      have H7 := hid h7
      have L7 := hid (L4.out.fr' F7.out)
      clear hn13 hf7 h7 AC SK XC
      rcases E5.out.out with ⟨hk, hx5, hn5, o5⟩ | ⟨hk, hx5⟩
      · subst hx5
        have HOK := hid hk
        have HN5 := hid hn5
        have O5 := hid o5
        clear hk hn5 o5
        rcases H7.out with hx | ⟨hx, _, U, ho, ⟨rfl, rfl, rfl⟩, hov⟩
        · have hx1 : (x == 0) = false := by simpa using hx
          clear N13
          have CH : Hid (∀ mm, 0 ≤ cut → mm = min cut.toNat bl → Calls Tryd.prog 9 #[.slice ba mm bc] W7 fun r w' => ∃ (md : Nat → Option Addr) (ml mc : Nat → Nat), r = .returned (.tuple #[.agg #[.int .i64 t.log, .int .i64 t.next, .int .u64 (t.seq : Int), .slice (md 0) (ml 0) (mc 0), .slice (md 1) (ml 1) (mc 1), .slice (md 2) (ml 2) (mc 2), .slice (md 3) (ml 3) (mc 3), .slice (md 4) (ml 4) (mc 4)], .int .i64 (m : Int), .int .i64 (le : Int), .int .i64 0]) ∧ VAt w' t.lv md ml mc ∧ Fr [] W7 w') := hid (fun mm hc hmm => by
            rw [HLE.out, HM.out]
            exact L7.out.replay (by omega) (by rw [← HN.out]; omega) hc hmm)
          by_cases hcut : cut < 0
          · go_wp2_with fail
            go_ret
            exact ⟨rfl, F1.out.trans L7.out.fr⟩
          · obtain ⟨cn, hcn⟩ : ∃ cn : Nat, cut = (cn : Int) := ⟨cut.toNat, by omega⟩
            subst hcn
            have BC : Hid (bl ≤ bc) := hid (by
              rcases L7.out.bo.2 with ⟨q1, q2⟩ | ⟨g, cap, cur, q1, _, _, q4, _⟩
              · simp only [Value.slice.injEq] at q1; omega
              · simp only [Value.slice.injEq] at q1; omega)
            have hbc := BC.out
            by_cases hcb : cn ≤ bl
            · have CR := hid (CH.out cn (by omega) (by omega))
              have hcb1 : (cn : Int) ≤ (bl : Int) := by omega
              have hcb2 : ¬ (bl : Int) < (cn : Int) := by omega
              have hcb3 : cn ≤ bc := by omega
              have hcb4 : (cn : Int) ≤ (bc : Int) := by omega
              have hcb5 : min (cn : Int) (bl : Int) = (cn : Int) := by omega
              clear CH
              go_upto_region 29 with (go_at_call 9; refine CR.out.mono ?_; rintro r W8 ⟨md, ml, mc, rfl, hv8, hf8⟩; have V8 := hid hv8; have F8 := hid hf8; clear hv8 hf8)
              clear CR
              obtain ⟨Q17, hQ17⟩ : ∃ Q17, Q17 = W8.heap.size := ⟨_, rfl⟩
              obtain ⟨W9, hW9⟩ : ∃ W9, W9 = W8.alloc (.cells #[.int .i64 t.log, .int .i64 t.next, .int .u64 (t.seq : Int), .slice (md 0) (ml 0) (mc 0), .slice (md 1) (ml 1) (mc 1), .slice (md 2) (ml 2) (mc 2), .slice (md 3) (ml 3) (mc 3), .slice (md 4) (ml 4) (mc 4)] 28) := ⟨_, rfl⟩
              have f9 : Fr [] W8 W9 := by rw [hW9]; exact (Fr.refl _ _).alloc _
              have N17 : Hid (W9.heap[Q17]? = some (.cells #[.int .i64 t.log, .int .i64 t.next, .int .u64 (t.seq : Int), .slice (md 0) (ml 0) (mc 0), .slice (md 1) (ml 1) (mc 1), .slice (md 2) (ml 2) (mc 2), .slice (md 3) (ml 3) (mc 3), .slice (md 4) (ml 4) (mc 4)] 28 (0, 0))) := hid (by rw [hW9, hQ17]; exact blk_new _ _)
              have F9 := hid (F8.out.trans f9)
              have VC := hid (L7.out.told F9.out (V8.out.fr f9))
              rw [← hW9, ← hQ17]
              clear hW9 hQ17 f9 V8 F8
              obtain ⟨z0, z1, z2, z3, z4, z5, z6, z7⟩ := vn_cells N17.out
              obtain ⟨y0, y1, y2, y3, y4, y5, y6, y7⟩ := vn_cells (F9.out.at L7.out.n6 (by simp))
              go_wp2_with (go_at_call 10; refine VC.out.mono ?_; rintro r W10 ⟨rfl, f10⟩; have F10 := hid f10; clear f10)
              go_ret
              exact ⟨rfl, F1.out.trans (L7.out.fr.trans (F9.out.trans F10.out))⟩
            · have CR := hid (CH.out bl (by omega) (by omega))
              have hcb1 : ¬ (cn : Int) ≤ (bl : Int) := by omega
              have hcb2 : (bl : Int) < (cn : Int) := by omega
              have hcb3 : (bl : Int) ≤ (bc : Int) := by omega
              have hcb5 : min (cn : Int) (bl : Int) = (bl : Int) := by omega
              clear CH
              go_upto_region 29 with (go_at_call 9; refine CR.out.mono ?_; rintro r W8 ⟨md, ml, mc, rfl, hv8, hf8⟩; have V8 := hid hv8; have F8 := hid hf8; clear hv8 hf8)
              clear CR
              obtain ⟨Q17, hQ17⟩ : ∃ Q17, Q17 = W8.heap.size := ⟨_, rfl⟩
              obtain ⟨W9, hW9⟩ : ∃ W9, W9 = W8.alloc (.cells #[.int .i64 t.log, .int .i64 t.next, .int .u64 (t.seq : Int), .slice (md 0) (ml 0) (mc 0), .slice (md 1) (ml 1) (mc 1), .slice (md 2) (ml 2) (mc 2), .slice (md 3) (ml 3) (mc 3), .slice (md 4) (ml 4) (mc 4)] 28) := ⟨_, rfl⟩
              have f9 : Fr [] W8 W9 := by rw [hW9]; exact (Fr.refl _ _).alloc _
              have N17 : Hid (W9.heap[Q17]? = some (.cells #[.int .i64 t.log, .int .i64 t.next, .int .u64 (t.seq : Int), .slice (md 0) (ml 0) (mc 0), .slice (md 1) (ml 1) (mc 1), .slice (md 2) (ml 2) (mc 2), .slice (md 3) (ml 3) (mc 3), .slice (md 4) (ml 4) (mc 4)] 28 (0, 0))) := hid (by rw [hW9, hQ17]; exact blk_new _ _)
              have F9 := hid (F8.out.trans f9)
              have VC := hid (L7.out.told F9.out (V8.out.fr f9))
              rw [← hW9, ← hQ17]
              clear hW9 hQ17 f9 V8 F8
              obtain ⟨z0, z1, z2, z3, z4, z5, z6, z7⟩ := vn_cells N17.out
              obtain ⟨y0, y1, y2, y3, y4, y5, y6, y7⟩ := vn_cells (F9.out.at L7.out.n6 (by simp))
              go_wp2_with (go_at_call 10; refine VC.out.mono ?_; rintro r W10 ⟨rfl, f10⟩; have F10 := hid f10; clear f10)
              go_ret
              exact ⟨rfl, F1.out.trans (L7.out.fr.trans (F9.out.trans F10.out))⟩
        · subst hx
          have HO := hid ho
          have OV := hid hov
          clear ho hov H7
          have HBE : Hid (By (encE e)) := hid (encE_by (fun p hp => ⟨(EA.out.bys p hp).1.1, (EA.out.bys p hp).2.1⟩))
          have HLE38 : Hid ((encE e).length ≤ 38000) := hid (encE_len38 HOK.out (by rw [← HDA.out.1]; exact HFEW.out.1) (by rw [← HDA.out.2]; exact HFEW.out.2))
          have NX := hid (L7.out.next HEI.out HOK.out (by rw [← HDA.out.1]; exact HFEW.out.1) (by rw [← HDA.out.2]; exact HFEW.out.2) HBE.out HO.out)
          have hlog : (logL 0 (accL es (i + 1))).length ≤ 4194304 := acc_short (by rw [accL_len (by rw [← HN.out]; omega)]; omega) (fun r hr => (NX.out.2.1 r hr).2.1)
          have RD7 : Hid (Rd W7 (.slice a5 n5 c5) (bv (encE e))) := hid ((Rd.ownN (by have := O5.out; rw [← HN5.out] at this; exact this) HN5.out).fr F7.out)
          have RA := hid (refappend_c W7 (bl : Int) RD7.out HBE.out (by have := HLE38.out; omega))
          rw [Int.toNat_natCast] at RA
          obtain ⟨ap, hap⟩ : ∃ ap, ap = appL bl (encE e) := ⟨_, rfl⟩
          obtain ⟨la, hla⟩ : ∃ la, la = ap.length := ⟨_, rfl⟩
          have HAP := hid hap
          have HLA := hid hla
          rw [← hap, ← hla] at RA
          have HNL : Hid (logL 0 (accL es (i + 1)) = logL 0 (accL es i) ++ ap) := hid (by rw [hap]; exact NX.out.2.2)
          have hll : bl + la ≤ 4194304 := by
            have := hlog
            rw [HNL.out, List.length_append, ← L7.out.bn, ← hla] at this
            exact this
          clear hap hla hlog
          obtain ⟨LG, hLG⟩ : ∃ LG, LG = logL 0 (accL es i) := ⟨_, rfl⟩
          have HLG := hid hLG
          have BO : Hid (W7.ownsRow W1.heap.size 5 1 (.slice ba bl bc) bl (bv LG)) := hid (by rw [hLG]; exact L7.out.bo)
          clear hLG
          go_upto_region 18 with (go_at_call 8; refine RA.out.mono ?_; rintro r W9 ⟨v9, rfl, o9, f9⟩; obtain ⟨a9, c9, hv9, _⟩ := ownsRow_slice o9; subst hv9; have O9 := hid o9; have F9 := hid f9; clear o9 f9)
          clear RA
          have BO9 := hid (ownsRow_fr BO.out F9.out)
          have RD9 : Hid (Rd W9 (.slice a9 la c9) (bv ap)) := hid (Rd.ownN O9.out HLA.out)
          have HSZ : Hid (W1.heap.size ≤ W9.heap.size) := hid (L7.out.fr.trans F9.out).size
          have HBB : Hid (bl + (bv ap).length ≤ 140737488355328) := hid (by rw [bv_len, ← HLA.out]; omega)
          have AFT : Hid (∀ (W10 : World) (a10 : Option Addr) (c10 : Nat), W9.grownBy W10 (Value.slice ba bl bc).ownBlock → ((Value.slice a10 (bl + la) c10).ownBlock = (Value.slice ba bl bc).ownBlock ∨ (Value.slice a10 (bl + la) c10).ownBlock = some W9.heap.size) → W10.ownsRow W1.heap.size 5 1 (.slice a10 (bl + la) c10) (bl + la) (bv LG ++ bv ap) → W10.heap[Q13]? = some (.cells #[.int .i64 e.log, .int .i64 e.next, .int .u64 (e.seq : Int), .slice (md 0) (ml 0) (mc 0), .slice (md 1) (ml 1) (mc 1), .slice (md 2) (ml 2) (mc 2), .slice (md 3) (ml 3) (mc 3), .slice (md 4) (ml 4) (mc 4)] 28 (0, 0)) ∧ W10.heap[Q5]? = some (.cells #[.int .i64 u.log, .int .i64 u.next, .int .u64 (u.seq : Int), .slice (kd 0) (kl 0) (kc 0), .slice (kd 1) (kl 1) (kc 1), .slice (kd 2) (kl 2) (kc 2), .slice (kd 3) (kl 3) (kc 3), .slice (kd 4) (kl 4) (kc 4)] 28 (0, 0)) ∧ W10.heap[Q6]? = some (.cells #[.int .i64 t.log, .int .i64 t.next, .int .u64 (t.seq : Int), .slice (td 0) (tl 0) (tc 0), .slice (td 1) (tl 1) (tc 1), .slice (td 2) (tl 2) (tc 2), .slice (td 3) (tl 3) (tc 3), .slice (td 4) (tl 4) (tc 4)] 28 (0, 0)) ∧ Fr [] W1 W10 ∧ Keeps W10 (fun k => k = Q5 ∨ k = Q6 ∨ (Value.slice a10 (bl + la) c10).ownBlock = some k) (fun W => VAt W (fun k => if k < 5 then U k else []) md ml mc) ∧ Keeps W10 (fun k => k = Q5 ∨ k = Q6 ∨ (Value.slice a10 (bl + la) c10).ownBlock = some k) (fun W => VAt W t.lv td tl tc)) := hid (fun W10 a10 c10 g10 q10 o10 => by
            have at9 : ∀ {k : Nat} {cs : Array Value}, W7.heap[k]? = some (.cells cs 28 (0, 0)) → W10.heap[k]? = some (.cells cs 28 (0, 0)) := fun {k cs} hk => by
              have h9 := F9.out.at hk (by simp)
              rw [g10.block k (blk_lt h9) (fun q => own_not BO9.out h9 (by decide) q.symm)]
              exact h9
            have fw : Fr [] W1 W10 := (L7.out.fr.trans F9.out).grown g10 (fun k q => .inr (World.ownsRow.lt BO9.out k q).1)
            have ho : ∀ k, k < W7.heap.size → ¬ (k = Q5 ∨ k = Q6 ∨ (Value.slice ba bl bc).ownBlock = some k) → W10.heap[k]? = W7.heap[k]? := fun k hk hn => by
              rw [g10.block k (Nat.lt_of_lt_of_le hk F9.out.size) (fun q => hn (.inr (.inr q.symm)))]
              exact F9.out.block k hk (by simp)
            have hs : ∀ k, k < W7.heap.size → (k = Q5 ∨ k = Q6 ∨ (Value.slice a10 (bl + la) c10).ownBlock = some k) → (k = Q5 ∨ k = Q6 ∨ (Value.slice ba bl bc).ownBlock = some k) := fun k hk hn => by
              rcases hn with hn | hn | hn
              · exact .inl hn
              · exact .inr (.inl hn)
              · rcases q10 with q | q
                · exact .inr (.inr (by rw [← q]; exact hn))
                · rw [q] at hn
                  have h1 : W9.heap.size = k := Option.some.inj hn
                  have h2 := F9.out.size
                  omega
            have sz : W7.heap.size ≤ W10.heap.size := Nat.le_trans F9.out.size g10.size
            have hb4 := blk_lt L4.out.n5
            have hb6 := blk_lt L4.out.n6
            have kn : Keeps W7 (fun k => k = Q5 ∨ k = Q6 ∨ (Value.slice ba bl bc).ownBlock = some k) (fun W => VAt W U md ml mc) := OV.out.keeps (fun k hk => by
              rcases hk with hk | hk | hk
              · omega
              · omega
              · exact (World.ownsRow.lt L4.out.bo k hk).2)
            refine ⟨at9 N13.out, at9 L7.out.n5, at9 L7.out.n6, fw, ?_, L7.out.kt.step sz ho hs⟩
            have k2 := kn.step sz ho hs
            exact fun W' hw => (k2 W' hw).same5 (fun j hj => (if_pos hj).symm))
          go_upto_region 21 with (at_builtin; refine wpList_append_rd rfl _ _ rfl W1.heap.size HSZ.out (.slice ba bl bc) bl (bv LG) (by simp [Act.eval]) BO9.out (.slice a9 la c9) (bv ap) (by simp [Act.eval]) RD9.out bv_one HBB.out ?_; intro v10 W10 o10 g10 q10; rw [bv_len, ← HLA.out] at o10; obtain ⟨a10, c10, hv10, _⟩ := ownsRow_slice o10; subst hv10; have A10 := hid (AFT.out W10 a10 c10 g10 q10 o10); have O10 := hid o10; clear o10 g10 q10)
          clear AFT BO9 RD9 HSZ HBB BO O9
          obtain ⟨z0, z1, z2, z3, z4, z5, z6, z7⟩ := vn_cells A10.out.1
          obtain ⟨y0, y1, y2, y3, y4, y5, y6, y7⟩ := vn_cells A10.out.2.1
          have yf0 := blk_frozen A10.out.2.1 0
          have yf1 := blk_frozen A10.out.2.1 1
          have yf2 := blk_frozen A10.out.2.1 2
          have yf3 := blk_frozen A10.out.2.1 3
          have yf4 := blk_frozen A10.out.2.1 4
          have yf5 := blk_frozen A10.out.2.1 5
          have yf6 := blk_frozen A10.out.2.1 6
          have yf7 := blk_frozen A10.out.2.1 7
          go_upto_region 22 with fail
          clear z0 z1 z2 z3 z4 z5 z6 z7 y0 y1 y2 y3 y4 y5 y6 y7 yf0 yf1 yf2 yf3 yf4 yf5 yf6 yf7
          obtain ⟨W11, hW11⟩ : ∃ W11, W11 = (((((((W10.setCell ⟨Q5, 0, none⟩ (.int .i64 e.log)).setCell ⟨Q5, 1, none⟩ (.int .i64 e.next)).setCell ⟨Q5, 2, none⟩ (.int .u64 (e.seq : Int))).setCell ⟨Q5, 3, none⟩ (.slice (md 0) (ml 0) (mc 0))).setCell ⟨Q5, 4, none⟩ (.slice (md 1) (ml 1) (mc 1))).setCell ⟨Q5, 5, none⟩ (.slice (md 2) (ml 2) (mc 2))).setCell ⟨Q5, 6, none⟩ (.slice (md 3) (ml 3) (mc 3))).setCell ⟨Q5, 7, none⟩ (.slice (md 4) (ml 4) (mc 4)) := ⟨_, rfl⟩
          have hq135 : Q13 ≠ Q5 := by have := blk_lt L4.out.n5; omega
          have hq136 : Q13 ≠ Q6 := by have := blk_lt L4.out.n6; omega
          have hne := L7.out.ne
          have G5 := L7.out.g5
          have G6 := L7.out.g6
          have S11 : Hid (W11.heap[Q13]? = some (.cells #[.int .i64 e.log, .int .i64 e.next, .int .u64 (e.seq : Int), .slice (md 0) (ml 0) (mc 0), .slice (md 1) (ml 1) (mc 1), .slice (md 2) (ml 2) (mc 2), .slice (md 3) (ml 3) (mc 3), .slice (md 4) (ml 4) (mc 4)] 28 (0, 0)) ∧ W11.heap[Q5]? = some (.cells #[.int .i64 e.log, .int .i64 e.next, .int .u64 (e.seq : Int), .slice (md 0) (ml 0) (mc 0), .slice (md 1) (ml 1) (mc 1), .slice (md 2) (ml 2) (mc 2), .slice (md 3) (ml 3) (mc 3), .slice (md 4) (ml 4) (mc 4)] 28 (0, 0)) ∧ W11.heap[Q6]? = some (.cells #[.int .i64 t.log, .int .i64 t.next, .int .u64 (t.seq : Int), .slice (td 0) (tl 0) (tc 0), .slice (td 1) (tl 1) (tc 1), .slice (td 2) (tl 2) (tc 2), .slice (td 3) (tl 3) (tc 3), .slice (td 4) (tl 4) (tc 4)] 28 (0, 0)) ∧ Fr [] W1 W11 ∧ W11.ownsRow W1.heap.size 5 1 (.slice a10 (bl + la) c10) (bl + la) (bv LG ++ bv ap) ∧ Keeps W11 (fun k => k = Q5 ∨ k = Q6 ∨ (Value.slice a10 (bl + la) c10).ownBlock = some k) (fun W => VAt W (fun k => if k < 5 then U k else []) md ml mc) ∧ Keeps W11 (fun k => k = Q5 ∨ k = Q6 ∨ (Value.slice a10 (bl + la) c10).ownBlock = some k) (fun W => VAt W t.lv td tl tc)) := hid (by
            obtain ⟨p1, p2, p3, p4, p5, p6⟩ := A10.out
            have sb : ∀ k, k ≠ Q5 → W11.heap[k]? = W10.heap[k]? := fun k hk => by rw [hW11, blk_setne _ _ _ hk, blk_setne _ _ _ hk, blk_setne _ _ _ hk, blk_setne _ _ _ hk, blk_setne _ _ _ hk, blk_setne _ _ _ hk, blk_setne _ _ _ hk, blk_setne _ _ _ hk]
            have sz : W10.heap.size ≤ W11.heap.size := by rw [hW11]; simp [World.setCell]
            refine ⟨by rw [sb Q13 hq135]; exact p1, by rw [hW11, blk_set (blk_set (blk_set (blk_set (blk_set (blk_set (blk_set (blk_set p2 0 _) 1 _) 2 _) 3 _) 4 _) 5 _) 6 _) 7 _]; rfl, by rw [sb Q6 (fun q => hne q.symm)]; exact p3, by rw [hW11]; exact (((((((p4.set _ _ (.inr G5)).set _ _ (.inr G5)).set _ _ (.inr G5)).set _ _ (.inr G5)).set _ _ (.inr G5)).set _ _ (.inr G5)).set _ _ (.inr G5)).set _ _ (.inr G5), ownsRow_of_block O10.out fun k hk => sb k (fun q => by subst q; exact own_not O10.out p2 (by decide) hk), p5.step sz (fun k _ hn => sb k (fun q => hn (.inl q))) (fun _ _ q => q), p6.step sz (fun k _ hn => sb k (fun q => hn (.inl q))) (fun _ _ q => q)⟩)
          rw [← hW11]
          clear hW11 A10 O10
          have HACC : Hid (accL es (i + 1) = accL es i ++ [encE e]) := hid (accL_succ HEI.out)
          have HBV : Hid (bv LG ++ bv ap = bv (logL 0 (accL es (i + 1)))) := hid (by rw [HNL.out, HLG.out, bv_append])
          have HNB : Hid (bl + la = (logL 0 (accL es (i + 1))).length) := hid (by rw [HNL.out, List.length_append, ← L7.out.bn, ← HLA.out])
          by_cases hcut2 : ((bl + la : Nat) : Int) ≤ cut
          · have hc3 : (bl : Int) + (la : Int) ≤ cut := by omega
            have HCY := hid (cntI_yes (rs := accL es i) (r := encE e) (cut := cut) (by rw [← HACC.out, ← HNB.out]; exact hcut2))
            have hmi : m = i := by rw [HM.out, HCY.out.1, accL_len (by rw [← HN.out]; omega)]
            have HMI := hid hmi
            clear hmi
            obtain ⟨z0, z1, z2, z3, z4, z5, z6, z7⟩ := vn_cells S11.out.1
            obtain ⟨y0, y1, y2, y3, y4, y5, y6, y7⟩ := vn_cells S11.out.2.2.1
            have yf0 := blk_frozen S11.out.2.2.1 0
            have yf1 := blk_frozen S11.out.2.2.1 1
            have yf2 := blk_frozen S11.out.2.2.1 2
            have yf3 := blk_frozen S11.out.2.2.1 3
            have yf4 := blk_frozen S11.out.2.2.1 4
            have yf5 := blk_frozen S11.out.2.2.1 5
            have yf6 := blk_frozen S11.out.2.2.1 6
            have yf7 := blk_frozen S11.out.2.2.1 7
            go_upto_region 24 with fail
            clear z0 z1 z2 z3 z4 z5 z6 z7 y0 y1 y2 y3 y4 y5 y6 y7 yf0 yf1 yf2 yf3 yf4 yf5 yf6 yf7
            obtain ⟨W12, hW12⟩ : ∃ W12, W12 = (((((((W11.setCell ⟨Q6, 0, none⟩ (.int .i64 e.log)).setCell ⟨Q6, 1, none⟩ (.int .i64 e.next)).setCell ⟨Q6, 2, none⟩ (.int .u64 (e.seq : Int))).setCell ⟨Q6, 3, none⟩ (.slice (md 0) (ml 0) (mc 0))).setCell ⟨Q6, 4, none⟩ (.slice (md 1) (ml 1) (mc 1))).setCell ⟨Q6, 5, none⟩ (.slice (md 2) (ml 2) (mc 2))).setCell ⟨Q6, 6, none⟩ (.slice (md 3) (ml 3) (mc 3))).setCell ⟨Q6, 7, none⟩ (.slice (md 4) (ml 4) (mc 4)) := ⟨_, rfl⟩
            have L12 : Hid (LgS W1 W12 Q5 Q6 es cut (i + 1) ⟨e.log, e.next, e.seq, fun k => if k < 5 then U k else []⟩ ⟨e.log, e.next, e.seq, fun k => if k < 5 then U k else []⟩ md ml mc md ml mc a10 (bl + la) c10) := hid (by
              obtain ⟨p1, p2, p3, p4, p5, p6, p7⟩ := S11.out
              have sb : ∀ k, k ≠ Q6 → W12.heap[k]? = W11.heap[k]? := fun k hk => by rw [hW12, blk_setne _ _ _ hk, blk_setne _ _ _ hk, blk_setne _ _ _ hk, blk_setne _ _ _ hk, blk_setne _ _ _ hk, blk_setne _ _ _ hk, blk_setne _ _ _ hk, blk_setne _ _ _ hk]
              have sz : W11.heap.size ≤ W12.heap.size := by rw [hW12]; simp [World.setCell]
              have kk := p6.step sz (fun k _ hn => sb k (fun q => hn (.inr (.inl q)))) (fun _ _ q => q)
              refine ⟨NX.out.1, ?_, NX.out.2.1, by rw [sb Q5 hne]; exact p2, by rw [hW12, blk_set (blk_set (blk_set (blk_set (blk_set (blk_set (blk_set (blk_set p3 0 _) 1 _) 2 _) 3 _) 4 _) 5 _) 6 _) 7 _]; rfl, kk, kk, ?_, HNB.out, by rw [hW12]; exact (((((((p4.set _ _ (.inr G6)).set _ _ (.inr G6)).set _ _ (.inr G6)).set _ _ (.inr G6)).set _ _ (.inr G6)).set _ _ (.inr G6)).set _ _ (.inr G6)).set _ _ (.inr G6), G5, G6, hne⟩
              · rw [HACC.out, HCY.out.2]
                rw [List.take_of_length_le (by rw [List.length_append]; simp), ← HACC.out]
                exact NX.out.1
              · rw [← HBV.out]
                exact ownsRow_of_block p5 fun k hk => sb k (fun q => by subst q; exact own_not p5 p3 (by decide) hk))
            rw [← hW12]
            clear hW12 S11
            go_wp2_with fail
            go_roundw
            case rel =>
              refine ⟨i + 1, _, _, md, ml, mc, md, ml, mc, a10, bl + la, c10, by omega, ?_, ?_, rfl, by go_num, L12.out⟩
              · rw [HACC.out, HCY.out.2, accL_len (by rw [← HN.out]; omega), HMI.out]
                go_num
              · rw [HACC.out, HCY.out.2, List.take_of_length_le (by rw [List.length_append]; simp), ← HACC.out, ← HNB.out]
                go_num
            case measure => simp [intOf]; omega
          · have hc3 : ¬ (bl : Int) + (la : Int) ≤ cut := by omega
            have HCN := hid (cntI_no (rs := accL es i) (r := encE e) (cut := cut) (by rw [← HACC.out, ← HNB.out]; exact hcut2))
            have HTK : Hid ((accL es (i + 1)).take m = (accL es i).take m) := hid (by
              rw [HACC.out, List.take_append_of_le_length (by rw [HM.out]; exact cntI_le _ _)])
            have HCM : Hid (cntI cut (accL es (i + 1)) = m) := hid (by rw [HACC.out, HCN.out]; exact HM.out.symm)
            have L11 : Hid (LgS W1 W11 Q5 Q6 es cut (i + 1) ⟨e.log, e.next, e.seq, fun k => if k < 5 then U k else []⟩ t md ml mc td tl tc a10 (bl + la) c10) := hid (by
              obtain ⟨p1, p2, p3, p4, p5, p6, p7⟩ := S11.out
              refine ⟨NX.out.1, ?_, NX.out.2.1, p2, p3, p6, p7, ?_, HNB.out, p4, G5, G6, hne⟩
              · rw [HCM.out, HTK.out, HM.out]
                exact L7.out.tp
              · rw [← HBV.out]
                exact p5)
            clear S11
            go_wp2_with fail
            go_roundw
            case rel => exact ⟨i + 1, _, t, md, ml, mc, td, tl, tc, a10, bl + la, c10, by omega, by rw [HCM.out], by rw [HCM.out, HTK.out, ← HLE.out], rfl, by go_num, L11.out⟩
            case measure => simp [intOf]; omega
      · subst hx5
        clear N13 H7
        have CH : Hid (∀ mm, 0 ≤ cut → mm = min cut.toNat bl → Calls Tryd.prog 9 #[.slice ba mm bc] W7 fun r w' => ∃ (md : Nat → Option Addr) (ml mc : Nat → Nat), r = .returned (.tuple #[.agg #[.int .i64 t.log, .int .i64 t.next, .int .u64 (t.seq : Int), .slice (md 0) (ml 0) (mc 0), .slice (md 1) (ml 1) (mc 1), .slice (md 2) (ml 2) (mc 2), .slice (md 3) (ml 3) (mc 3), .slice (md 4) (ml 4) (mc 4)], .int .i64 (m : Int), .int .i64 (le : Int), .int .i64 0]) ∧ VAt w' t.lv md ml mc ∧ Fr [] W7 w') := hid (fun mm hc hmm => by
          rw [HLE.out, HM.out]
          exact L7.out.replay (by omega) (by rw [← HN.out]; omega) hc hmm)
        by_cases hcut : cut < 0
        · go_wp2_with fail
          go_ret
          exact ⟨rfl, F1.out.trans L7.out.fr⟩
        · obtain ⟨cn, hcn⟩ : ∃ cn : Nat, cut = (cn : Int) := ⟨cut.toNat, by omega⟩
          subst hcn
          have BC : Hid (bl ≤ bc) := hid (by
            rcases L7.out.bo.2 with ⟨q1, q2⟩ | ⟨g, cap, cur, q1, _, _, q4, _⟩
            · simp only [Value.slice.injEq] at q1; omega
            · simp only [Value.slice.injEq] at q1; omega)
          have hbc := BC.out
          by_cases hcb : cn ≤ bl
          · have CR := hid (CH.out cn (by omega) (by omega))
            have hcb1 : (cn : Int) ≤ (bl : Int) := by omega
            have hcb2 : ¬ (bl : Int) < (cn : Int) := by omega
            have hcb3 : cn ≤ bc := by omega
            have hcb4 : (cn : Int) ≤ (bc : Int) := by omega
            have hcb5 : min (cn : Int) (bl : Int) = (cn : Int) := by omega
            clear CH
            go_upto_region 29 with (go_at_call 9; refine CR.out.mono ?_; rintro r W8 ⟨md, ml, mc, rfl, hv8, hf8⟩; have V8 := hid hv8; have F8 := hid hf8; clear hv8 hf8)
            clear CR
            obtain ⟨Q17, hQ17⟩ : ∃ Q17, Q17 = W8.heap.size := ⟨_, rfl⟩
            obtain ⟨W9, hW9⟩ : ∃ W9, W9 = W8.alloc (.cells #[.int .i64 t.log, .int .i64 t.next, .int .u64 (t.seq : Int), .slice (md 0) (ml 0) (mc 0), .slice (md 1) (ml 1) (mc 1), .slice (md 2) (ml 2) (mc 2), .slice (md 3) (ml 3) (mc 3), .slice (md 4) (ml 4) (mc 4)] 28) := ⟨_, rfl⟩
            have f9 : Fr [] W8 W9 := by rw [hW9]; exact (Fr.refl _ _).alloc _
            have N17 : Hid (W9.heap[Q17]? = some (.cells #[.int .i64 t.log, .int .i64 t.next, .int .u64 (t.seq : Int), .slice (md 0) (ml 0) (mc 0), .slice (md 1) (ml 1) (mc 1), .slice (md 2) (ml 2) (mc 2), .slice (md 3) (ml 3) (mc 3), .slice (md 4) (ml 4) (mc 4)] 28 (0, 0))) := hid (by rw [hW9, hQ17]; exact blk_new _ _)
            have F9 := hid (F8.out.trans f9)
            have VC := hid (L7.out.told F9.out (V8.out.fr f9))
            rw [← hW9, ← hQ17]
            clear hW9 hQ17 f9 V8 F8
            obtain ⟨z0, z1, z2, z3, z4, z5, z6, z7⟩ := vn_cells N17.out
            obtain ⟨y0, y1, y2, y3, y4, y5, y6, y7⟩ := vn_cells (F9.out.at L7.out.n6 (by simp))
            go_wp2_with (go_at_call 10; refine VC.out.mono ?_; rintro r W10 ⟨rfl, f10⟩; have F10 := hid f10; clear f10)
            go_ret
            exact ⟨rfl, F1.out.trans (L7.out.fr.trans (F9.out.trans F10.out))⟩
          · have CR := hid (CH.out bl (by omega) (by omega))
            have hcb1 : ¬ (cn : Int) ≤ (bl : Int) := by omega
            have hcb2 : (bl : Int) < (cn : Int) := by omega
            have hcb3 : (bl : Int) ≤ (bc : Int) := by omega
            have hcb5 : min (cn : Int) (bl : Int) = (bl : Int) := by omega
            clear CH
            go_upto_region 29 with (go_at_call 9; refine CR.out.mono ?_; rintro r W8 ⟨md, ml, mc, rfl, hv8, hf8⟩; have V8 := hid hv8; have F8 := hid hf8; clear hv8 hf8)
            clear CR
            obtain ⟨Q17, hQ17⟩ : ∃ Q17, Q17 = W8.heap.size := ⟨_, rfl⟩
            obtain ⟨W9, hW9⟩ : ∃ W9, W9 = W8.alloc (.cells #[.int .i64 t.log, .int .i64 t.next, .int .u64 (t.seq : Int), .slice (md 0) (ml 0) (mc 0), .slice (md 1) (ml 1) (mc 1), .slice (md 2) (ml 2) (mc 2), .slice (md 3) (ml 3) (mc 3), .slice (md 4) (ml 4) (mc 4)] 28) := ⟨_, rfl⟩
            have f9 : Fr [] W8 W9 := by rw [hW9]; exact (Fr.refl _ _).alloc _
            have N17 : Hid (W9.heap[Q17]? = some (.cells #[.int .i64 t.log, .int .i64 t.next, .int .u64 (t.seq : Int), .slice (md 0) (ml 0) (mc 0), .slice (md 1) (ml 1) (mc 1), .slice (md 2) (ml 2) (mc 2), .slice (md 3) (ml 3) (mc 3), .slice (md 4) (ml 4) (mc 4)] 28 (0, 0))) := hid (by rw [hW9, hQ17]; exact blk_new _ _)
            have F9 := hid (F8.out.trans f9)
            have VC := hid (L7.out.told F9.out (V8.out.fr f9))
            rw [← hW9, ← hQ17]
            clear hW9 hQ17 f9 V8 F8
            obtain ⟨z0, z1, z2, z3, z4, z5, z6, z7⟩ := vn_cells N17.out
            obtain ⟨y0, y1, y2, y3, y4, y5, y6, y7⟩ := vn_cells (F9.out.at L7.out.n6 (by simp))
            go_wp2_with (go_at_call 10; refine VC.out.mono ?_; rintro r W10 ⟨rfl, f10⟩; have F10 := hid f10; clear f10)
            go_ret
            exact ⟨rfl, F1.out.trans (L7.out.fr.trans (F9.out.trans F10.out))⟩
    · have hin : i = n := by omega
      have CH : Hid (∀ mm, 0 ≤ cut → mm = min cut.toNat bl → Calls Tryd.prog 9 #[.slice ba mm bc] wr fun r w' => ∃ (md : Nat → Option Addr) (ml mc : Nat → Nat), r = .returned (.tuple #[.agg #[.int .i64 t.log, .int .i64 t.next, .int .u64 (t.seq : Int), .slice (md 0) (ml 0) (mc 0), .slice (md 1) (ml 1) (mc 1), .slice (md 2) (ml 2) (mc 2), .slice (md 3) (ml 3) (mc 3), .slice (md 4) (ml 4) (mc 4)], .int .i64 (m : Int), .int .i64 (le : Int), .int .i64 0]) ∧ VAt w' t.lv md ml mc ∧ Fr [] wr w') := hid (fun mm hc hmm => by
        rw [HLE.out, HM.out]
        exact LS.out.replay (by omega) (by rw [← HN.out]; omega) hc hmm)
      by_cases hcut : cut < 0
      · go_wp2_with fail
        go_ret
        exact ⟨rfl, F1.out.trans LS.out.fr⟩
      · obtain ⟨cn, hcn⟩ : ∃ cn : Nat, cut = (cn : Int) := ⟨cut.toNat, by omega⟩
        subst hcn
        have BC : Hid (bl ≤ bc) := hid (by
          rcases LS.out.bo.2 with ⟨q1, q2⟩ | ⟨g, cap, cur, q1, _, _, q4, _⟩
          · simp only [Value.slice.injEq] at q1; omega
          · simp only [Value.slice.injEq] at q1; omega)
        have hbc := BC.out
        by_cases hcb : cn ≤ bl
        · have CR := hid (CH.out cn (by omega) (by omega))
          have hcb1 : (cn : Int) ≤ (bl : Int) := by omega
          have hcb2 : ¬ (bl : Int) < (cn : Int) := by omega
          have hcb3 : cn ≤ bc := by omega
          have hcb4 : (cn : Int) ≤ (bc : Int) := by omega
          have hcb5 : min (cn : Int) (bl : Int) = (cn : Int) := by omega
          clear CH
          go_upto_region 29 with (go_at_call 9; refine CR.out.mono ?_; rintro r W8 ⟨md, ml, mc, rfl, hv8, hf8⟩; have V8 := hid hv8; have F8 := hid hf8; clear hv8 hf8)
          clear CR
          obtain ⟨Q17, hQ17⟩ : ∃ Q17, Q17 = W8.heap.size := ⟨_, rfl⟩
          obtain ⟨W9, hW9⟩ : ∃ W9, W9 = W8.alloc (.cells #[.int .i64 t.log, .int .i64 t.next, .int .u64 (t.seq : Int), .slice (md 0) (ml 0) (mc 0), .slice (md 1) (ml 1) (mc 1), .slice (md 2) (ml 2) (mc 2), .slice (md 3) (ml 3) (mc 3), .slice (md 4) (ml 4) (mc 4)] 28) := ⟨_, rfl⟩
          have f9 : Fr [] W8 W9 := by rw [hW9]; exact (Fr.refl _ _).alloc _
          have N17 : Hid (W9.heap[Q17]? = some (.cells #[.int .i64 t.log, .int .i64 t.next, .int .u64 (t.seq : Int), .slice (md 0) (ml 0) (mc 0), .slice (md 1) (ml 1) (mc 1), .slice (md 2) (ml 2) (mc 2), .slice (md 3) (ml 3) (mc 3), .slice (md 4) (ml 4) (mc 4)] 28 (0, 0))) := hid (by rw [hW9, hQ17]; exact blk_new _ _)
          have F9 := hid (F8.out.trans f9)
          have VC := hid (LS.out.told F9.out (V8.out.fr f9))
          rw [← hW9, ← hQ17]
          clear hW9 hQ17 f9 V8 F8
          obtain ⟨z0, z1, z2, z3, z4, z5, z6, z7⟩ := vn_cells N17.out
          obtain ⟨y0, y1, y2, y3, y4, y5, y6, y7⟩ := vn_cells (F9.out.at LS.out.n6 (by simp))
          go_wp2_with (go_at_call 10; refine VC.out.mono ?_; rintro r W10 ⟨rfl, f10⟩; have F10 := hid f10; clear f10)
          go_ret
          exact ⟨rfl, F1.out.trans (LS.out.fr.trans (F9.out.trans F10.out))⟩
        · have CR := hid (CH.out bl (by omega) (by omega))
          have hcb1 : ¬ (cn : Int) ≤ (bl : Int) := by omega
          have hcb2 : (bl : Int) < (cn : Int) := by omega
          have hcb3 : (bl : Int) ≤ (bc : Int) := by omega
          have hcb5 : min (cn : Int) (bl : Int) = (bl : Int) := by omega
          clear CH
          go_upto_region 29 with (go_at_call 9; refine CR.out.mono ?_; rintro r W8 ⟨md, ml, mc, rfl, hv8, hf8⟩; have V8 := hid hv8; have F8 := hid hf8; clear hv8 hf8)
          clear CR
          obtain ⟨Q17, hQ17⟩ : ∃ Q17, Q17 = W8.heap.size := ⟨_, rfl⟩
          obtain ⟨W9, hW9⟩ : ∃ W9, W9 = W8.alloc (.cells #[.int .i64 t.log, .int .i64 t.next, .int .u64 (t.seq : Int), .slice (md 0) (ml 0) (mc 0), .slice (md 1) (ml 1) (mc 1), .slice (md 2) (ml 2) (mc 2), .slice (md 3) (ml 3) (mc 3), .slice (md 4) (ml 4) (mc 4)] 28) := ⟨_, rfl⟩
          have f9 : Fr [] W8 W9 := by rw [hW9]; exact (Fr.refl _ _).alloc _
          have N17 : Hid (W9.heap[Q17]? = some (.cells #[.int .i64 t.log, .int .i64 t.next, .int .u64 (t.seq : Int), .slice (md 0) (ml 0) (mc 0), .slice (md 1) (ml 1) (mc 1), .slice (md 2) (ml 2) (mc 2), .slice (md 3) (ml 3) (mc 3), .slice (md 4) (ml 4) (mc 4)] 28 (0, 0))) := hid (by rw [hW9, hQ17]; exact blk_new _ _)
          have F9 := hid (F8.out.trans f9)
          have VC := hid (LS.out.told F9.out (V8.out.fr f9))
          rw [← hW9, ← hQ17]
          clear hW9 hQ17 f9 V8 F8
          obtain ⟨z0, z1, z2, z3, z4, z5, z6, z7⟩ := vn_cells N17.out
          obtain ⟨y0, y1, y2, y3, y4, y5, y6, y7⟩ := vn_cells (F9.out.at LS.out.n6 (by simp))
          go_wp2_with (go_at_call 10; refine VC.out.mono ?_; rintro r W10 ⟨rfl, f10⟩; have F10 := hid f10; clear f10)
          go_ret
          exact ⟨rfl, F1.out.trans (LS.out.fr.trans (F9.out.trans F10.out))⟩
end Go.Proofs.YtmhhdlcdfgahkaaDoor
