/-
  What room, Length and kindOf of package wal answer.
-/
import Derived.Test.YtmhhdlcdfgahkaaDoorWO
import Derived.Test.YtmhhdlcdfgahkaaDoorJ01
import Derived.Test.YtmhhdlcdfgahkaaDoorJ34
import Derived.Deep.Light
import Derived.Deep.RegionWith
import Derived.Test.YtmhhdlcdfgahkaaDoorJ04
import Derived.Test.YtmhhdlcdfgahkaaDoorJ02
import Derived.Laws.ResultCell
namespace Go.Proofs.YtmhhdlcdfgahkaaDoor
open Go.ChangeShapes Go.WideShapes Go.ChangeAt Go.RowKit

set_option maxRecDepth 20000 in
theorem room_nat (w : World) (t : Nat) (h : t ≤ 9223372036854775807) :
    Calls Tryd.prog 53 #[.int .i64 (t : Int)] w fun e w' => e = .returned (.tuple #[.int .i64 (zr t : Int), .int .i64 (lf t : Int)]) ∧ w' = w := by
  by_cases hz : 64 - t % 64 < 7
  · have hz' : (64 : Int) - (t : Int) % 64 < 7 := by omega
    have hm : max (t : Int) 0 = (t : Int) := by omega
    go_enter Tryd.func53, Tryd.ntmps53
    go_wp2
    go_ret2
    exact ⟨by unfold zr lf; rw [if_pos hz, if_pos hz]; go_num, rfl⟩
  · have hz' : 7 ≤ (64 : Int) - (t : Int) % 64 := by omega
    have hm : max (t : Int) 0 = (t : Int) := by omega
    go_enter Tryd.func53, Tryd.ntmps53
    go_wp2
    go_ret2
    exact ⟨by unfold zr lf; rw [if_neg hz, if_neg hz]; go_num, rfl⟩
set_option maxRecDepth 20000 in
theorem room_c (w : World) (z : Int) (h : z ≤ 9223372036854775807) :
    Calls Tryd.prog 53 #[.int .i64 z] w fun e w' => e = .returned (.tuple #[.int .i64 (zr z.toNat : Int), .int .i64 (lf z.toNat : Int)]) ∧ w' = w := by
  by_cases hz : 0 ≤ z
  · obtain ⟨t, rfl⟩ : ∃ t : Nat, z = (t : Int) := ⟨z.toNat, by omega⟩
    exact room_nat w t (by omega)
  · have hm : max z 0 = 0 := by omega
    have h0 : z.toNat = 0 := by omega
    rw [h0]
    clear h0
    go_enter Tryd.func53, Tryd.ntmps53
    go_wp2
    go_ret2
    exact ⟨rfl, rfl⟩

theorem nfr_int {l n : Nat} (h7 : 7 ≤ l) (_h64 : l ≤ 64) : 1 + (max ((n : Int) - ((l : Int) - 7)) 0 + 57 - 1) / 57 = ((nfr l n : Nat) : Int) := by
  unfold nfr; omega

end Go.Proofs.YtmhhdlcdfgahkaaDoor
namespace Go.Proofs.YtmhhdlcdfgahkaaDoor
open Go.ChangeShapes Go.WideShapes Go.ChangeAt Go.RowKit

theorem Rd.shape {w : World} {a : Option Addr} {n c : Nat} {ns : List Nat} (h : Rd w (.slice a n c) (bv ns)) : n = ns.length := by
  obtain ⟨_, _, e⟩ := h.form
  simp only [Value.slice.injEq, bv_len] at e
  exact e.2.1

set_option maxRecDepth 20000 in
set_option maxHeartbeats 800000 in
theorem trimR_c {w : World} {v : Value} {ns : List Nat} (hr : Rd w v (bv ns)) (hb : By ns) (hl : ns.length ≤ 1000) :
    Calls Tryd.prog 78 #[v, .int .u8 0] w fun e w' => ∃ a k c, e = .returned (.slice a k c) ∧ w' = w ∧ Rd w (.slice a k c) (bv (ns.take k)) ∧ k ≤ ns.length ∧ ∀ x ∈ ns.drop k, x = 0 := by
  obtain ⟨a, c, hv⟩ := hr.form
  rw [bv_len] at hv
  subst hv
  have HR := hid hr
  have HB := hid hb
  clear hr hb
  go_enter Tryd.func78, Tryd.ntmps78
  go_wp2
  go_loop [0] (fun v0 => ∃ a k c, v0 = .slice a k c ∧ Rd w (.slice a k c) (bv (ns.take k)) ∧ k ≤ ns.length ∧ ∀ x ∈ ns.drop k, x = 0) (fun v0 => match v0 with | .slice _ k _ => k | _ => 0)
  case atStart => exact ⟨a, ns.length, c, rfl, by rw [List.take_length]; exact HR.out, Nat.le_refl _, fun x hx => by simp at hx⟩
  case round =>
    obtain ⟨a, k, c, rfl, h1, h2, h3⟩ := hrel
    have R1 := hid h1
    have R3 := hid h3
    clear h1 h3
    cases k with
    | zero =>
      go_wp2
      go_ret
      exact ⟨_, _, _, rfl, rfl, R1.out, h2, R3.out⟩
    | succ k =>
      have hlen : (ns.take (k + 1)).length = k + 1 := by rw [List.length_take]; omega
      obtain ⟨x, hx⟩ : ∃ x, ns[k]? = some x := ⟨_, List.getElem?_eq_getElem (by omega)⟩
      rcases R1.out.split with ⟨h, _⟩ | ⟨b, off, c', hv, hc, _, hcell⟩
      · rw [h] at hlen; cases hlen
      rw [hlen] at hv hc
      simp only [Value.slice.injEq] at hv
      obtain ⟨rfl, _, rfl⟩ := hv
      have hcx := hcell k x (by rw [List.getElem?_take, if_pos (by omega)]; exact hx)
      have hx256 := HB.out.at hx
      have HX := hid hx
      clear hcell hx
      have e1 : ((k + 1 : Nat) : Int) - 1 = (k : Int) := by omega
      by_cases hz : x = 0
      · subst hz
        have R1' : Hid (Rd w (.slice (some ⟨b, off, none⟩) k c) (bv (ns.take k))) := by
          have h := R1.out
          rw [show Value.slice (some ⟨b, off, none⟩) (k + 1) c = .slice (some ⟨b, off, none⟩) (ns.take (k + 1)).length c from by rw [hlen]] at h
          have := h.front (q := k) (by omega)
          rw [List.take_take, Nat.min_eq_left (by omega)] at this
          exact this
        have hkc : k ≤ c := by omega
        go_wp2
        go_round
        case rel =>
          refine ⟨_, k, c, rfl, R1'.out, by omega, fun y hy => ?_⟩
          rw [List.drop_eq_getElem_cons (by omega)] at hy
          rcases List.mem_cons.1 hy with rfl | hy
          · have := HX.out
            rw [List.getElem?_eq_getElem (by omega)] at this
            simpa using this
          · exact R3.out y hy
        case measure => simp
      · have hz' : ((x : Int) == 0) = false := beq_eq_false_iff_ne.2 (by omega)
        go_wp2
        go_ret
        exact ⟨_, _, _, rfl, rfl, R1.out, h2, R3.out⟩
set_option maxRecDepth 20000 in
set_option maxHeartbeats 800000 in
theorem trimL_c {w : World} {v : Value} {ns : List Nat} (hr : Rd w v (bv ns)) (hb : By ns) (hl : ns.length ≤ 1000) :
    Calls Tryd.prog 77 #[v, .int .u8 0] w fun e w' => ∃ a k c, e = .returned (.slice a k c) ∧ w' = w ∧ (k = 0 ↔ ∀ x ∈ ns, x = 0) := by
  obtain ⟨a, c, hv⟩ := hr.form
  rw [bv_len] at hv
  subst hv
  have HR := hid hr
  have HB := hid hb
  clear hr hb
  go_enter Tryd.func77, Tryd.ntmps77
  go_wp2
  go_loop [0] (fun v0 => ∃ (a : Option Addr) (ms ps : List Nat) (c : Nat), v0 = .slice a ms.length c ∧ Rd w (.slice a ms.length c) (bv ms) ∧ ns = ps ++ ms ∧ ∀ x ∈ ps, x = 0) (fun v0 => match v0 with | .slice _ k _ => k | _ => 0)
  case atStart => exact ⟨a, ns, [], c, rfl, HR.out, rfl, fun x hx => by simp at hx⟩
  case round =>
    obtain ⟨a, ms, ps, c, rfl, h1, h2, h3⟩ := hrel
    have R1 := hid h1
    have R2 := hid h2
    have R3 := hid h3
    have hml : ms.length ≤ ns.length := by rw [h2, List.length_append]; omega
    clear h1 h3 h2
    cases ms with
    | nil =>
      simp only [List.length_nil] at *
      go_wp2
      go_ret
      refine ⟨_, _, _, rfl, rfl, ⟨fun _ => ?_, fun _ => rfl⟩⟩
      rw [R2.out, List.append_nil]; exact R3.out
    | cons x ms =>
      have hx256 : x < 256 := HB.out x (by rw [R2.out]; simp)
      rcases R1.out.split with ⟨h, _⟩ | ⟨b, off, c', hv, hc, _, hcell⟩
      · cases h
      simp only [Value.slice.injEq] at hv
      obtain ⟨rfl, _, rfl⟩ := hv
      have hcx := hcell 0 x rfl
      rw [Nat.add_zero] at hcx
      clear hcell
      have B1 := hid (R1.out.back (q := 1) (by simp))
      simp only [List.length_cons, Nat.add_sub_cancel, List.drop_succ_cons, List.drop_zero] at *
      by_cases hz : x = 0
      · subst hz
        have R0 : Hid (c = 1 → Rd w (.slice (some ⟨b, off, none⟩) ms.length (c - 1)) (bv ms)) := fun h => Rd.none_ (by omega) (by omega)
        have hrl : Hid (∀ y ∈ ps ++ [0], y = 0) := fun y hy => by
          rcases List.mem_append.1 hy with hy | hy
          · exact R3.out y hy
          · simpa using hy
        have R2' : Hid (ns = ps ++ [0] ++ ms) := by unfold Hid; rw [List.append_assoc]; exact R2.out
        have RI : Hid (Rd w (.slice (if c = 1 then some ⟨b, off, none⟩ else some ⟨b, off + 1, none⟩) ms.length (c - 1)) (bv ms)) := by
          unfold Hid
          by_cases h : c = 1
          · rw [if_pos h]; exact R0.out h
          · rw [if_neg h]; exact B1.out
        go_wp2
        go_round
        case rel => exact ⟨_, ms, ps ++ [0], _, rfl, RI.out, R2'.out, hrl.out⟩
        case measure => simp
      · have hz' : ((x : Int) == 0) = false := beq_eq_false_iff_ne.2 (by omega)
        go_wp2
        go_ret
        refine ⟨_, _, _, rfl, rfl, ⟨fun h => by omega, fun h => ?_⟩⟩
        exact absurd (h x (by rw [R2.out]; simp)) hz
set_option maxRecDepth 20000 in
set_option maxHeartbeats 800000 in
theorem trim_c {w : World} {v : Value} {ns : List Nat} (hr : Rd w v (bv ns)) (hb : By ns) (hl : ns.length ≤ 1000) :
    Calls Tryd.prog 54 #[v, .string ⟨#[0]⟩] w fun e w' => ∃ a k c, e = .returned (.slice a k c) ∧ Fr [] w w' ∧ (k = 0 ↔ ∀ x ∈ ns, x = 0) := by
  obtain ⟨a, c, hv⟩ := hr.form
  rw [bv_len] at hv
  subst hv
  by_cases h0 : ns.length = 0
  · have : ns = [] := List.eq_nil_of_length_eq_zero h0
    subst this
    simp only [List.length_nil]
    clear hr
    go_enter Tryd.func54, Tryd.ntmps54
    go_wp2
    go_ret
    exact ⟨_, _, _, rfl, Fr.refl _ _, by simp⟩
  · have h1 : ((ns.length : Int) == 0) = false := beq_eq_false_iff_ne.2 (by omega)
    have TR := hid (trimR_c (w := w.drew) (hr.fr (Fr.refl _ _).drew) hb hl)
    have HB := hid hb
    clear hr hb
    go_enter Tryd.func54, Tryd.ntmps54
    go_wp2_with fail
    go_region_with (first
      | (go_at_call 78
         refine TR.out.mono ?_
         rintro e w1 ⟨a1, k1, c1, rfl, rfl, r1, hk1, hz1⟩
         have HR1 := hid r1
         have HZ1 := hid hz1
         clear r1 hz1)
      | (go_at_call 77
         refine (trimL_c HR1.out (HB.out.take k1) (by rw [List.length_take]; omega)).mono ?_
         rintro e w2 ⟨a2, k2, c2, rfl, rfl, hz2⟩
         have HZ2 := hid hz2
         clear hz2))
    all_goals go_wp2
    all_goals go_ret
    all_goals
      refine ⟨_, _, _, rfl, (Fr.refl _ _).drew, ?_⟩
      rw [HZ2.out]
      constructor
      · intro h x hx
        rw [← List.take_append_drop k1 ns] at hx
        rcases List.mem_append.1 hx with hx | hx
        · exact h x hx
        · exact HZ1.out x hx
      · intro h x hx
        exact h x (List.mem_of_mem_take hx)
end Go.Proofs.YtmhhdlcdfgahkaaDoor
namespace Go.Proofs.YtmhhdlcdfgahkaaDoor
open Go.ChangeShapes Go.WideShapes Go.ChangeAt Go.RowKit

theorem cell_frw {w w' : World} {p : Addr} {v : Value} (h : w.cell? p = some v) (hf : Fr [] w w') : w'.cell? p = some v := by
  rw [World.cell?_of_block (w := w) (hf.block _ (World.block_lt_of_cell? w _ h) (by simp))]; exact h
theorem store3 {W : World} {g : Nat} {x y z a b c : Value} {T : TypeId} (h : W.heap[g]? = some (.cells #[x, y, z] T (0, 0))) : (((W.setCell ⟨g, 0, none⟩ a).setCell ⟨g, 1, none⟩ b).setCell ⟨g, 2, none⟩ c).heap[g]? = some (.cells #[a, b, c] T (0, 0)) := by
  rw [blk_set (blk_set (blk_set h 0 a) 1 b) 2 c]; rfl
theorem fr3 {w W : World} {g : Nat} (h : Fr [] w W) (hg : w.heap.size ≤ g) (a b c : Value) : Fr [] w (((W.setCell ⟨g, 0, none⟩ a).setCell ⟨g, 1, none⟩ b).setCell ⟨g, 2, none⟩ c) :=
  ((h.set _ _ (.inr hg)).set _ _ (.inr hg)).set _ _ (.inr hg)
theorem sizeFrag : (Tryd.prog.info? 82).map (·.size) = some 3 := by kernel_rfl
theorem load_frag {w : World} {g : Nat} {a b c : Value} {t : TypeId} (hg : w.heap[g]? = some (.cells #[a, b, c] t (0, 0))) : (loadVar 82 ⟨g, 0, none⟩).run Tryd.prog w = .ok (.agg #[a, b, c]) w :=
  run_loadVar_row w g t 82 #[a, b, c] (0, 0) _ hg Tryd.underlying82 rfl sizeFrag
theorem ret_ct {fn : Func} {p u : Tmp} {ty : TypeId} (h : fn.results = #[.cell p ty, .tmp u]) {tmps : Array Value} {w : World} {g : Nat} {cs : Array Value} (hp : tmps.getD p undef = .pointer (some ⟨g, 0, none⟩)) (hg : (loadVar ty ⟨g, 0, none⟩).run Tryd.prog w = .ok (.agg cs) w) :
    (results fn tmps).run Tryd.prog w = .ok (.tuple #[.agg cs, tmps.getD u undef]) w := by
  rw [results_cell_tmp h, hp]
  simp [asAddr, hg]

set_option maxRecDepth 20000 in
set_option maxHeartbeats 800000 in
theorem find_short (w : World) {v : Value} {b : List Nat} (hr : Rd w v (bv b)) {t : Nat} (ht : t ≤ b.length) (hl : b.length ≤ 4194304) (hs : b.length < t + zr t + 7) :
    Calls Tryd.prog 36 #[v, .int .i64 (t : Int)] w fun r w' => r = .returned (.tuple #[.agg #[.int .u8 0, .slice none 0 0, .int .i64 0], .bool false]) ∧ Fr [] w w' := by
  obtain ⟨a, c, hv⟩ := hr.form
  rw [bv_len] at hv
  subst hv
  have h1 := lf_ge t
  have h2 := lf_le t
  have h3 := zr_le t
  have RC := fun w => room_nat w t (by omega)
  generalize zr t = z at *
  generalize lf t = l at *
  have k1 : (b.length : Int) - ((t : Int) + (z : Int)) < (l : Int) := by omega
  have k2 : (b.length : Int) - ((t : Int) + (z : Int)) < 7 := by omega
  have RCH := hid RC
  clear hr RC
  go_enter Tryd.func36, Tryd.ntmps36
  go_wp2_with (go_at_call 53; refine (RCH.out _).mono ?_; rintro e w1 ⟨rfl, rfl⟩)
  exact bodyPost_ret (ret_ct rfl rfl (load_frag (blk_new _ _))) rfl ⟨rfl, (Fr.refl _ _).alloc _⟩

/-- What find has in hand behind the bytes 0. -/
theorem frag0 {w w1 : World} (f : Fr [] (w.alloc (.cells #[.int .u8 0, .slice none 0 0, .int .i64 0] 82)) w1) : w1.heap[w.heap.size]? = some (.cells #[.int .u8 0, .slice none 0 0, .int .i64 0] 82 (0, 0)) :=
  f.at (blk_new w _) (by simp)
set_option maxRecDepth 20000 in
set_option maxHeartbeats 800000 in
theorem find_fill (w : World) {v : Value} {b : List Nat} (hr : Rd w v (bv b)) (hb : By b) {t : Nat} (hl : b.length ≤ 4194304) (hs : t + zr t + 7 ≤ b.length) (hz : ¬ ∀ x ∈ (b.drop t).take (zr t), x = 0) :
    Calls Tryd.prog 36 #[v, .int .i64 (t : Int)] w fun r w' => r = .returned (.tuple #[.agg #[.int .u8 0, .slice none 0 0, .int .i64 0], .bool false]) ∧ Fr [] w w' := by
  obtain ⟨q, off, c, rfl, hc⟩ := hr.place (by omega)
  have h1 := lf_ge t
  have h2 := lf_le t
  have h3 := zr_le t
  have RC := fun w => room_nat w t (by omega)
  have f0 : Fr [] w (w.alloc (.cells #[.int .u8 0, .slice none 0 0, .int .i64 0] 82)) := (Fr.refl [] w).alloc _
  have RZ := hid ((hr.mid (i := t) (n := zr t) (by omega)).fr f0)
  have BZ := hid ((hb.drop t).take (zr t))
  have LZ : ((b.drop t).take (zr t)).length ≤ 1000 := by rw [List.length_take]; omega
  have HZ := hid hz
  have F0 := hid f0
  clear hz f0 hr hb
  generalize (b.drop t).take (zr t) = zs at *
  generalize zr t = z at *
  generalize lf t = l at *
  have k0 : ¬ (c = t) := by omega
  have RCH := hid RC
  clear RC
  rcases (show (b.length : Int) - ((t : Int) + (z : Int)) < (l : Int) ∨ ¬ ((b.length : Int) - ((t : Int) + (z : Int)) < (l : Int)) from by omega) with k1 | k1
  all_goals
    have k3 : ¬ (b.length : Int) - ((t : Int) + (z : Int)) < 7 := by omega
    have k4 : ¬ (l : Int) < 7 := by omega
    have k5 : ((t : Int) + (z : Int)).toNat = t + z := by omega
    have k6 : t + z ≤ c := by omega
    have k7 : t + z - t = z := by omega
    go_enter Tryd.func36, Tryd.ntmps36
    go_wp2_with (first
      | (go_at_call 53; refine (RCH.out _).mono ?_; rintro e w1 ⟨rfl, rfl⟩)
      | (go_at_call 54
         refine (trim_c RZ.out BZ.out LZ).mono ?_
         rintro e w2 ⟨a2, n2, c2, rfl, f2, hz2⟩
         have hn2 : 0 < n2 := Nat.pos_of_ne_zero fun e => HZ.out (hz2.1 e)
         have F2 := hid f2
         have hg := frag0 f2
         have g0 := blk_cell hg 0
         have g1 := blk_cell hg 1
         have g2 := blk_cell hg 2
         have z0 := blk_frozen hg 0
         have z1 := blk_frozen hg 1
         have z2 := blk_frozen hg 2
         simp at g0 g1 g2
         have HG := hid hg
         clear hz2 f2 hg))
    exact bodyPost_ret (ret_ct rfl rfl (load_frag (store3 HG.out))) rfl ⟨rfl, fr3 (F0.out.trans F2.out) (Nat.le_refl _) _ _ _⟩
end Go.Proofs.YtmhhdlcdfgahkaaDoor
