/-
  What Sum of package codec answers, and the reference's.
-/
import Derived.Test.YtobdegmlijnogaaJ02
import Derived.Test.YtobdegmlijnogaaJ03
import Derived.Lib.SlBytesConst
import Derived.Test.YtobdegmlijnogaaJ06
import Derived.Test.YtobdegmlijnogaaJ08
import Derived.Deep.Cut
import Derived.Deep.RegionHeld
import Derived.Deep.Light
import Derived.Laws.ResultCell
import Derived.Deep.WholeRow
namespace Go.Proofs.Ytobdegmlijnogaa
open Go.ChangeShapes Go.WideShapes Go.ChangeAt Go.RowKit

theorem wrap32_nat {n : Nat} (h : n < 4294967296) : IntKind.u32.wrap (n : Int) = (n : Int) := by rw [IntKind.wrap_u32']; omega
theorem cs_mask {r : Nat} (h : r < 4294967296) :
    bits .xor .u32 ((r : Int) / 2) (bits .and .u32 2197175160 (-bits .and .u32 (r : Int) 1 % 4294967296)) = (cs r : Int) := by
  have h1 : bits .and .u32 (r : Int) 1 = ((r % 2 : Nat) : Int) := by
    have := u32_and_nat r 1 h (by omega)
    rw [nat_mask1] at this; exact this
  rw [h1, show (r : Int) / 2 = ((r / 2 : Nat) : Int) from by omega]
  unfold cs
  rcases Nat.mod_two_eq_zero_or_one r with e | e <;> rw [e]
  · have h2 : bits .and .u32 2197175160 (-((0 : Nat) : Int) % 4294967296) = ((0 : Nat) : Int) := by decide
    rw [h2, if_neg (by omega), u32_xor_nat _ _ (by omega) (by omega)]
  · have h2 : bits .and .u32 2197175160 (-((1 : Nat) : Int) % 4294967296) = ((2197175160 : Nat) : Int) := by decide
    rw [h2, if_pos rfl, u32_xor_nat _ _ (by omega) (by omega)]
theorem crc_end {r : Nat} (h : r < 4294967296) : bits .xor .u32 4294967295 (r : Int) = ((4294967295 ^^^ r : Nat) : Int) := u32_xor_nat 4294967295 r (by omega) h
theorem crcF_snoc {ns : List Nat} {k x : Nat} (h : ns[k]? = some x) (r : Nat) : crcF r (ns.take (k + 1)) = csN 8 (crcF r (ns.take k) ^^^ x) := by
  rw [List.take_add_one, h, crcF_append]; rfl

set_option maxRecDepth 20000 in
set_option maxHeartbeats 800000 in
theorem sum_c {w : World} {v : Value} {ns : List Nat} (hr : Rd w v (bv ns)) (hb : By ns) (hl : ns.length ≤ 140737488355328) :
    Calls Try.prog 56 #[v] w fun e w' => e = .returned (.int .u32 (crc ns : Int)) ∧ w' = w := by
  rcases hr.split with ⟨rfl, a, c, rfl⟩ | ⟨b, off, c, rfl, h1, h2, hc⟩
  · clear hr
    go_enter Try.func56, Try.ntmps56
    go_wp2
    refine wp_loop_rounds 1 ?_
    rw [rounds_succ]
    go_wp2
    go_ret
    exact ⟨rfl, rfl⟩
  · clear hr
    have HC := hid hc
    have HB := hid hb
    clear hc hb
    go_enter Try.func56, Try.ntmps56
    go_wp2
    go_loop [3, 9] (fun v3 v9 => ∃ (k r : Nat), k ≤ ns.length ∧ v9 = .int .i64 (k : Int) ∧ v3 = .int .u32 (r : Int) ∧ r < 4294967296 ∧ r = crcF 4294967295 (ns.take k)) (fun _ v9 => ns.length - (intOf v9).toNat)
    case atStart => exact ⟨0, 4294967295, by omega, rfl, rfl, by omega, rfl⟩
    case round =>
      obtain ⟨k, r, hk, rfl, rfl, hr, hrc⟩ := hrel
      have HR := hid hrc
      clear hrc
      by_cases hlt : k < ns.length
      · obtain ⟨x, hx, hd⟩ := drop_at hlt
        have hcell := HC.out k x hx
        have hx256 : x < 256 := HB.out.at hx
        have hxr := u32_xor_nat r x hr (by omega)
        have hs0 := crcF_snoc hx 4294967295
        rw [← HR.out] at hs0
        have HS := hid hs0
        clear hs0
        have hq : r ^^^ x < 4294967296 := xor_lt32 hr (by omega)
        clear hd hx
        generalize r ^^^ x = q at *
        go_wp2
        go_loop [3, 17] (fun v3 v17 => ∃ (j s : Nat), j ≤ 8 ∧ v17 = .int .i64 (j : Int) ∧ v3 = .int .u32 (s : Int) ∧ s < 4294967296 ∧ s = csN j q) (fun _ v17 => 8 - (intOf v17).toNat)
        case atStart => exact ⟨0, q, by omega, rfl, rfl, hq, rfl⟩
        case round =>
          obtain ⟨j, s, hj, rfl, rfl, hs, hsc⟩ := hrel
          have HSC := hid hsc
          clear hsc
          have hcm := cs_mask hs
          have hcl := cs_lt hs
          by_cases hj8 : j < 8
          · go_wp2
            go_round
            case rel => exact ⟨j + 1, cs s, by omega, by go_num, rfl, hcl, by rw [HSC.out]; rfl⟩
            case measure => simp [intOf]; omega
          · go_wp2
            have hj' : j = 8 := by omega
            go_round
            case rel => exact ⟨k + 1, s, by omega, by go_num, rfl, hs, by rw [HSC.out, hj', HS.out]⟩
            case measure => simp [intOf]; omega
      · have : k = ns.length := by omega
        subst this
        go_wp2
        go_ret
        refine ⟨?_, rfl⟩
        have hce := crc_end hr
        show Ending.returned (.int .u32 (bits .xor .u32 4294967295 (r : Int))) = _
        rw [hce, HR.out, List.take_length]; rfl

theorem cs_odd {r : Nat} (h : r < 4294967296) (e : r % 2 = 1) : bits .xor .u32 ((r : Int) / 2) 2197175160 = (cs r : Int) := by
  rw [show (r : Int) / 2 = ((r / 2 : Nat) : Int) from by omega]
  have := u32_xor_nat (r / 2) 2197175160 (by omega) (by omega)
  unfold cs; rw [if_pos e]; exact this
theorem cs_even {r : Nat} (e : ¬ r % 2 = 1) : (r : Int) / 2 = (cs r : Int) := by
  unfold cs; rw [if_neg e, Nat.xor_zero]; omega

end Go.Proofs.Ytobdegmlijnogaa
namespace Go.Proofs.Ytobdegmlijnogaa
open Go.ChangeShapes Go.WideShapes Go.ChangeAt Go.RowKit

theorem str_key : strOf (keyL [] 1 1) = ⟨#[1, 1, 0, 0, 0, 0, 0, 0]⟩ := by decide
theorem crc_known : crc [49, 50, 51, 52, 53, 54, 55, 56, 57] = 3808858755 := by decide +kernel
theorem put_known : putL 300 = [172, 2] := by rw [putL_ge (by omega), putL_lt (by omega)]
theorem str_put : strOf [172, 2] = ⟨#[172, 2]⟩ := by decide

theorem beq_str (s t : ByteArray) : (s.toList == t.toList) = decide (s = t) := by
  by_cases h : s = t
  · subst h; simp
  · have : s.toList ≠ t.toList := fun e => h (by
      cases s with | mk a => cases t with | mk b =>
      have h1 : a.toList = b.toList := by simpa [ByteArray.toList_eq] using e
      rw [Array.toList_inj.1 h1])
    simp [this, h]

set_option maxHeartbeats 400000 in
theorem bytes_c {w : World} {v1 v2 : Value} {a b : List Nat} (h1 : Rd w v1 (bv a)) (h2 : Rd w v2 (bv b)) (ha : By a) (hb : By b) :
    Calls Try.prog 15 #[v1, v2] w fun e w' => e = .returned (.bool (decide (a = b))) ∧ w' = w := by
  have e1 := run_conv h1
  have e2 := run_conv h2
  have e3 : ((strOf a).toList == (strOf b).toList) = decide (a = b) := by
    rw [beq_str]
    by_cases h : a = b
    · subst h; simp
    · have : strOf a ≠ strOf b := fun e => h (strOf_inj ha hb e)
      simp [this, h]
  obtain ⟨a1, c1, rfl⟩ := h1.form
  obtain ⟨a2, c2, rfl⟩ := h2.form
  clear h1 h2 ha hb
  go_enter Try.func15, Try.ntmps15
  go_wp2
  go_ret
  exact ⟨rfl, rfl⟩
end Go.Proofs.Ytobdegmlijnogaa
namespace Go.Proofs.Ytobdegmlijnogaa
open Go.ChangeShapes Go.WideShapes Go.ChangeAt Go.RowKit

theorem cell_fr {w w' : World} (f : Fr [] w w') {p : Addr} {v : Value} (h : w.cell? p = some v) : w'.cell? p = some v := by
  rw [World.cell?_of_block (w := w) (f.block _ (World.block_lt_of_cell? w _ h) (by simp))]; exact h
/-- Does a block hold a byte? -/
def U8 (w : World) (k : Nat) : Prop := ∃ p n, p.block = k ∧ w.cell? p = some (.int .u8 n)
theorem U8.lt {w : World} {k : Nat} (h : U8 w k) : k < w.heap.size := by
  obtain ⟨p, n, rfl, h⟩ := h
  exact World.block_lt_of_cell? w _ h
theorem Rd.keep {w w' : World} {v : Value} {ns : List Nat} (h : Rd w v (bv ns)) (hk : ∀ k, U8 w k → w'.heap[k]? = w.heap[k]?) : Rd w' v (bv ns) := by
  rcases h with h | ⟨a, c, rfl, h4, h5⟩
  · exact .inl h
  · refine .inr ⟨a, c, rfl, h4, fun j u hj => ?_⟩
    have h6 := h5 j u hj
    have hu : ∃ n : Int, u = .int .u8 n := by
      obtain ⟨n, _, rfl⟩ := List.mem_map.1 (List.mem_of_getElem? hj)
      exact ⟨_, rfl⟩
    obtain ⟨n, rfl⟩ := hu
    rw [World.cell?_of_block (w := w) (hk _ ⟨_, _, rfl, h6⟩)]; exact h6
theorem noU8 {w : World} {b : Nat} {cs : List Value} {T : TypeId} (h : w.heap[b]? = some (.cells cs.toArray T (0, 0))) (hc : ∀ c ∈ cs, ∀ n, c ≠ .int .u8 n) : ¬ U8 w b := by
  rintro ⟨⟨_, o, sp⟩, n, rfl, hn⟩
  have hsp : sp = none := World.cell?_spot hn
  subst hsp
  rw [blk_cell h, List.getElem?_toArray] at hn
  exact hc _ (List.mem_of_getElem? hn) n rfl

theorem infoP : (Try.prog.info? 41).map (fun i => (i.zero, i.size, i.bytes)) = some (some (.agg #[.slice none 0 0, .slice none 0 0]), 2, 48) := by kernel_rfl
/-- A pair of bytes at a place. -/
structure PAt (w : World) (b o : Nat) (p : List Nat × List Nat) (ka : Option Addr) (kc : Nat) (va : Option Addr) (vc : Nat) : Prop where
  ck : w.cell? ⟨b, o, none⟩ = some (.slice ka p.1.length kc)
  cv : w.cell? ⟨b, o + 1, none⟩ = some (.slice va p.2.length vc)
  rk : Rd w (.slice ka p.1.length kc) (bv p.1)
  rv : Rd w (.slice va p.2.length vc) (bv p.2)
  bk : By p.1
  bv' : By p.2
  lk : p.1.length ≤ 140737488355328
  lv : p.2.length ≤ 140737488355328
theorem PAt.fr {w w' : World} {b o : Nat} {p : List Nat × List Nat} {ka va : Option Addr} {kc vc : Nat} (h : PAt w b o p ka kc va vc) (f : Fr [] w w') : PAt w' b o p ka kc va vc :=
  ⟨cell_fr f h.ck, cell_fr f h.cv, h.rk.fr f, h.rv.fr f, h.bk, h.bv', h.lk, h.lv⟩
/-- Pairs that can be read. -/
def RdK (w : World) (v : Value) (ps : Ps) : Prop :=
  ∃ a c, v = .slice a ps.length c ∧ ps.length ≤ c ∧ (0 < ps.length → ∃ b off, a = some ⟨b, off, none⟩ ∧ ∀ (j : Nat) (p : List Nat × List Nat), ps[j]? = some p → ∃ ka kc va vc, PAt w b (off + j * 2) p ka kc va vc)
theorem RdK.fr {w w' : World} {v : Value} {ps : Ps} (h : RdK w v ps) (f : Fr [] w w') : RdK w' v ps := by
  obtain ⟨a, c, h1, h2, h3⟩ := h
  refine ⟨a, c, h1, h2, fun h0 => ?_⟩
  obtain ⟨b, off, h4, h5⟩ := h3 h0
  refine ⟨b, off, h4, fun j p hj => ?_⟩
  obtain ⟨ka, kc, va, vc, h6⟩ := h5 j p hj
  exact ⟨ka, kc, va, vc, h6.fr f⟩
theorem RdK.by {w : World} {v : Value} {ps : Ps} (h : RdK w v ps) : ByP ps := fun p hp => by
  obtain ⟨a, c, h1, h2, h3⟩ := h
  obtain ⟨b, off, h4, h5⟩ := h3 (List.length_pos_of_mem hp)
  obtain ⟨j, hj⟩ := List.getElem?_of_mem hp
  obtain ⟨_, _, _, _, h6⟩ := h5 j p hj
  exact ⟨h6.bk, h6.bv'⟩
theorem RdK.lens {w : World} {v : Value} {ps : Ps} (h : RdK w v ps) : ∀ p ∈ ps, p.1.length ≤ 140737488355328 ∧ p.2.length ≤ 140737488355328 := fun p hp => by
  obtain ⟨a, c, h1, h2, h3⟩ := h
  obtain ⟨b, off, h4, h5⟩ := h3 (List.length_pos_of_mem hp)
  obtain ⟨j, hj⟩ := List.getElem?_of_mem hp
  obtain ⟨_, _, _, _, h6⟩ := h5 j p hj
  exact ⟨h6.lk, h6.lv⟩
theorem RdK.nil (w : World) : RdK w (.slice none 0 0) [] := ⟨none, 0, rfl, Nat.le_refl _, fun h => by simp at h⟩
/-- Pairs of the call's own. -/
def ColK (W : World) (B : Nat) (v : Value) (ps : Ps) : Prop := ∃ cs, W.ownsRow B 41 2 v ps.length cs ∧ (∀ c ∈ cs, ∃ a n k, c = Value.slice a n k) ∧
  ∀ (j : Nat) (p : List Nat × List Nat), ps[j]? = some p → ∃ kv vv, cs[j * 2]? = some kv ∧ cs[j * 2 + 1]? = some vv ∧ Rd W kv (bv p.1) ∧ Rd W vv (bv p.2) ∧ By p.1 ∧ By p.2 ∧ p.1.length ≤ 140737488355328 ∧ p.2.length ≤ 140737488355328
theorem ColK.nil (W : World) (B : Nat) : ColK W B (.slice none 0 0) [] := ⟨[], World.ownsRow_nil _ _ _ _, fun c h => (by cases h), fun j p h => by simp at h⟩
theorem ColK.step {W W' : World} {B : Nat} {v : Value} {ps : Ps} (h : ColK W B v ps) (hb : ∀ k, v.ownBlock = some k → W'.heap[k]? = W.heap[k]?) (hu : ∀ k, U8 W k → W'.heap[k]? = W.heap[k]?) : ColK W' B v ps := by
  obtain ⟨cs, o, h1, h2⟩ := h
  refine ⟨cs, ownsRow_of_block o hb, h1, fun j p hj => ?_⟩
  obtain ⟨kv, vv, c0, c1, r0, r1, b0⟩ := h2 j p hj
  exact ⟨kv, vv, c0, c1, r0.keep hu, r1.keep hu, b0⟩
theorem ColK.fr {W W' : World} {B : Nat} {v : Value} {ps : Ps} (h : ColK W B v ps) (f : Fr [] W W') : ColK W' B v ps :=
  h.step (fun k hk => by obtain ⟨cs, o, _⟩ := h; exact f.block k (o.lt k hk).2 (by simp)) (fun k hk => f.block k hk.lt (by simp))
theorem ColK.rd {w : World} {B : Nat} {v : Value} {ps : Ps} (h : ColK w B v ps) : RdK w v ps := by
  obtain ⟨cs, o, h1, h2⟩ := h
  rcases o.2 with ⟨rfl, h0⟩ | ⟨g, cap, cur, rfl, _, h3, h4, h5⟩
  · have : ps = [] := List.eq_nil_of_length_eq_zero h0
    subst this
    exact RdK.nil w
  · refine ⟨_, cap, rfl, h4, fun _ => ⟨g, 0, rfl, fun j p hj => ?_⟩⟩
    obtain ⟨kv, vv, c0, c1, r0, r1, b0, b1, l0, l1⟩ := h2 j p hj
    have d0 := o.cells rfl _ _ c0
    have d1 := o.cells rfl _ _ c1
    rw [Addr.add_lit] at d0 d1
    obtain ⟨a0, k0, e0⟩ := r0.form
    obtain ⟨a1, k1, e1⟩ := r1.form
    rw [bv_len] at e0 e1
    subst e0
    subst e1
    exact ⟨a0, k0, a1, k1, d0, by rw [show 0 + j * 2 + 1 = 0 + (j * 2 + 1) from by omega]; exact d1, r0, r1, b0, b1, l0, l1⟩
end Go.Proofs.Ytobdegmlijnogaa
namespace Go.Proofs.Ytobdegmlijnogaa
open Go.ChangeShapes Go.WideShapes Go.ChangeAt Go.RowKit

structure PlanOk (b r i t : Int) : Prop where
  b0 : 16 ≤ b
  b1 : b ≤ 65536
  r0 : 1 ≤ r
  r1 : r ≤ 64
  i0 : 1 ≤ i
  i1 : i ≤ 64
  t0 : 16 ≤ t
  t1 : t ≤ 4194304
theorem within_c (w : World) (n l m : Int) (b : Bool) (hb : b = decide (l ≤ n ∧ n ≤ m)) :
    Calls Try.prog 47 #[.int .i64 n, .int .i64 l, .int .i64 m] w fun e w' => e = .returned (.bool b) ∧ w' = w := by
  by_cases h1 : l ≤ n
  · by_cases h2 : n ≤ m
    · have hb' : b = true := by rw [hb]; exact decide_eq_true ⟨h1, h2⟩
      subst hb'
      clear hb
      go_enter Try.func47, Try.ntmps47
      go_wp2
      go_ret
      exact ⟨rfl, rfl⟩
    · have hb' : b = false := by rw [hb]; exact decide_eq_false (fun h => h2 h.2)
      subst hb'
      clear hb
      go_enter Try.func47, Try.ntmps47
      go_wp2
      go_ret
      exact ⟨rfl, rfl⟩
  · have hb' : b = false := by rw [hb]; exact decide_eq_false (fun h => h1 h.1)
    subst hb'
    clear hb
    go_enter Try.func47, Try.ntmps47
    go_wp2
    go_ret
    exact ⟨rfl, rfl⟩
set_option maxRecDepth 20000 in
set_option maxHeartbeats 1600000 in
theorem check_c (w : World) (b r i t : Int) :
    Calls Try.prog 21 #[.agg #[.int .i64 b, .int .i64 r, .int .i64 i, .int .i64 t]] w fun e w' => (e = .returned (.int .i64 0) ∧ PlanOk b r i t ∨ e = .returned (.int .i64 82) ∧ ¬ PlanOk b r i t) ∧ Fr [] w w' := by
  by_cases c0 : 16 ≤ b ∧ b ≤ 65536
  case neg =>
    have E0 := hid (show decide (16 ≤ b ∧ b ≤ 65536) = false from decide_eq_false c0)
    have C := hid (show ¬ (16 ≤ b ∧ b ≤ 65536) from c0)
    clear c0
    go_enter Try.func21, Try.ntmps21
    go_wp2_with (go_at_call 47; refine (within_c _ _ _ _ _ rfl).mono ?_; rintro e w1 ⟨rfl, rfl⟩; first
      | rw [E0.out])
    go_ret
    refine ⟨?_, (Fr.refl _ _).alloc _⟩
    exact .inr ⟨rfl, fun h => C.out ⟨h.b0, h.b1⟩⟩
  by_cases c1 : 1 ≤ r ∧ r ≤ 64
  case neg =>
    have E0 := hid (show decide (16 ≤ b ∧ b ≤ 65536) = true from decide_eq_true c0)
    have E1 := hid (show decide (1 ≤ r ∧ r ≤ 64) = false from decide_eq_false c1)
    have C := hid (show (16 ≤ b ∧ b ≤ 65536) ∧ ¬ (1 ≤ r ∧ r ≤ 64) from ⟨c0, c1⟩)
    clear c0 c1
    go_enter Try.func21, Try.ntmps21
    go_wp2_with (go_at_call 47; refine (within_c _ _ _ _ _ rfl).mono ?_; rintro e w1 ⟨rfl, rfl⟩; first
      | rw [E0.out]
      | rw [E1.out])
    go_ret
    refine ⟨?_, (Fr.refl _ _).alloc _⟩
    exact .inr ⟨rfl, fun h => C.out.2 ⟨h.r0, h.r1⟩⟩
  by_cases c2 : 1 ≤ i ∧ i ≤ 64
  case neg =>
    have E0 := hid (show decide (16 ≤ b ∧ b ≤ 65536) = true from decide_eq_true c0)
    have E1 := hid (show decide (1 ≤ r ∧ r ≤ 64) = true from decide_eq_true c1)
    have E2 := hid (show decide (1 ≤ i ∧ i ≤ 64) = false from decide_eq_false c2)
    have C := hid (show (16 ≤ b ∧ b ≤ 65536) ∧ (1 ≤ r ∧ r ≤ 64) ∧ ¬ (1 ≤ i ∧ i ≤ 64) from ⟨c0, c1, c2⟩)
    clear c0 c1 c2
    go_enter Try.func21, Try.ntmps21
    go_wp2_with (go_at_call 47; refine (within_c _ _ _ _ _ rfl).mono ?_; rintro e w1 ⟨rfl, rfl⟩; first
      | rw [E0.out]
      | rw [E1.out]
      | rw [E2.out])
    go_ret
    refine ⟨?_, (Fr.refl _ _).alloc _⟩
    exact .inr ⟨rfl, fun h => C.out.2.2 ⟨h.i0, h.i1⟩⟩
  by_cases c3 : 16 ≤ t ∧ t ≤ 4194304
  case neg =>
    have E0 := hid (show decide (16 ≤ b ∧ b ≤ 65536) = true from decide_eq_true c0)
    have E1 := hid (show decide (1 ≤ r ∧ r ≤ 64) = true from decide_eq_true c1)
    have E2 := hid (show decide (1 ≤ i ∧ i ≤ 64) = true from decide_eq_true c2)
    have E3 := hid (show decide (16 ≤ t ∧ t ≤ 4194304) = false from decide_eq_false c3)
    have C := hid (show (16 ≤ b ∧ b ≤ 65536) ∧ (1 ≤ r ∧ r ≤ 64) ∧ (1 ≤ i ∧ i ≤ 64) ∧ ¬ (16 ≤ t ∧ t ≤ 4194304) from ⟨c0, c1, c2, c3⟩)
    clear c0 c1 c2 c3
    go_enter Try.func21, Try.ntmps21
    go_wp2_with (go_at_call 47; refine (within_c _ _ _ _ _ rfl).mono ?_; rintro e w1 ⟨rfl, rfl⟩; first
      | rw [E0.out]
      | rw [E1.out]
      | rw [E2.out]
      | rw [E3.out])
    go_ret
    refine ⟨?_, (Fr.refl _ _).alloc _⟩
    exact .inr ⟨rfl, fun h => C.out.2.2.2 ⟨h.t0, h.t1⟩⟩
  have E0 := hid (show decide (16 ≤ b ∧ b ≤ 65536) = true from decide_eq_true c0)
  have E1 := hid (show decide (1 ≤ r ∧ r ≤ 64) = true from decide_eq_true c1)
  have E2 := hid (show decide (1 ≤ i ∧ i ≤ 64) = true from decide_eq_true c2)
  have E3 := hid (show decide (16 ≤ t ∧ t ≤ 4194304) = true from decide_eq_true c3)
  have C := hid (show (16 ≤ b ∧ b ≤ 65536) ∧ (1 ≤ r ∧ r ≤ 64) ∧ (1 ≤ i ∧ i ≤ 64) ∧ (16 ≤ t ∧ t ≤ 4194304) from ⟨c0, c1, c2, c3⟩)
  clear c0 c1 c2 c3
  go_enter Try.func21, Try.ntmps21
  go_wp2_with (go_at_call 47; refine (within_c _ _ _ _ _ rfl).mono ?_; rintro e w1 ⟨rfl, rfl⟩; first
    | rw [E0.out]
    | rw [E1.out]
    | rw [E2.out]
    | rw [E3.out])
  go_ret
  refine ⟨?_, (Fr.refl _ _).alloc _⟩
  obtain ⟨⟨b0, b1⟩, ⟨r0, r1⟩, ⟨i0, i1⟩, ⟨t0, t1⟩⟩ := C.out
  exact .inl ⟨rfl, b0, b1, r0, r1, i0, i1, t0, t1⟩

set_option maxRecDepth 20000 in
set_option maxHeartbeats 1600000 in
theorem filling_c (w : World) {v : Value} {ps : Ps} (h : RdK w v ps) (hl : Lim ps) (most : Nat) (hm : most ≤ 100000) :
    Calls Try.prog 52 #[v, .int .i64 (most : Int)] w fun e w' => e = .returned (.int .i64 (fil most ps : Int)) ∧ Fr [] w w' := by
  obtain ⟨a, c, rfl, hc, k1⟩ := h
  have H1 := hid k1
  have hl0 := hl.n
  have HLT := hid hl.t
  clear k1 hl
  obtain ⟨n, hn⟩ : ∃ n, n = ps.length := ⟨_, rfl⟩
  have HN := hid hn
  have hfl : fil most ps = filF most ps n 0 := by rw [hn]; rfl
  have HFL := hid hfl
  rw [← hn] at hc hl0 ⊢
  clear hn hfl
  obtain ⟨z, hz⟩ : ∃ z, z = fil most ps := ⟨_, rfl⟩
  rw [← hz]
  have HZ := hid hz
  clear hz
  go_enter Try.func52, Try.ntmps52
  go_wp2_with fail
  go_loopw [5, 10] (fun v5 v10 wr => ∃ i : Nat, i ≤ n ∧ v10 = .int .i64 (i : Int) ∧ v5 = .int .i64 (tot ps i : Int) ∧ z = filF most ps (n - i) i ∧ Fr [] w wr) (fun _ v10 _ => n - (intOf v10).toNat)
  case atStart => exact ⟨0, Nat.zero_le _, rfl, rfl, by rw [HZ.out, HFL.out]; rfl, Fr.refl _ _⟩
  case round =>
    obtain ⟨i, hi, rfl, rfl, hzi, hf⟩ := hrel
    have HF := hid hf
    have htt1 : tot ps (i + 1) = tot ps i + (kA ps i).length + (vA ps i).length := rfl
    have HTT := hid htt1
    have HZI := hid hzi
    clear hf htt1 hzi
    by_cases hlt : i < n
    · have hil : i < ps.length := by rw [← HN.out]; exact hlt
      obtain ⟨b, off, rfl, m1⟩ := H1.out (by omega)
      obtain ⟨ka, kc, va, vc, P⟩ := m1 i _ (ps_at hil)
      have z1 := cell_fr HF.out P.ck
      have z2 := cell_fr HF.out P.cv
      have htl : tot ps (i + 1) ≤ 100000000 := Nat.le_trans (tot_le ps (i := i + 1) (j := ps.length) (by omega)) HLT.out
      have hrec : filF most ps (n - i) i = if most ≤ tot ps (i + 1) then i + 1 else filF most ps (n - (i + 1)) (i + 1) := by
        rw [show n - i = (n - (i + 1)) + 1 from by omega, filF]
      have HRC := hid hrec
      dsimp only at z1 z2
      rw [HTT.out] at htl
      clear P m1 hrec hil
      obtain ⟨tt, htt⟩ : ∃ tt, tt = tot ps i := ⟨_, rfl⟩
      obtain ⟨lk, hlk⟩ : ∃ lk, lk = (kA ps i).length := ⟨_, rfl⟩
      obtain ⟨lv, hlv⟩ : ∃ lv, lv = (vA ps i).length := ⟨_, rfl⟩
      have HT3 := hid (And.intro htt (And.intro hlk hlv))
      rw [← htt, ← hlk, ← hlv] at htl
      rw [← hlk] at z1
      rw [← hlv] at z2
      rw [← htt]
      clear htt hlk hlv
      by_cases hge : most ≤ tt + lk + lv
      · have hge' : (most : Int) ≤ (tt : Int) + ((lk : Int) + (lv : Int)) := by omega
        go_wp2
        go_ret
        refine ⟨?_, HF.out.alloc _⟩
        have : z = i + 1 := by rw [HZI.out, HRC.out, if_pos (by rw [HTT.out, ← HT3.out.1, ← HT3.out.2.1, ← HT3.out.2.2]; exact hge)]
        rw [this]; go_num
      · have hge' : ¬ (most : Int) ≤ (tt : Int) + ((lk : Int) + (lv : Int)) := by omega
        go_wp2
        go_roundw
        case rel => exact ⟨i + 1, by omega, by go_num, by rw [HTT.out, ← HT3.out.1, ← HT3.out.2.1, ← HT3.out.2.2]; go_num, by rw [HZI.out, HRC.out, if_neg (by rw [HTT.out, ← HT3.out.1, ← HT3.out.2.1, ← HT3.out.2.2]; exact hge)], HF.out.alloc _⟩
        case measure => simp [intOf]; omega
    · have hin : i = n := by omega
      subst hin
      go_wp2
      go_ret
      refine ⟨?_, HF.out⟩
      have : z = i := by rw [HZI.out, Nat.sub_self]; rfl
      rw [this]; rfl
end Go.Proofs.Ytobdegmlijnogaa
namespace Go.Proofs.Ytobdegmlijnogaa
open Go.ChangeShapes Go.WideShapes Go.ChangeAt Go.RowKit

/-- The world behind a Clone of bytes that lie in memory. -/
def cloneW (w : World) (ns : List Nat) : World :=
  if ns = [] then w.alloc (.cells #[] 5) else (w.alloc (.cells #[] 5)).drew.alloc (.cells (#[] ++ (bv ns).toArray ++ Builtin.zeroCells (Value.int .u8 0).cells (grownCap (w.alloc (.cells #[] 5)) (0 + ns.length) 0 5 - (0 + ns.length))) 5)
def cloneV (w : World) (ns : List Nat) : Value :=
  if ns = [] then .slice (some ⟨w.heap.size, 0, none⟩) 0 0 else .slice (some ⟨(w.alloc (.cells #[] 5)).heap.size, 0, none⟩) (0 + ns.length) (grownCap (w.alloc (.cells #[] 5)) (0 + ns.length) 0 5)

theorem clone_fr (w : World) (ns : List Nat) : Fr [] w (cloneW w ns) := by
  unfold cloneW
  split
  · exact (Fr.refl _ _).alloc _
  · exact (((Fr.refl _ _).alloc _).drew).alloc _
theorem clone_own (w : World) (ns : List Nat) (hl : ns.length ≤ 140737488355328) : (cloneW w ns).ownsRow w.heap.size 5 1 (cloneV w ns) ns.length (bv ns) := by
  unfold cloneW cloneV
  by_cases h : ns = []
  · rw [if_pos h, if_pos h, h]
    exact World.ownsRow_lit w #[] 0 (Nat.le_refl _) (by unfold maxLen; omega) rfl
  · rw [if_neg h, if_neg h, Nat.zero_add]
    have h1 := grownCap_ge (w.alloc (.cells #[] 5)) ns.length 0 5
    refine ⟨by rw [bv_len, Nat.mul_one], .inr ⟨_, _, _, rfl, by simp, blk_new _ _, h1, grownCap_le_maxLen _ _ _ _ (by unfold maxLen; omega), ?_, ?_⟩⟩
    · simp only [Array.size_append, size_zeroCells, Value.cells, List.size_toArray, bv_len]
      simp; omega
    · simp [bv_len]

set_option maxRecDepth 20000 in
set_option maxHeartbeats 400000 in
theorem clone_x {w : World} {q off c : Nat} {ns : List Nat} (hr : Rd w (.slice (some ⟨q, off, none⟩) ns.length c) (bv ns)) (hl : ns.length ≤ 140737488355328) :
    Calls Try.prog 31 #[.slice (some ⟨q, off, none⟩) ns.length c] w fun e w' => e = .returned (cloneV w ns) ∧ w' = cloneW w ns := by
  have heq := fun (w : World) (a : Option Addr) (n c : Nat) => Lib.run_eql_slice_nil (P := Try.prog) w 27 5 a n c 0 0 Try.underlying27
  obtain ⟨i0, hi, hz0, hz1, hz2⟩ := info_parts infoB
  by_cases h : ns = []
  · subst h
    have hV : cloneV w [] = .slice (some ⟨w.heap.size, 0, none⟩) 0 0 := rfl
    have hW : cloneW w [] = w.alloc (.cells #[] 5) := rfl
    rw [hV, hW]
    clear hr hV hW hi hz0 hz1 hz2
    go_enter Try.func31, Try.ntmps31
    go_wp2
    go_ret
    exact ⟨rfl, rfl⟩
  · have hpos : 0 < ns.length := List.length_pos_iff.2 h
    have hr' : Rd (w.alloc (.cells #[] 5)) (.slice (some ⟨q, off, none⟩) ns.length c) (bv ns) := hr.fr ((Fr.refl _ _).alloc _)
    have hnews : ∀ j v, (bv ns)[j]? = some v → (w.alloc (.cells #[] 5)).cell? ((⟨q, off, none⟩ : Addr).add j) = some v := by
      rcases hr' with ⟨e, _⟩ | ⟨a, c', e, _, h5⟩
      · cases e
      · simp only [Value.slice.injEq, Option.some.injEq] at e
        obtain ⟨rfl, _, _⟩ := e
        exact h5
    have hrun := fun ty => run_append_grow (P := Try.prog) (w.alloc (.cells #[] 5)) 27 ty 5 i0 (.int .u8 0) Try.underlying27 hi hz0 ⟨w.heap.size, 0, none⟩ 0 0 [] (by simp) (by simp) ⟨q, off, none⟩ ns.length c (bv ns) (by rw [bv_len, hz1, Nat.mul_one]) hnews (by omega) (by omega) (by rw [hz2, Nat.mul_one, Nat.zero_add, nextslicecap_zero hpos]; omega)
    have hV : cloneV w ns = .slice (some ⟨(w.alloc (.cells #[] 5)).heap.size, 0, none⟩) (0 + ns.length) (grownCap (w.alloc (.cells #[] 5)) (0 + ns.length) 0 5) := by unfold cloneV; rw [if_neg h]
    have hW : cloneW w ns = (w.alloc (.cells #[] 5)).drew.alloc (.cells (#[] ++ (bv ns).toArray ++ Builtin.zeroCells (Value.int .u8 0).cells (grownCap (w.alloc (.cells #[] 5)) (0 + ns.length) 0 5 - (0 + ns.length))) 5) := by unfold cloneW; rw [if_neg h]
    have hrun' : ∀ ty, (Builtin.append_ #[27, 27] ty #[.slice (some ⟨w.heap.size, 0, none⟩) 0 0, .slice (some ⟨q, off, none⟩) ns.length c]).run Try.prog (w.alloc (.cells #[] 5)) = .ok (cloneV w ns) (cloneW w ns) := fun ty => by
      rw [hV, hW]; exact hrun ty
    clear hr hr' hnews hrun hV hW hi hz0 hz1 hz2 h
    go_enter Try.func31, Try.ntmps31
    go_wp2_with (at_builtin; refine Lib.wpList_append_run _ rfl _ _ _ _ rfl _ _ rfl rfl _ _ (hrun' _) ?_)
    go_ret
    exact ⟨rfl, rfl⟩
end Go.Proofs.Ytobdegmlijnogaa
