/-
  What Sum of package codec answers, and the reference's.
-/
import Derived.Test.YthmlpjogbdpgiaaJ03
import Derived.Test.YthmlpjogbdpgiaaJ05
import Derived.Lib.SlBytesConst
import Derived.Test.YthmlpjogbdpgiaaBM
import Derived.Test.YthmlpjogbdpgiaaJ13
import Derived.Deep.Cut
import Derived.Deep.RegionHeld
import Derived.Deep.Light
import Derived.Laws.ResultCell
import Derived.Deep.WholeRow
namespace Go.Proofs.Ythmlpjogbdpgiaa
open Go.ChangeShapes Go.WideShapes Go.ChangeAt Go.RowKit

theorem wrap32_nat {n : Nat} (h : n < 4294967296) : IntKind.u32.wrap (n : Int) = (n : Int) := by rw [IntKind.wrap_u32']; omega
theorem cs_mask {r : Nat} (h : r < 4294967296) :
    bits .xor .u32 ((r : Int) / 2) (bits .and .u32 2197175160 (-bits .and .u32 (r : Int) 1 % 4294967296)) = (cs r : Int) := by
  have h1 : bits .and .u32 (r : Int) 1 = ((r % 2 : Nat) : Int) := by
    have := u32_and_nat r 1 h (by omega)
    rw [nat_mask1] at this; exact this
  rw [h1, show (r : Int) / 2 = ((r / 2 : Nat) : Int) from by omega]
  unfold cs
  rcases Nat.mod_two_eq_zero_or_one r with e | e <;> rw [e]
  · have h2 : bits .and .u32 2197175160 (-((0 : Nat) : Int) % 4294967296) = ((0 : Nat) : Int) := by decide
    rw [h2, if_neg (by omega), u32_xor_nat _ _ (by omega) (by omega)]
  · have h2 : bits .and .u32 2197175160 (-((1 : Nat) : Int) % 4294967296) = ((2197175160 : Nat) : Int) := by decide
    rw [h2, if_pos rfl, u32_xor_nat _ _ (by omega) (by omega)]
theorem crc_end {r : Nat} (h : r < 4294967296) : bits .xor .u32 4294967295 (r : Int) = ((4294967295 ^^^ r : Nat) : Int) := u32_xor_nat 4294967295 r (by omega) h
theorem crcF_snoc {ns : List Nat} {k x : Nat} (h : ns[k]? = some x) (r : Nat) : crcF r (ns.take (k + 1)) = csN 8 (crcF r (ns.take k) ^^^ x) := by
  rw [List.take_add_one, h, crcF_append]; rfl

theorem cs_odd {r : Nat} (h : r < 4294967296) (e : r % 2 = 1) : bits .xor .u32 ((r : Int) / 2) 2197175160 = (cs r : Int) := by
  rw [show (r : Int) / 2 = ((r / 2 : Nat) : Int) from by omega]
  have := u32_xor_nat (r / 2) 2197175160 (by omega) (by omega)
  unfold cs; rw [if_pos e]; exact this
theorem cs_even {r : Nat} (e : ¬ r % 2 = 1) : (r : Int) / 2 = (cs r : Int) := by
  unfold cs; rw [if_neg e, Nat.xor_zero]; omega

end Go.Proofs.Ythmlpjogbdpgiaa
namespace Go.Proofs.Ythmlpjogbdpgiaa
open Go.ChangeShapes Go.WideShapes Go.ChangeAt Go.RowKit

theorem str_key : strOf (keyL [] 1 1) = ⟨#[1, 1, 0, 0, 0, 0, 0, 0]⟩ := by decide
theorem crc_known : crc [49, 50, 51, 52, 53, 54, 55, 56, 57] = 3808858755 := by decide +kernel
theorem put_known : putL 300 = [172, 2] := by rw [putL_ge (by omega), putL_lt (by omega)]
theorem str_put : strOf [172, 2] = ⟨#[172, 2]⟩ := by decide

theorem beq_str (s t : ByteArray) : (s.toList == t.toList) = decide (s = t) := by
  by_cases h : s = t
  · subst h; simp
  · have : s.toList ≠ t.toList := fun e => h (by
      cases s with | mk a => cases t with | mk b =>
      have h1 : a.toList = b.toList := by simpa [ByteArray.toList_eq] using e
      rw [Array.toList_inj.1 h1])
    simp [this, h]

set_option maxHeartbeats 400000 in
theorem bytes_c {w : World} {v1 v2 : Value} {a b : List Nat} (h1 : Rd w v1 (bv a)) (h2 : Rd w v2 (bv b)) (ha : By a) (hb : By b) :
    Calls Try.prog 17 #[v1, v2] w fun e w' => e = .returned (.bool (decide (a = b))) ∧ w' = w := by
  have e1 := run_conv h1
  have e2 := run_conv h2
  have e3 : ((strOf a).toList == (strOf b).toList) = decide (a = b) := by
    rw [beq_str]
    by_cases h : a = b
    · subst h; simp
    · have : strOf a ≠ strOf b := fun e => h (strOf_inj ha hb e)
      simp [this, h]
  obtain ⟨a1, c1, rfl⟩ := h1.form
  obtain ⟨a2, c2, rfl⟩ := h2.form
  clear h1 h2 ha hb
  go_enter Try.func17, Try.ntmps17
  go_wp2
  go_ret
  exact ⟨rfl, rfl⟩
end Go.Proofs.Ythmlpjogbdpgiaa
namespace Go.Proofs.Ythmlpjogbdpgiaa
open Go.ChangeShapes Go.WideShapes Go.ChangeAt Go.RowKit

theorem cell_fr {w w' : World} (f : Fr [] w w') {p : Addr} {v : Value} (h : w.cell? p = some v) : w'.cell? p = some v := by
  rw [World.cell?_of_block (w := w) (f.block _ (World.block_lt_of_cell? w _ h) (by simp))]; exact h
/-- Does a block hold a byte? -/
def U8 (w : World) (k : Nat) : Prop := ∃ p n, p.block = k ∧ w.cell? p = some (.int .u8 n)
theorem U8.lt {w : World} {k : Nat} (h : U8 w k) : k < w.heap.size := by
  obtain ⟨p, n, rfl, h⟩ := h
  exact World.block_lt_of_cell? w _ h
theorem Rd.keep {w w' : World} {v : Value} {ns : List Nat} (h : Rd w v (bv ns)) (hk : ∀ k, U8 w k → w'.heap[k]? = w.heap[k]?) : Rd w' v (bv ns) := by
  rcases h with h | ⟨a, c, rfl, h4, h5⟩
  · exact .inl h
  · refine .inr ⟨a, c, rfl, h4, fun j u hj => ?_⟩
    have h6 := h5 j u hj
    have hu : ∃ n : Int, u = .int .u8 n := by
      obtain ⟨n, _, rfl⟩ := List.mem_map.1 (List.mem_of_getElem? hj)
      exact ⟨_, rfl⟩
    obtain ⟨n, rfl⟩ := hu
    rw [World.cell?_of_block (w := w) (hk _ ⟨_, _, rfl, h6⟩)]; exact h6
theorem noU8 {w : World} {b : Nat} {cs : List Value} {T : TypeId} (h : w.heap[b]? = some (.cells cs.toArray T (0, 0))) (hc : ∀ c ∈ cs, ∀ n, c ≠ .int .u8 n) : ¬ U8 w b := by
  rintro ⟨⟨_, o, sp⟩, n, rfl, hn⟩
  have hsp : sp = none := World.cell?_spot hn
  subst hsp
  rw [blk_cell h, List.getElem?_toArray] at hn
  exact hc _ (List.mem_of_getElem? hn) n rfl

theorem infoP : (Try.prog.info? 50).map (fun i => (i.zero, i.size, i.bytes)) = some (some (.agg #[.slice none 0 0, .slice none 0 0]), 2, 48) := by kernel_rfl
/-- A pair of bytes at a place. -/
structure PAt (w : World) (b o : Nat) (p : List Nat × List Nat) (ka : Option Addr) (kc : Nat) (va : Option Addr) (vc : Nat) : Prop where
  ck : w.cell? ⟨b, o, none⟩ = some (.slice ka p.1.length kc)
  cv : w.cell? ⟨b, o + 1, none⟩ = some (.slice va p.2.length vc)
  rk : Rd w (.slice ka p.1.length kc) (bv p.1)
  rv : Rd w (.slice va p.2.length vc) (bv p.2)
  bk : By p.1
  bv' : By p.2
  lk : p.1.length ≤ 140737488355328
  lv : p.2.length ≤ 140737488355328
theorem PAt.fr {w w' : World} {b o : Nat} {p : List Nat × List Nat} {ka va : Option Addr} {kc vc : Nat} (h : PAt w b o p ka kc va vc) (f : Fr [] w w') : PAt w' b o p ka kc va vc :=
  ⟨cell_fr f h.ck, cell_fr f h.cv, h.rk.fr f, h.rv.fr f, h.bk, h.bv', h.lk, h.lv⟩
/-- Pairs that can be read. -/
def RdK (w : World) (v : Value) (ps : Ps) : Prop :=
  ∃ a c, v = .slice a ps.length c ∧ ps.length ≤ c ∧ (0 < ps.length → ∃ b off, a = some ⟨b, off, none⟩ ∧ ∀ (j : Nat) (p : List Nat × List Nat), ps[j]? = some p → ∃ ka kc va vc, PAt w b (off + j * 2) p ka kc va vc)
theorem RdK.fr {w w' : World} {v : Value} {ps : Ps} (h : RdK w v ps) (f : Fr [] w w') : RdK w' v ps := by
  obtain ⟨a, c, h1, h2, h3⟩ := h
  refine ⟨a, c, h1, h2, fun h0 => ?_⟩
  obtain ⟨b, off, h4, h5⟩ := h3 h0
  refine ⟨b, off, h4, fun j p hj => ?_⟩
  obtain ⟨ka, kc, va, vc, h6⟩ := h5 j p hj
  exact ⟨ka, kc, va, vc, h6.fr f⟩
theorem RdK.by {w : World} {v : Value} {ps : Ps} (h : RdK w v ps) : ByP ps := fun p hp => by
  obtain ⟨a, c, h1, h2, h3⟩ := h
  obtain ⟨b, off, h4, h5⟩ := h3 (List.length_pos_of_mem hp)
  obtain ⟨j, hj⟩ := List.getElem?_of_mem hp
  obtain ⟨_, _, _, _, h6⟩ := h5 j p hj
  exact ⟨h6.bk, h6.bv'⟩
theorem RdK.lens {w : World} {v : Value} {ps : Ps} (h : RdK w v ps) : ∀ p ∈ ps, p.1.length ≤ 140737488355328 ∧ p.2.length ≤ 140737488355328 := fun p hp => by
  obtain ⟨a, c, h1, h2, h3⟩ := h
  obtain ⟨b, off, h4, h5⟩ := h3 (List.length_pos_of_mem hp)
  obtain ⟨j, hj⟩ := List.getElem?_of_mem hp
  obtain ⟨_, _, _, _, h6⟩ := h5 j p hj
  exact ⟨h6.lk, h6.lv⟩
theorem RdK.nil (w : World) : RdK w (.slice none 0 0) [] := ⟨none, 0, rfl, Nat.le_refl _, fun h => by simp at h⟩
/-- Pairs of the call's own. -/
def ColK (W : World) (B : Nat) (v : Value) (ps : Ps) : Prop := ∃ cs, W.ownsRow B 50 2 v ps.length cs ∧ (∀ c ∈ cs, ∃ a n k, c = Value.slice a n k) ∧
  ∀ (j : Nat) (p : List Nat × List Nat), ps[j]? = some p → ∃ kv vv, cs[j * 2]? = some kv ∧ cs[j * 2 + 1]? = some vv ∧ Rd W kv (bv p.1) ∧ Rd W vv (bv p.2) ∧ By p.1 ∧ By p.2 ∧ p.1.length ≤ 140737488355328 ∧ p.2.length ≤ 140737488355328
theorem ColK.nil (W : World) (B : Nat) : ColK W B (.slice none 0 0) [] := ⟨[], World.ownsRow_nil _ _ _ _, fun c h => (by cases h), fun j p h => by simp at h⟩
theorem ColK.step {W W' : World} {B : Nat} {v : Value} {ps : Ps} (h : ColK W B v ps) (hb : ∀ k, v.ownBlock = some k → W'.heap[k]? = W.heap[k]?) (hu : ∀ k, U8 W k → W'.heap[k]? = W.heap[k]?) : ColK W' B v ps := by
  obtain ⟨cs, o, h1, h2⟩ := h
  refine ⟨cs, ownsRow_of_block o hb, h1, fun j p hj => ?_⟩
  obtain ⟨kv, vv, c0, c1, r0, r1, b0⟩ := h2 j p hj
  exact ⟨kv, vv, c0, c1, r0.keep hu, r1.keep hu, b0⟩
theorem ColK.fr {W W' : World} {B : Nat} {v : Value} {ps : Ps} (h : ColK W B v ps) (f : Fr [] W W') : ColK W' B v ps :=
  h.step (fun k hk => by obtain ⟨cs, o, _⟩ := h; exact f.block k (o.lt k hk).2 (by simp)) (fun k hk => f.block k hk.lt (by simp))
theorem ColK.rd {w : World} {B : Nat} {v : Value} {ps : Ps} (h : ColK w B v ps) : RdK w v ps := by
  obtain ⟨cs, o, h1, h2⟩ := h
  rcases o.2 with ⟨rfl, h0⟩ | ⟨g, cap, cur, rfl, _, h3, h4, h5⟩
  · have : ps = [] := List.eq_nil_of_length_eq_zero h0
    subst this
    exact RdK.nil w
  · refine ⟨_, cap, rfl, h4, fun _ => ⟨g, 0, rfl, fun j p hj => ?_⟩⟩
    obtain ⟨kv, vv, c0, c1, r0, r1, b0, b1, l0, l1⟩ := h2 j p hj
    have d0 := o.cells rfl _ _ c0
    have d1 := o.cells rfl _ _ c1
    rw [Addr.add_lit] at d0 d1
    obtain ⟨a0, k0, e0⟩ := r0.form
    obtain ⟨a1, k1, e1⟩ := r1.form
    rw [bv_len] at e0 e1
    subst e0
    subst e1
    exact ⟨a0, k0, a1, k1, d0, by rw [show 0 + j * 2 + 1 = 0 + (j * 2 + 1) from by omega]; exact d1, r0, r1, b0, b1, l0, l1⟩
end Go.Proofs.Ythmlpjogbdpgiaa
namespace Go.Proofs.Ythmlpjogbdpgiaa
open Go.ChangeShapes Go.WideShapes Go.ChangeAt Go.RowKit

/-- The world behind a Clone of bytes that lie in memory. -/
def cloneW (w : World) (ns : List Nat) : World :=
  if ns = [] then w.alloc (.cells #[] 5) else (w.alloc (.cells #[] 5)).drew.alloc (.cells (#[] ++ (bv ns).toArray ++ Builtin.zeroCells (Value.int .u8 0).cells (grownCap (w.alloc (.cells #[] 5)) (0 + ns.length) 0 5 - (0 + ns.length))) 5)
def cloneV (w : World) (ns : List Nat) : Value :=
  if ns = [] then .slice (some ⟨w.heap.size, 0, none⟩) 0 0 else .slice (some ⟨(w.alloc (.cells #[] 5)).heap.size, 0, none⟩) (0 + ns.length) (grownCap (w.alloc (.cells #[] 5)) (0 + ns.length) 0 5)

theorem clone_fr (w : World) (ns : List Nat) : Fr [] w (cloneW w ns) := by
  unfold cloneW
  split
  · exact (Fr.refl _ _).alloc _
  · exact (((Fr.refl _ _).alloc _).drew).alloc _
theorem clone_own (w : World) (ns : List Nat) (hl : ns.length ≤ 140737488355328) : (cloneW w ns).ownsRow w.heap.size 5 1 (cloneV w ns) ns.length (bv ns) := by
  unfold cloneW cloneV
  by_cases h : ns = []
  · rw [if_pos h, if_pos h, h]
    exact World.ownsRow_lit w #[] 0 (Nat.le_refl _) (by unfold maxLen; omega) rfl
  · rw [if_neg h, if_neg h, Nat.zero_add]
    have h1 := grownCap_ge (w.alloc (.cells #[] 5)) ns.length 0 5
    refine ⟨by rw [bv_len, Nat.mul_one], .inr ⟨_, _, _, rfl, by simp, blk_new _ _, h1, grownCap_le_maxLen _ _ _ _ (by unfold maxLen; omega), ?_, ?_⟩⟩
    · simp only [Array.size_append, size_zeroCells, Value.cells, List.size_toArray, bv_len]
      simp; omega
    · simp [bv_len]

set_option maxRecDepth 20000 in
set_option maxHeartbeats 400000 in
theorem clone_x {w : World} {q off c : Nat} {ns : List Nat} (hr : Rd w (.slice (some ⟨q, off, none⟩) ns.length c) (bv ns)) (hl : ns.length ≤ 140737488355328) :
    Calls Try.prog 33 #[.slice (some ⟨q, off, none⟩) ns.length c] w fun e w' => e = .returned (cloneV w ns) ∧ w' = cloneW w ns := by
  have heq := fun (w : World) (a : Option Addr) (n c : Nat) => Lib.run_eql_slice_nil (P := Try.prog) w 35 5 a n c 0 0 Try.underlying35
  obtain ⟨i0, hi, hz0, hz1, hz2⟩ := info_parts infoB
  by_cases h : ns = []
  · subst h
    have hV : cloneV w [] = .slice (some ⟨w.heap.size, 0, none⟩) 0 0 := rfl
    have hW : cloneW w [] = w.alloc (.cells #[] 5) := rfl
    rw [hV, hW]
    clear hr hV hW hi hz0 hz1 hz2
    go_enter Try.func33, Try.ntmps33
    go_wp2
    go_ret
    exact ⟨rfl, rfl⟩
  · have hpos : 0 < ns.length := List.length_pos_iff.2 h
    have hr' : Rd (w.alloc (.cells #[] 5)) (.slice (some ⟨q, off, none⟩) ns.length c) (bv ns) := hr.fr ((Fr.refl _ _).alloc _)
    have hnews : ∀ j v, (bv ns)[j]? = some v → (w.alloc (.cells #[] 5)).cell? ((⟨q, off, none⟩ : Addr).add j) = some v := by
      rcases hr' with ⟨e, _⟩ | ⟨a, c', e, _, h5⟩
      · cases e
      · simp only [Value.slice.injEq, Option.some.injEq] at e
        obtain ⟨rfl, _, _⟩ := e
        exact h5
    have hrun := fun ty => run_append_grow (P := Try.prog) (w.alloc (.cells #[] 5)) 35 ty 5 i0 (.int .u8 0) Try.underlying35 hi hz0 ⟨w.heap.size, 0, none⟩ 0 0 [] (by simp) (by simp) ⟨q, off, none⟩ ns.length c (bv ns) (by rw [bv_len, hz1, Nat.mul_one]) hnews (by omega) (by omega) (by rw [hz2, Nat.mul_one, Nat.zero_add, nextslicecap_zero hpos]; omega)
    have hV : cloneV w ns = .slice (some ⟨(w.alloc (.cells #[] 5)).heap.size, 0, none⟩) (0 + ns.length) (grownCap (w.alloc (.cells #[] 5)) (0 + ns.length) 0 5) := by unfold cloneV; rw [if_neg h]
    have hW : cloneW w ns = (w.alloc (.cells #[] 5)).drew.alloc (.cells (#[] ++ (bv ns).toArray ++ Builtin.zeroCells (Value.int .u8 0).cells (grownCap (w.alloc (.cells #[] 5)) (0 + ns.length) 0 5 - (0 + ns.length))) 5) := by unfold cloneW; rw [if_neg h]
    have hrun' : ∀ ty, (Builtin.append_ #[35, 35] ty #[.slice (some ⟨w.heap.size, 0, none⟩) 0 0, .slice (some ⟨q, off, none⟩) ns.length c]).run Try.prog (w.alloc (.cells #[] 5)) = .ok (cloneV w ns) (cloneW w ns) := fun ty => by
      rw [hV, hW]; exact hrun ty
    clear hr hr' hnews hrun hV hW hi hz0 hz1 hz2 h
    go_enter Try.func33, Try.ntmps33
    go_wp2_with (at_builtin; refine Lib.wpList_append_run _ rfl _ _ _ _ rfl _ _ rfl rfl _ _ (hrun' _) ?_)
    go_ret
    exact ⟨rfl, rfl⟩
end Go.Proofs.Ythmlpjogbdpgiaa
