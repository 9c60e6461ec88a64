/-
  Package block: Filter, May.
-/
import Derived.Test.YtekcpecofclgiaaGB
import Derived.Test.YtekcpecofclgiaaBS
namespace Go.Proofs.Ytekcpecofclgiaa
open Go.ChangeShapes Go.WideShapes Go.ChangeAt Go.RowKit

theorem makeM_run (w : World) {n : Nat} (hc : n ≤ 1000000000) : (Instr.makeSlice 79 (.int .i64 (n : Int)) (.int .i64 (n : Int))).run Try.prog w = .ok (.slice (some ⟨w.heap.size, 0, none⟩) n n) (w.alloc (.cells (madeCells #[.int .u8 0] n) 5)) := by
  obtain ⟨i0, hi, hz0, hz1, hz2⟩ := info_parts infoB
  have h := run_make (P := Try.prog) w 79 5 i0 (.int .u8 0) Try.underlying79 hi hz0 .i64 .i64 (n : Int) (n : Int) (by omega) (by omega) (by rw [hz2]; omega) (by omega)
  simpa [hz1, Value.cells] using h
theorem makeM_own (w : World) {n : Nat} (hc : n ≤ 1000000000) : (w.alloc (.cells (madeCells #[.int .u8 0] n) 5)).ownsRow w.heap.size 5 1 (.slice (some ⟨w.heap.size, 0, none⟩) n n) n (bv (List.replicate n 0)) := by
  have := World.ownsRow_lit (base := w.heap.size) (e := 5) (size := 1) w (madeCells #[.int .u8 0] n) n (Nat.le_refl _) (by unfold maxLen; omega) (by simp [madeCells])
  rw [toList_madeCells_one] at this
  have e : bv (List.replicate n 0) = List.replicate n (.int .u8 0) := by unfold bv; rw [List.map_replicate]; rfl
  rw [e]; exact this
theorem wpList_append_mk {w : World} {ops : Array Oper} {rest : List Oper} {o : Oper} {a : Act} {Q : Exit → Act → World → Prop} (hgd : o.guard = none) (s x : Operand)
    (ho : o.op = .call { callee := .builtin .append, args := #[s, x], argTypes := #[79, 79] }) (base : Nat) (hbase : base ≤ w.heap.size) (v : Value) (n : Nat) (xs : List Value) (hs : a.eval s = v) (hown : w.ownsRow base 5 1 v n xs) (G : Nat) (hx : a.eval x = .slice (some ⟨G, 0, none⟩) 1 1) {u : Value} {T : TypeId} (hG : w.heap[G]? = some (.cells #[u] T (0, 0)))
    (hu : u.oneCell' = true) (hl : n ≤ 100000000000)
    (h : ∀ v' w', w'.ownsRow base 5 1 v' (n + 1) (xs ++ [u]) → w.grownBy w' v.ownBlock → wpList Try.prog ops Q rest (a.put o.dst v') w') :
    wpList Try.prog ops Q (o :: rest) a w := by
  obtain ⟨i0, hi, hz0, hz1, hz2⟩ := info_parts infoB
  refine wpList_append_own_at w hgd s x 79 ho base 5 i0 _ 1 1 Try.underlying79 hi hz0 hz1 hz2 rfl (by decide) v n xs hs hown ⟨G, 0, none⟩ 1 1 [u] hx rfl ?_ ?_ (by unfold maxLen; omega) (by omega) hbase fun v' w' h1 h2 _ _ => h v' w' h1 h2
  · intro j u' hj
    rw [Addr.add_lit, Nat.zero_add, blk_cell hG, ← Array.getElem?_toList]
    exact hj
  · intro u' hu'
    simp at hu'
    subst hu'; exact hu
set_option maxRecDepth 20000 in
set_option maxHeartbeats 1600000 in
theorem filter_plan (w : World) {a : Option Addr} {n c : Nat} (bits : Int) (hr : bits < 1 ∨ 64 < bits) :
    Calls Try.prog 24 #[.slice a n c, .int .i64 bits] w fun e w' => e = .returned (.tuple #[.slice none 0 0, .int .i64 71]) ∧ Fr [] w w' := by
  rcases hr with hr | hr
  all_goals
    go_enter Try.func24, Try.ntmps24
    go_wp2
    go_ret2
    exact ⟨rfl, Fr.refl _ _⟩
theorem rA_at {rs : List (List Nat)} {i : Nat} (h : i < rs.length) : rs[i]? = some (rA rs i) := by unfold rA; rw [List.getElem?_eq_getElem h]; rfl
set_option maxRecDepth 20000 in
set_option maxHeartbeats 3200000 in
theorem filter_c (w : World) {v : Value} {rs : List (List Nat)} (h : RdL w v rs) (hn : rs.length ≤ 1000000) (bits : Nat) (h1 : 1 ≤ bits) (h2 : bits ≤ 64) :
    Calls Try.prog 24 #[v, .int .i64 (bits : Int)] w fun e w' => ∃ v', e = .returned (.tuple #[v', .int .i64 0]) ∧ w'.ownsRow w.heap.size 5 1 v' (fltL bits rs).length (bv (fltL bits rs)) ∧ Fr [] w w' := by
  obtain ⟨a, c, rfl, k1⟩ := h
  have HK := hid k1
  clear k1
  obtain ⟨t0, ht0⟩ : ∃ t0 : Nat, (if (bits : Int) * 69 / 100 < 1 then 1 else (bits : Int) * 69 / 100) = (t0 : Int) := ⟨max (bits * 69 / 100) 1, by omega⟩
  have hT : (if (30 : Int) < (t0 : Int) then (30 : Int) else (t0 : Int)) = (fT bits : Int) := by
    unfold fT; omega
  have hT30 := fT_bd bits
  obtain ⟨t, ht⟩ : ∃ t, t = fT bits := ⟨_, rfl⟩
  rw [← ht] at hT hT30
  have HT := hid ht
  clear ht
  have hmul : (bits : Int) * (rs.length : Int) = ((bits * rs.length : Nat) : Int) := by simp
  have hpb : bits * rs.length ≤ 64 * 1000000 := Nat.mul_le_mul h2 hn
  obtain ⟨L, hL⟩ : ∃ L, L = fL bits rs.length := ⟨_, rfl⟩
  have hL8 : 8 ≤ L := by rw [hL]; exact fL_pos _ _
  have HL := hid hL
  have hL9 : L ≤ 1000000000 := by rw [hL]; unfold fL; omega
  have hLi : (if (((bits * rs.length : Nat) : Int) + 7) / 8 < 8 then 8 else (((bits * rs.length : Nat) : Int) + 7) / 8) = (L : Int) := by rw [hL]; unfold fL; omega
  clear hL
  obtain ⟨p, hp⟩ : ∃ p, p = bits * rs.length := ⟨_, rfl⟩
  rw [← hp] at hmul hpb hLi
  clear hp
  generalize hnn : rs.length = n at *
  have HN := hid hnn
  clear hnn
  have hmk := makeM_run w hL9
  go_enter Try.func24, Try.ntmps24
  go_upto_region 4 with fail
  clear hT ht0
  go_wp2_with fail
  have O0 := hid (makeM_own w hL9)
  have F0 : Hid (Fr [] w (w.alloc (.cells (madeCells #[.int .u8 0] L) 5))) := hid ((Fr.refl _ _).alloc _)
  generalize w.alloc (.cells (madeCells #[.int .u8 0] L) 5) = W0 at *
  clear hmk hLi hmul
  go_loopw [31] (fun v31 wr => ∃ i : Nat, i ≤ n ∧ v31 = .int .i64 (i : Int) ∧ wr.ownsRow w.heap.size 5 1 (.slice (some ⟨w.heap.size, 0, none⟩) L L) L (bv (fM L t rs i)) ∧ Fr [] w wr) (fun v31 _ => n - (intOf v31).toNat)
  case atStart => exact ⟨0, Nat.zero_le _, rfl, O0.out, F0.out⟩
  case round =>
    obtain ⟨i, hi, rfl, oi, fi⟩ := hrel
    have HI := hid (And.intro oi fi)
    clear oi fi
    by_cases hlt : i < n
    · have hil : i < rs.length := by rw [HN.out]; exact hlt
      obtain ⟨b, off, rfl, m1⟩ := HK.out (by omega)
      obtain ⟨ka, kc, e1, e2, e3, e4⟩ := m1 i _ (rA_at hil)
      have z1 := cell_fr HI.out.2 e1
      have hfl := fM_len L t rs i
      have ES := each_set wr (G := w.heap.size) (B := w.heap.size) (mc := L) (m := fM L t rs i) (by rw [hfl]; exact HI.out.1) (fM_by _ _ _ _) (by rw [hfl]; omega) (by rw [hfl]; exact hL9) (e2.fr HI.out.2) e3 e4 t hT30.2
      rw [hfl] at ES
      have HES := hid ES
      clear ES m1 e1 e2 e3 e4 hfl hil
      generalize (rA rs i).length = kl at *
      go_wp2_with fail
      refine HES.out.mono ?_
      rintro e w2 ⟨rfl, o2, f2⟩
      have F2 : Hid (Fr [] w w2) := hid (((HI.out.2.mono (S' := [w.heap.size]) (by simp)).trans f2).shed (fun k hk hlt => by simp at hk; omega))
      have O2 : Hid (w2.ownsRow w.heap.size 5 1 (.slice (some ⟨w.heap.size, 0, none⟩) L L) L (bv (fM L t rs (i + 1)))) := hid o2
      clear HES o2 f2
      go_wp2
      go_roundw
      case rel => exact ⟨i + 1, by omega, by go_num, O2.out, F2.out⟩
      case measure => simp [intOf]; omega
    · have hie : i = n := by omega
      subst hie
      have hu : (t : Int) % 256 = (t : Int) := by omega
      obtain ⟨W4, hW4⟩ : ∃ W, W = wr.alloc (.cells #[.int .u8 (t : Int)] 5) := ⟨_, rfl⟩
      have F4 : Fr [] wr W4 := by rw [hW4]; exact (Fr.refl _ _).alloc _
      have X4 : W4.heap[wr.heap.size]? = some (.cells #[.int .u8 (t : Int)] 5 (0, 0)) := by rw [hW4]; exact blk_new _ _
      have o4 := ownsRow_fr HI.out.1 F4
      have hs4 : w.heap.size ≤ W4.heap.size := by have := HI.out.2.size; have := F4.size; omega
      have FF4 := hid (HI.out.2.trans F4)
      go_wp2_with (at_builtin; rw [← hW4]; refine wpList_append_mk rfl _ _ rfl w.heap.size hs4 _ _ _ rfl o4 wr.heap.size rfl X4 rfl (by omega) ?_; intro v5 W5 o5 g5)
      have hfl : fltL bits rs = fM L t rs i ++ [t] := by unfold fltL; rw [HN.out, ← HT.out, ← HL.out]
      have F5 : Fr [] w W5 := FF4.out.grew o4 (Nat.le_refl _) g5
      go_ret2
      refine ⟨v5, rfl, ?_, F5⟩
      rw [hfl, bv_append, List.length_append, fM_len]
      exact o5
end Go.Proofs.Ytekcpecofclgiaa
