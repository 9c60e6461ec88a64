/-
  ManifestDecodes walked.
-/
import Derived.Test.YtbiohbaoeobccaaDM8
import Derived.Test.YtbiohbaoeobccaaDM9
import Derived.Test.YtbiohbaoeobccaaER
namespace Go.Proofs.Ytbiohbaoeobccaa
open Go.ChangeShapes Go.WideShapes Go.ChangeAt Go.RowKit

set_option maxRecDepth 20000 in
set_option maxHeartbeats 800000 in
theorem spoil9_c (w : World) {B n : Nat} {v : Value} {xs : List Value} (o : w.ownsRow B 5 1 v n xs) (hn : n ≤ 9223372036854775807) :
    Calls Try.prog 12 #[v] w fun e w' => (∃ u, e = .returned u) ∧ Fr v.ownBlock.toList w w' := by
  rcases o.2 with ⟨rfl, h0⟩ | ⟨g, cap, cur, rfl, _, h3, h4, h5⟩
  · subst h0
    clear o
    go_enter Try.func12, Try.ntmps12
    go_wp2_with fail
    go_loopw [2] (fun v2 wr => v2 = .int .i64 0 ∧ wr = w) (fun _ _ => 0)
    case atStart => exact ⟨rfl, rfl⟩
    case round =>
      obtain ⟨rfl, rfl⟩ := hrel
      go_wp2
      go_end0
      exact ⟨⟨_, rfl⟩, Fr.refl _ _⟩
  · have hsz : n ≤ cur.size := by
      have hx := o.1
      have := o.cells (g := g) rfl
      by_cases h0 : n = 0
      · omega
      · obtain ⟨x, hx⟩ : ∃ x, xs[n - 1]? = some x := ⟨_, List.getElem?_eq_getElem (by omega)⟩
        have h6 := this _ _ hx
        rw [Addr.add_lit, blk_cell h3] at h6
        have := (Array.getElem?_eq_some_iff.1 h6).1
        omega
    have H3 := hid h3
    clear h5 o h3
    go_enter Try.func12, Try.ntmps12
    go_wp2_with fail
    go_loopw [2] (fun v2 wr => ∃ k : Nat, k ≤ n ∧ v2 = .int .i64 (k : Int) ∧ Fr [g] w wr ∧ ∃ cs, wr.heap[g]? = some (.cells cs 5 (0, 0)) ∧ n ≤ cs.size) (fun v2 _ => n - (intOf v2).toNat)
    case atStart => exact ⟨0, Nat.zero_le _, rfl, Fr.refl _ _, cur, H3.out, hsz⟩
    case round =>
      obtain ⟨k, hk, rfl, hf, cs, hc, hcs⟩ := hrel
      have HF := hid hf
      have HC := hid hc
      by_cases hlt : k < n
      · obtain ⟨x, hx⟩ : ∃ x, wr.cell? ⟨g, k, none⟩ = some x := ⟨cs[k]'(by omega), by rw [blk_cell hc]; exact Array.getElem?_eq_getElem (by omega)⟩
        have hz := blk_frozen hc k
        clear hf hc
        go_wp2
        go_roundw
        case rel => exact ⟨k + 1, by omega, by go_num, HF.out.set _ _ (.inl (by simp)), _, blk_set HC.out _ _, by simpa using hcs⟩
        case measure => simp [intOf]; omega
      · have hk' : k = n := by omega
        subst hk'
        clear hf hc
        go_wp2
        go_end0
        exact ⟨⟨_, rfl⟩, HF.out⟩

/-- An edit that is told in blocks from B on; behind a fault the one without anything. -/
def edZ : Ed := ⟨0, 0, 0, [], []⟩
def TlM (w : World) (B : Nat) (e : Ed) (da : Option Addr) (dc : Nat) (aa : Option Addr) (ac : Nat) : Prop := DO w B (.slice da e.drop.length dc) e.drop ∧ AO w B (.slice aa e.add.length ac) e.add
theorem TlM.step {w w' : World} {B : Nat} {e : Ed} {da aa : Option Addr} {dc ac : Nat} (h : TlM w B e da dc aa ac) (f : ∀ k, B ≤ k → k < w.heap.size → w'.heap[k]? = w.heap[k]?) : TlM w' B e da dc aa ac := ⟨h.1.step f, h.2.step f⟩
theorem TlM.eat {w : World} {B : Nat} {e : Ed} {da aa : Option Addr} {dc ac : Nat} (h : TlM w B e da dc aa ac) {M : Nat} (hM : M ≤ 140737488355328) (hb : ∀ p ∈ e.add, (By p.2.least ∧ p.2.least.length ≤ M) ∧ By p.2.most ∧ p.2.most.length ≤ M) (h1 : e.drop.length ≤ 140737488355328) (h2 : e.add.length ≤ 140737488355328) : EAt w e da dc aa ac := ⟨h.1.rd, h.2.rd hM hb, h1, h2⟩
theorem DecM.parts {w' : World} {B : Nat} {o : Option Ed} {r : Ending} (h : DecM w' B o r) : ∃ da dc aa ac, r = .returned (.tuple #[.agg #[.int .i64 (o.getD edZ).log, .int .i64 (o.getD edZ).next, .int .u64 ((o.getD edZ).seq : Int), .slice da (o.getD edZ).drop.length dc, .slice aa (o.getD edZ).add.length ac], .int .i64 (if o.isSome then 0 else 90)]) ∧ TlM w' B (o.getD edZ) da dc aa ac := by
  rcases o with _ | e
  · exact ⟨none, 0, none, 0, h, World.ownsRow_nil _ _ _ _, AO.nil _ _⟩
  · obtain ⟨da, dc, aa, ac, h1, h2, h3⟩ := h
    exact ⟨da, dc, aa, ac, h1, h2, h3⟩
/-- What is told isn't too much. -/
theorem decO_le {b : List Nat} (hb : By b) (hl : b.length ≤ 5000) : ((decO b).getD edZ).drop.length ≤ 5000 ∧ ((decO b).getD edZ).add.length ≤ 5000 ∧ ∀ p ∈ ((decO b).getD edZ).add, (By p.2.least ∧ p.2.least.length ≤ 5000) ∧ By p.2.most ∧ p.2.most.length ≤ 5000 := by
  unfold decO
  split
  case isFalse => exact ⟨by simp [edZ], by simp [edZ], fun p hp => by simp [edZ] at hp⟩
  case isTrue =>
    have b0 : ∀ l, some b = some l → By l := fun l e => by cases e; exact hb
    have l0 : ∀ l, some b = some l → l.length ≤ 5000 := fun l e => by cases e; omega
    have h1 := nmS_sh b0
    have b1 := h1.sm.by b0
    have h2 := nmS_sh b1
    have b2 := h2.sm.by b1
    have h3 := tkS_sh b2
    have b3 : ∀ l, hdS b = some l → By l := h3.sm.by b2
    have l3 : ∀ l, hdS b = some l → l.length ≤ 5000 := h3.sm.len (h2.sm.len (h1.sm.len l0))
    have c3 := ctS_sh b3
    have h4 := sevS_sm (f := gnS) (fun s => gnS_sh) (ctS (hdS b)).1 _ (c3.sm.by b3)
    have b4 : ∀ l, (drS b).2 = some l → By l := h4.by (c3.sm.by b3)
    have l4 : ∀ l, (drS b).2 = some l → l.length ≤ 5000 := h4.len (c3.sm.len l3)
    have c4 := ctS_sh b4
    have cnt_le : ∀ {s : Option (List Nat)}, (∀ l, s = some l → By l) → (∀ l, s = some l → l.length ≤ 5000) → (ctS s).1 ≤ 5000 := fun {s} hb hl => by
      have hle := ctS_le (s := s)
      have hs := (ctS_sh hb).sm
      rcases hs' : (ctS s).2 with _ | l
      · have := hle.2 hs'; omega
      · have h1 := hle.1 l hs'
        obtain ⟨m, e1, e2, _⟩ := hs l hs'
        have := hl m e1
        omega
    have k1 := sevS_len gnS (ctS (hdS b)).1 (ctS (hdS b)).2
    have k2 := sevS_len plS (ctS (drS b).2).1 (ctS (drS b).2).2
    have k3 := cnt_le b3 l3
    have k4 := cnt_le b4 l4
    refine ⟨Nat.le_trans k1 k3, Nat.le_trans k2 k4, ?_⟩
    exact sevP_by (M := 5000) (ctS (drS b).2).1 _ (c4.sm.by b4) (c4.sm.len l4)
theorem five {w : World} {N : Nat} {a b c d e : Value} {T : TypeId} (h : w.heap[N]? = some (.cells #[a, b, c, d, e] T (0, 0))) : w.cell? ⟨N, 0, none⟩ = some a ∧ w.cell? ⟨N, 1, none⟩ = some b ∧ w.cell? ⟨N, 2, none⟩ = some c ∧ w.cell? ⟨N, 3, none⟩ = some d ∧ w.cell? ⟨N, 4, none⟩ = some e :=
  ⟨by rw [blk_cell h]; rfl, by rw [blk_cell h]; rfl, by rw [blk_cell h]; rfl, by rw [blk_cell h]; rfl, by rw [blk_cell h]; rfl⟩

set_option maxRecDepth 20000 in
set_option maxHeartbeats 6400000 in
theorem decodes9_c (w : World) {a : Option Addr} {L cc : Nat} {b : List Nat} (hr : Rd w (.slice a L cc) (bv b)) (hb : By b) (hL : b.length = L) (hl : L ≤ 140737488355328) :
    Calls Try.prog 3 #[.slice a L cc] w fun e w' => e = .returned (.bool true) ∧ Fr [] w w' := by
  have HR := hid hr
  have HB := hid hb
  have HL := hid hL
  clear hr hb hL
  go_enter Try.func3, Try.ntmps3
  go_wp2_with fail
  refine (known9_c _).mono ?_
  rintro e w1 ⟨rfl, f1⟩
  have F1 := hid f1
  clear f1
  by_cases hbig : 3000 < L
  · have hbig' : (3000 : Int) < (L : Int) := by omega
    go_wp2
    go_ret
    exact ⟨rfl, F1.out⟩
  have hbig' : ¬ (3000 : Int) < (L : Int) := by omega
  have R1 := hid (HR.out.fr F1.out)
  have hbl : Hid (b.length ≤ 140737488355328) := hid (by rw [HL.out]; exact hl)
  have HLE := hid (decO_le HB.out (by rw [HL.out]; omega))
  obtain ⟨O, hO⟩ : ∃ O, O = decO b := ⟨_, rfl⟩
  have C1 : Hid (∀ (w2 : World) (a2 : Option Addr) (c2 : Nat), Rd w2 (.slice a2 L c2) (bv b) → Calls Try.prog 8 #[.slice a2 L c2] w2 fun r w' => DecM w' w2.heap.size O r ∧ Fr [] w2 w') := hid (fun w2 a2 c2 h => by rw [hO]; exact decM_c w2 h HB.out HL.out (by omega))
  have C2 : Hid (∀ (w2 : World), Rd w2 (.slice a L cc) (bv b) → Calls Try.prog 9 #[.slice a L cc] w2 fun r w' => DecM w' w2.heap.size O r ∧ Fr [] w2 w') := hid (fun w2 h => by rw [hO]; exact rdec_c w2 h HB.out HL.out (by omega))
  rw [← hO] at HLE
  clear hO
  obtain ⟨e, he⟩ : ∃ e, e = O.getD edZ := ⟨_, rfl⟩
  obtain ⟨x, hx⟩ : ∃ x : Int, x = if O.isSome then 0 else 90 := ⟨_, rfl⟩
  have hxb : x = 0 ∨ x = 90 := by rw [hx]; rcases O with _ | _ <;> simp
  rw [← he] at HLE
  have PT : Hid (∀ {w' : World} {B : Nat} {r : Ending}, DecM w' B O r → ∃ da dc aa ac, r = .returned (.tuple #[.agg #[.int .i64 e.log, .int .i64 e.next, .int .u64 (e.seq : Int), .slice da e.drop.length dc, .slice aa e.add.length ac], .int .i64 x]) ∧ TlM w' B e da dc aa ac) := hid (fun h => by rw [he, hx]; exact h.parts)
  clear he hx
  have HEA : Hid (∀ {w' : World} {B : Nat} {da aa : Option Addr} {dc ac : Nat}, TlM w' B e da dc aa ac → EAt w' e da dc aa ac) := hid (fun h => h.eat (M := 5000) (by omega) HLE.out.2.2 (by have := HLE.out.1; omega) (by have := HLE.out.2.1; omega))
  obtain ⟨ld, hld⟩ : ∃ l, l = e.drop.length := ⟨_, rfl⟩
  obtain ⟨lp, hlp⟩ : ∃ l, l = e.add.length := ⟨_, rfl⟩
  have SM : Hid (∀ {w' : World} {da aa da' aa' : Option Addr} {dc ac dc' ac' : Nat}, EAt w' e da dc aa ac → EAt w' e da' dc' aa' ac' → Calls Try.prog 10 #[.agg #[.int .i64 e.log, .int .i64 e.next, .int .u64 (e.seq : Int), .slice da ld dc, .slice aa lp ac], .agg #[.int .i64 e.log, .int .i64 e.next, .int .u64 (e.seq : Int), .slice da' ld dc', .slice aa' lp ac']] w' fun r w'' => r = .returned (.bool true) ∧ Fr [] w' w'') := hid (fun h1 h2 => by rw [hld, hlp]; exact editSame_c _ h1 h2)
  simp only [← hld, ← hlp] at PT
  clear hld hlp
  obtain ⟨y1, hy1⟩ : ∃ y, y = e.log := ⟨_, rfl⟩
  obtain ⟨y2, hy2⟩ : ∃ y, y = e.next := ⟨_, rfl⟩
  obtain ⟨y3, hy3⟩ : ∃ y, y = (e.seq : Int) := ⟨_, rfl⟩
  simp only [← hy1, ← hy2, ← hy3] at PT SM
  clear hy1 hy2 hy3
  have hxx : (x == x) = true := by simp
  go_wp2_with (at_builtin; refine wpList_append_nil rfl _ _ rfl rfl (Fr.refl _ w1) _ R1.out rfl hbl.out ?_; intro v2 w2 o2 f2 _; rw [HL.out] at o2; obtain ⟨a2, c2, rfl, _⟩ := ownsRow_slice o2; have O2 := hid o2; have F2 := hid (F1.out.trans f2); have R2 := hid (Rd.ownN o2 HL.out.symm); clear o2 f2)
  refine (C1.out w2 a2 c2 R2.out).mono ?_
  rintro r w3 ⟨hT, f3⟩
  obtain ⟨da, dc, aa, ac, rfl, t3⟩ := PT.out hT
  obtain ⟨W3, hW3⟩ : ∃ W, W = w3.alloc (.cells #[.int .i64 y1, .int .i64 y2, .int .u64 y3, .slice da ld dc, .slice aa lp ac] 28) := ⟨_, rfl⟩
  have G3 : Hid (Fr [] w2 W3) := hid (by rw [hW3]; exact f3.alloc _)
  have X3 : Hid (W3.heap[w3.heap.size]? = some (.cells #[.int .i64 y1, .int .i64 y2, .int .u64 y3, .slice da ld dc, .slice aa lp ac] 28 (0, 0))) := hid (by rw [hW3]; exact blk_new _ _)
  have T3 : Hid (TlM W3 w2.heap.size e da dc aa ac) := hid (by rw [hW3]; exact t3.step fun k _ hk => blk_old _ _ hk)
  have hs3 := f3.size
  obtain ⟨X, hX⟩ : ∃ X, X = w3.heap.size := ⟨_, rfl⟩
  rw [← hX] at X3 hs3
  clear hT t3 f3
  go_upto_region 7 with fail
  rw [← hW3, ← hX]
  clear hW3 hX
  go_wp2_with fail
  refine (C2.out W3 (HR.out.fr (F2.out.trans G3.out))).mono ?_
  rintro r w4 ⟨hT, f4⟩
  obtain ⟨da', dc', aa', ac', rfl, t4⟩ := PT.out hT
  obtain ⟨W4, hW4⟩ : ∃ W, W = w4.alloc (.cells #[.int .i64 y1, .int .i64 y2, .int .u64 y3, .slice da' ld dc', .slice aa' lp ac'] 28) := ⟨_, rfl⟩
  have G4 : Hid (Fr [] W3 W4) := hid (by rw [hW4]; exact f4.alloc _)
  have Y4 : Hid (W4.heap[w4.heap.size]? = some (.cells #[.int .i64 y1, .int .i64 y2, .int .u64 y3, .slice da' ld dc', .slice aa' lp ac'] 28 (0, 0))) := hid (by rw [hW4]; exact blk_new _ _)
  have T4 : Hid (TlM W4 W3.heap.size e da' dc' aa' ac') := hid (by rw [hW4]; exact t4.step fun k _ hk => blk_old _ _ hk)
  have hs4 := f4.size
  have hX3 := blk_lt X3.out
  obtain ⟨Y, hY⟩ : ∃ Y, Y = w4.heap.size := ⟨_, rfl⟩
  rw [← hY] at Y4 hs4
  have X4 := hid (G4.out.at X3.out (by simp))
  have T34 : Hid (TlM W4 w2.heap.size e da dc aa ac) := hid (T3.out.step fun k _ hk => G4.out.block k hk (by simp))
  clear hT t4 f4 X3 T3
  go_upto_region 8 with fail
  rw [← hW4, ← hY]
  clear hW4 hY
  obtain ⟨x0, x1, x2, x3, x4⟩ := five X4.out
  obtain ⟨z0, z1, z2, z3, z4⟩ := five Y4.out
  go_wp2_with fail
  refine (SM.out (HEA.out T34.out) (HEA.out T4.out)).mono ?_
  rintro r w5 ⟨rfl, f5⟩
  have X5 := hid (f5.at X4.out (by simp))
  have Y5 := hid (f5.at Y4.out (by simp))
  have TX5 : Hid (TlM w5 w2.heap.size e da dc aa ac) := hid (T34.out.step fun k _ hk => f5.block k hk (by simp))
  have TY5 : Hid (TlM w5 W3.heap.size e da' dc' aa' ac') := hid (T4.out.step fun k _ hk => f5.block k hk (by simp))
  have F5 := hid (((F2.out.trans G3.out).trans G4.out).trans f5)
  have O5 := hid (ownsRow_fr O2.out ((G3.out.trans G4.out).trans f5))
  clear f5 x0 x1 x2 x3 x4 z0 z1 z2 z3 z4
  go_wp2_with fail
  refine (bytes_same (Rd.ownN O5.out HL.out.symm) (HR.out.fr F5.out)).mono ?_
  rintro r w6 ⟨rfl, hw6⟩
  have hw6' := hw6.symm
  clear hw6
  subst hw6'
  go_wp2_with fail
  refine (spoil9_c w5 O5.out (by omega)).mono ?_
  rintro r w7 ⟨⟨uu, rfl⟩, f7⟩
  have hown : ∀ k, (Value.slice a2 L c2).ownBlock = some k → w.heap.size ≤ k ∧ k < w2.heap.size := fun k hk => ⟨Nat.le_trans F1.out.size (O2.out.lt k hk).1, (O2.out.lt k hk).2⟩
  have hblk : ∀ k, w2.heap.size ≤ k → k < w5.heap.size → w7.heap[k]? = w5.heap[k]? := fun k hk hk2 => f7.block k hk2 (by
    intro hm
    have := hown k (by simpa using hm)
    omega)
  have X7 := hid (show w7.heap[X]? = _ from (hblk X (by omega) (blk_lt X5.out)).trans X5.out)
  have Y7 := hid (show w7.heap[Y]? = _ from (hblk Y (by omega) (blk_lt Y5.out)).trans Y5.out)
  have TX7 : Hid (TlM w7 w2.heap.size e da dc aa ac) := hid (TX5.out.step fun k hk hk2 => hblk k hk hk2)
  have TY7 : Hid (TlM w7 W3.heap.size e da' dc' aa' ac') := hid (TY5.out.step fun k hk hk2 => hblk k (by omega) hk2)
  have F7 : Hid (Fr [] w w7) := hid ((F5.out.mono (S' := (Value.slice a2 L c2).ownBlock.toList) (by simp)).trans f7 |>.shed (fun k hk hlt => by
    have := hown k (by simpa using hk)
    omega))
  clear f7 hown hblk
  obtain ⟨x0, x1, x2, x3, x4⟩ := five X7.out
  obtain ⟨z0, z1, z2, z3, z4⟩ := five Y7.out
  go_wp2_with fail
  refine (SM.out (HEA.out TX7.out) (HEA.out TY7.out)).mono ?_
  rintro r w8 ⟨rfl, f8⟩
  have F8 := hid (F7.out.trans f8)
  clear f8
  go_wp2
  go_ret
  exact ⟨rfl, F8.out⟩
end Go.Proofs.Ytbiohbaoeobccaa
