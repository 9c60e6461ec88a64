/-
  What find of package wal answers behind right filling.
-/
import Derived.Test.YtegbngbhmgbocaaGreatDoorJ04
namespace Go.Proofs.YtegbngbhmgbocaaGreatDoor
open Go.ChangeShapes Go.WideShapes Go.ChangeAt Go.RowKit

/-- What find tells. -/
def FndT (w : World) (o : Option (Nat × List Nat × Nat)) (r : Ending) : Prop := match o with
  | none => r = .returned (.tuple #[.agg #[.int .u8 0, .slice none 0 0, .int .i64 0], .bool false])
  | some (k, d, e) => ∃ a c, r = .returned (.tuple #[.agg #[.int .u8 (k : Int), .slice a d.length c, .int .i64 (e : Int)], .bool true]) ∧ Rd w (.slice a d.length c) (bv d)

theorem fndT_some {w : World} {o : Option (Nat × List Nat × Nat)} {k e n c : Nat} {d : List Nat} {a : Option Addr} {E : Int} (h : o = some (k, d, e)) (hn : n = d.length) (he : E = (e : Int)) (r : Rd w (.slice a n c) (bv d)) : FndT w o (.returned (.tuple #[.agg #[.int .u8 (k : Int), .slice a n c, .int .i64 E], .bool true])) := by
  subst h; subst hn; subst he
  exact ⟨a, c, rfl, r⟩
set_option maxRecDepth 20000 in
set_option maxHeartbeats 8000000 in
theorem find_rest (w : World) {v : Value} {b : List Nat} (hr : Rd w v (bv b)) (hb : By b) {t : Nat} (hl : b.length ≤ 4194304) (hs : t + zr t + 7 ≤ b.length) (hz : ∀ x ∈ (b.drop t).take (zr t), x = 0) :
    Calls Tryz.prog 24 #[v, .int .i64 (t : Int)] w fun r w' => FndT w (fnd b t) r ∧ Fr [] w w' := by
  obtain ⟨q, off, c, rfl, hc⟩ := hr.place (by omega)
  have h1 := lf_ge t
  have h2 := lf_le t
  have h3 := zr_le t
  have RC := fun w => room_nat w t (by omega)
  have f0 : Fr [] w (w.alloc (.cells #[.int .u8 0, .slice none 0 0, .int .i64 0] 68)) := (Fr.refl [] w).alloc _
  have RZ := hid ((hr.mid (i := t) (n := zr t) (by omega)).fr f0)
  have BZ := hid ((hb.drop t).take (zr t))
  have LZ : ((b.drop t).take (zr t)).length ≤ 1000 := by rw [List.length_take]; omega
  obtain ⟨x4, hx4⟩ : ∃ x, b[t + zr t + 4]? = some x := ⟨_, List.getElem?_eq_getElem (by omega)⟩
  obtain ⟨x5, hx5⟩ : ∃ x, b[t + zr t + 5]? = some x := ⟨_, List.getElem?_eq_getElem (by omega)⟩
  obtain ⟨x6, hx6⟩ : ∃ x, b[t + zr t + 6]? = some x := ⟨_, List.getElem?_eq_getElem (by omega)⟩
  have b4 := hb.at hx4
  have b5 := hb.at hx5
  have b6 := hb.at hx6
  have e4 : b.getD (t + zr t + 4) 0 = x4 := by simp [List.getD, hx4]
  have e5 : b.getD (t + zr t + 5) 0 = x5 := by simp [List.getD, hx5]
  have e6 : b.getD (t + zr t + 6) 0 = x6 := by simp [List.getD, hx6]
  have hcell : ∀ (j x : Nat), b[j]? = some x → w.cell? ⟨q, off + j, none⟩ = some (.int .u8 (x : Int)) := by
    rcases hr.split with ⟨h, _⟩ | ⟨q', off', c', hv, _, _, h⟩
    · rw [h] at hs; simp at hs
    · cases hv; exact h
  have c4 := hcell _ _ hx4
  have c5 := hcell _ _ hx5
  have c6 := hcell _ _ hx6
  rw [← Nat.add_assoc off] at c4 c5 c6
  have RH := hid (hr.mid (i := t + zr t) (n := 7) (by omega))
  have RM := hid (fun i n h => hr.mid (i := i) (n := n) h)
  have FN : Hid (∀ n, n = x4 + 256 * x5 → 7 + n ≤ lf t → t + zr t + 7 + n ≤ b.length → crc ((b.drop (t + zr t + 6)).take (1 + n)) = unf ((b.drop (t + zr t)).take 4) → fnd b t = some (x6, (b.drop (t + zr t + 7)).take n, t + zr t + 7 + n)) := fun n h1 h2 h3 h4 => by
    rw [fnd_mk rfl (by rw [e4, e5]; exact h1) (by omega) hz h2 h3 h4, e6]
  have FX : Hid (∀ n, n = x4 + 256 * x5 → ¬ (7 + n ≤ lf t ∧ t + zr t + 7 + n ≤ b.length ∧ crc ((b.drop (t + zr t + 6)).take (1 + n)) = unf ((b.drop (t + zr t)).take 4)) → fnd b t = none) := fun n h1 h2 => by
    unfold fnd
    rw [e4, e5, ← h1, if_neg (fun h => h2 ⟨h.2.2.1, h.2.2.2⟩)]
  have HZ := hid hz
  have F0 := hid f0
  have HB := hid hb
  clear hz f0 hr hb hcell e4 e5 e6 hx4 hx5 hx6
  generalize (b.drop t).take (zr t) = zs at *
  generalize zr t = z at *
  generalize lf t = l at *
  generalize hS : t + z = s at *
  have k0 : ¬ (c = t) := by omega
  have RCH := hid RC
  clear RC
  have hst : (t : Int) + (z : Int) = (s : Int) := by omega
  have hrl : ((b.drop s).take 7).length = 7 := by rw [List.length_take, List.length_drop]; omega
  obtain ⟨n, hn⟩ : ∃ n, n = x4 + 256 * x5 := ⟨_, rfl⟩
  have hni : (7 : Int) + (x4 : Int) + (x5 : Int) * 256 = 7 + (n : Int) := by omega
  have HNI := hid hni
  have FNn := hid (FN.out n hn)
  have FXn := hid (FX.out n hn)
  have BH := hid ((HB.out.drop s).take 7)
  have BM := hid ((HB.out.drop (s + 6)).take (1 + n))
  have hul := unf_lt _ (BH.out.take 4)
  rw [List.take_take, show min 4 7 = 4 from rfl] at hul
  have hul' : unf ((b.drop s).take 4) < 4294967296 := by
    rw [List.length_take, List.length_drop, Nat.min_eq_left (by omega)] at hul; exact hul
  have hcl := crc_lt BM.out
  have U4 : Hid (∀ w', Fr [] w w' → Calls Tryz.prog 54 #[.slice (some ⟨q, off + s, none⟩) 7 (c - s)] w' fun e w'' => e = .returned (.tuple #[.int .u32 (unf ((b.drop s).take 4) : Int), .int .i64 0]) ∧ w'' = w') := fun w' hf => by
    have := unfixed4_c (RH.out.fr hf) BH.out (by omega) (by omega)
    rw [List.take_take, show min 4 7 = 4 from rfl] at this
    exact this
  have SM : Hid (s + 7 + n ≤ b.length → ∀ w', Fr [] w w' → Calls Tryz.prog 55 #[.slice (some ⟨q, off + (s + 6), none⟩) (1 + n) (c - (s + 6))] w' fun e w'' => e = .returned (.int .u32 (crc ((b.drop (s + 6)).take (1 + n)) : Int)) ∧ w'' = w') := fun h w' hf =>
    sum_c ((RM.out (s + 6) (1 + n) (by omega)).fr hf) BM.out (by rw [List.length_take, List.length_drop]; omega)
  have RD := hid (RM.out (s + 7) n)
  have DL : Hid (s + 7 + n ≤ b.length → ((b.drop (s + 7)).take n).length = n) := fun h => by rw [List.length_take, List.length_drop]; omega
  generalize unf ((b.drop s).take 4) = U at *
  generalize crc ((b.drop (s + 6)).take (1 + n)) = C at *
  generalize (b.drop (s + 7)).take n = d at *
  clear FN FX RM BM RH BH HB hul hni hrl hn
  rcases (show (b.length : Int) - (s : Int) < (l : Int) ∨ ¬ ((b.length : Int) - (s : Int) < (l : Int)) from by omega) with k1 | k1
  all_goals
    have k3 : ¬ (b.length : Int) - (s : Int) < 7 := by omega
    have k4 : ¬ (l : Int) < 7 := by omega
    have k6 : s ≤ c := by omega
    have k7 : s - t = z := by omega
    have k8 : ¬ (c = s) := by omega
    have k9 : s + 7 - s = 7 := by omega
    clear hS
    go_enter Tryz.func24, Tryz.ntmps24
    go_wp2_with (first
      | (go_at_call 52; refine (RCH.out _).mono ?_; rintro e w1 ⟨rfl, rfl⟩)
      | (go_at_call 53
         refine (trim_c RZ.out BZ.out LZ).mono ?_
         rintro e w2 ⟨a2, n2, c2, rfl, f2, hz2⟩
         have hn2 : n2 = 0 := hz2.2 HZ.out
         subst hn2
         have F2 := hid (F0.out.trans f2)
         have d4 := cell_frw c4 F2.out
         have d5 := cell_frw c5 F2.out
         have d6 := cell_frw c6 F2.out
         have hg := frag0 f2
         have g0 := blk_cell hg 0
         have g1 := blk_cell hg 1
         have g2 := blk_cell hg 2
         have z0 := blk_frozen hg 0
         have z1 := blk_frozen hg 1
         have z2 := blk_frozen hg 2
         simp at g0 g1 g2
         have HG := hid hg
         clear hz2 f2 hg))
    rw [k9]
    go_region
    rw [HNI.out]
    have FD := hid (F2.out.drew)
    by_cases hf : 7 + n ≤ l ∧ s + 7 + n ≤ b.length
    · obtain ⟨hf1, hf2⟩ := hf
      have m1 : ¬ (l : Int) < 7 + (n : Int) := by omega
      have m2 : ¬ (b.length : Int) - (s : Int) < 7 + (n : Int) := by omega
      have m3 : ((s : Int) + (7 + (n : Int))).toNat = s + (7 + n) := by omega
      have m4 : ((s : Int) + 6).toNat = s + 6 := by omega
      have m5 : s + (7 + n) - (s + 6) = 1 + n := by omega
      have m6 : s + (7 + n) ≤ c := by omega
      have m7 : ¬ (c = s + 6) := by omega
      have m8 : ((s : Int) + 7).toNat = s + 7 := by omega
      have m9 : s + (7 + n) - (s + 7) = n := by omega
      by_cases hcu : C = U
      · have m10 : ((C : Int) == (U : Int)) = true := by rw [hcu]; simp
        go_wp2_with (first
          | (go_at_call 54; refine (U4.out _ FD.out).mono ?_; rintro e w3 ⟨rfl, rfl⟩)
          | (go_at_call 55; refine (SM.out hf2 _ FD.out).mono ?_; rintro e w3 ⟨rfl, rfl⟩))
        have m11 : IntKind.i64.wrap ((s : Int) + 7) = (s : Int) + 7 := by rw [IntKind.wrap_i64]; omega
        have m12 : s + 7 ≤ s + (7 + n) := by omega
        have m13 : (0 : Int) ≤ (s : Int) + 7 := by omega
        have m14 : (0 : Int) ≤ (s : Int) + (7 + (n : Int)) := by omega
        have hdl := hid (DL.out hf2)
        have m17 : (7 : Int) ≤ 7 + (n : Int) := by omega
        have m18 : (s : Int) + (7 + (n : Int)) ≤ (c : Int) := by omega
        have m19 : (s : Int) + 7 ≤ (s : Int) + (7 + (n : Int)) := by omega
        have m16 : c = s + 7 → (7 : Int) + (n : Int) ≤ 7 := by omega
        by_cases m15 : c = s + 7
        · replace m16 := m16 m15
          go_region?
          go_wp2
          exact bodyPost_ret (ret_ct rfl rfl (load_frag (store3 HG.out))) rfl ⟨fndT_some (FNn.out hf1 hf2 hcu) hdl.out.symm (by omega) (Rd.none_ (by rw [hdl.out]; omega) (by omega)), fr3 FD.out.drew (Nat.le_refl _) _ _ _⟩
        · clear m16
          go_region?
          go_wp2
          exact bodyPost_ret (ret_ct rfl rfl (load_frag (store3 HG.out))) rfl ⟨fndT_some (FNn.out hf1 hf2 hcu) hdl.out.symm (by omega) (RD.out hf2), fr3 FD.out.drew (Nat.le_refl _) _ _ _⟩
      · have m10 : ((C : Int) == (U : Int)) = false := beq_eq_false_iff_ne.2 (by omega)
        have hfx := hid (FXn.out (fun h => hcu h.2.2))
        go_wp2_with (first
          | (go_at_call 54; refine (U4.out _ FD.out).mono ?_; rintro e w3 ⟨rfl, rfl⟩)
          | (go_at_call 55; refine (SM.out hf2 _ FD.out).mono ?_; rintro e w3 ⟨rfl, rfl⟩))
        exact bodyPost_ret (ret_ct rfl rfl (load_frag (store3 HG.out))) rfl ⟨by rw [hfx.out]; exact rfl, fr3 FD.out (Nat.le_refl _) _ _ _⟩
    · have hfx := hid (FXn.out (fun h => hf ⟨h.1, h.2.1⟩))
      first
        | (have m1 : (b.length : Int) - (s : Int) < 7 + (n : Int) := by omega
           go_wp2
           exact bodyPost_ret (ret_ct rfl rfl (load_frag (store3 HG.out))) rfl ⟨by rw [hfx.out]; exact rfl, fr3 FD.out (Nat.le_refl _) _ _ _⟩)
        | (have m1 : (l : Int) < 7 + (n : Int) := by omega
           go_wp2
           exact bodyPost_ret (ret_ct rfl rfl (load_frag (store3 HG.out))) rfl ⟨by rw [hfx.out]; exact rfl, fr3 FD.out (Nat.le_refl _) _ _ _⟩)
theorem find_c (w : World) {v : Value} {b : List Nat} (hr : Rd w v (bv b)) (hb : By b) {t : Nat} (ht : t ≤ b.length) (hl : b.length ≤ 4194304) :
    Calls Tryz.prog 24 #[v, .int .i64 (t : Int)] w fun r w' => FndT w (fnd b t) r ∧ Fr [] w w' := by
  by_cases hs : t + zr t + 7 ≤ b.length
  · by_cases hz : ∀ x ∈ (b.drop t).take (zr t), x = 0
    · exact find_rest w hr hb hl hs hz
    · have : fnd b t = none := by unfold fnd; rw [if_neg (fun h => hz h.2.1)]
      rw [this]
      exact find_fill w hr hb hl hs hz
  · have : fnd b t = none := by unfold fnd; rw [if_neg (fun h => hs h.1)]
    rw [this]
    exact find_short w hr ht hl (by omega)
end Go.Proofs.YtegbngbhmgbocaaGreatDoor
namespace Go.Proofs.YtegbngbhmgbocaaGreatDoor
open Go.ChangeShapes Go.WideShapes Go.ChangeAt Go.RowKit

theorem infoR : (Tryz.prog.info? 22).map (fun i => (i.zero, i.size, i.bytes)) = some (some (.slice none 0 0), 1, 24) := by kernel_rfl

/-- A list of lists of bytes that can be read. -/
def RdL (w : World) (v : Value) (rs : List (List Nat)) : Prop :=
  ∃ a c, v = .slice a rs.length c ∧ (0 < rs.length → ∃ b off, a = some ⟨b, off, none⟩ ∧ ∀ (j : Nat) (r : List Nat), rs[j]? = some r → ∃ a' c', w.cell? ⟨b, off + j, none⟩ = some (.slice a' r.length c') ∧ Rd w (.slice a' r.length c') (bv r) ∧ By r ∧ r.length ≤ 140737488355328)
theorem RdL.fr {w w' : World} {v : Value} {rs : List (List Nat)} (h : RdL w v rs) (f : Fr [] w w') : RdL w' v rs := by
  obtain ⟨a, c, h1, h2⟩ := h
  refine ⟨a, c, h1, fun h0 => ?_⟩
  obtain ⟨b, off, h3, h4⟩ := h2 h0
  refine ⟨b, off, h3, fun j r hj => ?_⟩
  obtain ⟨a', c', k1, k2, k3⟩ := h4 j r hj
  refine ⟨a', c', ?_, k2.fr f, k3⟩
  rw [World.cell?_of_block (w := w) (f.block _ (World.block_lt_of_cell? w _ k1) (by simp))]; exact k1
theorem RdL.by {w : World} {v : Value} {rs : List (List Nat)} (h : RdL w v rs) : ∀ r ∈ rs, By r := fun r hr => by
  obtain ⟨a, c, h1, h2⟩ := h
  obtain ⟨b, off, h3, h4⟩ := h2 (List.length_pos_of_mem hr)
  obtain ⟨j, hj⟩ := List.getElem?_of_mem hr
  obtain ⟨a', c', k1, k2, k3, _⟩ := h4 j r hj
  exact k3
theorem RdL.front {w : World} {a : Option Addr} {n c : Nat} {rs : List (List Nat)} (h : RdL w (.slice a n c) rs) {k : Nat} (hk : k ≤ rs.length) : RdL w (.slice a k c) (rs.take k) := by
  obtain ⟨a', c', h1, h2⟩ := h
  simp only [Value.slice.injEq] at h1
  obtain ⟨rfl, rfl, rfl⟩ := h1
  refine ⟨a, c, by rw [List.length_take, Nat.min_eq_left hk], fun h0 => ?_⟩
  rw [List.length_take] at h0
  obtain ⟨b, off, h3, h4⟩ := h2 (by omega)
  refine ⟨b, off, h3, fun j r hj => h4 j r ?_⟩
  rw [List.getElem?_take] at hj
  split at hj
  · exact hj
  · cases hj

/-- The elements of a list of the call's own: each can be read, and lies in a block of its own from B on. -/
def Lst (w : World) (B : Nat) (qs : List (Option Nat)) (rs : List (List Nat)) (cs : List Value) : Prop :=
  cs.length = rs.length ∧ ∀ (j : Nat) (r : List Nat), rs[j]? = some r → ∃ u, cs[j]? = some u ∧ Rd w u (bv r) ∧ By r ∧ r.length ≤ 140737488355328 ∧ ∀ k, u.ownBlock = some k → B ≤ k ∧ k < w.heap.size ∧ ∀ q ∈ qs, q ≠ some k
theorem Lst.nil (w : World) (B : Nat) (qs : List (Option Nat)) : Lst w B qs [] [] := ⟨rfl, fun j r h => by simp at h⟩
theorem Rd.step {w w' : World} {v : Value} {xs : List Value} (h : Rd w v xs) (hb : ∀ k, v.ownBlock = some k → w'.heap[k]? = w.heap[k]?) : Rd w' v xs := by
  rcases h with h | ⟨a, c, rfl, h4, h5⟩
  · exact .inl h
  · refine .inr ⟨a, c, rfl, h4, fun j u hj => ?_⟩
    rw [World.cell?_of_block (w := w) (by rw [add_block]; exact hb _ rfl)]; exact h5 j u hj
/-- Blocks from B on stay but for those of qs; those of qs' are of qs, or new. -/
theorem Lst.step {w w' : World} {B : Nat} {qs qs' : List (Option Nat)} {rs : List (List Nat)} {cs : List Value} (h : Lst w B qs rs cs) (hs : w.heap.size ≤ w'.heap.size) (hf : ∀ k, B ≤ k → k < w.heap.size → (∀ q ∈ qs, q ≠ some k) → w'.heap[k]? = w.heap[k]?) (hq : ∀ q ∈ qs', q ∈ qs ∨ ∀ k, q = some k → w.heap.size ≤ k) : Lst w' B qs' rs cs := by
  refine ⟨h.1, fun j r hj => ?_⟩
  obtain ⟨u, h1, h2, h3, h3', h4⟩ := h.2 j r hj
  refine ⟨u, h1, h2.step fun k hk => hf k (h4 k hk).1 (h4 k hk).2.1 (h4 k hk).2.2, h3, h3', fun k hk => ⟨(h4 k hk).1, by have := (h4 k hk).2.1; omega, fun q hq' e => ?_⟩⟩
  rcases hq q hq' with x | x
  · exact (h4 k hk).2.2 q x e
  · have := x k e; have := (h4 k hk).2.1; omega
theorem Lst.snoc {w : World} {B : Nat} {qs : List (Option Nat)} {rs : List (List Nat)} {cs : List Value} (h : Lst w B qs rs cs) {u : Value} {r : List Nat} (h1 : Rd w u (bv r)) (h2 : By r) (h3 : r.length ≤ 140737488355328) (h4 : ∀ k, u.ownBlock = some k → B ≤ k ∧ k < w.heap.size ∧ ∀ q ∈ qs, q ≠ some k) : Lst w B qs (rs ++ [r]) (cs ++ [u]) := by
  refine ⟨by simp [h.1], fun j r' hj => ?_⟩
  by_cases hjl : j < rs.length
  · rw [List.getElem?_append_left hjl] at hj
    obtain ⟨u', k1, k2⟩ := h.2 j r' hj
    exact ⟨u', by rw [List.getElem?_append_left (by rw [h.1]; exact hjl)]; exact k1, k2⟩
  · have hje : j = rs.length := by
      rcases Nat.lt_or_ge j (rs.length + 1) with h' | h'
      · omega
      · rw [List.getElem?_eq_none (by simp; omega)] at hj; cases hj
    subst hje
    rw [List.getElem?_append_right (Nat.le_refl _), Nat.sub_self] at hj
    simp at hj
    subst hj
    exact ⟨u, by rw [List.getElem?_append_right (by rw [h.1]; exact Nat.le_refl _), h.1, Nat.sub_self]; rfl, h1, h2, h3, h4⟩
/-- A list of the call's own. -/
def OwnL (w : World) (B : Nat) (v : Value) (rs : List (List Nat)) : Prop := ∃ cs, w.ownsRow B 22 1 v rs.length cs ∧ Lst w B [v.ownBlock] rs cs
theorem OwnL.rd {w : World} {B : Nat} {v : Value} {rs : List (List Nat)} (h : OwnL w B v rs) : RdL w v rs := by
  obtain ⟨cs, o, l⟩ := h
  rcases o.2 with ⟨rfl, h0⟩ | ⟨g, cap, cur, rfl, _, h3, h4, h5⟩
  · have : rs = [] := List.eq_nil_of_length_eq_zero h0
    subst this
    exact ⟨none, 0, rfl, fun h => by simp at h⟩
  · refine ⟨_, cap, rfl, fun _ => ⟨g, 0, rfl, fun j r hj => ?_⟩⟩
    obtain ⟨u, k1, k2, k3, k4, _⟩ := l.2 j r hj
    have := o.cells rfl j u k1
    rw [Addr.add_lit] at this
    obtain ⟨a', c', e⟩ := k2.form
    rw [bv_len] at e
    subst e
    exact ⟨a', c', this, k2, k3, k4⟩
/-- Blocks from B on stay. -/
theorem OwnL.step {w w' : World} {B : Nat} {v : Value} {rs : List (List Nat)} (h : OwnL w B v rs) (hs : w.heap.size ≤ w'.heap.size) (hf : ∀ k, B ≤ k → k < w.heap.size → w'.heap[k]? = w.heap[k]?) : OwnL w' B v rs := by
  obtain ⟨cs, o, l⟩ := h
  exact ⟨cs, ownsRow_of_block o fun k hk => hf k (o.lt k hk).1 (o.lt k hk).2, l.step hs (fun k k1 k2 _ => hf k k1 k2) (fun q hq => .inl hq)⟩
theorem OwnL.fr {w w' : World} {B : Nat} {v : Value} {rs : List (List Nat)} (h : OwnL w B v rs) (f : Fr [] w w') : OwnL w' B v rs := h.step f.size fun k _ k2 => f.block k k2 (by simp)

/-- Rows of unlike elements don't share a block. -/
theorem own_types {w : World} {B B' s s' n n' : Nat} {e e' : TypeId} {v v' : Value} {xs ys : List Value} (h : w.ownsRow B e s v n xs) (h' : w.ownsRow B' e' s' v' n' ys) (hne : e ≠ e') : ∀ k, v.ownBlock = some k → v'.ownBlock ≠ some k := by
  intro k hk hk'
  rcases h.2 with ⟨rfl, _⟩ | ⟨g, cap, cur, rfl, _, h3, _⟩
  · simp [Value.ownBlock] at hk
  · rcases h'.2 with ⟨rfl, _⟩ | ⟨g', cap', cur', rfl, _, h3', _⟩
    · simp [Value.ownBlock] at hk'
    · simp [Value.ownBlock] at hk hk'
      subst hk; subst hk'
      rw [h3] at h3'
      simp at h3'
      exact hne h3'.2

/-- append(own, x) for a slice of bytes. -/
theorem wpList_append_row {w : World} {ops : Array Oper} {rest : List Oper} {o : Oper} {a : Act} {Q : Exit → Act → World → Prop} (hgd : o.guard = none) (s x : Operand)
    (ho : o.op = .call { callee := .builtin .append, args := #[s, x], argTypes := #[46, 46] }) (base : Nat) (hbase : base ≤ w.heap.size) (v : Value) (n : Nat) (xs : List Value) (hs : a.eval s = v) (hown : w.ownsRow base 22 1 v n xs) (G : Nat) (hx : a.eval x = .slice (some ⟨G, 0, none⟩) 1 1) {u : Value} {T : TypeId} (hG : w.heap[G]? = some (.cells #[u] T (0, 0)))
    (hu : u.oneCell' = true) (hl : n ≤ 100000000000)
    (h : ∀ v' w', w'.ownsRow base 22 1 v' (n + 1) (xs ++ [u]) → w.grownBy w' v.ownBlock → (v'.ownBlock = v.ownBlock ∨ v'.ownBlock = some w.heap.size) → wpList Tryz.prog ops Q rest (a.put o.dst v') w') :
    wpList Tryz.prog ops Q (o :: rest) a w := by
  obtain ⟨i0, hi, hz0, hz1, hz2⟩ := info_parts infoR
  refine wpList_append_own_at w hgd s x 46 ho base 22 i0 _ 1 24 Tryz.underlying46 hi hz0 hz1 hz2 rfl (by decide) v n xs hs hown ⟨G, 0, none⟩ 1 1 [u] hx rfl ?_ ?_ (by unfold maxLen; omega) (by omega) hbase fun v' w' h1 h2 _ h3 => h v' w' h1 h2 h3
  · intro j u' hj
    rw [Addr.add_lit, Nat.zero_add, blk_cell hG, ← Array.getElem?_toList]
    exact hj
  · intro u' hu'
    simp at hu'
    subst hu'; exact hu
end Go.Proofs.YtegbngbhmgbocaaGreatDoor
namespace Go.Proofs.YtegbngbhmgbocaaGreatDoor
open Go.ChangeShapes Go.WideShapes Go.ChangeAt Go.RowKit

theorem ownsRow_ne {w : World} {base size n : Nat} {e t : TypeId} {v : Value} {xs : List Value} {b : Nat} {cs : Array Value} {fz : Nat × Nat} (h : w.ownsRow base e size v n xs) (hb : w.heap[b]? = some (.cells cs t fz)) (ht : e ≠ t) : v.ownBlock ≠ some b := by
  intro hv
  rcases h.2 with ⟨rfl, _⟩ | ⟨g, cap, cur, rfl, _, h3, _⟩
  · simp [Value.ownBlock] at hv
  · simp only [Value.ownBlock, Option.some.injEq] at hv
    subst hv; rw [hb] at h3; simp at h3; exact ht h3.2.1.symm

set_option maxRecDepth 20000 in
set_option maxHeartbeats 800000 in
theorem gather_c (w : World) {R base : Nat} {av dv : Value} {acc d : List Nat} (hR : w.heap[R]? = some (.cells #[av] 22 (0, 0))) (o : w.ownsRow base 5 1 av acc.length (bv acc)) (hbw : base ≤ w.heap.size) (r : Rd w dv (bv d)) (hl : acc.length + d.length ≤ 4194304) :
    Calls Tryz.prog 23 #[dv, .pointer (some ⟨R, 0, none⟩)] w fun e w' => e = .returned (.bool true) ∧ ∃ av', w'.heap[R]? = some (.cells #[av'] 22 (0, 0)) ∧ w'.ownsRow base 5 1 av' (acc.length + d.length) (bv (acc ++ d)) ∧ Fr (R :: av.ownBlock.toList) w w' ∧ (av'.ownBlock = av.ownBlock ∨ av'.ownBlock = some w.heap.size) := by
  obtain ⟨a0, c0, rfl, hc0⟩ := ownsRow_slice o
  obtain ⟨a1, c1, hv1⟩ := r.form
  rw [bv_len] at hv1
  subst hv1
  have hne := ownsRow_ne o hR (by decide)
  have g0 := blk_cell hR 0
  have z0 := blk_frozen hR 0
  simp at g0
  have O := hid o
  have RR := hid r
  have HR := hid hR
  have HL : (bv d).length = d.length := bv_len d
  clear o r hR
  go_enter Tryz.func23, Tryz.ntmps23
  go_wp2_with (at_builtin; refine wpList_append_rd rfl _ _ rfl base hbw _ _ _ rfl O.out _ _ rfl RR.out bv_one (by rw [HL]; omega) ?_; intro v2 w2 o2 g2 q2; rw [HL, ← bv_append] at o2; have e2 := ownsRow_slice o2; obtain ⟨a2, c2, rfl, _⟩ := e2; have hR2 : w2.heap[R]? = some (.cells #[.slice a0 acc.length c0] 22 (0, 0)) := (by rw [g2.block R (blk_lt HR.out) (fun e => hne e.symm)]; exact HR.out); have g0' := blk_cell hR2 0; have z0' := blk_frozen hR2 0; simp at g0'; have O2 := hid o2; have G2 := hid g2; have Q2 := hid q2; have HR2 := hid hR2; clear o2 g2 q2 hR2)
  go_ret
  have hq : w.grownBy w2 (Value.slice a0 acc.length c0).ownBlock := G2.out
  refine ⟨ret_bool (decide_eq_true (by omega)), _, by rw [blk_set HR2.out]; rfl, ?_, ?_, Q2.out⟩
  · refine ownsRow_of_block O2.out fun k hk => blk_setne _ _ _ ?_
    intro e; subst e; exact ownsRow_ne O2.out HR2.out (by decide) hk
  · exact ((Fr.refl _ _).grown hq fun k hk => .inl (by rw [hk]; simp)).set _ _ (.inl (by simp))
end Go.Proofs.YtegbngbhmgbocaaGreatDoor
