/-
  within and keeper: their closures set up.
-/
import Derived.Test.YthmlpjogbdpgiaaJ24
import Derived.Maps.AppendAt
import Derived.Laws.EntriesVeiled
namespace Go.Proofs.Ythmlpjogbdpgiaa
open Go.ChangeShapes Go.WideShapes Go.ChangeAt Go.RowKit

theorem infoSp : (Try.prog.info? 58).map (fun i => (i.zero, i.size, i.bytes)) = some (some (.agg #[.slice none 0 0, .slice none 0 0]), 2, 48) := by kernel_rfl
/-- Spans that can be read, with their places. -/
theorem RdK.sx {w : World} {v : Value} {sp : Ps} (h : RdK w v sp) : ∃ (a : Option Addr) (c : Nat) (xs : List Sx), v = .slice a sp.length c ∧ xs.map Sx.s = sp ∧ (∀ x ∈ xs, RS9 w x) ∧ (0 < sp.length → ∃ b off, a = some ⟨b, off, none⟩ ∧ ∀ t u, (xs.flatMap encS)[t]? = some u → w.cell? ⟨b, off + t, none⟩ = some u) := by
  obtain ⟨a, c, rfl, hc, k1⟩ := h
  rcases Nat.eq_zero_or_pos sp.length with h0 | h0
  · have : sp = [] := List.eq_nil_of_length_eq_zero h0
    subst this
    exact ⟨a, c, [], rfl, rfl, fun x hx => (by cases hx), fun hh => (by simp at hh)⟩
  · obtain ⟨b, off, rfl, m⟩ := k1 h0
    have hx : ∀ j, ∃ x : Sx, j < sp.length → sp[j]? = some x.s ∧ RS9 w x ∧ w.cell? ⟨b, off + j * 2, none⟩ = some (.slice x.la x.s.1.length x.lc) ∧ w.cell? ⟨b, off + j * 2 + 1, none⟩ = some (.slice x.ma x.s.2.length x.mc) := fun j => by
      by_cases hj : j < sp.length
      · obtain ⟨ka, kc, va, vc, P⟩ := m j _ (ps_at hj)
        exact ⟨⟨(kA sp j, vA sp j), ka, kc, va, vc⟩, fun _ => ⟨ps_at hj, ⟨P.rk, P.rv, P.bk, P.bv'⟩, P.ck, P.cv⟩⟩
      · exact ⟨⟨([], []), none, 0, none, 0⟩, fun h => absurd h hj⟩
    obtain ⟨G, hG⟩ := Classical.axiomOfChoice hx
    have hxl : ((List.range sp.length).map G).length = sp.length := by simp
    have hat : ∀ j, j < sp.length → ((List.range sp.length).map G)[j]? = some (G j) := fun j hj => by rw [List.getElem?_map, List.getElem?_range hj]; rfl
    refine ⟨_, c, (List.range sp.length).map G, rfl, ?_, fun x hx => ?_, fun _ => ⟨b, off, rfl, fun t u ht => ?_⟩⟩
    · apply List.ext_getElem?
      intro j
      rw [List.getElem?_map]
      by_cases hj : j < sp.length
      · rw [hat j hj, (hG j hj).1]; rfl
      · rw [List.getElem?_eq_none (by omega), List.getElem?_eq_none (by omega)]; rfl
    · obtain ⟨j, hj, rfl⟩ := List.mem_map.1 hx
      exact (hG j (List.mem_range.1 hj)).2.1
    · have htl : t < (((List.range sp.length).map G).flatMap encS).length := (List.getElem?_eq_some_iff.1 ht).1
      rw [flat2_len, hxl] at htl
      have hlt : t / 2 < sp.length := by omega
      rw [flat2_at _ t _ (hat _ hlt)] at ht
      obtain ⟨_, _, c0, c1⟩ := hG _ hlt
      rcases Nat.mod_two_eq_zero_or_one t with e | e
      · rw [e] at ht
        cases ht
        rw [show off + t = off + t / 2 * 2 from by omega]; exact c0
      · rw [e] at ht
        cases ht
        rw [show off + t = off + t / 2 * 2 + 1 from by omega]; exact c1
set_option maxRecDepth 20000 in
set_option maxHeartbeats 1600000 in
theorem cloneSp_c {w0 W : World} (f : Fr [] w0 W) {v : Value} {sp : Ps} (h : RdK w0 v sp) (hl : sp.length ≤ 1000000) :
    Calls Try.prog 51 #[v] W fun e w' => ∃ (a : Option Addr) (c : Nat) (xs : List Sx), e = .returned (.slice a sp.length c) ∧ xs.map Sx.s = sp ∧ (∀ x ∈ xs, RS9 w0 x) ∧ w'.ownsRow W.heap.size 58 2 (.slice a sp.length c) xs.length (xs.flatMap encS) ∧ Fr [] W w' := by
  obtain ⟨i0, hi, hz0, hz1, hz2⟩ := info_parts infoSp
  have heq := fun (w : World) (a : Option Addr) (n c : Nat) => Lib.run_eql_slice_nil (P := Try.prog) w 24 58 a n c 0 0 Try.underlying24
  obtain ⟨a, c, xs, rfl, hxs, hrs, hcl⟩ := h.sx
  have hxl : xs.length = sp.length := by rw [← hxs, List.length_map]
  have HXS := hid hxs
  have HRS := hid hrs
  rcases a with _ | ad
  · have h0 : sp.length = 0 := by
      rcases Nat.eq_zero_or_pos sp.length with h0 | h0
      · exact h0
      · obtain ⟨b, off, e, _⟩ := hcl h0; cases e
    have hx0 : xs = [] := List.eq_nil_of_length_eq_zero (by omega)
    subst hx0
    rw [h0]
    clear hcl hxs hrs
    go_enter Try.func51, Try.ntmps51
    go_wp2
    go_ret
    exact ⟨none, 0, [], rfl, HXS.out, HRS.out, World.ownsRow_nil _ _ _ _, Fr.refl _ _⟩
  · have hown : (W.alloc (.cells #[] 58)).ownsRow W.heap.size 58 2 (.slice (some ⟨W.heap.size, 0, none⟩) 0 0) 0 [] := World.ownsRow_lit W #[] 0 (Nat.le_refl _) (by unfold maxLen; omega) rfl
    have hc' : ∀ j u, (xs.flatMap encS)[j]? = some u → (W.alloc (.cells #[] 58)).cell? (ad.add j) = some u := fun j u hj => by
      have hjl := (List.getElem?_eq_some_iff.1 hj).1
      rw [flat2_len, hxl] at hjl
      obtain ⟨b, off, e, hc⟩ := hcl (by omega)
      cases e
      rw [Addr.add_lit]
      have h1 := cell_fr f (hc j u hj)
      rw [World.cell?_of_block (w := W) (blk_old _ _ (World.block_lt_of_cell? W _ h1))]; exact h1
    have one : ∀ u ∈ xs.flatMap encS, u.oneCell' = true := fun u hu => by
      obtain ⟨x, _, hx⟩ := List.mem_flatMap.1 hu
      exact encS_one x u hx
    have HO := hid hown
    have HC := hid hc'
    have HL2 : Hid ((xs.flatMap encS).length = sp.length * 2) := hid (by rw [flat2_len, hxl])
    have HXL := hid hxl
    obtain ⟨n, hn⟩ : ∃ n, n = sp.length := ⟨_, rfl⟩
    have HN := hid hn
    rw [← hn] at HL2 HXL hl ⊢
    clear hown hc' hcl hxs hrs hxl hn
    go_enter Try.func51, Try.ntmps51
    go_wp2_with (at_builtin; refine wpList_append_own_at _ rfl _ _ 24 rfl W.heap.size 58 i0 _ 2 48 Try.underlying24 hi hz0 hz1 hz2 rfl (by decide) _ _ _ rfl HO.out ad n c (xs.flatMap encS) rfl HL2.out HC.out one (by unfold maxLen; omega) (by omega) (by simp) ?_; intro v' w1 hown' hgrow hnil hat; rw [Nat.zero_add] at hown'; obtain ⟨a', c', rfl, _⟩ := ownsRow_slice hown'; have O1 := hid hown'; have F1 : Hid (Fr [] W w1) := hid (((Fr.refl _ _).alloc _).grown hgrow (fun k hk => .inr (by have e : some W.heap.size = some k := hk; simp only [Option.some.injEq] at e; omega))); clear hown' hgrow hnil hat)
    go_ret
    refine ⟨a', c', xs, rfl, HXS.out, HRS.out, ?_, F1.out⟩
    have := O1.out
    rw [List.nil_append] at this
    rw [HXL.out]; exact this
set_option maxRecDepth 20000 in
set_option maxHeartbeats 3200000 in
theorem within_c {w0 W : World} (f : Fr [] w0 W) {v : Value} {sp : Ps} (h : RdK w0 v sp) (hl : sp.length ≤ 1000000) (hz : 0 < w0.heap.size) :
    Calls Try.prog 41 #[v] W fun e w' => ∃ (A B R Q : Nat) (L : Ps), e = .returned (.func (.func 55) #[] #[.pointer (some ⟨A, 0, none⟩), .pointer (some ⟨B, 0, none⟩), .pointer (some ⟨R, 0, none⟩)]) ∧ WI w0 w' A B R Q L 0 ∧ L.Perm sp ∧ SortL L ∧ Fr [] W w' ∧ W.heap.size ≤ A ∧ W.heap.size ≤ B ∧ W.heap.size ≤ R ∧ A < w'.heap.size ∧ B < w'.heap.size ∧ R < w'.heap.size ∧ Q < w'.heap.size ∧ (W.heap.size ≤ Q ∨ Q < w0.heap.size) := by
  have CL := hid (cloneSp_c f h hl)
  have F0 := hid f
  clear h
  obtain ⟨n, hn⟩ : ∃ n, n = sp.length := ⟨_, rfl⟩
  have HN := hid hn
  rw [← hn] at CL hl
  clear hn
  go_enter Try.func41, Try.ntmps41
  go_upto_region 2 with (go_at_call 51; refine CL.out.mono ?_; rintro e w1 ⟨a, c, xs, rfl, hxs, hrs, o1, f1⟩; have HXS := hid hxs; have HRS := hid hrs; have O1 := hid o1; have F1 := hid f1; clear hxs hrs o1 f1)
  obtain ⟨W2, hW2⟩ : ∃ W2, W2 = w1.alloc (.cells #[.slice a n c] 24) := ⟨_, rfl⟩
  rw [← hW2]
  have F12 : Fr [] w1 W2 := by rw [hW2]; exact (Fr.refl _ _).alloc _
  have bA : W2.heap[w1.heap.size]? = some (.cells #[.slice a n c] 24 (0, 0)) := by rw [hW2]; exact blk_new _ _
  have FW2 := hid (F1.out.trans F12)
  have F02 := hid (F0.out.trans FW2.out)
  have hxl : xs.length = n := by rw [HN.out, ← HXS.out, List.length_map]
  have OW := own_baseC (ownsRow_fr O1.out F12) (F0.out.size)
  have O2 := hid OW
  have SC := hid (sortSp_c w0 W2 hxl.symm OW F02.out HRS.out hl)
  have cA : W2.cell? ⟨w1.heap.size, 0, none⟩ = some (.slice a n c) := by rw [blk_cell bA]; rfl
  have BA := hid bA
  have HXL := hid hxl
  have OB := hid O1.out
  clear hW2 F12 bA hxl OW O1
  go_upto_region 3 with (go_at_call 52; refine SC.out.mono ?_; rintro e w3 ⟨rfl, ys, pm, so, o3, g3, f3⟩; have PM := hid pm; have SO := hid so; have O3 := hid o3; have G3 := hid g3; have F03 := hid f3; clear pm so o3 g3 f3)
  clear SC cA
  have bA3 : w3.heap[w1.heap.size]? = some (.cells #[.slice a n c] 24 (0, 0)) := by
    rw [G3.out.block _ (blk_lt BA.out) (fun e => own_not O2.out BA.out (by decide) e.symm)]; exact BA.out
  have BA3 := hid bA3
  have S23 := hid G3.out.size
  have FW3 : Hid (Fr [] W w3) := hid (FW2.out.grown G3.out (fun k e => .inr (OB.out.lt k (by simpa using e)).1))
  clear bA3
  obtain ⟨W5, hW5⟩ : ∃ W5, W5 = (w3.alloc (.cells #[.slice none 0 0] 35)).alloc (.cells #[.bool false] 4) := ⟨_, rfl⟩
  have F35 : Fr [] w3 W5 := by rw [hW5]; exact ((Fr.refl _ _).alloc _).alloc _
  have hyl : ys.length = n := by rw [← HXL.out]; exact PM.out.length_eq
  have hL : (ys.map Sx.s).length = n := by rw [List.length_map]; exact hyl
  have bR : W5.heap[w3.heap.size]? = some (.cells #[.slice none 0 0] 35 (0, 0)) := by rw [hW5, blk_old _ _ (by simp)]; exact blk_new _ _
  have bB : W5.heap[w3.heap.size + 1]? = some (.cells #[.bool false] 4 (0, 0)) := by rw [hW5]; exact new_at _ _ (by simp)
  have hs5 : W5.heap.size = w3.heap.size + 2 := by rw [hW5]; simp
  have hs1 := F1.out.size
  have hs0 := F0.out.size
  have hs13 := Nat.lt_of_lt_of_le (blk_lt BA.out) S23.out
  have o5 := ownsRow_fr O3.out F35
  have RSY : ∀ y ∈ ys, RS9 w0 y := fun y hy => HRS.out y (PM.out.subset hy)
  obtain ⟨Q, hQ1, hQ2, hQ3⟩ : ∃ Q, (0 < n → a = some ⟨Q, 0, none⟩) ∧ (W.heap.size ≤ Q ∧ Q < w3.heap.size ∧ Q ≠ w1.heap.size ∨ Q < w0.heap.size) ∧ SpA w0 W5 Q (ys.map Sx.s) := by
    rcases Nat.eq_zero_or_pos n with h0 | h0
    · refine ⟨0, fun h => by omega, .inr hz, fun i s hi => ?_⟩
      have := (List.getElem?_eq_some_iff.1 hi).1
      omega
    · rcases OB.out.2 with ⟨e, _⟩ | ⟨g, cap, cur, e, hb, _⟩
      · simp only [Value.slice.injEq] at e; omega
      · simp only [Value.slice.injEq] at e
        obtain ⟨rfl, _, rfl⟩ := e
        have hg := O3.out.lt g rfl
        refine ⟨g, fun _ => rfl, .inl ⟨hb, hg.2, fun e => ?_⟩, fun i s hi => ?_⟩
        · exact own_not O2.out BA.out (by decide) (by rw [e]; rfl)
        · rw [List.getElem?_map] at hi
          obtain ⟨y, hy, rfl⟩ := Option.map_eq_some_iff.1 hi
          obtain ⟨r0, r1, b0, b1⟩ := RSY y (List.mem_of_getElem? hy)
          have k0 := o5.cells (g := g) rfl (i * 2) (.slice y.la y.s.1.length y.lc) (by rw [flat2_at _ _ y (by rw [show i * 2 / 2 = i by omega]; exact hy), show i * 2 % 2 = 0 by omega]; rfl)
          have k1 := o5.cells (g := g) rfl (i * 2 + 1) (.slice y.ma y.s.2.length y.mc) (by rw [flat2_at _ _ y (by rw [show (i * 2 + 1) / 2 = i by omega]; exact hy), show (i * 2 + 1) % 2 = 1 by omega]; rfl)
          rw [Addr.add_lit, Nat.zero_add] at k0 k1
          exact ⟨_, _, _, _, k0, k1, r0, r1, b0, b1⟩
  have RES : Hid (WI w0 W5 w1.heap.size (w3.heap.size + 1) w3.heap.size Q (ys.map Sx.s) 0 ∧ (ys.map Sx.s).Perm sp ∧ SortL (ys.map Sx.s) ∧ Fr [] W W5) := hid (by
    refine ⟨⟨F03.out.trans F35, Nat.zero_le _, ⟨a, c, ?_, fun h => ?_, ?_⟩, ?_, ⟨none, 0, 0, bR, fun h => by omega⟩, hQ3, by omega, by omega, by omega, ?_, ?_, ?_⟩, ?_, ?_, FW3.out.trans F35⟩
    · rw [hL, Nat.sub_zero]; exact F35.at BA3.out (by simp)
    · rw [hL] at h; exact hQ1 h
    · rw [hL, Nat.sub_zero]
      rcases O3.out.2 with ⟨e, _⟩ | ⟨g, cap, cur, e, _, _, h4, _⟩
      · simp only [Value.slice.injEq] at e; omega
      · simp only [Value.slice.injEq] at e; omega
    · exact bB
    · rcases hQ2 with h | h
      · exact h.2.2
      · omega
    · rcases hQ2 with h | h <;> omega
    · rcases hQ2 with h | h <;> omega
    · rw [← HXS.out]; exact PM.out.map _
    · unfold SortL
      rw [List.pairwise_map]
      have so := SO.out
      unfold SortS at so
      exact so.imp (by intro x y h; have := cmpN_neg y.s.1 x.s.1; omega))
  have RES2 : Hid (W.heap.size ≤ w1.heap.size ∧ W.heap.size ≤ w3.heap.size + 1 ∧ W.heap.size ≤ w3.heap.size ∧ w1.heap.size < W5.heap.size ∧ w3.heap.size + 1 < W5.heap.size ∧ w3.heap.size < W5.heap.size ∧ Q < W5.heap.size ∧ (W.heap.size ≤ Q ∨ Q < w0.heap.size)) := hid (by
    refine ⟨by omega, by omega, by omega, by omega, by omega, by omega, ?_, ?_⟩ <;> rcases hQ2 with h | h <;> omega)
  rw [hW5] at RES RES2
  clear hW5 F35 bR bB o5 RSY hQ1 hQ2 hQ3 hs5 hs1 hs0 hs13 hyl hL
  go_wp2
  go_ret
  exact ⟨_, _, _, Q, _, rfl, RES.out.1, RES.out.2.1, RES.out.2.2.1, RES.out.2.2.2, RES2.out⟩
/-- What keeper sets up. -/
structure KS (w0 W w' : World) (old : Nat) (sp : Ps) (U Sb O C A B R Q : Nat) (L : Ps) : Prop where
  ki : KI w0 w' U Sb O C A B R Q old L [] 0
  pm : L.Perm sp
  so : SortL L
  fr : Fr [] W w'
  lo : ∀ x ∈ [U, Sb, O, C, A, B, R], W.heap.size ≤ x
  lq : W.heap.size ≤ Q ∨ Q < w0.heap.size
  gq : Q < w'.heap.size
set_option maxRecDepth 20000 in
set_option maxHeartbeats 3200000 in
theorem keeper_c {w0 W : World} (f : Fr [] w0 W) {v : Value} {sp : Ps} (h : RdK w0 v sp) (hl : sp.length ≤ 1000000) (hz : 0 < w0.heap.size) (old : Nat) :
    Calls Try.prog 27 #[.int .u64 (old : Int), v] W fun e w' => ∃ (U Sb O C A B R Q : Nat) (L : Ps), e = .returned (.func (.func 42) #[] #[.pointer (some ⟨U, 0, none⟩), .pointer (some ⟨Sb, 0, none⟩), .pointer (some ⟨O, 0, none⟩), .pointer (some ⟨C, 0, none⟩)]) ∧ KS w0 W w' old sp U Sb O C A B R Q L := by
  obtain ⟨W1, hW1⟩ : ∃ W1, W1 = W.alloc (.cells #[.int .u64 (old : Int)] 23) := ⟨_, rfl⟩
  have F1 : Fr [] W W1 := by rw [hW1]; exact (Fr.refl _ _).alloc _
  have bO : W1.heap[W.heap.size]? = some (.cells #[.int .u64 (old : Int)] 23 (0, 0)) := by rw [hW1]; exact blk_new _ _
  have hs1 : W1.heap.size = W.heap.size + 1 := by rw [hW1]; simp
  have WC := hid (within_c (f.trans F1) h hl hz)
  have F0 := hid f
  have HF1 := hid F1
  have BO := hid bO
  have HS1 := hid hs1
  clear f h F1 bO hs1
  go_enter Try.func27, Try.ntmps27
  go_upto_region 1 with fail
  rw [← hW1]
  clear hW1
  go_upto_region 2 with (go_at_call 41; refine WC.out.mono ?_; rintro e w2 ⟨A, B, R, Q, L, rfl, wi, pm, so, f2, lA, lB, lR, gA, gB, gR, gQ, lQ⟩; have WI2 := hid wi; have PM := hid pm; have SO := hid so; have F2 := hid f2; have LL := hid (And.intro lA (And.intro lB lR)); have GG := hid (And.intro gA (And.intro gB (And.intro gR (And.intro gQ lQ)))); clear wi pm so f2 lA lB lR gA gB gR gQ lQ)
  obtain ⟨W3, hW3⟩ : ∃ W3, W3 = w2.alloc (.cells #[.func (.func 55) #[] #[.pointer (some ⟨A, 0, none⟩), .pointer (some ⟨B, 0, none⟩), .pointer (some ⟨R, 0, none⟩)]] 63) := ⟨_, rfl⟩
  obtain ⟨W5, hW5⟩ : ∃ W5, W5 = (W3.alloc (.cells #[.slice none 0 0] 35)).alloc (.cells #[.bool false] 4) := ⟨_, rfl⟩
  have F23 : Fr [] w2 W3 := by rw [hW3]; exact (Fr.refl _ _).alloc _
  have F35 : Fr [] W3 W5 := by rw [hW5]; exact ((Fr.refl _ _).alloc _).alloc _
  have hs3 : W3.heap.size = w2.heap.size + 1 := by rw [hW3]; simp
  have bC : W5.heap[w2.heap.size]? = some (.cells #[.func (.func 55) #[] #[.pointer (some ⟨A, 0, none⟩), .pointer (some ⟨B, 0, none⟩), .pointer (some ⟨R, 0, none⟩)]] 63 (0, 0)) := F35.at (by rw [hW3]; exact blk_new _ _) (by simp)
  have bU : W5.heap[w2.heap.size + 1]? = some (.cells #[.slice none 0 0] 35 (0, 0)) := by rw [hW5, blk_old _ _ (by simp; omega), ← hs3]; exact blk_new _ _
  have bS : W5.heap[w2.heap.size + 2]? = some (.cells #[.bool false] 4 (0, 0)) := by rw [hW5, show w2.heap.size + 2 = W3.heap.size + 1 from by omega]; exact new_at _ _ (by simp)
  have F25 := F23.trans F35
  have bO5 := F25.at (F2.out.at BO.out (by simp)) (by simp)
  have RES : Hid (KS w0 W W5 old sp (w2.heap.size + 1) (w2.heap.size + 2) W.heap.size w2.heap.size A B R Q L) := hid (by
    have h1 := HF1.out.size
    have h2 := F2.out.size
    have h0 := F0.out.size
    have hsx := HS1.out
    obtain ⟨lA, lB, lR⟩ := LL.out
    obtain ⟨gA, gB, gR, gQ, lQ⟩ := GG.out
    refine ⟨⟨WI2.out.keep F25 (by simp), fun s hs => by simp at hs, ⟨none, 0, bU, World.ownsRow_nil _ _ _ _⟩, bS, bO5, bC, by omega, by omega, by omega, by omega, by omega, by omega, by omega, by omega, ?_, by omega⟩, PM.out, SO.out, (HF1.out.trans F2.out).trans F25, ?_, ?_, ?_⟩
    · rcases lQ with h | h <;> omega
    · intro x hx
      simp only [List.mem_cons, List.not_mem_nil, or_false] at hx
      rcases hx with rfl | rfl | rfl | rfl | rfl | rfl | rfl <;> omega
    · rcases lQ with h | h
      · exact .inl (by omega)
      · exact .inr h
    · have := F25.size; omega)
  rw [hW5, hW3] at RES
  clear hW5 hW3 F23 F35 hs3 bC bU bS F25 bO5
  go_wp2
  go_ret
  exact ⟨_, _, _, _, A, B, R, Q, L, rfl, RES.out⟩
end Go.Proofs.Ythmlpjogbdpgiaa
