/-
  ManifestUndoes: what is added and dropped again.
-/
import Derived.Test.YtckdcaegnbgomaaVQ
import Derived.Test.YtckdcaegnbgomaaER
namespace Go.Proofs.Ytckdcaegnbgomaa
open Go.ChangeShapes Go.WideShapes Go.ChangeAt Go.RowKit

theorem step_buildG {ops : Array Oper} {o : Oper} {a : Act} {w : World} {K : Act → World → Prop} {Q : Exit → Act → World → Prop} {E : Prop} (hg : o.guard = none) (y : Operand) (hop : o.op = Op.buildSlice 27 1 #[(0, y)]) {g1 g2 : Int} (hx : a.eval y = .agg #[.int .i64 g1, .int .i64 g2])
    (hK : K (a.put o.dst (.slice (some ⟨w.heap.size, 0, none⟩) 1 1)) (w.alloc (.cells #[.int .i64 g1, .int .i64 g2] 59))) :
    if Region.wanted o (yielded ops a.tmps) = true then Oper.wp Try.prog o a w K Q else E := by
  have hw : Region.wanted o (yielded ops a.tmps) = true := by simp [Region.wanted, hg]
  rw [if_pos hw]
  unfold Oper.wp
  simp [execOp, hop, hx]
  go_simp
  exact hK
theorem step_appG {ops : Array Oper} {o : Oper} {a : Act} {w : World} {K : Act → World → Prop} {Q : Exit → Act → World → Prop} {E : Prop} (hg : o.guard = none) (s y : Operand) (hop : o.op = Op.call { callee := Callee.builtin Builtin.append, args := #[s, y], argTypes := #[27, 27] }) (base : Nat) {ad : Option Addr} {n c : Nat} {gs : List (Int × Int)} (hn : n = gs.length) (hs : a.eval s = .slice ad n c) (hown : w.ownsRow base 59 2 (.slice ad n c) gs.length (cellsD gs)) {G : Nat} (hx : a.eval y = .slice (some ⟨G, 0, none⟩) 1 1) {g1 g2 : Int} (hG : w.heap[G]? = some (.cells #[.int .i64 g1, .int .i64 g2] 59 (0, 0)))
    (hl : n ≤ 100000) (hbase : base ≤ w.heap.size)
    (hK : ∀ a' c' w', w'.ownsRow base 59 2 (.slice a' (n + 1) c') (gs ++ [(g1, g2)]).length (cellsD (gs ++ [(g1, g2)])) → w.grownBy w' (Value.slice ad n c).ownBlock → K (a.put o.dst (.slice a' (n + 1) c')) w') :
    if Region.wanted o (yielded ops a.tmps) = true then Oper.wp Try.prog o a w K Q else E := by
  obtain ⟨i0, hi0, hz0, hz1, hz2⟩ := info_parts9 infoGone
  subst hn
  refine step_append_own hg s y 27 hop base 59 i0 _ 2 16 Try.underlying27 hi0 hz0 hz1 hz2 rfl (by decide) _ gs.length (cellsD gs) hs hown ⟨G, 0, none⟩ 1 1 [.int .i64 g1, .int .i64 g2] hx rfl (fun j u hj => by rw [Addr.add_lit, Nat.zero_add, blk_cell hG, ← Array.getElem?_toList]; exact hj) (fun u hu => by simp at hu; rcases hu with rfl | rfl <;> rfl) (by unfold maxLen; omega) (by omega) hbase (fun v' w' o' g' q' => ?_)
  obtain ⟨a', c', rfl, _⟩ := ownsRow_slice o'
  refine hK a' c' w' ?_ g'
  rw [cellsD_snoc, List.length_append]
  exact o'
/-- What Apply answers, in one form. -/
structure AFm (w w' : World) (v : Vn) (e : Ed) (a0 a1 a2 : Int) (kd : Nat → Option Addr) (kl kc : Nat → Nat) (c : Int) : Prop where
  fr : Fr [] w w'
  out : c ≠ 0 ∨ (c = 0 ∧ ∃ U, (a0 = e.log ∧ a1 = e.next ∧ a2 = (e.seq : Int)) ∧ chkV v = 0 ∧ okE e = true ∧ okA9 v e U ∧ OwnV w.heap.size w' U kd kl kc)
theorem AOut.form {w w' : World} {v : Vn} {e : Ed} {r : Ending} (h : AOut w w' v e r) : ∃ a0 a1 a2 kd kl kc c, r = .returned (.tuple #[.agg #[.int .i64 a0, .int .i64 a1, .int .u64 a2, .slice (kd 0) (kl 0) (kc 0), .slice (kd 1) (kl 1) (kc 1), .slice (kd 2) (kl 2) (kc 2), .slice (kd 3) (kl 3) (kc 3), .slice (kd 4) (kl 4) (kc 4)], .int .i64 c]) ∧ AFm w w' v e a0 a1 a2 kd kl kc c := by
  rcases h.out with ⟨h1, rfl⟩ | ⟨h1, h2, rfl⟩ | ⟨h1, h2, ⟨c, h3, h4, rfl⟩ | ⟨U, kd, kl, kc, h3, rfl, h4⟩⟩
  · exact ⟨0, 0, 0, fun _ => none, fun _ => 0, fun _ => 0, _, rfl, h.fr, .inl h1⟩
  · exact ⟨0, 0, 0, fun _ => none, fun _ => 0, fun _ => 0, _, rfl, h.fr, .inl (by omega)⟩
  · exact ⟨0, 0, 0, fun _ => none, fun _ => 0, fun _ => 0, _, rfl, h.fr, .inl h4⟩
  · exact ⟨_, _, _, kd, kl, kc, 0, rfl, h.fr, .inr ⟨rfl, U, ⟨rfl, rfl, rfl⟩, h1, h2, h3, h4⟩⟩
theorem VAt.congr {w : World} {L L' : Nat → List Fl} {ad : Nat → Option Addr} {ln ln' cp : Nat → Nat} (h : VAt w L ad ln cp) (h1 : ∀ i, i < 5 → L i = L' i) (h2 : ∀ i, i < 5 → ln i = ln' i) : VAt w L' ad ln' cp :=
  ⟨fun i hi => by rw [← h2 i hi, ← h1 i hi]; exact h.len i hi, fun i hi => by rw [← h2 i hi]; exact h.small i hi, fun i hi h0 => by rw [← h2 i hi] at h0; rw [← h1 i hi]; exact h.rd i hi h0⟩
/-- The second edit brings the first version back. -/
structure A2Out (w w' : World) (vl nx : Int) (vs : Nat) (L : Nat → List Fl) (ln : Nat → Nat) (r : Ending) : Prop where
  fr : Fr [] w w'
  out : ∃ kd kc, r = .returned (.tuple #[.agg #[.int .i64 vl, .int .i64 nx, .int .u64 (vs : Int), .slice (kd 0) (ln 0) (kc 0), .slice (kd 1) (ln 1) (kc 1), .slice (kd 2) (ln 2) (kc 2), .slice (kd 3) (ln 3) (kc 3), .slice (kd 4) (ln 4) (kc 4)], .int .i64 0]) ∧ VAt w' L kd ln kc
theorem AOut.undo {w w' : World} {v : Vn} {nx : Int} {ps : List (Int × Fl)} {U : Nat → List Fl} {ln : Nat → Nat} {r : Ending} (hu : Undo v nx ps U) (hl : ∀ i, i < 5 → ln i = (v.lv i).length) (h : AOut w w' ⟨v.log, nx, v.seq, U⟩ (dropE v nx ps) r) : A2Out w w' v.log nx v.seq v.lv ln r := by
  refine ⟨h.fr, ?_⟩
  rcases h.out with ⟨h1, _⟩ | ⟨_, h2, _⟩ | ⟨_, _, ⟨c, h3, h4, _⟩ | ⟨U2, kd, kl, kc, h3, rfl, h4⟩⟩
  · exact absurd hu.made.chk h1
  · rw [hu.ok2] at h2; cases h2
  · exfalso
    rcases h3 with ⟨h5, _⟩ | ⟨_, h5, _⟩ | ⟨_, _, U2, h5, h6, _⟩
    · exact h5 hu.cnt
    · exact hu.back2 h5
    · exact h6 (hu.chk2 h5)
  · have he : ∀ i, i < 5 → kl i = ln i := fun i hi => by
      have := h4.vat.len i hi
      rw [this, hu.back h3.comes hi, hl i hi]
    refine ⟨kd, kc, ?_, h4.vat.congr (fun i hi => hu.back h3.comes hi) he⟩
    rw [he 0 (by omega), he 1 (by omega), he 2 (by omega), he 3 (by omega), he 4 (by omega)]
    rfl
/-- The second edit, as it is made. -/
structure DS (W0 W : World) (QA Q8 : Nat) (c0 c1 c2 : Int) (gs : List (Int × Int)) (n : Nat) (gd : Option Addr) (gc : Nat) (cv : Array Value) (U : Nat → List Fl) (kd : Nat → Option Addr) (kl kc : Nat → Nat) : Prop where
  blk : W.heap[QA]? = some (.cells #[.int .i64 c0, .int .i64 c1, .int .u64 c2, .slice gd n gc, .slice none 0 0] 30 (0, 0))
  own : W.ownsRow W0.heap.size 59 2 (.slice gd n gc) gs.length (cellsD gs)
  hn : n = gs.length
  fr : Fr [] W0 W
  n8 : W.heap[Q8]? = some (.cells cv 26 (0, 0))
  ov : OwnV W0.heap.size W U kd kl kc
  ge : W0.heap.size ≤ QA
theorem OwnV.keep {B : Nat} {W W' : World} {U : Nat → List Fl} {kd : Nat → Option Addr} {kl kc : Nat → Nat} (h : OwnV B W U kd kl kc) (hk : ∀ k, k < W.heap.size → (∃ cs, W.heap[k]? = some (.cells cs 55 (0, 0))) ∨ (∃ cs, W.heap[k]? = some (.cells cs 5 (0, 0))) → W'.heap[k]? = W.heap[k]?) : OwnV B W' U kd kl kc := by
  obtain ⟨⟨Z, h1, h2, h3, h4⟩, h5, h6⟩ := h
  have ob : ∀ {e : TypeId} {s n : Nat} {v : Value} {xs : List Value}, (e = 55 ∨ e = 5) → W.ownsRow B e s v n xs → W'.ownsRow B e s v n xs := fun {e s n v xs} he o => ownsRow_of_block o fun b hb => by
    rcases o.2 with ⟨q1, _⟩ | ⟨g, cap, cur, q1, _, q3, _⟩
    · rw [q1] at hb; simp [Value.ownBlock] at hb
    · rw [q1] at hb
      simp [Value.ownBlock] at hb
      subst hb
      rcases he with rfl | rfl
      · exact hk _ (blk_lt q3) (.inl ⟨_, q3⟩)
      · exact hk _ (blk_lt q3) (.inr ⟨_, q3⟩)
  exact ⟨⟨Z, h1, h2, fun k hk' => ob (.inl rfl) (h3 k hk'), fun k hk' x hx => ⟨ob (.inr rfl) (h4 k hk' x hx).ol, ob (.inr rfl) (h4 k hk' x hx).om⟩⟩, h5, h6⟩
theorem DS.fr' {W0 W W' : World} {QA Q8 : Nat} {c0 c1 c2 : Int} {gs : List (Int × Int)} {n : Nat} {gd : Option Addr} {gc : Nat} {cv : Array Value} {U : Nat → List Fl} {kd : Nat → Option Addr} {kl kc : Nat → Nat} (h : DS W0 W QA Q8 c0 c1 c2 gs n gd gc cv U kd kl kc) (f : Fr [] W W') : DS W0 W' QA Q8 c0 c1 c2 gs n gd gc cv U kd kl kc :=
  ⟨f.at h.blk (by simp), ownsRow_fr h.own f, h.hn, h.fr.trans f, f.at h.n8 (by simp), h.ov.fr' f, h.ge⟩
theorem DS.app {W0 W W' : World} {QA Q8 : Nat} {c0 c1 c2 : Int} {gs : List (Int × Int)} {n : Nat} {gd : Option Addr} {gc : Nat} {cv : Array Value} {U : Nat → List Fl} {kd : Nat → Option Addr} {kl kc : Nat → Nat} (h : DS W0 W QA Q8 c0 c1 c2 gs n gd gc cv U kd kl kc) {g : Int × Int} {a' : Option Addr} {c' : Nat}
    (o : W'.ownsRow W0.heap.size 59 2 (.slice a' (n + 1) c') (gs ++ [g]).length (cellsD (gs ++ [g]))) (gr : W.grownBy W' (Value.slice gd n gc).ownBlock) :
    W'.heap[QA]? = some (.cells #[.int .i64 c0, .int .i64 c1, .int .u64 c2, .slice gd n gc, .slice none 0 0] 30 (0, 0)) ∧ Fr [] W0 W' ∧ DS W0 (W'.setCell ⟨QA, 3, none⟩ (.slice a' (n + 1) c')) QA Q8 c0 c1 c2 (gs ++ [g]) (n + 1) a' c' cv U kd kl kc := by
  have kb : ∀ {k : Nat} {cs : Array Value} {T : TypeId}, T ≠ 59 → W.heap[k]? = some (.cells cs T (0, 0)) → W'.heap[k]? = W.heap[k]? := fun {k cs T} hT hk => gr.block k (blk_lt hk) (fun e => own_not h.own hk hT e.symm)
  have hq : W'.heap[QA]? = some (.cells #[.int .i64 c0, .int .i64 c1, .int .u64 c2, .slice gd n gc, .slice none 0 0] 30 (0, 0)) := by rw [kb (by decide) h.blk]; exact h.blk
  have h8 : W'.heap[Q8]? = some (.cells cv 26 (0, 0)) := by rw [kb (by decide) h.n8]; exact h.n8
  have fw : Fr [] W0 W' := h.fr.grown gr (fun k e => by
    rcases h.own.2 with ⟨q1, _⟩ | ⟨g', cap, cur, q1, q2, q3, _⟩
    · rw [q1] at e; simp [Value.ownBlock] at e
    · rw [q1] at e; simp [Value.ownBlock] at e; subst e; exact .inr q2)
  have ne8 : Q8 ≠ QA := fun e => by rw [e, hq] at h8; simp at h8
  refine ⟨hq, fw, ⟨by rw [blk_set hq]; rfl, ?_, by rw [List.length_append, h.hn]; rfl, fw.set _ _ (.inr h.ge), by rw [blk_setne _ _ _ ne8]; exact h8, ?_, h.ge⟩⟩
  · exact ownsRow_of_block o fun k hk => blk_setne _ _ _ (fun e => by subst e; exact own_not o hq (by decide) hk)
  · have o1 : OwnV W0.heap.size W' U kd kl kc := h.ov.keep (fun k hk hc => by
      rcases hc with ⟨cs, hc⟩ | ⟨cs, hc⟩
      · exact kb (by decide) hc
      · exact kb (by decide) hc)
    refine o1.keep (fun k hk hc => blk_setne _ _ _ (fun e => ?_))
    subst e
    rcases hc with ⟨cs, hc⟩ | ⟨cs, hc⟩
    · rw [hq] at hc; simp at hc
    · rw [hq] at hc; simp at hc
set_option maxRecDepth 20000 in
set_option maxHeartbeats 6400000 in
theorem undoes_c (w : World) {v : Vn} {ad : Nat → Option Addr} {ln cp : Nat → Nat} {ps : List (Int × Fl)} {aa : Option Addr} {al ac : Nat} (hv : VAt w v.lv ad ln cp) (hal : al = ps.length) (ha : RdA w (.slice aa al ac) ps) (hlm : al ≤ 140737488355328) :
    Calls Try.prog 5 #[.agg #[.int .i64 v.log, .int .i64 v.next, .int .u64 (v.seq : Int), .slice (ad 0) (ln 0) (cp 0), .slice (ad 1) (ln 1) (cp 1), .slice (ad 2) (ln 2) (cp 2), .slice (ad 3) (ln 3) (cp 3), .slice (ad 4) (ln 4) (cp 4)], .slice aa al ac] w fun r w' => r = .returned (.bool true) ∧ Fr [] w w' := by
  obtain ⟨vl, hvl⟩ : ∃ x, x = v.log := ⟨_, rfl⟩
  obtain ⟨vn, hvn⟩ : ∃ x, x = v.next := ⟨_, rfl⟩
  obtain ⟨vs, hvs⟩ : ∃ x, x = v.seq := ⟨_, rfl⟩
  rw [← hvl, ← hvn, ← hvs]
  obtain ⟨W0, hW0⟩ : ∃ W0, W0 = w.alloc (.cells #[.int .i64 vl, .int .i64 vn, .int .u64 (vs : Int), .slice (ad 0) (ln 0) (cp 0), .slice (ad 1) (ln 1) (cp 1), .slice (ad 2) (ln 2) (cp 2), .slice (ad 3) (ln 3) (cp 3), .slice (ad 4) (ln 4) (cp 4)] 26) := ⟨_, rfl⟩
  have F0 : Hid (Fr [] w W0) := hid (by rw [hW0]; exact (Fr.refl _ _).alloc _)
  have N0 : Hid (W0.heap[w.heap.size]? = some (.cells #[.int .i64 vl, .int .i64 vn, .int .u64 (vs : Int), .slice (ad 0) (ln 0) (cp 0), .slice (ad 1) (ln 1) (cp 1), .slice (ad 2) (ln 2) (cp 2), .slice (ad 3) (ln 3) (cp 3), .slice (ad 4) (ln 4) (cp 4)] 26 (0, 0))) := hid (by rw [hW0]; exact blk_new _ _)
  have KN : Hid (∀ W, _) := hid (fun W => known9_c W)
  have SMC : Hid (∀ W, _) := hid (fun W => small_c W vl vn vs ad ln cp hv.small)
  have HV := hid (hv.fr F0.out)
  have HA := hid (ha.fr F0.out)
  have HAL := hid hal
  have HVE := hid (And.intro hvl (And.intro hvn hvs))
  have CV : Hid (∀ W, Fr [] W0 W → _) := hid (fun W f => vn_cells (f.at N0.out (by simp)))
  clear hv ha hal hvl hvn hvs
  go_enter Try.func5, Try.ntmps5
  go_upto_region 1 with fail
  rw [← hW0]
  clear hW0
  go_upto_region 3 with (go_at_call 6; refine (KN.out _).mono ?_; rintro r W1 ⟨rfl, f1⟩; have F1 := hid f1; clear f1)
  clear KN
  obtain ⟨z0, z1, z2, z3, z4, z5, z6, z7⟩ := CV.out W1 F1.out
  by_cases hs : smallV ln
  · have SM1 : Hid (Calls Try.prog 8 #[.agg #[.int .i64 vl, .int .i64 vn, .int .u64 (vs : Int), .slice (ad 0) (ln 0) (cp 0), .slice (ad 1) (ln 1) (cp 1), .slice (ad 2) (ln 2) (cp 2), .slice (ad 3) (ln 3) (cp 3), .slice (ad 4) (ln 4) (cp 4)]] W1 fun r w' => r = .returned (.bool true) ∧ Fr [] W1 w') := hid ((SMC.out W1).mono fun r w' h => by obtain ⟨bb, h1, h2⟩ := h.out; rw [h2.2 hs] at h1; exact ⟨h1, h.fr⟩)
    have HS := hid hs
    clear SMC hs
    by_cases h12 : al ≤ 12
    · have h12' : ¬ (12 : Int) < (al : Int) := by omega
      go_upto_region 5 with (go_at_call 8; refine SM1.out.mono ?_; rintro r W2 ⟨rfl, f2⟩; have F2 := hid (F1.out.trans f2); clear f2)
      clear z0 z1 z2 z3 z4 z5 z6 z7 SM1 F1
      obtain ⟨z0, z1, z2, z3, z4, z5, z6, z7⟩ := CV.out W2 F2.out
      obtain ⟨Q6, hQ6⟩ : ∃ Q6, Q6 = W2.heap.size := ⟨_, rfl⟩
      obtain ⟨W6, hW6⟩ : ∃ W6, W6 = W2.alloc (.cells #[.int .i64 vl, .int .i64 0, .int .u64 (vs : Int), .slice none 0 0, .slice aa al ac] 30) := ⟨_, rfl⟩
      have F6 : Hid (Fr [] W0 W6) := hid (by rw [hW6]; exact F2.out.alloc _)
      have N6 : Hid (W6.heap[Q6]? = some (.cells #[.int .i64 vl, .int .i64 0, .int .u64 (vs : Int), .slice none 0 0, .slice aa al ac] 30 (0, 0))) := hid (by rw [hW6, hQ6]; exact blk_new _ _)
      have hg6 : W0.heap.size ≤ Q6 := by rw [hQ6]; exact F2.out.size
      go_upto_region 7 with fail
      rw [← hW6, ← hQ6]
      clear hW6 hQ6 z0 z1 z2 z3 z4 z5 z6 z7 F2
      go_wp2_with fail
      go_loopw [5, 7] (fun v5 v7 wr => ∃ (i : Nat) (n : Int), i ≤ al ∧ v5 = .int .i64 n ∧ v7 = .int .i64 (i : Int) ∧ wr = W6) (fun _ v7 _ => al - (intOf v7).toNat)
      case atStart => exact ⟨0, vn, by omega, rfl, rfl, rfl⟩
      case round =>
        obtain ⟨i, nx, hi, rfl, rfl, hwr⟩ := hrel
        subst hwr
        by_cases hlt : i < al
        · have hlt' : (i : Int) < (al : Int) := by omega
          obtain ⟨p, hp⟩ : ∃ p, ps[i]? = some p := ⟨_, List.getElem?_eq_getElem (by rw [← HAL.out]; exact hlt)⟩
          obtain ⟨a', c', e', k1⟩ := HA.out
          simp only [Value.slice.injEq] at e'
          obtain ⟨rfl, hxx, rfl⟩ := e'
          clear hxx
          obtain ⟨b, off, rfl, m1⟩ := k1 (by rw [← HAL.out]; omega)
          obtain ⟨_, la, lc, ma, mc, k2⟩ := m1 i p hp
          have x0 := cell_fr F6.out k2.c0
          clear k1 k2 m1 hp
          generalize p.2.num = pn at *
          go_wp2_with fail
          go_roundw
          case rel => exact ⟨i + 1, _, by omega, rfl, by go_num, trivial⟩
          case measure => simp [intOf]; omega
        · have hge : ¬ (i : Int) < (al : Int) := by omega
          clear hlt hi
          obtain ⟨W7, hW7⟩ : ∃ W7, W7 = wr.setCell ⟨Q6, 1, none⟩ (.int .i64 nx) := ⟨_, rfl⟩
          have F7 : Hid (Fr [] W0 W7) := hid (by rw [hW7]; exact F6.out.set _ _ (.inr hg6))
          have N7 : Hid (W7.heap[Q6]? = some (.cells #[.int .i64 vl, .int .i64 nx, .int .u64 (vs : Int), .slice none 0 0, .slice aa al ac] 30 (0, 0))) := hid (by rw [hW7, blk_set N6.out]; rfl)
          have AP1 : Hid (Calls Try.prog 9 #[.agg #[.int .i64 vl, .int .i64 vn, .int .u64 (vs : Int), .slice (ad 0) (ln 0) (cp 0), .slice (ad 1) (ln 1) (cp 1), .slice (ad 2) (ln 2) (cp 2), .slice (ad 3) (ln 3) (cp 3), .slice (ad 4) (ln 4) (cp 4)], .agg #[.int .i64 vl, .int .i64 nx, .int .u64 (vs : Int), .slice none 0 0, .slice aa al ac]] W7 fun r w' => AOut W7 w' v (addE v nx ps) r) := hid (by
            have hl500 : ∀ i, i < 5 → ln i ≤ 500 := fun i hi => by have := HS.out i hi; omega
            have hps : ps.length ≤ 500 := by rw [← HAL.out]; omega
            have hra := HA.out.fr F7.out
            rw [HVE.out.1, HVE.out.2.1, HVE.out.2.2]
            rw [HAL.out] at hra ⊢
            exact apply_c W7 (v := v) (e := addE v nx ps) (HV.out.fr F7.out) ⟨⟨none, 0, rfl, fun h => by simp [addE] at h⟩, hra, by simp [addE], by show ps.length ≤ _; omega⟩ hl500 (by simp [addE]) hps)
          have y := (ed5_cells N6.out).2.1
          have yf := blk_frozen N6.out 1
          go_upto_region 12 with fail
          rw [← hW7]
          clear hW7 F6 N6 y yf
          obtain ⟨z0, z1, z2, z3, z4, z5, z6, z7⟩ := CV.out W7 F7.out
          obtain ⟨y0, y1, y2, y3, y4⟩ := ed5_cells N7.out
          go_upto_region 13 with (go_at_call 9; refine AP1.out.mono ?_; intro r W8 hg; obtain ⟨a0, a1, a2, kd, kl, kc, c, rfl, gf⟩ := hg.form; have GF := hid gf; clear hg gf)
          clear z0 z1 z2 z3 z4 z5 z6 z7 y0 y1 y2 y3 y4 AP1 N7
          obtain ⟨Q8, hQ8⟩ : ∃ Q8, Q8 = W8.heap.size := ⟨_, rfl⟩
          obtain ⟨W9, hW9⟩ : ∃ W9, W9 = W8.alloc (.cells #[.int .i64 a0, .int .i64 a1, .int .u64 a2, .slice (kd 0) (kl 0) (kc 0), .slice (kd 1) (kl 1) (kc 1), .slice (kd 2) (kl 2) (kc 2), .slice (kd 3) (kl 3) (kc 3), .slice (kd 4) (kl 4) (kc 4)] 26) := ⟨_, rfl⟩
          have f9 : Fr [] W8 W9 := by rw [hW9]; exact (Fr.refl _ _).alloc _
          have F9 : Hid (Fr [] W0 W9) := hid ((F7.out.trans GF.out.fr).trans f9)
          have N9 : Hid (W9.heap[Q8]? = some (.cells #[.int .i64 a0, .int .i64 a1, .int .u64 a2, .slice (kd 0) (kl 0) (kc 0), .slice (kd 1) (kl 1) (kc 1), .slice (kd 2) (kl 2) (kc 2), .slice (kd 3) (kl 3) (kc 3), .slice (kd 4) (kl 4) (kc 4)] 26 (0, 0))) := hid (by rw [hW9, hQ8]; exact blk_new _ _)
          rw [← hW9, ← hQ8]
          clear hW9 hQ8
          have ff9 := hid f9
          clear f9
          rcases GF.out.out with hc | ⟨hc, U, ⟨ha0, ha1, ha2⟩, hg1, hg2, hg3, hg4⟩
          · have hc1 : (c == 0) = false := by simpa using hc
            clear hc
            go_wp2_with fail
            go_ret
            exact ⟨rfl, F0.out.trans F9.out⟩
          · subst hc
            have HU : Hid (Undo v nx ps U) := hid ⟨hg1, hg2, hg3⟩
            have hvl : a0 = vl := by rw [ha0, HVE.out.1]; rfl
            have hvx : a1 = nx := ha1
            have hvs : a2 = (vs : Int) := by rw [ha2, HVE.out.2.2]; rfl
            subst hvl
            subst hvx
            subst hvs
            have OV9 : Hid (OwnV W0.heap.size W9 U kd kl kc) := hid ((hg4.base F7.out.size).fr' ff9.out)
            clear ha0 ha1 ha2 hg1 hg2 hg3 hg4 ff9 GF
            obtain ⟨QA, hQA⟩ : ∃ QA, QA = W9.heap.size := ⟨_, rfl⟩
            obtain ⟨WA, hWA⟩ : ∃ WA, WA = W9.alloc (.cells #[.int .i64 a0, .int .i64 a1, .int .u64 (vs : Int), .slice none 0 0, .slice none 0 0] 30) := ⟨_, rfl⟩
            have fA : Fr [] W9 WA := by rw [hWA]; exact (Fr.refl _ _).alloc _
            have DA : Hid (DS W0 WA QA Q8 a0 a1 (vs : Int) ((dropsOf ps).take 0) 0 none 0 #[.int .i64 a0, .int .i64 a1, .int .u64 (vs : Int), .slice (kd 0) (kl 0) (kc 0), .slice (kd 1) (kl 1) (kc 1), .slice (kd 2) (kl 2) (kc 2), .slice (kd 3) (kl 3) (kc 3), .slice (kd 4) (kl 4) (kc 4)] U kd kl kc) := hid ⟨by rw [hWA, hQA]; exact blk_new _ _, World.ownsRow_nil _ _ _ _, rfl, F9.out.trans fA, fA.at N9.out (by simp), OV9.out.fr' fA, by rw [hQA]; exact F9.out.size⟩
            obtain ⟨z0, z1, z2, z3, z4, z5, z6, z7⟩ := vn_cells N9.out
            go_upto_region 16 with fail
            rw [← hWA, ← hQA]
            clear hWA hQA z0 z1 z2 z3 z4 z5 z6 z7 fA F7 N9 OV9 F9
            go_wp2_with fail
            go_loopw [11] (fun v11 wr => ∃ (j : Nat) (gd : Option Addr) (gc : Nat), j ≤ al ∧ v11 = .int .i64 (j : Int) ∧ DS W0 wr QA Q8 a0 a1 (vs : Int) ((dropsOf ps).take j) j gd gc #[.int .i64 a0, .int .i64 a1, .int .u64 (vs : Int), .slice (kd 0) (kl 0) (kc 0), .slice (kd 1) (kl 1) (kc 1), .slice (kd 2) (kl 2) (kc 2), .slice (kd 3) (kl 3) (kc 3), .slice (kd 4) (kl 4) (kc 4)] U kd kl kc) (fun v11 _ => al - (intOf v11).toNat)
            case atStart => exact ⟨0, none, 0, by omega, rfl, DA.out⟩
            case round =>
              obtain ⟨j, gd, gc, hj, rfl, hds⟩ := hrel
              have D8 := hid hds
              clear hds DA
              by_cases hlt : j < al
              · have hlt' : (j : Int) < (al : Int) := by omega
                obtain ⟨p, hp⟩ : ∃ p, ps[j]? = some p := ⟨_, List.getElem?_eq_getElem (by rw [← HAL.out]; exact hlt)⟩
                obtain ⟨a', c', e', k1⟩ := HA.out
                simp only [Value.slice.injEq] at e'
                obtain ⟨rfl, hxx, rfl⟩ := e'
                clear hxx
                obtain ⟨b, off, rfl, m1⟩ := k1 (by rw [← HAL.out]; omega)
                obtain ⟨k2, la, lc, ma, mc, k3⟩ := m1 j p hp
                have SK : Hid (∀ W', Fr [] W0 W' → W'.cell? ⟨b, off + j * 5, none⟩ = some (.int .i64 p.1) ∧ W'.cell? ⟨b, off + j * 5 + 1, none⟩ = some (.int .i64 p.2.num)) := hid (fun W' f => ⟨cell_fr f k2, cell_fr f k3.c0⟩)
                obtain ⟨Gs, hGs⟩ : ∃ Gs, Gs = (dropsOf ps).take j := ⟨_, rfl⟩
                have HGE : Hid ((dropsOf ps).take (j + 1) = Gs ++ [(p.1, p.2.num)]) := hid (by rw [hGs, List.take_add_one]; unfold dropsOf; rw [List.getElem?_map, hp]; rfl)
                rw [← hGs] at D8
                have HGN : Hid (j = Gs.length) := hid D8.out.hn
                clear k1 k2 k3 m1 hp hGs
                obtain ⟨p1, hp1⟩ : ∃ p1, p1 = p.1 := ⟨_, rfl⟩
                obtain ⟨p2, hp2⟩ : ∃ p2, p2 = p.2.num := ⟨_, rfl⟩
                rw [← hp1, ← hp2] at SK HGE
                clear hp1 hp2
                go_upto_region 19 with fail
                obtain ⟨W8', hW8'⟩ : ∃ W8', W8' = wr := ⟨_, rfl⟩
                have dD : DS W0 wr.drew QA Q8 a0 a1 (vs : Int) Gs j gd gc #[.int .i64 a0, .int .i64 a1, .int .u64 (vs : Int), .slice (kd 0) (kl 0) (kc 0), .slice (kd 1) (kl 1) (kc 1), .slice (kd 2) (kl 2) (kc 2), .slice (kd 3) (kl 3) (kc 3), .slice (kd 4) (kl 4) (kc 4)] U kd kl kc := D8.out.fr' (Fr.refl _ _).drew
                have DB : Hid (DS W0 (wr.drew.alloc (.cells #[.int .i64 p1, .int .i64 p2] 59)) QA Q8 a0 a1 (vs : Int) Gs j gd gc #[.int .i64 a0, .int .i64 a1, .int .u64 (vs : Int), .slice (kd 0) (kl 0) (kc 0), .slice (kd 1) (kl 1) (kc 1), .slice (kd 2) (kl 2) (kc 2), .slice (kd 3) (kl 3) (kc 3), .slice (kd 4) (kl 4) (kc 4)] U kd kl kc) := hid (dD.fr' ((Fr.refl _ _).alloc _))
                have NG : Hid ((wr.drew.alloc (.cells #[.int .i64 p1, .int .i64 p2] 59)).heap[wr.heap.size]? = some (.cells #[.int .i64 p1, .int .i64 p2] 59 (0, 0))) := hid (new_at _ _ rfl)
                have OW : Hid ((wr.drew.alloc (.cells #[.int .i64 p1, .int .i64 p2] 59)).ownsRow W0.heap.size 59 2 (.slice gd j gc) Gs.length (cellsD Gs)) := hid DB.out.own
                have FS : Hid (W0.heap.size ≤ (wr.drew.alloc (.cells #[.int .i64 p1, .int .i64 p2] 59)).heap.size) := hid DB.out.fr.size
                have za : wr.drew.cell? ⟨QA, 3, none⟩ = some (.slice gd j gc) := (ed5_cells dD.blk).2.2.2.1
                have zb : (wr.alloc (.cells #[.int .i64 p1, .int .i64 p2] 59)).drew.cell? ⟨QA, 3, none⟩ = some (.slice gd j gc) := (ed5_cells DB.out.blk).2.2.2.1
                clear hW8' dD
                refine wp_region_held_drew (S := fun w' => Fr [] W0 w') (by kernel_rfl) D8.out.fr.drew (fun hS => ?_)
                refine wpAnyH_take (i := 0) (v := .pointer (some ⟨QA, 3, none⟩)) rfl (by kernel_rfl) (by kernel_rfl) (by kernel_rfl) (fun _ _ _ h => h) (.inl ⟨by rfl, fun wx _ => by go_simp⟩) hS ?_
                simp only [Act.put, List.getElem_toArray, List.getElem_cons_zero, List.set_cons_succ, List.set_cons_zero, List.setIfInBounds_toArray]
                refine wpAnyH_take (i := 2) (v := .slice (some ⟨b, off, none⟩) al ac) rfl (by kernel_rfl) (by kernel_rfl) (by kernel_rfl) (fun _ _ _ h => h) (.inl ⟨by rfl, fun wx _ => by go_simp⟩) hS ?_
                simp only [Act.put, List.getElem_toArray, List.getElem_cons_succ, List.getElem_cons_zero, List.set_cons_succ, List.set_cons_zero, List.setIfInBounds_toArray]
                refine wpAnyH_take (i := 3) (v := .int .i64 (j : Int)) rfl (by kernel_rfl) (by kernel_rfl) (by kernel_rfl) (fun _ _ _ h => h) (.inl ⟨by rfl, fun wx _ => by go_simp⟩) hS ?_
                simp only [Act.put, List.getElem_toArray, List.getElem_cons_succ, List.getElem_cons_zero, List.set_cons_succ, List.set_cons_zero, List.setIfInBounds_toArray]
                refine wpAnyH_take (i := 4) (v := .pointer (some ⟨b, off + j * 5, none⟩)) rfl (by kernel_rfl) (by kernel_rfl) (by kernel_rfl) (fun _ _ _ h => h) (.inl ⟨by rfl, fun wx _ => by go_simp⟩) hS ?_
                simp only [Act.put, List.getElem_toArray, List.getElem_cons_succ, List.getElem_cons_zero, List.set_cons_succ, List.set_cons_zero, List.setIfInBounds_toArray]
                refine wpAnyH_take (i := 5) (v := .pointer (some ⟨b, off + j * 5, none⟩)) rfl (by kernel_rfl) (by kernel_rfl) (by kernel_rfl) (fun _ _ _ h => h) (.inl ⟨by rfl, fun wx _ => by go_simp⟩) hS ?_
                simp only [Act.put, List.getElem_toArray, List.getElem_cons_succ, List.getElem_cons_zero, List.set_cons_succ, List.set_cons_zero, List.setIfInBounds_toArray]
                refine wpAnyH_take (i := 6) (v := .int .i64 p1) rfl (by kernel_rfl) (by kernel_rfl) (by kernel_rfl) (fun _ _ _ h => h) (.inl ⟨by rfl, fun wx hX => by obtain ⟨s0, s1⟩ := SK.out wx hX; go_simp⟩) hS ?_
                simp only [Act.put, List.getElem_toArray, List.getElem_cons_succ, List.getElem_cons_zero, List.set_cons_succ, List.set_cons_zero, List.setIfInBounds_toArray]
                refine wpAnyH_take (i := 7) (v := .slice (some ⟨b, off, none⟩) al ac) rfl (by kernel_rfl) (by kernel_rfl) (by kernel_rfl) (fun _ _ _ h => h) (.inl ⟨by rfl, fun wx _ => by go_simp⟩) hS ?_
                simp only [Act.put, List.getElem_toArray, List.getElem_cons_succ, List.getElem_cons_zero, List.set_cons_succ, List.set_cons_zero, List.setIfInBounds_toArray]
                refine wpAnyH_take (i := 8) (v := .int .i64 (j : Int)) rfl (by kernel_rfl) (by kernel_rfl) (by kernel_rfl) (fun _ _ _ h => h) (.inl ⟨by rfl, fun wx _ => by go_simp⟩) hS ?_
                simp only [Act.put, List.getElem_toArray, List.getElem_cons_succ, List.getElem_cons_zero, List.set_cons_succ, List.set_cons_zero, List.setIfInBounds_toArray]
                refine wpAnyH_take (i := 9) (v := .pointer (some ⟨b, off + j * 5, none⟩)) rfl (by kernel_rfl) (by kernel_rfl) (by kernel_rfl) (fun _ _ _ h => h) (.inl ⟨by rfl, fun wx _ => by go_simp⟩) hS ?_
                simp only [Act.put, List.getElem_toArray, List.getElem_cons_succ, List.getElem_cons_zero, List.set_cons_succ, List.set_cons_zero, List.setIfInBounds_toArray]
                refine wpAnyH_take (i := 10) (v := .pointer (some ⟨b, off + j * 5 + 1, none⟩)) rfl (by kernel_rfl) (by kernel_rfl) (by kernel_rfl) (fun _ _ _ h => h) (.inl ⟨by rfl, fun wx _ => by go_simp⟩) hS ?_
                simp only [Act.put, List.getElem_toArray, List.getElem_cons_succ, List.getElem_cons_zero, List.set_cons_succ, List.set_cons_zero, List.setIfInBounds_toArray]
                refine wpAnyH_take (i := 11) (v := .pointer (some ⟨b, off + j * 5 + 1, none⟩)) rfl (by kernel_rfl) (by kernel_rfl) (by kernel_rfl) (fun _ _ _ h => h) (.inl ⟨by rfl, fun wx _ => by go_simp⟩) hS ?_
                simp only [Act.put, List.getElem_toArray, List.getElem_cons_succ, List.getElem_cons_zero, List.set_cons_succ, List.set_cons_zero, List.setIfInBounds_toArray]
                refine wpAnyH_take (i := 12) (v := .int .i64 p2) rfl (by kernel_rfl) (by kernel_rfl) (by kernel_rfl) (fun _ _ _ h => h) (.inl ⟨by rfl, fun wx hX => by obtain ⟨s0, s1⟩ := SK.out wx hX; go_simp⟩) hS ?_
                simp only [Act.put, List.getElem_toArray, List.getElem_cons_succ, List.getElem_cons_zero, List.set_cons_succ, List.set_cons_zero, List.setIfInBounds_toArray]
                refine wpAnyH_take (i := 13) (v := .agg #[.int .i64 p1, .int .i64 p2]) rfl (by kernel_rfl) (by kernel_rfl) (by kernel_rfl) (fun _ _ _ h => h) (.inl ⟨by rfl, fun wx _ => by go_simp⟩) hS ?_
                simp only [Act.put, List.getElem_toArray, List.getElem_cons_succ, List.getElem_cons_zero, List.set_cons_succ, List.set_cons_zero, List.setIfInBounds_toArray]
                clear hS
                refine wpAnyH_ready (rs := [1, 14]) (by kernel_rfl) (by simp) ?_
                refine AllReadyH.cons rfl (fun K hK => ?_) (AllReadyH.cons rfl (fun K hK => ?_) AllReadyH.nil)
                · go_simp
                  refine hK.out _ _ D8.out.fr.drew (fun _ => ?_)
                  clear hK K
                  refine wpAnyH_ready (rs := [14]) (by kernel_rfl) (by simp) ?_
                  refine AllReadyH.cons rfl (fun K hK => ?_) AllReadyH.nil
                  refine step_buildG rfl (.tmp 82) rfl (g1 := p1) (g2 := p2) (by first | (simp [Act.eval]; done) | simp [Act.eval, Act.put]) ?_
                  refine hK.out _ _ DB.out.fr (fun _ => ?_)
                  clear hK K
                  refine wpAnyH_ready (rs := [15]) (by kernel_rfl) (by simp) ?_
                  refine AllReadyH.cons rfl (fun K hK => ?_) AllReadyH.nil
                  refine step_appG rfl (.tmp 70) (.tmp 83) rfl W0.heap.size (ad := gd) (n := j) (c := gc) (gs := Gs) HGN.out (by first | (simp [Act.eval]; done) | simp [Act.eval, Act.put]) OW.out (G := wr.heap.size) (by first | (simp [Act.eval]; done) | simp [Act.eval, Act.put]) (g1 := p1) (g2 := p2) NG.out (by omega) FS.out ?_
                  intro a6 c6 w6 o6 g6
                  have AP := hid (DB.out.app o6 g6)
                  refine hK.out _ _ AP.out.2.1 (fun _ => ?_)
                  clear hK K o6 g6
                  have kf := blk_frozen AP.out.1 3
                  have kq := (ed5_cells AP.out.1).2.2.2.1
                  refine wpAnyH_ready (rs := [16]) (by kernel_rfl) (by simp) ?_
                  refine AllReadyH.cons rfl (fun K hK => ?_) AllReadyH.nil
                  go_simp
                  refine hK.out _ _ AP.out.2.1 (fun _ => ?_)
                  clear hK K
                  refine wpAnyH_ready (rs := [17]) (by kernel_rfl) (by simp) ?_
                  refine AllReadyH.cons rfl (fun K hK => ?_) AllReadyH.nil
                  go_simp
                  refine hK.out _ _ AP.out.2.2.fr (fun _ => ?_)
                  clear hK K
                  refine wpAnyH_done (by kernel_rfl) ?_ _
                  go_wp2_with fail
                  go_roundw
                  case rel => exact ⟨j + 1, _, _, by omega, by go_num, by rw [HGE.out]; exact AP.out.2.2⟩
                  case measure => simp [intOf]; omega
                · refine step_buildG rfl (.tmp 82) rfl (g1 := p1) (g2 := p2) (by first | (simp [Act.eval]; done) | simp [Act.eval, Act.put]) ?_
                  refine hK.out _ _ DB.out.fr (fun _ => ?_)
                  clear hK K
                  refine wpAnyH_ready (rs := [1]) (by kernel_rfl) (by simp) ?_
                  refine AllReadyH.cons rfl (fun K hK => ?_) AllReadyH.nil
                  go_simp
                  refine hK.out _ _ DB.out.fr (fun _ => ?_)
                  clear hK K
                  refine wpAnyH_ready (rs := [15]) (by kernel_rfl) (by simp) ?_
                  refine AllReadyH.cons rfl (fun K hK => ?_) AllReadyH.nil
                  refine step_appG rfl (.tmp 70) (.tmp 83) rfl W0.heap.size (ad := gd) (n := j) (c := gc) (gs := Gs) HGN.out (by first | (simp [Act.eval]; done) | simp [Act.eval, Act.put]) OW.out (G := wr.heap.size) (by first | (simp [Act.eval]; done) | simp [Act.eval, Act.put]) (g1 := p1) (g2 := p2) NG.out (by omega) FS.out ?_
                  intro a6 c6 w6 o6 g6
                  have AP := hid (DB.out.app o6 g6)
                  refine hK.out _ _ AP.out.2.1 (fun _ => ?_)
                  clear hK K o6 g6
                  have kf := blk_frozen AP.out.1 3
                  have kq := (ed5_cells AP.out.1).2.2.2.1
                  refine wpAnyH_ready (rs := [16]) (by kernel_rfl) (by simp) ?_
                  refine AllReadyH.cons rfl (fun K hK => ?_) AllReadyH.nil
                  go_simp
                  refine hK.out _ _ AP.out.2.1 (fun _ => ?_)
                  clear hK K
                  refine wpAnyH_ready (rs := [17]) (by kernel_rfl) (by simp) ?_
                  refine AllReadyH.cons rfl (fun K hK => ?_) AllReadyH.nil
                  go_simp
                  refine hK.out _ _ AP.out.2.2.fr (fun _ => ?_)
                  clear hK K
                  refine wpAnyH_done (by kernel_rfl) ?_ _
                  go_wp2_with fail
                  go_roundw
                  case rel => exact ⟨j + 1, _, _, by omega, by go_num, by rw [HGE.out]; exact AP.out.2.2⟩
                  case measure => simp [intOf]; omega
              · have hjn : j = al := by omega
                subst hjn
                have hge : ¬ (j : Int) < (j : Int) := by omega
                have hgl : (dropsOf ps).length = j := by unfold dropsOf; rw [List.length_map, HAL.out]
                rw [← hgl, List.take_length, hgl] at D8
                have HGL := hid hgl
                clear hgl
                have AP2 : Hid (Calls Try.prog 9 #[.agg #[.int .i64 a0, .int .i64 a1, .int .u64 (vs : Int), .slice (kd 0) (kl 0) (kc 0), .slice (kd 1) (kl 1) (kc 1), .slice (kd 2) (kl 2) (kc 2), .slice (kd 3) (kl 3) (kc 3), .slice (kd 4) (kl 4) (kc 4)], .agg #[.int .i64 a0, .int .i64 a1, .int .u64 (vs : Int), .slice gd j gc, .slice none 0 0]] wr fun r w' => A2Out wr w' a0 a1 vs v.lv ln r) := hid (by
                  have hkl : ∀ i, i < 5 → kl i ≤ 500 := fun i hi => by
                    have q1 := D8.out.ov.vat.len i hi
                    have q2 := (HU.out.perm hi).length_eq
                    rw [List.length_append] at q2
                    have q3 := HS.out i hi
                    have q4 := HV.out.len i hi
                    have q5 : (addF ps i).length ≤ ps.length := by unfold addF; rw [List.length_map]; exact List.length_filter_le _ _
                    have q6 := HAL.out
                    omega
                  have hd := DO.rd (show DO wr W0.heap.size (.slice gd j gc) (dropsOf ps) from D8.out.own)
                  have h0 : a0 = v.log := HVE.out.1
                  have h2 : vs = v.seq := HVE.out.2.2
                  have ap := apply_c wr (v := ⟨v.log, a1, v.seq, U⟩) (e := dropE v a1 ps) (da := gd) (dc := gc) (aa := none) (ac := 0) D8.out.ov.vat ⟨by show RdD wr (.slice gd (dropsOf ps).length gc) (dropsOf ps); rw [HGL.out]; exact hd, ⟨none, 0, rfl, fun h => by simp [dropE] at h⟩, by show (dropsOf ps).length ≤ _; rw [HGL.out]; omega, by simp [dropE]⟩ hkl (by show (dropsOf ps).length ≤ _; rw [HGL.out]; omega) (by simp [dropE])
                  rw [h0, h2]
                  rw [show j = (dropE v a1 ps).drop.length from HGL.out.symm]
                  exact ap.mono fun r w' h => h.undo HU.out HV.out.len)
                obtain ⟨z0, z1, z2, z3, z4, z5, z6, z7⟩ := vn_cells D8.out.n8
                obtain ⟨y0, y1, y2, y3, y4⟩ := ed5_cells D8.out.blk
                go_upto_region 21 with (go_at_call 9; refine AP2.out.mono ?_; intro r WB hg; obtain ⟨fB, kd2, kc2, rfl, vB⟩ := hg; have FB := hid (D8.out.fr.trans fB); have VB := hid vB; clear fB vB)
                clear z0 z1 z2 z3 z4 z5 z6 z7 y0 y1 y2 y3 y4 AP2
                obtain ⟨QC, hQC⟩ : ∃ QC, QC = WB.heap.size := ⟨_, rfl⟩
                obtain ⟨WC, hWC⟩ : ∃ WC, WC = WB.alloc (.cells #[.int .i64 a0, .int .i64 vn, .int .u64 (vs : Int), .slice (kd2 0) (ln 0) (kc2 0), .slice (kd2 1) (ln 1) (kc2 1), .slice (kd2 2) (ln 2) (kc2 2), .slice (kd2 3) (ln 3) (kc2 3), .slice (kd2 4) (ln 4) (kc2 4)] 26) := ⟨_, rfl⟩
                have fC : Fr [] WB WC := by rw [hWC]; exact (Fr.refl _ _).alloc _
                have NC : Hid (WC.heap[QC]? = some (.cells #[.int .i64 a0, .int .i64 vn, .int .u64 (vs : Int), .slice (kd2 0) (ln 0) (kc2 0), .slice (kd2 1) (ln 1) (kc2 1), .slice (kd2 2) (ln 2) (kc2 2), .slice (kd2 3) (ln 3) (kc2 3), .slice (kd2 4) (ln 4) (kc2 4)] 26 (0, 0))) := hid (by rw [hWC, hQC]; exact blk_new _ _)
                have VC := hid (version_c WC a0 vn vs (VB.out.fr fC) ((HV.out.fr FB.out).fr fC))
                have FC := hid (FB.out.trans fC)
                obtain ⟨z0, z1, z2, z3, z4, z5, z6, z7⟩ := CV.out _ (FB.out.alloc (.cells #[.int .i64 a0, .int .i64 a1, .int .u64 (vs : Int), .slice (kd2 0) (ln 0) (kc2 0), .slice (kd2 1) (ln 1) (kc2 1), .slice (kd2 2) (ln 2) (kc2 2), .slice (kd2 3) (ln 3) (kc2 3), .slice (kd2 4) (ln 4) (kc2 4)] 26))
                go_upto_region 22 with fail
                rw [← hWC, ← hQC]
                clear hWC hQC fC z0 z1 z2 z3 z4 z5 z6 z7
                obtain ⟨z0, z1, z2, z3, z4, z5, z6, z7⟩ := CV.out WC FC.out
                obtain ⟨y0, y1, y2, y3, y4, y5, y6, y7⟩ := vn_cells NC.out
                go_wp2_with (go_at_call 13; refine VC.out.mono ?_; rintro r WD ⟨rfl, fD⟩; have FD := hid fD; clear fD)
                go_ret
                exact ⟨rfl, (F0.out.trans FC.out).trans FD.out⟩
    · have h12' : (12 : Int) < (al : Int) := by omega
      go_wp2_with (go_at_call 8; refine SM1.out.mono ?_; rintro r W2 ⟨rfl, f2⟩; have F2 := hid (F1.out.trans f2); clear f2)
      go_ret
      exact ⟨rfl, F0.out.trans F2.out⟩
  · have SM1 : Hid (Calls Try.prog 8 #[.agg #[.int .i64 vl, .int .i64 vn, .int .u64 (vs : Int), .slice (ad 0) (ln 0) (cp 0), .slice (ad 1) (ln 1) (cp 1), .slice (ad 2) (ln 2) (cp 2), .slice (ad 3) (ln 3) (cp 3), .slice (ad 4) (ln 4) (cp 4)]] W1 fun r w' => r = .returned (.bool false) ∧ Fr [] W1 w') := hid ((SMC.out W1).mono fun r w' h => by
      obtain ⟨bb, h1, h2⟩ := h.out
      have hb : bb = false := by rw [Bool.eq_false_iff]; exact fun hb => hs (h2.1 hb)
      rw [hb] at h1
      exact ⟨h1, h.fr⟩)
    clear SMC hs
    go_wp2_with (go_at_call 8; refine SM1.out.mono ?_; rintro r W2 ⟨rfl, f2⟩; have F2 := hid (F1.out.trans f2); clear f2)
    go_ret
    exact ⟨rfl, F0.out.trans F2.out⟩
end Go.Proofs.Ytckdcaegnbgomaa
