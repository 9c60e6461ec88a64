/-
  The tables that aren't dropped.
-/
import Derived.Test.YtegbngbhmgbocaaGreatDoorVH
import Derived.Deep.CutRange
namespace Go.Proofs.YtegbngbhmgbocaaGreatDoor
open Go.ChangeShapes Go.WideShapes Go.ChangeAt Go.RowKit

theorem SetB.look2 {α : Type} {enc : α → Value} {kt mt et : TypeId} (K : KeyOk kt enc) (ht : Tryz.prog.underlying mt = some (.map kt et)) (hz : ∀ w, (zeroValue et).run Tryz.prog w = .ok (.agg #[]) w) {w : World} {m : Nat} {ks : List α} (h : SetB enc w m ks) (x : α) {bb : Bool} (hb : bb = true ↔ x ∈ ks) :
    (Instr.lookup mt (.map (some m)) (enc x) true).run Tryz.prog w = .ok (.tuple #[.agg #[], .bool bb]) w := by
  haveI : DecidableEq α := fun a b => Classical.propDecidable (a = b)
  have h1 := h.look K ht hz x
  have e : decide (x ∈ ks) = bb := by
    rw [Bool.eq_iff_iff, hb, decide_eq_true_eq]
  rw [e] at h1
  exact h1
/-- A version's lists in memory, with the places of their keys. -/
structure VXt (w : World) (X : Nat → List Fx) (ad : Nat → Option Addr) (ln cp : Nat → Nat) : Prop where
  len : ∀ i, i < 5 → ln i = (X i).length
  rd : ∀ i, i < 5 → 0 < ln i → ∃ b off, ad i = some ⟨b, off, none⟩ ∧ ∀ (j : Nat) (x : Fx), (X i)[j]? = some x → FAt w b (off + j * 4) x.f x.la x.lc x.ma x.mc
theorem VXt.fr {w w' : World} {X : Nat → List Fx} {ad : Nat → Option Addr} {ln cp : Nat → Nat} (h : VXt w X ad ln cp) (f : Fr [] w w') : VXt w' X ad ln cp := by
  refine ⟨h.len, fun i hi h0 => ?_⟩
  obtain ⟨b, off, e, k⟩ := h.rd i hi h0
  exact ⟨b, off, e, fun j x hx => (k j x hx).fr f⟩
theorem choose_x {P : Nat → Fl → Option Addr → Nat → Option Addr → Nat → Prop} : ∀ (l : List Fl) (k : Nat), (∀ j f, l[j]? = some f → ∃ la lc ma mc, P (k + j) f la lc ma mc) → ∃ xs : List Fx, xs.map Fx.f = l ∧ ∀ j x, xs[j]? = some x → P (k + j) x.f x.la x.lc x.ma x.mc
  | [], _, _ => ⟨[], rfl, by simp⟩
  | f :: l, k, h => by
    obtain ⟨la, lc, ma, mc, p⟩ := h 0 f rfl
    obtain ⟨xs, h1, h2⟩ := choose_x (P := P) l (k + 1) (fun j g hj => by
      obtain ⟨a, b, c, d, q⟩ := h (j + 1) g (by simpa using hj)
      exact ⟨a, b, c, d, by rw [show k + 1 + j = k + (j + 1) from by omega]; exact q⟩)
    refine ⟨⟨f, la, lc, ma, mc⟩ :: xs, by simp [h1], fun j x hj => ?_⟩
    cases j with
    | zero => simp at hj; subst hj; exact p
    | succ j => rw [show k + (j + 1) = k + 1 + j from by omega]; exact h2 j x (by simpa using hj)
theorem VAt.vx {w : World} {L : Nat → List Fl} {ad : Nat → Option Addr} {ln cp : Nat → Nat} (h : VAt w L ad ln cp) : ∃ X : Nat → List Fx, (∀ i, i < 5 → (X i).map Fx.f = L i) ∧ VXt w X ad ln cp := by
  have h1 : ∀ i, i < 5 → ∃ xs : List Fx, xs.map Fx.f = L i ∧ (0 < ln i → ∃ b off, ad i = some ⟨b, off, none⟩ ∧ ∀ (j : Nat) (x : Fx), xs[j]? = some x → FAt w b (off + j * 4) x.f x.la x.lc x.ma x.mc) := by
    intro i hi
    rcases Nat.eq_zero_or_pos (ln i) with h0 | h0
    · have := h.len i hi
      rw [h0] at this
      have e := List.eq_nil_of_length_eq_zero this.symm
      exact ⟨[], by rw [e]; rfl, fun h2 => by omega⟩
    · obtain ⟨b, off, e, k⟩ := h.rd i hi h0
      obtain ⟨xs, a1, a2⟩ := choose_x (P := fun j f la lc ma mc => FAt w b (off + j * 4) f la lc ma mc) (L i) 0 (fun j f hj => by rw [Nat.zero_add]; exact k j f hj)
      exact ⟨xs, a1, fun _ => ⟨b, off, e, fun j x hx => by have := a2 j x hx; rw [Nat.zero_add] at this; exact this⟩⟩
  refine ⟨fun i => if hi : i < 5 then (h1 i hi).choose else [], fun i hi => ?_, fun i hi => ?_, fun i hi h0 => ?_⟩
  · simp only [hi, dif_pos]; exact (h1 i hi).choose_spec.1
  · simp only [hi, dif_pos]
    have e := congrArg List.length (h1 i hi).choose_spec.1
    rw [List.length_map] at e
    exact (h.len i hi).trans e.symm
  · simp only [hi, dif_pos]; exact (h1 i hi).choose_spec.2 h0
/-- Dropped? -/
def dr (gs : List (Int × Int)) (i : Nat) (x : Fx) : Bool := decide (((i : Int), x.f.num) ∈ gs)
def keptX (gs : List (Int × Int)) (X : Nat → List Fx) (i : Nat) : List Fx := (X i).filter (fun x => !dr gs i x)
/-- So far. -/
def keptS (gs : List (Int × Int)) (X : Nat → List Fx) (i j k : Nat) : List Fx := if k < i then keptX gs X k else if k = i then ((X i).take j).filter (fun x => !dr gs i x) else []
def dcnt (gs : List (Int × Int)) (X : Nat → List Fx) : Nat → Nat
  | 0 => 0
  | i + 1 => dcnt gs X i + (X i).countP (dr gs i)
theorem keptS_drop {gs : List (Int × Int)} {X : Nat → List Fx} {i j : Nat} {x : Fx} (hx : (X i)[j]? = some x) (h : dr gs i x = true) : keptS gs X i (j + 1) = keptS gs X i j := by
  funext k
  unfold keptS
  split
  · rfl
  · split
    · rw [List.take_add_one, hx]; simp [h]
    · rfl
theorem keptS_keep {gs : List (Int × Int)} {X : Nat → List Fx} {i j : Nat} {x : Fx} (hx : (X i)[j]? = some x) (h : dr gs i x = false) : keptS gs X i (j + 1) = upA (keptS gs X i j) i (keptS gs X i j i ++ [x]) := by
  funext k
  unfold upA keptS
  by_cases e : k = i
  · subst e
    rw [if_neg (by omega), if_pos rfl, if_pos rfl, if_neg (by omega), if_pos rfl, List.take_add_one, hx]; simp [h]
  · rw [if_neg e]
    by_cases e2 : k < i
    · simp [e2, e]
    · simp [e2, e]
theorem keptS_end {gs : List (Int × Int)} {X : Nat → List Fx} {i : Nat} : keptS gs X i (X i).length = keptS gs X (i + 1) 0 := by
  funext k
  unfold keptS
  by_cases e : k = i
  · subst e
    rw [if_neg (by omega), if_pos rfl, if_pos (by omega), List.take_length]; rfl
  · by_cases e2 : k < i
    · rw [if_pos e2, if_pos (by omega)]
    · rw [if_neg e2, if_neg e, if_neg (by omega)]
      split <;> simp
theorem keptS_len {gs : List (Int × Int)} {X : Nat → List Fx} {i j k : Nat} (hk : k < 5) (h : ∀ m, m < 5 → (X m).length ≤ 1000) : (keptS gs X i j k).length ≤ 1000 := by
  unfold keptS keptX
  split
  · exact Nat.le_trans (List.length_filter_le _ _) (h k hk)
  · split
    · rename_i e
      subst e
      refine Nat.le_trans (List.length_filter_le _ _) (Nat.le_trans ?_ (h _ hk))
      simp [List.length_take]
      omega
    · simp
theorem cnt_step {gs : List (Int × Int)} {X : Nat → List Fx} {i j : Nat} {x : Fx} (hx : (X i)[j]? = some x) : ((X i).take (j + 1)).countP (dr gs i) = ((X i).take j).countP (dr gs i) + (if dr gs i x = true then 1 else 0) := by
  rw [List.take_add_one, hx]
  simp [List.countP_append, List.countP_cons]
theorem dcnt_le {gs : List (Int × Int)} {X : Nat → List Fx} (h : ∀ m, m < 5 → (X m).length ≤ 1000) : ∀ i, i ≤ 5 → dcnt gs X i ≤ i * 1000
  | 0, _ => by simp [dcnt]
  | i + 1, hi => by
    have h1 := dcnt_le (gs := gs) h i (by omega)
    have h2 : (X i).countP (dr gs i) ≤ (X i).length := List.countP_le_length
    have h3 := h i (by omega)
    show dcnt gs X i + (X i).countP (dr gs i) ≤ (i + 1) * 1000
    omega
theorem own_nomap {W : World} {B s n k : Nat} {e : TypeId} {v : Value} {xs : List Value} {es : Array MapEntry} {cl : Nat} (o : W.ownsRow B e s v n xs) (h : W.heap[k]? = some (.map es cl)) : v.ownBlock ≠ some k := by
  intro hb
  rcases o.2 with ⟨rfl, _⟩ | ⟨g, cap, cur, rfl, _, h3, _⟩
  · simp [Value.ownBlock] at hb
  · simp [Value.ownBlock] at hb
    subst hb
    rw [h3] at h
    cases h
/-- What without keeps. -/
structure WS (w W : World) (K : Nat) (ad : Nat → Option Addr) (ln cp : Nat → Nat) (gs : List (Int × Int)) (Y : Nat → List Fx) (kd : Nat → Option Addr) (kl kc : Nat → Nat) : Prop where
  n0 : W.heap[w.heap.size]? = some (.cells #[.slice (ad 0) (ln 0) (cp 0), .slice (ad 1) (ln 1) (cp 1), .slice (ad 2) (ln 2) (cp 2), .slice (ad 3) (ln 3) (cp 3), .slice (ad 4) (ln 4) (cp 4)] 26 (0, 0))
  n1 : W.heap[w.heap.size + 1]? = some (.cells #[.slice none 0 0, .slice none 0 0, .slice none 0 0, .slice none 0 0, .slice none 0 0] 26 (0, 0))
  sb : SetB encG W (w.heap.size + 1 + 1) gs
  lv : LvS w W K Y kd kl kc
  hK : w.heap.size + 1 + 1 < K
theorem WS.fr' {w W W' : World} {K : Nat} {ad : Nat → Option Addr} {ln cp : Nat → Nat} {gs : List (Int × Int)} {Y : Nat → List Fx} {kd : Nat → Option Addr} {kl kc : Nat → Nat} (h : WS w W K ad ln cp gs Y kd kl kc) (f : Fr [] W W') : WS w W' K ad ln cp gs Y kd kl kc :=
  ⟨f.at h.n0 (by simp), f.at h.n1 (by simp), h.sb.fr f, h.lv.fr' f, h.hK⟩
theorem WS.app {w W W' : World} {K : Nat} {ad : Nat → Option Addr} {ln cp : Nat → Nat} {gs : List (Int × Int)} {Y : Nat → List Fx} {kd : Nat → Option Addr} {kl kc : Nat → Nat} (h : WS w W K ad ln cp gs Y kd kl kc) {i : Nat} (hi : i < 5) {x : Fx} {a' : Option Addr} {n' c' : Nat} (hn : n' = (Y i).length + 1)
    (o : W'.ownsRow w.heap.size 62 4 (.slice a' n' c') ((Y i).length + 1) ((Y i).flatMap encX ++ encX x)) (g : W.grownBy W' (Value.slice (kd i) (kl i) (kc i)).ownBlock) (q : (Value.slice a' n' c').ownBlock = (Value.slice (kd i) (kl i) (kc i)).ownBlock ∨ (Value.slice a' n' c').ownBlock = some W.heap.size) :
    WS w (W'.setCell ⟨K, i, none⟩ (.slice a' n' c')) K ad ln cp gs (upA Y i (Y i ++ [x])) (upA kd i a') (upA kl i n') (upA kc i c') := by
  have hK := h.hK
  have ok := h.lv.own i hi
  refine ⟨?_, ?_, ?_, h.lv.app hi hn o g q, hK⟩
  · rw [blk_setne _ _ _ (by omega), g.block _ (blk_lt h.n0) (fun e => own_not ok h.n0 (by decide) e.symm)]; exact h.n0
  · rw [blk_setne _ _ _ (by omega), g.block _ (blk_lt h.n1) (fun e => own_not ok h.n1 (by decide) e.symm)]; exact h.n1
  · refine h.sb.of ?_
    obtain ⟨es, cl, hb, _⟩ := h.sb
    rw [blk_setne _ _ _ (by omega), g.block _ h.sb.lt (fun e => own_nomap ok hb e.symm)]
/-- Lists stay while another block that is no row of tables changes. -/
theorem LvS.setO {wb W : World} {K : Nat} {X : Nat → List Fx} {ad : Nat → Option Addr} {ln cp : Nat → Nat} (h : LvS wb W K X ad ln cp) {p : Nat} (i : Nat) (v : Value) (hp : p ≠ K) (hb : wb.heap.size ≤ p) {cs : Array Value} {T : TypeId} (hc : W.heap[p]? = some (.cells cs T (0, 0))) (hT : T ≠ 62) : LvS wb (W.setCell ⟨p, i, none⟩ v) K X ad ln cp :=
  ⟨by rw [blk_setne _ _ _ (Ne.symm hp)]; exact h.blk, h.len, fun k hk => ownsRow_of_block (h.own k hk) fun g hg => blk_setne _ _ _ (fun e => by subst e; exact own_not (h.own k hk) hc hT hg), h.apart, h.fr.set _ _ (.inr hb), h.ge⟩
/-- What without answers. -/
structure WOut (w w' : World) (gs : List (Int × Int)) (X : Nat → List Fx) (r : Ending) : Prop where
  out : ∃ K kd kl kc, r = .returned (.tuple #[.agg #[.slice (kd 0) (kl 0) (kc 0), .slice (kd 1) (kl 1) (kc 1), .slice (kd 2) (kl 2) (kc 2), .slice (kd 3) (kl 3) (kc 3), .slice (kd 4) (kl 4) (kc 4)], .bool (decide (dcnt gs X 5 = gs.length))]) ∧ LvS w w' K (keptX gs X) kd kl kc
theorem hintG (n : Int) (w : World) : (Instr.makeMap 117 (some (.int .i64 n))).run Tryz.prog w = .ok (.map (some w.heap.size)) (w.alloc (.map #[] 0)) := by
  simp [Instr.makeMap, run_underlying Tryz.underlying117, asInt, asIntOf, Result.andThen]
theorem lvs_nil (w W : World) {K : Nat} (hb : W.heap[K]? = some (.cells #[.slice none 0 0, .slice none 0 0, .slice none 0 0, .slice none 0 0, .slice none 0 0] 26 (0, 0))) (f : Fr [] w W) (hk : w.heap.size ≤ K) : LvS w W K (fun _ => []) (fun _ => none) (fun _ => 0) (fun _ => 0) :=
  ⟨hb, fun _ _ => rfl, fun _ _ => World.ownsRow_nil _ _ _ _, fun i j _ _ _ g e => by simp [Value.ownBlock] at e, f, hk⟩
theorem load5k {w : World} {g : Nat} {t : TypeId} {c0 c1 c2 c3 c4 : Value} (hg : w.heap[g]? = some (.cells #[c0, c1, c2, c3, c4] t (0, 0))) : (loadVar 26 ⟨g, 0, none⟩).run Tryz.prog w = .ok (.agg #[c0, c1, c2, c3, c4]) w :=
  run_loadVar_row w g t 26 #[c0, c1, c2, c3, c4] (0, 0) _ hg Tryz.underlying26 rfl size5
set_option maxRecDepth 20000 in
set_option maxHeartbeats 6400000 in
theorem without_c (w : World) {X : Nat → List Fx} {ad : Nat → Option Addr} {ln cp : Nat → Nat} {gs : List (Int × Int)} {da : Option Addr} {dl dc : Nat} (hdl : dl = gs.length) (hv : VXt w X ad ln cp) (hd : RdD w (.slice da dl dc) gs) (hsm : ∀ i, i < 5 → ln i ≤ 1000) (hgl : dl ≤ 1000000) :
    Calls Tryz.prog 31 #[.agg #[.slice (ad 0) (ln 0) (cp 0), .slice (ad 1) (ln 1) (cp 1), .slice (ad 2) (ln 2) (cp 2), .slice (ad 3) (ln 3) (cp 3), .slice (ad 4) (ln 4) (cp 4)], .slice da dl dc] w fun r w' => WOut w w' gs X r := by
  have HX : Hid (∀ i : Nat, i < 5 → ∀ W : World, (Instr.index 26 (.agg #[.slice (ad 0) (ln 0) (cp 0), .slice (ad 1) (ln 1) (cp 1), .slice (ad 2) (ln 2) (cp 2), .slice (ad 3) (ln 3) (cp 3), .slice (ad 4) (ln 4) (cp 4)]) (.int .i64 (i : Int))).run Tryz.prog W = .ok (.slice (ad i) (ln i) (cp i)) W) := hid (fun i hi W => ixs hi ad ln cp W)
  have hmm : ∀ (n : Int) (w : World), (Instr.makeMap 117 (some (.int .i64 n))).run Tryz.prog w = .ok (.map (some w.heap.size)) (w.alloc (.map #[] 0)) := hintG
  obtain ⟨W2, hW2⟩ : ∃ W2, W2 = ((w.alloc (.cells #[.slice (ad 0) (ln 0) (cp 0), .slice (ad 1) (ln 1) (cp 1), .slice (ad 2) (ln 2) (cp 2), .slice (ad 3) (ln 3) (cp 3), .slice (ad 4) (ln 4) (cp 4)] 26)).alloc (.cells #[.slice none 0 0, .slice none 0 0, .slice none 0 0, .slice none 0 0, .slice none 0 0] 26)).alloc (.map #[] 0) := ⟨_, rfl⟩
  have F2 : Hid (Fr [] w W2) := hid (by rw [hW2]; exact (((Fr.refl _ _).alloc _).alloc _).alloc _)
  have N0 : Hid (W2.heap[w.heap.size]? = some (.cells #[.slice (ad 0) (ln 0) (cp 0), .slice (ad 1) (ln 1) (cp 1), .slice (ad 2) (ln 2) (cp 2), .slice (ad 3) (ln 3) (cp 3), .slice (ad 4) (ln 4) (cp 4)] 26 (0, 0))) := hid (by rw [hW2]; exact (((Fr.refl [] _).alloc _).alloc _).at (blk_new _ _) (by simp))
  have N1 : Hid (W2.heap[w.heap.size + 1]? = some (.cells #[.slice none 0 0, .slice none 0 0, .slice none 0 0, .slice none 0 0, .slice none 0 0] 26 (0, 0))) := hid (by rw [hW2]; exact ((Fr.refl [] _).alloc _).at (new_at _ _ (by simp)) (by simp))
  have S2 : Hid (SetB encG W2 (w.heap.size + 1 + 1) []) := hid (by rw [hW2]; exact SetB.new encG _ (by simp))
  have HD := hid hd
  have HV := hid hv
  have HSM := hid hsm
  have HDL := hid hdl
  clear hd hv hsm hdl
  go_enter Tryz.func31, Tryz.ntmps31
  go_wp2_with fail
  rw [← hW2]
  clear hW2 hmm
  go_loopw [22] (fun v22 wr => ∃ i : Nat, i ≤ dl ∧ v22 = .int .i64 (i : Int) ∧ wr.heap[w.heap.size]? = some (.cells #[.slice (ad 0) (ln 0) (cp 0), .slice (ad 1) (ln 1) (cp 1), .slice (ad 2) (ln 2) (cp 2), .slice (ad 3) (ln 3) (cp 3), .slice (ad 4) (ln 4) (cp 4)] 26 (0, 0)) ∧ wr.heap[w.heap.size + 1]? = some (.cells #[.slice none 0 0, .slice none 0 0, .slice none 0 0, .slice none 0 0, .slice none 0 0] 26 (0, 0)) ∧ SetB encG wr (w.heap.size + 1 + 1) (gs.take i) ∧ Fr [] w wr) (fun v22 _ => dl - (intOf v22).toNat)
  case atStart => exact ⟨0, by omega, rfl, N0.out, N1.out, S2.out, F2.out⟩
  case round =>
    obtain ⟨i, hi, rfl, m0, m1, ms, mf⟩ := hrel
    have M0 := hid m0
    have M1 := hid m1
    have MS := hid ms
    have MF := hid mf
    clear m0 m1 ms mf F2 N0 N1 S2
    by_cases hlt : i < dl
    · have hlt' : (i : Int) < (dl : Int) := by omega
      obtain ⟨g, hg⟩ : ∃ g, gs[i]? = some g := ⟨_, List.getElem?_eq_getElem (by rw [← HDL.out]; exact hlt)⟩
      obtain ⟨a', c', e', k1⟩ := HD.out
      simp only [Value.slice.injEq] at e'
      obtain ⟨rfl, _, rfl⟩ := e'
      obtain ⟨b, off, rfl, k2⟩ := k1 (by rw [← HDL.out]; omega)
      have x0 := cell_fr MF.out (k2 i g hg).1
      have x1 := cell_fr MF.out (k2 i g hg).2
      obtain ⟨g1, g2⟩ := g
      dsimp only at x0 x1
      have HG := hid hg
      clear k1 k2 hg
      obtain ⟨W3, hW3⟩ : ∃ W3, W3 = wr.alloc (.cells #[.int .i64 g1, .int .i64 g2] 45) := ⟨_, rfl⟩
      have f3 : Fr [] wr W3 := by rw [hW3]; exact (Fr.refl _ _).alloc _
      have y0 : W3.cell? ⟨wr.heap.size, 0, none⟩ = some (.int .i64 g1) := by rw [hW3, blk_cell (blk_new _ _)]; rfl
      have y1 : W3.cell? ⟨wr.heap.size, 1, none⟩ = some (.int .i64 g2) := by rw [hW3, blk_cell (blk_new _ _)]; rfl
      obtain ⟨o, hu, hs2⟩ := (MS.out.fr f3).put gone_ok Tryz.underlying117 (g1, g2)
      have hu' : (Instr.mapUpdate 117 (.map (some (w.heap.size + 1 + 1))) (.agg #[.int .i64 g1, .int .i64 g2]) (.agg #[])).run Tryz.prog W3 = .ok () (ChangeMaps.setBlock W3 (w.heap.size + 1 + 1) o) := hu
      obtain ⟨W4, hW4⟩ : ∃ W4, W4 = ChangeMaps.setBlock W3 (w.heap.size + 1 + 1) o := ⟨_, rfl⟩
      rw [← hW4] at hu' hs2
      have A4 : Hid (W4.heap[w.heap.size]? = some (.cells #[.slice (ad 0) (ln 0) (cp 0), .slice (ad 1) (ln 1) (cp 1), .slice (ad 2) (ln 2) (cp 2), .slice (ad 3) (ln 3) (cp 3), .slice (ad 4) (ln 4) (cp 4)] 26 (0, 0)) ∧ W4.heap[w.heap.size + 1]? = some (.cells #[.slice none 0 0, .slice none 0 0, .slice none 0 0, .slice none 0 0, .slice none 0 0] 26 (0, 0)) ∧ Fr [] w W4) := hid (by
        rw [hW4]
        exact ⟨by rw [sb_ne _ _ (by omega)]; exact f3.at M0.out (by simp), by rw [sb_ne _ _ (by omega)]; exact f3.at M1.out (by simp), sb_fr (MF.out.trans f3) _ (by omega)⟩)
      have HS2 := hid hs2
      clear hW4 hu hs2 f3
      go_upto_region 5 with fail
      rw [← hW3]
      clear hW3 x0 x1
      go_wp2_with fail
      go_roundw
      case rel => exact ⟨i + 1, by omega, by go_num, A4.out.1, A4.out.2.1, by rw [List.take_add_one, HG.out]; exact HS2.out, A4.out.2.2⟩
      case measure => simp [intOf]; omega
    · have hin : i = dl := by omega
      subst hin
      clear HD
      obtain ⟨W5, hW5⟩ : ∃ W5, W5 = wr.alloc (.cells #[.slice none 0 0, .slice none 0 0, .slice none 0 0, .slice none 0 0, .slice none 0 0] 26) := ⟨_, rfl⟩
      obtain ⟨k5, hk5⟩ : ∃ k5, k5 = wr.heap.size := ⟨_, rfl⟩
      have f5 : Fr [] wr W5 := by rw [hW5]; exact (Fr.refl _ _).alloc _
      have I5 : Hid (WS w W5 k5 ad ln cp gs (keptS gs X 0 0) (fun _ => none) (fun _ => 0) (fun _ => 0)) := hid (by
        have e0 : keptS gs X 0 0 = fun _ => [] := by funext k; unfold keptS; simp
        have hm : w.heap.size + 1 + 1 < wr.heap.size := MS.out.lt
        rw [e0]
        refine ⟨f5.at M0.out (by simp), f5.at M1.out (by simp), ?_, lvs_nil w W5 (by rw [hW5, hk5]; exact blk_new _ _) (MF.out.trans f5) (by omega), by omega⟩
        have := MS.out
        rw [HDL.out, List.take_length] at this
        exact this.fr f5)
      obtain ⟨z0, z1, z2, z3, z4⟩ : W5.cell? ⟨w.heap.size, 0, none⟩ = some (.slice (ad 0) (ln 0) (cp 0)) ∧ W5.cell? ⟨w.heap.size, 1, none⟩ = some (.slice (ad 1) (ln 1) (cp 1)) ∧ W5.cell? ⟨w.heap.size, 2, none⟩ = some (.slice (ad 2) (ln 2) (cp 2)) ∧ W5.cell? ⟨w.heap.size, 3, none⟩ = some (.slice (ad 3) (ln 3) (cp 3)) ∧ W5.cell? ⟨w.heap.size, 4, none⟩ = some (.slice (ad 4) (ln 4) (cp 4)) := by
        have n := I5.out.n0
        exact ⟨by rw [blk_cell n]; rfl, by rw [blk_cell n]; rfl, by rw [blk_cell n]; rfl, by rw [blk_cell n]; rfl, by rw [blk_cell n]; rfl⟩
      clear f5
      go_upto_region 8 with fail
      rw [← hW5, ← hk5]
      clear hW5 hk5 M0 M1 MS MF
      go_wp2_with fail
      clear z0 z1 z2 z3 z4
      have HXL : Hid (∀ m, m < 5 → (X m).length ≤ 1000) := hid (fun m hm => by rw [← HV.out.len m hm]; exact HSM.out m hm)
      go_loopw [10, 31] (fun v10 v31 wr => ∃ (i : Nat) (kd : Nat → Option Addr) (kl kc : Nat → Nat), i ≤ 5 ∧ v10 = .int .i64 (dcnt gs X i : Int) ∧ v31 = .int .i64 (i : Int) ∧ WS w wr k5 ad ln cp gs (keptS gs X i 0) kd kl kc) (fun _ v31 _ => 5 - (intOf v31).toNat)
      case atStart => exact ⟨0, _, _, _, by omega, rfl, rfl, I5.out⟩
      case round =>
        obtain ⟨i, kd, kl, kc, hi, rfl, rfl, hws⟩ := hrel
        have HI := hid hws
        clear hws I5
        by_cases hlt : i < 5
        · have hlt' : (i : Int) < 5 := by omega
          have ixi := HX.out i hlt
          have HLN := hid (HV.out.len i hlt)
          have HRD := hid (HV.out.rd i hlt)
          have hsi := HSM.out i hlt
          obtain ⟨li, hli⟩ : ∃ li, li = ln i := ⟨_, rfl⟩
          obtain ⟨ai, hai⟩ : ∃ ai, ai = ad i := ⟨_, rfl⟩
          obtain ⟨ci, hci⟩ : ∃ ci, ci = cp i := ⟨_, rfl⟩
          rw [← hli] at ixi HLN HRD hsi
          rw [← hai] at ixi HRD
          rw [← hci] at ixi
          clear hli hai hci
          obtain ⟨D0, hD0⟩ : ∃ D0, D0 = dcnt gs X i := ⟨_, rfl⟩
          have HD0 := hid hD0
          have hD1 : D0 ≤ 5000 := by rw [hD0]; have := dcnt_le (gs := gs) HXL.out i (by omega); omega
          rw [← hD0]
          clear hD0
          obtain ⟨W6, h6⟩ : ∃ W, W = wr := ⟨_, rfl⟩
          subst h6
          go_wp2_with fail
          clear ixi
          go_loopw [10, 37] (fun v10 v37 wr => ∃ (j : Nat) (kd : Nat → Option Addr) (kl kc : Nat → Nat), j ≤ li ∧ v10 = .int .i64 ((D0 + ((X i).take j).countP (dr gs i) : Nat) : Int) ∧ v37 = .int .i64 (j : Int) ∧ WS w wr k5 ad ln cp gs (keptS gs X i j) kd kl kc) (fun _ v37 _ => li - (intOf v37).toNat)
          case atStart => exact ⟨0, _, _, _, by omega, rfl, rfl, HI.out⟩
          case round =>
            obtain ⟨j, kd, kl, kc, hj, rfl, rfl, hws⟩ := hrel
            have HI2 := hid hws
            clear hws HI
            obtain ⟨cj, hcj⟩ : ∃ cj, cj = D0 + ((X i).take j).countP (dr gs i) := ⟨_, rfl⟩
            have HCJ := hid hcj
            have hcj2 : cj ≤ 6000 := by
              have h1 : ((X i).take j).countP (dr gs i) ≤ ((X i).take j).length := List.countP_le_length
              have h2 := HXL.out i hlt
              rw [List.length_take] at h1
              omega
            rw [← hcj]
            clear hcj
            by_cases hjl : j < li
            · have hjl' : (j : Int) < (li : Int) := by omega
              obtain ⟨x, hx⟩ : ∃ x, (X i)[j]? = some x := ⟨_, List.getElem?_eq_getElem (by rw [← HLN.out]; exact hjl)⟩
              have HXJ := hid hx
              obtain ⟨b, off, hab, m1⟩ := HRD.out (by omega)
              subst hab
              have k2 := (m1 j x hx).fr HI2.out.lv.fr
              clear hx m1
              obtain ⟨x0, x1, x2, x3, xr⟩ := k2
              clear xr
              obtain ⟨P, hP⟩ : ∃ P, P = wr.heap.size := ⟨_, rfl⟩
              obtain ⟨W7, hW7⟩ : ∃ W7, W7 = wr.alloc (.cells #[.int .i64 x.f.num, .int .i64 x.f.size, .slice x.la x.f.least.length x.lc, .slice x.ma x.f.most.length x.mc] 62) := ⟨_, rfl⟩
              have f7 : Fr [] wr W7 := by rw [hW7]; exact (Fr.refl _ _).alloc _
              have I7 := hid (HI2.out.fr' f7)
              have NP0 : Hid (W7.heap[P]? = some (.cells #[.int .i64 x.f.num, .int .i64 x.f.size, .slice x.la x.f.least.length x.lc, .slice x.ma x.f.most.length x.mc] 62 (0, 0))) := hid (by rw [hW7, hP]; exact blk_new _ _)
              have NE : Hid ((Value.slice (kd i) (kl i) (kc i)).ownBlock ≠ some P) := hid (HI2.out.lv.ne hlt (by omega))
              have y0 : W7.cell? ⟨P, 0, none⟩ = some (.int .i64 x.f.num) := (fl_cells NP0.out).1
              have hl : (Instr.lookup 117 (.map (some (w.heap.size + 1 + 1))) (.agg #[.int .i64 (i : Int), .int .i64 x.f.num]) true).run Tryz.prog W7 = .ok (.tuple #[.agg #[], .bool (dr gs i x)]) W7 := I7.out.sb.look2 gone_ok Tryz.underlying117 zeroU ((i : Int), x.f.num) (by unfold dr; simp)
              clear f7
              go_upto_region 15 with fail
              rw [← hW7, ← hP]
              clear hW7 hP x0 x1 x2 x3
              obtain ⟨W8, hW8⟩ : ∃ W8, W8 = W7.alloc (.cells #[] 101) := ⟨_, rfl⟩
              have f8 : Fr [] W7 W8 := by rw [hW8]; exact (Fr.refl _ _).alloc _
              have I8 := hid (I7.out.fr' f8)
              have NP8 := hid (f8.at NP0.out (by simp))
              clear f8 NP0 I7 HI2
              cases hdr : dr gs i x with
              | true =>
                rw [hdr] at hl
                have HDR := hid hdr
                clear hdr
                go_upto_region 16 with fail
                rw [← hW8]
                clear hW8 hl y0
                go_wp2_with fail
                go_roundw
                case rel => exact ⟨j + 1, kd, kl, kc, by omega, by rw [cnt_step HXJ.out, HDR.out, if_pos rfl, ← Nat.add_assoc, ← HCJ.out]; go_num, by go_num, by rw [keptS_drop HXJ.out HDR.out]; exact I8.out⟩
                case measure => simp [intOf]; omega
              | false =>
                rw [hdr] at hl
                have HDR := hid hdr
                clear hdr
                go_upto_region 18 with fail
                rw [← hW8]
                clear hW8 hl y0
                obtain ⟨Y, hY⟩ : ∃ Y, Y = keptS gs X i j := ⟨_, rfl⟩
                have HYL : Hid ((Y i).length ≤ 1000) := hid (by rw [hY]; exact keptS_len hlt HXL.out)
                have HYE : Hid (keptS gs X i (j + 1) = upA Y i (Y i ++ [x])) := hid (by rw [hY]; exact keptS_keep HXJ.out HDR.out)
                rw [← hY] at I8
                clear hY
                obtain ⟨kdi, hkdi⟩ : ∃ kdi, kdi = kd i := ⟨_, rfl⟩
                obtain ⟨kli, hkli⟩ : ∃ kli, kli = kl i := ⟨_, rfl⟩
                obtain ⟨kci, hkci⟩ : ∃ kci, kci = kc i := ⟨_, rfl⟩
                have hki1 : kli ≤ 1000000 := by rw [hkli, I8.out.lv.len i hlt]; have := HYL.out; omega
                have HKL : Hid (kli = (Y i).length) := hid (by rw [hkli, I8.out.lv.len i hlt])
                have NP : Hid (W8.drew.heap[P]? = some (.cells #[.int .i64 x.f.num, .int .i64 x.f.size, .slice x.la x.f.least.length x.lc, .slice x.ma x.f.most.length x.mc] 62 (0, 0))) := hid NP8.out
                obtain ⟨wa, hwa⟩ : ∃ wa, wa = W8.drew := ⟨_, rfl⟩
                have fa : Fr [] W8 wa := by rw [hwa]; exact (Fr.refl _ _).drew
                have IA := hid (I8.out.fr' fa)
                obtain ⟨wb, hwb⟩ : ∃ wb, wb = wa.alloc (.cells #[.int .i64 x.f.num, .int .i64 x.f.size, .slice x.la x.f.least.length x.lc, .slice x.ma x.f.most.length x.mc] 62) := ⟨_, rfl⟩
                have fb : Fr [] wa wb := by rw [hwb]; exact (Fr.refl _ _).alloc _
                have IB := hid (IA.out.fr' fb)
                have N2 : Hid (wb.heap[P]? = some (.cells #[.int .i64 x.f.num, .int .i64 x.f.size, .slice x.la x.f.least.length x.lc, .slice x.ma x.f.most.length x.mc] 62 (0, 0))) := hid (fb.at (fa.at NP8.out (by simp)) (by simp))
                have NG : Hid (wb.heap[W8.heap.size]? = some (.cells #[.int .i64 x.f.num, .int .i64 x.f.size, .slice x.la x.f.least.length x.lc, .slice x.ma x.f.most.length x.mc] 62 (0, 0))) := hid (by rw [hwb]; exact new_at _ _ (by rw [hwa]; rfl))
                have OW : Hid (wb.ownsRow w.heap.size 62 4 (.slice kdi kli kci) kli ((Y i).flatMap encX)) := hid (by rw [HKL.out, hkdi, hkci, ← I8.out.lv.len i hlt]; have := IB.out.lv.own i hlt; rw [← I8.out.lv.len i hlt] at this; exact this)
                have FS : Hid (w.heap.size ≤ wb.heap.size) := hid IB.out.lv.fr.size
                have PA : Hid (∀ w6, wb.grownBy w6 (Value.slice kdi kli kci).ownBlock → w6.heap[P]? = some (.cells #[.int .i64 x.f.num, .int .i64 x.f.size, .slice x.la x.f.least.length x.lc, .slice x.ma x.f.most.length x.mc] 62 (0, 0))) := hid (fun w6 g6 => by
                  rw [g6.block P (blk_lt N2.out) (fun e => by rw [hkdi, hkli, hkci] at e; exact NE.out e.symm)]; exact N2.out)
                have PS : Hid (∀ (w6 : World) (v : Value), w6.heap[P]? = some (.cells #[.int .i64 x.f.num, .int .i64 x.f.size, .slice x.la x.f.least.length x.lc, .slice x.ma x.f.most.length x.mc] 62 (0, 0)) → (w6.setCell ⟨k5, i, none⟩ v).heap[P]? = some (.cells #[.int .i64 x.f.num, .int .i64 x.f.size, .slice x.la x.f.least.length x.lc, .slice x.ma x.f.most.length x.mc] 62 (0, 0))) := hid (fun w6 v h => by
                  rw [blk_setne _ _ _ (fun e => by
                    subst e
                    have h1 := IB.out.lv.blk
                    rw [N2.out] at h1
                    simp at h1)]; exact h)
                have AF : Hid (∀ w6, wb.grownBy w6 (Value.slice kdi kli kci).ownBlock → w6.frozen? ⟨k5, i, none⟩ = false ∧ w6.cell? ⟨k5, i, none⟩ = some (.slice kdi kli kci)) := hid (fun w6 g6 => by
                  have hb6 : w6.heap[k5]? = some (.cells (five kd kl kc) 26 (0, 0)) := by rw [g6.block k5 (blk_lt IB.out.lv.blk) (fun e => by rw [hkdi, hkli, hkci] at e; exact own_not (IB.out.lv.own i hlt) IB.out.lv.blk (by decide) e.symm)]; exact IB.out.lv.blk
                  exact ⟨blk_frozen hb6 i, by rw [blk_cell hb6, hkdi, hkli, hkci]; exact five_at _ _ _ hlt⟩)
                have AP : Hid (∀ a6 c6 w6, w6.ownsRow w.heap.size 62 4 (.slice a6 (kli + 1) c6) (kli + 1) ((Y i).flatMap encX ++ encX x) → wb.grownBy w6 (Value.slice kdi kli kci).ownBlock → ((Value.slice a6 (kli + 1) c6).ownBlock = (Value.slice kdi kli kci).ownBlock ∨ (Value.slice a6 (kli + 1) c6).ownBlock = some wb.heap.size) → WS w (w6.setCell ⟨k5, i, none⟩ (.slice a6 (kli + 1) c6)) k5 ad ln cp gs (upA Y i (Y i ++ [x])) (upA kd i a6) (upA kl i (kli + 1)) (upA kc i c6)) := hid (fun a6 c6 w6 o6 g6 q6 => by
                  rw [hkdi, hkli, hkci] at g6 q6
                  rw [hkli] at o6 ⊢
                  refine IB.out.app hlt (by rw [I8.out.lv.len i hlt]) ?_ g6 q6
                  rw [I8.out.lv.len i hlt] at o6 ⊢
                  exact o6)
                have za : wa.cell? ⟨k5, i, none⟩ = some (.slice kdi kli kci) := by rw [hkdi, hkli, hkci]; exact IA.out.lv.cell hlt
                have zb : wb.cell? ⟨k5, i, none⟩ = some (.slice kdi kli kci) := by rw [hkdi, hkli, hkci]; exact IB.out.lv.cell hlt
                rw [hwa] at za
                clear hkdi hkli hkci fa fb
                subst hwb
                subst hwa
                have zb2 : (W8.alloc (.cells #[.int .i64 x.f.num, .int .i64 x.f.size, .slice x.la x.f.least.length x.lc, .slice x.ma x.f.most.length x.mc] 62)).drew.cell? ⟨k5, i, none⟩ = some (.slice kdi kli kci) := zb
                refine wp_region_held_drew (S := fun w' => w'.heap[P]? = some (.cells #[.int .i64 x.f.num, .int .i64 x.f.size, .slice x.la x.f.least.length x.lc, .slice x.ma x.f.most.length x.mc] 62 (0, 0))) (by kernel_rfl) NP.out (fun hS => ?_)
                refine wpAnyH_take (i := 0) (v := .int .i64 (i : Int)) rfl (by kernel_rfl) (by kernel_rfl) (by kernel_rfl) (fun _ _ _ h => h) (.inl ⟨by rfl, fun wx _ => by go_simp⟩) hS ?_
                simp only [Act.put]
                refine wpAnyH_take (i := 1) (v := .int .i64 (i : Int)) rfl (by kernel_rfl) (by kernel_rfl) (by kernel_rfl) (fun _ _ _ h => h) (.inl ⟨by rfl, fun wx _ => by go_simp⟩) hS ?_
                simp only [Act.put]
                refine wpAnyH_take (i := 2) (v := .pointer (some ⟨k5, i, none⟩)) rfl (by kernel_rfl) (by kernel_rfl) (by kernel_rfl) (fun _ _ _ h => h) (.inl ⟨by rfl, fun wx _ => by go_simp⟩) hS ?_
                simp only [Act.put]
                refine wpAnyH_take (i := 4) (v := .agg #[.int .i64 x.f.num, .int .i64 x.f.size, .slice x.la x.f.least.length x.lc, .slice x.ma x.f.most.length x.mc]) rfl (by kernel_rfl) (by kernel_rfl) (by kernel_rfl) (fun _ _ _ h => h) (.inl ⟨by rfl, fun wx hX => by obtain ⟨s0, s1, s2, s3⟩ := fl_cells hX; go_simp⟩) hS ?_
                simp only [Act.put]
                clear hS
                refine wpAnyH_ready (rs := [3, 5]) (by kernel_rfl) (by simp) ?_
                refine AllReadyH.cons rfl (fun K hK => ?_) (AllReadyH.cons rfl (fun K hK => ?_) AllReadyH.nil)
                · go_simp
                  refine hK.out _ _ NP.out (fun _ => ?_)
                  clear hK K
                  refine wpAnyH_ready (rs := [5]) (by kernel_rfl) (by simp) ?_
                  refine AllReadyH.cons rfl (fun K hK => ?_) AllReadyH.nil
                  refine step_buildF rfl (.tmp 57) rfl (x := x) (by first | (simp [Act.eval]; done) | simp [Act.eval, Act.put]) ?_
                  refine hK.out _ _ N2.out (fun _ => ?_)
                  clear hK K
                  refine wpAnyH_ready (rs := [6]) (by kernel_rfl) (by simp) ?_
                  refine AllReadyH.cons rfl (fun K hK => ?_) AllReadyH.nil
                  refine step_appF rfl (.tmp 56) (.tmp 58) rfl w.heap.size (ad := kdi) (n := kli) (c := kci) (xs := (Y i).flatMap encX) (by first | (simp [Act.eval]; done) | simp [Act.eval, Act.put]) OW.out (G := W8.heap.size) (by first | (simp [Act.eval]; done) | simp [Act.eval, Act.put]) (x := x) NG.out hki1 FS.out ?_
                  intro a6 c6 w6 o6 g6 q6
                  have P6 := hid (PA.out w6 g6)
                  refine hK.out _ _ P6.out (fun _ => ?_)
                  clear hK K
                  have A6 := hid (AP.out a6 c6 w6 o6 g6 q6)
                  have kf := (AF.out w6 g6).1
                  have kq := (AF.out w6 g6).2
                  clear o6 g6 q6
                  refine wpAnyH_ready (rs := [7]) (by kernel_rfl) (by simp) ?_
                  refine AllReadyH.cons rfl (fun K hK => ?_) AllReadyH.nil
                  go_simp
                  refine hK.out _ _ P6.out (fun _ => ?_)
                  clear hK K
                  refine wpAnyH_ready (rs := [8]) (by kernel_rfl) (by simp) ?_
                  refine AllReadyH.cons rfl (fun K hK => ?_) AllReadyH.nil
                  go_simp
                  refine hK.out _ _ (PS.out _ _ P6.out) (fun _ => ?_)
                  clear hK K
                  refine wpAnyH_done (by kernel_rfl) ?_ _
                  go_wp2_with fail
                  go_roundw
                  case rel => exact ⟨j + 1, _, _, _, by omega, by rw [cnt_step HXJ.out, HDR.out, if_neg (by simp), Nat.add_zero, ← HCJ.out], by go_num, by rw [HYE.out]; exact A6.out⟩
                  case measure => simp [intOf]; omega
                · refine step_buildF rfl (.tmp 57) rfl (x := x) (by first | (simp [Act.eval]; done) | simp [Act.eval, Act.put]) ?_
                  refine hK.out _ _ N2.out (fun _ => ?_)
                  clear hK K
                  refine wpAnyH_ready (rs := [3]) (by kernel_rfl) (by simp) ?_
                  refine AllReadyH.cons rfl (fun K hK => ?_) AllReadyH.nil
                  go_simp
                  refine hK.out _ _ N2.out (fun _ => ?_)
                  clear hK K
                  refine wpAnyH_ready (rs := [6]) (by kernel_rfl) (by simp) ?_
                  refine AllReadyH.cons rfl (fun K hK => ?_) AllReadyH.nil
                  refine step_appF rfl (.tmp 56) (.tmp 58) rfl w.heap.size (ad := kdi) (n := kli) (c := kci) (xs := (Y i).flatMap encX) (by first | (simp [Act.eval]; done) | simp [Act.eval, Act.put]) OW.out (G := W8.heap.size) (by first | (simp [Act.eval]; done) | simp [Act.eval, Act.put]) (x := x) NG.out hki1 FS.out ?_
                  intro a6 c6 w6 o6 g6 q6
                  have P6 := hid (PA.out w6 g6)
                  refine hK.out _ _ P6.out (fun _ => ?_)
                  clear hK K
                  have A6 := hid (AP.out a6 c6 w6 o6 g6 q6)
                  have kf := (AF.out w6 g6).1
                  have kq := (AF.out w6 g6).2
                  clear o6 g6 q6
                  refine wpAnyH_ready (rs := [7]) (by kernel_rfl) (by simp) ?_
                  refine AllReadyH.cons rfl (fun K hK => ?_) AllReadyH.nil
                  go_simp
                  refine hK.out _ _ P6.out (fun _ => ?_)
                  clear hK K
                  refine wpAnyH_ready (rs := [8]) (by kernel_rfl) (by simp) ?_
                  refine AllReadyH.cons rfl (fun K hK => ?_) AllReadyH.nil
                  go_simp
                  refine hK.out _ _ (PS.out _ _ P6.out) (fun _ => ?_)
                  clear hK K
                  refine wpAnyH_done (by kernel_rfl) ?_ _
                  go_wp2_with fail
                  go_roundw
                  case rel => exact ⟨j + 1, _, _, _, by omega, by rw [cnt_step HXJ.out, HDR.out, if_neg (by simp), Nat.add_zero, ← HCJ.out], by go_num, by rw [HYE.out]; exact A6.out⟩
                  case measure => simp [intOf]; omega
            · have hjn : j = li := by omega
              subst hjn
              have I9 := HI2
              go_wp2_with fail
              go_roundw
              case rel => exact ⟨i + 1, kd, kl, kc, by omega, by rw [HCJ.out, HLN.out, List.take_length, HD0.out]; rfl, by go_num, by rw [← keptS_end]; have := I9.out; rw [HLN.out] at this; exact this⟩
              case measure => simp [intOf]; omega
        · have hin : i = 5 := by omega
          subst hin
          have n1 := HI.out.n1
          have hKK := HI.out.hK
          obtain ⟨z0, z1, z2, z3, z4⟩ : wr.cell? ⟨k5, 0, none⟩ = some (.slice (kd 0) (kl 0) (kc 0)) ∧ wr.cell? ⟨k5, 1, none⟩ = some (.slice (kd 1) (kl 1) (kc 1)) ∧ wr.cell? ⟨k5, 2, none⟩ = some (.slice (kd 2) (kl 2) (kc 2)) ∧ wr.cell? ⟨k5, 3, none⟩ = some (.slice (kd 3) (kl 3) (kc 3)) ∧ wr.cell? ⟨k5, 4, none⟩ = some (.slice (kd 4) (kl 4) (kc 4)) := ⟨HI.out.lv.cell (by omega), HI.out.lv.cell (by omega), HI.out.lv.cell (by omega), HI.out.lv.cell (by omega), HI.out.lv.cell (by omega)⟩
          obtain ⟨y0, y1, y2, y3, y4⟩ : wr.cell? ⟨w.heap.size + 1, 0, none⟩ = some (.slice none 0 0) ∧ wr.cell? ⟨w.heap.size + 1, 1, none⟩ = some (.slice none 0 0) ∧ wr.cell? ⟨w.heap.size + 1, 2, none⟩ = some (.slice none 0 0) ∧ wr.cell? ⟨w.heap.size + 1, 3, none⟩ = some (.slice none 0 0) ∧ wr.cell? ⟨w.heap.size + 1, 4, none⟩ = some (.slice none 0 0) := ⟨by rw [blk_cell n1]; rfl, by rw [blk_cell n1]; rfl, by rw [blk_cell n1]; rfl, by rw [blk_cell n1]; rfl, by rw [blk_cell n1]; rfl⟩
          have qf0 := blk_frozen n1 0
          have qf1 := blk_frozen n1 1
          have qf2 := blk_frozen n1 2
          have qf3 := blk_frozen n1 3
          have qf4 := blk_frozen n1 4
          have hkne : k5 ≠ w.heap.size + 1 := by omega
          have HN1 := hid n1
          obtain ⟨D5, hD5⟩ : ∃ D5, D5 = dcnt gs X 5 := ⟨_, rfl⟩
          have HD5 := hid hD5
          have hD6 : D5 ≤ 5000 := by rw [hD5]; exact dcnt_le (gs := gs) HXL.out 5 (by omega)
          rw [← hD5]
          clear hD5 n1
          go_wp2_with fail
          refine bodyPost_ret (ret_ct9 rfl (g := w.heap.size + 1) (by simp) (load5k (by rw [blk_set (blk_set (blk_set (blk_set (blk_set HN1.out 0 _) 1 _) 2 _) 3 _) 4 _]; rfl))) rfl ?_
          have LV : LvS w wr k5 (keptX gs X) kd kl kc := by
            have h := HI.out.lv
            have e5 : ∀ k, k < 5 → keptS gs X 5 0 k = keptX gs X k := fun k hk => by unfold keptS; rw [if_pos hk]
            exact ⟨h.blk, fun k hk => by rw [← e5 k hk]; exact h.len k hk, fun k hk => by rw [← e5 k hk]; exact h.own k hk, h.apart, h.fr, h.ge⟩
          refine ⟨⟨k5, kd, kl, kc, ?_, ?_⟩⟩
          · rw [← HD5.out, ← HDL.out]
            have hbb : ∀ a b : Nat, ((a : Int) == (b : Int)) = decide (a = b) := fun a b => by rw [Bool.eq_iff_iff]; simp; omega
            rw [← hbb]
            rfl
          · exact ((((LV.setO _ _ hkne.symm (by omega) HN1.out (by decide)).setO _ _ hkne.symm (by omega) (blk_set HN1.out 0 _) (by decide)).setO _ _ hkne.symm (by omega) (blk_set (blk_set HN1.out 0 _) 1 _) (by decide)).setO _ _ hkne.symm (by omega) (blk_set (blk_set (blk_set HN1.out 0 _) 1 _) 2 _) (by decide)).setO _ _ hkne.symm (by omega) (blk_set (blk_set (blk_set (blk_set HN1.out 0 _) 1 _) 2 _) 3 _) (by decide)
end Go.Proofs.YtegbngbhmgbocaaGreatDoor
