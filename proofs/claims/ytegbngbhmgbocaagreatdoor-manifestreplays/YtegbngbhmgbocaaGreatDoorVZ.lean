/-
  The document's Check of any version.
-/
import Derived.Test.YtegbngbhmgbocaaGreatDoorJ33
namespace Go.Proofs.YtegbngbhmgbocaaGreatDoor
open Go.ChangeShapes Go.WideShapes Go.ChangeAt Go.RowKit

/-- Tables in a row of the call's own. -/
theorem own_cells {W : World} {B : Nat} {ga : Option Addr} {gn gc : Nat} {xs : List Fx} (h : W.ownsRow B 62 4 (.slice ga gn gc) xs.length (xs.flatMap encX)) (h0 : 0 < xs.length) : ∃ b, ga = some ⟨b, 0, none⟩ ∧ ∀ (j : Nat) (x : Fx), xs[j]? = some x → W.cell? ⟨b, j * 4, none⟩ = some (.int .i64 x.f.num) ∧ W.cell? ⟨b, j * 4 + 1, none⟩ = some (.int .i64 x.f.size) ∧ W.cell? ⟨b, j * 4 + 2, none⟩ = some (.slice x.la x.f.least.length x.lc) ∧ W.cell? ⟨b, j * 4 + 3, none⟩ = some (.slice x.ma x.f.most.length x.mc) := by
  rcases h.2 with ⟨h1, h2⟩ | ⟨g, cap, cur, h1, h2, h3, h4, h5, h6, h7⟩
  · omega
  · simp only [Value.slice.injEq] at h1
    obtain ⟨e1, _, e3⟩ := h1
    refine ⟨g, e1, fun j x hxj => ?_⟩
    have hjl : j < xs.length := (List.getElem?_eq_some_iff.1 hxj).1
    have cell : ∀ c, c < 4 → W.cell? ⟨g, j * 4 + c, none⟩ = (encX x)[c]? := fun c hc => by
      rw [blk_cell h3, ← Array.getElem?_toList]
      have e2 := flat4_at xs (j * 4 + c) x (by rw [show (j * 4 + c) / 4 = j from by omega]; exact hxj)
      rw [← h7, List.getElem?_take, if_pos (by omega), show (j * 4 + c) % 4 = c from by omega] at e2
      exact e2
    exact ⟨cell 0 (by omega), cell 1 (by omega), cell 2 (by omega), cell 3 (by omega)⟩
theorem vn_cell {W : World} {k : Nat} {t : TypeId} {c0 c1 c2 : Value} {ad : Nat → Option Addr} {ln cp : Nat → Nat} (n : W.heap[k]? = some (.cells #[c0, c1, c2, .slice (ad 0) (ln 0) (cp 0), .slice (ad 1) (ln 1) (cp 1), .slice (ad 2) (ln 2) (cp 2), .slice (ad 3) (ln 3) (cp 3), .slice (ad 4) (ln 4) (cp 4)] t (0, 0))) {i : Nat} (hi : i < 5) : W.cell? ⟨k, 3 + i, none⟩ = some (.slice (ad i) (ln i) (cp i)) := by
  rw [blk_cell n]
  rcases (show i = 0 ∨ i = 1 ∨ i = 2 ∨ i = 3 ∨ i = 4 from by omega) with rfl | rfl | rfl | rfl | rfl <;> rfl
/-- The row of all tables. -/
structure RCh (W0 W : World) (xs : List Fx) (ga : Option Addr) (gn gc : Nat) : Prop where
  len : gn = xs.length
  own : W.ownsRow W0.heap.size 62 4 (.slice ga gn gc) xs.length (xs.flatMap encX)
  fr : Fr [] W0 W
theorem RCh.fr' {W0 W W' : World} {xs : List Fx} {ga : Option Addr} {gn gc : Nat} (h : RCh W0 W xs ga gn gc) (f : Fr [] W W') : RCh W0 W' xs ga gn gc := ⟨h.len, ownsRow_fr h.own f, h.fr.trans f⟩
theorem RCh.fat {W0 W : World} {xs : List Fx} {ga : Option Addr} {gn gc : Nat} (h : RCh W0 W xs ga gn gc) (hr : ∀ x ∈ xs, FRd W0 x.f x.la x.lc x.ma x.mc) (h0 : 0 < gn) : ∃ b off, ga = some ⟨b, off, none⟩ ∧ ∀ (j : Nat) (x : Fx), xs[j]? = some x → FAt W b (off + j * 4) x.f x.la x.lc x.ma x.mc := by
  obtain ⟨b, e, k⟩ := own_cells h.own (by have := h.len; omega)
  refine ⟨b, 0, e, fun j x hx => ?_⟩
  obtain ⟨q0, q1, q2, q3⟩ := k j x hx
  rw [Nat.zero_add]
  exact ⟨q0, q1, q2, q3, (hr x (List.mem_of_getElem? hx)).fr h.fr⟩
theorem pfxX_rd {W0 : World} {X : Nat → List Fx} {ad : Nat → Option Addr} {ln cp : Nat → Nat} (h : VXt W0 X ad ln cp) : ∀ x ∈ pfxX X 5, FRd W0 x.f x.la x.lc x.ma x.mc := by
  intro x hx
  unfold pfxX at hx
  obtain ⟨i, hi, hx⟩ := List.mem_flatMap.1 hx
  have hi5 : i < 5 := by simpa using hi
  obtain ⟨j, hj, e⟩ := List.mem_iff_getElem.1 hx
  obtain ⟨b, off, _, k⟩ := h.rd i hi5 (by rw [h.len i hi5]; omega)
  exact (k j x (by rw [List.getElem?_eq_getElem hj, e])).rd
theorem at_map {P : List Fx} {l : List Fl} (h : P.map Fx.f = l) {j : Nat} {x : Fx} (hx : P[j]? = some x) : l[j]? = some x.f := by
  rw [← h, List.getElem?_map, hx]; rfl
theorem map_at {P : List Fx} {l : List Fl} (h : P.map Fx.f = l) {j : Nat} {f : Fl} (hf : l[j]? = some f) : ∃ x, P[j]? = some x ∧ x.f = f := by
  rw [← h, List.getElem?_map] at hf
  cases hx : P[j]? with
  | none => rw [hx] at hf; cases hf
  | some x => rw [hx] at hf; exact ⟨x, rfl, by simpa using hf⟩
theorem rises_of {i : Nat} {L : List Fx} {l : List Fl} (hm : L.map Fx.f = l) (ok : ∀ (j : Nat) (x : Fx), L[j]? = some x → okF x.f = true) (ho : ∀ (j : Nat) (x y : Fx), L[j]? = some x → L[j + 1]? = some y → cmpF i x.f y.f < 0) (hv : 0 < i → ∀ (j : Nat) (x y : Fx), L[j]? = some x → L[j + 1]? = some y → overF x.f y.f = false) : risesF i l = true := by
  rw [risesF_iff]
  intro j a b ha hb
  obtain ⟨x, hx, rfl⟩ := map_at hm ha
  obtain ⟨y, hy, rfl⟩ := map_at hm hb
  have h1 := ho j x y hx hy
  rcases Nat.eq_zero_or_pos i with h0 | h0
  · subst h0
    unfold apartF
    rw [decide_eq_true h1]
    rfl
  · unfold cmpF at h1
    rw [if_neg (by omega)] at h1
    exact over_apart h0 (ok _ y hy) h1 (hv h0 j x y hx hy)
set_option maxRecDepth 20000 in
set_option maxHeartbeats 3200000 in
theorem rcheck_c (w : World) {v : Vn} {ad : Nat → Option Addr} {ln cp : Nat → Nat} (hv : VAt w v.lv ad ln cp) (hnil : ∀ i, i < 5 → ad i = none → ln i = 0 ∧ cp i = 0) (hsm : ∀ i, i < 5 → ln i ≤ 1000) :
    Calls Tryz.prog 39 #[.agg #[.int .i64 v.log, .int .i64 v.next, .int .u64 (v.seq : Int), .slice (ad 0) (ln 0) (cp 0), .slice (ad 1) (ln 1) (cp 1), .slice (ad 2) (ln 2) (cp 2), .slice (ad 3) (ln 3) (cp 3), .slice (ad 4) (ln 4) (cp 4)]] w fun r w' => r = .returned (.int .i64 (chkV v)) ∧ Fr [] w w' := by
  obtain ⟨C, hC⟩ : ∃ C, C = chkV v := ⟨_, rfl⟩
  rw [← hC]
  have HC := hid hC
  clear hC
  obtain ⟨X, hX1, hX2⟩ := hv.vx
  have HXM := hid hX1
  have HXL : Hid (∀ i, i < 5 → (X i).length = ln i) := hid (fun i hi => (hX2.len i hi).symm)
  have HNIL := hid hnil
  have HSM := hid hsm
  obtain ⟨W0, hW0⟩ : ∃ W0, W0 = w.alloc (.cells #[.int .i64 v.log, .int .i64 v.next, .int .u64 (v.seq : Int), .slice (ad 0) (ln 0) (cp 0), .slice (ad 1) (ln 1) (cp 1), .slice (ad 2) (ln 2) (cp 2), .slice (ad 3) (ln 3) (cp 3), .slice (ad 4) (ln 4) (cp 4)] 28) := ⟨_, rfl⟩
  have F0 : Hid (Fr [] w W0) := hid (by rw [hW0]; exact (Fr.refl _ _).alloc _)
  have n0 : Hid (W0.heap[w.heap.size]? = some (.cells #[.int .i64 v.log, .int .i64 v.next, .int .u64 (v.seq : Int), .slice (ad 0) (ln 0) (cp 0), .slice (ad 1) (ln 1) (cp 1), .slice (ad 2) (ln 2) (cp 2), .slice (ad 3) (ln 3) (cp 3), .slice (ad 4) (ln 4) (cp 4)] 28 (0, 0))) := hid (by rw [hW0]; exact blk_new _ _)
  have HV0 := hid (hX2.fr F0.out)
  have CK : Hid (∀ W : World, Fr [] W0 W → _) := hid (fun W fr => vn_cells (fr.at n0.out (by simp)))
  have CI : Hid (∀ W : World, Fr [] W0 W → ∀ i, i < 5 → W.cell? ⟨w.heap.size, 3 + i, none⟩ = some (.slice (ad i) (ln i) (cp i))) := hid (fun W fr i hi => vn_cell (fr.at n0.out (by simp)) hi)
  clear hv hnil hsm hX1 hX2 n0
  have HC2 : Hid (C = if (!(okN v.log && (okN v.next && decide (v.seq ≤ 72057594037927935))) || !((pfx v.lv 5).all okF)) = true then 90 else if runP freshP [] (pfx v.lv 5) = false then 92 else if (pfx v.lv 5).all (fun f => decide (f.num < v.next)) = false then 94 else if (List.range 5).all (fun i => risesF i (v.lv i)) = false then 93 else 0) := hid HC.out
  clear HC
  have N1 : Hid (∀ W, _) := hid (fun W => rnumber_c W v.log)
  have N2 : Hid (∀ W, _) := hid (fun W => rnumber_c W v.next)
  generalize okN v.log = b1 at *
  generalize okN v.next = b2 at *
  generalize v.log = lg at *
  generalize v.next = nx at *
  generalize v.seq = sq at *
  go_enter Tryz.func39, Tryz.ntmps39
  go_upto_region 1 with fail
  rw [← hW0]
  clear hW0
  obtain ⟨z0, z1, z2, z3, z4, z5, z6, z7⟩ := CK.out W0 (Fr.refl _ _)
  cases b1 with
  | false =>
    have HE : Hid (C = 90) := hid (by rw [HC2.out]; rfl)
    go_wp2_with (go_at_call 70; refine (N1.out _).mono ?_; rintro r W2 ⟨rfl, h⟩; rw [h]; clear h)
    go_ret
    exact ⟨by rw [HE.out]; rfl, F0.out⟩
  | true =>
  cases b2 with
  | false =>
    have HE : Hid (C = 90) := hid (by rw [HC2.out]; rfl)
    go_wp2_with (first
      | (go_at_call 70; have zz := N1.out; clear zz; refine (N1.out _).mono ?_; rintro r W2 ⟨rfl, h⟩; rw [h]; clear h N1)
      | (go_at_call 70; refine (N2.out _).mono ?_; rintro r W2 ⟨rfl, h⟩; rw [h]; clear h))
    go_ret
    exact ⟨by rw [HE.out]; rfl, F0.out⟩
  | true =>
  by_cases hs : sq ≤ 72057594037927935
  case neg =>
    have HE : Hid (C = 90) := hid (by rw [HC2.out, decide_eq_false hs]; rfl)
    have hs' : (72057594037927935 : Int) < (sq : Int) := by omega
    go_wp2_with (first
      | (go_at_call 70; have zz := N1.out; clear zz; refine (N1.out _).mono ?_; rintro r W2 ⟨rfl, h⟩; rw [h]; clear h N1)
      | (go_at_call 70; refine (N2.out _).mono ?_; rintro r W2 ⟨rfl, h⟩; rw [h]; clear h))
    go_ret
    exact ⟨by rw [HE.out]; rfl, F0.out⟩
  case pos =>
  have hs' : ¬ (72057594037927935 : Int) < (sq : Int) := by omega
  have HC3 : Hid (C = if (pfx v.lv 5).all okF = false then 90 else if runP freshP [] (pfx v.lv 5) = false then 92 else if (pfx v.lv 5).all (fun f => decide (f.num < nx)) = false then 94 else if (List.range 5).all (fun i => risesF i (v.lv i)) = false then 93 else 0) := hid (by rw [HC2.out, decide_eq_true hs]; cases (pfx v.lv 5).all okF <;> rfl)
  clear HC2
  go_upto_region 4 with (first
      | (go_at_call 70; have zz := N1.out; clear zz; refine (N1.out _).mono ?_; rintro r W2 ⟨rfl, h⟩; rw [h]; clear h N1)
      | (go_at_call 70; refine (N2.out _).mono ?_; rintro r W2 ⟨rfl, h⟩; rw [h]; clear h N2))
  clear z0 z1 z2 z3 z4 z5 z6 z7 hs hs'
  go_wp2_with fail
  go_loopw [3, 4] (fun v3 v4 wr => ∃ (i : Nat) (ga : Option Addr) (gn gc : Nat), i ≤ 5 ∧ v3 = .slice ga gn gc ∧ v4 = .int .i64 (i : Int) ∧ RCh W0 wr (pfxX X i) ga gn gc) (fun _ v4 _ => 5 - (intOf v4).toNat)
  case atStart => exact ⟨0, none, 0, 0, by omega, rfl, rfl, rfl, World.ownsRow_nil _ _ _ _, Fr.refl _ _⟩
  case round =>
    obtain ⟨i, ga, gn, gc, hi, rfl, rfl, hr⟩ := hrel
    have HR := hid hr
    clear hr
    by_cases hlt : i < 5
    · have hlt' : (i : Int) < 5 := by omega
      have z := CI.out wr HR.out.fr i hlt
      have AX : Hid (ln i = (X i).length ∧ (ad i = none → ln i = 0 ∧ cp i = 0) ∧ (0 < ln i → ∃ b off, ad i = some ⟨b, off, none⟩ ∧ ∀ (j : Nat) (f : Fx), (X i)[j]? = some f → FAt wr b (off + j * 4) f.f f.la f.lc f.ma f.mc) ∧ ln i ≤ 1000 ∧ gn ≤ 1000000) := hid ⟨(HXL.out i hlt).symm, HNIL.out i hlt, (HV0.out.fr HR.out.fr).rd i hlt, HSM.out i hlt, by
        have := pfxX_len (X := X) (fun m hm => by rw [HXL.out m hm]; exact HSM.out m hm) i hi
        rw [HR.out.len]
        omega⟩
      generalize ad i = ai at *
      generalize ln i = li at *
      generalize cp i = ci at *
      go_wp2_with (at_builtin; refine wpList_app_files rfl _ _ rfl W0.heap.size HR.out.fr.size HR.out.len HR.out.own AX.out.1 AX.out.2.1 AX.out.2.2.1 (by simp [Act.eval]) (by simp [Act.eval]) AX.out.2.2.2.2 (Nat.le_trans AX.out.2.2.2.1 (by omega)) ?_; intro a' c' w' o' g'; have O' := hid o'; have G' := hid g'; clear o' g')
      go_roundw
      case rel =>
        refine ⟨i + 1, a', gn + li, c', by omega, rfl, by go_num, ?_, ?_, ?_⟩
        · rw [pfxX_succ, List.length_append, HR.out.len, AX.out.1]
        · rw [pfxX_succ]; exact O'.out
        · exact HR.out.fr.grown G'.out fun k hk => .inr (HR.out.own.lt k hk).1
      case measure => simp [intOf]; omega
    · have hlt' : ¬ (i : Int) < 5 := by omega
      have hin : i = 5 := by omega
      rw [hin] at HR
      clear hlt hi hin
      have HP : Hid ((pfxX X 5).map Fx.f = pfx v.lv 5) := hid (pfxX_map HXM.out 5 (by omega))
      have HRD : Hid (∀ x ∈ pfxX X 5, FRd W0 x.f x.la x.lc x.ma x.mc) := hid (pfxX_rd HV0.out)
      have hgn : gn ≤ 5000 := by
        have := pfxX_len (X := X) (fun m hm => by rw [HXL.out m hm]; exact HSM.out m hm) 5 (by omega)
        rw [HR.out.len]
        omega
      have HAM : Hid (∀ i, i < 5 → ∀ f ∈ v.lv i, f ∈ pfx v.lv 5) := hid (fun i hi f hf => mem_all hi hf)
      generalize pfxX X 5 = P at HR HP HRD
      generalize pfx v.lv 5 = A at HP HC3 HAM
      go_upto_region 8 with fail
      go_wp2_with fail
      clear hlt'
      go_loopw [5] (fun v5 wr => ∃ i : Nat, i ≤ gn ∧ v5 = .int .i64 (i : Int) ∧ (∀ (j : Nat) (x : Fx), j < i → P[j]? = some x → okF x.f = true) ∧ RCh W0 wr P ga gn gc) (fun v5 _ => gn - (intOf v5).toNat)
      case atStart => exact ⟨0, by omega, rfl, fun j x hj => by omega, HR.out⟩
      case round =>
        clear HR
        obtain ⟨i, hi, rfl, hq, hr⟩ := hrel
        have HR := hid hr
        have HQ := hid hq
        clear hr hq
        by_cases hlt : i < gn
        · have hlt' : (i : Int) < (gn : Int) := by omega
          obtain ⟨x, hx⟩ : ∃ x, P[i]? = some x := ⟨_, List.getElem?_eq_getElem (by have := HR.out.len; omega)⟩
          have HX := hid hx
          obtain ⟨b, off, hab, kx⟩ := HR.out.fat HRD.out (by omega)
          have k1 := kx i x hx
          subst hab
          have s0 := k1.c0
          have s1 := k1.c1
          have s2 := k1.c2
          have s3 := k1.c3
          have MC := hid (rmay_c _ k1.rd)
          clear k1 kx hx
          cases hok : okF x.f with
          | false =>
            rw [hok] at MC
            have HE : Hid (C = 90) := hid (by
              rw [HC3.out, if_pos]
              rw [Bool.eq_false_iff]
              intro h
              have := List.all_eq_true.1 h x.f (List.mem_of_getElem? (at_map HP.out HX.out))
              rw [hok] at this
              cases this)
            clear hok
            go_wp2_with (go_at_call 74; refine MC.out.mono ?_; rintro r W2 ⟨rfl, h⟩; have F2 := hid h; clear h)
            go_ret
            exact ⟨by rw [HE.out]; rfl, (F0.out.trans HR.out.fr).trans F2.out⟩
          | true =>
            rw [hok] at MC
            have HOK := hid hok
            clear hok
            go_wp2_with (go_at_call 74; refine MC.out.mono ?_; rintro r W2 ⟨rfl, h⟩; have F2 := hid h; clear h)
            go_roundw
            case rel => exact ⟨i + 1, by omega, by go_num, fun j y hj hy => by
              rcases Nat.lt_or_ge j i with h | h
              · exact HQ.out j y h hy
              · have e : j = i := by omega
                subst e
                rw [HX.out] at hy
                cases hy
                exact HOK.out, HR.out.fr' F2.out⟩
            case measure => simp [intOf]; omega
        · have hin : gn = i := by omega
          subst hin
          have HOKA : Hid (∀ (j : Nat) (x : Fx), P[j]? = some x → okF x.f = true) := hid (fun j x hx => HQ.out j x (by rw [HR.out.len]; exact (List.getElem?_eq_some_iff.1 hx).1) hx)
          have HC4 : Hid (C = if runP freshP [] A = false then 92 else if A.all (fun f => decide (f.num < nx)) = false then 94 else if (List.range 5).all (fun i => risesF i (v.lv i)) = false then 93 else 0) := hid (by
            rw [HC3.out, if_neg]
            rw [Bool.not_eq_false, List.all_eq_true]
            intro f hf
            obtain ⟨j, hj⟩ := List.mem_iff_getElem?.1 hf
            obtain ⟨x, hx, rfl⟩ := map_at HP.out hj
            exact HOKA.out j x hx)
          clear HC3 HQ hlt hi
          go_upto_region 13 with fail
          go_wp2_with fail
          go_loopw [6] (fun v6 wr => ∃ i : Nat, i ≤ gn ∧ v6 = .int .i64 (i : Int) ∧ (∀ (j k : Nat) (x y : Fx), j < k → k < i → P[j]? = some x → P[k]? = some y → y.f.num ≠ x.f.num) ∧ RCh W0 wr P ga gn gc) (fun v6 _ => gn - (intOf v6).toNat)
          case atStart => exact ⟨0, by omega, rfl, fun j k x y hj hk => by omega, HR.out⟩
          case round =>
            clear HR
            obtain ⟨i, hi, rfl, hq, hr⟩ := hrel
            have HR := hid hr
            have HQ := hid hq
            clear hr hq
            by_cases hlt : i < gn
            · have hlt' : (i : Int) < (gn : Int) := by omega
              obtain ⟨y, hy⟩ : ∃ y, P[i]? = some y := ⟨_, List.getElem?_eq_getElem (by have := HR.out.len; omega)⟩
              have HY := hid hy
              clear hy
              go_wp2_with fail
              go_loopw [7] (fun v7 wr => ∃ k : Nat, k ≤ i ∧ v7 = .int .i64 (k : Int) ∧ (∀ (j : Nat) (x : Fx), j < k → P[j]? = some x → y.f.num ≠ x.f.num) ∧ RCh W0 wr P ga gn gc) (fun v7 _ => i - (intOf v7).toNat)
              case atStart => exact ⟨0, by omega, rfl, fun j x hj => by omega, HR.out⟩
              case round =>
                clear HR
                obtain ⟨k, hk, rfl, hq2, hr⟩ := hrel
                have HR := hid hr
                have HQ2 := hid hq2
                clear hr hq2
                by_cases hlk : k < i
                · have hlk' : (k : Int) < (i : Int) := by omega
                  have hlk2 : (k : Int) < (gn : Int) := by omega
                  obtain ⟨x, hx⟩ : ∃ x, P[k]? = some x := ⟨_, List.getElem?_eq_getElem (by have := HR.out.len; omega)⟩
                  have HX := hid hx
                  obtain ⟨b, off, hab, kx⟩ := HR.out.fat HRD.out (by omega)
                  have s0 := (kx k x hx).c0
                  have t0 := (kx i y HY.out).c0
                  subst hab
                  clear hx kx
                  have SK : Hid (∀ W', Fr [] wr W' → W'.cell? ⟨b, off + k * 4, none⟩ = some (.int .i64 x.f.num) ∧ W'.cell? ⟨b, off + i * 4, none⟩ = some (.int .i64 y.f.num)) := hid (fun W' f => ⟨cell_fr f s0, cell_fr f t0⟩)
                  clear s0 t0
                  go_upto_region 19 with fail
                  go_cut [72] from 62 to 71 (fun v72 W => v72 = .bool (y.f.num == x.f.num) ∧ Fr [] wr W)
                  case first =>
                    clear HC4 HOKA HQ HQ2 HRD HP HV0 HXM HXL HNIL HSM CI CK
                    refine wp_region_held_drew (S := fun w' => Fr [] wr w') (by kernel_rfl) (Fr.refl [] wr).drew (fun hS => ?_)
                    refine wpAnyH_take (i := 0) (v := .slice (some ⟨b, off, none⟩) gn gc) rfl (by kernel_rfl) (by kernel_rfl) (by kernel_rfl) (fun _ _ _ h => h) (.inl ⟨by rfl, fun wx _ => by go_simp⟩) hS ?_
                    simp only [Act.put, List.getElem_toArray, List.getElem_cons_zero, List.set_cons_succ, List.set_cons_zero, List.setIfInBounds_toArray]
                    refine wpAnyH_take (i := 1) (v := .int .i64 (i : Int)) rfl (by kernel_rfl) (by kernel_rfl) (by kernel_rfl) (fun _ _ _ h => h) (.inl ⟨by rfl, fun wx _ => by go_simp⟩) hS ?_
                    simp only [Act.put, List.getElem_toArray, List.getElem_cons_succ, List.getElem_cons_zero, List.set_cons_succ, List.set_cons_zero, List.setIfInBounds_toArray]
                    refine wpAnyH_take (i := 2) (v := .pointer (some ⟨b, off + i * 4, none⟩)) rfl (by kernel_rfl) (by kernel_rfl) (by kernel_rfl) (fun _ _ _ h => h) (.inl ⟨by rfl, fun wx _ => by go_simp⟩) hS ?_
                    simp only [Act.put, List.getElem_toArray, List.getElem_cons_succ, List.getElem_cons_zero, List.set_cons_succ, List.set_cons_zero, List.setIfInBounds_toArray]
                    refine wpAnyH_take (i := 3) (v := .pointer (some ⟨b, off + i * 4, none⟩)) rfl (by kernel_rfl) (by kernel_rfl) (by kernel_rfl) (fun _ _ _ h => h) (.inl ⟨by rfl, fun wx _ => by go_simp⟩) hS ?_
                    simp only [Act.put, List.getElem_toArray, List.getElem_cons_succ, List.getElem_cons_zero, List.set_cons_succ, List.set_cons_zero, List.setIfInBounds_toArray]
                    refine wpAnyH_take (i := 4) (v := .int .i64 y.f.num) rfl (by kernel_rfl) (by kernel_rfl) (by kernel_rfl) (fun _ _ _ h => h) (.inl ⟨by rfl, fun wx hX => by obtain ⟨s0, t0⟩ := SK.out wx hX; go_simp⟩) hS ?_
                    simp only [Act.put, List.getElem_toArray, List.getElem_cons_succ, List.getElem_cons_zero, List.set_cons_succ, List.set_cons_zero, List.setIfInBounds_toArray]
                    refine wpAnyH_take (i := 5) (v := .slice (some ⟨b, off, none⟩) gn gc) rfl (by kernel_rfl) (by kernel_rfl) (by kernel_rfl) (fun _ _ _ h => h) (.inl ⟨by rfl, fun wx _ => by go_simp⟩) hS ?_
                    simp only [Act.put, List.getElem_toArray, List.getElem_cons_succ, List.getElem_cons_zero, List.set_cons_succ, List.set_cons_zero, List.setIfInBounds_toArray]
                    refine wpAnyH_take (i := 6) (v := .int .i64 (k : Int)) rfl (by kernel_rfl) (by kernel_rfl) (by kernel_rfl) (fun _ _ _ h => h) (.inl ⟨by rfl, fun wx _ => by go_simp⟩) hS ?_
                    simp only [Act.put, List.getElem_toArray, List.getElem_cons_succ, List.getElem_cons_zero, List.set_cons_succ, List.set_cons_zero, List.setIfInBounds_toArray]
                    refine wpAnyH_take (i := 7) (v := .pointer (some ⟨b, off + k * 4, none⟩)) rfl (by kernel_rfl) (by kernel_rfl) (by kernel_rfl) (fun _ _ _ h => h) (.inl ⟨by rfl, fun wx _ => by go_simp⟩) hS ?_
                    simp only [Act.put, List.getElem_toArray, List.getElem_cons_succ, List.getElem_cons_zero, List.set_cons_succ, List.set_cons_zero, List.setIfInBounds_toArray]
                    refine wpAnyH_take (i := 8) (v := .pointer (some ⟨b, off + k * 4, none⟩)) rfl (by kernel_rfl) (by kernel_rfl) (by kernel_rfl) (fun _ _ _ h => h) (.inl ⟨by rfl, fun wx _ => by go_simp⟩) hS ?_
                    simp only [Act.put, List.getElem_toArray, List.getElem_cons_succ, List.getElem_cons_zero, List.set_cons_succ, List.set_cons_zero, List.setIfInBounds_toArray]
                    refine wpAnyH_take (i := 9) (v := .int .i64 x.f.num) rfl (by kernel_rfl) (by kernel_rfl) (by kernel_rfl) (fun _ _ _ h => h) (.inl ⟨by rfl, fun wx hX => by obtain ⟨s0, t0⟩ := SK.out wx hX; go_simp⟩) hS ?_
                    simp only [Act.put, List.getElem_toArray, List.getElem_cons_succ, List.getElem_cons_zero, List.set_cons_succ, List.set_cons_zero, List.setIfInBounds_toArray]
                    refine wpAnyH_take (i := 10) (v := .bool (y.f.num == x.f.num)) rfl (by kernel_rfl) (by kernel_rfl) (by kernel_rfl) (fun _ _ _ h => h) (.inl ⟨by rfl, fun wx _ => by go_simp⟩) hS ?_
                    simp only [Act.put, List.getElem_toArray, List.getElem_cons_succ, List.getElem_cons_zero, List.set_cons_succ, List.set_cons_zero, List.setIfInBounds_toArray]
                    clear hS
                    refine wpAnyH_done (by kernel_rfl) ?_ _
                    go_wp2
                    go_meet
                    case rel => exact ⟨rfl, (Fr.refl [] wr).drew⟩
                  case rest =>
                    obtain ⟨rfl, fc⟩ := hcut
                    have FC := hid fc
                    clear fc SK
                    by_cases he : y.f.num = x.f.num
                    · have HE : Hid (C = 92) := hid (by
                        rw [HC4.out, if_pos]
                        exact twice_not hlk (at_map HP.out HX.out) (at_map HP.out HY.out) he)
                      have hd : (y.f.num == x.f.num) = true := by rw [he]; simp
                      rw [hd]
                      clear hd he
                      go_wp2_with fail
                      go_ret
                      exact ⟨by rw [HE.out]; rfl, (F0.out.trans HR.out.fr).trans FC.out⟩
                    · have hd : (y.f.num == x.f.num) = false := by simpa using he
                      have HNE := hid he
                      rw [hd]
                      clear hd he
                      go_wp2_with fail
                      go_roundw
                      case rel => exact ⟨k + 1, by omega, by go_num, fun j z hj hz => by
                        rcases Nat.lt_or_ge j k with h | h
                        · exact HQ2.out j z h hz
                        · have e : j = k := by omega
                          subst e
                          rw [HX.out] at hz
                          cases hz
                          exact HNE.out, HR.out.fr' FC.out⟩
                      case measure => simp [intOf]; omega
                · have hin : i = k := by omega
                  subst hin
                  go_wp2_with fail
                  go_roundw
                  case rel => exact ⟨i + 1, by omega, by go_num, fun j k x z hjk hk hx hz => by
                    rcases Nat.lt_or_ge k i with h | h
                    · exact HQ.out j k x z hjk h hx hz
                    · have e : k = i := by omega
                      subst e
                      rw [HY.out] at hz
                      cases hz
                      exact HQ2.out j x hjk hx, HR.out⟩
                  case measure => simp [intOf]; omega
            · have hin : gn = i := by omega
              subst hin
              have HC5 : Hid (C = if A.all (fun f => decide (f.num < nx)) = false then 94 else if (List.range 5).all (fun i => risesF i (v.lv i)) = false then 93 else 0) := hid (by
                rw [HC4.out, if_neg]
                rw [Bool.not_eq_false]
                refine once_all fun j k hjk f g hf hg => ?_
                obtain ⟨x, hx, rfl⟩ := map_at HP.out hf
                obtain ⟨z, hz, rfl⟩ := map_at HP.out hg
                exact HQ.out j k x z hjk (by rw [HR.out.len]; exact (List.getElem?_eq_some_iff.1 hz).1) hx hz)
              clear HC4 HQ hlt hi
              go_upto_region 21 with fail
              go_wp2_with fail
              go_loopw [8] (fun v8 wr => ∃ i : Nat, i ≤ gn ∧ v8 = .int .i64 (i : Int) ∧ (∀ (j : Nat) (x : Fx), j < i → P[j]? = some x → x.f.num < nx) ∧ RCh W0 wr P ga gn gc) (fun v8 _ => gn - (intOf v8).toNat)
              case atStart => exact ⟨0, by omega, rfl, fun j x hj => by omega, HR.out⟩
              case round =>
                clear HR
                obtain ⟨i, hi, rfl, hq, hr⟩ := hrel
                have HR := hid hr
                have HQ := hid hq
                clear hr hq
                by_cases hlt : i < gn
                · have hlt' : (i : Int) < (gn : Int) := by omega
                  obtain ⟨x, hx⟩ : ∃ x, P[i]? = some x := ⟨_, List.getElem?_eq_getElem (by have := HR.out.len; omega)⟩
                  have HX := hid hx
                  obtain ⟨b, off, hab, kx⟩ := HR.out.fat HRD.out (by omega)
                  have s0 := (kx i x hx).c0
                  have t0 := (CK.out wr HR.out.fr).2.1
                  subst hab
                  clear hx kx
                  have SK : Hid (∀ W', Fr [] wr W' → W'.cell? ⟨b, off + i * 4, none⟩ = some (.int .i64 x.f.num) ∧ W'.cell? ⟨w.heap.size, 1, none⟩ = some (.int .i64 nx)) := hid (fun W' f => ⟨cell_fr f s0, cell_fr f t0⟩)
                  clear s0 t0
                  go_upto_region 24 with fail
                  go_cut [86] from 79 to 85 (fun v86 W => v86 = .bool (decide (nx ≤ x.f.num)) ∧ Fr [] wr W)
                  case first =>
                    clear HC5 HOKA HQ HRD HP HV0 HXM HXL HNIL HSM CI CK
                    refine wp_region_held_drew (S := fun w' => Fr [] wr w') (by kernel_rfl) (Fr.refl [] wr).drew (fun hS => ?_)
                    refine wpAnyH_take (i := 0) (v := .slice (some ⟨b, off, none⟩) gn gc) rfl (by kernel_rfl) (by kernel_rfl) (by kernel_rfl) (fun _ _ _ h => h) (.inl ⟨by rfl, fun wx _ => by go_simp⟩) hS ?_
                    simp only [Act.put, List.getElem_toArray, List.getElem_cons_zero, List.set_cons_succ, List.set_cons_zero, List.setIfInBounds_toArray]
                    refine wpAnyH_take (i := 1) (v := .int .i64 (i : Int)) rfl (by kernel_rfl) (by kernel_rfl) (by kernel_rfl) (fun _ _ _ h => h) (.inl ⟨by rfl, fun wx _ => by go_simp⟩) hS ?_
                    simp only [Act.put, List.getElem_toArray, List.getElem_cons_succ, List.getElem_cons_zero, List.set_cons_succ, List.set_cons_zero, List.setIfInBounds_toArray]
                    refine wpAnyH_take (i := 2) (v := .pointer (some ⟨b, off + i * 4, none⟩)) rfl (by kernel_rfl) (by kernel_rfl) (by kernel_rfl) (fun _ _ _ h => h) (.inl ⟨by rfl, fun wx _ => by go_simp⟩) hS ?_
                    simp only [Act.put, List.getElem_toArray, List.getElem_cons_succ, List.getElem_cons_zero, List.set_cons_succ, List.set_cons_zero, List.setIfInBounds_toArray]
                    refine wpAnyH_take (i := 3) (v := .pointer (some ⟨b, off + i * 4, none⟩)) rfl (by kernel_rfl) (by kernel_rfl) (by kernel_rfl) (fun _ _ _ h => h) (.inl ⟨by rfl, fun wx _ => by go_simp⟩) hS ?_
                    simp only [Act.put, List.getElem_toArray, List.getElem_cons_succ, List.getElem_cons_zero, List.set_cons_succ, List.set_cons_zero, List.setIfInBounds_toArray]
                    refine wpAnyH_take (i := 4) (v := .int .i64 x.f.num) rfl (by kernel_rfl) (by kernel_rfl) (by kernel_rfl) (fun _ _ _ h => h) (.inl ⟨by rfl, fun wx hX => by obtain ⟨s0, t0⟩ := SK.out wx hX; go_simp⟩) hS ?_
                    simp only [Act.put, List.getElem_toArray, List.getElem_cons_succ, List.getElem_cons_zero, List.set_cons_succ, List.set_cons_zero, List.setIfInBounds_toArray]
                    refine wpAnyH_take (i := 5) (v := .pointer (some ⟨w.heap.size, 1, none⟩)) rfl (by kernel_rfl) (by kernel_rfl) (by kernel_rfl) (fun _ _ _ h => h) (.inl ⟨by rfl, fun wx _ => by go_simp⟩) hS ?_
                    simp only [Act.put, List.getElem_toArray, List.getElem_cons_succ, List.getElem_cons_zero, List.set_cons_succ, List.set_cons_zero, List.setIfInBounds_toArray]
                    refine wpAnyH_take (i := 6) (v := .int .i64 nx) rfl (by kernel_rfl) (by kernel_rfl) (by kernel_rfl) (fun _ _ _ h => h) (.inl ⟨by rfl, fun wx hX => by obtain ⟨s0, t0⟩ := SK.out wx hX; go_simp⟩) hS ?_
                    simp only [Act.put, List.getElem_toArray, List.getElem_cons_succ, List.getElem_cons_zero, List.set_cons_succ, List.set_cons_zero, List.setIfInBounds_toArray]
                    refine wpAnyH_take (i := 7) (v := .bool (decide (nx ≤ x.f.num))) rfl (by kernel_rfl) (by kernel_rfl) (by kernel_rfl) (fun _ _ _ h => h) (.inl ⟨by rfl, fun wx _ => by go_simp⟩) hS ?_
                    simp only [Act.put, List.getElem_toArray, List.getElem_cons_succ, List.getElem_cons_zero, List.set_cons_succ, List.set_cons_zero, List.setIfInBounds_toArray]
                    clear hS
                    refine wpAnyH_done (by kernel_rfl) ?_ _
                    go_wp2
                    go_meet
                    case rel => exact ⟨rfl, (Fr.refl [] wr).drew⟩
                  case rest =>
                    obtain ⟨rfl, fc⟩ := hcut
                    have FC := hid fc
                    clear fc SK
                    by_cases he : nx ≤ x.f.num
                    · have HE : Hid (C = 94) := hid (by
                        rw [HC5.out, if_pos]
                        rw [Bool.eq_false_iff]
                        intro h
                        have := of_decide_eq_true (List.all_eq_true.1 h x.f (List.mem_of_getElem? (at_map HP.out HX.out)))
                        omega)
                      rw [decide_eq_true he]
                      clear he
                      go_wp2_with fail
                      go_ret
                      exact ⟨by rw [HE.out]; rfl, (F0.out.trans HR.out.fr).trans FC.out⟩
                    · have HNE := hid he
                      rw [decide_eq_false he]
                      clear he
                      go_wp2_with fail
                      go_roundw
                      case rel => exact ⟨i + 1, by omega, by go_num, fun j z hj hz => by
                        rcases Nat.lt_or_ge j i with h | h
                        · exact HQ.out j z h hz
                        · have e : j = i := by omega
                          subst e
                          rw [HX.out] at hz
                          cases hz
                          have := HNE.out
                          omega, HR.out.fr' FC.out⟩
                      case measure => simp [intOf]; omega
                · have hin : gn = i := by omega
                  subst hin
                  have HC6 : Hid (C = if (List.range 5).all (fun i => risesF i (v.lv i)) = false then 93 else 0) := hid (by
                    rw [HC5.out, if_neg]
                    rw [Bool.not_eq_false, List.all_eq_true]
                    intro f hf
                    obtain ⟨j, hj⟩ := List.mem_iff_getElem?.1 hf
                    obtain ⟨x, hx, rfl⟩ := map_at HP.out hj
                    exact decide_eq_true (HQ.out j x (by rw [HR.out.len]; exact (List.getElem?_eq_some_iff.1 hx).1) hx))
                  clear HC5 HQ hlt hi
                  go_upto_region 26 with fail
                  go_wp2_with fail
                  go_loopw [9] (fun v9 wr => ∃ i : Nat, i ≤ 5 ∧ v9 = .int .i64 (i : Int) ∧ (∀ k, k < i → risesF k (v.lv k) = true) ∧ Fr [] W0 wr) (fun v9 _ => 5 - (intOf v9).toNat)
                  case atStart => exact ⟨0, by omega, rfl, fun k hk => by omega, HR.out.fr⟩
                  case round =>
                    obtain ⟨i, hi, rfl, hq, hf⟩ := hrel
                    have HQ := hid hq
                    have HF := hid hf
                    clear hq hf HR HRD
                    by_cases hlt : i < 5
                    · have hlt' : (i : Int) < 5 := by omega
                      have zc := CI.out wr HF.out i hlt
                      have HN : Hid (ln i = (X i).length) := hid (HXL.out i hlt).symm
                      have hn : ln i ≤ 1000 := HSM.out i hlt
                      have HLV := hid (HXM.out i hlt)
                      have HRX : Hid (∀ W, Fr [] W0 W → 0 < ln i → ∃ b off, ad i = some ⟨b, off, none⟩ ∧ ∀ (j : Nat) (x : Fx), (X i)[j]? = some x → FAt W b (off + j * 4) x.f x.la x.lc x.ma x.mc) := hid (fun W f => (HV0.out.fr f).rd i hlt)
                      have HOX : Hid (∀ (j : Nat) (x : Fx), (X i)[j]? = some x → okF x.f = true) := hid (fun j x hx => by
                        have h1 := HAM.out i hlt x.f (List.mem_of_getElem? (at_map (HXM.out i hlt) hx))
                        obtain ⟨m, hm⟩ := List.mem_iff_getElem?.1 h1
                        obtain ⟨y, hy, e⟩ := map_at HP.out hm
                        rw [← e]
                        exact HOKA.out m y hy)
                      generalize X i = L at HN HLV HRX HOX
                      generalize ad i = ai at *
                      generalize ln i = n at *
                      generalize cp i = ci at *
                      go_wp2_with fail
                      clear zc
                      go_loopw [11] (fun v11 wr => ∃ k : Nat, 1 ≤ k ∧ (k ≤ n ∨ n = 0 ∧ k = 1) ∧ v11 = .int .i64 (k : Int) ∧ (∀ (j : Nat) (x y : Fx), 1 ≤ j → j < k → L[j - 1]? = some x → L[j]? = some y → cmpF i x.f y.f < 0) ∧ Fr [] W0 wr) (fun v11 _ => n + 1 - (intOf v11).toNat)
                      case atStart => exact ⟨1, by omega, by omega, rfl, fun j x y h1 h2 => by omega, HF.out⟩
                      case round =>
                        clear HF
                        obtain ⟨k, hk1, hk2, rfl, hq1, hf⟩ := hrel
                        have HQ1 := hid hq1
                        have HF := hid hf
                        clear hq1 hf
                        by_cases hlk : k < n
                        · have hlk' : (k : Int) < (n : Int) := by omega
                          clear hk2
                          obtain ⟨x, hx⟩ : ∃ x, L[k - 1]? = some x := ⟨_, List.getElem?_eq_getElem (by have := HN.out; omega)⟩
                          obtain ⟨y, hy⟩ : ∃ y, L[k]? = some y := ⟨_, List.getElem?_eq_getElem (by have := HN.out; omega)⟩
                          have HX := hid hx
                          have HY := hid hy
                          obtain ⟨b, off, hab, kx⟩ := HRX.out wr HF.out (by omega)
                          have k1 := kx (k - 1) x hx
                          have k2 := kx k y hy
                          subst hab
                          clear kx hx hy
                          have SK : Hid (∀ W', Fr [] wr W' → W'.cell? ⟨b, off + (k - 1) * 4, none⟩ = some (.int .i64 x.f.num) ∧ W'.cell? ⟨b, off + (k - 1) * 4 + 2, none⟩ = some (.slice x.la x.f.least.length x.lc) ∧ W'.cell? ⟨b, off + k * 4, none⟩ = some (.int .i64 y.f.num) ∧ W'.cell? ⟨b, off + k * 4 + 2, none⟩ = some (.slice y.la y.f.least.length y.lc)) := hid (fun W' f => ⟨cell_fr f k1.c0, cell_fr f k1.c2, cell_fr f k2.c0, cell_fr f k2.c2⟩)
                          have OR : Hid (∀ W', Fr [] wr W' → Calls Tryz.prog 41 #[.slice x.la x.f.least.length x.lc, .slice y.la y.f.least.length y.lc] W' fun r W'' => r = .returned (.int .i64 (ordK x.f.least y.f.least)) ∧ Fr [] W' W'') := hid (fun W' f => order_c W' (k1.rd.fr f).rl k1.rd.bl (okF_keys (HOX.out _ x HX.out)).1 (k2.rd.fr f).rl k2.rd.bl (okF_keys (HOX.out _ y HY.out)).1)
                          clear k1 k2
                          have hk3 : ((k : Int) - 1).toNat = k - 1 := by omega
                          have hk4 : (k : Int) - 1 < (n : Int) := by omega
                          have hk5 : 1 ≤ (k : Int) := by omega
                          have hk6 : IntKind.i64.wrap ((k : Int) - 1) = (k : Int) - 1 := by simp [IntKind.wrap, IntKind.bits, IntKind.signed]; omega
                          go_upto_region 33 with fail
                          go_cut [135] from 101 to 134 (fun v135 W => v135 = .bool (!decide (cmpF i x.f y.f < 0)) ∧ Fr [] wr W)
                          case first =>
                            clear HC6 HOKA HAM HQ HQ1 HP HV0 HXM HXL HNIL HSM CI CK HRX HOX HLV HX HY
                            rcases Nat.eq_zero_or_pos i with h0 | h0
                            · have h0e : ((i : Int) == 0) = true := by simp; omega
                              have h0f : decide ((0 : Int) < (i : Int)) = false := decide_eq_false (by omega)
                              have H0 := hid h0
                              clear h0
                              have HCM : Hid (i = 0 → (!decide (cmpF i x.f y.f < 0)) = decide (y.f.num ≤ x.f.num)) := hid (fun h => by
                                unfold cmpF
                                rw [if_pos h]
                                have := cmpI_lt x.f.num y.f.num
                                by_cases hh : x.f.num < y.f.num
                                · rw [decide_eq_true (this.2 hh), decide_eq_false (by omega)]; rfl
                                · rw [decide_eq_false (fun e => hh (this.1 e)), decide_eq_true (by omega)]; rfl)
                              refine wp_region_held_drew (S := fun w' => Fr [] wr w') (by kernel_rfl) (Fr.refl [] wr).drew (fun hS => ?_)
                              refine wpAnyH_take (i := 0) (v := .int .i64 (i : Int)) rfl (by kernel_rfl) (by kernel_rfl) (by kernel_rfl) (fun _ _ _ h => h) (.inl ⟨by kernel_rfl, fun wx _ => by go_simp⟩) hS ?_
                              simp only [Act.put, List.getElem_toArray, List.getElem_cons_zero, List.set_cons_succ, List.set_cons_zero, List.setIfInBounds_toArray]
                              refine wpAnyH_take (i := 1) (v := .bool ((i : Int) == 0)) rfl (by kernel_rfl) (by kernel_rfl) (by kernel_rfl) (fun _ _ _ h => h) (.inl ⟨by kernel_rfl, fun wx _ => by go_simp⟩) hS ?_
                              simp only [Act.put, List.getElem_toArray, List.getElem_cons_succ, List.getElem_cons_zero, List.set_cons_succ, List.set_cons_zero, List.setIfInBounds_toArray]
                              rw [h0e]
                              refine wpAnyH_take (i := 2) (v := .bool true) rfl (by kernel_rfl) (by kernel_rfl) (by kernel_rfl) (fun _ _ _ h => h) (.inl ⟨by kernel_rfl, fun wx _ => by go_simp⟩) hS ?_
                              simp only [Act.put, List.getElem_toArray, List.getElem_cons_succ, List.getElem_cons_zero, List.set_cons_succ, List.set_cons_zero, List.setIfInBounds_toArray]
                              refine wpAnyH_take (i := 3) (v := .slice (some ⟨b, off, none⟩) n ci) rfl (by kernel_rfl) (by kernel_rfl) (by kernel_rfl) (fun _ _ _ h => h) (.inl ⟨by kernel_rfl, fun wx _ => by go_simp⟩) hS ?_
                              simp only [Act.put, List.getElem_toArray, List.getElem_cons_succ, List.getElem_cons_zero, List.set_cons_succ, List.set_cons_zero, List.setIfInBounds_toArray]
                              refine wpAnyH_take (i := 4) (v := .int .i64 (k : Int)) rfl (by kernel_rfl) (by kernel_rfl) (by kernel_rfl) (fun _ _ _ h => h) (.inl ⟨by kernel_rfl, fun wx _ => by go_simp⟩) hS ?_
                              simp only [Act.put, List.getElem_toArray, List.getElem_cons_succ, List.getElem_cons_zero, List.set_cons_succ, List.set_cons_zero, List.setIfInBounds_toArray]
                              refine wpAnyH_take (i := 5) (v := .int .i64 ((k : Int) - 1)) rfl (by kernel_rfl) (by kernel_rfl) (by kernel_rfl) (fun _ _ _ h => h) (.inl ⟨by kernel_rfl, fun wx _ => by go_simp⟩) hS ?_
                              simp only [Act.put, List.getElem_toArray, List.getElem_cons_succ, List.getElem_cons_zero, List.set_cons_succ, List.set_cons_zero, List.setIfInBounds_toArray]
                              refine wpAnyH_take (i := 6) (v := .pointer (some ⟨b, off + (k - 1) * 4, none⟩)) rfl (by kernel_rfl) (by kernel_rfl) (by kernel_rfl) (fun _ _ _ h => h) (.inl ⟨by kernel_rfl, fun wx _ => by go_simp⟩) hS ?_
                              simp only [Act.put, List.getElem_toArray, List.getElem_cons_succ, List.getElem_cons_zero, List.set_cons_succ, List.set_cons_zero, List.setIfInBounds_toArray]
                              refine wpAnyH_take (i := 7) (v := .pointer (some ⟨b, off + (k - 1) * 4, none⟩)) rfl (by kernel_rfl) (by kernel_rfl) (by kernel_rfl) (fun _ _ _ h => h) (.inl ⟨by kernel_rfl, fun wx _ => by go_simp⟩) hS ?_
                              simp only [Act.put, List.getElem_toArray, List.getElem_cons_succ, List.getElem_cons_zero, List.set_cons_succ, List.set_cons_zero, List.setIfInBounds_toArray]
                              refine wpAnyH_take (i := 8) (v := .int .i64 x.f.num) rfl (by kernel_rfl) (by kernel_rfl) (by kernel_rfl) (fun _ _ _ h => h) (.inl ⟨by kernel_rfl, fun wx hX => by obtain ⟨s0, s2, t0, t2⟩ := SK.out wx hX; go_simp⟩) hS ?_
                              simp only [Act.put, List.getElem_toArray, List.getElem_cons_succ, List.getElem_cons_zero, List.set_cons_succ, List.set_cons_zero, List.setIfInBounds_toArray]
                              refine wpAnyH_take (i := 9) (v := .slice (some ⟨b, off, none⟩) n ci) rfl (by kernel_rfl) (by kernel_rfl) (by kernel_rfl) (fun _ _ _ h => h) (.inl ⟨by kernel_rfl, fun wx _ => by go_simp⟩) hS ?_
                              simp only [Act.put, List.getElem_toArray, List.getElem_cons_succ, List.getElem_cons_zero, List.set_cons_succ, List.set_cons_zero, List.setIfInBounds_toArray]
                              refine wpAnyH_take (i := 10) (v := .int .i64 (k : Int)) rfl (by kernel_rfl) (by kernel_rfl) (by kernel_rfl) (fun _ _ _ h => h) (.inl ⟨by kernel_rfl, fun wx _ => by go_simp⟩) hS ?_
                              simp only [Act.put, List.getElem_toArray, List.getElem_cons_succ, List.getElem_cons_zero, List.set_cons_succ, List.set_cons_zero, List.setIfInBounds_toArray]
                              refine wpAnyH_take (i := 11) (v := .pointer (some ⟨b, off + k * 4, none⟩)) rfl (by kernel_rfl) (by kernel_rfl) (by kernel_rfl) (fun _ _ _ h => h) (.inl ⟨by kernel_rfl, fun wx _ => by go_simp⟩) hS ?_
                              simp only [Act.put, List.getElem_toArray, List.getElem_cons_succ, List.getElem_cons_zero, List.set_cons_succ, List.set_cons_zero, List.setIfInBounds_toArray]
                              refine wpAnyH_take (i := 12) (v := .pointer (some ⟨b, off + k * 4, none⟩)) rfl (by kernel_rfl) (by kernel_rfl) (by kernel_rfl) (fun _ _ _ h => h) (.inl ⟨by kernel_rfl, fun wx _ => by go_simp⟩) hS ?_
                              simp only [Act.put, List.getElem_toArray, List.getElem_cons_succ, List.getElem_cons_zero, List.set_cons_succ, List.set_cons_zero, List.setIfInBounds_toArray]
                              refine wpAnyH_take (i := 13) (v := .int .i64 y.f.num) rfl (by kernel_rfl) (by kernel_rfl) (by kernel_rfl) (fun _ _ _ h => h) (.inl ⟨by kernel_rfl, fun wx hX => by obtain ⟨s0, s2, t0, t2⟩ := SK.out wx hX; go_simp⟩) hS ?_
                              simp only [Act.put, List.getElem_toArray, List.getElem_cons_succ, List.getElem_cons_zero, List.set_cons_succ, List.set_cons_zero, List.setIfInBounds_toArray]
                              refine wpAnyH_take (i := 14) (v := .bool (decide (y.f.num ≤ x.f.num))) rfl (by kernel_rfl) (by kernel_rfl) (by kernel_rfl) (fun _ _ _ h => h) (.inl ⟨by kernel_rfl, fun wx _ => by go_simp⟩) hS ?_
                              simp only [Act.put, List.getElem_toArray, List.getElem_cons_succ, List.getElem_cons_zero, List.set_cons_succ, List.set_cons_zero, List.setIfInBounds_toArray]
                              by_cases hge : y.f.num ≤ x.f.num
                              · rw [decide_eq_true hge]
                                refine wpAnyH_take (i := 15) (v := .bool true) rfl (by kernel_rfl) (by kernel_rfl) (by kernel_rfl) (fun _ _ _ h => h) (.inl ⟨by kernel_rfl, fun wx _ => by go_simp⟩) hS ?_
                                simp only [Act.put, List.getElem_toArray, List.getElem_cons_succ, List.getElem_cons_zero, List.set_cons_succ, List.set_cons_zero, List.setIfInBounds_toArray]
                                refine wpAnyH_take (i := 16) (v := .bool true) rfl (by kernel_rfl) (by kernel_rfl) (by kernel_rfl) (fun _ _ _ h => h) (.inl ⟨by kernel_rfl, fun wx _ => by go_simp⟩) hS ?_
                                simp only [Act.put, List.getElem_toArray, List.getElem_cons_succ, List.getElem_cons_zero, List.set_cons_succ, List.set_cons_zero, List.setIfInBounds_toArray]
                                refine wpAnyH_take (i := 17) (v := undef) rfl (by kernel_rfl) (by kernel_rfl) (by kernel_rfl) (fun _ _ _ h => h) (.inr ⟨by kernel_rfl, rfl⟩) hS ?_
                                simp only [Act.put, List.getElem_toArray, List.getElem_cons_succ, List.getElem_cons_zero, List.set_cons_succ, List.set_cons_zero, List.setIfInBounds_toArray]
                                refine wpAnyH_take (i := 18) (v := undef) rfl (by kernel_rfl) (by kernel_rfl) (by kernel_rfl) (fun _ _ _ h => h) (.inr ⟨by kernel_rfl, rfl⟩) hS ?_
                                simp only [Act.put, List.getElem_toArray, List.getElem_cons_succ, List.getElem_cons_zero, List.set_cons_succ, List.set_cons_zero, List.setIfInBounds_toArray]
                                refine wpAnyH_take (i := 19) (v := undef) rfl (by kernel_rfl) (by kernel_rfl) (by kernel_rfl) (fun _ _ _ h => h) (.inr ⟨by kernel_rfl, rfl⟩) hS ?_
                                simp only [Act.put, List.getElem_toArray, List.getElem_cons_succ, List.getElem_cons_zero, List.set_cons_succ, List.set_cons_zero, List.setIfInBounds_toArray]
                                refine wpAnyH_take (i := 20) (v := undef) rfl (by kernel_rfl) (by kernel_rfl) (by kernel_rfl) (fun _ _ _ h => h) (.inr ⟨by kernel_rfl, rfl⟩) hS ?_
                                simp only [Act.put, List.getElem_toArray, List.getElem_cons_succ, List.getElem_cons_zero, List.set_cons_succ, List.set_cons_zero, List.setIfInBounds_toArray]
                                refine wpAnyH_take (i := 21) (v := undef) rfl (by kernel_rfl) (by kernel_rfl) (by kernel_rfl) (fun _ _ _ h => h) (.inr ⟨by kernel_rfl, rfl⟩) hS ?_
                                simp only [Act.put, List.getElem_toArray, List.getElem_cons_succ, List.getElem_cons_zero, List.set_cons_succ, List.set_cons_zero, List.setIfInBounds_toArray]
                                refine wpAnyH_take (i := 22) (v := undef) rfl (by kernel_rfl) (by kernel_rfl) (by kernel_rfl) (fun _ _ _ h => h) (.inr ⟨by kernel_rfl, rfl⟩) hS ?_
                                simp only [Act.put, List.getElem_toArray, List.getElem_cons_succ, List.getElem_cons_zero, List.set_cons_succ, List.set_cons_zero, List.setIfInBounds_toArray]
                                refine wpAnyH_take (i := 23) (v := undef) rfl (by kernel_rfl) (by kernel_rfl) (by kernel_rfl) (fun _ _ _ h => h) (.inr ⟨by kernel_rfl, rfl⟩) hS ?_
                                simp only [Act.put, List.getElem_toArray, List.getElem_cons_succ, List.getElem_cons_zero, List.set_cons_succ, List.set_cons_zero, List.setIfInBounds_toArray]
                                refine wpAnyH_take (i := 24) (v := undef) rfl (by kernel_rfl) (by kernel_rfl) (by kernel_rfl) (fun _ _ _ h => h) (.inr ⟨by kernel_rfl, rfl⟩) hS ?_
                                simp only [Act.put, List.getElem_toArray, List.getElem_cons_succ, List.getElem_cons_zero, List.set_cons_succ, List.set_cons_zero, List.setIfInBounds_toArray]
                                refine wpAnyH_take (i := 25) (v := undef) rfl (by kernel_rfl) (by kernel_rfl) (by kernel_rfl) (fun _ _ _ h => h) (.inr ⟨by kernel_rfl, rfl⟩) hS ?_
                                simp only [Act.put, List.getElem_toArray, List.getElem_cons_succ, List.getElem_cons_zero, List.set_cons_succ, List.set_cons_zero, List.setIfInBounds_toArray]
                                refine wpAnyH_take (i := 26) (v := undef) rfl (by kernel_rfl) (by kernel_rfl) (by kernel_rfl) (fun _ _ _ h => h) (.inr ⟨by kernel_rfl, rfl⟩) hS ?_
                                simp only [Act.put, List.getElem_toArray, List.getElem_cons_succ, List.getElem_cons_zero, List.set_cons_succ, List.set_cons_zero, List.setIfInBounds_toArray]
                                refine wpAnyH_take (i := 27) (v := undef) rfl (by kernel_rfl) (by kernel_rfl) (by kernel_rfl) (fun _ _ _ h => h) (.inr ⟨by kernel_rfl, rfl⟩) hS ?_
                                simp only [Act.put, List.getElem_toArray, List.getElem_cons_succ, List.getElem_cons_zero, List.set_cons_succ, List.set_cons_zero, List.setIfInBounds_toArray]
                                refine wpAnyH_take (i := 28) (v := undef) rfl (by kernel_rfl) (by kernel_rfl) (by kernel_rfl) (fun _ _ _ h => h) (.inr ⟨by kernel_rfl, rfl⟩) hS ?_
                                simp only [Act.put, List.getElem_toArray, List.getElem_cons_succ, List.getElem_cons_zero, List.set_cons_succ, List.set_cons_zero, List.setIfInBounds_toArray]
                                refine wpAnyH_take (i := 29) (v := undef) rfl (by kernel_rfl) (by kernel_rfl) (by kernel_rfl) (fun _ _ _ h => h) (.inr ⟨by kernel_rfl, rfl⟩) hS ?_
                                simp only [Act.put, List.getElem_toArray, List.getElem_cons_succ, List.getElem_cons_zero, List.set_cons_succ, List.set_cons_zero, List.setIfInBounds_toArray]
                                refine wpAnyH_take (i := 30) (v := undef) rfl (by kernel_rfl) (by kernel_rfl) (by kernel_rfl) (fun _ _ _ h => h) (.inr ⟨by kernel_rfl, rfl⟩) hS ?_
                                simp only [Act.put, List.getElem_toArray, List.getElem_cons_succ, List.getElem_cons_zero, List.set_cons_succ, List.set_cons_zero, List.setIfInBounds_toArray]
                                refine wpAnyH_take (i := 31) (v := undef) rfl (by kernel_rfl) (by kernel_rfl) (by kernel_rfl) (fun _ _ _ h => h) (.inr ⟨by kernel_rfl, rfl⟩) hS ?_
                                simp only [Act.put, List.getElem_toArray, List.getElem_cons_succ, List.getElem_cons_zero, List.set_cons_succ, List.set_cons_zero, List.setIfInBounds_toArray]
                                refine wpAnyH_take (i := 32) (v := undef) rfl (by kernel_rfl) (by kernel_rfl) (by kernel_rfl) (fun _ _ _ h => h) (.inr ⟨by kernel_rfl, rfl⟩) hS ?_
                                simp only [Act.put, List.getElem_toArray, List.getElem_cons_succ, List.getElem_cons_zero, List.set_cons_succ, List.set_cons_zero, List.setIfInBounds_toArray]
                                refine wpAnyH_take (i := 33) (v := undef) rfl (by kernel_rfl) (by kernel_rfl) (by kernel_rfl) (fun _ _ _ h => h) (.inr ⟨by kernel_rfl, rfl⟩) hS ?_
                                simp only [Act.put, List.getElem_toArray, List.getElem_cons_succ, List.getElem_cons_zero, List.set_cons_succ, List.set_cons_zero, List.setIfInBounds_toArray]
                                refine wpAnyH_take (i := 34) (v := .bool true) rfl (by kernel_rfl) (by kernel_rfl) (by kernel_rfl) (fun _ _ _ h => h) (.inl ⟨by kernel_rfl, fun wx _ => by go_simp⟩) hS ?_
                                simp only [Act.put, List.getElem_toArray, List.getElem_cons_succ, List.getElem_cons_zero, List.set_cons_succ, List.set_cons_zero, List.setIfInBounds_toArray]
                                clear h0e h0f
                                clear hS
                                refine wpAnyH_done (by kernel_rfl) ?_ _
                                go_wp2
                                go_meet
                                case rel => exact ⟨by rw [HCM.out H0.out, decide_eq_true hge], (Fr.refl [] wr).drew⟩
                              · rw [decide_eq_false hge]
                                refine wpAnyH_take (i := 15) (v := .bool false) rfl (by kernel_rfl) (by kernel_rfl) (by kernel_rfl) (fun _ _ _ h => h) (.inl ⟨by kernel_rfl, fun wx _ => by go_simp⟩) hS ?_
                                simp only [Act.put, List.getElem_toArray, List.getElem_cons_succ, List.getElem_cons_zero, List.set_cons_succ, List.set_cons_zero, List.setIfInBounds_toArray]
                                refine wpAnyH_take (i := 16) (v := .bool false) rfl (by kernel_rfl) (by kernel_rfl) (by kernel_rfl) (fun _ _ _ h => h) (.inl ⟨by kernel_rfl, fun wx _ => by go_simp⟩) hS ?_
                                simp only [Act.put, List.getElem_toArray, List.getElem_cons_succ, List.getElem_cons_zero, List.set_cons_succ, List.set_cons_zero, List.setIfInBounds_toArray]
                                refine wpAnyH_take (i := 17) (v := .int .i64 (i : Int)) rfl (by kernel_rfl) (by kernel_rfl) (by kernel_rfl) (fun _ _ _ h => h) (.inl ⟨by kernel_rfl, fun wx _ => by go_simp⟩) hS ?_
                                simp only [Act.put, List.getElem_toArray, List.getElem_cons_succ, List.getElem_cons_zero, List.set_cons_succ, List.set_cons_zero, List.setIfInBounds_toArray]
                                refine wpAnyH_take (i := 18) (v := .bool (decide ((0 : Int) < (i : Int)))) rfl (by kernel_rfl) (by kernel_rfl) (by kernel_rfl) (fun _ _ _ h => h) (.inl ⟨by kernel_rfl, fun wx _ => by go_simp⟩) hS ?_
                                simp only [Act.put, List.getElem_toArray, List.getElem_cons_succ, List.getElem_cons_zero, List.set_cons_succ, List.set_cons_zero, List.setIfInBounds_toArray]
                                rw [h0f]
                                refine wpAnyH_take (i := 19) (v := .bool false) rfl (by kernel_rfl) (by kernel_rfl) (by kernel_rfl) (fun _ _ _ h => h) (.inl ⟨by kernel_rfl, fun wx _ => by go_simp⟩) hS ?_
                                simp only [Act.put, List.getElem_toArray, List.getElem_cons_succ, List.getElem_cons_zero, List.set_cons_succ, List.set_cons_zero, List.setIfInBounds_toArray]
                                refine wpAnyH_take (i := 20) (v := undef) rfl (by kernel_rfl) (by kernel_rfl) (by kernel_rfl) (fun _ _ _ h => h) (.inr ⟨by kernel_rfl, rfl⟩) hS ?_
                                simp only [Act.put, List.getElem_toArray, List.getElem_cons_succ, List.getElem_cons_zero, List.set_cons_succ, List.set_cons_zero, List.setIfInBounds_toArray]
                                refine wpAnyH_take (i := 21) (v := undef) rfl (by kernel_rfl) (by kernel_rfl) (by kernel_rfl) (fun _ _ _ h => h) (.inr ⟨by kernel_rfl, rfl⟩) hS ?_
                                simp only [Act.put, List.getElem_toArray, List.getElem_cons_succ, List.getElem_cons_zero, List.set_cons_succ, List.set_cons_zero, List.setIfInBounds_toArray]
                                refine wpAnyH_take (i := 22) (v := undef) rfl (by kernel_rfl) (by kernel_rfl) (by kernel_rfl) (fun _ _ _ h => h) (.inr ⟨by kernel_rfl, rfl⟩) hS ?_
                                simp only [Act.put, List.getElem_toArray, List.getElem_cons_succ, List.getElem_cons_zero, List.set_cons_succ, List.set_cons_zero, List.setIfInBounds_toArray]
                                refine wpAnyH_take (i := 23) (v := undef) rfl (by kernel_rfl) (by kernel_rfl) (by kernel_rfl) (fun _ _ _ h => h) (.inr ⟨by kernel_rfl, rfl⟩) hS ?_
                                simp only [Act.put, List.getElem_toArray, List.getElem_cons_succ, List.getElem_cons_zero, List.set_cons_succ, List.set_cons_zero, List.setIfInBounds_toArray]
                                refine wpAnyH_take (i := 24) (v := undef) rfl (by kernel_rfl) (by kernel_rfl) (by kernel_rfl) (fun _ _ _ h => h) (.inr ⟨by kernel_rfl, rfl⟩) hS ?_
                                simp only [Act.put, List.getElem_toArray, List.getElem_cons_succ, List.getElem_cons_zero, List.set_cons_succ, List.set_cons_zero, List.setIfInBounds_toArray]
                                refine wpAnyH_take (i := 25) (v := undef) rfl (by kernel_rfl) (by kernel_rfl) (by kernel_rfl) (fun _ _ _ h => h) (.inr ⟨by kernel_rfl, rfl⟩) hS ?_
                                simp only [Act.put, List.getElem_toArray, List.getElem_cons_succ, List.getElem_cons_zero, List.set_cons_succ, List.set_cons_zero, List.setIfInBounds_toArray]
                                refine wpAnyH_take (i := 26) (v := undef) rfl (by kernel_rfl) (by kernel_rfl) (by kernel_rfl) (fun _ _ _ h => h) (.inr ⟨by kernel_rfl, rfl⟩) hS ?_
                                simp only [Act.put, List.getElem_toArray, List.getElem_cons_succ, List.getElem_cons_zero, List.set_cons_succ, List.set_cons_zero, List.setIfInBounds_toArray]
                                refine wpAnyH_take (i := 27) (v := undef) rfl (by kernel_rfl) (by kernel_rfl) (by kernel_rfl) (fun _ _ _ h => h) (.inr ⟨by kernel_rfl, rfl⟩) hS ?_
                                simp only [Act.put, List.getElem_toArray, List.getElem_cons_succ, List.getElem_cons_zero, List.set_cons_succ, List.set_cons_zero, List.setIfInBounds_toArray]
                                refine wpAnyH_take (i := 28) (v := undef) rfl (by kernel_rfl) (by kernel_rfl) (by kernel_rfl) (fun _ _ _ h => h) (.inr ⟨by kernel_rfl, rfl⟩) hS ?_
                                simp only [Act.put, List.getElem_toArray, List.getElem_cons_succ, List.getElem_cons_zero, List.set_cons_succ, List.set_cons_zero, List.setIfInBounds_toArray]
                                refine wpAnyH_take (i := 29) (v := undef) rfl (by kernel_rfl) (by kernel_rfl) (by kernel_rfl) (fun _ _ _ h => h) (.inr ⟨by kernel_rfl, rfl⟩) hS ?_
                                simp only [Act.put, List.getElem_toArray, List.getElem_cons_succ, List.getElem_cons_zero, List.set_cons_succ, List.set_cons_zero, List.setIfInBounds_toArray]
                                refine wpAnyH_take (i := 30) (v := undef) rfl (by kernel_rfl) (by kernel_rfl) (by kernel_rfl) (fun _ _ _ h => h) (.inr ⟨by kernel_rfl, rfl⟩) hS ?_
                                simp only [Act.put, List.getElem_toArray, List.getElem_cons_succ, List.getElem_cons_zero, List.set_cons_succ, List.set_cons_zero, List.setIfInBounds_toArray]
                                refine wpAnyH_take (i := 31) (v := undef) rfl (by kernel_rfl) (by kernel_rfl) (by kernel_rfl) (fun _ _ _ h => h) (.inr ⟨by kernel_rfl, rfl⟩) hS ?_
                                simp only [Act.put, List.getElem_toArray, List.getElem_cons_succ, List.getElem_cons_zero, List.set_cons_succ, List.set_cons_zero, List.setIfInBounds_toArray]
                                refine wpAnyH_take (i := 32) (v := undef) rfl (by kernel_rfl) (by kernel_rfl) (by kernel_rfl) (fun _ _ _ h => h) (.inr ⟨by kernel_rfl, rfl⟩) hS ?_
                                simp only [Act.put, List.getElem_toArray, List.getElem_cons_succ, List.getElem_cons_zero, List.set_cons_succ, List.set_cons_zero, List.setIfInBounds_toArray]
                                refine wpAnyH_take (i := 33) (v := .bool false) rfl (by kernel_rfl) (by kernel_rfl) (by kernel_rfl) (fun _ _ _ h => h) (.inl ⟨by kernel_rfl, fun wx _ => by go_simp⟩) hS ?_
                                simp only [Act.put, List.getElem_toArray, List.getElem_cons_succ, List.getElem_cons_zero, List.set_cons_succ, List.set_cons_zero, List.setIfInBounds_toArray]
                                refine wpAnyH_take (i := 34) (v := .bool false) rfl (by kernel_rfl) (by kernel_rfl) (by kernel_rfl) (fun _ _ _ h => h) (.inl ⟨by kernel_rfl, fun wx _ => by go_simp⟩) hS ?_
                                simp only [Act.put, List.getElem_toArray, List.getElem_cons_succ, List.getElem_cons_zero, List.set_cons_succ, List.set_cons_zero, List.setIfInBounds_toArray]
                                clear h0e h0f
                                clear hS
                                refine wpAnyH_done (by kernel_rfl) ?_ _
                                go_wp2
                                go_meet
                                case rel => exact ⟨by rw [HCM.out H0.out, decide_eq_false (by omega)], (Fr.refl [] wr).drew⟩
                            · have h0e : ((i : Int) == 0) = false := by simp; omega
                              have h0f : decide ((0 : Int) < (i : Int)) = true := decide_eq_true (by omega)
                              have HCM : Hid (0 < i → (!decide (cmpF i x.f y.f < 0)) = decide (0 ≤ ordK x.f.least y.f.least)) := hid (fun h => by
                                unfold cmpF
                                rw [if_neg (by omega)]
                                by_cases hh : ordK x.f.least y.f.least < 0
                                · rw [decide_eq_true hh, decide_eq_false (by omega)]; rfl
                                · rw [decide_eq_false hh, decide_eq_true (by omega)]; rfl)
                              refine wp_region_held_drew (S := fun w' => Fr [] wr w') (by kernel_rfl) (Fr.refl [] wr).drew (fun hS => ?_)
                              refine wpAnyH_take (i := 0) (v := .int .i64 (i : Int)) rfl (by kernel_rfl) (by kernel_rfl) (by kernel_rfl) (fun _ _ _ h => h) (.inl ⟨by kernel_rfl, fun wx _ => by go_simp⟩) hS ?_
                              simp only [Act.put, List.getElem_toArray, List.getElem_cons_zero, List.set_cons_succ, List.set_cons_zero, List.setIfInBounds_toArray]
                              refine wpAnyH_take (i := 1) (v := .bool ((i : Int) == 0)) rfl (by kernel_rfl) (by kernel_rfl) (by kernel_rfl) (fun _ _ _ h => h) (.inl ⟨by kernel_rfl, fun wx _ => by go_simp⟩) hS ?_
                              simp only [Act.put, List.getElem_toArray, List.getElem_cons_succ, List.getElem_cons_zero, List.set_cons_succ, List.set_cons_zero, List.setIfInBounds_toArray]
                              rw [h0e]
                              refine wpAnyH_take (i := 2) (v := .bool false) rfl (by kernel_rfl) (by kernel_rfl) (by kernel_rfl) (fun _ _ _ h => h) (.inl ⟨by kernel_rfl, fun wx _ => by go_simp⟩) hS ?_
                              simp only [Act.put, List.getElem_toArray, List.getElem_cons_succ, List.getElem_cons_zero, List.set_cons_succ, List.set_cons_zero, List.setIfInBounds_toArray]
                              refine wpAnyH_take (i := 3) (v := undef) rfl (by kernel_rfl) (by kernel_rfl) (by kernel_rfl) (fun _ _ _ h => h) (.inr ⟨by kernel_rfl, rfl⟩) hS ?_
                              simp only [Act.put, List.getElem_toArray, List.getElem_cons_succ, List.getElem_cons_zero, List.set_cons_succ, List.set_cons_zero, List.setIfInBounds_toArray]
                              refine wpAnyH_take (i := 4) (v := undef) rfl (by kernel_rfl) (by kernel_rfl) (by kernel_rfl) (fun _ _ _ h => h) (.inr ⟨by kernel_rfl, rfl⟩) hS ?_
                              simp only [Act.put, List.getElem_toArray, List.getElem_cons_succ, List.getElem_cons_zero, List.set_cons_succ, List.set_cons_zero, List.setIfInBounds_toArray]
                              refine wpAnyH_take (i := 5) (v := undef) rfl (by kernel_rfl) (by kernel_rfl) (by kernel_rfl) (fun _ _ _ h => h) (.inr ⟨by kernel_rfl, rfl⟩) hS ?_
                              simp only [Act.put, List.getElem_toArray, List.getElem_cons_succ, List.getElem_cons_zero, List.set_cons_succ, List.set_cons_zero, List.setIfInBounds_toArray]
                              refine wpAnyH_take (i := 6) (v := undef) rfl (by kernel_rfl) (by kernel_rfl) (by kernel_rfl) (fun _ _ _ h => h) (.inr ⟨by kernel_rfl, rfl⟩) hS ?_
                              simp only [Act.put, List.getElem_toArray, List.getElem_cons_succ, List.getElem_cons_zero, List.set_cons_succ, List.set_cons_zero, List.setIfInBounds_toArray]
                              refine wpAnyH_take (i := 7) (v := undef) rfl (by kernel_rfl) (by kernel_rfl) (by kernel_rfl) (fun _ _ _ h => h) (.inr ⟨by kernel_rfl, rfl⟩) hS ?_
                              simp only [Act.put, List.getElem_toArray, List.getElem_cons_succ, List.getElem_cons_zero, List.set_cons_succ, List.set_cons_zero, List.setIfInBounds_toArray]
                              refine wpAnyH_take (i := 8) (v := undef) rfl (by kernel_rfl) (by kernel_rfl) (by kernel_rfl) (fun _ _ _ h => h) (.inr ⟨by kernel_rfl, rfl⟩) hS ?_
                              simp only [Act.put, List.getElem_toArray, List.getElem_cons_succ, List.getElem_cons_zero, List.set_cons_succ, List.set_cons_zero, List.setIfInBounds_toArray]
                              refine wpAnyH_take (i := 9) (v := undef) rfl (by kernel_rfl) (by kernel_rfl) (by kernel_rfl) (fun _ _ _ h => h) (.inr ⟨by kernel_rfl, rfl⟩) hS ?_
                              simp only [Act.put, List.getElem_toArray, List.getElem_cons_succ, List.getElem_cons_zero, List.set_cons_succ, List.set_cons_zero, List.setIfInBounds_toArray]
                              refine wpAnyH_take (i := 10) (v := undef) rfl (by kernel_rfl) (by kernel_rfl) (by kernel_rfl) (fun _ _ _ h => h) (.inr ⟨by kernel_rfl, rfl⟩) hS ?_
                              simp only [Act.put, List.getElem_toArray, List.getElem_cons_succ, List.getElem_cons_zero, List.set_cons_succ, List.set_cons_zero, List.setIfInBounds_toArray]
                              refine wpAnyH_take (i := 11) (v := undef) rfl (by kernel_rfl) (by kernel_rfl) (by kernel_rfl) (fun _ _ _ h => h) (.inr ⟨by kernel_rfl, rfl⟩) hS ?_
                              simp only [Act.put, List.getElem_toArray, List.getElem_cons_succ, List.getElem_cons_zero, List.set_cons_succ, List.set_cons_zero, List.setIfInBounds_toArray]
                              refine wpAnyH_take (i := 12) (v := undef) rfl (by kernel_rfl) (by kernel_rfl) (by kernel_rfl) (fun _ _ _ h => h) (.inr ⟨by kernel_rfl, rfl⟩) hS ?_
                              simp only [Act.put, List.getElem_toArray, List.getElem_cons_succ, List.getElem_cons_zero, List.set_cons_succ, List.set_cons_zero, List.setIfInBounds_toArray]
                              refine wpAnyH_take (i := 13) (v := undef) rfl (by kernel_rfl) (by kernel_rfl) (by kernel_rfl) (fun _ _ _ h => h) (.inr ⟨by kernel_rfl, rfl⟩) hS ?_
                              simp only [Act.put, List.getElem_toArray, List.getElem_cons_succ, List.getElem_cons_zero, List.set_cons_succ, List.set_cons_zero, List.setIfInBounds_toArray]
                              refine wpAnyH_take (i := 14) (v := undef) rfl (by kernel_rfl) (by kernel_rfl) (by kernel_rfl) (fun _ _ _ h => h) (.inr ⟨by kernel_rfl, rfl⟩) hS ?_
                              simp only [Act.put, List.getElem_toArray, List.getElem_cons_succ, List.getElem_cons_zero, List.set_cons_succ, List.set_cons_zero, List.setIfInBounds_toArray]
                              refine wpAnyH_take (i := 15) (v := .bool false) rfl (by kernel_rfl) (by kernel_rfl) (by kernel_rfl) (fun _ _ _ h => h) (.inl ⟨by kernel_rfl, fun wx _ => by go_simp⟩) hS ?_
                              simp only [Act.put, List.getElem_toArray, List.getElem_cons_succ, List.getElem_cons_zero, List.set_cons_succ, List.set_cons_zero, List.setIfInBounds_toArray]
                              refine wpAnyH_take (i := 16) (v := .bool false) rfl (by kernel_rfl) (by kernel_rfl) (by kernel_rfl) (fun _ _ _ h => h) (.inl ⟨by kernel_rfl, fun wx _ => by go_simp⟩) hS ?_
                              simp only [Act.put, List.getElem_toArray, List.getElem_cons_succ, List.getElem_cons_zero, List.set_cons_succ, List.set_cons_zero, List.setIfInBounds_toArray]
                              refine wpAnyH_take (i := 17) (v := .int .i64 (i : Int)) rfl (by kernel_rfl) (by kernel_rfl) (by kernel_rfl) (fun _ _ _ h => h) (.inl ⟨by kernel_rfl, fun wx _ => by go_simp⟩) hS ?_
                              simp only [Act.put, List.getElem_toArray, List.getElem_cons_succ, List.getElem_cons_zero, List.set_cons_succ, List.set_cons_zero, List.setIfInBounds_toArray]
                              refine wpAnyH_take (i := 18) (v := .bool (decide ((0 : Int) < (i : Int)))) rfl (by kernel_rfl) (by kernel_rfl) (by kernel_rfl) (fun _ _ _ h => h) (.inl ⟨by kernel_rfl, fun wx _ => by go_simp⟩) hS ?_
                              simp only [Act.put, List.getElem_toArray, List.getElem_cons_succ, List.getElem_cons_zero, List.set_cons_succ, List.set_cons_zero, List.setIfInBounds_toArray]
                              rw [h0f]
                              refine wpAnyH_take (i := 19) (v := .bool true) rfl (by kernel_rfl) (by kernel_rfl) (by kernel_rfl) (fun _ _ _ h => h) (.inl ⟨by kernel_rfl, fun wx _ => by go_simp⟩) hS ?_
                              simp only [Act.put, List.getElem_toArray, List.getElem_cons_succ, List.getElem_cons_zero, List.set_cons_succ, List.set_cons_zero, List.setIfInBounds_toArray]
                              refine wpAnyH_take (i := 20) (v := .slice (some ⟨b, off, none⟩) n ci) rfl (by kernel_rfl) (by kernel_rfl) (by kernel_rfl) (fun _ _ _ h => h) (.inl ⟨by kernel_rfl, fun wx _ => by go_simp⟩) hS ?_
                              simp only [Act.put, List.getElem_toArray, List.getElem_cons_succ, List.getElem_cons_zero, List.set_cons_succ, List.set_cons_zero, List.setIfInBounds_toArray]
                              refine wpAnyH_take (i := 21) (v := .int .i64 (k : Int)) rfl (by kernel_rfl) (by kernel_rfl) (by kernel_rfl) (fun _ _ _ h => h) (.inl ⟨by kernel_rfl, fun wx _ => by go_simp⟩) hS ?_
                              simp only [Act.put, List.getElem_toArray, List.getElem_cons_succ, List.getElem_cons_zero, List.set_cons_succ, List.set_cons_zero, List.setIfInBounds_toArray]
                              refine wpAnyH_take (i := 22) (v := .int .i64 ((k : Int) - 1)) rfl (by kernel_rfl) (by kernel_rfl) (by kernel_rfl) (fun _ _ _ h => h) (.inl ⟨by kernel_rfl, fun wx _ => by go_simp⟩) hS ?_
                              simp only [Act.put, List.getElem_toArray, List.getElem_cons_succ, List.getElem_cons_zero, List.set_cons_succ, List.set_cons_zero, List.setIfInBounds_toArray]
                              refine wpAnyH_take (i := 23) (v := .pointer (some ⟨b, off + (k - 1) * 4, none⟩)) rfl (by kernel_rfl) (by kernel_rfl) (by kernel_rfl) (fun _ _ _ h => h) (.inl ⟨by kernel_rfl, fun wx _ => by go_simp⟩) hS ?_
                              simp only [Act.put, List.getElem_toArray, List.getElem_cons_succ, List.getElem_cons_zero, List.set_cons_succ, List.set_cons_zero, List.setIfInBounds_toArray]
                              refine wpAnyH_take (i := 24) (v := .pointer (some ⟨b, off + (k - 1) * 4 + 2, none⟩)) rfl (by kernel_rfl) (by kernel_rfl) (by kernel_rfl) (fun _ _ _ h => h) (.inl ⟨by kernel_rfl, fun wx _ => by go_simp⟩) hS ?_
                              simp only [Act.put, List.getElem_toArray, List.getElem_cons_succ, List.getElem_cons_zero, List.set_cons_succ, List.set_cons_zero, List.setIfInBounds_toArray]
                              refine wpAnyH_take (i := 25) (v := .slice x.la x.f.least.length x.lc) rfl (by kernel_rfl) (by kernel_rfl) (by kernel_rfl) (fun _ _ _ h => h) (.inl ⟨by kernel_rfl, fun wx hX => by obtain ⟨s0, s2, t0, t2⟩ := SK.out wx hX; go_simp⟩) hS ?_
                              simp only [Act.put, List.getElem_toArray, List.getElem_cons_succ, List.getElem_cons_zero, List.set_cons_succ, List.set_cons_zero, List.setIfInBounds_toArray]
                              refine wpAnyH_take (i := 26) (v := .slice (some ⟨b, off, none⟩) n ci) rfl (by kernel_rfl) (by kernel_rfl) (by kernel_rfl) (fun _ _ _ h => h) (.inl ⟨by kernel_rfl, fun wx _ => by go_simp⟩) hS ?_
                              simp only [Act.put, List.getElem_toArray, List.getElem_cons_succ, List.getElem_cons_zero, List.set_cons_succ, List.set_cons_zero, List.setIfInBounds_toArray]
                              refine wpAnyH_take (i := 27) (v := .int .i64 (k : Int)) rfl (by kernel_rfl) (by kernel_rfl) (by kernel_rfl) (fun _ _ _ h => h) (.inl ⟨by kernel_rfl, fun wx _ => by go_simp⟩) hS ?_
                              simp only [Act.put, List.getElem_toArray, List.getElem_cons_succ, List.getElem_cons_zero, List.set_cons_succ, List.set_cons_zero, List.setIfInBounds_toArray]
                              refine wpAnyH_take (i := 28) (v := .pointer (some ⟨b, off + k * 4, none⟩)) rfl (by kernel_rfl) (by kernel_rfl) (by kernel_rfl) (fun _ _ _ h => h) (.inl ⟨by kernel_rfl, fun wx _ => by go_simp⟩) hS ?_
                              simp only [Act.put, List.getElem_toArray, List.getElem_cons_succ, List.getElem_cons_zero, List.set_cons_succ, List.set_cons_zero, List.setIfInBounds_toArray]
                              refine wpAnyH_take (i := 29) (v := .pointer (some ⟨b, off + k * 4 + 2, none⟩)) rfl (by kernel_rfl) (by kernel_rfl) (by kernel_rfl) (fun _ _ _ h => h) (.inl ⟨by kernel_rfl, fun wx _ => by go_simp⟩) hS ?_
                              simp only [Act.put, List.getElem_toArray, List.getElem_cons_succ, List.getElem_cons_zero, List.set_cons_succ, List.set_cons_zero, List.setIfInBounds_toArray]
                              refine wpAnyH_take (i := 30) (v := .slice y.la y.f.least.length y.lc) rfl (by kernel_rfl) (by kernel_rfl) (by kernel_rfl) (fun _ _ _ h => h) (.inl ⟨by kernel_rfl, fun wx hX => by obtain ⟨s0, s2, t0, t2⟩ := SK.out wx hX; go_simp⟩) hS ?_
                              simp only [Act.put, List.getElem_toArray, List.getElem_cons_succ, List.getElem_cons_zero, List.set_cons_succ, List.set_cons_zero, List.setIfInBounds_toArray]
                              clear hS
                              refine wpAnyH_ready (rs := [31]) (by kernel_rfl) (by simp) ?_
                              refine AllReadyH.cons rfl (fun K hK => ?_) AllReadyH.nil
                              go_simp
                              refine (OR.out _ (Fr.refl [] wr).drew).mono ?_
                              rintro r w4 ⟨rfl, f4⟩
                              have F4 := hid ((Fr.refl [] wr).drew.trans f4)
                              clear f4
                              refine hK.out _ _ F4.out (fun hS => ?_)
                              clear hK K
                              refine wpAnyH_take (i := 32) (v := .bool (decide (0 ≤ ordK x.f.least y.f.least))) rfl (by kernel_rfl) (by kernel_rfl) (by kernel_rfl) (fun _ _ _ h => h) (.inl ⟨by kernel_rfl, fun wx _ => by go_simp⟩) hS ?_
                              simp only [Act.put, List.getElem_toArray, List.getElem_cons_succ, List.getElem_cons_zero, List.set_cons_succ, List.set_cons_zero, List.setIfInBounds_toArray]
                              refine wpAnyH_take (i := 33) (v := .bool (decide (0 ≤ ordK x.f.least y.f.least))) rfl (by kernel_rfl) (by kernel_rfl) (by kernel_rfl) (fun _ _ _ h => h) (.inl ⟨by kernel_rfl, fun wx _ => by go_simp⟩) hS ?_
                              simp only [Act.put, List.getElem_toArray, List.getElem_cons_succ, List.getElem_cons_zero, List.set_cons_succ, List.set_cons_zero, List.setIfInBounds_toArray]
                              refine wpAnyH_take (i := 34) (v := .bool (decide (0 ≤ ordK x.f.least y.f.least))) rfl (by kernel_rfl) (by kernel_rfl) (by kernel_rfl) (fun _ _ _ h => h) (.inl ⟨by kernel_rfl, fun wx _ => by go_simp⟩) hS ?_
                              simp only [Act.put, List.getElem_toArray, List.getElem_cons_succ, List.getElem_cons_zero, List.set_cons_succ, List.set_cons_zero, List.setIfInBounds_toArray]
                              clear hS
                              refine wpAnyH_done (by kernel_rfl) ?_ _
                              go_wp2
                              go_meet
                              case rel => exact ⟨by rw [HCM.out h0], F4.out⟩
                          case rest =>
                            obtain ⟨rfl, fc⟩ := hcut
                            have FC := hid fc
                            clear fc SK OR
                            by_cases he : cmpF i x.f y.f < 0
                            · have HNE := hid he
                              rw [decide_eq_true he]
                              clear he
                              go_wp2_with fail
                              go_roundw
                              case rel => exact ⟨k + 1, by omega, .inl (by omega), by go_num, fun j x' y' h1 h2 hx' hy' => by
                                rcases Nat.lt_or_ge j k with h | h
                                · exact HQ1.out j x' y' h1 h hx' hy'
                                · have e : j = k := by omega
                                  subst e
                                  rw [HX.out] at hx'
                                  rw [HY.out] at hy'
                                  cases hx'
                                  cases hy'
                                  exact HNE.out, HF.out.trans FC.out⟩
                              case measure => simp [intOf]; omega
                            · have HE : Hid (C = 93) := hid (by
                                rw [HC6.out, if_pos]
                                rw [Bool.eq_false_iff]
                                intro h
                                have h1 := List.all_eq_true.1 h i (by simpa using hlt)
                                have h2 := (risesF_iff i _).1 h1 (k - 1) x.f y.f (at_map HLV.out HX.out) (by rw [show k - 1 + 1 = k from by omega]; exact at_map HLV.out HY.out)
                                unfold apartF at h2
                                rw [decide_eq_false he] at h2
                                cases h2)
                              rw [decide_eq_false he]
                              clear he
                              go_wp2_with fail
                              go_ret
                              exact ⟨by rw [HE.out]; rfl, (F0.out.trans HF.out).trans FC.out⟩
                        · have HOR : Hid (∀ (j : Nat) (x y : Fx), L[j]? = some x → L[j + 1]? = some y → cmpF i x.f y.f < 0) := hid (fun j x y hx hy => by
                            have := (List.getElem?_eq_some_iff.1 hy).1
                            have := HN.out
                            exact HQ1.out (j + 1) x y (by omega) (by omega) (by simpa using hx) hy)
                          have hlk' : ¬ (k : Int) < (n : Int) := by omega
                          clear HQ1
                          go_upto_region 35 with fail
                          go_wp2_with fail
                          clear hlk' hlk hk1 hk2
                          go_loopw [12] (fun v12 wr => ∃ k : Nat, k ≤ n ∧ v12 = .int .i64 (k : Int) ∧ (∀ (j m : Nat) (x y : Fx), j < m → m < k → L[j]? = some x → L[m]? = some y → overF x.f y.f = false) ∧ Fr [] W0 wr) (fun v12 _ => n - (intOf v12).toNat)
                          case atStart => exact ⟨0, by omega, rfl, fun j m x y h1 h2 => by omega, HF.out⟩
                          case round =>
                            clear HF
                            obtain ⟨k, hk, rfl, hq2, hf⟩ := hrel
                            have HQ2 := hid hq2
                            have HF := hid hf
                            clear hq2 hf
                            by_cases hlk : k < n
                            · have hlk' : (k : Int) < (n : Int) := by omega
                              rcases Nat.eq_zero_or_pos i with h0 | h0
                              · have h0' : ¬ (0 : Int) < (i : Int) := by omega
                                have HRI := hid (rises_of HLV.out HOX.out HOR.out (fun h => by omega))
                                clear h0
                                go_wp2_with fail
                                go_roundw
                                case rel => exact ⟨i + 1, by omega, by go_num, fun k hk => by
                                  rcases Nat.lt_or_ge k i with h | h
                                  · exact HQ.out k h
                                  · rw [show k = i from by omega]; exact HRI.out, HF.out⟩
                                case measure => simp [intOf]; omega
                              · have h0' : (0 : Int) < (i : Int) := by omega
                                obtain ⟨y, hy⟩ : ∃ y, L[k]? = some y := ⟨_, List.getElem?_eq_getElem (by have := HN.out; omega)⟩
                                have HY := hid hy
                                clear hy
                                go_wp2_with fail
                                go_loopw [13] (fun v13 wr => ∃ m : Nat, m ≤ k ∧ v13 = .int .i64 (m : Int) ∧ (∀ (j : Nat) (x : Fx), j < m → L[j]? = some x → overF x.f y.f = false) ∧ Fr [] W0 wr) (fun v13 _ => k - (intOf v13).toNat)
                                case atStart => exact ⟨0, by omega, rfl, fun j x hj => by omega, HF.out⟩
                                case round =>
                                  clear HF
                                  obtain ⟨m, hm, rfl, hq3, hf⟩ := hrel
                                  have HQ3 := hid hq3
                                  have HF := hid hf
                                  clear hq3 hf
                                  by_cases hlm : m < k
                                  · have hlm' : (m : Int) < (k : Int) := by omega
                                    have hlm2 : (m : Int) < (n : Int) := by omega
                                    obtain ⟨x, hx⟩ : ∃ x, L[m]? = some x := ⟨_, List.getElem?_eq_getElem (by have := HN.out; omega)⟩
                                    have HX := hid hx
                                    obtain ⟨b, off, hab, kx⟩ := HRX.out wr HF.out (by omega)
                                    have k1 := kx m x hx
                                    have k2 := kx k y HY.out
                                    subst hab
                                    clear kx hx
                                    have SK : Hid (∀ W', Fr [] wr W' → (W'.cell? ⟨b, off + m * 4, none⟩ = some (.int .i64 x.f.num) ∧ W'.cell? ⟨b, off + m * 4 + 1, none⟩ = some (.int .i64 x.f.size) ∧ W'.cell? ⟨b, off + m * 4 + 2, none⟩ = some (.slice x.la x.f.least.length x.lc) ∧ W'.cell? ⟨b, off + m * 4 + 3, none⟩ = some (.slice x.ma x.f.most.length x.mc)) ∧ W'.cell? ⟨b, off + k * 4, none⟩ = some (.int .i64 y.f.num) ∧ W'.cell? ⟨b, off + k * 4 + 1, none⟩ = some (.int .i64 y.f.size) ∧ W'.cell? ⟨b, off + k * 4 + 2, none⟩ = some (.slice y.la y.f.least.length y.lc) ∧ W'.cell? ⟨b, off + k * 4 + 3, none⟩ = some (.slice y.ma y.f.most.length y.mc)) := hid (fun W' f => ⟨⟨cell_fr f k1.c0, cell_fr f k1.c1, cell_fr f k1.c2, cell_fr f k1.c3⟩, cell_fr f k2.c0, cell_fr f k2.c1, cell_fr f k2.c2, cell_fr f k2.c3⟩)
                                    have OV : Hid (∀ W', Fr [] wr W' → _) := hid (fun W' f => rover_c W' (k1.rd.fr f) (k2.rd.fr f) (HOX.out _ x HX.out) (HOX.out _ y HY.out))
                                    clear k1 k2
                                    go_upto_region 41 with fail
                                    go_cut [159] from 151 to 158 (fun v159 W => v159 = .bool (overF x.f y.f) ∧ Fr [] wr W)
                                    case first =>
                                      clear HC6 HOKA HAM HQ HQ2 HQ3 HOR HP HV0 HXM HXL HNIL HSM CI CK HRX HOX HLV HX HY
                                      refine wp_region_held_drew (S := fun w' => Fr [] wr w') (by kernel_rfl) (Fr.refl [] wr).drew (fun hS => ?_)
                                      refine wpAnyH_take (i := 0) (v := .slice (some ⟨b, off, none⟩) n ci) rfl (by kernel_rfl) (by kernel_rfl) (by kernel_rfl) (fun _ _ _ h => h) (.inl ⟨by kernel_rfl, fun wx _ => by go_simp⟩) hS ?_
                                      simp only [Act.put, List.getElem_toArray, List.getElem_cons_zero, List.set_cons_succ, List.set_cons_zero, List.setIfInBounds_toArray]
                                      refine wpAnyH_take (i := 1) (v := .int .i64 (m : Int)) rfl (by kernel_rfl) (by kernel_rfl) (by kernel_rfl) (fun _ _ _ h => h) (.inl ⟨by kernel_rfl, fun wx _ => by go_simp⟩) hS ?_
                                      simp only [Act.put, List.getElem_toArray, List.getElem_cons_succ, List.getElem_cons_zero, List.set_cons_succ, List.set_cons_zero, List.setIfInBounds_toArray]
                                      refine wpAnyH_take (i := 2) (v := .pointer (some ⟨b, off + m * 4, none⟩)) rfl (by kernel_rfl) (by kernel_rfl) (by kernel_rfl) (fun _ _ _ h => h) (.inl ⟨by kernel_rfl, fun wx _ => by go_simp⟩) hS ?_
                                      simp only [Act.put, List.getElem_toArray, List.getElem_cons_succ, List.getElem_cons_zero, List.set_cons_succ, List.set_cons_zero, List.setIfInBounds_toArray]
                                      refine wpAnyH_take (i := 3) (v := .agg #[.int .i64 x.f.num, .int .i64 x.f.size, .slice x.la x.f.least.length x.lc, .slice x.ma x.f.most.length x.mc]) rfl (by kernel_rfl) (by kernel_rfl) (by kernel_rfl) (fun _ _ _ h => h) (.inl ⟨by kernel_rfl, fun wx hX => by obtain ⟨⟨s0, s1, s2, s3⟩, t0, t1, t2, t3⟩ := SK.out wx hX; go_simp⟩) hS ?_
                                      simp only [Act.put, List.getElem_toArray, List.getElem_cons_succ, List.getElem_cons_zero, List.set_cons_succ, List.set_cons_zero, List.setIfInBounds_toArray]
                                      refine wpAnyH_take (i := 4) (v := .slice (some ⟨b, off, none⟩) n ci) rfl (by kernel_rfl) (by kernel_rfl) (by kernel_rfl) (fun _ _ _ h => h) (.inl ⟨by kernel_rfl, fun wx _ => by go_simp⟩) hS ?_
                                      simp only [Act.put, List.getElem_toArray, List.getElem_cons_succ, List.getElem_cons_zero, List.set_cons_succ, List.set_cons_zero, List.setIfInBounds_toArray]
                                      refine wpAnyH_take (i := 5) (v := .int .i64 (k : Int)) rfl (by kernel_rfl) (by kernel_rfl) (by kernel_rfl) (fun _ _ _ h => h) (.inl ⟨by kernel_rfl, fun wx _ => by go_simp⟩) hS ?_
                                      simp only [Act.put, List.getElem_toArray, List.getElem_cons_succ, List.getElem_cons_zero, List.set_cons_succ, List.set_cons_zero, List.setIfInBounds_toArray]
                                      refine wpAnyH_take (i := 6) (v := .pointer (some ⟨b, off + k * 4, none⟩)) rfl (by kernel_rfl) (by kernel_rfl) (by kernel_rfl) (fun _ _ _ h => h) (.inl ⟨by kernel_rfl, fun wx _ => by go_simp⟩) hS ?_
                                      simp only [Act.put, List.getElem_toArray, List.getElem_cons_succ, List.getElem_cons_zero, List.set_cons_succ, List.set_cons_zero, List.setIfInBounds_toArray]
                                      refine wpAnyH_take (i := 7) (v := .agg #[.int .i64 y.f.num, .int .i64 y.f.size, .slice y.la y.f.least.length y.lc, .slice y.ma y.f.most.length y.mc]) rfl (by kernel_rfl) (by kernel_rfl) (by kernel_rfl) (fun _ _ _ h => h) (.inl ⟨by kernel_rfl, fun wx hX => by obtain ⟨⟨s0, s1, s2, s3⟩, t0, t1, t2, t3⟩ := SK.out wx hX; go_simp⟩) hS ?_
                                      simp only [Act.put, List.getElem_toArray, List.getElem_cons_succ, List.getElem_cons_zero, List.set_cons_succ, List.set_cons_zero, List.setIfInBounds_toArray]
                                      clear hS
                                      refine wpAnyH_ready (rs := [8]) (by kernel_rfl) (by simp) ?_
                                      refine AllReadyH.cons rfl (fun K hK => ?_) AllReadyH.nil
                                      go_simp
                                      refine (OV.out _ (Fr.refl [] wr).drew).mono ?_
                                      rintro r w4 ⟨rfl, f4⟩
                                      have F4 := hid ((Fr.refl [] wr).drew.trans f4)
                                      clear f4
                                      refine hK.out _ _ F4.out (fun _ => ?_)
                                      clear hK K
                                      refine wpAnyH_done (by kernel_rfl) ?_ _
                                      go_wp2
                                      go_meet
                                      case rel => exact ⟨rfl, F4.out⟩
                                    case rest =>
                                      obtain ⟨rfl, fc⟩ := hcut
                                      have FC := hid fc
                                      clear fc SK OV
                                      cases he : overF x.f y.f with
                                      | true =>
                                        have HE : Hid (C = 93) := hid (by
                                          rw [HC6.out, if_pos]
                                          rw [Bool.eq_false_iff]
                                          intro h
                                          have h1 := List.all_eq_true.1 h i (by simpa using hlt)
                                          have h2 := over_not h0 (l := v.lv i) (fun f hf => by
                                            obtain ⟨j, hj⟩ := List.mem_iff_getElem?.1 hf
                                            obtain ⟨z, hz, rfl⟩ := map_at HLV.out hj
                                            exact HOX.out j z hz) hlm (at_map HLV.out HX.out) (at_map HLV.out HY.out) he
                                          rw [h2] at h1
                                          cases h1)
                                        clear he
                                        go_wp2_with fail
                                        go_ret
                                        exact ⟨by rw [HE.out]; rfl, (F0.out.trans HF.out).trans FC.out⟩
                                      | false =>
                                        have HNE := hid he
                                        clear he
                                        go_wp2_with fail
                                        go_roundw
                                        case rel => exact ⟨m + 1, by omega, by go_num, fun j z hj hz => by
                                          rcases Nat.lt_or_ge j m with h | h
                                          · exact HQ3.out j z h hz
                                          · have e : j = m := by omega
                                            subst e
                                            rw [HX.out] at hz
                                            cases hz
                                            exact HNE.out, HF.out.trans FC.out⟩
                                        case measure => simp [intOf]; omega
                                  · have hin : k = m := by omega
                                    subst hin
                                    go_wp2_with fail
                                    go_roundw
                                    case rel => exact ⟨k + 1, by omega, by go_num, fun j q x z hjq hq hx hz => by
                                      rcases Nat.lt_or_ge q k with h | h
                                      · exact HQ2.out j q x z hjq h hx hz
                                      · have e : q = k := by omega
                                        subst e
                                        rw [HY.out] at hz
                                        cases hz
                                        exact HQ3.out j x hjq hx, HF.out⟩
                                    case measure => simp [intOf]; omega
                            · have hlk' : ¬ (k : Int) < (n : Int) := by omega
                              have HRI := hid (rises_of HLV.out HOX.out HOR.out (fun _ j x y hx hy => HQ2.out j (j + 1) x y (by omega) (by have := (List.getElem?_eq_some_iff.1 hy).1; have := HN.out; omega) hx hy))
                              go_wp2_with fail
                              go_roundw
                              case rel => exact ⟨i + 1, by omega, by go_num, fun k hk => by
                                rcases Nat.lt_or_ge k i with h | h
                                · exact HQ.out k h
                                · rw [show k = i from by omega]; exact HRI.out, HF.out⟩
                              case measure => simp [intOf]; omega
                    · have hlt' : ¬ (i : Int) < 5 := by omega
                      have hin : i = 5 := by omega
                      have HE : Hid (C = 0) := hid (by
                        rw [HC6.out, if_neg]
                        rw [Bool.not_eq_false, List.all_eq_true]
                        intro k hk
                        exact HQ.out k (by have : k < 5 := by simpa using hk
                                           omega))
                      clear hin hlt hi
                      go_wp2_with fail
                      go_ret
                      exact ⟨by rw [HE.out]; rfl, F0.out.trans HF.out⟩
end Go.Proofs.YtegbngbhmgbocaaGreatDoor
