/-
  ManifestBack walked.
-/
import Derived.Test.YtegbngbhmgbocaaGreatDoorJ33
import Derived.Test.YtegbngbhmgbocaaGreatDoorDM6
import Derived.Test.YtegbngbhmgbocaaGreatDoorEI2
import Derived.Test.YtegbngbhmgbocaaGreatDoorJ34
import Derived.Test.YtegbngbhmgbocaaGreatDoorJ06
namespace Go.Proofs.YtegbngbhmgbocaaGreatDoor
open Go.ChangeShapes Go.WideShapes Go.ChangeAt Go.RowKit

/-- What Encode answers, in one form. -/
structure EFm (w w' : World) (e : Ed) (a : Option Addr) (n c : Nat) (x : Int) : Prop where
  fr : Fr [] w w'
  out : (okE e = true ∧ x = 0 ∧ n = (encE e).length ∧ w'.ownsRow w.heap.size 5 1 (.slice a n c) (encE e).length (bv (encE e))) ∨ (okE e = false ∧ x = 90)
theorem enc_form (w : World) {e : Ed} {da aa : Option Addr} {dc ac : Nat} (h : EAt w e da dc aa ac) (hd1 : e.drop.length ≤ 100000) (ha1 : e.add.length ≤ 100000) :
    Calls Tryz.prog 8 #[.agg #[.int .i64 e.log, .int .i64 e.next, .int .u64 (e.seq : Int), .slice da e.drop.length dc, .slice aa e.add.length ac]] w fun r w' => ∃ a n c x, r = .returned (.tuple #[.slice a n c, .int .i64 x]) ∧ EFm w w' e a n c x := by
  cases hk : okE e with
  | true =>
    refine (enc_ok2 w h hk hd1 ha1).mono ?_
    rintro r w' ⟨v', rfl, o, f⟩
    obtain ⟨a, c, rfl, _⟩ := ownsRow_slice o
    exact ⟨a, _, c, 0, rfl, f, .inl ⟨hk, rfl, rfl, o⟩⟩
  | false =>
    refine (enc_bad w h hk).mono ?_
    rintro r w' ⟨rfl, f⟩
    exact ⟨none, 0, 0, 90, rfl, f, .inr ⟨hk, rfl⟩⟩
/-- What Decode answers, in one form. -/
structure DFm (w w' : World) (b : List Nat) (lg nx : Int) (sq : Nat) (da : Option Addr) (dl dc : Nat) (aa : Option Addr) (al ac : Nat) (x : Int) : Prop where
  fr : Fr [] w w'
  out : (∃ e : Ed, decO b = some e ∧ x = 0 ∧ (lg = e.log ∧ nx = e.next ∧ sq = e.seq ∧ dl = e.drop.length ∧ al = e.add.length) ∧ DO w' w.heap.size (.slice da dl dc) e.drop ∧ AO w' w.heap.size (.slice aa al ac) e.add) ∨ (decO b = none ∧ x = 90)
theorem dec_form (w : World) {a : Option Addr} {L cc : Nat} {b : List Nat} (hr : Rd w (.slice a L cc) (bv b)) (hb : By b) (hL : b.length = L) (hl : L ≤ 50000) :
    Calls Tryz.prog 11 #[.slice a L cc] w fun r w' => ∃ lg nx sq da dl dc aa al ac x, r = .returned (.tuple #[.agg #[.int .i64 lg, .int .i64 nx, .int .u64 ((sq : Nat) : Int), .slice da dl dc, .slice aa al ac], .int .i64 x]) ∧ DFm w w' b lg nx sq da dl dc aa al ac x := by
  refine (decM_c w hr hb hL hl).mono ?_
  rintro r w' ⟨h, f⟩
  cases hd : decO b with
  | none =>
    rw [hd] at h
    exact ⟨0, 0, 0, none, 0, 0, none, 0, 0, 90, h, f, .inr ⟨hd, rfl⟩⟩
  | some e =>
    rw [hd] at h
    obtain ⟨da, dc, aa, ac, h1, h2, h3⟩ := h
    exact ⟨e.log, e.next, e.seq, da, _, dc, aa, _, ac, 0, h1, f, .inl ⟨e, hd, rfl, ⟨rfl, rfl, rfl, rfl, rfl⟩, h2, h3⟩⟩
/-- What Whole answers, in one form. -/
structure WFm (w w' : World) (v : Vn) (a0 a1 a2 : Int) (aa : Option Addr) (al ac : Nat) (c : Int) : Prop where
  fr : Fr [] w w'
  out : c ≠ 0 ∨ (c = 0 ∧ chkV v = 0 ∧ (a0 = v.log ∧ a1 = v.next ∧ a2 = (v.seq : Int)) ∧ al = (allA v.lv 5).length ∧ RdA w' (.slice aa al ac) (allA v.lv 5))
theorem WhOut.form {w w' : World} {v : Vn} {r : Ending} (h : WhOut w w' v r) : ∃ a0 a1 a2 aa al ac c, r = .returned (.tuple #[.agg #[.int .i64 a0, .int .i64 a1, .int .u64 a2, .slice none 0 0, .slice aa al ac], .int .i64 c]) ∧ WFm w w' v a0 a1 a2 aa al ac c := by
  rcases h.out with ⟨h1, rfl⟩ | ⟨h1, aa, al, ac, rfl, h2, h3⟩
  · exact ⟨0, 0, 0, none, 0, 0, _, rfl, h.fr, .inl h1⟩
  · exact ⟨_, _, _, aa, al, ac, 0, rfl, h.fr, .inr ⟨rfl, h1, ⟨rfl, rfl, rfl⟩, h2, h3⟩⟩
theorem decO_ok {b : List Nat} {e : Ed} (h : decO b = some e) : okE e = true := by
  unfold decO at h
  by_cases hc : (adS b).2 = some [] ∧ okE (edS b (drS b).1 (adS b).1) = true
  · rw [if_pos hc] at h
    simp only [Option.some.injEq] at h
    rw [← h]; exact hc.2
  · rw [if_neg hc] at h; cases h
theorem by_app {a b : List Nat} (h : By (a ++ b)) : By a ∧ By b := ⟨fun n hn => h n (by simp [hn]), fun n hn => h n (by simp [hn])⟩
theorem by_flatI {α : Type} {f : α → List Nat} : ∀ (l : List α), By (l.flatMap f) → ∀ x ∈ l, By (f x)
  | [], _, x, hx => by cases hx
  | y :: l, h, x, hx => by
    rw [List.flatMap_cons] at h
    rcases List.mem_cons.1 hx with rfl | hx
    · exact (by_app h).1
    · exact by_flatI l (by_app h).2 x hx
/-- What was read has bytes for keys, and isn't longer than what it was read from. -/
theorem dec_bys {b : List Nat} {e : Ed} (hb : By b) (h : decO b = some e) : (∀ p ∈ e.add, (By p.2.least ∧ p.2.least.length ≤ 140737488355328) ∧ By p.2.most ∧ p.2.most.length ≤ 140737488355328) ∧ e.drop.length ≤ b.length ∧ e.add.length ≤ b.length := by
  have he := enc_decO hb h
  have hok := decO_ok h
  rw [← he] at hb ⊢
  have hb2 := hb
  unfold encE at hb2
  have h1 := by_flatI _ (by_app (by_app (by_app (by_app (by_app (by_app hb2).2).2).2).2).2).2
  refine ⟨fun p hp => ?_, ?_, ?_⟩
  · have h2 := h1 p hp
    unfold encA at h2
    have h3 := (by_app (by_app (by_app (by_app h2).2).2).2).2
    unfold okE at hok
    simp only [Bool.and_eq_true] at hok
    have h4 := List.all_eq_true.1 hok.2.1 p hp
    unfold okA at h4
    simp only [Bool.and_eq_true] at h4
    have h5 := okF_len h4.2
    exact ⟨⟨(by_app h3).1, by omega⟩, (by_app (by_app h3).2).2, by omega⟩
  · have h2 := flat_len9 encD_pos e.drop
    unfold encE
    simp only [List.length_append]
    omega
  · have h2 := flat_len9 encA_pos e.add
    unfold encE
    simp only [List.length_append]
    omega
/-- An edit read: in memory. -/
theorem dec_eat {w' : World} {B : Nat} {b : List Nat} {e : Ed} {da aa : Option Addr} {dc ac : Nat} (hb : By b) (hl : b.length ≤ 140737488355328) (h : decO b = some e) (h1 : DO w' B (.slice da e.drop.length dc) e.drop) (h2 : AO w' B (.slice aa e.add.length ac) e.add) : EAt w' e da dc aa ac := by
  obtain ⟨q1, q2, q3⟩ := dec_bys hb h
  exact ⟨h1.rd, h2.rd (Nat.le_refl _) q1, by omega, by omega⟩
end Go.Proofs.YtegbngbhmgbocaaGreatDoor
namespace Go.Proofs.YtegbngbhmgbocaaGreatDoor
open Go.ChangeShapes Go.WideShapes Go.ChangeAt Go.RowKit

theorem ret_cttt {fn : Func} {p u v x : Tmp} {ty : TypeId} (h : fn.results = #[.cell p ty, .tmp u, .tmp v, .tmp x]) {tmps : Array Value} {w : World} {g : Nat} {cs : Array Value} (hp : tmps.getD p undef = .pointer (some ⟨g, 0, none⟩)) (hg : (loadVar ty ⟨g, 0, none⟩).run Tryz.prog w = .ok (.agg cs) w) :
    (results fn tmps).run Tryz.prog w = .ok (.tuple #[.agg cs, tmps.getD u undef, tmps.getD v undef, tmps.getD x undef]) w := by
  have hp' : tmps[p]?.getD undef = .pointer (some ⟨g, 0, none⟩) := by simpa using hp
  simp [results, h, hp', asAddr, hg]
theorem AO.base {B B' : Nat} {W : World} {v : Value} {ps : List (Int × Fl)} (h : AO W B v ps) (hb : B' ≤ B) : AO W B' v ps := by
  obtain ⟨cs, o, k⟩ := h
  refine ⟨cs, own_base9 o hb, fun j p hp => ?_⟩
  obtain ⟨la, lc, ma, mc, c0, c1, c2, c3, c4, o1, o2⟩ := k j p hp
  exact ⟨la, lc, ma, mc, c0, c1, c2, c3, c4, own_base9 o1 hb, own_base9 o2 hb⟩
theorem OwnV.none (B : Nat) (W : World) : OwnV B W (fun _ => []) (fun _ => none) (fun _ => 0) (fun _ => 0) :=
  ⟨⟨fun _ => [], fun _ _ => rfl, fun _ _ => rfl, fun _ _ => World.ownsRow_nil _ _ _ _, fun _ _ x hx => by cases hx⟩, fun _ _ f hf => (by cases hf), fun _ _ => by omega⟩
theorem OwnV.same {B : Nat} {W : World} {U U' : Nat → List Fl} {kd : Nat → Option Addr} {kl kc : Nat → Nat} (h : OwnV B W U kd kl kc) (e : ∀ k, k < 5 → U k = U' k) : OwnV B W U' kd kl kc := by
  obtain ⟨⟨Z, h1, h2, h3, h4⟩, h5, h6⟩ := h
  exact ⟨⟨Z, fun k hk => (h1 k hk).trans (e k hk), h2, h3, h4⟩, fun k hk f hf => h5 k hk f (by rw [e k hk]; exact hf), h6⟩
/-- What Replay answers. -/
structure RpOut (w w' : World) (rd : List (List Nat) × Nat) (r : Ending) : Prop where
  fr : Fr [] w w'
  out : (∃ u kd kl kc, RplF vz rd.1 u ∧ r = .returned (.tuple #[.agg #[.int .i64 u.log, .int .i64 u.next, .int .u64 (u.seq : Int), .slice (kd 0) (kl 0) (kc 0), .slice (kd 1) (kl 1) (kc 1), .slice (kd 2) (kl 2) (kc 2), .slice (kd 3) (kl 3) (kc 3), .slice (kd 4) (kl 4) (kc 4)], .int .i64 (rd.1.length : Int), .int .i64 (rd.2 : Int), .int .i64 0]) ∧ VAt w' u.lv kd kl kc) ∨ ∃ k r0 u c, rd.1[k]? = some r0 ∧ RplF vz (rd.1.take k) u ∧ badV u r0 c ∧ r = .returned (.tuple #[.agg #[.int .i64 0, .int .i64 0, .int .u64 0, .slice none 0 0, .slice none 0 0, .slice none 0 0, .slice none 0 0, .slice none 0 0], .int .i64 0, .int .i64 0, .int .i64 c])
set_option maxRecDepth 20000 in
set_option maxHeartbeats 6400000 in
theorem replay_c (w : World) {v : Value} {b : List Nat} (hr : Rd w v (bv b)) (hb : By b) (hl : b.length ≤ 4194304) (hA : ∀ r ∈ (readL b).1, r.length ≤ 50000 ∧ ∀ e, decO r = some e → e.add.length ≤ 500 ∧ e.drop.length ≤ 1000000) (hB : ∀ k u, RplF vz ((readL b).1.take k) u → ∀ i, i < 5 → (u.lv i).length ≤ 500) (hC : (readL b).1.length ≤ 1000000) :
    Calls Tryz.prog 5 #[v] w fun r w' => RpOut w w' (readL b) r := by
  obtain ⟨W0, hW0⟩ : ∃ W0, W0 = w.alloc (.cells #[.int .i64 0, .int .i64 0, .int .u64 0, .slice none 0 0, .slice none 0 0, .slice none 0 0, .slice none 0 0, .slice none 0 0] 28) := ⟨_, rfl⟩
  have F0 : Hid (Fr [] w W0) := hid (by rw [hW0]; exact (Fr.refl _ _).alloc _)
  have N0 : Hid (W0.heap[w.heap.size]? = some (.cells #[.int .i64 0, .int .i64 0, .int .u64 0, .slice none 0 0, .slice none 0 0, .slice none 0 0, .slice none 0 0, .slice none 0 0] 28 (0, 0))) := hid (by rw [hW0]; exact blk_new _ _)
  have RC := hid (read_c W0 (hr.fr F0.out) hb hl)
  have HA := hid hA
  have HB := hid hB
  obtain ⟨a0, c0, hv⟩ := hr.form
  clear hA hB hr hb hl
  obtain ⟨rs, en⟩ : ∃ rd : List (List Nat) × Nat, rd = readL b := ⟨_, rfl⟩
  rw [← en] at RC HA HB hC ⊢
  obtain ⟨rs, ed⟩ := rs
  simp only at RC HA HB hC
  clear en
  subst hv
  go_enter Tryz.func5, Tryz.ntmps5
  go_upto_region 1 with fail
  rw [← hW0]
  clear hW0
  go_upto_region 2 with (go_at_call 10; refine RC.out.mono ?_; rintro r W1 ⟨v1, rfl, o1, f1⟩; have RD1 := hid o1.rd; have F1 := hid f1; obtain ⟨a1, c1, hv1, _⟩ := ownsRow_slice o1.choose_spec.1; subst hv1; clear o1 f1)
  clear RC
  obtain ⟨n, hn⟩ : ∃ n, n = rs.length := ⟨_, rfl⟩
  have HN := hid hn
  rw [← hn] at RD1 hC ⊢
  clear hn
  obtain ⟨Q8, hQ8⟩ : ∃ Q8, Q8 = W1.heap.size := ⟨_, rfl⟩
  obtain ⟨W2, hW2⟩ : ∃ W2, W2 = W1.alloc (.cells #[.int .i64 0, .int .i64 0, .int .u64 0, .slice none 0 0, .slice none 0 0, .slice none 0 0, .slice none 0 0, .slice none 0 0] 28) := ⟨_, rfl⟩
  have F2 : Hid (Fr [] W1 W2) := hid (by rw [hW2]; exact (Fr.refl _ _).alloc _)
  have N2 : Hid (W2.heap[Q8]? = some (.cells #[.int .i64 0, .int .i64 0, .int .u64 0, .slice none 0 0, .slice none 0 0, .slice none 0 0, .slice none 0 0, .slice none 0 0] 28 (0, 0))) := hid (by rw [hW2, hQ8]; exact blk_new _ _)
  have hq8 : W1.heap.size ≤ Q8 := by omega
  go_upto_region 3 with fail
  rw [← hW2, ← hQ8]
  clear hW2 hQ8
  go_wp2_with fail
  go_loopw [20] (fun v20 wr => ∃ (k : Nat) (u : Vn) (kd : Nat → Option Addr) (kl kc : Nat → Nat), k ≤ n ∧ v20 = .int .i64 (k : Int) ∧ RplF vz (rs.take k) u ∧ wr.heap[Q8]? = some (.cells #[.int .i64 u.log, .int .i64 u.next, .int .u64 (u.seq : Int), .slice (kd 0) (kl 0) (kc 0), .slice (kd 1) (kl 1) (kc 1), .slice (kd 2) (kl 2) (kc 2), .slice (kd 3) (kl 3) (kc 3), .slice (kd 4) (kl 4) (kc 4)] 28 (0, 0)) ∧ OwnV W1.heap.size wr u.lv kd kl kc ∧ Fr [] W1 wr) (fun v20 _ => n - (intOf v20).toNat)
  case atStart => exact ⟨0, vz, fun _ => none, fun _ => 0, fun _ => 0, by omega, rfl, rfl, N2.out, OwnV.none _ _, F2.out⟩
  case round =>
    obtain ⟨k, u, kd, kl, kc, hk, rfl, hrp, hq, ho, hf⟩ := hrel
    have RP := hid hrp
    have NQ := hid hq
    have OV := hid ho
    have FR := hid hf
    clear hrp hq ho hf N2 F2
    have M0 : Hid (wr.heap[w.heap.size]? = some (.cells #[.int .i64 0, .int .i64 0, .int .u64 0, .slice none 0 0, .slice none 0 0, .slice none 0 0, .slice none 0 0, .slice none 0 0] 28 (0, 0))) := hid ((F1.out.trans FR.out).at N0.out (by simp))
    have hlt0 : w.heap.size < W1.heap.size := blk_lt (F1.out.at N0.out (by simp))
    by_cases hkl : k < n
    · have hkl' : (k : Int) < (n : Int) := by omega
      obtain ⟨r0, hr0⟩ : ∃ r0, rs[k]? = some r0 := ⟨_, List.getElem?_eq_getElem (by rw [← HN.out]; exact hkl)⟩
      obtain ⟨a2, c2, e1, k1⟩ := RD1.out.fr FR.out
      simp only [Value.slice.injEq] at e1
      obtain ⟨rfl, en1, rfl⟩ := e1
      clear en1
      obtain ⟨b1, off, hab, m1⟩ := k1 (by rw [← HN.out]; omega)
      subst hab
      obtain ⟨a3, c3, x0, x1, x2, x3⟩ := m1 k r0 hr0
      have HR0 := hid hr0
      have HAR := hid (HA.out r0 (List.mem_of_getElem? hr0))
      have HBY := hid x2
      have DC := hid (decM_c wr x1 x2 rfl HAR.out.1)
      obtain ⟨L, hL⟩ : ∃ L, L = r0.length := ⟨_, rfl⟩
      rw [← hL] at x0 DC
      clear m1 k1 hr0 x1 x2 x3 hL
      cases hdec : decO r0 with
      | none =>
        rw [hdec] at DC
        have HBAD : Hid (badV u r0 90) := hid (.inl ⟨hdec, rfl⟩)
        clear hdec
        go_upto_region 7 with (go_at_call 11; refine DC.out.mono ?_; rintro r W4 ⟨hr4, f4⟩; have hr5 : r = .returned (.tuple #[.agg #[.int .i64 0, .int .i64 0, .int .u64 0, .slice none 0 0, .slice none 0 0], .int .i64 90]) := hr4; subst hr5; have F4 := hid f4; clear hr4 f4)
        clear x0 DC
        obtain ⟨W5, hW5⟩ : ∃ W5, W5 = W4.alloc (.cells #[.int .i64 0, .int .i64 0, .int .u64 0, .slice none 0 0, .slice none 0 0] 41) := ⟨_, rfl⟩
        have F5 : Hid (Fr [] wr W5) := hid (F4.out.trans (by rw [hW5]; exact (Fr.refl _ _).alloc _))
        rw [← hW5]
        clear hW5 F4
        have M5 := hid (F5.out.at M0.out (by simp))
        have F05 := hid (((F0.out.trans F1.out).trans FR.out).trans F5.out)
        clear OV NQ
        obtain ⟨q0, q1, q2, q3, q4, q5, q6, q7⟩ := vn_cells M5.out
        have qf0 := blk_frozen M5.out 0
        have qf1 := blk_frozen M5.out 1
        have qf2 := blk_frozen M5.out 2
        have qf3 := blk_frozen M5.out 3
        have qf4 := blk_frozen M5.out 4
        have qf5 := blk_frozen M5.out 5
        have qf6 := blk_frozen M5.out 6
        have qf7 := blk_frozen M5.out 7
        go_wp2_with fail
        refine bodyPost_ret (ret_cttt rfl (g := w.heap.size) (by simp) (load46k (by rw [blk_set (blk_set (blk_set (blk_set (blk_set (blk_set (blk_set (blk_set M5.out 0 _) 1 _) 2 _) 3 _) 4 _) 5 _) 6 _) 7 _]; rfl))) rfl ?_
        exact ⟨(((((((F05.out.set _ _ (.inr (by omega))).set _ _ (.inr (by omega))).set _ _ (.inr (by omega))).set _ _ (.inr (by omega))).set _ _ (.inr (by omega))).set _ _ (.inr (by omega))).set _ _ (.inr (by omega))).set _ _ (.inr (by omega)), .inr ⟨k, r0, u, 90, HR0.out, RP.out, HBAD.out, rfl⟩⟩
      | some e =>
        rw [hdec] at DC
        have HD := hid hdec
        clear hdec
        go_upto_region 7 with (go_at_call 11; refine DC.out.mono ?_; rintro r W4 ⟨hr4, f4⟩; have hr5 : ∃ da dc aa ac, r = .returned (.tuple #[.agg #[.int .i64 e.log, .int .i64 e.next, .int .u64 (e.seq : Int), .slice da e.drop.length dc, .slice aa e.add.length ac], .int .i64 0]) ∧ DO W4 wr.heap.size (.slice da e.drop.length dc) e.drop ∧ AO W4 wr.heap.size (.slice aa e.add.length ac) e.add := hr4; obtain ⟨da, dc, aa, ac, hr6, hdo, hao⟩ := hr5; subst hr6; have F4 := hid f4; have DO4 := hid hdo; have AO4 := hid hao; clear hr4 f4 hdo hao)
        clear x0 DC
        obtain ⟨Q11, hQ11⟩ : ∃ Q11, Q11 = W4.heap.size := ⟨_, rfl⟩
        obtain ⟨W5, hW5⟩ : ∃ W5, W5 = W4.alloc (.cells #[.int .i64 e.log, .int .i64 e.next, .int .u64 (e.seq : Int), .slice da e.drop.length dc, .slice aa e.add.length ac] 41) := ⟨_, rfl⟩
        have f45 : Fr [] W4 W5 := by rw [hW5]; exact (Fr.refl _ _).alloc _
        have N11 : Hid (W5.heap[Q11]? = some (.cells #[.int .i64 e.log, .int .i64 e.next, .int .u64 (e.seq : Int), .slice da e.drop.length dc, .slice aa e.add.length ac] 41 (0, 0))) := hid (by rw [hW5, hQ11]; exact blk_new _ _)
        have F5 : Hid (Fr [] wr W5) := hid (F4.out.trans f45)
        have NQ5 := hid (F5.out.at NQ.out (by simp))
        have OV5 := hid (OV.out.fr' F5.out)
        have hwr : W1.heap.size ≤ wr.heap.size := FR.out.size
        have DO5 : Hid (DO W5 W1.heap.size (.slice da e.drop.length dc) e.drop) := hid (own_base9 (ownsRow_fr DO4.out f45) hwr)
        have AO5 : Hid (AO W5 W1.heap.size (.slice aa e.add.length ac) e.add) := hid ((AO4.out.step (fun k _ hk => f45.block k hk (by simp))).base hwr)
        have SMU : Hid (∀ i, i < 5 → kl i ≤ 500) := hid (fun i hi => by rw [OV.out.vat.len i hi]; exact HB.out k u RP.out i hi)
        have HSA := hid (HAR.out.2 e HD.out)
        have FO : Hid (Calls Tryz.prog 12 #[.agg #[.int .i64 u.log, .int .i64 u.next, .int .u64 (u.seq : Int), .slice (kd 0) (kl 0) (kc 0), .slice (kd 1) (kl 1) (kc 1), .slice (kd 2) (kl 2) (kc 2), .slice (kd 3) (kl 3) (kc 3), .slice (kd 4) (kl 4) (kc 4)], .agg #[.int .i64 e.log, .int .i64 e.next, .int .u64 (e.seq : Int), .slice da e.drop.length dc, .slice aa e.add.length ac]] W5 fun r w' => ∃ (a0 a1 : Int) (a2 : Nat) (md : Nat → Option Addr) (ml mc : Nat → Nat) (c : Int), r = .returned (.tuple #[.agg #[.int .i64 a0, .int .i64 a1, .int .u64 (a2 : Int), .slice (md 0) (ml 0) (mc 0), .slice (md 1) (ml 1) (mc 1), .slice (md 2) (ml 2) (mc 2), .slice (md 3) (ml 3) (mc 3), .slice (md 4) (ml 4) (mc 4)], .int .i64 c]) ∧ Fr [] W5 w' ∧ ((errA u e c ∧ c ≠ 0) ∨ (c = 0 ∧ ∃ U, okA9 u e U ∧ (a0 = e.log ∧ a1 = e.next ∧ a2 = e.seq) ∧ OwnV W1.heap.size w' U md ml mc))) := hid (by
          obtain ⟨d1, _, _⟩ := dec_bys HBY.out HD.out
          refine (follow_own W5 (by have := F5.out.size; omega) OV5.out (RP.out.chk vz_chk) (decO_ok HD.out) DO5.out AO5.out (fun p hp => ⟨(d1 p hp).1.1, (d1 p hp).2.1, (d1 p hp).1.2, (d1 p hp).2.2⟩) SMU.out HSA.out.2 HSA.out.1).mono fun r w' h => ?_
          rcases h.2 with ⟨c, h1, h2, h3⟩ | ⟨U, md, ml, mc, h1, h2, h3⟩
          · exact ⟨0, 0, 0, fun _ => none, fun _ => 0, fun _ => 0, c, h3, h.1, .inl ⟨h1, h2⟩⟩
          · exact ⟨_, _, _, md, ml, mc, 0, h2, h.1, .inr ⟨rfl, U, h1, ⟨rfl, rfl, rfl⟩, h3⟩⟩)
        go_upto_region 9 with fail
        rw [← hW5, ← hQ11]
        clear hW5 hQ11 f45 DO4 AO4 F4 OV NQ DO5 AO5 SMU OV5
        obtain ⟨y0, y1, y2, y3, y4⟩ := ed5_cells N11.out
        obtain ⟨z0, z1, z2, z3, z4, z5, z6, z7⟩ := vn_cells NQ5.out
        have NQF : Hid (∀ W6, Fr [] W5 W6 → W6.heap[Q8]? = some (.cells #[.int .i64 u.log, .int .i64 u.next, .int .u64 (u.seq : Int), .slice (kd 0) (kl 0) (kc 0), .slice (kd 1) (kl 1) (kc 1), .slice (kd 2) (kl 2) (kc 2), .slice (kd 3) (kl 3) (kc 3), .slice (kd 4) (kl 4) (kc 4)] 28 (0, 0))) := hid (fun W6 f => f.at NQ5.out (by simp))
        go_upto_region 10 with (go_at_call 12; refine FO.out.mono ?_; rintro r W6 ⟨a0, a1, a2, md, ml, mc, c, rfl, f6, h6⟩; have F6 := hid f6; have H6 := hid h6; have n6 := NQF.out W6 f6; obtain ⟨t0, t1, t2, t3, t4, t5, t6, t7⟩ := vn_cells n6; have tf0 := blk_frozen n6 0; have tf1 := blk_frozen n6 1; have tf2 := blk_frozen n6 2; have tf3 := blk_frozen n6 3; have tf4 := blk_frozen n6 4; have tf5 := blk_frozen n6 5; have tf6 := blk_frozen n6 6; have tf7 := blk_frozen n6 7; have N6 := hid n6; clear f6 h6 n6)
        clear t0 t1 t2 t3 t4 t5 t6 t7 tf0 tf1 tf2 tf3 tf4 tf5 tf6 tf7 y0 y1 y2 y3 y4 z0 z1 z2 z3 z4 z5 z6 z7 FO NQF NQ5 N11
        obtain ⟨W7, hW7⟩ : ∃ W7, W7 = (((((((W6.setCell ⟨Q8, 0, none⟩ (.int .i64 a0)).setCell ⟨Q8, 1, none⟩ (.int .i64 a1)).setCell ⟨Q8, 2, none⟩ (.int .u64 (a2 : Int))).setCell ⟨Q8, 3, none⟩ (.slice (md 0) (ml 0) (mc 0))).setCell ⟨Q8, 4, none⟩ (.slice (md 1) (ml 1) (mc 1))).setCell ⟨Q8, 5, none⟩ (.slice (md 2) (ml 2) (mc 2))).setCell ⟨Q8, 6, none⟩ (.slice (md 3) (ml 3) (mc 3))).setCell ⟨Q8, 7, none⟩ (.slice (md 4) (ml 4) (mc 4)) := ⟨_, rfl⟩
        have N7 : Hid (W7.heap[Q8]? = some (.cells #[.int .i64 a0, .int .i64 a1, .int .u64 (a2 : Int), .slice (md 0) (ml 0) (mc 0), .slice (md 1) (ml 1) (mc 1), .slice (md 2) (ml 2) (mc 2), .slice (md 3) (ml 3) (mc 3), .slice (md 4) (ml 4) (mc 4)] 28 (0, 0))) := hid (by rw [hW7, blk_set (blk_set (blk_set (blk_set (blk_set (blk_set (blk_set (blk_set N6.out 0 _) 1 _) 2 _) 3 _) 4 _) 5 _) 6 _) 7 _]; rfl)
        have F7 : Hid (Fr [] W1 W7) := hid (by rw [hW7]; exact (((((((((FR.out.trans F5.out).trans F6.out).set _ _ (.inr (by omega))).set _ _ (.inr (by omega))).set _ _ (.inr (by omega))).set _ _ (.inr (by omega))).set _ _ (.inr (by omega))).set _ _ (.inr (by omega))).set _ _ (.inr (by omega))).set _ _ (.inr (by omega)))
        have O7 : Hid (∀ U, OwnV W1.heap.size W6 U md ml mc → OwnV W1.heap.size W7 U md ml mc) := hid (fun U ov => by
          rw [hW7]
          exact (((((((ov.setO N6.out 0 _).setO (blk_set N6.out 0 _) 1 _).setO (blk_set (blk_set N6.out 0 _) 1 _) 2 _).setO (blk_set (blk_set (blk_set N6.out 0 _) 1 _) 2 _) 3 _).setO (blk_set (blk_set (blk_set (blk_set N6.out 0 _) 1 _) 2 _) 3 _) 4 _).setO (blk_set (blk_set (blk_set (blk_set (blk_set N6.out 0 _) 1 _) 2 _) 3 _) 4 _) 5 _).setO (blk_set (blk_set (blk_set (blk_set (blk_set (blk_set N6.out 0 _) 1 _) 2 _) 3 _) 4 _) 5 _) 6 _).setO (blk_set (blk_set (blk_set (blk_set (blk_set (blk_set (blk_set N6.out 0 _) 1 _) 2 _) 3 _) 4 _) 5 _) 6 _) 7 _)
        rw [← hW7]
        clear hW7 N6
        have M7 : Hid (W7.heap[w.heap.size]? = some (.cells #[.int .i64 0, .int .i64 0, .int .u64 0, .slice none 0 0, .slice none 0 0, .slice none 0 0, .slice none 0 0, .slice none 0 0] 28 (0, 0))) := hid ((F1.out.trans F7.out).at N0.out (by simp))
        have F07 := hid ((F0.out.trans F1.out).trans F7.out)
        rcases H6.out with ⟨he, hc0⟩ | ⟨hc0, U, ho, ⟨rfl, rfl, rfl⟩, hv⟩
        · have HBAD : Hid (badV u r0 c) := hid (.inr ⟨e, HD.out, he, hc0⟩)
          have hc1 : (c == 0) = false := by simpa using hc0
          clear he hc0 H6 F6 N7 O7
          obtain ⟨q0, q1, q2, q3, q4, q5, q6, q7⟩ := vn_cells M7.out
          have qf0 := blk_frozen M7.out 0
          have qf1 := blk_frozen M7.out 1
          have qf2 := blk_frozen M7.out 2
          have qf3 := blk_frozen M7.out 3
          have qf4 := blk_frozen M7.out 4
          have qf5 := blk_frozen M7.out 5
          have qf6 := blk_frozen M7.out 6
          have qf7 := blk_frozen M7.out 7
          go_wp2_with fail
          refine bodyPost_ret (ret_cttt rfl (g := w.heap.size) (by simp) (load46k (by rw [blk_set (blk_set (blk_set (blk_set (blk_set (blk_set (blk_set (blk_set M7.out 0 _) 1 _) 2 _) 3 _) 4 _) 5 _) 6 _) 7 _]; rfl))) rfl ?_
          exact ⟨(((((((F07.out.set _ _ (.inr (by omega))).set _ _ (.inr (by omega))).set _ _ (.inr (by omega))).set _ _ (.inr (by omega))).set _ _ (.inr (by omega))).set _ _ (.inr (by omega))).set _ _ (.inr (by omega))).set _ _ (.inr (by omega)), .inr ⟨k, r0, u, c, HR0.out, RP.out, HBAD.out, rfl⟩⟩
        · subst hc0
          have ST := hid (stepV.of HD.out ho)
          have O8 := hid ((O7.out U hv).same (U' := fun i => if i < 5 then U i else []) (fun i hi => (if_pos hi).symm))
          clear ho hv H6 O7
          go_wp2_with fail
          go_roundw
          case rel => exact ⟨k + 1, ⟨e.log, e.next, e.seq, fun i => if i < 5 then U i else []⟩, md, ml, mc, by omega, by go_num, RP.out.take HR0.out ST.out, N7.out, O8.out, F7.out⟩
          case measure => simp [intOf]; omega
    · have hkn : k = n := by omega
      subst hkn
      have RPE : Hid (RplF vz rs u) := hid (by have := RP.out; rw [HN.out, List.take_length] at this; exact this)
      obtain ⟨z0, z1, z2, z3, z4, z5, z6, z7⟩ := vn_cells NQ.out
      obtain ⟨q0, q1, q2, q3, q4, q5, q6, q7⟩ := vn_cells M0.out
      have qf0 := blk_frozen M0.out 0
      have qf1 := blk_frozen M0.out 1
      have qf2 := blk_frozen M0.out 2
      have qf3 := blk_frozen M0.out 3
      have qf4 := blk_frozen M0.out 4
      have qf5 := blk_frozen M0.out 5
      have qf6 := blk_frozen M0.out 6
      have qf7 := blk_frozen M0.out 7
      have F09 := hid ((F0.out.trans F1.out).trans FR.out)
      have hq0 : w.heap.size ≠ Q8 := by omega
      go_wp2_with fail
      refine bodyPost_ret (ret_cttt rfl (g := w.heap.size) (by simp) (load46k (by rw [blk_set (blk_set (blk_set (blk_set (blk_set (blk_set (blk_set (blk_set M0.out 0 _) 1 _) 2 _) 3 _) 4 _) 5 _) 6 _) 7 _]; rfl))) rfl ?_
      have ov := (((((((OV.out.setO M0.out 0 (.int .i64 u.log)).setO (blk_set M0.out 0 _) 1 (.int .i64 u.next)).setO (blk_set (blk_set M0.out 0 _) 1 _) 2 (.int .u64 (u.seq : Int))).setO (blk_set (blk_set (blk_set M0.out 0 _) 1 _) 2 _) 3 (.slice (kd 0) (kl 0) (kc 0))).setO (blk_set (blk_set (blk_set (blk_set M0.out 0 _) 1 _) 2 _) 3 _) 4 (.slice (kd 1) (kl 1) (kc 1))).setO (blk_set (blk_set (blk_set (blk_set (blk_set M0.out 0 _) 1 _) 2 _) 3 _) 4 _) 5 (.slice (kd 2) (kl 2) (kc 2))).setO (blk_set (blk_set (blk_set (blk_set (blk_set (blk_set M0.out 0 _) 1 _) 2 _) 3 _) 4 _) 5 _) 6 (.slice (kd 3) (kl 3) (kc 3))).setO (blk_set (blk_set (blk_set (blk_set (blk_set (blk_set (blk_set M0.out 0 _) 1 _) 2 _) 3 _) 4 _) 5 _) 6 _) 7 (.slice (kd 4) (kl 4) (kc 4))
      refine ⟨(((((((F09.out.set _ _ (.inr (by omega))).set _ _ (.inr (by omega))).set _ _ (.inr (by omega))).set _ _ (.inr (by omega))).set _ _ (.inr (by omega))).set _ _ (.inr (by omega))).set _ _ (.inr (by omega))).set _ _ (.inr (by omega)), .inl ⟨u, kd, kl, kc, RPE.out, ?_, ov.vat⟩⟩
      rw [← HN.out]
      rfl
end Go.Proofs.YtegbngbhmgbocaaGreatDoor
