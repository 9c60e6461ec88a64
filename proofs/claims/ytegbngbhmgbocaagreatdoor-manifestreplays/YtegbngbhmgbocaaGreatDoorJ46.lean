/-
  What the law on logs of edits keeps.
-/
import Derived.Test.YtegbngbhmgbocaaGreatDoorJ38
import Derived.Test.YtegbngbhmgbocaaGreatDoorJ45
import Derived.Test.YtegbngbhmgbocaaGreatDoorJ06
import Derived.Test.YtegbngbhmgbocaaGreatDoorJ31
import Derived.Test.YtegbngbhmgbocaaGreatDoorJ37
import Derived.Test.YtegbngbhmgbocaaGreatDoorWAI
import Derived.Test.YtegbngbhmgbocaaGreatDoorDM8
import Derived.Test.YtegbngbhmgbocaaGreatDoorJ08
namespace Go.Proofs.YtegbngbhmgbocaaGreatDoor
open Go.ChangeShapes Go.WideShapes Go.ChangeAt Go.RowKit

/-- It holds, whatever becomes of some blocks. -/
def Keeps (W : World) (S : Nat → Prop) (P : World → Prop) : Prop := ∀ W', (∀ k, k < W.heap.size → ¬ S k → W'.heap[k]? = W.heap[k]?) → P W'
theorem Keeps.self {W : World} {S : Nat → Prop} {P : World → Prop} (h : Keeps W S P) : P W := h W fun _ _ _ => rfl
theorem Keeps.step {W W1 : World} {S S' : Nat → Prop} {P : World → Prop} (h : Keeps W S P) (hs : W.heap.size ≤ W1.heap.size) (ho : ∀ k, k < W.heap.size → ¬ S k → W1.heap[k]? = W.heap[k]?) (hS : ∀ k, k < W.heap.size → S' k → S k) : Keeps W1 S' P :=
  fun W' hk => h W' fun k hl hn => (hk k (Nat.lt_of_lt_of_le hl hs) (fun q => hn (hS k hl q))).trans (ho k hl hn)
theorem Keeps.fr {W W1 : World} {S : Nat → Prop} {P : World → Prop} (h : Keeps W S P) (f : Fr [] W W1) : Keeps W1 S P := h.step f.size (fun k hk _ => f.block k hk (by simp)) (fun _ _ q => q)
theorem OwnV.keeps {B : Nat} {W : World} {U : Nat → List Fl} {kd : Nat → Option Addr} {kl kc : Nat → Nat} (h : OwnV B W U kd kl kc) {S : Nat → Prop} (hS : ∀ k, S k → k < B) : Keeps W S (fun W => VAt W U kd kl kc) := by
  intro W' hk
  have own : ∀ {e : TypeId} {s n : Nat} {v : Value} {xs : List Value}, W.ownsRow B e s v n xs → W'.ownsRow B e s v n xs := fun {e s n v xs} oo => ownsRow_of_block oo fun k hb => hk k (World.ownsRow.lt oo k hb).2 (fun q => by have h1 := hS k q; have h2 := (World.ownsRow.lt oo k hb).1; omega)
  obtain ⟨⟨Z, h1, h2, h3, h4⟩, h5, h6⟩ := h
  exact (⟨⟨Z, h1, h2, fun k hk => own (h3 k hk), fun k hk x hx => ⟨own (h4 k hk x hx).ol, own (h4 k hk x hx).om⟩⟩, h5, h6⟩ : OwnV B W' U kd kl kc).vat
theorem vat_nil (w : World) : VAt w (fun _ => []) (fun _ => none) (fun _ => 0) (fun _ => 0) := ⟨fun _ _ => rfl, fun _ _ => by omega, fun _ _ h => by omega⟩
theorem VAt.same5 {W : World} {U U' : Nat → List Fl} {kd : Nat → Option Addr} {kl kc : Nat → Nat} (h : VAt W U kd kl kc) (e : ∀ i, i < 5 → U i = U' i) : VAt W U' kd kl kc :=
  ⟨fun i hi => by rw [← e i hi]; exact h.len i hi, h.small, fun i hi h0 => by rw [← e i hi]; exact h.rd i hi h0⟩
/-- What the law keeps: the version so far, the one that is told, the log. -/
structure LgS (W1 wr : World) (Q5 Q6 : Nat) (es : List Ed) (cut : Int) (i : Nat) (u t : Vn) (kd : Nat → Option Addr) (kl kc : Nat → Nat) (td : Nat → Option Addr) (tl tc : Nat → Nat) (ba : Option Addr) (bl bc : Nat) : Prop where
  rp : RplF vz (accL es i) u
  tp : RplF vz ((accL es i).take (cntI cut (accL es i))) t
  ok : ∀ r ∈ accL es i, By r ∧ r.length ≤ 38000 ∧ ∀ e, decO r = some e → e.add.length ≤ 30 ∧ e.drop.length ≤ 30
  n5 : wr.heap[Q5]? = some (.cells #[.int .i64 u.log, .int .i64 u.next, .int .u64 (u.seq : Int), .slice (kd 0) (kl 0) (kc 0), .slice (kd 1) (kl 1) (kc 1), .slice (kd 2) (kl 2) (kc 2), .slice (kd 3) (kl 3) (kc 3), .slice (kd 4) (kl 4) (kc 4)] 28 (0, 0))
  n6 : wr.heap[Q6]? = some (.cells #[.int .i64 t.log, .int .i64 t.next, .int .u64 (t.seq : Int), .slice (td 0) (tl 0) (tc 0), .slice (td 1) (tl 1) (tc 1), .slice (td 2) (tl 2) (tc 2), .slice (td 3) (tl 3) (tc 3), .slice (td 4) (tl 4) (tc 4)] 28 (0, 0))
  kv : Keeps wr (fun k => k = Q5 ∨ k = Q6 ∨ (Value.slice ba bl bc).ownBlock = some k) (fun W => VAt W u.lv kd kl kc)
  kt : Keeps wr (fun k => k = Q5 ∨ k = Q6 ∨ (Value.slice ba bl bc).ownBlock = some k) (fun W => VAt W t.lv td tl tc)
  bo : wr.ownsRow W1.heap.size 5 1 (.slice ba bl bc) bl (bv (logL 0 (accL es i)))
  bn : bl = (logL 0 (accL es i)).length
  fr : Fr [] W1 wr
  g5 : W1.heap.size ≤ Q5
  g6 : W1.heap.size ≤ Q6
  ne : Q5 ≠ Q6
theorem LgS.fr' {W1 wr W' : World} {Q5 Q6 : Nat} {es : List Ed} {cut : Int} {i : Nat} {u t : Vn} {kd : Nat → Option Addr} {kl kc : Nat → Nat} {td : Nat → Option Addr} {tl tc : Nat → Nat} {ba : Option Addr} {bl bc : Nat} (h : LgS W1 wr Q5 Q6 es cut i u t kd kl kc td tl tc ba bl bc) (f : Fr [] wr W') : LgS W1 W' Q5 Q6 es cut i u t kd kl kc td tl tc ba bl bc :=
  ⟨h.rp, h.tp, h.ok, f.at h.n5 (by simp), f.at h.n6 (by simp), h.kv.fr f, h.kt.fr f, ownsRow_fr h.bo f, h.bn, h.fr.trans f, h.g5, h.g6, h.ne⟩
theorem LgS.new {W1 wr : World} {Q5 Q6 : Nat} (es : List Ed) (cut : Int) (n5 : wr.heap[Q5]? = some (.cells #[.int .i64 0, .int .i64 0, .int .u64 0, .slice none 0 0, .slice none 0 0, .slice none 0 0, .slice none 0 0, .slice none 0 0] 28 (0, 0))) (n6 : wr.heap[Q6]? = some (.cells #[.int .i64 0, .int .i64 0, .int .u64 0, .slice none 0 0, .slice none 0 0, .slice none 0 0, .slice none 0 0, .slice none 0 0] 28 (0, 0))) (f : Fr [] W1 wr) (g5 : W1.heap.size ≤ Q5) (g6 : W1.heap.size ≤ Q6) (ne : Q5 ≠ Q6) : LgS W1 wr Q5 Q6 es cut 0 vz vz (fun _ => none) (fun _ => 0) (fun _ => 0) (fun _ => none) (fun _ => 0) (fun _ => 0) none 0 0 :=
  ⟨rfl, by show RplF vz (([] : List (List Nat)).take _) vz; rw [List.take_nil]; rfl, (fun r hr => by cases hr), n5, n6, fun W _ => vat_nil W, fun W _ => vat_nil W, World.ownsRow_nil _ _ _ _, rfl, f, g5, g6, ne⟩
/-- What Apply answers, to the law. -/
theorem AOut.lg {w w' : World} {v : Vn} {e : Ed} {r : Ending} (h : AOut w w' v e r) (c0 : chkV v = 0) : ∃ (a0 a1 : Int) (a2 : Nat) (md : Nat → Option Addr) (ml mc : Nat → Nat) (x : Int), r = .returned (.tuple #[.agg #[.int .i64 a0, .int .i64 a1, .int .u64 (a2 : Int), .slice (md 0) (ml 0) (mc 0), .slice (md 1) (ml 1) (mc 1), .slice (md 2) (ml 2) (mc 2), .slice (md 3) (ml 3) (mc 3), .slice (md 4) (ml 4) (mc 4)], .int .i64 x]) ∧ Fr [] w w' ∧ (x ≠ 0 ∨ (x = 0 ∧ okE e = true ∧ ∃ U, okA9 v e U ∧ (a0 = e.log ∧ a1 = e.next ∧ a2 = e.seq) ∧ OwnV w.heap.size w' U md ml mc)) := by
  rcases h.out with ⟨h1, rfl⟩ | ⟨h1, h2, rfl⟩ | ⟨h1, h2, ⟨c, h3, h4, rfl⟩ | ⟨U, kd, kl, kc, h3, rfl, h4⟩⟩
  · exact absurd c0 h1
  · exact ⟨0, 0, 0, fun _ => none, fun _ => 0, fun _ => 0, 90, rfl, h.fr, .inl (by omega)⟩
  · exact ⟨0, 0, 0, fun _ => none, fun _ => 0, fun _ => 0, c, rfl, h.fr, .inl h4⟩
  · exact ⟨_, _, _, kd, kl, kc, 0, rfl, h.fr, .inr ⟨rfl, h2, U, h3, ⟨rfl, rfl, rfl⟩, h4⟩⟩
/-- One edit more. -/
theorem LgS.next {W1 wr : World} {Q5 Q6 : Nat} {es : List Ed} {cut : Int} {i : Nat} {u t : Vn} {kd : Nat → Option Addr} {kl kc : Nat → Nat} {td : Nat → Option Addr} {tl tc : Nat → Nat} {ba : Option Addr} {bl bc : Nat} (h : LgS W1 wr Q5 Q6 es cut i u t kd kl kc td tl tc ba bl bc) {e : Ed} {U : Nat → List Fl} (hi : es[i]? = some e) (hok : okE e = true) (hd : e.drop.length ≤ 30) (ha : e.add.length ≤ 30) (hby : By (encE e)) (o : okA9 u e U) :
    RplF vz (accL es (i + 1)) ⟨e.log, e.next, e.seq, fun k => if k < 5 then U k else []⟩ ∧ (∀ r ∈ accL es (i + 1), By r ∧ r.length ≤ 38000 ∧ ∀ e, decO r = some e → e.add.length ≤ 30 ∧ e.drop.length ≤ 30) ∧ logL 0 (accL es (i + 1)) = logL 0 (accL es i) ++ appL bl (encE e) := by
  have hdec : decO (encE e) = some e := decO_enc hok (by omega) (by omega)
  have e1 := accL_succ hi
  refine ⟨by rw [e1]; exact h.rp.snoc (stepV.of hdec o), fun r hr => ?_, by rw [e1, logL_snoc, h.bn, Nat.zero_add]⟩
  rw [e1] at hr
  rcases List.mem_append.1 hr with hr | hr
  · exact h.ok r hr
  · have er : r = encE e := by simpa using hr
    subst er
    exact ⟨hby, encE_len38 hok hd ha, fun e' he' => by rw [hdec] at he'; cases he'; exact ⟨ha, hd⟩⟩
end Go.Proofs.YtegbngbhmgbocaaGreatDoor
namespace Go.Proofs.YtegbngbhmgbocaaGreatDoor
open Go.ChangeShapes Go.WideShapes Go.ChangeAt Go.RowKit

set_option maxRecDepth 20000 in
set_option maxHeartbeats 6400000 in
theorem rreplay_c (w : World) {v : Value} {b : List Nat} (hr : Rd w v (bv b)) (hb : By b) (hl : b.length ≤ 4194304) (hA : ∀ r ∈ (readL b).1, r.length ≤ 4000 ∧ ∀ e, decO r = some e → e.add.length ≤ 450 ∧ e.drop.length ≤ 4000) (hB : ∀ k u, RplF vz ((readL b).1.take k) u → ∀ i, i < 5 → (u.lv i).length ≤ 500) (hC : (readL b).1.length ≤ 1000000) :
    Calls Tryz.prog 6 #[v] w fun r w' => RpOut w w' (readL b) r := by
  obtain ⟨W0, hW0⟩ : ∃ W0, W0 = w.alloc (.cells #[.int .i64 0, .int .i64 0, .int .u64 0, .slice none 0 0, .slice none 0 0, .slice none 0 0, .slice none 0 0, .slice none 0 0] 28) := ⟨_, rfl⟩
  have F0 : Hid (Fr [] w W0) := hid (by rw [hW0]; exact (Fr.refl _ _).alloc _)
  have N0 : Hid (W0.heap[w.heap.size]? = some (.cells #[.int .i64 0, .int .i64 0, .int .u64 0, .slice none 0 0, .slice none 0 0, .slice none 0 0, .slice none 0 0, .slice none 0 0] 28 (0, 0))) := hid (by rw [hW0]; exact blk_new _ _)
  have RC := hid (refread_c W0 (hr.fr F0.out) hb hl)
  have HA := hid hA
  have HB := hid hB
  obtain ⟨a0, c0, hv⟩ := hr.form
  clear hA hB hr hb hl
  obtain ⟨rs, en⟩ : ∃ rd : List (List Nat) × Nat, rd = readL b := ⟨_, rfl⟩
  rw [← en] at RC HA HB hC ⊢
  obtain ⟨rs, ed⟩ := rs
  simp only at RC HA HB hC
  clear en
  subst hv
  go_enter Tryz.func6, Tryz.ntmps6
  go_upto_region 1 with fail
  rw [← hW0]
  clear hW0
  go_upto_region 2 with (go_at_call 13; refine RC.out.mono ?_; rintro r W1 ⟨v1, rfl, o1, f1⟩; have RD1 := hid o1.rd; have F1 := hid f1; obtain ⟨a1, c1, hv1, _⟩ := ownsRow_slice o1.choose_spec.1; subst hv1; clear o1 f1)
  clear RC
  obtain ⟨n, hn⟩ : ∃ n, n = rs.length := ⟨_, rfl⟩
  have HN := hid hn
  rw [← hn] at RD1 hC ⊢
  clear hn
  obtain ⟨Q8, hQ8⟩ : ∃ Q8, Q8 = W1.heap.size := ⟨_, rfl⟩
  obtain ⟨W2, hW2⟩ : ∃ W2, W2 = W1.alloc (.cells #[.int .i64 0, .int .i64 0, .int .u64 0, .slice none 0 0, .slice none 0 0, .slice none 0 0, .slice none 0 0, .slice none 0 0] 28) := ⟨_, rfl⟩
  have F2 : Hid (Fr [] W1 W2) := hid (by rw [hW2]; exact (Fr.refl _ _).alloc _)
  have N2 : Hid (W2.heap[Q8]? = some (.cells #[.int .i64 0, .int .i64 0, .int .u64 0, .slice none 0 0, .slice none 0 0, .slice none 0 0, .slice none 0 0, .slice none 0 0] 28 (0, 0))) := hid (by rw [hW2, hQ8]; exact blk_new _ _)
  have hq8 : W1.heap.size ≤ Q8 := by omega
  go_upto_region 3 with fail
  rw [← hW2, ← hQ8]
  clear hW2 hQ8
  go_wp2_with fail
  go_loopw [9] (fun v9 wr => ∃ (k : Nat) (u : Vn) (kd : Nat → Option Addr) (kl kc : Nat → Nat), k ≤ n ∧ v9 = .int .i64 (k : Int) ∧ RplF vz (rs.take k) u ∧ wr.heap[Q8]? = some (.cells #[.int .i64 u.log, .int .i64 u.next, .int .u64 (u.seq : Int), .slice (kd 0) (kl 0) (kc 0), .slice (kd 1) (kl 1) (kc 1), .slice (kd 2) (kl 2) (kc 2), .slice (kd 3) (kl 3) (kc 3), .slice (kd 4) (kl 4) (kc 4)] 28 (0, 0)) ∧ VAt wr u.lv kd kl kc ∧ (∀ i, i < 5 → kd i = none → kl i = 0 ∧ kc i = 0) ∧ Keeps wr (fun g => g < W1.heap.size ∨ g = Q8) (fun W => VAt W u.lv kd kl kc) ∧ Fr [] W1 wr) (fun v9 _ => n - (intOf v9).toNat)
  case atStart => exact ⟨0, vz, fun _ => none, fun _ => 0, fun _ => 0, by omega, rfl, rfl, N2.out, vat_nil _, fun _ _ _ => ⟨rfl, rfl⟩, fun W' _ => vat_nil W', F2.out⟩
  case round =>
    obtain ⟨k, u, kd, kl, kc, hk, rfl, hrp, hq, hv0, hnil, hkp, hf⟩ := hrel
    have RP := hid hrp
    have NQ := hid hq
    have OV := hid hv0
    have HNIL := hid hnil
    have KP := hid hkp
    have FR := hid hf
    clear hrp hq hv0 hnil hkp hf N2 F2
    have M0 : Hid (wr.heap[w.heap.size]? = some (.cells #[.int .i64 0, .int .i64 0, .int .u64 0, .slice none 0 0, .slice none 0 0, .slice none 0 0, .slice none 0 0, .slice none 0 0] 28 (0, 0))) := hid ((F1.out.trans FR.out).at N0.out (by simp))
    have hlt0 : w.heap.size < W1.heap.size := blk_lt (F1.out.at N0.out (by simp))
    by_cases hkl : k < n
    · have hkl' : (k : Int) < (n : Int) := by omega
      obtain ⟨r0, hr0⟩ : ∃ r0, rs[k]? = some r0 := ⟨_, List.getElem?_eq_getElem (by rw [← HN.out]; exact hkl)⟩
      obtain ⟨a2, c2, e1, k1⟩ := RD1.out.fr FR.out
      simp only [Value.slice.injEq] at e1
      obtain ⟨rfl, en1, rfl⟩ := e1
      clear en1
      obtain ⟨b1, off, hab, m1⟩ := k1 (by rw [← HN.out]; omega)
      subst hab
      obtain ⟨a3, c3, x0, x1, x2, x3⟩ := m1 k r0 hr0
      have HR0 := hid hr0
      have HAR := hid (HA.out r0 (List.mem_of_getElem? hr0))
      have HBY := hid x2
      have DC := hid (rdec_c wr x1 x2 rfl HAR.out.1)
      obtain ⟨L, hL⟩ : ∃ L, L = r0.length := ⟨_, rfl⟩
      rw [← hL] at x0 DC
      clear m1 k1 hr0 x1 x2 x3 hL
      cases hdec : decO r0 with
      | none =>
        rw [hdec] at DC
        have HBAD : Hid (badV u r0 90) := hid (.inl ⟨hdec, rfl⟩)
        clear hdec
        go_upto_region 7 with (go_at_call 14; refine DC.out.mono ?_; rintro r W4 ⟨hr4, f4⟩; have hr5 : r = .returned (.tuple #[.agg #[.int .i64 0, .int .i64 0, .int .u64 0, .slice none 0 0, .slice none 0 0], .int .i64 90]) := hr4; subst hr5; have F4 := hid f4; clear hr4 f4)
        clear x0 DC
        obtain ⟨W5, hW5⟩ : ∃ W5, W5 = W4.alloc (.cells #[.int .i64 0, .int .i64 0, .int .u64 0, .slice none 0 0, .slice none 0 0] 41) := ⟨_, rfl⟩
        have F5 : Hid (Fr [] wr W5) := hid (F4.out.trans (by rw [hW5]; exact (Fr.refl _ _).alloc _))
        rw [← hW5]
        clear hW5 F4
        have M5 := hid (F5.out.at M0.out (by simp))
        have F05 := hid (((F0.out.trans F1.out).trans FR.out).trans F5.out)
        clear OV NQ
        obtain ⟨q0, q1, q2, q3, q4, q5, q6, q7⟩ := vn_cells M5.out
        have qf0 := blk_frozen M5.out 0
        have qf1 := blk_frozen M5.out 1
        have qf2 := blk_frozen M5.out 2
        have qf3 := blk_frozen M5.out 3
        have qf4 := blk_frozen M5.out 4
        have qf5 := blk_frozen M5.out 5
        have qf6 := blk_frozen M5.out 6
        have qf7 := blk_frozen M5.out 7
        go_wp2_with fail
        refine bodyPost_ret (ret_cttt rfl (g := w.heap.size) (by simp) (load46k (by rw [blk_set (blk_set (blk_set (blk_set (blk_set (blk_set (blk_set (blk_set M5.out 0 _) 1 _) 2 _) 3 _) 4 _) 5 _) 6 _) 7 _]; rfl))) rfl ?_
        exact ⟨(((((((F05.out.set _ _ (.inr (by omega))).set _ _ (.inr (by omega))).set _ _ (.inr (by omega))).set _ _ (.inr (by omega))).set _ _ (.inr (by omega))).set _ _ (.inr (by omega))).set _ _ (.inr (by omega))).set _ _ (.inr (by omega)), .inr ⟨k, r0, u, 90, HR0.out, RP.out, HBAD.out, rfl⟩⟩
      | some e =>
        rw [hdec] at DC
        have HD := hid hdec
        clear hdec
        go_upto_region 7 with (go_at_call 14; refine DC.out.mono ?_; rintro r W4 ⟨hr4, f4⟩; have hr5 : ∃ da dc aa ac, r = .returned (.tuple #[.agg #[.int .i64 e.log, .int .i64 e.next, .int .u64 (e.seq : Int), .slice da e.drop.length dc, .slice aa e.add.length ac], .int .i64 0]) ∧ DO W4 wr.heap.size (.slice da e.drop.length dc) e.drop ∧ AO W4 wr.heap.size (.slice aa e.add.length ac) e.add := hr4; obtain ⟨da, dc, aa, ac, hr6, hdo, hao⟩ := hr5; subst hr6; have F4 := hid f4; have DO4 := hid hdo; have AO4 := hid hao; clear hr4 f4 hdo hao)
        clear x0 DC
        obtain ⟨Q10, hQ10⟩ : ∃ Q10, Q10 = W4.heap.size := ⟨_, rfl⟩
        obtain ⟨W5, hW5⟩ : ∃ W5, W5 = W4.alloc (.cells #[.int .i64 e.log, .int .i64 e.next, .int .u64 (e.seq : Int), .slice da e.drop.length dc, .slice aa e.add.length ac] 41) := ⟨_, rfl⟩
        have f45 : Fr [] W4 W5 := by rw [hW5]; exact (Fr.refl _ _).alloc _
        have N10 : Hid (W5.heap[Q10]? = some (.cells #[.int .i64 e.log, .int .i64 e.next, .int .u64 (e.seq : Int), .slice da e.drop.length dc, .slice aa e.add.length ac] 41 (0, 0))) := hid (by rw [hW5, hQ10]; exact blk_new _ _)
        have F5 : Hid (Fr [] wr W5) := hid (F4.out.trans f45)
        have NQ5 := hid (F5.out.at NQ.out (by simp))
        have hwr : W1.heap.size ≤ wr.heap.size := FR.out.size
        have SMU : Hid (∀ i, i < 5 → kl i ≤ 500) := hid (fun i hi => by rw [OV.out.len i hi]; exact HB.out k u RP.out i hi)
        have HSA := hid (HAR.out.2 e HD.out)
        have hq5 : Q8 < W5.heap.size := blk_lt NQ5.out
        have hw5 : W1.heap.size ≤ W5.heap.size := Nat.le_trans hwr F5.out.size
        have FO : Hid (Calls Tryz.prog 15 #[.agg #[.int .i64 u.log, .int .i64 u.next, .int .u64 (u.seq : Int), .slice (kd 0) (kl 0) (kc 0), .slice (kd 1) (kl 1) (kc 1), .slice (kd 2) (kl 2) (kc 2), .slice (kd 3) (kl 3) (kc 3), .slice (kd 4) (kl 4) (kc 4)], .agg #[.int .i64 e.log, .int .i64 e.next, .int .u64 (e.seq : Int), .slice da e.drop.length dc, .slice aa e.add.length ac]] W5 fun r w' => ∃ (a0 a1 : Int) (a2 : Nat) (md : Nat → Option Addr) (ml mc : Nat → Nat) (c : Int), r = .returned (.tuple #[.agg #[.int .i64 a0, .int .i64 a1, .int .u64 (a2 : Int), .slice (md 0) (ml 0) (mc 0), .slice (md 1) (ml 1) (mc 1), .slice (md 2) (ml 2) (mc 2), .slice (md 3) (ml 3) (mc 3), .slice (md 4) (ml 4) (mc 4)], .int .i64 c]) ∧ Fr [] W5 w' ∧ ((errA u e c ∧ c ≠ 0) ∨ (c = 0 ∧ ∃ U, okA9 u e U ∧ (a0 = e.log ∧ a1 = e.next ∧ a2 = e.seq) ∧ (∀ i, i < 5 → md i = none → ml i = 0 ∧ mc i = 0) ∧ Keeps w' (fun g => g < W1.heap.size ∨ g = Q8) (fun W => VAt W U md ml mc)))) := hid (by
          refine (rapply_c W5 (OV.out.fr F5.out) HNIL.out ((dec_eat HBY.out (by have := HAR.out.1; omega) HD.out DO4.out AO4.out).fr f45) SMU.out HSA.out.2 HSA.out.1).mono fun r w' h => ?_
          have hck : chkV u = 0 := RP.out.chk vz_chk
          rcases h.out with ⟨h1, rfl⟩ | ⟨h1, h2, rfl⟩ | ⟨h1, h2, ⟨c, h3, h4, rfl⟩ | ⟨U, md, ml, mc, h3, rfl, h4, h5, h6⟩⟩
          · exact absurd hck h1
          · rw [decO_ok HD.out] at h2; cases h2
          · exact ⟨0, 0, 0, fun _ => none, fun _ => 0, fun _ => 0, c, rfl, h.fr, .inl ⟨h3, h4⟩⟩
          · exact ⟨_, _, _, md, ml, mc, 0, rfl, h.fr, .inr ⟨rfl, U, h3, ⟨rfl, rfl, rfl⟩, h5, fun W' hW' => h6 W' (fun g g1 g2 => hW' g g2 (by omega))⟩⟩)
        go_upto_region 8 with fail
        rw [← hW5, ← hQ10]
        clear hW5 hQ10 f45 DO4 AO4 F4 OV NQ SMU HNIL KP
        obtain ⟨y0, y1, y2, y3, y4⟩ := ed5_cells N10.out
        obtain ⟨z0, z1, z2, z3, z4, z5, z6, z7⟩ := vn_cells NQ5.out
        have NQF : Hid (∀ W6, Fr [] W5 W6 → W6.heap[Q8]? = some (.cells #[.int .i64 u.log, .int .i64 u.next, .int .u64 (u.seq : Int), .slice (kd 0) (kl 0) (kc 0), .slice (kd 1) (kl 1) (kc 1), .slice (kd 2) (kl 2) (kc 2), .slice (kd 3) (kl 3) (kc 3), .slice (kd 4) (kl 4) (kc 4)] 28 (0, 0))) := hid (fun W6 f => f.at NQ5.out (by simp))
        go_upto_region 9 with (go_at_call 15; refine FO.out.mono ?_; rintro r W6 ⟨a0, a1, a2, md, ml, mc, c, rfl, f6, h6⟩; have F6 := hid f6; have H6 := hid h6; have n6 := NQF.out W6 f6; obtain ⟨t0, t1, t2, t3, t4, t5, t6, t7⟩ := vn_cells n6; have tf0 := blk_frozen n6 0; have tf1 := blk_frozen n6 1; have tf2 := blk_frozen n6 2; have tf3 := blk_frozen n6 3; have tf4 := blk_frozen n6 4; have tf5 := blk_frozen n6 5; have tf6 := blk_frozen n6 6; have tf7 := blk_frozen n6 7; have N6 := hid n6; clear f6 h6 n6)
        clear t0 t1 t2 t3 t4 t5 t6 t7 tf0 tf1 tf2 tf3 tf4 tf5 tf6 tf7 y0 y1 y2 y3 y4 z0 z1 z2 z3 z4 z5 z6 z7 FO NQF NQ5 N10
        obtain ⟨W7, hW7⟩ : ∃ W7, W7 = (((((((W6.setCell ⟨Q8, 0, none⟩ (.int .i64 a0)).setCell ⟨Q8, 1, none⟩ (.int .i64 a1)).setCell ⟨Q8, 2, none⟩ (.int .u64 (a2 : Int))).setCell ⟨Q8, 3, none⟩ (.slice (md 0) (ml 0) (mc 0))).setCell ⟨Q8, 4, none⟩ (.slice (md 1) (ml 1) (mc 1))).setCell ⟨Q8, 5, none⟩ (.slice (md 2) (ml 2) (mc 2))).setCell ⟨Q8, 6, none⟩ (.slice (md 3) (ml 3) (mc 3))).setCell ⟨Q8, 7, none⟩ (.slice (md 4) (ml 4) (mc 4)) := ⟨_, rfl⟩
        have N7 : Hid (W7.heap[Q8]? = some (.cells #[.int .i64 a0, .int .i64 a1, .int .u64 (a2 : Int), .slice (md 0) (ml 0) (mc 0), .slice (md 1) (ml 1) (mc 1), .slice (md 2) (ml 2) (mc 2), .slice (md 3) (ml 3) (mc 3), .slice (md 4) (ml 4) (mc 4)] 28 (0, 0))) := hid (by rw [hW7, blk_set (blk_set (blk_set (blk_set (blk_set (blk_set (blk_set (blk_set N6.out 0 _) 1 _) 2 _) 3 _) 4 _) 5 _) 6 _) 7 _]; rfl)
        have F7 : Hid (Fr [] W1 W7) := hid (by rw [hW7]; exact (((((((((FR.out.trans F5.out).trans F6.out).set _ _ (.inr (by omega))).set _ _ (.inr (by omega))).set _ _ (.inr (by omega))).set _ _ (.inr (by omega))).set _ _ (.inr (by omega))).set _ _ (.inr (by omega))).set _ _ (.inr (by omega))).set _ _ (.inr (by omega)))
        have K7 : Hid (∀ P : World → Prop, Keeps W6 (fun g => g < W1.heap.size ∨ g = Q8) P → Keeps W7 (fun g => g < W1.heap.size ∨ g = Q8) P) := hid (fun P kp => kp.step (by rw [hW7]; simp [World.setCell]) (fun g _ hg => by
          have hk : g ≠ Q8 := fun e => hg (.inr e)
          rw [hW7, blk_setne _ _ _ hk, blk_setne _ _ _ hk, blk_setne _ _ _ hk, blk_setne _ _ _ hk, blk_setne _ _ _ hk, blk_setne _ _ _ hk, blk_setne _ _ _ hk, blk_setne _ _ _ hk]) (fun _ _ q => q))
        rw [← hW7]
        clear hW7 N6
        have M7 : Hid (W7.heap[w.heap.size]? = some (.cells #[.int .i64 0, .int .i64 0, .int .u64 0, .slice none 0 0, .slice none 0 0, .slice none 0 0, .slice none 0 0, .slice none 0 0] 28 (0, 0))) := hid ((F1.out.trans F7.out).at N0.out (by simp))
        have F07 := hid ((F0.out.trans F1.out).trans F7.out)
        rcases H6.out with ⟨he, hc0⟩ | ⟨hc0, U, ho, ⟨rfl, rfl, rfl⟩, hn6, hk6⟩
        · have HBAD : Hid (badV u r0 c) := hid (.inr ⟨e, HD.out, he, hc0⟩)
          have hc1 : ¬ (c = 0) := hc0
          clear he hc0 H6 F6 N7 K7
          obtain ⟨q0, q1, q2, q3, q4, q5, q6, q7⟩ := vn_cells M7.out
          have qf0 := blk_frozen M7.out 0
          have qf1 := blk_frozen M7.out 1
          have qf2 := blk_frozen M7.out 2
          have qf3 := blk_frozen M7.out 3
          have qf4 := blk_frozen M7.out 4
          have qf5 := blk_frozen M7.out 5
          have qf6 := blk_frozen M7.out 6
          have qf7 := blk_frozen M7.out 7
          go_wp2_with fail
          refine bodyPost_ret (ret_cttt rfl (g := w.heap.size) (by simp) (load46k (by rw [blk_set (blk_set (blk_set (blk_set (blk_set (blk_set (blk_set (blk_set M7.out 0 _) 1 _) 2 _) 3 _) 4 _) 5 _) 6 _) 7 _]; rfl))) rfl ?_
          exact ⟨(((((((F07.out.set _ _ (.inr (by omega))).set _ _ (.inr (by omega))).set _ _ (.inr (by omega))).set _ _ (.inr (by omega))).set _ _ (.inr (by omega))).set _ _ (.inr (by omega))).set _ _ (.inr (by omega))).set _ _ (.inr (by omega)), .inr ⟨k, r0, u, c, HR0.out, RP.out, HBAD.out, rfl⟩⟩
        · subst hc0
          have ST := hid (stepV.of HD.out ho)
          have KP8 : Hid (Keeps W7 (fun g => g < W1.heap.size ∨ g = Q8) (fun W => VAt W (fun i => if i < 5 then U i else []) md ml mc)) := hid (fun W' h' => (K7.out _ hk6 W' h').same5 (fun i hi => (if_pos hi).symm))
          have HN6 := hid hn6
          clear ho hn6 hk6 H6 K7
          go_wp2_with fail
          go_roundw
          case rel => exact ⟨k + 1, ⟨e.log, e.next, e.seq, fun i => if i < 5 then U i else []⟩, md, ml, mc, by omega, by go_num, RP.out.take HR0.out ST.out, N7.out, KP8.out.self, HN6.out, KP8.out, F7.out⟩
          case measure => simp [intOf]; omega
    · have hkn : k = n := by omega
      subst hkn
      have RPE : Hid (RplF vz rs u) := hid (by have := RP.out; rw [HN.out, List.take_length] at this; exact this)
      obtain ⟨z0, z1, z2, z3, z4, z5, z6, z7⟩ := vn_cells NQ.out
      obtain ⟨q0, q1, q2, q3, q4, q5, q6, q7⟩ := vn_cells M0.out
      have qf0 := blk_frozen M0.out 0
      have qf1 := blk_frozen M0.out 1
      have qf2 := blk_frozen M0.out 2
      have qf3 := blk_frozen M0.out 3
      have qf4 := blk_frozen M0.out 4
      have qf5 := blk_frozen M0.out 5
      have qf6 := blk_frozen M0.out 6
      have qf7 := blk_frozen M0.out 7
      have F09 := hid ((F0.out.trans F1.out).trans FR.out)
      have hq0 : w.heap.size ≠ Q8 := by omega
      go_wp2_with fail
      refine bodyPost_ret (ret_cttt rfl (g := w.heap.size) (by simp) (load46k (by rw [blk_set (blk_set (blk_set (blk_set (blk_set (blk_set (blk_set (blk_set M0.out 0 _) 1 _) 2 _) 3 _) 4 _) 5 _) 6 _) 7 _]; rfl))) rfl ?_
      refine ⟨(((((((F09.out.set _ _ (.inr (by omega))).set _ _ (.inr (by omega))).set _ _ (.inr (by omega))).set _ _ (.inr (by omega))).set _ _ (.inr (by omega))).set _ _ (.inr (by omega))).set _ _ (.inr (by omega))).set _ _ (.inr (by omega)), .inl ⟨u, kd, kl, kc, RPE.out, ?_, KP.out _ (fun g _ hg => ?_)⟩⟩
      · rw [← HN.out]
        rfl
      · have hk : g ≠ w.heap.size := fun e => hg (.inl (by omega))
        rw [blk_setne _ _ _ hk, blk_setne _ _ _ hk, blk_setne _ _ _ hk, blk_setne _ _ _ hk, blk_setne _ _ _ hk, blk_setne _ _ _ hk, blk_setne _ _ _ hk, blk_setne _ _ _ hk]
end Go.Proofs.YtegbngbhmgbocaaGreatDoor
