/-
  What the law on logs of edits keeps.
-/
import Derived.Test.YtmhhdlcdfgahkaaDoorJ43
import Derived.Test.YtmhhdlcdfgahkaaDoorJ44
import Derived.Test.YtmhhdlcdfgahkaaDoorJ10
import Derived.Test.YtmhhdlcdfgahkaaDoorJ34
import Derived.Test.YtmhhdlcdfgahkaaDoorJ35
namespace Go.Proofs.YtmhhdlcdfgahkaaDoor
open Go.ChangeShapes Go.WideShapes Go.ChangeAt Go.RowKit

/-- It holds, whatever becomes of some blocks. -/
def Keeps (W : World) (S : Nat → Prop) (P : World → Prop) : Prop := ∀ W', (∀ k, k < W.heap.size → ¬ S k → W'.heap[k]? = W.heap[k]?) → P W'
theorem Keeps.self {W : World} {S : Nat → Prop} {P : World → Prop} (h : Keeps W S P) : P W := h W fun _ _ _ => rfl
theorem Keeps.step {W W1 : World} {S S' : Nat → Prop} {P : World → Prop} (h : Keeps W S P) (hs : W.heap.size ≤ W1.heap.size) (ho : ∀ k, k < W.heap.size → ¬ S k → W1.heap[k]? = W.heap[k]?) (hS : ∀ k, k < W.heap.size → S' k → S k) : Keeps W1 S' P :=
  fun W' hk => h W' fun k hl hn => (hk k (Nat.lt_of_lt_of_le hl hs) (fun q => hn (hS k hl q))).trans (ho k hl hn)
theorem Keeps.fr {W W1 : World} {S : Nat → Prop} {P : World → Prop} (h : Keeps W S P) (f : Fr [] W W1) : Keeps W1 S P := h.step f.size (fun k hk _ => f.block k hk (by simp)) (fun _ _ q => q)
theorem OwnV.keeps {B : Nat} {W : World} {U : Nat → List Fl} {kd : Nat → Option Addr} {kl kc : Nat → Nat} (h : OwnV B W U kd kl kc) {S : Nat → Prop} (hS : ∀ k, S k → k < B) : Keeps W S (fun W => VAt W U kd kl kc) := by
  intro W' hk
  have own : ∀ {e : TypeId} {s n : Nat} {v : Value} {xs : List Value}, W.ownsRow B e s v n xs → W'.ownsRow B e s v n xs := fun {e s n v xs} oo => ownsRow_of_block oo fun k hb => hk k (World.ownsRow.lt oo k hb).2 (fun q => by have h1 := hS k q; have h2 := (World.ownsRow.lt oo k hb).1; omega)
  obtain ⟨⟨Z, h1, h2, h3, h4⟩, h5, h6⟩ := h
  exact (⟨⟨Z, h1, h2, fun k hk => own (h3 k hk), fun k hk x hx => ⟨own (h4 k hk x hx).ol, own (h4 k hk x hx).om⟩⟩, h5, h6⟩ : OwnV B W' U kd kl kc).vat
theorem vat_nil (w : World) : VAt w (fun _ => []) (fun _ => none) (fun _ => 0) (fun _ => 0) := ⟨fun _ _ => rfl, fun _ _ => by omega, fun _ _ h => by omega⟩
theorem VAt.same5 {W : World} {U U' : Nat → List Fl} {kd : Nat → Option Addr} {kl kc : Nat → Nat} (h : VAt W U kd kl kc) (e : ∀ i, i < 5 → U i = U' i) : VAt W U' kd kl kc :=
  ⟨fun i hi => by rw [← e i hi]; exact h.len i hi, h.small, fun i hi h0 => by rw [← e i hi]; exact h.rd i hi h0⟩
/-- What the law keeps: the version so far, the one that is told, the log. -/
structure LgS (W1 wr : World) (Q5 Q6 : Nat) (es : List Ed) (cut : Int) (i : Nat) (u t : Vn) (kd : Nat → Option Addr) (kl kc : Nat → Nat) (td : Nat → Option Addr) (tl tc : Nat → Nat) (ba : Option Addr) (bl bc : Nat) : Prop where
  rp : RplF vz (accL es i) u
  tp : RplF vz ((accL es i).take (cntI cut (accL es i))) t
  ok : ∀ r ∈ accL es i, By r ∧ r.length ≤ 38000 ∧ ∀ e, decO r = some e → e.add.length ≤ 30 ∧ e.drop.length ≤ 30
  n5 : wr.heap[Q5]? = some (.cells #[.int .i64 u.log, .int .i64 u.next, .int .u64 (u.seq : Int), .slice (kd 0) (kl 0) (kc 0), .slice (kd 1) (kl 1) (kc 1), .slice (kd 2) (kl 2) (kc 2), .slice (kd 3) (kl 3) (kc 3), .slice (kd 4) (kl 4) (kc 4)] 28 (0, 0))
  n6 : wr.heap[Q6]? = some (.cells #[.int .i64 t.log, .int .i64 t.next, .int .u64 (t.seq : Int), .slice (td 0) (tl 0) (tc 0), .slice (td 1) (tl 1) (tc 1), .slice (td 2) (tl 2) (tc 2), .slice (td 3) (tl 3) (tc 3), .slice (td 4) (tl 4) (tc 4)] 28 (0, 0))
  kv : Keeps wr (fun k => k = Q5 ∨ k = Q6 ∨ (Value.slice ba bl bc).ownBlock = some k) (fun W => VAt W u.lv kd kl kc)
  kt : Keeps wr (fun k => k = Q5 ∨ k = Q6 ∨ (Value.slice ba bl bc).ownBlock = some k) (fun W => VAt W t.lv td tl tc)
  bo : wr.ownsRow W1.heap.size 5 1 (.slice ba bl bc) bl (bv (logL 0 (accL es i)))
  bn : bl = (logL 0 (accL es i)).length
  fr : Fr [] W1 wr
  g5 : W1.heap.size ≤ Q5
  g6 : W1.heap.size ≤ Q6
  ne : Q5 ≠ Q6
theorem LgS.fr' {W1 wr W' : World} {Q5 Q6 : Nat} {es : List Ed} {cut : Int} {i : Nat} {u t : Vn} {kd : Nat → Option Addr} {kl kc : Nat → Nat} {td : Nat → Option Addr} {tl tc : Nat → Nat} {ba : Option Addr} {bl bc : Nat} (h : LgS W1 wr Q5 Q6 es cut i u t kd kl kc td tl tc ba bl bc) (f : Fr [] wr W') : LgS W1 W' Q5 Q6 es cut i u t kd kl kc td tl tc ba bl bc :=
  ⟨h.rp, h.tp, h.ok, f.at h.n5 (by simp), f.at h.n6 (by simp), h.kv.fr f, h.kt.fr f, ownsRow_fr h.bo f, h.bn, h.fr.trans f, h.g5, h.g6, h.ne⟩
theorem LgS.new {W1 wr : World} {Q5 Q6 : Nat} (es : List Ed) (cut : Int) (n5 : wr.heap[Q5]? = some (.cells #[.int .i64 0, .int .i64 0, .int .u64 0, .slice none 0 0, .slice none 0 0, .slice none 0 0, .slice none 0 0, .slice none 0 0] 28 (0, 0))) (n6 : wr.heap[Q6]? = some (.cells #[.int .i64 0, .int .i64 0, .int .u64 0, .slice none 0 0, .slice none 0 0, .slice none 0 0, .slice none 0 0, .slice none 0 0] 28 (0, 0))) (f : Fr [] W1 wr) (g5 : W1.heap.size ≤ Q5) (g6 : W1.heap.size ≤ Q6) (ne : Q5 ≠ Q6) : LgS W1 wr Q5 Q6 es cut 0 vz vz (fun _ => none) (fun _ => 0) (fun _ => 0) (fun _ => none) (fun _ => 0) (fun _ => 0) none 0 0 :=
  ⟨rfl, by show RplF vz (([] : List (List Nat)).take _) vz; rw [List.take_nil]; rfl, (fun r hr => by cases hr), n5, n6, fun W _ => vat_nil W, fun W _ => vat_nil W, World.ownsRow_nil _ _ _ _, rfl, f, g5, g6, ne⟩
/-- What Apply answers, to the law. -/
theorem AOut.lg {w w' : World} {v : Vn} {e : Ed} {r : Ending} (h : AOut w w' v e r) (c0 : chkV v = 0) : ∃ (a0 a1 : Int) (a2 : Nat) (md : Nat → Option Addr) (ml mc : Nat → Nat) (x : Int), r = .returned (.tuple #[.agg #[.int .i64 a0, .int .i64 a1, .int .u64 (a2 : Int), .slice (md 0) (ml 0) (mc 0), .slice (md 1) (ml 1) (mc 1), .slice (md 2) (ml 2) (mc 2), .slice (md 3) (ml 3) (mc 3), .slice (md 4) (ml 4) (mc 4)], .int .i64 x]) ∧ Fr [] w w' ∧ (x ≠ 0 ∨ (x = 0 ∧ okE e = true ∧ ∃ U, okA9 v e U ∧ (a0 = e.log ∧ a1 = e.next ∧ a2 = e.seq) ∧ OwnV w.heap.size w' U md ml mc)) := by
  rcases h.out with ⟨h1, rfl⟩ | ⟨h1, h2, rfl⟩ | ⟨h1, h2, ⟨c, h3, h4, rfl⟩ | ⟨U, kd, kl, kc, h3, rfl, h4⟩⟩
  · exact absurd c0 h1
  · exact ⟨0, 0, 0, fun _ => none, fun _ => 0, fun _ => 0, 90, rfl, h.fr, .inl (by omega)⟩
  · exact ⟨0, 0, 0, fun _ => none, fun _ => 0, fun _ => 0, c, rfl, h.fr, .inl h4⟩
  · exact ⟨_, _, _, kd, kl, kc, 0, rfl, h.fr, .inr ⟨rfl, h2, U, h3, ⟨rfl, rfl, rfl⟩, h4⟩⟩
/-- One edit more. -/
theorem LgS.next {W1 wr : World} {Q5 Q6 : Nat} {es : List Ed} {cut : Int} {i : Nat} {u t : Vn} {kd : Nat → Option Addr} {kl kc : Nat → Nat} {td : Nat → Option Addr} {tl tc : Nat → Nat} {ba : Option Addr} {bl bc : Nat} (h : LgS W1 wr Q5 Q6 es cut i u t kd kl kc td tl tc ba bl bc) {e : Ed} {U : Nat → List Fl} (hi : es[i]? = some e) (hok : okE e = true) (hd : e.drop.length ≤ 30) (ha : e.add.length ≤ 30) (hby : By (encE e)) (o : okA9 u e U) :
    RplF vz (accL es (i + 1)) ⟨e.log, e.next, e.seq, fun k => if k < 5 then U k else []⟩ ∧ (∀ r ∈ accL es (i + 1), By r ∧ r.length ≤ 38000 ∧ ∀ e, decO r = some e → e.add.length ≤ 30 ∧ e.drop.length ≤ 30) ∧ logL 0 (accL es (i + 1)) = logL 0 (accL es i) ++ appL bl (encE e) := by
  have hdec : decO (encE e) = some e := decO_enc hok (by omega) (by omega)
  have e1 := accL_succ hi
  refine ⟨by rw [e1]; exact h.rp.snoc (stepV.of hdec o), fun r hr => ?_, by rw [e1, logL_snoc, h.bn, Nat.zero_add]⟩
  rw [e1] at hr
  rcases List.mem_append.1 hr with hr | hr
  · exact h.ok r hr
  · have er : r = encE e := by simpa using hr
    subst er
    exact ⟨hby, encE_len38 hok hd ha, fun e' he' => by rw [hdec] at he'; cases he'; exact ⟨ha, hd⟩⟩
end Go.Proofs.YtmhhdlcdfgahkaaDoor
