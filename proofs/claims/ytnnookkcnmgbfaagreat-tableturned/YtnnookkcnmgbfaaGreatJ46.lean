/-
  TableBuilds, walked.
-/
import Derived.Test.YtnnookkcnmgbfaaGreatXT
import Derived.Test.YtnnookkcnmgbfaaGreatJ14
import Derived.Test.YtnnookkcnmgbfaaGreatJ41
import Derived.Test.YtnnookkcnmgbfaaGreatXZ
import Derived.Test.YtnnookkcnmgbfaaGreatJ44
import Derived.Test.YtnnookkcnmgbfaaGreatJ38
import Derived.Test.YtnnookkcnmgbfaaGreatJ35
import Derived.Test.YtnnookkcnmgbfaaGreatJ42
namespace Go.Proofs.YtnnookkcnmgbfaaGreat
open Go.ChangeShapes Go.WideShapes Go.ChangeAt Go.RowKit

set_option maxRecDepth 20000 in
set_option maxHeartbeats 1600000 in
theorem few8_c (w : World) {v : Value} {ps : Ps} (h : RdK w v ps) (hl : ps.length ≤ 140737488355328) :
    Calls Tryz.prog 11 #[v] w fun e w' => (e = .returned (.bool false) ∨ e = .returned (.bool true) ∧ Few ps) ∧ Fr [] w w' := by
  have HL := hid h.lens
  obtain ⟨a, c, rfl, hc, k1⟩ := h
  have H1 := hid k1
  clear k1
  obtain ⟨n, hn⟩ : ∃ n, n = ps.length := ⟨_, rfl⟩
  have HN := hid hn
  rw [← hn] at hl hc ⊢
  clear hn
  go_enter Tryz.func11, Tryz.ntmps11
  go_wp2_with fail
  go_loopw [3, 4] (fun v3 v4 wr => ∃ i : Nat, i ≤ n ∧ v4 = .int .i64 (i : Int) ∧ v3 = .int .i64 (tot ps i : Int) ∧ tot ps i ≤ 281474976715656 ∧ Fr [] w wr) (fun _ v4 _ => n - (intOf v4).toNat)
  case atStart => exact ⟨0, Nat.zero_le _, rfl, rfl, by simp [tot], Fr.refl _ _⟩
  case round =>
    obtain ⟨i, hi, rfl, rfl, ht, hf⟩ := hrel
    have HF := hid hf
    have htt1 : tot ps (i + 1) = tot ps i + (kA ps i).length + (vA ps i).length := rfl
    have HTT := hid htt1
    have HTN := hid (tot_le ps (i := i) (j := n) hi)
    clear hf htt1
    generalize htt : tot ps i = tt at *
    by_cases hgo : i < n ∧ tt ≤ 5000
    · obtain ⟨hlt, h5⟩ := hgo
      have hil : i < ps.length := by rw [← HN.out]; exact hlt
      obtain ⟨b, off, rfl, m1⟩ := H1.out (by omega)
      obtain ⟨ka, kc, va, vc, P⟩ := m1 i _ (ps_at hil)
      have z1 := cell_fr HF.out P.ck
      have z2 := cell_fr HF.out P.cv
      have hlk := P.lk
      have hlv := P.lv
      dsimp only at z1 z2 hlk hlv
      clear P m1 htt hil
      generalize (kA ps i).length = lk at *
      generalize (vA ps i).length = lv at *
      have hlt' : (i : Int) < (n : Int) := by omega
      have h5' : (tt : Int) ≤ 5000 := by omega
      have w1 : IntKind.i64.wrap ((tt : Int) + (lk : Int)) = (tt : Int) + (lk : Int) := by rw [IntKind.wrap_i64]; omega
      have w2 : IntKind.i64.wrap ((tt : Int) + (lk : Int) + (lv : Int)) = (tt : Int) + (lk : Int) + (lv : Int) := by rw [IntKind.wrap_i64]; omega
      go_upto_region 5 with fail
      go_quiet (fail)
      clear w1 w2
      go_wp2
      go_roundw
      case rel => exact ⟨i + 1, by omega, by go_num, by rw [HTT.out]; simp, by rw [HTT.out]; omega, HF.out.drewN _⟩
      case measure => simp [intOf]; omega
    · by_cases h60 : n ≤ 60
      · by_cases h5 : tt ≤ 5000
        · have hin : i = n := by omega
          subst hin
          go_wp2
          go_ret
          exact ⟨.inr ⟨by simp <;> omega, by rw [← HN.out]; omega, by rw [← HN.out, htt]; exact h5⟩, HF.out⟩
        · by_cases hlt : i < n
          all_goals
            go_wp2
            go_ret
            exact ⟨.inl (by simp <;> omega), HF.out⟩
      · by_cases hlt : i < n
        all_goals
          go_wp2
          all_goals
            go_ret
            exact ⟨.inl (by simp <;> omega), HF.out⟩
/-- What a table is built to, or why not. -/
def TbR (b r i t : Int) (ps : Ps) (x : Nat) (X : List Nat) : Prop :=
  (x = 82 ∧ ¬ PlanOk b r i t ∧ X = []) ∨ (x = 83 ∧ PlanOk b r i t ∧ ps = [] ∧ X = []) ∨ (x = 70 ∧ PlanOk b r i t ∧ ps ≠ [] ∧ ¬ Rises ps ∧ X = []) ∨ (x = 0 ∧ PlanOk b r i t ∧ ps ≠ [] ∧ Rises ps ∧ X = tblL r.toNat b.toNat i.toNat ps)
theorem tbr_ex (b r i t : Int) (ps : Ps) : ∃ x X, TbR b r i t ps x X := by
  by_cases h1 : PlanOk b r i t
  · by_cases h2 : ps = []
    · exact ⟨83, [], .inr (.inl ⟨rfl, h1, h2, rfl⟩)⟩
    · by_cases h3 : Rises ps
      · exact ⟨0, _, .inr (.inr (.inr ⟨rfl, h1, h2, h3, rfl⟩))⟩
      · exact ⟨70, [], .inr (.inr (.inl ⟨rfl, h1, h2, h3, rfl⟩))⟩
  · exact ⟨82, [], .inl ⟨rfl, h1, rfl⟩⟩
theorem nil_rd (w : World) : Rd w (.slice none 0 0) (bv []) := .inl ⟨rfl, rfl⟩
theorem tbuild_g (w : World) {v : Value} {ps : Ps} (h : RdK w v ps) (hl : Lim ps) {b r i t : Int} {x : Nat} {X : List Nat} (hT : TbR b r i t ps x X) :
    Calls Tryz.prog 14 #[v, .agg #[.int .i64 b, .int .i64 r, .int .i64 i, .int .i64 t]] w fun e w' => ∃ v', e = .returned (.tuple #[v', .int .i64 (x : Int)]) ∧ Rd w' v' (bv X) ∧ Fr [] w w' := by
  rcases hT with ⟨rfl, hp, rfl⟩ | ⟨rfl, hp, h0, rfl⟩ | ⟨rfl, hp, h0, hr, rfl⟩ | ⟨rfl, hp, h0, hr, rfl⟩
  · obtain ⟨a, c, rfl, _⟩ := h
    exact (tbuild_plan w b r i t hp).mono fun e w' ⟨e1, f⟩ => ⟨_, e1, nil_rd _, f⟩
  · obtain ⟨a, c, rfl, _⟩ := h
    subst h0
    exact (tbuild_none w b r i t hp).mono fun e w' ⟨e1, f⟩ => ⟨_, e1, nil_rd _, f⟩
  · exact (tbuild_order w h hl.n h0 b r i t hp hr).mono fun e w' ⟨e1, f⟩ => ⟨_, e1, nil_rd _, f⟩
  · have hb := hp.b0
    have hr0 := hp.r0
    have hi := hp.i0
    obtain ⟨b', rfl⟩ : ∃ b' : Nat, b = (b' : Int) := ⟨b.toNat, by omega⟩
    obtain ⟨r', rfl⟩ : ∃ r' : Nat, r = (r' : Int) := ⟨r.toNat, by omega⟩
    obtain ⟨i', rfl⟩ : ∃ i' : Nat, i = (i' : Int) := ⟨i.toNat, by omega⟩
    simp only [Int.toNat_natCast]
    exact (tbuild_ok w h hl h0 b' r' i' t hp hr).mono fun e w' ⟨v', e1, o, f⟩ => ⟨_, e1, Rd.ownB o, f⟩
set_option maxRecDepth 20000 in
set_option maxHeartbeats 1600000 in
theorem rtbuild_plan (w : World) {a : Option Addr} {n c : Nat} (b r i t : Int) (h : ¬ PlanOk b r i t) :
    Calls Tryz.prog 12 #[.slice a n c, .agg #[.int .i64 b, .int .i64 r, .int .i64 i, .int .i64 t]] w fun e w' => e = .returned (.tuple #[.slice none 0 0, .int .i64 82]) ∧ Fr [] w w' := by
  have CK : Hid (∀ W, Calls Tryz.prog 33 #[.agg #[.int .i64 b, .int .i64 r, .int .i64 i, .int .i64 t]] W fun e w' => e = .returned (.int .i64 82) ∧ Fr [] W w') := hid (fun W => (rcheck_c W b r i t).mono (fun e w' h' => by
    rcases h' with ⟨⟨_, e1⟩ | ⟨e1, _⟩, f⟩
    · exact absurd e1 h
    · exact ⟨e1, f⟩))
  clear h
  go_enter Tryz.func12, Tryz.ntmps12
  go_wp2_with (go_at_call 33; refine (CK.out _).mono ?_; rintro e w1 ⟨rfl, f1⟩; have F1 := hid f1; clear f1)
  go_ret2
  exact ⟨rfl, ((Fr.refl _ _).alloc _).trans F1.out⟩
set_option maxRecDepth 20000 in
set_option maxHeartbeats 1600000 in
theorem rtbuild_none (w : World) {a : Option Addr} {c : Nat} (b r i t : Int) (h : PlanOk b r i t) :
    Calls Tryz.prog 12 #[.slice a 0 c, .agg #[.int .i64 b, .int .i64 r, .int .i64 i, .int .i64 t]] w fun e w' => e = .returned (.tuple #[.slice none 0 0, .int .i64 83]) ∧ Fr [] w w' := by
  have CK : Hid (∀ W, Calls Tryz.prog 33 #[.agg #[.int .i64 b, .int .i64 r, .int .i64 i, .int .i64 t]] W fun e w' => e = .returned (.int .i64 0) ∧ Fr [] W w') := hid (fun W => (rcheck_c W b r i t).mono (fun e w' h' => by
    rcases h' with ⟨⟨e1, _⟩ | ⟨_, e1⟩, f⟩
    · exact ⟨e1, f⟩
    · exact absurd h e1))
  clear h
  go_enter Tryz.func12, Tryz.ntmps12
  go_wp2_with (go_at_call 33; refine (CK.out _).mono ?_; rintro e w1 ⟨rfl, f1⟩; have F1 := hid f1; clear f1)
  go_ret2
  exact ⟨rfl, ((Fr.refl _ _).alloc _).trans F1.out⟩
set_option maxRecDepth 20000 in
set_option maxHeartbeats 1600000 in
theorem rtbuild_order (w : World) {v : Value} {ps : Ps} (h : RdK w v ps) (hl : ps.length ≤ 1000000) (h0 : ps ≠ []) (b r i t : Int) (hp : PlanOk b r i t) (hr : ¬ Rises ps) :
    Calls Tryz.prog 12 #[v, .agg #[.int .i64 b, .int .i64 r, .int .i64 i, .int .i64 t]] w fun e w' => e = .returned (.tuple #[.slice none 0 0, .int .i64 70]) ∧ Fr [] w w' := by
  have CK : Hid (∀ W, Calls Tryz.prog 33 #[.agg #[.int .i64 b, .int .i64 r, .int .i64 i, .int .i64 t]] W fun e w' => e = .returned (.int .i64 0) ∧ Fr [] W w') := hid (fun W => (rcheck_c W b r i t).mono (fun e w' h' => by
    rcases h' with ⟨⟨e1, _⟩ | ⟨_, e1⟩, f⟩
    · exact ⟨e1, f⟩
    · exact absurd hp e1))
  have RI : Hid (∀ W, Fr [] w W → Calls Tryz.prog 34 #[v] W fun e w' => e = .returned (.bool false) ∧ Fr [] W w') := hid (fun W f => (rrises_c W (h.fr f) hl).mono (fun e w' h' => by
    rcases h' with ⟨⟨_, e1⟩ | ⟨e1, _⟩, f⟩
    · exact absurd e1 hr
    · exact ⟨e1, f⟩))
  have hpos := List.length_pos_iff.2 h0
  obtain ⟨a, c, rfl, hc, _⟩ := h
  clear hp hr h0
  generalize ps.length = n at *
  have hz : ((n : Int) == 0) = false := by rw [beq_eq_false_iff_ne]; omega
  go_enter Tryz.func12, Tryz.ntmps12
  go_wp2_with (first
    | (go_at_call 33; refine (CK.out _).mono ?_; rintro e w1 ⟨rfl, f1⟩; have F1 := hid (((Fr.refl [] w).alloc _).trans f1); clear f1)
    | (go_at_call 34; refine (RI.out w1 F1.out).mono ?_; rintro e w2 ⟨rfl, f2⟩; have F2 := hid (F1.out.trans f2); clear f2))
  go_ret2
  exact ⟨rfl, F2.out⟩
theorem rtbuild_g (w : World) {v : Value} {ps : Ps} (h : RdK w v ps) (hl : Lim ps) {b r i t : Int} {x : Nat} {X : List Nat} (hT : TbR b r i t ps x X) :
    Calls Tryz.prog 12 #[v, .agg #[.int .i64 b, .int .i64 r, .int .i64 i, .int .i64 t]] w fun e w' => ∃ v', e = .returned (.tuple #[v', .int .i64 (x : Int)]) ∧ Rd w' v' (bv X) ∧ Fr [] w w' := by
  rcases hT with ⟨rfl, hp, rfl⟩ | ⟨rfl, hp, h0, rfl⟩ | ⟨rfl, hp, h0, hr, rfl⟩ | ⟨rfl, hp, h0, hr, rfl⟩
  · obtain ⟨a, c, rfl, _⟩ := h
    exact (rtbuild_plan w b r i t hp).mono fun e w' ⟨e1, f⟩ => ⟨_, e1, nil_rd _, f⟩
  · obtain ⟨a, c, rfl, _⟩ := h
    subst h0
    exact (rtbuild_none w b r i t hp).mono fun e w' ⟨e1, f⟩ => ⟨_, e1, nil_rd _, f⟩
  · exact (rtbuild_order w h hl.n h0 b r i t hp hr).mono fun e w' ⟨e1, f⟩ => ⟨_, e1, nil_rd _, f⟩
  · have hb := hp.b0
    have hr0 := hp.r0
    have hi := hp.i0
    obtain ⟨b', rfl⟩ : ∃ b' : Nat, b = (b' : Int) := ⟨b.toNat, by omega⟩
    obtain ⟨r', rfl⟩ : ∃ r' : Nat, r = (r' : Int) := ⟨r.toNat, by omega⟩
    obtain ⟨i', rfl⟩ : ∃ i' : Nat, i = (i' : Int) := ⟨i.toNat, by omega⟩
    simp only [Int.toNat_natCast]
    exact (rtbuild_ok w h hl h0 b' r' i' t hp hr).mono fun e w' ⟨v', e1, o, f⟩ => ⟨_, e1, Rd.ownB o, f⟩
theorem few_lim {ps : Ps} (h : Few ps) : Lim ps := ⟨by have := h.n; omega, by have := h.t; omega⟩
theorem TbR.by {b r i t : Int} {ps : Ps} {x : Nat} {X : List Nat} (h : TbR b r i t ps x X) (hb : ByP ps) : By X := by
  rcases h with ⟨_, _, rfl⟩ | ⟨_, _, _, rfl⟩ | ⟨_, _, _, _, rfl⟩ | ⟨_, _, _, _, rfl⟩
  · exact fun n hn => by cases hn
  · exact fun n hn => by cases hn
  · exact fun n hn => by cases hn
  · exact tblL_by hb
end Go.Proofs.YtnnookkcnmgbfaaGreat
namespace Go.Proofs.YtnnookkcnmgbfaaGreat
open Go.ChangeShapes Go.WideShapes Go.ChangeAt Go.RowKit

/-- The blocks, one by one. -/
def blkA (D : List Ps) (i : Nat) : Ps := D[i]?.getD []
theorem blkA_at {D : List Ps} {i : Nat} {c : Ps} (h : D[i]? = some c) : blkA D i = c := by unfold blkA; rw [h]; rfl
theorem built_look {r : Nat} {D : List Ps} (hby : ByP D.flatten) (hr : Rises D.flatten) (hne : ∀ c ∈ D, c ≠ []) (hl : (datL r D).length ≤ 1000000000) (h1 : 1 ≤ r) (h2 : r ≤ 64) {i : Nat} (hi : i < (idxF r 0 D).length) :
    LookR (datL r D) (nxN (idxF r 0 D) i) (szA (idxF r 0 D) i) (kA (idxF r 0 D) i) 0 (blkA D i) ∧ nxN (idxF r 0 D) i + szA (idxF r 0 D) i + 4 ≤ (datL r D).length := by
  rw [idxF_len] at hi
  have hc : D[i]? = some D[i] := List.getElem?_eq_getElem hi
  have lk := idx_look (r := r) hby (by omega) hc
  have hle := dat_le (r := r) hc
  have hm := List.mem_of_getElem? hc
  rw [blkA_at hc]
  refine ⟨.inr (.inr ⟨rfl, lk.1, ⟨r, ?_⟩, hne _ hm, ((idx_val (by omega) hc).2).symm⟩), ?_⟩
  · rw [lk.2]
    exact ⟨chunk_rises hr hm, h1, h2, rfl⟩
  · rw [idx_nx (by omega) i (by omega), idx_sz (by omega) hc]
    exact hle
theorem range_built (w : World) {p r most : Nat} {ps : Ps} {flt : List Nat} {da fa : Option Addr} {dc fc G : Nat} (T : Tab w p (datL r (chs most ps)) flt (idxF r 0 (chs most ps)) da dc fa fc G) (hl : Lim ps) (hr : Rises ps) (hb : ByP ps) (h1 : 1 ≤ r) (h2 : r ≤ 64) {lev mov : Value} {least mk : List Nat} (rl : Rd w lev (bv least)) (rm : Rd w mov (bv mk)) (bl : By least) (bm : By mk) :
    Calls Tryz.prog 31 #[.pointer (some ⟨p, 0, none⟩), lev, mov] w fun e w' => ∃ v', e = .returned (.tuple #[v', .int .i64 0]) ∧ ColO w' w.heap.size v' (ps.filter (inR least mk)) ∧ Fr [] w w' := by
  have hf := chs_flat most ps
  have hD := hl.dat r most
  have hn := hl.n
  have hrD : Rises (chs most ps).flatten := by rw [hf.1]; exact hr
  have hbD : ByP (chs most ps).flatten := by rw [hf.1]; exact hb
  have bi := idx_by (r := r) _ 0 hbD hf.2
  refine (range_c w T (datL_by hbD) (by omega) bi (by rw [idxF_len]; omega) (fun i hi => (built_look hbD hrD hf.2 (by omega) h1 h2 hi).2) (X := fun _ => 0) (Q := blkA (chs most ps)) (fun i hi => (built_look hbD hrD hf.2 (by omega) h1 h2 hi).1) rl rm bl bm).mono ?_
  rintro e w' ⟨I, v', ⟨hI, _, hI2⟩, rfl, co, f⟩
  rw [idxF_len] at hI co ⊢
  have hR := rng_all hrD hf.2 (X := fun _ => 0) (Q := blkA (chs most ps)) (U := fun i => userL (kA (idxF r 0 (chs most ps)) i)) (fun i c hc => ⟨rfl, blkA_at hc, by rw [(idx_val (by omega) hc).2]⟩) least mk hI (fun h => by
    have := hI2 h
    unfold atU at this
    simp only [decide_eq_false_iff_not] at this
    omega)
  rw [hR, hf.1] at co
  rw [hR]
  exact ⟨v', rfl, co, f⟩
theorem all_built (w : World) {p r most : Nat} {ps : Ps} {flt : List Nat} {da fa : Option Addr} {dc fc G : Nat} (T : Tab w p (datL r (chs most ps)) flt (idxF r 0 (chs most ps)) da dc fa fc G) (hl : Lim ps) (hr : Rises ps) (hb : ByP ps) (h1 : 1 ≤ r) (h2 : r ≤ 64) :
    Calls Tryz.prog 27 #[.pointer (some ⟨p, 0, none⟩)] w fun e w' => ∃ v', e = .returned (.tuple #[v', .int .i64 0]) ∧ ColO w' w.heap.size v' ps ∧ Fr [] w w' := by
  have hf := chs_flat most ps
  have hD := hl.dat r most
  have hn := hl.n
  have hrD : Rises (chs most ps).flatten := by rw [hf.1]; exact hr
  have hbD : ByP (chs most ps).flatten := by rw [hf.1]; exact hb
  have bi := idx_by (r := r) _ 0 hbD hf.2
  refine (tall_c w T (datL_by hbD) (by omega) bi (by rw [idxF_len]; omega) (fun i hi => (built_look hbD hrD hf.2 (by omega) h1 h2 hi).2) (X := fun _ => 0) (Q := blkA (chs most ps)) (fun i hi => (built_look hbD hrD hf.2 (by omega) h1 h2 hi).1)).mono ?_
  rintro e w' ⟨v', rfl, co, f⟩
  rw [idxF_len] at co ⊢
  have hR := rng_all hrD hf.2 (X := fun _ => 0) (Q := blkA (chs most ps)) (U := fun i => userL (kA (idxF r 0 (chs most ps)) i)) (fun i c hc => ⟨rfl, blkA_at hc, by rw [(idx_val (by omega) hc).2]⟩) [] [] (Nat.zero_le _) (fun h => by omega)
  rw [Nat.sub_zero] at hR
  rw [hR, hf.1, filter_nil] at co
  rw [hR]
  exact ⟨v', rfl, co, f⟩
theorem topen_built (w : World) {r most bits : Nat} {ps : Ps} {v : Value} (o : Rd w v (bv (tblL r most bits ps))) (hl : Lim ps) (hr : Rises ps) (hb : ByP ps) (h0 : ps ≠ []) (hbits : bits ≤ 64) :
    Calls Tryz.prog 6 #[v] w fun e w' => ∃ p da dc fa fc G, e = .returned (.tuple #[.pointer (some ⟨p, 0, none⟩), .int .i64 0]) ∧ Tab w' p (datL r (chs most ps)) (fltL bits (usN ps ps.length)) (idxF r 0 (chs most ps)) da dc fa fc G ∧ Fr [] w w' := by
  have TO := tbl_open (r := r) (most := most) (bits := bits) hl hr hb h0 hbits
  rcases o.split with ⟨e, _⟩ | ⟨q, off, c, rfl, _⟩
  · have := TO.l44; rw [e] at this; simp at this
  · refine (open_ok w o (tblL_by hb) TO.len TO.op).mono ?_
    rintro e w' ⟨p, da, dc, fa, fc, G, rfl, tab, f⟩
    rw [TO.dat, TO.flt] at tab
    exact ⟨p, da, dc, fa, fc, G, rfl, tab, f⟩
end Go.Proofs.YtnnookkcnmgbfaaGreat
namespace Go.Proofs.YtnnookkcnmgbfaaGreat
open Go.ChangeShapes Go.WideShapes Go.ChangeAt Go.RowKit

theorem tbuild_own (w : World) {v : Value} {ps : Ps} (h : RdK w v ps) (hl : Lim ps) {b r i t : Int} {x : Nat} {X : List Nat} (hT : TbR b r i t ps x X) :
    Calls Tryz.prog 14 #[v, .agg #[.int .i64 b, .int .i64 r, .int .i64 i, .int .i64 t]] w fun e w' => ∃ v', e = .returned (.tuple #[v', .int .i64 (x : Int)]) ∧ w'.ownsRow w.heap.size 5 1 v' X.length (bv X) ∧ Fr [] w w' := by
  rcases hT with ⟨rfl, hp, rfl⟩ | ⟨rfl, hp, h0, rfl⟩ | ⟨rfl, hp, h0, hr, rfl⟩ | ⟨rfl, hp, h0, hr, rfl⟩
  · obtain ⟨a, c, rfl, _⟩ := h
    exact (tbuild_plan w b r i t hp).mono fun e w' ⟨e1, f⟩ => ⟨_, e1, World.ownsRow_nil _ _ _ _, f⟩
  · obtain ⟨a, c, rfl, _⟩ := h
    subst h0
    exact (tbuild_none w b r i t hp).mono fun e w' ⟨e1, f⟩ => ⟨_, e1, World.ownsRow_nil _ _ _ _, f⟩
  · exact (tbuild_order w h hl.n h0 b r i t hp hr).mono fun e w' ⟨e1, f⟩ => ⟨_, e1, World.ownsRow_nil _ _ _ _, f⟩
  · have hb := hp.b0
    have hr0 := hp.r0
    have hi := hp.i0
    obtain ⟨b', rfl⟩ : ∃ b' : Nat, b = (b' : Int) := ⟨b.toNat, by omega⟩
    obtain ⟨r', rfl⟩ : ∃ r' : Nat, r = (r' : Int) := ⟨r.toNat, by omega⟩
    obtain ⟨i', rfl⟩ : ∃ i' : Nat, i = (i' : Int) := ⟨i.toNat, by omega⟩
    simp only [Int.toNat_natCast]
    exact (tbuild_ok w h hl h0 b' r' i' t hp hr).mono fun e w' ⟨v', e1, o, f⟩ => ⟨_, e1, o, f⟩
theorem xor_ne8 {x y : Nat} (h : y ≠ 0) : x ^^^ y ≠ x := fun e => h (xorL (a := x) (by rw [e, Nat.xor_zero]))
/-- Opened, or not. -/
theorem opn_or (b : List Nat) : (∃ ips r, Opn b ips r) ∨ ∃ x, NoOpn b x := by
  by_cases h : ∃ x, NoOpn b x
  · exact .inr h
  · left
    by_cases h1 : Foot b
    · by_cases h2 : SumAt b (b.length - 44) 32
      · by_cases h3 : Plc b
        · by_cases h4 : SumAt b (iAt b) (iSz b) ∧ SumAt b (fAt b) (fSz b)
          · by_cases h5 : ∃ ips r, Blk (wn b (iAt b) (iSz b)) ips r ∧ Spans (fAt b) ips
            · obtain ⟨ips, r, h6, h7⟩ := h5
              exact ⟨ips, r, h1, h2, h3, h4.1, h4.2, h6, h7⟩
            · exact absurd ⟨80, .inr (.inr (.inr (.inr ⟨rfl, h1, h2, h3, h4.1, h4.2, fun ips r hb hs => h5 ⟨ips, r, hb, hs⟩⟩)))⟩ h
          · exact absurd ⟨81, .inr (.inr (.inr (.inl ⟨rfl, h1, h2, h3, h4⟩)))⟩ h
        · exact absurd ⟨80, .inr (.inr (.inl ⟨rfl, h1, h2, h3⟩))⟩ h
      · exact absurd ⟨81, .inr (.inl ⟨rfl, h1, h2⟩)⟩ h
    · exact absurd ⟨80, .inl ⟨rfl, h1⟩⟩ h
theorem noopn_x {b : List Nat} {x : Nat} (h : NoOpn b x) : x = 80 ∨ x = 81 := by
  rcases h with ⟨e, _⟩ | ⟨e, _⟩ | ⟨e, _⟩ | ⟨e, _⟩ | ⟨e, _⟩ <;> omega
/-- All of a table that was hurt. -/
theorem all_hurt (w : World) {p : Nat} {b flt : List Nat} {ips : Ps} {r fin : Nat} {da fa : Option Addr} {dc fc G : Nat} (hb : By b) (hl : b.length ≤ 1000000000) (O : Opn b ips r) (hfin : fAt b = fin) (T : Tab w p (b.take (fAt b)) flt ips da dc fa fc G) (hbi : ByP ips) (hn : ips.length ≤ 1000000000) (hurt : ∃ i, i < ips.length ∧ ¬ SumAt (b.take fin) (nxN ips i) (szA ips i)) :
    Calls Tryz.prog 27 #[.pointer (some ⟨p, 0, none⟩)] w fun e w' => ∃ x : Nat, (x = 80 ∨ x = 81) ∧ (∃ a c, e = .returned (.tuple #[.slice a 0 c, .int .i64 (x : Int)])) ∧ Fr [] w w' := by
  subst hfin
  have hle : fAt b ≤ b.length := by have := O.plc.hi; have := O.plc.hf; omega
  have htl : (b.take (fAt b)).length = fAt b := by rw [List.length_take]; omega
  have hsp : ∀ i, i < ips.length → nxN ips i + szA ips i + 4 ≤ (b.take (fAt b)).length := fun i hi => by
    have := nx_le (ips := ips) ips.length hi
    rw [O.sp.all] at this
    rw [htl]; exact this
  obtain ⟨X, hX⟩ := Classical.axiomOfChoice (fun i => look_ex (b.take (fAt b)) (nxN ips i) (szA ips i) (kA ips i))
  obtain ⟨Q, hQ⟩ := Classical.axiomOfChoice hX
  refine (tall_c w T (hb.take _) (by omega) hbi hn hsp (X := X) (Q := Q) (fun i _ => hQ i)).mono ?_
  rintro e w' ⟨v', rfl, co, f⟩
  obtain ⟨j, j1, j2⟩ := hurt
  have hj : X j ≠ 0 := fun e => by
    rcases hQ j with ⟨e2, _⟩ | ⟨e2, _⟩ | ⟨_, h2, _⟩
    · omega
    · omega
    · exact j2 h2
  obtain ⟨k, k1, k2, k3, k4⟩ := rng_bad (X := X) (Q := Q) (U := fun i => userL (kA ips i)) ips.length 0 [] (j := j) (Nat.zero_le _) (by omega) hj
  rw [k4] at co ⊢
  obtain ⟨cs, o, _⟩ := co
  obtain ⟨a, c, rfl, _⟩ := ownsRow_slice o
  refine ⟨X k, ?_, ⟨a, c, rfl⟩, f⟩
  have := (look_facts (hQ k) (hsp k (by omega))).2.2
  omega
end Go.Proofs.YtnnookkcnmgbfaaGreat
namespace Go.Proofs.YtnnookkcnmgbfaaGreat
open Go.ChangeShapes Go.WideShapes Go.ChangeAt Go.RowKit

theorem infoPt : (Tryz.prog.info? 75).map (fun i => (i.zero, i.size, i.bytes)) = some (some (.agg #[.slice none 0 0, .int .i64 0, .int .i64 0]), 3, 40) := by kernel_rfl
theorem step_buildP {ops : Array Oper} {o : Oper} {a : Act} {w : World} {K : Act → World → Prop} {Q : Exit → Act → World → Prop} {E : Prop} (hg : o.guard = none) (x : Operand) (hop : o.op = Op.buildSlice 69 1 #[(0, x)]) {a0 : Option Addr} {n0 c0 : Nat} {x1 x2 : Int} (hx : a.eval x = .agg #[.slice a0 n0 c0, .int .i64 x1, .int .i64 x2])
    (hK : K (a.put o.dst (.slice (some ⟨w.heap.size, 0, none⟩) 1 1)) (w.alloc (.cells #[.slice a0 n0 c0, .int .i64 x1, .int .i64 x2] 75))) :
    if Region.wanted o (yielded ops a.tmps) = true then Oper.wp Tryz.prog o a w K Q else E := by
  have hw : Region.wanted o (yielded ops a.tmps) = true := by simp [Region.wanted, hg]
  rw [if_pos hw]
  unfold Oper.wp
  simp [execOp, hop, hx]
  go_simp
  exact hK
theorem step_appPt {ops : Array Oper} {o : Oper} {a : Act} {w : World} {K : Act → World → Prop} {Q : Exit → Act → World → Prop} {E : Prop} (hg : o.guard = none) (s y : Operand) (hop : o.op = Op.call { callee := Callee.builtin Builtin.append, args := #[s, y], argTypes := #[69, 69] }) (base : Nat) {ad : Option Addr} {n c : Nat} {xs : List Value} (hs : a.eval s = .slice ad n c) (hown : w.ownsRow base 75 3 (.slice ad n c) n xs) {G : Nat} (hx : a.eval y = .slice (some ⟨G, 0, none⟩) 1 1) {a0 : Option Addr} {n0 c0 : Nat} {x1 x2 : Int} (hG : w.heap[G]? = some (.cells #[.slice a0 n0 c0, .int .i64 x1, .int .i64 x2] 75 (0, 0)))
    (hl : n ≤ 1000000) (hbase : base ≤ w.heap.size)
    (hK : ∀ a' c' w', w'.ownsRow base 75 3 (.slice a' (n + 1) c') (n + 1) (xs ++ [.slice a0 n0 c0, .int .i64 x1, .int .i64 x2]) → w.grownBy w' (Value.slice ad n c).ownBlock → K (a.put o.dst (.slice a' (n + 1) c')) w') :
    if Region.wanted o (yielded ops a.tmps) = true then Oper.wp Tryz.prog o a w K Q else E := by
  obtain ⟨i0, hi0, hz0, hz1, hz2⟩ := info_parts infoPt
  refine step_append_own hg s y 69 hop base 75 i0 _ 3 40 Tryz.underlying69 hi0 hz0 hz1 hz2 rfl (by decide) _ n xs hs hown ⟨G, 0, none⟩ 1 1 [.slice a0 n0 c0, .int .i64 x1, .int .i64 x2] hx rfl (fun j u hj => by rw [Addr.add_lit, Nat.zero_add, blk_cell hG, ← Array.getElem?_toList]; exact hj) (fun u hu => by simp at hu; rcases hu with rfl | rfl | rfl <;> rfl) (by unfold maxLen; omega) (by omega) hbase (fun v' w' o' g' q' => ?_)
  obtain ⟨a', c', rfl, _⟩ := ownsRow_slice o'
  exact hK a' c' w' o' g'

theorem own_staysG {W W' : World} {B B' s s2 n m : Nat} {e e2 : TypeId} {v u : Value} {xs ys : List Value} (o : W.ownsRow B e s v n xs) (g : W.grownBy W' v.ownBlock) (q : W.ownsRow B' e2 s2 u m ys) (hne : e2 ≠ e) : W'.ownsRow B' e2 s2 u m ys := by
  refine ownsRow_of_block q fun k hk => g.block k (q.lt k hk).2 (fun hh => ?_)
  rcases q.2 with ⟨rfl, _⟩ | ⟨h, cap, cur, rfl, _, h3, _⟩
  · simp [Value.ownBlock] at hk
  · simp only [Value.ownBlock, Option.some.injEq] at hk
    subst hk
    exact own_not o h3 hne hh.symm
/-- Parts in a row of the call's own, their keys too. -/
def PtL (W : World) (B : Nat) (ips : Ps) (i : Nat) (cs : List Value) : Prop := ∀ j, j < i → ∃ ka kc, cs[j * 3]? = some (.slice ka (kA ips j).length kc) ∧ cs[j * 3 + 1]? = some (.int .i64 (nxN ips j : Int)) ∧ cs[j * 3 + 2]? = some (.int .i64 (szA ips j : Int)) ∧ W.ownsRow B 5 1 (.slice ka (kA ips j).length kc) (kA ips j).length (bv (kA ips j))
/-- Where the document's Open stands. -/
structure OI (w wr : World) (p A : Nat) (v0 v2 : Value) (n0 n1 n2 n3 : Nat) (ips : Ps) (lv : Value) (i : Nat) (pa : Option Addr) (pc : Nat) : Prop where
  hp : wr.heap[p]? = some (.cells #[v0, .slice pa i pc, v2] 71 (0, 0))
  hA : wr.heap[A]? = some (.cells #[.int .i64 (n0 : Int), .int .i64 (n1 : Int), .int .i64 (n2 : Int), .int .i64 (n3 : Int)] 65 (0, 0))
  bp : w.heap.size ≤ p
  ps : ∃ cs, wr.ownsRow w.heap.size 75 3 (.slice pa i pc) i cs ∧ PtL wr w.heap.size ips i cs
  co : ColO wr w.heap.size lv ips
  fr : Fr [] w wr
theorem PtL.fr {W W' : World} {B : Nat} {ips : Ps} {i : Nat} {cs : List Value} (h : PtL W B ips i cs) (f : Fr [] W W') : PtL W' B ips i cs := fun j hj => by
  obtain ⟨ka, kc, c0, c1, c2, o⟩ := h j hj
  exact ⟨ka, kc, c0, c1, c2, ownsRow_fr o f⟩
theorem OI.quiet {w wr w' : World} {p A : Nat} {v0 v2 : Value} {n0 n1 n2 n3 : Nat} {ips : Ps} {lv : Value} {i : Nat} {pa : Option Addr} {pc : Nat} (h : OI w wr p A v0 v2 n0 n1 n2 n3 ips lv i pa pc) (f : Fr [] wr w') : OI w w' p A v0 v2 n0 n1 n2 n3 ips lv i pa pc := by
  obtain ⟨cs, o, q⟩ := h.ps
  exact ⟨f.at h.hp (by simp), f.at h.hA (by simp), h.bp, ⟨cs, ownsRow_fr o f, q.fr f⟩, h.co.fr f, h.fr.trans f⟩
theorem OI.app {w W W' : World} {p A : Nat} {v0 v2 : Value} {n0 n1 n2 n3 : Nat} {ips : Ps} {lv : Value} {i : Nat} {pa : Option Addr} {pc : Nat} (h : OI w W p A v0 v2 n0 n1 n2 n3 ips lv i pa pc) {cs : List Value} (o : W.ownsRow w.heap.size 75 3 (.slice pa i pc) i cs) (q : PtL W w.heap.size ips i cs) {pa' : Option Addr} {pc' : Nat} {ka : Option Addr} {kc : Nat}
    (ok : W.ownsRow w.heap.size 5 1 (.slice ka (kA ips i).length kc) (kA ips i).length (bv (kA ips i)))
    (o' : W'.ownsRow w.heap.size 75 3 (.slice pa' (i + 1) pc') (i + 1) (cs ++ [.slice ka (kA ips i).length kc, .int .i64 (nxN ips i : Int), .int .i64 (szA ips i : Int)])) (g : W.grownBy W' (Value.slice pa i pc).ownBlock) :
    OI w (W'.setCell ⟨p, 1, none⟩ (.slice pa' (i + 1) pc')) p A v0 v2 n0 n1 n2 n3 ips lv (i + 1) pa' pc' := by
  have hp' : W'.heap[p]? = some (.cells #[v0, .slice pa i pc, v2] 71 (0, 0)) := by
    rw [g.block p (blk_lt h.hp) (fun e => own_not o h.hp (by decide) e.symm)]; exact h.hp
  have hA' : W'.heap[A]? = some (.cells #[.int .i64 (n0 : Int), .int .i64 (n1 : Int), .int .i64 (n2 : Int), .int .i64 (n3 : Int)] 65 (0, 0)) := by
    rw [g.block A (blk_lt h.hA) (fun e => own_not o h.hA (by decide) e.symm)]; exact h.hA
  have hAp : A ≠ p := fun e => by
    rw [e, hp'] at hA'
    simp at hA'
  have key : ∀ {e : TypeId} {s n : Nat} {u : Value} {xs : List Value}, W'.ownsRow w.heap.size e s u n xs → 71 ≠ e → (W'.setCell ⟨p, 1, none⟩ (.slice pa' (i + 1) pc')).ownsRow w.heap.size e s u n xs := fun oo hne => ownsRow_of_block oo fun k hk => blk_setne _ _ _ (fun e => own_not oo hp' hne (by rw [← e]; exact hk))
  have hcl : cs.length = i * 3 := o.1
  refine ⟨by rw [blk_set hp' _ _]; rfl, by rw [blk_setne _ _ _ hAp]; exact hA', h.bp, ⟨_, key o' (by decide), ?_⟩, ?_, (h.fr.grown g (fun k e => .inr (o.lt k e).1)).set _ _ (.inr h.bp)⟩
  · intro j hj
    by_cases hji : j = i
    · subst hji
      refine ⟨ka, kc, ?_, ?_, ?_, key (own_stays o g ok (by decide)) (by decide)⟩
      · rw [List.getElem?_append_right (by omega)]; simp [hcl]
      · rw [List.getElem?_append_right (by omega), hcl, show j * 3 + 1 - j * 3 = 1 from by omega]; rfl
      · rw [List.getElem?_append_right (by omega), hcl, show j * 3 + 2 - j * 3 = 2 from by omega]; rfl
    · obtain ⟨ka', kc', c0, c1, c2, oo⟩ := q j (by omega)
      exact ⟨ka', kc', by rw [List.getElem?_append_left (by omega)]; exact c0, by rw [List.getElem?_append_left (by omega)]; exact c1, by rw [List.getElem?_append_left (by omega)]; exact c2, key (own_stays o g oo (by decide)) (by decide)⟩
  · obtain ⟨ds, od, hd⟩ := h.co
    refine ⟨ds, key (own_staysG o g od (by decide)) (by decide), fun j p hj => ?_⟩
    obtain ⟨kv, vv, c0, c1, q0, q1, b0⟩ := hd j p hj
    exact ⟨kv, vv, c0, c1, key (own_stays o g q0 (by decide)) (by decide), key (own_stays o g q1 (by decide)) (by decide), b0⟩

/-- A table of the document's in memory: what it made lies in blocks from B on, the rest as it was in w0. -/
structure RTO (w0 : World) (B : Nat) (W : World) (p : Nat) (b : List Nat) (a : Option Addr) (L c : Nat) (ips : Ps) (q m pc : Nat) (fa : Option Addr) (fn fc : Nat) : Prop where
  blk : W.heap[p]? = some (.cells #[.slice a L c, .slice (some ⟨q, 0, none⟩) m pc, .slice fa fn fc] 71 (0, 0))
  r0 : Rd w0 (.slice a L c) (bv b)
  f0 : Rd w0 (.slice fa fn fc) (bv (wn b (fAt b) (fSz b)))
  fl : fn = fSz b
  fw : Fr [] w0 W
  len : m = ips.length
  bp : B ≤ p
  bq : B ≤ q
  pts : ∀ j, j < ips.length → ∃ ka kc, W.cell? ⟨q, j * 3, none⟩ = some (.slice ka (kA ips j).length kc) ∧ W.cell? ⟨q, j * 3 + 1, none⟩ = some (.int .i64 (nxN ips j : Int)) ∧ W.cell? ⟨q, j * 3 + 2, none⟩ = some (.int .i64 (szA ips j : Int)) ∧ Rd W (.slice ka (kA ips j).length kc) (bv (kA ips j)) ∧ ∀ k, (Value.slice ka (kA ips j).length kc).ownBlock = some k → B ≤ k
theorem RTO.rt {w0 : World} {B : Nat} {W : World} {p : Nat} {b : List Nat} {a : Option Addr} {L c : Nat} {ips : Ps} {q m pc : Nat} {fa : Option Addr} {fn fc : Nat} (h : RTO w0 B W p b a L c ips q m pc fa fn fc) : RT W p b a L c ips q 0 m pc fa fn fc :=
  ⟨h.blk, h.r0.fr h.fw, h.len, fun j hj => by
    obtain ⟨ka, kc, h1, h2, h3, h4, _⟩ := h.pts j hj
    exact ⟨ka, kc, by rw [Nat.zero_add]; exact h1, by rw [Nat.zero_add]; exact h2, by rw [Nat.zero_add]; exact h3, h4⟩⟩
theorem RTO.keep {w0 : World} {B : Nat} {W W' : World} {S : List Nat} {p : Nat} {b : List Nat} {a : Option Addr} {L c : Nat} {ips : Ps} {q m pc : Nat} {fa : Option Addr} {fn fc : Nat} (h : RTO w0 B W p b a L c ips q m pc fa fn fc) (f : Fr S W W') (hS : ∀ k ∈ S, k < B) (g : Fr [] w0 W') : RTO w0 B W' p b a L c ips q m pc fa fn fc :=
  ⟨f.at h.blk (fun hm => by have := hS p hm; have := h.bp; omega), h.r0, h.f0, h.fl, g, h.len, h.bp, h.bq, fun j hj => by
    obtain ⟨ka, kc, h1, h2, h3, h4, h5⟩ := h.pts j hj
    have hq : q ∉ S := fun hm => by have := hS q hm; have := h.bq; omega
    exact ⟨ka, kc, cell_fr' f hq h1, cell_fr' f hq h2, cell_fr' f hq h3, h4.keepF f hS h5, h5⟩⟩
theorem OI.rto {w0 w wr : World} {p A : Nat} {b : List Nat} {a : Option Addr} {L c : Nat} {n0 n1 n2 n3 : Nat} {ips : Ps} {lv : Value} {i : Nat} {pa : Option Addr} {pc : Nat} {fa : Option Addr} {fn fc : Nat} (h : OI w wr p A (.slice a L c) (.slice fa fn fc) n0 n1 n2 n3 ips lv i pa pc) (h0 : Fr [] w0 w) (hr : Rd w0 (.slice a L c) (bv b)) (hf : Rd w0 (.slice fa fn fc) (bv (wn b (fAt b) (fSz b)))) (hl : fn = fSz b) (hi : i = ips.length) (hne : ips ≠ []) : ∃ q, pa = some ⟨q, 0, none⟩ ∧ RTO w0 w.heap.size wr p b a L c ips q i pc fa fn fc := by
  obtain ⟨cs, o, q⟩ := h.ps
  have hpos : 0 < ips.length := List.length_pos_iff.2 hne
  rcases o.2 with ⟨_, e⟩ | ⟨g, cap, cur, e, hB, h3, _⟩
  · omega
  simp only [Value.slice.injEq] at e
  obtain ⟨rfl, _, _⟩ := e
  refine ⟨g, rfl, h.hp, hr, hf, hl, h0.trans h.fr, hi, h.bp, hB, fun j hj => ?_⟩
  obtain ⟨ka, kc, c0, c1, c2, oo⟩ := q j (by omega)
  have d0 := o.cells (g := g) rfl _ _ c0
  have d1 := o.cells (g := g) rfl _ _ c1
  have d2 := o.cells (g := g) rfl _ _ c2
  rw [Addr.add_lit, Nat.zero_add] at d0 d1 d2
  exact ⟨ka, kc, d0, d1, d2, Rd.ownB oo, fun k hk => (oo.lt k hk).1⟩
/-- What the document's Open answers. -/
def ROut (w0 w w' : World) (b : List Nat) (a : Option Addr) (L c : Nat) (e : Ending) : Prop :=
  (∃ x, NoOpn b x ∧ e = .returned (.tuple #[.pointer none, .int .i64 (x : Int)])) ∨
  ∃ ips r p q pc fa fn fc, Opn b ips r ∧ e = .returned (.tuple #[.pointer (some ⟨p, 0, none⟩), .int .i64 0]) ∧ RTO w0 w.heap.size w' p b a L c ips q ips.length pc fa fn fc
end Go.Proofs.YtnnookkcnmgbfaaGreat
