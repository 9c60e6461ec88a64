/-
  remove of any node of a map's trie.
-/
import Derived.Test.YtmpfnglcmaollaaDoorTrBF
namespace Go.Proofs.YtmpfnglcmaollaaDoor
open Go.ChangeShapes Go.WideShapes Go.ChangeAt Go.RowKit

set_option maxRecDepth 20000 in
set_option maxHeartbeats 1600000 in
theorem rem_nil : RemOk .nil := by
  intro w S tv v pv p d HT hi hn hd hok hca hp hb hl
  obtain rfl : v = .nilIface := hn
  have LK := hid (look_nil w tv)
  have ta := fun w => asLeaf_n w
  have tb := fun w => asStem_n w
  have tc := fun w => asFork_n w
  clear HT hi hp hb hl hok hd hca
  go_enter Tryd.func58, Tryd.ntmps58
  go_wp2_with (go_at_call 73; refine LK.out.mono ?_; rintro e w1 ⟨rfl, f1⟩; have F1 := hid f1; clear f1)
  go_ret2
  exact ⟨.inl ⟨rfl, rfl⟩, F1.out⟩
set_option maxRecDepth 20000 in
set_option maxHeartbeats 1600000 in
theorem rem_leaf (q y : List Nat) : RemOk (.leaf q y) := by
  intro w S tv v pv p d HT hi hn hd hok hca hp hb hl
  obtain ⟨b, _, _, _, qv, yv, rfl, hbS, h1, h2, h3, _⟩ := hn
  obtain ⟨pa, pc, e1⟩ := RdS.slice hp
  obtain ⟨qa, qc, e2⟩ := RdS.slice h2
  subst e1 e2
  have LK := hid (look_leaf w tv b)
  have EQ := hid (fun (w1 : World) (f : Fr [] w w1) => bytesEqual_c (h2 w1 (hi.agr f)) (hp w1 (hi.agr f)) hok.1.by hb.by)
  have c3 := blk_cell h1 3
  simp at c3
  have C3 := hid (fun (w1 : World) (f : Fr [] w w1) => cell_fr c3 f)
  have ta := fun w => asLeaf_y w b
  have hy : y ≠ [] := by intro e; have := hok.2.2.2.1; rw [e] at this; simp at this
  obtain ⟨np, hnp⟩ : ∃ n, n = p.length := ⟨_, rfl⟩
  obtain ⟨nq, hnq⟩ : ∃ n, n = q.length := ⟨_, rfl⟩
  rw [← hnp] at EQ
  rw [← hnq] at EQ C3
  rw [← hnp]
  clear HT hi hp hb hl hok hd hca h1 h2 h3 hbS hnp hnq c3
  by_cases hqp : q = p
  · rw [decide_eq_true hqp] at EQ
    go_enter Tryd.func58, Tryd.ntmps58
    go_wp2_with (first
      | (go_at_call 73; refine LK.out.mono ?_; rintro e w1 ⟨rfl, f1⟩; have F1 := hid f1; have k3 := C3.out _ f1; clear f1)
      | (go_at_call 78; refine (EQ.out _ F1.out).mono ?_; rintro e w2 ⟨rfl, h⟩; rw [h]; clear h))
    go_ret2
    refine ⟨.inr ⟨?_, _, rfl, ?_⟩, F1.out⟩
    · show (if q = p then y else []) ≠ []
      rw [if_pos hqp]; exact hy
    · rw [show remN (.leaf q y) p = .nil from if_pos hqp]
      rfl
  · rw [decide_eq_false hqp] at EQ
    go_enter Tryd.func58, Tryd.ntmps58
    go_wp2_with (first
      | (go_at_call 73; refine LK.out.mono ?_; rintro e w1 ⟨rfl, f1⟩; have F1 := hid f1; have k3 := C3.out _ f1; clear f1)
      | (go_at_call 78; refine (EQ.out _ F1.out).mono ?_; rintro e w2 ⟨rfl, h⟩; rw [h]; clear h))
    go_ret2
    exact ⟨.inl ⟨if_neg hqp, rfl⟩, F1.out⟩
set_option maxRecDepth 20000 in
set_option maxHeartbeats 1600000 in
theorem rem_fork (c : Nat → Nd) (y : List Nat) (ih : ∀ j, RemOk (c j)) : RemOk (.fork c y) := by
  intro w S tv v pv p d HT hi hn hd hok hca hp hb hl
  obtain ⟨b, rfl⟩ : ∃ b, v = .iface 126 (.pointer (some ⟨b, 0, none⟩)) := by
    obtain ⟨b, _, _, _, _, _, e, _⟩ := hn
    exact ⟨b, e⟩
  have LK := hid (look_fork w tv b)
  have PL : Hid (∀ w1, Fr [] w w1 → Calls Tryd.prog 81 #[tv, .pointer (some ⟨b, 0, none⟩), pv] w1 (RemR S w1 (.fork c y) p)) := hid (fun w1 f => by
    cases p with
    | nil => exact remForkHere_c w1 (HT.fr f) (hi.fr f) (hn.step (hi.agr f)) hd hok hca (hp.step (hi.agr f))
    | cons i r => exact remForkDown_c w1 (HT.fr f) (hi.fr f) (hn.step (hi.agr f)) hd hok (hp.step (hi.agr f)) hb hl hca ih)
  have ta := fun w => asLeaf_f w b
  have tb := fun w => asStem_f w b
  have tc := fun w => asFork_y w b
  clear HT hi hp hb hl hok hn hd ih hca
  go_enter Tryd.func58, Tryd.ntmps58
  go_upto_region 19 with (go_at_call 73; refine LK.out.mono ?_; rintro e w1 ⟨rfl, f1⟩; have F1 := hid f1; clear f1)
  go_wp2_with (go_at_call 81; refine (PL.out _ F1.out).mono ?_; rintro e w2 ⟨(⟨h1, rfl⟩ | ⟨h1, r, rfl, N⟩), f2⟩)
  · go_ret2
    exact ⟨.inl ⟨h1, rfl⟩, F1.out.trans f2⟩
  · have HN := hid N
    clear N
    go_wp2
    go_ret2
    exact ⟨.inr ⟨h1, r, rfl, HN.out.sub fun k hk => Up.mid F1.out.size (Nat.le_refl _) hk⟩, F1.out.trans f2⟩
set_option maxRecDepth 20000 in
set_option maxHeartbeats 1600000 in
/-- What is left behind a path, wherever the blocks are. -/
theorem cutPrefixU_c {S : Nat → Prop} {w w1 : World} (ha : Agr S w w1) {pa : Option Addr} {pc : Nat} {qv : Value} {p q : List Nat} (hp : Un S w (fun w' => Rd w' (.slice pa p.length pc) (bv p))) (hq : Rd w1 qv (bv q)) (hpb : By p) (hqb : By q) (hin : cpN q p = q.length) :
    Calls Tryd.prog 79 #[.slice pa p.length pc, qv] w1 fun e w' => (∃ a c, e = .returned (.tuple #[.slice a (p.length - q.length) c, .bool true]) ∧ Un S w (fun w'' => Rd w'' (.slice a (p.length - q.length) c) (bv (p.drop q.length)))) ∧ w' = w1 := by
  have HPX := hid (hasPrefix_c (hp w1 ha) hq hpb hqb)
  obtain ⟨qa, qc, e2⟩ := hq.form
  rw [bv_len] at e2
  subst e2
  rw [decide_eq_true hin] at HPX
  have hle := (cpN_le q p).2
  rw [hin] at hle
  obtain ⟨a', s1, hr⟩ := cutU hp rfl hle
  have HR := hid hr
  obtain ⟨np, hnp⟩ : ∃ n, n = p.length := ⟨_, rfl⟩
  obtain ⟨nq, hnq⟩ : ∃ n, n = q.length := ⟨_, rfl⟩
  rw [← hnp] at HPX s1 HR hle
  rw [← hnq] at HPX s1 HR hle
  rw [← hnp, ← hnq]
  clear hp hq hr hnp hnq hin
  go_enter Tryd.func79, Tryd.ntmps79
  go_wp2_with (go_at_call 98; refine HPX.out.mono ?_; rintro e w2 ⟨rfl, h⟩; rw [h]; clear h)
  go_ret2
  exact ⟨⟨_, _, rfl, HR.out⟩, rfl⟩
set_option maxRecDepth 20000 in
set_option maxHeartbeats 3200000 in
theorem rem_stem (q : List Nat) (t : Nd) (ih : RemOk t) : RemOk (.stem q t) := by
  intro w S tv v pv p d HT hi hn hd hok hca hp hb hl
  obtain ⟨b, _, _, _, qv, bl, rfl, hbS, h1, h2, h3, _⟩ := hn
  obtain ⟨pa, pc, e1⟩ := RdS.slice hp
  obtain ⟨qa, qc, e2⟩ := RdS.slice h2
  subst e1 e2
  obtain ⟨g1, g2, g3, g4, g5⟩ := hok
  obtain ⟨bT, bx, rfl⟩ : ∃ T x, bl = .iface T x := h3.iface (by intro e; subst e; exact g4.elim)
  have LK := hid (look_stem w tv b)
  have ta := fun w => asLeaf_s w b
  have tb := fun w => asStem_y w b
  have c3 := blk_cell h1 3
  have c4 := blk_cell h1 4
  simp at c3 c4
  have SK := hid (fun (w1 : World) (f : Fr [] w w1) => (⟨cell_fr c3 f, cell_fr c4 f⟩ : _ ∧ _))
  by_cases hin : cpN q p = q.length
  · have hle := (cpN_le q p).2
    rw [hin] at hle
    have FN : findN (.stem q t) p = findN t (p.drop q.length) := by
      show (if cpN q p = q.length then findN t (p.drop (cpN q p)) else []) = _
      rw [if_pos hin, hin]
    have RN : remN (.stem q t) p = leadN q (remN t (p.drop q.length)) := by
      show (if cpN q p = q.length then leadN q (remN t (p.drop (cpN q p))) else _) = _
      rw [if_pos hin, hin]
    have CP := hid (fun (w1 : World) (f : Fr [] w w1) => cutPrefixU_c (hi.agr f) hp (h2 w1 (hi.agr f)) hb.by g1.by hin)
    have PT := hid (fun (w1 : World) (f : Fr [] w w1) (rv : Value) (hr : Un S w (fun w'' => Rd w'' rv (bv (p.drop q.length)))) => ih w1 S tv (.iface bT bx) rv (p.drop q.length) (d - q.length) (HT.fr f) (hi.fr f) (h3.step (hi.agr f)) (by omega) g5 hca (hr.step (hi.agr f)) (hb.drop _) (by rw [List.length_drop]; omega))
    have LD := hid (fun (w1 w2 : World) (r : Value) (f1 : Fr [] w w1) (f2 : Fr [] w1 w2) (hf : findN t (p.drop q.length) ≠ []) (N : NdV (Up S w1 w2) w2 (remN t (p.drop q.length)) r) =>
      lead_c w2 (S := Up S w1 w2) (HT.fr (f1.trans f2)) ((hi.fr f1).up f2) ((h2.step (hi.agr f1)).up (hi.fr f1) f2) g1 (by omega) N ((rem_ok g5 hca (hb.drop _) hf).1.mono (by omega)))
    obtain ⟨np, hnp⟩ : ∃ n, n = p.length := ⟨_, rfl⟩
    obtain ⟨nq, hnq⟩ : ∃ n, n = q.length := ⟨_, rfl⟩
    have HFN := hid FN
    have HRN := hid RN
    rw [← hnp] at CP
    rw [← hnq] at CP SK PT LD HFN HRN
    rw [← hnp]
    clear HT hi hp hb hl hd ih hca h1 h2 h3 g1 g2 g3 g4 g5 hbS hnp hnq c3 c4 hin FN RN hle
    go_enter Tryd.func58, Tryd.ntmps58
    go_upto_region 13 with (first
      | (go_at_call 73; refine LK.out.mono ?_; rintro e w1 ⟨rfl, f1⟩; have F1 := hid f1; obtain ⟨k3, k4⟩ := SK.out _ f1; clear f1)
      | (go_at_call 79; refine (CP.out _ F1.out).mono ?_; rintro e w2 ⟨⟨ra, rc, rfl, hr⟩, h⟩; rw [h]; have HR := hid hr; clear h hr CP))
    have PT2 := hid (PT.out w1 F1.out _ HR.out)
    go_upto_region 14 with (go_at_call 58; refine PT2.out.mono ?_; rintro e w3 ⟨(⟨h1, rfl⟩ | ⟨h1, r, rfl, N⟩), f3⟩)
    · have F3 := hid f3
      clear f3
      go_wp2
      go_ret2
      exact ⟨.inl ⟨by rw [HFN.out]; exact h1, rfl⟩, F1.out.trans F3.out⟩
    · have F3 := hid f3
      have LD2 := hid (LD.out w1 w3 r F1.out f3 h1 N)
      obtain ⟨k3', k4'⟩ := SK.out _ (F1.out.trans f3)
      clear f3 N LD k3 k4
      go_wp2_with (go_at_call 80; refine LD2.out.mono ?_; rintro e w4 ⟨r4, rfl, N4, f4⟩; have HN4 := hid N4; have F4 := hid f4; clear N4 f4)
      go_ret2
      refine ⟨.inr ⟨by rw [HFN.out]; exact h1, r4, rfl, ?_⟩, (F1.out.trans F3.out).trans F4.out⟩
      rw [HRN.out]
      refine HN4.out.sub fun k hk => ?_
      have z1 := F1.out.size
      have z3 := F3.out.size
      have z4 := F4.out.size
      rcases hk with (hk | hk) | hk
      · exact .inl hk
      · exact .inr ⟨by omega, by omega⟩
      · exact .inr ⟨by omega, hk.2⟩
  · have FN : findN (.stem q t) p = [] := if_neg hin
    have HP := hid (fun (w1 : World) (f : Fr [] w w1) => cutPrefix_c (hp w1 (hi.agr f)) (h2 w1 (hi.agr f)) hb.by g1.by)
    obtain ⟨np, hnp⟩ : ∃ n, n = p.length := ⟨_, rfl⟩
    obtain ⟨nq, hnq⟩ : ∃ n, n = q.length := ⟨_, rfl⟩
    have HIN := hid hin
    have HFN := hid FN
    rw [← hnp] at HP
    rw [← hnq] at HP SK HIN
    rw [← hnp]
    clear HT hi hp hb hl hd ih hca h1 h2 h3 g1 g2 g3 g4 g5 hbS hnp hnq c3 c4 hin FN
    go_enter Tryd.func58, Tryd.ntmps58
    go_upto_region 12 with (first
      | (go_at_call 73; refine LK.out.mono ?_; rintro e w1 ⟨rfl, f1⟩; have F1 := hid f1; obtain ⟨k3, k4⟩ := SK.out _ f1; clear f1)
      | (go_at_call 79; refine (HP.out _ F1.out).mono ?_; rintro e w2 ⟨(⟨hc, _⟩ | ⟨hc, rfl⟩), h⟩; (exact absurd hc HIN.out); rw [h]; clear h hc))
    go_wp2
    go_ret2
    exact ⟨.inl ⟨HFN.out, rfl⟩, F1.out⟩
theorem rem_of (n : Nd) : RemOk n := by
  induction n with
  | nil => exact rem_nil
  | far h => intro w S tv v pv p d HT hi hn hd hok; exact hok.elim
  | leaf q y => exact rem_leaf q y
  | stem q t ih => exact rem_stem q t ih
  | fork c y ih => exact rem_fork c y ih
end Go.Proofs.YtmpfnglcmaollaaDoor
namespace Go.Proofs.YtmpfnglcmaollaaDoor
open Go.ChangeShapes Go.WideShapes Go.ChangeAt Go.RowKit

set_option maxRecDepth 20000 in
theorem become_nil (w : World) {tb : Nat} {rv g : Value} (h : w.heap[tb]? = some (.cells #[rv, g] 94 (0, 0))) :
    Calls Tryd.prog 57 #[.pointer (some ⟨tb, 0, none⟩), .nilIface, .int .i64 0] w fun e w' => e = .returned (.int .i64 0) ∧ w' = w.setCell ⟨tb, 0, none⟩ .nilIface := by
  have c0 := blk_cell h 0
  have z0 := blk_frozen h 0
  simp at c0
  clear h
  go_enter Tryd.func57, Tryd.ntmps57
  go_wp2_with fail
  go_ret
  exact ⟨rfl, rfl⟩
theorem become_any (w : World) {tb : Nat} {rv g r : Value} (h : w.heap[tb]? = some (.cells #[rv, g] 94 (0, 0))) (hr : (∃ T x, r = .iface T x) ∨ r = .nilIface) :
    Calls Tryd.prog 57 #[.pointer (some ⟨tb, 0, none⟩), r, .int .i64 0] w fun e w' => e = .returned (.int .i64 0) ∧ w' = w.setCell ⟨tb, 0, none⟩ r := by
  rcases hr with ⟨T, x, rfl⟩ | rfl
  · exact become_ok w h
  · exact become_nil w h
def remT (n : Nd) (p : List Nat) : Nd := if findN n p = [] then n else remN n p
set_option maxRecDepth 20000 in
set_option maxHeartbeats 3200000 in
theorem Delete_c (w : World) {S : Nat → Prop} {tb : Nat} {g : Value} {n : Nd} (HT : Tabs w) (ht : TrieI S w tb g n) (hca : canN n) {kv : Value} {k : List Nat} (hk : Rd w kv (bv k)) (hkb : By k) (hkl : k.length ≤ 64) :
    Calls Tryd.prog 31 #[.pointer (some ⟨tb, 0, none⟩), kv] w fun e w' => e = .returned (.int .i64 0) ∧ (∃ S', TrieI S' w' tb g (remT n (nibF k)) ∧ (∀ j, S' j → S j ∨ w.heap.size ≤ j)) ∧ Fr [tb] w w' := by
  obtain ⟨ka, kc, e1⟩ := hk.form
  rw [bv_len] at e1
  subst e1
  obtain ⟨⟨rv, hB, hN⟩, hno, hi, hok⟩ := ht
  have hnl := nibF_len k
  have htbw := (Array.getElem?_eq_some_iff.1 hB).1
  have NB := hid (fun (w1 : World) (f : Fr [] w w1) => nib_c w1 (hk.fr f) hkb (by omega))
  have PT := hid (fun (w1 w2 : World) (p : Value) (f1 : Fr [] w w1) (O1 : w2.ownsRow w1.heap.size 5 1 p (nibF k).length (bv (nibF k))) (f2 : Fr [] w1 w2) =>
    rem_of n w2 (Up S w w2) (.pointer (some ⟨tb, 0, none⟩)) rv p (nibF k) 128 (HT.fr (f1.trans f2)) (hi.up (f1.trans f2)) (hN.up hi (f1.trans f2)) (Nat.le_refl _) hok hca (Un.own O1 f1.size (Fr.refl _ _)) (nibF_nb hkb) (by omega))
  have HOP := hid (fun (hf : findN n (nibF k) ≠ []) => (rem_ok hok hca (nibF_nb hkb) hf).1)
  obtain ⟨nk, hnk⟩ : ∃ n, n = k.length := ⟨_, rfl⟩
  rw [← hnk] at NB hkl
  rw [← hnk]
  have HB := hid hB
  have HN := hid hN
  have HNO := hid hno
  have HI := hid hi
  have HOK := hid hok
  have HTB := hid htbw
  have h64 : ¬ (64 : Int) < (nk : Int) := by omega
  clear hk hkb hB hN hno hi hok hnl HT hnk htbw hca
  go_enter Tryd.func31, Tryd.ntmps31
  go_upto_region 3 with fail
  have SK : Hid (∀ w', Fr [] w w' → w'.cell? ⟨tb, 0, none⟩ = some rv) := hid fun w' f => cell_fr (by simpa using blk_cell HB.out 0) f
  refine wp_region_held_drew (S := fun w' => w'.cell? ⟨tb, 0, none⟩ = some rv) (by kernel_rfl) (SK.out _ (Fr.refl _ _).drew) (fun hS => ?_)
  refine wpAnyH_take (i := 0) (v := .pointer (some ⟨tb, 0, none⟩)) rfl (by kernel_rfl) (by kernel_rfl) (by kernel_rfl) (fun _ _ _ h => h) (.inl ⟨by rfl, fun wx _ => by go_simp⟩) hS ?_
  simp only [Act.put, List.getElem_toArray, List.getElem_cons_zero, List.setIfInBounds_toArray, List.set_cons_succ, List.set_cons_zero]
  refine wpAnyH_take (i := 1) (v := .pointer (some ⟨tb, 0, none⟩)) rfl (by kernel_rfl) (by kernel_rfl) (by kernel_rfl) (fun _ _ _ h => h) (.inl ⟨by rfl, fun wx _ => by go_simp⟩) hS ?_
  simp only [Act.put, List.getElem_toArray, List.getElem_cons_succ, List.getElem_cons_zero, List.setIfInBounds_toArray, List.set_cons_succ, List.set_cons_zero]
  refine wpAnyH_take (i := 2) (v := .pointer (some ⟨tb, 0, none⟩)) rfl (by kernel_rfl) (by kernel_rfl) (by kernel_rfl) (fun _ _ _ h => h) (.inl ⟨by rfl, fun wx _ => by go_simp⟩) hS ?_
  simp only [Act.put, List.getElem_toArray, List.getElem_cons_succ, List.getElem_cons_zero, List.setIfInBounds_toArray, List.set_cons_succ, List.set_cons_zero]
  refine wpAnyH_take (i := 3) (v := .pointer (some ⟨tb, 0, none⟩)) rfl (by kernel_rfl) (by kernel_rfl) (by kernel_rfl) (fun _ _ _ h => h) (.inl ⟨by rfl, fun wx _ => by go_simp⟩) hS ?_
  simp only [Act.put, List.getElem_toArray, List.getElem_cons_succ, List.getElem_cons_zero, List.setIfInBounds_toArray, List.set_cons_succ, List.set_cons_zero]
  refine wpAnyH_take (i := 4) (v := rv) rfl (by kernel_rfl) (by kernel_rfl) (by kernel_rfl) (fun _ _ _ h => h) (.inl ⟨by rfl, fun wx hX => by have x0 := hX; go_simp⟩) hS ?_
  simp only [Act.put, List.getElem_toArray, List.getElem_cons_succ, List.getElem_cons_zero, List.setIfInBounds_toArray, List.set_cons_succ, List.set_cons_zero]
  refine wpAnyH_take (i := 5) (v := .slice ka nk kc) rfl (by kernel_rfl) (by kernel_rfl) (by kernel_rfl) (fun _ _ _ h => h) (.inl ⟨by rfl, fun wx _ => by go_simp⟩) hS ?_
  simp only [Act.put, List.getElem_toArray, List.getElem_cons_succ, List.getElem_cons_zero, List.setIfInBounds_toArray, List.set_cons_succ, List.set_cons_zero]
  clear hS
  have FD : Hid (Fr [] w w.drew) := hid (Fr.refl _ _).drew
  refine wpAnyH_ready (rs := [6]) (by kernel_rfl) (by simp) ?_
  refine AllReadyH.cons rfl (fun K hK => ?_) AllReadyH.nil
  go_simp
  go_at_call 23
  refine (NB.out _ FD.out).mono ?_
  rintro e w3 ⟨pv, rfl, O1, f1⟩
  have F3 := hid (FD.out.trans f1)
  have PT2 := hid (PT.out _ _ pv FD.out O1 f1)
  clear O1 f1 NB PT
  go_simp
  refine hK.out _ _ (SK.out _ F3.out) (fun _ => ?_)
  clear hK K
  refine wpAnyH_ready (rs := [7]) (by kernel_rfl) (by simp) ?_
  refine AllReadyH.cons rfl (fun K hK => ?_) AllReadyH.nil
  go_simp
  go_at_call 58
  refine PT2.out.mono ?_
  rintro e w4 ⟨(⟨hfx, rfl⟩ | ⟨hfx, r, rfl, hN4⟩), f4⟩
  · have F4 := hid (F3.out.trans f4)
    clear f4 PT2
    go_simp
    have hS4 := SK.out _ F4.out
    refine hK.out _ _ hS4 (fun _ => ?_)
    clear hK K
    refine wpAnyH_take (i := 8) (v := .tuple #[.nilIface, .int .i64 (-1)]) rfl (by kernel_rfl) (by kernel_rfl) (by kernel_rfl) (fun _ _ _ h => h) (.inl ⟨by rfl, fun wx _ => by go_simp⟩) hS4 ?_
    simp only [Act.put, List.getElem_toArray, List.getElem_cons_succ, List.getElem_cons_zero, List.setIfInBounds_toArray, List.set_cons_succ, List.set_cons_zero]
    refine wpAnyH_take (i := 9) (v := .nilIface) rfl (by kernel_rfl) (by kernel_rfl) (by kernel_rfl) (fun _ _ _ h => h) (.inl ⟨by rfl, fun wx _ => by go_simp⟩) hS4 ?_
    simp only [Act.put, List.getElem_toArray, List.getElem_cons_succ, List.getElem_cons_zero, List.setIfInBounds_toArray, List.set_cons_succ, List.set_cons_zero]
    refine wpAnyH_take (i := 10) (v := .int .i64 (-1)) rfl (by kernel_rfl) (by kernel_rfl) (by kernel_rfl) (fun _ _ _ h => h) (.inl ⟨by rfl, fun wx _ => by go_simp⟩) hS4 ?_
    simp only [Act.put, List.getElem_toArray, List.getElem_cons_succ, List.getElem_cons_zero, List.setIfInBounds_toArray, List.set_cons_succ, List.set_cons_zero]
    refine wpAnyH_take (i := 11) (v := .nilIface) rfl (by kernel_rfl) (by kernel_rfl) (by kernel_rfl) (fun _ _ _ h => h) (.inl ⟨by rfl, fun wx _ => by go_simp⟩) hS4 ?_
    simp only [Act.put, List.getElem_toArray, List.getElem_cons_succ, List.getElem_cons_zero, List.setIfInBounds_toArray, List.set_cons_succ, List.set_cons_zero]
    refine wpAnyH_take (i := 12) (v := .int .i64 (-1)) rfl (by kernel_rfl) (by kernel_rfl) (by kernel_rfl) (fun _ _ _ h => h) (.inl ⟨by rfl, fun wx _ => by go_simp⟩) hS4 ?_
    simp only [Act.put, List.getElem_toArray, List.getElem_cons_succ, List.getElem_cons_zero, List.setIfInBounds_toArray, List.set_cons_succ, List.set_cons_zero]
    refine wpAnyH_done (by kernel_rfl) ?_ _
    clear hS4
    go_wp2_with (go_at_call 57; refine (become_same _ tb _).mono ?_; rintro e w5 ⟨rfl, hw5⟩; rw [hw5]; clear hw5)
    go_ret
    refine ⟨rfl, ⟨S, ?_, fun j h => .inl h⟩, F4.out.mono (by simp)⟩
    rw [show remT n (nibF k) = n from if_pos hfx]
    exact (TrieI.mk ⟨rv, HB.out, HN.out⟩ HNO.out HI.out HOK.out).fr F4.out
  · have F4 := hid (F3.out.trans f4)
    have F34 := hid f4
    have HN4 := hid hN4
    clear f4 PT2 hN4
    go_simp
    have hS4 := SK.out _ F4.out
    refine hK.out _ _ hS4 (fun _ => ?_)
    clear hK K
    refine wpAnyH_take (i := 8) (v := .tuple #[r, .int .i64 0]) rfl (by kernel_rfl) (by kernel_rfl) (by kernel_rfl) (fun _ _ _ h => h) (.inl ⟨by rfl, fun wx _ => by go_simp⟩) hS4 ?_
    simp only [Act.put, List.getElem_toArray, List.getElem_cons_succ, List.getElem_cons_zero, List.setIfInBounds_toArray, List.set_cons_succ, List.set_cons_zero]
    refine wpAnyH_take (i := 9) (v := r) rfl (by kernel_rfl) (by kernel_rfl) (by kernel_rfl) (fun _ _ _ h => h) (.inl ⟨by rfl, fun wx _ => by go_simp⟩) hS4 ?_
    simp only [Act.put, List.getElem_toArray, List.getElem_cons_succ, List.getElem_cons_zero, List.setIfInBounds_toArray, List.set_cons_succ, List.set_cons_zero]
    refine wpAnyH_take (i := 10) (v := .int .i64 0) rfl (by kernel_rfl) (by kernel_rfl) (by kernel_rfl) (fun _ _ _ h => h) (.inl ⟨by rfl, fun wx _ => by go_simp⟩) hS4 ?_
    simp only [Act.put, List.getElem_toArray, List.getElem_cons_succ, List.getElem_cons_zero, List.setIfInBounds_toArray, List.set_cons_succ, List.set_cons_zero]
    refine wpAnyH_take (i := 11) (v := r) rfl (by kernel_rfl) (by kernel_rfl) (by kernel_rfl) (fun _ _ _ h => h) (.inl ⟨by rfl, fun wx _ => by go_simp⟩) hS4 ?_
    simp only [Act.put, List.getElem_toArray, List.getElem_cons_succ, List.getElem_cons_zero, List.setIfInBounds_toArray, List.set_cons_succ, List.set_cons_zero]
    refine wpAnyH_take (i := 12) (v := .int .i64 0) rfl (by kernel_rfl) (by kernel_rfl) (by kernel_rfl) (fun _ _ _ h => h) (.inl ⟨by rfl, fun wx _ => by go_simp⟩) hS4 ?_
    simp only [Act.put, List.getElem_toArray, List.getElem_cons_succ, List.getElem_cons_zero, List.setIfInBounds_toArray, List.set_cons_succ, List.set_cons_zero]
    refine wpAnyH_done (by kernel_rfl) ?_ _
    clear hS4
    have HB4 := hid (blk_frT HB.out F4.out)
    have BE := hid (become_any w4 HB4.out HN4.out.form)
    go_wp2_with (go_at_call 57; refine BE.out.mono ?_; rintro e w5 ⟨rfl, hw5⟩; have HW5 := hid hw5; clear hw5)
    go_ret
    have FG : Fr [tb] w4 w5 := by rw [HW5.out]; exact (Fr.refl _ _).set _ _ (.inl (by simp))
    have hIu : InS (Up (Up S w w3) w3 w4) w4 := (HI.out.up F3.out).up F34.out
    have hnu : ¬ Up (Up S w w3) w3 w4 tb := fun h => by
      have := HTB.out
      have := F3.out.size
      rcases h with (h | h) | h
      · exact HNO.out h
      · omega
      · omega
    refine ⟨rfl, ⟨Up (Up S w w3) w3 w4, ?_, fun j h => ?_⟩, (F4.out.mono (by simp)).trans FG⟩
    · rw [show remT n (nibF k) = remN n (nibF k) from if_neg hfx]
      refine ⟨⟨r, ?_, HN4.out.step (hIu.agrG hnu FG)⟩, hnu, fun k hk => Nat.lt_of_lt_of_le (hIu k hk) FG.size, HOP.out hfx⟩
      rw [HW5.out, blk_set HB4.out]
      rfl
    · have := F3.out.size
      rcases h with (h | h) | h
      · exact .inl h
      · exact .inr h.1
      · exact .inr (by omega)
end Go.Proofs.YtmpfnglcmaollaaDoor
