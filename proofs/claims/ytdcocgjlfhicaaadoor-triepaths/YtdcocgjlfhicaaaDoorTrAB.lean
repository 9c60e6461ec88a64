/-
  A trie in memory, and Put.
-/
import Derived.Test.YtdcocgjlfhicaaaDoorTrAA
import Derived.Test.YtdcocgjlfhicaaaDoorH
namespace Go.Proofs.YtdcocgjlfhicaaaDoor
open Go.ChangeShapes Go.WideShapes Go.ChangeAt Go.RowKit

/-- A trie that stands in memory: its own block, and its nodes in blocks of S. -/
structure TrieI (S : Nat → Prop) (w : World) (tb : Nat) (g : Value) (n : Nd) : Prop where
  blk : ∃ rv, w.heap[tb]? = some (.cells #[rv, g] 91 (0, 0)) ∧ NdV S w n rv
  no : ¬ S tb
  ins : InS S w
  ok : okN 128 n
theorem TrieI.fr {S : Nat → Prop} {w w' : World} {tb : Nat} {g : Value} {n : Nd} (h : TrieI S w tb g n) (f : Fr [] w w') : TrieI S w' tb g n := by
  obtain ⟨⟨rv, h1, h2⟩, h3, h4, h5⟩ := h
  exact ⟨⟨rv, blk_frT h1 f, h2.step (h4.agr f)⟩, h3, h4.fr f, h5⟩
/-- What a trie has of its own may not be touched: all else may. -/
theorem TrieI.keep {S : Nat → Prop} {w w' : World} {tb : Nat} {g : Value} {n : Nd} (h : TrieI S w tb g n) (hs : w.heap.size ≤ w'.heap.size) (f : ∀ k, S k ∨ k = tb → w'.heap[k]? = w.heap[k]?) : TrieI S w' tb g n := by
  obtain ⟨⟨rv, h1, h2⟩, h3, h4, h5⟩ := h
  exact ⟨⟨rv, by rw [f tb (.inr rfl)]; exact h1, h2.step fun k hk => f k (.inl hk)⟩, h3, fun k hk => Nat.lt_of_lt_of_le (h4 k hk) hs, h5⟩
theorem putN_ne {n : Nd} {d : Nat} (h : okN d n) (p x : List Nat) : putN n p x ≠ .nil := by
  cases n with
  | nil => intro e; cases e
  | far y => exact h.elim
  | leaf q y =>
    show (if q = p then _ else _) ≠ Nd.nil
    split
    · intro e; cases e
    · exact leadN_ne _ _ _
  | stem q t =>
    show (if cpN q p = q.length then _ else _) ≠ Nd.nil
    split
    · have hf := putN_fk h.2.2.2.1 (p.drop (cpN q p)) x
      cases ht : putN t (p.drop (cpN q p)) x with
      | fork c y => exact leadN_ne _ _ _
      | nil => rw [ht] at hf; exact hf.elim
      | far _ => rw [ht] at hf; exact hf.elim
      | leaf _ _ => rw [ht] at hf; exact hf.elim
      | stem _ _ => rw [ht] at hf; exact hf.elim
    · exact leadN_ne _ _ _
  | fork c y => cases p <;> (intro e; cases e)
def putT (n : Nd) (p x : List Nat) : Nd := if findN n p = x then n else putN n p x
set_option maxRecDepth 20000 in
theorem become_same (w : World) (tb : Nat) (v : Value) :
    Calls Tryd.prog 47 #[.pointer (some ⟨tb, 0, none⟩), v, .int .i64 (-1)] w fun e w' => e = .returned (.int .i64 0) ∧ w' = w := by
  go_enter Tryd.func47, Tryd.ntmps47
  go_wp2_with fail
  go_ret
  exact ⟨rfl, rfl⟩
set_option maxRecDepth 20000 in
theorem become_ok (w : World) {tb : Nat} {rv g : Value} {T : TypeId} {x : Value} (h : w.heap[tb]? = some (.cells #[rv, g] 91 (0, 0))) :
    Calls Tryd.prog 47 #[.pointer (some ⟨tb, 0, none⟩), .iface T x, .int .i64 0] w fun e w' => e = .returned (.int .i64 0) ∧ w' = w.setCell ⟨tb, 0, none⟩ (.iface T x) := by
  have c0 := blk_cell h 0
  have z0 := blk_frozen h 0
  simp at c0
  clear h
  go_enter Tryd.func47, Tryd.ntmps47
  go_wp2_with fail
  go_ret
  exact ⟨rfl, rfl⟩
set_option maxRecDepth 20000 in
set_option maxHeartbeats 3200000 in
theorem Put_c (w : World) {S : Nat → Prop} {tb : Nat} {g : Value} {n : Nd} (HT : Tabs w) (ht : TrieI S w tb g n) {kv vv : Value} {k x : List Nat} (hk : Rd w kv (bv k)) (hkb : By k) (hkl : k.length ≤ 64) (hv : Rd w vv (bv x)) (hvb : By x) (hv1 : 1 ≤ x.length) (hvl : x.length ≤ 1024) :
    Calls Tryd.prog 21 #[.pointer (some ⟨tb, 0, none⟩), kv, vv] w fun e w' => e = .returned (.int .i64 0) ∧ (∃ S', TrieI S' w' tb g (putT n (nibF k) x) ∧ (∀ j, S' j → S j ∨ w.heap.size ≤ j)) ∧ Fr [tb] w w' := by
  obtain ⟨ka, kc, e1⟩ := hk.form
  obtain ⟨va, vc, e2⟩ := hv.form
  rw [bv_len] at e1 e2
  subst e1 e2
  obtain ⟨⟨rv, hB, hN⟩, hno, hi, hok⟩ := ht
  have hnl := nibF_len k
  have htbw := (Array.getElem?_eq_some_iff.1 hB).1
  have NB := hid (fun (w1 : World) (f : Fr [] w w1) => nib_c w1 (hk.fr f) hkb (by omega))
  have CL := hid (fun (w1 : World) (f : Fr [] w w1) => clone_c (hv.fr f) (by omega))
  have PT := hid (fun (w1 w2 w3 : World) (p v : Value) (f1 : Fr [] w w1) (O1 : w2.ownsRow w1.heap.size 5 1 p (nibF k).length (bv (nibF k))) (f2 : Fr [] w1 w2) (O2 : w3.ownsRow w2.heap.size 5 1 v x.length (bv x)) (f3 : Fr [] w2 w3) =>
    put_ok n w3 (Up S w w3) (.pointer (some ⟨tb, 0, none⟩)) rv p v (nibF k) x 128 (HT.fr ((f1.trans f2).trans f3)) (hi.up ((f1.trans f2).trans f3)) (hN.up hi ((f1.trans f2).trans f3)) (Nat.le_refl _) hok (Un.own O1 f1.size f3) (nibF_nb hkb) (by omega) (Un.own O2 (by have := f1.size; have := f2.size; omega) (Fr.refl _ _)) hvb hv1 hvl)
  obtain ⟨nk, hnk⟩ : ∃ n, n = k.length := ⟨_, rfl⟩
  obtain ⟨nx, hnx⟩ : ∃ n, n = x.length := ⟨_, rfl⟩
  rw [← hnk] at NB hkl
  rw [← hnx] at CL PT hv1 hvl
  rw [← hnk, ← hnx]
  have HB := hid hB
  have HN := hid hN
  have HNO := hid hno
  have HI := hid hi
  have HOK := hid hok
  have HOP := hid (fun h => putN_ok hok (nibF_nb hkb) h hvb (by omega) (by omega) : (nibF k).length ≤ 128 → okN 128 (putN n (nibF k) x))
  have HNE := hid (putN_ne hok (nibF k) x)
  have HNL : Hid ((nibF k).length ≤ 128) := hid (by omega)
  have HTB := hid htbw
  have h64 : ¬ (64 : Int) < (nk : Int) := by omega
  have h0 : ((nx : Int) == 0) = false := beq_eq_false_iff_ne.2 (by omega)
  have h1024 : ¬ (1024 : Int) < (nx : Int) := by omega
  clear hk hkb hv hvb hB hN hno hi hok hnl HT hnk hnx htbw
  go_enter Tryd.func21, Tryd.ntmps21
  go_upto_region 5 with fail
  have SK : Hid (∀ w', Fr [] w w' → w'.cell? ⟨tb, 0, none⟩ = some rv) := hid fun w' f => cell_fr (by simpa using blk_cell HB.out 0) f
  refine wp_region_held_drew (S := fun w' => w'.cell? ⟨tb, 0, none⟩ = some rv) (by kernel_rfl) (SK.out _ (Fr.refl _ _).drew) (fun hS => ?_)
  refine wpAnyH_take (i := 0) (v := .pointer (some ⟨tb, 0, none⟩)) rfl (by kernel_rfl) (by kernel_rfl) (by kernel_rfl) (fun _ _ _ h => h) (.inl ⟨by rfl, fun wx _ => by go_simp⟩) hS ?_
  simp only [Act.put, List.getElem_toArray, List.getElem_cons_zero, List.setIfInBounds_toArray, List.set_cons_succ, List.set_cons_zero]
  refine wpAnyH_take (i := 1) (v := .pointer (some ⟨tb, 0, none⟩)) rfl (by kernel_rfl) (by kernel_rfl) (by kernel_rfl) (fun _ _ _ h => h) (.inl ⟨by rfl, fun wx _ => by go_simp⟩) hS ?_
  simp only [Act.put, List.getElem_toArray, List.getElem_cons_succ, List.getElem_cons_zero, List.setIfInBounds_toArray, List.set_cons_succ, List.set_cons_zero]
  refine wpAnyH_take (i := 2) (v := .pointer (some ⟨tb, 0, none⟩)) rfl (by kernel_rfl) (by kernel_rfl) (by kernel_rfl) (fun _ _ _ h => h) (.inl ⟨by rfl, fun wx _ => by go_simp⟩) hS ?_
  simp only [Act.put, List.getElem_toArray, List.getElem_cons_succ, List.getElem_cons_zero, List.setIfInBounds_toArray, List.set_cons_succ, List.set_cons_zero]
  refine wpAnyH_take (i := 3) (v := .pointer (some ⟨tb, 0, none⟩)) rfl (by kernel_rfl) (by kernel_rfl) (by kernel_rfl) (fun _ _ _ h => h) (.inl ⟨by rfl, fun wx _ => by go_simp⟩) hS ?_
  simp only [Act.put, List.getElem_toArray, List.getElem_cons_succ, List.getElem_cons_zero, List.setIfInBounds_toArray, List.set_cons_succ, List.set_cons_zero]
  refine wpAnyH_take (i := 4) (v := rv) rfl (by kernel_rfl) (by kernel_rfl) (by kernel_rfl) (fun _ _ _ h => h) (.inl ⟨by rfl, fun wx hX => by have x0 := hX; go_simp⟩) hS ?_
  simp only [Act.put, List.getElem_toArray, List.getElem_cons_succ, List.getElem_cons_zero, List.setIfInBounds_toArray, List.set_cons_succ, List.set_cons_zero]
  refine wpAnyH_take (i := 5) (v := .slice ka nk kc) rfl (by kernel_rfl) (by kernel_rfl) (by kernel_rfl) (fun _ _ _ h => h) (.inl ⟨by rfl, fun wx _ => by go_simp⟩) hS ?_
  simp only [Act.put, List.getElem_toArray, List.getElem_cons_succ, List.getElem_cons_zero, List.setIfInBounds_toArray, List.set_cons_succ, List.set_cons_zero]
  refine wpAnyH_take (i := 7) (v := .slice va nx vc) rfl (by kernel_rfl) (by kernel_rfl) (by kernel_rfl) (fun _ _ _ h => h) (.inl ⟨by rfl, fun wx _ => by go_simp⟩) hS ?_
  simp only [Act.put, List.getElem_toArray, List.getElem_cons_succ, List.getElem_cons_zero, List.setIfInBounds_toArray, List.set_cons_succ, List.set_cons_zero]
  clear hS
  have FD : Hid (Fr [] w w.drew) := hid (Fr.refl _ _).drew
  refine wpAnyH_ready (rs := [6]) (by kernel_rfl) (by simp) ?_
  refine AllReadyH.cons rfl (fun K hK => ?_) AllReadyH.nil
  go_simp
  go_at_call 13
  refine (NB.out _ FD.out).mono ?_
  rintro e w2 ⟨pv, rfl, O1, f1⟩
  have HO1 := hid O1
  have F1 := hid f1
  clear O1 f1 NB
  go_simp
  refine hK.out _ _ (SK.out _ (FD.out.trans F1.out)) (fun _ => ?_)
  clear hK K
  refine wpAnyH_ready (rs := [8]) (by kernel_rfl) (by simp) ?_
  refine AllReadyH.cons rfl (fun K hK => ?_) AllReadyH.nil
  go_simp
  go_at_call 42
  refine (CL.out _ (FD.out.trans F1.out)).mono ?_
  rintro e w3 ⟨xv, rfl, O2, f2⟩
  have PT2 := hid (PT.out _ _ _ pv xv FD.out HO1.out F1.out O2 f2)
  have F3 := hid ((FD.out.trans F1.out).trans f2)
  clear O2 f2 CL PT HO1
  go_simp
  refine hK.out _ _ (SK.out _ F3.out) (fun _ => ?_)
  clear hK K
  refine wpAnyH_ready (rs := [9]) (by kernel_rfl) (by simp) ?_
  refine AllReadyH.cons rfl (fun K hK => ?_) AllReadyH.nil
  go_simp
  go_at_call 46
  refine PT2.out.mono ?_
  rintro e w4 ⟨(⟨hfx, rfl⟩ | ⟨hfx, r, rfl, hN4⟩), f4⟩
  · have F4 := hid (F3.out.trans f4)
    clear f4 PT2
    go_simp
    have hS4 := SK.out _ F4.out
    refine hK.out _ _ hS4 (fun _ => ?_)
    clear hK K
    refine wpAnyH_take (i := 10) (v := .tuple #[.nilIface, .int .i64 (-1)]) rfl (by kernel_rfl) (by kernel_rfl) (by kernel_rfl) (fun _ _ _ h => h) (.inl ⟨by rfl, fun wx _ => by go_simp⟩) hS4 ?_
    simp only [Act.put, List.getElem_toArray, List.getElem_cons_succ, List.getElem_cons_zero, List.setIfInBounds_toArray, List.set_cons_succ, List.set_cons_zero]
    refine wpAnyH_take (i := 11) (v := .nilIface) rfl (by kernel_rfl) (by kernel_rfl) (by kernel_rfl) (fun _ _ _ h => h) (.inl ⟨by rfl, fun wx _ => by go_simp⟩) hS4 ?_
    simp only [Act.put, List.getElem_toArray, List.getElem_cons_succ, List.getElem_cons_zero, List.setIfInBounds_toArray, List.set_cons_succ, List.set_cons_zero]
    refine wpAnyH_take (i := 12) (v := .int .i64 (-1)) rfl (by kernel_rfl) (by kernel_rfl) (by kernel_rfl) (fun _ _ _ h => h) (.inl ⟨by rfl, fun wx _ => by go_simp⟩) hS4 ?_
    simp only [Act.put, List.getElem_toArray, List.getElem_cons_succ, List.getElem_cons_zero, List.setIfInBounds_toArray, List.set_cons_succ, List.set_cons_zero]
    refine wpAnyH_take (i := 13) (v := .nilIface) rfl (by kernel_rfl) (by kernel_rfl) (by kernel_rfl) (fun _ _ _ h => h) (.inl ⟨by rfl, fun wx _ => by go_simp⟩) hS4 ?_
    simp only [Act.put, List.getElem_toArray, List.getElem_cons_succ, List.getElem_cons_zero, List.setIfInBounds_toArray, List.set_cons_succ, List.set_cons_zero]
    refine wpAnyH_take (i := 14) (v := .int .i64 (-1)) rfl (by kernel_rfl) (by kernel_rfl) (by kernel_rfl) (fun _ _ _ h => h) (.inl ⟨by rfl, fun wx _ => by go_simp⟩) hS4 ?_
    simp only [Act.put, List.getElem_toArray, List.getElem_cons_succ, List.getElem_cons_zero, List.setIfInBounds_toArray, List.set_cons_succ, List.set_cons_zero]
    refine wpAnyH_done (by kernel_rfl) ?_ _
    clear hS4
    go_wp2_with (go_at_call 47; refine (become_same _ tb _).mono ?_; rintro e w5 ⟨rfl, hw5⟩; rw [hw5]; clear hw5)
    go_ret
    refine ⟨rfl, ⟨S, ?_, fun j h => .inl h⟩, F4.out.mono (by simp)⟩
    rw [show putT n (nibF k) x = n from if_pos hfx]
    exact (TrieI.mk ⟨rv, HB.out, HN.out⟩ HNO.out HI.out HOK.out).fr F4.out
  · have F4 := hid (F3.out.trans f4)
    have F34 := hid f4
    obtain ⟨T, y, rfl⟩ := hN4.iface HNE.out
    have HN4 := hid hN4
    clear f4 PT2 hN4
    go_simp
    have hS4 := SK.out _ F4.out
    refine hK.out _ _ hS4 (fun _ => ?_)
    clear hK K
    refine wpAnyH_take (i := 10) (v := .tuple #[.iface T y, .int .i64 0]) rfl (by kernel_rfl) (by kernel_rfl) (by kernel_rfl) (fun _ _ _ h => h) (.inl ⟨by rfl, fun wx _ => by go_simp⟩) hS4 ?_
    simp only [Act.put, List.getElem_toArray, List.getElem_cons_succ, List.getElem_cons_zero, List.setIfInBounds_toArray, List.set_cons_succ, List.set_cons_zero]
    refine wpAnyH_take (i := 11) (v := .iface T y) rfl (by kernel_rfl) (by kernel_rfl) (by kernel_rfl) (fun _ _ _ h => h) (.inl ⟨by rfl, fun wx _ => by go_simp⟩) hS4 ?_
    simp only [Act.put, List.getElem_toArray, List.getElem_cons_succ, List.getElem_cons_zero, List.setIfInBounds_toArray, List.set_cons_succ, List.set_cons_zero]
    refine wpAnyH_take (i := 12) (v := .int .i64 0) rfl (by kernel_rfl) (by kernel_rfl) (by kernel_rfl) (fun _ _ _ h => h) (.inl ⟨by rfl, fun wx _ => by go_simp⟩) hS4 ?_
    simp only [Act.put, List.getElem_toArray, List.getElem_cons_succ, List.getElem_cons_zero, List.setIfInBounds_toArray, List.set_cons_succ, List.set_cons_zero]
    refine wpAnyH_take (i := 13) (v := .iface T y) rfl (by kernel_rfl) (by kernel_rfl) (by kernel_rfl) (fun _ _ _ h => h) (.inl ⟨by rfl, fun wx _ => by go_simp⟩) hS4 ?_
    simp only [Act.put, List.getElem_toArray, List.getElem_cons_succ, List.getElem_cons_zero, List.setIfInBounds_toArray, List.set_cons_succ, List.set_cons_zero]
    refine wpAnyH_take (i := 14) (v := .int .i64 0) rfl (by kernel_rfl) (by kernel_rfl) (by kernel_rfl) (fun _ _ _ h => h) (.inl ⟨by rfl, fun wx _ => by go_simp⟩) hS4 ?_
    simp only [Act.put, List.getElem_toArray, List.getElem_cons_succ, List.getElem_cons_zero, List.setIfInBounds_toArray, List.set_cons_succ, List.set_cons_zero]
    refine wpAnyH_done (by kernel_rfl) ?_ _
    clear hS4
    have HB4 := hid (blk_frT HB.out F4.out)
    have BE := hid (become_ok w4 (T := T) (x := y) HB4.out)
    go_wp2_with (go_at_call 47; refine BE.out.mono ?_; rintro e w5 ⟨rfl, hw5⟩; have HW5 := hid hw5; clear hw5)
    go_ret
    have FG : Fr [tb] w4 w5 := by rw [HW5.out]; exact (Fr.refl _ _).set _ _ (.inl (by simp))
    have hIu : InS (Up (Up S w w3) w3 w4) w4 := (HI.out.up F3.out).up F34.out
    have hnu : ¬ Up (Up S w w3) w3 w4 tb := fun h => by
      have := HTB.out
      have := F3.out.size
      rcases h with (h | h) | h
      · exact HNO.out h
      · omega
      · omega
    refine ⟨rfl, ⟨Up (Up S w w3) w3 w4, ?_, fun j h => ?_⟩, (F4.out.mono (by simp)).trans FG⟩
    · rw [show putT n (nibF k) x = putN n (nibF k) x from if_neg hfx]
      refine ⟨⟨.iface T y, ?_, HN4.out.step (hIu.agrG hnu FG)⟩, hnu, fun k hk => Nat.lt_of_lt_of_le (hIu k hk) FG.size, HOP.out HNL.out⟩
      rw [HW5.out, blk_set HB4.out]
      rfl
    · have := F3.out.size
      rcases h with (h | h) | h
      · exact .inl h
      · exact .inr h.1
      · exact .inr (by omega)
end Go.Proofs.YtdcocgjlfhicaaaDoor
