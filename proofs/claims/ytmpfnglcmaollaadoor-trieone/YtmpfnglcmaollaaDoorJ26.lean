/-
  put of any node of a map's trie.
-/
import Derived.Test.YtmpfnglcmaollaaDoorTrZ
import Derived.Test.YtmpfnglcmaollaaDoorJ07
namespace Go.Proofs.YtmpfnglcmaollaaDoor
open Go.ChangeShapes Go.WideShapes Go.ChangeAt Go.RowKit

theorem PutR.back {S : Nat → Prop} {w w1 w' : World} {n : Nd} {p x : List Nat} {e : Ending} (h : PutR S w1 n p x e w') (f : Fr [] w w1) : PutR S w n p x e w' := by
  obtain ⟨h1, f2⟩ := h
  refine ⟨?_, f.trans f2⟩
  rcases h1 with h1 | ⟨h1, r, h2, h3⟩
  · exact .inl h1
  · exact .inr ⟨h1, r, h2, h3.sub fun k hk => Up.mid f.size (Nat.le_refl _) hk⟩
theorem asLeaf_n (w : World) : (Instr.typeAssert .nilIface 84 130 true).run Tryd.prog w = .ok (.tuple #[.pointer none, .bool false]) w := by
  kernel_rfl
theorem asStem_n (w : World) : (Instr.typeAssert .nilIface 84 121 true).run Tryd.prog w = .ok (.tuple #[.pointer none, .bool false]) w := by
  kernel_rfl
theorem asFork_n (w : World) : (Instr.typeAssert .nilIface 84 126 true).run Tryd.prog w = .ok (.tuple #[.pointer none, .bool false]) w := by
  kernel_rfl
set_option maxRecDepth 20000 in
set_option maxHeartbeats 1600000 in
theorem put_nil : PutOk .nil := by
  intro w S tv v pv vv p x d HT hi hn hd hok hp hb hl hv hvb hv1 hvl
  obtain rfl : v = .nilIface := hn
  have LK := hid (look_nil w tv)
  have MK := hid (fun (w1 : World) (f : Fr [] w w1) => makeLeaf_c w1 (HT.fr f) (hi.fr f) (hp.step (hi.agr f)) (okP_of hb (by omega)) (hv.step (hi.agr f)) hvb hv1 hvl)
  have ta := fun w => asLeaf_n w
  have tb := fun w => asStem_n w
  have tc := fun w => asFork_n w
  have hne : findN .nil p ≠ x := fun e => by rw [← e] at hv1; simp [findN] at hv1
  clear HT hi hp hb hl hv hvb hv1 hvl hok hd
  go_enter Tryd.func56, Tryd.ntmps56
  go_wp2_with (first
    | (go_at_call 73; refine LK.out.mono ?_; rintro e w1 ⟨rfl, f1⟩; have F1 := hid f1; clear f1)
    | (go_at_call 77; refine (MK.out _ F1.out).mono ?_; rintro e w2 ⟨r, rfl, N, f2⟩; have HN := hid N; have F2 := hid f2; clear N f2))
  go_ret2
  exact ⟨.inr ⟨hne, r, rfl, HN.out.sub fun k hk => Up.mid F1.out.size (Nat.le_refl _) hk⟩, F1.out.trans F2.out⟩
set_option maxRecDepth 20000 in
set_option maxHeartbeats 1600000 in
theorem put_leaf (q y : List Nat) : PutOk (.leaf q y) := by
  intro w S tv v pv vv p x d HT hi hn hd hok hp hb hl hv hvb hv1 hvl
  obtain ⟨b, rfl⟩ : ∃ b, v = .iface 130 (.pointer (some ⟨b, 0, none⟩)) := by
    obtain ⟨b, _, _, _, _, _, e, _⟩ := hn
    exact ⟨b, e⟩
  have LK := hid (look_leaf w tv b)
  have PL := hid (fun (w1 : World) (f : Fr [] w w1) => putLeaf_c w1 (HT.fr f) (hi.fr f) (hn.step (hi.agr f)) (hok.mono hd) (hp.step (hi.agr f)) hb (by omega) (hv.step (hi.agr f)) hvb hv1 hvl)
  have ta := fun w => asLeaf_y w b
  have hfi : findN (.leaf q y) p = x ↔ (q = p ∧ y = x) := by
    show (if q = p then y else []) = x ↔ _
    by_cases h : q = p
    · rw [if_pos h]; exact ⟨fun e => ⟨h, e⟩, fun e => e.2⟩
    · rw [if_neg h]
      exact ⟨fun e => by rw [← e] at hv1; simp at hv1, fun e => absurd e.1 h⟩
  clear HT hi hp hb hl hv hvb hv1 hvl hok hn hd
  go_enter Tryd.func56, Tryd.ntmps56
  go_upto_region 7 with (go_at_call 73; refine LK.out.mono ?_; rintro e w1 ⟨rfl, f1⟩; have F1 := hid f1; clear f1)
  go_wp2_with (go_at_call 74; refine (PL.out _ F1.out).mono ?_; rintro e w2 ⟨(⟨h1, h2, rfl⟩ | ⟨h1, r, rfl, N⟩), f2⟩)
  · go_ret2
    exact ⟨.inl ⟨hfi.2 ⟨h1, h2⟩, rfl⟩, F1.out.trans f2⟩
  · have HN := hid N
    clear N
    go_wp2
    go_ret2
    exact ⟨.inr ⟨fun e => h1 (hfi.1 e), r, rfl, HN.out.sub fun k hk => Up.mid F1.out.size (Nat.le_refl _) hk⟩, F1.out.trans f2⟩
set_option maxRecDepth 20000 in
set_option maxHeartbeats 1600000 in
theorem put_stem (q : List Nat) (t : Nd) (ih : PutOk t) : PutOk (.stem q t) := by
  intro w S tv v pv vv p x d HT hi hn hd hok hp hb hl hv hvb hv1 hvl
  obtain ⟨b, rfl⟩ : ∃ b, v = .iface 121 (.pointer (some ⟨b, 0, none⟩)) := by
    obtain ⟨b, _, _, _, _, _, e, _⟩ := hn
    exact ⟨b, e⟩
  have LK := hid (look_stem w tv b)
  have PL : Hid (∀ w1, Fr [] w w1 → Calls Tryd.prog 75 #[tv, .pointer (some ⟨b, 0, none⟩), pv, vv] w1 (PutR S w1 (.stem q t) p x)) := hid (fun w1 f => by
    by_cases hin : cpN q p = q.length
    · exact putStemIn_c w1 (HT.fr f) (hi.fr f) (hn.step (hi.agr f)) hd hok (hp.step (hi.agr f)) hb hl (hv.step (hi.agr f)) hvb hv1 hvl ih hin
    · exact putStemOut_c w1 (HT.fr f) (hi.fr f) (hn.step (hi.agr f)) hd hok (hp.step (hi.agr f)) hb hl (hv.step (hi.agr f)) hvb hv1 hvl hin)
  have ta := fun w => asLeaf_s w b
  have tb := fun w => asStem_y w b
  clear HT hi hp hb hl hv hvb hv1 hvl hok hn hd ih
  go_enter Tryd.func56, Tryd.ntmps56
  go_upto_region 10 with (go_at_call 73; refine LK.out.mono ?_; rintro e w1 ⟨rfl, f1⟩; have F1 := hid f1; clear f1)
  go_wp2_with (go_at_call 75; refine (PL.out _ F1.out).mono ?_; rintro e w2 ⟨(⟨h1, rfl⟩ | ⟨h1, r, rfl, N⟩), f2⟩)
  · go_ret2
    exact ⟨.inl ⟨h1, rfl⟩, F1.out.trans f2⟩
  · have HN := hid N
    clear N
    go_wp2
    go_ret2
    exact ⟨.inr ⟨h1, r, rfl, HN.out.sub fun k hk => Up.mid F1.out.size (Nat.le_refl _) hk⟩, F1.out.trans f2⟩
set_option maxRecDepth 20000 in
set_option maxHeartbeats 1600000 in
theorem put_fork (c : Nat → Nd) (y : List Nat) (ih : ∀ j, PutOk (c j)) : PutOk (.fork c y) := by
  intro w S tv v pv vv p x d HT hi hn hd hok hp hb hl hv hvb hv1 hvl
  obtain ⟨b, rfl⟩ : ∃ b, v = .iface 126 (.pointer (some ⟨b, 0, none⟩)) := by
    obtain ⟨b, _, _, _, _, _, e, _⟩ := hn
    exact ⟨b, e⟩
  have LK := hid (look_fork w tv b)
  have PL : Hid (∀ w1, Fr [] w w1 → Calls Tryd.prog 76 #[tv, .pointer (some ⟨b, 0, none⟩), pv, vv] w1 (PutR S w1 (.fork c y) p x)) := hid (fun w1 f => by
    cases p with
    | nil => exact putForkHere_c w1 (HT.fr f) (hi.fr f) (hn.step (hi.agr f)) hok (hp.step (hi.agr f)) (hv.step (hi.agr f)) hvb hvl
    | cons i r => exact putForkDown_c w1 (HT.fr f) (hi.fr f) (hn.step (hi.agr f)) hd hok (hp.step (hi.agr f)) hb hl (hv.step (hi.agr f)) hvb hv1 hvl ih)
  have ta := fun w => asLeaf_f w b
  have tb := fun w => asStem_f w b
  have tc := fun w => asFork_y w b
  clear HT hi hp hb hl hv hvb hv1 hvl hok hn hd ih
  go_enter Tryd.func56, Tryd.ntmps56
  go_upto_region 13 with (go_at_call 73; refine LK.out.mono ?_; rintro e w1 ⟨rfl, f1⟩; have F1 := hid f1; clear f1)
  go_wp2_with (go_at_call 76; refine (PL.out _ F1.out).mono ?_; rintro e w2 ⟨(⟨h1, rfl⟩ | ⟨h1, r, rfl, N⟩), f2⟩)
  · go_ret2
    exact ⟨.inl ⟨h1, rfl⟩, F1.out.trans f2⟩
  · have HN := hid N
    clear N
    go_wp2
    go_ret2
    exact ⟨.inr ⟨h1, r, rfl, HN.out.sub fun k hk => Up.mid F1.out.size (Nat.le_refl _) hk⟩, F1.out.trans f2⟩
theorem put_ok (n : Nd) : PutOk n := by
  induction n with
  | nil => exact put_nil
  | far h => intro w S tv v pv vv p x d HT hi hn hd hok; exact hok.elim
  | leaf q y => exact put_leaf q y
  | stem q t ih => exact put_stem q t ih
  | fork c y ih => exact put_fork c y ih
end Go.Proofs.YtmpfnglcmaollaaDoor
namespace Go.Proofs.YtmpfnglcmaollaaDoor
open Go.ChangeShapes Go.WideShapes Go.ChangeAt Go.RowKit

/-- A trie that stands in memory: its own block, and its nodes in blocks of S. -/
structure TrieI (S : Nat → Prop) (w : World) (tb : Nat) (g : Value) (n : Nd) : Prop where
  blk : ∃ rv, w.heap[tb]? = some (.cells #[rv, g] 94 (0, 0)) ∧ NdV S w n rv
  no : ¬ S tb
  ins : InS S w
  ok : okN 128 n
theorem TrieI.fr {S : Nat → Prop} {w w' : World} {tb : Nat} {g : Value} {n : Nd} (h : TrieI S w tb g n) (f : Fr [] w w') : TrieI S w' tb g n := by
  obtain ⟨⟨rv, h1, h2⟩, h3, h4, h5⟩ := h
  exact ⟨⟨rv, blk_frT h1 f, h2.step (h4.agr f)⟩, h3, h4.fr f, h5⟩
/-- What a trie has of its own may not be touched: all else may. -/
theorem TrieI.keep {S : Nat → Prop} {w w' : World} {tb : Nat} {g : Value} {n : Nd} (h : TrieI S w tb g n) (hs : w.heap.size ≤ w'.heap.size) (f : ∀ k, S k ∨ k = tb → w'.heap[k]? = w.heap[k]?) : TrieI S w' tb g n := by
  obtain ⟨⟨rv, h1, h2⟩, h3, h4, h5⟩ := h
  exact ⟨⟨rv, by rw [f tb (.inr rfl)]; exact h1, h2.step fun k hk => f k (.inl hk)⟩, h3, fun k hk => Nat.lt_of_lt_of_le (h4 k hk) hs, h5⟩
theorem putN_ne {n : Nd} {d : Nat} (h : okN d n) (p x : List Nat) : putN n p x ≠ .nil := by
  cases n with
  | nil => intro e; cases e
  | far y => exact h.elim
  | leaf q y =>
    show (if q = p then _ else _) ≠ Nd.nil
    split
    · intro e; cases e
    · exact leadN_ne _ _ _
  | stem q t =>
    show (if cpN q p = q.length then _ else _) ≠ Nd.nil
    split
    · have hf := putN_fk h.2.2.2.1 (p.drop (cpN q p)) x
      cases ht : putN t (p.drop (cpN q p)) x with
      | fork c y => exact leadN_ne _ _ _
      | nil => rw [ht] at hf; exact hf.elim
      | far _ => rw [ht] at hf; exact hf.elim
      | leaf _ _ => rw [ht] at hf; exact hf.elim
      | stem _ _ => rw [ht] at hf; exact hf.elim
    · exact leadN_ne _ _ _
  | fork c y => cases p <;> (intro e; cases e)
def putT (n : Nd) (p x : List Nat) : Nd := if findN n p = x then n else putN n p x
set_option maxRecDepth 20000 in
theorem become_same (w : World) (tb : Nat) (v : Value) :
    Calls Tryd.prog 57 #[.pointer (some ⟨tb, 0, none⟩), v, .int .i64 (-1)] w fun e w' => e = .returned (.int .i64 0) ∧ w' = w := by
  go_enter Tryd.func57, Tryd.ntmps57
  go_wp2_with fail
  go_ret
  exact ⟨rfl, rfl⟩
set_option maxRecDepth 20000 in
theorem become_ok (w : World) {tb : Nat} {rv g : Value} {T : TypeId} {x : Value} (h : w.heap[tb]? = some (.cells #[rv, g] 94 (0, 0))) :
    Calls Tryd.prog 57 #[.pointer (some ⟨tb, 0, none⟩), .iface T x, .int .i64 0] w fun e w' => e = .returned (.int .i64 0) ∧ w' = w.setCell ⟨tb, 0, none⟩ (.iface T x) := by
  have c0 := blk_cell h 0
  have z0 := blk_frozen h 0
  simp at c0
  clear h
  go_enter Tryd.func57, Tryd.ntmps57
  go_wp2_with fail
  go_ret
  exact ⟨rfl, rfl⟩
set_option maxRecDepth 20000 in
set_option maxHeartbeats 3200000 in
theorem Put_c (w : World) {S : Nat → Prop} {tb : Nat} {g : Value} {n : Nd} (HT : Tabs w) (ht : TrieI S w tb g n) {kv vv : Value} {k x : List Nat} (hk : Rd w kv (bv k)) (hkb : By k) (hkl : k.length ≤ 64) (hv : Rd w vv (bv x)) (hvb : By x) (hv1 : 1 ≤ x.length) (hvl : x.length ≤ 1024) :
    Calls Tryd.prog 29 #[.pointer (some ⟨tb, 0, none⟩), kv, vv] w fun e w' => e = .returned (.int .i64 0) ∧ (∃ S', TrieI S' w' tb g (putT n (nibF k) x) ∧ (∀ j, S' j → S j ∨ w.heap.size ≤ j)) ∧ Fr [tb] w w' := by
  obtain ⟨ka, kc, e1⟩ := hk.form
  obtain ⟨va, vc, e2⟩ := hv.form
  rw [bv_len] at e1 e2
  subst e1 e2
  obtain ⟨⟨rv, hB, hN⟩, hno, hi, hok⟩ := ht
  have hnl := nibF_len k
  have htbw := (Array.getElem?_eq_some_iff.1 hB).1
  have NB := hid (fun (w1 : World) (f : Fr [] w w1) => nib_c w1 (hk.fr f) hkb (by omega))
  have CL := hid (fun (w1 : World) (f : Fr [] w w1) => clone_c (hv.fr f) (by omega))
  have PT := hid (fun (w1 w2 w3 : World) (p v : Value) (f1 : Fr [] w w1) (O1 : w2.ownsRow w1.heap.size 5 1 p (nibF k).length (bv (nibF k))) (f2 : Fr [] w1 w2) (O2 : w3.ownsRow w2.heap.size 5 1 v x.length (bv x)) (f3 : Fr [] w2 w3) =>
    put_ok n w3 (Up S w w3) (.pointer (some ⟨tb, 0, none⟩)) rv p v (nibF k) x 128 (HT.fr ((f1.trans f2).trans f3)) (hi.up ((f1.trans f2).trans f3)) (hN.up hi ((f1.trans f2).trans f3)) (Nat.le_refl _) hok (Un.own O1 f1.size f3) (nibF_nb hkb) (by omega) (Un.own O2 (by have := f1.size; have := f2.size; omega) (Fr.refl _ _)) hvb hv1 hvl)
  obtain ⟨nk, hnk⟩ : ∃ n, n = k.length := ⟨_, rfl⟩
  obtain ⟨nx, hnx⟩ : ∃ n, n = x.length := ⟨_, rfl⟩
  rw [← hnk] at NB hkl
  rw [← hnx] at CL PT hv1 hvl
  rw [← hnk, ← hnx]
  have HB := hid hB
  have HN := hid hN
  have HNO := hid hno
  have HI := hid hi
  have HOK := hid hok
  have HOP := hid (fun h => putN_ok hok (nibF_nb hkb) h hvb (by omega) (by omega) : (nibF k).length ≤ 128 → okN 128 (putN n (nibF k) x))
  have HNE := hid (putN_ne hok (nibF k) x)
  have HNL : Hid ((nibF k).length ≤ 128) := hid (by omega)
  have HTB := hid htbw
  have h64 : ¬ (64 : Int) < (nk : Int) := by omega
  have h0 : ((nx : Int) == 0) = false := beq_eq_false_iff_ne.2 (by omega)
  have h1024 : ¬ (1024 : Int) < (nx : Int) := by omega
  clear hk hkb hv hvb hB hN hno hi hok hnl HT hnk hnx htbw
  go_enter Tryd.func29, Tryd.ntmps29
  go_upto_region 5 with fail
  have SK : Hid (∀ w', Fr [] w w' → w'.cell? ⟨tb, 0, none⟩ = some rv) := hid fun w' f => cell_fr (by simpa using blk_cell HB.out 0) f
  refine wp_region_held_drew (S := fun w' => w'.cell? ⟨tb, 0, none⟩ = some rv) (by kernel_rfl) (SK.out _ (Fr.refl _ _).drew) (fun hS => ?_)
  refine wpAnyH_take (i := 0) (v := .pointer (some ⟨tb, 0, none⟩)) rfl (by kernel_rfl) (by kernel_rfl) (by kernel_rfl) (fun _ _ _ h => h) (.inl ⟨by rfl, fun wx _ => by go_simp⟩) hS ?_
  simp only [Act.put, List.getElem_toArray, List.getElem_cons_zero, List.setIfInBounds_toArray, List.set_cons_succ, List.set_cons_zero]
  refine wpAnyH_take (i := 1) (v := .pointer (some ⟨tb, 0, none⟩)) rfl (by kernel_rfl) (by kernel_rfl) (by kernel_rfl) (fun _ _ _ h => h) (.inl ⟨by rfl, fun wx _ => by go_simp⟩) hS ?_
  simp only [Act.put, List.getElem_toArray, List.getElem_cons_succ, List.getElem_cons_zero, List.setIfInBounds_toArray, List.set_cons_succ, List.set_cons_zero]
  refine wpAnyH_take (i := 2) (v := .pointer (some ⟨tb, 0, none⟩)) rfl (by kernel_rfl) (by kernel_rfl) (by kernel_rfl) (fun _ _ _ h => h) (.inl ⟨by rfl, fun wx _ => by go_simp⟩) hS ?_
  simp only [Act.put, List.getElem_toArray, List.getElem_cons_succ, List.getElem_cons_zero, List.setIfInBounds_toArray, List.set_cons_succ, List.set_cons_zero]
  refine wpAnyH_take (i := 3) (v := .pointer (some ⟨tb, 0, none⟩)) rfl (by kernel_rfl) (by kernel_rfl) (by kernel_rfl) (fun _ _ _ h => h) (.inl ⟨by rfl, fun wx _ => by go_simp⟩) hS ?_
  simp only [Act.put, List.getElem_toArray, List.getElem_cons_succ, List.getElem_cons_zero, List.setIfInBounds_toArray, List.set_cons_succ, List.set_cons_zero]
  refine wpAnyH_take (i := 4) (v := rv) rfl (by kernel_rfl) (by kernel_rfl) (by kernel_rfl) (fun _ _ _ h => h) (.inl ⟨by rfl, fun wx hX => by have x0 := hX; go_simp⟩) hS ?_
  simp only [Act.put, List.getElem_toArray, List.getElem_cons_succ, List.getElem_cons_zero, List.setIfInBounds_toArray, List.set_cons_succ, List.set_cons_zero]
  refine wpAnyH_take (i := 5) (v := .slice ka nk kc) rfl (by kernel_rfl) (by kernel_rfl) (by kernel_rfl) (fun _ _ _ h => h) (.inl ⟨by rfl, fun wx _ => by go_simp⟩) hS ?_
  simp only [Act.put, List.getElem_toArray, List.getElem_cons_succ, List.getElem_cons_zero, List.setIfInBounds_toArray, List.set_cons_succ, List.set_cons_zero]
  refine wpAnyH_take (i := 7) (v := .slice va nx vc) rfl (by kernel_rfl) (by kernel_rfl) (by kernel_rfl) (fun _ _ _ h => h) (.inl ⟨by rfl, fun wx _ => by go_simp⟩) hS ?_
  simp only [Act.put, List.getElem_toArray, List.getElem_cons_succ, List.getElem_cons_zero, List.setIfInBounds_toArray, List.set_cons_succ, List.set_cons_zero]
  clear hS
  have FD : Hid (Fr [] w w.drew) := hid (Fr.refl _ _).drew
  refine wpAnyH_ready (rs := [6]) (by kernel_rfl) (by simp) ?_
  refine AllReadyH.cons rfl (fun K hK => ?_) AllReadyH.nil
  go_simp
  go_at_call 23
  refine (NB.out _ FD.out).mono ?_
  rintro e w2 ⟨pv, rfl, O1, f1⟩
  have HO1 := hid O1
  have F1 := hid f1
  clear O1 f1 NB
  go_simp
  refine hK.out _ _ (SK.out _ (FD.out.trans F1.out)) (fun _ => ?_)
  clear hK K
  refine wpAnyH_ready (rs := [8]) (by kernel_rfl) (by simp) ?_
  refine AllReadyH.cons rfl (fun K hK => ?_) AllReadyH.nil
  go_simp
  go_at_call 37
  refine (CL.out _ (FD.out.trans F1.out)).mono ?_
  rintro e w3 ⟨xv, rfl, O2, f2⟩
  have PT2 := hid (PT.out _ _ _ pv xv FD.out HO1.out F1.out O2 f2)
  have F3 := hid ((FD.out.trans F1.out).trans f2)
  clear O2 f2 CL PT HO1
  go_simp
  refine hK.out _ _ (SK.out _ F3.out) (fun _ => ?_)
  clear hK K
  refine wpAnyH_ready (rs := [9]) (by kernel_rfl) (by simp) ?_
  refine AllReadyH.cons rfl (fun K hK => ?_) AllReadyH.nil
  go_simp
  go_at_call 56
  refine PT2.out.mono ?_
  rintro e w4 ⟨(⟨hfx, rfl⟩ | ⟨hfx, r, rfl, hN4⟩), f4⟩
  · have F4 := hid (F3.out.trans f4)
    clear f4 PT2
    go_simp
    have hS4 := SK.out _ F4.out
    refine hK.out _ _ hS4 (fun _ => ?_)
    clear hK K
    refine wpAnyH_take (i := 10) (v := .tuple #[.nilIface, .int .i64 (-1)]) rfl (by kernel_rfl) (by kernel_rfl) (by kernel_rfl) (fun _ _ _ h => h) (.inl ⟨by rfl, fun wx _ => by go_simp⟩) hS4 ?_
    simp only [Act.put, List.getElem_toArray, List.getElem_cons_succ, List.getElem_cons_zero, List.setIfInBounds_toArray, List.set_cons_succ, List.set_cons_zero]
    refine wpAnyH_take (i := 11) (v := .nilIface) rfl (by kernel_rfl) (by kernel_rfl) (by kernel_rfl) (fun _ _ _ h => h) (.inl ⟨by rfl, fun wx _ => by go_simp⟩) hS4 ?_
    simp only [Act.put, List.getElem_toArray, List.getElem_cons_succ, List.getElem_cons_zero, List.setIfInBounds_toArray, List.set_cons_succ, List.set_cons_zero]
    refine wpAnyH_take (i := 12) (v := .int .i64 (-1)) rfl (by kernel_rfl) (by kernel_rfl) (by kernel_rfl) (fun _ _ _ h => h) (.inl ⟨by rfl, fun wx _ => by go_simp⟩) hS4 ?_
    simp only [Act.put, List.getElem_toArray, List.getElem_cons_succ, List.getElem_cons_zero, List.setIfInBounds_toArray, List.set_cons_succ, List.set_cons_zero]
    refine wpAnyH_take (i := 13) (v := .nilIface) rfl (by kernel_rfl) (by kernel_rfl) (by kernel_rfl) (fun _ _ _ h => h) (.inl ⟨by rfl, fun wx _ => by go_simp⟩) hS4 ?_
    simp only [Act.put, List.getElem_toArray, List.getElem_cons_succ, List.getElem_cons_zero, List.setIfInBounds_toArray, List.set_cons_succ, List.set_cons_zero]
    refine wpAnyH_take (i := 14) (v := .int .i64 (-1)) rfl (by kernel_rfl) (by kernel_rfl) (by kernel_rfl) (fun _ _ _ h => h) (.inl ⟨by rfl, fun wx _ => by go_simp⟩) hS4 ?_
    simp only [Act.put, List.getElem_toArray, List.getElem_cons_succ, List.getElem_cons_zero, List.setIfInBounds_toArray, List.set_cons_succ, List.set_cons_zero]
    refine wpAnyH_done (by kernel_rfl) ?_ _
    clear hS4
    go_wp2_with (go_at_call 57; refine (become_same _ tb _).mono ?_; rintro e w5 ⟨rfl, hw5⟩; rw [hw5]; clear hw5)
    go_ret
    refine ⟨rfl, ⟨S, ?_, fun j h => .inl h⟩, F4.out.mono (by simp)⟩
    rw [show putT n (nibF k) x = n from if_pos hfx]
    exact (TrieI.mk ⟨rv, HB.out, HN.out⟩ HNO.out HI.out HOK.out).fr F4.out
  · have F4 := hid (F3.out.trans f4)
    have F34 := hid f4
    obtain ⟨T, y, rfl⟩ := hN4.iface HNE.out
    have HN4 := hid hN4
    clear f4 PT2 hN4
    go_simp
    have hS4 := SK.out _ F4.out
    refine hK.out _ _ hS4 (fun _ => ?_)
    clear hK K
    refine wpAnyH_take (i := 10) (v := .tuple #[.iface T y, .int .i64 0]) rfl (by kernel_rfl) (by kernel_rfl) (by kernel_rfl) (fun _ _ _ h => h) (.inl ⟨by rfl, fun wx _ => by go_simp⟩) hS4 ?_
    simp only [Act.put, List.getElem_toArray, List.getElem_cons_succ, List.getElem_cons_zero, List.setIfInBounds_toArray, List.set_cons_succ, List.set_cons_zero]
    refine wpAnyH_take (i := 11) (v := .iface T y) rfl (by kernel_rfl) (by kernel_rfl) (by kernel_rfl) (fun _ _ _ h => h) (.inl ⟨by rfl, fun wx _ => by go_simp⟩) hS4 ?_
    simp only [Act.put, List.getElem_toArray, List.getElem_cons_succ, List.getElem_cons_zero, List.setIfInBounds_toArray, List.set_cons_succ, List.set_cons_zero]
    refine wpAnyH_take (i := 12) (v := .int .i64 0) rfl (by kernel_rfl) (by kernel_rfl) (by kernel_rfl) (fun _ _ _ h => h) (.inl ⟨by rfl, fun wx _ => by go_simp⟩) hS4 ?_
    simp only [Act.put, List.getElem_toArray, List.getElem_cons_succ, List.getElem_cons_zero, List.setIfInBounds_toArray, List.set_cons_succ, List.set_cons_zero]
    refine wpAnyH_take (i := 13) (v := .iface T y) rfl (by kernel_rfl) (by kernel_rfl) (by kernel_rfl) (fun _ _ _ h => h) (.inl ⟨by rfl, fun wx _ => by go_simp⟩) hS4 ?_
    simp only [Act.put, List.getElem_toArray, List.getElem_cons_succ, List.getElem_cons_zero, List.setIfInBounds_toArray, List.set_cons_succ, List.set_cons_zero]
    refine wpAnyH_take (i := 14) (v := .int .i64 0) rfl (by kernel_rfl) (by kernel_rfl) (by kernel_rfl) (fun _ _ _ h => h) (.inl ⟨by rfl, fun wx _ => by go_simp⟩) hS4 ?_
    simp only [Act.put, List.getElem_toArray, List.getElem_cons_succ, List.getElem_cons_zero, List.setIfInBounds_toArray, List.set_cons_succ, List.set_cons_zero]
    refine wpAnyH_done (by kernel_rfl) ?_ _
    clear hS4
    have HB4 := hid (blk_frT HB.out F4.out)
    have BE := hid (become_ok w4 (T := T) (x := y) HB4.out)
    go_wp2_with (go_at_call 57; refine BE.out.mono ?_; rintro e w5 ⟨rfl, hw5⟩; have HW5 := hid hw5; clear hw5)
    go_ret
    have FG : Fr [tb] w4 w5 := by rw [HW5.out]; exact (Fr.refl _ _).set _ _ (.inl (by simp))
    have hIu : InS (Up (Up S w w3) w3 w4) w4 := (HI.out.up F3.out).up F34.out
    have hnu : ¬ Up (Up S w w3) w3 w4 tb := fun h => by
      have := HTB.out
      have := F3.out.size
      rcases h with (h | h) | h
      · exact HNO.out h
      · omega
      · omega
    refine ⟨rfl, ⟨Up (Up S w w3) w3 w4, ?_, fun j h => ?_⟩, (F4.out.mono (by simp)).trans FG⟩
    · rw [show putT n (nibF k) x = putN n (nibF k) x from if_neg hfx]
      refine ⟨⟨.iface T y, ?_, HN4.out.step (hIu.agrG hnu FG)⟩, hnu, fun k hk => Nat.lt_of_lt_of_le (hIu k hk) FG.size, HOP.out HNL.out⟩
      rw [HW5.out, blk_set HB4.out]
      rfl
    · have := F3.out.size
      rcases h with (h | h) | h
      · exact .inl h
      · exact .inr h.1
      · exact .inr (by omega)
end Go.Proofs.YtmpfnglcmaollaaDoor
