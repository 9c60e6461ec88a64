/-
  MemAnyOrder, walked.
-/
import Derived.Test.YtldcjkddalmkcaaAP
import Derived.Test.YtldcjkddalmkcaaCK
import Derived.Test.YtldcjkddalmkcaaBX
import Derived.Test.YtldcjkddalmkcaaVQ
namespace Go.Proofs.Ytldcjkddalmkcaa
open Go.ChangeShapes Go.WideShapes Go.ChangeAt Go.RowKit

/-- A post that no panic meets. -/
def noP (Q : Exit → Act → World → Prop) : Exit → Act → World → Prop := fun e a w => match e with
  | .panic _ => False
  | e => Q e a w
theorem noP_of {Q : Exit → Act → World → Prop} : ∀ e a w, noP Q e a w → Q e a w := fun e a w h => by
  cases e <;> first | exact h | exact h.elim
theorem wpList_append_runE {ops : Array Oper} {rest : List Oper} {o : Oper} {a : Act} {w w' : World} {Q : Exit → Act → World → Prop} {T : TypeId} {vs vx v' : Value} (hgd : o.guard = none) (s x : Operand) (ho : o.op = .call { callee := .builtin .append, args := #[s, x], argTypes := #[T, T] }) (hs : a.eval s = vs) (hx : a.eval x = vx) (hr : ∀ ty, (Builtin.append_ #[T, T] ty #[vs, vx]).run Try.prog w = .ok v' w') (h : wpList Try.prog ops Q rest (a.put o.dst v') w') : wpList Try.prog ops Q (o :: rest) a w :=
  wpList_plain hgd fun K hK => by
    unfold Oper.wp execOp
    simp only [ho, resolve, invoke, builtin, Sem.run_bind, Sem.run_pure, Result.andThen_ok, List.map_toArray, List.map_cons, List.map_nil, hs, hx, hr]
    exact hK _ _ h
theorem left_any {w : World} {la : Option Addr} {lc : Nat} {les : List Le} (hn : les.length ≤ 1000) (h : 0 < les.length → ∃ b o, la = some ⟨b, o, none⟩ ∧ ∀ (j : Nat) (e : Le), les[j]? = some e → ArAt w b (o + j * 4) e.x e.uv e.vv) :
    ∃ v' w', (∀ ty, (Builtin.append_ #[23, 23] ty #[.slice none 0 0, .slice la les.length lc]).run Try.prog w = .ok v' w') ∧ Fr [] w w' ∧ (0 < les.length → ∃ g c cur, Left w' v' les g c cur) ∧ ∃ a c, v' = .slice a les.length c := by
  by_cases h0 : 0 < les.length
  · obtain ⟨b, o, rfl, h2⟩ := h h0
    obtain ⟨v', w', g, c, cur, h3, h4, h5⟩ := left_new (lc := lc) h0 hn h2
    exact ⟨v', w', h3, h5, fun _ => ⟨g, c, cur, h4⟩, _, _, h4.val⟩
  · have hz : les.length = 0 := by omega
    rw [hz]
    cases la with
    | none =>
      refine ⟨.slice none 0 0, w, fun ty => ?_, Fr.refl _ _, fun h => by omega, _, _, rfl⟩
      simp [Builtin.append_, Builtin.firstCells, go_sem]
    | some a =>
      refine ⟨.slice none 0 0, w, fun ty => ?_, Fr.refl _ _, fun h => by omega, _, _, rfl⟩
      simp [Builtin.append_, Builtin.firstCells, go_sem]
/-- What the loop of puts has in hand. -/
structure AnS (w wr : World) (T ta tb : Nat) (Ha Hb : List Nat) (les : List Le) (v7 : Value) (i : Nat) : Prop where
  st : ∃ ea eb l, Two w wr T ta tb Ha Hb ea eb (2 * i) ∧ (0 < l.length → ∃ g c cur, Left wr v7 l g c cur) ∧ l.length + i = les.length ∧ (∀ e ∈ l, e ∈ les) ∧
    ∃ db, (db ++ l.map Le.x).Perm (les.map Le.x) ∧ (ND (les.map Le.x) → Holds ea ((les.map Le.x).take i)) ∧ (ND (les.map Le.x) → Holds eb db)
  nd : ∀ p q, p < q → q < i → ∀ x y, (les.map Le.x)[p]? = some x → (les.map Le.x)[q]? = some y → ¬ (x.u = y.u ∧ x.s = y.s ∧ x.k = y.k)

set_option maxRecDepth 20000 in
set_option maxHeartbeats 8000000 in
theorem any_walk (w : World) {la na : Option Addr} {lc nn nc : Nat} {Y : Nat → Int} {ls : List Ar} (hE : Ents w la ls) (hl : ls.length ≤ 9223372036854775807) (hI : Ints w na nn Y) (hnn : nn ≤ 9223372036854775807) :
    Calls Try.prog 4 #[.slice la ls.length lc, .slice na nn nc] w fun e w' => e = .returned (.bool true) ∧ Fr [] w w' := by
  obtain ⟨les, hles, hcs⟩ := ents_le hE
  have HE := hid hE
  have HI := hid hI
  have HCS := hid hcs
  clear hE hI hcs
  refine callsIn_wide.1 (callsIn_of_wp_marks (n := 5) Try.func4 rfl trivial (wpIn_mono (wpIn_wide.2 ?_) noP_of) rfl)
  simp only [Try.ntmps4, List.size_toArray, List.length_cons, List.length_nil, Nat.reduceAdd, Nat.reduceSub, Array.replicate_succ, Array.replicate_zero, List.push_toArray, List.append_toArray, List.nil_append, List.cons_append]
  rcases hf : fewB ls with _ | _
  · have HF := hid hf
    clear hf
    go_wp2_with (first | (go_at_call 7; refine (known_c w).mono ?_; rintro e w1 ⟨rfl, f1⟩) | (go_at_call 8; refine (few_c w1 (fun h => by obtain ⟨b, o, h1, h2⟩ := HE.out h; exact ⟨b, o, h1, fun j x hj => by obtain ⟨uv, vv, g⟩ := h2 j x hj; exact ⟨uv, vv, g.fr f1⟩⟩) hl).mono ?_; rintro e w2 ⟨rfl, rfl⟩; rw [HF.out]))
    exact ⟨_, results_tmp rfl _ _ _, rfl, f1⟩
  · have hlen := (fewB_all hf).1
    have HF := hid hf
    clear hf
    go_wp2_with (first | (go_at_call 7; refine (known_c w).mono ?_; rintro e w1 ⟨rfl, f1⟩) | (go_at_call 8; refine (few_c w1 (fun h => by obtain ⟨b, o, h1, h2⟩ := HE.out h; exact ⟨b, o, h1, fun j x hj => by obtain ⟨uv, vv, g⟩ := h2 j x hj; exact ⟨uv, vv, g.fr f1⟩⟩) hl).mono ?_; rintro e w2 ⟨rfl, rfl⟩; rw [HF.out]))
    refine (new_c w2 (a := none) (n := 0) (c := 0) (Y := fun _ => 0) (fun h => by omega) (by omega)).mono ?_
    rintro e w3 ⟨rfl, s3⟩
    have T3 := hid s3.tb
    have F3 := hid (f1.trans s3.fr)
    have hT : w.heap.size ≤ w2.heap.size := f1.size
    have hT3 : w2.heap.size < w3.heap.size := by obtain ⟨⟨hv, h1, _⟩, _⟩ := s3; exact blk_lt h1
    rw [show hts (fun _ => 0) 0 = [] from rfl] at T3
    generalize w2.heap.size = T at *
    clear s3 f1
    go_wp2_with fail
    have I0 : Hid (Ints (w3.alloc (.cells #[.int .i64 3, .int .i64 1, .int .i64 2] 3)) (some ⟨w3.heap.size, 0, none⟩) 3 (fun r => if r = 0 then 3 else if r = 1 then 1 else 2)) := fun _ => ⟨w3.heap.size, 0, rfl, fun r hr => by
      rw [blk_cell (blk_new _ _)]
      rcases (show r = 0 ∨ r = 1 ∨ r = 2 from by omega) with rfl | rfl | rfl <;> rfl⟩
    refine (new_c _ I0.out (by omega)).mono ?_
    rintro e w4 ⟨rfl, s4⟩
    have hHb : (hts (fun r => if r = 0 then 3 else if r = 1 then 1 else 2) 3).length ≤ 1000000 := by rw [hts_len]; omega
    have T4 := hid s4.tb
    have f34 : Fr [] w3 w4 := ((Fr.refl [] w3).alloc _).trans s4.fr
    generalize hts (fun r => if r = 0 then 3 else if r = 1 then 1 else 2) 3 = Hb at T4 hHb
    have htb : (w3.alloc (.cells #[.int .i64 3, .int .i64 1, .int .i64 2] 3)).heap.size = w3.heap.size + 1 := by simp
    rw [htb] at T4 ⊢
    have W0 : Hid (Two w w4 T T (w3.heap.size + 1) [] Hb [] [] 0) := by
      refine ⟨T3.out.fr f34, T4.out.base (by omega), fun k hk hm => ?_, Nat.le_refl _, Nat.le_refl _, F3.out.trans f34⟩
      simp [bks] at hk hm
      omega
    generalize w3.heap.size + 1 = tb at *
    clear s4 I0 htb f34 T3 T4 F3 hT3
    subst hles
    obtain ⟨n, hn⟩ : ∃ n, n = (les.map Le.x).length := ⟨_, rfl⟩
    have HN := hid hn
    have HNL : Hid (les.length = n) := by unfold Hid; rw [hn, List.length_map]
    rw [← hn] at hl hlen HCS ⊢
    clear hn
    have LN := hid (left_any (les := les) (w := w4) (lc := lc) (la := la) (by have := HNL.out; omega) (fun h => by
      obtain ⟨b, o, h1, h2⟩ := HCS.out (by rw [← HNL.out]; exact h)
      exact ⟨b, o, h1, fun j e he => (h2 j e he).fr W0.out.fr⟩))
    rw [HNL.out] at LN
    obtain ⟨v7, w5, hrun, hfr5, hleft, a7, c7, hv7⟩ := LN.out
    have HRUN := hid hrun
    have HAS : Hid (AnS w w5 T T tb [] Hb les v7 0) := by
      refine ⟨⟨[], [], les, W0.out.fr' hfr5, fun h => hleft (by have := HNL.out; omega), by omega, fun e h => h, [], List.Perm.refl _, fun _ => Holds.nil, fun _ => Holds.nil⟩, fun p q _ h => by omega⟩
    subst hv7
    clear hrun hleft hfr5 LN W0
    go_upto_region 6 with fail
    apply wp_region_lit
    refine wpList_val (v := .slice la n lc) (w' := w4) rfl (by go_simp) ?_
    refine wpList_append_runE rfl _ _ rfl (by simp [Act.eval]) (by simp [Act.eval, Act.put]) HRUN.out ?_
    clear HRUN
    go_wp2_with fail
    go_loopw [7, 8] (fun v7 v8 wr => ∃ i : Nat, i ≤ n ∧ v8 = .int .i64 (i : Int) ∧ AnS w wr T T tb [] Hb les v7 i) (fun _ v8 _ => n - (intOf v8).toNat)
    case atStart => exact ⟨0, Nat.zero_le _, rfl, HAS.out⟩
    case round =>
      clear HAS
      obtain ⟨i, hi, rfl, S⟩ := hrel
      have HS := hid S
      clear S
      by_cases hlt : i < n
      · obtain ⟨ea, eb, l, tw, hlf, hli, hlin, db, hp, hha, hhb⟩ := HS.out.st
        obtain ⟨g, c, cur, L⟩ := hlf (by have := HNL.out; omega)
        have hval := L.val
        obtain ⟨m, hm⟩ : ∃ m, m = l.length := ⟨_, rfl⟩
        rw [← hm] at hval
        subst hval
        have hm0 : 0 < m := by have := HNL.out; omega
        have hm60 : m ≤ 60 := by have := HNL.out; omega
        have hcap := L.cap
        have hcmx := L.cmx
        rw [← hm] at hcap
        have HL := hid L
        have HTW := hid tw
        have HM := hid hm
        have HLI := hid hli
        have HLIN := hid hlin
        have HP := hid hp
        have HHA := hid hha
        have HHB := hid hhb
        clear L tw hlf hli hlin hp hha hhb hm
        have HLK : Hid (∀ e ∈ les, LeOk w e) := fun e he => by
          obtain ⟨b, o, _, h2⟩ := HCS.out (by omega)
          obtain ⟨j, hj⟩ := List.getElem?_of_mem he
          exact (h2 j e hj).le
        by_cases hin : i < nn
        · obtain ⟨nb, no, rfl, hic⟩ := HI.out (by omega)
          have ci := cell_fr HTW.out.fr (hic i hin)
          obtain ⟨y, hy⟩ : ∃ y, y = Y i := ⟨_, rfl⟩
          rw [← hy] at ci
          obtain ⟨r1, hr1⟩ : ∃ r1, Int.tmod y (m : Int) = r1 := ⟨_, rfl⟩
          have hb1 : r1 < (m : Int) := by rw [← hr1]; exact Int.tmod_lt_of_pos _ (by omega)
          have hb2 : -(m : Int) < r1 := by
            have h1 := Int.natAbs_tmod y (m : Int)
            have h2 : y.natAbs % (m : Int).natAbs < (m : Int).natAbs := Nat.mod_lt _ (by omega)
            rw [hr1] at h1
            omega
          obtain ⟨at', hat⟩ : ∃ at' : Nat, (r1 + (m : Int)) % (m : Int) = (at' : Int) := ⟨((r1 + (m : Int)) % (m : Int)).toNat, by rw [Int.toNat_of_nonneg (Int.emod_nonneg _ (by omega))]⟩
          have hat2 : Int.tmod (r1 + (m : Int)) (m : Int) = (at' : Int) := by rw [Int.tmod_eq_emod_of_nonneg (by omega)]; exact hat
          have hal : at' < m := by have := Int.emod_lt_of_pos (r1 + (m : Int)) (b := (m : Int)) (by omega); omega
          have hmz : ¬ (m : Int) = 0 := by omega
          have hmz' : ((m : Int) == 0) = false := beq_eq_false_iff_ne.2 (by omega)
          have hw1 : IntKind.i64.wrap r1 = r1 := by rw [IntKind.wrap_i64]; omega
          have hw3 : IntKind.i64.wrap (at' : Int) = (at' : Int) := by rw [IntKind.wrap_i64]; omega
          clear hy
          obtain ⟨e, he⟩ : ∃ e, l[at']? = some e := ⟨_, List.getElem?_eq_getElem (by rw [← HM.out]; exact hal)⟩
          have q0 := HL.out.cell he (i := 0) (by omega)
          have q1 := HL.out.cell he (i := 1) (by omega)
          have q2 := HL.out.cell he (i := 2) (by omega)
          have q3 := HL.out.cell he (i := 3) (by omega)
          have hok := HLK.out e (HLIN.out e (List.mem_of_getElem? he))
          obtain ⟨ua, uc, hue⟩ := hok.ru.form
          obtain ⟨va, vc, hve⟩ := hok.rv.form
          rw [bv_len] at hue hve
          rw [hue] at q0
          rw [hve] at q1
          simp at q0 q1 q2 q3
          have HOK := hid hok
          have HUE := hid hue
          have HVE := hid hve
          have HEL := hid he
          clear hok hue hve he
          have FA : Hid (Fr [] wr (wr.alloc (.cells #[.slice ua e.x.u.length uc, .slice va e.x.v.length vc, .int .u64 (e.x.s : Int), .int .i64 e.x.k] 33))) := (Fr.refl _ _).alloc _
          have BE : Hid ((wr.alloc (.cells #[.slice ua e.x.u.length uc, .slice va e.x.v.length vc, .int .u64 (e.x.s : Int), .int .i64 e.x.k] 33)).heap[wr.heap.size]? = some (.cells #[.slice ua e.x.u.length uc, .slice va e.x.v.length vc, .int .u64 (e.x.s : Int), .int .i64 e.x.k] 33 (0, 0))) := blk_new _ _
          go_upto_region 14 with fail
          generalize wr.alloc (.cells #[.slice ua e.x.u.length uc, .slice va e.x.v.length vc, .int .u64 (e.x.s : Int), .int .i64 e.x.k] 33) = W1 at FA BE ⊢
          clear q0 q1 q2 q3
          obtain ⟨A, hA, hA2⟩ : ∃ A : Addr, (if c = at' + 1 then some (⟨g, 0, none⟩ : Addr) else some ⟨g, (at' + 1) * 4, none⟩) = some A ∧ (at' + 1 < l.length → A = ⟨g, (at' + 1) * 4, none⟩) := by
            have := HM.out
            by_cases h : c = at' + 1
            · exact ⟨_, if_pos h, fun h2 => by omega⟩
            · exact ⟨_, if_neg h, fun _ => rfl⟩
          have W1d := hid (FA.out.trans (Fr.refl [] W1).drew)
          obtain ⟨v9, w9, g9, c9, cur9, hrun9, L9, f9⟩ := left_cut (HL.out.fr W1d.out) (by have := HM.out; omega) (at' := at') (by rw [← HM.out]; exact hal) A hA2
          rw [← HM.out] at hrun9
          have HRUN9 := hid hrun9
          have hm1 : at' + 1 ≤ m := by omega
          have hm2 : ¬ (m : Int) < (at' : Int) + 1 := by omega
          have hm3 : ¬ (c : Int) < (at' : Int) := by omega
          have hm4 : ¬ c < at' := by omega
          have hm5 : at' ≤ c := by omega
          have hm6 : (at' : Int) + 1 ≤ (m : Int) := by omega
          have hm7 : IntKind.i64.wrap ((at' : Int) + 1) = (at' : Int) + 1 := by rw [IntKind.wrap_i64]; omega
          have hm8 : ¬ (at' : Int) + 1 < 0 := by omega
          clear hrun9 hA2
          refine wp_region_held_drew (S := fun _ => True) (by kernel_rfl) trivial (fun _ => ?_)
          refine wpAnyH_take (i := 0) (v := .slice (some ⟨g, 0, none⟩) m c) rfl (by kernel_rfl) (by kernel_rfl) (by kernel_rfl) (fun _ _ _ h => h) (.inl ⟨by rfl, fun wx _ => by go_simp⟩) trivial ?_
          simp only [Act.put]
          refine wpAnyH_take (i := 1) (v := .int .i64 (at' : Int)) rfl (by kernel_rfl) (by kernel_rfl) (by kernel_rfl) (fun _ _ _ h => h) (.inl ⟨by rfl, fun wx _ => by go_simp⟩) trivial ?_
          simp only [Act.put]
          refine wpAnyH_take (i := 2) (v := .int .i64 (at' : Int)) rfl (by kernel_rfl) (by kernel_rfl) (by kernel_rfl) (fun _ _ _ h => h) (.inl ⟨by rfl, fun wx _ => by go_simp⟩) trivial ?_
          simp only [Act.put]
          refine wpAnyH_take (i := 3) (v := .slice (some ⟨g, 0, none⟩) at' at') rfl (by kernel_rfl) (by kernel_rfl) (by kernel_rfl) (fun _ _ _ h => h) (.inl ⟨by rfl, fun wx _ => by go_simp⟩) trivial ?_
          simp only [Act.put]
          refine wpAnyH_take (i := 4) (v := .slice (some ⟨g, 0, none⟩) m c) rfl (by kernel_rfl) (by kernel_rfl) (by kernel_rfl) (fun _ _ _ h => h) (.inl ⟨by rfl, fun wx _ => by go_simp⟩) trivial ?_
          simp only [Act.put]
          refine wpAnyH_take (i := 5) (v := .int .i64 (at' : Int)) rfl (by kernel_rfl) (by kernel_rfl) (by kernel_rfl) (fun _ _ _ h => h) (.inl ⟨by rfl, fun wx _ => by go_simp⟩) trivial ?_
          simp only [Act.put]
          refine wpAnyH_take (i := 6) (v := .int .i64 ((at' : Int) + 1)) rfl (by kernel_rfl) (by kernel_rfl) (by kernel_rfl) (fun _ _ _ h => h) (.inl ⟨by rfl, fun wx _ => by go_simp⟩) trivial ?_
          simp only [Act.put]
          refine wpAnyH_take (i := 7) (v := .slice (if c = at' + 1 then some ⟨g, 0, none⟩ else some ⟨g, (at' + 1) * 4, none⟩) (m - (at' + 1)) (c - (at' + 1))) rfl (by kernel_rfl) (by kernel_rfl) (by kernel_rfl) (fun _ _ _ h => h) (.inl ⟨by rfl, fun wx _ => by go_simp⟩) trivial ?_
          simp only [Act.put]
          simp only [hA]
          refine wpAnyH_ready (rs := [8]) (by kernel_rfl) (by simp) ?_
          refine AllReadyH.cons rfl (fun K hK => ?_) AllReadyH.nil
          refine step_append_run rfl (.tmp 56) (.tmp 60) rfl (by simp [Act.eval]) (by simp [Act.eval]) HRUN9.out ?_
          refine hK.out _ _ trivial (fun _ => ?_)
          clear hK K
          simp only [Act.put]
          have L9' := hid L9
          have hv9 := L9.val
          have hl9 : (l.take at' ++ l.drop (at' + 1)).length + 1 = m := by
            have := HM.out
            rw [List.length_append, List.length_take, List.length_drop]; omega
          have PM : Hid ((db ++ [e.x] ++ (l.take at' ++ l.drop (at' + 1)).map Le.x).Perm (les.map Le.x)) := by
            refine List.Perm.trans ?_ HP.out
            rw [List.append_assoc]
            refine List.Perm.append_left db ?_
            have hsp : l = l.take at' ++ e :: l.drop (at' + 1) := by
              obtain ⟨h1, h2⟩ := List.getElem?_eq_some_iff.1 HEL.out
              rw [← h2, ← List.drop_eq_getElem_cons h1, List.take_append_drop]
            have h3 : (l.take at' ++ e :: l.drop (at' + 1)).map Le.x = (l.take at').map Le.x ++ e.x :: (l.drop (at' + 1)).map Le.x := by simp
            have h4 : (l.take at' ++ l.drop (at' + 1)).map Le.x = (l.take at').map Le.x ++ (l.drop (at' + 1)).map Le.x := by simp
            rw [h4]
            conv => rhs; rw [hsp, h3]
            show (e.x :: ((l.take at').map Le.x ++ (l.drop (at' + 1)).map Le.x)).Perm _
            exact (List.perm_middle).symm
          have HIN9 : Hid (∀ y ∈ l.take at' ++ l.drop (at' + 1), y ∈ les) := fun y hy => HLIN.out y (by
            rcases List.mem_append.1 hy with h | h
            · exact List.mem_of_mem_take h
            · exact List.mem_of_mem_drop h)
          have HEX : Hid (ND (les.map Le.x) → ∀ y ∈ db, ¬ (y.u = e.x.u ∧ y.s = e.x.s ∧ y.k = e.x.k)) := fun nd => by
            have := nd.perm PM.out.symm
            rw [List.append_assoc] at this
            exact this.apart
          generalize l.take at' ++ l.drop (at' + 1) = l9 at L9' hv9 hl9 PM HIN9 L9
          obtain ⟨m9, hm9⟩ : ∃ m9, m9 = l9.length := ⟨_, rfl⟩
          rw [← hm9] at hv9 hl9
          have HM9 := hid hm9
          subst hv9
          have F9 := hid (W1d.out.trans f9)
          have TW9 := hid (HTW.out.fr' F9.out)
          have BE9 := hid (f9.at (show W1.drew.heap[wr.heap.size]? = _ from BE.out) (by simp))
          clear L9 f9 W1d FA BE HRUN9 hA hm9 HL HLIN HP
          refine wpAnyH_ready (rs := [9]) (by kernel_rfl) (by simp) ?_
          refine AllReadyH.cons rfl (fun K hK => ?_) AllReadyH.nil
          go_simp
          refine hK.out _ _ trivial (fun _ => ?_)
          clear hK K
          refine wpAnyH_done (by kernel_rfl) ?_ _
          have z0 := blk_cell BE9.out 0
          have z1 := blk_cell BE9.out 1
          have z2 := blk_cell BE9.out 2
          have z3 := blk_cell BE9.out 3
          simp at z0 z1 z2 z3
          have ru9 := HOK.out.ru.fr TW9.out.fr
          have rv9 := HOK.out.rv.fr TW9.out.fr
          rw [HUE.out] at ru9
          rw [HVE.out] at rv9
          have PB := hid (put_c w9 TW9.out.b (by have := TW9.out.lb; omega) hHb ru9 HOK.out.bu e.x.s e.x.k rv9 HOK.out.bw)
          clear ru9 rv9
          go_wp2_with fail
          refine PB.out.mono ?_
          rintro r w10 ⟨rfl, f10, eb', T10, R10⟩
          have HHB' : Hid (ND (les.map Le.x) → Holds eb' (db ++ [e.x])) := fun nd => (HHB.out nd).put (HEX.out nd) R10
          have TW10 := hid (TW9.out.putB hT f10 T10 R10)
          have L10 := hid (L9'.out.step (f10.block _ (blk_lt L9'.out.blk) (TW9.out.b.notEntry L9'.out.blk)))
          generalize (pE eb e.x.u e.x.s e.x.k e.x.v : Int) = pe
          clear f10 T10 R10 PB z0 z1 z2 z3 BE9 TW9 F9 L9' HHB HEX HOK HUE HVE HEL HTW
          obtain ⟨b, o, hlab, hat0⟩ := HCS.out (by omega)
          subst hlab
          obtain ⟨ei, hei⟩ : ∃ ei, les[i]? = some ei := ⟨_, List.getElem?_eq_getElem (by rw [HNL.out]; exact hlt)⟩
          have GI := hid (hat0 i ei hei)
          have HAT := hid hat0
          have HEI := hid hei
          have HDF := HS.out.nd
          have HNDI := hid HDF
          clear hat0 hei HDF HS
          go_wp2_with fail
          go_loopw [11] (fun v11 wr => ∃ k : Nat, k ≤ i ∧ v11 = .int .i64 (k : Int) ∧ Fr [] w10 wr ∧ ∀ p, p < k → ∀ y : Le, les[p]? = some y → ¬ (y.x.u = ei.x.u ∧ y.x.s = ei.x.s ∧ y.x.k = ei.x.k)) (fun v11 _ => i - (intOf v11).toNat)
          case atStart => exact ⟨0, Nat.zero_le _, rfl, Fr.refl _ _, fun p hp => by omega⟩
          case round =>
            obtain ⟨k, hk, rfl, hf, hdf⟩ := hrel
            have HFk := hid hf
            have HDk := hid hdf
            have hlaw := GI.out.fr (TW10.out.fr.trans hf)
            obtain ⟨ia, ic, ja, jc, hiu, hiv⟩ := ar_slices hlaw
            have GIk := hid hlaw
            rw [hiu, hiv] at GIk
            clear hf hdf hlaw
            by_cases hki : k < i
            · obtain ⟨ek, hek⟩ : ∃ ek, les[k]? = some ek := ⟨_, List.getElem?_eq_getElem (by have := HNL.out; omega)⟩
              have gk0 := (HAT.out k ek hek).fr (TW10.out.fr.trans HFk.out)
              obtain ⟨ka, kc, va2, vc2, hku, hkv⟩ := ar_slices gk0
              have GKk := hid gk0
              rw [hku, hkv] at GKk
              have c0 := GIk.out.c0
              have c2 := GIk.out.c2
              have c3 := GIk.out.c3
              have d0 := GKk.out.c0
              have d2 := GKk.out.c2
              have d3 := GKk.out.c3
              have BQ := hid fun m : Nat => refbytes_q (GKk.out.ru.fr ((Fr.refl [] wr).drewN m)) (GIk.out.ru.fr ((Fr.refl [] wr).drewN m)) GKk.out.bu GIk.out.bu GKk.out.lu GIk.out.lu
              obtain ⟨cm, hcm⟩ : ∃ cm, cm = cmpN ek.x.u ei.x.u := ⟨_, rfl⟩
              rw [← hcm] at BQ
              have HCM := hid hcm
              have HEK := hid hek
              have HSAME : Hid (¬ (ek.x.u = ei.x.u ∧ ek.x.s = ei.x.s ∧ ek.x.k = ei.x.k) → ∀ p, p < k + 1 → ∀ y : Le, les[p]? = some y → ¬ (y.x.u = ei.x.u ∧ y.x.s = ei.x.s ∧ y.x.k = ei.x.k)) := fun hne p hp y hy => by
                by_cases h : p = k
                · subst h; rw [HEK.out] at hy; cases hy; exact hne
                · exact HDk.out p (by omega) y hy
              have hkil : (k : Int) < (n : Int) := by omega
              clear gk0 hku hkv hek hcm hiu hiv
              by_cases h0 : cm = 0
              · have e0 : (cm == 0) = true := by simpa using h0
                have hu0 : Hid (ek.x.u = ei.x.u) := (cmpN_eq _ _).1 (by rw [← HCM.out]; exact h0)
                clear h0
                by_cases h1 : ek.x.s = ei.x.s
                · have e1 : ((ek.x.s : Int) == (ei.x.s : Int)) = true := by simp; omega
                  by_cases h2 : ek.x.k = ei.x.k
                  · have e2 : (ek.x.k == ei.x.k) = true := by simpa using h2
                    clear h1 h2
                    go_wp2_with fail
                    go_quiet ((go_at_call 26; exact Calls.quiet_of (BQ.out _)))
                    go_wp2
                    exact ⟨_, results_tmp rfl _ _ _, rfl, (TW10.out.fr.trans HFk.out).drewN _⟩
                  · have e2 : (ek.x.k == ei.x.k) = false := by simpa using h2
                    have HN1 := hid (HSAME.out fun h => h2 h.2.2)
                    clear h1 h2
                    go_wp2_with fail
                    go_quiet ((go_at_call 26; exact Calls.quiet_of (BQ.out _)))
                    go_wp2
                    go_roundw
                    case rel => exact ⟨k + 1, by omega, by go_num, HFk.out.drewN _, HN1.out⟩
                    case measure => simp [intOf]; omega
                · have e1 : ((ek.x.s : Int) == (ei.x.s : Int)) = false := beq_eq_false_iff_ne.2 (by omega)
                  have HN1 := hid (HSAME.out fun h => h1 h.2.1)
                  clear h1
                  go_wp2_with fail
                  go_quiet ((go_at_call 26; exact Calls.quiet_of (BQ.out _)))
                  go_wp2
                  go_roundw
                  case rel => exact ⟨k + 1, by omega, by go_num, HFk.out.drewN _, HN1.out⟩
                  case measure => simp [intOf]; omega
              · have e0 : (cm == 0) = false := by simpa using h0
                have HN1 := hid (HSAME.out fun h => h0 (by rw [HCM.out]; exact (cmpN_eq _ _).2 h.1))
                clear h0
                go_wp2_with fail
                go_quiet ((go_at_call 26; exact Calls.quiet_of (BQ.out _)))
                go_wp2
                go_roundw
                case rel => exact ⟨k + 1, by omega, by go_num, HFk.out.drewN _, HN1.out⟩
                case measure => simp [intOf]; omega
            · have hkk : k = i := by omega
              subst hkk
              obtain ⟨ua2, uc2, va3, vc3, hiu2, hiv2⟩ := ar_slices GI.out
              have HGI := hid GI.out
              rw [hiu2, hiv2] at HGI
              have SK : Hid (∀ w', Fr [] w w' → w'.cell? ⟨b, o + k * 4, none⟩ = some (.slice ua2 ei.x.u.length uc2) ∧ w'.cell? ⟨b, o + k * 4 + 1, none⟩ = some (.slice va3 ei.x.v.length vc3) ∧ w'.cell? ⟨b, o + k * 4 + 2, none⟩ = some (.int .u64 (ei.x.s : Int)) ∧ w'.cell? ⟨b, o + k * 4 + 3, none⟩ = some (.int .i64 ei.x.k)) := fun w' f => ⟨(HGI.out.fr f).c0, (HGI.out.fr f).c1, (HGI.out.fr f).c2, (HGI.out.fr f).c3⟩
              have TWd := hid (TW10.out.fr' HFk.out.drew)
              have Ld := hid (L10.out.fr HFk.out.drew)
              have PC := hid (put_c wr.drew TWd.out.a (by have := TWd.out.la; omega) (by simp) (HGI.out.fr TWd.out.fr).ru HGI.out.bu ei.x.s ei.x.k (HGI.out.fr TWd.out.fr).rv HGI.out.bv')
              clear hiu2 hiv2 hiu hiv GIk
              go_upto_region 21 with fail
              refine wp_region_held_drew (S := fun w' => w'.cell? ⟨b, o + k * 4, none⟩ = some (.slice ua2 ei.x.u.length uc2) ∧ w'.cell? ⟨b, o + k * 4 + 1, none⟩ = some (.slice va3 ei.x.v.length vc3) ∧ w'.cell? ⟨b, o + k * 4 + 2, none⟩ = some (.int .u64 (ei.x.s : Int)) ∧ w'.cell? ⟨b, o + k * 4 + 3, none⟩ = some (.int .i64 ei.x.k)) (by kernel_rfl) (SK.out _ TWd.out.fr) (fun hS => ?_)
              refine wpAnyH_take (i := 0) (v := .pointer (some ⟨T, 0, none⟩)) rfl (by kernel_rfl) (by kernel_rfl) (by kernel_rfl) (fun _ _ _ h => h) (.inl ⟨by rfl, fun wx _ => by go_simp⟩) hS ?_
              simp only [Act.put]
              refine wpAnyH_take (i := 1) (v := .slice (some ⟨b, o, none⟩) n lc) rfl (by kernel_rfl) (by kernel_rfl) (by kernel_rfl) (fun _ _ _ h => h) (.inl ⟨by rfl, fun wx _ => by go_simp⟩) hS ?_
              simp only [Act.put]
              refine wpAnyH_take (i := 2) (v := .int .i64 (k : Int)) rfl (by kernel_rfl) (by kernel_rfl) (by kernel_rfl) (fun _ _ _ h => h) (.inl ⟨by rfl, fun wx _ => by go_simp⟩) hS ?_
              simp only [Act.put]
              refine wpAnyH_take (i := 3) (v := .pointer (some ⟨b, o + k * 4, none⟩)) rfl (by kernel_rfl) (by kernel_rfl) (by kernel_rfl) (fun _ _ _ h => h) (.inl ⟨by rfl, fun wx _ => by go_simp⟩) hS ?_
              simp only [Act.put]
              refine wpAnyH_take (i := 4) (v := .pointer (some ⟨b, o + k * 4, none⟩)) rfl (by kernel_rfl) (by kernel_rfl) (by kernel_rfl) (fun _ _ _ h => h) (.inl ⟨by rfl, fun wx _ => by go_simp⟩) hS ?_
              simp only [Act.put]
              refine wpAnyH_take (i := 5) (v := .slice ua2 ei.x.u.length uc2) rfl (by kernel_rfl) (by kernel_rfl) (by kernel_rfl) (fun _ _ _ h => h) (.inl ⟨by rfl, fun wx hX => by obtain ⟨x0, x1, x2, x3⟩ := hX; go_simp⟩) hS ?_
              simp only [Act.put]
              refine wpAnyH_take (i := 6) (v := .slice (some ⟨b, o, none⟩) n lc) rfl (by kernel_rfl) (by kernel_rfl) (by kernel_rfl) (fun _ _ _ h => h) (.inl ⟨by rfl, fun wx _ => by go_simp⟩) hS ?_
              simp only [Act.put]
              refine wpAnyH_take (i := 7) (v := .int .i64 (k : Int)) rfl (by kernel_rfl) (by kernel_rfl) (by kernel_rfl) (fun _ _ _ h => h) (.inl ⟨by rfl, fun wx _ => by go_simp⟩) hS ?_
              simp only [Act.put]
              refine wpAnyH_take (i := 8) (v := .pointer (some ⟨b, o + k * 4, none⟩)) rfl (by kernel_rfl) (by kernel_rfl) (by kernel_rfl) (fun _ _ _ h => h) (.inl ⟨by rfl, fun wx _ => by go_simp⟩) hS ?_
              simp only [Act.put]
              refine wpAnyH_take (i := 9) (v := .pointer (some ⟨b, o + k * 4 + 2, none⟩)) rfl (by kernel_rfl) (by kernel_rfl) (by kernel_rfl) (fun _ _ _ h => h) (.inl ⟨by rfl, fun wx _ => by go_simp⟩) hS ?_
              simp only [Act.put]
              refine wpAnyH_take (i := 10) (v := .int .u64 (ei.x.s : Int)) rfl (by kernel_rfl) (by kernel_rfl) (by kernel_rfl) (fun _ _ _ h => h) (.inl ⟨by rfl, fun wx hX => by obtain ⟨x0, x1, x2, x3⟩ := hX; go_simp⟩) hS ?_
              simp only [Act.put]
              refine wpAnyH_take (i := 11) (v := .slice (some ⟨b, o, none⟩) n lc) rfl (by kernel_rfl) (by kernel_rfl) (by kernel_rfl) (fun _ _ _ h => h) (.inl ⟨by rfl, fun wx _ => by go_simp⟩) hS ?_
              simp only [Act.put]
              refine wpAnyH_take (i := 12) (v := .int .i64 (k : Int)) rfl (by kernel_rfl) (by kernel_rfl) (by kernel_rfl) (fun _ _ _ h => h) (.inl ⟨by rfl, fun wx _ => by go_simp⟩) hS ?_
              simp only [Act.put]
              refine wpAnyH_take (i := 13) (v := .pointer (some ⟨b, o + k * 4, none⟩)) rfl (by kernel_rfl) (by kernel_rfl) (by kernel_rfl) (fun _ _ _ h => h) (.inl ⟨by rfl, fun wx _ => by go_simp⟩) hS ?_
              simp only [Act.put]
              refine wpAnyH_take (i := 14) (v := .pointer (some ⟨b, o + k * 4 + 3, none⟩)) rfl (by kernel_rfl) (by kernel_rfl) (by kernel_rfl) (fun _ _ _ h => h) (.inl ⟨by rfl, fun wx _ => by go_simp⟩) hS ?_
              simp only [Act.put]
              refine wpAnyH_take (i := 15) (v := .int .i64 ei.x.k) rfl (by kernel_rfl) (by kernel_rfl) (by kernel_rfl) (fun _ _ _ h => h) (.inl ⟨by rfl, fun wx hX => by obtain ⟨x0, x1, x2, x3⟩ := hX; go_simp⟩) hS ?_
              simp only [Act.put]
              refine wpAnyH_take (i := 16) (v := .slice (some ⟨b, o, none⟩) n lc) rfl (by kernel_rfl) (by kernel_rfl) (by kernel_rfl) (fun _ _ _ h => h) (.inl ⟨by rfl, fun wx _ => by go_simp⟩) hS ?_
              simp only [Act.put]
              refine wpAnyH_take (i := 17) (v := .int .i64 (k : Int)) rfl (by kernel_rfl) (by kernel_rfl) (by kernel_rfl) (fun _ _ _ h => h) (.inl ⟨by rfl, fun wx _ => by go_simp⟩) hS ?_
              simp only [Act.put]
              refine wpAnyH_take (i := 18) (v := .pointer (some ⟨b, o + k * 4, none⟩)) rfl (by kernel_rfl) (by kernel_rfl) (by kernel_rfl) (fun _ _ _ h => h) (.inl ⟨by rfl, fun wx _ => by go_simp⟩) hS ?_
              simp only [Act.put]
              refine wpAnyH_take (i := 19) (v := .pointer (some ⟨b, o + k * 4 + 1, none⟩)) rfl (by kernel_rfl) (by kernel_rfl) (by kernel_rfl) (fun _ _ _ h => h) (.inl ⟨by rfl, fun wx _ => by go_simp⟩) hS ?_
              simp only [Act.put]
              refine wpAnyH_take (i := 20) (v := .slice va3 ei.x.v.length vc3) rfl (by kernel_rfl) (by kernel_rfl) (by kernel_rfl) (fun _ _ _ h => h) (.inl ⟨by rfl, fun wx hX => by obtain ⟨x0, x1, x2, x3⟩ := hX; go_simp⟩) hS ?_
              simp only [Act.put]
              clear hS
              refine wpAnyH_ready (rs := [21]) (by kernel_rfl) (by simp) ?_
              refine AllReadyH.cons rfl (fun K hK => ?_) AllReadyH.nil
              go_simp
              refine PC.out.mono ?_
              rintro r w12 ⟨rfl, f12, ea', T12, R12⟩
              have TW12 := hid (TWd.out.putA hT f12 T12 R12)
              have L12 := hid (Ld.out.step (f12.block _ (blk_lt Ld.out.blk) (TWd.out.a.notEntry Ld.out.blk)))
              have HHA' : Hid (ND (les.map Le.x) → Holds ea' ((les.map Le.x).take (k + 1))) := fun nd => by
                have hg : (les.map Le.x)[k]? = some ei.x := by rw [List.getElem?_map, HEI.out]; rfl
                have ht : (les.map Le.x).take (k + 1) = (les.map Le.x).take k ++ [ei.x] := by rw [List.take_add_one, hg]; rfl
                rw [ht]
                refine (HHA.out nd).put (fun y hy => ?_) R12
                obtain ⟨j, hj⟩ := List.getElem?_of_mem hy
                rw [List.getElem?_take] at hj
                split at hj
                · rw [List.getElem?_map] at hj
                  cases hq : les[j]? with
                  | none => rw [hq] at hj; cases hj
                  | some z => rw [hq] at hj; cases hj; exact HDk.out j (by omega) z hq
                · cases hj
              have HNF : Hid (∀ p q, p < q → q < k + 1 → ∀ x y, (les.map Le.x)[p]? = some x → (les.map Le.x)[q]? = some y → ¬ (x.u = y.u ∧ x.s = y.s ∧ x.k = y.k)) := fun p q hpq hq x y hx hy => by
                by_cases h : q = k
                · subst h
                  rw [List.getElem?_map, HEI.out] at hy
                  cases hy
                  rw [List.getElem?_map] at hx
                  cases hq2 : les[p]? with
                  | none => rw [hq2] at hx; cases hx
                  | some z => rw [hq2] at hx; cases hx; exact HDk.out p hpq z hq2
                · exact HNDI.out p q hpq (by omega) x y hx hy
              have HFIN : Hid (AnS w w12 T T tb [] Hb les (.slice (some ⟨g9, 0, none⟩) m9 c9) (k + 1)) := by
                refine ⟨⟨ea', eb', l9, TW12.out, fun _ => ⟨g9, c9, cur9, L12.out⟩, ?_, HIN9.out, db ++ [e.x], PM.out, HHA'.out, HHB'.out⟩, HNF.out⟩
                have := HM9.out; have := HLI.out; have := HM.out; omega
              refine hK.out _ _ (SK.out _ TW12.out.fr) (fun _ => ?_)
              clear hK K f12 T12 R12 PC
              refine wpAnyH_done (by kernel_rfl) ?_ _
              go_wp2
              go_roundw
              case rel => exact ⟨k + 1, by omega, by go_num, HFIN.out⟩
              case measure => simp [intOf]; omega
        · obtain ⟨at', hat⟩ : ∃ at' : Nat, at' = 0 := ⟨_, rfl⟩
          have hal : at' < m := by omega
          obtain ⟨e, he⟩ : ∃ e, l[at']? = some e := ⟨_, List.getElem?_eq_getElem (by rw [← HM.out]; exact hal)⟩
          have q0 := HL.out.cell he (i := 0) (by omega)
          have q1 := HL.out.cell he (i := 1) (by omega)
          have q2 := HL.out.cell he (i := 2) (by omega)
          have q3 := HL.out.cell he (i := 3) (by omega)
          have hok := HLK.out e (HLIN.out e (List.mem_of_getElem? he))
          obtain ⟨ua, uc, hue⟩ := hok.ru.form
          obtain ⟨va, vc, hve⟩ := hok.rv.form
          rw [bv_len] at hue hve
          rw [hue] at q0
          rw [hve] at q1
          simp at q0 q1 q2 q3
          have HOK := hid hok
          have HUE := hid hue
          have HVE := hid hve
          have HEL := hid he
          clear hok hue hve he
          subst hat; simp at q0 q1 q2 q3
          have FA : Hid (Fr [] wr (wr.alloc (.cells #[.slice ua e.x.u.length uc, .slice va e.x.v.length vc, .int .u64 (e.x.s : Int), .int .i64 e.x.k] 33))) := (Fr.refl _ _).alloc _
          have BE : Hid ((wr.alloc (.cells #[.slice ua e.x.u.length uc, .slice va e.x.v.length vc, .int .u64 (e.x.s : Int), .int .i64 e.x.k] 33)).heap[wr.heap.size]? = some (.cells #[.slice ua e.x.u.length uc, .slice va e.x.v.length vc, .int .u64 (e.x.s : Int), .int .i64 e.x.k] 33 (0, 0))) := blk_new _ _
          go_upto_region 14 with fail
          generalize wr.alloc (.cells #[.slice ua e.x.u.length uc, .slice va e.x.v.length vc, .int .u64 (e.x.s : Int), .int .i64 e.x.k] 33) = W1 at FA BE ⊢
          clear q0 q1 q2 q3
          obtain ⟨A, hA, hA2⟩ : ∃ A : Addr, (if c = 1 then some (⟨g, 0, none⟩ : Addr) else some ⟨g, 4, none⟩) = some A ∧ (1 < l.length → A = ⟨g, (0 + 1) * 4, none⟩) := by
            have := HM.out
            by_cases h : c = 1
            · exact ⟨_, if_pos h, fun h2 => by omega⟩
            · exact ⟨_, if_neg h, fun _ => rfl⟩
          have W1d := hid (FA.out.trans (Fr.refl [] W1).drew)
          obtain ⟨v9, w9, g9, c9, cur9, hrun9, L9, f9⟩ := left_cut (HL.out.fr W1d.out) (by have := HM.out; omega) (at' := 0) (by rw [← HM.out]; exact hal) A hA2
          rw [← HM.out] at hrun9
          have HRUN9 := hid hrun9
          have hm1 : 1 ≤ m := by omega
          have hm2 : ¬ (m : Int) < 1 := by omega
          have hm3 : ¬ (c : Int) < 0 := by omega
          have hm4 : ¬ c < 0 := by omega
          have hm5 : 0 ≤ c := by omega
          have hm6 : 1 ≤ (m : Int) := by omega
          have hm7 : IntKind.i64.wrap (1) = 1 := by rw [IntKind.wrap_i64]; omega
          have hm8 : ¬ 1 < 0 := by omega
          clear hrun9 hA2
          refine wp_region_held_drew (S := fun _ => True) (by kernel_rfl) trivial (fun _ => ?_)
          refine wpAnyH_take (i := 0) (v := .slice (some ⟨g, 0, none⟩) m c) rfl (by kernel_rfl) (by kernel_rfl) (by kernel_rfl) (fun _ _ _ h => h) (.inl ⟨by rfl, fun wx _ => by go_simp⟩) trivial ?_
          simp only [Act.put]
          refine wpAnyH_take (i := 1) (v := .int .i64 0) rfl (by kernel_rfl) (by kernel_rfl) (by kernel_rfl) (fun _ _ _ h => h) (.inl ⟨by rfl, fun wx _ => by go_simp⟩) trivial ?_
          simp only [Act.put]
          refine wpAnyH_take (i := 2) (v := .int .i64 0) rfl (by kernel_rfl) (by kernel_rfl) (by kernel_rfl) (fun _ _ _ h => h) (.inl ⟨by rfl, fun wx _ => by go_simp⟩) trivial ?_
          simp only [Act.put]
          refine wpAnyH_take (i := 3) (v := .slice (some ⟨g, 0, none⟩) 0 0) rfl (by kernel_rfl) (by kernel_rfl) (by kernel_rfl) (fun _ _ _ h => h) (.inl ⟨by rfl, fun wx _ => by go_simp⟩) trivial ?_
          simp only [Act.put]
          refine wpAnyH_take (i := 4) (v := .slice (some ⟨g, 0, none⟩) m c) rfl (by kernel_rfl) (by kernel_rfl) (by kernel_rfl) (fun _ _ _ h => h) (.inl ⟨by rfl, fun wx _ => by go_simp⟩) trivial ?_
          simp only [Act.put]
          refine wpAnyH_take (i := 5) (v := .int .i64 0) rfl (by kernel_rfl) (by kernel_rfl) (by kernel_rfl) (fun _ _ _ h => h) (.inl ⟨by rfl, fun wx _ => by go_simp⟩) trivial ?_
          simp only [Act.put]
          refine wpAnyH_take (i := 6) (v := .int .i64 1) rfl (by kernel_rfl) (by kernel_rfl) (by kernel_rfl) (fun _ _ _ h => h) (.inl ⟨by rfl, fun wx _ => by go_simp⟩) trivial ?_
          simp only [Act.put]
          refine wpAnyH_take (i := 7) (v := .slice (if c = 1 then some ⟨g, 0, none⟩ else some ⟨g, 4, none⟩) (m - (1)) (c - (1))) rfl (by kernel_rfl) (by kernel_rfl) (by kernel_rfl) (fun _ _ _ h => h) (.inl ⟨by rfl, fun wx _ => by go_simp⟩) trivial ?_
          simp only [Act.put]
          simp only [hA]
          refine wpAnyH_ready (rs := [8]) (by kernel_rfl) (by simp) ?_
          refine AllReadyH.cons rfl (fun K hK => ?_) AllReadyH.nil
          refine step_append_run rfl (.tmp 56) (.tmp 60) rfl (by simp [Act.eval]) (by simp [Act.eval]) HRUN9.out ?_
          refine hK.out _ _ trivial (fun _ => ?_)
          clear hK K
          simp only [Act.put]
          have L9' := hid L9
          have hv9 := L9.val
          have hl9 : (l.take 0 ++ l.drop (1)).length + 1 = m := by
            have := HM.out
            rw [List.length_append, List.length_take, List.length_drop]; omega
          have PM : Hid ((db ++ [e.x] ++ (l.take 0 ++ l.drop (1)).map Le.x).Perm (les.map Le.x)) := by
            refine List.Perm.trans ?_ HP.out
            rw [List.append_assoc]
            refine List.Perm.append_left db ?_
            have hsp : l = l.take 0 ++ e :: l.drop (1) := by
              obtain ⟨h1, h2⟩ := List.getElem?_eq_some_iff.1 HEL.out
              rw [← h2, ← List.drop_eq_getElem_cons h1, List.take_append_drop]
            have h3 : (l.take 0 ++ e :: l.drop (1)).map Le.x = (l.take 0).map Le.x ++ e.x :: (l.drop (1)).map Le.x := by simp
            have h4 : (l.take 0 ++ l.drop (1)).map Le.x = (l.take 0).map Le.x ++ (l.drop (1)).map Le.x := by simp
            rw [h4]
            conv => rhs; rw [hsp, h3]
            show (e.x :: ((l.take 0).map Le.x ++ (l.drop (1)).map Le.x)).Perm _
            exact (List.perm_middle).symm
          have HIN9 : Hid (∀ y ∈ l.take 0 ++ l.drop (1), y ∈ les) := fun y hy => HLIN.out y (by
            rcases List.mem_append.1 hy with h | h
            · exact List.mem_of_mem_take h
            · exact List.mem_of_mem_drop h)
          have HEX : Hid (ND (les.map Le.x) → ∀ y ∈ db, ¬ (y.u = e.x.u ∧ y.s = e.x.s ∧ y.k = e.x.k)) := fun nd => by
            have := nd.perm PM.out.symm
            rw [List.append_assoc] at this
            exact this.apart
          generalize l.take 0 ++ l.drop (1) = l9 at L9' hv9 hl9 PM HIN9 L9
          obtain ⟨m9, hm9⟩ : ∃ m9, m9 = l9.length := ⟨_, rfl⟩
          rw [← hm9] at hv9 hl9
          have HM9 := hid hm9
          subst hv9
          have F9 := hid (W1d.out.trans f9)
          have TW9 := hid (HTW.out.fr' F9.out)
          have BE9 := hid (f9.at (show W1.drew.heap[wr.heap.size]? = _ from BE.out) (by simp))
          clear L9 f9 W1d FA BE HRUN9 hA hm9 HL HLIN HP
          refine wpAnyH_ready (rs := [9]) (by kernel_rfl) (by simp) ?_
          refine AllReadyH.cons rfl (fun K hK => ?_) AllReadyH.nil
          go_simp
          refine hK.out _ _ trivial (fun _ => ?_)
          clear hK K
          refine wpAnyH_done (by kernel_rfl) ?_ _
          have z0 := blk_cell BE9.out 0
          have z1 := blk_cell BE9.out 1
          have z2 := blk_cell BE9.out 2
          have z3 := blk_cell BE9.out 3
          simp at z0 z1 z2 z3
          have ru9 := HOK.out.ru.fr TW9.out.fr
          have rv9 := HOK.out.rv.fr TW9.out.fr
          rw [HUE.out] at ru9
          rw [HVE.out] at rv9
          have PB := hid (put_c w9 TW9.out.b (by have := TW9.out.lb; omega) hHb ru9 HOK.out.bu e.x.s e.x.k rv9 HOK.out.bw)
          clear ru9 rv9
          go_wp2_with fail
          refine PB.out.mono ?_
          rintro r w10 ⟨rfl, f10, eb', T10, R10⟩
          have HHB' : Hid (ND (les.map Le.x) → Holds eb' (db ++ [e.x])) := fun nd => (HHB.out nd).put (HEX.out nd) R10
          have TW10 := hid (TW9.out.putB hT f10 T10 R10)
          have L10 := hid (L9'.out.step (f10.block _ (blk_lt L9'.out.blk) (TW9.out.b.notEntry L9'.out.blk)))
          generalize (pE eb e.x.u e.x.s e.x.k e.x.v : Int) = pe
          clear f10 T10 R10 PB z0 z1 z2 z3 BE9 TW9 F9 L9' HHB HEX HOK HUE HVE HEL HTW
          obtain ⟨b, o, hlab, hat0⟩ := HCS.out (by omega)
          subst hlab
          obtain ⟨ei, hei⟩ : ∃ ei, les[i]? = some ei := ⟨_, List.getElem?_eq_getElem (by rw [HNL.out]; exact hlt)⟩
          have GI := hid (hat0 i ei hei)
          have HAT := hid hat0
          have HEI := hid hei
          have HDF := HS.out.nd
          have HNDI := hid HDF
          clear hat0 hei HDF HS
          go_wp2_with fail
          go_loopw [11] (fun v11 wr => ∃ k : Nat, k ≤ i ∧ v11 = .int .i64 (k : Int) ∧ Fr [] w10 wr ∧ ∀ p, p < k → ∀ y : Le, les[p]? = some y → ¬ (y.x.u = ei.x.u ∧ y.x.s = ei.x.s ∧ y.x.k = ei.x.k)) (fun v11 _ => i - (intOf v11).toNat)
          case atStart => exact ⟨0, Nat.zero_le _, rfl, Fr.refl _ _, fun p hp => by omega⟩
          case round =>
            obtain ⟨k, hk, rfl, hf, hdf⟩ := hrel
            have HFk := hid hf
            have HDk := hid hdf
            have hlaw := GI.out.fr (TW10.out.fr.trans hf)
            obtain ⟨ia, ic, ja, jc, hiu, hiv⟩ := ar_slices hlaw
            have GIk := hid hlaw
            rw [hiu, hiv] at GIk
            clear hf hdf hlaw
            by_cases hki : k < i
            · obtain ⟨ek, hek⟩ : ∃ ek, les[k]? = some ek := ⟨_, List.getElem?_eq_getElem (by have := HNL.out; omega)⟩
              have gk0 := (HAT.out k ek hek).fr (TW10.out.fr.trans HFk.out)
              obtain ⟨ka, kc, va2, vc2, hku, hkv⟩ := ar_slices gk0
              have GKk := hid gk0
              rw [hku, hkv] at GKk
              have c0 := GIk.out.c0
              have c2 := GIk.out.c2
              have c3 := GIk.out.c3
              have d0 := GKk.out.c0
              have d2 := GKk.out.c2
              have d3 := GKk.out.c3
              have BQ := hid fun m : Nat => refbytes_q (GKk.out.ru.fr ((Fr.refl [] wr).drewN m)) (GIk.out.ru.fr ((Fr.refl [] wr).drewN m)) GKk.out.bu GIk.out.bu GKk.out.lu GIk.out.lu
              obtain ⟨cm, hcm⟩ : ∃ cm, cm = cmpN ek.x.u ei.x.u := ⟨_, rfl⟩
              rw [← hcm] at BQ
              have HCM := hid hcm
              have HEK := hid hek
              have HSAME : Hid (¬ (ek.x.u = ei.x.u ∧ ek.x.s = ei.x.s ∧ ek.x.k = ei.x.k) → ∀ p, p < k + 1 → ∀ y : Le, les[p]? = some y → ¬ (y.x.u = ei.x.u ∧ y.x.s = ei.x.s ∧ y.x.k = ei.x.k)) := fun hne p hp y hy => by
                by_cases h : p = k
                · subst h; rw [HEK.out] at hy; cases hy; exact hne
                · exact HDk.out p (by omega) y hy
              have hkil : (k : Int) < (n : Int) := by omega
              clear gk0 hku hkv hek hcm hiu hiv
              by_cases h0 : cm = 0
              · have e0 : (cm == 0) = true := by simpa using h0
                have hu0 : Hid (ek.x.u = ei.x.u) := (cmpN_eq _ _).1 (by rw [← HCM.out]; exact h0)
                clear h0
                by_cases h1 : ek.x.s = ei.x.s
                · have e1 : ((ek.x.s : Int) == (ei.x.s : Int)) = true := by simp; omega
                  by_cases h2 : ek.x.k = ei.x.k
                  · have e2 : (ek.x.k == ei.x.k) = true := by simpa using h2
                    clear h1 h2
                    go_wp2_with fail
                    go_quiet ((go_at_call 26; exact Calls.quiet_of (BQ.out _)))
                    go_wp2
                    exact ⟨_, results_tmp rfl _ _ _, rfl, (TW10.out.fr.trans HFk.out).drewN _⟩
                  · have e2 : (ek.x.k == ei.x.k) = false := by simpa using h2
                    have HN1 := hid (HSAME.out fun h => h2 h.2.2)
                    clear h1 h2
                    go_wp2_with fail
                    go_quiet ((go_at_call 26; exact Calls.quiet_of (BQ.out _)))
                    go_wp2
                    go_roundw
                    case rel => exact ⟨k + 1, by omega, by go_num, HFk.out.drewN _, HN1.out⟩
                    case measure => simp [intOf]; omega
                · have e1 : ((ek.x.s : Int) == (ei.x.s : Int)) = false := beq_eq_false_iff_ne.2 (by omega)
                  have HN1 := hid (HSAME.out fun h => h1 h.2.1)
                  clear h1
                  go_wp2_with fail
                  go_quiet ((go_at_call 26; exact Calls.quiet_of (BQ.out _)))
                  go_wp2
                  go_roundw
                  case rel => exact ⟨k + 1, by omega, by go_num, HFk.out.drewN _, HN1.out⟩
                  case measure => simp [intOf]; omega
              · have e0 : (cm == 0) = false := by simpa using h0
                have HN1 := hid (HSAME.out fun h => h0 (by rw [HCM.out]; exact (cmpN_eq _ _).2 h.1))
                clear h0
                go_wp2_with fail
                go_quiet ((go_at_call 26; exact Calls.quiet_of (BQ.out _)))
                go_wp2
                go_roundw
                case rel => exact ⟨k + 1, by omega, by go_num, HFk.out.drewN _, HN1.out⟩
                case measure => simp [intOf]; omega
            · have hkk : k = i := by omega
              subst hkk
              obtain ⟨ua2, uc2, va3, vc3, hiu2, hiv2⟩ := ar_slices GI.out
              have HGI := hid GI.out
              rw [hiu2, hiv2] at HGI
              have SK : Hid (∀ w', Fr [] w w' → w'.cell? ⟨b, o + k * 4, none⟩ = some (.slice ua2 ei.x.u.length uc2) ∧ w'.cell? ⟨b, o + k * 4 + 1, none⟩ = some (.slice va3 ei.x.v.length vc3) ∧ w'.cell? ⟨b, o + k * 4 + 2, none⟩ = some (.int .u64 (ei.x.s : Int)) ∧ w'.cell? ⟨b, o + k * 4 + 3, none⟩ = some (.int .i64 ei.x.k)) := fun w' f => ⟨(HGI.out.fr f).c0, (HGI.out.fr f).c1, (HGI.out.fr f).c2, (HGI.out.fr f).c3⟩
              have TWd := hid (TW10.out.fr' HFk.out.drew)
              have Ld := hid (L10.out.fr HFk.out.drew)
              have PC := hid (put_c wr.drew TWd.out.a (by have := TWd.out.la; omega) (by simp) (HGI.out.fr TWd.out.fr).ru HGI.out.bu ei.x.s ei.x.k (HGI.out.fr TWd.out.fr).rv HGI.out.bv')
              clear hiu2 hiv2 hiu hiv GIk
              go_upto_region 21 with fail
              refine wp_region_held_drew (S := fun w' => w'.cell? ⟨b, o + k * 4, none⟩ = some (.slice ua2 ei.x.u.length uc2) ∧ w'.cell? ⟨b, o + k * 4 + 1, none⟩ = some (.slice va3 ei.x.v.length vc3) ∧ w'.cell? ⟨b, o + k * 4 + 2, none⟩ = some (.int .u64 (ei.x.s : Int)) ∧ w'.cell? ⟨b, o + k * 4 + 3, none⟩ = some (.int .i64 ei.x.k)) (by kernel_rfl) (SK.out _ TWd.out.fr) (fun hS => ?_)
              refine wpAnyH_take (i := 0) (v := .pointer (some ⟨T, 0, none⟩)) rfl (by kernel_rfl) (by kernel_rfl) (by kernel_rfl) (fun _ _ _ h => h) (.inl ⟨by rfl, fun wx _ => by go_simp⟩) hS ?_
              simp only [Act.put]
              refine wpAnyH_take (i := 1) (v := .slice (some ⟨b, o, none⟩) n lc) rfl (by kernel_rfl) (by kernel_rfl) (by kernel_rfl) (fun _ _ _ h => h) (.inl ⟨by rfl, fun wx _ => by go_simp⟩) hS ?_
              simp only [Act.put]
              refine wpAnyH_take (i := 2) (v := .int .i64 (k : Int)) rfl (by kernel_rfl) (by kernel_rfl) (by kernel_rfl) (fun _ _ _ h => h) (.inl ⟨by rfl, fun wx _ => by go_simp⟩) hS ?_
              simp only [Act.put]
              refine wpAnyH_take (i := 3) (v := .pointer (some ⟨b, o + k * 4, none⟩)) rfl (by kernel_rfl) (by kernel_rfl) (by kernel_rfl) (fun _ _ _ h => h) (.inl ⟨by rfl, fun wx _ => by go_simp⟩) hS ?_
              simp only [Act.put]
              refine wpAnyH_take (i := 4) (v := .pointer (some ⟨b, o + k * 4, none⟩)) rfl (by kernel_rfl) (by kernel_rfl) (by kernel_rfl) (fun _ _ _ h => h) (.inl ⟨by rfl, fun wx _ => by go_simp⟩) hS ?_
              simp only [Act.put]
              refine wpAnyH_take (i := 5) (v := .slice ua2 ei.x.u.length uc2) rfl (by kernel_rfl) (by kernel_rfl) (by kernel_rfl) (fun _ _ _ h => h) (.inl ⟨by rfl, fun wx hX => by obtain ⟨x0, x1, x2, x3⟩ := hX; go_simp⟩) hS ?_
              simp only [Act.put]
              refine wpAnyH_take (i := 6) (v := .slice (some ⟨b, o, none⟩) n lc) rfl (by kernel_rfl) (by kernel_rfl) (by kernel_rfl) (fun _ _ _ h => h) (.inl ⟨by rfl, fun wx _ => by go_simp⟩) hS ?_
              simp only [Act.put]
              refine wpAnyH_take (i := 7) (v := .int .i64 (k : Int)) rfl (by kernel_rfl) (by kernel_rfl) (by kernel_rfl) (fun _ _ _ h => h) (.inl ⟨by rfl, fun wx _ => by go_simp⟩) hS ?_
              simp only [Act.put]
              refine wpAnyH_take (i := 8) (v := .pointer (some ⟨b, o + k * 4, none⟩)) rfl (by kernel_rfl) (by kernel_rfl) (by kernel_rfl) (fun _ _ _ h => h) (.inl ⟨by rfl, fun wx _ => by go_simp⟩) hS ?_
              simp only [Act.put]
              refine wpAnyH_take (i := 9) (v := .pointer (some ⟨b, o + k * 4 + 2, none⟩)) rfl (by kernel_rfl) (by kernel_rfl) (by kernel_rfl) (fun _ _ _ h => h) (.inl ⟨by rfl, fun wx _ => by go_simp⟩) hS ?_
              simp only [Act.put]
              refine wpAnyH_take (i := 10) (v := .int .u64 (ei.x.s : Int)) rfl (by kernel_rfl) (by kernel_rfl) (by kernel_rfl) (fun _ _ _ h => h) (.inl ⟨by rfl, fun wx hX => by obtain ⟨x0, x1, x2, x3⟩ := hX; go_simp⟩) hS ?_
              simp only [Act.put]
              refine wpAnyH_take (i := 11) (v := .slice (some ⟨b, o, none⟩) n lc) rfl (by kernel_rfl) (by kernel_rfl) (by kernel_rfl) (fun _ _ _ h => h) (.inl ⟨by rfl, fun wx _ => by go_simp⟩) hS ?_
              simp only [Act.put]
              refine wpAnyH_take (i := 12) (v := .int .i64 (k : Int)) rfl (by kernel_rfl) (by kernel_rfl) (by kernel_rfl) (fun _ _ _ h => h) (.inl ⟨by rfl, fun wx _ => by go_simp⟩) hS ?_
              simp only [Act.put]
              refine wpAnyH_take (i := 13) (v := .pointer (some ⟨b, o + k * 4, none⟩)) rfl (by kernel_rfl) (by kernel_rfl) (by kernel_rfl) (fun _ _ _ h => h) (.inl ⟨by rfl, fun wx _ => by go_simp⟩) hS ?_
              simp only [Act.put]
              refine wpAnyH_take (i := 14) (v := .pointer (some ⟨b, o + k * 4 + 3, none⟩)) rfl (by kernel_rfl) (by kernel_rfl) (by kernel_rfl) (fun _ _ _ h => h) (.inl ⟨by rfl, fun wx _ => by go_simp⟩) hS ?_
              simp only [Act.put]
              refine wpAnyH_take (i := 15) (v := .int .i64 ei.x.k) rfl (by kernel_rfl) (by kernel_rfl) (by kernel_rfl) (fun _ _ _ h => h) (.inl ⟨by rfl, fun wx hX => by obtain ⟨x0, x1, x2, x3⟩ := hX; go_simp⟩) hS ?_
              simp only [Act.put]
              refine wpAnyH_take (i := 16) (v := .slice (some ⟨b, o, none⟩) n lc) rfl (by kernel_rfl) (by kernel_rfl) (by kernel_rfl) (fun _ _ _ h => h) (.inl ⟨by rfl, fun wx _ => by go_simp⟩) hS ?_
              simp only [Act.put]
              refine wpAnyH_take (i := 17) (v := .int .i64 (k : Int)) rfl (by kernel_rfl) (by kernel_rfl) (by kernel_rfl) (fun _ _ _ h => h) (.inl ⟨by rfl, fun wx _ => by go_simp⟩) hS ?_
              simp only [Act.put]
              refine wpAnyH_take (i := 18) (v := .pointer (some ⟨b, o + k * 4, none⟩)) rfl (by kernel_rfl) (by kernel_rfl) (by kernel_rfl) (fun _ _ _ h => h) (.inl ⟨by rfl, fun wx _ => by go_simp⟩) hS ?_
              simp only [Act.put]
              refine wpAnyH_take (i := 19) (v := .pointer (some ⟨b, o + k * 4 + 1, none⟩)) rfl (by kernel_rfl) (by kernel_rfl) (by kernel_rfl) (fun _ _ _ h => h) (.inl ⟨by rfl, fun wx _ => by go_simp⟩) hS ?_
              simp only [Act.put]
              refine wpAnyH_take (i := 20) (v := .slice va3 ei.x.v.length vc3) rfl (by kernel_rfl) (by kernel_rfl) (by kernel_rfl) (fun _ _ _ h => h) (.inl ⟨by rfl, fun wx hX => by obtain ⟨x0, x1, x2, x3⟩ := hX; go_simp⟩) hS ?_
              simp only [Act.put]
              clear hS
              refine wpAnyH_ready (rs := [21]) (by kernel_rfl) (by simp) ?_
              refine AllReadyH.cons rfl (fun K hK => ?_) AllReadyH.nil
              go_simp
              refine PC.out.mono ?_
              rintro r w12 ⟨rfl, f12, ea', T12, R12⟩
              have TW12 := hid (TWd.out.putA hT f12 T12 R12)
              have L12 := hid (Ld.out.step (f12.block _ (blk_lt Ld.out.blk) (TWd.out.a.notEntry Ld.out.blk)))
              have HHA' : Hid (ND (les.map Le.x) → Holds ea' ((les.map Le.x).take (k + 1))) := fun nd => by
                have hg : (les.map Le.x)[k]? = some ei.x := by rw [List.getElem?_map, HEI.out]; rfl
                have ht : (les.map Le.x).take (k + 1) = (les.map Le.x).take k ++ [ei.x] := by rw [List.take_add_one, hg]; rfl
                rw [ht]
                refine (HHA.out nd).put (fun y hy => ?_) R12
                obtain ⟨j, hj⟩ := List.getElem?_of_mem hy
                rw [List.getElem?_take] at hj
                split at hj
                · rw [List.getElem?_map] at hj
                  cases hq : les[j]? with
                  | none => rw [hq] at hj; cases hj
                  | some z => rw [hq] at hj; cases hj; exact HDk.out j (by omega) z hq
                · cases hj
              have HNF : Hid (∀ p q, p < q → q < k + 1 → ∀ x y, (les.map Le.x)[p]? = some x → (les.map Le.x)[q]? = some y → ¬ (x.u = y.u ∧ x.s = y.s ∧ x.k = y.k)) := fun p q hpq hq x y hx hy => by
                by_cases h : q = k
                · subst h
                  rw [List.getElem?_map, HEI.out] at hy
                  cases hy
                  rw [List.getElem?_map] at hx
                  cases hq2 : les[p]? with
                  | none => rw [hq2] at hx; cases hx
                  | some z => rw [hq2] at hx; cases hx; exact HDk.out p hpq z hq2
                · exact HNDI.out p q hpq (by omega) x y hx hy
              have HFIN : Hid (AnS w w12 T T tb [] Hb les (.slice (some ⟨g9, 0, none⟩) m9 c9) (k + 1)) := by
                refine ⟨⟨ea', eb', l9, TW12.out, fun _ => ⟨g9, c9, cur9, L12.out⟩, ?_, HIN9.out, db ++ [e.x], PM.out, HHA'.out, HHB'.out⟩, HNF.out⟩
                have := HM9.out; have := HLI.out; have := HM.out; omega
              refine hK.out _ _ (SK.out _ TW12.out.fr) (fun _ => ?_)
              clear hK K f12 T12 R12 PC
              refine wpAnyH_done (by kernel_rfl) ?_ _
              go_wp2
              go_roundw
              case rel => exact ⟨k + 1, by omega, by go_num, HFIN.out⟩
              case measure => simp [intOf]; omega
      · have hin : i = n := by omega
        subst hin
        obtain ⟨ea, eb, l, tw, _, hli, _, db, hp, hha, hhb⟩ := HS.out.st
        have hl0 : l = [] := List.eq_nil_of_length_eq_zero (by have := HNL.out; omega)
        subst hl0
        have hnd : ND (les.map Le.x) := by
          unfold ND
          rw [List.pairwise_iff_getElem]
          intro p q hp hq hpq
          exact HS.out.nd p q hpq (by rw [← HN.out] at hq; exact hq) _ _ (List.getElem?_eq_getElem hp) (List.getElem?_eq_getElem hq)
        have hsame : prs ea = prs eb := same_of hha hhb hnd (by rw [HN.out, List.take_length]) (by simpa using hp) tw.a.srt tw.b.srt
        have hlen2 : eb.length = ea.length := by have := congrArg List.length hsame; unfold prs at this; rw [List.length_map, List.length_map] at this; exact this.symm
        have hsiz2 : siz eb = siz ea := by rw [siz_prs, siz_prs, hsame]
        have HTW := hid tw
        have HSAME := hid hsame
        have hla : ea.length ≤ 200 := by have := tw.la; omega
        obtain ⟨hva, Ma, Oa⟩ := tw.a.mm
        obtain ⟨hvb, Mb, Ob⟩ := tw.b.mm
        have HMA := hid Ma
        have HMB := hid Mb
        have HBYA : Hid (∀ e ∈ ea, By e.key ∧ By e.val) := fun e he => by obtain ⟨r, g⟩ := Ma.ent he; exact ⟨g.byk, g.byv⟩
        have HBYB : Hid (∀ e ∈ eb, By e.key ∧ By e.val) := fun e he => by obtain ⟨r, g⟩ := Mb.ent he; exact ⟨g.byk, g.byv⟩
        have HHA : Hid (∀ e ∈ ea, 1 ≤ e.h) := fun e he => (tw.a.hh e he).1
        have HHB : Hid (∀ e ∈ eb, 1 ≤ e.h) := fun e he => (tw.b.hh e he).1
        clear HS tw hli hp hha hhb hnd hsame Ma Mb Oa Ob HE HI HCS HF
        have HX : Hid (Fr [] wr ((wr.alloc (.cells #[.slice none 0 0] 59)).alloc (.cells #[.slice none 0 0] 59))) := ((Fr.refl _ _).alloc _).alloc _
        have HBX : Hid (((wr.alloc (.cells #[.slice none 0 0] 59)).alloc (.cells #[.slice none 0 0] 59)).heap[wr.heap.size]? = some (.cells #[.slice none 0 0] 59 (0, 0))) := by
          unfold Hid; rw [blk_old _ _ (by simp)]; exact blk_new _ _
        have HBY : Hid (((wr.alloc (.cells #[.slice none 0 0] 59)).alloc (.cells #[.slice none 0 0] 59)).heap[wr.heap.size + 1]? = some (.cells #[.slice none 0 0] 59 (0, 0))) := new_at _ _ (by simp)
        go_wp2_with fail
        refine (all_c _ T).mono ?_
        rintro e w6 ⟨cv, rfl, r6, f6⟩
        have FW6 := hid (HX.out.trans f6)
        have BX6 := hid (f6.at HBX.out (by simp))
        have BY6 := hid (f6.at HBY.out (by simp))
        have HR6 := hid r6
        obtain ⟨ca, cc, rfl⟩ := r6.form
        clear r6 f6 HX HBX HBY
        generalize hX : wr.heap.size = X at *
        rw [show (bv ([] : List Nat)).length = 0 from rfl] at HR6 ⊢
        go_wp2_with fail
        have FMA : Hid (∀ W, Fr [X] w6 W → Fr [] wr W) := fun W f => ((FW6.out.mono (by simp)).trans f).shed (fun q hq hl => by simp at hq; omega)
        have N6 : Hid (∀ W, Fr [X] w6 W → Rd W (.slice ca 0 cc) (bv [])) := fun W f => Rd.keep (ns := []) HR6.out fun q hq => f.block q hq.lt (fun hm => by
          simp at hm
          subst hm
          exact noU8 (cs := [.slice none 0 0]) BX6.out (fun c hc n => by simp at hc; subst hc; simp) hq)
        refine wp_range (gf := 39) (rcv := .agg #[.pointer (some ⟨T, 0, none⟩), .slice ca 0 cc]) (by simp [Act.eval]) (fun _ _ => rfl) rfl (Inv := fun W => Fr [X] w6 W)
          (give_gives (u := []) (fun W f => HMA.out.fr (FMA.out W f)) HHA.out N6.out (fun x h => (by cases h)) (cutU_nil ea))
          (fun k W => ∃ v, Gt w6 W X v ((prs ea).take k)) (fun _ _ => False) (AxP w6 X ea 12 14) (fun k W ⟨v, g⟩ => g.fr) (gt_own w6 X (prs ea)) (fun c => fun _ _ _ _ h _ _ => h) (fun k a' => axP_own w6 X ea 12 14 k a') ⟨_, blk_lt BX6.out, Fr.refl _ _, BX6.out, ColO.nil _ _⟩
          (fun l k W0 W1 v hk hj f en => assign_a rfl (fun d => by simp [Act.eval]) hj f en) (fun l k a' W hk A => body_a (by omega) HBYA.out A) ?_ (fun c W h => h.elim)
        rintro W7 ⟨va, g7⟩ hD7
        rw [List.take_of_length_le (by unfold prs; rw [List.length_map]; exact Nat.le_refl _)] at g7
        have G7 := hid g7
        have HD7 := hid hD7
        clear g7 hD7
        dsimp only
        go_wp2_with fail
        refine (all_c _ tb).mono ?_
        rintro e w8 ⟨cv, rfl, r8, f8⟩
        have G8 := hid (G7.out.fr' f8)
        have HD8 := hid (f8.at HD7.out (by simp))
        have BY8 := hid (f8.at (G7.out.fr.at BY6.out (by simp)) (by simp))
        have FW8 := hid ((FMA.out _ G7.out.fr).trans f8)
        have HR8 := hid r8
        have hX6 : X + 1 < w6.heap.size := blk_lt BY6.out
        obtain ⟨ca2, cc2, rfl⟩ := r8.form
        clear r8 f8 G7 HD7 FMA N6
        rw [show (bv ([] : List Nat)).length = 0 from rfl] at HR8 ⊢
        go_wp2_with fail
        have FMB : Hid (∀ W, Fr [X + 1] w8 W → Fr [] wr W) := fun W f => ((FW8.out.mono (by simp)).trans f).shed (fun q hq hl => by simp at hq; omega)
        have N8 : Hid (∀ W, Fr [X + 1] w8 W → Rd W (.slice ca2 0 cc2) (bv [])) := fun W f => Rd.keep (ns := []) HR8.out fun q hq => f.block q hq.lt (fun hm => by
          simp at hm
          subst hm
          exact noU8 (cs := [.slice none 0 0]) BY8.out (fun c hc n => by simp at hc; subst hc; simp) hq)
        refine wp_range (gf := 39) (rcv := .agg #[.pointer (some ⟨tb, 0, none⟩), .slice ca2 0 cc2]) (by simp [Act.eval]) (fun _ _ => rfl) rfl (Inv := fun W => Fr [X + 1] w8 W)
          (give_gives (u := []) (fun W f => HMB.out.fr (FMB.out W f)) HHB.out N8.out (fun x h => (by cases h)) (cutU_nil eb))
          (fun k W => ∃ v, Gt w8 W (X + 1) v ((prs eb).take k)) (fun _ _ => False) (AxP w8 (X + 1) eb 13 15) (fun k W ⟨v, g⟩ => g.fr) (gt_own w8 (X + 1) (prs eb)) (fun c => fun _ _ _ _ h _ _ => h) (fun k a' => axP_own w8 (X + 1) eb 13 15 k a') ⟨_, blk_lt BY8.out, Fr.refl _ _, BY8.out, ColO.nil _ _⟩
          (fun l k W0 W1 v hk hj f en => assign_b rfl (fun d => by simp [Act.eval]) hj f en) (fun l k a' W hk A => body_b (by omega) HBYB.out A) ?_ (fun c W h => h.elim)
        rintro W9 ⟨vb, g9⟩ hD9
        rw [List.take_of_length_le (by unfold prs; rw [List.length_map]; exact Nat.le_refl _), ← HSAME.out] at g9
        have FW9 := hid (FMB.out _ g9.fr)
        have HD89 := hid (g9.fr.at HD8.out (by simp; omega))
        have HD99 := hid hD9
        have RB := hid g9.col.rd
        have bb := blk_cell g9.box 0
        have ba := blk_cell (g9.fr.at G8.out.box (by simp)) 0
        have RA : Hid (RdK W9 va (prs ea)) := ColO.rd (B := w6.heap.size) (G8.out.col.step (fun q hq => g9.fr.block q (G8.out.col.lt q hq).2 (by have := (G8.out.col.lt q hq).1; simp; omega)) (fun q hq => by
          obtain ⟨c8, h8⟩ := hq
          refine g9.fr.block q (blk_lt h8) (fun hm => ?_)
          simp at hm
          subst hm
          rw [BY8.out] at h8
          simp at h8))
        have hps : (prs ea).length = ea.length := by unfold prs; rw [List.length_map]
        obtain ⟨va', vac, hva', _⟩ := RA.out
        obtain ⟨vb', vbc, hvb', _⟩ := RB.out
        subst hva'
        subst hvb'
        have T9 := hid (HTW.out.fr' FW9.out)
        have h68 : w6.heap.size < w8.heap.size := blk_lt HD8.out
        have hwX : w.heap.size ≤ X := by rw [← hX]; exact HTW.out.fr.size
        clear G8 HD8 BY8 FW8 HR8 FMB N8 hD9 g9 HMA HMB HBYA HBYB HHA HHB HTW HR6
        have KC := hid (kvs_c RA.out RB.out (by omega))
        clear RA RB
        simp at ba bb
        rw [hps] at KC ba bb
        dsimp only
        go_wp2_with fail
        refine KC.out.mono ?_
        rintro e w10 ⟨rfl, f10⟩
        have T10 := hid (T9.out.fr' f10)
        have D1 := hid (f10.at HD89.out (by simp))
        have D2 := hid (f10.at HD99.out (by simp))
        clear T9 KC HD89 HD99 f10 FW9 ba bb
        go_wp2_with fail
        refine (len_c _ T10.out.a).mono ?_
        rintro e w11 ⟨rfl, rfl⟩
        go_wp2_with fail
        refine (len_c _ T10.out.b).mono ?_
        rintro e w12 ⟨rfl, rfl⟩
        rw [hlen2]
        go_wp2_with fail
        refine (size_c _ T10.out.a).mono ?_
        rintro e w13 ⟨rfl, rfl⟩
        go_wp2_with fail
        refine (size_c _ T10.out.b).mono ?_
        rintro e w14 ⟨rfl, rfl⟩
        rw [hsiz2]
        go_wp2
        refine ⟨by simp, .inl ⟨_, _, rfl, run_takeDeferred D2.out, ?_⟩⟩
        refine ⟨by simp, .inl ⟨_, _, rfl, run_takeDeferred ((World.putObj_heap_other (by omega)).trans D1.out), ?_⟩⟩
        refine ⟨_, results_tmp rfl _ _ _, rfl, ?_⟩
        exact (T10.out.fr.grown (grownBy_putObj' _ _ _) (fun k e => by cases e; exact .inr (by omega))).grown (grownBy_putObj' _ _ _) (fun k e => by cases e; exact .inr (by omega))
end Go.Proofs.Ytldcjkddalmkcaa
