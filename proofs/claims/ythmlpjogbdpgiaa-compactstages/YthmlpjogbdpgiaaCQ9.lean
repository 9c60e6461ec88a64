/-
  Merge, walked.
-/
import Derived.Test.YthmlpjogbdpgiaaCP9
namespace Go.Proofs.Ythmlpjogbdpgiaa
open Go.ChangeShapes Go.WideShapes Go.ChangeAt Go.RowKit

/-- Lists of pairs that can be read. -/
def RdLL (w : World) (v : Value) (LL : List Ps) : Prop := ∃ a c, v = .slice a LL.length c ∧ LL.length ≤ c ∧ (0 < LL.length → ∃ b off, a = some ⟨b, off, none⟩ ∧ ∀ i p, LL[i]? = some p → ∃ ua uc, w.cell? ⟨b, off + i, none⟩ = some (.slice ua p.length uc) ∧ RdK w (.slice ua p.length uc) p)
theorem RdLL.fr {w w' : World} {v : Value} {LL : List Ps} (h : RdLL w v LL) (f : Fr [] w w') : RdLL w' v LL := by
  obtain ⟨a, c, e, hc, k⟩ := h
  refine ⟨a, c, e, hc, fun h0 => ?_⟩
  obtain ⟨b, off, e2, m⟩ := k h0
  refine ⟨b, off, e2, fun i p hi => ?_⟩
  obtain ⟨ua, uc, k1, k2⟩ := m i p hi
  exact ⟨ua, uc, cell_fr f k1, k2.fr f⟩
def lfM (P : Nat) (w : World) : Nat := match w.cell? ⟨P, 0, none⟩ with
  | some (.slice (some a) n _) => ((List.range n).map (fun i => lenV ((w.cell? (a.add i)).getD undef))).sum
  | _ => 0
theorem RW.mesL {w0 W : World} {P : Nat} {a : Option Addr} {c : Nat} {vs : List Value} {hs : List Ps} (h : RW w0 W P a c vs hs) : lfM P W = hs.flatten.length := by
  unfold lfM
  rw [h.cell]
  rcases Nat.eq_zero_or_pos hs.length with h0 | h0
  · have : hs = [] := List.eq_nil_of_length_eq_zero h0
    subst this
    cases a <;> simp
  · obtain ⟨g, cur, rfl, _⟩ := h.blk h0
    simp only [List.length_flatten]
    congr 1
    apply List.ext_getElem?
    intro i
    rw [List.getElem?_map, List.getElem?_map]
    by_cases hi : i < hs.length
    · rw [List.getElem?_range hi, Option.map_some]
      obtain ⟨p, hp⟩ : ∃ p, hs[i]? = some p := ⟨_, List.getElem?_eq_getElem hi⟩
      obtain ⟨v, hv, hr⟩ := h.el i p hp
      have hcl := h.own.cells (g := g) rfl _ _ hv
      obtain ⟨ea, ec, rfl, _⟩ := hr
      rw [hp, Option.map_some, hcl]; rfl
    · rw [List.getElem?_eq_none (by simp; omega), List.getElem?_eq_none (by omega)]; rfl
theorem take_oneL {LL : List Ps} {i : Nat} {p : Ps} (h : LL[i]? = some p) : LL.take (i + 1) = LL.take i ++ [p] := by
  obtain ⟨hl, he⟩ := List.getElem?_eq_some_iff.1 h
  rw [List.take_succ_eq_append_getElem hl, he]
/-- What Merge answers. -/
def MgO (w0 w' : World) (LL : List Ps) (old : Nat) (sp : Ps) (e : Ending) : Prop :=
  (∃ S v, (∀ p ∈ LL, Rises p) ∧ MgS LL.flatten S ∧ e = .returned (.tuple #[v, .int .i64 0]) ∧ ColO w' w0.heap.size v (kept old sp S S.length)) ∨
  (((∃ p ∈ LL, ¬ Rises p) ∨ ∀ S, ¬ MgS LL.flatten S) ∧ e = .returned (.tuple #[.slice none 0 0, .int .i64 101]))
/-- Blocks that stand apart. -/
structure MA (w0 : World) (P : Nat) (a : Option Addr) (U Sb O C A B R Q Kb Bk : Nat) : Prop where
  zp : w0.heap.size ≤ P
  pk : P < Kb
  ag : ∀ g, a = some ⟨g, 0, none⟩ → w0.heap.size ≤ g ∧ g < Kb ∧ g ≠ P
  hi : ∀ x ∈ [U, Sb, O, C, A, B, R], Kb ≤ x ∧ x < Bk
  q : (Kb ≤ Q ∨ Q < w0.heap.size) ∧ Q < Bk
  zk : w0.heap.size ≤ Kb
/-- Where Merge's second loop stands. -/
structure LP (w0 wr : World) (P : Nat) (a : Option Addr) (c U Sb O C A B R Q Bk old : Nat) (L sp A0 : Ps) (vs : List Value) (hs : List Ps) (T : Ps) (k : Nat) (kv : Value) (la : Option Addr) (ll lc : Nat) : Prop where
  rw : RW w0 wr P a c vs hs
  ok : OkR hs
  hb : HeapB (hk hs) hs.length
  ki : KI w0 wr U Sb O C A B R Q old L T k
  mi : MI A0 hs.flatten T
  by' : ByP T
  isk : ∀ t ∈ T, isK t.1 = true
  ck : ColO wr Bk kv (kept old sp T T.length)
  lr : Rd w0 (.slice la ll lc) (bv (lst T))
  ll' : (lst T).length = ll
  tl : T.length + hs.flatten.length = A0.length
  sz : Bk ≤ wr.heap.size
theorem wpList_appKV {w : World} {ops : Array Oper} {rest : List Oper} {o : Oper} {a : Act} {Q : Exit → Act → World → Prop} (hgd : o.guard = none) (s x : Operand)
    (ho : o.op = .call { callee := .builtin .append, args := #[s, x], argTypes := #[27, 27] }) (base : Nat) (hbase : base ≤ w.heap.size) (v : Value) (n : Nat) (xs : List Value) (hs : a.eval s = v) (hown : w.ownsRow base 50 2 v n xs) (G : Nat) (hx : a.eval x = .slice (some ⟨G, 0, none⟩) 1 1) {u0 u1 : Value} {T : TypeId} (hG : w.heap[G]? = some (.cells #[u0, u1] T (0, 0)))
    (hu : ∀ u ∈ [u0, u1], u.oneCell' = true) (hl : n ≤ 1000000000)
    (h : ∀ v' w', w'.ownsRow base 50 2 v' (n + 1) (xs ++ [u0, u1]) → w.grownBy w' v.ownBlock → wpList Try.prog ops Q rest (a.put o.dst v') w') :
    wpList Try.prog ops Q (o :: rest) a w := by
  obtain ⟨i0, hi, hz0, hz1, hz2⟩ := info_parts infoP
  exact wpList_append_own_at w hgd s x 27 ho base 50 i0 _ 2 48 Try.underlying27 hi hz0 hz1 hz2 rfl (by decide) v n xs hs hown ⟨G, 0, none⟩ 1 1 [u0, u1] hx rfl (fun j u hj => by rw [Addr.add_lit, Nat.zero_add, blk_cell hG, ← Array.getElem?_toList]; exact hj) hu (by unfold maxLen; omega) (by omega) hbase fun v' w' h1 h2 _ _ => h v' w' h1 h2
theorem kept_snoc (old : Nat) (sp T : Ps) (x : List Nat × List Nat) : kept old sp (T ++ [x]) (T ++ [x]).length = kept old sp T T.length ++ (if stay old sp (T ++ [x]) T.length then [x] else []) := by
  have e : (T ++ [x]).length = T.length + 1 := by simp
  have e2 : vA (T ++ [x]) T.length = x.2 := by unfold vA; rw [List.getElem?_append_right (Nat.le_refl _)]; simp
  rw [e, kept, kept_app old sp T [x] T.length (Nat.le_refl _), kA_last, e2]
theorem stay_perm {old : Nat} {L sp S : Ps} {i : Nat} (h : L.Perm sp) : stay old L S i = stay old sp S i := by unfold stay; rw [inSp_perm h]
theorem MgS.perm {A A' S : Ps} (h : MgS A S) (p : A.Perm A') : MgS A' S := ⟨h.1.trans p, h.2⟩
/-- What stands apart of KI. -/
theorem MA.lt {w0 : World} {P : Nat} {a : Option Addr} {U Sb O C A B R Q Kb Bk : Nat} (h : MA w0 P a U Sb O C A B R Q Kb Bk) : (Kb ≤ U ∧ U < Bk) ∧ (Kb ≤ Sb ∧ Sb < Bk) ∧ (Kb ≤ O ∧ O < Bk) ∧ (Kb ≤ C ∧ C < Bk) ∧ (Kb ≤ A ∧ A < Bk) ∧ (Kb ≤ B ∧ B < Bk) ∧ (Kb ≤ R ∧ R < Bk) :=
  ⟨h.hi U (by simp), h.hi Sb (by simp), h.hi O (by simp), h.hi C (by simp), h.hi A (by simp), h.hi B (by simp), h.hi R (by simp)⟩
/-- KI and RW where what is new, from block Bk on, changes. -/
theorem MA.kiNew {w0 W W' : World} {P : Nat} {a : Option Addr} {U Sb O C A B R Q Kb Bk old k : Nat} {L T : Ps} {S : List Nat} (m : MA w0 P a U Sb O C A B R Q Kb Bk) (h : KI w0 W U Sb O C A B R Q old L T k) (f : Fr S W W') (hS : ∀ x ∈ S, Bk ≤ x ∧ ∃ cs T, W.heap[x]? = some (.cells cs T (0, 0)) ∧ T ≠ 5) : KI w0 W' U Sb O C A B R Q old L T k := by
  obtain ⟨hU, hSb, hO, hC, hA, hB, hR⟩ := m.lt
  have hq := m.q.2
  have hz := m.zk
  exact h.keep f (fun x hx => by have := (hS x hx).1; exact ⟨by omega, by omega, by omega, by omega, by omega, by omega, by omega, by omega, by omega⟩) (fun x hx => (hS x hx).2)
theorem MA.rwNew {w0 W W' : World} {P : Nat} {a : Option Addr} {c U Sb O C A B R Q Kb Bk : Nat} {vs : List Value} {hs : List Ps} {S : List Nat} (m : MA w0 P a U Sb O C A B R Q Kb Bk) (h : RW w0 W P a c vs hs) (f : Fr S W W') (hS : ∀ x ∈ S, Kb ≤ x) : RW w0 W' P a c vs hs := by
  have hz := m.zk
  have hp := m.pk
  refine h.keepF f (fun x hx => ?_)
  have h1 := hS x hx
  refine ⟨by omega, by omega, fun k hk e => ?_⟩
  rcases a with _ | ad
  · simp [Value.ownBlock] at hk
  · have h2 := h.own.2
    rcases h2 with ⟨e2, _⟩ | ⟨g, cap, cur, e2, _⟩
    · simp at e2
    · simp only [Value.slice.injEq, Option.some.injEq] at e2
      obtain ⟨rfl, _⟩ := e2
      simp [Value.ownBlock] at hk
      have := (m.ag g rfl).2.1
      omega
set_option maxRecDepth 20000 in
set_option maxHeartbeats 12800000 in
theorem merge_c (w : World) {lv dv : Value} {LL : List Ps} {sp : Ps} (h : RdLL w lv LL) (hd : RdK w dv sp) (hn : LL.length ≤ 100000) (hf : LL.flatten.length ≤ 1000000) (hsp : sp.length ≤ 1000000) (hz : 0 < w.heap.size) (old : Nat) :
    Calls Try.prog 10 #[lv, .int .u64 (old : Int), dv] w fun e w' => MgO w w' LL old sp e ∧ Fr [] w w' := by
  obtain ⟨la, lc, rfl, hlc, k1⟩ := h
  have H1 := hid k1
  have HD := hid hd
  obtain ⟨da, dc, rfl, _⟩ := hd
  obtain ⟨W1, hW1⟩ : ∃ W1, W1 = w.alloc (.cells #[.slice none 0 0] 60) := ⟨_, rfl⟩
  have F1 : Fr [] w W1 := by rw [hW1]; exact (Fr.refl _ _).alloc _
  have b1 : W1.heap[w.heap.size]? = some (.cells #[.slice none 0 0] 60 (0, 0)) := by rw [hW1]; exact blk_new _ _
  have R0 : Hid (RW w W1 w.heap.size none 0 [] []) := hid ⟨b1, World.ownsRow_nil _ _ _ _, fun i p hi => by simp at hi, Nat.le_refl _, F1⟩
  obtain ⟨n, hnn⟩ : ∃ n, n = LL.length := ⟨_, rfl⟩
  have HN := hid hnn
  obtain ⟨dn, hdn⟩ : ∃ n, n = sp.length := ⟨_, rfl⟩
  have HDN := hid hdn
  rw [← hnn] at hn hlc ⊢
  rw [← hdn] at HD ⊢
  clear k1 hnn hdn F1 b1
  have hfl : ∀ p ∈ LL, p.length ≤ 1000000 := fun p hp => by
    have : p.length ≤ LL.flatten.length := (List.sublist_flatten_of_mem hp).length_le
    omega
  have HFL := hid hfl
  clear hfl
  go_enter Try.func10, Try.ntmps10
  go_wp2_with fail
  go_step3
  go_upto_region 2 with fail
  rw [← hW1]
  clear hW1
  go_wp2_with fail
  go_loopw [18] (fun v18 wr => ∃ (i : Nat) (a : Option Addr) (c : Nat) (vs : List Value) (hs : List Ps), v18 = .int .i64 (i : Int) ∧ i ≤ n ∧ RW w wr w.heap.size a c vs hs ∧ OkR hs ∧ HeapB (hk hs) hs.length ∧ hs.flatten.Perm (LL.take i).flatten ∧ (∀ p ∈ LL.take i, Rises p) ∧ hs.length ≤ i) (fun v18 _ => n - (intOf v18).toNat)
  case atStart => exact ⟨0, none, 0, [], [], rfl, Nat.zero_le _, R0.out, (fun p hp => by cases hp), (fun k h0 h1 => by simp at h1), (by simp), (fun p hp => by simp at hp), Nat.le_refl _⟩
  case round =>
    obtain ⟨i, a, c, vs, hs, rfl, hi, rw, ok, hb, pm, ri, hl⟩ := hrel
    have RWI := hid rw
    have OK := hid ok
    have HB := hid hb
    have PM := hid pm
    have RI := hid ri
    clear rw ok hb pm ri R0
    by_cases hlt : i < n
    · obtain ⟨p, hp⟩ : ∃ p, LL[i]? = some p := ⟨_, List.getElem?_eq_getElem (by rw [← HN.out]; exact hlt)⟩
      obtain ⟨b, off, rfl, m⟩ := H1.out (by rw [← HN.out]; omega)
      obtain ⟨ua, uc, z0, rk⟩ := m i p hp
      have z1 := cell_fr RWI.out.fr z0
      have RK := hid rk
      have CR := hid (crises_c wr (rk.fr RWI.out.fr) (HFL.out p (List.mem_of_getElem? hp)))
      have HP := hid hp
      have hlt' : (i : Int) < (n : Int) := by omega
      obtain ⟨pl, hpl⟩ : ∃ q, q = p.length := ⟨_, rfl⟩
      have HPL := hid hpl
      rw [← hpl] at z1 RK CR
      clear m rk hp z0 hpl
      go_upto_if 24 with (go_at_call 25; refine CR.out.mono ?_; rintro e w2 ⟨hq, f2⟩; rcases hq with ⟨rfl, hr⟩ | ⟨rfl, hr⟩)
      · have HR := hid hr
        have F2 := hid f2
        have TK := take_oneL HP.out
        have RI2 : Hid (∀ q ∈ LL.take (i + 1), Rises q) := hid (fun q hq => by
          rw [TK] at hq
          rcases List.mem_append.1 hq with h | h
          · exact RI.out q h
          · rw [List.mem_singleton] at h; rw [h]; exact HR.out)
        have FL : Hid ((LL.take (i + 1)).flatten = (LL.take i).flatten ++ p) := hid (by rw [TK, List.flatten_append]; simp)
        clear hr f2 TK
        by_cases h0 : pl = 0
        · have hp0 : p = [] := List.eq_nil_of_length_eq_zero (by rw [← HPL.out]; exact h0)
          subst h0
          go_wp2
          go_roundw
          case rel => exact ⟨i + 1, a, c, vs, hs, by go_num, by omega, RWI.out.quiet F2.out, OK.out, HB.out, by rw [FL.out, hp0, List.append_nil]; exact PM.out, RI2.out, by omega⟩
          case measure => simp [intOf]; omega
        · have h0' : (0 : Int) < (pl : Int) := by omega
          have hpne : p ≠ [] := fun e => h0 (by rw [HPL.out, e]; rfl)
          have PU := hid (hpush_c (RWI.out.quiet F2.out) OK.out HB.out RK.out ⟨hpne, HR.out⟩ (by omega))
          have OK2 : Hid (OkR (hs ++ [p])) := hid (fun q hq => by
            rcases List.mem_append.1 hq with h | h
            · exact OK.out q h
            · rw [List.mem_singleton] at h; rw [h]; exact ⟨hpne, HR.out⟩)
          clear hpne
          go_wp2_with (go_at_call 26; refine PU.out.mono ?_; rintro e w3 ⟨u3, a3, c3, vs3, hs3, rfl, r3, pm3, hb3⟩; have R3 := hid r3; have PM3 := hid pm3; have HB3 := hid hb3; clear r3 pm3 hb3)
          go_roundw
          case rel =>
            refine ⟨i + 1, a3, c3, vs3, hs3, by go_num, by omega, R3.out, OK2.out.perm PM3.out, HB3.out, ?_, RI2.out, ?_⟩
            · rw [FL.out]
              have h1 := PM3.out.flatten
              rw [List.flatten_append] at h1
              refine h1.trans ?_
              simp only [List.flatten_cons, List.flatten_nil, List.append_nil]
              exact PM.out.append_right p
            · have := PM3.out.length_eq; simp at this; omega
          case measure => simp [intOf]; omega
      · have HNR : Hid (∃ p ∈ LL, ¬ Rises p) := hid ⟨p, List.mem_of_getElem? HP.out, hr⟩
        have F2 := hid (RWI.out.fr.trans f2)
        clear hr f2
        go_wp2
        rw [Exit.noGoto_ret]
        go_ret2
        exact ⟨.inr ⟨.inl HNR.out, rfl⟩, F2.out⟩
    · have hin : i = n := by omega
      have PMA : Hid (hs.flatten.Perm LL.flatten) := hid (by have := PM.out; rwa [List.take_of_length_le (by rw [← HN.out]; omega)] at this)
      have RIA : Hid (∀ p ∈ LL, Rises p) := hid (by have := RI.out; rwa [List.take_of_length_le (by rw [← HN.out]; omega)] at this)
      have KC := hid (keeper_c (sp := sp) RWI.out.fr HD.out hsp hz old)
      have hlt' : ¬ (i : Int) < (n : Int) := by omega
      subst hin
      obtain ⟨wo, hwo⟩ : ∃ W, W = wr := ⟨_, rfl⟩
      subst hwo
      clear PM RI H1
      go_upto_region 13 with (go_at_call 27; refine KC.out.mono ?_; rintro e wk ⟨U, Sb, O, C, A, B, R, Q, L, rfl, ks⟩; have KSH := hid ks; clear ks)
      have ks := KSH.out
      have RWK := ks.ki.wi
      have AP : Hid (MA w w.heap.size a U Sb O C A B R Q wo.heap.size wk.heap.size) := hid (by
        have k1 := ks.ki
        obtain ⟨a1, c1, hA, _⟩ := k1.wi.hA
        obtain ⟨r1, r2, r3, hR, _⟩ := k1.wi.hR
        obtain ⟨u1, u2, hU, _⟩ := k1.hU
        refine ⟨Nat.le_refl _, blk_lt RWI.out.hp, fun g e => ?_, fun x hx => ⟨ks.lo x hx, ?_⟩, ⟨ks.lq, ks.gq⟩, RWI.out.fr.size⟩
        · have h1 := RWI.out.own.lt g (by rw [e]; rfl)
          exact ⟨h1.1, h1.2, fun e2 => own_not RWI.out.own RWI.out.hp (by decide) (by rw [e, ← e2]; rfl)⟩
        · simp only [List.mem_cons, List.not_mem_nil, or_false] at hx
          rcases hx with rfl | rfl | rfl | rfl | rfl | rfl | rfl
          · exact blk_lt hU
          · exact blk_lt k1.hS
          · exact blk_lt k1.hO
          · exact blk_lt k1.hC
          · exact blk_lt hA
          · exact blk_lt k1.wi.hB
          · exact blk_lt hR)
      have LP0 : Hid (LP w wk w.heap.size a c U Sb O C A B R Q wk.heap.size old L sp hs.flatten vs hs [] 0 (.slice none 0 0) none 0 0) := hid
        ⟨RWI.out.quiet ks.fr, OK.out, HB.out, ks.ki, MI.start _, (fun t ht => by cases ht), (fun t ht => by cases ht), ColO.nil _ _, .inl ⟨rfl, rfl⟩, rfl, by simp, Nat.le_refl _⟩
      have SO := hid ks.so
      have PL := hid ks.pm
      have HLL : Hid (L.length ≤ 1000000) := hid (by rw [ks.pm.length_eq]; exact hsp)
      have HA0 : Hid (hs.flatten.length ≤ 1000000) := hid (by rw [PMA.out.length_eq]; exact hf)
      have HSZ : Hid (hs.length ≤ 100000) := hid (by omega)
      clear ks RWK KSH RWI OK HB
      generalize hs.flatten = A0 at LP0 PMA HA0
      go_step3
      go_wp2_with fail
      go_loopw [11, 12] (fun v11 v12 wr => ∃ (vs : List Value) (hs : List Ps) (T : Ps) (k : Nat) (la : Option Addr) (ll lc : Nat), v12 = .slice la ll lc ∧ LP w wr w.heap.size a c U Sb O C A B R Q wk.heap.size old L sp A0 vs hs T k v11 la ll lc ∧ hs.length ≤ 100000) (fun _ _ wr => lfM w.heap.size wr)
      case atStart => exact ⟨vs, hs, [], 0, none, 0, 0, rfl, LP0.out, HSZ.out⟩
      case round =>
        obtain ⟨vs2, hs2, T, k, la2, ll2, lc2, rfl, lp, hsz⟩ := hrel
        have LPH := hid lp
        have MES := hid lp.rw.mesL
        clear lp LP0
        by_cases h0 : hs2 = []
        · subst h0
          have NN := hid (next_no LPH.out.rw)
          have DONE : Hid (MgS LL.flatten T) := hid ((by have := LPH.out.mi; exact this.done : MgS A0 T).perm PMA.out)
          go_wp2_with (go_at_call 28; refine NN.out.mono ?_; rintro e w1 ⟨rfl, f1⟩; have F1 := hid f1; clear f1)
          rw [Exit.noGoto_ret]
          go_ret2
          have fa := F1.out.alloc (.cells #[.slice none 0 0, .slice none 0 0] 50)
          exact ⟨.inl ⟨T, _, RIA.out, DONE.out, rfl, (LPH.out.ck.fr fa).lower (Nat.le_trans AP.out.zk (by have := AP.out.lt.1; omega))⟩, LPH.out.rw.fr.trans fa⟩
        · have hpos : 0 < hs2.length := List.length_pos_iff.2 h0
          obtain ⟨g, cur, hg, _, _, _⟩ := LPH.out.rw.blk hpos
          have HG := hid hg
          subst hg
          have NY := hid (next_yes LPH.out.rw LPH.out.ok LPH.out.hb hpos hsz)
          have APG := hid (AP.out.ag g rfl)
          clear h0
          go_upto_region 15 with (go_at_call 28; refine NY.out.mono ?_; rintro e w1 ⟨x, ka, kc, va, vc, hs3, vs3, nx⟩; have NX := hid nx; obtain rfl := nx.re; clear nx)
          obtain ⟨kl, hkl⟩ : ∃ q, q = x.1.length := ⟨_, rfl⟩
          obtain ⟨vl, hvl⟩ : ∃ q, q = x.2.length := ⟨_, rfl⟩
          have HKL := hid hkl
          have HVL := hid hvl
          rw [← hkl, ← hvl]
          clear hkl hvl
          obtain ⟨W2, hW2⟩ : ∃ W2, W2 = w1.alloc (.cells #[.slice ka kl kc, .slice va vl vc] 50) := ⟨_, rfl⟩
          rw [← hW2]
          have F12 : Fr [] w1 W2 := by rw [hW2]; exact (Fr.refl _ _).alloc _
          have b2 : W2.heap[w1.heap.size]? = some (.cells #[.slice ka kl kc, .slice va vl vc] 50 (0, 0)) := by rw [hW2]; exact blk_new _ _
          have F02 := hid (NX.out.rw.fr.trans F12)
          have RW2 := hid (NX.out.rw.quiet F12)
          have PG : Hid (∀ y ∈ [w.heap.size, g], w.heap.size ≤ y ∧ y < wo.heap.size) := hid (by
            have h1 := AP.out.pk
            have h2 := APG.out
            intro y hy
            simp only [List.mem_cons, List.not_mem_nil, or_false] at hy
            rcases hy with rfl | rfl <;> omega)
          have FXX : Hid (Fr [w.heap.size, g] wr W2) := hid (NX.out.fr.trans (F12.mono (by simp)))
          have KI2 : Hid (KI w W2 U Sb O C A B R Q old L T k) := hid (by
            obtain ⟨hU, hSb, hO, hC, hA, hB, hR⟩ := AP.out.lt
            have hq := AP.out.q
            refine LPH.out.ki.keep FXX.out (fun y hy => ?_) (fun y hy => ?_)
            · have h1 := PG.out y hy
              exact ⟨h1.1, by omega, by omega, by omega, by omega, by omega, by omega, by omega, by omega⟩
            · simp only [List.mem_cons, List.not_mem_nil, or_false] at hy
              rcases hy with rfl | rfl
              · exact ⟨_, _, LPH.out.rw.hp, by decide⟩
              · obtain ⟨g', cur', e, _, hgg, _⟩ := LPH.out.rw.blk hpos
                simp only [Option.some.injEq, Addr.mk.injEq, and_true] at e
                obtain rfl := e
                exact ⟨_, _, hgg, by decide⟩)
          have CK2 : Hid (ColO W2 wk.heap.size u11 (kept old sp T T.length)) := hid (LPH.out.ck.keepL FXX.out (fun y hy => by have := (PG.out y hy).2; have := AP.out.lt.1; omega))
          have B2 := hid b2
          have y0 : W2.cell? ⟨w1.heap.size, 0, none⟩ = some (.slice ka kl kc) := by rw [blk_cell b2]; rfl
          have y1 : W2.cell? ⟨w1.heap.size, 1, none⟩ = some (.slice va vl vc) := by rw [blk_cell b2]; rfl
          have RKX : Hid (Rd w (.slice ka kl kc) (bv x.1)) := hid (by rw [HKL.out]; exact NX.out.rk)
          have RVX : Hid (Rd w (.slice va vl vc) (bv x.2)) := hid (by rw [HVL.out]; exact NX.out.rv)
          have hbl : By (lst T) := by
            unfold lst
            split
            · exact fun z hz => by cases hz
            · exact (kA_by LPH.out.by' _).1
          have BE := hid (bytesEqual_c (RKX.out.fr F02.out) (LPH.out.lr.fr F02.out) NX.out.bk hbl)
          have HB1 : Hid (wk.heap.size ≤ w1.heap.size) := hid (Nat.le_trans LPH.out.sz NX.out.fr.size)
          clear hW2 F12 b2 hbl
          by_cases hEq : x.1 = lst T
          · rw [decide_eq_true hEq] at BE
            have hxne : x.1 ≠ [] := fun e => by have := isK_len NX.out.ik; rw [e] at this; simp at this
            obtain ⟨t, ht, ho⟩ := lst_get hEq hxne
            have NOS : Hid (∀ S, ¬ MgS LL.flatten S) := hid (fun S hS => LPH.out.mi.stop NX.out.pm ht ho S (hS.perm PMA.out.symm))
            clear hEq hxne ht ho
            go_wp2_with (go_at_call 29; refine BE.out.mono ?_; rintro e w3 ⟨rfl, h⟩; rw [h]; clear h)
            rw [Exit.noGoto_ret]
            go_ret2
            exact ⟨.inr ⟨.inr NOS.out, rfl⟩, F02.out⟩
          · rw [decide_eq_false hEq] at BE
            have HNE := hid hEq
            have MIN := hid (LPH.out.mi.step NX.out.pm NX.out.mn (lst_ne hEq LPH.out.by' LPH.out.isk NX.out.bk NX.out.ik))
            have KP := hid (keeper1_c KI2.out SO.out HLL.out LPH.out.by' RKX.out NX.out.bk NX.out.ik MIN.out.str)
            rw [stay_perm PL.out] at KP
            have KS2 := hid (kept_snoc old sp T x)
            have TLN : Hid ((T ++ [x]).length + hs3.flatten.length = A0.length) := hid (by
              have h1 := NX.out.pm.length_eq
              have h2 := LPH.out.tl
              rw [List.length_cons] at h1
              rw [List.length_append, List.length_singleton]
              omega)
            have BYN : Hid (ByP (T ++ [x])) := hid (fun t ht => by
              rcases List.mem_append.1 ht with h | h
              · exact LPH.out.by' t h
              · rw [List.mem_singleton] at h; rw [h]; exact ⟨NX.out.bk, NX.out.bv'⟩)
            have IKN : Hid (∀ t ∈ T ++ [x], isK t.1 = true) := hid (fun t ht => by
              rcases List.mem_append.1 ht with h | h
              · exact LPH.out.isk t h
              · rw [List.mem_singleton] at h; rw [h]; exact NX.out.ik)
            have hkb : (kept old sp T T.length).length ≤ 1000000 := by
              have h1 := kept_len old sp T T.length
              have h2 := LPH.out.tl
              have h3 := HA0.out
              omega
            have HKB := hid hkb
            clear hEq hkb
            go_upto_if 48 with (first
              | (have zz := G9; clear zz; go_at_call 42; refine KP.out.mono ?_; rintro e w3 ⟨k3, rfl, ki3, f3⟩; have KI3 := hid ki3; have F3 := hid f3; clear ki3 f3)
              | (go_at_call 29; refine BE.out.mono ?_; rintro e w3 ⟨rfl, h⟩; rw [h]; clear h; have G9 := hid trivial))
            have hlt := AP.out.lt
            have RW3 := hid (AP.out.rwNew RW2.out F3.out (fun y hy => by
              simp only [List.mem_cons, List.not_mem_nil, or_false] at hy
              rcases hy with rfl | rfl | rfl | rfl | rfl <;> omega))
            have CK3 := hid (CK2.out.keepL F3.out (fun y hy => by
              simp only [List.mem_cons, List.not_mem_nil, or_false] at hy
              rcases hy with rfl | rfl | rfl | rfl | rfl <;> omega))
            have hni : w1.heap.size ∉ [A, B, R, U, Sb] := fun hy => by
              have hb := HB1.out
              simp only [List.mem_cons, List.not_mem_nil, or_false] at hy
              omega
            have z0 := cell_frS F3.out hni y0
            have z1 := cell_frS F3.out hni y1
            have F03 := hid (F02.out.wide F3.out (fun y hy => by
              have hzk := AP.out.zk
              simp only [List.mem_cons, List.not_mem_nil, or_false] at hy
              rcases hy with rfl | rfl | rfl | rfl | rfl <;> omega))
            have SZ3 : Hid (wk.heap.size ≤ w3.heap.size) := hid (Nat.le_trans HB1.out (by have := B2.out; have h1 := blk_lt this; have := F3.out.size; omega))
            have MLT : Hid (hs3.flatten.length < hs2.flatten.length) := hid (by
              have h1 := NX.out.pm.length_eq
              rw [List.length_cons] at h1
              omega)
            have HSL : Hid (hs3.length ≤ 100000) := hid (Nat.le_trans NX.out.ln hsz)
            have LAST : Hid ((lst (T ++ [x])) = x.1) := hid (lst_app T x)
            clear hlt hni y0 y1 KP BE
            rcases hst : stay old sp (T ++ [x]) T.length with _ | _
            · have KS3 : Hid (kept old sp (T ++ [x]) (T ++ [x]).length = kept old sp T T.length) := hid (by rw [KS2.out, hst]; simp)
              go_wp2
              go_roundw
              case rel => exact ⟨vs3, hs3, T ++ [x], k3, ka, kl, kc, rfl, ⟨RW3.out, NX.out.ok, NX.out.hb, KI3.out, MIN.out, BYN.out, IKN.out, by rw [KS3.out]; exact CK3.out, by rw [LAST.out]; exact RKX.out, by rw [LAST.out]; exact HKL.out.symm, TLN.out, SZ3.out⟩, HSL.out⟩
              case measure => rw [RW3.out.mesL, MES.out]; exact MLT.out
            · have KS3 : Hid (kept old sp (T ++ [x]) (T ++ [x]).length = kept old sp T T.length ++ [x]) := hid (by rw [KS2.out, hst]; simp)
              have CP := hid (copied_c w3 (x := x) (RKX.out.fr F03.out) (RVX.out.fr F03.out) HKL.out.symm HVL.out.symm (by rw [HKL.out]; exact NX.out.lk) (by rw [HVL.out]; exact NX.out.lv))
              have HOB : Hid (∀ q, u11.ownBlock = some q → q < w1.heap.size) := hid (fun q hq => by
                obtain ⟨cs, o, _⟩ := LPH.out.ck
                exact Nat.lt_of_lt_of_le (o.lt q hq).2 NX.out.fr.size)
              have Z0 := hid z0
              clear z0
              have z0 := Z0.out
              go_upto_region 19 with (first
                | (at_builtin; refine wpList_appKV rfl _ _ rfl wk.heap.size SZ5.out u11 _ cs5 rfl O5.out w4.heap.size rfl (blk_new _ _) (by intro u hu; simp at hu; rcases hu with rfl | rfl <;> rfl) (by have := HKB.out; omega) ?_; intro v6 w6 o6 g6; have O6 := hid o6; have G6 := hid g6; clear o6 g6)
                | (go_at_call 30; refine CP.out.mono ?_; rintro e w4 ⟨ka4, kc4, va4, vc4, rfl, ok4, ov4, f4⟩; have F45 := hid (f4.alloc (.cells #[.slice ka4 kl kc4, .slice va4 vl vc4] 50)); obtain ⟨cs5, o5, h5⟩ := CK3.out.fr F45.out; have O5 := hid o5; have H5 := hid h5; have OK5 := hid (own_baseC (ownsRow_fr ok4 ((Fr.refl [] w4).alloc (.cells #[.slice ka4 kl kc4, .slice va4 vl vc4] 50))) SZ3.out); have OV5 := hid (own_baseC (ownsRow_fr ov4 ((Fr.refl [] w4).alloc (.cells #[.slice ka4 kl kc4, .slice va4 vl vc4] 50))) SZ3.out); have SZ5 := hid (Nat.le_trans SZ3.out F45.out.size); clear o5 h5 ok4 ov4 f4))
              have hlt := AP.out.lt
              have S5 : Fr u11.ownBlock.toList (w4.alloc (.cells #[.slice ka4 kl kc4, .slice va4 vl vc4] 50)) w6 := (Fr.refl _ _).grown G6.out (fun q hq => .inl (by rw [hq]; simp))
              have hown : ∀ y ∈ u11.ownBlock.toList, u11.ownBlock = some y := fun y hy => by
                cases hu : u11.ownBlock with
                | none => rw [hu] at hy; simp at hy
                | some q => rw [hu] at hy; simp at hy; rw [hy]
              have KI6 := hid (AP.out.kiNew (KI3.out.keep F45.out (by simp) (by simp)) S5 (fun y hy => by
                have h1 := hown y hy
                have h2 := O5.out.lt y h1
                refine ⟨h2.1, ?_⟩
                rcases O5.out.2 with ⟨e, _⟩ | ⟨q, cap, cur, e, _, h3, _⟩
                · rw [e] at h1; simp [Value.ownBlock] at h1
                · rw [e] at h1
                  simp only [Value.ownBlock, Option.some.injEq] at h1
                  subst h1
                  exact ⟨_, _, h3, by decide⟩))
              have RW6 := hid (AP.out.rwNew (RW3.out.quiet F45.out) S5 (fun y hy => by
                have h2 := O5.out.lt y (hown y hy)
                omega))
              have CK6 := hid (ColO.app (p := x) O5.out H5.out (by rw [← HKL.out]; exact OK5.out) (by rw [← HVL.out]; exact OV5.out) NX.out.bk NX.out.bv' NX.out.lk NX.out.lv O6.out G6.out)
              have hz6 : w6.cell? ⟨w1.heap.size, 0, none⟩ = some (.slice ka kl kc) := by
                refine cell_frS S5 (fun hm => ?_) (cell_fr F45.out Z0.out)
                have := HOB.out _ (hown _ hm)
                omega
              have SZ6 : Hid (wk.heap.size ≤ w6.heap.size) := hid (Nat.le_trans SZ5.out G6.out.size)
              clear z0 S5 hown hlt
              go_wp2
              go_roundw
              case rel => exact ⟨vs3, hs3, T ++ [x], k3, ka, kl, kc, rfl, ⟨RW6.out, NX.out.ok, NX.out.hb, KI6.out, MIN.out, BYN.out, IKN.out, by rw [KS3.out]; exact CK6.out, by rw [LAST.out]; exact RKX.out, by rw [LAST.out]; exact HKL.out.symm, TLN.out, SZ6.out⟩, HSL.out⟩
              case measure => rw [RW6.out.mesL, MES.out]; exact MLT.out
end Go.Proofs.Ythmlpjogbdpgiaa
