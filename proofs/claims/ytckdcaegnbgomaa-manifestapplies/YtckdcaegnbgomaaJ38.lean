/-
  The document's copied.
-/
import Derived.Test.YtckdcaegnbgomaaVX
import Derived.Laws.AppendOwnNone
import Derived.Test.YtckdcaegnbgomaaJ26
namespace Go.Proofs.Ytckdcaegnbgomaa
open Go.ChangeShapes Go.WideShapes Go.ChangeAt Go.RowKit

set_option maxRecDepth 20000 in
set_option maxHeartbeats 3200000 in
theorem rcopied_c (w : World) {f : Fl} {la ma : Option Addr} {lc mc : Nat} (h : FRd w f la lc ma mc) :
    Calls Try.prog 24 #[.agg #[.int .i64 f.num, .int .i64 f.size, .slice la f.least.length lc, .slice ma f.most.length mc]] w fun r w' => COut w w' f r := by
  obtain ⟨ll, hll⟩ : ∃ ll, ll = f.least.length := ⟨_, rfl⟩
  obtain ⟨lm, hlm⟩ : ∃ lm, lm = f.most.length := ⟨_, rfl⟩
  rw [← hll, ← hlm]
  have HLL := hid hll
  have HLM := hid hlm
  obtain ⟨W0, hW0⟩ : ∃ W0, W0 = (w.alloc (.cells #[.int .i64 f.num, .int .i64 f.size, .slice la ll lc, .slice ma lm mc] 55)).alloc (.cells #[.int .i64 0, .int .i64 0, .slice none 0 0, .slice none 0 0] 55) := ⟨_, rfl⟩
  have f0 : Fr [] w W0 := by rw [hW0]; exact ((Fr.refl _ _).alloc _).alloc _
  have n0 : W0.heap[w.heap.size]? = some (.cells #[.int .i64 f.num, .int .i64 f.size, .slice la ll lc, .slice ma lm mc] 55 (0, 0)) := by rw [hW0, blk_old _ _ (by simp)]; exact blk_new _ _
  have n1 : W0.heap[w.heap.size + 1]? = some (.cells #[.int .i64 0, .int .i64 0, .slice none 0 0, .slice none 0 0] 55 (0, 0)) := by rw [hW0]; exact new_at _ _ (by simp)
  have hsz : w.heap.size + 1 < W0.heap.size := blk_lt n1
  have RL : Hid (∀ W', Fr [] w W' → Rd W' (.slice la ll lc) (bv f.least)) := hid (fun W' g => by rw [hll]; exact h.rl.fr g)
  have RM : Hid (∀ W', Fr [] w W' → Rd W' (.slice ma lm mc) (bv f.most)) := hid (fun W' g => by rw [hlm]; exact h.rm.fr g)
  have HB1 : Hid (0 + (bv f.least).length ≤ 140737488355328) := hid (by rw [bv_len, Nat.zero_add]; exact h.ll)
  have HB2 : Hid (0 + (bv f.most).length ≤ 140737488355328) := hid (by rw [bv_len, Nat.zero_add]; exact h.lm)
  have F0 := hid f0
  have N0 := hid n0
  have N1 := hid n1
  have y2 := (fl_cells n0).2.2.1
  have yf := blk_frozen n0 2
  clear h n0 n1 f0 hll hlm
  go_enter Try.func24, Try.ntmps24
  go_upto_region 1 with fail
  rw [← hW0]
  clear hW0
  go_cut [] from 3 to 6 (fun W => ∃ a5 c5, W.heap[w.heap.size]? = some (.cells #[.int .i64 f.num, .int .i64 f.size, .slice a5 f.least.length c5, .slice ma lm mc] 55 (0, 0)) ∧ W.heap[w.heap.size + 1]? = some (.cells #[.int .i64 0, .int .i64 0, .slice none 0 0, .slice none 0 0] 55 (0, 0)) ∧ W.ownsRow W0.heap.size 5 1 (.slice a5 f.least.length c5) f.least.length (bv f.least) ∧ Fr [] w W ∧ W0.heap.size ≤ W.heap.size)
  case first =>
    go_wp2_with (at_builtin; refine wpList_append_rd rfl _ _ rfl W0.heap.size (Nat.le_refl _) (.slice none 0 0) 0 [] (by simp [Act.eval]) (World.ownsRow_nil _ _ _ _) _ (bv f.least) (by simp [Act.eval]) (RL.out W0 F0.out) bv_one HB1.out ?_; intro v2 w2 o2 g2 _; obtain ⟨a2, c2, hv2, _⟩ := ownsRow_slice o2; subst hv2; have G2 : Hid (Fr [] W0 w2) := hid ((Fr.refl [] W0).grown g2 (fun k hk => by simp [Value.ownBlock] at hk)); have zf := blk_frozen (G2.out.at N0.out (by simp)) 2; have zc := (fl_cells (G2.out.at N0.out (by simp))).2.2.1; have O2 := hid o2; clear o2 g2)
    go_meet
    case rel =>
      have k0 := G2.out.at N0.out (by simp)
      have k1 := G2.out.at N1.out (by simp)
      have e : 0 + (bv f.least).length = f.least.length := by rw [bv_len, Nat.zero_add]
      have o := O2.out
      rw [e, List.nil_append] at o
      refine ⟨a2, c2, by rw [blk_set k0 2 _]; simp [bv_len], by rw [blk_setne _ _ _ (by omega)]; exact k1, own_set o (by omega), (F0.out.trans G2.out).set _ _ (.inr (Nat.le_refl _)), ?_⟩
      exact Nat.le_trans G2.out.size (by simp)
  case rest =>
    obtain ⟨a5, c5, k0, k1, o5, fw, hz⟩ := hcut
    have K0 := hid k0
    have K1 := hid k1
    have O5 := hid o5
    have FW := hid fw
    clear y2 yf
    have y3 := (fl_cells k0).2.2.2
    clear k0 k1 o5 fw F0 N0 N1 RL HB1
    go_upto_region 2 with fail
    go_cut [] from 7 to 10 (fun W => ∃ a7 c7, W.heap[w.heap.size]? = some (.cells #[.int .i64 f.num, .int .i64 f.size, .slice a5 f.least.length c5, .slice a7 f.most.length c7] 55 (0, 0)) ∧ W.heap[w.heap.size + 1]? = some (.cells #[.int .i64 0, .int .i64 0, .slice none 0 0, .slice none 0 0] 55 (0, 0)) ∧ XO w.heap.size W f a5 c5 a7 c7 ∧ Fr [] w W)
    case first =>
      go_wp2_with (at_builtin; refine wpList_append_rd rfl _ _ rfl W0.heap.size hz (.slice none 0 0) 0 [] (by simp [Act.eval]) (World.ownsRow_nil _ _ _ _) _ (bv f.most) (by simp [Act.eval]) (RM.out _ FW.out) bv_one HB2.out ?_; intro v2 w2 o2 g2 _; obtain ⟨a2, c2, hv2, _⟩ := ownsRow_slice o2; subst hv2; have G2 : Hid (Fr [] _ w2) := hid ((Fr.refl [] _).grown g2 (fun k hk => by simp [Value.ownBlock] at hk)); have zf := blk_frozen (G2.out.at K0.out (by simp)) 3; have zc := (fl_cells (G2.out.at K0.out (by simp))).2.2.2; have O2 := hid o2; clear o2 g2)
      go_meet
      case rel =>
        have k0 := G2.out.at K0.out (by simp)
        have k1 := G2.out.at K1.out (by simp)
        have e : 0 + (bv f.most).length = f.most.length := by rw [bv_len, Nat.zero_add]
        have o := O2.out
        rw [e, List.nil_append] at o
        refine ⟨a2, c2, by rw [blk_set k0 3 _]; simp [bv_len], by rw [blk_setne _ _ _ (by omega)]; exact k1, ⟨?_, ?_⟩, (FW.out.trans G2.out).set _ _ (.inr (Nat.le_refl _))⟩
        · exact own_base9 (own_set (ownsRow_fr O5.out G2.out) (by omega)) (by omega)
        · exact own_base9 (own_set o (by omega)) (by omega)
    case rest =>
      obtain ⟨a7, c7, k0, k1, xo, fw⟩ := hcut
      clear y3
      obtain ⟨y0, y1, y2, y3⟩ := fl_cells k0
      obtain ⟨x0, x1, x2, x3⟩ := fl_cells k1
      have qf0 := blk_frozen k1 0
      have qf1 := blk_frozen k1 1
      have qf2 := blk_frozen k1 2
      have qf3 := blk_frozen k1 3
      clear K0 K1 O5 FW
      have K1 := hid k1
      have XX := hid xo
      have FW := hid fw
      clear k0 k1 xo fw
      go_wp2_with fail
      refine bodyPost_ret (ret_c9k rfl (g := w.heap.size + 1) (by simp) (load4k (by rw [blk_set (blk_set (blk_set (blk_set K1.out 0 _) 1 _) 2 _) 3 _]; rfl))) rfl ?_
      refine ⟨⟨a5, c5, a7, c7, rfl, ?_⟩, (((FW.out.set _ _ (.inr (by omega))).set _ _ (.inr (by omega))).set _ _ (.inr (by omega))).set _ _ (.inr (by omega))⟩
      have st : ∀ {W : World} {i : Nat} {v : Value} {cs : Array Value}, W.heap[w.heap.size + 1]? = some (.cells cs 55 (0, 0)) → XO w.heap.size W f a5 c5 a7 c7 → XO w.heap.size (W.setCell ⟨w.heap.size + 1, i, none⟩ v) f a5 c5 a7 c7 := fun {W i v cs} hc hx =>
        ⟨ownsRow_of_block hx.ol fun b hb => blk_setne _ _ _ (fun e => by subst e; exact own_not hx.ol hc (by decide) hb), ownsRow_of_block hx.om fun b hb => blk_setne _ _ _ (fun e => by subst e; exact own_not hx.om hc (by decide) hb)⟩
      exact st (blk_set (blk_set (blk_set K1.out 0 _) 1 _) 2 _) (st (blk_set (blk_set K1.out 0 _) 1 _) (st (blk_set K1.out 0 _) (st K1.out XX.out)))
end Go.Proofs.Ytckdcaegnbgomaa
namespace Go.Proofs.Ytckdcaegnbgomaa
open Go.ChangeShapes Go.WideShapes Go.ChangeAt Go.RowKit

theorem ordK_cmp {a b : List Nat} (h : ordK a b ≤ 0) : cmpN (userL a) (userL b) ≤ 0 := by
  unfold ordK ordP at h
  by_cases h0 : cmpN (userL a) (userL b) = 0
  · omega
  · rw [if_neg h0] at h; exact h
theorem okF_user {f : Fl} (h : okF f = true) : cmpN (userL f.least) (userL f.most) ≤ 0 := by
  unfold okF at h
  simp only [Bool.and_eq_true] at h
  exact ordK_cmp (of_decide_eq_true h.2.2.1)
theorem cmpN_lt3 {a b c d : List Nat} (h1 : cmpN a b < 0) (h2 : cmpN b c ≤ 0) (h3 : cmpN c d < 0) : cmpN a d < 0 := by
  have q1 := cmpN_trans a b c (by omega) h2
  have q2 := cmpN_trans a c d q1 (by omega)
  rcases Int.lt_or_eq_of_le q2 with h | h
  · exact h
  · exfalso
    rw [cmpN_eq] at h
    subst h
    have n1 := cmpN_neg a b
    have n2 := cmpN_neg c a
    have q3 := cmpN_trans b c a h2 (by omega)
    omega
/-- Tables that rise and are apart from their neighbours are apart from all. -/
theorem rises_apart (i : Nat) (hi : 0 < i) : ∀ (l : List Fl), (∀ f ∈ l, okF f = true) → risesF i l = true → l.Pairwise (fun a b => cmpN (userL a.most) (userL b.least) < 0)
  | [], _, _ => List.Pairwise.nil
  | [a], _, _ => List.pairwise_singleton _ _
  | a :: b :: r, ok, h => by
    unfold risesF at h
    rw [Bool.and_eq_true] at h
    have ih := rises_apart i hi (b :: r) (fun f hf => ok f (by simp [hf])) h.2
    have hab : cmpN (userL a.most) (userL b.least) < 0 := by
      have := h.1
      unfold apartF reachF at this
      rw [Bool.and_eq_true, decide_eq_true hi, Bool.true_and, Bool.not_eq_true'] at this
      have := of_decide_eq_false this.2
      omega
    refine List.pairwise_cons.2 ⟨fun c hc => ?_, ih⟩
    rcases List.mem_cons.1 hc with rfl | hc
    · exact hab
    · exact cmpN_lt3 hab (okF_user (ok b (by simp))) ((List.pairwise_cons.1 ih).1 c hc)
theorem over_not {i : Nat} (hi : 0 < i) {l : List Fl} (ok : ∀ f ∈ l, okF f = true) {j k : Nat} {f g : Fl} (hjk : j < k) (hf : l[j]? = some f) (hg : l[k]? = some g) (h : overF f g = true) : risesF i l = false := by
  rw [Bool.eq_false_iff]
  intro h2
  have h3 := rises_apart i hi l ok h2
  obtain ⟨q1, q2⟩ := List.getElem?_eq_some_iff.1 hf
  obtain ⟨q3, q4⟩ := List.getElem?_eq_some_iff.1 hg
  have h4 := List.pairwise_iff_getElem.1 h3 j k q1 q3 hjk
  rw [q2, q4] at h4
  unfold overF at h
  rw [Bool.and_eq_true] at h
  have h5 := of_decide_eq_true h.2
  have := cmpN_neg (userL f.most) (userL g.least)
  omega
theorem over_apart {i : Nat} (hi : 0 < i) {f g : Fl} (og : okF g = true) (h : ordK f.least g.least < 0) (ho : overF f g = false) : apartF i f g = true := by
  unfold apartF reachF cmpF
  rw [if_neg (by omega), decide_eq_true h, Bool.true_and, decide_eq_true hi, Bool.true_and, Bool.not_eq_true', decide_eq_false_iff_not]
  intro h2
  have h3 := ordK_cmp (a := f.least) (b := g.least) (by omega)
  have h4 := cmpN_trans _ _ _ h3 (okF_user og)
  unfold overF at ho
  rw [decide_eq_true h4, Bool.true_and] at ho
  have h5 := of_decide_eq_false ho
  have := cmpN_neg (userL f.most) (userL g.least)
  omega
theorem twice_not {l : List Fl} {j k : Nat} {f g : Fl} (hjk : j < k) (hf : l[j]? = some f) (hg : l[k]? = some g) (h : g.num = f.num) : runP freshP [] l = false := by
  rw [Bool.eq_false_iff]
  intro h2
  have h3 := (runP_fresh l [] (by simp)).1 h2
  rw [List.nil_append] at h3
  obtain ⟨q1, q2⟩ := List.getElem?_eq_some_iff.1 hf
  obtain ⟨q3, q4⟩ := List.getElem?_eq_some_iff.1 hg
  have h4 := List.pairwise_iff_getElem.1 h3 j k (by rw [List.length_map]; exact q1) (by rw [List.length_map]; exact q3) hjk
  rw [List.getElem_map, List.getElem_map, q2, q4] at h4
  exact h4 h.symm
theorem once_all {l : List Fl} (h : ∀ j k : Nat, j < k → ∀ f g : Fl, l[j]? = some f → l[k]? = some g → g.num ≠ f.num) : runP freshP [] l = true := by
  rw [runP_fresh l [] (by simp), List.nil_append]
  unfold List.Nodup
  rw [List.pairwise_iff_getElem]
  intro j k hj hk hjk
  rw [List.length_map] at hj hk
  rw [List.getElem_map, List.getElem_map]
  exact fun e => h j k hjk _ _ (List.getElem?_eq_getElem hj) (List.getElem?_eq_getElem hk) e.symm
/-- All tables of the lists. -/
def pfxX (X : Nat → List Fx) (i : Nat) : List Fx := (List.range i).flatMap X
theorem pfxX_succ (X : Nat → List Fx) (i : Nat) : pfxX X (i + 1) = pfxX X i ++ X i := by
  unfold pfxX; rw [List.range_succ, List.flatMap_append]; simp
theorem pfxX_map {X : Nat → List Fx} {L : Nat → List Fl} (h : ∀ i, i < 5 → (X i).map Fx.f = L i) : ∀ i, i ≤ 5 → (pfxX X i).map Fx.f = pfx L i
  | 0, _ => rfl
  | i + 1, hi => by rw [pfxX_succ, pfx_succ, List.map_append, pfxX_map h i (by omega), h i (by omega)]
theorem pfxX_len {X : Nat → List Fx} (h : ∀ m, m < 5 → (X m).length ≤ 1000) : ∀ i, i ≤ 5 → (pfxX X i).length ≤ i * 1000
  | 0, _ => by simp [pfxX]
  | i + 1, hi => by
    have h1 := pfxX_len h i (by omega)
    have h2 := h i (by omega)
    rw [pfxX_succ, List.length_append]
    omega
/-- Tables appended to a row of the call's own. -/
theorem wpList_app_files {w : World} {ops : Array Oper} {rest : List Oper} {o : Oper} {a : Act} {Q : Exit → Act → World → Prop} (hgd : o.guard = none) (s x : Operand)
    (ho : o.op = .call { callee := .builtin .append, args := #[s, x], argTypes := #[23, 23] }) (B : Nat) (hbase : B ≤ w.heap.size) {ga : Option Addr} {gn gc : Nat} {xs ys : List Fx} (hg : gn = xs.length) (hown : w.ownsRow B 55 4 (.slice ga gn gc) xs.length (xs.flatMap encX)) {ya : Option Addr} {yn yc : Nat} (hy : yn = ys.length) (hnil : ya = none → yn = 0 ∧ yc = 0) (hrd : 0 < yn → ∃ b off, ya = some ⟨b, off, none⟩ ∧ ∀ (j : Nat) (f : Fx), ys[j]? = some f → FAt w b (off + j * 4) f.f f.la f.lc f.ma f.mc)
    (hs : a.eval s = .slice ga gn gc) (hx : a.eval x = .slice ya yn yc) (hl1 : gn ≤ 1000000) (hl2 : yn ≤ 1000000)
    (h : ∀ a' c' w', w'.ownsRow B 55 4 (.slice a' (gn + yn) c') (xs ++ ys).length ((xs ++ ys).flatMap encX) → w.grownBy w' (Value.slice ga gn gc).ownBlock → wpList Try.prog ops Q rest (a.put o.dst (.slice a' (gn + yn) c')) w') :
    wpList Try.prog ops Q (o :: rest) a w := by
  obtain ⟨i0, hi, hz0, hz1, hz2⟩ := info_parts9 infoFile
  cases ya with
  | none =>
    obtain ⟨h1, h2⟩ := hnil rfl
    subst h1
    subst h2
    have h3 : ys = [] := List.eq_nil_of_length_eq_zero hy.symm
    subst h3
    refine wpList_append_own_none hgd s x 23 ho B 55 i0 4 Try.underlying23 hi _ xs.length (xs.flatMap encX) hs hown hx ?_
    have := h ga gc w (by rw [List.append_nil]; exact hown) ⟨rfl, rfl, rfl, Nat.le_refl _, fun _ _ _ => rfl⟩
    exact this
  | some ad =>
    have hsp : ∀ j u, (ys.flatMap encX)[j]? = some u → w.cell? (ad.add j) = some u := by
      intro t u hu
      have htl : t < ys.length * 4 := by
        have := (List.getElem?_eq_some_iff.1 hu).1
        rw [flat4_len] at this
        exact this
      obtain ⟨b, off, e, k⟩ := hrd (by omega)
      simp only [Option.some.injEq] at e
      subst e
      obtain ⟨f, hf⟩ : ∃ f, ys[t / 4]? = some f := ⟨_, List.getElem?_eq_getElem (by omega)⟩
      rw [flat4_at ys t f hf] at hu
      have q := k (t / 4) f hf
      rw [Addr.add_lit]
      rcases (show t % 4 = 0 ∨ t % 4 = 1 ∨ t % 4 = 2 ∨ t % 4 = 3 from by omega) with m | m | m | m <;> rw [m] at hu <;> simp [encX] at hu <;> subst hu
      · rw [show off + t = off + t / 4 * 4 from by omega]; exact q.c0
      · rw [show off + t = off + t / 4 * 4 + 1 from by omega]; exact q.c1
      · rw [show off + t = off + t / 4 * 4 + 2 from by omega]; exact q.c2
      · rw [show off + t = off + t / 4 * 4 + 3 from by omega]; exact q.c3
    have one : ∀ u ∈ ys.flatMap encX, u.oneCell' = true := fun u hu => by
      obtain ⟨f, _, hf⟩ := List.mem_flatMap.1 hu
      exact encX_one f u hf
    refine wpList_append_own_at w hgd s x 23 ho B 55 i0 _ 4 64 Try.underlying23 hi hz0 hz1 hz2 rfl (by decide) _ xs.length (xs.flatMap encX) hs hown ad yn yc (ys.flatMap encX) hx (by rw [flat4_len, hy]) hsp one (by unfold maxLen; omega) (by omega) hbase fun v' w' o' g' _ _ => ?_
    obtain ⟨a', c', rfl, _⟩ := ownsRow_slice o'
    rw [← hg] at o' ⊢
    refine h a' c' w' ?_ g'
    rw [List.flatMap_append, List.length_append, ← hg, ← hy]
    exact o'
end Go.Proofs.Ytckdcaegnbgomaa
namespace Go.Proofs.Ytckdcaegnbgomaa
open Go.ChangeShapes Go.WideShapes Go.ChangeAt Go.RowKit

theorem pfx_perm {U U' : Nat → List Fl} (h : ∀ i, i < 5 → (U i).Perm (U' i)) : ∀ i, i ≤ 5 → (pfx U i).Perm (pfx U' i)
  | 0, _ => List.Perm.refl _
  | i + 1, hi => by rw [pfx_succ, pfx_succ]; exact (pfx_perm h i (by omega)).append (h i (by omega))
theorem rises_eq {i : Nat} {l l' : List Fl} (hp : l.Perm l') (s : l.Pairwise (fun a b => ¬ cmpF i b a < 0)) (s' : l'.Pairwise (fun a b => ¬ cmpF i b a < 0)) : risesF i l = risesF i l' := by
  cases h : risesF i l with
  | true => rw [← sort_one i l' l hp.symm s' (rises_pair i l h)] at h; exact h.symm
  | false =>
    cases h' : risesF i l' with
    | false => rfl
    | true => rw [← sort_one i l l' hp s (rises_pair i l' h'), h] at h'; cases h'
theorem fresh_eq {l l' : List Fl} (hp : l.Perm l') : runP freshP [] l = runP freshP [] l' := by
  rw [Bool.eq_iff_iff, runP_fresh l [] (by simp), runP_fresh l' [] (by simp), List.nil_append, List.nil_append]
  exact (hp.map Fl.num).nodup_iff
theorem all_eq {l l' : List Fl} (hp : l.Perm l') (q : Fl → Bool) : l.all q = l'.all q := by
  rw [Bool.eq_iff_iff, List.all_eq_true, List.all_eq_true]
  exact ⟨fun h x hx => h x (hp.mem_iff.2 hx), fun h x hx => h x (hp.mem_iff.1 hx)⟩
/-- Two versions that an edit may come to are checked alike. -/
theorem Comes.chk {v : Vn} {e : Ed} {U U' : Nat → List Fl} (h : Comes v e U) (h' : Comes v e U') (log next : Int) (seq : Nat) : chkV ⟨log, next, seq, U⟩ = chkV ⟨log, next, seq, U'⟩ := by
  have hp : ∀ i, i < 5 → (U i).Perm (U' i) := fun i hi => (h.perm i hi).trans (h'.perm i hi).symm
  have hq := pfx_perm hp 5 (by omega)
  have h4 : (List.range 5).all (fun i => risesF i (U i)) = (List.range 5).all (fun i => risesF i (U' i)) := by
    rw [Bool.eq_iff_iff, List.all_eq_true, List.all_eq_true]
    constructor
    · intro hh i hi
      have h5 : i < 5 := by simpa using hi
      rw [← rises_eq (hp i h5) (h.sort i h5) (h'.sort i h5)]
      exact hh i hi
    · intro hh i hi
      have h5 : i < 5 := by simpa using hi
      rw [rises_eq (hp i h5) (h.sort i h5) (h'.sort i h5)]
      exact hh i hi
  show (if (!(okH log next seq) || !((pfx U 5).all okF)) = true then (90 : Int) else if runP freshP [] (pfx U 5) = false then 92 else if (pfx U 5).all (fun f => decide (f.num < next)) = false then 94 else if (List.range 5).all (fun i => risesF i (U i)) = false then 93 else 0) = (if (!(okH log next seq) || !((pfx U' 5).all okF)) = true then (90 : Int) else if runP freshP [] (pfx U' 5) = false then 92 else if (pfx U' 5).all (fun f => decide (f.num < next)) = false then 94 else if (List.range 5).all (fun i => risesF i (U' i)) = false then 93 else 0)
  rw [all_eq hq okF, fresh_eq hq, all_eq hq (fun f => decide (f.num < next)), h4]
/-- .. and are one, if they may be. -/
theorem Comes.one {v : Vn} {e : Ed} {U U' : Nat → List Fl} (h : Comes v e U) (h' : Comes v e U') {log next : Int} {seq : Nat} (c : chkV ⟨log, next, seq, U'⟩ = 0) : ∀ i, i < 5 → U i = U' i := fun i hi =>
  sort_one i (U i) (U' i) ((h.perm i hi).trans (h'.perm i hi).symm) (h.sort i hi) (rises_pair i _ (((chk_iff _).1 c).rise i hi))
/-- The error is one, whatever order equal tables come in. -/
theorem errA_one {v : Vn} {e : Ed} {c c' : Int} (h : errA v e c) (h' : errA v e c') : c = c' := by
  unfold errA at h h'
  rcases h with ⟨a1, a2⟩ | ⟨a1, a2, a3⟩ | ⟨a1, a2, U, a3, a4, a5⟩ <;> rcases h' with ⟨b1, b2⟩ | ⟨b1, b2, b3⟩ | ⟨b1, b2, U', b3, b4, b5⟩
  · rw [a2, b2]
  · exact absurd b1 a1
  · exact absurd b1 a1
  · exact absurd a1 b1
  · rw [a3, b3]
  · exact absurd a2 b2
  · exact absurd a1 b1
  · exact absurd b2 a2
  · rw [a5, b5]; exact a3.chk b3 _ _ _
theorem errA_not {v : Vn} {e : Ed} {c : Int} (h : errA v e c) (U : Nat → List Fl) : ¬ okA9 v e U := by
  intro o
  unfold errA at h
  rcases h with ⟨a1, _⟩ | ⟨_, a2, _⟩ | ⟨_, _, U', a3, a4, _⟩
  · exact a1 o.cnt
  · exact o.back a2
  · exact a4 ((a3.chk o.comes _ _ _).trans o.chk)
end Go.Proofs.Ytckdcaegnbgomaa
namespace Go.Proofs.Ytckdcaegnbgomaa
open Go.ChangeShapes Go.WideShapes Go.ChangeAt Go.RowKit

/-- A table put in ahead of the first that is not ahead of it. -/
def insF (i : Nat) (f : Fl) : List Fl → List Fl
  | [] => [f]
  | a :: r => if cmpF i a f < 0 then a :: insF i f r else f :: a :: r
theorem insF_perm (i : Nat) (f : Fl) : ∀ l : List Fl, (insF i f l).Perm (l ++ [f])
  | [] => List.Perm.refl _
  | a :: r => by
    unfold insF
    split
    · exact (insF_perm i f r).cons a
    · exact (List.perm_append_singleton f (a :: r)).symm
theorem insF_mem {i : Nat} {f x : Fl} {l : List Fl} (h : x ∈ insF i f l) : x = f ∨ x ∈ l := by
  have := (insF_perm i f l).mem_iff.1 h
  rcases List.mem_append.1 this with h | h
  · exact .inr h
  · exact .inl (by simpa using h)
theorem insF_sort (i : Nat) (f : Fl) : ∀ l : List Fl, l.Pairwise (fun a b => ¬ cmpF i b a < 0) → (insF i f l).Pairwise (fun a b => ¬ cmpF i b a < 0)
  | [], _ => List.pairwise_singleton _ _
  | a :: r, h => by
    obtain ⟨p1, p2⟩ := List.pairwise_cons.1 h
    unfold insF
    split
    next hc =>
      refine List.pairwise_cons.2 ⟨fun x hx => ?_, insF_sort i f r p2⟩
      rcases insF_mem hx with rfl | hx
      · rw [cmpF_neg i a x]; omega
      · exact p1 x hx
    next hc =>
      refine List.pairwise_cons.2 ⟨fun x hx => ?_, h⟩
      rcases List.mem_cons.1 hx with rfl | hx
      · exact hc
      · exact cmpF_nlt i (p1 x hx) hc
theorem insF_at (i : Nat) (f : Fl) : ∀ (l : List Fl) (k : Nat), k ≤ l.length → (∀ (j : Nat) (a : Fl), j < k → l[j]? = some a → cmpF i a f < 0) → (∀ a : Fl, l[k]? = some a → ¬ cmpF i a f < 0) → insF i f l = l.take k ++ f :: l.drop k
  | [], k, hk, _, _ => by
    have : k = 0 := by simpa using hk
    subst this
    rfl
  | a :: r, 0, _, _, h2 => by
    unfold insF
    rw [if_neg (h2 a rfl)]
    rfl
  | a :: r, k + 1, hk, h1, h2 => by
    unfold insF
    rw [if_pos (h1 0 a (by omega) rfl), insF_at i f r k (by simpa using hk) (fun j b hj hb => h1 (j + 1) b (by omega) (by simpa using hb)) (fun b hb => h2 b (by simpa using hb))]
    rfl
/-- .. one by one. -/
def insA (Z : Nat → List Fl) (ps : List (Int × Fl)) : Nat → List Fl := ps.foldl (fun Z p => upA Z p.1.toNat (insF p.1.toNat p.2 (Z p.1.toNat))) Z
theorem insA_snoc (Z : Nat → List Fl) (ps : List (Int × Fl)) (p : Int × Fl) : insA Z (ps ++ [p]) = upA (insA Z ps) p.1.toNat (insF p.1.toNat p.2 (insA Z ps p.1.toNat)) := by
  unfold insA; rw [List.foldl_append]; rfl
theorem insA_take (Z : Nat → List Fl) {ps : List (Int × Fl)} {k : Nat} {p : Int × Fl} (h : ps[k]? = some p) : insA Z (ps.take (k + 1)) = upA (insA Z (ps.take k)) p.1.toNat (insF p.1.toNat p.2 (insA Z (ps.take k) p.1.toNat)) := by
  rw [List.take_add_one, h]; exact insA_snoc Z _ p
theorem insA_comes : ∀ (ps : List (Int × Fl)) (Z : Nat → List Fl), (∀ p ∈ ps, 0 ≤ p.1) → (∀ i, (Z i).Pairwise (fun a b => ¬ cmpF i b a < 0)) → ∀ i, (insA Z ps i).Perm (Z i ++ addF ps i) ∧ (insA Z ps i).Pairwise (fun a b => ¬ cmpF i b a < 0)
  | [], Z, _, hs, i => ⟨by simp [insA, addF], hs i⟩
  | p :: ps, Z, h0, hs, i => by
    have hp := h0 p (by simp)
    obtain ⟨q1, q2⟩ := insA_comes ps (upA Z p.1.toNat (insF p.1.toNat p.2 (Z p.1.toNat))) (fun q hq => h0 q (by simp [hq])) (fun k => by
      by_cases e : k = p.1.toNat
      · subst e; rw [upA_same]; exact insF_sort _ _ _ (hs _)
      · rw [upA_ne _ _ e]; exact hs k) i
    refine ⟨q1.trans ?_, q2⟩
    by_cases e : i = p.1.toNat
    · have e2 : (p.1 == (i : Int)) = true := by simp; omega
      have e3 : addF (p :: ps) i = p.2 :: addF ps i := by unfold addF; rw [List.filter_cons, if_pos e2]; rfl
      rw [e3]
      subst e
      rw [upA_same]
      have := (insF_perm p.1.toNat p.2 (Z p.1.toNat)).append_right (addF ps p.1.toNat)
      rw [List.append_assoc] at this
      exact this
    · have e2 : ¬ (p.1 == (i : Int)) = true := by simp; omega
      have e3 : addF (p :: ps) i = addF ps i := by unfold addF; rw [List.filter_cons, if_neg e2]
      rw [e3, upA_ne _ _ e]
end Go.Proofs.Ytckdcaegnbgomaa
