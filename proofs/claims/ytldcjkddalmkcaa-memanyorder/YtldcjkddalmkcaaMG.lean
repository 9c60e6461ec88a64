/-
  An entry is put into a table's blocks: height by height; the order of keys.
-/
import Derived.Test.YtldcjkddalmkcaaMF
namespace Go.Proofs.Ytldcjkddalmkcaa
open Go.ChangeShapes Go.WideShapes Go.ChangeAt Go.RowKit

theorem ordK_lt {a b c : List Nat} (h1 : ordK a b < 0) (h2 : ordK b c < 0) : ordK a c < 0 := by
  have h3 := ordK_trans a b c (by omega) (by omega)
  by_cases h : ordK a c = 0
  · have h4 := ordK_neg a c
    have h5 := ordK_trans b c a (by omega) (by omega)
    have h6 := ordK_neg a b
    omega
  · omega
theorem ordK_le_lt {a b c : List Nat} (h1 : ordK a b ≤ 0) (h2 : ordK b c < 0) : ordK a c < 0 := by
  have h3 := ordK_trans a b c h1 (by omega)
  by_cases h : ordK a c = 0
  · have h4 := ordK_neg a c
    have h5 := ordK_trans c a b (by omega) h1
    have h6 := ordK_neg b c
    omega
  · omega
theorem cutK_ex : ∀ {es : List E} (k : List Nat), es.Pairwise (fun a b => ordK a.key b.key < 0) → ∃ pre post, CutK es pre post k
  | [], k, _ => ⟨[], [], rfl, fun e h => (by cases h), fun e h => (by cases h)⟩
  | x :: es, k, h => by
    obtain ⟨h1, h2⟩ := List.pairwise_cons.1 h
    by_cases hx : ordK x.key k < 0
    · obtain ⟨pre, post, rfl, hlo, hhi⟩ := cutK_ex k h2
      refine ⟨x :: pre, post, rfl, fun e he => ?_, hhi⟩
      rcases List.mem_cons.1 he with rfl | he
      · exact hx
      · exact hlo e he
    · refine ⟨[], x :: es, rfl, fun e h => (by cases h), fun e he => ?_⟩
      rcases List.mem_cons.1 he with rfl | he
      · exact hx
      · exact fun hl => hx (ordK_lt (h1 e he) hl)
/-- A key that isn't there: what follows is behind it. -/
theorem CutK.gt {es pre post : List E} {k : List Nat} (C : CutK es pre post k) (hne : ∀ e ∈ post, e.key ≠ k) (hbe : ∀ e ∈ post, By e.key ∧ 8 ≤ e.key.length) (hb : By k) (hk : 8 ≤ k.length) : ∀ e ∈ post, ordK k e.key < 0 := fun e he => by
  have h1 := C.hi e he
  have h2 : ordK e.key k ≠ 0 := fun h => hne e he (ordK_eq (hbe e he).1 hb (hbe e he).2 hk h)
  have h3 := ordK_neg e.key k
  omega

theorem nd_same : ∀ {l1 m1 l2 m2 : List E} {x e : E}, ((l1 ++ x :: l2).map E.b).Nodup → l1 ++ x :: l2 = m1 ++ e :: m2 → x.b = e.b → l2 = m2 ∧ x = e
  | [], [], l2, m2, x, e, _, h, _ => by
    simp only [List.nil_append, List.cons.injEq] at h
    exact ⟨h.2, h.1⟩
  | [], y :: m1, l2, m2, x, e, hn, h, hb => by
    simp only [List.nil_append, List.cons_append, List.cons.injEq] at h
    obtain ⟨rfl, rfl⟩ := h
    exfalso
    rw [List.nil_append, List.map_cons, List.nodup_cons] at hn
    exact hn.1 (by rw [hb]; simp)
  | y :: l1, [], l2, m2, x, e, hn, h, hb => by
    simp only [List.nil_append, List.cons_append, List.cons.injEq] at h
    obtain ⟨rfl, rfl⟩ := h
    exfalso
    rw [List.cons_append, List.map_cons, List.nodup_cons] at hn
    exact hn.1 (by rw [← hb]; simp)
  | y :: l1, z :: m1, l2, m2, x, e, hn, h, hb => by
    simp only [List.cons_append, List.cons.injEq] at h
    rw [List.cons_append, List.map_cons, List.nodup_cons] at hn
    exact nd_same hn.2 h.2 hb
theorem up_b (k k' : Nat) (n : E) (pre post : List E) : (pre ++ up k n :: post).map E.b = (pre ++ up k' n :: post).map E.b := by simp [up]

theorem chain_zero {w : World} {B : Nat} {n : E} {post : List E} (hn : EntB w B (up 0 n) post) : ∀ {s : List E}, Chain w B (s ++ post) → Chain w B (s ++ up 0 n :: post)
  | [], h => ⟨hn, h⟩
  | x :: s, h => by
    refine ⟨?_, chain_zero hn h.2⟩
    obtain ⟨g1, g2, g3, g4, g5, g6, g7, g8, g9⟩ := h.1
    refine ⟨?_, g2, g3, g4, g5, g6, g7, g8, g9⟩
    unfold eCs
    rw [List.append_eq, tow_zero]; exact g1
theorem chain_up {w w' : World} {B k : Nat} {n : E} {post : List E} (hk : k < 12) (hu : ∀ j, U8 w j → w'.heap[j]? = w.heap[j]?)
    (hn : w'.heap[n.b]? = some (.cells (eCs (up (k + 1) n) post).toArray 70 (0, 0))) (hp : ∀ x ∈ post, w'.heap[x.b]? = w.heap[x.b]?) : ∀ {s : List E}, Chain w B (s ++ up k n :: post) →
    (∀ l1 x l2, s = l1 ++ x :: l2 → ((x.h ≤ k ∨ ∃ e ∈ l2, k < e.h) ∧ w'.heap[x.b]? = w.heap[x.b]?) ∨ (k < x.h ∧ (∀ e ∈ l2, e.h ≤ k) ∧ w'.heap[x.b]? = some (.cells ((eCs x (l2 ++ up k n :: post)).set (4 + k) (pt (n.b, 0))).toArray 70 (0, 0)))) →
    Chain w' B (s ++ up (k + 1) n :: post)
  | [], h, _ => by
    obtain ⟨g1, g2, g3, g4, g5, g6, g7, g8, g9⟩ := h.1
    exact ⟨⟨hn, g2, g3, g4.keep hu, g5.keep hu, g6.keep hu, g7, g8, g9⟩, Chain.step h.2 hp hu⟩
  | x :: s, h, hs => by
    refine ⟨?_, chain_up hk hu hn hp h.2 fun l1 y l2 e => hs (x :: l1) y l2 (by rw [e]; rfl)⟩
    obtain ⟨g1, g2, g3, g4, g5, g6, g7, g8, g9⟩ := h.1
    refine ⟨?_, g2, g3, g4.keep hu, g5.keep hu, g6.keep hu, g7, g8, g9⟩
    rcases hs [] x s rfl with ⟨q1, q2⟩ | ⟨q1, q2, q3⟩
    · rw [q2]
      unfold eCs
      rw [List.append_eq, tow_same q1]; exact g1
    · rw [q3, eCs_set (tow_last hk q1 q2)]; rfl

/-- One height of a new entry is linked. -/
theorem Mm.link1 {w : World} {B t : Nat} {hv : Value} {pre post : List E} {n : E} {c z k : Nat} (M : Mm w B t hv (pre ++ up k n :: post) c z) (hk : k < 12) :
    Mm ((w.setCell ⟨n.b, 4 + k, none⟩ (lk post k)).setCell ⟨(bfr (t, 1) pre k).1, (bfr (t, 1) pre k).2 + 4 + k, none⟩ (pt (n.b, 0))) B t hv (pre ++ up (k + 1) n :: post) c z := by
  obtain ⟨p, hp⟩ : ∃ p, p = bfr (t, 1) pre k := ⟨_, rfl⟩
  rw [← hp]
  have hnd := M.nd
  have hN := Chain.mid M.ch
  have hnt : n.b ≠ t := M.ne (up k n) (by simp)
  have hnd' := hnd
  rw [List.map_append, List.map_cons, List.nodup_append] at hnd'
  obtain ⟨n1, n2, n3⟩ := hnd'
  rw [List.nodup_cons] at n2
  have hnpost : ∀ x ∈ post, x.b ≠ n.b := fun x hx e => n2.1 (by rw [show (up k n).b = x.b from e.symm]; exact List.mem_map.2 ⟨x, hx, rfl⟩)
  have hnpre : ∀ x ∈ pre, x.b ≠ n.b := fun x hx e => n3 _ (List.mem_map.2 ⟨x, hx, rfl⟩) _ (List.mem_cons_self ..) e
  have hprepost : ∀ x ∈ pre, ∀ y ∈ post, x.b ≠ y.b := fun x hx y hy e => n3 _ (List.mem_map.2 ⟨x, hx, rfl⟩) _ (List.mem_cons_of_mem _ (List.mem_map.2 ⟨y, hy, rfl⟩)) e
  -- the place ahead is of the table: its block holds no bytes, and isn't the new one's
  have hcase := bfr_case (t, 1) pre k
  rw [← hp] at hcase
  have hpn : p.1 ≠ n.b := by
    rcases hcase with ⟨_, e⟩ | ⟨l1, x, l2, e0, _, _, e⟩
    · rw [e]; exact fun h => hnt h.symm
    · rw [e]; exact hnpre x (by rw [e0]; simp)
  have hppost : ∀ x ∈ post, x.b ≠ p.1 := by
    rcases hcase with ⟨_, e⟩ | ⟨l1, x, l2, e0, _, _, e⟩
    · rw [e]; exact fun x hx => M.ne x (by simp [hx])
    · rw [e]; exact fun y hy h => hprepost x (by rw [e0]; simp) y hy h.symm
  have hpno : ¬ U8 w p.1 := by
    rcases hcase with ⟨_, e⟩ | ⟨l1, x, l2, e0, _, _, e⟩
    · rw [e]; exact M.noT
    · rw [e]
      exact M.no _ (List.mem_cons_of_mem _ (List.mem_map.2 ⟨x, by rw [e0]; simp, rfl⟩))
  have hnno : ¬ U8 w n.b := hN.no
  have hkeep : ∀ j, j ≠ n.b → j ≠ p.1 → ((w.setCell ⟨n.b, 4 + k, none⟩ (lk post k)).setCell ⟨p.1, p.2 + 4 + k, none⟩ (pt (n.b, 0))).heap[j]? = w.heap[j]? := fun j h1 h2 => by
    rw [blk_setne _ _ _ h2, blk_setne _ _ _ h1]
  refine ⟨?_, M.hs, M.bt, ?_, by rw [up_b (k + 1) k]; exact hnd⟩
  · rcases hcase with ⟨e1, e2⟩ | ⟨l1, x, l2, e0, e1, e2, e3⟩
    · rw [e2]
      show (World.setCell _ ⟨t, 1 + 4 + k, none⟩ _).heap[t]? = _
      rw [show 1 + 4 + k = 5 + k from by omega, lst_set (by rw [blk_setne _ _ _ (fun e => hnt e.symm)]; exact M.tab), tCs_set hk (tow_last hk (by omega) e1)]
    · rw [hkeep t (fun e => hnt e.symm) (by rw [e3]; exact fun e => M.ne x (by rw [e0]; simp) e.symm), M.tab]
      unfold tCs
      rw [tow_same (h := 12) (.inr ⟨x, by rw [e0]; simp, e1⟩)]
  · refine chain_up hk (fun j hj => hkeep j (fun e => hnno (e ▸ hj)) (fun e => hpno (e ▸ hj))) ?_ (fun x hx => hkeep x.b (hnpost x hx) (hppost x hx)) M.ch ?_
    · have hNb : w.heap[n.b]? = some (.cells (eCs (up k n) post).toArray 70 (0, 0)) := hN.blk
      rw [blk_setne _ _ _ (fun e => hpn e.symm), lst_set hNb, show (eCs (up k n) post).set (4 + k) (lk post k) = eCs (up (k + 1) n) post from eCs_set (e := up k n) (h' := k + 1) (tow_new hk)]
    · intro l1 x l2 hs
      by_cases hq : x.h ≤ k ∨ ∃ e ∈ l2, k < e.h
      · refine .inl ⟨hq, hkeep x.b (hnpre x (by rw [hs]; simp)) fun he => ?_⟩
        rcases hcase with ⟨_, e⟩ | ⟨m1, y, m2, e0, e1, e2, e3⟩
        · rw [e] at he; exact M.ne x (by rw [hs]; simp) he
        · rw [e3] at he
          obtain ⟨rfl, rfl⟩ := nd_same (by rw [← hs]; exact n1) (hs.symm.trans e0) he
          rcases hq with hq | ⟨f, hf, hq⟩
          · omega
          · have := e2 f hf; omega
      · have h1 : k < x.h := by
          rcases Nat.lt_or_ge k x.h with h | h
          · exact h
          · exact absurd (.inl h) hq
        have h2 : ∀ e ∈ l2, e.h ≤ k := fun e he => by
          rcases Nat.lt_or_ge k e.h with h | h
          · exact absurd (.inr ⟨e, he, h⟩) hq
          · exact h
        have hpx : p = (x.b, 0) := by rw [hp, hs, bfr_mid _ _ _ h1, bfr_none h2]
        refine .inr ⟨h1, h2, ?_⟩
        rw [hpx]
        show (World.setCell _ ⟨x.b, 0 + 4 + k, none⟩ _).heap[x.b]? = _
        have hc : Chain w B (l1 ++ x :: (l2 ++ up k n :: post)) := by
          have := M.ch
          rw [hs] at this
          simpa [List.append_assoc] using this
        rw [show 0 + 4 + k = 4 + k from by omega, lst_set (by rw [blk_setne _ _ _ (hnpre x (by rw [hs]; simp))]; exact (Chain.mid hc).blk)]
/-- A new entry is laid, and isn't linked yet. -/
theorem Mm.lay {w : World} {B t : Nat} {hv : Value} {pre post : List E} {n : E} {c z : Nat} (M : Mm w B t hv (pre ++ post) c z) (hn : EntB w B (up 0 n) post) (hb : ∀ x ∈ pre ++ post, x.b ≠ n.b) : Mm w B t hv (pre ++ up 0 n :: post) c z := by
  refine ⟨?_, M.hs, M.bt, chain_zero hn M.ch, ?_⟩
  · rw [M.tab]; unfold tCs; rw [tow_zero]
  · have h := M.nd
    rw [List.map_append] at h ⊢
    rw [List.map_cons, List.nodup_append]
    obtain ⟨h1, h2, h3⟩ := List.nodup_append.1 h
    refine ⟨h1, List.nodup_cons.2 ⟨fun hm => ?_, h2⟩, fun a ha b hb' e => ?_⟩
    · obtain ⟨x, hx, e⟩ := List.mem_map.1 hm
      exact hb x (by simp [hx]) e
    · rcases List.mem_cons.1 hb' with hb' | hb'
      · obtain ⟨x, hx, rfl⟩ := List.mem_map.1 ha
        exact hb x (by simp [hx]) (e.trans hb')
      · exact h3 a ha b hb' e
/-- The table counts. -/
theorem Mm.count {w : World} {B t : Nat} {hv : Value} {es : List E} {c z : Nat} (M : Mm w B t hv es c z) (c' z' : Nat) :
    Mm ((w.setCell ⟨t, 17, none⟩ (.int .i64 (c' : Int))).setCell ⟨t, 18, none⟩ (.int .i64 (z' : Int))) B t hv es c' z' := by
  have hk : ∀ j, j ≠ t → ((w.setCell ⟨t, 17, none⟩ (.int .i64 (c' : Int))).setCell ⟨t, 18, none⟩ (.int .i64 (z' : Int))).heap[j]? = w.heap[j]? := fun j h => by rw [blk_setne _ _ _ h, blk_setne _ _ _ h]
  refine ⟨?_, M.hs, M.bt, M.ch.step (fun e he => hk e.b (M.ne e he)) (fun j hj => hk j fun e => M.noT (e ▸ hj)), M.nd⟩
  rw [lst_set (lst_set M.tab 17 _)]
  congr 3
end Go.Proofs.Ytldcjkddalmkcaa
