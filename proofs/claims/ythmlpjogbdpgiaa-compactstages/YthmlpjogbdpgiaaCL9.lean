/-
  keeper's closure: does an entry stay?
-/
import Derived.Test.YthmlpjogbdpgiaaCK9
import Derived.Test.YthmlpjogbdpgiaaJ09
import Derived.Test.YthmlpjogbdpgiaaJ11
namespace Go.Proofs.Ythmlpjogbdpgiaa
open Go.ChangeShapes Go.WideShapes Go.ChangeAt Go.RowKit

/-- The user key of the last one taken. -/
def usr (T : Ps) : List Nat := if T.length = 0 then [] else userL (kA T (T.length - 1))
/-- Does everybody see the last one taken who sees none above old? -/
def snT (old : Nat) (T : Ps) : Bool := decide (0 < T.length) && decide (seqA T (T.length - 1) ≤ old)
theorem kA_last (T : Ps) (x : List Nat × List Nat) : kA (T ++ [x]) T.length = x.1 := by
  unfold kA; rw [List.getElem?_append_right (Nat.le_refl _)]; simp
theorem kA_init (T : Ps) (x : List Nat × List Nat) {i : Nat} (h : i < T.length) : kA (T ++ [x]) i = kA T i := by
  unfold kA; rw [List.getElem?_append_left h]
theorem usr_app (T : Ps) (x : List Nat × List Nat) : usr (T ++ [x]) = userL x.1 := by
  unfold usr
  rw [if_neg (by simp), show (T ++ [x]).length - 1 = T.length from by simp, kA_last]
theorem snT_app (old : Nat) (T : Ps) (x : List Nat × List Nat) : snT old (T ++ [x]) = decide (tailN x.1 / 256 ≤ old) := by
  unfold snT seqA
  rw [decide_eq_true (by simp), show (T ++ [x]).length - 1 = T.length from by simp, kA_last]; rfl
theorem stay_app (old : Nat) (sp T : Ps) (x : List Nat × List Nat) : stay old sp (T ++ [x]) T.length = (!(decide (userL x.1 = usr T) && snT old T) && !(decide (tailN x.1 % 256 = 0) && (decide (tailN x.1 / 256 ≤ old) && !inSp sp (userL x.1)))) := by
  unfold stay seqA snT seqA usr
  rw [kA_last]
  by_cases h : T.length = 0
  · rw [decide_eq_false (show ¬ 0 < T.length by omega), Bool.false_and, Bool.false_and, Bool.and_false]
  · rw [if_neg h, kA_init T x (i := T.length - 1) (by omega), decide_eq_true (show 0 < T.length by omega), Bool.true_and, Bool.true_and]
theorem sn_falls {old : Nat} {T : Ps} {x : List Nat × List Nat} (h : (T ++ [x]).Pairwise Lt) (hu : userL x.1 = usr T) (hs : snT old T = true) : tailN x.1 / 256 ≤ old := by
  unfold snT at hs
  rw [Bool.and_eq_true, decide_eq_true_iff, decide_eq_true_iff] at hs
  obtain ⟨h1, h2⟩ := hs
  obtain ⟨n, hn⟩ : ∃ n, T.length = n + 1 := ⟨T.length - 1, by omega⟩
  have h3 := seq_falls h (i := n) (by simp; omega) (by
    rw [← hn, kA_last, kA_init T x (by omega)]
    unfold usr at hu
    rw [if_neg (by omega), show T.length - 1 = n by omega] at hu
    exact hu)
  unfold seqA at h2 h3
  rw [← hn, kA_last, kA_init T x (by omega)] at h3
  rw [show T.length - 1 = n by omega] at h2
  omega
theorem usr_rises {T : Ps} {x : List Nat × List Nat} (h : (T ++ [x]).Pairwise Lt) (h0 : T.length ≠ 0) : cmpN (usr T) (userL x.1) ≤ 0 := by
  have h1 := user_rises h (i := T.length - 1) (j := T.length) (by omega) (by simp)
  rw [kA_last, kA_init T x (by omega)] at h1
  unfold usr
  rw [if_neg h0]; exact h1
theorem cmpN_nil_le (u : List Nat) : cmpN [] u ≤ 0 := by cases u <;> simp [cmpN]
theorem usr_rises0 {T : Ps} {x : List Nat × List Nat} (h : (T ++ [x]).Pairwise Lt) : cmpN (usr T) (userL x.1) ≤ 0 := by
  by_cases h0 : T.length = 0
  · unfold usr; rw [if_pos h0]; exact cmpN_nil_le _
  · exact usr_rises h h0
/-- keeper's closure midway: T taken. -/
structure KI (w0 W : World) (U Sb O C A B R Q : Nat) (old : Nat) (L T : Ps) (k : Nat) : Prop where
  wi : WI w0 W A B R Q L k
  hu : ∀ s ∈ L.take k, cmpN s.1 (usr T) ≤ 0
  hU : ∃ ua uc, W.heap[U]? = some (.cells #[.slice ua (usr T).length uc] 35 (0, 0)) ∧ W.ownsRow w0.heap.size 5 1 (.slice ua (usr T).length uc) (usr T).length (bv (usr T))
  hS : W.heap[Sb]? = some (.cells #[.bool (snT old T)] 4 (0, 0))
  hO : W.heap[O]? = some (.cells #[.int .u64 (old : Int)] 23 (0, 0))
  hC : W.heap[C]? = some (.cells #[.func (.func 55) #[] #[.pointer (some ⟨A, 0, none⟩), .pointer (some ⟨B, 0, none⟩), .pointer (some ⟨R, 0, none⟩)]] 63 (0, 0))
  bU : w0.heap.size ≤ U
  bS : w0.heap.size ≤ Sb
  bO : w0.heap.size ≤ O
  bC : w0.heap.size ≤ C
  uR : U ≠ R
  uQ : U ≠ Q
  sB : Sb ≠ B
  sQ : Sb ≠ Q
  oQ : O ≠ Q
  cQ : C ≠ Q
theorem KI.by {w0 W : World} {U Sb O C A B R Q old : Nat} {L T : Ps} {k : Nat} (_h : KI w0 W U Sb O C A B R Q old L T k) (hT : ByP T) : By (usr T) := by
  unfold usr
  split
  · exact fun x hx => by cases hx
  · exact ((kA_by hT _).1).take _
/-- What else is there stays, whatever becomes of other blocks. -/
theorem KI.keep {w0 W W' : World} {U Sb O C A B R Q old : Nat} {L T : Ps} {k : Nat} {S : List Nat} (h : KI w0 W U Sb O C A B R Q old L T k) (f : Fr S W W') (hS : ∀ x ∈ S, w0.heap.size ≤ x ∧ x ≠ A ∧ x ≠ B ∧ x ≠ R ∧ x ≠ Q ∧ x ≠ U ∧ x ≠ Sb ∧ x ≠ O ∧ x ≠ C) (hT : ∀ x ∈ S, ∃ cs T, W.heap[x]? = some (.cells cs T (0, 0)) ∧ T ≠ 5) : KI w0 W' U Sb O C A B R Q old L T k := by
  obtain ⟨ua, uc, hU, oU⟩ := h.hU
  refine ⟨h.wi.keep f (fun x hx => ⟨(hS x hx).1, (hS x hx).2.1, (hS x hx).2.2.1, (hS x hx).2.2.2.1, (hS x hx).2.2.2.2.1⟩), h.hu, ⟨ua, uc, f.at hU (fun m => (hS U m).2.2.2.2.2.1 rfl), own_keepF oU f (fun k hk m => ?_)⟩, f.at h.hS (fun m => (hS Sb m).2.2.2.2.2.2.1 rfl), f.at h.hO (fun m => (hS O m).2.2.2.2.2.2.2.1 rfl), f.at h.hC (fun m => (hS C m).2.2.2.2.2.2.2.2 rfl), h.bU, h.bS, h.bO, h.bC, h.uR, h.uQ, h.sB, h.sQ, h.oQ, h.cQ⟩
  obtain ⟨cs, Ty, h1, h2⟩ := hT k m
  exact own_not oU h1 h2 hk
theorem own_baseC {W : World} {B B' s n : Nat} {e : TypeId} {v : Value} {xs : List Value} (h : W.ownsRow B e s v n xs) (hb : B' ≤ B) : W.ownsRow B' e s v n xs := by
  refine ⟨h.1, ?_⟩
  rcases h.2 with k | ⟨g, cap, cur, h1, h2, h3⟩
  · exact .inl k
  · exact .inr ⟨g, cap, cur, h1, Nat.le_trans hb h2, h3⟩
theorem KI.tys {w0 W : World} {U Sb O C A B R Q old : Nat} {L T : Ps} {k : Nat} (h : KI w0 W U Sb O C A B R Q old L T k) : (U ≠ A ∧ U ≠ B ∧ Sb ≠ A ∧ Sb ≠ R ∧ U ≠ Sb) ∧ (O ≠ A ∧ O ≠ B ∧ O ≠ R ∧ O ≠ U ∧ O ≠ Sb) ∧ (C ≠ A ∧ C ≠ B ∧ C ≠ R ∧ C ≠ U ∧ C ≠ Sb) ∧ ∀ x ∈ [A, B, R, U, Sb], ∃ cs T, W.heap[x]? = some (.cells cs T (0, 0)) ∧ T ≠ 5 := by
  obtain ⟨a, c, hA, _⟩ := h.wi.hA
  obtain ⟨ra, rl, rc, hR, _⟩ := h.wi.hR
  have hB := h.wi.hB
  obtain ⟨ua, uc, hU, _⟩ := h.hU
  have hS := h.hS
  have hO := h.hO
  have hC := h.hC
  have key : ∀ {x y : Nat} {c1 c2 : Array Value} {T1 T2 : TypeId}, W.heap[x]? = some (.cells c1 T1 (0, 0)) → W.heap[y]? = some (.cells c2 T2 (0, 0)) → T1 ≠ T2 → x ≠ y := fun h1 h2 hne e => by
    rw [e, h2] at h1
    simp only [Option.some.injEq, Obj.cells.injEq] at h1
    exact hne h1.2.1.symm
  refine ⟨⟨key hU hA (by decide), key hU hB (by decide), key hS hA (by decide), key hS hR (by decide), key hU hS (by decide)⟩, ⟨key hO hA (by decide), key hO hB (by decide), key hO hR (by decide), key hO hU (by decide), key hO hS (by decide)⟩, ⟨key hC hA (by decide), key hC hB (by decide), key hC hR (by decide), key hC hU (by decide), key hC hS (by decide)⟩, fun x hx => ?_⟩
  simp only [List.mem_cons, List.not_mem_nil, or_false] at hx
  rcases hx with rfl | rfl | rfl | rfl | rfl
  · exact ⟨_, _, hA, by decide⟩
  · exact ⟨_, _, hB, by decide⟩
  · exact ⟨_, _, hR, by decide⟩
  · exact ⟨_, _, hU, by decide⟩
  · exact ⟨_, _, hS, by decide⟩
theorem KI.cov {w0 W W' : World} {U Sb O C A B R Q old : Nat} {L T : Ps} {k k' : Nat} (h : KI w0 W U Sb O C A B R Q old L T k) (wi : WI w0 W' A B R Q L k') (hu : ∀ s ∈ L.take k', cmpN s.1 (usr T) ≤ 0) (f : Fr [A, B, R] W W') : KI w0 W' U Sb O C A B R Q old L T k' := by
  obtain ⟨⟨t1, t2, t3, t4, t5⟩, ⟨o1, o2, o3, o4, o5⟩, ⟨c1, c2, c3, c4, c5⟩, ty⟩ := h.tys
  obtain ⟨ua, uc, hU, oU⟩ := h.hU
  refine ⟨wi, hu, ⟨ua, uc, f.at hU (by simp; exact ⟨t1, t2, h.uR⟩), own_keepF oU f (fun k hk m => ?_)⟩, f.at h.hS (by simp; exact ⟨t3, h.sB, t4⟩), f.at h.hO (by simp; exact ⟨o1, o2, o3⟩), f.at h.hC (by simp; exact ⟨c1, c2, c3⟩), h.bU, h.bS, h.bO, h.bC, h.uR, h.uQ, h.sB, h.sQ, h.oQ, h.cQ⟩
  obtain ⟨cs, Ty, h1, h2⟩ := ty k (by simp at m ⊢; rcases m with e | e | e <;> simp [e])
  exact own_not oU h1 h2 hk
/-- The same user key again. -/
theorem KI.nextS {w0 W : World} {U Sb O C A B R Q old : Nat} {L T T' : Ps} {k : Nat} (h : KI w0 W U Sb O C A B R Q old L T k) (he : usr T' = usr T) {b : Bool} (hb : b = snT old T') : KI w0 (W.setCell ⟨Sb, 0, none⟩ (.bool b)) U Sb O C A B R Q old L T' k ∧ Fr [A, B, R, U, Sb] W (W.setCell ⟨Sb, 0, none⟩ (.bool b)) := by
  obtain ⟨⟨t1, t2, t3, t4, t5⟩, ⟨o1, o2, o3, o4, o5⟩, ⟨c1, c2, c3, c4, c5⟩, ty⟩ := h.tys
  obtain ⟨ua, uc, hU, oU⟩ := h.hU
  have f : Fr [Sb] W (W.setCell ⟨Sb, 0, none⟩ (.bool b)) := (Fr.refl _ W).set _ _ (.inl (by simp))
  have o2 := own_keepF oU f (fun k hk m => by
    rw [List.mem_singleton] at m
    subst m
    exact own_not oU h.hS (by decide) hk)
  exact ⟨⟨h.wi.keep f (by have := h.bS; have := h.sB; have := h.sQ; simp; exact ⟨by omega, t3, by omega, t4, by omega⟩), by rw [he]; exact h.hu, ⟨ua, uc, by rw [he]; exact f.at hU (by simpa using t5), by rw [he]; exact o2⟩, by rw [blk_set h.hS _ _, hb]; rfl, f.at h.hO (by simpa using o5), f.at h.hC (by simpa using c5), h.bU, h.bS, h.bO, h.bC, h.uR, h.uQ, h.sB, h.sQ, h.oQ, h.cQ⟩, f.mono (by simp)⟩
theorem KI.same {w0 W : World} {U Sb O C A B R Q old : Nat} {L T T' : Ps} {k : Nat} (h : KI w0 W U Sb O C A B R Q old L T k) (he : usr T' = usr T) (hb : snT old T' = snT old T) : KI w0 W U Sb O C A B R Q old L T' k :=
  ⟨h.wi, by rw [he]; exact h.hu, by rw [he]; exact h.hU, by rw [hb]; exact h.hS, h.hO, h.hC, h.bU, h.bS, h.bO, h.bC, h.uR, h.uQ, h.sB, h.sQ, h.oQ, h.cQ⟩
/-- Another user key. -/
theorem KI.nextU {w0 W : World} {U Sb O C A B R Q old : Nat} {L T T' : Ps} {k : Nat} (h : KI w0 W U Sb O C A B R Q old L T k) {na : Option Addr} {nc : Nat} (hu : ∀ s ∈ L.take k, cmpN s.1 (usr T') ≤ 0) (on : W.ownsRow w0.heap.size 5 1 (.slice na (usr T').length nc) (usr T').length (bv (usr T'))) {b0 b : Bool} (hb : b = snT old T') :
    KI w0 (((W.setCell ⟨U, 0, none⟩ (.slice na (usr T').length nc)).setCell ⟨Sb, 0, none⟩ (.bool b0)).setCell ⟨Sb, 0, none⟩ (.bool b)) U Sb O C A B R Q old L T' k ∧ Fr [A, B, R, U, Sb] W (((W.setCell ⟨U, 0, none⟩ (.slice na (usr T').length nc)).setCell ⟨Sb, 0, none⟩ (.bool b0)).setCell ⟨Sb, 0, none⟩ (.bool b)) := by
  obtain ⟨⟨t1, t2, t3, t4, t5⟩, ⟨o1, o2, o3, o4, o5⟩, ⟨c1, c2, c3, c4, c5⟩, ty⟩ := h.tys
  obtain ⟨ua, uc, hU, oU⟩ := h.hU
  have f : Fr [U, Sb] W (((W.setCell ⟨U, 0, none⟩ (.slice na (usr T').length nc)).setCell ⟨Sb, 0, none⟩ (.bool b0)).setCell ⟨Sb, 0, none⟩ (.bool b)) := (((Fr.refl _ W).set _ _ (.inl (by simp))).set _ _ (.inl (by simp))).set _ _ (.inl (by simp))
  have hS1 : (W.setCell ⟨U, 0, none⟩ (.slice na (usr T').length nc)).heap[Sb]? = some (.cells #[.bool (snT old T)] 4 (0, 0)) := by rw [blk_setne _ _ _ (fun e => t5 e.symm)]; exact h.hS
  refine ⟨⟨h.wi.keep f (by have := h.bS; have := h.bU; have := h.sB; have := h.sQ; have := h.uR; have := h.uQ; simp; exact ⟨⟨by omega, t1, t2, by omega, by omega⟩, by omega, t3, by omega, t4, by omega⟩), hu, ⟨na, nc, ?_, own_keepF on f (fun k hk m => ?_)⟩, ?_, f.at h.hO (by simp; exact ⟨o4, o5⟩), f.at h.hC (by simp; exact ⟨c4, c5⟩), h.bU, h.bS, h.bO, h.bC, h.uR, h.uQ, h.sB, h.sQ, h.oQ, h.cQ⟩, f.mono (by simp)⟩
  · rw [blk_setne _ _ _ t5, blk_setne _ _ _ t5, blk_set hU _ _]; rfl
  · obtain ⟨cs, Ty, h1, h2⟩ := ty k (by simp at m ⊢; rcases m with e | e <;> simp [e])
    exact own_not on h1 h2 hk
  · rw [blk_set (blk_set hS1 _ _) _ _, hb]; rfl
set_option maxRecDepth 20000 in
set_option maxHeartbeats 6400000 in
theorem keeper1_c {w0 W : World} {U Sb O C A B R Q old : Nat} {L T : Ps} {k : Nat} (h : KI w0 W U Sb O C A B R Q old L T k) (hs : SortL L) (hl : L.length ≤ 1000000) (hT : ByP T) {x : List Nat × List Nat} {ka : Option Addr} {kl kc : Nat} (rk : Rd w0 (.slice ka kl kc) (bv x.1)) (bk : By x.1) (ik : isK x.1 = true) (hp : (T ++ [x]).Pairwise Lt) :
    Calls Try.prog 42 #[.slice ka kl kc, .pointer (some ⟨U, 0, none⟩), .pointer (some ⟨Sb, 0, none⟩), .pointer (some ⟨O, 0, none⟩), .pointer (some ⟨C, 0, none⟩)] W fun e w' => ∃ k', e = .returned (.bool (stay old L (T ++ [x]) T.length)) ∧ KI w0 w' U Sb O C A B R Q old L (T ++ [x]) k' ∧ Fr [A, B, R, U, Sb] W w' := by
  have H0 := hid h
  obtain ⟨ua, uc, hU, oU⟩ := h.hU
  have hSx := h.hS
  have hO := h.hO
  have hC := h.hC
  have HBY := hid (h.by hT)
  have ED := hid (stay_app old L T x)
  have FALL := hid (fun (e : userL x.1 = usr T) (g : snT old T = true) => sn_falls hp e g)
  have RISE := hid (usr_rises0 hp)
  have SPY := hid (Split_yes W (rk.fr h.wi.fr) bk ik)
  have BX : Hid (By (userL x.1)) := hid (bk.take _)
  have KD : Hid (tailN x.1 % 256 = 0 ∨ tailN x.1 % 256 = 1) := hid (by
    have h1 : isK x.1 = true := ik
    unfold isK at h1
    simp only [Bool.and_eq_true, decide_eq_true_eq] at h1
    have h2 : tailN x.1 % 256 ≤ 1 := h1.2.2
    omega)
  have UAP := usr_app T x
  have SAP := snT_app old T x
  obtain ⟨sq, hsq⟩ : ∃ q, q = tailN x.1 / 256 := ⟨_, rfl⟩
  obtain ⟨kd, hkd⟩ : ∃ q, q = tailN x.1 % 256 := ⟨_, rfl⟩
  rw [← hsq] at ED FALL SPY SAP
  rw [← hkd] at ED SPY KD
  have UAPH := hid UAP
  have SAPH := hid SAP
  clear hsq hkd UAP SAP rk bk ik hT
  obtain ⟨nl, hnl⟩ : ∃ q, q = (userL x.1).length := ⟨_, rfl⟩
  have HNL := hid hnl
  rw [← hnl] at SPY
  obtain ⟨ul, hul⟩ : ∃ q, q = (usr T).length := ⟨_, rfl⟩
  have HUL := hid hul
  rw [← hul] at hU oU
  have HU := hid hU
  have OU := hid oU
  have HSX := hid hSx
  have HO := hid hO
  have HC := hid hC
  have HP := hid hp
  have TY := hid h.tys
  clear hnl hul h hU oU hSx hO hC hp
  have ENDS : Hid (∀ (X : World) (b : Bool), KI w0 X U Sb O C A B R Q old L (T ++ [x]) k → (Fr [A, B, R, U, Sb] W X) → ∃ va vc, X.heap[U]? = some (.cells #[.slice va nl vc] 35 (0, 0)) ∧ X.heap[Sb]? = some (.cells #[.bool (decide (sq ≤ old))] 4 (0, 0)) ∧ X.heap[C]? = some (.cells #[.func (.func 55) #[] #[.pointer (some ⟨A, 0, none⟩), .pointer (some ⟨B, 0, none⟩), .pointer (some ⟨R, 0, none⟩)]] 63 (0, 0)) ∧ Calls Try.prog 55 #[.slice va nl vc, .pointer (some ⟨A, 0, none⟩), .pointer (some ⟨B, 0, none⟩), .pointer (some ⟨R, 0, none⟩)] X fun e w' => ∃ k', e = .returned (.bool (inSp L (userL x.1))) ∧ KI w0 w' U Sb O C A B R Q old L (T ++ [x]) k' ∧ Fr [A, B, R, U, Sb] W w') := hid (fun X b ki f => by
    obtain ⟨va, vc, hv, ov⟩ := ki.hU
    rw [UAPH.out, ← HNL.out] at hv ov
    have hsx := ki.hS
    rw [SAPH.out] at hsx
    have hux := ki.hu
    rw [UAPH.out] at hux
    have tyx := ki.tys.2.2.2
    refine ⟨va, vc, hv, hsx, ki.hC, (within2_c ki.wi hs hl (fun W' g => ?_) BX.out hux).mono ?_⟩
    · have o2 := own_keepF ov g (fun k hk m => by
        obtain ⟨cs, Ty, h1, h2⟩ := tyx k (by simp at m ⊢; rcases m with e | e | e <;> simp [e])
        exact own_not ov h1 h2 hk)
      exact Rd.ownN o2 HNL.out
    · rintro e w' ⟨k', rfl, wi', hu', g⟩
      exact ⟨k', rfl, ki.cov wi' (by rw [UAPH.out]; exact hu') g, f.trans (g.mono (by simp))⟩)
  go_enter Try.func42, Try.ntmps42
  go_upto_region 2 with (go_at_call 31; refine SPY.out.mono ?_; rintro e w1 ⟨nv, rfl, o1, f1⟩; obtain ⟨na, nc, rfl, _⟩ := ownsRow_slice o1; have O1 := hid o1; have F1 := hid f1; clear o1 f1)
  have K1 := hid (H0.out.keep F1.out (by simp) (by simp))
  have f1 := F1.out
  have bU := f1.at HU.out (by simp)
  have bS := f1.at HSX.out (by simp)
  have bO := f1.at HO.out (by simp)
  have cU : w1.cell? ⟨U, 0, none⟩ = some (.slice ua ul uc) := by rw [blk_cell bU]; rfl
  have cS : w1.cell? ⟨Sb, 0, none⟩ = some (.bool (snT old T)) := by rw [blk_cell bS]; rfl
  have cO : w1.cell? ⟨O, 0, none⟩ = some (.int .u64 (old : Int)) := by rw [blk_cell bO]; rfl
  have fU := blk_frozen bU 0
  have fS := blk_frozen bS 0
  have BE := hid (bytesEqual_c (w := w1) (Rd.ownN O1.out HNL.out) ((Rd.ownN OU.out HUL.out).fr f1) BX.out HBY.out)
  have HWS := hid (Nat.le_trans H0.out.wi.fr.size (Nat.le_refl W.heap.size))
  clear f1
  by_cases hEq : userL x.1 = usr T
  · rw [decide_eq_true hEq] at BE
    have HEQ := hid hEq
    clear hEq
    rcases hsn : snT old T with _ | _
    · rw [hsn] at cS
      obtain ⟨X, hX⟩ : ∃ X, X = w1.setCell ⟨Sb, 0, none⟩ (.bool (decide (sq ≤ old))) := ⟨_, rfl⟩
      have KN := K1.out.nextS (T' := T ++ [x]) (by rw [UAPH.out]; exact HEQ.out) (b := decide (sq ≤ old)) SAPH.out.symm
      rw [← hX] at KN
      obtain ⟨kx, fx⟩ := KN
      have FX := hid ((F1.out.mono (S' := [A, B, R, U, Sb]) (by simp)).trans fx)
      have KX := hid kx
      obtain ⟨va, vc, hv, hsx, hcx, wc⟩ := ENDS.out X false kx FX.out
      have WC := hid wc
      have x0 : X.cell? ⟨U, 0, none⟩ = some (.slice va nl vc) := by rw [blk_cell hv]; rfl
      have x1 : X.cell? ⟨Sb, 0, none⟩ = some (.bool (decide (sq ≤ old))) := by rw [blk_cell hsx]; rfl
      have x2 : X.cell? ⟨C, 0, none⟩ = some (.func (.func 55) #[] #[.pointer (some ⟨A, 0, none⟩), .pointer (some ⟨B, 0, none⟩), .pointer (some ⟨R, 0, none⟩)]) := by rw [blk_cell hcx]; rfl
      clear kx fx hv hsx hcx wc
      go_upto_region 7 with (go_at_call 29; refine BE.out.mono ?_; rintro e w3 ⟨rfl, h⟩; rw [h]; clear h)
      rw [← hX]
      clear hX cU cS cO fU fS bU bS bO
      by_cases hso : sq ≤ old
      · rw [decide_eq_true hso] at x1
        rcases KD.out with hk0 | hk1
        · have ED2 : Hid (stay old L (T ++ [x]) T.length = inSp L (userL x.1)) := hid (by rw [ED.out, hsn, decide_eq_true HEQ.out, hk0, decide_eq_true hso]; simp)
          subst hk0
          go_wp2_with (go_at_call 55; refine WC.out.mono ?_; rintro e w4 ⟨k4, rfl, ki4, f4⟩; have K4 := hid ki4; have F4 := hid f4; clear ki4 f4)
          go_ret
          first | exact ⟨k4, by rw [ED2.out]; rfl, K4.out, F4.out⟩ | exact ⟨by rw [ED2.out]; rfl, k4, K4.out, F4.out⟩ | exact ⟨by rw [ED2.out]; rfl, ⟨k4, K4.out⟩, F4.out⟩
        · have ED2 : Hid (stay old L (T ++ [x]) T.length = true) := hid (by rw [ED.out, hsn, decide_eq_true HEQ.out, hk1]; simp)
          subst hk1
          go_wp2
          go_ret
          first | exact ⟨k, by rw [ED2.out]; rfl, KX.out, FX.out⟩ | exact ⟨by rw [ED2.out]; rfl, k, KX.out, FX.out⟩ | exact ⟨by rw [ED2.out]; rfl, ⟨k, KX.out⟩, FX.out⟩
      · have ED2 : Hid (stay old L (T ++ [x]) T.length = true) := hid (by rw [ED.out, hsn, decide_eq_true HEQ.out, decide_eq_false hso]; simp)
        rw [decide_eq_false hso] at x1
        go_wp2
        go_ret
        first | exact ⟨k, by rw [ED2.out]; rfl, KX.out, FX.out⟩ | exact ⟨by rw [ED2.out]; rfl, k, KX.out, FX.out⟩ | exact ⟨by rw [ED2.out]; rfl, ⟨k, KX.out⟩, FX.out⟩

    · have hso := FALL.out HEQ.out hsn
      rw [hsn] at cS
      have ED2 : Hid (stay old L (T ++ [x]) T.length = false) := hid (by rw [ED.out, hsn, decide_eq_true HEQ.out]; simp)
      have KX := hid (K1.out.same (T' := T ++ [x]) (by rw [UAPH.out]; exact HEQ.out) (by rw [SAPH.out, hsn, decide_eq_true hso]))
      go_wp2_with (go_at_call 29; refine BE.out.mono ?_; rintro e w3 ⟨rfl, h⟩; rw [h]; clear h)
      go_ret
      first | exact ⟨k, by rw [ED2.out]; rfl, KX.out, F1.out.mono (by simp)⟩ | exact ⟨by rw [ED2.out]; rfl, k, KX.out, F1.out.mono (by simp)⟩ | exact ⟨by rw [ED2.out]; rfl, ⟨k, KX.out⟩, F1.out.mono (by simp)⟩
  · rw [decide_eq_false hEq] at BE
    obtain ⟨X, hX⟩ : ∃ X, X = ((w1.setCell ⟨U, 0, none⟩ (.slice na nl nc)).setCell ⟨Sb, 0, none⟩ (.bool false)).setCell ⟨Sb, 0, none⟩ (.bool (decide (sq ≤ old))) := ⟨_, rfl⟩
    have HNE := hid hEq
    clear hEq
    have KN := K1.out.nextU (T' := T ++ [x]) (na := na) (nc := nc) (by rw [UAPH.out]; exact fun s hs' => cmpN_trans _ _ _ (K1.out.hu s hs') RISE.out) (by
      rw [UAPH.out, ← HNL.out]
      exact own_baseC O1.out HWS.out) (b0 := false) (b := decide (sq ≤ old)) SAPH.out.symm
    rw [UAPH.out, ← HNL.out] at KN
    rw [← hX] at KN
    obtain ⟨⟨_, _, _, _, hUS⟩, _, _, _⟩ := TY.out
    have c2 : (w1.setCell ⟨U, 0, none⟩ (.slice na nl nc)).cell? ⟨Sb, 0, none⟩ = some (.bool (snT old T)) := by rw [World.cell?_of_block (w := w1) (blk_setne _ _ _ (fun e => hUS e.symm))]; exact cS
    have hUS2 : Sb ≠ U := fun e => hUS e.symm
    have hOS : ¬ O = Sb := TY.out.2.1.2.2.2.2
    have hOU : ¬ O = U := TY.out.2.1.2.2.2.1
    obtain ⟨kx, fx⟩ := KN
    have FX := hid ((F1.out.mono (S' := [A, B, R, U, Sb]) (by simp)).trans fx)
    have KX := hid kx
    obtain ⟨va, vc, hv, hsx, hcx, wc⟩ := ENDS.out X false kx FX.out
    have WC := hid wc
    have x0 : X.cell? ⟨U, 0, none⟩ = some (.slice va nl vc) := by rw [blk_cell hv]; rfl
    have x1 : X.cell? ⟨Sb, 0, none⟩ = some (.bool (decide (sq ≤ old))) := by rw [blk_cell hsx]; rfl
    have x2 : X.cell? ⟨C, 0, none⟩ = some (.func (.func 55) #[] #[.pointer (some ⟨A, 0, none⟩), .pointer (some ⟨B, 0, none⟩), .pointer (some ⟨R, 0, none⟩)]) := by rw [blk_cell hcx]; rfl
    clear kx fx hv hsx hcx wc
    go_upto_region 7 with (go_at_call 29; refine BE.out.mono ?_; rintro e w3 ⟨rfl, h⟩; rw [h]; clear h)
    rw [← hX]
    clear hX cU cS cO fU fS bU bS bO
    by_cases hso : sq ≤ old
    · rw [decide_eq_true hso] at x1
      rcases KD.out with hk0 | hk1
      · have ED2 : Hid (stay old L (T ++ [x]) T.length = inSp L (userL x.1)) := hid (by rw [ED.out, decide_eq_false HNE.out, hk0, decide_eq_true hso]; simp)
        subst hk0
        go_wp2_with (go_at_call 55; refine WC.out.mono ?_; rintro e w4 ⟨k4, rfl, ki4, f4⟩; have K4 := hid ki4; have F4 := hid f4; clear ki4 f4)
        go_ret
        first | exact ⟨k4, by rw [ED2.out]; rfl, K4.out, F4.out⟩ | exact ⟨by rw [ED2.out]; rfl, k4, K4.out, F4.out⟩ | exact ⟨by rw [ED2.out]; rfl, ⟨k4, K4.out⟩, F4.out⟩
      · have ED2 : Hid (stay old L (T ++ [x]) T.length = true) := hid (by rw [ED.out, decide_eq_false HNE.out, hk1]; simp)
        subst hk1
        go_wp2
        go_ret
        first | exact ⟨k, by rw [ED2.out]; rfl, KX.out, FX.out⟩ | exact ⟨by rw [ED2.out]; rfl, k, KX.out, FX.out⟩ | exact ⟨by rw [ED2.out]; rfl, ⟨k, KX.out⟩, FX.out⟩
    · have ED2 : Hid (stay old L (T ++ [x]) T.length = true) := hid (by rw [ED.out, decide_eq_false HNE.out, decide_eq_false hso]; simp)
      rw [decide_eq_false hso] at x1
      go_wp2
      go_ret
      first | exact ⟨k, by rw [ED2.out]; rfl, KX.out, FX.out⟩ | exact ⟨by rw [ED2.out]; rfl, k, KX.out, FX.out⟩ | exact ⟨by rw [ED2.out]; rfl, ⟨k, KX.out⟩, FX.out⟩
end Go.Proofs.Ythmlpjogbdpgiaa
