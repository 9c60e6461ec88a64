/-
  What Level, Len and Size of package mem answer.
-/
import Derived.Test.YtldcjkddalmkcaaMK
import Derived.Test.YtldcjkddalmkcaaRo
namespace Go.Proofs.Ytldcjkddalmkcaa
open Go.ChangeShapes Go.WideShapes Go.ChangeAt Go.RowKit

/-- A list of the call's own with one row more. -/
theorem OwnL.grow {w w5 : World} {B : Nat} {v v5 u : Value} {rs : List (List Nat)} {r : List Nat} {cs : List Value} (o : w.ownsRow B 30 1 v rs.length cs) (l : Lst w B [v.ownBlock] rs cs) (ou : w.ownsRow B 5 1 u r.length (bv r)) (hb : By r) (hl : r.length ≤ 140737488355328) {X : Obj}
    (o5 : w5.ownsRow B 30 1 v5 (rs.length + 1) (cs ++ [u])) (g5 : (w.alloc X).grownBy w5 v.ownBlock) (q5 : v5.ownBlock = v.ownBlock ∨ v5.ownBlock = some (w.alloc X).heap.size) : OwnL w5 B v5 (rs ++ [r]) := by
  have hsz : w.heap.size < (w.alloc X).heap.size := by simp
  have hs5 : w.heap.size ≤ w5.heap.size := Nat.le_trans (Nat.le_of_lt hsz) g5.size
  have keep : ∀ k, k < w.heap.size → v.ownBlock ≠ some k → w5.heap[k]? = w.heap[k]? := fun k hk hq => by
    rw [g5.block k (by omega) (fun e => hq e.symm), blk_old _ _ hk]
  have hav := own_types ou o (by decide)
  refine ⟨cs ++ [u], by rw [List.length_append]; exact o5, Lst.snoc (l.step hs5 (fun k _ b2 b3 => keep k b2 (b3 _ (by simp))) ?_) ((Rd.ownB ou).step fun k hk => keep k (ou.lt k hk).2 (hav k hk)) hb hl ?_⟩
  · intro q hq
    simp only [List.mem_cons, List.not_mem_nil, or_false] at hq
    subst hq
    rcases q5 with e | e
    · rw [e]; exact .inl (by simp)
    · exact .inr fun k hk => by rw [e] at hk; simp at hk; omega
  · intro k hk
    refine ⟨(ou.lt k hk).1, by have := (ou.lt k hk).2; omega, fun q hq e => ?_⟩
    simp only [List.mem_cons, List.not_mem_nil, or_false] at hq
    subst hq
    rcases q5 with e' | e'
    · exact hav k hk (by rw [← e']; exact e)
    · rw [e'] at e; simp at e; have := (ou.lt k hk).2; omega
/-- The keys of the entries whose towers are higher than i. -/
def lvK (es : List E) (i : Nat) : List (List Nat) := (es.filter fun e => decide (i < e.h)).map E.key
theorem lvK_none {l r : List E} {i : Nat} (h : ∀ e ∈ l, e.h ≤ i) : lvK (l ++ r) i = lvK r i := by
  unfold lvK
  rw [List.filter_append, List.filter_eq_nil_iff.2 (fun e he => by have := h e he; simp; omega)]; rfl
theorem lvK_some {l r : List E} {e : E} {i : Nat} (h : ∀ x ∈ l, x.h ≤ i) (he : i < e.h) : lvK (l ++ e :: r) i = e.key :: lvK r i := by
  rw [lvK_none h]
  unfold lvK
  rw [List.filter_cons, if_pos (by simpa using he)]; rfl
theorem lvK_len (es : List E) (i : Nat) : (lvK es i).length ≤ es.length := by
  unfold lvK; rw [List.length_map]; exact List.length_filter_le _ _

/-- How many are left to go. -/
def lvM (es : List E) (v : Value) : Nat := match v with
  | .pointer none => 0
  | v => lft 0 es v + 1
theorem lvM_next {es d l2 : List E} {e : E} {i : Nat} (h : es = d ++ e :: l2) (hnd : (es.map E.b).Nodup) : lvM es (lk l2 i) < lvM es (pt (e.b, 0)) := by
  have h1 : lvM es (pt (e.b, 0)) = l2.length + 1 := by
    show lft 0 es (pt (e.b, 0)) + 1 = _
    rw [h] at hnd ⊢
    rw [lft_mid 0 d l2 e 0 hnd]
  rw [h1]
  rcases lk_case l2 i with ⟨q, _⟩ | ⟨m1, x, m2, hm, _, _, q⟩
  · rw [q]; exact Nat.succ_pos _
  · rw [q]
    show lft 0 es (pt (x.b, 0)) + 1 < _
    have h2 : es = (d ++ e :: m1) ++ x :: m2 := by rw [h, hm]; simp
    rw [h2] at hnd ⊢
    rw [lft_mid 0 (d ++ e :: m1) m2 x 0 hnd, hm]
    simp; omega
structure LvSt (w wr : World) (es left : List E) (i : Nat) (v5 : Value) (ks : List (List Nat)) : Prop where
  sub : ∃ d, es = d ++ left
  res : ks ++ lvK left i = lvK es i
  own : OwnL wr w.heap.size v5 ks
  fr : Fr [] w wr

set_option maxRecDepth 20000 in
set_option maxHeartbeats 2000000 in
theorem level_in (w : World) {B t : Nat} {hv : Value} {es : List E} {c z : Nat} (M : Mm w B t hv es c z) (hn : es.length ≤ 1000000) (i : Nat) (hi : i < 12) :
    Calls Try.prog 24 #[.pointer (some ⟨t, 0, none⟩), .int .i64 (i : Int)] w fun e w' => ∃ v, e = .returned v ∧ OwnL w' w.heap.size v (lvK es i) ∧ Fr [] w w' := by
  have hc := M.atHead.cell i hi
  obtain ⟨lp, hlp⟩ := lk_ptr es i
  rw [hlp] at hc
  replace hc : w.cell? ⟨t, 5 + i, none⟩ = some (.pointer lp) := hc
  have HM := hid M
  have HLP := hid hlp
  have hi1 : (i : Int) < 12 := by omega
  have hi2 : decide ((12 : Int) ≤ (i : Int)) = false := by simp; omega
  clear M hlp
  go_enter Try.func24, Try.ntmps24
  go_wp2_with fail
  go_loopw [5, 6] (fun v5 v6 wr => ∃ (left : List E) (ks : List (List Nat)), v6 = lk left i ∧ LvSt w wr es left i v5 ks) (fun _ v6 _ => lvM es v6)
  case atStart => exact ⟨es, [], HLP.out.symm, ⟨[], rfl⟩, rfl, ⟨[], World.ownsRow_nil _ _ _ _, Lst.nil _ _ _⟩, Fr.refl _ _⟩
  case round =>
    obtain ⟨left, ks, rfl, S⟩ := hrel
    have HS := hid S
    clear S hc
    rcases lk_case left i with ⟨e0, q0⟩ | ⟨l1, e, l2, rfl, q1, q2, q3⟩
    · rw [e0]
      have HR : Hid (ks = lvK es i) := by
        have := HS.out.res
        have h2 := lvK_none (r := []) q0
        rw [List.append_nil] at h2
        rw [h2, show lvK [] i = [] from rfl, List.append_nil] at this
        exact this
      go_wp2
      go_ret
      exact ⟨_, rfl, by rw [← HR.out]; exact HS.out.own, HS.out.fr⟩
    · rw [q3]
      obtain ⟨d, hd⟩ := HS.out.sub
      have hd' : es = (d ++ l1) ++ e :: l2 := by rw [hd, List.append_assoc]
      have g : EntB w B e l2 := Chain.mid (l := d ++ l1) (by rw [← hd']; exact HM.out.ch)
      have gr := (HM.out.fr HS.out.fr)
      have g2 : EntB wr B e l2 := Chain.mid (l := d ++ l1) (by rw [← hd']; exact gr.ch)
      have ck := g2.cells.1
      obtain ⟨ka, kc, hk⟩ := g2.rk.form
      rw [bv_len] at hk
      rw [hk] at ck
      have RK := hid g2.rk
      rw [hk] at RK
      have HBK := hid g2.byk
      have hkl : e.key.length ≤ 140737488355328 := by have := isK_len g2.isk; omega
      have cn := (g.at (k := i + 1) (by omega) (by omega)).cell i (by omega)
      obtain ⟨np, hnp⟩ := lk_ptr l2 i
      rw [hnp] at cn
      replace cn : w.cell? ⟨e.b, 4 + i, none⟩ = some (.pointer np) := by rw [show 4 + i = 0 + 4 + i from by omega]; exact cn
      have HCN := hid cn
      have HNP := hid hnp
      have HE := hid hd'
      have hm1 := lvM_next (i := i) hd' HM.out.nd
      rw [hnp] at hm1
      unfold pt at hm1
      have HM1 := hid hm1
      have hks : ks.length ≤ 1000000 := by
        have h3 := congrArg List.length HS.out.res
        rw [List.length_append] at h3
        have h4 := lvK_len es i
        omega
      have HRS : Hid (∀ v5 w5, OwnL w5 w.heap.size v5 (ks ++ [e.key]) → Fr [] w w5 → LvSt w w5 es l2 i v5 (ks ++ [e.key])) := fun v5 w5 h5 f5 => by
        refine ⟨⟨d ++ l1 ++ [e], by rw [hd']; simp⟩, ?_, h5, f5⟩
        have := HS.out.res
        rw [lvK_some q1 q2] at this
        rw [List.append_assoc]; exact this
      unfold pt
      clear g g2 gr hk cn hnp hd hd' hm1 q3
      go_wp2_with (first
        | (go_at_call 33
           refine (clone_c RK.out hkl).mono ?_
           rintro e' w6 ⟨v6, rfl, o6, f6⟩
           obtain ⟨a6, c6, hv6, _⟩ := ownsRow_slice o6
           subst hv6
           have OL6 := hid (HS.out.own.fr f6)
           have O6 := hid (ownsRow_base o6 HS.out.fr.size)
           have F6 := hid (HS.out.fr.trans f6)
           have G6 := hid (blk_new w6 (.cells #[.slice a6 e.key.length c6] 30))
           have HB6 : Hid (w.heap.size ≤ (w6.alloc (.cells #[.slice a6 e.key.length c6] 30)).heap.size) := by unfold Hid; have := F6.out.size; simp; omega
           obtain ⟨cs, oc, lc⟩ := OL6.out
           have OC := hid oc
           have LC := hid lc
           have OC' := hid (ownsRow_fr oc ((Fr.refl [] w6).alloc (.cells #[.slice a6 e.key.length c6] 30)))
           clear o6 f6 oc lc)
        | (at_builtin
           refine wpList_append_row rfl _ _ rfl _ HB6.out _ _ _ rfl OC'.out _ rfl G6.out rfl (by omega) ?_
           intro v7 w7 o7 g7 q7
           have L7 := hid (OwnL.grow OC.out LC.out O6.out HBK.out hkl o7 g7 q7)
           have F7 : Hid (Fr [] w w7) := (F6.out.alloc (.cells #[.slice a6 e.key.length c6] 30)).grown g7 fun q hq => .inr (OC.out.lt q hq).1
           have cn7 := cell_fr F7.out HCN.out
           clear o7 g7 q7))
      exact ⟨⟨l2, ks ++ [e.key], HNP.out.symm, HRS.out _ _ L7.out F7.out⟩, HM1.out⟩

set_option maxRecDepth 20000 in
theorem level_out (w : World) (t : Nat) (i : Int) (hi : i < 0 ∨ 12 ≤ i) :
    Calls Try.prog 24 #[.pointer (some ⟨t, 0, none⟩), .int .i64 i] w fun e w' => e = .returned (.slice none 0 0) ∧ w' = w := by
  rcases hi with hi | hi
  · go_enter Try.func24, Try.ntmps24
    go_wp2
    go_ret
    exact ⟨rfl, rfl⟩
  · have h0 : decide (i < 0) = false := by simp; omega
    have h0' : ¬ i < 0 := by omega
    go_enter Try.func24, Try.ntmps24
    go_wp2
    go_ret
    exact ⟨rfl, rfl⟩
/-- What Level tells. -/
def lvZ (es : List E) (i : Int) : List (List Nat) := if 0 ≤ i ∧ i < 12 then lvK es i.toNat else []
theorem level_c (w : World) {B t : Nat} {H : List Nat} {es : List E} (T : Tb w B t H es) (hn : es.length ≤ 1000000) (i : Int) :
    Calls Try.prog 24 #[.pointer (some ⟨t, 0, none⟩), .int .i64 i] w fun e w' => ∃ v, e = .returned v ∧ OwnL w' w.heap.size v (lvZ es i) ∧ Fr [] w w' := by
  unfold lvZ
  by_cases h : 0 ≤ i ∧ i < 12
  · rw [if_pos h]
    obtain ⟨hv, M, _⟩ := T.mm
    obtain ⟨m, rfl⟩ : ∃ m : Nat, i = (m : Int) := ⟨i.toNat, by omega⟩
    rw [Int.toNat_natCast]
    exact level_in w M hn m (by omega)
  · rw [if_neg h]
    refine (level_out w t i (by omega)).mono ?_
    rintro e w' ⟨rfl, rfl⟩
    exact ⟨_, rfl, ⟨[], World.ownsRow_nil _ _ _ _, Lst.nil _ _ _⟩, Fr.refl _ _⟩
theorem len_c (w : World) {B t : Nat} {H : List Nat} {es : List E} (T : Tb w B t H es) :
    Calls Try.prog 14 #[.pointer (some ⟨t, 0, none⟩)] w fun e w' => e = .returned (.int .i64 (es.length : Int)) ∧ w' = w := by
  obtain ⟨hv, M, _⟩ := T.mm
  obtain ⟨h0, h17, h18⟩ := tab_cells M
  clear M T
  generalize es.length = c at h17 ⊢
  go_enter Try.func14, Try.ntmps14
  go_wp2
  go_ret
  exact ⟨rfl, rfl⟩
theorem size_c (w : World) {B t : Nat} {H : List Nat} {es : List E} (T : Tb w B t H es) :
    Calls Try.prog 15 #[.pointer (some ⟨t, 0, none⟩)] w fun e w' => e = .returned (.int .i64 (siz es : Int)) ∧ w' = w := by
  obtain ⟨hv, M, _⟩ := T.mm
  obtain ⟨h0, h17, h18⟩ := tab_cells M
  clear M T
  generalize siz es = c at h18 ⊢
  go_enter Try.func15, Try.ntmps15
  go_wp2
  go_ret
  exact ⟨rfl, rfl⟩
end Go.Proofs.Ytldcjkddalmkcaa
