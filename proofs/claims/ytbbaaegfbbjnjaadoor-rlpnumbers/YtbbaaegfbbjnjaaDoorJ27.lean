/-
  Numbers and words without the program: their digits, and what is read as one.
-/
import Derived.Test.YtbbaaegfbbjnjaaDoorJ08
import Derived.Test.YtbbaaegfbbjnjaaDoorJ26
import Derived.Test.YtbbaaegfbbjnjaaDoorJ25
namespace Go.Proofs.YtbbaaegfbbjnjaaDoor

/-- So many bytes of a number, the highest first. -/
def beL : Nat → Nat → List Nat
  | 0, _ => []
  | k + 1, n => beL k (n / 256) ++ [n % 256]
def dropZ : List Nat → List Nat
  | [] => []
  | x :: r => if x = 0 then dropZ r else x :: r
theorem dropZ_app : ∀ {a b : List Nat}, dropZ a ≠ [] → dropZ (a ++ b) = dropZ a ++ b
  | [], _, h => absurd rfl h
  | x :: r, b, h => by
    unfold dropZ at h ⊢
    by_cases hx : x = 0
    · rw [if_pos hx] at h
      simp only [List.cons_append]
      rw [if_pos hx, if_pos hx]
      exact dropZ_app h
    · simp only [List.cons_append]
      rw [if_neg hx, if_neg hx]; rfl
theorem dropZ_nil : ∀ {a b : List Nat}, dropZ a = [] → dropZ (a ++ b) = dropZ b
  | [], _, _ => rfl
  | x :: r, b, h => by
    unfold dropZ at h
    by_cases hx : x = 0
    · rw [if_pos hx] at h
      rw [List.cons_append, dropZ, if_pos hx]
      exact dropZ_nil h
    · rw [if_neg hx] at h; cases h
theorem digF_zero0 : ∀ k, digF k 0 = []
  | 0 => rfl
  | k + 1 => by unfold digF; rw [if_pos rfl]
theorem dropZ_be : ∀ (k n : Nat), n < 256 ^ k → dropZ (beL k n) = digF k n
  | 0, _, _ => rfl
  | k + 1, n, h => by
    have hq : n / 256 < 256 ^ k := by rw [Nat.pow_succ] at h; omega
    have ih := dropZ_be k (n / 256) hq
    unfold beL digF
    by_cases h0 : n = 0
    · subst h0
      rw [if_pos rfl]
      rw [Nat.zero_div, digF_zero0] at ih
      rw [Nat.zero_div, dropZ_nil ih]
      rfl
    · rw [if_neg h0]
      by_cases hz : n / 256 = 0
      · rw [hz, digF_zero0] at ih
        rw [hz, digF_zero0, dropZ_nil ih]
        unfold dropZ
        rw [if_neg (by omega)]; rfl
      · have hne : dropZ (beL k (n / 256)) ≠ [] := by
          rw [ih]
          intro e
          have := digF_big k (n / 256) hq
          rw [e] at this
          exact hz (by rw [← this]; rfl)
        rw [dropZ_app hne, ih]
theorem dropZ_len : ∀ l : List Nat, (dropZ l).length ≤ l.length
  | [] => Nat.le_refl _
  | x :: r => by
    unfold dropZ
    split
    · have := dropZ_len r; simp; omega
    · exact Nat.le_refl _
theorem dropZ_by : ∀ {l : List Nat}, By l → By (dropZ l)
  | [], h => h
  | x :: r, h => by
    unfold dropZ
    split
    · exact dropZ_by fun n hn => h n (by simp [hn])
    · exact h
theorem dropZ_head : ∀ (l : List Nat) (x : Nat) (r : List Nat), dropZ l = x :: r → x ≠ 0
  | [], _, _, h => by cases h
  | y :: r, x, r', h => by
    unfold dropZ at h
    split at h
    · exact dropZ_head r x r' h
    · cases h; assumption
/-- Bytes with zeros ahead, so many together. -/
def padL (k : Nat) (l : List Nat) : List Nat := List.replicate (k - l.length) 0 ++ l
theorem pad_drop : ∀ l : List Nat, padL l.length (dropZ l) = l
  | [] => rfl
  | x :: r => by
    unfold dropZ
    by_cases hx : x = 0
    · rw [if_pos hx]
      have := pad_drop r
      unfold padL at this ⊢
      have hl := dropZ_len r
      rw [List.length_cons, show r.length + 1 - (dropZ r).length = (r.length - (dropZ r).length) + 1 by omega, List.replicate_succ, List.cons_append, this, hx]
    · rw [if_neg hx]; unfold padL; simp
theorem pad_len {k : Nat} {l : List Nat} (h : l.length ≤ k) : (padL k l).length = k := by unfold padL; simp; omega
theorem pad_by {k : Nat} {l : List Nat} (h : By l) : By (padL k l) := by
  intro x hx
  unfold padL at hx
  rcases List.mem_append.1 hx with hx | hx
  · have := List.eq_of_mem_replicate hx; omega
  · exact h x hx
/-- Bytes read as a number of at most so many bytes: its bytes, or the fault. -/
def unL (b : List Nat) (most : Nat) : List Nat × Nat := match firstL b with
  | .error e => ([], e)
  | .ok (t, k, _) => if k < b.length then ([], 42) else if tL t = true ∨ most < (tB t).length then ([], 45) else if 0 < (tB t).length ∧ (tB t).headD 0 = 0 then ([], 40) else (tB t, 0)
theorem unL_le {b : List Nat} {most : Nat} : (unL b most).1.length ≤ most := by
  unfold unL
  rcases firstL b with e | ⟨t, k, c⟩
  · exact Nat.zero_le _
  · dsimp only
    split
    · exact Nat.zero_le _
    · split
      · exact Nat.zero_le _
      · split
        · exact Nat.zero_le _
        · rename_i h1 h2 _; dsimp only; omega
theorem unL_back {l : List Nat} {most : Nat} (hl : l.length ≤ most) (hm : most ≤ 32) (h0 : ∀ x r, l = x :: r → x ≠ 0) : unL (strL l) most = (l, 0) := by
  have hlen := strL_len l
  have hb : firstL (enc 19 (mkT (n := 18) false l [])) = .ok (mkT false l [], (enc 19 (mkT (n := 18) false l [])).length, cnt 19 (mkT (n := 18) false l [])) := by
    have he : enc 19 (mkT (n := 18) false l []) = strL l := rfl
    have := firstL_back (t := (mkT (n := 18) false l [] : Tr 19)) (more := []) (by unfold bad; rw [if_neg (by omega), if_neg (by simp [tL_mk, tK_mk])]; rfl) (by show 1 + 0 ≤ 4096; omega) (by rw [he]; simp; omega)
    rwa [List.append_nil] at this
  have he : enc 19 (mkT (n := 18) false l []) = strL l := rfl
  rw [he] at hb
  unfold unL
  rw [hb]
  dsimp only
  rw [if_neg (Nat.lt_irrefl _), if_neg (by rw [tL_mk, tB_mk]; simp; omega), if_neg, tB_mk]
  rw [tB_mk]
  rintro ⟨h1, h2⟩
  rcases l with _ | ⟨x, r⟩
  · simp at h1
  · exact h0 x r rfl (by simpa using h2)
theorem digs_head {n x : Nat} {r : List Nat} (hn : n < 18446744073709551616) (h : digs n = x :: r) : x ≠ 0 := digF_head 8 n x r (by omega) h
theorem unL_uint {n : Nat} (hn : n < 18446744073709551616) : unL (strL (digs n)) 8 = (digs n, 0) := unL_back (digF_len 8 n) (by omega) (fun x r h => digs_head hn h)
theorem unL_word {l : List Nat} (h : l.length = 32) : unL (strL (dropZ l)) 32 = (dropZ l, 0) := unL_back (by have := dropZ_len l; omega) (by omega) (fun x r h => dropZ_head l x r h)
end Go.Proofs.YtbbaaegfbbjnjaaDoor
namespace Go.Proofs.YtbbaaegfbbjnjaaDoor
open Go.ChangeShapes Go.WideShapes Go.ChangeAt Go.RowKit

set_option maxRecDepth 20000 in
set_option maxHeartbeats 800000 in
theorem uint_c (w : World) (n : Nat) (hn : n < 18446744073709551616) :
    Calls Tryd.prog 5 #[.int .u64 (n : Int)] w fun e w' => ∃ v', e = .returned v' ∧ w'.ownsRow w.heap.size 5 1 v' (strL (digs n)).length (bv (strL (digs n))) ∧ Fr [] w w' := by
  have DC := hid (digits_c w n hn)
  have hdl := digF_len 8 n
  have hdb : By (digs n) := digF_by 8 n
  obtain ⟨D, hD⟩ : ∃ D, D = digs n := ⟨_, rfl⟩
  rw [← hD] at DC hdb ⊢
  have hdl2 : D.length ≤ 8 := by rw [hD]; exact hdl
  have HDB := hid hdb
  clear hD hdl hdb
  go_enter Tryd.func5, Tryd.ntmps5
  go_wp2_with fail
  refine DC.out.mono ?_
  rintro e w1 ⟨v1, rfl, o1, f1⟩
  have R1 := Rd.ownB o1
  obtain ⟨a1, c1, rfl, _⟩ := ownsRow_slice o1
  have F1 := hid f1
  have hlen := strL_len D
  have WC := hid (write_c (base := w1.heap.size) 1 w1 (mkT (n := 0) false D []) 1 w1 (.agg #[.bool false, .slice a1 D.length c1, .slice none 0 0]) (.slice none 0 0) [] (by unfold bad; rw [if_neg (by omega), if_neg (by simp [tL_mk, tK_mk])]; rfl) (Nat.le_refl _) ⟨_, none, 0, rfl, R1, HDB.out, by rw [tB_mk]; omega, Nat.le_refl _, Nat.zero_le _, fun h => by cases h⟩ (Fr.refl _ _) (Nat.le_refl _) (World.ownsRow_nil _ _ _ _) (by show 0 + (strL D).length ≤ 1000000; omega))
  clear o1 f1 R1
  obtain ⟨L, hL⟩ : ∃ L, L = D.length := ⟨_, rfl⟩
  rw [← hL] at WC ⊢
  clear hL
  go_wp2_with fail
  refine WC.out.mono ?_
  rintro e w2 ⟨v2, rfl, o2, f2, _⟩
  have O2 : Hid (w2.ownsRow w.heap.size 5 1 v2 (strL D).length (bv (strL D))) := hid (ownsRow_base o2 F1.out.size)
  have F2 := hid (F1.out.trans f2)
  clear o2 f2
  go_wp2
  go_ret
  exact ⟨v2, rfl, O2.out, F2.out⟩

set_option maxRecDepth 20000 in
set_option maxHeartbeats 1600000 in
theorem undig_c (w : World) {v : Value} {b : List Nat} (hr : Rd w v (bv b)) (hb : By b) (hl : b.length ≤ 140737488355328) {most : Nat} (_hm : most ≤ 100) :
    Calls Tryd.prog 21 #[v, .int .i64 (most : Int)] w fun e w' => (∃ a c, e = .returned (.tuple #[.slice a (unL b most).1.length c, .int .i64 ((unL b most).2 : Int)]) ∧ Rd w' (.slice a (unL b most).1.length c) (bv (unL b most).1) ∧ By (unL b most).1) ∧ Fr [] w w' := by
  have DC := hid (decode_c w hr hb hl)
  have HE : Hid (∀ e, firstL b = .error e → 0 < e ∧ e < 100) := hid (fun e h => firstL_err2 hb h)
  obtain ⟨ao, cc, hv⟩ := hr.form
  rw [bv_len] at hv
  subst hv
  have HU : Hid (unL b most = match firstL b with
    | .error e => ([], e)
    | .ok (t, k, _) => if k < b.length then ([], 42) else if tL t = true ∨ most < (tB t).length then ([], 45) else if 0 < (tB t).length ∧ (tB t).headD 0 = 0 then ([], 40) else (tB t, 0)) := hid rfl
  obtain ⟨U, hU⟩ : ∃ U, U = unL b most := ⟨_, rfl⟩
  rw [← hU]
  rw [← hU] at HU
  obtain ⟨L, hL⟩ : ∃ L, L = b.length := ⟨_, rfl⟩
  rw [← hL] at DC hl HU ⊢
  generalize firstL b = res at *
  clear hr hb hU hL
  go_enter Tryd.func21, Tryd.ntmps21
  go_wp2_with fail
  refine DC.out.mono ?_
  rintro r w1 ⟨hT, f1⟩
  obtain ⟨l, a1, n1, c1, a2, n2, c2, rfl, hTl⟩ := hT.parts (fun e h => (HE.out e h).1)
  obtain ⟨W1, hW1⟩ : ∃ W, W = w1.alloc (.cells #[.bool l, .slice a1 n1 c1, .slice a2 n2 c2] 44) := ⟨_, rfl⟩
  have F1 : Hid (Fr [] w W1) := hid (by rw [hW1]; exact f1.alloc _)
  have X1 : Hid (W1.heap[w1.heap.size]? = some (.cells #[.bool l, .slice a1 n1 c1, .slice a2 n2 c2] 44 (0, 0))) := hid (by rw [hW1]; exact blk_new _ _)
  have T1 : Hid (Tld W1 w.heap.size (decE L res) l (.slice a1 n1 c1) (.slice a2 n2 c2) res) := hid (by rw [hW1]; exact hTl.fr ((Fr.refl _ w1).alloc _))
  have x0 := blk_cell X1.out 0
  have x1 := blk_cell X1.out 1
  simp at x0 x1
  have hDl : decE L res ≤ 100 := by
    rcases res with x | ⟨t, k, c⟩
    · have := HE.out x rfl; show x ≤ 100; omega
    · show (if k < L then 42 else 0) ≤ 100; split <;> omega
  obtain ⟨E, hE⟩ : ∃ E, E = decE L res := ⟨_, rfl⟩
  rw [← hE] at T1 hDl ⊢
  have HEE := hid hE
  clear hT hTl f1 hE
  go_upto_region 2 with fail
  rw [← hW1]
  clear hW1
  by_cases h0 : E = 0
  · subst h0
    obtain ⟨t, k, c, hres, hF⟩ := T1.out.2 rfl
    subst hres
    have hkL : ¬ k < L := fun h => by
      have : (0 : Nat) = 42 := by rw [HEE.out]; show (if k < L then 42 else 0) = 42; rw [if_pos h]
      omega
    obtain ⟨bs, ka, kc, e1, hR, hBy, hBl, hkc, g1, g2⟩ := hF.isV
    clear g1 g2
    simp only [Value.agg.injEq, Array.mk.injEq, List.cons.injEq, Value.bool.injEq] at e1
    obtain ⟨el, eb, ei, e9⟩ := e1
    clear e9
    subst eb
    obtain ⟨xa, xc, e2⟩ := hR.form
    simp only [Value.slice.injEq, bv_len] at e2
    have en := e2.2.1
    clear e2 xa xc
    have HRD := hid hR
    have HBY := hid hBy
    have HN1 := hid en
    have HEL := hid el
    have hnb : n1 ≤ 140737488355328 := by rw [en]; exact hBl
    have HU2 : Hid (U = if l = true ∨ most < n1 then ([], 45) else if 0 < n1 ∧ (tB t).headD 0 = 0 then ([], 40) else (tB t, 0)) := hid (by rw [HU.out]; dsimp only; rw [if_neg hkL, ← el, ← en])
    clear hF hR hBy hBl hkc ei el en
    rcases l with _ | _
    · by_cases hmost : most < n1
      · have hm' : (most : Int) < (n1 : Int) := by omega
        have hU : Hid (U = ([], 45)) := hid (by rw [HU2.out, if_pos (.inr hmost)])
        go_wp2
        go_ret2
        rw [hU.out]
        exact ⟨⟨none, 0, rfl, .inl ⟨rfl, rfl⟩, fun x hx => by cases hx⟩, F1.out⟩
      · have hm' : ¬ (most : Int) < (n1 : Int) := by omega
        have HU3 : Hid (U = if 0 < n1 ∧ (tB t).headD 0 = 0 then ([], 40) else (tB t, 0)) := hid (by rw [HU2.out, if_neg (by simp; omega)])
        by_cases hn0 : 0 < n1
        · have hn0' : (0 : Int) < (n1 : Int) := by omega
          obtain ⟨x, hx⟩ : ∃ x, (tB t)[0]? = some x := ⟨_, List.getElem?_eq_getElem (by rw [← HN1.out]; exact hn0)⟩
          have hxd : (tB t).headD 0 = x := by
            rcases htb : tB t with _ | ⟨y, q⟩
            · rw [htb] at hx; simp at hx
            · rw [htb] at hx; simp at hx; simpa using hx
          rcases HRD.out.split with ⟨e, _⟩ | ⟨q, o, c', e, _, _, hc⟩
          · rw [e] at hx; simp at hx
          simp only [Value.slice.injEq] at e
          obtain ⟨rfl, e4, rfl⟩ := e
          have hcx := hc 0 x hx
          simp at hcx
          clear hc e4 hx
          by_cases hx0 : x = 0
          · have hU : Hid (U = ([], 40)) := hid (by rw [HU3.out, if_pos ⟨hn0, by rw [hxd]; exact hx0⟩])
            subst hx0
            clear hxd
            go_wp2
            go_ret2
            rw [hU.out]
            exact ⟨⟨none, 0, rfl, .inl ⟨rfl, rfl⟩, fun x hx => by cases hx⟩, F1.out⟩
          · have hU : Hid (U = (tB t, 0)) := hid (by rw [HU3.out, if_neg (by rw [hxd]; exact fun h => hx0 h.2)])
            have hx0' : ((x : Int) == 0) = false := beq_eq_false_iff_ne.2 (by omega)
            clear hxd
            go_wp2
            go_ret2
            rw [hU.out]
            refine ⟨⟨_, _, by rw [← HN1.out]; rfl, ?_, HBY.out⟩, F1.out⟩
            rw [← HN1.out]; exact HRD.out
        · have hn0' : ¬ (0 : Int) < (n1 : Int) := by omega
          have hU : Hid (U = (tB t, 0)) := hid (by rw [HU3.out, if_neg (fun h => hn0 h.1)])
          go_wp2
          go_ret2
          rw [hU.out]
          refine ⟨⟨a1, c1, by rw [← HN1.out]; rfl, ?_, HBY.out⟩, F1.out⟩
          rw [← HN1.out]; exact HRD.out
    · have hU : Hid (U = ([], 45)) := hid (by rw [HU2.out, if_pos (.inl rfl)])
      go_wp2
      go_ret2
      rw [hU.out]
      exact ⟨⟨none, 0, rfl, .inl ⟨rfl, rfl⟩, fun x hx => by cases hx⟩, F1.out⟩
  · have hz : ((E : Int) == 0) = false := beq_eq_false_iff_ne.2 (by omega)
    have hU : Hid (U = ([], E)) := hid (by
      rw [HU.out]
      rcases res with x | ⟨t, k, c⟩
      · rw [HEE.out]; rfl
      · have : k < L := by
          rcases Nat.lt_or_ge k L with h | h
          · exact h
          · exact absurd (by rw [HEE.out]; show (if k < L then 42 else 0) = 0; rw [if_neg (by omega)]) h0
        dsimp only
        rw [if_pos this, HEE.out]
        show ([], 42) = ([], if k < L then 42 else 0)
        rw [if_pos this])
    go_wp2
    go_ret2
    rw [hU.out]
    exact ⟨⟨none, 0, rfl, .inl ⟨rfl, rfl⟩, fun x hx => by cases hx⟩, F1.out⟩
end Go.Proofs.YtbbaaegfbbjnjaaDoor
