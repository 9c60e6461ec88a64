/-
  The statements' own known examples.
-/
import Derived.Test.YtbbaaegfbbjnjaaDoorJ25
import Derived.Test.YtbbaaegfbbjnjaaDoorJ22
import Derived.Lib.SlBytesConst
import Derived.Test.YtbbaaegfbbjnjaaDoorHt
namespace Go.Proofs.YtbbaaegfbbjnjaaDoor
open Go.ChangeShapes Go.WideShapes Go.ChangeAt Go.RowKit

theorem IsV.str {n : Nat} {w : World} {bs : Value} {b : List Nat} (h : Rd w bs (bv b)) (hb : By b) (hl : b.length ≤ 140737488355328) (l : Bool) : IsV w (n + 1) (.agg #[.bool l, bs, .slice none 0 0]) (mkT l b []) :=
  ⟨bs, none, 0, rfl, h, hb, hl, Nat.le_refl _, Nat.zero_le _, fun h => by cases h⟩
theorem Rd.lit (w : World) (ns : List Nat) {B : Nat} (hB : B = w.heap.size) {cs : Array Value} (hc : cs.toList = bv ns) {n c : Nat} (hn : n = ns.length) (hcc : n ≤ c) : Rd (w.alloc (.cells cs 5)) (.slice (some ⟨B, 0, none⟩) n c) (bv ns) := by
  subst hn
  refine .inr ⟨_, _, by rw [bv_len], by rw [bv_len]; exact hcc, fun j u hj => ?_⟩
  rw [Addr.add_lit, Nat.zero_add, blk_cell (new_at w _ hB), ← Array.getElem?_toList, hc]
  exact hj
theorem reads_bad {w : World} {v : Value} {b : List Nat} (hr : Rd w v (bv b)) (hb : By b) (h0 : b ≠ []) (hl : b.length ≤ 100000) {x : Nat} (hx : hdr b = .error x) (hx0 : x ≠ 0) : Reads w v (.error x) := by
  intro w1 T g e k C f hg
  refine (read_bad w1 C (hr.fr f) hb h0 hl (d := 1) (by omega) (by omega) hx hx0).mono ?_
  rintro r w' ⟨h1, h2⟩
  exact ⟨h1, h2⟩
theorem encE_dog : encE (n := 19) (mkT false [100, 111, 103] []) = 0 := by decide
theorem encB_dog : encB (n := 19) (mkT false [100, 111, 103] []) = [131, 100, 111, 103] := by decide
theorem hdr_bad : hdr [129, 5] = .error 40 := by rfl
theorem str_dog : strOf [131, 100, 111, 103] = ⟨#[131, 100, 111, 103]⟩ := by decide

set_option maxRecDepth 20000 in
set_option maxHeartbeats 800000 in
theorem known_c (w : World) : Calls Tryd.prog 4 #[] w fun e w' => e = .returned (.bool true) ∧ Fr [] w w' := by
  have kc := fun (w : World) (C : Array Value) (n c : Nat) => Lib.run_convert_bytes_const (P := Tryd.prog) w 25 5 C n c Tryd.underlying25 Tryd.underlying5
  have R0 : Hid (Rd (w.alloc (.cells #[.int .u8 100, .int .u8 111, .int .u8 103] 5 (3, 4))) (.slice (some ⟨w.heap.size, 0, none⟩) 3 3) (bv [100, 111, 103])) := by
    refine .inr ⟨_, _, rfl, by simp [bv], fun j u hj => ?_⟩
    rw [Addr.add_lit, Nat.zero_add, World.cell?_alloc_mark]
    rw [← Array.getElem?_toList]
    exact hj
  have F0 := hid ((Fr.refl [] w).alloc (.cells #[.int .u8 100, .int .u8 111, .int .u8 103] 5 (3, 4)))
  go_enter Tryd.func4, Tryd.ntmps4
  go_wp2_with fail
  refine (encode_c _ (n := 19) (IsV.str (n := 18) R0.out (by unfold By; decide) (by simp) false) (by omega) (by decide) (by decide)).mono ?_
  rintro e w1 ⟨v1, rfl, o1, f1⟩
  rw [encB_dog] at o1
  rw [encE_dog]
  replace o1 : w1.ownsRow _ 5 1 v1 4 (bv [131, 100, 111, 103]) := o1
  obtain ⟨a1, c1, rfl, _⟩ := ownsRow_slice o1
  have P1 := hid (Rd.ownB (ns := [131, 100, 111, 103]) o1)
  have F1 := hid (F0.out.trans f1)
  clear o1 f1
  have R2 := hid (Rd.lit w1 [129, 5] rfl (cs := #[.int .u8 129, .int .u8 5]) rfl (n := 2) (c := 2) rfl (Nat.le_refl _))
  have F2 := hid (F1.out.alloc (.cells #[.int .u8 129, .int .u8 5] 5))
  clear kc
  go_wp2_with fail
  refine (decode_at _ (res := .error 40) (fun w2 f2 => first_at w2 (reads_bad (R2.out.fr f2) (by unfold By; decide) (by simp) (by simp) hdr_bad (by omega)) (by omega) (by omega)) (fun _ _ _ h => by cases h) (fun e h => by cases h; omega)).mono ?_
  rintro e w2 ⟨hD, f2⟩
  obtain rfl : e = _ := hD
  have P2 := hid (P1.out.fr (((Fr.refl [] w1).alloc _).trans f2))
  have F3 := hid (F2.out.trans f2)
  clear f2
  have hcv := run_conv (P2.out.fr ((Fr.refl [] w2).alloc (.cells #[.bool false, .slice none 0 0, .slice none 0 0] 44)))
  rw [str_dog] at hcv
  go_wp2
  go_ret
  exact ⟨rfl, F3.out.alloc _⟩
end Go.Proofs.YtbbaaegfbbjnjaaDoor
namespace Go.Proofs.YtbbaaegfbbjnjaaDoor
open Go.ChangeShapes Go.WideShapes Go.ChangeAt Go.RowKit

set_option maxRecDepth 20000 in
set_option maxHeartbeats 800000 in
theorem rfirst_long (w : World) {ao : Option Addr} {n c : Nat} (hn : 65536 < n) : Calls Tryd.prog 44 #[.slice ao n c] w fun r w' => FirstT w.heap.size (.error 44) r w' ∧ Fr [] w w' := by
  have N := hid (blk_new w (.cells #[.bool false, .slice none 0 0, .slice none 0 0] 44))
  have F := hid ((Fr.refl [] w).alloc (.cells #[.bool false, .slice none 0 0, .slice none 0 0] 44))
  have hn' : (65536 : Int) < (n : Int) := by omega
  unfold FirstT
  go_enter Tryd.func44, Tryd.ntmps44
  go_wp2
  refine bodyPost_ret (ret_ctt rfl rfl (load_item (g := w.heap.size) (t := 44) ?_)) rfl ⟨rfl, ?_⟩
  · first | exact N.out | (exact (fin_z (a := .bool false) (b := .slice none 0 0) (c := .slice none 0 0) N.out F.out (Nat.le_refl _)).1)
  · first | exact F.out | (exact (fin_z (a := .bool false) (b := .slice none 0 0) (c := .slice none 0 0) N.out F.out (Nat.le_refl _)).2)
theorem firstL_err2 {b : List Nat} (hb : By b) {x : Nat} (h : firstL b = .error x) : 0 < x ∧ x < 100 := by
  unfold firstL at h
  split at h
  · cases h; omega
  · split at h
    · cases h; omega
    · rcases rdT_err 16 b 0 x hb (by assumption) (by omega) (by omega) h with h | h | h <;> omega
theorem rfirst_c (w : World) {v : Value} {b : List Nat} (hr : Rd w v (bv b)) (hb : By b) : Calls Tryd.prog 44 #[v] w fun r w' => FirstT w.heap.size (firstL b) r w' ∧ Fr [] w w' := by
  by_cases h1 : 65536 < b.length
  · obtain ⟨a, c, hv⟩ := hr.form
    rw [bv_len] at hv
    subst hv
    have e : firstL b = .error 44 := by unfold firstL; rw [if_pos h1]
    rw [e]; exact rfirst_long w h1
  · rcases hr.split with ⟨rfl, a, c, rfl⟩ | ⟨q, off, c, rfl, k1, k2, k3⟩
    · have e : firstL [] = .error 41 := rfl
      rw [e]
      refine rfirst_at w (by omega) (fun x hx => by cases hx; omega) fun w1 _ _ h0 => ?_
      refine (rread_none w1 (a := 0) (d := 1) h0).mono ?_
      rintro r w' ⟨rfl, h2, h3⟩
      exact ⟨⟨rfl, 0, h2⟩, h3⟩
    · have h2 : b ≠ [] := fun e => by subst e; simp at k2
      have e : firstL b = rdT 16 b 0 := by unfold firstL; rw [if_neg h1, if_neg h2]
      have hq : q < w.heap.size := by
        obtain ⟨x, hx⟩ : ∃ x, b[0]? = some x := ⟨_, List.getElem?_eq_getElem (List.length_pos_iff.2 h2)⟩
        exact World.block_lt_of_cell? w _ (k3 0 x hx)
      refine rfirst_at w (by omega) (fun x hx => firstL_err2 hb hx) fun w1 f1 s1 h0 => ?_
      have R : RS w1 (w.heap.size + 1) q off b.length c b 0 0 := ⟨hr.fr f1, h0, by omega, by omega⟩
      refine (rread_c 16 w1 (w.heap.size + 1) q off b.length c b 0 0 b.length 1 R hb (List.length_pos_iff.2 h2) (Nat.le_refl _) rfl (by omega) (by omega) (by omega) (by omega) (by omega)).mono ?_
      rintro r w' ⟨hT, f⟩
      refine ⟨?_, f⟩
      rw [List.take_length, List.drop_zero, ← e] at hT
      rcases hf : firstL b with x | ⟨t, k, c'⟩
      · rw [hf] at hT
        obtain ⟨t1, c', t2⟩ := hT
        exact ⟨t1, c', t2.rr⟩
      · rw [hf] at hT
        obtain ⟨⟨u, t1, t2⟩, t3⟩ := hT
        rw [Nat.zero_add] at t1
        exact ⟨⟨u, t1, t2⟩, t3.rr⟩

/-- What Decode tells of bytes, and First. -/
def decE (n : Nat) : Except Nat (Tr 19 × Nat × Nat) → Nat
  | .error e => e
  | .ok (_, k, _) => if k < n then 42 else 0
def fstE : Except Nat (Tr 19 × Nat × Nat) → Nat
  | .error e => e
  | .ok _ => 0
def fstN : Except Nat (Tr 19 × Nat × Nat) → Nat
  | .error _ => 0
  | .ok (_, k, _) => k
/-- An item that is told, or the item without anything. -/
def Tld (w : World) (B e : Nat) (l : Bool) (v1 v2 : Value) (res : Except Nat (Tr 19 × Nat × Nat)) : Prop := (e ≠ 0 → l = false ∧ v1 = .slice none 0 0 ∧ v2 = .slice none 0 0) ∧ (e = 0 → ∃ t k c, res = .ok (t, k, c) ∧ IsF w B w.heap.size 19 (.agg #[.bool l, v1, v2]) t)
theorem DecT.parts {B n : Nat} {res : Except Nat (Tr 19 × Nat × Nat)} {r : Ending} {w' : World} (h : DecT B n res r w') (he : ∀ e, res = .error e → 0 < e) : ∃ l a1 n1 c1 a2 n2 c2, r = .returned (.tuple #[.agg #[.bool l, .slice a1 n1 c1, .slice a2 n2 c2], .int .i64 (decE n res : Int)]) ∧ Tld w' B (decE n res) l (.slice a1 n1 c1) (.slice a2 n2 c2) res := by
  rcases res with x | ⟨t, k, c⟩
  · have := he x rfl
    exact ⟨_, _, _, _, _, _, _, h, fun _ => ⟨rfl, rfl, rfl⟩, fun h0 => by have h0' : x = 0 := h0; omega⟩
  · rcases h with ⟨h1, h2⟩ | ⟨h1, v, h2, h3⟩
    · have e : decE n (.ok (t, k, c)) = 42 := by show (if k < n then 42 else 0) = 42; rw [if_pos h1]
      rw [e]
      exact ⟨_, _, _, _, _, _, _, h2, fun _ => ⟨rfl, rfl, rfl⟩, fun h0 => by omega⟩
    · have e : decE n (.ok (t, k, c)) = 0 := by show (if k < n then 42 else 0) = 0; rw [if_neg (by omega)]
      rw [e]
      obtain ⟨l, a1, n1, c1, a2, n2, c2, rfl⟩ := h3.isV.agg
      exact ⟨l, a1, n1, c1, a2, n2, c2, h2, fun h0 => absurd rfl h0, fun _ => ⟨t, k, c, rfl, h3⟩⟩
theorem FirstT.parts {B : Nat} {res : Except Nat (Tr 19 × Nat × Nat)} {r : Ending} {w' : World} (h : FirstT B res r w') (he : ∀ e, res = .error e → 0 < e) : ∃ l a1 n1 c1 a2 n2 c2, r = .returned (.tuple #[.agg #[.bool l, .slice a1 n1 c1, .slice a2 n2 c2], .int .i64 (fstN res : Int), .int .i64 (fstE res : Int)]) ∧ Tld w' B (fstE res) l (.slice a1 n1 c1) (.slice a2 n2 c2) res := by
  rcases res with x | ⟨t, k, c⟩
  · have := he x rfl
    exact ⟨_, _, _, _, _, _, _, h, fun _ => ⟨rfl, rfl, rfl⟩, fun h0 => by have h0' : x = 0 := h0; omega⟩
  · obtain ⟨v, h2, h3⟩ := h
    obtain ⟨l, a1, n1, c1, a2, n2, c2, rfl⟩ := h3.isV.agg
    exact ⟨l, a1, n1, c1, a2, n2, c2, h2, fun h0 => absurd rfl h0, fun _ => ⟨t, k, c, rfl, h3⟩⟩
theorem Tld.step {w w' : World} {B e : Nat} {l : Bool} {v1 v2 : Value} {res : Except Nat (Tr 19 × Nat × Nat)} (h : Tld w B e l v1 v2 res) (hs : w.heap.size ≤ w'.heap.size) (f : ∀ k, B ≤ k → k < w.heap.size → w'.heap[k]? = w.heap[k]?) : Tld w' B e l v1 v2 res :=
  ⟨h.1, fun h0 => by
    obtain ⟨t, k, c, h1, h2⟩ := h.2 h0
    exact ⟨t, k, c, h1, (h2.step f).wide (Nat.le_refl _) hs⟩⟩
theorem Tld.fr {w w' : World} {B e : Nat} {l : Bool} {v1 v2 : Value} {res : Except Nat (Tr 19 × Nat × Nat)} (h : Tld w B e l v1 v2 res) (f : Fr [] w w') : Tld w' B e l v1 v2 res := h.step f.size fun k _ hk => f.block k hk (by simp)

set_option maxRecDepth 20000 in
set_option maxHeartbeats 1600000 in
theorem rdecode_c (w : World) {v : Value} {b : List Nat} (hr : Rd w v (bv b)) (hb : By b) (hl : b.length ≤ 140737488355328) : Calls Tryd.prog 34 #[v] w fun r w' => DecT w.heap.size b.length (firstL b) r w' ∧ Fr [] w w' := by
  obtain ⟨ao, cc, hv⟩ := hr.form
  rw [bv_len] at hv
  subst hv
  obtain ⟨W, hW⟩ : ∃ W, W = w.alloc (.cells #[.bool false, .slice none 0 0, .slice none 0 0] 44) := ⟨_, rfl⟩
  have F : Hid (Fr [] w W) := hid (by rw [hW]; exact (Fr.refl _ w).alloc _)
  have HS : Hid (W.heap.size = w.heap.size + 1) := hid (by rw [hW]; simp)
  have N : Hid (W.heap[w.heap.size]? = some (.cells #[.bool false, .slice none 0 0, .slice none 0 0] 44 (0, 0))) := hid (by rw [hW]; exact blk_new _ _)
  have FC := hid (rfirst_c W (hr.fr F.out) hb)
  have HE : Hid (∀ e, firstL b = .error e → 0 < e ∧ e < 100) := hid (fun e h => firstL_err2 hb h)
  have HK : Hid (∀ t k c, firstL b = .ok (t, k, c) → k ≤ b.length ∧ k ≤ 100000) := hid (fun t k c h => by
    obtain ⟨⟨_, _, _, k4, _⟩, k5⟩ := firstL_inv hb h
    omega)
  obtain ⟨L, hL⟩ : ∃ L, L = b.length := ⟨_, rfl⟩
  rw [← hL] at FC hl HK ⊢
  generalize firstL b = res at *
  clear hr hb hL
  go_enter Tryd.func34, Tryd.ntmps34
  go_upto_region 1 with fail
  rw [← hW]
  clear hW
  go_wp2_with fail
  refine FC.out.mono ?_
  rintro r w3 ⟨hT, f3⟩
  obtain ⟨l, a1, n1, c1, a2, n2, c2, rfl, hTl⟩ := hT.parts (fun e h => (HE.out e h).1)
  obtain ⟨w4, hw4⟩ : ∃ w4, w4 = w3.alloc (.cells #[.bool l, .slice a1 n1 c1, .slice a2 n2 c2] 44) := ⟨_, rfl⟩
  have F4 : Hid (Fr [] w w4) := hid (by rw [hw4]; exact (F.out.trans f3).alloc _)
  have N4 : Hid (w4.heap[w.heap.size]? = some (.cells #[.bool false, .slice none 0 0, .slice none 0 0] 44 (0, 0))) := hid (by have := f3.at N.out (by simp); rw [hw4, blk_old _ _ (blk_lt this)]; exact this)
  have Y4 : Hid (w4.heap[w3.heap.size]? = some (.cells #[.bool l, .slice a1 n1 c1, .slice a2 n2 c2] 44 (0, 0))) := hid (by rw [hw4]; exact blk_new _ _)
  have T4 : Hid (Tld w4 W.heap.size (fstE res) l (.slice a1 n1 c1) (.slice a2 n2 c2) res) := hid (by rw [hw4]; exact hTl.fr ((Fr.refl _ w3).alloc _))
  have y0 := blk_cell Y4.out 0
  have y1 := blk_cell Y4.out 1
  have y2 := blk_cell Y4.out 2
  have d0 := blk_cell N4.out 0
  have d1 := blk_cell N4.out 1
  have d2 := blk_cell N4.out 2
  have f0 := blk_frozen N4.out 0
  have f1 := blk_frozen N4.out 1
  have f2 := blk_frozen N4.out 2
  simp at y0 y1 y2 d0 d1 d2
  clear hT hTl f3 FC
  go_upto_region 2 with fail
  rw [← hw4]
  clear hw4
  rcases res with x | ⟨t, k, c⟩
  · have hx := HE.out x rfl
    have hz : ((x : Int) == 0) = false := beq_eq_false_iff_ne.2 (by omega)
    have e1 : fstE (.error x) = x := rfl
    have e2 : fstN (.error x) = 0 := rfl
    rw [e1, e2]
    clear e1 e2
    go_wp2
    have K := fin_z (a := .bool false) (b := .slice none 0 0) (c := .slice none 0 0) N4.out F4.out (Nat.le_refl _)
    refine bodyPost_ret (ret_ct rfl rfl (load_item K.1)) rfl ⟨?_, K.2⟩
    unfold DecT
    rfl
  · have hk := HK.out t k c rfl
    have e1 : fstE (.ok (t, k, c)) = 0 := rfl
    have e2 : fstN (.ok (t, k, c)) = k := rfl
    rw [e1, e2]
    clear e1 e2
    by_cases hkl : k < L
    · have hkl' : (k : Int) < (L : Int) := by omega
      have HKL := hid hkl
      go_wp2
      have K := fin_z (a := .bool false) (b := .slice none 0 0) (c := .slice none 0 0) N4.out F4.out (Nat.le_refl _)
      exact bodyPost_ret (ret_ct rfl rfl (load_item K.1)) rfl ⟨.inl ⟨HKL.out, rfl⟩, K.2⟩
    · have hkl' : ¬ (k : Int) < (L : Int) := by omega
      obtain ⟨t', k', c', e, i⟩ := T4.out.2 rfl
      cases e
      have I4 := hid (i.wide (show w.heap.size + 1 ≤ W.heap.size by rw [HS.out]; exact Nat.le_refl _) (Nat.le_refl _))
      have HKL : Hid (L ≤ k) := hid (by omega)
      clear i
      go_wp2
      have K := fin_z (a := .bool l) (b := .slice a1 n1 c1) (c := .slice a2 n2 c2) N4.out F4.out (Nat.le_refl _)
      exact bodyPost_ret (ret_ct rfl rfl (load_item K.1)) rfl ⟨.inr ⟨HKL.out, _, rfl, isF_out I4.out _ _ _⟩, K.2⟩
set_option maxHeartbeats 400000 in
theorem helpBytes_e {w : World} {v1 v2 : Value} {a b : List Nat} (h1 : Rd w v1 (bv a)) (h2 : Rd w v2 (bv b)) (hab : a = b) :
    Calls Tryd.prog 7 #[v1, v2] w fun e w' => e = .returned (.bool true) ∧ w' = w := by
  subst hab
  have e1 := run_conv h1
  have e2 := run_conv h2
  have e3 := ba_beq (strOf a)
  obtain ⟨a1, c1, rfl⟩ := h1.form
  obtain ⟨a2, c2, rfl⟩ := h2.form
  clear h1 h2
  go_enter Tryd.func7, Tryd.ntmps7
  go_wp2
  go_ret
  exact ⟨rfl, rfl⟩

end Go.Proofs.YtbbaaegfbbjnjaaDoor
