/-
  What First and Decode of package rlp answer, once it is known what the closure in First does.
-/
import Derived.Test.YtbbaaegfbbjnjaaDoorRe1
import Derived.Laws.EntriesVeiled
import Derived.Test.YtbbaaegfbbjnjaaDoorRe4
namespace Go.Proofs.YtbbaaegfbbjnjaaDoor
open Go.ChangeShapes Go.WideShapes Go.ChangeAt Go.RowKit

/-- What First tells. -/
def FirstT (B : Nat) (res : Except Nat (Tr 19 × Nat × Nat)) (r : Ending) (w' : World) : Prop := match res with
  | .error e => r = .returned (.tuple #[.agg #[.bool false, .slice none 0 0, .slice none 0 0], .int .i64 0, .int .i64 (e : Int)])
  | .ok (t, k, _) => ∃ v, r = .returned (.tuple #[v, .int .i64 (k : Int), .int .i64 0]) ∧ IsF w' B w'.heap.size 19 v t
/-- What the closure does with these bytes. -/
def Reads (w : World) (v : Value) (res : Except Nat (Tr 19 × Nat × Nat)) : Prop := ∀ (w1 : World) (T g e k : Nat), Clo w1 37 T g e k 0 → Fr [] w w1 → w.heap.size ≤ g →
  Calls Tryd.prog 37 #[v, .int .i64 1, .pointer (some ⟨e, 0, none⟩), .pointer (some ⟨k, 0, none⟩)] w1 fun r w' => ReadT w1.heap.size 16 res g r w' ∧ Fr [g] w1 w'

set_option maxRecDepth 20000 in
set_option maxHeartbeats 400000 in
theorem first_long (w : World) {ao : Option Addr} {n c : Nat} (hn : 65536 < n) (hn2 : n ≤ 140737488355328) : Calls Tryd.prog 25 #[.slice ao n c] w fun r w' => FirstT w.heap.size (.error 44) r w' ∧ Fr [] w w' := by
  unfold FirstT
  go_enter Tryd.func25, Tryd.ntmps25
  go_wp2
  go_returns
  exact ⟨rfl, (Fr.refl _ _).alloc _⟩
set_option maxRecDepth 20000 in
set_option maxHeartbeats 400000 in
theorem first_none (w : World) {ao : Option Addr} {c : Nat} : Calls Tryd.prog 25 #[.slice ao 0 c] w fun r w' => FirstT w.heap.size (.error 41) r w' ∧ Fr [] w w' := by
  unfold FirstT
  go_enter Tryd.func25, Tryd.ntmps25
  go_wp2
  go_returns
  exact ⟨rfl, (Fr.refl _ _).alloc _⟩

theorem blk_4 (w : World) (I A B C : Obj) : ((((w.alloc I).alloc A).alloc B).alloc C).heap[w.heap.size]? = some I := by
  rw [blk_old _ _ (by simp; omega), blk_old _ _ (by simp; omega), blk_old _ _ (by simp)]; exact blk_new _ _

set_option maxRecDepth 20000 in
set_option maxHeartbeats 800000 in
theorem first_at (w : World) {ao : Option Addr} {n c : Nat} {res : Except Nat (Tr 19 × Nat × Nat)} (h : Reads w (.slice ao n c) res) (h0 : 0 < n) (hn : n ≤ 65536) : Calls Tryd.prog 25 #[.slice ao n c] w fun r w' => FirstT w.heap.size res r w' ∧ Fr [] w w' := by
  have hmf : ∀ (fn : Fn) (first cap : Array Value) (w : World), (Instr.makeFunc fn first cap).run Tryd.prog w = .ok (.func fn first cap) w := fun _ _ _ _ => rfl
  have hz : ((n : Int) == 0) = false := beq_eq_false_iff_ne.2 (by omega)
  have HH := hid h
  clear h
  rcases res with x | ⟨t, k, c'⟩
  all_goals unfold FirstT
  all_goals go_enter Tryd.func25, Tryd.ntmps25
  all_goals go_wp2_with fail
  all_goals refine (gate_c _).mono ?_
  all_goals rintro r w1 ⟨rfl, rfl⟩
  all_goals go_wp2_with fail
  all_goals refine (HH.out _ _ (w.heap.size + 1) _ _ (clo_new _ _ _ (by simp)) (((((Fr.refl [] w).alloc _).alloc _).alloc _).alloc _) (by omega)).mono ?_
  · rintro r w1 ⟨hT, f1⟩
    obtain rfl : r = _ := hT
    have hbk := f1.at (blk_4 w _ _ _ _) (by simp)
    have F1 : Hid (Fr [] w w1) := ((((((Fr.refl [] w).alloc _).alloc _).alloc _).alloc _).mono (S' := [w.heap.size + 1]) (by simp)).trans f1 |>.shed (fun x hx hlt => by simp at hx; omega)
    have hd0 := blk_cell hbk 0
    have hd1 := blk_cell hbk 1
    have hd2 := blk_cell hbk 2
    have hf0 := blk_frozen hbk 0
    have hf1 := blk_frozen hbk 1
    have hf2 := blk_frozen hbk 2
    simp at hd0 hd1 hd2
    have HBK := hid hbk
    clear f1 hbk
    go_wp2
    have K := fin_z (a := .bool false) (b := .slice none 0 0) (c := .slice none 0 0) HBK.out F1.out (Nat.le_refl _)
    exact bodyPost_ret (ret_ctt rfl rfl (load_item K.1)) rfl ⟨rfl, K.2⟩
  · rintro r w1 ⟨⟨v, rfl, hv, hgc⟩, f1⟩
    obtain ⟨l, a1, n1, c1, a2, n2, c2, rfl⟩ := hv.isV.agg
    have hbk := f1.at (blk_4 w _ _ _ _) (by simp)
    have F1 : Hid (Fr [] w w1) := ((((((Fr.refl [] w).alloc _).alloc _).alloc _).alloc _).mono (S' := [w.heap.size + 1]) (by simp)).trans f1 |>.shed (fun x hx hlt => by simp at hx; omega)
    have hd0 := blk_cell hbk 0
    have hd1 := blk_cell hbk 1
    have hd2 := blk_cell hbk 2
    have hf0 := blk_frozen hbk 0
    have hf1 := blk_frozen hbk 1
    have hf2 := blk_frozen hbk 2
    simp at hd0 hd1 hd2
    have HBK := hid hbk
    have HV := hid hv
    clear f1 hbk hv hgc
    go_wp2
    have K := fin_z (a := .bool l) (b := .slice a1 n1 c1) (c := .slice a2 n2 c2) HBK.out F1.out (Nat.le_refl _)
    refine bodyPost_ret (ret_ctt rfl rfl (load_item K.1)) rfl ⟨⟨_, rfl, ?_⟩, K.2⟩
    have hsz : ((((w1.setCell ⟨w.heap.size, 0, none⟩ (.bool l)).setCell ⟨w.heap.size, 1, none⟩ (.slice a1 n1 c1)).setCell ⟨w.heap.size, 2, none⟩ (.slice a2 n2 c2))).heap.size = w1.heap.size := by simp [World.setCell]
    rw [hsz]
    refine (HV.out.step fun k hk _ => ?_).wide (by simp; omega) (Nat.le_refl _)
    simp at hk
    rw [blk_setne _ _ _ (by omega), blk_setne _ _ _ (by omega), blk_setne _ _ _ (by omega)]
end Go.Proofs.YtbbaaegfbbjnjaaDoor
namespace Go.Proofs.YtbbaaegfbbjnjaaDoor
open Go.ChangeShapes Go.WideShapes Go.ChangeAt Go.RowKit

/-- What Decode tells. -/
def DecT (B n : Nat) (res : Except Nat (Tr 19 × Nat × Nat)) (r : Ending) (w' : World) : Prop := match res with
  | .error e => r = .returned (.tuple #[.agg #[.bool false, .slice none 0 0, .slice none 0 0], .int .i64 (e : Int)])
  | .ok (t, k, _) => (k < n ∧ r = .returned (.tuple #[.agg #[.bool false, .slice none 0 0, .slice none 0 0], .int .i64 42])) ∨ (n ≤ k ∧ ∃ v, r = .returned (.tuple #[v, .int .i64 0]) ∧ IsF w' B w'.heap.size 19 v t)

theorem fin_zi {w W : World} {N M : Nat} {a b c : Value} {T : TypeId} {n : Nat} {v : Value} {t : Tr n} (hM : w.heap.size ≤ M) (hv : IsF W M W.heap.size n v t) (hN : N < M) (A : Obj) :
    IsF ((((W.setCell ⟨N, 0, none⟩ a).setCell ⟨N, 1, none⟩ b).setCell ⟨N, 2, none⟩ c).alloc A) w.heap.size ((((W.setCell ⟨N, 0, none⟩ a).setCell ⟨N, 1, none⟩ b).setCell ⟨N, 2, none⟩ c).alloc A).heap.size n v t ∧ T = T := by
  refine ⟨(hv.step (w' := ((((W.setCell ⟨N, 0, none⟩ a).setCell ⟨N, 1, none⟩ b).setCell ⟨N, 2, none⟩ c).alloc A)) fun k hk hk2 => ?_).wide (by omega) (by simp [World.setCell]), rfl⟩
  rw [blk_old _ _ (by simpa [World.setCell] using hk2), blk_setne _ _ _ (by omega), blk_setne _ _ _ (by omega), blk_setne _ _ _ (by omega)]

set_option maxRecDepth 20000 in
set_option maxHeartbeats 800000 in
theorem decode_at (w : World) {ao : Option Addr} {n c : Nat} {res : Except Nat (Tr 19 × Nat × Nat)} (h : ∀ w1, Fr [] w w1 → Calls Tryd.prog 25 #[.slice ao n c] w1 fun r w' => FirstT w1.heap.size res r w' ∧ Fr [] w1 w') (hk : ∀ t k c', res = .ok (t, k, c') → k ≤ 100000) (he : ∀ e, res = .error e → 0 < e ∧ e < 100) :
    Calls Tryd.prog 15 #[.slice ao n c] w fun r w' => DecT w.heap.size n res r w' ∧ Fr [] w w' := by
  have HH := hid h
  clear h
  have F0 := hid ((Fr.refl [] w).alloc (.cells #[.bool false, .slice none 0 0, .slice none 0 0] 44))
  have HN := hid (blk_new w (.cells #[.bool false, .slice none 0 0, .slice none 0 0] 44))
  rcases res with x | ⟨t, k, c'⟩
  · have hx := he x rfl
    have hz : ((x : Int) == 0) = false := beq_eq_false_iff_ne.2 (by omega)
    unfold DecT
    go_enter Tryd.func15, Tryd.ntmps15
    go_wp2_with fail
    refine (HH.out _ F0.out).mono ?_
    rintro r w1 ⟨hT, f1⟩
    obtain rfl : r = _ := hT
    have hbk := f1.at HN.out (by simp)
    have F1 := hid (F0.out.trans f1)
    have hd0 := blk_cell hbk 0
    have hd1 := blk_cell hbk 1
    have hd2 := blk_cell hbk 2
    have hf0 := blk_frozen hbk 0
    have hf1 := blk_frozen hbk 1
    have hf2 := blk_frozen hbk 2
    simp at hd0 hd1 hd2
    have hlt := blk_lt hbk
    have HBK := hid hbk
    clear f1 hbk
    go_wp2
    have K := fin_z (a := .bool false) (b := .slice none 0 0) (c := .slice none 0 0) HBK.out F1.out (Nat.le_refl _)
    exact bodyPost_ret (ret_ct rfl rfl (load_item (by rw [blk_old _ _ (blk_lt K.1)]; exact K.1))) rfl ⟨rfl, K.2.alloc _⟩
  · have hk1 := hk t k c' rfl
    unfold DecT
    by_cases hkn : k < n
    all_goals go_enter Tryd.func15, Tryd.ntmps15
    all_goals go_wp2_with fail
    all_goals refine (HH.out _ F0.out).mono ?_
    · rintro r w1 ⟨⟨v, rfl, hv⟩, f1⟩
      obtain ⟨l, a1, n1, c1, a2, n2, c2, rfl⟩ := hv.isV.agg
      have hbk := f1.at HN.out (by simp)
      have F1 := hid (F0.out.trans f1)
      have hd0 := blk_cell hbk 0
      have hd1 := blk_cell hbk 1
      have hd2 := blk_cell hbk 2
      have hf0 := blk_frozen hbk 0
      have hf1 := blk_frozen hbk 1
      have hf2 := blk_frozen hbk 2
      simp at hd0 hd1 hd2
      have hlt := blk_lt hbk
      have HBK := hid hbk
      clear f1 hbk hv
      go_wp2
      have K := fin_z (a := .bool false) (b := .slice none 0 0) (c := .slice none 0 0) HBK.out F1.out (Nat.le_refl _)
      exact bodyPost_ret (ret_ct rfl rfl (load_item (by rw [blk_old _ _ (blk_lt K.1)]; exact K.1))) rfl ⟨.inl ⟨hkn, rfl⟩, K.2.alloc _⟩
    · rintro r w1 ⟨⟨v, rfl, hv⟩, f1⟩
      obtain ⟨l, a1, n1, c1, a2, n2, c2, rfl⟩ := hv.isV.agg
      have hbk := f1.at HN.out (by simp)
      have F1 := hid (F0.out.trans f1)
      have hd0 := blk_cell hbk 0
      have hd1 := blk_cell hbk 1
      have hd2 := blk_cell hbk 2
      have hf0 := blk_frozen hbk 0
      have hf1 := blk_frozen hbk 1
      have hf2 := blk_frozen hbk 2
      simp at hd0 hd1 hd2
      have hlt := blk_lt hbk
      have HBK := hid hbk
      have HV := hid hv
      clear f1 hbk hv
      go_wp2
      have K := fin_z (a := .bool l) (b := .slice a1 n1 c1) (c := .slice a2 n2 c2) HBK.out F1.out (Nat.le_refl _)
      exact bodyPost_ret (ret_ct rfl rfl (load_item (by rw [blk_old _ _ (blk_lt K.1)]; exact K.1))) rfl ⟨.inr ⟨by omega, _, rfl, (fin_zi (w := w) (T := 0) (M := (w.alloc (.cells #[.bool false, .slice none 0 0, .slice none 0 0] 44)).heap.size) (by simp) HV.out (by simp) _).1⟩, K.2.alloc _⟩
end Go.Proofs.YtbbaaegfbbjnjaaDoor
namespace Go.Proofs.YtbbaaegfbbjnjaaDoor
open Go.ChangeShapes Go.WideShapes Go.ChangeAt Go.RowKit

theorem read_c {T g e k : Nat} : ∀ (n d : Nat) (w : World) (v : Value) (b : List Nat) (c : Nat), d + n = 17 → 1 ≤ d → Rd w v (bv b) → By b → b ≠ [] → b.length ≤ 100000 → Clo w 37 T g e k c → c ≤ 4096 →
    Calls Tryd.prog 37 #[v, .int .i64 (d : Int), .pointer (some ⟨e, 0, none⟩), .pointer (some ⟨k, 0, none⟩)] w fun r w' => ReadT w.heap.size n (rdT n b c) g r w' ∧ Fr [g] w w'
  | 0, d, w, v, b, c, hd, hd1, hr, hb, h0, hl, C, hc => by
    refine (read_deep w C v (.inl (by omega)) (by omega)).mono ?_
    rintro r w' ⟨h1, h2⟩
    exact ⟨h1, h2⟩
  | n + 1, d, w, v, b, c, hd, hd1, hr, hb, h0, hl, C, hc => by
    by_cases hc4 : c = 4096
    · refine (read_deep w C v (.inr hc4) (by omega)).mono ?_
      rintro r w' ⟨h1, h2⟩
      have e1 : rdT (n + 1) b c = .error 43 := by unfold rdT; rw [if_pos hc4]
      rw [e1]
      exact ⟨h1, h2⟩
    · rcases hh : hdr b with x | ⟨l, s, en⟩
      · have e1 : rdT (n + 1) b c = .error x := by unfold rdT; rw [if_neg hc4, hh]
        have hx0 : x ≠ 0 := by
          rcases rdT_err (n + 1) b c x hb h0 hc (by omega) e1 with h | h | h <;> omega
        rw [e1]
        refine (read_bad w C hr hb h0 hl (by omega) (by omega) hh hx0).mono ?_
        rintro r w' ⟨h1, h2⟩
        exact ⟨h1, h2⟩
      · rcases l with _ | _
        · have e1 : rdT (n + 1) b c = .ok (mkT false ((b.take en).drop s) [], en, c + 1) := by unfold rdT; rw [if_neg hc4, hh]; rfl
          rw [e1]
          refine (read_str (n := n + 3) w C hr hb h0 hl (by omega) (by omega) hh).mono ?_
          rintro r w' ⟨h1, h2⟩
          exact ⟨h1, h2⟩
        · refine (read_list (d := d) (n := n) w C hr hb h0 hl (by omega) (by omega) hh (by omega) (fun w1 v1 b1 c1 r1 y1 z1 l1 C1 q1 => ?_)).mono ?_
          · have := read_c n (d + 1) w1 v1 b1 c1 (by omega) (by omega) r1 y1 z1 l1 C1 q1
            rwa [show ((d + 1 : Nat) : Int) = (d : Int) + 1 by omega] at this
          · rintro r w' ⟨h1, h2⟩
            refine ⟨?_, h2⟩
            rcases hR : itemsR (rdT n) (en - s) ((b.take en).drop s) (c + 1) with x | ⟨ks, c'⟩
            · have e1 : rdT (n + 1) b c = .error x := by unfold rdT; rw [if_neg hc4, hh]; simp only [if_true]; rw [hR]
              rw [hR] at h1
              rw [e1]; exact h1
            · have e1 : rdT (n + 1) b c = .ok (mkT true [] ks, en, c') := by unfold rdT; rw [if_neg hc4, hh]; simp only [if_true]; rw [hR]
              rw [hR] at h1
              rw [e1]; exact h1

theorem first_c (w : World) {v : Value} {b : List Nat} (hr : Rd w v (bv b)) (hb : By b) (hl : b.length ≤ 140737488355328) : Calls Tryd.prog 25 #[v] w fun r w' => FirstT w.heap.size (firstL b) r w' ∧ Fr [] w w' := by
  obtain ⟨a, c, hv⟩ := hr.form
  rw [bv_len] at hv
  subst hv
  by_cases h1 : 65536 < b.length
  · have e : firstL b = .error 44 := by unfold firstL; rw [if_pos h1]
    rw [e]; exact first_long w h1 hl
  · by_cases h2 : b = []
    · have e : firstL b = .error 41 := by unfold firstL; rw [if_neg h1, if_pos h2]
      rw [e]; subst h2; exact first_none w
    · have e : firstL b = rdT 16 b 0 := by unfold firstL; rw [if_neg h1, if_neg h2]
      rw [e]
      exact first_at w (fun w1 T g e k C f _ => read_c 16 1 w1 _ b 0 (by omega) (by omega) (hr.fr f) hb h2 (by omega) C (by omega)) (List.length_pos_iff.2 h2) (by omega)
theorem decode_c (w : World) {v : Value} {b : List Nat} (hr : Rd w v (bv b)) (hb : By b) (hl : b.length ≤ 140737488355328) : Calls Tryd.prog 15 #[v] w fun r w' => DecT w.heap.size b.length (firstL b) r w' ∧ Fr [] w w' := by
  obtain ⟨a, c, hv⟩ := hr.form
  rw [bv_len] at hv
  subst hv
  refine decode_at w (fun w1 f1 => first_c w1 (hr.fr f1) hb hl) ?_ ?_
  · intro t k c' h
    obtain ⟨⟨_, _, _, k4, _⟩, k5⟩ := firstL_inv hb h
    omega
  · intro x h
    unfold firstL at h
    split at h
    · cases h; omega
    · split at h
      · cases h; omega
      · rcases rdT_err 16 b 0 x hb (by assumption) (by omega) (by omega) h with h | h | h <;> omega
end Go.Proofs.YtbbaaegfbbjnjaaDoor
