/-
  What Put of package mem answers.
-/
import Derived.Test.YtldcjkddalmkcaaMI
namespace Go.Proofs.Ytldcjkddalmkcaa
open Go.ChangeShapes Go.WideShapes Go.ChangeAt Go.RowKit

set_option maxRecDepth 20000 in
set_option maxHeartbeats 800000 in
theorem put_bad (w : World) (t : Nat) {uv vv : Value} {u v : List Nat} (ru : Rd w uv (bv u)) (s : Nat) (k : Int) (h : vb u.length s k = false) (rv : Rd w vv (bv v)) :
    Calls Try.prog 11 #[.pointer (some ⟨t, 0, none⟩), uv, .int .u64 (s : Int), .int .i64 k, vv] w fun e w' => e = .returned (.int .i64 23) ∧ Fr [] w w' := by
  have HK := hid (key_bad w ru s k h)
  obtain ⟨ua, uc, hue⟩ := ru.form
  obtain ⟨va, vc, hve⟩ := rv.form
  rw [bv_len] at hue hve
  subst hue
  subst hve
  clear ru rv h
  go_enter Try.func11, Try.ntmps11
  go_wp2_with fail
  refine HK.out.mono ?_
  rintro e w1 ⟨rfl, f1⟩
  go_wp2
  go_ret
  exact ⟨rfl, f1⟩

set_option maxRecDepth 20000 in
set_option maxHeartbeats 800000 in
theorem put_long (w : World) (t : Nat) {uv vv : Value} {u v : List Nat} (ru : Rd w uv (bv u)) (hul : u.length ≤ 128) (s k : Nat) (hs : s ≤ 72057594037927935) (hk : k ≤ 1) (rv : Rd w vv (bv v)) (hv : 16384 < v.length) :
    Calls Try.prog 11 #[.pointer (some ⟨t, 0, none⟩), uv, .int .u64 (s : Int), .int .i64 (k : Int), vv] w fun e w' => e = .returned (.int .i64 61) ∧ Fr [] w w' := by
  have HK := hid (key_ok w ru hul s k hs hk)
  obtain ⟨ua, uc, hue⟩ := ru.form
  obtain ⟨va, vc, hve⟩ := rv.form
  rw [bv_len] at hue hve
  subst hue
  subst hve
  clear ru rv
  go_enter Try.func11, Try.ntmps11
  go_wp2_with fail
  refine HK.out.mono ?_
  rintro e w1 ⟨kv, rfl, o1, f1⟩
  obtain ⟨ka, kc, rfl, _⟩ := ownsRow_slice o1
  clear o1
  go_wp2
  go_ret
  exact ⟨rfl, f1⟩

set_option maxRecDepth 20000 in
set_option maxHeartbeats 2000000 in
theorem put_twice (w : World) {B t : Nat} {H : List Nat} {pre : List E} {e0 : E} {r : List E} (T : Tb w B t H (pre ++ e0 :: r)) {uv vv : Value} {u v : List Nat} (ru : Rd w uv (bv u)) (hu : By u) (hul : u.length ≤ 128) (s k : Nat) (hs : s ≤ 72057594037927935) (hk : k ≤ 1) (rv : Rd w vv (bv v)) (hvl : v.length ≤ 16384) (C : CutK (pre ++ e0 :: r) pre (e0 :: r) (keyL u s k)) (heq : e0.key = keyL u s k) :
    Calls Try.prog 11 #[.pointer (some ⟨t, 0, none⟩), uv, .int .u64 (s : Int), .int .i64 (k : Int), vv] w fun e w' => e = .returned (.int .i64 60) ∧ Fr [] w w' := by
  have hmf : ∀ (fn : Fn) (first cap : Array Value) (w : World), (Instr.makeFunc fn first cap).run Try.prog w = .ok (.func fn first cap) w := fun _ _ _ _ => rfl
  obtain ⟨hv, M, O⟩ := T.mm
  have hh0 : 0 < e0.h := (T.hh e0 (by simp)).1
  have HM := hid M
  have HRU := hid ru
  have HC := hid C
  have HIS := hid (keyL_is hul hs hk)
  have HBK := hid (keyL_by hu s k)
  have HEQ := hid heq
  have hvl' : decide ((16384 : Int) < (v.length : Int)) = false := by simp; omega
  obtain ⟨ua, uc, hue⟩ := ru.form
  obtain ⟨va, vc, hve⟩ := rv.form
  rw [bv_len] at hue hve
  subst hue
  subst hve
  clear T M O ru rv hu C heq
  go_enter Try.func11, Try.ntmps11
  go_wp2_with fail
  refine (key_ok w HRU.out hul s k hs hk).mono ?_
  rintro e w1 ⟨kv, rfl, o1, f1⟩
  have RK := hid (Rd.ownB o1)
  obtain ⟨ka, kc, rfl, _⟩ := ownsRow_slice o1
  generalize (keyL u s k).length = KL at RK
  have F1 := hid f1
  have M1 := hid (HM.out.fr f1)
  clear o1 f1
  go_upto_region 6 with fail
  apply wp_region_lit
  refine wpList_val (v := .pointer (some ⟨t, 0, none⟩)) (w' := w1) rfl (by go_simp) ?_
  refine wpList_val (v := .slice ka KL kc) (w' := w1) rfl (by go_simp) ?_
  refine wpList_val (v := .func (.func 31) #[.slice ka KL kc] #[]) (w' := w1) rfl (by go_simp) ?_
  go_wp2_with fail
  refine (beforeK_c w1 M1.out RK.out HIS.out HBK.out HC.out).mono ?_
  rintro e w2 ⟨rfl, f2⟩
  rename_i hK
  refine hK _ _ ?_
  clear hK
  refine wpList_val (v := .pointer (some ⟨w2.heap.size, 0, none⟩)) (w' := w2.alloc (.cells (List.replicate 12 (Value.pointer none)).toArray 68)) rfl (by go_simp) ?_
  refine wpList_stT rfl (.tmp 13) (.tmp 33) rfl (by rw [← bfs_all t pre]; exact bfs_tw t pre 12) (bfs_tw t pre 0) (blk_new w2 _) (by simp [Act.eval, Act.put]) (by simp [Act.eval, Act.put]) ?_
  have AB := hid (row_heapT (ds := bfs t pre 0) (blk_new w2 (.cells (List.replicate 12 (Value.pointer none)).toArray 68)))
  have F3 := hid (((F1.out.trans f2).alloc (.cells (List.replicate 12 (Value.pointer none)).toArray 68)).row (bfs t pre 0).toArray (p := w2.heap.size) (.inr (by have := F1.out.size; have := f2.size; omega)))
  have G3 : Hid (Fr [] w1 (World.setRow (w2.alloc (.cells (List.replicate 12 (Value.pointer none)).toArray 68)) w2.heap.size (bfs t pre 0).toArray)) := (f2.alloc _).row _ (.inr f2.size)
  clear f2
  generalize w2.heap.size = A at *
  generalize World.setRow _ A (bfs t pre 0).toArray = w3 at AB F3 G3 ⊢
  have M3 := hid (M1.out.fr G3.out)
  have RK3 := hid (RK.out.fr G3.out)
  have ca0 : w3.cell? ⟨A, 0, none⟩ = some (pt (bfr (t, 1) pre 0)) := by rw [lst_cell AB.out, bfs_at t pre (by omega)]
  have cl0 := M3.out.link (i := 0) (by omega)
  generalize bfr (t, 1) pre 0 = p0 at ca0 cl0
  obtain ⟨q1, q2⟩ := p0
  replace cl0 : w3.cell? ⟨q1, q2 + 4, none⟩ = some (lk (e0 :: r) 0) := cl0
  unfold pt at ca0
  rw [show lk (e0 :: r) 0 = .pointer (some ⟨e0.b, 0, none⟩) from by show (if 0 < e0.h then _ else _) = _; rw [if_pos hh0]; rfl] at cl0
  have g0 : EntB w3 B e0 r := Chain.mid M3.out.ch
  have ce0 := g0.cells.1
  have EQ := hid (bytesEqual_c g0.rk RK3.out g0.byk HBK.out)
  rw [decide_eq_true HEQ.out] at EQ
  obtain ⟨ea, ec, he0⟩ := g0.rk.form
  rw [he0] at ce0 EQ
  clear g0 he0 M1 RK G3 M3 RK3 AB F1
  go_wp2_with (go_at_call 32; refine EQ.out.mono ?_; rintro e w3 ⟨rfl, rfl⟩)
  go_ret
  exact ⟨rfl, F3.out⟩

/-- What Put answers: es the entries, u, s, k, v what is put. -/
def pE (es : List E) (u : List Nat) (s : Nat) (k : Int) (v : List Nat) : Nat :=
  if vb u.length s k = false then 23 else if 16384 < v.length then 61 else if es.any (fun e => decide (e.key = keyL u s k.toNat)) then 60 else 0
/-- What became of a table's entries. -/
def PutR (b0 : Nat) (H : List Nat) (es es' : List E) (u : List Nat) (s : Nat) (k : Int) (v : List Nat) : Prop :=
  (pE es u s k v ≠ 0 ∧ es' = es) ∨ (pE es u s k v = 0 ∧ ∃ pre post n, CutK es pre post (keyL u s k.toNat) ∧ (∀ e ∈ post, ordK (keyL u s k.toNat) e.key < 0) ∧ es' = pre ++ n :: post ∧ n.key = keyL u s k.toNat ∧ n.val = v ∧ n.h = htN H es.length ∧ b0 ≤ n.b)
theorem vb_kind {l s : Nat} {k : Int} (h : vb l s k = true) : l ≤ 128 ∧ s ≤ 72057594037927935 ∧ (k = 0 ∨ k = 1) := by
  unfold vb at h
  simpa using h
theorem put_c (w : World) {B t : Nat} {H : List Nat} {es : List E} (T : Tb w B t H es) (hn : es.length ≤ 1000000) (hH : H.length ≤ 1000000) {uv vv : Value} {u v : List Nat} (ru : Rd w uv (bv u)) (hu : By u) (s : Nat) (k : Int) (rv : Rd w vv (bv v)) (hv : By v) :
    Calls Try.prog 11 #[.pointer (some ⟨t, 0, none⟩), uv, .int .u64 (s : Int), .int .i64 k, vv] w fun e w' => e = .returned (.int .i64 (pE es u s k v : Int)) ∧ Fr (bks t es) w w' ∧ ∃ es', Tb w' B t H es' ∧ PutR w.heap.size H es es' u s k v := by
  by_cases h1 : vb u.length s k = false
  · refine (put_bad w t ru s k h1 rv).mono ?_
    rintro e w' ⟨rfl, f⟩
    have hp : pE es u s k v = 23 := by unfold pE; rw [if_pos h1]
    exact ⟨by rw [hp]; rfl, f.mono (by simp), es, T.fr f, .inl ⟨by rw [hp]; omega, rfl⟩⟩
  · have h1' : vb u.length s k = true := by simpa using h1
    obtain ⟨hl, hs, hk⟩ := vb_kind h1'
    obtain ⟨m, rfl, hm⟩ : ∃ m : Nat, k = (m : Int) ∧ m ≤ 1 := by
      rcases hk with rfl | rfl
      · exact ⟨0, rfl, by omega⟩
      · exact ⟨1, rfl, by omega⟩
    have e1 : ((m : Int)).toNat = m := Int.toNat_natCast m
    by_cases h2 : 16384 < v.length
    · refine (put_long w t ru hl s m hs hm rv h2).mono ?_
      rintro e w' ⟨rfl, f⟩
      have hp : pE es u s (m : Int) v = 61 := by unfold pE; rw [if_neg h1, if_pos h2]
      exact ⟨by rw [hp]; rfl, f.mono (by simp), es, T.fr f, .inl ⟨by rw [hp]; omega, rfl⟩⟩
    · obtain ⟨pre, post, C⟩ := cutK_ex (keyL u s m) T.srt
      obtain ⟨rfl, hlo, hhi⟩ := C
      have hb : By (keyL u s m) := keyL_by hu s m
      have h8 : 8 ≤ (keyL u s m).length := by rw [keyL_len]; omega
      have hne1 : ∀ e ∈ pre, e.key ≠ keyL u s m := fun e he h => by
        have := hlo e he
        rw [h] at this
        have h3 := ordK_neg (keyL u s m) (keyL u s m)
        omega
      by_cases h3 : ∃ e ∈ post, e.key = keyL u s m
      · have hp : pE (pre ++ post) u s (m : Int) v = 60 := by
          obtain ⟨e, he, h⟩ := h3
          unfold pE
          rw [if_neg h1, if_neg h2, if_pos]
          rw [List.any_eq_true]
          exact ⟨e, by simp [he], by rw [e1]; simpa using h⟩
        cases post with
        | nil => obtain ⟨e, he, _⟩ := h3; cases he
        | cons e0 r =>
          have h0 : e0.key = keyL u s m := by
            obtain ⟨e, he, h⟩ := h3
            rcases List.mem_cons.1 he with rfl | he
            · exact h
            · exfalso
              have hs := T.srt
              rw [List.pairwise_append] at hs
              have := (List.pairwise_cons.1 hs.2.1).1 e he
              rw [h] at this
              exact hhi e0 (List.mem_cons_self ..) this
          refine (put_twice w T ru hu hl s m hs hm rv (by omega) ⟨rfl, hlo, hhi⟩ h0).mono ?_
          rintro e w' ⟨rfl, f⟩
          exact ⟨by rw [hp]; rfl, f.mono (by simp), _, T.fr f, .inl ⟨by rw [hp]; omega, rfl⟩⟩
      · have hne : ∀ e ∈ post, e.key ≠ keyL u s m := fun e he h => h3 ⟨e, he, h⟩
        have hp : pE (pre ++ post) u s (m : Int) v = 0 := by
          unfold pE
          rw [if_neg h1, if_neg h2, if_neg]
          rw [List.any_eq_true]
          rintro ⟨e, he, h⟩
          rw [e1] at h
          have h' : e.key = keyL u s m := by simpa using h
          rcases List.mem_append.1 he with he | he
          · exact hne1 e he h'
          · exact hne e he h'
        obtain ⟨hv0, M, _⟩ := T.mm
        have hgt := CutK.gt ⟨rfl, hlo, hhi⟩ hne (fun e he => by obtain ⟨r, g⟩ := M.ent (e := e) (List.mem_append_right _ he); exact ⟨g.byk, (isK_len g.isk).1⟩) hb h8
        have key : Calls Try.prog 11 #[.pointer (some ⟨t, 0, none⟩), uv, .int .u64 (s : Int), .int .i64 (m : Int), vv] w fun e w' => e = .returned (.int .i64 0) ∧ Fr (bks t (pre ++ post)) w w' ∧ ∃ n : E, n.key = keyL u s m ∧ n.val = v ∧ n.h = htN H (pre ++ post).length ∧ w.heap.size ≤ n.b ∧ Tb w' B t H (pre ++ n :: post) := by
          cases post with
          | nil => exact put_new0 w T hn hH ru hu hl s m hs hm rv hv (by omega) ⟨rfl, hlo, hhi⟩ hne
          | cons e0 r => exact put_new1 w T hn hH ru hu hl s m hs hm rv hv (by omega) ⟨rfl, hlo, hhi⟩ hne
        refine key.mono ?_
        rintro e w' ⟨rfl, f, n, n1, n2, n3, n4, n5⟩
        exact ⟨by rw [hp]; rfl, f, _, n5, .inr ⟨hp, pre, post, n, by rw [e1]; exact ⟨rfl, hlo, hhi⟩, by rw [e1]; exact hgt, rfl, by rw [e1]; exact n1, n2, n3, n4⟩⟩
end Go.Proofs.Ytldcjkddalmkcaa
