/-
  MemLast, walked.
-/
import Derived.Test.YtldcjkddalmkcaaMO
import Derived.Test.YtldcjkddalmkcaaLJ
namespace Go.Proofs.Ytldcjkddalmkcaa
open Go.ChangeShapes Go.WideShapes Go.ChangeAt Go.RowKit

/-- The entries of one key, so many, the newest ahead. -/
def EsL (u : List Nat) (X : Nat → List Nat) : Nat → List E → Prop
  | 0, es => es = []
  | i + 1, es => ∃ n r, es = n :: r ∧ n.key = keyL u (2 * i + 2) 1 ∧ n.val = X i ∧ EsL u X i r
theorem EsL.len {u : List Nat} {X : Nat → List Nat} : ∀ {i : Nat} {es : List E}, EsL u X i es → es.length = i
  | 0, _, h => by rw [show _ = [] from h]; rfl
  | i + 1, _, ⟨n, r, e, _, _, h⟩ => by rw [e, List.length_cons, EsL.len h]
theorem EsL.keys {u : List Nat} {X : Nat → List Nat} : ∀ {i : Nat} {es : List E}, EsL u X i es → ∀ e ∈ es, ∃ j, j < i ∧ e.key = keyL u (2 * j + 2) 1
  | 0, es, h, e, he => by rw [show es = [] from h] at he; cases he
  | i + 1, es, ⟨n, r, h0, h1, _, h⟩, e, he => by
    rw [h0] at he
    rcases List.mem_cons.1 he with rfl | he
    · exact ⟨i, by omega, h1⟩
    · obtain ⟨j, hj, k⟩ := EsL.keys h e he
      exact ⟨j, by omega, k⟩
theorem ord_same (u : List Nat) {s t : Nat} (hs : s ≤ 72057594037927935) (ht : t ≤ 72057594037927935) (h : s < t) : ¬ ordK (keyL u s 1) (keyL u t 1) < 0 := by
  rw [ordK_parts, keyL_user, keyL_user, if_pos ((cmpN_eq u u).2 rfl), keyL_tail u hs (Nat.le_refl 1), keyL_tail u ht (Nat.le_refl 1)]
  have := ord2_cases (((256 * s + 1) / 256 : Nat) : Int) (((256 * t + 1) / 256 : Nat) : Int) (((256 * s + 1) % 256 : Nat) : Int) (((256 * t + 1) % 256 : Nat) : Int)
  omega
theorem EsL.put {b0 : Nat} {H : List Nat} {u : List Nat} {X : Nat → List Nat} {i : Nat} {es es' : List E} (h : EsL u X i es) (hi : i ≤ 1000) (hu : u.length ≤ 128) (hx : (X i).length ≤ 200) (R : PutR b0 H es es' u (2 * i + 2) 1 (X i)) : pE es u (2 * i + 2) 1 (X i) = 0 ∧ EsL u X (i + 1) es' := by
  have hp : pE es u (2 * i + 2) 1 (X i) = 0 := by
    unfold pE
    rw [if_neg (by rw [show (1 : Int) = ((1 : Nat) : Int) from rfl, vb_ok hu (by omega) (Nat.le_refl 1)]; simp), if_neg (by omega), if_neg]
    rw [List.any_eq_true]
    rintro ⟨e, he, hk⟩
    have hk' : e.key = keyL u (2 * i + 2) 1 := by simpa using hk
    obtain ⟨j, hj, k⟩ := h.keys e he
    have h1 := keyL_tail u (s := 2 * i + 2) (k := 1) (by omega) (Nat.le_refl 1)
    have h2 := keyL_tail u (s := 2 * j + 2) (k := 1) (by omega) (Nat.le_refl 1)
    rw [← hk', k] at h1
    omega
  refine ⟨hp, ?_⟩
  rcases R with ⟨h1, _⟩ | ⟨_, pre, post, n, C, _, he, h1, h2, _⟩
  · exact absurd hp h1
  · have hpre : pre = [] := by
      cases pre with
      | nil => rfl
      | cons x r =>
        exfalso
        have hm : x ∈ es := by rw [C.eq]; simp
        obtain ⟨j, hj, k⟩ := h.keys x hm
        have := C.lo x (List.mem_cons_self ..)
        rw [k] at this
        exact ord_same u (by omega) (by omega) (by omega) this
    subst hpre
    have hpost := C.eq
    rw [List.nil_append] at hpost
    rw [List.nil_append, ← hpost] at he
    exact ⟨n, es, he, h1, h2, h⟩
theorem EsL.get0 {u : List Nat} {X : Nat → List Nat} {m : Nat} (hm : m < 2) {i : Nat} {es : List E} (h : EsL u X i es) (hi : i ≤ 1000) : gF es u m = none :=
  gF_none fun e he _ => by
    obtain ⟨j, hj, k⟩ := h.keys e he
    rw [k, keyL_tail u (by omega) (Nat.le_refl 1)]; omega
theorem EsL.get {u : List Nat} {X : Nat → List Nat} {m : Nat} (hm : 2 ≤ m) : ∀ {i : Nat} {es : List E}, EsL u X (i + 1) es → i ≤ 1000 → ∃ e, gF es u m = some e ∧ e.val = X (min (m / 2 - 1) i)
  | i, es, ⟨n, r, h0, h1, h2, h⟩, hi => by
    by_cases hle : 2 * i + 2 ≤ m
    · refine ⟨n, ?_, by rw [h2]; congr 1; omega⟩
      unfold gF
      rw [h0, List.find?_cons_of_pos]
      rw [h1, keyL_user, keyL_tail u (by omega) (Nat.le_refl 1)]
      simp; omega
    · have hskip : gF es u m = gF r u m := by
        unfold gF
        rw [h0, List.find?_cons_of_neg]
        rw [h1, keyL_user, keyL_tail u (by omega) (Nat.le_refl 1)]
        simp; omega
      cases i with
      | zero => omega
      | succ i =>
        obtain ⟨e, k1, k2⟩ := EsL.get hm h (by omega)
        exact ⟨e, by rw [hskip]; exact k1, by rw [k2]; congr 1; omega⟩

/-- What MemLast has in hand. -/
structure LaSt (w wr : World) (B t : Nat) (H : List Nat) (u : List Nat) (X : Nat → List Nat) (i : Nat) : Prop where
  tb : ∃ es, Tb wr B t H es ∧ EsL u X i es
  fr : Fr [] w wr
theorem LaSt.fr' {w wr w2 : World} {B t : Nat} {H u : List Nat} {X : Nat → List Nat} {i : Nat} (h : LaSt w wr B t H u X i) (f : Fr [] wr w2) : LaSt w w2 B t H u X i := by
  obtain ⟨⟨es, h1, h2⟩, h3⟩ := h
  exact ⟨⟨es, h1.fr f, h2⟩, h3.trans f⟩

set_option maxRecDepth 20000 in
set_option maxHeartbeats 4000000 in
theorem last_walk (w : World) {la ua : Option Addr} {len lc uc : Nat} {A : Nat → Option Addr} {C : Nat → Nat} {X : Nat → List Nat} {u : List Nat} (hR : Rows2 w la len A C X) (hl : len ≤ 9223372036854775807) (ru : Rd w (.slice ua u.length uc) (bv u)) (hu : By u) (hul : u.length ≤ 140737488355328) :
    Calls Try.prog 6 #[.slice la len lc, .slice ua u.length uc] w fun e w' => e = .returned (.bool true) ∧ Fr [] w w' := by
  have HR := hid hR
  have HRU := hid ru
  have HU := hid hu
  clear hR ru hu
  by_cases h1 : 40 < len
  · have h1' : decide ((40 : Int) < (len : Int)) = true := by simp; omega
    go_enter Try.func6, Try.ntmps6
    go_wp2_with (go_at_call 7; refine (known_c w).mono ?_; rintro e w1 ⟨rfl, f1⟩)
    go_ret
    exact ⟨rfl, f1⟩
  · by_cases h2 : 128 < u.length
    · have h1' : decide ((40 : Int) < (len : Int)) = false := by simp; omega
      have h2' : decide ((128 : Int) < (u.length : Int)) = true := by simp; omega
      go_enter Try.func6, Try.ntmps6
      go_wp2_with (go_at_call 7; refine (known_c w).mono ?_; rintro e w1 ⟨rfl, f1⟩)
      go_ret
      exact ⟨rfl, f1⟩
    · have h1' : decide ((40 : Int) < (len : Int)) = false := by simp; omega
      have h2' : decide ((128 : Int) < (u.length : Int)) = false := by simp; omega
      have h3 : len ≤ 40 := by omega
      have h4 : u.length ≤ 128 := by omega
      go_enter Try.func6, Try.ntmps6
      go_wp2_with (go_at_call 7; refine (known_c w).mono ?_; rintro e w1 ⟨rfl, f1⟩)
      have I0 : Hid (Ints (w1.alloc (.cells #[.int .i64 1, .int .i64 2, .int .i64 1, .int .i64 4] 3)) (some ⟨w1.heap.size, 0, none⟩) 4 (fun r => if r = 0 then 1 else if r = 1 then 2 else if r = 2 then 1 else 4)) := fun _ => ⟨w1.heap.size, 0, rfl, fun r hr => by
        rw [blk_cell (blk_new _ _)]
        rcases (show r = 0 ∨ r = 1 ∨ r = 2 ∨ r = 3 from by omega) with rfl | rfl | rfl | rfl <;> rfl⟩
      refine (new_c _ I0.out (by omega)).mono ?_
      rintro e w2 ⟨rfl, s2⟩
      have T2 := hid s2.tb
      have F2 : Hid (Fr [] w w2) := (f1.trans ((Fr.refl [] w1).alloc _)).trans s2.fr
      have hT : w.heap.size ≤ (w1.alloc (.cells #[.int .i64 1, .int .i64 2, .int .i64 1, .int .i64 4] 3)).heap.size := by have := f1.size; simp; omega
      have hHl : (hts (fun r => if r = 0 then 1 else if r = 1 then 2 else if r = 2 then 1 else 4) 4).length ≤ 1000000 := by rw [hts_len]; omega
      generalize hts (fun r => if r = 0 then 1 else if r = 1 then 2 else if r = 2 then 1 else 4) 4 = H at T2 hHl
      clear s2 I0
      generalize (w1.alloc (.cells #[.int .i64 1, .int .i64 2, .int .i64 1, .int .i64 4] 3)).heap.size = T at *
      clear f1
      have A0 : Hid (LaSt w w2 T T H u X 0) := ⟨⟨[], T2.out, rfl⟩, F2.out⟩
      clear T2 F2 h1 h2
      go_wp2_with fail
      go_loopw [6] (fun v6 wr => ∃ i : Nat, i ≤ len ∧ v6 = .int .i64 (i : Int) ∧ LaSt w wr T T H u X i) (fun v6 _ => len - (intOf v6).toNat)
      case atStart => exact ⟨0, Nat.zero_le _, rfl, A0.out⟩
      case round =>
        clear A0
        obtain ⟨i, hi, rfl, S⟩ := hrel
        have HS := hid S
        clear S
        by_cases hlt : i < len
        · obtain ⟨lb, lo, rfl, hrow⟩ := HR.out (by omega)
          obtain ⟨r1, r2, r3, r4⟩ := hrow i hlt
          have HROW := hid hrow
          have c1 := cell_fr HS.out.fr r1
          have R2 := hid (r2.fr HS.out.fr)
          have HB2 := hid r3
          by_cases hx : 200 < (X i).length
          · have hx' : decide ((200 : Int) < ((X i).length : Int)) = true := by simp; omega
            clear r1 r2 r3 hrow
            go_wp2
            go_ret
            exact ⟨rfl, HS.out.fr⟩
          · have hx' : decide ((200 : Int) < ((X i).length : Int)) = false := by simp; omega
            obtain ⟨es, tb, el⟩ := HS.out.tb
            have hes := el.len
            have HP := hid (put_c wr tb (by omega) hHl (HRU.out.fr HS.out.fr) HU.out (2 * i + 2) 1 (r2.fr HS.out.fr) r3)
            have HEL := hid el
            have HTB := hid tb
            rw [show ((2 * i + 2 : Nat) : Int) = 2 * (i : Int) + 2 from by omega] at HP
            clear r1 r2 r3 hrow el tb hes
            go_wp2_with fail
            refine HP.out.mono ?_
            rintro e w3 ⟨rfl, f3, es', T3, R3⟩
            obtain ⟨hp0, el'⟩ := HEL.out.put (by omega) h4 (by omega) R3
            rw [hp0]
            have S3 : Hid (LaSt w w3 T T H u X (i + 1)) := ⟨⟨es', T3, el'⟩, HTB.out.shed hT HS.out.fr f3⟩
            clear f3 T3 R3 hp0 el' HP HEL HTB c1 R2 HB2
            go_wp2_with fail
            go_loopw [7] (fun v7 wr => ∃ m : Nat, m ≤ 2 * i + 5 ∧ v7 = .int .u64 (m : Int) ∧ LaSt w wr T T H u X (i + 1)) (fun v7 _ => 2 * i + 5 - (intOf v7).toNat)
            case atStart => exact ⟨0, Nat.zero_le _, rfl, S3.out⟩
            case round =>
              clear S3 HS
              obtain ⟨m, hm, rfl, S⟩ := hrel
              have HS := hid S
              clear S
              by_cases hmle : m ≤ 2 * i + 4
              · obtain ⟨es, tb, el⟩ := HS.out.tb
                have HG := hid (get_c wr tb (HRU.out.fr HS.out.fr) HU.out m)
                by_cases hm2 : m < 2
                · rw [el.get0 hm2 (by omega)] at HG
                  have hq : (m : Int) / 2 = 0 := by omega
                  clear tb el
                  go_wp2_with fail
                  refine HG.out.mono ?_
                  rintro e w4 ⟨hg, f4⟩
                  replace hg : e = .returned (.tuple #[.slice none 0 0, .int .i64 0, .bool false]) := hg
                  subst hg
                  have S4 := hid (HS.out.fr' f4)
                  clear f4 HG
                  go_wp2
                  go_roundw
                  case rel => exact ⟨m + 1, by omega, by go_num, S4.out⟩
                  case measure => simp [intOf]; omega
                · obtain ⟨q, hq⟩ : ∃ q, q = m / 2 := ⟨_, rfl⟩
                  obtain ⟨e0, hg0, hv0⟩ := EsL.get (m := m) (by omega) el (by omega)
                  rw [← hq] at hv0
                  rw [hg0] at HG
                  have hq' : (m : Int) / 2 = (q : Int) := by omega
                  have hq1 : 1 ≤ q := by omega
                  obtain ⟨at', hat⟩ : ∃ at', at' = min (q - 1) i := ⟨_, rfl⟩
                  rw [← hat] at hv0
                  have hal : at' < len := by omega
                  obtain ⟨t1, t2, t3, t4⟩ := HROW.out at' hal
                  have HV := hid hv0
                  have T1 := hid t1
                  have T2 := hid t2
                  have T3 := hid t3
                  clear tb el hg0 hv0 t1 t2 t3 hq
                  go_wp2_with fail
                  refine HG.out.mono ?_
                  rintro e w4 ⟨⟨gv, rfl, o4⟩, f4⟩
                  rw [HV.out] at o4
                  have S4 := hid (HS.out.fr' f4)
                  have d1 := cell_fr S4.out.fr T1.out
                  have HBt := hid (bytes_c (Rd.ownB o4) (T2.out.fr S4.out.fr) T3.out T3.out)
                  rw [decide_eq_true rfl] at HBt
                  obtain ⟨ga, gc, rfl, _⟩ := ownsRow_slice o4
                  generalize ((tailN e0.key % 256 : Nat) : Int) = kd
                  clear f4 HG o4
                  rcases (show (i < q - 1 ∧ at' = i) ∨ (q - 1 ≤ i ∧ at' = q - 1) from by omega) with ⟨hc, hc2⟩ | ⟨hc, hc2⟩
                  · clear hat
                    subst hc2
                    go_wp2_with (go_at_call 19; refine HBt.out.mono ?_; rintro e w4 ⟨rfl, rfl⟩)
                    go_roundw
                    case rel => exact ⟨m + 1, by omega, by go_num, S4.out⟩
                    case measure => simp [intOf]; omega
                  · have hc3 : (q : Int) - 1 = (at' : Int) := by omega
                    have hc4 : at' ≤ i := by omega
                    clear hat hc2
                    go_wp2_with (go_at_call 19; refine HBt.out.mono ?_; rintro e w4 ⟨rfl, rfl⟩)
                    go_roundw
                    case rel => exact ⟨m + 1, by omega, by go_num, S4.out⟩
                    case measure => simp [intOf]; omega
              · have : m = 2 * i + 5 := by omega
                subst this
                go_wp2
                go_roundw
                case rel => exact ⟨i + 1, by omega, by go_num, HS.out⟩
                case measure => simp [intOf]; omega
        · have : i = len := by omega
          subst this
          go_wp2
          go_ret
          exact ⟨rfl, HS.out.fr⟩
end Go.Proofs.Ytldcjkddalmkcaa
