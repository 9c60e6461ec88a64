/-
  Which entry is asked for, without the program; what Get of package mem answers.
-/
import Derived.Test.YtldcjkddalmkcaaMJ
namespace Go.Proofs.Ytldcjkddalmkcaa
open Go.ChangeShapes Go.WideShapes Go.ChangeAt Go.RowKit

/-- The entry of a user key as of a number. -/
def gF (es : List E) (u : List Nat) (s : Nat) : Option E := es.find? fun e => decide (userL e.key = u) && decide (tailN e.key / 256 ≤ s)
theorem ordK_user {a b : List Nat} (h : ordK a b < 0) : cmpN (userL a) (userL b) ≤ 0 := by
  unfold ordK at h
  rw [ordP_def] at h
  split at h
  · omega
  · omega
theorem ordK_parts (a b : List Nat) : ordK a b = if cmpN (userL a) (userL b) = 0 then ord2 ((tailN a / 256 : Nat) : Int) ((tailN b / 256 : Nat) : Int) ((tailN a % 256 : Nat) : Int) ((tailN b % 256 : Nat) : Int) else cmpN (userL a) (userL b) := rfl
theorem gF_none {es : List E} {u : List Nat} {s : Nat} (h : ∀ e ∈ es, userL e.key = u → ¬ tailN e.key / 256 ≤ s) : gF es u s = none := by
  unfold gF
  rw [List.find?_eq_none]
  intro e he
  simp only [Bool.and_eq_true, decide_eq_true_eq]
  rintro ⟨h1, h2⟩
  exact h e he h1 h2
/-- Is the first one of the user key? -/
def gH (u : List Nat) : List E → Option E
  | [] => none
  | e :: _ => if userL e.key = u then some e else none
theorem gF_cut {es pre post : List E} {u : List Nat} {s s' : Nat} (hs' : s' ≤ 72057594037927935) (hss : s' ≤ s) (hmax : s' = s ∨ s' = 72057594037927935) (hsrt : es.Pairwise (fun a b => ordK a.key b.key < 0)) (hk : ∀ e ∈ es, isK e.key = true ∧ By e.key) (C : CutK es pre post (keyL u s' 1)) :
    gF es u s = gH u post := by
  have hut := keyL_tail u hs' (Nat.le_refl 1)
  have huu := keyL_user u s' 1
  have hpre : ∀ e ∈ pre, userL e.key = u → ¬ tailN e.key / 256 ≤ s := fun e he hu hle => by
    have h1 := C.lo e he
    have hke := hk e (by rw [C.eq]; simp [he])
    have h3 := (isK_len hke.1).2.2
    have h4 := tailN_lt hke.2 (isK_len hke.1).1
    rw [ordK_parts, huu, hu, if_pos ((cmpN_eq u u).2 rfl), hut] at h1
    have h2 := ord2_cases ((tailN e.key / 256 : Nat) : Int) (((256 * s' + 1) / 256 : Nat) : Int) ((tailN e.key % 256 : Nat) : Int) (((256 * s' + 1) % 256 : Nat) : Int)
    omega
  have happ : gF es u s = gF post u s := by
    unfold gF
    rw [C.eq, List.find?_append]
    have := gF_none hpre
    unfold gF at this
    rw [this]; rfl
  rw [happ]
  cases post with
  | nil => rfl
  | cons e r =>
    show _ = if userL e.key = u then some e else none
    have hhi := C.hi e (List.mem_cons_self ..)
    by_cases hu : userL e.key = u
    · rw [if_pos hu]
      unfold gF
      rw [List.find?_cons_of_pos]
      simp only [Bool.and_eq_true, decide_eq_true_eq]
      refine ⟨hu, ?_⟩
      have hke := hk e (by rw [C.eq]; simp)
      rw [ordK_parts, huu, hu, if_pos ((cmpN_eq u u).2 rfl), hut] at hhi
      have h2 := ord2_cases ((tailN e.key / 256 : Nat) : Int) (((256 * s' + 1) / 256 : Nat) : Int) ((tailN e.key % 256 : Nat) : Int) (((256 * s' + 1) % 256 : Nat) : Int)
      omega
    · rw [if_neg hu]
      have hgt : 0 < cmpN (userL e.key) u := by
        rw [ordK_parts, huu] at hhi
        have h0 : cmpN (userL e.key) u ≠ 0 := fun h => hu ((cmpN_eq _ _).1 h)
        rw [if_neg h0] at hhi
        omega
      refine gF_none fun x hx hxu => ?_
      rcases List.mem_cons.1 hx with rfl | hx
      · exact absurd hxu hu
      · exfalso
        rw [C.eq, List.pairwise_append] at hsrt
        have := ordK_user ((List.pairwise_cons.1 hsrt.2.1).1 x hx)
        rw [hxu] at this
        omega
/-- A user key that is too long isn't there. -/
theorem gF_long {es : List E} {u : List Nat} {s : Nat} (hk : ∀ e ∈ es, isK e.key = true) (hu : 128 < u.length) : gF es u s = none :=
  gF_none fun e he h => by
    have := isK_len (hk e he)
    rw [← h] at hu
    unfold userL at hu
    rw [List.length_take] at hu
    omega

/-- What Get hands over. -/
def GetT (w w' : World) (o : Option E) (r : Ending) : Prop :=
  match o with
  | none => r = .returned (.tuple #[.slice none 0 0, .int .i64 0, .bool false])
  | some e => ∃ v, r = .returned (.tuple #[v, .int .i64 ((tailN e.key % 256 : Nat) : Int), .bool true]) ∧ w'.ownsRow w.heap.size 5 1 v e.val.length (bv e.val)

theorem cell_fr {w w' : World} (f : Fr [] w w') {p : Addr} {v : Value} (h : w.cell? p = some v) : w'.cell? p = some v := by
  rw [World.cell?_of_block (w := w) (f.block _ (World.block_lt_of_cell? w _ h) (by simp))]; exact h
theorem results_tmp3' {fn : Func} {p q r : Tmp} (h : fn.results = #[.tmp p, .tmp q, .tmp r]) (tmps : Array Value) (P : Program) (w : World) :
    (results fn tmps).run P w = .ok (.tuple #[tmps.getD p undef, tmps.getD q undef, tmps.getD r undef]) w := by
  simp only [results, h]
  simp

set_option maxRecDepth 20000 in
set_option maxHeartbeats 800000 in
theorem get_bad (w : World) (t : Nat) {uv : Value} {u : List Nat} (ru : Rd w uv (bv u)) (hu : 128 < u.length) (s : Nat) :
    Calls Try.prog 17 #[.pointer (some ⟨t, 0, none⟩), uv, .int .u64 (s : Int)] w fun e w' => e = .returned (.tuple #[.slice none 0 0, .int .i64 0, .bool false]) ∧ Fr [] w w' := by
  have hb : ∀ s', vb u.length s' 1 = false := fun s' => by unfold vb; rw [decide_eq_false (by omega)]; rfl
  have HK := hid fun s' => key_bad w ru s' 1 (hb s')
  obtain ⟨ua, uc, hue⟩ := ru.form
  rw [bv_len] at hue
  subst hue
  clear ru hb
  by_cases hs : s ≤ 72057594037927935
  · have hs' : (s : Int) ≤ 72057594037927935 := by omega
    go_enter Try.func17, Try.ntmps17
    go_wp2_with fail
    refine (HK.out s).mono ?_
    rintro e w1 ⟨rfl, f1⟩
    go_wp2
    exact bodyPost_ret (results_tmp3' rfl _ _ _) rfl ⟨rfl, f1⟩
  · have hs' : 72057594037927935 < (s : Int) := by omega
    go_enter Try.func17, Try.ntmps17
    go_wp2_with fail
    refine (HK.out 72057594037927935).mono ?_
    rintro e w1 ⟨rfl, f1⟩
    go_wp2
    exact bodyPost_ret (results_tmp3' rfl _ _ _) rfl ⟨rfl, f1⟩
set_option maxRecDepth 20000 in
set_option maxHeartbeats 4000000 in
theorem get_nil (w : World) {B t : Nat} {H : List Nat} {pre : List E} (T : Tb w B t H (pre ++ ([] : List E))) {uv : Value} {u : List Nat} (ru : Rd w uv (bv u)) (hu : By u) (hul : u.length ≤ 128) (s s' : Nat) (hs0 : s' ≤ 72057594037927935) (hmin : (s = s' ∧ s ≤ 72057594037927935) ∨ (s' = 72057594037927935 ∧ 72057594037927935 < s)) (C : CutK (pre ++ ([] : List E)) pre ([] : List E) (keyL u s' 1)) :
    Calls Try.prog 17 #[.pointer (some ⟨t, 0, none⟩), uv, .int .u64 (s : Int)] w fun e w' => e = .returned (.tuple #[.slice none 0 0, .int .i64 0, .bool false]) ∧ Fr [] w w' := by
  have hmf : ∀ (fn : Fn) (first cap : Array Value) (w : World), (Instr.makeFunc fn first cap).run Try.prog w = .ok (.func fn first cap) w := fun _ _ _ _ => rfl
  obtain ⟨hv, M, O⟩ := T.mm
  have HM := hid M
  have HRU := hid ru
  have HU := hid hu
  have HC := hid C
  have HIS := hid (keyL_is hul hs0 (Nat.le_refl 1))
  have HBK := hid (keyL_by hu s' 1)
  have HK := hid (key_ok w ru hul s' 1 hs0 (Nat.le_refl 1))
  obtain ⟨ua, uc, hue⟩ := ru.form
  rw [bv_len] at hue
  subst hue
  clear T M O ru hu C
  rcases hmin with ⟨rfl, hs⟩ | ⟨rfl, hs⟩
  · have hs' : (s : Int) ≤ 72057594037927935 := by omega
    go_enter Try.func17, Try.ntmps17
    go_wp2_with fail
    refine HK.out.mono ?_
    rintro e w1 ⟨kv, rfl, o1, f1⟩
    have RK := hid (Rd.ownB o1)
    obtain ⟨ka, kc, rfl, _⟩ := ownsRow_slice o1
    generalize (keyL u s 1).length = KL at RK
    have F1 := hid f1
    have M1 := hid (HM.out.fr f1)
    clear o1 f1 HK
    go_wp2_with fail
    refine (firstK_c w1 M1.out RK.out HIS.out HBK.out HC.out).mono ?_
    rintro e w2 ⟨rfl, f2⟩
    have F2 := hid (F1.out.trans f2)
    have M2 := hid (M1.out.fr f2)
    clear f2 RK M1 F1
    rw [show lk ([] : List E) 0 = .pointer none from rfl]
    go_wp2
    exact bodyPost_ret (results_tmp3' rfl _ _ _) rfl ⟨rfl, F2.out⟩
  · have hs' : 72057594037927935 < (s : Int) := by omega
    go_enter Try.func17, Try.ntmps17
    go_wp2_with fail
    refine HK.out.mono ?_
    rintro e w1 ⟨kv, rfl, o1, f1⟩
    have RK := hid (Rd.ownB o1)
    obtain ⟨ka, kc, rfl, _⟩ := ownsRow_slice o1
    generalize (keyL u 72057594037927935 1).length = KL at RK
    have F1 := hid f1
    have M1 := hid (HM.out.fr f1)
    clear o1 f1 HK
    go_wp2_with fail
    refine (firstK_c w1 M1.out RK.out HIS.out HBK.out HC.out).mono ?_
    rintro e w2 ⟨rfl, f2⟩
    have F2 := hid (F1.out.trans f2)
    have M2 := hid (M1.out.fr f2)
    clear f2 RK M1 F1
    rw [show lk ([] : List E) 0 = .pointer none from rfl]
    go_wp2
    exact bodyPost_ret (results_tmp3' rfl _ _ _) rfl ⟨rfl, F2.out⟩
set_option maxRecDepth 20000 in
set_option maxHeartbeats 4000000 in
theorem get_other (w : World) {B t : Nat} {H : List Nat} {pre : List E} {e0 : E} {r : List E} (T : Tb w B t H (pre ++ (e0 :: r))) {uv : Value} {u : List Nat} (ru : Rd w uv (bv u)) (hu : By u) (hul : u.length ≤ 128) (s s' : Nat) (hs0 : s' ≤ 72057594037927935) (hmin : (s = s' ∧ s ≤ 72057594037927935) ∨ (s' = 72057594037927935 ∧ 72057594037927935 < s)) (C : CutK (pre ++ (e0 :: r)) pre (e0 :: r) (keyL u s' 1)) (hne : userL e0.key ≠ u) :
    Calls Try.prog 17 #[.pointer (some ⟨t, 0, none⟩), uv, .int .u64 (s : Int)] w fun e w' => e = .returned (.tuple #[.slice none 0 0, .int .i64 0, .bool false]) ∧ Fr [] w w' := by
  have hmf : ∀ (fn : Fn) (first cap : Array Value) (w : World), (Instr.makeFunc fn first cap).run Try.prog w = .ok (.func fn first cap) w := fun _ _ _ _ => rfl
  obtain ⟨hv, M, O⟩ := T.mm
  have hh0 : 0 < e0.h := (T.hh e0 (by simp)).1
  have HNE := hid hne
  clear hne
  have HM := hid M
  have HRU := hid ru
  have HU := hid hu
  have HC := hid C
  have HIS := hid (keyL_is hul hs0 (Nat.le_refl 1))
  have HBK := hid (keyL_by hu s' 1)
  have HK := hid (key_ok w ru hul s' 1 hs0 (Nat.le_refl 1))
  obtain ⟨ua, uc, hue⟩ := ru.form
  rw [bv_len] at hue
  subst hue
  clear T M O ru hu C
  rcases hmin with ⟨rfl, hs⟩ | ⟨rfl, hs⟩
  · have hs' : (s : Int) ≤ 72057594037927935 := by omega
    go_enter Try.func17, Try.ntmps17
    go_wp2_with fail
    refine HK.out.mono ?_
    rintro e w1 ⟨kv, rfl, o1, f1⟩
    have RK := hid (Rd.ownB o1)
    obtain ⟨ka, kc, rfl, _⟩ := ownsRow_slice o1
    generalize (keyL u s 1).length = KL at RK
    have F1 := hid f1
    have M1 := hid (HM.out.fr f1)
    clear o1 f1 HK
    go_wp2_with fail
    refine (firstK_c w1 M1.out RK.out HIS.out HBK.out HC.out).mono ?_
    rintro e w2 ⟨rfl, f2⟩
    have F2 := hid (F1.out.trans f2)
    have M2 := hid (M1.out.fr f2)
    clear f2 RK M1 F1
    rw [show lk (e0 :: r) 0 = .pointer (some ⟨e0.b, 0, none⟩) from by show (if 0 < e0.h then _ else _) = _; rw [if_pos hh0]; rfl]
    have g0 : EntB w2 B e0 r := Chain.mid M2.out.ch
    have ce1 := g0.cells.2.1
    have EQ := hid (bytesEqual_c g0.ru (HRU.out.fr F2.out) (g0.byk.take _) HU.out)
    rw [decide_eq_false HNE.out] at EQ
    obtain ⟨ea, ec, he0⟩ := g0.ru.form
    rw [he0] at ce1 EQ
    clear g0 he0
    go_wp2_with (go_at_call 32; refine EQ.out.mono ?_; rintro e w2 ⟨rfl, rfl⟩)
    exact bodyPost_ret (results_tmp3' rfl _ _ _) rfl ⟨rfl, F2.out⟩
  · have hs' : 72057594037927935 < (s : Int) := by omega
    go_enter Try.func17, Try.ntmps17
    go_wp2_with fail
    refine HK.out.mono ?_
    rintro e w1 ⟨kv, rfl, o1, f1⟩
    have RK := hid (Rd.ownB o1)
    obtain ⟨ka, kc, rfl, _⟩ := ownsRow_slice o1
    generalize (keyL u 72057594037927935 1).length = KL at RK
    have F1 := hid f1
    have M1 := hid (HM.out.fr f1)
    clear o1 f1 HK
    go_wp2_with fail
    refine (firstK_c w1 M1.out RK.out HIS.out HBK.out HC.out).mono ?_
    rintro e w2 ⟨rfl, f2⟩
    have F2 := hid (F1.out.trans f2)
    have M2 := hid (M1.out.fr f2)
    clear f2 RK M1 F1
    rw [show lk (e0 :: r) 0 = .pointer (some ⟨e0.b, 0, none⟩) from by show (if 0 < e0.h then _ else _) = _; rw [if_pos hh0]; rfl]
    have g0 : EntB w2 B e0 r := Chain.mid M2.out.ch
    have ce1 := g0.cells.2.1
    have EQ := hid (bytesEqual_c g0.ru (HRU.out.fr F2.out) (g0.byk.take _) HU.out)
    rw [decide_eq_false HNE.out] at EQ
    obtain ⟨ea, ec, he0⟩ := g0.ru.form
    rw [he0] at ce1 EQ
    clear g0 he0
    go_wp2_with (go_at_call 32; refine EQ.out.mono ?_; rintro e w2 ⟨rfl, rfl⟩)
    exact bodyPost_ret (results_tmp3' rfl _ _ _) rfl ⟨rfl, F2.out⟩
set_option maxRecDepth 20000 in
set_option maxHeartbeats 4000000 in
theorem get_same (w : World) {B t : Nat} {H : List Nat} {pre : List E} {e0 : E} {r : List E} (T : Tb w B t H (pre ++ (e0 :: r))) {uv : Value} {u : List Nat} (ru : Rd w uv (bv u)) (hu : By u) (hul : u.length ≤ 128) (s s' : Nat) (hs0 : s' ≤ 72057594037927935) (hmin : (s = s' ∧ s ≤ 72057594037927935) ∨ (s' = 72057594037927935 ∧ 72057594037927935 < s)) (C : CutK (pre ++ (e0 :: r)) pre (e0 :: r) (keyL u s' 1)) (heq : userL e0.key = u) :
    Calls Try.prog 17 #[.pointer (some ⟨t, 0, none⟩), uv, .int .u64 (s : Int)] w fun e w' => (∃ v, e = .returned (.tuple #[v, .int .i64 ((tailN e0.key % 256 : Nat) : Int), .bool true]) ∧ w'.ownsRow w.heap.size 5 1 v e0.val.length (bv e0.val)) ∧ Fr [] w w' := by
  have hmf : ∀ (fn : Fn) (first cap : Array Value) (w : World), (Instr.makeFunc fn first cap).run Try.prog w = .ok (.func fn first cap) w := fun _ _ _ _ => rfl
  obtain ⟨hv, M, O⟩ := T.mm
  have hh0 : 0 < e0.h := (T.hh e0 (by simp)).1
  obtain ⟨kd, hkd⟩ : ∃ kd : Nat, kd = tailN e0.key % 256 := ⟨_, rfl⟩
  rw [← hkd]
  have HKD := hid hkd
  clear hkd
  have HNE := hid heq
  clear heq
  have HM := hid M
  have HRU := hid ru
  have HU := hid hu
  have HC := hid C
  have HIS := hid (keyL_is hul hs0 (Nat.le_refl 1))
  have HBK := hid (keyL_by hu s' 1)
  have HK := hid (key_ok w ru hul s' 1 hs0 (Nat.le_refl 1))
  obtain ⟨ua, uc, hue⟩ := ru.form
  rw [bv_len] at hue
  subst hue
  clear T M O ru hu C
  rcases hmin with ⟨rfl, hs⟩ | ⟨rfl, hs⟩
  · have hs' : (s : Int) ≤ 72057594037927935 := by omega
    go_enter Try.func17, Try.ntmps17
    go_wp2_with fail
    refine HK.out.mono ?_
    rintro e w1 ⟨kv, rfl, o1, f1⟩
    have RK := hid (Rd.ownB o1)
    obtain ⟨ka, kc, rfl, _⟩ := ownsRow_slice o1
    generalize (keyL u s 1).length = KL at RK
    have F1 := hid f1
    have M1 := hid (HM.out.fr f1)
    clear o1 f1 HK
    go_wp2_with fail
    refine (firstK_c w1 M1.out RK.out HIS.out HBK.out HC.out).mono ?_
    rintro e w2 ⟨rfl, f2⟩
    have F2 := hid (F1.out.trans f2)
    have M2 := hid (M1.out.fr f2)
    clear f2 RK M1 F1
    rw [show lk (e0 :: r) 0 = .pointer (some ⟨e0.b, 0, none⟩) from by show (if 0 < e0.h then _ else _) = _; rw [if_pos hh0]; rfl]
    have g0 : EntB w2 B e0 r := Chain.mid M2.out.ch
    obtain ⟨_, ce1, ce2, ce3⟩ := g0.cells
    have EQ := hid (bytesEqual_c g0.ru (HRU.out.fr F2.out) (g0.byk.take _) HU.out)
    rw [decide_eq_true HNE.out] at EQ
    obtain ⟨ea, ec, he0⟩ := g0.ru.form
    obtain ⟨va, vc, hv0⟩ := g0.rv.form
    have RV := hid g0.rv
    have hvl := g0.vl
    rw [he0] at ce1 EQ
    rw [hv0] at ce3 RV
    rw [bv_len] at ce3 RV
    rw [← HKD.out] at ce2
    clear g0 he0 hv0
    go_upto_region 7 with (go_at_call 32; refine EQ.out.mono ?_; rintro e w2 ⟨rfl, rfl⟩)
    have W2 := hid (Fr.refl [] w2).drew
    refine wp_region_held_drew (S := fun w' => w'.cell? ⟨e0.b, 3, none⟩ = some (.slice va e0.val.length vc) ∧ w'.cell? ⟨e0.b, 2, none⟩ = some (.int .i64 (kd : Int))) (by kernel_rfl) ⟨ce3, ce2⟩ (fun hS => ?_)
    refine wpAnyH_take (i := 0) (v := .pointer (some ⟨e0.b, 0, none⟩)) rfl (by kernel_rfl) (by kernel_rfl) (by kernel_rfl) (fun _ _ _ h => h) (.inl ⟨by rfl, fun wx _ => by go_simp⟩) hS ?_
    simp only [Act.put]
    refine wpAnyH_take (i := 1) (v := .pointer (some ⟨e0.b, 0, none⟩)) rfl (by kernel_rfl) (by kernel_rfl) (by kernel_rfl) (fun _ _ _ h => h) (.inl ⟨by rfl, fun wx _ => by go_simp⟩) hS ?_
    simp only [Act.put]
    refine wpAnyH_take (i := 2) (v := .pointer (some ⟨e0.b, 3, none⟩)) rfl (by kernel_rfl) (by kernel_rfl) (by kernel_rfl) (fun _ _ _ h => h) (.inl ⟨by rfl, fun wx _ => by go_simp⟩) hS ?_
    simp only [Act.put]
    refine wpAnyH_take (i := 3) (v := .slice va e0.val.length vc) rfl (by kernel_rfl) (by kernel_rfl) (by kernel_rfl) (fun _ _ _ h => h) (.inl ⟨by rfl, fun wx hX => by obtain ⟨x1, x2⟩ := hX; go_simp⟩) hS ?_
    simp only [Act.put]
    refine wpAnyH_take (i := 5) (v := .pointer (some ⟨e0.b, 0, none⟩)) rfl (by kernel_rfl) (by kernel_rfl) (by kernel_rfl) (fun _ _ _ h => h) (.inl ⟨by rfl, fun wx _ => by go_simp⟩) hS ?_
    simp only [Act.put]
    refine wpAnyH_take (i := 6) (v := .pointer (some ⟨e0.b, 0, none⟩)) rfl (by kernel_rfl) (by kernel_rfl) (by kernel_rfl) (fun _ _ _ h => h) (.inl ⟨by rfl, fun wx _ => by go_simp⟩) hS ?_
    simp only [Act.put]
    refine wpAnyH_take (i := 7) (v := .pointer (some ⟨e0.b, 2, none⟩)) rfl (by kernel_rfl) (by kernel_rfl) (by kernel_rfl) (fun _ _ _ h => h) (.inl ⟨by rfl, fun wx _ => by go_simp⟩) hS ?_
    simp only [Act.put]
    refine wpAnyH_take (i := 8) (v := .int .i64 (kd : Int)) rfl (by kernel_rfl) (by kernel_rfl) (by kernel_rfl) (fun _ _ _ h => h) (.inl ⟨by rfl, fun wx hX => by obtain ⟨x1, x2⟩ := hX; go_simp⟩) hS ?_
    simp only [Act.put]
    have HS := hid hS
    clear hS
    refine wpAnyH_ready (rs := [4]) (by kernel_rfl) (by simp) ?_
    refine AllReadyH.cons rfl (fun K hK => ?_) AllReadyH.nil
    go_simp
    refine (clone_c (w := w2.drew) (RV.out.fr W2.out) (by omega)).mono ?_
    rintro e w4 ⟨cv, rfl, o4, f4⟩
    have F4 := hid (F2.out.trans (W2.out.trans f4))
    have O4 : Hid (w4.ownsRow w.heap.size 5 1 cv e0.val.length (bv e0.val)) := ownsRow_base o4 (by have := F2.out.size; exact this)
    obtain ⟨ca, cc, rfl, _⟩ := ownsRow_slice o4
    have S4 : w4.cell? ⟨e0.b, 3, none⟩ = some (.slice va e0.val.length vc) ∧ w4.cell? ⟨e0.b, 2, none⟩ = some (.int .i64 (kd : Int)) := ⟨cell_fr f4 HS.out.1, cell_fr f4 HS.out.2⟩
    refine hK.out _ _ S4 (fun _ => ?_)
    clear hK K o4 f4
    refine wpAnyH_ready (rs := [9]) (by kernel_rfl) (by simp) ?_
    refine AllReadyH.cons rfl (fun K hK => ?_) AllReadyH.nil
    go_simp
    refine hK.out _ _ S4 (fun _ => ?_)
    clear hK K
    refine wpAnyH_ready (rs := [10]) (by kernel_rfl) (by simp) ?_
    refine AllReadyH.cons rfl (fun K hK => ?_) AllReadyH.nil
    go_simp
    refine hK.out _ _ S4 (fun _ => ?_)
    clear hK K
    refine wpAnyH_ready (rs := [11]) (by kernel_rfl) (by simp) ?_
    refine AllReadyH.cons rfl (fun K hK => ?_) AllReadyH.nil
    go_simp
    refine hK.out _ _ S4 (fun _ => ?_)
    clear hK K
    refine wpAnyH_done (by kernel_rfl) ?_ _
    clear S4 HS ce1 ce2 ce3
    go_wp2
    exact bodyPost_ret (v := .tuple #[.slice ca e0.val.length cc, .int .i64 (kd : Int), .bool true]) (by rw [results_tmp3' rfl]; simp) rfl ⟨⟨_, rfl, O4.out⟩, F4.out⟩
  · have hs' : 72057594037927935 < (s : Int) := by omega
    go_enter Try.func17, Try.ntmps17
    go_wp2_with fail
    refine HK.out.mono ?_
    rintro e w1 ⟨kv, rfl, o1, f1⟩
    have RK := hid (Rd.ownB o1)
    obtain ⟨ka, kc, rfl, _⟩ := ownsRow_slice o1
    generalize (keyL u 72057594037927935 1).length = KL at RK
    have F1 := hid f1
    have M1 := hid (HM.out.fr f1)
    clear o1 f1 HK
    go_wp2_with fail
    refine (firstK_c w1 M1.out RK.out HIS.out HBK.out HC.out).mono ?_
    rintro e w2 ⟨rfl, f2⟩
    have F2 := hid (F1.out.trans f2)
    have M2 := hid (M1.out.fr f2)
    clear f2 RK M1 F1
    rw [show lk (e0 :: r) 0 = .pointer (some ⟨e0.b, 0, none⟩) from by show (if 0 < e0.h then _ else _) = _; rw [if_pos hh0]; rfl]
    have g0 : EntB w2 B e0 r := Chain.mid M2.out.ch
    obtain ⟨_, ce1, ce2, ce3⟩ := g0.cells
    have EQ := hid (bytesEqual_c g0.ru (HRU.out.fr F2.out) (g0.byk.take _) HU.out)
    rw [decide_eq_true HNE.out] at EQ
    obtain ⟨ea, ec, he0⟩ := g0.ru.form
    obtain ⟨va, vc, hv0⟩ := g0.rv.form
    have RV := hid g0.rv
    have hvl := g0.vl
    rw [he0] at ce1 EQ
    rw [hv0] at ce3 RV
    rw [bv_len] at ce3 RV
    rw [← HKD.out] at ce2
    clear g0 he0 hv0
    go_upto_region 7 with (go_at_call 32; refine EQ.out.mono ?_; rintro e w2 ⟨rfl, rfl⟩)
    have W2 := hid (Fr.refl [] w2).drew
    refine wp_region_held_drew (S := fun w' => w'.cell? ⟨e0.b, 3, none⟩ = some (.slice va e0.val.length vc) ∧ w'.cell? ⟨e0.b, 2, none⟩ = some (.int .i64 (kd : Int))) (by kernel_rfl) ⟨ce3, ce2⟩ (fun hS => ?_)
    refine wpAnyH_take (i := 0) (v := .pointer (some ⟨e0.b, 0, none⟩)) rfl (by kernel_rfl) (by kernel_rfl) (by kernel_rfl) (fun _ _ _ h => h) (.inl ⟨by rfl, fun wx _ => by go_simp⟩) hS ?_
    simp only [Act.put]
    refine wpAnyH_take (i := 1) (v := .pointer (some ⟨e0.b, 0, none⟩)) rfl (by kernel_rfl) (by kernel_rfl) (by kernel_rfl) (fun _ _ _ h => h) (.inl ⟨by rfl, fun wx _ => by go_simp⟩) hS ?_
    simp only [Act.put]
    refine wpAnyH_take (i := 2) (v := .pointer (some ⟨e0.b, 3, none⟩)) rfl (by kernel_rfl) (by kernel_rfl) (by kernel_rfl) (fun _ _ _ h => h) (.inl ⟨by rfl, fun wx _ => by go_simp⟩) hS ?_
    simp only [Act.put]
    refine wpAnyH_take (i := 3) (v := .slice va e0.val.length vc) rfl (by kernel_rfl) (by kernel_rfl) (by kernel_rfl) (fun _ _ _ h => h) (.inl ⟨by rfl, fun wx hX => by obtain ⟨x1, x2⟩ := hX; go_simp⟩) hS ?_
    simp only [Act.put]
    refine wpAnyH_take (i := 5) (v := .pointer (some ⟨e0.b, 0, none⟩)) rfl (by kernel_rfl) (by kernel_rfl) (by kernel_rfl) (fun _ _ _ h => h) (.inl ⟨by rfl, fun wx _ => by go_simp⟩) hS ?_
    simp only [Act.put]
    refine wpAnyH_take (i := 6) (v := .pointer (some ⟨e0.b, 0, none⟩)) rfl (by kernel_rfl) (by kernel_rfl) (by kernel_rfl) (fun _ _ _ h => h) (.inl ⟨by rfl, fun wx _ => by go_simp⟩) hS ?_
    simp only [Act.put]
    refine wpAnyH_take (i := 7) (v := .pointer (some ⟨e0.b, 2, none⟩)) rfl (by kernel_rfl) (by kernel_rfl) (by kernel_rfl) (fun _ _ _ h => h) (.inl ⟨by rfl, fun wx _ => by go_simp⟩) hS ?_
    simp only [Act.put]
    refine wpAnyH_take (i := 8) (v := .int .i64 (kd : Int)) rfl (by kernel_rfl) (by kernel_rfl) (by kernel_rfl) (fun _ _ _ h => h) (.inl ⟨by rfl, fun wx hX => by obtain ⟨x1, x2⟩ := hX; go_simp⟩) hS ?_
    simp only [Act.put]
    have HS := hid hS
    clear hS
    refine wpAnyH_ready (rs := [4]) (by kernel_rfl) (by simp) ?_
    refine AllReadyH.cons rfl (fun K hK => ?_) AllReadyH.nil
    go_simp
    refine (clone_c (w := w2.drew) (RV.out.fr W2.out) (by omega)).mono ?_
    rintro e w4 ⟨cv, rfl, o4, f4⟩
    have F4 := hid (F2.out.trans (W2.out.trans f4))
    have O4 : Hid (w4.ownsRow w.heap.size 5 1 cv e0.val.length (bv e0.val)) := ownsRow_base o4 (by have := F2.out.size; exact this)
    obtain ⟨ca, cc, rfl, _⟩ := ownsRow_slice o4
    have S4 : w4.cell? ⟨e0.b, 3, none⟩ = some (.slice va e0.val.length vc) ∧ w4.cell? ⟨e0.b, 2, none⟩ = some (.int .i64 (kd : Int)) := ⟨cell_fr f4 HS.out.1, cell_fr f4 HS.out.2⟩
    refine hK.out _ _ S4 (fun _ => ?_)
    clear hK K o4 f4
    refine wpAnyH_ready (rs := [9]) (by kernel_rfl) (by simp) ?_
    refine AllReadyH.cons rfl (fun K hK => ?_) AllReadyH.nil
    go_simp
    refine hK.out _ _ S4 (fun _ => ?_)
    clear hK K
    refine wpAnyH_ready (rs := [10]) (by kernel_rfl) (by simp) ?_
    refine AllReadyH.cons rfl (fun K hK => ?_) AllReadyH.nil
    go_simp
    refine hK.out _ _ S4 (fun _ => ?_)
    clear hK K
    refine wpAnyH_ready (rs := [11]) (by kernel_rfl) (by simp) ?_
    refine AllReadyH.cons rfl (fun K hK => ?_) AllReadyH.nil
    go_simp
    refine hK.out _ _ S4 (fun _ => ?_)
    clear hK K
    refine wpAnyH_done (by kernel_rfl) ?_ _
    clear S4 HS ce1 ce2 ce3
    go_wp2
    exact bodyPost_ret (v := .tuple #[.slice ca e0.val.length cc, .int .i64 (kd : Int), .bool true]) (by rw [results_tmp3' rfl]; simp) rfl ⟨⟨_, rfl, O4.out⟩, F4.out⟩
theorem get_c (w : World) {B t : Nat} {H : List Nat} {es : List E} (T : Tb w B t H es) {uv : Value} {u : List Nat} (ru : Rd w uv (bv u)) (hu : By u) (s : Nat) :
    Calls Try.prog 17 #[.pointer (some ⟨t, 0, none⟩), uv, .int .u64 (s : Int)] w fun e w' => GetT w w' (gF es u s) e ∧ Fr [] w w' := by
  obtain ⟨hv, M, O⟩ := T.mm
  have hk : ∀ e ∈ es, isK e.key = true ∧ By e.key := fun e he => by obtain ⟨r, g⟩ := M.ent he; exact ⟨g.isk, g.byk⟩
  by_cases hl : u.length ≤ 128
  · obtain ⟨s', hs0, hmin⟩ : ∃ s', s' ≤ 72057594037927935 ∧ ((s = s' ∧ s ≤ 72057594037927935) ∨ (s' = 72057594037927935 ∧ 72057594037927935 < s)) := by
      by_cases h : s ≤ 72057594037927935
      · exact ⟨s, h, .inl ⟨rfl, h⟩⟩
      · exact ⟨72057594037927935, Nat.le_refl _, .inr ⟨rfl, by omega⟩⟩
    obtain ⟨pre, post, C⟩ := cutK_ex (keyL u s' 1) T.srt
    have hg := gF_cut (s := s) hs0 (by omega) (by omega) T.srt hk C
    rw [hg]
    obtain ⟨rfl, hlo, hhi⟩ := C
    cases post with
    | nil => exact get_nil w T ru hu hl s s' hs0 hmin ⟨rfl, hlo, hhi⟩
    | cons e0 r =>
      show Calls _ _ _ _ fun e w' => GetT w w' (if userL e0.key = u then some e0 else none) e ∧ Fr [] w w'
      by_cases h : userL e0.key = u
      · rw [if_pos h]; exact get_same w T ru hu hl s s' hs0 hmin ⟨rfl, hlo, hhi⟩ h
      · rw [if_neg h]; exact get_other w T ru hu hl s s' hs0 hmin ⟨rfl, hlo, hhi⟩ h
  · rw [gF_long (fun e he => (hk e he).1) (by omega)]
    exact get_bad w t ru (by omega) s
end Go.Proofs.Ytldcjkddalmkcaa
