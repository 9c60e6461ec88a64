/-
  give of package mem: what it gives; From and All.
-/
import Derived.Test.YtldcjkddalmkcaaKV
import Derived.Test.YtldcjkddalmkcaaML
namespace Go.Proofs.Ytldcjkddalmkcaa
open Go.ChangeShapes Go.WideShapes Go.ChangeAt Go.RowKit

theorem wpListIn_valW {n : Nat} {P : Program} {ops : Array Oper} {rest : List Oper} {o : Oper} {a : Act} {w w' : World} {v : Value} {Q : Exit → Act → World → Prop} (hg : o.guard = none) (h0 : (execOp a.eval o).run P w = .ok (.value v) w') (h : wpListIn Fence.wide n P ops Q rest (a.put o.dst v) w') : wpListIn Fence.wide n P ops Q (o :: rest) a w :=
  wpListIn_plain hg fun K hK => ⟨fun _ _ => trivial, by rw [show Fence.wide.round = none from rfl, Oper.semAt_none, h0]; exact hK _ _ h⟩
theorem wpListIn_callW {n : Nat} {P : Program} {ops : Array Oper} {rest : List Oper} {o : Oper} {a : Act} {w w' : World} {f : FuncId} {args : Array Value} {Q : Exit → Act → World → Prop} (hg : o.guard = none) (h0 : (execOp a.eval o).run P w = .ok (.enter f args) w') (h : Calls P f args w' fun e w'' => ∃ v, e = .returned v ∧ wpListIn Fence.wide n P ops Q rest (a.put o.dst v) w'') : wpListIn Fence.wide n P ops Q (o :: rest) a w :=
  wpListIn_plain hg fun K hK => ⟨fun _ _ => trivial, by
    rw [show Fence.wide.round = none from rfl, Oper.semAt_none, h0]
    refine ⟨fun e => by simp [Fence.wide] at e, callsIn_wide.2 (h.mono ?_)⟩
    rintro e w2 ⟨v, rfl, h2⟩
    exact hK _ _ h2⟩
theorem wpListIn_roundW {n : Nat} {P : Program} {ops : Array Oper} {rest : List Oper} {o : Oper} {a : Act} {w w' : World} {l : Nat} {f : FuncId} {tmps : Array Value} {assign body : Code} {Q : Exit → Act → World → Prop} (hg : o.guard = none) (h0 : (execOp a.eval o).run P w = .ok (.round l f tmps assign body) w') (h : RoundIn Fence.wide (n - 1) P l f tmps assign body w' fun e w'' => ∃ v, e = .returned v ∧ wpListIn Fence.wide n P ops Q rest (a.put o.dst v) w'') : wpListIn Fence.wide n P ops Q (o :: rest) a w :=
  wpListIn_plain hg fun K hK => ⟨fun _ _ => trivial, by
    rw [show Fence.wide.round = none from rfl, Oper.semAt_none, h0]
    refine ⟨fun e => by simp [Fence.wide] at e, h.mono ?_⟩
    rintro e w2 ⟨v, rfl, h2⟩
    exact hK _ _ h2⟩
/-- What is given. -/
def EnK (post : List E) : Nat → World → World → Value → Prop := fun k W0 W1 v => ∃ e kv vv, post[k]? = some e ∧ v = .agg #[kv, vv] ∧ KvT W0 W1 e kv vv
theorem lk_drop {post : List E} (hh : ∀ e ∈ post, 1 ≤ e.h) (k : Nat) : lk (post.drop k) 0 = match post[k]? with | none => .pointer none | some e => pt (e.b, 0) := by
  cases hd : post[k]? with
  | none =>
    rw [List.drop_eq_nil_of_le (by simpa using hd)]; rfl
  | some e =>
    obtain ⟨hl, he⟩ := List.getElem?_eq_some_iff.1 hd
    rw [List.drop_eq_getElem_cons hl, he]
    show (if 0 < e.h then _ else _) = _
    rw [if_pos (by have := hh e (List.mem_of_getElem? hd); omega)]

set_option maxRecDepth 20000 in
set_option maxHeartbeats 4000000 in
theorem give_gives {Inv : World → Prop} {B t c z : Nat} {hv : Value} {es pre post : List E} (M : ∀ W, Inv W → Mm W B t hv es c z) (hh : ∀ e ∈ es, 1 ≤ e.h) {ua : Option Addr} {uc : Nat} {u : List Nat} (ru : ∀ W, Inv W → Rd W (.slice ua u.length uc) (bv u)) (hu : By u) (C : CutU es pre post u) :
    Gives Try.prog 39 (.agg #[.pointer (some ⟨t, 0, none⟩), .slice ua u.length uc]) Inv post.length (EnK post) := by
  have hmf : ∀ (fn : Fn) (first cap : Array Value) (w : World), (Instr.makeFunc fn first cap).run Try.prog w = .ok (.func fn first cap) w := fun _ _ _ _ => rfl
  intro l J Jx W hJ0 hJf hY h0
  have HM := hid M
  have HRU := hid ru
  have HU := hid hu
  have HC := hid C
  have HJ0 := hid hJ0
  have HJF := hid hJf
  have HY := hid hY
  have H0 := hid h0
  have HHP : Hid (∀ e ∈ post, 1 ≤ e.h) := fun e he => hh e (by rw [C.eq]; simp [he])
  have HND : Hid ((es.map E.b).Nodup) := (M W (hJ0 0 W h0)).nd
  clear M ru hu C hJ0 hJf hY h0 hh
  have HFA : Hid (Fr [] W (W.alloc (.cells #[.pointer (some ⟨t, 0, none⟩), .slice ua u.length uc] 86))) := (Fr.refl _ _).alloc _
  refine callsIn_of_wp Try.func39 rfl trivial (wpIn_wide.2 ?_) rfl
  simp only [Try.ntmps39, List.size_toArray, List.length_cons, List.length_nil, Nat.reduceAdd, Nat.reduceSub, Array.replicate_succ, Array.replicate_zero, List.push_toArray, List.append_toArray, List.nil_append, List.cons_append]
  go_wp2_with fail
  refine (firstU_c _ (HM.out _ (HJ0.out 0 _ (HJF.out 0 _ _ H0.out HFA.out))) (HRU.out _ (HJ0.out 0 _ (HJF.out 0 _ _ H0.out HFA.out))) HU.out HC.out).mono ?_
  rintro e w1 ⟨rfl, f1⟩
  have J1 := hid (HJF.out 0 _ _ (HJF.out 0 _ _ H0.out HFA.out) f1)
  obtain ⟨lp, hlp⟩ := lk_ptr post 0
  rw [hlp]
  have HLP := hid hlp
  clear hlp f1 HFA H0
  go_wp2_with fail
  go_loopw [4] (fun v4 wr => ∃ k : Nat, k ≤ post.length ∧ v4 = lk (post.drop k) 0 ∧ J k wr) (fun v4 _ => lvM es v4)
  case atStart => exact ⟨0, Nat.zero_le _, HLP.out.symm, J1.out⟩
  case round =>
    clear J1
    obtain ⟨k, hk, rfl, hj⟩ := hrel
    have HJ := hid hj
    clear hj
    rw [lk_drop HHP.out]
    cases hd : post[k]? with
    | none =>
      have hkl : k = post.length := by
        have : post.length ≤ k := by simpa using hd
        omega
      subst hkl
      clear hd
      dsimp only
      go_wp2
      go_end0
      exact ⟨⟨_, rfl⟩, .inl HJ.out⟩
    | some e =>
      have hlt : k < post.length := (List.getElem?_eq_some_iff.1 hd).1
      have hdr : post.drop k = e :: post.drop (k + 1) := by
        obtain ⟨hl, he⟩ := List.getElem?_eq_some_iff.1 hd
        rw [List.drop_eq_getElem_cons hl, he]
      have hes : es = (pre ++ post.take k) ++ e :: post.drop (k + 1) := by
        rw [HC.out.eq, List.append_assoc, ← hdr, List.take_append_drop]
      have M1 := HM.out wr (HJ0.out k wr HJ.out)
      have g : EntB wr B e (post.drop (k + 1)) := Chain.mid (l := pre ++ post.take k) (by rw [← hes]; exact M1.ch)
      have hh1 := HHP.out e (List.mem_of_getElem? hd)
      have HG0 : Hid (∀ W', Inv W' → W'.cell? ⟨e.b, 4, none⟩ = some (lk (post.drop (k + 1)) 0)) := fun W' f => by
        have M2 := HM.out W' f
        have g2 : EntB W' B e (post.drop (k + 1)) := Chain.mid (l := pre ++ post.take k) (by rw [← hes]; exact M2.ch)
        exact (g2.at (k := 1) (by omega) (by omega)).cell 0 (by omega)
      have HMS := hid (lvM_next (i := 0) hes HND.out)
      have KC := hid (kv_c wr g)
      have HD := hid hd
      unfold pt at KC HMS
      clear M1 g hd hdr hes
      dsimp only
      unfold pt
      go_upto_region 4 with fail
      refine (wpIn_wide (n := 4)).1 (wpIn_region_lit ?_)
      refine wpListIn_valW (v := .func (.yield l) #[] #[]) (w' := wr) rfl (by go_simp) ?_
      refine wpListIn_valW (v := .pointer (some ⟨e.b, 0, none⟩)) (w' := wr) rfl (by go_simp) ?_
      refine wpListIn_callW (f := 48) (args := #[.pointer (some ⟨e.b, 0, none⟩)]) (w' := wr) rfl (by go_simp) ?_
      refine KC.out.mono ?_
      rintro r w2 ⟨kv, vv, rfl, kt⟩
      refine ⟨_, rfl, ?_⟩
      obtain ⟨fn, tmps, assign, body, hy, hR⟩ := HY.out k wr w2 (.agg #[kv, vv]) hlt HJ.out kt.fr ⟨e, kv, vv, HD.out, rfl, kt⟩
      have HRR := hid hR
      clear hR kt KC
      simp only [Act.put]
      refine wpListIn_roundW (l := l) (f := fn) (tmps := tmps) (assign := assign) (body := body) (w' := w2) rfl (by go_simp) ?_
      refine HRR.out.mono ?_
      obtain ⟨np, hnp⟩ := lk_ptr (post.drop (k + 1)) 0
      rw [hnp] at HMS
      have HNP := hid hnp
      clear hnp
      rintro r w3 (⟨rfl, hj3⟩ | ⟨rfl, hx3⟩)
      · refine ⟨_, rfl, ?_⟩
        have cn := HG0.out w3 (HJ0.out _ _ hj3)
        rw [HNP.out] at cn
        have HJ3 := hid hj3
        clear hj3 hy HRR
        refine wpListIn_valW (v := .bool false) (w' := w3) rfl (by go_simp) ?_
        show Exit.then _ _ .normal _ _
        simp only [Act.put, List.setIfInBounds_toArray, List.set_cons_succ, List.set_cons_zero]
        go_wp2
        go_roundw
        case rel => exact ⟨k + 1, by omega, HNP.out.symm, HJ3.out⟩
        case measure => exact HMS.out
      · refine ⟨_, rfl, ?_⟩
        have HX3 := hid hx3
        clear hx3 hy HRR
        refine wpListIn_valW (v := .bool true) (w' := w3) rfl (by go_simp) ?_
        show Exit.then _ _ .normal _ _
        simp only [Act.put, List.setIfInBounds_toArray, List.set_cons_succ, List.set_cons_zero]
        go_wp2
        exact bodyPost_ret (results_none rfl _ _ _) rfl ⟨⟨_, rfl⟩, .inr HX3.out⟩

theorem cutU_ex : ∀ {es : List E} (u : List Nat), es.Pairwise (fun a b => ordK a.key b.key < 0) → ∃ pre post, CutU es pre post u
  | [], u, _ => ⟨[], [], rfl, fun e h => (by cases h), fun e h => (by cases h)⟩
  | x :: es, u, h => by
    obtain ⟨h1, h2⟩ := List.pairwise_cons.1 h
    by_cases hx : cmpN (userL x.key) u < 0
    · obtain ⟨pre, post, rfl, hlo, hhi⟩ := cutU_ex u h2
      refine ⟨x :: pre, post, rfl, fun e he => ?_, hhi⟩
      rcases List.mem_cons.1 he with rfl | he
      · exact hx
      · exact hlo e he
    · refine ⟨[], x :: es, rfl, fun e h => (by cases h), fun e he => ?_⟩
      rcases List.mem_cons.1 he with rfl | he
      · exact hx
      · intro hl
        apply hx
        have k1 := ordK_user (h1 e he)
        have k2 := cmpN_trans _ _ _ k1 (by omega : cmpN (userL e.key) u ≤ 0)
        by_cases h0 : cmpN (userL x.key) u = 0
        · have e0 := (cmpN_eq _ _).1 h0
          rw [e0] at k1
          have := cmpN_neg u (userL e.key)
          omega
        · omega
/-- What From hands over. -/
theorem from_c' (w : World) (t : Nat) {uv : Value} {u : List Nat} (ru : Rd w uv (bv u)) (hl : u.length ≤ 140737488355328) :
    Calls Try.prog 21 #[.pointer (some ⟨t, 0, none⟩), uv] w fun e w' => ∃ cv, e = .returned (.func (.func 39) #[.agg #[.pointer (some ⟨t, 0, none⟩), cv]] #[]) ∧ Rd w' cv (bv u) ∧ Fr [] w w' := by
  have hmf : ∀ (fn : Fn) (first cap : Array Value) (w : World), (Instr.makeFunc fn first cap).run Try.prog w = .ok (.func fn first cap) w := fun _ _ _ _ => rfl
  have HC := hid (clone_c ru hl)
  obtain ⟨ua, uc, hue⟩ := ru.form
  rw [bv_len] at hue
  subst hue
  clear ru
  go_enter Try.func21, Try.ntmps21
  go_wp2_with fail
  refine HC.out.mono ?_
  rintro e w1 ⟨cv, rfl, o1, f1⟩
  have R1 := hid (Rd.ownB o1)
  obtain ⟨ca, cc, rfl, _⟩ := ownsRow_slice o1
  clear o1
  go_wp2
  go_ret
  exact ⟨_, rfl, R1.out, f1⟩
theorem all_c (w : World) (t : Nat) :
    Calls Try.prog 22 #[.pointer (some ⟨t, 0, none⟩)] w fun e w' => ∃ cv, e = .returned (.func (.func 39) #[.agg #[.pointer (some ⟨t, 0, none⟩), cv]] #[]) ∧ Rd w' cv (bv []) ∧ Fr [] w w' := by
  go_enter Try.func22, Try.ntmps22
  go_wp2_with fail
  refine (from_c' w t (u := []) (.inl ⟨rfl, rfl⟩) (by simp)).mono ?_
  rintro e w1 ⟨cv, rfl, r1, f1⟩
  go_wp2
  go_ret
  exact ⟨_, rfl, r1, f1⟩
theorem cutU_nil (es : List E) : CutU es [] es [] := ⟨rfl, fun e h => (by cases h), fun e _ h => by
  cases hu : userL e.key with
  | nil => rw [hu] at h; simp [cmpN] at h
  | cons => rw [hu] at h; simp [cmpN] at h⟩
end Go.Proofs.Ytldcjkddalmkcaa
