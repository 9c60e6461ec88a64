/-
  Lists of the call's own that grow, copies of lists.
-/
import Derived.Test.YtegbngbhmgbocaaGreatDoorJ07
import Derived.Test.YtegbngbhmgbocaaGreatDoorJ02
import Derived.Lib.Bytealg
import Derived.Lib.BytesEntry
import Derived.Laws.Externs
import Derived.Test.YtegbngbhmgbocaaGreatDoorJ04
namespace Go.Proofs.YtegbngbhmgbocaaGreatDoor
open Go.ChangeShapes Go.WideShapes Go.ChangeAt Go.RowKit

/-- A list of the call's own with one row more. -/
theorem OwnL.grow {w w5 : World} {B : Nat} {v v5 u : Value} {rs : List (List Nat)} {r : List Nat} {cs : List Value} (o : w.ownsRow B 22 1 v rs.length cs) (l : Lst w B [v.ownBlock] rs cs) (ou : w.ownsRow B 5 1 u r.length (bv r)) (hb : By r) (hl : r.length ≤ 140737488355328) {X : Obj}
    (o5 : w5.ownsRow B 22 1 v5 (rs.length + 1) (cs ++ [u])) (g5 : (w.alloc X).grownBy w5 v.ownBlock) (q5 : v5.ownBlock = v.ownBlock ∨ v5.ownBlock = some (w.alloc X).heap.size) : OwnL w5 B v5 (rs ++ [r]) := by
  have hsz : w.heap.size < (w.alloc X).heap.size := by simp
  have hs5 : w.heap.size ≤ w5.heap.size := Nat.le_trans (Nat.le_of_lt hsz) g5.size
  have keep : ∀ k, k < w.heap.size → v.ownBlock ≠ some k → w5.heap[k]? = w.heap[k]? := fun k hk hq => by
    rw [g5.block k (by omega) (fun e => hq e.symm), blk_old _ _ hk]
  have hav := own_types ou o (by decide)
  refine ⟨cs ++ [u], by rw [List.length_append]; exact o5, Lst.snoc (l.step hs5 (fun k _ b2 b3 => keep k b2 (b3 _ (by simp))) ?_) ((Rd.ownB ou).step fun k hk => keep k (ou.lt k hk).2 (hav k hk)) hb hl ?_⟩
  · intro q hq
    simp only [List.mem_cons, List.not_mem_nil, or_false] at hq
    subst hq
    rcases q5 with e | e
    · rw [e]; exact .inl (by simp)
    · exact .inr fun k hk => by rw [e] at hk; simp at hk; omega
  · intro k hk
    refine ⟨(ou.lt k hk).1, by have := (ou.lt k hk).2; omega, fun q hq e => ?_⟩
    simp only [List.mem_cons, List.not_mem_nil, or_false] at hq
    subst hq
    rcases q5 with e' | e'
    · exact hav k hk (by rw [← e']; exact e)
    · rw [e'] at e; simp at e; have := (ou.lt k hk).2; omega
theorem RdL.slice {w : World} {v : Value} {rs : List (List Nat)} (h : RdL w v rs) : ∃ a c, v = .slice a rs.length c := by
  obtain ⟨a, c, e, _⟩ := h
  exact ⟨a, c, e⟩

/-- append(own, x...) for lists of bytes: what comes out can be read. -/
theorem wpList_append_lists {w : World} {ops : Array Oper} {rest : List Oper} {o : Oper} {a : Act} {Q : Exit → Act → World → Prop} (hgd : o.guard = none) (s x : Operand)
    (ho : o.op = .call { callee := .builtin .append, args := #[s, x], argTypes := #[46, 46] }) {w0 : World} {base : Nat} (hb0 : w0.heap.size ≤ base) (hbase : base ≤ w.heap.size) (hf : Fr [] w0 w) {v : Value} {rs qs : List (List Nat)} (hown : OwnL w base v rs) (hs : a.eval s = v) {ax : Option Addr} {cx : Nat} (hx : a.eval x = .slice ax qs.length cx) (hr : RdL w0 (.slice ax qs.length cx) qs) (hn : ax = none → cx = 0 ∧ qs.length = 0)
    (hl1 : rs.length ≤ 1000000) (hl2 : qs.length ≤ 1000000)
    (h : ∀ v' w', RdL w' v' (rs ++ qs) → Fr [] w0 w' → wpList Tryz.prog ops Q rest (a.put o.dst v') w') :
    wpList Tryz.prog ops Q (o :: rest) a w := by
  obtain ⟨i0, hi, hz0, hz1, hz2⟩ := info_parts infoR
  obtain ⟨cs, oc, lc⟩ := hown
  cases ax with
  | none =>
    obtain ⟨rfl, h0⟩ := hn rfl
    have : qs = [] := List.eq_nil_of_length_eq_zero h0
    subst this
    exact wpList_append_own_none hgd s x 46 ho base 22 i0 1 Tryz.underlying46 hi v rs.length cs hs oc hx (h v w (by rw [List.append_nil]; exact OwnL.rd ⟨cs, oc, lc⟩) hf)
  | some ad =>
    obtain ⟨_, _, e, hq⟩ := hr
    simp only [Value.slice.injEq, true_and] at e
    obtain ⟨rfl, rfl⟩ := e
    obtain ⟨news, hnl, hnc, hn1, hne⟩ : ∃ news : List Value, news.length = qs.length ∧ (∀ j u, news[j]? = some u → w.cell? (ad.add j) = some u) ∧ (∀ u ∈ news, u.oneCell' = true) ∧ ∀ (j : Nat) (r : List Nat), qs[j]? = some r → ∃ a' c', news[j]? = some (.slice a' r.length c') ∧ Rd w0 (.slice a' r.length c') (bv r) ∧ By r ∧ r.length ≤ 140737488355328 := by
      by_cases h0 : 0 < qs.length
      · obtain ⟨b, off, e, h4⟩ := hq h0
        simp only [Option.some.injEq] at e
        subst e
        have hh : ∀ j, j < qs.length → ∃ u, w0.cell? ⟨b, off + j, none⟩ = some u ∧ u.oneCell' = true := fun j hj => by
          obtain ⟨a', c', k1, _⟩ := h4 j _ (List.getElem?_eq_getElem hj)
          exact ⟨_, k1, rfl⟩
        refine ⟨(List.range qs.length).map fun j => (w0.cell? ⟨b, off + j, none⟩).getD default, by simp, fun j u hj => ?_, fun u hu => ?_, fun j r hj => ?_⟩
        · rw [List.getElem?_map] at hj
          have hjl : j < qs.length := by
            rcases Nat.lt_or_ge j qs.length with h | h
            · exact h
            · rw [List.getElem?_eq_none (by simpa using h)] at hj; cases hj
          rw [List.getElem?_range hjl] at hj
          obtain ⟨u', k1, _⟩ := hh j hjl
          simp [k1] at hj
          subst hj
          rw [Addr.add_lit]
          exact cell_frw k1 hf
        · obtain ⟨j, hj, rfl⟩ := List.mem_map.1 hu
          obtain ⟨u', k1, k2⟩ := hh j (List.mem_range.1 hj)
          simp only [k1, Option.getD_some]; exact k2
        · obtain ⟨a', c', k1, k2, k3, k4⟩ := h4 j r hj
          have hjl := (List.getElem?_eq_some_iff.1 hj).1
          exact ⟨a', c', by rw [List.getElem?_map, List.getElem?_range hjl]; simp [k1], k2, k3, k4⟩
      · have : qs = [] := List.eq_nil_of_length_eq_zero (by omega)
        subst this
        exact ⟨[], rfl, fun j u hj => by simp at hj, fun u hu => by simp at hu, fun j r hj => by simp at hj⟩
    refine wpList_append_own_at w hgd s x 46 ho base 22 i0 _ 1 24 Tryz.underlying46 hi hz0 hz1 hz2 rfl (by decide) v rs.length cs hs oc ad qs.length cx news hx (by rw [Nat.mul_one]; exact hnl) hnc hn1 (by unfold maxLen; omega) (by omega) hbase fun v' w' h1 h2 _ h3 => h v' w' ?_ (hf.grown h2 fun q hq => .inr (Nat.le_trans hb0 (oc.lt q hq).1))
    have hsz := h2.size
    have keep : ∀ k, k < w.heap.size → v.ownBlock ≠ some k → w'.heap[k]? = w.heap[k]? := fun k hk hq => h2.block k hk (fun e => hq e.symm)
    have hf' : Fr [] w0 w' := hf.grown h2 fun q hq => .inr (Nat.le_trans hb0 (oc.lt q hq).1)
    obtain ⟨a', c', rfl, _⟩ := ownsRow_slice h1
    refine ⟨a', c', by rw [List.length_append], fun hpos => ?_⟩
    rw [List.length_append] at hpos
    rcases h1.2 with ⟨_, h0⟩ | ⟨g, cap, cur, e1, _, _, _⟩
    · omega
    simp only [Value.slice.injEq, true_and] at e1
    obtain ⟨rfl, rfl⟩ := e1
    refine ⟨g, 0, rfl, fun j r hj => ?_⟩
    have hcl := lc.1
    by_cases hjl : j < rs.length
    · rw [List.getElem?_append_left hjl] at hj
      obtain ⟨u, k1, k2, k3, k4, k5⟩ := lc.2 j r hj
      obtain ⟨a2, c2, e⟩ := k2.form
      rw [bv_len] at e
      subst e
      have hc := h1.cells rfl j _ (by rw [List.getElem?_append_left (by omega)]; exact k1)
      rw [Addr.add_lit] at hc
      exact ⟨a2, c2, hc, k2.step fun k hk => keep k (k5 k hk).2.1 ((k5 k hk).2.2 _ (by simp)), k3, k4⟩
    · rw [List.getElem?_append_right (by omega)] at hj
      obtain ⟨a2, c2, k1, k2, k3, k4⟩ := hne _ r hj
      have hc := h1.cells rfl j _ (by rw [List.getElem?_append_right (by omega), hcl]; exact k1)
      rw [Addr.add_lit] at hc
      exact ⟨a2, c2, hc, k2.fr hf', k3, k4⟩
end Go.Proofs.YtegbngbhmgbocaaGreatDoor
namespace Go.Proofs.YtegbngbhmgbocaaGreatDoor
open Go.ChangeShapes Go.WideShapes Go.ChangeAt Go.RowKit

/-- What holds at a round's beginning. -/
def RrRel (w : World) (b : List Nat) (v4 v5 : Value) (wr : World) : Prop := ∃ (rs : List (List Nat)) (t : Nat), v5 = .int .i64 (t : Int) ∧ OwnL wr w.heap.size v4 rs ∧ t ≤ b.length ∧ rs.length ≤ t ∧ (rs ++ (rdS b (b.length + 1) t false [] t).1, (rdS b (b.length + 1) t false [] t).2) = readL b ∧ Fr [] w wr
theorem ret_rread {b : List Nat} {w wr : World} {v4 : Value} {rs : List (List Nat)} {t : Nat} (h : (rs ++ (rdS b (b.length + 1) t false [] t).1, (rdS b (b.length + 1) t false [] t).2) = readL b) (h0 : one b (b.length + 1) t false [] = none) (o : OwnL wr w.heap.size v4 rs) (f : Fr [] w wr) : ∃ v', Ending.returned (.tuple #[v4, .int .i64 (t : Int)]) = .returned (.tuple #[v', .int .i64 ((readL b).2 : Int)]) ∧ OwnL wr w.heap.size v' (readL b).1 ∧ Fr [] w wr := by
  rw [rdS_none _ h0, List.append_nil] at h
  rw [← h]
  exact ⟨v4, rfl, o, f⟩

set_option maxRecDepth 20000 in
set_option maxHeartbeats 1600000 in
theorem refread_c (w : World) {v : Value} {b : List Nat} (hr : Rd w v (bv b)) (hb : By b) (hl : b.length ≤ 4194304) :
    Calls Tryz.prog 13 #[v] w fun e w' => ∃ v', e = .returned (.tuple #[v', .int .i64 ((readL b).2 : Int)]) ∧ OwnL w' w.heap.size v' (readL b).1 ∧ Fr [] w w' := by
  obtain ⟨a, c, hv⟩ := hr.form
  rw [bv_len] at hv
  subst hv
  have HR := hid hr
  have HB := hid hb
  have A0 : Hid (RrRel w b (.slice none 0 0) (.int .i64 0) w) := ⟨[], 0, rfl, ⟨[], World.ownsRow_nil _ _ _ _, Lst.nil _ _ _⟩, Nat.zero_le _, Nat.zero_le _, rfl, Fr.refl _ _⟩
  clear hr hb
  go_enter Tryz.func13, Tryz.ntmps13
  go_wp2_with fail
  go_loopw [4, 5] (fun v4 v5 wr => RrRel w b v4 v5 wr) (fun _ v5 _ => b.length - (intOf v5).toNat)
  case atStart => exact A0.out
  case round =>
    obtain ⟨rs, t, rfl, ho, ht, hrt, hres, hfr⟩ := hrel
    have RO := hid ho
    have RF := hid hfr
    have HRES := hid hres
    clear ho hfr hres A0
    by_cases hlt : t < b.length
    · have OC := hid (one_c wr (HR.out.fr RF.out) HB.out ht hl)
      rcases h1 : one b (b.length + 1) t false [] with _ | ⟨r, e⟩
      · rw [h1] at OC
        have H1 := hid h1
        clear h1
        go_wp2_with fail
        refine OC.out.mono ?_
        rintro r w1 ⟨hr1, f1⟩
        have hr1' : r = .returned (.tuple #[.slice none 0 0, .int .i64 0, .bool false]) := hr1
        subst hr1'
        have O1 := hid (RO.out.fr f1)
        have F1 := hid (RF.out.trans f1)
        clear hr1 f1
        go_wp2
        go_ret2
        exact ret_rread HRES.out H1.out O1.out F1.out
      · rw [h1] at OC
        have he := one_ends _ h1
        have HNX : Hid ((rs ++ [r] ++ (rdS b (b.length + 1) e false [] e).1, (rdS b (b.length + 1) e false [] e).2) = readL b) := by
          unfold Hid
          rw [← HRES.out, rdS_some _ (by omega) h1, List.append_assoc]; rfl
        clear h1
        go_wp2_with fail
        refine OC.out.mono ?_
        rintro x w1 ⟨⟨v1, rfl, o1, hb1, hl1⟩, f1⟩
        obtain ⟨a1, c1, hv1, _⟩ := ownsRow_slice o1
        subst hv1
        have OL1 := hid (RO.out.fr f1)
        have O1 := hid (ownsRow_base o1 RF.out.size)
        have F1 := hid (RF.out.trans f1)
        have G1 := hid (blk_new w1 (.cells #[.slice a1 r.length c1] 22))
        have HB1 : Hid (w.heap.size ≤ (w1.alloc (.cells #[.slice a1 r.length c1] 22)).heap.size) := by unfold Hid; have := F1.out.size; simp; omega
        obtain ⟨cs, oc, lc⟩ := OL1.out
        have OC1 := hid oc
        have LC1 := hid lc
        have OC1' := hid (ownsRow_fr oc ((Fr.refl [] w1).alloc (.cells #[.slice a1 r.length c1] 22)))
        have HBR := hid hb1
        clear o1 f1 oc lc hb1
        go_wp2_with (at_builtin; refine wpList_append_row rfl _ _ rfl _ HB1.out _ _ _ rfl OC1'.out _ rfl G1.out rfl (by omega) ?_; intro v7 w7 o7 g7 q7; have L7 := hid (OwnL.grow OC1.out LC1.out O1.out HBR.out (by omega) o7 g7 q7); have F7 : Hid (Fr [] w w7) := (F1.out.alloc (.cells #[.slice a1 r.length c1] 22)).grown g7 fun q hq => .inr (OC1.out.lt q hq).1; clear o7 g7 q7)
        exact ⟨⟨rs ++ [r], e, rfl, L7.out, he.2, by rw [List.length_append]; simp; omega, HNX.out, F7.out⟩, by simp [intOf]; omega⟩
    · have hte : t = b.length := by omega
      have H1 := hid (one_none (f := b.length + 1) (bg := false) (acc := []) (fnd_past (b := b) (t := t) (by omega)))
      have hlt' : ¬ (t : Int) < (b.length : Int) := by omega
      clear hte
      go_wp2
      go_ret2
      exact ret_rread HRES.out H1.out RO.out RF.out
end Go.Proofs.YtegbngbhmgbocaaGreatDoor
namespace Go.Proofs.YtegbngbhmgbocaaGreatDoor
open Go.ChangeShapes Go.WideShapes Go.ChangeAt Go.RowKit

/-- How two rows of bytes stand. -/
def cmpN : List Nat → List Nat → Int
  | [], [] => 0
  | [], _ :: _ => -1
  | _ :: _, [] => 1
  | x :: a, y :: b => if x < y then -1 else if y < x then 1 else cmpN a b
theorem cmpN_val : ∀ (a b : List Nat), cmpN a b = -1 ∨ cmpN a b = 0 ∨ cmpN a b = 1
  | [], [] => .inr (.inl rfl)
  | [], _ :: _ => .inl rfl
  | _ :: _, [] => .inr (.inr rfl)
  | x :: a, y :: b => by
    unfold cmpN
    split
    · exact .inl rfl
    · split
      · exact .inr (.inr rfl)
      · exact cmpN_val a b
theorem cmpN_neg : ∀ (a b : List Nat), cmpN b a = -cmpN a b
  | [], [] => rfl
  | [], _ :: _ => rfl
  | _ :: _, [] => rfl
  | x :: a, y :: b => by
    unfold cmpN
    rcases Nat.lt_trichotomy x y with h | h | h
    · rw [if_neg (by omega), if_pos h, if_pos h]; rfl
    · rw [if_neg (by omega), if_neg (by omega), if_neg (by omega), if_neg (by omega), cmpN_neg a b]
    · rw [if_pos h, if_neg (by omega), if_pos h]
theorem cmpN_eq : ∀ (a b : List Nat), cmpN a b = 0 ↔ a = b
  | [], [] => by simp [cmpN]
  | [], _ :: _ => by simp [cmpN]
  | _ :: _, [] => by simp [cmpN]
  | x :: a, y :: b => by
    unfold cmpN
    rcases Nat.lt_trichotomy x y with h | h | h
    · rw [if_pos h]; simp; omega
    · rw [if_neg (by omega), if_neg (by omega), cmpN_eq a b]; simp [h]
    · rw [if_neg (by omega), if_pos h]; simp; omega
theorem cmpN_trans : ∀ (a b c : List Nat), cmpN a b ≤ 0 → cmpN b c ≤ 0 → cmpN a c ≤ 0
  | [], _, [], _, _ => by simp [cmpN]
  | [], _, _ :: _, _, _ => by simp [cmpN]
  | _ :: _, [], _, h, _ => by simp [cmpN] at h
  | _ :: _, _ :: _, [], _, h => by simp [cmpN] at h
  | x :: a, y :: b, z :: c, h1, h2 => by
    unfold cmpN at h1 h2 ⊢
    rcases Nat.lt_trichotomy x y with e1 | e1 | e1
    · rcases Nat.lt_trichotomy y z with e2 | e2 | e2
      · rw [if_pos (by omega)]; omega
      · rw [if_pos (by omega)]; omega
      · rw [if_neg (by omega), if_pos e2] at h2; omega
    · rcases Nat.lt_trichotomy y z with e2 | e2 | e2
      · rw [if_pos (by omega)]; omega
      · rw [if_neg (by omega), if_neg (by omega)] at h1 h2 ⊢
        exact cmpN_trans a b c h1 h2
      · rw [if_neg (by omega), if_pos e2] at h2; omega
    · rw [if_neg (by omega), if_pos e1] at h1; omega

theorem cmp_bytes : ∀ (a b : List Nat), By a → By b → Lib.compareBytes (a.map UInt8.ofNat) (b.map UInt8.ofNat) = cmpN a b
  | [], [], _, _ => rfl
  | [], _ :: _, _, _ => rfl
  | _ :: _, [], _, _ => rfl
  | x :: a, y :: b, ha, hb => by
    have hx := ha x (by simp); have hy := hb y (by simp)
    have e : ∀ {p q : Nat}, p < 256 → q < 256 → (UInt8.ofNat p < UInt8.ofNat q ↔ p < q) := by
      intro p q hp hq
      rw [UInt8.lt_iff_toNat_lt, UInt8.toNat_ofNat', UInt8.toNat_ofNat', Nat.mod_eq_of_lt hp, Nat.mod_eq_of_lt hq]
    have ih := cmp_bytes a b (fun n hn => ha n (List.mem_cons_of_mem _ hn)) (fun n hn => hb n (List.mem_cons_of_mem _ hn))
    simp only [List.map_cons, Lib.compareBytes, cmpN, e hx hy, e hy hx, ih]

theorem run_bytesOf {w : World} {v : Value} {a : List Nat} (h : Rd w v (bv a)) : (Extern.Bytes.bytesOf v).run Tryz.prog w = .ok ⟨(a.map UInt8.ofNat).toArray⟩ w := by
  rcases h with ⟨rfl, h⟩ | ⟨ad, c, rfl, _, h5⟩
  · have : a = [] := by simpa [bv] using h
    subst this
    rfl
  · have h := Lib.run_loadBytesX (P := Tryz.prog) w (a.map fun n : Nat => (n : Int)) ad .empty (fun j x hx => by
      rw [List.getElem?_map] at hx
      cases hn : a[j]? with
      | none => rw [hn] at hx; cases hx
      | some n => rw [hn] at hx; cases hx; exact h5 j _ (bv_at hn))
    rw [List.length_map] at h
    show (Extern.Bytes.loadBytes ad (bv a).length .empty).run Tryz.prog w = _
    rw [bv_len, h]
    congr 1
    apply ByteArray.ext
    simp [Lib.bytesOf, List.map_map, Function.comp_def]

theorem run_cmp {w : World} {v1 v2 : Value} {a b : List Nat} (h1 : Rd w v1 (bv a)) (h2 : Rd w v2 (bv b)) (ha : By a) (hb : By b) :
    (callFunc 115 #[v1, v2]).run Tryz.prog w = .ok (.value (.int .i64 (cmpN a b))) w := by
  rw [run_callFunc_extern (e := Extern.BytealgCompare.compare) Tryz.func115 (by kernel_rfl) (by kernel_rfl) (by kernel_rfl) (by kernel_rfl)]
  have e : (Extern.BytealgCompare.compare #[v1, v2]).run Tryz.prog w = .ok (.int .i64 (cmpN a b)) w := by
    change Sem.run Tryz.prog (do pure (goInt (Extern.BytealgCompare.cmp (← Extern.Bytes.bytesOf v1) (← Extern.Bytes.bytesOf v2)))) w = _
    simp only [Sem.run_bind, run_bytesOf h1, run_bytesOf h2, Result.andThen_ok, Sem.run_pure, Lib.cmp_eq]
    rw [cmp_bytes a b ha hb]
    rfl
  rw [e]; rfl

set_option maxHeartbeats 400000 in
theorem bcmp_c {w : World} {v1 v2 : Value} {a b : List Nat} (h1 : Rd w v1 (bv a)) (h2 : Rd w v2 (bv b)) (ha : By a) (hb : By b) :
    Calls Tryz.prog 103 #[v1, v2] w fun e w' => e = .returned (.int .i64 (cmpN a b)) ∧ w' = w := by
  have hr := run_cmp h1 h2 ha hb
  obtain ⟨a1, c1, rfl⟩ := h1.form
  obtain ⟨a2, c2, rfl⟩ := h2.form
  clear h1 h2 ha hb
  go_enter Tryz.func103, Tryz.ntmps103
  go_wp2
  go_ret
  exact ⟨rfl, rfl⟩

/-- How two numbers stand. -/
def cmpI (x y : Int) : Int := if x < y then -1 else if y < x then 1 else 0

set_option maxHeartbeats 400000 in
theorem cmpu_c (w : World) (x y : Int) : Calls Tryz.prog 114 #[.int .u64 x, .int .u64 y] w fun e w' => e = .returned (.int .i64 (cmpI x y)) ∧ w' = w := by
  unfold cmpI
  rcases (show x < y ∨ y < x ∨ x = y from by omega) with h | h | h
  · rw [if_pos h]
    go_enter Tryz.func114, Tryz.ntmps114
    go_wp2
    go_ret
    exact ⟨rfl, rfl⟩
  · rw [if_neg (by omega), if_pos h]
    go_enter Tryz.func114, Tryz.ntmps114
    go_wp2
    go_ret
    exact ⟨rfl, rfl⟩
  · subst h
    rw [if_neg (by omega), if_neg (by omega)]
    go_enter Tryz.func114, Tryz.ntmps114
    go_wp2
    go_ret
    exact ⟨rfl, rfl⟩
set_option maxHeartbeats 400000 in
theorem cmpi_c (w : World) (x y : Int) : Calls Tryz.prog 64 #[.int .i64 x, .int .i64 y] w fun e w' => e = .returned (.int .i64 (cmpI x y)) ∧ w' = w := by
  unfold cmpI
  rcases (show x < y ∨ y < x ∨ x = y from by omega) with h | h | h
  · rw [if_pos h]
    go_enter Tryz.func64, Tryz.ntmps64
    go_wp2
    go_ret
    exact ⟨rfl, rfl⟩
  · rw [if_neg (by omega), if_pos h]
    go_enter Tryz.func64, Tryz.ntmps64
    go_wp2
    go_ret
    exact ⟨rfl, rfl⟩
  · subst h
    rw [if_neg (by omega), if_neg (by omega)]
    go_enter Tryz.func64, Tryz.ntmps64
    go_wp2
    go_ret
    exact ⟨rfl, rfl⟩
end Go.Proofs.YtegbngbhmgbocaaGreatDoor
namespace Go.Proofs.YtegbngbhmgbocaaGreatDoor
open Go.ChangeShapes Go.WideShapes Go.ChangeAt Go.RowKit

/-- How two internal keys stand, by their parts. -/
def ordP (u v : List Nat) (s t k l : Int) : Int := if cmpN u v = 0 then (if cmpI t s = 0 then cmpI l k else cmpI t s) else cmpN u v

set_option maxRecDepth 20000 in
set_option maxHeartbeats 1600000 in
theorem from_c (w : World) {v1 v2 : Value} {u v : List Nat} (h1 : Rd w v1 (bv u)) (h2 : Rd w v2 (bv v)) (hu : By u) (hv : By v) (s t k l : Int) :
    Calls Tryz.prog 99 #[.int .i64 0, .agg #[v1, .int .u64 s, .int .i64 k], .agg #[v2, .int .u64 t, .int .i64 l]] w fun e w' => e = .returned (.int .i64 (ordP u v s t k l)) ∧ Fr [] w w' := by
  obtain ⟨a1, c1, hv1⟩ := h1.form
  obtain ⟨a2, c2, hv2⟩ := h2.form
  subst hv1
  subst hv2
  have HC : Hid (∀ w', Fr [] w w' → Calls Tryz.prog 103 #[.slice a1 (bv u).length c1, .slice a2 (bv v).length c2] w' fun e w'' => e = .returned (.int .i64 (cmpN u v)) ∧ w'' = w') := fun w' f => bcmp_c (h1.fr f) (h2.fr f) hu hv
  clear h1 h2 hu hv
  unfold ordP
  obtain ⟨x, hx⟩ : ∃ x, x = cmpN u v := ⟨_, rfl⟩
  obtain ⟨y, hy⟩ : ∃ y, y = cmpI t s := ⟨_, rfl⟩
  rw [← hx] at HC ⊢
  rw [← hy]
  have HY := hid hy
  clear hx hy
  by_cases h0 : x = 0
  · have e0 : (x == 0) = true := by simpa using h0
    rw [if_pos h0]
    clear h0
    by_cases hy0 : y = 0
    · have e1 : (y == 0) = true := by simpa using hy0
      rw [if_pos hy0]
      clear hy0
      go_enter Tryz.func99, Tryz.ntmps99
      go_wp2_with fail
      refine (HC.out _ (((Fr.refl _ _).alloc _).alloc _)).mono ?_
      rintro e w1 ⟨rfl, rfl⟩
      go_wp2_with fail
      refine (cmpu_c _ t s).mono ?_
      rintro e w2 ⟨rfl, rfl⟩
      rw [← HY.out]
      go_wp2_with fail
      refine (cmpi_c _ l k).mono ?_
      rintro e w3 ⟨rfl, rfl⟩
      go_wp2
      go_ret
      exact ⟨rfl, ((Fr.refl _ _).alloc _).alloc _⟩
    · have e1 : (y == 0) = false := by simpa using hy0
      rw [if_neg hy0]
      clear hy0
      go_enter Tryz.func99, Tryz.ntmps99
      go_wp2_with fail
      refine (HC.out _ (((Fr.refl _ _).alloc _).alloc _)).mono ?_
      rintro e w1 ⟨rfl, rfl⟩
      go_wp2_with fail
      refine (cmpu_c _ t s).mono ?_
      rintro e w2 ⟨rfl, rfl⟩
      rw [← HY.out]
      go_wp2
      go_ret
      exact ⟨rfl, ((Fr.refl _ _).alloc _).alloc _⟩
  · have e0 : (x == 0) = false := by simpa using h0
    rw [if_neg h0]
    clear h0
    go_enter Tryz.func99, Tryz.ntmps99
    go_wp2_with fail
    refine (HC.out _ (((Fr.refl _ _).alloc _).alloc _)).mono ?_
    rintro e w1 ⟨rfl, rfl⟩
    go_wp2
    go_ret
    exact ⟨rfl, ((Fr.refl _ _).alloc _).alloc _⟩
end Go.Proofs.YtegbngbhmgbocaaGreatDoor
namespace Go.Proofs.YtegbngbhmgbocaaGreatDoor
open Go.ChangeShapes Go.WideShapes Go.ChangeAt Go.RowKit

/-- How two internal keys stand. -/
def ordK (a b : List Nat) : Int := ordP (userL a) (userL b) ((tailN a / 256 : Nat) : Int) ((tailN b / 256 : Nat) : Int) ((tailN a % 256 : Nat) : Int) ((tailN b % 256 : Nat) : Int)

set_option maxRecDepth 20000 in
set_option maxHeartbeats 800000 in
theorem compare_no1 (w : World) {v1 v2 : Value} {a : List Nat} (h1 : Rd w v1 (bv a)) (ha : By a) (hl : a.length ≤ 140737488355328) (h : isK a = false) {n2 c2 : Nat} {a2 : Option Addr} (hv2 : v2 = .slice a2 n2 c2) :
    Calls Tryz.prog 66 #[v1, v2] w fun e w' => e = .returned (.tuple #[.int .i64 0, .int .i64 23]) ∧ Fr [] w w' := by
  have HS := hid (split_no w h1 ha hl h)
  obtain ⟨a1, c1, hv1⟩ := h1.form
  subst hv1
  subst hv2
  clear h1 ha h
  go_enter Tryz.func66, Tryz.ntmps66
  go_wp2_with fail
  refine HS.out.mono ?_
  rintro e w1 ⟨rfl, f1⟩
  go_wp2
  go_ret2
  exact ⟨rfl, f1.alloc _⟩

set_option maxRecDepth 20000 in
set_option maxHeartbeats 800000 in
theorem compare_no2 (w : World) {v1 v2 : Value} {a b : List Nat} (h1 : Rd w v1 (bv a)) (ha : By a) (h : isK a = true) (h2 : Rd w v2 (bv b)) (hb : By b) (hl : b.length ≤ 140737488355328) (hk : isK b = false) :
    Calls Tryz.prog 66 #[v1, v2] w fun e w' => e = .returned (.tuple #[.int .i64 0, .int .i64 23]) ∧ Fr [] w w' := by
  have hka := isK_len h
  obtain ⟨q, off, c, hv1, hc⟩ := h1.place (by omega)
  obtain ⟨a2, c2, hv2⟩ := h2.form
  subst hv1
  subst hv2
  have HS := hid (split_yes w h1 ha hc h)
  have HR2 := hid h2
  have HB := hid hb
  have HK := hid hk
  clear h1 ha h h2 hb hk
  go_enter Tryz.func66, Tryz.ntmps66
  go_wp2_with fail
  refine HS.out.mono ?_
  rintro e w1 ⟨rfl, f1⟩
  have F1 := hid f1
  clear f1
  go_wp2_with fail
  refine (split_no _ (HR2.out.fr (F1.out.alloc _)) HB.out hl HK.out).mono ?_
  rintro e w2 ⟨rfl, f2⟩
  have F2 := hid ((F1.out.alloc _).trans f2)
  clear f2
  go_wp2
  go_ret2
  exact ⟨rfl, F2.out.alloc _⟩

set_option maxRecDepth 20000 in
set_option maxHeartbeats 1600000 in
theorem compare_yes (w : World) {v1 v2 : Value} {a b : List Nat} (h1 : Rd w v1 (bv a)) (ha : By a) (h : isK a = true) (h2 : Rd w v2 (bv b)) (hb : By b) (hk : isK b = true) :
    Calls Tryz.prog 66 #[v1, v2] w fun e w' => e = .returned (.tuple #[.int .i64 (ordK a b), .int .i64 0]) ∧ Fr [] w w' := by
  have hka := isK_len h
  have hkb := isK_len hk
  obtain ⟨q, off, c, hv1, hc⟩ := h1.place (by omega)
  obtain ⟨q2, off2, c2, hv2, hc2⟩ := h2.place (by omega)
  subst hv1
  subst hv2
  have HS := hid (split_yes w h1 ha hc h)
  have HR2 := hid h2
  have HU := hid (h1.front (q := a.length - 8) (by omega))
  have HV := hid (h2.front (q := b.length - 8) (by omega))
  have HA := hid ha
  have HB := hid hb
  have HK := hid hk
  unfold ordK
  generalize hs1 : ((tailN a / 256 : Nat) : Int) = s at HS ⊢
  generalize hk1 : ((tailN a % 256 : Nat) : Int) = k at HS ⊢
  generalize hs2 : ((tailN b / 256 : Nat) : Int) = t
  generalize hk2 : ((tailN b % 256 : Nat) : Int) = l
  have HS2 := hid hs2
  have HK2 := hid hk2
  clear h1 ha h h2 hb hk hs1 hk1 hs2 hk2
  go_enter Tryz.func66, Tryz.ntmps66
  go_wp2_with fail
  refine HS.out.mono ?_
  rintro e w1 ⟨rfl, f1⟩
  have F1 := hid f1
  clear f1
  go_wp2_with fail
  have A1 : Hid (Fr [] w (w1.alloc (.cells #[.slice (some ⟨q, off, none⟩) (a.length - 8) c, .int .u64 s, .int .i64 k] 148))) := F1.out.alloc _
  have A2 := hid (split_yes _ (HR2.out.fr A1.out) HB.out hc2 HK.out)
  rw [HS2.out, HK2.out] at A2
  have A3 : Hid ((w1.alloc (.cells #[.slice (some ⟨q, off, none⟩) (a.length - 8) c, .int .u64 s, .int .i64 k] 148)).heap[w1.heap.size]? = some (.cells #[.slice (some ⟨q, off, none⟩) (a.length - 8) c, .int .u64 s, .int .i64 k] 148 (0, 0))) := blk_new w1 _
  refine A2.out.mono ?_
  rintro e w2 ⟨rfl, f2⟩
  have kb := f2.at A3.out (by simp)
  have c0 : w2.cell? ⟨w1.heap.size, 0, none⟩ = some (.slice (some ⟨q, off, none⟩) (a.length - 8) c) := by rw [blk_cell kb]; rfl
  have c1 : w2.cell? ⟨w1.heap.size, 1, none⟩ = some (.int .u64 s) := by rw [blk_cell kb]; rfl
  have c2' : w2.cell? ⟨w1.heap.size, 2, none⟩ = some (.int .i64 k) := by rw [blk_cell kb]; rfl
  have hlt : w1.heap.size < w2.heap.size := blk_lt kb
  have F2 := hid (A1.out.trans f2)
  clear f2 kb A1 A2 A3
  go_wp2_with fail
  have A4 : Hid (Fr [] w (w2.alloc (.cells #[.slice (some ⟨q2, off2, none⟩) (b.length - 8) c2, .int .u64 t, .int .i64 l] 148))) := F2.out.alloc _
  refine (from_c _ (HU.out.fr A4.out) (HV.out.fr A4.out) (HA.out.take _) (HB.out.take _) s t k l).mono ?_
  rintro e w3 ⟨rfl, f3⟩
  have F3 := hid (A4.out.trans f3)
  clear f3 A4
  go_wp2
  go_ret2
  exact ⟨rfl, F3.out⟩
end Go.Proofs.YtegbngbhmgbocaaGreatDoor
namespace Go.Proofs.YtegbngbhmgbocaaGreatDoor

/-- A table. -/
structure Fl where
  num : Int
  size : Int
  least : List Nat
  most : List Nat
/-- An edit. -/
structure Ed where
  log : Int
  next : Int
  seq : Nat
  drop : List (Int × Int)
  add : List (Int × Fl)
def okN (n : Int) : Bool := decide (0 ≤ n) && decide (n ≤ 2147483647)
def okV (n : Int) : Bool := decide (0 ≤ n) && decide (n < 5)
def okF (f : Fl) : Bool := isK f.least && (isK f.most && (decide (ordK f.least f.most ≤ 0) && (okN f.num && okN f.size)))
def okD (g : Int × Int) : Bool := okV g.1 && okN g.2
def okA (p : Int × Fl) : Bool := okV p.1 && okF p.2
def okH (log next : Int) (seq : Nat) : Bool := okN log && (okN next && decide (seq ≤ 72057594037927935))
def okE (e : Ed) : Bool := e.drop.all okD && (e.add.all okA && okH e.log e.next e.seq)
def nb (n : Int) : List Nat := putL n.toNat
def encD (g : Int × Int) : List Nat := nb g.1 ++ nb g.2
def encA (p : Int × Fl) : List Nat := nb p.1 ++ (nb p.2.num ++ (nb p.2.size ++ (putL p.2.least.length ++ (p.2.least ++ (putL p.2.most.length ++ p.2.most)))))
/-- The bytes of an edit. -/
def encE (e : Ed) : List Nat := nb e.log ++ (nb e.next ++ (putL e.seq ++ (putL e.drop.length ++ (e.drop.flatMap encD ++ (putL e.add.length ++ e.add.flatMap encA)))))
theorem okN_iff {n : Int} : okN n = true ↔ 0 ≤ n ∧ n ≤ 2147483647 := by unfold okN; simp
theorem okV_iff {n : Int} : okV n = true ↔ 0 ≤ n ∧ n < 5 := by unfold okV; simp
theorem nb_by (n : Int) : By (nb n) := putL_by _
theorem encD_by (g : Int × Int) : By (encD g) := (nb_by _).append (nb_by _)
theorem encA_by {p : Int × Fl} (h1 : By p.2.least) (h2 : By p.2.most) : By (encA p) := (nb_by _).append ((nb_by _).append ((nb_by _).append ((putL_by _).append (h1.append ((putL_by _).append h2)))))
theorem nb_len {n : Int} (h : n ≤ 2147483647) : (nb n).length ≤ 10 := putL_len10 (by omega)
theorem okF_len {f : Fl} (h : okF f = true) : f.least.length ≤ 136 ∧ f.most.length ≤ 136 := by
  unfold okF at h
  simp only [Bool.and_eq_true] at h
  exact ⟨(isK_len h.1).2.1, (isK_len h.2.1).2.1⟩
end Go.Proofs.YtegbngbhmgbocaaGreatDoor
