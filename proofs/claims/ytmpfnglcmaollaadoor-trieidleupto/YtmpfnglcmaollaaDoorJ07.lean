/-
  The document's Put into the empty map; into any.
-/
import Derived.Test.YtmpfnglcmaollaaDoorTrCD
import Derived.Test.YtmpfnglcmaollaaDoorJ00
import Derived.Test.YtmpfnglcmaollaaDoorJ04
namespace Go.Proofs.YtmpfnglcmaollaaDoor
open Go.ChangeShapes Go.WideShapes Go.ChangeAt Go.RowKit

/-- append(own, nothing...). -/
theorem wpList_appE0 {w : World} {ops : Array Oper} {rest : List Oper} {o : Oper} {a : Act} {Q : Exit → Act → World → Prop} (hgd : o.guard = none) (s x : Operand)
    (ho : o.op = .call { callee := .builtin .append, args := #[s, x], argTypes := #[30, 30] }) {base : Nat} {v : Value} {n : Nat} {xs : List Value} (h1 : w.ownsRow base 61 2 v n xs) (hs : a.eval s = v) (hx : a.eval x = .slice none 0 0)
    (h : wpList Tryd.prog ops Q rest (a.put o.dst v) w) :
    wpList Tryd.prog ops Q (o :: rest) a w := by
  obtain ⟨i0, hi, hz0, hz1, hz2⟩ := info_parts infoP
  exact wpList_append_own_none hgd s x 30 ho base 61 i0 2 Tryd.underlying30 hi v n xs hs h1 hx h
set_option maxRecDepth 20000 in
set_option maxHeartbeats 3200000 in
theorem rput0_c (w : World) {B : Nat} {kv vv : Value} {k v : List Nat} (hB : B ≤ w.heap.size) (hk : Rd w kv (bv k)) (hkb : By k) (hkl : k.length ≤ 64) (hv : Rd w vv (bv v)) (hvb : By v) (hvl : v.length ≤ 1024) :
    Calls Tryd.prog 28 #[.slice none 0 0, kv, vv] w fun e w' => ∃ lv', e = .returned lv' ∧ ∃ es', EsO w' B lv' es' ∧ es'.map En.p = newM k v ∧ Fr [] w w' := by
  obtain ⟨ka, kc, e1⟩ := hk.form
  obtain ⟨va, vc, e2⟩ := hv.form
  rw [bv_len] at e1 e2
  subst e1 e2
  have HK := hid hk
  have HV := hid hv
  have HKB := hid hkb
  have HVB := hid hvb
  have HBB := hid hB
  clear hk hv hkb hvb hB
  obtain ⟨nk, hnk⟩ : ∃ n, n = k.length := ⟨_, rfl⟩
  have HNK := hid hnk
  obtain ⟨nv, hnv⟩ : ∃ n, n = v.length := ⟨_, rfl⟩
  have HNV := hid hnv
  rw [← hnk] at HK hkl ⊢
  rw [← hnv] at HV hvl ⊢
  clear hnk hnv
  by_cases hnv : 0 < nv
  · have hnv2 : (0 : Int) < (nv : Int) := by omega
    go_enter Tryd.func28, Tryd.ntmps28
    go_wp2_with fail
    go_loopw [7] (fun v7 wr => v7 = .int .i64 0 ∧ Fr [] w wr) (fun _ _ => 0)
    case atStart => exact ⟨rfl, Fr.refl _ _⟩
    case round =>
      obtain ⟨rfl, hf⟩ := hrel
      have HF := hid hf
      clear hf
      go_wp2_with (first | (at_builtin; refine wpList_append_nil rfl _ _ rfl rfl HF.out _ (HK.out.fr HF.out) rfl (by have := HNK.out; omega) ?_; intro v6 w6 o6 f56 f6; obtain ⟨a6, c6, rfl, _⟩ := ownsRow_slice o6; have O6 := hid o6; have F6 := hid f6; clear o6 f56 f6) | (at_builtin; refine wpList_append_nil rfl _ _ rfl rfl F6.out _ (HV.out.fr F6.out) rfl (by have := HNV.out; omega) ?_; intro v7 w7 o7 f67 f7; obtain ⟨a7, c7, rfl, _⟩ := ownsRow_slice o7; have O7 := hid o7; have F67 := hid f67; have F7 := hid f7; clear o7 f67 f7) | (at_builtin; refine wpList_appE1 rfl _ _ rfl (base := w.heap.size) (F7.out.trans ((Fr.refl _ _).alloc _)).size (es := []) (World.ownsRow_nil _ _ _ _) rfl rfl rfl ⟨.slice a6 k.length c6, .slice a7 v.length c7, k, v⟩ (blk_new _ _) (w0 := w7) (B := B) ⟨ownsRow_base (ownsRow_fr O6.out F67.out) (by have := HF.out.size; have := HBB.out; omega), ownsRow_base O7.out (by have := F6.out.size; have := HBB.out; omega), HKB.out, HVB.out, by have := HNK.out; show k.length ≤ 64; omega, by have := HNV.out; show v.length ≤ 1024; omega⟩ (by omega) (F7.out.trans ((Fr.refl _ _).alloc _)) (Nat.le_refl _) ?_; intro v8 w8 o8 f8 k8; have EN8 := hid (k8 B ⟨.slice a6 k.length c6, .slice a7 v.length c7, k, v⟩ ⟨ownsRow_base (ownsRow_fr O6.out (F67.out.trans ((Fr.refl _ _).alloc _))) (by have := HF.out.size; have := HBB.out; omega), ownsRow_base (ownsRow_fr O7.out ((Fr.refl _ _).alloc _)) (by have := F6.out.size; have := HBB.out; omega), HKB.out, HVB.out, by have := HNK.out; show k.length ≤ 64; omega, by have := HNV.out; show v.length ≤ 1024; omega⟩); have O8 := hid o8; have F8 := hid f8; clear o8 f8 k8) | (at_builtin; refine wpList_appE0 rfl _ _ rfl (World.ownsRow_nil _ _ _ _) rfl rfl ?_) | (at_builtin; refine wpList_appE0 rfl _ _ rfl O8.out rfl rfl ?_))
      go_ret
      exact ⟨_, rfl, [⟨.slice a6 k.length c6, .slice a7 v.length c7, k, v⟩], ⟨ownsRow_base O8.out HBB.out, fun e he => by rw [List.mem_singleton.1 he]; exact EN8.out⟩, newM_one (by have := HNV.out; omega), F8.out⟩
  · have hnv0 : nv = 0 := by omega
    subst hnv0
    go_enter Tryd.func28, Tryd.ntmps28
    go_wp2_with fail
    go_loopw [7] (fun v7 wr => v7 = .int .i64 0 ∧ wr = w) (fun _ _ => 0)
    case atStart => exact ⟨rfl, rfl⟩
    case round =>
      obtain ⟨rfl, rfl⟩ := hrel
      go_wp2_with (at_builtin; refine wpList_appE0 rfl _ _ rfl (World.ownsRow_nil _ _ 0 _) rfl rfl ?_)
      go_ret
      exact ⟨_, rfl, [], EsO.nil _ _, (by have hv0 : v = [] := List.eq_nil_of_length_eq_zero (by have := HNV.out; omega)
                                          rw [hv0]; rfl), Fr.refl _ _⟩
theorem rput_c (w : World) {B : Nat} {lv kv vv : Value} {es : List En} {k v : List Nat} (h : EsO w B lv es) (hB : B ≤ w.heap.size) (hn : es.length ≤ 1000) (hk : Rd w kv (bv k)) (hkb : By k) (hkl : k.length ≤ 64) (hv : Rd w vv (bv v)) (hvb : By v) (hvl : v.length ≤ 1024) :
    Calls Tryd.prog 28 #[lv, kv, vv] w fun e w' => ∃ lv', e = .returned lv' ∧ ∃ es', EsO w' B lv' es' ∧ es'.map En.p = putM (es.map En.p) k v ∧ Fr [] w w' := by
  rcases h.1.2 with ⟨rfl, h0⟩ | ⟨g, cap, cur, rfl, _, _, h4, _⟩
  · obtain rfl : es = [] := List.eq_nil_of_length_eq_zero h0
    refine (rput0_c w hB hk hkb hkl hv hvb hvl).mono fun e w' he => ?_
    rw [List.map_nil, putM_nil]
    exact he
  · exact rputS_c w h h4 hB hn hk hkb hkl hv hvb hvl
end Go.Proofs.YtmpfnglcmaollaaDoor
namespace Go.Proofs.YtmpfnglcmaollaaDoor

/-- A key's nibbles. -/
def nibF : List Nat → List Nat
  | [] => []
  | x :: b => x / 16 :: x % 16 :: nibF b
theorem nibF_app : ∀ (a b : List Nat), nibF (a ++ b) = nibF a ++ nibF b
  | [], b => rfl
  | x :: a, b => by simp [nibF, nibF_app a b]
theorem nibF_len : ∀ (b : List Nat), (nibF b).length = 2 * b.length
  | [] => rfl
  | x :: b => by simp [nibF, nibF_len b]; omega
/-- Nibbles, each below 16. -/
def Nb (p : List Nat) : Prop := ∀ x ∈ p, x < 16
theorem nibF_nb : ∀ {b : List Nat}, By b → Nb (nibF b)
  | [], _ => fun x hx => by cases hx
  | y :: b, h => fun x hx => by
    have hy := h y (by simp)
    simp only [nibF, List.mem_cons] at hx
    rcases hx with rfl | rfl | hx
    · omega
    · omega
    · exact nibF_nb (fun z hz => h z (by simp [hz])) x hx
theorem Nb.by {p : List Nat} (h : Nb p) : By p := fun x hx => by have := h x hx; omega
/-- Pairs of nibbles as bytes. -/
def prsF : List Nat → List Nat
  | x :: y :: l => (16 * x + y) :: prsF l
  | _ => []
theorem prsF_len : ∀ (l : List Nat), (prsF l).length = l.length / 2
  | [] => rfl
  | [x] => by simp [prsF]
  | x :: y :: l => by simp [prsF, prsF_len l]; omega
theorem prsF_at : ∀ (l : List Nat) (i x y : Nat), l[2 * i]? = some x → l[2 * i + 1]? = some y → (prsF l)[i]? = some (16 * x + y)
  | [], i, x, y, h, _ => by simp at h
  | [a], i, x, y, h, k => by
    rw [List.getElem?_eq_none (by simp)] at k; cases k
  | a :: b :: l, 0, x, y, h, k => by simp at h k; subst h; subst k; rfl
  | a :: b :: l, i + 1, x, y, h, k => by
    rw [show 2 * (i + 1) = 2 * i + 1 + 1 by omega] at h
    rw [show 2 * (i + 1) + 1 = 2 * i + 1 + 1 + 1 by omega] at k
    simp only [List.getElem?_cons_succ] at h k
    simp only [prsF, List.getElem?_cons_succ]
    exact prsF_at l i x y h k
theorem prsF_nib : ∀ {l : List Nat}, Nb l → l.length % 2 = 0 → nibF (prsF l) = l
  | [], _, _ => rfl
  | [a], _, h => by simp at h
  | a :: b :: l, hn, h => by
    have ha := hn a (by simp)
    have hb := hn b (by simp)
    simp only [prsF, nibF]
    rw [prsF_nib (fun x hx => hn x (by simp [hx])) (by simp only [List.length_cons] at h; omega)]
    rw [show (16 * a + b) / 16 = a by omega, show (16 * a + b) % 16 = b by omega]
theorem nibF_prs : ∀ {b : List Nat}, By b → prsF (nibF b) = b
  | [], _ => rfl
  | x :: b, h => by
    simp only [nibF, prsF]
    rw [nibF_prs (fun y hy => h y (by simp [hy])), show 16 * (x / 16) + x % 16 = x by omega]
/-- What a path is laid behind. -/
def wayF (leaf : Bool) : Nat := if leaf then 2 else 0
def aheadF (p : List Nat) (leaf : Bool) : List Nat := if p.length % 2 = 1 then [wayF leaf + 1] else [wayF leaf, 0]
/-- May a path be packed? -/
def okP (p : List Nat) : Bool := decide (p.length ≤ 128) && p.all (fun x => decide (x ≤ 15))
/-- A path, packed. -/
def packF (p : List Nat) (leaf : Bool) : List Nat := prsF (aheadF p leaf ++ p)
theorem okP_nb {p : List Nat} (h : okP p = true) : Nb p := fun x hx => by
  unfold okP at h
  simp only [Bool.and_eq_true, List.all_eq_true, decide_eq_true_eq] at h
  have := h.2 x hx
  omega
theorem okP_len {p : List Nat} (h : okP p = true) : p.length ≤ 128 := by
  unfold okP at h
  simp only [Bool.and_eq_true, decide_eq_true_eq] at h
  exact h.1
theorem ahead_len (p : List Nat) (leaf : Bool) : (aheadF p leaf ++ p).length % 2 = 0 ∧ (aheadF p leaf).length ≤ 2 ∧ 1 ≤ (aheadF p leaf).length := by
  unfold aheadF
  split
  · simp; omega
  · simp; omega
theorem way_le (leaf : Bool) : wayF leaf ≤ 2 := by cases leaf <;> decide
theorem ahead_nb (p : List Nat) (leaf : Bool) : Nb (aheadF p leaf) := fun x hx => by
  have hw := way_le leaf
  unfold aheadF at hx
  split at hx
  · simp at hx; omega
  · simp at hx; omega
theorem packF_len (p : List Nat) (leaf : Bool) : (packF p leaf).length = p.length / 2 + 1 := by
  unfold packF
  rw [prsF_len, List.length_append]
  unfold aheadF
  split
  · simp; omega
  · simp
theorem prsF_by : ∀ {l : List Nat}, Nb l → By (prsF l)
  | [], _ => fun x hx => by cases hx
  | [a], _ => fun x hx => by cases hx
  | a :: b :: l, h => fun x hx => by
    simp only [prsF, List.mem_cons] at hx
    have ha := h a (by simp)
    have hb := h b (by simp)
    rcases hx with rfl | hx
    · omega
    · exact prsF_by (fun y hy => h y (by simp [hy])) x hx
theorem packF_by {p : List Nat} (h : Nb p) (leaf : Bool) : By (packF p leaf) := prsF_by (fun x hx => by
  rcases List.mem_append.1 hx with hx | hx
  · exact ahead_nb p leaf x hx
  · exact h x hx)
/-- What bytes are unpacked to. -/
def unpF (b : List Nat) : Option (List Nat × Bool) :=
  match nibF b with
  | [] => none
  | 0 :: y :: l => if y = 0 ∧ l.length ≤ 128 then some (l, false) else none
  | 1 :: l => if l.length ≤ 128 then some (l, false) else none
  | 2 :: y :: l => if y = 0 ∧ l.length ≤ 128 then some (l, true) else none
  | 3 :: l => if l.length ≤ 128 then some (l, true) else none
  | _ => none
theorem unp_pack {p : List Nat} (h : okP p = true) (leaf : Bool) : unpF (packF p leaf) = some (p, leaf) := by
  have hl := okP_len h
  have hn : nibF (packF p leaf) = aheadF p leaf ++ p := prsF_nib (fun x hx => by
    rcases List.mem_append.1 hx with hx | hx
    · exact ahead_nb p leaf x hx
    · exact okP_nb h x hx) (ahead_len p leaf).1
  by_cases hp : p.length % 2 = 1
  · have ha : aheadF p leaf = [wayF leaf + 1] := if_pos hp
    unfold unpF
    rw [hn, ha]
    cases leaf <;> simp [wayF, hl]
  · have ha : aheadF p leaf = [wayF leaf, 0] := if_neg hp
    unfold unpF
    rw [hn, ha]
    cases leaf <;> simp [wayF, hl]
end Go.Proofs.YtmpfnglcmaollaaDoor
namespace Go.Proofs.YtmpfnglcmaollaaDoor
open Go.ChangeShapes Go.WideShapes Go.ChangeAt Go.RowKit

/-- The gate's counter and the two closures, in three blocks. -/
structure Clo (w : World) (F : Nat) (T : Nat) (g e k c : Nat) : Prop where
  cg : w.heap[g]? = some (.cells #[.int .i64 (c : Int)] 3 (0, 0))
  ce : w.heap[e]? = some (.cells #[.func (.func 103) #[] #[.pointer (some ⟨g, 0, none⟩)]] 154 (0, 0))
  ck : w.heap[k]? = some (.cells #[.func (.func F) #[] #[.pointer (some ⟨e, 0, none⟩), .pointer (some ⟨k, 0, none⟩)]] T (0, 0))
  eg : e ≠ g
  kg : k ≠ g
theorem Clo.step {w w' : World} {F T g e k c c' : Nat} (h : Clo w F T g e k c) (f : Fr [g] w w') (hg : w'.heap[g]? = some (.cells #[.int .i64 (c' : Int)] 3 (0, 0))) : Clo w' F T g e k c' :=
  ⟨hg, f.at h.ce (by simpa using h.eg), f.at h.ck (by simpa using h.kg), h.eg, h.kg⟩
theorem Clo.alloc {w : World} {F T g e k c : Nat} (h : Clo w F T g e k c) (o : Obj) : Clo (w.alloc o) F T g e k c :=
  ⟨by rw [blk_old w o (blk_lt h.cg)]; exact h.cg, by rw [blk_old w o (blk_lt h.ce)]; exact h.ce, by rw [blk_old w o (blk_lt h.ck)]; exact h.ck, h.eg, h.kg⟩

/-- What measure's closure tells. -/
def Told (n d : Nat) (t : Tr n) (g c : Nat) (r : Ending) (w' : World) : Prop :=
  (bad n d t = 0 ∧ r = .returned (.tuple #[.int .i64 ((enc n t).length : Int), .int .i64 0]) ∧ w'.heap[g]? = some (.cells #[.int .i64 ((c + cnt n t : Nat) : Int)] 3 (0, 0))) ∨
  (bad n d t ≠ 0 ∧ r = .returned (.tuple #[.int .i64 0, .int .i64 (bad n d t : Int)]))

theorem bad_le : ∀ (n d : Nat) (t : Tr n), bad n d t ≤ 43
  | 0, _, _ => by simp [bad]
  | n + 1, d, t => by
    unfold bad
    split
    · omega
    · split
      · omega
      · have : ∀ (l : List (Tr n)), firstBad (bad n (d + 1)) l ≤ 43 := by
          intro l
          induction l with
          | nil => simp [firstBad]
          | cons k r ih => unfold firstBad; split; exact ih; exact bad_le n (d + 1) k
        exact this _
theorem bad_deep (n : Nat) {d : Nat} (t : Tr n) (h : 16 < d) : bad n d t = 43 := by
  cases n with
  | zero => rfl
  | succ n => unfold bad; rw [if_pos h]
theorem bad_form {n d : Nat} {t : Tr (n + 1)} (h : d ≤ 16) (hf : (tL t = true ∧ tB t ≠ []) ∨ (tL t = false ∧ tK t ≠ [])) : bad (n + 1) d t = 40 := by
  unfold bad; rw [if_neg (by omega), if_pos hf]

set_option maxRecDepth 20000 in
set_option maxHeartbeats 400000 in
theorem walk_deep (w : World) {T g e k c d : Nat} (C : Clo w 85 T g e k c) (l : Bool) (bs is : Value) (hd : 16 < d) (hd2 : d ≤ 100000) :
    Calls Tryd.prog 85 #[.agg #[.bool l, bs, is], .int .i64 (d : Int), .pointer (some ⟨e, 0, none⟩), .pointer (some ⟨k, 0, none⟩)] w fun r w' => r = .returned (.tuple #[.int .i64 0, .int .i64 43]) ∧ Fr [g] w w' := by
  have C1 := C.alloc (.cells #[.bool l, bs, is] 77)
  have he := blk_cell C1.ce 0
  simp at he
  have HC := hid C1
  clear C C1
  go_enter Tryd.func85, Tryd.ntmps85
  go_wp2_with fail
  refine (gate_no _ HC.out.cg (.inl hd) hd2).mono ?_
  rintro r w1 ⟨rfl, rfl⟩
  go_wp2
  go_ret2
  exact ⟨rfl, (Fr.refl _ _).alloc _⟩
end Go.Proofs.YtmpfnglcmaollaaDoor
namespace Go.Proofs.YtmpfnglcmaollaaDoor
open Go.ChangeShapes Go.WideShapes Go.ChangeAt Go.RowKit

set_option maxRecDepth 20000 in
set_option maxHeartbeats 400000 in
theorem walk_form1 (w : World) {T g e k c d : Nat} (C : Clo w 85 T g e k c) {ba : Option Addr} {bl bc : Nat} (is : Value) (hd : d ≤ 16) (hc : c < 4096) (hl : 0 < bl) :
    Calls Tryd.prog 85 #[.agg #[.bool true, .slice ba bl bc, is], .int .i64 (d : Int), .pointer (some ⟨e, 0, none⟩), .pointer (some ⟨k, 0, none⟩)] w fun r w' => r = .returned (.tuple #[.int .i64 0, .int .i64 40]) ∧ Fr [g] w w' := by
  have C1 := C.alloc (.cells #[.bool true, .slice ba bl bc, is] 77)
  have hg := blk_lt C.cg
  have he := blk_cell C1.ce 0
  simp at he
  have HC := hid C1
  have HN := hid (blk_new w (.cells #[.bool true, .slice ba bl bc, is] 77))
  have hne : ¬ w.heap.size = g := by omega
  clear C C1
  go_enter Tryd.func85, Tryd.ntmps85
  go_wp2_with fail
  refine (gate_yes _ HC.out.cg hd hc).mono ?_
  rintro r w1 ⟨rfl, h1, f1⟩
  have hb := f1.at HN.out (by simpa using hne)
  have hb0 := blk_cell hb 0
  have hb1 := blk_cell hb 1
  have hb2 := blk_cell hb 2
  simp at hb0 hb1 hb2
  have F1 := hid f1
  clear hb f1 h1
  go_wp2
  go_ret2
  exact ⟨rfl, ((Fr.refl _ _).alloc _).trans F1.out⟩
set_option maxRecDepth 20000 in
set_option maxHeartbeats 400000 in
theorem walk_form2 (w : World) {T g e k c d : Nat} (C : Clo w 85 T g e k c) {ka : Option Addr} {kl kc : Nat} (bs : Value) (hd : d ≤ 16) (hc : c < 4096) (hl : 0 < kl) :
    Calls Tryd.prog 85 #[.agg #[.bool false, bs, .slice ka kl kc], .int .i64 (d : Int), .pointer (some ⟨e, 0, none⟩), .pointer (some ⟨k, 0, none⟩)] w fun r w' => r = .returned (.tuple #[.int .i64 0, .int .i64 40]) ∧ Fr [g] w w' := by
  have C1 := C.alloc (.cells #[.bool false, bs, .slice ka kl kc] 77)
  have hg := blk_lt C.cg
  have he := blk_cell C1.ce 0
  simp at he
  have HC := hid C1
  have HN := hid (blk_new w (.cells #[.bool false, bs, .slice ka kl kc] 77))
  have hne : ¬ w.heap.size = g := by omega
  clear C C1
  go_enter Tryd.func85, Tryd.ntmps85
  go_wp2_with fail
  refine (gate_yes _ HC.out.cg hd hc).mono ?_
  rintro r w1 ⟨rfl, h1, f1⟩
  have hb := f1.at HN.out (by simpa using hne)
  have hb0 := blk_cell hb 0
  have hb1 := blk_cell hb 1
  have hb2 := blk_cell hb 2
  simp at hb0 hb1 hb2
  have F1 := hid f1
  clear hb f1 h1
  go_wp2
  go_ret2
  exact ⟨rfl, ((Fr.refl _ _).alloc _).trans F1.out⟩

theorem strL_small {b : List Nat} {x : Nat} (h : b = [x]) (hx : x < 128) : (strL b).length = 1 := by
  subst h; unfold strL; rw [if_pos ⟨rfl, by simpa using hx⟩]; rfl
theorem strL_big {b : List Nat} (h : ¬ (b.length = 1 ∧ b.headD 0 < 128)) : strL b = headL 128 b.length ++ b := by unfold strL; rw [if_neg h]

set_option maxRecDepth 20000 in
set_option maxHeartbeats 800000 in
theorem walk_str (w0 w : World) {T g e k c d : Nat} (C : Clo w 85 T g e k c) (hf : Fr [] w0 w) (hg0 : w0.heap.size ≤ g) {bs : Value} {b : List Nat} (hr : Rd w0 bs (bv b)) (hb : By b) (hl : b.length ≤ 140737488355328) (ka : Option Addr) (kc : Nat) (hd : d ≤ 16) (hc : c < 4096) :
    Calls Tryd.prog 85 #[.agg #[.bool false, bs, .slice ka 0 kc], .int .i64 (d : Int), .pointer (some ⟨e, 0, none⟩), .pointer (some ⟨k, 0, none⟩)] w fun r w' => r = .returned (.tuple #[.int .i64 ((strL b).length : Int), .int .i64 0]) ∧ w'.heap[g]? = some (.cells #[.int .i64 ((c + 1 : Nat) : Int)] 3 (0, 0)) ∧ Fr [g] w w' := by
  obtain ⟨ba, bc, hbs⟩ := hr.form
  rw [bv_len] at hbs
  subst hbs
  have C1 := C.alloc (.cells #[.bool false, .slice ba b.length bc, .slice ka 0 kc] 77)
  have hg := blk_lt C.cg
  have he := blk_cell C1.ce 0
  simp at he
  have HC := hid C1
  have HN := hid (blk_new w (.cells #[.bool false, .slice ba b.length bc, .slice ka 0 kc] 77))
  have hne : ¬ w.heap.size = g := by omega
  have FA := hid ((Fr.refl [g] w).alloc (.cells #[.bool false, .slice ba b.length bc, .slice ka 0 kc] 77))
  have HF := hid hf
  have HR := hid hr
  have HB := hid hb
  obtain ⟨S, hS⟩ : ∃ S, S = (strL b).length := ⟨_, rfl⟩
  rw [← hS]
  have HS := hid hS
  clear C C1 hf hr hb hS
  go_enter Tryd.func85, Tryd.ntmps85
  go_wp2_with fail
  refine (gate_yes _ HC.out.cg hd hc).mono ?_
  rintro r w1 ⟨rfl, h1, f1⟩
  have hbk := f1.at HN.out (by simpa using hne)
  have hb0 := blk_cell hbk 0
  have hb1 := blk_cell hbk 1
  have hb2 := blk_cell hbk 2
  simp at hb0 hb1 hb2
  have F1 := hid (FA.out.trans f1)
  have H1 := hid h1
  have R1 : Hid (Rd w1 (.slice ba b.length bc) (bv b)) := HR.out.fr ((HF.out.mono (S' := [g]) (by simp)).trans F1.out |>.shed (fun x hx hlt => by simp at hx; omega))
  clear hbk f1 h1
  go_wp2_with fail
  refine wp_loop_rounds 1 ?_
  rw [rounds_succ]
  by_cases hs : b.length = 1 ∧ b.headD 0 < 128
  · obtain ⟨x, hx⟩ : ∃ x, b = [x] := by
      rcases b with _ | ⟨x, _ | ⟨y, r⟩⟩
      · simp at hs
      · exact ⟨x, rfl⟩
      · simp at hs
    have hx1 : x < 128 := by rw [hx] at hs; simpa using hs.2
    have HSV := hid (HS.out.trans (strL_small hx hx1))
    subst hx
    rcases R1.out.split with ⟨h0, _⟩ | ⟨q, off, c', hv, _, _, hcell⟩
    · cases h0
    · simp only [List.length_singleton] at hv
      cases hv
      have hc0 := hcell 0 x rfl
      rw [Nat.add_zero] at hc0
      simp only [List.length_singleton] at hb0 hb1 hb2 ⊢
      go_wp2_with fail
      refine (head_small w1 _ hc0 hx1).mono ?_
      rintro r w2 ⟨rfl, f2⟩
      have F2 := hid f2
      clear f2
      go_wp2
      go_ret2
      exact ⟨by rw [HSV.out]; rfl, F2.out.at H1.out (by simp), F1.out.trans (F2.out.mono (by simp))⟩
  · have hsb := strL_big hs
    have hlen : (strL b).length = (headL 128 b.length).length + b.length := by rw [hsb, List.length_append]
    have hh := headL_len 128 b.length
    obtain ⟨H, hH⟩ : ∃ H, H = headL 128 b.length := ⟨_, rfl⟩
    rw [← hH] at hh hlen
    have HH := hid hH
    have HSV := hid (HS.out.trans hlen)
    clear hH hsb hlen
    go_wp2_with fail
    refine (head_str w1 _ _ b.length hl ?_).mono ?_
    · intro h1
      rcases R1.out.split with ⟨h0, _⟩ | ⟨q, off, c', hv, _, _, hcell⟩
      · rw [h0] at h1; cases h1
      · rw [h1] at hv
        rcases b with _ | ⟨x, r⟩
        · cases h1
        · refine ⟨q, off, c', x, by rw [h1]; exact hv, by have := hcell 0 x rfl; rwa [Nat.add_zero] at this, ?_, HB.out x (by simp)⟩
          rcases Nat.lt_or_ge x 128 with h | h
          · exact absurd ⟨h1, by simpa using h⟩ hs
          · exact h
    · rintro r w2 ⟨v2, rfl, o2, f2⟩
      rw [← HH.out] at o2
      obtain ⟨a2, c2, rfl, _⟩ := ownsRow_slice o2
      have F2 := hid f2
      clear f2 o2
      go_wp2
      go_ret2
      exact ⟨by rw [HSV.out, Int.natCast_add]; rfl, F2.out.at H1.out (by simp), F1.out.trans (F2.out.mono (by simp))⟩
end Go.Proofs.YtmpfnglcmaollaaDoor
