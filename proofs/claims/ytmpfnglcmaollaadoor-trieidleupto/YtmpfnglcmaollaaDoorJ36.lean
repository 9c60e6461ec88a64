/-
  Tries: what Put and Delete refuse; Root of the empty one; Spoil.
-/
import Derived.Test.YtmpfnglcmaollaaDoorJ35
import Derived.Test.YtmpfnglcmaollaaDoorJ04
import Derived.Deep.Cut
namespace Go.Proofs.YtmpfnglcmaollaaDoor
open Go.ChangeShapes Go.WideShapes Go.ChangeAt Go.RowKit

set_option maxRecDepth 20000 in
set_option maxHeartbeats 2000000 in
theorem spoilO_c (w : World) {B n : Nat} {v : Value} {xs : List Value} (o : w.ownsRow B 5 1 v n xs) (hn : n ≤ 9223372036854775807) :
    Calls Tryd.prog 42 #[v] w fun e w' => (∃ u, e = .returned u) ∧ Fr v.ownBlock.toList w w' := by
  rcases o.2 with ⟨rfl, h0⟩ | ⟨g, cap, cur, rfl, _, h3, h4, h5⟩
  · subst h0
    clear o
    go_enter Tryd.func42, Tryd.ntmps42
    go_wp2_with fail
    go_loopw [2] (fun v2 wr => v2 = .int .i64 0 ∧ wr = w) (fun _ _ => 0)
    case atStart => exact ⟨rfl, rfl⟩
    case round =>
      obtain ⟨rfl, rfl⟩ := hrel
      go_wp2
      go_end0
      exact ⟨⟨_, rfl⟩, Fr.refl _ _⟩
  · have hsz : n ≤ cur.size := by
      have hx := o.1
      have := o.cells (g := g) rfl
      by_cases h0 : n = 0
      · omega
      · obtain ⟨x, hx⟩ : ∃ x, xs[n - 1]? = some x := ⟨_, List.getElem?_eq_getElem (by omega)⟩
        have h6 := this _ _ hx
        rw [Addr.add_lit, blk_cell h3] at h6
        have := (Array.getElem?_eq_some_iff.1 h6).1
        omega
    have H3 := hid h3
    clear h5 o h3
    go_enter Tryd.func42, Tryd.ntmps42
    go_wp2_with fail
    go_loopw [2] (fun v2 wr => ∃ k : Nat, k ≤ n ∧ v2 = .int .i64 (k : Int) ∧ Fr [g] w wr ∧ ∃ cs, wr.heap[g]? = some (.cells cs 5 (0, 0)) ∧ n ≤ cs.size) (fun v2 _ => n - (intOf v2).toNat)
    case atStart => exact ⟨0, Nat.zero_le _, rfl, Fr.refl _ _, cur, H3.out, hsz⟩
    case round =>
      obtain ⟨k, hk, rfl, hf, cs, hc, hcs⟩ := hrel
      have HF := hid hf
      have HC := hid hc
      by_cases hlt : k < n
      · obtain ⟨x, hx⟩ : ∃ x, wr.cell? ⟨g, k, none⟩ = some x := ⟨cs[k]'(by omega), by rw [blk_cell hc]; exact Array.getElem?_eq_getElem (by omega)⟩
        have hz := blk_frozen hc k
        clear hf hc
        go_wp2
        go_roundw
        case rel => exact ⟨k + 1, by omega, by go_num, HF.out.set _ _ (.inl (by simp)), _, blk_set HC.out _ _, by simpa using hcs⟩
        case measure => simp [intOf]; omega
      · have hk' : k = n := by omega
        subst hk'
        clear hf hc
        go_wp2
        go_end0
        exact ⟨⟨_, rfl⟩, HF.out⟩
theorem Fr.more {S T : List Nat} {w W W' : World} (h : Fr S w W) (f : Fr T W W') (hS : ∀ k ∈ T, k ∈ S ∨ w.heap.size ≤ k) : Fr S w W' :=
  ⟨f.os.trans h.os, f.tape.trans h.tape, f.output.trans h.output, Nat.le_trans h.size f.size, fun k hk hn => (f.block k (Nat.lt_of_lt_of_le hk h.size) (fun hm => by rcases hS k hm with a | a; exact hn a; omega)).trans (h.block k hk hn)⟩
set_option maxRecDepth 20000 in
theorem PutKey_c (w : World) (tb : Nat) {ka va : Option Addr} {nk kc nv vc : Nat} (h : 64 < nk) :
    Calls Tryd.prog 29 #[.pointer (some ⟨tb, 0, none⟩), .slice ka nk kc, .slice va nv vc] w fun e w' => e = .returned (.int .i64 140) ∧ Fr [] w w' := by
  have h2 : (64 : Int) < (nk : Int) := by omega
  go_enter Tryd.func29, Tryd.ntmps29
  go_wp2_with fail
  go_ret
  exact ⟨rfl, Fr.refl _ _⟩
set_option maxRecDepth 20000 in
theorem PutVal_c (w : World) (tb : Nat) {ka va : Option Addr} {nk kc nv vc : Nat} (h : nk ≤ 64) (hv : 1024 < nv) :
    Calls Tryd.prog 29 #[.pointer (some ⟨tb, 0, none⟩), .slice ka nk kc, .slice va nv vc] w fun e w' => e = .returned (.int .i64 141) ∧ Fr [] w w' := by
  have h2 : ¬ (64 : Int) < (nk : Int) := by omega
  have h3 : (1024 : Int) < (nv : Int) := by omega
  have h4 : ¬ (nv : Int) = 0 := by omega
  have h5 : nv ≠ 0 := by omega
  go_enter Tryd.func29, Tryd.ntmps29
  go_wp2_with fail
  go_ret
  exact ⟨rfl, Fr.refl _ _⟩
set_option maxRecDepth 20000 in
theorem DelKey_c (w : World) (tb : Nat) {ka : Option Addr} {nk kc : Nat} (h : 64 < nk) :
    Calls Tryd.prog 31 #[.pointer (some ⟨tb, 0, none⟩), .slice ka nk kc] w fun e w' => e = .returned (.int .i64 140) ∧ Fr [] w w' := by
  have h2 : (64 : Int) < (nk : Int) := by omega
  go_enter Tryd.func31, Tryd.ntmps31
  go_wp2_with fail
  go_ret
  exact ⟨rfl, Fr.refl _ _⟩
set_option maxRecDepth 20000 in
theorem RootNil_c (w : World) {S : Nat → Prop} {tb : Nat} {g : Value} (ht : TrieI S w tb g .nil) (HT : Tabs w) :
    Calls Tryd.prog 15 #[.pointer (some ⟨tb, 0, none⟩)] w fun e w' => e = .returned (.agg (bvals 32 (hashOf [128]))) ∧ Fr [] w w' := by
  obtain ⟨⟨rv, hB, hN⟩, _, _, _⟩ := ht
  obtain rfl : rv = .nilIface := hN
  have c0 := blk_cell hB 0
  simp at c0
  have EM := hid (fun (w1 : World) (f : Fr [] w w1) => empty_c w1 (HT.fr f))
  have C0 := hid (fun (w' : World) (f : Fr [] w w') => cell_fr c0 f)
  clear hB c0 HT
  go_enter Tryd.func15, Tryd.ntmps15
  go_upto_region 1 with fail
  rw [zero32]
  have HR : Hid ((w.alloc (.cells (bvals 32 (fun _ => 0)) 28)).heap[w.heap.size]? = some (.cells (bvals 32 (fun _ => 0)) 28 (0, 0))) := blk_new _ _
  have HF : Hid (Fr [] w (w.alloc (.cells (bvals 32 (fun _ => 0)) 28))) := (Fr.refl _ _).alloc _
  generalize w.alloc (.cells (bvals 32 (fun _ => 0)) 28) = w1 at HR HF ⊢
  have c0 := C0.out _ HF.out
  go_wp2_with fail
  refine (EM.out _ HF.out).mono ?_
  rintro e w3 ⟨rfl, f3⟩
  have HR3 := hid (blk_frT HR.out f3)
  have F3 := hid (HF.out.trans f3)
  clear f3
  rename_i hK
  refine hK _ _ ?_
  refine wpList_stH (g := hashOf [128]) rfl (.tmp 2) (.tmp 8) rfl HR3.out (by simp [Act.eval]) (by simp [Act.eval]) ?_
  have RH := hid (brow_heap (g := hashOf [128]) HR3.out)
  have RF := hid (F3.out.rowT (bvals 32 (hashOf [128])) (.inr (Nat.le_refl w.heap.size)))
  generalize World.setRow w3 w.heap.size (bvals 32 (hashOf [128])) = w7 at RH RF ⊢
  clear HR3 F3 hK
  go_wp2
  exact bodyPost_ret (v := .agg (bvals 32 (hashOf [128]))) (retH rfl RH.out rfl) rfl ⟨rfl, RF.out⟩
/-- The bytes whose hash a trie's root is. -/
theorem rootAll_c (w : World) {S : Nat → Prop} {tb : Nat} {g : Value} {n : Nd} (ht : TrieI S w tb g n) (HT : Tabs w) :
    Calls Tryd.prog 15 #[.pointer (some ⟨tb, 0, none⟩)] w fun e w' => e = .returned (.agg (bvals 32 (hashOf (encN n)))) ∧ Fr [] w w' := by
  by_cases h : n = .nil
  · subst h
    exact RootNil_c w ht HT
  · exact rootAny_c w ht HT h
end Go.Proofs.YtmpfnglcmaollaaDoor
namespace Go.Proofs.YtmpfnglcmaollaaDoor
open Go.ChangeShapes Go.WideShapes Go.ChangeAt Go.RowKit

/-- append([]byte(nil), x...) within a region that draws. -/
theorem step_append_nilB {ops : Array Oper} {o : Oper} {a : Act} {w : World} {K : Act → World → Prop} {Q : Exit → Act → World → Prop} {E : Prop} (hg : o.guard = none) (s x : Operand) (hop : o.op = Op.call { callee := Callee.builtin Builtin.append, args := #[s, x], argTypes := #[33, 33] }) (hs : a.eval s = .slice none 0 0) {sx : Value} (hx : a.eval x = sx) {ns : List Nat} (hr : Rd w sx (bv ns)) (hl : ns.length ≤ 140737488355328)
    (hK : ∀ v' w', w'.ownsRow w.heap.size 5 1 v' ns.length (bv ns) → Fr [] w w' → K (a.put o.dst v') w') :
    if Region.wanted o (yielded ops a.tmps) = true then Oper.wp Tryd.prog o a w K Q else E := by
  have hw : Region.wanted o (yielded ops a.tmps) = true := by simp [Region.wanted, hg]
  rw [if_pos hw]
  obtain ⟨i0, hi, hz0, hz1, hz2⟩ := info_parts infoB
  rcases hr with ⟨rfl, h0⟩ | ⟨ad, c, rfl, h4, h5⟩
  · have hn0 : ns = [] := by cases ns with | nil => rfl | cons => simp [bv] at h0
    subst hn0
    have hrun : ∀ ty, (Builtin.append_ #[33, 33] ty #[.slice none 0 0, .slice none 0 0]).run Tryd.prog w = .ok (.slice none 0 0) w := fun ty => by
      simp [Builtin.append_, Builtin.firstCells, go_sem]
    unfold Oper.wp
    simp [execOp, hop, resolve, invoke, builtin, hs, hx, hrun, Result.andThen]
    exact hK _ _ (World.ownsRow_nil _ _ _ _) (Fr.refl _ _)
  · obtain ⟨v', w', hrun, h2, h3, _, h6⟩ := run_append_own_at (P := Tryd.prog) w w.heap.size 33 o.type 5 i0 (.int .u8 0) 1 1 Tryd.underlying33 hi hz0 hz1 hz2 rfl (by decide) (.slice none 0 0) 0 [] (World.ownsRow_nil _ _ _ _) ad (bv ns).length c (bv ns) (by simp) h5 bv_one (by rw [bv_len]; unfold maxLen; omega) (by rw [bv_len]; omega) (Nat.le_refl _)
    unfold Oper.wp
    simp [execOp, hop, resolve, invoke, builtin, hs, hx, hrun, Result.andThen]
    refine hK _ _ ?_ ((Fr.refl _ _).grown h3 (by simp [Value.ownBlock]))
    rw [bv_len, Nat.zero_add, List.nil_append] at h2
    exact h2
theorem step_append_nilS {ops : Array Oper} {o : Oper} {a : Act} {w : World} {K : Act → World → Prop} {Q : Exit → Act → World → Prop} {E : Prop} (hg : o.guard = none) (s x : Operand) (hop : o.op = Op.call { callee := Callee.builtin Builtin.append, args := #[s, x], argTypes := #[33, 33] }) (hs : a.eval s = .slice none 0 0) {sx : Value} (hx : a.eval x = sx) {ns : List Nat} (hr : Rd w sx (bv ns)) (hl : ns.length ≤ 140737488355328) {l : Nat} (hln : l = ns.length)
    (hK : ∀ a' c' w', w'.ownsRow w.heap.size 5 1 (.slice a' l c') ns.length (bv ns) → Fr [] w w' → K (a.put o.dst (.slice a' l c')) w') :
    if Region.wanted o (yielded ops a.tmps) = true then Oper.wp Tryd.prog o a w K Q else E := by
  subst hln
  refine step_append_nilB hg s x hop hs hx hr hl fun v' w' o' f' => ?_
  obtain ⟨a', c', rfl, _⟩ := ownsRow_slice o'
  exact hK a' c' w' o' f'
/-- A step at a place. -/
structure StAt (w : World) (b o : Nat) (p : List Nat × List Nat) (ka : Option Addr) (kc : Nat) (va : Option Addr) (vc : Nat) : Prop where
  ck : w.cell? ⟨b, o, none⟩ = some (.slice ka p.1.length kc)
  cv : w.cell? ⟨b, o + 1, none⟩ = some (.slice va p.2.length vc)
  rk : Rd w (.slice ka p.1.length kc) (bv p.1)
  rv : Rd w (.slice va p.2.length vc) (bv p.2)
  bk : By p.1
  bv' : By p.2
  lk : p.1.length ≤ 140737488355328
  lv : p.2.length ≤ 140737488355328
theorem StAt.fr {w w' : World} {b o : Nat} {p : List Nat × List Nat} {ka va : Option Addr} {kc vc : Nat} (h : StAt w b o p ka kc va vc) (f : Fr [] w w') : StAt w' b o p ka kc va vc :=
  ⟨cell_fr h.ck f, cell_fr h.cv f, h.rk.fr f, h.rv.fr f, h.bk, h.bv', h.lk, h.lv⟩
/-- Steps that can be read. -/
def RdS (w : World) (v : Value) (ps : List (List Nat × List Nat)) : Prop :=
  ∃ a c, v = .slice a ps.length c ∧ (0 < ps.length → ∃ b off, a = some ⟨b, off, none⟩ ∧ ∀ (j : Nat) (p : List Nat × List Nat), ps[j]? = some p → ∃ ka kc va vc, StAt w b (off + j * 2) p ka kc va vc)
theorem RdS.fr {w w' : World} {v : Value} {ps : List (List Nat × List Nat)} (h : RdS w v ps) (f : Fr [] w w') : RdS w' v ps := by
  obtain ⟨a, c, h1, h3⟩ := h
  refine ⟨a, c, h1, fun h0 => ?_⟩
  obtain ⟨b, off, h4, h5⟩ := h3 h0
  refine ⟨b, off, h4, fun j p hj => ?_⟩
  obtain ⟨ka, kc, va, vc, h6⟩ := h5 j p hj
  exact ⟨ka, kc, va, vc, h6.fr f⟩
theorem RdS.nil (w : World) : RdS w (.slice none 0 0) [] := ⟨none, 0, rfl, fun h => by simp at h⟩
set_option maxRecDepth 20000 in
set_option maxHeartbeats 3200000 in
theorem few_c (w : World) {lv : Value} {ls : List (List Nat × List Nat)} (h : RdS w lv ls) (hl : ls.length ≤ 140737488355328) :
    Calls Tryd.prog 10 #[lv] w fun e w' => (∃ b, e = .returned (.bool b) ∧ (b = true → ls.length ≤ 40)) ∧ Fr [] w w' := by
  obtain ⟨a, c, rfl, k1⟩ := h
  have H1 := hid k1
  clear k1
  obtain ⟨n, hnn⟩ : ∃ n, n = ls.length := ⟨_, rfl⟩
  have HN := hid hnn
  rw [← hnn] at hl ⊢
  clear hnn
  by_cases h40 : 40 < n
  · have hi : (40 : Int) < (n : Int) := by omega
    go_enter Tryd.func10, Tryd.ntmps10
    go_wp2_with fail
    go_ret
    exact ⟨⟨false, rfl, fun h => by cases h⟩, Fr.refl _ _⟩
  · have hi : ¬ (40 : Int) < (n : Int) := by omega
    have h40' : n ≤ 40 := by omega
    go_enter Tryd.func10, Tryd.ntmps10
    go_wp2_with fail
    go_loopw [3, 4] (fun v3 v4 wr => ∃ (i s : Nat), i ≤ n ∧ v4 = .int .i64 (i : Int) ∧ v3 = .int .i64 (s : Int) ∧ s ≤ i * 1090 ∧ Fr [] w wr) (fun _ v4 _ => n - (intOf v4).toNat)
    case atStart => exact ⟨0, 0, Nat.zero_le _, rfl, rfl, by omega, Fr.refl _ _⟩
    case round =>
      obtain ⟨i, s, hi2, rfl, rfl, hs, hf⟩ := hrel
      have HF := hid hf
      clear hf
      by_cases hlt : i < n
      · obtain ⟨x, hx⟩ : ∃ x, ls[i]? = some x := ⟨_, List.getElem?_eq_getElem (by rw [← HN.out]; exact hlt)⟩
        obtain ⟨b, off, rfl, m1⟩ := H1.out (by have := HN.out; omega)
        obtain ⟨ka, kc, va, vc, P⟩ := m1 i x hx
        have P2 := P.fr HF.out
        have z0 := P2.ck
        have z1 := P2.cv
        have hlk := P.lk
        have hlv := P.lv
        obtain ⟨xk, hxk⟩ : ∃ n, n = x.1.length := ⟨_, rfl⟩
        obtain ⟨xv, hxv⟩ : ∃ n, n = x.2.length := ⟨_, rfl⟩
        rw [← hxk] at z0 hlk
        rw [← hxv] at z1 hlv
        clear P P2 m1 hx hxk hxv
        have hii : (i : Int) < (n : Int) := by omega
        go_wp2_with fail
        go_quiet (fail)
        go_wp2
        refine ⟨⟨i + 1, s + min xk 65 + min xv 1025, by omega, by go_num, ?_, by omega, HF.out.drewN _⟩, by simp [intOf]; omega⟩
        congr 1
        split <;> split <;> omega
      · have hin : i = n := by omega
        subst hin
        go_wp2
        go_ret
        exact ⟨⟨_, rfl, fun _ => h40'⟩, HF.out⟩
end Go.Proofs.YtmpfnglcmaollaaDoor
