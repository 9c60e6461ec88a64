/-
  What Split of package codec answers, and the reference's Key and Split.
-/
import Derived.Test.YtkljblgogiheoaaJ06
import Derived.Test.YtkljblgogiheoaaJ12
import Derived.Deep.RegionLaw
import Derived.Test.YtkljblgogiheoaaSl
namespace Go.Proofs.Ytkljblgogiheoaa
open Go.ChangeShapes Go.WideShapes Go.ChangeAt Go.RowKit

theorem results_tmp4 {fn : Func} {p q r s : Tmp} (h : fn.results = #[.tmp p, .tmp q, .tmp r, .tmp s]) (tmps : Array Value) (P : Program) (w : World) :
    (results fn tmps).run P w = .ok (.tuple #[tmps.getD p undef, tmps.getD q undef, tmps.getD r undef, tmps.getD s undef]) w := by
  simp only [results, h]
  simp

set_option maxRecDepth 20000 in
set_option maxHeartbeats 400000 in
theorem Split_no (w : World) {v : Value} {b : List Nat} (hr : Rd w v (bv b)) (hb : By b) (hl : b.length ≤ 140737488355328) (h : isK b = false) :
    Calls Try.prog 74 #[v] w fun e w' => e = .returned (.tuple #[.slice none 0 0, .int .u64 0, .int .i64 0, .int .i64 23]) ∧ Fr [] w w' := by
  have HS := hid (split_no w hr hb hl h)
  obtain ⟨a, c, hv⟩ := hr.form
  subst hv
  clear hr hb h
  go_enter Try.func74, Try.ntmps74
  go_wp2_with fail
  refine HS.out.mono ?_
  rintro e w1 ⟨rfl, f1⟩
  go_wp2
  exact bodyPost_ret (results_tmp4 rfl _ _ _) rfl ⟨rfl, f1.alloc _⟩

set_option maxRecDepth 20000 in
set_option maxHeartbeats 4000000 in
theorem Split_yes (w : World) {v : Value} {b : List Nat} (hr : Rd w v (bv b)) (hb : By b) (h : isK b = true) :
    Calls Try.prog 74 #[v] w fun e w' => ∃ v', e = .returned (.tuple #[v', .int .u64 ((tailN b / 256 : Nat) : Int), .int .i64 ((tailN b % 256 : Nat) : Int), .int .i64 0]) ∧ w'.ownsRow w.heap.size 5 1 v' (userL b).length (bv (userL b)) ∧ Fr [] w w' := by
  have hk := isK_len h
  obtain ⟨q, off, c, rfl, h1⟩ := hr.place (by omega)
  have hs0 := split_yes w hr hb h1 h
  have hr0 := hr.front (q := b.length - 8) (by omega)
  obtain ⟨s, hs⟩ : ∃ s, s = tailN b / 256 := ⟨_, rfl⟩
  obtain ⟨g, hg⟩ : ∃ g, g = tailN b % 256 := ⟨_, rfl⟩
  obtain ⟨u, hu⟩ : ∃ u, u = b.take (b.length - 8) := ⟨_, rfl⟩
  have hul : b.length - 8 = u.length := by rw [hu, List.length_take]; omega
  have hlen : u.length ≤ 140737488355328 := by omega
  rw [← hs, ← hg, hul] at hs0
  rw [← hu, hul] at hr0
  rw [← hs, ← hg, show userL b = u from hu.symm]
  have HS := hid hs0
  have HR := hid hr0
  clear hr hb h hs hg hs0 hr0 hu hul
  go_enter Try.func74, Try.ntmps74
  go_wp2_with fail
  refine HS.out.mono ?_
  rintro e w1 ⟨rfl, f1⟩
  have F1 := hid f1
  clear f1
  have A1 : Hid (Fr [] w (w1.alloc (.cells #[.slice (some ⟨q, off, none⟩) u.length c, .int .u64 (s : Int), .int .i64 (g : Int)] 112)).drew) := (F1.out.alloc _).drew
  have A2 := hid (HR.out.fr A1.out)
  have A3 : Hid ((w1.alloc (.cells #[.slice (some ⟨q, off, none⟩) u.length c, .int .u64 (s : Int), .int .i64 (g : Int)] 112)).drew.heap[w1.heap.size]? = some (.cells #[.slice (some ⟨q, off, none⟩) u.length c, .int .u64 (s : Int), .int .i64 (g : Int)] 112 (0, 0))) := by
    unfold Hid; rw [blk_drew]; exact blk_new w1 _
  have HCL := hid (clone_x A2.out hlen)
  have O2 := hid (ownsRow_base (clone_own (w1.alloc (.cells #[.slice (some ⟨q, off, none⟩) u.length c, .int .u64 (s : Int), .int .i64 (g : Int)] 112)).drew u hlen) A1.out.size)
  have f2 := clone_fr (w1.alloc (.cells #[.slice (some ⟨q, off, none⟩) u.length c, .int .u64 (s : Int), .int .i64 (g : Int)] 112)).drew u
  generalize cloneW (w1.alloc (.cells #[.slice (some ⟨q, off, none⟩) u.length c, .int .u64 (s : Int), .int .i64 (g : Int)] 112)).drew u = W2 at HCL O2 f2
  generalize cloneV (w1.alloc (.cells #[.slice (some ⟨q, off, none⟩) u.length c, .int .u64 (s : Int), .int .i64 (g : Int)] 112)).drew u = v2 at HCL O2
  have kb := f2.at A3.out (by simp)
  have k1 : W2.cell? ⟨w1.heap.size, 1, none⟩ = some (.int .u64 (s : Int)) := by rw [blk_cell kb]; rfl
  have k2 : W2.cell? ⟨w1.heap.size, 2, none⟩ = some (.int .i64 (g : Int)) := by rw [blk_cell kb]; rfl
  have F2 := hid (A1.out.trans f2)
  obtain ⟨a2, c2, hv2, _⟩ := ownsRow_slice O2.out
  subst hv2
  clear kb f2
  go_wp2_with fail
  go_region_with (
    go_at_call 51
    go_must (
    refine HCL.out.mono ?_
    rintro e w2 ⟨rfl, rfl⟩))
  all_goals go_wp2
  all_goals exact bodyPost_ret (results_tmp4 rfl _ _ _) rfl ⟨_, rfl, O2.out, F2.out⟩
end Go.Proofs.Ytkljblgogiheoaa
namespace Go.Proofs.Ytkljblgogiheoaa
open Go.ChangeShapes Go.WideShapes Go.ChangeAt Go.RowKit

theorem step_append_own {P : Program} {ops : Array Oper} {o : Oper} {a : Act} {w : World} {K : Act → World → Prop} {Q : Exit → Act → World → Prop} {E : Prop}
    (hg : o.guard = none) (s x : Operand) (t : TypeId) (hop : o.op = Op.call { callee := Callee.builtin Builtin.append, args := #[s, x], argTypes := #[t, t] })
    (base : Nat) (e : TypeId) (i : TypeInfo) (z : Value) (size bytes : Nat) (ht : P.underlying t = some (.slice e)) (hi : P.info? e = some i) (hz : i.zero = some z)
    (hsize : i.size = size) (hby : i.bytes = bytes) (hzs : z.cells.size = size) (hsz : 0 < size)
    (v : Value) (n : Nat) (xs : List Value) (hs : a.eval s = v) (hown : w.ownsRow base e size v n xs)
    (ad : Addr) (m c : Nat) (news : List Value) (hx : a.eval x = .slice (some ad) m c) (hl : news.length = m * size) (hnews : ∀ j u, news[j]? = some u → w.cell? (ad.add j) = some u) (h1 : ∀ u ∈ news, u.oneCell' = true)
    (h63 : n + m ≤ maxLen) (hbytes : (n + m) * bytes ≤ 140737488355328) (hbase : base ≤ w.heap.size)
    (hK : ∀ v' w', w'.ownsRow base e size v' (n + m) (xs ++ news) → w.grownBy w' v.ownBlock → (v'.ownBlock = v.ownBlock ∨ v'.ownBlock = some w.heap.size) → K (a.put o.dst v') w') :
    if Region.wanted o (yielded ops a.tmps) = true then Oper.wp P o a w K Q else E := by
  have hw : Region.wanted o (yielded ops a.tmps) = true := by simp [Region.wanted, hg]
  rw [if_pos hw]
  obtain ⟨v', w', hr, h2, h3, _, h5⟩ := run_append_own_at (P := P) w base t o.type e i z size bytes ht hi hz hsize hby hzs hsz v n xs hown ad m c news hl hnews h1 h63 hbytes hbase
  unfold Oper.wp
  simp [execOp, hop, resolve, invoke, builtin, hs, hx, hr, Result.andThen]
  exact hK v' w' h2 h3 h5

/-- One byte appended to a row of bytes of the call's own. -/
theorem step_append_one {ops : Array Oper} {o : Oper} {a : Act} {w : World} {K : Act → World → Prop} {Q : Exit → Act → World → Prop} {E : Prop} {z : Int}
    (hg : o.guard = none) (s x : Operand) (hop : o.op = Op.call { callee := Callee.builtin Builtin.append, args := #[s, x], argTypes := #[48, 48] })
    (base : Nat) {v : Value} {n : Nat} {xs : List Value} (hown : w.ownsRow base 5 1 v n xs) (hs : a.eval s = v)
    (g : Nat) (hx : a.eval x = .slice (some ⟨g, 0, none⟩) 1 1) (hc : w.cell? ⟨g, 0, none⟩ = some (.int .u8 z)) (hl : n + 1 ≤ 100000) (hbase : base ≤ w.heap.size)
    (hK : ∀ v' w', w'.ownsRow base 5 1 v' (n + 1) (xs ++ [.int .u8 z]) → w.grownBy w' v.ownBlock → K (a.put o.dst v') w') :
    if Region.wanted o (yielded ops a.tmps) = true then Oper.wp Try.prog o a w K Q else E := by
  obtain ⟨i0, hi, hz0, hz1, hz2⟩ := info_parts infoB
  refine step_append_own hg s x 48 hop base 5 i0 (.int .u8 0) 1 1 Try.underlying48 hi hz0 hz1 hz2 rfl (by decide) v n xs hs hown ⟨g, 0, none⟩ 1 1 [.int .u8 z] hx rfl ?_ (by simp [Value.oneCell']) (by unfold maxLen; omega) (by omega) hbase fun v' w' h1 h2 _ => hK v' w' h1 h2
  intro j u hj
  cases j with
  | zero => simp at hj; subst hj; rw [Addr.add_lit]; exact hc
  | succ j => simp at hj
end Go.Proofs.Ytkljblgogiheoaa
namespace Go.Proofs.Ytkljblgogiheoaa
open Go.ChangeShapes Go.WideShapes Go.ChangeAt Go.RowKit

theorem step_append_rd {ops : Array Oper} {o : Oper} {a : Act} {w : World} {K : Act → World → Prop} {Q : Exit → Act → World → Prop} {E : Prop}
    (hg : o.guard = none) (s x : Operand) (hop : o.op = Op.call { callee := Callee.builtin Builtin.append, args := #[s, x], argTypes := #[48, 48] })
    (base : Nat) {v : Value} {n : Nat} {xs : List Value} (hown : w.ownsRow base 5 1 v n xs) (hs : a.eval s = v) {sx : Value} {news : List Value} (hr : Rd w sx news) (hx : a.eval x = sx) (hb : ∀ u ∈ news, u.oneCell' = true)
    (hl : n + news.length ≤ 140737488355328) (hbase : base ≤ w.heap.size)
    (hK : ∀ v' w', w'.ownsRow base 5 1 v' (n + news.length) (xs ++ news) → w.grownBy w' v.ownBlock → (v'.ownBlock = v.ownBlock ∨ v'.ownBlock = some w.heap.size) → K (a.put o.dst v') w') :
    if Region.wanted o (yielded ops a.tmps) = true then Oper.wp Try.prog o a w K Q else E := by
  obtain ⟨i0, hi, hz0, hz1, hz2⟩ := info_parts infoB
  rcases hr with ⟨rfl, rfl⟩ | ⟨ad, c, rfl, h4, h5⟩
  · have hw : Region.wanted o (yielded ops a.tmps) = true := by simp [Region.wanted, hg]
    rw [if_pos hw]
    have hrun := run_append_owned_none (P := Try.prog) (w := w) base 48 o.type 5 i0 1 Try.underlying48 hi v n xs hown
    unfold Oper.wp
    simp [execOp, hop, resolve, invoke, builtin, hs, hx, hrun, Result.andThen]
    exact hK v w (by simpa using hown) ⟨rfl, rfl, rfl, Nat.le_refl _, fun _ _ _ => rfl⟩ (.inl rfl)
  · exact step_append_own hg s x 48 hop base 5 i0 (.int .u8 0) 1 1 Try.underlying48 hi hz0 hz1 hz2 rfl (by decide) v n xs hs hown ad news.length c news hx (by simp) h5 hb (by unfold maxLen; omega) (by omega) hbase hK
end Go.Proofs.Ytkljblgogiheoaa
