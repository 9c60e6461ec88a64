/-
  append to a row of the call's own within a region that draws its order.
-/
import Derived.Test.YtobdegmlijnogaaJ01
import Derived.Deep.RegionLaw
import Derived.Test.YtobdegmlijnogaaJ09
import Derived.Test.YtobdegmlijnogaaJ10
import Derived.Test.YtobdegmlijnogaaJ02
import Derived.Deep.RegionHeld
namespace Go.Proofs.Ytobdegmlijnogaa
open Go.ChangeShapes Go.WideShapes Go.ChangeAt Go.RowKit

theorem step_append_own {P : Program} {ops : Array Oper} {o : Oper} {a : Act} {w : World} {K : Act → World → Prop} {Q : Exit → Act → World → Prop} {E : Prop}
    (hg : o.guard = none) (s x : Operand) (t : TypeId) (hop : o.op = Op.call { callee := Callee.builtin Builtin.append, args := #[s, x], argTypes := #[t, t] })
    (base : Nat) (e : TypeId) (i : TypeInfo) (z : Value) (size bytes : Nat) (ht : P.underlying t = some (.slice e)) (hi : P.info? e = some i) (hz : i.zero = some z)
    (hsize : i.size = size) (hby : i.bytes = bytes) (hzs : z.cells.size = size) (hsz : 0 < size)
    (v : Value) (n : Nat) (xs : List Value) (hs : a.eval s = v) (hown : w.ownsRow base e size v n xs)
    (ad : Addr) (m c : Nat) (news : List Value) (hx : a.eval x = .slice (some ad) m c) (hl : news.length = m * size) (hnews : ∀ j u, news[j]? = some u → w.cell? (ad.add j) = some u) (h1 : ∀ u ∈ news, u.oneCell' = true)
    (h63 : n + m ≤ maxLen) (hbytes : (n + m) * bytes ≤ 140737488355328) (hbase : base ≤ w.heap.size)
    (hK : ∀ v' w', w'.ownsRow base e size v' (n + m) (xs ++ news) → w.grownBy w' v.ownBlock → (v'.ownBlock = v.ownBlock ∨ v'.ownBlock = some w.heap.size) → K (a.put o.dst v') w') :
    if Region.wanted o (yielded ops a.tmps) = true then Oper.wp P o a w K Q else E := by
  have hw : Region.wanted o (yielded ops a.tmps) = true := by simp [Region.wanted, hg]
  rw [if_pos hw]
  obtain ⟨v', w', hr, h2, h3, _, h5⟩ := run_append_own_at (P := P) w base t o.type e i z size bytes ht hi hz hsize hby hzs hsz v n xs hown ad m c news hl hnews h1 h63 hbytes hbase
  unfold Oper.wp
  simp [execOp, hop, resolve, invoke, builtin, hs, hx, hr, Result.andThen]
  exact hK v' w' h2 h3 h5

/-- One byte appended to a row of bytes of the call's own. -/
theorem step_append_one {ops : Array Oper} {o : Oper} {a : Act} {w : World} {K : Act → World → Prop} {Q : Exit → Act → World → Prop} {E : Prop} {z : Int}
    (hg : o.guard = none) (s x : Operand) (hop : o.op = Op.call { callee := Callee.builtin Builtin.append, args := #[s, x], argTypes := #[27, 27] })
    (base : Nat) {v : Value} {n : Nat} {xs : List Value} (hown : w.ownsRow base 5 1 v n xs) (hs : a.eval s = v)
    (g : Nat) (hx : a.eval x = .slice (some ⟨g, 0, none⟩) 1 1) (hc : w.cell? ⟨g, 0, none⟩ = some (.int .u8 z)) (hl : n + 1 ≤ 100000) (hbase : base ≤ w.heap.size)
    (hK : ∀ v' w', w'.ownsRow base 5 1 v' (n + 1) (xs ++ [.int .u8 z]) → w.grownBy w' v.ownBlock → K (a.put o.dst v') w') :
    if Region.wanted o (yielded ops a.tmps) = true then Oper.wp Try.prog o a w K Q else E := by
  obtain ⟨i0, hi, hz0, hz1, hz2⟩ := info_parts infoB
  refine step_append_own hg s x 27 hop base 5 i0 (.int .u8 0) 1 1 Try.underlying27 hi hz0 hz1 hz2 rfl (by decide) v n xs hs hown ⟨g, 0, none⟩ 1 1 [.int .u8 z] hx rfl ?_ (by simp [Value.oneCell']) (by unfold maxLen; omega) (by omega) hbase fun v' w' h1 h2 _ => hK v' w' h1 h2
  intro j u hj
  cases j with
  | zero => simp at hj; subst hj; rw [Addr.add_lit]; exact hc
  | succ j => simp at hj
end Go.Proofs.Ytobdegmlijnogaa
namespace Go.Proofs.Ytobdegmlijnogaa
open Go.ChangeShapes Go.WideShapes Go.ChangeAt Go.RowKit

theorem step_append_rd {ops : Array Oper} {o : Oper} {a : Act} {w : World} {K : Act → World → Prop} {Q : Exit → Act → World → Prop} {E : Prop}
    (hg : o.guard = none) (s x : Operand) (hop : o.op = Op.call { callee := Callee.builtin Builtin.append, args := #[s, x], argTypes := #[27, 27] })
    (base : Nat) {v : Value} {n : Nat} {xs : List Value} (hown : w.ownsRow base 5 1 v n xs) (hs : a.eval s = v) {sx : Value} {news : List Value} (hr : Rd w sx news) (hx : a.eval x = sx) (hb : ∀ u ∈ news, u.oneCell' = true)
    (hl : n + news.length ≤ 140737488355328) (hbase : base ≤ w.heap.size)
    (hK : ∀ v' w', w'.ownsRow base 5 1 v' (n + news.length) (xs ++ news) → w.grownBy w' v.ownBlock → (v'.ownBlock = v.ownBlock ∨ v'.ownBlock = some w.heap.size) → K (a.put o.dst v') w') :
    if Region.wanted o (yielded ops a.tmps) = true then Oper.wp Try.prog o a w K Q else E := by
  obtain ⟨i0, hi, hz0, hz1, hz2⟩ := info_parts infoB
  rcases hr with ⟨rfl, rfl⟩ | ⟨ad, c, rfl, h4, h5⟩
  · have hw : Region.wanted o (yielded ops a.tmps) = true := by simp [Region.wanted, hg]
    rw [if_pos hw]
    have hrun := run_append_owned_none (P := Try.prog) (w := w) base 27 o.type 5 i0 1 Try.underlying27 hi v n xs hown
    unfold Oper.wp
    simp [execOp, hop, resolve, invoke, builtin, hs, hx, hrun, Result.andThen]
    exact hK v w (by simpa using hown) ⟨rfl, rfl, rfl, Nat.le_refl _, fun _ _ _ => rfl⟩ (.inl rfl)
  · exact step_append_own hg s x 27 hop base 5 i0 (.int .u8 0) 1 1 Try.underlying27 hi hz0 hz1 hz2 rfl (by decide) v n xs hs hown ad news.length c news hx (by simp) h5 hb (by unfold maxLen; omega) (by omega) hbase hK
end Go.Proofs.Ytobdegmlijnogaa
namespace Go.Proofs.Ytobdegmlijnogaa
open Go.ChangeShapes Go.WideShapes Go.ChangeAt Go.RowKit

/-- A writer, and what it has laid down. -/
structure Wt (w : World) (B p : Nat) (v : Value) (xs : List Nat) : Prop where
  at' : w.heap[p]? = some (.cells #[v] 58 (0, 0))
  own : w.ownsRow B 5 1 v xs.length (bv xs)
/-- The writer's file has grown. -/
structure WtG (w w' : World) (B p : Nat) (v v' : Value) (xs : List Nat) : Prop where
  wt : Wt w' B p v' xs
  fr : Fr (p :: v.ownBlock.toList) w w'
  blk : v'.ownBlock = v.ownBlock ∨ ∀ k, v'.ownBlock = some k → w.heap.size ≤ k
theorem Wt.fr {w w' : World} {B p : Nat} {v : Value} {xs : List Nat} (h : Wt w B p v xs) (f : Fr [] w w') : Wt w' B p v xs := ⟨f.at h.at' (by simp), ownsRow_fr h.own f⟩
theorem Wt.ne {w : World} {B p : Nat} {v : Value} {xs : List Nat} (h : Wt w B p v xs) : v.ownBlock ≠ some p := own_not h.own h.at' (by decide)
theorem WtG.quiet {w w1 w2 : World} {B p : Nat} {v v1 : Value} {xs : List Nat} (h : WtG w w1 B p v v1 xs) (f : Fr [] w1 w2) : WtG w w2 B p v v1 xs :=
  ⟨h.wt.fr f, h.fr.trans (f.mono (by simp)), h.blk⟩
theorem Wt.refl {w : World} {B p : Nat} {v : Value} {xs : List Nat} (h : Wt w B p v xs) : WtG w w B p v v xs := ⟨h, Fr.refl _ _, .inl rfl⟩
/-- One append, laid into the writer. -/
theorem WtG.step {w w1 w2 : World} {B p : Nat} {v v1 v2 : Value} {xs ys : List Nat} (h : WtG w w1 B p v v1 xs) (o : w2.ownsRow B 5 1 v2 ys.length (bv ys)) (g : w1.grownBy w2 v1.ownBlock) (q : v2.ownBlock = v1.ownBlock ∨ v2.ownBlock = some w1.heap.size) :
    WtG w (w2.setCell ⟨p, 0, none⟩ v2) B p v v2 ys := by
  have hp := h.wt.at'
  have hne := h.wt.ne
  have hp2 : w2.heap[p]? = some (.cells #[v1] 58 (0, 0)) := by rw [g.block p (blk_lt hp) (fun e => hne e.symm)]; exact hp
  have hne2 : v2.ownBlock ≠ some p := own_not o hp2 (by decide)
  refine ⟨⟨?_, ?_⟩, ?_, ?_⟩
  · rw [blk_set hp2]; rfl
  · exact ownsRow_of_block o fun k hk => blk_setne _ _ _ (fun e => hne2 (by rw [← e]; exact hk))
  · have f1 : Fr (p :: v.ownBlock.toList) w w2 := h.fr.grown g (fun k hk => by
      rcases h.blk with e | e
      · left; rw [e] at hk; rw [hk]; simp
      · right; exact e k hk)
    exact f1.set _ _ (.inl (by simp))
  · rcases q with q | q
    · rw [q]; exact h.blk
    · right; intro k hk
      rw [q, Option.some.injEq] at hk
      rw [← hk]; exact h.fr.size
theorem WtG.keep {w w1 : World} {B p : Nat} {v v1 : Value} {xs : List Nat} (h : WtG w w1 B p v v1 xs) {B' n : Nat} {u : Value} {ys : List Value} (o : w.ownsRow B' 5 1 u n ys) (hp : u.ownBlock ≠ some p) (hd : ∀ k, u.ownBlock = some k → v.ownBlock ≠ some k) : w1.ownsRow B' 5 1 u n ys := by
  refine ownsRow_of_block o fun k hk => h.fr.block k (o.lt k hk).2 ?_
  simp only [List.mem_cons, Option.mem_toList, not_or]
  exact ⟨fun e => hp (by rw [← e]; exact hk), fun e => hd k hk e⟩

theorem step_append_rdZ {ops : Array Oper} {o : Oper} {a : Act} {w : World} {K : Act → World → Prop} {Q : Exit → Act → World → Prop} {E : Prop}
    (hg : o.guard = none) (s x : Operand) (hop : o.op = Op.call { callee := Callee.builtin Builtin.append, args := #[s, x], argTypes := #[27, 27] })
    (base : Nat) {v : Value} {xs ns : List Nat} (hown : w.ownsRow base 5 1 v xs.length (bv xs)) (hs : a.eval s = v) {sx : Value} (hr : Rd w sx (bv ns)) (hx : a.eval x = sx)
    (hl : xs.length + ns.length ≤ 140737488355328) (hbase : base ≤ w.heap.size) (Z : Nat) {ys : List Nat} (hys : ys = xs ++ ns) (hZ : Z = ys.length)
    (hK : ∀ a' k' w', w'.ownsRow base 5 1 (.slice a' Z k') ys.length (bv ys) → w.grownBy w' v.ownBlock → ((Value.slice a' Z k').ownBlock = v.ownBlock ∨ (Value.slice a' Z k').ownBlock = some w.heap.size) → K (a.put o.dst (.slice a' Z k')) w') :
    if Region.wanted o (yielded ops a.tmps) = true then Oper.wp Try.prog o a w K Q else E := by
  refine step_append_rd hg s x hop base hown hs hr hx bv_one (by rw [bv_len]; exact hl) hbase ?_
  intro v' w' o' g' q'
  have e1 : xs.length + (bv ns).length = ys.length := by rw [hys, bv_len, List.length_append]
  have e2 : bv xs ++ bv ns = bv ys := by rw [hys, bv_append]
  rw [e1, e2] at o'
  obtain ⟨a', k', rfl, _⟩ := ownsRow_slice o'
  subst hZ
  exact hK a' k' w' o' g' q'
theorem WtG.set {w w1 : World} {B p : Nat} {v v1 : Value} {xs : List Nat} (h : WtG w w1 B p v v1 xs) {g : Nat} (i : Nat) (u : Value) (hg : w.heap.size ≤ g) {cs : Array Value} {T : TypeId} (ht : w1.heap[g]? = some (.cells cs T (0, 0))) (h1 : T ≠ 5) (hp : g ≠ p) : WtG w (w1.setCell ⟨g, i, none⟩ u) B p v v1 xs :=
  ⟨⟨by rw [blk_setne _ _ _ (Ne.symm hp)]; exact h.wt.at', ownsRow_of_block h.wt.own fun k hk => blk_setne _ _ _ (fun e => own_not h.wt.own ht h1 (by rw [← e]; exact hk))⟩, h.fr.set _ _ (.inr hg), h.blk⟩
theorem sizePc : (Try.prog.info? 64).map (·.size) = some 2 := by kernel_rfl
theorem WtG.pre {w0 w w1 : World} {B p : Nat} {v v1 : Value} {xs : List Nat} (f : Fr [] w0 w) (h : WtG w w1 B p v v1 xs) : WtG w0 w1 B p v v1 xs :=
  ⟨h.wt, (f.mono (by simp)).trans h.fr, h.blk.imp id (fun q k hk => Nat.le_trans f.size (q k hk))⟩
set_option maxRecDepth 20000 in
set_option maxHeartbeats 1600000 in
theorem sealed_c (w : World) {B p : Nat} {v bval : Value} {xs b : List Nat} {B' : Nat} (hB : B ≤ w.heap.size) (h : Wt w B p v xs) (hb : w.ownsRow B' 5 1 bval b.length (bv b)) (hd : ∀ k, bval.ownBlock = some k → v.ownBlock ≠ some k) (hby : By b) (hl : xs.length + b.length ≤ 1000000000) :
    Calls Try.prog 27 #[.pointer (some ⟨p, 0, none⟩), bval] w fun e w' => ∃ v', e = .returned (.agg #[.int .u64 (xs.length : Int), .int .u64 (b.length : Int)]) ∧ WtG w w' B p v v' (xs ++ sealL b) := by
  obtain ⟨fa, fc, hv, _⟩ := ownsRow_slice h.own
  obtain ⟨ba, bc, hbv, _⟩ := ownsRow_slice hb
  subst hv
  subst hbv
  have hp0 := h.at'
  have hlt := blk_lt hp0
  have H := hid h
  have HB := hid hb
  have HD := hid hd
  have HY := hid hby
  have hnb : Hid ((Value.slice ba b.length bc).ownBlock ≠ some p) := hid (own_not hb hp0 (by decide))
  have hcr := crc_lt hby
  clear h hb hd hby
  obtain ⟨X, hX⟩ : ∃ X, X = xs.length := ⟨_, rfl⟩
  obtain ⟨L, hL⟩ : ∃ L, L = b.length := ⟨_, rfl⟩
  have HX := hid hX
  have HL := hid hL
  rw [← hX, ← hL] at hl ⊢
  rw [← hX] at hp0
  clear hX hL
  go_enter Try.func27, Try.ntmps27
  have c0 : w.cell? ⟨p, 0, none⟩ = some (.slice fa X fc) := by rw [blk_cell hp0]; rfl
  clear hp0
  go_upto_region 2 with fail
  obtain ⟨W1, hW1⟩ : ∃ W1, W1 = (w.alloc (.cells #[.int .u64 0, .int .u64 0] 64)).alloc (.cells #[.int .u64 (X : Int), .int .u64 (L : Int)] 64) := ⟨_, rfl⟩
  rw [← hW1]
  have F1 : Hid (Fr [] w W1) := hid (by rw [hW1]; exact ((Fr.refl _ _).alloc _).alloc _)
  have n0 : Hid (W1.heap[w.heap.size]? = some (.cells #[.int .u64 0, .int .u64 0] 64 (0, 0))) := hid (by rw [hW1, blk_old _ _ (by simp)]; exact blk_new _ _)
  have n1 : Hid (W1.heap[w.heap.size + 1]? = some (.cells #[.int .u64 (X : Int), .int .u64 (L : Int)] 64 (0, 0))) := hid (by rw [hW1]; exact new_at _ _ (by simp))
  have c1 := cell_fr F1.out c0
  clear hW1 c0
  have hB1 : B ≤ W1.heap.size := Nat.le_trans hB F1.out.size
  have H1 := hid (H.out.fr F1.out)
  have HB1 := hid (ownsRow_fr HB.out F1.out)
  rw [← HX.out] at H1
  have RB1 := hid (Rd.ownB HB1.out)
  rw [← HL.out] at RB1 HB1
  go_upto_region 3 with (at_builtin; refine wpList_append_rd rfl _ _ rfl B hB1 _ _ _ rfl H1.out.own _ _ rfl RB1.out bv_one (by rw [bv_len, ← HX.out, ← HL.out]; omega) ?_; intro v2 W2 o2 g2 q2; obtain ⟨a2, k2, rfl, _⟩ := ownsRow_slice o2; have b2 := (show W2.heap[p]? = some (.cells #[.slice fa X fc] 58 (0, 0)) from (by rw [g2.block p (blk_lt H1.out.at') (fun e => H1.out.ne e.symm)]; exact H1.out.at')); have c2 := (show W2.cell? ⟨p, 0, none⟩ = some (.slice fa X fc) from (by rw [blk_cell b2]; rfl)); have f2 := blk_frozen b2 0; have O2 := hid o2; have G2 := hid g2; have Q2 := hid q2; clear o2 g2 q2 b2)
  have S2 : Hid (WtG W1 (W2.setCell ⟨p, 0, none⟩ (.slice a2 (xs.length + (bv b).length) k2)) B p (.slice fa X fc) (.slice a2 (xs.length + (bv b).length) k2) (xs ++ b)) := hid (H1.out.refl.step (by rw [bv_append, List.length_append, ← bv_len b]; exact O2.out) G2.out Q2.out)
  obtain ⟨W3, hW3⟩ : ∃ W3, W3 = W2.setCell ⟨p, 0, none⟩ (.slice a2 (xs.length + (bv b).length) k2) := ⟨_, rfl⟩
  rw [← hW3] at S2 ⊢
  clear hW3 O2 G2 Q2 c2 f2 c1
  have hY : Hid (xs.length + (bv b).length = (xs ++ b).length) := hid (by rw [List.length_append, bv_len])
  generalize xs.length + (bv b).length = Y at *
  have hn : ∀ k, k = w.heap.size ∨ k = w.heap.size + 1 → k ∉ p :: (Value.slice fa X fc).ownBlock.toList := fun k hk => by
    simp only [List.mem_cons, Option.mem_toList, not_or]
    have hN : ∃ cs, W1.heap[k]? = some (.cells cs 64 (0, 0)) := by
      rcases hk with rfl | rfl
      · exact ⟨_, n0.out⟩
      · exact ⟨_, n1.out⟩
    obtain ⟨cs, hN⟩ := hN
    exact ⟨by omega, fun e => own_not H1.out.own hN (by decide) e⟩
  have m0 : Hid (W3.heap[w.heap.size]? = some (.cells #[.int .u64 0, .int .u64 0] 64 (0, 0))) := hid (S2.out.fr.at n0.out (hn _ (.inl rfl)))
  have m1 : Hid (W3.heap[w.heap.size + 1]? = some (.cells #[.int .u64 (X : Int), .int .u64 (L : Int)] 64 (0, 0))) := hid (S2.out.fr.at n1.out (hn _ (.inr rfl)))
  have RB3 : Hid (Rd W3 (.slice ba L bc) (bv b)) := hid (Rd.ownN (S2.out.keep HB1.out (by have := hnb.out; rw [← HL.out] at this; exact this) (by have := HD.out; rw [← HL.out, ← HX.out] at this; exact this)) HL.out)
  have c3 : W3.cell? ⟨p, 0, none⟩ = some (.slice a2 Y k2) := by rw [blk_cell S2.out.wt.at']; rfl
  have hB3 : B ≤ W3.heap.size := Nat.le_trans hB1 S2.out.fr.size
  clear hn n0 n1 HB1 RB1 H1
  generalize hcr' : crc b = cr at hcr
  have HCR := hid hcr'
  have hbl : Hid (b.length ≤ 140737488355328) := hid (by rw [← HL.out]; omega)
  have hyl : Hid ((xs ++ b).length + (fixL cr 4).length ≤ 140737488355328) := hid (by rw [fixL_len, List.length_append, ← HX.out, ← HL.out]; omega)
  clear hcr'
  obtain ⟨Z, hZ⟩ : ∃ Z, Z = (xs ++ sealL b).length := ⟨_, rfl⟩
  have HZ := hid hZ
  have HYS : Hid (xs ++ sealL b = (xs ++ b) ++ fixL cr 4) := hid (by rw [← HCR.out]; unfold sealL; rw [List.append_assoc])
  clear hZ
  go_region_law (first
    | (go_simp
       go_at_call 56
       refine (sum_c (RB3.out.fr (Fr.refl _ _).drew) HY.out hbl.out).mono ?_
       rintro e w4 ⟨rfl, rfl⟩
       rw [HCR.out])
    | (go_simp
       go_at_call 49
       refine (fixed4_c _ cr hcr).mono ?_
       rintro e W4 ⟨v4, rfl, o4, f4⟩
       obtain ⟨a4, k4, rfl, _⟩ := ownsRow_slice o4
       have F4 := hid ((Fr.refl [] W3).drew.trans f4)
       have R4 := hid (Rd.ownN o4 (fixL_len _ _).symm)
       have c4 := cell_fr F4.out c3
       have hB4 := hid (Nat.le_trans hB3 F4.out.size)
       clear o4 f4)
    | (refine step_append_rdZ rfl (.tmp 29) (.tmp 32) rfl B (ownsRow_fr S2.out.wt.own F4.out) (by simp [Act.eval]) R4.out (by simp [Act.eval]) hyl.out hB4.out Z HYS.out HZ.out ?_
       intro a5 k5 W5 o5 g5 q5
       have S4 := S2.out.quiet F4.out
       have b5 := (show W5.heap[p]? = some (.cells #[.slice a2 Y k2] 58 (0, 0)) from (by rw [g5.block p (blk_lt S4.wt.at') (fun e => S4.wt.ne e.symm)]; exact S4.wt.at'))
       have c5 := (show W5.cell? ⟨p, 0, none⟩ = some (.slice a2 Y k2) from (by rw [blk_cell b5]; rfl))
       have f5 := blk_frozen b5 0
       have S5 := hid (S4.step o5 g5 q5)
       have m05 := hid (show W5.heap[w.heap.size]? = some (.cells #[.int .u64 0, .int .u64 0] 64 (0, 0)) from by rw [g5.block _ (blk_lt (F4.out.at m0.out (by simp))) (fun e => own_not S4.wt.own (F4.out.at m0.out (by simp)) (by decide) e.symm)]; exact F4.out.at m0.out (by simp))
       have m15 := hid (show W5.heap[w.heap.size + 1]? = some (.cells #[.int .u64 (X : Int), .int .u64 (L : Int)] 64 (0, 0)) from by rw [g5.block _ (blk_lt (F4.out.at m1.out (by simp))) (fun e => own_not S4.wt.own (F4.out.at m1.out (by simp)) (by decide) e.symm)]; exact F4.out.at m1.out (by simp))
       clear o5 g5 q5 b5 S4))
  all_goals (
    have hpn : p < w.heap.size := hlt
    obtain ⟨W6, hW6⟩ : ∃ W6, W6 = W5.setCell ⟨p, 0, none⟩ (.slice a5 Z k5) := ⟨_, rfl⟩
    rw [← hW6] at S5 ⊢
    have q0 : W6.heap[w.heap.size]? = some (.cells #[.int .u64 0, .int .u64 0] 64 (0, 0)) := by rw [hW6, blk_setne _ _ _ (by omega)]; exact m05.out
    have q1 : W6.heap[w.heap.size + 1]? = some (.cells #[.int .u64 (X : Int), .int .u64 (L : Int)] 64 (0, 0)) := by rw [hW6, blk_setne _ _ _ (by omega)]; exact m15.out
    clear hW6 c5 f5 c3 m05 m15 c4
    have y0 : W6.cell? ⟨w.heap.size + 1, 0, none⟩ = some (.int .u64 (X : Int)) := by rw [blk_cell q1]; rfl
    have y1 : W6.cell? ⟨w.heap.size + 1, 1, none⟩ = some (.int .u64 (L : Int)) := by rw [blk_cell q1]; rfl
    have z0 : W6.cell? ⟨w.heap.size, 0, none⟩ = some (.int .u64 0) := by rw [blk_cell q0]; rfl
    have z1 : W6.cell? ⟨w.heap.size, 1, none⟩ = some (.int .u64 0) := by rw [blk_cell q0]; rfl
    have f0 := blk_frozen q0
    go_wp2)
  all_goals (
    refine bodyPost_ret (v := .agg #[.int .u64 (X : Int), .int .u64 (L : Int)]) (results_cell_row rfl _ _ w.heap.size 64 _ (0, 0) _ (by simp) (by rw [blk_set (blk_set q0 0 _) 1 _]; rfl) Try.underlying64 rfl sizePc) rfl ?_
    have S6 := S5.out.pre F1.out
    exact ⟨_, rfl, (S6.set 0 _ (Nat.le_refl _) q0 (by decide) (by omega)).set 1 _ (Nat.le_refl _) (blk_set q0 0 _) (by decide) (by omega)⟩)
end Go.Proofs.Ytobdegmlijnogaa
namespace Go.Proofs.Ytobdegmlijnogaa
open Go.ChangeShapes Go.WideShapes Go.ChangeAt Go.RowKit

theorem Rd.win {w : World} {q o c : Nat} {b : List Nat} (h : Rd w (.slice (some ⟨q, o, none⟩) b.length c) (bv b)) {t n : Nat} (ht : t + n ≤ b.length) : Rd w (.slice (some ⟨q, o + t, none⟩) n (c - t)) (bv (wn b t n)) := by
  have h1 := h.back (q := t) (by omega)
  rw [← List.length_drop] at h1
  exact h1.front (q := n) (by rw [List.length_drop]; omega)
theorem Rd.cap {w : World} {q o c : Nat} {b : List Nat} (h : Rd w (.slice (some ⟨q, o, none⟩) b.length c) (bv b)) : b.length ≤ c := by
  rcases h with ⟨e, _⟩ | ⟨a, c', e, h4, _⟩
  · simp at e
  · simp only [Value.slice.injEq] at e
    rw [bv_len] at h4; omega
theorem bool_of (P : Prop) : ∃ x : Bool, x = true ↔ P := by
  by_cases h : P
  · exact ⟨true, fun _ => h, fun _ => rfl⟩
  · exact ⟨false, Iff.intro (fun e => Bool.noConfusion e) (fun e => absurd e h)⟩
set_option maxRecDepth 20000 in
set_option maxHeartbeats 1600000 in
theorem unsealed_c (w : World) {q o c : Nat} {b : List Nat} (hr : Rd w (.slice (some ⟨q, o, none⟩) b.length c) (bv b)) (hb : By b) (hl : b.length ≤ 1000000000) (t n : Nat) (ht : t + n + 4 ≤ b.length) (x : Bool) (hx : x = true ↔ SumAt b t n) :
    Calls Try.prog 29 #[.slice (some ⟨q, o, none⟩) b.length c, .agg #[.int .u64 (t : Int), .int .u64 (n : Int)]] w fun e w' => e = .returned (.tuple #[.slice (some ⟨q, o + t, none⟩) n (c - t), .bool x]) ∧ Fr [] w w' := by
  have HX := hid hx
  clear hx
  have hc := hr.cap
  have HR := hid hr
  have HB := hid hb
  clear hr hb
  obtain ⟨W0, hW0⟩ : ∃ W0, W0 = w.alloc (.cells #[.int .u64 (t : Int), .int .u64 (n : Int)] 64) := ⟨_, rfl⟩
  have F0 : Hid (Fr [] w W0) := hid (by rw [hW0]; exact (Fr.refl _ _).alloc _)
  have R1 := hid ((HR.out.fr F0.out).win (t := t) (n := n) (by omega))
  have R2 : Hid (Rd W0 (.slice (some ⟨q, o + (t + n), none⟩) (b.length - (t + n)) (c - (t + n))) (bv (b.drop (t + n)))) := hid ((HR.out.fr F0.out).back (by omega))
  have U4 := hid (unfixed4_c R2.out (HB.out.drop _) (by rw [List.length_drop]; omega) (by rw [List.length_drop]; omega))
  have S4 := hid (sum_c R1.out (wn_by HB.out t n) (by rw [wn_len (by omega)]; omega))
  have HS : Hid (unf ((b.drop (t + n)).take 4) = crc (wn b t n) ↔ SumAt b t n) := hid Iff.rfl
  rw [← HS.out] at HX
  clear HS
  generalize unf ((b.drop (t + n)).take 4) = x4 at *
  generalize crc (wn b t n) = y4 at *
  generalize b.length = L at *
  have h1 : ¬ c = t := by omega
  have h2 : ¬ c = t + n := by omega
  by_cases hxy : x4 = y4
  · have hx' : ((x4 : Int) == (y4 : Int)) = true := by rw [hxy]; simp
    have hxt : x = true := HX.out.2 hxy
    subst hxt
    clear hxy HX
    go_enter Try.func29, Try.ntmps29
    go_wp2_with (first
      | (go_at_call 60; rw [← hW0]; clear hW0; refine U4.out.mono ?_; rintro e w1 ⟨rfl, h⟩; rw [h]; clear h)
      | (go_at_call 56; refine S4.out.mono ?_; rintro e w1 ⟨rfl, h⟩; rw [h]; clear h))
    go_ret2
    exact ⟨rfl, F0.out⟩
  · have hx' : ((x4 : Int) == (y4 : Int)) = false := by rw [beq_eq_false_iff_ne]; omega
    have hxt : x = false := by rcases x with _ | _; rfl; exact absurd (HX.out.1 rfl) hxy
    subst hxt
    clear hxy HX
    go_enter Try.func29, Try.ntmps29
    go_wp2_with (first
      | (go_at_call 60; rw [← hW0]; clear hW0; refine U4.out.mono ?_; rintro e w1 ⟨rfl, h⟩; rw [h]; clear h)
      | (go_at_call 56; refine S4.out.mono ?_; rintro e w1 ⟨rfl, h⟩; rw [h]; clear h))
    go_ret2
    exact ⟨rfl, F0.out⟩

set_option maxRecDepth 20000 in
set_option maxHeartbeats 1600000 in
theorem pieceAt_c (w : World) {q o c : Nat} {b : List Nat} (hr : Rd w (.slice (some ⟨q, o, none⟩) b.length c) (bv b)) (hb : By b) (hl : b.length ≤ 1000000000) (h16 : 16 ≤ b.length) :
    Calls Try.prog 58 #[.slice (some ⟨q, o, none⟩) b.length c] w fun e w' => e = .returned (.agg #[.int .u64 (n8 b 0 : Int), .int .u64 (n8 b 8 : Int)]) ∧ Fr [] w w' := by
  have hc := hr.cap
  obtain ⟨W0, hW0⟩ : ∃ W0, W0 = w.alloc (.cells #[.int .u64 0, .int .u64 0] 64) := ⟨_, rfl⟩
  have F0 : Hid (Fr [] w W0) := hid (by rw [hW0]; exact (Fr.refl _ _).alloc _)
  have N0 : Hid (W0.heap[w.heap.size]? = some (.cells #[.int .u64 0, .int .u64 0] 64 (0, 0))) := hid (by rw [hW0]; exact blk_new _ _)
  have U1 := hid (unfixed8_c (hr.fr F0.out) hb (by omega) (by omega))
  have U2 := hid (unfixed8_c ((hr.fr F0.out).back (q := 8) (by omega)) (hb.drop _) (by rw [List.length_drop]; omega) (by rw [List.length_drop]; omega))
  have e0 : unf (b.take 8) = n8 b 0 := rfl
  have e8 : unf ((b.drop 8).take 8) = n8 b 8 := rfl
  rw [e0] at U1
  rw [e8] at U2
  clear hr hb e0 e8
  generalize n8 b 0 = x0 at *
  generalize n8 b 8 = x8 at *
  generalize b.length = L at *
  have h1 : ¬ c = 8 := by omega
  go_enter Try.func58, Try.ntmps58
  go_wp2_with (first
    | (go_at_call 77; have zz := Z1; clear zz; refine U2.out.mono ?_; rintro e w1 ⟨rfl, h⟩; rw [h]; clear h)
    | (go_at_call 77; rw [← hW0]; clear hW0; have Z1 := N0.out; have z0 := (show W0.cell? ⟨w.heap.size, 0, none⟩ = some (.int .u64 0) from (by rw [blk_cell Z1]; rfl)); have z1 := (show W0.cell? ⟨w.heap.size, 1, none⟩ = some (.int .u64 0) from (by rw [blk_cell Z1]; rfl)); have zf := blk_frozen Z1; refine U1.out.mono ?_; rintro e w1 ⟨rfl, h⟩; rw [h]; clear h))
  refine bodyPost_ret (v := .agg #[.int .u64 (x0 : Int), .int .u64 (x8 : Int)]) (results_cell_row rfl _ _ w.heap.size 64 _ (0, 0) _ (by simp) (by rw [blk_set (blk_set N0.out 0 _) 1 _]; rfl) Try.underlying64 rfl sizePc) rfl ?_
  exact ⟨rfl, (F0.out.set _ _ (.inr (Nat.le_refl _))).set _ _ (.inr (Nat.le_refl _))⟩
set_option maxRecDepth 20000 in
set_option maxHeartbeats 1600000 in
theorem reaches_c (w : World) (a n x : Nat) (ha : a < 18446744073709551616) (hn : n < 18446744073709551616) (hx : x < 18446744073709551616) (y : Bool) (hy : y = true ↔ a + n + 4 = x) :
    Calls Try.prog 59 #[.agg #[.int .u64 (a : Int), .int .u64 (n : Int)], .int .u64 (x : Int)] w fun e w' => e = .returned (.bool y) ∧ Fr [] w w' := by
  have w1 : a ≤ x → IntKind.u64.wrap ((x : Int) - (a : Int)) = (x : Int) - (a : Int) := fun h => by rw [IntKind.wrap_u64]; omega
  have w2 : a ≤ x → 4 ≤ x - a → IntKind.u64.wrap ((x : Int) - (a : Int) - 4) = (x : Int) - (a : Int) - 4 := fun h h' => by rw [IntKind.wrap_u64]; omega
  by_cases h1 : a ≤ x
  · have w1' := w1 h1
    have h1' : (a : Int) ≤ (x : Int) := by omega
    by_cases h2 : 4 ≤ x - a
    · have w2' := w2 h1 h2
      have h2' : (4 : Int) ≤ (x : Int) - (a : Int) := by omega
      by_cases h3 : n = x - a - 4
      · have h3' : ((n : Int) == (x : Int) - (a : Int) - 4) = true := by rw [beq_iff_eq]; omega
        have hyt : y = true := hy.2 (by omega)
        subst hyt
        clear h3 w1 w2 hy
        go_enter Try.func59, Try.ntmps59
        go_wp2
        go_ret
        exact ⟨rfl, (Fr.refl _ _).alloc _⟩
      · have h3' : ((n : Int) == (x : Int) - (a : Int) - 4) = false := by rw [beq_eq_false_iff_ne]; omega
        have hyt : y = false := by rcases y with _ | _; rfl; have := hy.1 rfl; omega
        subst hyt
        clear h3 w1 w2 hy
        go_enter Try.func59, Try.ntmps59
        go_wp2
        go_ret
        exact ⟨rfl, (Fr.refl _ _).alloc _⟩
    · have h2' : ¬ (4 : Int) ≤ (x : Int) - (a : Int) := by omega
      have hyt : y = false := by rcases y with _ | _; rfl; have := hy.1 rfl; omega
      subst hyt
      clear w1 w2 hy
      go_enter Try.func59, Try.ntmps59
      go_wp2
      go_ret
      exact ⟨rfl, (Fr.refl _ _).alloc _⟩
  · have h1' : ¬ (a : Int) ≤ (x : Int) := by omega
    have hyt : y = false := by rcases y with _ | _; rfl; have := hy.1 rfl; omega
    subst hyt
    clear w1 w2 hy
    go_enter Try.func59, Try.ntmps59
    go_wp2
    go_ret
    exact ⟨rfl, (Fr.refl _ _).alloc _⟩
end Go.Proofs.Ytobdegmlijnogaa
