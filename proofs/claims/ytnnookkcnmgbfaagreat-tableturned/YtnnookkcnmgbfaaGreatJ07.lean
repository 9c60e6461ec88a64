/-
  Package block: rising, appendEntry.
-/
import Derived.Test.YtnnookkcnmgbfaaGreatJ06
import Derived.Test.YtnnookkcnmgbfaaGreatJ02
import Derived.Test.YtnnookkcnmgbfaaGreatJ00
import Derived.Deep.RegionLaw
import Derived.Test.YtnnookkcnmgbfaaGreatJ05
import Derived.Deep.RegionHeld
namespace Go.Proofs.YtnnookkcnmgbfaaGreat
open Go.ChangeShapes Go.WideShapes Go.ChangeAt Go.RowKit

theorem not_rises {ps : Ps} {i : Nat} (h : i < ps.length) (hf : flw (ahd ps i) (kA ps i) = false) : ¬ Rises ps := fun hr => by rw [hr i h] at hf; cases hf

set_option maxRecDepth 20000 in
set_option maxHeartbeats 1600000 in
theorem rising_c (w : World) {v : Value} {ps : Ps} (h : RdK w v ps) (hl : ps.length ≤ 1000000) :
    Calls Tryz.prog 83 #[v] w fun e w' => (e = .returned (.bool true) ∧ Rises ps ∨ e = .returned (.bool false) ∧ ¬ Rises ps) ∧ Fr [] w w' := by
  obtain ⟨a, c, rfl, hc, k1⟩ := h
  have H1 := hid k1
  clear k1
  obtain ⟨n, hn⟩ : ∃ n, n = ps.length := ⟨_, rfl⟩
  have HN := hid hn
  rw [← hn] at hl hc ⊢
  clear hn
  go_enter Tryz.func83, Tryz.ntmps83
  go_wp2_with fail
  go_loopw [3, 8] (fun v3 v8 wr => ∃ i : Nat, i ≤ n ∧ v8 = .int .i64 (i : Int) ∧ (Rd wr v3 (bv (ahd ps i)) ∧ By (ahd ps i) ∧ (ahd ps i).length ≤ 140737488355328 ∧ (∀ j, j < i → flw (ahd ps j) (kA ps j) = true)) ∧ Fr [] w wr) (fun _ v8 _ => n - (intOf v8).toNat)
  case atStart => exact ⟨0, Nat.zero_le _, rfl, ⟨.inl ⟨rfl, rfl⟩, fun n h => absurd h (by simp [ahd]), by simp [ahd], fun j h => by omega⟩, Fr.refl _ _⟩
  case round =>
    obtain ⟨i, hi, rfl, hr, hf⟩ := hrel
    have HR := hid hr
    have HF := hid hf
    clear hr hf
    by_cases hlt : i < n
    · have hil : i < ps.length := by rw [← HN.out]; exact hlt
      have hp := ps_at hil
      obtain ⟨b, off, rfl, m1⟩ := H1.out (by omega)
      obtain ⟨ka, kc, va, vc, P⟩ := m1 i _ hp
      have P2 := P.fr HF.out
      have z1 := P2.ck
      have z2 := P2.cv
      have HP := hid P2
      obtain ⟨lk, hlk⟩ : ∃ l, l = (kA ps i).length := ⟨_, rfl⟩
      obtain ⟨lv, hlv⟩ : ∃ l, l = (vA ps i).length := ⟨_, rfl⟩
      have HLK := hid hlk
      dsimp only at z1 z2
      rw [← hlk] at z1
      rw [← hlv] at z2
      obtain ⟨wx, hwx⟩ : ∃ wx, wx = wr.alloc (.cells #[.slice ka lk kc, .slice va lv vc] 47) := ⟨_, rfl⟩
      have fx : Fr [] wr wx := by rw [hwx]; exact (Fr.refl _ _).alloc _
      have FX := hid fx
      have HFW := hid (follows_c wx (HR.out.1.fr fx) HR.out.2.1 HR.out.2.2.1 (HP.out.rk.fr fx) HP.out.bk HP.out.lk)
      clear hlk hlv P P2 m1 hp fx hil
      go_wp2_with fail
      rw [← hwx]
      rw [← HLK.out] at HFW
      have bx : wx.heap[wr.heap.size]? = some (.cells #[.slice ka lk kc, .slice va lv vc] 47 (0, 0)) := by rw [hwx]; exact blk_new _ _
      clear hwx
      refine HFW.out.mono ?_
      rintro e w1 ⟨rfl, f1⟩
      have b1 := f1.at bx (by simp)
      have F1 := hid (FX.out.trans f1)
      have R1 := hid (HP.out.rk.fr (FX.out.trans f1))
      rw [← HLK.out] at R1
      clear HFW bx f1
      have hcell := blk_cell b1 0
      rcases hq : flw (ahd ps i) (kA ps i) with _ | _
      · have HQ := hid hq
        clear hq
        go_wp2
        go_ret
        exact ⟨.inr ⟨rfl, not_rises (by have := HN.out; omega) HQ.out⟩, HF.out.trans F1.out⟩
      · have HQ := hid hq
        clear hq
        go_wp2
        go_roundw
        case rel =>
          refine ⟨i + 1, by omega, by go_num, ⟨?_, ?_, ?_, ?_⟩, HF.out.trans F1.out⟩
          · rw [ahd_succ]; exact R1.out
          · rw [ahd_succ]; exact HP.out.bk
          · rw [ahd_succ]; exact HP.out.lk
          · intro j hj
            by_cases hji : j = i
            · subst hji; exact HQ.out
            · exact HR.out.2.2.2 j (by omega)
        case measure => simp [intOf]; omega
    · have hk' : i = n := by omega
      subst hk'
      go_wp2
      go_ret
      exact ⟨.inl ⟨rfl, fun j hj => HR.out.2.2.2 j (by rw [HN.out]; exact hj)⟩, HF.out⟩
end Go.Proofs.YtnnookkcnmgbfaaGreat
namespace Go.Proofs.YtnnookkcnmgbfaaGreat
open Go.ChangeShapes Go.WideShapes Go.ChangeAt Go.RowKit

theorem own_not {w : World} {B s n : Nat} {e T : TypeId} {v : Value} {xs : List Value} (h : w.ownsRow B e s v n xs) {N : Nat} {cs : Array Value} (hN : w.heap[N]? = some (.cells cs T (0, 0))) (hne : T ≠ e) : v.ownBlock ≠ some N := by
  intro hk
  rcases h.2 with ⟨rfl, _⟩ | ⟨g, cap, cur, rfl, _, h3, _⟩
  · simp [Value.ownBlock] at hk
  · simp [Value.ownBlock] at hk
    subst hk
    rw [h3] at hN
    simp at hN
    exact hne hN.2.symm
/-- A row of the call's own that grows: what else is there stays. -/
structure Gro (w w' : World) (B : Nat) (v v' : Value) (xs : List Nat) : Prop where
  own : w'.ownsRow B 5 1 v' xs.length (bv xs)
  fr : Fr v.ownBlock.toList w w'
  blk : v'.ownBlock = v.ownBlock ∨ ∀ k, v'.ownBlock = some k → w.heap.size ≤ k
theorem Gro.refl {w : World} {B : Nat} {v : Value} {xs : List Nat} (h : w.ownsRow B 5 1 v xs.length (bv xs)) : Gro w w B v v xs := ⟨h, Fr.refl _ _, .inl rfl⟩
theorem Gro.quiet {w w1 w2 : World} {B : Nat} {v v1 : Value} {xs : List Nat} (h : Gro w w1 B v v1 xs) (f : Fr [] w1 w2) : Gro w w2 B v v1 xs :=
  ⟨ownsRow_fr h.own f, h.fr.trans (f.mono (by simp)), h.blk⟩
theorem Gro.grow {w w1 w2 : World} {B : Nat} {v v1 v2 : Value} {xs ys : List Nat} (h : Gro w w1 B v v1 xs) (o : w2.ownsRow B 5 1 v2 ys.length (bv ys)) (g : w1.grownBy w2 v1.ownBlock) (q : v2.ownBlock = v1.ownBlock ∨ v2.ownBlock = some w1.heap.size) : Gro w w2 B v v2 ys := by
  refine ⟨o, h.fr.grown g ?_, ?_⟩
  · intro k hk
    rcases h.blk with e | e
    · left; rw [← e, hk]; simp
    · right; exact e k hk
  · rcases q with q | q
    · rw [q]; exact h.blk
    · right
      intro k hk
      rw [q] at hk
      simp at hk
      have := h.fr.size
      omega
theorem Gro.at {w w1 : World} {B : Nat} {v v1 : Value} {xs ys : List Nat} (h : Gro w w1 B v v1 xs) (o : w.ownsRow B 5 1 v ys.length (bv ys)) {N : Nat} {cs : Array Value} {T : TypeId} (hN : w.heap[N]? = some (.cells cs T (0, 0))) (hne : T ≠ 5) : w1.heap[N]? = some (.cells cs T (0, 0)) := by
  refine h.fr.at hN ?_
  intro hm
  rw [Option.mem_toList] at hm
  exact own_not o hN hne hm
def n3 (s t z j : Nat) : Nat := if j = 0 then s else if j = 1 then t else z
def p3 (s t z : Nat) : Nat → List Nat
  | 0 => []
  | j + 1 => p3 s t z j ++ putL (n3 s t z j)
theorem p3_len {s t z : Nat} (hs : s < 18446744073709551616) (ht : t < 18446744073709551616) (hz : z < 18446744073709551616) : ∀ j, (p3 s t z j).length ≤ 10 * j
  | 0 => by simp [p3]
  | j + 1 => by
    have h1 := p3_len hs ht hz j
    have h2 : (putL (n3 s t z j)).length ≤ 10 := putL_len10 (by unfold n3; split; exact hs; split; exact ht; exact hz)
    rw [p3, List.length_append]; omega
theorem p3_three (s t z : Nat) : p3 s t z 3 = putL s ++ (putL t ++ putL z) := by simp [p3, n3]
theorem Gro.old {w0 w w1 : World} {B : Nat} {v v1 : Value} {xs ys : List Nat} (h : Gro w w1 B v v1 xs) (o : w.ownsRow B 5 1 v ys.length (bv ys)) (f : Fr [] w0 w) (hB : w0.heap.size ≤ B) : Fr [] w0 w1 := by
  refine ((f.mono (S' := v.ownBlock.toList) (by simp)).trans h.fr).shed ?_
  intro k hk hlt
  rw [Option.mem_toList] at hk
  have := (o.lt k hk).1
  omega
theorem Gro.trans {w w1 w2 : World} {B : Nat} {v v1 v2 : Value} {xs ys : List Nat} (h : Gro w w1 B v v1 xs) (h' : Gro w1 w2 B v1 v2 ys) : Gro w w2 B v v2 ys := by
  refine ⟨h'.own, ?_, ?_⟩
  · refine ⟨h'.fr.os.trans h.fr.os, h'.fr.tape.trans h.fr.tape, h'.fr.output.trans h.fr.output, Nat.le_trans h.fr.size h'.fr.size, fun k hk hn => ?_⟩
    rw [h'.fr.block k (Nat.lt_of_lt_of_le hk h.fr.size) ?_, h.fr.block k hk hn]
    intro hm
    rw [Option.mem_toList] at hm
    rcases h.blk with e | e
    · exact hn (by rw [Option.mem_toList, ← e]; exact hm)
    · have := e k hm; omega
  · rcases h'.blk with e | e
    · rw [e]; exact h.blk
    · right; intro k hk; have := e k hk; have := h.fr.size; omega

set_option maxRecDepth 20000 in
set_option maxHeartbeats 3200000 in
theorem appendEntry_c (w0 w : World) {bval : Value} {q0 o0 c0 c1 : Nat} {a1 : Option Addr} {k v : List Nat} (s B : Nat) (hB0 : w0.heap.size ≤ B) (hB : B ≤ w.heap.size) (F0 : Fr [] w0 w) (xs : List Nat) (ob : w.ownsRow B 5 1 bval xs.length (bv xs)) (rk : Rd w0 (.slice (some ⟨q0, o0, none⟩) k.length c0) (bv k)) (kc : k.length ≤ c0) (rv : Rd w0 (.slice a1 v.length c1) (bv v)) (hs : s < k.length)
    (hxl : xs.length ≤ 1000000000000) (hkl : k.length ≤ 1000000000000) (hvl : v.length ≤ 1000000000000) :
    Calls Tryz.prog 85 #[bval, .agg #[.slice (some ⟨q0, o0, none⟩) k.length c0, .slice a1 v.length c1], .int .i64 (s : Int)] w fun e w' => ∃ v', e = .returned v' ∧ Gro w w' B bval v' (xs ++ ent s k v) := by
  have rt := rk.back (Nat.le_of_lt hs)
  have hcs : ¬ c0 = s := by omega
  have he : (xs ++ p3 s (k.length - s) v.length 3) ++ k.drop s ++ v = xs ++ ent s k v := by rw [p3_three]; unfold ent; simp only [List.append_assoc]
  have HE := hid he
  have RT := hid rt
  have RV := hid rv
  have OB := hid ob
  have FF := hid F0
  have hdl : (k.drop s).length = k.length - s := List.length_drop
  have HDL := hid hdl
  have ho : ∀ {N : Nat} {cs : Array Value} {T : TypeId}, w.heap[N]? = some (.cells cs T (0, 0)) → T ≠ 5 → bval.ownBlock ≠ some N := fun h1 h2 => own_not ob h1 h2
  clear rk rv he hdl rt F0 ob ho
  generalize k.length = lk at *
  generalize hlv : v.length = lv at *
  have HLV := hid hlv
  clear hlv
  obtain ⟨wz, hwz⟩ : ∃ wz, wz = (w.alloc (.cells #[.slice (some ⟨q0, o0, none⟩) lk c0, .slice a1 lv c1] 47)).alloc (.cells #[.int .i64 (s : Int), .int .i64 ((lk - s : Nat) : Int), .int .i64 (lv : Int)] 3) := ⟨_, rfl⟩
  have FZ : Hid (Fr [] w wz) := by refine hid ?_; rw [hwz]; exact ((Fr.refl _ _).alloc _).alloc _
  have hzs : wz.heap.size = w.heap.size + 2 := by rw [hwz]; simp
  have bz0 : wz.heap[w.heap.size]? = some (.cells #[.slice (some ⟨q0, o0, none⟩) lk c0, .slice a1 lv c1] 47 (0, 0)) := by
    rw [hwz, blk_old _ _ (by simp)]; exact blk_new _ _
  have bz1 : wz.heap[w.heap.size + 1]? = some (.cells #[.int .i64 (s : Int), .int .i64 ((lk - s : Nat) : Int), .int .i64 (lv : Int)] 3 (0, 0)) := by
    rw [hwz]; exact new_at _ _ (by simp)
  have HZ := hid (And.intro bz0 bz1)
  clear bz0 bz1
  go_enter Tryz.func85, Tryz.ntmps85
  go_wp2_with fail
  rw [← hwz]
  clear hwz
  go_loopw [0, 22] (fun v0 v22 wr => ∃ j : Nat, j ≤ 3 ∧ v22 = .int .i64 (j : Int) ∧ Gro wz wr B bval v0 (xs ++ p3 s (lk - s) lv j)) (fun _ v22 _ => 3 - (intOf v22).toNat)
  case atStart => exact ⟨0, by omega, rfl, by rw [p3, List.append_nil]; exact Gro.refl (ownsRow_fr OB.out FZ.out)⟩
  case round =>
    obtain ⟨j, hj, rfl, hg⟩ := hrel
    have HG := hid hg
    clear hg
    have oz := ownsRow_fr OB.out FZ.out
    have b1 := HG.out.at oz HZ.out.2 (by decide)
    have hpl := p3_len (s := s) (t := lk - s) (z := lv) (by omega) (by omega) (by omega) j
    by_cases hlt : j < 3
    · have hc : wr.cell? ⟨w.heap.size + 1, j, none⟩ = some (.int .i64 (n3 s (lk - s) lv j : Nat)) := by
        rw [blk_cell b1]
        have : j = 0 ∨ j = 1 ∨ j = 2 := by omega
        rcases this with rfl | rfl | rfl <;> rfl
      have hn3 : n3 s (lk - s) lv j ≤ 1000000000000 := by unfold n3; split; omega; split; omega; omega
      obtain ⟨m, hm⟩ : ∃ m, m = n3 s (lk - s) lv j := ⟨_, rfl⟩
      have HM := hid hm
      rw [← hm] at hc hn3
      clear hm oz b1
      have PC := hid (put_c wr m (by omega))
      go_wp2_with fail
      refine PC.out.mono ?_
      rintro e w1 ⟨pv, rfl, o1, f1⟩
      have O1 := hid o1
      have G1 := hid (HG.out.quiet f1)
      have hp10 := putL_len10 (n := m) (by omega)
      have hB1 : B ≤ w1.heap.size := by have := HG.out.fr.size; have := f1.size; omega
      clear o1 f1
      have hpp : xs ++ p3 s (lk - s) lv (j + 1) = (xs ++ p3 s (lk - s) lv j) ++ putL m := by rw [p3, HM.out, List.append_assoc]
      have HPP := hid hpp
      clear hpp
      go_wp2_with (at_builtin; refine wpList_append_rd rfl _ _ rfl B hB1 _ _ _ rfl G1.out.own _ _ rfl (Rd.ownB O1.out) bv_one (by rw [bv_len, List.length_append]; omega) ?_; intro v' w' o2 g2 q2)
      have G2 : Hid (Gro wz w' B bval v' (xs ++ p3 s (lk - s) lv (j + 1))) := by
        refine hid ?_
        rw [HPP.out]
        refine G1.out.grow ?_ g2 q2
        rw [bv_append, List.length_append]
        rw [bv_len] at o2
        exact o2
      clear o2 g2 q2
      go_roundw
      case rel => exact ⟨j + 1, by omega, by go_num, G2.out⟩
      case measure => simp [intOf]; omega
    · have hj3 : j = 3 := by omega
      subst hj3
      have f0 : Fr [] w0 wr := HG.out.old oz (FF.out.trans FZ.out) hB0
      have RT1 := hid (RT.out.fr f0)
      have hB1 : B ≤ wr.heap.size := by have := HG.out.fr.size; omega
      have hrd : ((bv (k.drop s)).length) = lk - s := by rw [bv_len]; exact HDL.out
      clear b1 oz f0
      have hrv : ((bv v).length) = lv := by rw [bv_len]; exact HLV.out
      go_wp2_with (at_builtin; first
        | (refine wpList_append_rd rfl _ _ rfl B hB1 _ _ _ rfl HG.out.own _ _ rfl RT1.out bv_one (by rw [hrd, List.length_append]; omega) ?_; intro v' w' o2 g2 q2; have G2 : Hid (Gro wz w' B bval v' (xs ++ p3 s (lk - s) lv 3 ++ k.drop s)) := hid (HG.out.grow (by rw [bv_append, List.length_append, ← bv_len (k.drop _)]; exact o2) g2 q2); have y1 : w'.cell? ⟨w.heap.size, 1, none⟩ = some (.slice a1 lv c1) := (by rw [blk_cell (G2.out.at (ownsRow_fr OB.out FZ.out) HZ.out.1 (by decide))]; rfl); have RV2 : Hid (Rd w' (.slice a1 lv c1) (bv v)) := hid (RV.out.fr (G2.out.old (ownsRow_fr OB.out FZ.out) (FF.out.trans FZ.out) hB0)); have hB2 : B ≤ w'.heap.size := (by have := G2.out.fr.size; omega); clear o2 g2 q2)
        | (refine wpList_append_rd rfl _ _ rfl B hB2 _ _ _ rfl G2.out.own _ _ rfl RV2.out bv_one (by rw [hrv, List.length_append, List.length_append, HDL.out]; omega) ?_; intro v3 w3 o3 g3 q3; have G3 : Hid (Gro wz w3 B bval v3 (xs ++ p3 s (lk - s) lv 3 ++ k.drop s ++ v)) := hid (G2.out.grow (by rw [bv_append, List.length_append, ← bv_len v]; exact o3) g3 q3); clear o3 g3 q3))
      go_ret
      refine ⟨v3, rfl, ?_⟩
      rw [← HE.out]
      refine ⟨G3.out.own, ?_, ?_⟩
      · exact (FZ.out.mono (by simp)).trans G3.out.fr
      · rcases G3.out.blk with e | e
        · exact .inl e
        · right; intro g hg; have := e g hg; omega
end Go.Proofs.YtnnookkcnmgbfaaGreat
namespace Go.Proofs.YtnnookkcnmgbfaaGreat
open Go.ChangeShapes Go.WideShapes Go.ChangeAt Go.RowKit

theorem step_append_own {P : Program} {ops : Array Oper} {o : Oper} {a : Act} {w : World} {K : Act → World → Prop} {Q : Exit → Act → World → Prop} {E : Prop}
    (hg : o.guard = none) (s x : Operand) (t : TypeId) (hop : o.op = Op.call { callee := Callee.builtin Builtin.append, args := #[s, x], argTypes := #[t, t] })
    (base : Nat) (e : TypeId) (i : TypeInfo) (z : Value) (size bytes : Nat) (ht : P.underlying t = some (.slice e)) (hi : P.info? e = some i) (hz : i.zero = some z)
    (hsize : i.size = size) (hby : i.bytes = bytes) (hzs : z.cells.size = size) (hsz : 0 < size)
    (v : Value) (n : Nat) (xs : List Value) (hs : a.eval s = v) (hown : w.ownsRow base e size v n xs)
    (ad : Addr) (m c : Nat) (news : List Value) (hx : a.eval x = .slice (some ad) m c) (hl : news.length = m * size) (hnews : ∀ j u, news[j]? = some u → w.cell? (ad.add j) = some u) (h1 : ∀ u ∈ news, u.oneCell' = true)
    (h63 : n + m ≤ maxLen) (hbytes : (n + m) * bytes ≤ 140737488355328) (hbase : base ≤ w.heap.size)
    (hK : ∀ v' w', w'.ownsRow base e size v' (n + m) (xs ++ news) → w.grownBy w' v.ownBlock → (v'.ownBlock = v.ownBlock ∨ v'.ownBlock = some w.heap.size) → K (a.put o.dst v') w') :
    if Region.wanted o (yielded ops a.tmps) = true then Oper.wp P o a w K Q else E := by
  have hw : Region.wanted o (yielded ops a.tmps) = true := by simp [Region.wanted, hg]
  rw [if_pos hw]
  obtain ⟨v', w', hr, h2, h3, _, h5⟩ := run_append_own_at (P := P) w base t o.type e i z size bytes ht hi hz hsize hby hzs hsz v n xs hown ad m c news hl hnews h1 h63 hbytes hbase
  unfold Oper.wp
  simp [execOp, hop, resolve, invoke, builtin, hs, hx, hr, Result.andThen]
  exact hK v' w' h2 h3 h5

/-- One byte appended to a row of bytes of the call's own. -/
theorem step_append_one {ops : Array Oper} {o : Oper} {a : Act} {w : World} {K : Act → World → Prop} {Q : Exit → Act → World → Prop} {E : Prop} {z : Int}
    (hg : o.guard = none) (s x : Operand) (hop : o.op = Op.call { callee := Callee.builtin Builtin.append, args := #[s, x], argTypes := #[22, 22] })
    (base : Nat) {v : Value} {n : Nat} {xs : List Value} (hown : w.ownsRow base 5 1 v n xs) (hs : a.eval s = v)
    (g : Nat) (hx : a.eval x = .slice (some ⟨g, 0, none⟩) 1 1) (hc : w.cell? ⟨g, 0, none⟩ = some (.int .u8 z)) (hl : n + 1 ≤ 100000) (hbase : base ≤ w.heap.size)
    (hK : ∀ v' w', w'.ownsRow base 5 1 v' (n + 1) (xs ++ [.int .u8 z]) → w.grownBy w' v.ownBlock → K (a.put o.dst v') w') :
    if Region.wanted o (yielded ops a.tmps) = true then Oper.wp Tryz.prog o a w K Q else E := by
  obtain ⟨i0, hi, hz0, hz1, hz2⟩ := info_parts infoB
  refine step_append_own hg s x 22 hop base 5 i0 (.int .u8 0) 1 1 Tryz.underlying22 hi hz0 hz1 hz2 rfl (by decide) v n xs hs hown ⟨g, 0, none⟩ 1 1 [.int .u8 z] hx rfl ?_ (by simp [Value.oneCell']) (by unfold maxLen; omega) (by omega) hbase fun v' w' h1 h2 _ => hK v' w' h1 h2
  intro j u hj
  cases j with
  | zero => simp at hj; subst hj; rw [Addr.add_lit]; exact hc
  | succ j => simp at hj
end Go.Proofs.YtnnookkcnmgbfaaGreat
namespace Go.Proofs.YtnnookkcnmgbfaaGreat
open Go.ChangeShapes Go.WideShapes Go.ChangeAt Go.RowKit

theorem step_append_rd {ops : Array Oper} {o : Oper} {a : Act} {w : World} {K : Act → World → Prop} {Q : Exit → Act → World → Prop} {E : Prop}
    (hg : o.guard = none) (s x : Operand) (hop : o.op = Op.call { callee := Callee.builtin Builtin.append, args := #[s, x], argTypes := #[22, 22] })
    (base : Nat) {v : Value} {n : Nat} {xs : List Value} (hown : w.ownsRow base 5 1 v n xs) (hs : a.eval s = v) {sx : Value} {news : List Value} (hr : Rd w sx news) (hx : a.eval x = sx) (hb : ∀ u ∈ news, u.oneCell' = true)
    (hl : n + news.length ≤ 140737488355328) (hbase : base ≤ w.heap.size)
    (hK : ∀ v' w', w'.ownsRow base 5 1 v' (n + news.length) (xs ++ news) → w.grownBy w' v.ownBlock → (v'.ownBlock = v.ownBlock ∨ v'.ownBlock = some w.heap.size) → K (a.put o.dst v') w') :
    if Region.wanted o (yielded ops a.tmps) = true then Oper.wp Tryz.prog o a w K Q else E := by
  obtain ⟨i0, hi, hz0, hz1, hz2⟩ := info_parts infoB
  rcases hr with ⟨rfl, rfl⟩ | ⟨ad, c, rfl, h4, h5⟩
  · have hw : Region.wanted o (yielded ops a.tmps) = true := by simp [Region.wanted, hg]
    rw [if_pos hw]
    have hrun := run_append_owned_none (P := Tryz.prog) (w := w) base 22 o.type 5 i0 1 Tryz.underlying22 hi v n xs hown
    unfold Oper.wp
    simp [execOp, hop, resolve, invoke, builtin, hs, hx, hrun, Result.andThen]
    exact hK v w (by simpa using hown) ⟨rfl, rfl, rfl, Nat.le_refl _, fun _ _ _ => rfl⟩ (.inl rfl)
  · exact step_append_own hg s x 22 hop base 5 i0 (.int .u8 0) 1 1 Tryz.underlying22 hi hz0 hz1 hz2 rfl (by decide) v n xs hs hown ad news.length c news hx (by simp) h5 hb (by unfold maxLen; omega) (by omega) hbase hK
end Go.Proofs.YtnnookkcnmgbfaaGreat
namespace Go.Proofs.YtnnookkcnmgbfaaGreat
open Go.ChangeShapes Go.WideShapes Go.ChangeAt Go.RowKit

/-- A writer, and what it has laid down. -/
structure Wt (w : World) (B p : Nat) (v : Value) (xs : List Nat) : Prop where
  at' : w.heap[p]? = some (.cells #[v] 99 (0, 0))
  own : w.ownsRow B 5 1 v xs.length (bv xs)
/-- The writer's file has grown. -/
structure WtG (w w' : World) (B p : Nat) (v v' : Value) (xs : List Nat) : Prop where
  wt : Wt w' B p v' xs
  fr : Fr (p :: v.ownBlock.toList) w w'
  blk : v'.ownBlock = v.ownBlock ∨ ∀ k, v'.ownBlock = some k → w.heap.size ≤ k
theorem Wt.fr {w w' : World} {B p : Nat} {v : Value} {xs : List Nat} (h : Wt w B p v xs) (f : Fr [] w w') : Wt w' B p v xs := ⟨f.at h.at' (by simp), ownsRow_fr h.own f⟩
theorem Wt.ne {w : World} {B p : Nat} {v : Value} {xs : List Nat} (h : Wt w B p v xs) : v.ownBlock ≠ some p := own_not h.own h.at' (by decide)
theorem WtG.quiet {w w1 w2 : World} {B p : Nat} {v v1 : Value} {xs : List Nat} (h : WtG w w1 B p v v1 xs) (f : Fr [] w1 w2) : WtG w w2 B p v v1 xs :=
  ⟨h.wt.fr f, h.fr.trans (f.mono (by simp)), h.blk⟩
theorem Wt.refl {w : World} {B p : Nat} {v : Value} {xs : List Nat} (h : Wt w B p v xs) : WtG w w B p v v xs := ⟨h, Fr.refl _ _, .inl rfl⟩
/-- One append, laid into the writer. -/
theorem WtG.step {w w1 w2 : World} {B p : Nat} {v v1 v2 : Value} {xs ys : List Nat} (h : WtG w w1 B p v v1 xs) (o : w2.ownsRow B 5 1 v2 ys.length (bv ys)) (g : w1.grownBy w2 v1.ownBlock) (q : v2.ownBlock = v1.ownBlock ∨ v2.ownBlock = some w1.heap.size) :
    WtG w (w2.setCell ⟨p, 0, none⟩ v2) B p v v2 ys := by
  have hp := h.wt.at'
  have hne := h.wt.ne
  have hp2 : w2.heap[p]? = some (.cells #[v1] 99 (0, 0)) := by rw [g.block p (blk_lt hp) (fun e => hne e.symm)]; exact hp
  have hne2 : v2.ownBlock ≠ some p := own_not o hp2 (by decide)
  refine ⟨⟨?_, ?_⟩, ?_, ?_⟩
  · rw [blk_set hp2]; rfl
  · exact ownsRow_of_block o fun k hk => blk_setne _ _ _ (fun e => hne2 (by rw [← e]; exact hk))
  · have f1 : Fr (p :: v.ownBlock.toList) w w2 := h.fr.grown g (fun k hk => by
      rcases h.blk with e | e
      · left; rw [e] at hk; rw [hk]; simp
      · right; exact e k hk)
    exact f1.set _ _ (.inl (by simp))
  · rcases q with q | q
    · rw [q]; exact h.blk
    · right; intro k hk
      rw [q, Option.some.injEq] at hk
      rw [← hk]; exact h.fr.size
theorem WtG.keep {w w1 : World} {B p : Nat} {v v1 : Value} {xs : List Nat} (h : WtG w w1 B p v v1 xs) {B' n : Nat} {u : Value} {ys : List Value} (o : w.ownsRow B' 5 1 u n ys) (hp : u.ownBlock ≠ some p) (hd : ∀ k, u.ownBlock = some k → v.ownBlock ≠ some k) : w1.ownsRow B' 5 1 u n ys := by
  refine ownsRow_of_block o fun k hk => h.fr.block k (o.lt k hk).2 ?_
  simp only [List.mem_cons, Option.mem_toList, not_or]
  exact ⟨fun e => hp (by rw [← e]; exact hk), fun e => hd k hk e⟩

theorem step_append_rdZ {ops : Array Oper} {o : Oper} {a : Act} {w : World} {K : Act → World → Prop} {Q : Exit → Act → World → Prop} {E : Prop}
    (hg : o.guard = none) (s x : Operand) (hop : o.op = Op.call { callee := Callee.builtin Builtin.append, args := #[s, x], argTypes := #[22, 22] })
    (base : Nat) {v : Value} {xs ns : List Nat} (hown : w.ownsRow base 5 1 v xs.length (bv xs)) (hs : a.eval s = v) {sx : Value} (hr : Rd w sx (bv ns)) (hx : a.eval x = sx)
    (hl : xs.length + ns.length ≤ 140737488355328) (hbase : base ≤ w.heap.size) (Z : Nat) {ys : List Nat} (hys : ys = xs ++ ns) (hZ : Z = ys.length)
    (hK : ∀ a' k' w', w'.ownsRow base 5 1 (.slice a' Z k') ys.length (bv ys) → w.grownBy w' v.ownBlock → ((Value.slice a' Z k').ownBlock = v.ownBlock ∨ (Value.slice a' Z k').ownBlock = some w.heap.size) → K (a.put o.dst (.slice a' Z k')) w') :
    if Region.wanted o (yielded ops a.tmps) = true then Oper.wp Tryz.prog o a w K Q else E := by
  refine step_append_rd hg s x hop base hown hs hr hx bv_one (by rw [bv_len]; exact hl) hbase ?_
  intro v' w' o' g' q'
  have e1 : xs.length + (bv ns).length = ys.length := by rw [hys, bv_len, List.length_append]
  have e2 : bv xs ++ bv ns = bv ys := by rw [hys, bv_append]
  rw [e1, e2] at o'
  obtain ⟨a', k', rfl, _⟩ := ownsRow_slice o'
  subst hZ
  exact hK a' k' w' o' g' q'
theorem WtG.set {w w1 : World} {B p : Nat} {v v1 : Value} {xs : List Nat} (h : WtG w w1 B p v v1 xs) {g : Nat} (i : Nat) (u : Value) (hg : w.heap.size ≤ g) {cs : Array Value} {T : TypeId} (ht : w1.heap[g]? = some (.cells cs T (0, 0))) (h1 : T ≠ 5) (hp : g ≠ p) : WtG w (w1.setCell ⟨g, i, none⟩ u) B p v v1 xs :=
  ⟨⟨by rw [blk_setne _ _ _ (Ne.symm hp)]; exact h.wt.at', ownsRow_of_block h.wt.own fun k hk => blk_setne _ _ _ (fun e => own_not h.wt.own ht h1 (by rw [← e]; exact hk))⟩, h.fr.set _ _ (.inr hg), h.blk⟩
theorem sizePc : (Tryz.prog.info? 52).map (·.size) = some 2 := by kernel_rfl
theorem WtG.pre {w0 w w1 : World} {B p : Nat} {v v1 : Value} {xs : List Nat} (f : Fr [] w0 w) (h : WtG w w1 B p v v1 xs) : WtG w0 w1 B p v v1 xs :=
  ⟨h.wt, (f.mono (by simp)).trans h.fr, h.blk.imp id (fun q k hk => Nat.le_trans f.size (q k hk))⟩
set_option maxRecDepth 20000 in
set_option maxHeartbeats 1600000 in
theorem sealed_c (w : World) {B p : Nat} {v bval : Value} {xs b : List Nat} {B' : Nat} (hB : B ≤ w.heap.size) (h : Wt w B p v xs) (hb : w.ownsRow B' 5 1 bval b.length (bv b)) (hd : ∀ k, bval.ownBlock = some k → v.ownBlock ≠ some k) (hby : By b) (hl : xs.length + b.length ≤ 1000000000) :
    Calls Tryz.prog 51 #[.pointer (some ⟨p, 0, none⟩), bval] w fun e w' => ∃ v', e = .returned (.agg #[.int .u64 (xs.length : Int), .int .u64 (b.length : Int)]) ∧ WtG w w' B p v v' (xs ++ sealL b) := by
  obtain ⟨fa, fc, hv, _⟩ := ownsRow_slice h.own
  obtain ⟨ba, bc, hbv, _⟩ := ownsRow_slice hb
  subst hv
  subst hbv
  have hp0 := h.at'
  have hlt := blk_lt hp0
  have H := hid h
  have HB := hid hb
  have HD := hid hd
  have HY := hid hby
  have hnb : Hid ((Value.slice ba b.length bc).ownBlock ≠ some p) := hid (own_not hb hp0 (by decide))
  have hcr := crc_lt hby
  clear h hb hd hby
  obtain ⟨X, hX⟩ : ∃ X, X = xs.length := ⟨_, rfl⟩
  obtain ⟨L, hL⟩ : ∃ L, L = b.length := ⟨_, rfl⟩
  have HX := hid hX
  have HL := hid hL
  rw [← hX, ← hL] at hl ⊢
  rw [← hX] at hp0
  clear hX hL
  go_enter Tryz.func51, Tryz.ntmps51
  have c0 : w.cell? ⟨p, 0, none⟩ = some (.slice fa X fc) := by rw [blk_cell hp0]; rfl
  clear hp0
  go_upto_region 2 with fail
  obtain ⟨W1, hW1⟩ : ∃ W1, W1 = (w.alloc (.cells #[.int .u64 0, .int .u64 0] 52)).alloc (.cells #[.int .u64 (X : Int), .int .u64 (L : Int)] 52) := ⟨_, rfl⟩
  rw [← hW1]
  have F1 : Hid (Fr [] w W1) := hid (by rw [hW1]; exact ((Fr.refl _ _).alloc _).alloc _)
  have n0 : Hid (W1.heap[w.heap.size]? = some (.cells #[.int .u64 0, .int .u64 0] 52 (0, 0))) := hid (by rw [hW1, blk_old _ _ (by simp)]; exact blk_new _ _)
  have n1 : Hid (W1.heap[w.heap.size + 1]? = some (.cells #[.int .u64 (X : Int), .int .u64 (L : Int)] 52 (0, 0))) := hid (by rw [hW1]; exact new_at _ _ (by simp))
  have c1 := cell_fr F1.out c0
  clear hW1 c0
  have hB1 : B ≤ W1.heap.size := Nat.le_trans hB F1.out.size
  have H1 := hid (H.out.fr F1.out)
  have HB1 := hid (ownsRow_fr HB.out F1.out)
  rw [← HX.out] at H1
  have RB1 := hid (Rd.ownB HB1.out)
  rw [← HL.out] at RB1 HB1
  go_upto_region 3 with (at_builtin; refine wpList_append_rd rfl _ _ rfl B hB1 _ _ _ rfl H1.out.own _ _ rfl RB1.out bv_one (by rw [bv_len, ← HX.out, ← HL.out]; omega) ?_; intro v2 W2 o2 g2 q2; obtain ⟨a2, k2, rfl, _⟩ := ownsRow_slice o2; have b2 := (show W2.heap[p]? = some (.cells #[.slice fa X fc] 99 (0, 0)) from (by rw [g2.block p (blk_lt H1.out.at') (fun e => H1.out.ne e.symm)]; exact H1.out.at')); have c2 := (show W2.cell? ⟨p, 0, none⟩ = some (.slice fa X fc) from (by rw [blk_cell b2]; rfl)); have f2 := blk_frozen b2 0; have O2 := hid o2; have G2 := hid g2; have Q2 := hid q2; clear o2 g2 q2 b2)
  have S2 : Hid (WtG W1 (W2.setCell ⟨p, 0, none⟩ (.slice a2 (xs.length + (bv b).length) k2)) B p (.slice fa X fc) (.slice a2 (xs.length + (bv b).length) k2) (xs ++ b)) := hid (H1.out.refl.step (by rw [bv_append, List.length_append, ← bv_len b]; exact O2.out) G2.out Q2.out)
  obtain ⟨W3, hW3⟩ : ∃ W3, W3 = W2.setCell ⟨p, 0, none⟩ (.slice a2 (xs.length + (bv b).length) k2) := ⟨_, rfl⟩
  rw [← hW3] at S2 ⊢
  clear hW3 O2 G2 Q2 c2 f2 c1
  have hY : Hid (xs.length + (bv b).length = (xs ++ b).length) := hid (by rw [List.length_append, bv_len])
  generalize xs.length + (bv b).length = Y at *
  have hn : ∀ k, k = w.heap.size ∨ k = w.heap.size + 1 → k ∉ p :: (Value.slice fa X fc).ownBlock.toList := fun k hk => by
    simp only [List.mem_cons, Option.mem_toList, not_or]
    have hN : ∃ cs, W1.heap[k]? = some (.cells cs 52 (0, 0)) := by
      rcases hk with rfl | rfl
      · exact ⟨_, n0.out⟩
      · exact ⟨_, n1.out⟩
    obtain ⟨cs, hN⟩ := hN
    exact ⟨by omega, fun e => own_not H1.out.own hN (by decide) e⟩
  have m0 : Hid (W3.heap[w.heap.size]? = some (.cells #[.int .u64 0, .int .u64 0] 52 (0, 0))) := hid (S2.out.fr.at n0.out (hn _ (.inl rfl)))
  have m1 : Hid (W3.heap[w.heap.size + 1]? = some (.cells #[.int .u64 (X : Int), .int .u64 (L : Int)] 52 (0, 0))) := hid (S2.out.fr.at n1.out (hn _ (.inr rfl)))
  have RB3 : Hid (Rd W3 (.slice ba L bc) (bv b)) := hid (Rd.ownN (S2.out.keep HB1.out (by have := hnb.out; rw [← HL.out] at this; exact this) (by have := HD.out; rw [← HL.out, ← HX.out] at this; exact this)) HL.out)
  have c3 : W3.cell? ⟨p, 0, none⟩ = some (.slice a2 Y k2) := by rw [blk_cell S2.out.wt.at']; rfl
  have hB3 : B ≤ W3.heap.size := Nat.le_trans hB1 S2.out.fr.size
  clear hn n0 n1 HB1 RB1 H1
  generalize hcr' : crc b = cr at hcr
  have HCR := hid hcr'
  have hbl : Hid (b.length ≤ 140737488355328) := hid (by rw [← HL.out]; omega)
  have hyl : Hid ((xs ++ b).length + (fixL cr 4).length ≤ 140737488355328) := hid (by rw [fixL_len, List.length_append, ← HX.out, ← HL.out]; omega)
  clear hcr'
  obtain ⟨Z, hZ⟩ : ∃ Z, Z = (xs ++ sealL b).length := ⟨_, rfl⟩
  have HZ := hid hZ
  have HYS : Hid (xs ++ sealL b = (xs ++ b) ++ fixL cr 4) := hid (by rw [← HCR.out]; unfold sealL; rw [List.append_assoc])
  clear hZ
  go_region_law (first
    | (go_simp
       go_at_call 63
       refine (sum_c (RB3.out.fr (Fr.refl _ _).drew) HY.out hbl.out).mono ?_
       rintro e w4 ⟨rfl, rfl⟩
       rw [HCR.out])
    | (go_simp
       go_at_call 84
       refine (fixed4_c _ cr hcr).mono ?_
       rintro e W4 ⟨v4, rfl, o4, f4⟩
       obtain ⟨a4, k4, rfl, _⟩ := ownsRow_slice o4
       have F4 := hid ((Fr.refl [] W3).drew.trans f4)
       have R4 := hid (Rd.ownN o4 (fixL_len _ _).symm)
       have c4 := cell_fr F4.out c3
       have hB4 := hid (Nat.le_trans hB3 F4.out.size)
       clear o4 f4)
    | (refine step_append_rdZ rfl (.tmp 29) (.tmp 32) rfl B (ownsRow_fr S2.out.wt.own F4.out) (by simp [Act.eval]) R4.out (by simp [Act.eval]) hyl.out hB4.out Z HYS.out HZ.out ?_
       intro a5 k5 W5 o5 g5 q5
       have S4 := S2.out.quiet F4.out
       have b5 := (show W5.heap[p]? = some (.cells #[.slice a2 Y k2] 99 (0, 0)) from (by rw [g5.block p (blk_lt S4.wt.at') (fun e => S4.wt.ne e.symm)]; exact S4.wt.at'))
       have c5 := (show W5.cell? ⟨p, 0, none⟩ = some (.slice a2 Y k2) from (by rw [blk_cell b5]; rfl))
       have f5 := blk_frozen b5 0
       have S5 := hid (S4.step o5 g5 q5)
       have m05 := hid (show W5.heap[w.heap.size]? = some (.cells #[.int .u64 0, .int .u64 0] 52 (0, 0)) from by rw [g5.block _ (blk_lt (F4.out.at m0.out (by simp))) (fun e => own_not S4.wt.own (F4.out.at m0.out (by simp)) (by decide) e.symm)]; exact F4.out.at m0.out (by simp))
       have m15 := hid (show W5.heap[w.heap.size + 1]? = some (.cells #[.int .u64 (X : Int), .int .u64 (L : Int)] 52 (0, 0)) from by rw [g5.block _ (blk_lt (F4.out.at m1.out (by simp))) (fun e => own_not S4.wt.own (F4.out.at m1.out (by simp)) (by decide) e.symm)]; exact F4.out.at m1.out (by simp))
       clear o5 g5 q5 b5 S4))
  all_goals (
    have hpn : p < w.heap.size := hlt
    obtain ⟨W6, hW6⟩ : ∃ W6, W6 = W5.setCell ⟨p, 0, none⟩ (.slice a5 Z k5) := ⟨_, rfl⟩
    rw [← hW6] at S5 ⊢
    have q0 : W6.heap[w.heap.size]? = some (.cells #[.int .u64 0, .int .u64 0] 52 (0, 0)) := by rw [hW6, blk_setne _ _ _ (by omega)]; exact m05.out
    have q1 : W6.heap[w.heap.size + 1]? = some (.cells #[.int .u64 (X : Int), .int .u64 (L : Int)] 52 (0, 0)) := by rw [hW6, blk_setne _ _ _ (by omega)]; exact m15.out
    clear hW6 c5 f5 c3 m05 m15 c4
    have y0 : W6.cell? ⟨w.heap.size + 1, 0, none⟩ = some (.int .u64 (X : Int)) := by rw [blk_cell q1]; rfl
    have y1 : W6.cell? ⟨w.heap.size + 1, 1, none⟩ = some (.int .u64 (L : Int)) := by rw [blk_cell q1]; rfl
    have z0 : W6.cell? ⟨w.heap.size, 0, none⟩ = some (.int .u64 0) := by rw [blk_cell q0]; rfl
    have z1 : W6.cell? ⟨w.heap.size, 1, none⟩ = some (.int .u64 0) := by rw [blk_cell q0]; rfl
    have f0 := blk_frozen q0
    go_wp2)
  all_goals (
    refine bodyPost_ret (v := .agg #[.int .u64 (X : Int), .int .u64 (L : Int)]) (results_cell_row rfl _ _ w.heap.size 52 _ (0, 0) _ (by simp) (by rw [blk_set (blk_set q0 0 _) 1 _]; rfl) Tryz.underlying52 rfl sizePc) rfl ?_
    have S6 := S5.out.pre F1.out
    exact ⟨_, rfl, (S6.set 0 _ (Nat.le_refl _) q0 (by decide) (by omega)).set 1 _ (Nat.le_refl _) (blk_set q0 0 _) (by decide) (by omega)⟩)
end Go.Proofs.YtnnookkcnmgbfaaGreat
