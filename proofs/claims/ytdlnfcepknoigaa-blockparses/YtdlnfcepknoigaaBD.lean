/-
  Package block: appendEntry.
-/
import Derived.Test.YtdlnfcepknoigaaJ14
import Derived.Test.YtdlnfcepknoigaaJ07
namespace Go.Proofs.Ytdlnfcepknoigaa
open Go.ChangeShapes Go.WideShapes Go.ChangeAt Go.RowKit

theorem own_not {w : World} {B s n : Nat} {e T : TypeId} {v : Value} {xs : List Value} (h : w.ownsRow B e s v n xs) {N : Nat} {cs : Array Value} (hN : w.heap[N]? = some (.cells cs T (0, 0))) (hne : T ≠ e) : v.ownBlock ≠ some N := by
  intro hk
  rcases h.2 with ⟨rfl, _⟩ | ⟨g, cap, cur, rfl, _, h3, _⟩
  · simp [Value.ownBlock] at hk
  · simp [Value.ownBlock] at hk
    subst hk
    rw [h3] at hN
    simp at hN
    exact hne hN.2.symm
/-- A row of the call's own that grows: what else is there stays. -/
structure Gro (w w' : World) (B : Nat) (v v' : Value) (xs : List Nat) : Prop where
  own : w'.ownsRow B 5 1 v' xs.length (bv xs)
  fr : Fr v.ownBlock.toList w w'
  blk : v'.ownBlock = v.ownBlock ∨ ∀ k, v'.ownBlock = some k → w.heap.size ≤ k
theorem Gro.refl {w : World} {B : Nat} {v : Value} {xs : List Nat} (h : w.ownsRow B 5 1 v xs.length (bv xs)) : Gro w w B v v xs := ⟨h, Fr.refl _ _, .inl rfl⟩
theorem Gro.quiet {w w1 w2 : World} {B : Nat} {v v1 : Value} {xs : List Nat} (h : Gro w w1 B v v1 xs) (f : Fr [] w1 w2) : Gro w w2 B v v1 xs :=
  ⟨ownsRow_fr h.own f, h.fr.trans (f.mono (by simp)), h.blk⟩
theorem Gro.grow {w w1 w2 : World} {B : Nat} {v v1 v2 : Value} {xs ys : List Nat} (h : Gro w w1 B v v1 xs) (o : w2.ownsRow B 5 1 v2 ys.length (bv ys)) (g : w1.grownBy w2 v1.ownBlock) (q : v2.ownBlock = v1.ownBlock ∨ v2.ownBlock = some w1.heap.size) : Gro w w2 B v v2 ys := by
  refine ⟨o, h.fr.grown g ?_, ?_⟩
  · intro k hk
    rcases h.blk with e | e
    · left; rw [← e, hk]; simp
    · right; exact e k hk
  · rcases q with q | q
    · rw [q]; exact h.blk
    · right
      intro k hk
      rw [q] at hk
      simp at hk
      have := h.fr.size
      omega
theorem Gro.at {w w1 : World} {B : Nat} {v v1 : Value} {xs ys : List Nat} (h : Gro w w1 B v v1 xs) (o : w.ownsRow B 5 1 v ys.length (bv ys)) {N : Nat} {cs : Array Value} {T : TypeId} (hN : w.heap[N]? = some (.cells cs T (0, 0))) (hne : T ≠ 5) : w1.heap[N]? = some (.cells cs T (0, 0)) := by
  refine h.fr.at hN ?_
  intro hm
  rw [Option.mem_toList] at hm
  exact own_not o hN hne hm
def n3 (s t z j : Nat) : Nat := if j = 0 then s else if j = 1 then t else z
def p3 (s t z : Nat) : Nat → List Nat
  | 0 => []
  | j + 1 => p3 s t z j ++ putL (n3 s t z j)
theorem p3_len {s t z : Nat} (hs : s < 18446744073709551616) (ht : t < 18446744073709551616) (hz : z < 18446744073709551616) : ∀ j, (p3 s t z j).length ≤ 10 * j
  | 0 => by simp [p3]
  | j + 1 => by
    have h1 := p3_len hs ht hz j
    have h2 : (putL (n3 s t z j)).length ≤ 10 := putL_len10 (by unfold n3; split; exact hs; split; exact ht; exact hz)
    rw [p3, List.length_append]; omega
theorem p3_three (s t z : Nat) : p3 s t z 3 = putL s ++ (putL t ++ putL z) := by simp [p3, n3]
theorem Gro.old {w0 w w1 : World} {B : Nat} {v v1 : Value} {xs ys : List Nat} (h : Gro w w1 B v v1 xs) (o : w.ownsRow B 5 1 v ys.length (bv ys)) (f : Fr [] w0 w) (hB : w0.heap.size ≤ B) : Fr [] w0 w1 := by
  refine ((f.mono (S' := v.ownBlock.toList) (by simp)).trans h.fr).shed ?_
  intro k hk hlt
  rw [Option.mem_toList] at hk
  have := (o.lt k hk).1
  omega
theorem Gro.trans {w w1 w2 : World} {B : Nat} {v v1 v2 : Value} {xs ys : List Nat} (h : Gro w w1 B v v1 xs) (h' : Gro w1 w2 B v1 v2 ys) : Gro w w2 B v v2 ys := by
  refine ⟨h'.own, ?_, ?_⟩
  · refine ⟨h'.fr.os.trans h.fr.os, h'.fr.tape.trans h.fr.tape, h'.fr.output.trans h.fr.output, Nat.le_trans h.fr.size h'.fr.size, fun k hk hn => ?_⟩
    rw [h'.fr.block k (Nat.lt_of_lt_of_le hk h.fr.size) ?_, h.fr.block k hk hn]
    intro hm
    rw [Option.mem_toList] at hm
    rcases h.blk with e | e
    · exact hn (by rw [Option.mem_toList, ← e]; exact hm)
    · have := e k hm; omega
  · rcases h'.blk with e | e
    · rw [e]; exact h.blk
    · right; intro k hk; have := e k hk; have := h.fr.size; omega

set_option maxRecDepth 20000 in
set_option maxHeartbeats 3200000 in
theorem appendEntry_c (w0 w : World) {bval : Value} {q0 o0 c0 c1 : Nat} {a1 : Option Addr} {k v : List Nat} (s B : Nat) (hB0 : w0.heap.size ≤ B) (hB : B ≤ w.heap.size) (F0 : Fr [] w0 w) (xs : List Nat) (ob : w.ownsRow B 5 1 bval xs.length (bv xs)) (rk : Rd w0 (.slice (some ⟨q0, o0, none⟩) k.length c0) (bv k)) (kc : k.length ≤ c0) (rv : Rd w0 (.slice a1 v.length c1) (bv v)) (hs : s < k.length)
    (hxl : xs.length ≤ 1000000000000) (hkl : k.length ≤ 1000000000000) (hvl : v.length ≤ 1000000000000) :
    Calls Try.prog 20 #[bval, .agg #[.slice (some ⟨q0, o0, none⟩) k.length c0, .slice a1 v.length c1], .int .i64 (s : Int)] w fun e w' => ∃ v', e = .returned v' ∧ Gro w w' B bval v' (xs ++ ent s k v) := by
  have rt := rk.back (Nat.le_of_lt hs)
  have hcs : ¬ c0 = s := by omega
  have he : (xs ++ p3 s (k.length - s) v.length 3) ++ k.drop s ++ v = xs ++ ent s k v := by rw [p3_three]; unfold ent; simp only [List.append_assoc]
  have HE := hid he
  have RT := hid rt
  have RV := hid rv
  have OB := hid ob
  have FF := hid F0
  have hdl : (k.drop s).length = k.length - s := List.length_drop
  have HDL := hid hdl
  have ho : ∀ {N : Nat} {cs : Array Value} {T : TypeId}, w.heap[N]? = some (.cells cs T (0, 0)) → T ≠ 5 → bval.ownBlock ≠ some N := fun h1 h2 => own_not ob h1 h2
  clear rk rv he hdl rt F0 ob ho
  generalize k.length = lk at *
  generalize hlv : v.length = lv at *
  have HLV := hid hlv
  clear hlv
  obtain ⟨wz, hwz⟩ : ∃ wz, wz = (w.alloc (.cells #[.slice (some ⟨q0, o0, none⟩) lk c0, .slice a1 lv c1] 40)).alloc (.cells #[.int .i64 (s : Int), .int .i64 ((lk - s : Nat) : Int), .int .i64 (lv : Int)] 3) := ⟨_, rfl⟩
  have FZ : Hid (Fr [] w wz) := by refine hid ?_; rw [hwz]; exact ((Fr.refl _ _).alloc _).alloc _
  have hzs : wz.heap.size = w.heap.size + 2 := by rw [hwz]; simp
  have bz0 : wz.heap[w.heap.size]? = some (.cells #[.slice (some ⟨q0, o0, none⟩) lk c0, .slice a1 lv c1] 40 (0, 0)) := by
    rw [hwz, blk_old _ _ (by simp)]; exact blk_new _ _
  have bz1 : wz.heap[w.heap.size + 1]? = some (.cells #[.int .i64 (s : Int), .int .i64 ((lk - s : Nat) : Int), .int .i64 (lv : Int)] 3 (0, 0)) := by
    rw [hwz]; exact new_at _ _ (by simp)
  have HZ := hid (And.intro bz0 bz1)
  clear bz0 bz1
  go_enter Try.func20, Try.ntmps20
  go_wp2_with fail
  rw [← hwz]
  clear hwz
  go_loopw [0, 22] (fun v0 v22 wr => ∃ j : Nat, j ≤ 3 ∧ v22 = .int .i64 (j : Int) ∧ Gro wz wr B bval v0 (xs ++ p3 s (lk - s) lv j)) (fun _ v22 _ => 3 - (intOf v22).toNat)
  case atStart => exact ⟨0, by omega, rfl, by rw [p3, List.append_nil]; exact Gro.refl (ownsRow_fr OB.out FZ.out)⟩
  case round =>
    obtain ⟨j, hj, rfl, hg⟩ := hrel
    have HG := hid hg
    clear hg
    have oz := ownsRow_fr OB.out FZ.out
    have b1 := HG.out.at oz HZ.out.2 (by decide)
    have hpl := p3_len (s := s) (t := lk - s) (z := lv) (by omega) (by omega) (by omega) j
    by_cases hlt : j < 3
    · have hc : wr.cell? ⟨w.heap.size + 1, j, none⟩ = some (.int .i64 (n3 s (lk - s) lv j : Nat)) := by
        rw [blk_cell b1]
        have : j = 0 ∨ j = 1 ∨ j = 2 := by omega
        rcases this with rfl | rfl | rfl <;> rfl
      have hn3 : n3 s (lk - s) lv j ≤ 1000000000000 := by unfold n3; split; omega; split; omega; omega
      obtain ⟨m, hm⟩ : ∃ m, m = n3 s (lk - s) lv j := ⟨_, rfl⟩
      have HM := hid hm
      rw [← hm] at hc hn3
      clear hm oz b1
      have PC := hid (put_c wr m (by omega))
      go_wp2_with fail
      refine PC.out.mono ?_
      rintro e w1 ⟨pv, rfl, o1, f1⟩
      have O1 := hid o1
      have G1 := hid (HG.out.quiet f1)
      have hp10 := putL_len10 (n := m) (by omega)
      have hB1 : B ≤ w1.heap.size := by have := HG.out.fr.size; have := f1.size; omega
      clear o1 f1
      have hpp : xs ++ p3 s (lk - s) lv (j + 1) = (xs ++ p3 s (lk - s) lv j) ++ putL m := by rw [p3, HM.out, List.append_assoc]
      have HPP := hid hpp
      clear hpp
      go_wp2_with (at_builtin; refine wpList_append_rd rfl _ _ rfl B hB1 _ _ _ rfl G1.out.own _ _ rfl (Rd.ownB O1.out) bv_one (by rw [bv_len, List.length_append]; omega) ?_; intro v' w' o2 g2 q2)
      have G2 : Hid (Gro wz w' B bval v' (xs ++ p3 s (lk - s) lv (j + 1))) := by
        refine hid ?_
        rw [HPP.out]
        refine G1.out.grow ?_ g2 q2
        rw [bv_append, List.length_append]
        rw [bv_len] at o2
        exact o2
      clear o2 g2 q2
      go_roundw
      case rel => exact ⟨j + 1, by omega, by go_num, G2.out⟩
      case measure => simp [intOf]; omega
    · have hj3 : j = 3 := by omega
      subst hj3
      have f0 : Fr [] w0 wr := HG.out.old oz (FF.out.trans FZ.out) hB0
      have RT1 := hid (RT.out.fr f0)
      have hB1 : B ≤ wr.heap.size := by have := HG.out.fr.size; omega
      have hrd : ((bv (k.drop s)).length) = lk - s := by rw [bv_len]; exact HDL.out
      clear b1 oz f0
      have hrv : ((bv v).length) = lv := by rw [bv_len]; exact HLV.out
      go_wp2_with (at_builtin; first
        | (refine wpList_append_rd rfl _ _ rfl B hB1 _ _ _ rfl HG.out.own _ _ rfl RT1.out bv_one (by rw [hrd, List.length_append]; omega) ?_; intro v' w' o2 g2 q2; have G2 : Hid (Gro wz w' B bval v' (xs ++ p3 s (lk - s) lv 3 ++ k.drop s)) := hid (HG.out.grow (by rw [bv_append, List.length_append, ← bv_len (k.drop _)]; exact o2) g2 q2); have y1 : w'.cell? ⟨w.heap.size, 1, none⟩ = some (.slice a1 lv c1) := (by rw [blk_cell (G2.out.at (ownsRow_fr OB.out FZ.out) HZ.out.1 (by decide))]; rfl); have RV2 : Hid (Rd w' (.slice a1 lv c1) (bv v)) := hid (RV.out.fr (G2.out.old (ownsRow_fr OB.out FZ.out) (FF.out.trans FZ.out) hB0)); have hB2 : B ≤ w'.heap.size := (by have := G2.out.fr.size; omega); clear o2 g2 q2)
        | (refine wpList_append_rd rfl _ _ rfl B hB2 _ _ _ rfl G2.out.own _ _ rfl RV2.out bv_one (by rw [hrv, List.length_append, List.length_append, HDL.out]; omega) ?_; intro v3 w3 o3 g3 q3; have G3 : Hid (Gro wz w3 B bval v3 (xs ++ p3 s (lk - s) lv 3 ++ k.drop s ++ v)) := hid (G2.out.grow (by rw [bv_append, List.length_append, ← bv_len v]; exact o3) g3 q3); clear o3 g3 q3))
      go_ret
      refine ⟨v3, rfl, ?_⟩
      rw [← HE.out]
      refine ⟨G3.out.own, ?_, ?_⟩
      · exact (FZ.out.mono (by simp)).trans G3.out.fr
      · rcases G3.out.blk with e | e
        · exact .inl e
        · right; intro g hg; have := e g hg; omega
end Go.Proofs.Ytdlnfcepknoigaa
