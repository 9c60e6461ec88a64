/-
  What was built is opened, and its ranges are told.
-/
import Derived.Test.YtobdegmlijnogaaXZ
import Derived.Test.YtobdegmlijnogaaJ43
import Derived.Test.YtobdegmlijnogaaJ45
import Derived.Test.YtobdegmlijnogaaJ44
import Derived.Laws.OwnMore
import Derived.Test.YtobdegmlijnogaaJ01
import Derived.ShutString
import Derived.ChangeOld
import Derived.SizedLaws
import Derived.Deep.Matrix
namespace Go.Proofs.Ytobdegmlijnogaa
open Go.ChangeShapes Go.WideShapes Go.ChangeAt Go.RowKit

/-- The blocks, one by one. -/
def blkA (D : List Ps) (i : Nat) : Ps := D[i]?.getD []
theorem blkA_at {D : List Ps} {i : Nat} {c : Ps} (h : D[i]? = some c) : blkA D i = c := by unfold blkA; rw [h]; rfl
theorem built_look {r : Nat} {D : List Ps} (hby : ByP D.flatten) (hr : Rises D.flatten) (hne : ∀ c ∈ D, c ≠ []) (hl : (datL r D).length ≤ 1000000000) (h1 : 1 ≤ r) (h2 : r ≤ 64) {i : Nat} (hi : i < (idxF r 0 D).length) :
    LookR (datL r D) (nxN (idxF r 0 D) i) (szA (idxF r 0 D) i) (kA (idxF r 0 D) i) 0 (blkA D i) ∧ nxN (idxF r 0 D) i + szA (idxF r 0 D) i + 4 ≤ (datL r D).length := by
  rw [idxF_len] at hi
  have hc : D[i]? = some D[i] := List.getElem?_eq_getElem hi
  have lk := idx_look (r := r) hby (by omega) hc
  have hle := dat_le (r := r) hc
  have hm := List.mem_of_getElem? hc
  rw [blkA_at hc]
  refine ⟨.inr (.inr ⟨rfl, lk.1, ⟨r, ?_⟩, hne _ hm, ((idx_val (by omega) hc).2).symm⟩), ?_⟩
  · rw [lk.2]
    exact ⟨chunk_rises hr hm, h1, h2, rfl⟩
  · rw [idx_nx (by omega) i (by omega), idx_sz (by omega) hc]
    exact hle
theorem range_built (w : World) {p r most : Nat} {ps : Ps} {flt : List Nat} {da fa : Option Addr} {dc fc G : Nat} (T : Tab w p (datL r (chs most ps)) flt (idxF r 0 (chs most ps)) da dc fa fc G) (hl : Lim ps) (hr : Rises ps) (hb : ByP ps) (h1 : 1 ≤ r) (h2 : r ≤ 64) {lev mov : Value} {least mk : List Nat} (rl : Rd w lev (bv least)) (rm : Rd w mov (bv mk)) (bl : By least) (bm : By mk) :
    Calls Try.prog 18 #[.pointer (some ⟨p, 0, none⟩), lev, mov] w fun e w' => ∃ v', e = .returned (.tuple #[v', .int .i64 0]) ∧ ColO w' w.heap.size v' (ps.filter (inR least mk)) ∧ Fr [] w w' := by
  have hf := chs_flat most ps
  have hD := hl.dat r most
  have hn := hl.n
  have hrD : Rises (chs most ps).flatten := by rw [hf.1]; exact hr
  have hbD : ByP (chs most ps).flatten := by rw [hf.1]; exact hb
  have bi := idx_by (r := r) _ 0 hbD hf.2
  refine (range_c w T (datL_by hbD) (by omega) bi (by rw [idxF_len]; omega) (fun i hi => (built_look hbD hrD hf.2 (by omega) h1 h2 hi).2) (X := fun _ => 0) (Q := blkA (chs most ps)) (fun i hi => (built_look hbD hrD hf.2 (by omega) h1 h2 hi).1) rl rm bl bm).mono ?_
  rintro e w' ⟨I, v', ⟨hI, _, hI2⟩, rfl, co, f⟩
  rw [idxF_len] at hI co ⊢
  have hR := rng_all hrD hf.2 (X := fun _ => 0) (Q := blkA (chs most ps)) (U := fun i => userL (kA (idxF r 0 (chs most ps)) i)) (fun i c hc => ⟨rfl, blkA_at hc, by rw [(idx_val (by omega) hc).2]⟩) least mk hI (fun h => by
    have := hI2 h
    unfold atU at this
    simp only [decide_eq_false_iff_not] at this
    omega)
  rw [hR, hf.1] at co
  rw [hR]
  exact ⟨v', rfl, co, f⟩
theorem all_built (w : World) {p r most : Nat} {ps : Ps} {flt : List Nat} {da fa : Option Addr} {dc fc G : Nat} (T : Tab w p (datL r (chs most ps)) flt (idxF r 0 (chs most ps)) da dc fa fc G) (hl : Lim ps) (hr : Rises ps) (hb : ByP ps) (h1 : 1 ≤ r) (h2 : r ≤ 64) :
    Calls Try.prog 11 #[.pointer (some ⟨p, 0, none⟩)] w fun e w' => ∃ v', e = .returned (.tuple #[v', .int .i64 0]) ∧ ColO w' w.heap.size v' ps ∧ Fr [] w w' := by
  have hf := chs_flat most ps
  have hD := hl.dat r most
  have hn := hl.n
  have hrD : Rises (chs most ps).flatten := by rw [hf.1]; exact hr
  have hbD : ByP (chs most ps).flatten := by rw [hf.1]; exact hb
  have bi := idx_by (r := r) _ 0 hbD hf.2
  refine (tall_c w T (datL_by hbD) (by omega) bi (by rw [idxF_len]; omega) (fun i hi => (built_look hbD hrD hf.2 (by omega) h1 h2 hi).2) (X := fun _ => 0) (Q := blkA (chs most ps)) (fun i hi => (built_look hbD hrD hf.2 (by omega) h1 h2 hi).1)).mono ?_
  rintro e w' ⟨v', rfl, co, f⟩
  rw [idxF_len] at co ⊢
  have hR := rng_all hrD hf.2 (X := fun _ => 0) (Q := blkA (chs most ps)) (U := fun i => userL (kA (idxF r 0 (chs most ps)) i)) (fun i c hc => ⟨rfl, blkA_at hc, by rw [(idx_val (by omega) hc).2]⟩) [] [] (Nat.zero_le _) (fun h => by omega)
  rw [Nat.sub_zero] at hR
  rw [hR, hf.1, filter_nil] at co
  rw [hR]
  exact ⟨v', rfl, co, f⟩
theorem topen_built (w : World) {r most bits : Nat} {ps : Ps} {v : Value} (o : Rd w v (bv (tblL r most bits ps))) (hl : Lim ps) (hr : Rises ps) (hb : ByP ps) (h0 : ps ≠ []) (hbits : bits ≤ 64) :
    Calls Try.prog 10 #[v] w fun e w' => ∃ p da dc fa fc G, e = .returned (.tuple #[.pointer (some ⟨p, 0, none⟩), .int .i64 0]) ∧ Tab w' p (datL r (chs most ps)) (fltL bits (usN ps ps.length)) (idxF r 0 (chs most ps)) da dc fa fc G ∧ Fr [] w w' := by
  have TO := tbl_open (r := r) (most := most) (bits := bits) hl hr hb h0 hbits
  rcases o.split with ⟨e, _⟩ | ⟨q, off, c, rfl, _⟩
  · have := TO.l44; rw [e] at this; simp at this
  · refine (open_ok w o (tblL_by hb) TO.len TO.op).mono ?_
    rintro e w' ⟨p, da, dc, fa, fc, G, rfl, tab, f⟩
    rw [TO.dat, TO.flt] at tab
    exact ⟨p, da, dc, fa, fc, G, rfl, tab, f⟩
end Go.Proofs.Ytobdegmlijnogaa
namespace Go.Proofs.Ytobdegmlijnogaa
open Go.ChangeShapes Go.WideShapes Go.ChangeAt Go.RowKit

/-- The statement's entries. -/
def enN (size : Nat) (i : Nat) : List Nat × List Nat := (keyL [i] 1 1, List.replicate size 0)
def ensN (size n : Nat) : Ps := (List.range n).map (enN size)
theorem ensN_len (size n : Nat) : (ensN size n).length = n := by unfold ensN; simp
theorem ensN_succ (size n : Nat) : ensN size (n + 1) = ensN size n ++ [enN size n] := by unfold ensN; rw [List.range_succ, List.map_append]; rfl
theorem ensN_pl (size n : Nat) : ∀ p ∈ ensN size n, pl p = size + 9 := fun p hp => by
  unfold ensN at hp
  obtain ⟨i, _, rfl⟩ := List.mem_map.1 hp
  unfold pl enN
  rw [keyL_len, List.length_replicate]; simp; omega
theorem ensN_rises (size n : Nat) : Rises (ensN size n) := by
  refine rises_of ⟨fun p hp => ?_, ?_⟩
  · unfold ensN at hp
    obtain ⟨i, _, rfl⟩ := List.mem_map.1 hp
    exact keyL_is (by simp) (by omega) (by omega)
  · unfold ensN
    rw [List.pairwise_map]
    refine List.pairwise_lt_range.imp fun {i j} h => ?_
    show ordK (keyL [i] 1 1) (keyL [j] 1 1) < 0
    unfold ordK ordP
    rw [keyL_user, keyL_user]
    have : cmpN [i] [j] = -1 := by simp [cmpN, h]
    rw [this]
    simp
theorem ensN_by {size n : Nat} (hn : n ≤ 60) : ByP (ensN size n) := fun p hp => by
  unfold ensN at hp
  obtain ⟨i, hi, rfl⟩ := List.mem_map.1 hp
  rw [List.mem_range] at hi
  refine ⟨keyL_by (fun x hx => ?_) 1 1, fun x hx => ?_⟩
  · simp at hx; omega
  · simp [enN] at hx; omega
theorem ensN_lim {size n : Nat} (hn : n ≤ 60) (hs : size ≤ 200) : Lim (ensN size n) := by
  refine ⟨by rw [ensN_len]; omega, ?_⟩
  rw [tot_uni (ensN_pl size n) _ (Nat.le_refl _), ensN_len]
  have : n * (size + 9) ≤ 60 * (size + 9) := Nat.mul_le_mul_right _ hn
  omega
/-- How many fill a block. -/
theorem each_of {size block : Nat} (hb : 16 ≤ block) : ∃ k, k = (block + size + 8) / (size + 9) ∧ 0 < k ∧ block ≤ k * (size + 9) ∧ ∀ j, j < k → j * (size + 9) < block := by
  refine ⟨_, rfl, ?_, ?_, fun j hj => ?_⟩
  · exact Nat.div_pos (by omega) (by omega)
  · have h1 := Nat.div_add_mod (block + size + 8) (size + 9)
    have h2 := Nat.mod_lt (block + size + 8) (show 0 < size + 9 by omega)
    rw [Nat.mul_comm] at h1
    omega
  · have h1 := Nat.div_mul_le_self (block + size + 8) (size + 9)
    have h2 : (j + 1) * (size + 9) ≤ (block + size + 8) / (size + 9) * (size + 9) := Nat.mul_le_mul_right _ hj
    rw [Nat.add_mul] at h2
    omega
theorem blocks_of {size block n k : Nat} (hk0 : 0 < k) (hk1 : block ≤ k * (size + 9)) (hk2 : ∀ j, j < k → j * (size + 9) < block) : (idxF 4 0 (chs block (ensN size n))).length = (n + k - 1) / k := by
  rw [idxF_len, chs_uni hk0 hk1 hk2 _ (ensN size n) (Nat.le_refl _) (ensN_pl size n), ensN_len]
theorem made_own (w : World) {n B : Nat} (hB : B ≤ w.heap.size) (hn : n ≤ 1000000000) : (w.alloc (.cells (madeCells #[.int .u8 0] n) 5)).ownsRow B 5 1 (.slice (some ⟨w.heap.size, 0, none⟩) n n) (List.replicate n 0).length (bv (List.replicate n 0)) := by
  rw [List.length_replicate]
  refine ⟨by rw [bv_len, List.length_replicate, Nat.mul_one], .inr ⟨w.heap.size, n, madeCells #[.int .u8 0] n, rfl, hB, blk_new _ _, Nat.le_refl _, by unfold maxLen; omega, by rw [size_madeCells, Nat.mul_one], ?_⟩⟩
  rw [toList_madeCells_one, Nat.mul_one, List.take_of_length_le (by simp)]
  unfold bv
  rw [List.map_replicate]
  rfl
set_option maxRecDepth 20000 in
set_option maxHeartbeats 3200000 in
theorem tblocks_c (w : World) (n size block : Int) :
    Calls Try.prog 5 #[.int .i64 n, .int .i64 size, .int .i64 block] w fun e w' => e = .returned (.bool true) ∧ Fr [] w w' := by
  have KN := hid (known8_c w)
  by_cases hg : 1 ≤ n ∧ n ≤ 60 ∧ 0 ≤ size ∧ size ≤ 200 ∧ 16 ≤ block ∧ block ≤ 2000
  rotate_left
  · have hg' : n < 1 ∨ 60 < n ∨ size < 0 ∨ 200 < size ∨ block < 16 ∨ 2000 < block := by omega
    clear hg
    by_cases h1 : n < 1
    · go_enter Try.func5, Try.ntmps5
      go_wp2_with (go_at_call 7; refine KN.out.mono ?_; rintro e w1 ⟨rfl, f1⟩; have F1 := hid f1; clear f1)
      go_ret
      exact ⟨rfl, F1.out⟩
    by_cases h2 : 60 < n
    · go_enter Try.func5, Try.ntmps5
      go_wp2_with (go_at_call 7; refine KN.out.mono ?_; rintro e w1 ⟨rfl, f1⟩; have F1 := hid f1; clear f1)
      go_ret
      exact ⟨rfl, F1.out⟩
    by_cases h3 : size < 0
    · go_enter Try.func5, Try.ntmps5
      go_wp2_with (go_at_call 7; refine KN.out.mono ?_; rintro e w1 ⟨rfl, f1⟩; have F1 := hid f1; clear f1)
      go_ret
      exact ⟨rfl, F1.out⟩
    by_cases h4 : 200 < size
    · go_enter Try.func5, Try.ntmps5
      go_wp2_with (go_at_call 7; refine KN.out.mono ?_; rintro e w1 ⟨rfl, f1⟩; have F1 := hid f1; clear f1)
      go_ret
      exact ⟨rfl, F1.out⟩
    by_cases h5 : block < 16
    · go_enter Try.func5, Try.ntmps5
      go_wp2_with (go_at_call 7; refine KN.out.mono ?_; rintro e w1 ⟨rfl, f1⟩; have F1 := hid f1; clear f1)
      go_ret
      exact ⟨rfl, F1.out⟩
    · have h6 : 2000 < block := by omega
      go_enter Try.func5, Try.ntmps5
      go_wp2_with (go_at_call 7; refine KN.out.mono ?_; rintro e w1 ⟨rfl, f1⟩; have F1 := hid f1; clear f1)
      go_ret
      exact ⟨rfl, F1.out⟩
  obtain ⟨n1, n2, s1, s2, b1, b2⟩ := hg
  obtain ⟨n, rfl⟩ : ∃ n' : Nat, n = (n' : Int) := ⟨n.toNat, by omega⟩
  obtain ⟨size, rfl⟩ : ∃ n' : Nat, size = (n' : Int) := ⟨size.toNat, by omega⟩
  obtain ⟨block, rfl⟩ : ∃ n' : Nat, block = (n' : Int) := ⟨block.toNat, by omega⟩
  go_enter Try.func5, Try.ntmps5
  go_wp2_with (go_at_call 7; refine KN.out.mono ?_; rintro e w1 ⟨rfl, f1⟩; have F1 := hid f1; clear f1)
  go_loopw [7, 8] (fun v7 v8 wr => ∃ i : Nat, i ≤ n ∧ v8 = .int .i64 (i : Int) ∧ ColO wr w1.heap.size v7 (ensN size i) ∧ Fr [] w1 wr) (fun _ v8 _ => n - (intOf v8).toNat)
  case atStart => exact ⟨0, Nat.zero_le _, rfl, ColO.nil _ _, Fr.refl _ _⟩
  case round =>
    obtain ⟨i, hi, rfl, hc, hf⟩ := hrel
    have HF := hid hf
    have HC := hid hc
    clear hf hc
    by_cases hlt : i < n
    · obtain ⟨cs, oc, hcs⟩ := HC.out
      obtain ⟨a7, c7, h7, _⟩ := ownsRow_slice oc
      rw [ensN_len] at h7 oc
      subst h7
      have OC := hid oc
      have HCS := hid hcs
      clear oc hcs
      have wi : IntKind.u8.wrap (i : Int) = (i : Int) := by rw [IntKind.wrap_u8]; omega
      have KK := hid (key_ok _ (Rd_lit1 wr (.int .u8 (i : Int))) (u := [i]) (by simp) 1 1 (by omega) (by omega))
      obtain ⟨kl, hkl⟩ : ∃ kl, kl = keyL [i] 1 1 := ⟨_, rfl⟩
      rw [← hkl] at KK
      have HKL := hid hkl
      have hk9 : kl.length = 9 := by rw [hkl, keyL_len]; rfl
      clear hkl
      go_upto_region 10 with (go_at_call 19; refine KK.out.mono ?_; rintro e w2 ⟨kv, rfl, o2, f2⟩; obtain ⟨ka, kc, hkv, _⟩ := ownsRow_slice o2; subst hkv; have O2 := hid o2; have F2 := hid (((Fr.refl [] wr).alloc _).trans f2); clear o2 f2)
      have hmk := makeB_run w2 (n := size) (by omega)
      obtain ⟨W3, hW3⟩ : ∃ W3, W3 = w2.alloc (.cells (madeCells #[.int .u8 0] size) 5) := ⟨_, rfl⟩
      have F3 : Hid (Fr [] w2 W3) := hid (by rw [hW3]; exact (Fr.refl _ _).alloc _)
      have O3 := hid (made_own w2 (n := size) (B := w1.heap.size) (Nat.le_trans HF.out.size F2.out.size) (by omega))
      rw [← hW3] at hmk O3
      clear hW3
      obtain ⟨W4, hW4⟩ : ∃ W4, W4 = W3.alloc (.cells #[.slice ka 9 kc, .slice (some ⟨w2.heap.size, 0, none⟩) size size] 41) := ⟨_, rfl⟩
      have F4 : Hid (Fr [] W3 W4) := hid (by rw [hW4]; exact (Fr.refl _ _).alloc _)
      have N4 : Hid (W4.heap[W3.heap.size]? = some (.cells #[.slice ka 9 kc, .slice (some ⟨w2.heap.size, 0, none⟩) size size] 41 (0, 0))) := hid (by rw [hW4]; exact blk_new _ _)
      have F24 := hid (F3.out.trans F4.out)
      have FR4 := hid (F2.out.trans F24.out)
      go_wp2_with (at_builtin; rw [← hW4]; refine wpList_app_kv rfl _ _ rfl w1.heap.size (Nat.le_trans HF.out.size FR4.out.size) (.slice a7 i c7) i cs (by simp [Act.eval]) (ownsRow_fr OC.out FR4.out) W3.heap.size (by simp [Act.eval]) N4.out (by omega) ?_; intro v5 w5 o5 g5 _; obtain ⟨a5, c5, h5, _⟩ := ownsRow_slice o5; subst h5; have O5 := hid o5; have G5 := hid g5; clear o5 g5)
      go_roundw
      case rel =>
        refine ⟨i + 1, by omega, by go_num, ?_, ?_⟩
        · rw [ensN_succ]
          refine ColO.app (W := W4) (v := .slice a7 i c7) (kv := .slice ka 9 kc) (vv := .slice (some ⟨w2.heap.size, 0, none⟩) size size) (p := enN size i) (cs := cs) (by rw [ensN_len]; exact ownsRow_fr OC.out FR4.out) (fun j q hj => ?_) ?_ (ownsRow_fr O3.out F4.out) ?_ ?_ ?_ ?_ (by rw [ensN_len]; exact O5.out) G5.out
          · obtain ⟨kv, vv, c0, c1, r0, r1, b0⟩ := HCS.out j q hj
            exact ⟨kv, vv, c0, c1, ownsRow_fr r0 FR4.out, ownsRow_fr r1 FR4.out, b0⟩
          · have h := O2.out
            rw [hk9] at h
            have h2 := own_base (ownsRow_fr h F24.out) (Nat.le_trans HF.out.size (by simp) : w1.heap.size ≤ _)
            unfold enN
            rw [← HKL.out]
            dsimp only
            rw [hk9]
            exact h2
          · unfold enN; exact keyL_by (fun x hx => by simp at hx; omega) 1 1
          · unfold enN; intro x hx; simp at hx; omega
          · unfold enN; dsimp only; rw [← HKL.out]; omega
          · unfold enN; dsimp only; rw [List.length_replicate]; omega
        · exact ((HF.out.trans FR4.out).grown G5.out (fun j hj => .inr (OC.out.lt j hj).1))
      case measure => simp [intOf]; omega
    · have hin : i = n := by omega
      subst hin
      clear KN
      have L1 := hid (ensN_lim (size := size) (n := i) (by omega) (by omega))
      have L2 := hid (ensN_rises size i)
      have L3 := hid (ensN_by (size := size) (n := i) (by omega))
      have L0 : Hid (ensN size i ≠ []) := hid (fun e => by have := congrArg List.length e; rw [ensN_len] at this; simp at this; omega)
      obtain ⟨k, hk, hk0, hk1, hk2⟩ := each_of (size := size) (block := block) (by omega)
      have NB := hid (blocks_of (n := i) hk0 hk1 hk2)
      have BO := hid (tbuild_ok wr HC.out.rd L1.out L0.out block 4 10 4000 ⟨by omega, by omega, by omega, by omega, by omega, by omega, by omega, by omega⟩ L2.out)
      obtain ⟨a7, c7, h7, _⟩ := HC.out.rd
      rw [ensN_len] at h7
      subst h7
      have HE := hid hk
      have hk200 : k ≤ 3000 := by rw [hk]; exact Nat.le_trans (Nat.div_le_self _ _) (by omega)
      have hkI : (((block : Int) + (size : Int) + 8) / ((size : Int) + 9)) = (k : Int) := by rw [hk]; simp [Int.natCast_add]
      have hdI : ((i : Int) + (k : Int) - 1) / (k : Int) = (((i + k - 1) / k : Nat) : Int) := by rw [Int.natCast_ediv]; congr 1; omega
      clear hk hk1 hk2
      obtain ⟨XL, hXL⟩ : ∃ XL, XL = (tblL 4 block 10 (ensN size i)).length := ⟨_, rfl⟩
      rw [← hXL] at BO
      have HXL := hid hXL
      clear hXL
      go_upto_region 12 with (go_at_call 9; refine BO.out.mono ?_; rintro e w2 ⟨v2, rfl, o2, f2⟩; have R2 := hid (Rd.ownN o2 HXL.out); obtain ⟨a2, c2, h2, _⟩ := ownsRow_slice o2; subst h2; have F2 := hid (HF.out.trans f2); clear o2 f2)
      have OP := hid (topen_built w2 R2.out L1.out L2.out L3.out L0.out (by omega))
      go_upto_region 15 with (go_at_call 10; refine OP.out.mono ?_; rintro e w3 ⟨p, da, dc, fa, fc, G, rfl, tab, f3⟩; have TB := hid tab; have F3 := hid (F2.out.trans f3); clear tab f3)
      have AB := hid (all_built w3 TB.out L1.out L2.out L3.out (by omega) (by omega))
      have q1 : ((size : Int) + 9 == 0) = false := by rw [beq_eq_false_iff_ne]; omega
      have q2 : IntKind.i64.wrap ((block : Int) + (size : Int)) = (block : Int) + (size : Int) := by rw [IntKind.wrap_i64]; omega
      have q3 : IntKind.i64.wrap ((block : Int) + (size : Int) + 8) = (block : Int) + (size : Int) + 8 := by rw [IntKind.wrap_i64]; omega
      have q4 : IntKind.i64.wrap ((size : Int) + 9) = (size : Int) + 9 := by rw [IntKind.wrap_i64]; omega
      have q5 : ((block : Int) + (size : Int) + 8).tdiv ((size : Int) + 9) = (k : Int) := by rw [Int.tdiv_eq_ediv_of_nonneg (by omega)]; exact hkI
      have q6 : IntKind.i64.wrap (k : Int) = (k : Int) := by rw [IntKind.wrap_i64]; omega
      go_upto_region 16 with fail
      clear q1 q2 q3 q4 q5 q6 OP BO
      go_upto_region 17 with (go_at_call 11; refine AB.out.mono ?_; rintro e w4 ⟨v4, rfl, co, f4⟩; obtain ⟨a4, c4, h4, _⟩ := co.rd; rw [ensN_len] at h4; subst h4; have TB4 := hid (TB.out.fr f4); have F4 := hid (F3.out.trans f4); clear co f4)
      obtain ⟨m, hm⟩ : ∃ m, m = (i + k - 1) / k := ⟨_, rfl⟩
      have BL : Hid (∀ q, Calls Try.prog 20 #[.pointer (some ⟨p, 0, none⟩)] (w4.drewN q) fun e w' => e = .returned (.int .i64 (m : Int)) ∧ w' = w4.drewN q) := hid (fun q => by
        have := blocks_c (w4.drewN q) (TB4.out.fr ((Fr.refl _ _).drewN q))
        rw [NB.out, ← hm] at this
        exact this)
      rw [← hm] at hdI
      have hm2 : m ≤ 4000 := by rw [hm]; exact Nat.le_trans (Nat.div_le_self _ _) (by omega)
      clear hm hkI
      have q1 : ((k : Int) == 0) = false := by rw [beq_eq_false_iff_ne]; omega
      have q2 : IntKind.i64.wrap ((i : Int) + (k : Int)) = (i : Int) + (k : Int) := by rw [IntKind.wrap_i64]; omega
      have q3 : IntKind.i64.wrap ((i : Int) + (k : Int) - 1) = (i : Int) + (k : Int) - 1 := by rw [IntKind.wrap_i64]; omega
      have q5 : ((i : Int) + (k : Int) - 1).tdiv (k : Int) = (m : Int) := by rw [Int.tdiv_eq_ediv_of_nonneg (by omega)]; exact hdI
      have q6 : IntKind.i64.wrap (m : Int) = (m : Int) := by rw [IntKind.wrap_i64]; omega
      clear hdI
      go_quiet ((go_at_call 20; exact Calls.quiet_of_same (BL.out _)))
      go_wp2
      go_ret
      exact ⟨rfl, F1.out.trans (F4.out.drewN _)⟩
end Go.Proofs.Ytobdegmlijnogaa
namespace Go.Proofs.Ytobdegmlijnogaa
open Go.ChangeShapes Go.WideShapes Go.ChangeAt Go.RowKit Go.Deep

theorem ownKnobs : ownKnob Try.prog.godebug = none := by kernel_rfl
theorem laidOut : laidOutB Try.prog = true := by kernel_rfl

theorem nat_of {n : Int} (h : 0 ≤ n) : ∃ m : Nat, n = (m : Int) := ⟨n.toNat, by omega⟩

/-- Bytes that came in. -/
theorem bytes_of {H : Type} {enc : TypeId × Value → H} {W : World} {ua : Option Addr} {len uc : Nat} {d : DataW H} {ps : List MemPlace} (h : DataW.Trod enc Try.prog W 0 (fun _ => true) true 27 (.slice ua len uc) d ps)
    (hw : ∀ n ∈ d.weights Try.prog 27, n ≤ reachBytes) : ∃ ns : List Nat, ns.length = len ∧ Rd W (.slice ua len uc) (bv ns) ∧ By ns ∧ len ≤ 140737488351232 := by
  obtain ⟨fuel, hf⟩ := h
  rcases open_ints Try.underlying27 Try.underlying5 (by kernel_rfl) hf with ⟨hcs, _⟩ | ⟨a, l, c, zs, hcs, _, hl, hm, hz, hx, hcell, hwf⟩
  · simp [Value.cells] at hcs
    obtain ⟨rfl, rfl, rfl⟩ := hcs
    exact ⟨[], rfl, .inl ⟨rfl, rfl⟩, fun u hu => by simp at hu, by omega⟩
  · simp [Value.cells] at hcs
    obtain ⟨rfl, rfl, rfl⟩ := hcs
    simp only [Prod.mk.injEq] at hx
    obtain ⟨rfl, _⟩ := hx
    simp only [if_true] at hz
    have hXl : ((zs.take len).map Int.toNat).length = len := by rw [List.length_map, List.length_take]; omega
    have hb : ∀ z ∈ zs, 0 ≤ z ∧ z ≤ 255 := fun z hz' => bounds_u8 (hwf z hz')
    refine ⟨(zs.take len).map Int.toNat, hXl, .inr ⟨a, uc, by rw [bv_len, hXl], by rw [bv_len, hXl]; exact hl, fun j u hj => ?_⟩, fun u hu => ?_, ?_⟩
    · have hjl : j < len := by
        rcases Nat.lt_or_ge j len with h | h
        · exact h
        · rw [List.getElem?_eq_none (by rw [bv_len, hXl]; omega)] at hj; cases hj
      have hjz : j < zs.length := by omega
      rw [hcell j hjz]
      unfold bv at hj
      rw [List.getElem?_map, List.getElem?_map, List.getElem?_take, if_pos hjl, List.getElem?_eq_getElem hjz] at hj
      simp only [Option.map_some, Option.some.injEq] at hj
      rw [← hj]
      have h0 := hb _ (List.getElem_mem hjz)
      simp only [List.getD, List.getElem?_eq_getElem hjz, Option.getD_some, Int.toNat_of_nonneg h0.1]
    · obtain ⟨n, hn, rfl⟩ := List.mem_map.1 hu
      have := hb n (List.mem_of_mem_take hn)
      omega
    · have h1 := hw (uc * Try.prog.bytesOf 5) (by
        simp only [DataW.weights, Try.underlying27]
        refine List.mem_cons.2 (.inl ?_)
        rw [lits, lits, List.length_map, List.length_map, List.length_take, List.length_drop, hz]
        congr 1; omega)
      rw [show Try.prog.bytesOf 5 = 1 from by kernel_rfl] at h1
      unfold reachBytes at h1
      omega
end Go.Proofs.Ytobdegmlijnogaa
