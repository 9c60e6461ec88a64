/-
  What Compare of package codec answers: of two internal keys, of others.
-/
import Derived.Test.YtkljblgogiheoaaJ04
import Derived.Test.YtkljblgogiheoaaJ03
import Derived.Lib.SlBytesConst
import Derived.Deep.Light
namespace Go.Proofs.Ytkljblgogiheoaa
open Go.ChangeShapes Go.WideShapes Go.ChangeAt Go.RowKit

/-- How two internal keys stand. -/
def ordK (a b : List Nat) : Int := ordP (userL a) (userL b) ((tailN a / 256 : Nat) : Int) ((tailN b / 256 : Nat) : Int) ((tailN a % 256 : Nat) : Int) ((tailN b % 256 : Nat) : Int)

set_option maxRecDepth 20000 in
set_option maxHeartbeats 800000 in
theorem compare_no1 (w : World) {v1 v2 : Value} {a : List Nat} (h1 : Rd w v1 (bv a)) (ha : By a) (hl : a.length ≤ 140737488355328) (h : isK a = false) {n2 c2 : Nat} {a2 : Option Addr} (hv2 : v2 = .slice a2 n2 c2) :
    Calls Try.prog 57 #[v1, v2] w fun e w' => e = .returned (.tuple #[.int .i64 0, .int .i64 23]) ∧ Fr [] w w' := by
  have HS := hid (split_no w h1 ha hl h)
  obtain ⟨a1, c1, hv1⟩ := h1.form
  subst hv1
  subst hv2
  clear h1 ha h
  go_enter Try.func57, Try.ntmps57
  go_wp2_with fail
  refine HS.out.mono ?_
  rintro e w1 ⟨rfl, f1⟩
  go_wp2
  go_ret2
  exact ⟨rfl, f1.alloc _⟩

set_option maxRecDepth 20000 in
set_option maxHeartbeats 800000 in
theorem compare_no2 (w : World) {v1 v2 : Value} {a b : List Nat} (h1 : Rd w v1 (bv a)) (ha : By a) (h : isK a = true) (h2 : Rd w v2 (bv b)) (hb : By b) (hl : b.length ≤ 140737488355328) (hk : isK b = false) :
    Calls Try.prog 57 #[v1, v2] w fun e w' => e = .returned (.tuple #[.int .i64 0, .int .i64 23]) ∧ Fr [] w w' := by
  have hka := isK_len h
  obtain ⟨q, off, c, hv1, hc⟩ := h1.place (by omega)
  obtain ⟨a2, c2, hv2⟩ := h2.form
  subst hv1
  subst hv2
  have HS := hid (split_yes w h1 ha hc h)
  have HR2 := hid h2
  have HB := hid hb
  have HK := hid hk
  clear h1 ha h h2 hb hk
  go_enter Try.func57, Try.ntmps57
  go_wp2_with fail
  refine HS.out.mono ?_
  rintro e w1 ⟨rfl, f1⟩
  have F1 := hid f1
  clear f1
  go_wp2_with fail
  refine (split_no _ (HR2.out.fr (F1.out.alloc _)) HB.out hl HK.out).mono ?_
  rintro e w2 ⟨rfl, f2⟩
  have F2 := hid ((F1.out.alloc _).trans f2)
  clear f2
  go_wp2
  go_ret2
  exact ⟨rfl, F2.out.alloc _⟩

set_option maxRecDepth 20000 in
set_option maxHeartbeats 1600000 in
theorem compare_yes (w : World) {v1 v2 : Value} {a b : List Nat} (h1 : Rd w v1 (bv a)) (ha : By a) (h : isK a = true) (h2 : Rd w v2 (bv b)) (hb : By b) (hk : isK b = true) :
    Calls Try.prog 57 #[v1, v2] w fun e w' => e = .returned (.tuple #[.int .i64 (ordK a b), .int .i64 0]) ∧ Fr [] w w' := by
  have hka := isK_len h
  have hkb := isK_len hk
  obtain ⟨q, off, c, hv1, hc⟩ := h1.place (by omega)
  obtain ⟨q2, off2, c2, hv2, hc2⟩ := h2.place (by omega)
  subst hv1
  subst hv2
  have HS := hid (split_yes w h1 ha hc h)
  have HR2 := hid h2
  have HU := hid (h1.front (q := a.length - 8) (by omega))
  have HV := hid (h2.front (q := b.length - 8) (by omega))
  have HA := hid ha
  have HB := hid hb
  have HK := hid hk
  unfold ordK
  generalize hs1 : ((tailN a / 256 : Nat) : Int) = s at HS ⊢
  generalize hk1 : ((tailN a % 256 : Nat) : Int) = k at HS ⊢
  generalize hs2 : ((tailN b / 256 : Nat) : Int) = t
  generalize hk2 : ((tailN b % 256 : Nat) : Int) = l
  have HS2 := hid hs2
  have HK2 := hid hk2
  clear h1 ha h h2 hb hk hs1 hk1 hs2 hk2
  go_enter Try.func57, Try.ntmps57
  go_wp2_with fail
  refine HS.out.mono ?_
  rintro e w1 ⟨rfl, f1⟩
  have F1 := hid f1
  clear f1
  go_wp2_with fail
  have A1 : Hid (Fr [] w (w1.alloc (.cells #[.slice (some ⟨q, off, none⟩) (a.length - 8) c, .int .u64 s, .int .i64 k] 112))) := F1.out.alloc _
  have A2 := hid (split_yes _ (HR2.out.fr A1.out) HB.out hc2 HK.out)
  rw [HS2.out, HK2.out] at A2
  have A3 : Hid ((w1.alloc (.cells #[.slice (some ⟨q, off, none⟩) (a.length - 8) c, .int .u64 s, .int .i64 k] 112)).heap[w1.heap.size]? = some (.cells #[.slice (some ⟨q, off, none⟩) (a.length - 8) c, .int .u64 s, .int .i64 k] 112 (0, 0))) := blk_new w1 _
  refine A2.out.mono ?_
  rintro e w2 ⟨rfl, f2⟩
  have kb := f2.at A3.out (by simp)
  have c0 : w2.cell? ⟨w1.heap.size, 0, none⟩ = some (.slice (some ⟨q, off, none⟩) (a.length - 8) c) := by rw [blk_cell kb]; rfl
  have c1 : w2.cell? ⟨w1.heap.size, 1, none⟩ = some (.int .u64 s) := by rw [blk_cell kb]; rfl
  have c2' : w2.cell? ⟨w1.heap.size, 2, none⟩ = some (.int .i64 k) := by rw [blk_cell kb]; rfl
  have hlt : w1.heap.size < w2.heap.size := blk_lt kb
  have F2 := hid (A1.out.trans f2)
  clear f2 kb A1 A2 A3
  go_wp2_with fail
  have A4 : Hid (Fr [] w (w2.alloc (.cells #[.slice (some ⟨q2, off2, none⟩) (b.length - 8) c2, .int .u64 t, .int .i64 l] 112))) := F2.out.alloc _
  refine (from_c _ (HU.out.fr A4.out) (HV.out.fr A4.out) (HA.out.take _) (HB.out.take _) s t k l).mono ?_
  rintro e w3 ⟨rfl, f3⟩
  have F3 := hid (A4.out.trans f3)
  clear f3 A4
  go_wp2
  go_ret2
  exact ⟨rfl, F3.out⟩
end Go.Proofs.Ytkljblgogiheoaa
namespace Go.Proofs.Ytkljblgogiheoaa

/-- A table. -/
structure Fl where
  num : Int
  size : Int
  least : List Nat
  most : List Nat
/-- An edit. -/
structure Ed where
  log : Int
  next : Int
  seq : Nat
  drop : List (Int × Int)
  add : List (Int × Fl)
def okN (n : Int) : Bool := decide (0 ≤ n) && decide (n ≤ 2147483647)
def okV (n : Int) : Bool := decide (0 ≤ n) && decide (n < 5)
def okF (f : Fl) : Bool := isK f.least && (isK f.most && (decide (ordK f.least f.most ≤ 0) && (okN f.num && okN f.size)))
def okD (g : Int × Int) : Bool := okV g.1 && okN g.2
def okA (p : Int × Fl) : Bool := okV p.1 && okF p.2
def okH (log next : Int) (seq : Nat) : Bool := okN log && (okN next && decide (seq ≤ 72057594037927935))
def okE (e : Ed) : Bool := e.drop.all okD && (e.add.all okA && okH e.log e.next e.seq)
def nb (n : Int) : List Nat := putL n.toNat
def encD (g : Int × Int) : List Nat := nb g.1 ++ nb g.2
def encA (p : Int × Fl) : List Nat := nb p.1 ++ (nb p.2.num ++ (nb p.2.size ++ (putL p.2.least.length ++ (p.2.least ++ (putL p.2.most.length ++ p.2.most)))))
/-- The bytes of an edit. -/
def encE (e : Ed) : List Nat := nb e.log ++ (nb e.next ++ (putL e.seq ++ (putL e.drop.length ++ (e.drop.flatMap encD ++ (putL e.add.length ++ e.add.flatMap encA)))))
theorem okN_iff {n : Int} : okN n = true ↔ 0 ≤ n ∧ n ≤ 2147483647 := by unfold okN; simp
theorem okV_iff {n : Int} : okV n = true ↔ 0 ≤ n ∧ n < 5 := by unfold okV; simp
theorem nb_by (n : Int) : By (nb n) := putL_by _
theorem encD_by (g : Int × Int) : By (encD g) := (nb_by _).append (nb_by _)
theorem encA_by {p : Int × Fl} (h1 : By p.2.least) (h2 : By p.2.most) : By (encA p) := (nb_by _).append ((nb_by _).append ((nb_by _).append ((putL_by _).append (h1.append ((putL_by _).append h2)))))
theorem nb_len {n : Int} (h : n ≤ 2147483647) : (nb n).length ≤ 10 := putL_len10 (by omega)
theorem okF_len {f : Fl} (h : okF f = true) : f.least.length ≤ 136 ∧ f.most.length ≤ 136 := by
  unfold okF at h
  simp only [Bool.and_eq_true] at h
  exact ⟨(isK_len h.1).2.1, (isK_len h.2.1).2.1⟩
end Go.Proofs.Ytkljblgogiheoaa
namespace Go.Proofs.Ytkljblgogiheoaa
open Go.ChangeShapes Go.WideShapes Go.ChangeAt Go.RowKit

theorem wrap32_nat {n : Nat} (h : n < 4294967296) : IntKind.u32.wrap (n : Int) = (n : Int) := by rw [IntKind.wrap_u32']; omega
theorem cs_mask {r : Nat} (h : r < 4294967296) :
    bits .xor .u32 ((r : Int) / 2) (bits .and .u32 2197175160 (-bits .and .u32 (r : Int) 1 % 4294967296)) = (cs r : Int) := by
  have h1 : bits .and .u32 (r : Int) 1 = ((r % 2 : Nat) : Int) := by
    have := u32_and_nat r 1 h (by omega)
    rw [nat_mask1] at this; exact this
  rw [h1, show (r : Int) / 2 = ((r / 2 : Nat) : Int) from by omega]
  unfold cs
  rcases Nat.mod_two_eq_zero_or_one r with e | e <;> rw [e]
  · have h2 : bits .and .u32 2197175160 (-((0 : Nat) : Int) % 4294967296) = ((0 : Nat) : Int) := by decide
    rw [h2, if_neg (by omega), u32_xor_nat _ _ (by omega) (by omega)]
  · have h2 : bits .and .u32 2197175160 (-((1 : Nat) : Int) % 4294967296) = ((2197175160 : Nat) : Int) := by decide
    rw [h2, if_pos rfl, u32_xor_nat _ _ (by omega) (by omega)]
theorem crc_end {r : Nat} (h : r < 4294967296) : bits .xor .u32 4294967295 (r : Int) = ((4294967295 ^^^ r : Nat) : Int) := u32_xor_nat 4294967295 r (by omega) h
theorem crcF_snoc {ns : List Nat} {k x : Nat} (h : ns[k]? = some x) (r : Nat) : crcF r (ns.take (k + 1)) = csN 8 (crcF r (ns.take k) ^^^ x) := by
  rw [List.take_add_one, h, crcF_append]; rfl

theorem cs_odd {r : Nat} (h : r < 4294967296) (e : r % 2 = 1) : bits .xor .u32 ((r : Int) / 2) 2197175160 = (cs r : Int) := by
  rw [show (r : Int) / 2 = ((r / 2 : Nat) : Int) from by omega]
  have := u32_xor_nat (r / 2) 2197175160 (by omega) (by omega)
  unfold cs; rw [if_pos e]; exact this
theorem cs_even {r : Nat} (e : ¬ r % 2 = 1) : (r : Int) / 2 = (cs r : Int) := by
  unfold cs; rw [if_neg e, Nat.xor_zero]; omega

end Go.Proofs.Ytkljblgogiheoaa
namespace Go.Proofs.Ytkljblgogiheoaa
open Go.ChangeShapes Go.WideShapes Go.ChangeAt Go.RowKit

theorem str_key : strOf (keyL [] 1 1) = ⟨#[1, 1, 0, 0, 0, 0, 0, 0]⟩ := by decide
theorem crc_known : crc [49, 50, 51, 52, 53, 54, 55, 56, 57] = 3808858755 := by decide +kernel
theorem put_known : putL 300 = [172, 2] := by rw [putL_ge (by omega), putL_lt (by omega)]
theorem str_put : strOf [172, 2] = ⟨#[172, 2]⟩ := by decide

theorem beq_str (s t : ByteArray) : (s.toList == t.toList) = decide (s = t) := by
  by_cases h : s = t
  · subst h; simp
  · have : s.toList ≠ t.toList := fun e => h (by
      cases s with | mk a => cases t with | mk b =>
      have h1 : a.toList = b.toList := by simpa [ByteArray.toList_eq] using e
      rw [Array.toList_inj.1 h1])
    simp [this, h]

set_option maxHeartbeats 400000 in
theorem bytes_c {w : World} {v1 v2 : Value} {a b : List Nat} (h1 : Rd w v1 (bv a)) (h2 : Rd w v2 (bv b)) (ha : By a) (hb : By b) :
    Calls Try.prog 19 #[v1, v2] w fun e w' => e = .returned (.bool (decide (a = b))) ∧ w' = w := by
  have e1 := run_conv h1
  have e2 := run_conv h2
  have e3 : ((strOf a).toList == (strOf b).toList) = decide (a = b) := by
    rw [beq_str]
    by_cases h : a = b
    · subst h; simp
    · have : strOf a ≠ strOf b := fun e => h (strOf_inj ha hb e)
      simp [this, h]
  obtain ⟨a1, c1, rfl⟩ := h1.form
  obtain ⟨a2, c2, rfl⟩ := h2.form
  clear h1 h2 ha hb
  go_enter Try.func19, Try.ntmps19
  go_wp2
  go_ret
  exact ⟨rfl, rfl⟩
end Go.Proofs.Ytkljblgogiheoaa
namespace Go.Proofs.Ytkljblgogiheoaa
open Go.ChangeShapes Go.WideShapes Go.ChangeAt Go.RowKit

theorem cell_fr {w w' : World} (f : Fr [] w w') {p : Addr} {v : Value} (h : w.cell? p = some v) : w'.cell? p = some v := by
  rw [World.cell?_of_block (w := w) (f.block _ (World.block_lt_of_cell? w _ h) (by simp))]; exact h
/-- A table's two keys. -/
structure FRd (w : World) (f : Fl) (la : Option Addr) (lc : Nat) (ma : Option Addr) (mc : Nat) : Prop where
  rl : Rd w (.slice la f.least.length lc) (bv f.least)
  rm : Rd w (.slice ma f.most.length mc) (bv f.most)
  bl : By f.least
  bm : By f.most
  ll : f.least.length ≤ 140737488355328
  lm : f.most.length ≤ 140737488355328
theorem FRd.fr {w w' : World} {f : Fl} {la ma : Option Addr} {lc mc : Nat} (h : FRd w f la lc ma mc) (g : Fr [] w w') : FRd w' f la lc ma mc := ⟨h.rl.fr g, h.rm.fr g, h.bl, h.bm, h.ll, h.lm⟩
/-- A table at a place. -/
structure FAt (w : World) (b o : Nat) (f : Fl) (la : Option Addr) (lc : Nat) (ma : Option Addr) (mc : Nat) : Prop where
  c0 : w.cell? ⟨b, o, none⟩ = some (.int .i64 f.num)
  c1 : w.cell? ⟨b, o + 1, none⟩ = some (.int .i64 f.size)
  c2 : w.cell? ⟨b, o + 2, none⟩ = some (.slice la f.least.length lc)
  c3 : w.cell? ⟨b, o + 3, none⟩ = some (.slice ma f.most.length mc)
  rd : FRd w f la lc ma mc
theorem FAt.fr {w w' : World} {b o : Nat} {f : Fl} {la ma : Option Addr} {lc mc : Nat} (h : FAt w b o f la lc ma mc) (g : Fr [] w w') : FAt w' b o f la lc ma mc := ⟨cell_fr g h.c0, cell_fr g h.c1, cell_fr g h.c2, cell_fr g h.c3, h.rd.fr g⟩
/-- A row of dropped tables. -/
def RdD (w : World) (v : Value) (gs : List (Int × Int)) : Prop := ∃ a c, v = .slice a gs.length c ∧ (0 < gs.length → ∃ b off, a = some ⟨b, off, none⟩ ∧ ∀ (j : Nat) (g : Int × Int), gs[j]? = some g → w.cell? ⟨b, off + j * 2, none⟩ = some (.int .i64 g.1) ∧ w.cell? ⟨b, off + j * 2 + 1, none⟩ = some (.int .i64 g.2))
theorem RdD.fr {w w' : World} {v : Value} {gs : List (Int × Int)} (h : RdD w v gs) (f : Fr [] w w') : RdD w' v gs := by
  obtain ⟨a, c, h1, h2⟩ := h
  refine ⟨a, c, h1, fun h0 => ?_⟩
  obtain ⟨b, off, h3, h4⟩ := h2 h0
  exact ⟨b, off, h3, fun j g hj => ⟨cell_fr f (h4 j g hj).1, cell_fr f (h4 j g hj).2⟩⟩
/-- A row of placed tables. -/
def RdA (w : World) (v : Value) (ps : List (Int × Fl)) : Prop := ∃ a c, v = .slice a ps.length c ∧ (0 < ps.length → ∃ b off, a = some ⟨b, off, none⟩ ∧ ∀ (j : Nat) (p : Int × Fl), ps[j]? = some p → w.cell? ⟨b, off + j * 5, none⟩ = some (.int .i64 p.1) ∧ ∃ la lc ma mc, FAt w b (off + j * 5 + 1) p.2 la lc ma mc)
theorem RdA.fr {w w' : World} {v : Value} {ps : List (Int × Fl)} (h : RdA w v ps) (f : Fr [] w w') : RdA w' v ps := by
  obtain ⟨a, c, h1, h2⟩ := h
  refine ⟨a, c, h1, fun h0 => ?_⟩
  obtain ⟨b, off, h3, h4⟩ := h2 h0
  refine ⟨b, off, h3, fun j p hj => ?_⟩
  obtain ⟨h5, la, lc, ma, mc, h6⟩ := h4 j p hj
  exact ⟨cell_fr f h5, la, lc, ma, mc, h6.fr f⟩
theorem isNumber_c (w : World) (n : Int) : Calls Try.prog 47 #[.int .i64 n] w fun e w' => e = .returned (.bool (okN n)) ∧ w' = w := by
  unfold okN
  by_cases h1 : 0 ≤ n
  · by_cases h2 : n ≤ 2147483647
    · rw [decide_eq_true h1, decide_eq_true h2]
      go_enter Try.func47, Try.ntmps47
      go_wp2
      go_ret
      exact ⟨rfl, rfl⟩
    · rw [decide_eq_true h1, decide_eq_false h2]
      go_enter Try.func47, Try.ntmps47
      go_wp2
      go_ret
      exact ⟨rfl, rfl⟩
  · rw [decide_eq_false h1, Bool.false_and]
    go_enter Try.func47, Try.ntmps47
    go_wp2
    go_ret
    exact ⟨rfl, rfl⟩
theorem isLevel_c (w : World) (n : Int) : Calls Try.prog 46 #[.int .i64 n] w fun e w' => e = .returned (.bool (okV n)) ∧ w' = w := by
  unfold okV
  by_cases h1 : 0 ≤ n
  · by_cases h2 : n < 5
    · rw [decide_eq_true h1, decide_eq_true h2]
      go_enter Try.func46, Try.ntmps46
      go_wp2
      go_ret
      exact ⟨rfl, rfl⟩
    · rw [decide_eq_true h1, decide_eq_false h2]
      go_enter Try.func46, Try.ntmps46
      go_wp2
      go_ret
      exact ⟨rfl, rfl⟩
  · rw [decide_eq_false h1, Bool.false_and]
    go_enter Try.func46, Try.ntmps46
    go_wp2
    go_ret
    exact ⟨rfl, rfl⟩
theorem head_c (w : World) (log next : Int) (seq : Nat) : Calls Try.prog 29 #[.int .i64 log, .int .i64 next, .int .u64 (seq : Int)] w fun e w' => e = .returned (.bool (okH log next seq)) ∧ w' = w := by
  unfold okH
  have N1 := hid (isNumber_c w log)
  have N2 := hid (isNumber_c w next)
  cases h1 : okN log with
  | false =>
    rw [h1] at N1
    rw [Bool.false_and]
    clear h1 N2
    go_enter Try.func29, Try.ntmps29
    go_wp2_with (go_at_call 47; refine N1.out.mono ?_; rintro e w1 ⟨rfl, h⟩; rw [h]; clear h)
    go_ret
    exact ⟨rfl, rfl⟩
  | true =>
    rw [h1] at N1
    rw [Bool.true_and]
    clear h1
    cases h2 : okN next with
    | false =>
      rw [h2] at N2
      rw [Bool.false_and]
      clear h2
      go_enter Try.func29, Try.ntmps29
      go_wp2_with (first | (go_at_call 47; have zz := N3.out; clear zz; refine N2.out.mono ?_; rintro e w1 ⟨rfl, h⟩; rw [h]; clear h) | (go_at_call 47; refine N1.out.mono ?_; rintro e w1 ⟨rfl, h⟩; rw [h]; clear h; have N3 := hid trivial))
      go_ret
      exact ⟨rfl, rfl⟩
    | true =>
      rw [h2] at N2
      rw [Bool.true_and]
      clear h2
      by_cases h3 : seq ≤ 72057594037927935
      · have h3' : (seq : Int) ≤ 72057594037927935 := by omega
        rw [decide_eq_true h3]
        go_enter Try.func29, Try.ntmps29
        go_wp2_with (first | (go_at_call 47; have zz := N3.out; clear zz; refine N2.out.mono ?_; rintro e w1 ⟨rfl, h⟩; rw [h]; clear h) | (go_at_call 47; refine N1.out.mono ?_; rintro e w1 ⟨rfl, h⟩; rw [h]; clear h; have N3 := hid trivial))
        go_ret
        exact ⟨rfl, rfl⟩
      · have h3' : (72057594037927935 : Int) < (seq : Int) := by omega
        rw [decide_eq_false h3]
        go_enter Try.func29, Try.ntmps29
        go_wp2_with (first | (go_at_call 47; have zz := N3.out; clear zz; refine N2.out.mono ?_; rintro e w1 ⟨rfl, h⟩; rw [h]; clear h) | (go_at_call 47; refine N1.out.mono ?_; rintro e w1 ⟨rfl, h⟩; rw [h]; clear h; have N3 := hid trivial))
        go_ret
        exact ⟨ret_bool (by simp; omega), rfl⟩
end Go.Proofs.Ytkljblgogiheoaa
