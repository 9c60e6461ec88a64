/-
  How bytes are compared: by package bytes, by package cmp, and by the reference.
-/
import Derived.Test.YtmhhdlcdfgahkaaDoorJ03
import Derived.Lib.Bytealg
import Derived.Lib.BytesEntry
import Derived.Laws.Externs
import Derived.Test.YtmhhdlcdfgahkaaDoorJ06
import Derived.Test.YtmhhdlcdfgahkaaDoorJ09
import Derived.Deep.Light
namespace Go.Proofs.YtmhhdlcdfgahkaaDoor
open Go.ChangeShapes Go.WideShapes Go.ChangeAt Go.RowKit

/-- How two rows of bytes stand. -/
def cmpN : List Nat → List Nat → Int
  | [], [] => 0
  | [], _ :: _ => -1
  | _ :: _, [] => 1
  | x :: a, y :: b => if x < y then -1 else if y < x then 1 else cmpN a b
theorem cmpN_val : ∀ (a b : List Nat), cmpN a b = -1 ∨ cmpN a b = 0 ∨ cmpN a b = 1
  | [], [] => .inr (.inl rfl)
  | [], _ :: _ => .inl rfl
  | _ :: _, [] => .inr (.inr rfl)
  | x :: a, y :: b => by
    unfold cmpN
    split
    · exact .inl rfl
    · split
      · exact .inr (.inr rfl)
      · exact cmpN_val a b
theorem cmpN_neg : ∀ (a b : List Nat), cmpN b a = -cmpN a b
  | [], [] => rfl
  | [], _ :: _ => rfl
  | _ :: _, [] => rfl
  | x :: a, y :: b => by
    unfold cmpN
    rcases Nat.lt_trichotomy x y with h | h | h
    · rw [if_neg (by omega), if_pos h, if_pos h]; rfl
    · rw [if_neg (by omega), if_neg (by omega), if_neg (by omega), if_neg (by omega), cmpN_neg a b]
    · rw [if_pos h, if_neg (by omega), if_pos h]
theorem cmpN_eq : ∀ (a b : List Nat), cmpN a b = 0 ↔ a = b
  | [], [] => by simp [cmpN]
  | [], _ :: _ => by simp [cmpN]
  | _ :: _, [] => by simp [cmpN]
  | x :: a, y :: b => by
    unfold cmpN
    rcases Nat.lt_trichotomy x y with h | h | h
    · rw [if_pos h]; simp; omega
    · rw [if_neg (by omega), if_neg (by omega), cmpN_eq a b]; simp [h]
    · rw [if_neg (by omega), if_pos h]; simp; omega
theorem cmpN_trans : ∀ (a b c : List Nat), cmpN a b ≤ 0 → cmpN b c ≤ 0 → cmpN a c ≤ 0
  | [], _, [], _, _ => by simp [cmpN]
  | [], _, _ :: _, _, _ => by simp [cmpN]
  | _ :: _, [], _, h, _ => by simp [cmpN] at h
  | _ :: _, _ :: _, [], _, h => by simp [cmpN] at h
  | x :: a, y :: b, z :: c, h1, h2 => by
    unfold cmpN at h1 h2 ⊢
    rcases Nat.lt_trichotomy x y with e1 | e1 | e1
    · rcases Nat.lt_trichotomy y z with e2 | e2 | e2
      · rw [if_pos (by omega)]; omega
      · rw [if_pos (by omega)]; omega
      · rw [if_neg (by omega), if_pos e2] at h2; omega
    · rcases Nat.lt_trichotomy y z with e2 | e2 | e2
      · rw [if_pos (by omega)]; omega
      · rw [if_neg (by omega), if_neg (by omega)] at h1 h2 ⊢
        exact cmpN_trans a b c h1 h2
      · rw [if_neg (by omega), if_pos e2] at h2; omega
    · rw [if_neg (by omega), if_pos e1] at h1; omega

theorem cmp_bytes : ∀ (a b : List Nat), By a → By b → Lib.compareBytes (a.map UInt8.ofNat) (b.map UInt8.ofNat) = cmpN a b
  | [], [], _, _ => rfl
  | [], _ :: _, _, _ => rfl
  | _ :: _, [], _, _ => rfl
  | x :: a, y :: b, ha, hb => by
    have hx := ha x (by simp); have hy := hb y (by simp)
    have e : ∀ {p q : Nat}, p < 256 → q < 256 → (UInt8.ofNat p < UInt8.ofNat q ↔ p < q) := by
      intro p q hp hq
      rw [UInt8.lt_iff_toNat_lt, UInt8.toNat_ofNat', UInt8.toNat_ofNat', Nat.mod_eq_of_lt hp, Nat.mod_eq_of_lt hq]
    have ih := cmp_bytes a b (fun n hn => ha n (List.mem_cons_of_mem _ hn)) (fun n hn => hb n (List.mem_cons_of_mem _ hn))
    simp only [List.map_cons, Lib.compareBytes, cmpN, e hx hy, e hy hx, ih]

theorem run_bytesOf {w : World} {v : Value} {a : List Nat} (h : Rd w v (bv a)) : (Extern.Bytes.bytesOf v).run Tryd.prog w = .ok ⟨(a.map UInt8.ofNat).toArray⟩ w := by
  rcases h with ⟨rfl, h⟩ | ⟨ad, c, rfl, _, h5⟩
  · have : a = [] := by simpa [bv] using h
    subst this
    rfl
  · have h := Lib.run_loadBytesX (P := Tryd.prog) w (a.map fun n : Nat => (n : Int)) ad .empty (fun j x hx => by
      rw [List.getElem?_map] at hx
      cases hn : a[j]? with
      | none => rw [hn] at hx; cases hx
      | some n => rw [hn] at hx; cases hx; exact h5 j _ (bv_at hn))
    rw [List.length_map] at h
    show (Extern.Bytes.loadBytes ad (bv a).length .empty).run Tryd.prog w = _
    rw [bv_len, h]
    congr 1
    apply ByteArray.ext
    simp [Lib.bytesOf, List.map_map, Function.comp_def]

theorem run_cmp {w : World} {v1 v2 : Value} {a b : List Nat} (h1 : Rd w v1 (bv a)) (h2 : Rd w v2 (bv b)) (ha : By a) (hb : By b) :
    (callFunc 87 #[v1, v2]).run Tryd.prog w = .ok (.value (.int .i64 (cmpN a b))) w := by
  rw [run_callFunc_extern (e := Extern.BytealgCompare.compare) Tryd.func87 (by kernel_rfl) (by kernel_rfl) (by kernel_rfl) (by kernel_rfl)]
  have e : (Extern.BytealgCompare.compare #[v1, v2]).run Tryd.prog w = .ok (.int .i64 (cmpN a b)) w := by
    change Sem.run Tryd.prog (do pure (goInt (Extern.BytealgCompare.cmp (← Extern.Bytes.bytesOf v1) (← Extern.Bytes.bytesOf v2)))) w = _
    simp only [Sem.run_bind, run_bytesOf h1, run_bytesOf h2, Result.andThen_ok, Sem.run_pure, Lib.cmp_eq]
    rw [cmp_bytes a b ha hb]
    rfl
  rw [e]; rfl

set_option maxHeartbeats 400000 in
theorem bcmp_c {w : World} {v1 v2 : Value} {a b : List Nat} (h1 : Rd w v1 (bv a)) (h2 : Rd w v2 (bv b)) (ha : By a) (hb : By b) :
    Calls Tryd.prog 65 #[v1, v2] w fun e w' => e = .returned (.int .i64 (cmpN a b)) ∧ w' = w := by
  have hr := run_cmp h1 h2 ha hb
  obtain ⟨a1, c1, rfl⟩ := h1.form
  obtain ⟨a2, c2, rfl⟩ := h2.form
  clear h1 h2 ha hb
  go_enter Tryd.func65, Tryd.ntmps65
  go_wp2
  go_ret
  exact ⟨rfl, rfl⟩

/-- How two numbers stand. -/
def cmpI (x y : Int) : Int := if x < y then -1 else if y < x then 1 else 0

set_option maxHeartbeats 400000 in
theorem cmpu_c (w : World) (x y : Int) : Calls Tryd.prog 86 #[.int .u64 x, .int .u64 y] w fun e w' => e = .returned (.int .i64 (cmpI x y)) ∧ w' = w := by
  unfold cmpI
  rcases (show x < y ∨ y < x ∨ x = y from by omega) with h | h | h
  · rw [if_pos h]
    go_enter Tryd.func86, Tryd.ntmps86
    go_wp2
    go_ret
    exact ⟨rfl, rfl⟩
  · rw [if_neg (by omega), if_pos h]
    go_enter Tryd.func86, Tryd.ntmps86
    go_wp2
    go_ret
    exact ⟨rfl, rfl⟩
  · subst h
    rw [if_neg (by omega), if_neg (by omega)]
    go_enter Tryd.func86, Tryd.ntmps86
    go_wp2
    go_ret
    exact ⟨rfl, rfl⟩
set_option maxHeartbeats 400000 in
theorem cmpi_c (w : World) (x y : Int) : Calls Tryd.prog 49 #[.int .i64 x, .int .i64 y] w fun e w' => e = .returned (.int .i64 (cmpI x y)) ∧ w' = w := by
  unfold cmpI
  rcases (show x < y ∨ y < x ∨ x = y from by omega) with h | h | h
  · rw [if_pos h]
    go_enter Tryd.func49, Tryd.ntmps49
    go_wp2
    go_ret
    exact ⟨rfl, rfl⟩
  · rw [if_neg (by omega), if_pos h]
    go_enter Tryd.func49, Tryd.ntmps49
    go_wp2
    go_ret
    exact ⟨rfl, rfl⟩
  · subst h
    rw [if_neg (by omega), if_neg (by omega)]
    go_enter Tryd.func49, Tryd.ntmps49
    go_wp2
    go_ret
    exact ⟨rfl, rfl⟩
end Go.Proofs.YtmhhdlcdfgahkaaDoor
namespace Go.Proofs.YtmhhdlcdfgahkaaDoor
open Go.ChangeShapes Go.WideShapes Go.ChangeAt Go.RowKit

/-- How two internal keys stand, by their parts. -/
def ordP (u v : List Nat) (s t k l : Int) : Int := if cmpN u v = 0 then (if cmpI t s = 0 then cmpI l k else cmpI t s) else cmpN u v

set_option maxRecDepth 20000 in
set_option maxHeartbeats 1600000 in
theorem from_c (w : World) {v1 v2 : Value} {u v : List Nat} (h1 : Rd w v1 (bv u)) (h2 : Rd w v2 (bv v)) (hu : By u) (hv : By v) (s t k l : Int) :
    Calls Tryd.prog 63 #[.int .i64 0, .agg #[v1, .int .u64 s, .int .i64 k], .agg #[v2, .int .u64 t, .int .i64 l]] w fun e w' => e = .returned (.int .i64 (ordP u v s t k l)) ∧ Fr [] w w' := by
  obtain ⟨a1, c1, hv1⟩ := h1.form
  obtain ⟨a2, c2, hv2⟩ := h2.form
  subst hv1
  subst hv2
  have HC : Hid (∀ w', Fr [] w w' → Calls Tryd.prog 65 #[.slice a1 (bv u).length c1, .slice a2 (bv v).length c2] w' fun e w'' => e = .returned (.int .i64 (cmpN u v)) ∧ w'' = w') := fun w' f => bcmp_c (h1.fr f) (h2.fr f) hu hv
  clear h1 h2 hu hv
  unfold ordP
  obtain ⟨x, hx⟩ : ∃ x, x = cmpN u v := ⟨_, rfl⟩
  obtain ⟨y, hy⟩ : ∃ y, y = cmpI t s := ⟨_, rfl⟩
  rw [← hx] at HC ⊢
  rw [← hy]
  have HY := hid hy
  clear hx hy
  by_cases h0 : x = 0
  · have e0 : (x == 0) = true := by simpa using h0
    rw [if_pos h0]
    clear h0
    by_cases hy0 : y = 0
    · have e1 : (y == 0) = true := by simpa using hy0
      rw [if_pos hy0]
      clear hy0
      go_enter Tryd.func63, Tryd.ntmps63
      go_wp2_with fail
      refine (HC.out _ (((Fr.refl _ _).alloc _).alloc _)).mono ?_
      rintro e w1 ⟨rfl, rfl⟩
      go_wp2_with fail
      refine (cmpu_c _ t s).mono ?_
      rintro e w2 ⟨rfl, rfl⟩
      rw [← HY.out]
      go_wp2_with fail
      refine (cmpi_c _ l k).mono ?_
      rintro e w3 ⟨rfl, rfl⟩
      go_wp2
      go_ret
      exact ⟨rfl, ((Fr.refl _ _).alloc _).alloc _⟩
    · have e1 : (y == 0) = false := by simpa using hy0
      rw [if_neg hy0]
      clear hy0
      go_enter Tryd.func63, Tryd.ntmps63
      go_wp2_with fail
      refine (HC.out _ (((Fr.refl _ _).alloc _).alloc _)).mono ?_
      rintro e w1 ⟨rfl, rfl⟩
      go_wp2_with fail
      refine (cmpu_c _ t s).mono ?_
      rintro e w2 ⟨rfl, rfl⟩
      rw [← HY.out]
      go_wp2
      go_ret
      exact ⟨rfl, ((Fr.refl _ _).alloc _).alloc _⟩
  · have e0 : (x == 0) = false := by simpa using h0
    rw [if_neg h0]
    clear h0
    go_enter Tryd.func63, Tryd.ntmps63
    go_wp2_with fail
    refine (HC.out _ (((Fr.refl _ _).alloc _).alloc _)).mono ?_
    rintro e w1 ⟨rfl, rfl⟩
    go_wp2
    go_ret
    exact ⟨rfl, ((Fr.refl _ _).alloc _).alloc _⟩
end Go.Proofs.YtmhhdlcdfgahkaaDoor
namespace Go.Proofs.YtmhhdlcdfgahkaaDoor
open Go.ChangeShapes Go.WideShapes Go.ChangeAt Go.RowKit

/-- How two internal keys stand. -/
def ordK (a b : List Nat) : Int := ordP (userL a) (userL b) ((tailN a / 256 : Nat) : Int) ((tailN b / 256 : Nat) : Int) ((tailN a % 256 : Nat) : Int) ((tailN b % 256 : Nat) : Int)

set_option maxRecDepth 20000 in
set_option maxHeartbeats 800000 in
theorem compare_no1 (w : World) {v1 v2 : Value} {a : List Nat} (h1 : Rd w v1 (bv a)) (ha : By a) (hl : a.length ≤ 140737488355328) (h : isK a = false) {n2 c2 : Nat} {a2 : Option Addr} (hv2 : v2 = .slice a2 n2 c2) :
    Calls Tryd.prog 44 #[v1, v2] w fun e w' => e = .returned (.tuple #[.int .i64 0, .int .i64 23]) ∧ Fr [] w w' := by
  have HS := hid (split_no w h1 ha hl h)
  obtain ⟨a1, c1, hv1⟩ := h1.form
  subst hv1
  subst hv2
  clear h1 ha h
  go_enter Tryd.func44, Tryd.ntmps44
  go_wp2_with fail
  refine HS.out.mono ?_
  rintro e w1 ⟨rfl, f1⟩
  go_wp2
  go_ret2
  exact ⟨rfl, f1.alloc _⟩

set_option maxRecDepth 20000 in
set_option maxHeartbeats 800000 in
theorem compare_no2 (w : World) {v1 v2 : Value} {a b : List Nat} (h1 : Rd w v1 (bv a)) (ha : By a) (h : isK a = true) (h2 : Rd w v2 (bv b)) (hb : By b) (hl : b.length ≤ 140737488355328) (hk : isK b = false) :
    Calls Tryd.prog 44 #[v1, v2] w fun e w' => e = .returned (.tuple #[.int .i64 0, .int .i64 23]) ∧ Fr [] w w' := by
  have hka := isK_len h
  obtain ⟨q, off, c, hv1, hc⟩ := h1.place (by omega)
  obtain ⟨a2, c2, hv2⟩ := h2.form
  subst hv1
  subst hv2
  have HS := hid (split_yes w h1 ha hc h)
  have HR2 := hid h2
  have HB := hid hb
  have HK := hid hk
  clear h1 ha h h2 hb hk
  go_enter Tryd.func44, Tryd.ntmps44
  go_wp2_with fail
  refine HS.out.mono ?_
  rintro e w1 ⟨rfl, f1⟩
  have F1 := hid f1
  clear f1
  go_wp2_with fail
  refine (split_no _ (HR2.out.fr (F1.out.alloc _)) HB.out hl HK.out).mono ?_
  rintro e w2 ⟨rfl, f2⟩
  have F2 := hid ((F1.out.alloc _).trans f2)
  clear f2
  go_wp2
  go_ret2
  exact ⟨rfl, F2.out.alloc _⟩

set_option maxRecDepth 20000 in
set_option maxHeartbeats 1600000 in
theorem compare_yes (w : World) {v1 v2 : Value} {a b : List Nat} (h1 : Rd w v1 (bv a)) (ha : By a) (h : isK a = true) (h2 : Rd w v2 (bv b)) (hb : By b) (hk : isK b = true) :
    Calls Tryd.prog 44 #[v1, v2] w fun e w' => e = .returned (.tuple #[.int .i64 (ordK a b), .int .i64 0]) ∧ Fr [] w w' := by
  have hka := isK_len h
  have hkb := isK_len hk
  obtain ⟨q, off, c, hv1, hc⟩ := h1.place (by omega)
  obtain ⟨q2, off2, c2, hv2, hc2⟩ := h2.place (by omega)
  subst hv1
  subst hv2
  have HS := hid (split_yes w h1 ha hc h)
  have HR2 := hid h2
  have HU := hid (h1.front (q := a.length - 8) (by omega))
  have HV := hid (h2.front (q := b.length - 8) (by omega))
  have HA := hid ha
  have HB := hid hb
  have HK := hid hk
  unfold ordK
  generalize hs1 : ((tailN a / 256 : Nat) : Int) = s at HS ⊢
  generalize hk1 : ((tailN a % 256 : Nat) : Int) = k at HS ⊢
  generalize hs2 : ((tailN b / 256 : Nat) : Int) = t
  generalize hk2 : ((tailN b % 256 : Nat) : Int) = l
  have HS2 := hid hs2
  have HK2 := hid hk2
  clear h1 ha h h2 hb hk hs1 hk1 hs2 hk2
  go_enter Tryd.func44, Tryd.ntmps44
  go_wp2_with fail
  refine HS.out.mono ?_
  rintro e w1 ⟨rfl, f1⟩
  have F1 := hid f1
  clear f1
  go_wp2_with fail
  have A1 : Hid (Fr [] w (w1.alloc (.cells #[.slice (some ⟨q, off, none⟩) (a.length - 8) c, .int .u64 s, .int .i64 k] 115))) := F1.out.alloc _
  have A2 := hid (split_yes _ (HR2.out.fr A1.out) HB.out hc2 HK.out)
  rw [HS2.out, HK2.out] at A2
  have A3 : Hid ((w1.alloc (.cells #[.slice (some ⟨q, off, none⟩) (a.length - 8) c, .int .u64 s, .int .i64 k] 115)).heap[w1.heap.size]? = some (.cells #[.slice (some ⟨q, off, none⟩) (a.length - 8) c, .int .u64 s, .int .i64 k] 115 (0, 0))) := blk_new w1 _
  refine A2.out.mono ?_
  rintro e w2 ⟨rfl, f2⟩
  have kb := f2.at A3.out (by simp)
  have c0 : w2.cell? ⟨w1.heap.size, 0, none⟩ = some (.slice (some ⟨q, off, none⟩) (a.length - 8) c) := by rw [blk_cell kb]; rfl
  have c1 : w2.cell? ⟨w1.heap.size, 1, none⟩ = some (.int .u64 s) := by rw [blk_cell kb]; rfl
  have c2' : w2.cell? ⟨w1.heap.size, 2, none⟩ = some (.int .i64 k) := by rw [blk_cell kb]; rfl
  have hlt : w1.heap.size < w2.heap.size := blk_lt kb
  have F2 := hid (A1.out.trans f2)
  clear f2 kb A1 A2 A3
  go_wp2_with fail
  have A4 : Hid (Fr [] w (w2.alloc (.cells #[.slice (some ⟨q2, off2, none⟩) (b.length - 8) c2, .int .u64 t, .int .i64 l] 115))) := F2.out.alloc _
  refine (from_c _ (HU.out.fr A4.out) (HV.out.fr A4.out) (HA.out.take _) (HB.out.take _) s t k l).mono ?_
  rintro e w3 ⟨rfl, f3⟩
  have F3 := hid (A4.out.trans f3)
  clear f3 A4
  go_wp2
  go_ret2
  exact ⟨rfl, F3.out⟩
end Go.Proofs.YtmhhdlcdfgahkaaDoor
namespace Go.Proofs.YtmhhdlcdfgahkaaDoor

/-- A table. -/
structure Fl where
  num : Int
  size : Int
  least : List Nat
  most : List Nat
/-- An edit. -/
structure Ed where
  log : Int
  next : Int
  seq : Nat
  drop : List (Int × Int)
  add : List (Int × Fl)
def okN (n : Int) : Bool := decide (0 ≤ n) && decide (n ≤ 2147483647)
def okV (n : Int) : Bool := decide (0 ≤ n) && decide (n < 5)
def okF (f : Fl) : Bool := isK f.least && (isK f.most && (decide (ordK f.least f.most ≤ 0) && (okN f.num && okN f.size)))
def okD (g : Int × Int) : Bool := okV g.1 && okN g.2
def okA (p : Int × Fl) : Bool := okV p.1 && okF p.2
def okH (log next : Int) (seq : Nat) : Bool := okN log && (okN next && decide (seq ≤ 72057594037927935))
def okE (e : Ed) : Bool := e.drop.all okD && (e.add.all okA && okH e.log e.next e.seq)
def nb (n : Int) : List Nat := putL n.toNat
def encD (g : Int × Int) : List Nat := nb g.1 ++ nb g.2
def encA (p : Int × Fl) : List Nat := nb p.1 ++ (nb p.2.num ++ (nb p.2.size ++ (putL p.2.least.length ++ (p.2.least ++ (putL p.2.most.length ++ p.2.most)))))
/-- The bytes of an edit. -/
def encE (e : Ed) : List Nat := nb e.log ++ (nb e.next ++ (putL e.seq ++ (putL e.drop.length ++ (e.drop.flatMap encD ++ (putL e.add.length ++ e.add.flatMap encA)))))
theorem okN_iff {n : Int} : okN n = true ↔ 0 ≤ n ∧ n ≤ 2147483647 := by unfold okN; simp
theorem okV_iff {n : Int} : okV n = true ↔ 0 ≤ n ∧ n < 5 := by unfold okV; simp
theorem nb_by (n : Int) : By (nb n) := putL_by _
theorem encD_by (g : Int × Int) : By (encD g) := (nb_by _).append (nb_by _)
theorem encA_by {p : Int × Fl} (h1 : By p.2.least) (h2 : By p.2.most) : By (encA p) := (nb_by _).append ((nb_by _).append ((nb_by _).append ((putL_by _).append (h1.append ((putL_by _).append h2)))))
theorem nb_len {n : Int} (h : n ≤ 2147483647) : (nb n).length ≤ 10 := putL_len10 (by omega)
theorem okF_len {f : Fl} (h : okF f = true) : f.least.length ≤ 136 ∧ f.most.length ≤ 136 := by
  unfold okF at h
  simp only [Bool.and_eq_true] at h
  exact ⟨(isK_len h.1).2.1, (isK_len h.2.1).2.1⟩
end Go.Proofs.YtmhhdlcdfgahkaaDoor
namespace Go.Proofs.YtmhhdlcdfgahkaaDoor
open Go.ChangeShapes Go.WideShapes Go.ChangeAt Go.RowKit

theorem cell_fr {w w' : World} (f : Fr [] w w') {p : Addr} {v : Value} (h : w.cell? p = some v) : w'.cell? p = some v := by
  rw [World.cell?_of_block (w := w) (f.block _ (World.block_lt_of_cell? w _ h) (by simp))]; exact h
/-- A table's two keys. -/
structure FRd (w : World) (f : Fl) (la : Option Addr) (lc : Nat) (ma : Option Addr) (mc : Nat) : Prop where
  rl : Rd w (.slice la f.least.length lc) (bv f.least)
  rm : Rd w (.slice ma f.most.length mc) (bv f.most)
  bl : By f.least
  bm : By f.most
  ll : f.least.length ≤ 140737488355328
  lm : f.most.length ≤ 140737488355328
theorem FRd.fr {w w' : World} {f : Fl} {la ma : Option Addr} {lc mc : Nat} (h : FRd w f la lc ma mc) (g : Fr [] w w') : FRd w' f la lc ma mc := ⟨h.rl.fr g, h.rm.fr g, h.bl, h.bm, h.ll, h.lm⟩
/-- A table at a place. -/
structure FAt (w : World) (b o : Nat) (f : Fl) (la : Option Addr) (lc : Nat) (ma : Option Addr) (mc : Nat) : Prop where
  c0 : w.cell? ⟨b, o, none⟩ = some (.int .i64 f.num)
  c1 : w.cell? ⟨b, o + 1, none⟩ = some (.int .i64 f.size)
  c2 : w.cell? ⟨b, o + 2, none⟩ = some (.slice la f.least.length lc)
  c3 : w.cell? ⟨b, o + 3, none⟩ = some (.slice ma f.most.length mc)
  rd : FRd w f la lc ma mc
theorem FAt.fr {w w' : World} {b o : Nat} {f : Fl} {la ma : Option Addr} {lc mc : Nat} (h : FAt w b o f la lc ma mc) (g : Fr [] w w') : FAt w' b o f la lc ma mc := ⟨cell_fr g h.c0, cell_fr g h.c1, cell_fr g h.c2, cell_fr g h.c3, h.rd.fr g⟩
/-- A row of dropped tables. -/
def RdD (w : World) (v : Value) (gs : List (Int × Int)) : Prop := ∃ a c, v = .slice a gs.length c ∧ (0 < gs.length → ∃ b off, a = some ⟨b, off, none⟩ ∧ ∀ (j : Nat) (g : Int × Int), gs[j]? = some g → w.cell? ⟨b, off + j * 2, none⟩ = some (.int .i64 g.1) ∧ w.cell? ⟨b, off + j * 2 + 1, none⟩ = some (.int .i64 g.2))
theorem RdD.fr {w w' : World} {v : Value} {gs : List (Int × Int)} (h : RdD w v gs) (f : Fr [] w w') : RdD w' v gs := by
  obtain ⟨a, c, h1, h2⟩ := h
  refine ⟨a, c, h1, fun h0 => ?_⟩
  obtain ⟨b, off, h3, h4⟩ := h2 h0
  exact ⟨b, off, h3, fun j g hj => ⟨cell_fr f (h4 j g hj).1, cell_fr f (h4 j g hj).2⟩⟩
/-- A row of placed tables. -/
def RdA (w : World) (v : Value) (ps : List (Int × Fl)) : Prop := ∃ a c, v = .slice a ps.length c ∧ (0 < ps.length → ∃ b off, a = some ⟨b, off, none⟩ ∧ ∀ (j : Nat) (p : Int × Fl), ps[j]? = some p → w.cell? ⟨b, off + j * 5, none⟩ = some (.int .i64 p.1) ∧ ∃ la lc ma mc, FAt w b (off + j * 5 + 1) p.2 la lc ma mc)
theorem RdA.fr {w w' : World} {v : Value} {ps : List (Int × Fl)} (h : RdA w v ps) (f : Fr [] w w') : RdA w' v ps := by
  obtain ⟨a, c, h1, h2⟩ := h
  refine ⟨a, c, h1, fun h0 => ?_⟩
  obtain ⟨b, off, h3, h4⟩ := h2 h0
  refine ⟨b, off, h3, fun j p hj => ?_⟩
  obtain ⟨h5, la, lc, ma, mc, h6⟩ := h4 j p hj
  exact ⟨cell_fr f h5, la, lc, ma, mc, h6.fr f⟩
theorem isNumber_c (w : World) (n : Int) : Calls Tryd.prog 23 #[.int .i64 n] w fun e w' => e = .returned (.bool (okN n)) ∧ w' = w := by
  unfold okN
  by_cases h1 : 0 ≤ n
  · by_cases h2 : n ≤ 2147483647
    · rw [decide_eq_true h1, decide_eq_true h2]
      go_enter Tryd.func23, Tryd.ntmps23
      go_wp2
      go_ret
      exact ⟨rfl, rfl⟩
    · rw [decide_eq_true h1, decide_eq_false h2]
      go_enter Tryd.func23, Tryd.ntmps23
      go_wp2
      go_ret
      exact ⟨rfl, rfl⟩
  · rw [decide_eq_false h1, Bool.false_and]
    go_enter Tryd.func23, Tryd.ntmps23
    go_wp2
    go_ret
    exact ⟨rfl, rfl⟩
theorem isLevel_c (w : World) (n : Int) : Calls Tryd.prog 22 #[.int .i64 n] w fun e w' => e = .returned (.bool (okV n)) ∧ w' = w := by
  unfold okV
  by_cases h1 : 0 ≤ n
  · by_cases h2 : n < 5
    · rw [decide_eq_true h1, decide_eq_true h2]
      go_enter Tryd.func22, Tryd.ntmps22
      go_wp2
      go_ret
      exact ⟨rfl, rfl⟩
    · rw [decide_eq_true h1, decide_eq_false h2]
      go_enter Tryd.func22, Tryd.ntmps22
      go_wp2
      go_ret
      exact ⟨rfl, rfl⟩
  · rw [decide_eq_false h1, Bool.false_and]
    go_enter Tryd.func22, Tryd.ntmps22
    go_wp2
    go_ret
    exact ⟨rfl, rfl⟩
theorem head_c (w : World) (log next : Int) (seq : Nat) : Calls Tryd.prog 25 #[.int .i64 log, .int .i64 next, .int .u64 (seq : Int)] w fun e w' => e = .returned (.bool (okH log next seq)) ∧ w' = w := by
  unfold okH
  have N1 := hid (isNumber_c w log)
  have N2 := hid (isNumber_c w next)
  cases h1 : okN log with
  | false =>
    rw [h1] at N1
    rw [Bool.false_and]
    clear h1 N2
    go_enter Tryd.func25, Tryd.ntmps25
    go_wp2_with (go_at_call 23; refine N1.out.mono ?_; rintro e w1 ⟨rfl, h⟩; rw [h]; clear h)
    go_ret
    exact ⟨rfl, rfl⟩
  | true =>
    rw [h1] at N1
    rw [Bool.true_and]
    clear h1
    cases h2 : okN next with
    | false =>
      rw [h2] at N2
      rw [Bool.false_and]
      clear h2
      go_enter Tryd.func25, Tryd.ntmps25
      go_wp2_with (first | (go_at_call 23; have zz := N3.out; clear zz; refine N2.out.mono ?_; rintro e w1 ⟨rfl, h⟩; rw [h]; clear h) | (go_at_call 23; refine N1.out.mono ?_; rintro e w1 ⟨rfl, h⟩; rw [h]; clear h; have N3 := hid trivial))
      go_ret
      exact ⟨rfl, rfl⟩
    | true =>
      rw [h2] at N2
      rw [Bool.true_and]
      clear h2
      by_cases h3 : seq ≤ 72057594037927935
      · have h3' : (seq : Int) ≤ 72057594037927935 := by omega
        rw [decide_eq_true h3]
        go_enter Tryd.func25, Tryd.ntmps25
        go_wp2_with (first | (go_at_call 23; have zz := N3.out; clear zz; refine N2.out.mono ?_; rintro e w1 ⟨rfl, h⟩; rw [h]; clear h) | (go_at_call 23; refine N1.out.mono ?_; rintro e w1 ⟨rfl, h⟩; rw [h]; clear h; have N3 := hid trivial))
        go_ret
        exact ⟨rfl, rfl⟩
      · have h3' : (72057594037927935 : Int) < (seq : Int) := by omega
        rw [decide_eq_false h3]
        go_enter Tryd.func25, Tryd.ntmps25
        go_wp2_with (first | (go_at_call 23; have zz := N3.out; clear zz; refine N2.out.mono ?_; rintro e w1 ⟨rfl, h⟩; rw [h]; clear h) | (go_at_call 23; refine N1.out.mono ?_; rintro e w1 ⟨rfl, h⟩; rw [h]; clear h; have N3 := hid trivial))
        go_ret
        exact ⟨ret_bool (by simp; omega), rfl⟩
end Go.Proofs.YtmhhdlcdfgahkaaDoor
