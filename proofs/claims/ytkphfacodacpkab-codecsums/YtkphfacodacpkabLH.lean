/-
  The walk of CodecSums.
-/
import Derived.Test.YtkphfacodacpkabSt
import Derived.Deep.Light
import Derived.Test.YtkphfacodacpkabAp
import Derived.Test.YtkphfacodacpkabK
namespace Go.Proofs.Ytkphfacodacpkab
open Go.ChangeShapes Go.WideShapes Go.ChangeAt Go.RowKit

theorem x3_snoc : ∀ (a b c : List Nat) {x y z : Nat} (k : Nat), a[k]? = some x → b[k]? = some y → c[k]? = some z → x3 (a.take (k + 1)) (b.take (k + 1)) (c.take (k + 1)) = x3 (a.take k) (b.take k) (c.take k) ++ [x ^^^ y ^^^ z]
  | [], _, _, _, _, _, _, h, _, _ => by simp at h
  | _, [], _, _, _, _, _, _, h, _ => by simp at h
  | _, _, [], _, _, _, _, _, _, h => by simp at h
  | p :: a, q :: b, r :: c, x, y, z, 0, h1, h2, h3 => by
    simp at h1 h2 h3
    subst h1 h2 h3
    simp [x3]
  | p :: a, q :: b, r :: c, x, y, z, k + 1, h1, h2, h3 => by
    simp only [List.getElem?_cons_succ] at h1 h2 h3
    simp only [List.take_succ_cons, x3, x3_snoc a b c k h1 h2 h3, List.cons_append]
theorem x3_len : ∀ (a b c : List Nat), a.length = b.length → b.length = c.length → (x3 a b c).length = a.length
  | [], [], [], _, _ => rfl
  | _ :: a, _ :: b, _ :: c, h1, h2 => by simp [x3, x3_len a b c (by simpa using h1) (by simpa using h2)]
  | [], [], _ :: _, _, h => by simp at h
  | [], _ :: _, _, h, _ => by simp at h
  | _ :: _, [], _, h, _ => by simp at h
  | _ :: _, _ :: _, [], _, h => by simp at h
theorem x3_by : ∀ (a b c : List Nat), By a → By b → By c → By (x3 a b c)
  | x :: a, y :: b, z :: c, h1, h2, h3 => fun n hn => by
    simp only [x3, List.mem_cons] at hn
    rcases hn with rfl | hn
    · exact Nat.xor_lt_two_pow (n := 8) (Nat.xor_lt_two_pow (n := 8) (h1 x (by simp)) (h2 y (by simp))) (h3 z (by simp))
    · exact x3_by a b c (fun n hn => h1 n (List.mem_cons_of_mem _ hn)) (fun n hn => h2 n (List.mem_cons_of_mem _ hn)) (fun n hn => h3 n (List.mem_cons_of_mem _ hn)) n hn
  | [], _, _, _, _, _ => fun n hn => by simp [x3] at hn
  | _ :: _, [], _, _, _, _ => fun n hn => by simp [x3] at hn
  | _ :: _, _ :: _, [], _, _, _ => fun n hn => by simp [x3] at hn

theorem run_min3 {P : Program} (w : World) (ts : Array TypeId) (t : TypeId) (x y z : Int) : (Builtin.min_ ts t #[.int .i64 x, .int .i64 y, .int .i64 z]).run P w = .ok (.int .i64 (if z < (if y < x then y else x) then z else (if y < x then y else x))) w := by
  simp [Builtin.min_, Builtin.min2]
def min3 (x y z : Nat) : Nat := if z < (if y < x then y else x) then z else (if y < x then y else x)
theorem min3_le (x y z : Nat) : min3 x y z ≤ x ∧ min3 x y z ≤ y ∧ min3 x y z ≤ z := by
  unfold min3; split <;> split at * <;> omega
theorem run_min3n {P : Program} (w : World) (ts : Array TypeId) (t : TypeId) (x y z : Nat) : (Builtin.min_ ts t #[.int .i64 (x : Int), .int .i64 (y : Int), .int .i64 (z : Int)]).run P w = .ok (.int .i64 (min3 x y z : Int)) w := by
  rw [run_min3]
  congr 2
  unfold min3
  by_cases h : y < x
  · rw [if_pos h, if_pos (show (y : Int) < (x : Int) by omega)]
    by_cases g : z < y
    · rw [if_pos g, if_pos (show (z : Int) < (y : Int) by omega)]
    · rw [if_neg g, if_neg (show ¬ (z : Int) < (y : Int) by omega)]
  · rw [if_neg h, if_neg (show ¬ (y : Int) < (x : Int) by omega)]
    by_cases g : z < x
    · rw [if_pos g, if_pos (show (z : Int) < (x : Int) by omega)]
    · rw [if_neg g, if_neg (show ¬ (z : Int) < (x : Int) by omega)]

theorem Rd.cell {w w' : World} {q off c k x : Nat} {a : List Nat} (h : Rd w (.slice (some ⟨q, off, none⟩) a.length c) (bv a)) (hf : Fr [] w w') (hx : a[k]? = some x) : w'.cell? ⟨q, off + k, none⟩ = some (.int .u8 (x : Int)) := by
  rcases h.fr hf with ⟨e, _⟩ | ⟨ad, c', e, _, h5⟩
  · cases e
  · simp only [Value.slice.injEq, Option.some.injEq] at e
    obtain ⟨rfl, _, _⟩ := e
    have := h5 k _ (bv_at hx)
    rwa [Addr.add_lit] at this

set_option maxRecDepth 20000 in
set_option maxHeartbeats 800000 in
theorem sums_big (w : World) (a1 a2 a3 : Option Addr) (l1 l2 l3 c1 c2 c3 : Nat) (hn : 2000 < min3 l1 l2 l3) :
    Calls Try.prog 3 #[.slice a1 l1 c1, .slice a2 l2 c2, .slice a3 l3 c3] w fun e w' => e = .returned (.bool true) ∧ Fr [] w w' := by
  have hmn := fun (w' : World) ts t => run_min3n (P := Try.prog) w' ts t l1 l2 l3
  generalize min3 l1 l2 l3 = n at hn hmn
  go_enter Try.func3, Try.ntmps3
  go_wp2_with fail
  refine (known_c w).mono ?_
  rintro e w1 ⟨rfl, f1⟩
  go_wp2
  go_ret
  exact ⟨rfl, f1⟩

set_option maxRecDepth 20000 in
set_option maxHeartbeats 4000000 in
theorem sums_pos (w : World) {qa oa ca qb ob cb qc oc cc : Nat} {a b c : List Nat} (h1 : Rd w (.slice (some ⟨qa, oa, none⟩) a.length ca) (bv a)) (ha : By a) (hl1 : a.length ≤ 140737488355328) (g1 : a.length ≤ ca) (h2 : Rd w (.slice (some ⟨qb, ob, none⟩) b.length cb) (bv b)) (hb : By b) (_hl2 : b.length ≤ 140737488355328) (g2 : b.length ≤ cb) (h3 : Rd w (.slice (some ⟨qc, oc, none⟩) c.length cc) (bv c)) (hc : By c) (_hl3 : c.length ≤ 140737488355328) (g3 : c.length ≤ cc)
    (hn : min3 a.length b.length c.length ≤ 2000) :
    Calls Try.prog 3 #[.slice (some ⟨qa, oa, none⟩) a.length ca, .slice (some ⟨qb, ob, none⟩) b.length cb, .slice (some ⟨qc, oc, none⟩) c.length cc] w fun e w' => e = .returned (.bool true) ∧ Fr [] w w' := by
  have hmn := fun (w' : World) ts t => run_min3n (P := Try.prog) w' ts t a.length b.length c.length
  obtain ⟨hn1, hn2, hn3⟩ := min3_le a.length b.length c.length
  generalize min3 a.length b.length c.length = n at hn hmn hn1 hn2 hn3
  have R1 := hid h1
  have R2 := hid h2
  have R3 := hid h3
  have B1 := hid ha
  have B2 := hid hb
  have B3 := hid hc
  clear h1 h2 h3 ha hb hc
  go_enter Try.func3, Try.ntmps3
  go_wp2_with fail
  refine (known_c w).mono ?_
  rintro e w1 ⟨rfl, f1⟩
  have F1 := hid f1
  clear f1
  go_wp2_with fail
  clear hmn
  go_loopw [8, 9] (fun v8 v9 wr => ∃ k : Nat, k ≤ n ∧ v9 = .int .i64 (k : Int) ∧ wr.ownsRow w.heap.size 5 1 v8 k (bv (x3 (a.take k) (b.take k) (c.take k))) ∧ Fr [] w wr) (fun _ v9 _ => n - (intOf v9).toNat)
  case atStart => exact ⟨0, by omega, rfl, World.ownsRow_nil _ _ _ _, F1.out⟩
  case round =>
    obtain ⟨k, hk, rfl, ho, hf⟩ := hrel
    have RO := hid ho
    have RF := hid hf
    have hsz := hf.size
    clear ho hf
    by_cases hlt : k < n
    · obtain ⟨x, hx, _⟩ := drop_at (ns := a) (k := k) (by omega)
      obtain ⟨y, hy, _⟩ := drop_at (ns := b) (k := k) (by omega)
      obtain ⟨z, hz, _⟩ := drop_at (ns := c) (k := k) (by omega)
      have k1 := R1.out.cell RF.out hx
      have k2 := R2.out.cell RF.out hy
      have k3 := R3.out.cell RF.out hz
      have x1 := u8_xor_nat x y (B1.out.at hx) (B2.out.at hy)
      have hxy : x ^^^ y < 256 := Nat.xor_lt_two_pow (n := 8) (B1.out.at hx) (B2.out.at hy)
      have x2 := u8_xor_nat (x ^^^ y) z hxy (B3.out.at hz)
      have HS := hid (x3_snoc a b c k hx hy hz)
      have j0 : (k : Int) < (n : Int) := by omega
      have j1 : (k : Int) < (a.length : Int) := by omega
      have j2 : (k : Int) < (b.length : Int) := by omega
      have j3 : (k : Int) < (c.length : Int) := by omega
      have HL : Hid ((x3 (a.take k) (b.take k) (c.take k)).length = k) := by
        unfold Hid
        rw [x3_len _ _ _ (by rw [List.length_take, List.length_take]; omega) (by rw [List.length_take, List.length_take]; omega), List.length_take]; omega
      generalize x ^^^ y = m1 at x1 x2 HS hxy
      generalize m1 ^^^ z = m2 at x2 HS
      clear hx hy hz hxy
      have RA : Hid ((wr.alloc (.cells #[.int .u8 (m2 : Int)] 5)).drew.ownsRow w.heap.size 5 1 u8 k (bv (x3 (a.take k) (b.take k) (c.take k)))) := RO.out.alloc _
      have RC : Hid ((wr.alloc (.cells #[.int .u8 (m2 : Int)] 5)).drew.cell? ⟨wr.heap.size, 0, none⟩ = some (.int .u8 (m2 : Int))) := by
        unfold Hid; rw [blk_cell (show (wr.alloc (.cells #[.int .u8 (m2 : Int)] 5)).drew.heap[wr.heap.size]? = _ from blk_new wr _)]; rfl
      have RZ : Hid (w.heap.size ≤ (wr.alloc (.cells #[.int .u8 (m2 : Int)] 5)).drew.heap.size) := by
        show w.heap.size ≤ (wr.alloc _).heap.size
        simp; omega
      have RG : Hid (Fr [] w (wr.alloc (.cells #[.int .u8 (m2 : Int)] 5)).drew) := (RF.out.alloc _).drew
      go_wp2_with fail
      go_region_law (
        refine step_append_one rfl (.tmp 26) (.tmp 41) rfl w.heap.size RA.out (by simp [Act.eval]) wr.heap.size (by simp [Act.eval]) RC.out (by omega) RZ.out ?_
        intro v' w2 o1 o2
        have O1 := hid o1
        have O2 := hid (RG.out.grew RA.out (Nat.le_refl _) o2)
        clear o1 o2)
      all_goals (
        have B : Hid (w2.ownsRow w.heap.size 5 1 v' (k + 1) (bv (x3 (a.take (k + 1)) (b.take (k + 1)) (c.take (k + 1)))) ∧ Fr [] w w2) := by
          refine ⟨?_, O2.out⟩
          rw [HS.out, bv_append]; exact O1.out
        clear O1 O2 RA RC RZ RG
        go_wp2
        go_roundw
        case rel => go_light; exact ⟨k + 1, by omega, by go_num, B.out⟩
        case measure => go_light; simp [intOf]; omega)
    · have hkn : k = n := by omega
      subst hkn
      obtain ⟨ao, ac, hvo, _⟩ := ownsRow_slice RO.out
      subst hvo
      have e1 : (a.take k).length = k := by rw [List.length_take]; omega
      have e2 : (b.take k).length = k := by rw [List.length_take]; omega
      have e3 : (c.take k).length = k := by rw [List.length_take]; omega
      have eL : (x3 (a.take k) (b.take k) (c.take k)).length = k := by rw [x3_len _ _ _ (by omega) (by omega), e1]
      have S0 : Hid (∀ m, Calls Try.prog 7 #[.slice ao k ac] (wr.drewN m) fun e w' => e = .returned (.int .u32 (crc (x3 (a.take k) (b.take k) (c.take k)) : Int)) ∧ w' = wr.drewN m) := fun m => by
        have hr : Rd (wr.drewN m) (.slice ao k ac) (bv (x3 (a.take k) (b.take k) (c.take k))) := by
          exact (Rd.ownN RO.out eL.symm).fr ((Fr.refl [] wr).drewN m)
        exact sum_c hr (x3_by _ _ _ (B1.out.take k) (B2.out.take k) (B3.out.take k)) (by omega)
      have S1 : Hid (∀ m, Calls Try.prog 7 #[.slice (some ⟨qa, oa, none⟩) k ca] (wr.drewN m) fun e w' => e = .returned (.int .u32 (crc (a.take k) : Int)) ∧ w' = wr.drewN m) := fun m =>
        sum_c (((R1.out.fr RF.out).front hn1).fr ((Fr.refl [] wr).drewN m)) (B1.out.take k) (by omega)
      have S2 : Hid (∀ m, Calls Try.prog 7 #[.slice (some ⟨qb, ob, none⟩) k cb] (wr.drewN m) fun e w' => e = .returned (.int .u32 (crc (b.take k) : Int)) ∧ w' = wr.drewN m) := fun m =>
        sum_c (((R2.out.fr RF.out).front hn2).fr ((Fr.refl [] wr).drewN m)) (B2.out.take k) (by omega)
      have S3 : Hid (∀ m, Calls Try.prog 7 #[.slice (some ⟨qc, oc, none⟩) k cc] (wr.drewN m) fun e w' => e = .returned (.int .u32 (crc (c.take k) : Int)) ∧ w' = wr.drewN m) := fun m =>
        sum_c (((R3.out.fr RF.out).front hn3).fr ((Fr.refl [] wr).drewN m)) (B3.out.take k) (by omega)
      have hx := crc_x3 (a := a.take k) (b := b.take k) (c := c.take k) (by omega) (by omega)
      have p1 := crc_lt (B1.out.take k)
      have p2 := crc_lt (B2.out.take k)
      have p3 := crc_lt (B3.out.take k)
      generalize crc (x3 (a.take k) (b.take k) (c.take k)) = y0 at S0 hx
      generalize crc (a.take k) = y1 at S1 hx p1
      generalize crc (b.take k) = y2 at S2 hx p2
      generalize crc (c.take k) = y3 at S3 hx p3
      have z1 := u32_xor_nat y1 y2 p1 p2
      have z2 := u32_xor_nat (y1 ^^^ y2) y3 (xor_lt32 p1 p2) p3
      generalize y1 ^^^ y2 = y4 at z1 z2 hx
      generalize y4 ^^^ y3 = y5 at z2 hx
      subst hx
      clear e1 e2 e3 eL p1 p2 p3
      go_wp2_with fail
      go_quiet (first | (go_at_call_of 7 (Value.slice ao k ac); exact Calls.quiet_of_same (S0.out _)) | (go_at_call_of 7 (Value.slice (some ⟨qa, oa, none⟩) k ca); exact Calls.quiet_of_same (S1.out _)) | (go_at_call_of 7 (Value.slice (some ⟨qb, ob, none⟩) k cb); exact Calls.quiet_of_same (S2.out _)) | (go_at_call_of 7 (Value.slice (some ⟨qc, oc, none⟩) k cc); exact Calls.quiet_of_same (S3.out _)))
      go_wp2
      go_ret
      exact ⟨by simp, RF.out.drewN _⟩
end Go.Proofs.Ytkphfacodacpkab
