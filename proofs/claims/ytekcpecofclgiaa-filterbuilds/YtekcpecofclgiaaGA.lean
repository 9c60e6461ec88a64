/-
  Package block: filters, a bit set, a bit asked for.
-/
import Derived.Test.YtekcpecofclgiaaGN
import Derived.Test.YtekcpecofclgiaaBD
import Derived.Test.YtekcpecofclgiaaE
namespace Go.Proofs.Ytekcpecofclgiaa
open Go.ChangeShapes Go.WideShapes Go.ChangeAt Go.RowKit

set_option maxRecDepth 20000 in
set_option maxHeartbeats 1600000 in
theorem rot_c (w : World) (x : Nat) (hx : x < 4294967296) :
    Calls Try.prog 69 #[.int .u32 (x : Int), .int .i64 (-17)] w fun e w' => e = .returned (.int .u32 (rt x : Int)) ∧ w' = w := by
  have h15 : bits .and .u64 (IntKind.u64.wrap (-17)) 31 = 15 := by kernel_rfl
  have hor : bits .or .u32 (((x * 32768 % 4294967296 : Nat) : Int)) ((x / 131072 : Nat) : Int) = ((rt x : Nat) : Int) := u32_or_nat _ _ (by omega) (by omega)
  have e1 : ((x * 32768 % 4294967296 : Nat) : Int) = (x : Int) * 32768 % 4294967296 := by omega
  have e2 : ((x / 131072 : Nat) : Int) = (x : Int) / 131072 := by omega
  rw [e1, e2] at hor
  have HOR := hid hor
  clear hor e1 e2
  go_enter Try.func69, Try.ntmps69
  go_wp2
  go_ret
  refine ⟨?_, rfl⟩
  rw [← HOR.out]
  rfl
set_option maxRecDepth 20000 in
set_option maxHeartbeats 1600000 in
theorem set_c (w : World) {G B mc : Nat} {m : List Nat} (o : w.ownsRow B 5 1 (.slice (some ⟨G, 0, none⟩) m.length mc) m.length (bv m)) (hb : By m) {bit : Nat} (h : bit / 8 < m.length) (hl : m.length ≤ 1000000000) :
    Calls Try.prog 45 #[.slice (some ⟨G, 0, none⟩) m.length mc, .int .u64 (bit : Int)] w fun e w' => e = .returned (.bool true) ∧ w'.ownsRow B 5 1 (.slice (some ⟨G, 0, none⟩) m.length mc) m.length (bv (setB m bit)) ∧ Fr [G] w w' := by
  rcases o.2 with ⟨e, _⟩ | ⟨g, cap, cur, e, hB, hg, hc1, hc2, hsz, htk⟩
  · simp at e
  simp only [Value.slice.injEq, Option.some.injEq, Addr.mk.injEq] at e
  obtain ⟨⟨rfl, _⟩, _, rfl⟩ := e
  obtain ⟨x, hx⟩ : ∃ x, m[bit / 8]? = some x := ⟨_, List.getElem?_eq_getElem h⟩
  have z := o.cells rfl _ _ (bv_at hx)
  rw [Addr.add_lit, Nat.zero_add] at z
  have hx8 := hb x (List.mem_of_getElem? hx)
  have yf := blk_frozen hg
  have hpw : (2 : Nat) ^ (bit % 8) < 256 := by
    have : 2 ^ (bit % 8) < 2 ^ 8 := Nat.pow_lt_pow_right (by omega) (by omega)
    exact this
  have hor := u8_or_nat x (2 ^ (bit % 8)) hx8 hpw
  have e1 : ((2 ^ (bit % 8) : Nat) : Int) = (2 : Int) ^ (bit % 8) % 256 := by
    rw [← Nat.mod_eq_of_lt hpw]; simp
  rw [e1] at hor
  have S := o.stored (bit / 8) (.int .u8 ((x ||| 2 ^ (bit % 8) : Nat) : Int))
  have hset : (bv m).set (bit / 8) (.int .u8 ((x ||| 2 ^ (bit % 8) : Nat) : Int)) = bv (setB m bit) := by
    unfold setB bv
    rw [List.map_set, List.getD_eq_getElem?_getD, hx]; rfl
  rw [hset] at S
  have HS := hid S
  have HOR := hid hor
  clear hor hset S htk hsz hc1 hc2 hB o hg hx e1 hpw
  go_enter Try.func45, Try.ntmps45
  go_wp2
  go_ret
  rw [HOR.out]
  refine ⟨rfl, HS.out.1, ?_⟩
  exact (Fr.refl _ _).grown HS.out.2 (fun k hk => .inl (by simp at hk; simp [hk]))

end Go.Proofs.Ytekcpecofclgiaa
