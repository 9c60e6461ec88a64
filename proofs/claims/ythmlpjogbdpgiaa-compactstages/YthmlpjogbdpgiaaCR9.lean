/-
  known of layer 10: three entries merged.
-/
import Derived.Test.YthmlpjogbdpgiaaCQ9
import Derived.Test.YthmlpjogbdpgiaaJ04
import Derived.Lib.ConvBytes
namespace Go.Proofs.Ythmlpjogbdpgiaa
open Go.ChangeShapes Go.WideShapes Go.ChangeAt Go.RowKit

theorem fr_bytes (w : World) (e : TypeId) (s : ByteArray) : Fr [] w (Lib.bytesWorld w e s) :=
  ⟨rfl, rfl, rfl, by rw [Lib.bytesWorld_size]; omega, fun k hk _ => Lib.bytesWorld_at_old w e s k hk⟩
theorem rd_bytes (w : World) : Rd (Lib.bytesWorld w 5 ⟨#[97]⟩) (.slice (some ⟨w.heap.size, 0, none⟩) 1 (grownCap w 1 0 5)) (bv [97]) := by
  refine .inr ⟨_, _, rfl, ?_, fun j u hj => ?_⟩
  · have := grownCap_ge w 1 0 5
    simpa [bv] using this
  · have h0 : j = 0 := by
      rcases Nat.eq_zero_or_pos j with h | h
      · exact h
      · rw [List.getElem?_eq_none (by simp [bv]; omega)] at hj; cases hj
    subst h0
    rw [Addr.add_lit, Nat.zero_add, Lib.bytesWorld_cell w _ _ 0 (by decide)]
    simpa [bv] using hj
set_option maxRecDepth 20000 in
set_option maxHeartbeats 1600000 in
theorem key_c (w : World) (sq kd : Nat) (hs : sq ≤ 72057594037927935) (hk : kd ≤ 1) :
    Calls Try.prog 24 #[.string ⟨#[97]⟩, .int .u64 (sq : Int), .int .i64 (kd : Int)] w fun e w' => ∃ ka kc, e = .returned (.agg #[.slice ka 9 kc, .slice none 0 0]) ∧ w'.ownsRow w.heap.size 5 1 (.slice ka 9 kc) 9 (bv (keyL [97] sq kd)) ∧ Fr [] w w' := by
  obtain ⟨W0, hW0⟩ : ∃ W0, W0 = w.alloc (.cells #[.slice none 0 0, .slice none 0 0] 50) := ⟨_, rfl⟩
  have F0 : Fr [] w W0 := by rw [hW0]; exact (Fr.refl _ _).alloc _
  have b0 : W0.heap[w.heap.size]? = some (.cells #[.slice none 0 0, .slice none 0 0] 50 (0, 0)) := by rw [hW0]; exact blk_new _ _
  have hcv := Lib.run_convert_string_bytes (P := Try.prog) W0 9 35 5 ⟨#[97]⟩ Try.underlying9 Try.underlying35 Try.underlying5
  have hsz : (⟨#[97]⟩ : ByteArray).size = 1 := rfl
  rw [hsz] at hcv
  have FB := fr_bytes W0 5 ⟨#[97]⟩
  have KO := hid (key_ok _ (rd_bytes W0) (by simp) sq kd hs hk)
  have hkl : (keyL [97] sq kd).length = 9 := by unfold keyL; rw [List.length_append, fixL_len]; rfl
  rw [hkl] at KO
  have F1 := hid (F0.trans FB)
  have B1 := hid (FB.at b0 (by simp))
  clear hkl F0 b0 FB hsz
  generalize Lib.bytesWorld W0 5 ⟨#[97]⟩ = W1 at *
  generalize grownCap W0 1 0 5 = gc at *
  go_enter Try.func24, Try.ntmps24
  go_upto_region 1 with fail
  rw [← hW0]
  clear hW0
  go_upto_region 2 with (go_at_call 38; refine KO.out.mono ?_; rintro e w2 ⟨kv, rfl, o2, f2⟩; obtain ⟨ka, kc, rfl, _⟩ := ownsRow_slice o2; have O2 := hid o2; have F12 := hid f2; clear o2 f2)
  have b2 := F12.out.at B1.out (by simp)
  have B2 := hid b2
  have z0 := blk_frozen b2 0
  have z1 := blk_frozen b2 1
  have y0 : w2.cell? ⟨w.heap.size, 0, none⟩ = some (.slice none 0 0) := by rw [blk_cell b2]; rfl
  have y1 : w2.cell? ⟨w.heap.size, 1, none⟩ = some (.slice none 0 0) := by rw [blk_cell b2]; rfl
  have FE : Hid (Fr [] w ((w2.setCell ⟨w.heap.size, 0, none⟩ (.slice ka 9 kc)).setCell ⟨w.heap.size, 1, none⟩ (.slice none 0 0))) := hid (((F1.out.trans F12.out).set _ _ (.inr (Nat.le_refl _))).set _ _ (.inr (Nat.le_refl _)))
  clear b2
  go_wp2
  refine bodyPost_ret (ret_cK rfl rfl (load_kv (two_set B2.out))) rfl ?_
  refine ⟨ka, kc, rfl, ?_, FE.out⟩
  refine ownsRow_of_block (own_baseC O2.out F1.out.size) fun k hk => ?_
  have hne : k ≠ w.heap.size := fun e => own_not O2.out B2.out (by decide) (by rw [← e]; exact hk)
  rw [blk_setne _ _ _ hne, blk_setne _ _ _ hne]
def kX (s k : Nat) : List Nat := keyL [97] s k
def LLx : List Ps := [[(kX 5 1, []), (kX 1 0, [])], [(kX 3 1, [])]]
def SX : Ps := [(kX 5 1, []), (kX 3 1, []), (kX 1 0, [])]
theorem llx_rises : ∀ p ∈ LLx, Rises p := by
  have h : (∀ i, i < 2 → flw (ahd [(kX 5 1, []), (kX 1 0, [])] i) (kA [(kX 5 1, []), (kX 1 0, [])] i) = true) ∧ ∀ i, i < 1 → flw (ahd [(kX 3 1, [])] i) (kA [(kX 3 1, [])] i) = true := by decide +kernel
  intro p hp
  simp only [LLx, List.mem_cons, List.not_mem_nil, or_false] at hp
  rcases hp with rfl | rfl
  · exact h.1
  · exact h.2
theorem sx_mg : MgS LLx.flatten SX := by
  refine ⟨by decide +kernel, by decide +kernel⟩
theorem sx_kept : kept 4 [] SX SX.length = [(kX 5 1, []), (kX 3 1, [])] := by decide +kernel
theorem kx_facts : (∀ x ∈ [kX 5 1, kX 1 0, kX 3 1], x.length = 9) ∧ ∀ x ∈ [kX 5 1, kX 1 0, kX 3 1], By x := by
  refine ⟨by decide +kernel, fun x hx => ?_⟩
  simp only [List.mem_cons, List.not_mem_nil, or_false] at hx
  rcases hx with rfl | rfl | rfl <;> (unfold By; decide +kernel)
theorem own9 {w : World} {B : Nat} {ka : Option Addr} {kc s k : Nat} (o : w.ownsRow B 5 1 (.slice ka 9 kc) 9 (bv (keyL [97] s k))) (h : kX s k ∈ [kX 5 1, kX 1 0, kX 3 1]) : Rd w (.slice ka (kX s k).length kc) (bv (kX s k)) := by
  have h1 := kx_facts.1 _ h
  rw [h1]
  exact Rd.ownN o h1.symm
theorem wpAnyH_strC {P : Program} {md : Region.Mode} {ops : Array Oper} {Q : Exit → Act → World → Prop} {S S' : World → Prop} (h : ∀ w, S' w → S w) : ∀ (fuel : Nat) (listed : Array Bool) (a : Act) (w : World), wpAnyH P md ops Q S' fuel listed a w → wpAnyH P md ops Q S fuel listed a w
  | 0, _, _, _, k => k
  | fuel + 1, _, _, _, k => ⟨k.1, fun i hi => wpOp_mono (fun a' w' h' => ⟨h _ h'.1, wpAnyH_strC h fuel _ a' w' h'.2⟩) (k.2 i hi)⟩
theorem rdk_two {w : World} {b : Nat} {ka kb : Option Addr} {kc kd c1 c2 : Nat} {T : TypeId} {x y : List Nat} (h : w.heap[b]? = some (.cells #[.slice ka 9 kc, .slice none 0 c1, .slice kb 9 kd, .slice none 0 c2] T (0, 0))) (hx : x.length = 9) (hy : y.length = 9) (rx : Rd w (.slice ka x.length kc) (bv x)) (ry : Rd w (.slice kb y.length kd) (bv y)) (bx : By x) (b_y : By y) (hc : c1 = 0 ∧ c2 = 0) : RdK w (.slice (some ⟨b, 0, none⟩) 2 2) [(x, []), (y, [])] := by
  obtain ⟨rfl, rfl⟩ := hc
  have b0 : By [] := fun n hn => by cases hn
  refine ⟨_, 2, rfl, by simp, fun _ => ⟨b, 0, rfl, fun j p hj => ?_⟩⟩
  match j, hj with
  | 0, hj =>
    obtain rfl : _ = p := Option.some.inj hj
    exact ⟨ka, kc, none, 0, ⟨by rw [blk_cell h]; dsimp only; rw [hx]; rfl, by rw [blk_cell h]; rfl, rx, .inl ⟨rfl, rfl⟩, bx, b0, by dsimp only; omega, by simp⟩⟩
  | 1, hj =>
    obtain rfl : _ = p := Option.some.inj hj
    exact ⟨kb, kd, none, 0, ⟨by rw [blk_cell h]; dsimp only; rw [hy]; rfl, by rw [blk_cell h]; rfl, ry, .inl ⟨rfl, rfl⟩, b_y, b0, by dsimp only; omega, by simp⟩⟩
theorem rdk_one {w : World} {b : Nat} {ka : Option Addr} {kc : Nat} {T : TypeId} {x : List Nat} (h : w.heap[b]? = some (.cells #[.slice ka 9 kc, .slice none 0 0] T (0, 0))) (hx : x.length = 9) (rx : Rd w (.slice ka x.length kc) (bv x)) (bx : By x) : RdK w (.slice (some ⟨b, 0, none⟩) 1 1) [(x, [])] := by
  have b0 : By [] := fun n hn => by cases hn
  refine ⟨_, 1, rfl, by simp, fun _ => ⟨b, 0, rfl, fun j p hj => ?_⟩⟩
  match j, hj with
  | 0, hj =>
    obtain rfl : _ = p := Option.some.inj hj
    exact ⟨ka, kc, none, 0, ⟨by rw [blk_cell h]; dsimp only; rw [hx]; rfl, by rw [blk_cell h]; rfl, rx, .inl ⟨rfl, rfl⟩, bx, b0, by dsimp only; omega, by simp⟩⟩
set_option maxRecDepth 20000 in
set_option maxHeartbeats 6400000 in
theorem known10_c (w : World) : Calls Try.prog 8 #[] w fun e w' => e = .returned (.bool true) ∧ Fr [] w w' ∧ 0 < w'.heap.size := by
  have K1 : Hid (∀ W, Calls Try.prog 24 #[.string ⟨#[97]⟩, .int .u64 5, .int .i64 1] W fun e w' => ∃ ka kc, e = .returned (.agg #[.slice ka 9 kc, .slice none 0 0]) ∧ w'.ownsRow W.heap.size 5 1 (.slice ka 9 kc) 9 (bv (keyL [97] 5 1)) ∧ Fr [] W w') := hid (fun W => key_c W 5 1 (by omega) (by omega))
  have K2 : Hid (∀ W, Calls Try.prog 24 #[.string ⟨#[97]⟩, .int .u64 1, .int .i64 0] W fun e w' => ∃ ka kc, e = .returned (.agg #[.slice ka 9 kc, .slice none 0 0]) ∧ w'.ownsRow W.heap.size 5 1 (.slice ka 9 kc) 9 (bv (keyL [97] 1 0)) ∧ Fr [] W w') := hid (fun W => key_c W 1 0 (by omega) (by omega))
  have K3 : Hid (∀ W, Calls Try.prog 24 #[.string ⟨#[97]⟩, .int .u64 3, .int .i64 1] W fun e w' => ∃ ka kc, e = .returned (.agg #[.slice ka 9 kc, .slice none 0 0]) ∧ w'.ownsRow W.heap.size 5 1 (.slice ka 9 kc) 9 (bv (keyL [97] 3 1)) ∧ Fr [] W w') := hid (fun W => key_c W 3 1 (by omega) (by omega))
  go_enter Try.func8, Try.ntmps8
  go_wp2_with fail
  refine (K1.out _).mono ?_
  rintro e w1 ⟨ka1, kc1, rfl, o1, f1⟩
  have O1 := hid o1
  have F1 := hid f1
  clear o1 f1
  go_wp2_with fail
  refine (K2.out _).mono ?_
  rintro e w2 ⟨ka2, kc2, rfl, o2, f2⟩
  have O2 := hid o2
  have F2 := hid f2
  clear o2 f2
  go_wp2_with fail
  refine (K3.out _).mono ?_
  rintro e w3 ⟨ka3, kc3, rfl, o3, f3⟩
  have O3 := hid o3
  have F3 := hid f3
  clear o3 f3
  go_wp2_with fail
  obtain ⟨W5, hW5⟩ : ∃ W5, W5 = (w3.alloc (.cells #[.slice ka3 9 kc3, .slice none 0 0] 50)).alloc (.cells #[.slice (some ⟨w2.heap.size, 0, none⟩) 2 2, .slice (some ⟨w3.heap.size, 0, none⟩) 1 1] 27) := ⟨_, rfl⟩
  rw [← hW5]
  have F35 : Fr [] w3 W5 := by rw [hW5]; exact ((Fr.refl _ _).alloc _).alloc _
  have F25 : Fr [] w2 W5 := ((Fr.refl [] w2).alloc _).trans (F3.out.trans F35)
  have b1 : W5.heap[w2.heap.size]? = some (.cells #[.slice ka1 9 kc1, .slice none 0 0, .slice ka2 9 kc2, .slice none 0 0] 50 (0, 0)) := F35.at (F3.out.at (blk_new _ _) (by simp)) (by simp)
  have b2 : W5.heap[w3.heap.size]? = some (.cells #[.slice ka3 9 kc3, .slice none 0 0] 50 (0, 0)) := by rw [hW5, blk_old _ _ (by simp)]; exact blk_new _ _
  have b3 : W5.heap[w3.heap.size + 1]? = some (.cells #[.slice (some ⟨w2.heap.size, 0, none⟩) 2 2, .slice (some ⟨w3.heap.size, 0, none⟩) 1 1] 27 (0, 0)) := by rw [hW5]; exact new_at _ _ (by simp)
  have r1 := (own9 O1.out (by simp)).fr (F2.out.trans F25)
  have r2 := (own9 O2.out (by simp)).fr F25
  have r3 := (own9 O3.out (by simp)).fr F35
  have q1 := rdk_two b1 (kx_facts.1 _ (by simp)) (kx_facts.1 _ (by simp)) r1 r2 (kx_facts.2 _ (by simp)) (kx_facts.2 _ (by simp)) ⟨rfl, rfl⟩
  have q2 := rdk_one b2 (kx_facts.1 _ (by simp)) r3 (kx_facts.2 _ (by simp))
  have hL : RdLL W5 (.slice (some ⟨w3.heap.size + 1, 0, none⟩) 2 2) LLx := by
    refine ⟨_, 2, rfl, by decide, fun _ => ⟨_, 0, rfl, fun i p hi => ?_⟩⟩
    match i, hi with
    | 0, hi =>
      obtain rfl : _ = p := Option.some.inj hi
      exact ⟨_, _, by rw [blk_cell b3]; rfl, q1⟩
    | 1, hi =>
      obtain rfl : _ = p := Option.some.inj hi
      exact ⟨_, _, by rw [blk_cell b3]; rfl, q2⟩
  have MC := hid (merge_c W5 hL (RdK.nil W5) (by decide) (by decide) (by simp) (by have := blk_lt b1; omega) 4)
  have FW5 := hid ((F1.out.trans F2.out).trans F25)
  have HZ5 := hid (Nat.lt_of_le_of_lt (Nat.zero_le _) (blk_lt b3))
  clear hW5 F35 F25 b1 b2 b3 r1 r2 r3 q1 q2 hL O1 O2 O3
  refine MC.out.mono ?_
  rintro e w6 ⟨mo, f6⟩
  have F6 := hid (FW5.out.trans f6)
  have HZ6 := hid (Nat.lt_of_lt_of_le HZ5.out f6.size)
  obtain ⟨v, rfl, co⟩ : ∃ v, e = .returned (.tuple #[v, .int .i64 0]) ∧ ColO w6 W5.heap.size v [(kX 5 1, []), (kX 3 1, [])] := by
    rcases mo with ⟨S, v, _, hS, rfl, co⟩ | ⟨h, _⟩
    · obtain rfl := sx_mg.one hS
      rw [sx_kept] at co
      exact ⟨v, rfl, co⟩
    · rcases h with ⟨p, hp, hn⟩ | h
      · exact absurd (llx_rises p hp) hn
      · exact absurd sx_mg (h SX)
  obtain ⟨va, vc, hv, _, hk1⟩ := co.rd
  subst hv
  obtain ⟨b, off, rfl, m⟩ := hk1 (by simp)
  obtain ⟨ka, kc, _, _, P⟩ := m 0 _ rfl
  have CK := hid P.ck
  have RK := hid P.rk
  clear m P co mo f6 MC hk1
  simp only [Nat.zero_mul, Nat.add_zero] at CK
  have CK9 : Hid (w6.cell? ⟨b, off, none⟩ = some (.slice ka 9 kc)) := hid (by rw [CK.out, kx_facts.1 _ (by simp)])
  have RK9 : Hid (Rd w6 (.slice ka 9 kc) (bv (kX 5 1))) := hid (by have := RK.out; dsimp only at this; rwa [kx_facts.1 _ (by simp)] at this)
  have hbq := ba_beq (strOf (kX 5 1))
  clear CK RK
  go_upto_region 2 with fail
  refine wp_region_held_drew (S := fun wx => Fr [] w6 wx) (by kernel_rfl) ((Fr.refl _ _).drew) (fun hS => ?_)
  refine wpAnyH_take (i := 0) (v := .int .i64 0) rfl (by kernel_rfl) (by kernel_rfl) (by kernel_rfl) (fun _ _ _ h => h) (.inl ⟨by rfl, fun wx _ => by go_simp⟩) hS ?_
  simp only [Act.put, List.getElem_toArray, List.getElem_cons_zero, List.set_cons_succ, List.set_cons_zero, List.setIfInBounds_toArray]
  refine wpAnyH_take (i := 1) (v := .bool true) rfl (by kernel_rfl) (by kernel_rfl) (by kernel_rfl) (fun _ _ _ h => h) (.inl ⟨by kernel_rfl, fun wx _ => by go_simp⟩) hS ?_
  simp only [Act.put, List.getElem_toArray, List.getElem_cons_succ, List.getElem_cons_zero, List.set_cons_succ, List.set_cons_zero, List.setIfInBounds_toArray]
  refine wpAnyH_take (i := 2) (v := .bool true) rfl (by kernel_rfl) (by kernel_rfl) (by kernel_rfl) (fun _ _ _ h => h) (.inl ⟨by kernel_rfl, fun wx _ => by go_simp⟩) hS ?_
  simp only [Act.put, List.getElem_toArray, List.getElem_cons_succ, List.getElem_cons_zero, List.set_cons_succ, List.set_cons_zero, List.setIfInBounds_toArray]
  refine wpAnyH_take (i := 3) (v := .slice (some ⟨b, off, none⟩) 2 vc) rfl (by kernel_rfl) (by kernel_rfl) (by kernel_rfl) (fun _ _ _ h => h) (.inl ⟨by kernel_rfl, fun wx _ => by go_simp⟩) hS ?_
  simp only [Act.put, List.getElem_toArray, List.getElem_cons_succ, List.getElem_cons_zero, List.set_cons_succ, List.set_cons_zero, List.setIfInBounds_toArray]
  refine wpAnyH_take (i := 4) (v := .int .i64 2) rfl (by kernel_rfl) (by kernel_rfl) (by kernel_rfl) (fun _ _ _ h => h) (.inl ⟨by kernel_rfl, fun wx _ => by go_simp⟩) hS ?_
  simp only [Act.put, List.getElem_toArray, List.getElem_cons_succ, List.getElem_cons_zero, List.set_cons_succ, List.set_cons_zero, List.setIfInBounds_toArray]
  refine wpAnyH_take (i := 5) (v := .bool true) rfl (by kernel_rfl) (by kernel_rfl) (by kernel_rfl) (fun _ _ _ h => h) (.inl ⟨by kernel_rfl, fun wx _ => by go_simp⟩) hS ?_
  simp only [Act.put, List.getElem_toArray, List.getElem_cons_succ, List.getElem_cons_zero, List.set_cons_succ, List.set_cons_zero, List.setIfInBounds_toArray]
  refine wpAnyH_take (i := 6) (v := .bool true) rfl (by kernel_rfl) (by kernel_rfl) (by kernel_rfl) (fun _ _ _ h => h) (.inl ⟨by kernel_rfl, fun wx _ => by go_simp⟩) hS ?_
  simp only [Act.put, List.getElem_toArray, List.getElem_cons_succ, List.getElem_cons_zero, List.set_cons_succ, List.set_cons_zero, List.setIfInBounds_toArray]
  refine wpAnyH_take (i := 7) (v := .bool true) rfl (by kernel_rfl) (by kernel_rfl) (by kernel_rfl) (fun _ _ _ h => h) (.inl ⟨by kernel_rfl, fun wx _ => by go_simp⟩) hS ?_
  simp only [Act.put, List.getElem_toArray, List.getElem_cons_succ, List.getElem_cons_zero, List.set_cons_succ, List.set_cons_zero, List.setIfInBounds_toArray]
  refine wpAnyH_take (i := 8) (v := .slice (some ⟨b, off, none⟩) 2 vc) rfl (by kernel_rfl) (by kernel_rfl) (by kernel_rfl) (fun _ _ _ h => h) (.inl ⟨by kernel_rfl, fun wx _ => by go_simp⟩) hS ?_
  simp only [Act.put, List.getElem_toArray, List.getElem_cons_succ, List.getElem_cons_zero, List.set_cons_succ, List.set_cons_zero, List.setIfInBounds_toArray]
  refine wpAnyH_take (i := 9) (v := .pointer (some ⟨b, off, none⟩)) rfl (by kernel_rfl) (by kernel_rfl) (by kernel_rfl) (fun _ _ _ h => h) (.inl ⟨by kernel_rfl, fun wx _ => by go_simp⟩) hS ?_
  simp only [Act.put, List.getElem_toArray, List.getElem_cons_succ, List.getElem_cons_zero, List.set_cons_succ, List.set_cons_zero, List.setIfInBounds_toArray]
  refine wpAnyH_take (i := 10) (v := .pointer (some ⟨b, off, none⟩)) rfl (by kernel_rfl) (by kernel_rfl) (by kernel_rfl) (fun _ _ _ h => h) (.inl ⟨by kernel_rfl, fun wx _ => by go_simp⟩) hS ?_
  simp only [Act.put, List.getElem_toArray, List.getElem_cons_succ, List.getElem_cons_zero, List.set_cons_succ, List.set_cons_zero, List.setIfInBounds_toArray]
  refine wpAnyH_take (i := 11) (v := .slice ka 9 kc) rfl (by kernel_rfl) (by kernel_rfl) (by kernel_rfl) (fun _ _ _ h => h) (.inl ⟨by kernel_rfl, fun wx hX => by have x0 := cell_fr hX CK9.out; go_simp⟩) hS ?_
  simp only [Act.put, List.getElem_toArray, List.getElem_cons_succ, List.getElem_cons_zero, List.set_cons_succ, List.set_cons_zero, List.setIfInBounds_toArray]
  refine wpAnyH_take (i := 12) (v := .string (strOf (kX 5 1))) rfl (by kernel_rfl) (by kernel_rfl) (by kernel_rfl) (fun _ _ _ h => h) (.inl ⟨by kernel_rfl, fun wx hX => by have x0 := run_conv (RK9.out.fr hX); go_simp⟩) hS ?_
  simp only [Act.put, List.getElem_toArray, List.getElem_cons_succ, List.getElem_cons_zero, List.set_cons_succ, List.set_cons_zero, List.setIfInBounds_toArray]
  clear hS
  refine wpAnyH_ready (rs := [13]) (by kernel_rfl) (by simp) ?_
  refine AllReadyH.cons rfl (fun K hK => ?_) AllReadyH.nil
  go_simp
  refine (K1.out _).mono ?_
  rintro e w7 ⟨ka7, kc7, rfl, o7, f7⟩
  have F67 := hid ((Fr.refl [] w6).drew.trans f7)
  have RK7 : Hid (Rd w7 (.slice ka7 9 kc7) (bv (kX 5 1))) := hid (Rd.ownN o7 (kx_facts.1 _ (by simp)).symm)
  refine hK.out _ _ F67.out (fun _ => ?_)
  clear hK K f7 o7
  refine wpAnyH_strC (S' := fun wx => Fr [] w7 wx) (fun wx h => F67.out.trans h) _ _ _ _ ?_
  have hS : Fr [] w7 w7 := Fr.refl _ _
  refine wpAnyH_take (i := 14) (v := .slice ka7 9 kc7) rfl (by kernel_rfl) (by kernel_rfl) (by kernel_rfl) (fun _ _ _ h => h) (.inl ⟨by kernel_rfl, fun wx _ => by have hfd : Sem.run Try.prog (Instr.field 50 (.agg #[.slice ka7 9 kc7, .slice none 0 0]) 0) wx = .ok (.slice ka7 9 kc7) wx := (by kernel_rfl); go_simp⟩) hS ?_
  simp only [Act.put, List.getElem_toArray, List.getElem_cons_succ, List.getElem_cons_zero, List.set_cons_succ, List.set_cons_zero, List.setIfInBounds_toArray]
  refine wpAnyH_take (i := 15) (v := .string (strOf (kX 5 1))) rfl (by kernel_rfl) (by kernel_rfl) (by kernel_rfl) (fun _ _ _ h => h) (.inl ⟨by kernel_rfl, fun wx hX => by have x0 := run_conv (RK7.out.fr hX); go_simp⟩) hS ?_
  simp only [Act.put, List.getElem_toArray, List.getElem_cons_succ, List.getElem_cons_zero, List.set_cons_succ, List.set_cons_zero, List.setIfInBounds_toArray]
  refine wpAnyH_take (i := 16) (v := .bool true) rfl (by kernel_rfl) (by kernel_rfl) (by kernel_rfl) (fun _ _ _ h => h) (.inl ⟨by kernel_rfl, fun wx _ => by go_simp⟩) hS ?_
  simp only [Act.put, List.getElem_toArray, List.getElem_cons_succ, List.getElem_cons_zero, List.set_cons_succ, List.set_cons_zero, List.setIfInBounds_toArray]
  refine wpAnyH_take (i := 17) (v := .bool true) rfl (by kernel_rfl) (by kernel_rfl) (by kernel_rfl) (fun _ _ _ h => h) (.inl ⟨by kernel_rfl, fun wx _ => by go_simp⟩) hS ?_
  simp only [Act.put, List.getElem_toArray, List.getElem_cons_succ, List.getElem_cons_zero, List.set_cons_succ, List.set_cons_zero, List.setIfInBounds_toArray]
  refine wpAnyH_take (i := 18) (v := .bool true) rfl (by kernel_rfl) (by kernel_rfl) (by kernel_rfl) (fun _ _ _ h => h) (.inl ⟨by kernel_rfl, fun wx _ => by go_simp⟩) hS ?_
  simp only [Act.put, List.getElem_toArray, List.getElem_cons_succ, List.getElem_cons_zero, List.set_cons_zero, List.setIfInBounds_toArray]
  clear hS
  refine wpAnyH_done (by kernel_rfl) ?_ _
  go_wp2
  go_ret
  exact ⟨rfl, F6.out.trans F67.out, Nat.lt_of_lt_of_le HZ6.out F67.out.size⟩
end Go.Proofs.Ythmlpjogbdpgiaa
