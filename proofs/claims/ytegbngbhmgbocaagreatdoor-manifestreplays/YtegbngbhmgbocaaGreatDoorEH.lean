/-
  Encode's closures: numbers and keys put behind one another.
-/
import Derived.Test.YtegbngbhmgbocaaGreatDoorJ09
import Derived.Test.YtegbngbhmgbocaaGreatDoorJ02
import Derived.Test.YtegbngbhmgbocaaGreatDoorJ11
import Derived.Deep.RegionHeld
import Derived.Laws.EntriesVeiled
namespace Go.Proofs.YtegbngbhmgbocaaGreatDoor
open Go.ChangeShapes Go.WideShapes Go.ChangeAt Go.RowKit

theorem own_not {w : World} {B s n : Nat} {e T : TypeId} {v : Value} {xs : List Value} (h : w.ownsRow B e s v n xs) {N : Nat} {cs : Array Value} (hN : w.heap[N]? = some (.cells cs T (0, 0))) (hne : T ≠ e) : v.ownBlock ≠ some N := by
  intro hk
  rcases h.2 with ⟨rfl, _⟩ | ⟨g, cap, cur, rfl, _, h3, _⟩
  · simp [Value.ownBlock] at hk
  · simp [Value.ownBlock] at hk
    subst hk
    rw [h3] at hN
    simp at hN
    exact hne hN.2.symm
/-- All blocks stay but one box and rows of bytes of the call's own. -/
structure Kp (base B : Nat) (w w' : World) : Prop where
  os : w'.os = w.os
  tape : w'.tape = w.tape
  output : w'.output = w.output
  size : w.heap.size ≤ w'.heap.size
  blk : ∀ k, k < w.heap.size → k ≠ B → ¬ (base ≤ k ∧ ∃ cs, w.heap[k]? = some (.cells cs 5 (0, 0))) → w'.heap[k]? = w.heap[k]?
theorem Kp.refl (base B : Nat) (w : World) : Kp base B w w := ⟨rfl, rfl, rfl, Nat.le_refl _, fun _ _ _ _ => rfl⟩
theorem Kp.trans {base B : Nat} {a b c : World} (h : Kp base B a b) (g : Kp base B b c) : Kp base B a c :=
  ⟨g.os.trans h.os, g.tape.trans h.tape, g.output.trans h.output, Nat.le_trans h.size g.size, fun k hk hn hb => by
    have h1 := h.blk k hk hn hb
    rw [g.blk k (Nat.lt_of_lt_of_le hk h.size) hn (by rw [h1]; exact hb), h1]⟩
theorem Kp.of {base B : Nat} {w w' : World} (f : Fr [] w w') : Kp base B w w' := ⟨f.os, f.tape, f.output, f.size, fun k hk _ _ => f.block k hk (by simp)⟩
theorem Kp.at {base B : Nat} {w w' : World} (h : Kp base B w w') {k : Nat} {cs : Array Value} {T : TypeId} (hk : w.heap[k]? = some (.cells cs T (0, 0))) (hT : T ≠ 5) (hn : k ≠ B) : w'.heap[k]? = some (.cells cs T (0, 0)) := by
  rw [h.blk k (blk_lt hk) hn (fun hb => by
    obtain ⟨_, cs', h'⟩ := hb
    rw [hk] at h'
    simp only [Option.some.injEq, Obj.cells.injEq] at h'
    exact hT h'.2.1)]
  exact hk
theorem Kp.fr {base B : Nat} {ws w w' : World} (h : Kp base B w w') (hb : base = ws.heap.size) (hB : base ≤ B) (f : Fr [] ws w) : Fr [] ws w' :=
  ⟨h.os.trans f.os, h.tape.trans f.tape, h.output.trans f.output, Nat.le_trans f.size h.size, fun k hk _ => by
    rw [h.blk k (Nat.lt_of_lt_of_le hk f.size) (by omega) (fun hx => by have := hx.1; omega)]
    exact f.block k hk (by simp)⟩
/-- The box of the bytes that grow. -/
def PS (w : World) (base B : Nat) (acc : List Nat) : Prop := ∃ v, w.heap[B]? = some (.cells #[v] 22 (0, 0)) ∧ w.ownsRow base 5 1 v acc.length (bv acc)
theorem PS.fr {w w' : World} {base B : Nat} {acc : List Nat} (h : PS w base B acc) (f : Fr [] w w') : PS w' base B acc := by
  obtain ⟨v, h1, h2⟩ := h
  exact ⟨v, f.at h1 (by simp), ownsRow_fr h2 f⟩
/-- Bytes appended and laid into the box. -/
theorem PS.app {w w1 w2 : World} {base B : Nat} {acc more : List Nat} {v v' : Value} (hB : w.heap[B]? = some (.cells #[v] 22 (0, 0))) (f : Fr [] w w1) (o : w1.ownsRow base 5 1 v acc.length (bv acc)) (o' : w2.ownsRow base 5 1 v' (acc.length + more.length) (bv acc ++ bv more)) (g : w1.grownBy w2 v.ownBlock) :
    PS (w2.setCell ⟨B, 0, none⟩ v') base B (acc ++ more) ∧ Kp base B w (w2.setCell ⟨B, 0, none⟩ v') := by
  have hB1 := f.at hB (by simp)
  have hB2 : w2.heap[B]? = some (.cells #[v] 22 (0, 0)) := by rw [g.block B (blk_lt hB1) (fun e => own_not o hB1 (by decide) e.symm)]; exact hB1
  refine ⟨⟨v', by rw [blk_set hB2]; rfl, ?_⟩, ⟨g.os.trans f.os, g.tape.trans f.tape, g.output.trans f.output, by simpa [World.setCell] using Nat.le_trans f.size g.size, fun k hk hn hb => ?_⟩⟩
  · rw [List.length_append, bv_append]
    refine ownsRow_of_block o' fun k hk => blk_setne _ _ _ (fun e => ?_)
    subst e
    exact own_not o' hB2 (by decide) hk
  · rw [blk_setne _ _ _ hn, g.block k (Nat.lt_of_lt_of_le hk f.size) (fun e => hb ?_), f.block k hk (by simp)]
    have h1 := (o.lt k e.symm).1
    refine ⟨h1, ?_⟩
    rcases o.2 with ⟨rfl, _⟩ | ⟨g', cap, cur, rfl, _, h3, _⟩
    · simp [Value.ownBlock] at e
    · simp [Value.ownBlock] at e
      subst e
      exact ⟨cur, by rw [← f.block _ hk (by simp)]; exact h3⟩
theorem flat_step {ns : List Int} {i : Nat} {x : Int} (hx : ns[i]? = some x) (acc : List Nat) : acc ++ (ns.take (i + 1)).flatMap nb = (acc ++ (ns.take i).flatMap nb) ++ nb x := by
  rw [List.take_add_one, hx, Option.toList_some, List.flatMap_append, List.flatMap_cons, List.flatMap_nil, List.append_nil, List.append_assoc]
theorem flat_len {ns : List Int} (h : ∀ n ∈ ns, n ≤ 9223372036854775807) : (ns.flatMap nb).length ≤ 10 * ns.length := by
  induction ns with
  | nil => simp
  | cons x ns ih =>
    rw [List.flatMap_cons, List.length_append, List.length_cons]
    have h1 : (nb x).length ≤ 10 := putL_len10 (by have := h x (by simp); omega)
    have h2 := ih (fun n hn => h n (by simp [hn]))
    omega
set_option maxRecDepth 20000 in
set_option maxHeartbeats 3200000 in
theorem put1_c (w : World) {base B : Nat} {acc : List Nat} (hP : PS w base B acc) (hbw : base ≤ w.heap.size) {g : Nat} {ns : List Int} (hg : w.heap[g]? = some (.cells (ns.map (Value.int .i64)).toArray 3 (0, 0))) (c : Nat) (hns : ∀ n ∈ ns, 0 ≤ n ∧ n ≤ 9223372036854775807) (hlen : acc.length + 10 * ns.length ≤ 1000000000) :
    Calls Tryz.prog 18 #[.slice (some ⟨g, 0, none⟩) ns.length c, .pointer (some ⟨B, 0, none⟩)] w fun e w' => (∃ v, e = .returned v) ∧ PS w' base B (acc ++ ns.flatMap nb) ∧ Kp base B w w' := by
  have hgB : g ≠ B := fun e => by
    obtain ⟨v, h1, _⟩ := hP
    rw [e, h1] at hg
    simp only [Option.some.injEq, Obj.cells.injEq] at hg
    exact absurd hg.2.1 (by decide)
  have HG := hid hg
  have HP := hid hP
  have HNS := hid hns
  clear hg hP hns
  obtain ⟨n, hn⟩ : ∃ n, n = ns.length := ⟨_, rfl⟩
  have HN := hid hn
  rw [← hn] at hlen ⊢
  clear hn
  go_enter Tryz.func18, Tryz.ntmps18
  go_wp2_with fail
  go_loopw [7] (fun v7 wr => ∃ i : Nat, i ≤ n ∧ v7 = .int .i64 (i : Int) ∧ PS wr base B (acc ++ (ns.take i).flatMap nb) ∧ Kp base B w wr) (fun v7 _ => n - (intOf v7).toNat)
  case atStart => exact ⟨0, Nat.zero_le _, rfl, by rw [List.take_zero, List.flatMap_nil, List.append_nil]; exact HP.out, Kp.refl _ _ _⟩
  case round =>
    obtain ⟨i, hi, rfl, hp, hk⟩ := hrel
    have HK := hid hk
    have HPI := hid hp
    clear hk hp HP
    by_cases hlt : i < n
    · have hil : i < ns.length := by rw [← HN.out]; exact hlt
      obtain ⟨x, hx⟩ : ∃ x, ns[i]? = some x := ⟨_, List.getElem?_eq_getElem hil⟩
      have hxr := HNS.out x (List.mem_of_getElem? hx)
      have hgi := HK.out.at HG.out (by decide) hgB
      have z1 := blk_cell hgi i
      rw [List.getElem?_toArray, List.getElem?_map, hx, Option.map_some] at z1
      obtain ⟨vb', hb1, ob⟩ := HPI.out
      obtain ⟨ba, bc, hvb, _⟩ := ownsRow_slice ob
      subst hvb
      have hlt' : (i : Int) < (n : Int) := by omega
      have HSTEP := hid (flat_step hx acc)
      have hal : (acc ++ (ns.take i).flatMap nb).length + 10 ≤ 1000000000 := by
        have h1 := flat_len (ns := ns.take i) (fun m hm => (HNS.out m (List.mem_of_mem_take hm)).2)
        rw [List.length_append]
        rw [List.length_take] at h1
        omega
      obtain ⟨xn, rfl⟩ : ∃ xn : Nat, x = (xn : Int) := ⟨x.toNat, by omega⟩
      have hxn : xn < 18446744073709551616 := by omega
      obtain ⟨ac2, hac2⟩ : ∃ ac2, ac2 = acc ++ (ns.take i).flatMap nb := ⟨_, rfl⟩
      have HAC := hid hac2
      rw [← hac2] at ob hb1 HSTEP hal
      obtain ⟨al, hal2⟩ : ∃ al, al = ac2.length := ⟨_, rfl⟩
      have HAL := hid hal2
      have ob' := ob
      rw [← hal2] at hb1 hal ob'
      have OB : Hid (wr.ownsRow base 5 1 (.slice ba al bc) ac2.length (bv ac2)) := hid (by rw [← hal2]; exact ob')
      clear ob ob'
      have HB1 := hid hb1
      have y1 := blk_cell hb1 0
      have yf := blk_frozen hb1 0
      simp at y1
      have wx : IntKind.u64.wrap (xn : Int) = (xn : Int) := wrap64_nat (by omega)
      have hpl : (putL xn).length ≤ 10 := putL_len10 hxn
      have PC : Hid (∀ W, _) := hid (fun W => put_c W xn hxn)
      have NBX : Hid (nb (xn : Int) = putL xn) := hid (by unfold nb; rw [Int.toNat_natCast])
      clear hx hgi hac2 hal2 hb1
      go_upto_region 3 with fail
      clear z1
      have y1d : wr.drew.cell? ⟨B, 0, none⟩ = some (.slice ba al bc) := y1
      refine wp_region_held_drew (S := fun _ => True) (by kernel_rfl) trivial (fun hS => ?_)
      refine wpAnyH_take (i := 1) (v := .int .i64 (xn : Int)) rfl (by kernel_rfl) (by kernel_rfl) (by kernel_rfl) (fun _ _ _ h => h) (.inl ⟨by rfl, fun wx _ => by go_simp⟩) hS ?_
      simp only [Act.put]
      refine wpAnyH_take (i := 2) (v := .int .u64 (xn : Int)) rfl (by kernel_rfl) (by kernel_rfl) (by kernel_rfl) (fun _ _ _ h => h) (.inl ⟨by rfl, fun wx _ => by go_simp⟩) hS ?_
      simp only [Act.put]
      clear hS
      refine wpAnyH_ready (rs := [0, 3]) (by kernel_rfl) (by simp) ?_
      refine AllReadyH.cons rfl (fun K hK => ?_) (AllReadyH.cons rfl (fun K hK => ?_) AllReadyH.nil)
      · go_simp
        refine hK.out _ _ trivial (fun _ => ?_)
        clear hK K
        refine wpAnyH_ready (rs := [3]) (by kernel_rfl) (by simp) ?_
        refine AllReadyH.cons rfl (fun K hK => ?_) AllReadyH.nil
        go_simp
        refine (PC.out _).mono ?_
        rintro e w1 ⟨pv, rfl, o1, f1⟩
        obtain ⟨pa, pc, hpv, _⟩ := ownsRow_slice o1
        subst hpv
        have R1 := hid (Rd.ownB o1)
        have F1 := hid ((Fr.refl [] wr).drew.trans f1)
        refine hK.out _ _ trivial (fun _ => ?_)
        clear hK K o1 f1
        refine wpAnyH_ready (rs := [4]) (by kernel_rfl) (by simp) ?_
        refine AllReadyH.cons rfl (fun K hK => ?_) AllReadyH.nil
        refine step_append_rd rfl (.tmp 11) (.tmp 14) rfl base (v := .slice ba al bc) (n := al) (xs := bv ac2) (by have := ownsRow_fr OB.out F1.out; rw [← HAL.out] at this; exact this) (by first | (simp [Act.eval]; done) | simp [Act.eval, Act.put]) R1.out (by first | (simp [Act.eval]; done) | simp [Act.eval, Act.put]) bv_one (by rw [bv_len]; omega) (Nat.le_trans hbw (Nat.le_trans HK.out.size F1.out.size)) ?_
        intro v2 w2 o2 g2 _
        obtain ⟨a2, c2, hv2, _⟩ := ownsRow_slice o2
        subst hv2
        have AP := hid (PS.app (v' := .slice a2 (al + (bv (putL xn)).length) c2) (more := putL xn) HB1.out F1.out (ownsRow_fr OB.out F1.out) (by rw [← HAL.out]; rw [bv_len] at o2 ⊢; exact o2) g2)
        have hB2 : w2.heap[B]? = some (.cells #[.slice ba al bc] 22 (0, 0)) := by
          have h1 := F1.out.at HB1.out (by simp)
          rw [g2.block B (blk_lt h1) (fun e => own_not (ownsRow_fr OB.out F1.out) h1 (by decide) e.symm)]; exact h1
        have q1 := blk_cell hB2 0
        have qf := blk_frozen hB2 0
        simp at q1
        refine hK.out _ _ trivial (fun _ => ?_)
        clear hK K o2 g2
        refine wpAnyH_ready (rs := [5]) (by kernel_rfl) (by simp) ?_
        refine AllReadyH.cons rfl (fun K hK => ?_) AllReadyH.nil
        go_simp
        refine hK.out _ _ trivial (fun _ => ?_)
        clear hK K
        refine wpAnyH_done (by kernel_rfl) ?_ _
        go_wp2
        go_roundw
        case rel =>
          refine ⟨i + 1, by omega, by go_num, ?_, HK.out.trans AP.out.2⟩
          rw [HSTEP.out, NBX.out]
          exact AP.out.1
        case measure => simp [intOf]; omega
      · go_simp
        refine (PC.out _).mono ?_
        rintro e w1 ⟨pv, rfl, o1, f1⟩
        obtain ⟨pa, pc, hpv, _⟩ := ownsRow_slice o1
        subst hpv
        have R1 := hid (Rd.ownB o1)
        have F1 := hid ((Fr.refl [] wr).drew.trans f1)
        refine hK.out _ _ trivial (fun _ => ?_)
        clear hK K o1 f1
        have y1e := cell_fr F1.out y1
        refine wpAnyH_ready (rs := [0]) (by kernel_rfl) (by simp) ?_
        refine AllReadyH.cons rfl (fun K hK => ?_) AllReadyH.nil
        go_simp
        refine hK.out _ _ trivial (fun _ => ?_)
        clear hK K
        refine wpAnyH_ready (rs := [4]) (by kernel_rfl) (by simp) ?_
        refine AllReadyH.cons rfl (fun K hK => ?_) AllReadyH.nil
        refine step_append_rd rfl (.tmp 11) (.tmp 14) rfl base (v := .slice ba al bc) (n := al) (xs := bv ac2) (by have := ownsRow_fr OB.out F1.out; rw [← HAL.out] at this; exact this) (by first | (simp [Act.eval]; done) | simp [Act.eval, Act.put]) R1.out (by first | (simp [Act.eval]; done) | simp [Act.eval, Act.put]) bv_one (by rw [bv_len]; omega) (Nat.le_trans hbw (Nat.le_trans HK.out.size F1.out.size)) ?_
        intro v2 w2 o2 g2 _
        obtain ⟨a2, c2, hv2, _⟩ := ownsRow_slice o2
        subst hv2
        have AP := hid (PS.app (v' := .slice a2 (al + (bv (putL xn)).length) c2) (more := putL xn) HB1.out F1.out (ownsRow_fr OB.out F1.out) (by rw [← HAL.out]; rw [bv_len] at o2 ⊢; exact o2) g2)
        have hB2 : w2.heap[B]? = some (.cells #[.slice ba al bc] 22 (0, 0)) := by
          have h1 := F1.out.at HB1.out (by simp)
          rw [g2.block B (blk_lt h1) (fun e => own_not (ownsRow_fr OB.out F1.out) h1 (by decide) e.symm)]; exact h1
        have q1 := blk_cell hB2 0
        have qf := blk_frozen hB2 0
        simp at q1
        refine hK.out _ _ trivial (fun _ => ?_)
        clear hK K o2 g2
        refine wpAnyH_ready (rs := [5]) (by kernel_rfl) (by simp) ?_
        refine AllReadyH.cons rfl (fun K hK => ?_) AllReadyH.nil
        go_simp
        refine hK.out _ _ trivial (fun _ => ?_)
        clear hK K
        refine wpAnyH_done (by kernel_rfl) ?_ _
        go_wp2
        go_roundw
        case rel =>
          refine ⟨i + 1, by omega, by go_num, ?_, HK.out.trans AP.out.2⟩
          rw [HSTEP.out, NBX.out]
          exact AP.out.1
        case measure => simp [intOf]; omega
    · have hin : i = n := by omega
      subst hin
      go_wp2
      go_end0
      refine ⟨⟨_, rfl⟩, ?_, HK.out⟩
      have := HPI.out
      rw [HN.out, List.take_length] at this
      exact this
set_option maxRecDepth 20000 in
set_option maxHeartbeats 3200000 in
theorem put2_c (w : World) {base B T : Nat} {acc : List Nat} {TT : TypeId} (hP : PS w base B acc) (hbw : base ≤ w.heap.size) (hT : w.heap[T]? = some (.cells #[.func (.func 18) #[] #[.pointer (some ⟨B, 0, none⟩)]] TT (0, 0))) {kv : Value} {k : List Nat} (hk : ∀ W, Kp base B w W → Rd W kv (bv k)) (hkl : k.length ≤ 1000) (hlen : acc.length ≤ 100000000) :
    Calls Tryz.prog 20 #[kv, .pointer (some ⟨T, 0, none⟩), .pointer (some ⟨B, 0, none⟩)] w fun e w' => (∃ v, e = .returned v) ∧ PS w' base B (acc ++ (putL k.length ++ k)) ∧ Kp base B w w' := by
  have HK := hid hk
  obtain ⟨ka, kc, hkv⟩ := (hk w (Kp.refl _ _ _)).form
  rw [bv_len] at hkv
  subst hkv
  obtain ⟨kl, hkl2⟩ : ∃ kl, kl = k.length := ⟨_, rfl⟩
  have HKL := hid hkl2
  rw [← hkl2] at hkl HK ⊢
  have z0 : w.cell? ⟨T, 0, none⟩ = some (.func (.func 18) #[] #[.pointer (some ⟨B, 0, none⟩)]) := by rw [blk_cell hT]; rfl
  obtain ⟨W1, hW1⟩ : ∃ W1, W1 = w.alloc (.cells #[.int .i64 (kl : Int)] 3) := ⟨_, rfl⟩
  have F1 : Hid (Fr [] w W1) := hid (by rw [hW1]; exact (Fr.refl _ _).alloc _)
  have n1 : W1.heap[w.heap.size]? = some (.cells ([(kl : Int)].map (Value.int .i64)).toArray 3 (0, 0)) := by rw [hW1]; exact blk_new _ _
  have P1 := hid (put1_c W1 (hP.fr F1.out) (Nat.le_trans hbw F1.out.size) n1 1 (fun m hm => by simp at hm; omega) (by simp; omega))
  have NB : Hid ([(kl : Int)].flatMap nb = putL kl) := hid (by simp [nb])
  rw [NB.out] at P1
  have hpl := putL_len10 (n := kl) (by omega)
  clear hk hkl2 hT hP n1 NB
  simp only [List.length_cons, List.length_nil, Nat.zero_add] at P1
  go_enter Tryz.func20, Tryz.ntmps20
  go_upto_region 1 with (go_at_call 18; rw [← hW1]; refine P1.out.mono ?_; rintro e w2 ⟨⟨rv, rfl⟩, p2, k2⟩; have P2 := hid p2; have K2 := hid ((Kp.of F1.out).trans k2); clear p2 k2)
  obtain ⟨vb', hb1, ob⟩ := P2.out
  obtain ⟨ba, bc, hvb, _⟩ := ownsRow_slice ob
  subst hvb
  have RK := hid (HK.out w2 K2.out)
  have HB1 := hid hb1
  have OB := hid ob
  have y1 := blk_cell hb1 0
  simp at y1
  obtain ⟨al, hal⟩ : ∃ al, al = (acc ++ putL kl).length := ⟨_, rfl⟩
  have hal1 : al ≤ 200000000 := by rw [hal, List.length_append]; omega
  have HAL := hid hal
  rw [List.length_append] at hal
  rw [← hal] at y1
  have OB2 : Hid (w2.ownsRow base 5 1 (.slice ba al bc) al (bv (acc ++ putL kl))) := hid (by rw [HAL.out]; exact ob)
  clear hb1 ob z0 hal
  go_wp2_with (at_builtin; refine wpList_append_rd rfl _ _ rfl base (Nat.le_trans hbw K2.out.size) (.slice ba al bc) al _ (by simp [Act.eval]) OB2.out (.slice ka kl kc) (bv k) (by simp [Act.eval]) RK.out bv_one (by rw [bv_len, ← HKL.out]; omega) ?_; intro v3 w3 o3 g3 _; obtain ⟨a3, c3, hv3, _⟩ := ownsRow_slice o3; subst hv3; have O3 := hid o3; have G3 := hid g3; have hB3 : w3.heap[B]? = some (.cells #[.slice ba (acc ++ putL kl).length bc] 22 (0, 0)) := (by rw [g3.block B (blk_lt HB1.out) (fun e => own_not OB2.out HB1.out (by decide) e.symm)]; exact HB1.out); have q1 := blk_cell hB3 0; have qf := blk_frozen hB3 0; simp at q1; clear o3 g3 hB3)
  go_end0
  have g3 := G3.out
  have o3 := O3.out
  rw [HAL.out] at g3 o3
  have AP := PS.app (v' := .slice a3 ((acc ++ putL kl).length + (bv k).length) c3) (more := k) HB1.out (Fr.refl [] w2) OB.out (by rw [bv_len] at o3 ⊢; exact o3) g3
  rw [← HAL.out, List.append_assoc] at AP
  exact ⟨⟨_, rfl⟩, AP.1, K2.out.trans AP.2⟩
end Go.Proofs.YtegbngbhmgbocaaGreatDoor
