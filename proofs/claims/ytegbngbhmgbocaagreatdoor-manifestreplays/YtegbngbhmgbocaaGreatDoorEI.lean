/-
  Encode of an edit.
-/
import Derived.Test.YtegbngbhmgbocaaGreatDoorEH
import Derived.Deep.CutRange
namespace Go.Proofs.YtegbngbhmgbocaaGreatDoor
open Go.ChangeShapes Go.WideShapes Go.ChangeAt Go.RowKit

/-- What Encode holds while it goes on. -/
structure ES (w W : World) (bx : Array Value) (B T : Nat) (acc : List Nat) : Prop where
  ps : PS W w.heap.size B acc
  ed : W.heap[w.heap.size]? = some (.cells bx 41 (0, 0))
  fb : W.heap[T]? = some (.cells #[.func (.func 18) #[] #[.pointer (some ⟨B, 0, none⟩)]] 59 (0, 0))
  fr : Fr [] w W
  hB : w.heap.size < B
  hT : T ≠ B
theorem ES.step {w W W' : World} {bx : Array Value} {B T : Nat} {acc acc' : List Nat} (h : ES w W bx B T acc) (k : Kp w.heap.size B W W') (p : PS W' w.heap.size B acc') : ES w W' bx B T acc' :=
  ⟨p, k.at h.ed (by decide) (by have := h.hB; omega), k.at h.fb (by decide) h.hT, k.fr rfl (Nat.le_of_lt h.hB) h.fr, h.hB, h.hT⟩
theorem ES.fr' {w W W' : World} {bx : Array Value} {B T : Nat} {acc : List Nat} (h : ES w W bx B T acc) (f : Fr [] W W') : ES w W' bx B T acc := h.step (Kp.of f) (h.ps.fr f)
theorem ES.put {w W : World} {bx : Array Value} {B T : Nat} {acc : List Nat} (h : ES w W bx B T acc) {ns : List Int} (hns : ∀ n ∈ ns, 0 ≤ n ∧ n ≤ 9223372036854775807) (hlen : acc.length + 10 * ns.length ≤ 1000000000) :
    Calls Tryz.prog 18 #[.slice (some ⟨W.heap.size, 0, none⟩) ns.length ns.length, .pointer (some ⟨B, 0, none⟩)] (W.alloc (.cells (ns.map (Value.int .i64)).toArray 3)) fun r W' => (∃ v, r = .returned v) ∧ ES w W' bx B T (acc ++ ns.flatMap nb) := by
  have f1 : Fr [] W (W.alloc (.cells (ns.map (Value.int .i64)).toArray 3)) := (Fr.refl _ _).alloc _
  have h1 := h.fr' f1
  exact (put1_c _ h1.ps h1.fr.size (blk_new _ _) ns.length hns hlen).mono fun r W' ⟨e1, p, k⟩ => ⟨e1, h1.step k p⟩
theorem encD_len {g : Int × Int} (h : okD g = true) : (encD g).length ≤ 20 := by
  unfold okD at h
  simp only [Bool.and_eq_true] at h
  have h1 := okV_iff.1 h.1
  have h2 := okN_iff.1 h.2
  have h3 := nb_len (n := g.1) (by omega)
  have h4 := nb_len (n := g.2) (by omega)
  unfold encD
  rw [List.length_append]; omega
theorem encA_len {p : Int × Fl} (h : okA p = true) : (encA p).length ≤ 400 := by
  unfold okA at h
  simp only [Bool.and_eq_true] at h
  have h0 := h.2
  unfold okF at h0
  simp only [Bool.and_eq_true] at h0
  have h1 := okV_iff.1 h.1
  have h2 := okN_iff.1 h0.2.2.2.1
  have h3 := okN_iff.1 h0.2.2.2.2
  have h4 := okF_len h.2
  have n1 := nb_len (n := p.1) (by omega)
  have n2 := nb_len (n := p.2.num) (by omega)
  have n3 := nb_len (n := p.2.size) (by omega)
  have n4 := putL_len10 (n := p.2.least.length) (by omega)
  have n5 := putL_len10 (n := p.2.most.length) (by omega)
  unfold encA
  simp only [List.length_append]; omega
theorem flatD_len {l : List (Int × Int)} (h : l.all okD = true) : (l.flatMap encD).length ≤ 20 * l.length := by
  induction l with
  | nil => simp
  | cons g l ih =>
    simp only [List.all_cons, Bool.and_eq_true] at h
    have := encD_len h.1
    have := ih h.2
    rw [List.flatMap_cons, List.length_append, List.length_cons]; omega
theorem flatA_len {l : List (Int × Fl)} (h : l.all okA = true) : (l.flatMap encA).length ≤ 400 * l.length := by
  induction l with
  | nil => simp
  | cons g l ih =>
    simp only [List.all_cons, Bool.and_eq_true] at h
    have := encA_len h.1
    have := ih h.2
    rw [List.flatMap_cons, List.length_append, List.length_cons]; omega
theorem all_front {α : Type} {l : List α} {P : α → Bool} (h : l.all P = true) (i : Nat) : (l.take i).all P = true := List.all_eq_true.2 fun x hx => List.all_eq_true.1 h x (List.mem_of_mem_take hx)
theorem flat_next {α : Type} {l : List α} {f : α → List Nat} {i : Nat} {x : α} (hx : l[i]? = some x) : (l.take (i + 1)).flatMap f = (l.take i).flatMap f ++ f x := by
  rw [List.take_add_one, hx, Option.toList_some, List.flatMap_append, List.flatMap_cons, List.flatMap_nil, List.append_nil]
set_option maxRecDepth 20000 in
set_option maxHeartbeats 1600000 in
theorem enc_bad (w : World) {e : Ed} {da aa : Option Addr} {dc ac : Nat} (h : EAt w e da dc aa ac) (hk : okE e = false) :
    Calls Tryz.prog 8 #[.agg #[.int .i64 e.log, .int .i64 e.next, .int .u64 (e.seq : Int), .slice da e.drop.length dc, .slice aa e.add.length ac]] w fun r w' => r = .returned (.tuple #[.slice none 0 0, .int .i64 90]) ∧ Fr [] w w' := by
  obtain ⟨W0, hW0⟩ : ∃ W0, W0 = w.alloc (.cells #[.int .i64 e.log, .int .i64 e.next, .int .u64 (e.seq : Int), .slice da e.drop.length dc, .slice aa e.add.length ac] 41) := ⟨_, rfl⟩
  have F0 : Hid (Fr [] w W0) := hid (by rw [hW0]; exact (Fr.refl _ _).alloc _)
  have n0 : W0.heap[w.heap.size]? = some (.cells #[.int .i64 e.log, .int .i64 e.next, .int .u64 (e.seq : Int), .slice da e.drop.length dc, .slice aa e.add.length ac] 41 (0, 0)) := by rw [hW0]; exact blk_new _ _
  have z0 : W0.cell? ⟨w.heap.size, 0, none⟩ = some (.int .i64 e.log) := by rw [blk_cell n0]; rfl
  have z1 : W0.cell? ⟨w.heap.size, 1, none⟩ = some (.int .i64 e.next) := by rw [blk_cell n0]; rfl
  have z2 : W0.cell? ⟨w.heap.size, 2, none⟩ = some (.int .u64 (e.seq : Int)) := by rw [blk_cell n0]; rfl
  have z3 : W0.cell? ⟨w.heap.size, 3, none⟩ = some (.slice da e.drop.length dc) := by rw [blk_cell n0]; rfl
  have z4 : W0.cell? ⟨w.heap.size, 4, none⟩ = some (.slice aa e.add.length ac) := by rw [blk_cell n0]; rfl
  have EC := hid (edit_c W0 (h.fr F0.out))
  rw [hk] at EC
  clear n0 h hk
  generalize e.drop.length = dl at *
  generalize e.add.length = al at *
  generalize e.log = lg at *
  generalize e.next = nx at *
  generalize e.seq = sq at *
  go_enter Tryz.func8, Tryz.ntmps8
  go_wp2_with (go_at_call 17; rw [← hW0]; refine EC.out.mono ?_; rintro r w1 ⟨rfl, f1⟩; have F1 := hid f1; clear f1)
  go_ret2
  exact ⟨rfl, F0.out.trans F1.out⟩
set_option maxRecDepth 20000 in
set_option maxHeartbeats 6400000 in
theorem enc_ok (w : World) {e : Ed} {da aa : Option Addr} {dc ac : Nat} (h : EAt w e da dc aa ac) (hk : okE e = true) (hd1 : e.drop.length ≤ 1000) (ha1 : e.add.length ≤ 1000) :
    Calls Tryz.prog 8 #[.agg #[.int .i64 e.log, .int .i64 e.next, .int .u64 (e.seq : Int), .slice da e.drop.length dc, .slice aa e.add.length ac]] w fun r w' => ∃ v', r = .returned (.tuple #[v', .int .i64 0]) ∧ w'.ownsRow w.heap.size 5 1 v' (encE e).length (bv (encE e)) ∧ Fr [] w w' := by
  have hmf : ∀ (fn : Fn) (first cap : Array Value) (w : World), (Instr.makeFunc fn first cap).run Tryz.prog w = .ok (.func fn first cap) w := fun _ _ _ _ => rfl
  obtain ⟨W0, hW0⟩ : ∃ W0, W0 = w.alloc (.cells #[.int .i64 e.log, .int .i64 e.next, .int .u64 (e.seq : Int), .slice da e.drop.length dc, .slice aa e.add.length ac] 41) := ⟨_, rfl⟩
  have F0 : Hid (Fr [] w W0) := hid (by rw [hW0]; exact (Fr.refl _ _).alloc _)
  have n0 : Hid (W0.heap[w.heap.size]? = some (.cells #[.int .i64 e.log, .int .i64 e.next, .int .u64 (e.seq : Int), .slice da e.drop.length dc, .slice aa e.add.length ac] 41 (0, 0))) := hid (by rw [hW0]; exact blk_new _ _)
  have EC := hid (edit_c W0 (h.fr F0.out))
  rw [hk] at EC
  have HE := hid h
  unfold okE at hk
  simp only [Bool.and_eq_true] at hk
  have HD := hid hk.1
  have HA := hid hk.2.1
  have hh := hk.2.2
  unfold okH at hh
  simp only [Bool.and_eq_true, decide_eq_true_eq] at hh
  have hlg := okN_iff.1 hh.1
  have hnx := okN_iff.1 hh.2.1
  have hsq := hh.2.2
  have CC : Hid (∀ W : World, W.heap[w.heap.size]? = some (.cells #[.int .i64 e.log, .int .i64 e.next, .int .u64 (e.seq : Int), .slice da e.drop.length dc, .slice aa e.add.length ac] 41 (0, 0)) → W.cell? ⟨w.heap.size, 0, none⟩ = some (.int .i64 e.log) ∧ W.cell? ⟨w.heap.size, 1, none⟩ = some (.int .i64 e.next) ∧ W.cell? ⟨w.heap.size, 2, none⟩ = some (.int .u64 (e.seq : Int)) ∧ W.cell? ⟨w.heap.size, 3, none⟩ = some (.slice da e.drop.length dc) ∧ W.cell? ⟨w.heap.size, 4, none⟩ = some (.slice aa e.add.length ac)) := hid (fun W k => ⟨by rw [blk_cell k]; rfl, by rw [blk_cell k]; rfl, by rw [blk_cell k]; rfl, by rw [blk_cell k]; rfl, by rw [blk_cell k]; rfl⟩)
  obtain ⟨z0, z1, z2, z3, z4⟩ := CC.out W0 n0.out
  clear h hk hh
  obtain ⟨dl, hdl⟩ : ∃ dl, dl = e.drop.length := ⟨_, rfl⟩
  obtain ⟨al, hal⟩ : ∃ al, al = e.add.length := ⟨_, rfl⟩
  have HDL := hid hdl
  have HAL := hid hal
  rw [← hdl] at hd1 n0 CC EC hW0 z3 ⊢
  rw [← hal] at ha1 n0 CC EC hW0 z4 ⊢
  clear hdl hal
  obtain ⟨RES, hRES⟩ : ∃ RES, RES = encE e := ⟨_, rfl⟩
  rw [← hRES]
  have HRES : Hid (RES = nb e.log ++ (nb e.next ++ (putL e.seq ++ (putL dl ++ (e.drop.flatMap encD ++ (putL al ++ e.add.flatMap encA)))))) := hid (by rw [hRES, HDL.out, HAL.out]; rfl)
  clear hRES
  obtain ⟨lg, hlg2⟩ : ∃ lg, lg = e.log := ⟨_, rfl⟩
  obtain ⟨nx, hnx2⟩ : ∃ nx, nx = e.next := ⟨_, rfl⟩
  obtain ⟨sq, hsq2⟩ : ∃ sq, sq = e.seq := ⟨_, rfl⟩
  rw [← hlg2] at hlg HRES CC EC hW0 n0 z0 ⊢
  rw [← hnx2] at hnx HRES CC EC hW0 n0 z1 ⊢
  rw [← hsq2] at hsq HRES CC EC hW0 n0 z2 ⊢
  clear hlg2 hnx2 hsq2
  go_enter Tryz.func8, Tryz.ntmps8
  go_upto_region 6 with (go_at_call 17; rw [← hW0]; refine EC.out.mono ?_; rintro r w1 ⟨rfl, f1⟩; have F1 := hid f1; clear f1)
  clear z0 z1 z2 z3 z4 hW0 EC
  obtain ⟨B, hB⟩ : ∃ B, B = w1.heap.size := ⟨_, rfl⟩
  obtain ⟨W2, hW2⟩ : ∃ W2, W2 = (w1.alloc (.cells #[.slice none 0 0] 22)).alloc (.cells #[.func (.func 18) #[] #[.pointer (some ⟨B, 0, none⟩)]] 59) := ⟨_, rfl⟩
  have E2 : Hid (ES w W2 #[.int .i64 lg, .int .i64 nx, .int .u64 (sq : Int), .slice da dl dc, .slice aa al ac] B (B + 1) []) := hid (by
    have f01 := F0.out.trans F1.out
    have hlt : w.heap.size < w1.heap.size := Nat.lt_of_lt_of_le (blk_lt n0.out) F1.out.size
    have f2 : Fr [] w1 W2 := by rw [hW2]; exact ((Fr.refl _ _).alloc _).alloc _
    exact ⟨⟨.slice none 0 0, by rw [hW2, hB, blk_old _ _ (by simp)]; exact blk_new _ _, World.ownsRow_nil _ _ _ _⟩, f2.at (F1.out.at n0.out (by simp)) (by simp), by rw [hW2]; exact new_at _ _ (by rw [hB]; simp), f01.trans f2, by omega, by omega⟩)
  rw [← hB, ← hW2]
  clear hW2 hB n0 F1
  have P6 := hid (E2.out.put (ns := [lg, nx]) (fun m hm => by simp at hm; omega) (by simp))
  obtain ⟨z0, z1, z2, z3, z4⟩ := CC.out W2 E2.out.ed
  have zf : W2.cell? ⟨B + 1, 0, none⟩ = some (.func (.func 18) #[] #[.pointer (some ⟨B, 0, none⟩)]) := by rw [blk_cell E2.out.fb]; rfl
  simp only [List.map_cons, List.map_nil, List.length_cons, List.length_nil, Nat.zero_add, Nat.reduceAdd] at P6
  go_upto_region 7 with (go_at_call 18; refine P6.out.mono ?_; rintro r W3 ⟨⟨rv, rfl⟩, e3⟩; have E3 := hid e3; clear e3)
  clear z0 z1 z2 z3 z4 zf P6 E2
  obtain ⟨ac3, hac3⟩ : ∃ ac3, ac3 = [] ++ [lg, nx].flatMap nb := ⟨_, rfl⟩
  have HAC3 : Hid (ac3 = nb lg ++ nb nx) := hid (by rw [hac3]; simp)
  rw [← hac3] at E3
  clear hac3
  have hac3l : ac3.length ≤ 20 := by
    have h1 := nb_len (n := lg) (by omega)
    have h2 := nb_len (n := nx) (by omega)
    rw [HAC3.out, List.length_append]; omega
  go_cut [] from 23 to 27 (fun W => ES w W #[.int .i64 lg, .int .i64 nx, .int .u64 (sq : Int), .slice da dl dc, .slice aa al ac] B (B + 1) (ac3 ++ putL sq))
  case first =>
    obtain ⟨vb', hb1, ob⟩ := E3.out.ps
    obtain ⟨ba, bc, hvb, _⟩ := ownsRow_slice ob
    subst hvb
    obtain ⟨bl, hbl⟩ : ∃ bl, bl = ac3.length := ⟨_, rfl⟩
    have HBL := hid hbl
    rw [← hbl] at hb1 ob
    have OB := hid ob
    have HB1 := hid hb1
    have y1 := blk_cell hb1 0
    simp at y1
    have y1d : W3.drew.cell? ⟨B, 0, none⟩ = some (.slice ba bl bc) := y1
    have hbl20 : bl ≤ 20 := by omega
    have SK : Hid (∀ w', Fr [] W3 w' → w'.cell? ⟨w.heap.size, 2, none⟩ = some (.int .u64 (sq : Int))) := hid (fun w' f => (CC.out w' (f.at E3.out.ed (by simp))).2.2.1)
    have PC : Hid (∀ W, _) := hid (fun W => put_c W sq (by omega))
    have hpl := putL_len10 (n := sq) (by omega)
    clear hb1 ob hbl
    refine wp_region_held_drew (S := fun w' => w'.cell? ⟨w.heap.size, 2, none⟩ = some (.int .u64 (sq : Int))) (by kernel_rfl) (SK.out _ (Fr.refl [] W3).drew) (fun hS => ?_)
    refine wpAnyH_take (i := 1) (v := .pointer (some ⟨w.heap.size, 2, none⟩)) rfl (by kernel_rfl) (by kernel_rfl) (by kernel_rfl) (fun _ _ _ h => h) (.inl ⟨by rfl, fun wx _ => by go_simp⟩) hS ?_
    simp only [Act.put]
    refine wpAnyH_take (i := 2) (v := .int .u64 (sq : Int)) rfl (by kernel_rfl) (by kernel_rfl) (by kernel_rfl) (fun _ _ _ h => h) (.inl ⟨by rfl, fun wx hX => by have x0 := hX; go_simp⟩) hS ?_
    simp only [Act.put]
    clear hS
    refine wpAnyH_ready (rs := [0, 3]) (by kernel_rfl) (by simp) ?_
    refine AllReadyH.cons rfl (fun K hK => ?_) (AllReadyH.cons rfl (fun K hK => ?_) AllReadyH.nil)
    · go_simp
      refine hK.out _ _ (SK.out _ (Fr.refl [] W3).drew) (fun _ => ?_)
      clear hK K
      refine wpAnyH_ready (rs := [3]) (by kernel_rfl) (by simp) ?_
      refine AllReadyH.cons rfl (fun K hK => ?_) AllReadyH.nil
      go_simp
      refine (PC.out _).mono ?_
      rintro r w5 ⟨pv, rfl, o5, f5⟩
      obtain ⟨pa, pc, hpv, _⟩ := ownsRow_slice o5
      subst hpv
      have R5 := hid (Rd.ownB o5)
      have F5 := hid ((Fr.refl [] W3).drew.trans f5)
      refine hK.out _ _ (SK.out _ F5.out) (fun _ => ?_)
      clear hK K o5 f5
      refine wpAnyH_ready (rs := [4]) (by kernel_rfl) (by simp) ?_
      refine AllReadyH.cons rfl (fun K hK => ?_) AllReadyH.nil
      refine step_append_rd rfl (.tmp 23) (.tmp 26) rfl w.heap.size (v := .slice ba bl bc) (n := bl) (xs := bv ac3) (ownsRow_fr OB.out F5.out) (by first | (simp [Act.eval]; done) | simp [Act.eval, Act.put]) R5.out (by first | (simp [Act.eval]; done) | simp [Act.eval, Act.put]) bv_one (by rw [bv_len]; omega) (Nat.le_trans E3.out.fr.size F5.out.size) ?_
      intro v6 w6 o6 g6 _
      obtain ⟨a6, c6, hv6, _⟩ := ownsRow_slice o6
      subst hv6
      have AP := hid (PS.app (v' := .slice a6 (bl + (bv (putL sq)).length) c6) (acc := ac3) (more := putL sq) HB1.out F5.out (by rw [← HBL.out]; exact ownsRow_fr OB.out F5.out) (by rw [← HBL.out]; rw [bv_len] at o6 ⊢; exact o6) g6)
      have hB6 : w6.heap[B]? = some (.cells #[.slice ba bl bc] 22 (0, 0)) := by
        have h1 := F5.out.at HB1.out (by simp)
        rw [g6.block B (blk_lt h1) (fun e => own_not (ownsRow_fr OB.out F5.out) h1 (by decide) e.symm)]; exact h1
      have hN6 : w6.heap[w.heap.size]? = some (.cells #[.int .i64 lg, .int .i64 nx, .int .u64 (sq : Int), .slice da dl dc, .slice aa al ac] 41 (0, 0)) := by
        have h1 := F5.out.at E3.out.ed (by simp)
        rw [g6.block _ (blk_lt h1) (fun e => own_not (ownsRow_fr OB.out F5.out) h1 (by decide) e.symm)]; exact h1
      have q1 := blk_cell hB6 0
      have qf := blk_frozen hB6 0
      simp at q1
      have s6 := (CC.out w6 hN6).2.2.1
      have s7 : (w6.setCell ⟨B, 0, none⟩ (.slice a6 (bl + (bv (putL sq)).length) c6)).cell? ⟨w.heap.size, 2, none⟩ = some (.int .u64 (sq : Int)) := (CC.out _ (by rw [blk_setne _ _ _ (by have := E3.out.hB; omega)]; exact hN6)).2.2.1
      refine hK.out _ _ s6 (fun _ => ?_)
      clear hK K o6 g6
      refine wpAnyH_ready (rs := [5]) (by kernel_rfl) (by simp) ?_
      refine AllReadyH.cons rfl (fun K hK => ?_) AllReadyH.nil
      go_simp
      refine hK.out _ _ (by simpa using s7) (fun _ => ?_)
      clear hK K
      refine wpAnyH_done (by kernel_rfl) ?_ _
      go_wp2
      go_meet
      case rel => exact E3.out.step AP.out.2 AP.out.1
    · go_simp
      refine (PC.out _).mono ?_
      rintro r w5 ⟨pv, rfl, o5, f5⟩
      obtain ⟨pa, pc, hpv, _⟩ := ownsRow_slice o5
      subst hpv
      have R5 := hid (Rd.ownB o5)
      have F5 := hid ((Fr.refl [] W3).drew.trans f5)
      refine hK.out _ _ (SK.out _ F5.out) (fun _ => ?_)
      clear hK K o5 f5
      have y1e := cell_fr F5.out y1
      refine wpAnyH_ready (rs := [0]) (by kernel_rfl) (by simp) ?_
      refine AllReadyH.cons rfl (fun K hK => ?_) AllReadyH.nil
      go_simp
      refine hK.out _ _ (SK.out _ F5.out) (fun _ => ?_)
      clear hK K
      refine wpAnyH_ready (rs := [4]) (by kernel_rfl) (by simp) ?_
      refine AllReadyH.cons rfl (fun K hK => ?_) AllReadyH.nil
      refine step_append_rd rfl (.tmp 23) (.tmp 26) rfl w.heap.size (v := .slice ba bl bc) (n := bl) (xs := bv ac3) (ownsRow_fr OB.out F5.out) (by first | (simp [Act.eval]; done) | simp [Act.eval, Act.put]) R5.out (by first | (simp [Act.eval]; done) | simp [Act.eval, Act.put]) bv_one (by rw [bv_len]; omega) (Nat.le_trans E3.out.fr.size F5.out.size) ?_
      intro v6 w6 o6 g6 _
      obtain ⟨a6, c6, hv6, _⟩ := ownsRow_slice o6
      subst hv6
      have AP := hid (PS.app (v' := .slice a6 (bl + (bv (putL sq)).length) c6) (acc := ac3) (more := putL sq) HB1.out F5.out (by rw [← HBL.out]; exact ownsRow_fr OB.out F5.out) (by rw [← HBL.out]; rw [bv_len] at o6 ⊢; exact o6) g6)
      have hB6 : w6.heap[B]? = some (.cells #[.slice ba bl bc] 22 (0, 0)) := by
        have h1 := F5.out.at HB1.out (by simp)
        rw [g6.block B (blk_lt h1) (fun e => own_not (ownsRow_fr OB.out F5.out) h1 (by decide) e.symm)]; exact h1
      have hN6 : w6.heap[w.heap.size]? = some (.cells #[.int .i64 lg, .int .i64 nx, .int .u64 (sq : Int), .slice da dl dc, .slice aa al ac] 41 (0, 0)) := by
        have h1 := F5.out.at E3.out.ed (by simp)
        rw [g6.block _ (blk_lt h1) (fun e => own_not (ownsRow_fr OB.out F5.out) h1 (by decide) e.symm)]; exact h1
      have q1 := blk_cell hB6 0
      have qf := blk_frozen hB6 0
      simp at q1
      have s6 := (CC.out w6 hN6).2.2.1
      have s7 : (w6.setCell ⟨B, 0, none⟩ (.slice a6 (bl + (bv (putL sq)).length) c6)).cell? ⟨w.heap.size, 2, none⟩ = some (.int .u64 (sq : Int)) := (CC.out _ (by rw [blk_setne _ _ _ (by have := E3.out.hB; omega)]; exact hN6)).2.2.1
      refine hK.out _ _ s6 (fun _ => ?_)
      clear hK K o6 g6
      refine wpAnyH_ready (rs := [5]) (by kernel_rfl) (by simp) ?_
      refine AllReadyH.cons rfl (fun K hK => ?_) AllReadyH.nil
      go_simp
      refine hK.out _ _ (by simpa using s7) (fun _ => ?_)
      clear hK K
      refine wpAnyH_done (by kernel_rfl) ?_ _
      go_wp2
      go_meet
      case rel => exact E3.out.step AP.out.2 AP.out.1
  case rest =>
    have E4 := hid hcut
    clear hcut E3
    obtain ⟨ac4, hac4⟩ : ∃ ac4, ac4 = ac3 ++ putL sq := ⟨_, rfl⟩
    have HAC4 := hid hac4
    have hac4l : ac4.length ≤ 30 := by
      have h1 := putL_len10 (n := sq) (by omega)
      rw [hac4, List.length_append]; omega
    rw [← hac4] at E4
    clear hac4
    have P8 := hid (E4.out.put (ns := [(dl : Int)]) (fun m hm => by simp at hm; omega) (by simp; omega))
    obtain ⟨z0, z1, z2, z3, z4⟩ := CC.out wc E4.out.ed
    have zf : wc.cell? ⟨B + 1, 0, none⟩ = some (.func (.func 18) #[] #[.pointer (some ⟨B, 0, none⟩)]) := by rw [blk_cell E4.out.fb]; rfl
    simp only [List.map_cons, List.map_nil, List.length_cons, List.length_nil, Nat.zero_add] at P8
    go_upto_region 9 with (go_at_call 18; refine P8.out.mono ?_; rintro r W5 ⟨⟨rv, rfl⟩, e5⟩; have E5 := hid e5; clear e5)
    clear z0 z1 z2 z3 z4 zf P8 E4
    obtain ⟨ac5, hac5⟩ : ∃ ac5, ac5 = ac4 ++ [(dl : Int)].flatMap nb := ⟨_, rfl⟩
    have HAC5 : Hid (ac5 = ac4 ++ putL dl) := hid (by rw [hac5]; simp [nb])
    rw [← hac5] at E5
    clear hac5
    have hac5l : ac5.length ≤ 40 := by
      have h1 := putL_len10 (n := dl) (by omega)
      rw [HAC5.out, List.length_append]; omega
    obtain ⟨z0, z1, z2, z3, z4⟩ := CC.out W5 E5.out.ed
    go_wp2_with fail
    clear z0 z1 z2 z3 z4
    go_loopw [37] (fun v37 wr => ∃ i : Nat, i ≤ dl ∧ v37 = .int .i64 (i : Int) ∧ ES w wr #[.int .i64 lg, .int .i64 nx, .int .u64 (sq : Int), .slice da dl dc, .slice aa al ac] B (B + 1) (ac5 ++ (e.drop.take i).flatMap encD)) (fun v37 _ => dl - (intOf v37).toNat)
    case atStart => exact ⟨0, Nat.zero_le _, rfl, by rw [List.take_zero, List.flatMap_nil, List.append_nil]; exact E5.out⟩
    case round =>
      obtain ⟨i, hi, rfl, he⟩ := hrel
      have EI := hid he
      clear he E5
      have hfl : (ac5 ++ (e.drop.take i).flatMap encD).length ≤ 40 + 20 * dl := by
        have h1 := flatD_len (all_front HD.out i)
        rw [List.length_take] at h1
        rw [List.length_append]
        have := Nat.min_le_left i e.drop.length
        omega
      by_cases hlt : i < dl
      · have hil : i < e.drop.length := by rw [← HDL.out]; exact hlt
        obtain ⟨g, hg⟩ : ∃ g, e.drop[i]? = some g := ⟨_, List.getElem?_eq_getElem hil⟩
        have hgo := List.all_eq_true.1 HD.out g (List.mem_of_getElem? hg)
        unfold okD at hgo
        simp only [Bool.and_eq_true] at hgo
        have hg1 := okV_iff.1 hgo.1
        have hg2 := okN_iff.1 hgo.2
        obtain ⟨a', c', e', k1⟩ := HE.out.rd
        simp only [Value.slice.injEq] at e'
        obtain ⟨rfl, hx1, rfl⟩ := e'
        clear hx1
        obtain ⟨b, off, rfl, m1⟩ := k1 (by omega)
        have z1 := cell_fr EI.out.fr (m1 i g hg).1
        have z2 := cell_fr EI.out.fr (m1 i g hg).2
        have HFN := hid (flat_next (f := encD) hg)
        have hil' : (i : Int) < (dl : Int) := by omega
        clear m1 k1 hg hgo
        obtain ⟨g1, g2⟩ := g
        dsimp only at z1 z2 hg1 hg2
        obtain ⟨W6, hW6⟩ : ∃ W6, W6 = wr.alloc (.cells #[.int .i64 g1, .int .i64 g2] 45) := ⟨_, rfl⟩
        have F6 : Hid (Fr [] wr W6) := hid (by rw [hW6]; exact (Fr.refl _ _).alloc _)
        have n6 : W6.heap[wr.heap.size]? = some (.cells #[.int .i64 g1, .int .i64 g2] 45 (0, 0)) := by rw [hW6]; exact blk_new _ _
        have y0 : W6.cell? ⟨wr.heap.size, 0, none⟩ = some (.int .i64 g1) := by rw [blk_cell n6]; rfl
        have y1 : W6.cell? ⟨wr.heap.size, 1, none⟩ = some (.int .i64 g2) := by rw [blk_cell n6]; rfl
        have E6 := hid (EI.out.fr' F6.out)
        have zf : W6.cell? ⟨B + 1, 0, none⟩ = some (.func (.func 18) #[] #[.pointer (some ⟨B, 0, none⟩)]) := by rw [blk_cell E6.out.fb]; rfl
        have P12 := hid (E6.out.put (ns := [g1, g2]) (fun m hm => by simp at hm; omega) (by simp only [List.length_cons, List.length_nil]; omega))
        simp only [List.map_cons, List.map_nil, List.length_cons, List.length_nil, Nat.zero_add, Nat.reduceAdd] at P12
        clear n6 EI
        go_upto_region 12 with fail
        rw [← hW6]
        clear hW6 z1 z2
        go_wp2_with (go_at_call 18; refine P12.out.mono ?_; rintro r W7 ⟨⟨rv, rfl⟩, e7⟩; have E7 := hid e7; clear e7)
        go_roundw
        case rel =>
          refine ⟨i + 1, by omega, by go_num, ?_⟩
          have h7 := E7.out
          rw [HFN.out, ← List.append_assoc]
          rw [show [g1, g2].flatMap nb = encD (g1, g2) from by simp [encD]] at h7
          exact h7
        case measure => simp [intOf]; omega
      · have hin : i = dl := by omega
        subst hin
        obtain ⟨W8, h8⟩ : ∃ W, W = wr := ⟨_, rfl⟩
        subst h8
        obtain ⟨ac8, hac8⟩ : ∃ ac8, ac8 = ac5 ++ (e.drop.take i).flatMap encD := ⟨_, rfl⟩
        have HAC8 : Hid (ac8 = ac5 ++ e.drop.flatMap encD) := hid (by rw [hac8, HDL.out, List.take_length])
        rw [← hac8] at EI hfl
        clear hac8
        have P14 := hid (EI.out.put (ns := [(al : Int)]) (fun m hm => by simp at hm; omega) (by simp only [List.length_cons, List.length_nil]; omega))
        obtain ⟨z0, z1, z2, z3, z4⟩ := CC.out W8 EI.out.ed
        have zf : W8.cell? ⟨B + 1, 0, none⟩ = some (.func (.func 18) #[] #[.pointer (some ⟨B, 0, none⟩)]) := by rw [blk_cell EI.out.fb]; rfl
        simp only [List.map_cons, List.map_nil, List.length_cons, List.length_nil, Nat.zero_add] at P14
        go_upto_region 15 with (go_at_call 18; refine P14.out.mono ?_; rintro r W9 ⟨⟨rv, rfl⟩, e9⟩; have E9 := hid e9; clear e9)
        clear z0 z1 z2 z3 z4 zf P14 EI
        obtain ⟨ac9, hac9⟩ : ∃ ac9, ac9 = ac8 ++ [(al : Int)].flatMap nb := ⟨_, rfl⟩
        have HAC9 : Hid (ac9 = ac8 ++ putL al) := hid (by rw [hac9]; simp [nb])
        rw [← hac9] at E9
        clear hac9
        have hac9l : ac9.length ≤ 50 + 20 * i := by
          have h1 := putL_len10 (n := al) (by omega)
          rw [HAC9.out, List.length_append]; omega
        obtain ⟨z0, z1, z2, z3, z4⟩ := CC.out W9 E9.out.ed
        go_wp2_with fail
        clear z0 z1 z2 z3 z4
        go_loopw [58] (fun v58 wr => ∃ j : Nat, j ≤ al ∧ v58 = .int .i64 (j : Int) ∧ ES w wr #[.int .i64 lg, .int .i64 nx, .int .u64 (sq : Int), .slice da i dc, .slice aa al ac] B (B + 1) (ac9 ++ (e.add.take j).flatMap encA)) (fun v58 _ => al - (intOf v58).toNat)
        case atStart => exact ⟨0, Nat.zero_le _, rfl, by rw [List.take_zero, List.flatMap_nil, List.append_nil]; exact E9.out⟩
        case round =>
          obtain ⟨j, hj, rfl, he⟩ := hrel
          have EI := hid he
          clear he E9
          have hfl2 : (ac9 ++ (e.add.take j).flatMap encA).length ≤ 50 + 20 * i + 400 * al := by
            have h1 := flatA_len (all_front HA.out j)
            rw [List.length_take] at h1
            rw [List.length_append]
            have := Nat.min_le_left j e.add.length
            omega
          by_cases hlt2 : j < al
          · have hjl : j < e.add.length := by rw [← HAL.out]; exact hlt2
            obtain ⟨p, hp⟩ : ∃ p, e.add[j]? = some p := ⟨_, List.getElem?_eq_getElem hjl⟩
            have hpo := List.all_eq_true.1 HA.out p (List.mem_of_getElem? hp)
            unfold okA at hpo
            simp only [Bool.and_eq_true] at hpo
            have hg1 := okV_iff.1 hpo.1
            have hfl := okF_len hpo.2
            have hpf := hpo.2
            unfold okF at hpf
            simp only [Bool.and_eq_true] at hpf
            have hg2 := okN_iff.1 hpf.2.2.2.1
            have hg3 := okN_iff.1 hpf.2.2.2.2
            obtain ⟨a', c', e', k1⟩ := HE.out.ra
            simp only [Value.slice.injEq] at e'
            obtain ⟨rfl, hx1, rfl⟩ := e'
            clear hx1
            obtain ⟨b, off, rfl, m1⟩ := k1 (by omega)
            obtain ⟨m2, la, lc, ma, mc, m3⟩ := m1 j p hp
            have z1 := cell_fr EI.out.fr m2
            have z2 := cell_fr EI.out.fr m3.c0
            have z3 := cell_fr EI.out.fr m3.c1
            have z4 := cell_fr EI.out.fr m3.c2
            have z5 := cell_fr EI.out.fr m3.c3
            rw [show off + j * 5 + 1 + 1 = off + j * 5 + 2 from rfl] at z3
            rw [show off + j * 5 + 1 + 2 = off + j * 5 + 3 from rfl] at z4
            rw [show off + j * 5 + 1 + 3 = off + j * 5 + 4 from rfl] at z5
            have FR := hid m3.rd
            have HFN := hid (flat_next (f := encA) hp)
            have hjl' : (j : Int) < (al : Int) := by omega
            clear m1 k1 hp m2 m3 hpo hpf
            obtain ⟨g1, f⟩ := p
            dsimp only at z1 z2 z3 z4 z5 FR hg1 hg2 hg3 hfl
            obtain ⟨Wa, hWa⟩ : ∃ Wa, Wa = wr.alloc (.cells #[.int .i64 g1, .int .i64 f.num, .int .i64 f.size, .slice la f.least.length lc, .slice ma f.most.length mc] 64) := ⟨_, rfl⟩
            have Fa : Hid (Fr [] wr Wa) := hid (by rw [hWa]; exact (Fr.refl _ _).alloc _)
            have na : Hid (Wa.heap[wr.heap.size]? = some (.cells #[.int .i64 g1, .int .i64 f.num, .int .i64 f.size, .slice la f.least.length lc, .slice ma f.most.length mc] 64 (0, 0))) := hid (by rw [hWa]; exact blk_new _ _)
            have YY : Hid (∀ W : World, W.heap[wr.heap.size]? = some (.cells #[.int .i64 g1, .int .i64 f.num, .int .i64 f.size, .slice la f.least.length lc, .slice ma f.most.length mc] 64 (0, 0)) → W.cell? ⟨wr.heap.size, 0, none⟩ = some (.int .i64 g1) ∧ W.cell? ⟨wr.heap.size, 1, none⟩ = some (.int .i64 f.num) ∧ W.cell? ⟨wr.heap.size, 2, none⟩ = some (.int .i64 f.size) ∧ W.cell? ⟨wr.heap.size, 3, none⟩ = some (.slice la f.least.length lc) ∧ W.cell? ⟨wr.heap.size, 4, none⟩ = some (.slice ma f.most.length mc)) := hid (fun W k => ⟨by rw [blk_cell k]; rfl, by rw [blk_cell k]; rfl, by rw [blk_cell k]; rfl, by rw [blk_cell k]; rfl, by rw [blk_cell k]; rfl⟩)
            have Ea := hid (EI.out.fr' Fa.out)
            have hwB : wr.heap.size ≠ B := by
              obtain ⟨_, h1, _⟩ := EI.out.ps
              have := blk_lt h1
              omega
            have zf : Wa.cell? ⟨B + 1, 0, none⟩ = some (.func (.func 18) #[] #[.pointer (some ⟨B, 0, none⟩)]) := by rw [blk_cell Ea.out.fb]; rfl
            obtain ⟨y0, y1, y2, y3, y4⟩ := YY.out Wa na.out
            have PA := hid (put1_c (Wa.alloc (.cells ([g1, f.num, f.size].map (Value.int .i64)).toArray 3)) (Ea.out.fr' ((Fr.refl _ _).alloc _)).ps (Ea.out.fr' ((Fr.refl _ _).alloc _)).fr.size (blk_new _ _) 3 (fun m hm => by simp at hm; omega) (by simp only [List.length_cons, List.length_nil]; omega))
            simp only [List.map_cons, List.map_nil, List.length_cons, List.length_nil, Nat.zero_add, Nat.reduceAdd] at PA
            have FAL : Hid (Fr [] Wa (Wa.alloc (.cells #[.int .i64 g1, .int .i64 f.num, .int .i64 f.size] 3))) := hid ((Fr.refl _ _).alloc _)
            clear EI
            go_upto_region 18 with fail
            rw [← hWa]
            clear hWa z1 z2 z3 z4 z5
            go_upto_region 19 with (go_at_call 18; refine PA.out.mono ?_; rintro r Wb ⟨⟨rv, rfl⟩, pb, kb⟩; have Eb := hid ((Ea.out.fr' FAL.out).step kb pb); have nb' := hid (kb.at (FAL.out.at na.out (by simp)) (by decide) hwB); clear pb kb)
            clear y0 y1 y2 y3 y4 zf PA Ea na FAL
            obtain ⟨y0, y1, y2, y3, y4⟩ := YY.out Wb nb'.out
            have hl1 : (ac9 ++ (e.add.take j).flatMap encA ++ [g1, f.num, f.size].flatMap nb).length ≤ 100 + 20 * i + 400 * al := by
              have n1 := nb_len (n := g1) (by omega)
              have n2 := nb_len (n := f.num) (by omega)
              have n3 := nb_len (n := f.size) (by omega)
              have : [g1, f.num, f.size].flatMap nb = nb g1 ++ (nb f.num ++ nb f.size) := by simp
              rw [this]
              simp only [List.length_append] at hfl2 ⊢
              omega
            have KL := hid (put2_c Wb Eb.out.ps Eb.out.fr.size Eb.out.fb (kv := .slice la f.least.length lc) (k := f.least) (fun W' kp => FR.out.rl.fr (kp.fr rfl (Nat.le_of_lt Eb.out.hB) Eb.out.fr)) (by omega) (by omega))
            go_upto_region 20 with (go_at_call 20; refine KL.out.mono ?_; rintro r Wd ⟨⟨rv, rfl⟩, pd, kd⟩; have Ec := hid (Eb.out.step kd pd); have nd := hid (kd.at nb'.out (by decide) hwB); clear pd kd)
            clear y0 y1 y2 y3 y4 KL Eb nb'
            obtain ⟨y0, y1, y2, y3, y4⟩ := YY.out Wd nd.out
            have hl2 : (ac9 ++ (e.add.take j).flatMap encA ++ [g1, f.num, f.size].flatMap nb ++ (putL f.least.length ++ f.least)).length ≤ 300 + 20 * i + 400 * al := by
              have n1 := putL_len10 (n := f.least.length) (by omega)
              simp only [List.length_append] at hl1 ⊢
              omega
            have KM := hid (put2_c Wd Ec.out.ps Ec.out.fr.size Ec.out.fb (kv := .slice ma f.most.length mc) (k := f.most) (fun W' kp => FR.out.rm.fr (kp.fr rfl (Nat.le_of_lt Ec.out.hB) Ec.out.fr)) (by omega) (by omega))
            go_wp2_with (go_at_call 20; refine KM.out.mono ?_; rintro r We ⟨⟨rv, rfl⟩, pe, ke⟩; have Ed' := hid (Ec.out.step ke pe); clear pe ke)
            go_roundw
            case rel =>
              refine ⟨j + 1, by omega, by go_num, ?_⟩
              have h7 := Ed'.out
              rw [HFN.out, ← List.append_assoc]
              rw [show ac9 ++ (e.add.take j).flatMap encA ++ [g1, f.num, f.size].flatMap nb ++ (putL f.least.length ++ f.least) ++ (putL f.most.length ++ f.most) = ac9 ++ (e.add.take j).flatMap encA ++ encA (g1, f) from by simp [encA]] at h7
              exact h7
            case measure => simp [intOf]; omega
          · have hjn : j = al := by omega
            subst hjn
            obtain ⟨vb', hb1, ob⟩ := EI.out.ps
            obtain ⟨ba, bc, hvb, _⟩ := ownsRow_slice ob
            subst hvb
            have y1 := blk_cell hb1 0
            simp only [List.getElem?_toArray, List.getElem?_cons_zero] at y1
            have hfin : ac9 ++ (e.add.take j).flatMap encA = RES := by
              rw [HRES.out, HAC9.out, HAC8.out, HAC5.out, HAC4.out, HAC3.out, HAL.out, List.take_length]
              simp only [List.append_assoc]
            rw [hfin] at y1 ob
            have OB := hid ob
            have FF := hid EI.out.fr
            clear hfin hb1 ob
            go_wp2
            go_ret2
            exact ⟨_, rfl, OB.out, FF.out⟩
end Go.Proofs.YtegbngbhmgbocaaGreatDoor
