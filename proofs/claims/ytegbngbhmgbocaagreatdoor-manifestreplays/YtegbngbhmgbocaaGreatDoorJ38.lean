/-
  Logs of edits without the program: how many lie ahead of a cut.
-/
import Derived.Test.YtegbngbhmgbocaaGreatDoorJ37
import Derived.Test.YtegbngbhmgbocaaGreatDoorJ33
import Derived.Test.YtegbngbhmgbocaaGreatDoorJ34
namespace Go.Proofs.YtegbngbhmgbocaaGreatDoor
open Go.ChangeShapes Go.WideShapes Go.ChangeAt Go.RowKit

theorem encE_len38 {e : Ed} (h : okE e = true) (hd : e.drop.length ≤ 30) (ha : e.add.length ≤ 30) : (encE e).length ≤ 38000 := by
  unfold okE okH at h
  simp only [Bool.and_eq_true] at h
  have h1 := flatD_len h.1
  have h2 := flatA_len h.2.1
  have n1 := nb_len (n := e.log) (okN_iff.1 h.2.2.1).2
  have n2 := nb_len (n := e.next) (okN_iff.1 h.2.2.2.1).2
  have n3 := putL_len10 (n := e.seq) (by have := of_decide_eq_true h.2.2.2.2; omega)
  have n4 := putL_len10 (n := e.drop.length) (by omega)
  have n5 := putL_len10 (n := e.add.length) (by omega)
  unfold encE
  simp only [List.length_append]
  omega
/-- The first edits' bytes. -/
def accL (es : List Ed) (i : Nat) : List (List Nat) := (es.take i).map encE
theorem accL_succ {es : List Ed} {i : Nat} {e : Ed} (h : es[i]? = some e) : accL es (i + 1) = accL es i ++ [encE e] := by
  unfold accL
  rw [List.take_add_one, h]
  simp
theorem accL_len {es : List Ed} {i : Nat} (h : i ≤ es.length) : (accL es i).length = i := by
  unfold accL
  rw [List.length_map, List.length_take]
  omega
theorem cntA_snoc (p x : Nat) : ∀ es : List Nat, cntA p (es ++ [x]) = if cntA p es = es.length ∧ x ≤ p then es.length + 1 else cntA p es
  | [] => by
    show (if x ≤ p then cntA p [] + 1 else 0) = if cntA p [] = 0 ∧ x ≤ p then 0 + 1 else cntA p []
    by_cases h : x ≤ p
    · rw [if_pos h, if_pos ⟨rfl, h⟩]; rfl
    · rw [if_neg h, if_neg (fun k => h k.2)]; rfl
  | e :: es => by
    show (if e ≤ p then cntA p (es ++ [x]) + 1 else 0) = if (if e ≤ p then cntA p es + 1 else 0) = es.length + 1 ∧ x ≤ p then es.length + 1 + 1 else (if e ≤ p then cntA p es + 1 else 0)
    rw [cntA_snoc p x es]
    by_cases h : e ≤ p
    · rw [if_pos h, if_pos h]
      by_cases k : cntA p es = es.length ∧ x ≤ p
      · rw [if_pos k, if_pos ⟨by omega, k.2⟩]
      · rw [if_neg k, if_neg (fun q => k ⟨by omega, q.2⟩)]
    · rw [if_neg h, if_neg h, if_neg (fun q => by omega)]
theorem ends_le {rs : List (List Nat)} {k e : Nat} (h : (endsL 0 rs)[k]? = some e) : e ≤ (logL 0 rs).length := by
  have h1 := endsL_at rs 0 k e h
  have h2 := congrArg List.length (logL_append (rs.take (k + 1)) (rs.drop (k + 1)) 0)
  rw [List.take_append_drop, List.length_append] at h2
  omega
/-- If not all lie ahead of a place, the log doesn't. -/
theorem cntA_past {rs : List (List Nat)} {p : Nat} (h : cntA p (endsL 0 rs) ≠ rs.length) : p < (logL 0 rs).length := by
  have h1 := cntA_le p (endsL 0 rs)
  rw [endsL_len] at h1
  obtain ⟨e, he⟩ : ∃ e, (endsL 0 rs)[cntA p (endsL 0 rs)]? = some e := ⟨_, List.getElem?_eq_getElem (by rw [endsL_len]; omega)⟩
  have h2 := cntA_step p (endsL 0 rs) _ e (Nat.le_refl _) he
  have h3 := ends_le he
  have h4 : ¬ e ≤ p := fun q => by have := h2.1 q; omega
  omega
/-- How many records lie ahead of a cut. -/
def cntI (cut : Int) (rs : List (List Nat)) : Nat := if cut < 0 then 0 else cntA cut.toNat (endsL 0 rs)
theorem cntI_nil (cut : Int) : cntI cut [] = 0 := by
  unfold cntI
  split <;> rfl
theorem cntI_le (cut : Int) (rs : List (List Nat)) : cntI cut rs ≤ rs.length := by
  unfold cntI
  split
  · omega
  · have := cntA_le cut.toNat (endsL 0 rs)
    rw [endsL_len] at this
    exact this
theorem log_longer (rs : List (List Nat)) (r : List Nat) : (logL 0 rs).length < (logL 0 (rs ++ [r])).length := by
  rw [logL_snoc, List.length_append]
  have := appL_pos (0 + (logL 0 rs).length) r
  omega
theorem cntI_yes {rs : List (List Nat)} {r : List Nat} {cut : Int} (h : ((logL 0 (rs ++ [r])).length : Int) ≤ cut) : cntI cut rs = rs.length ∧ cntI cut (rs ++ [r]) = rs.length + 1 := by
  have h1 : ¬ cut < 0 := by omega
  have h2 := log_longer rs r
  unfold cntI
  rw [if_neg h1, if_neg h1]
  have h3 : cntA cut.toNat (endsL 0 rs) = rs.length := by
    refine Classical.byContradiction fun q => ?_
    have := cntA_past q
    omega
  refine ⟨h3, ?_⟩
  rw [endsL_snoc, cntA_snoc, endsL_len, if_pos ⟨h3, by omega⟩]
theorem cntI_no {rs : List (List Nat)} {r : List Nat} {cut : Int} (h : ¬ ((logL 0 (rs ++ [r])).length : Int) ≤ cut) : cntI cut (rs ++ [r]) = cntI cut rs := by
  unfold cntI
  split
  · rfl
  · rw [endsL_snoc, cntA_snoc, if_neg (fun q => h (by omega))]
theorem cntA_min {p L : Nat} : ∀ (es : List Nat), (∀ e ∈ es, e ≤ L) → cntA (min p L) es = cntA p es
  | [], _ => rfl
  | e :: es, h => by
    have h1 := h e (by simp)
    show (if e ≤ min p L then cntA (min p L) es + 1 else 0) = if e ≤ p then cntA p es + 1 else 0
    rw [cntA_min es (fun x hx => h x (by simp [hx]))]
    by_cases h2 : e ≤ p
    · rw [if_pos h2, if_pos (by omega)]
    · rw [if_neg h2, if_neg (by omega)]
/-- What a cut log tells. -/
theorem read_min {rs : List (List Nat)} (hr : ∀ r ∈ rs, By r) {cut : Int} (hc : 0 ≤ cut) : readL ((logL 0 rs).take (min cut.toNat (logL 0 rs).length)) = (rs.take (cntI cut rs), (logL 0 (rs.take (cntI cut rs))).length) := by
  have h1 : cntA (min cut.toNat (logL 0 rs).length) (endsL 0 rs) = cntI cut rs := by
    unfold cntI
    rw [if_neg (by omega)]
    refine cntA_min _ fun e he => ?_
    obtain ⟨k, hk⟩ := List.getElem?_of_mem he
    exact ends_le hk
  rw [read_cut hr (Nat.min_le_right _ _)]
  have h2 := ahd_cnt (min cut.toNat (logL 0 rs).length) rs 0
  have h3 := ahd_end (min cut.toNat (logL 0 rs).length) rs 0
  rw [h1] at h2 h3
  rw [Nat.zero_add] at h3
  exact Prod.ext h2 h3
theorem sum_le {B : Nat} : ∀ (ns : List Nat), (∀ n ∈ ns, n ≤ B) → ns.sum ≤ ns.length * B
  | [], _ => by simp
  | n :: ns, h => by
    have h1 := sum_le ns (fun x hx => h x (by simp [hx]))
    have h2 := h n (by simp)
    rw [List.sum_cons, List.length_cons, Nat.add_mul]
    omega
/-- A log of few edits is not long. -/
theorem acc_short {rs : List (List Nat)} (h12 : rs.length ≤ 12) (h : ∀ r ∈ rs, r.length ≤ 38000) : (logL 0 rs).length ≤ 4194304 := by
  have h1 := logL_len_le rs 0
  have h2 := sum_le (B := 38000) (rs.map List.length) (fun n hn => by obtain ⟨r, hr, rfl⟩ := List.mem_map.1 hn; exact h r hr)
  rw [List.length_map] at h2
  have h3 : rs.length * 38000 ≤ 12 * 38000 := Nat.mul_le_mul_right _ h12
  omega
/-- Few edits make no long lists. -/
theorem RplF.short {A : Nat} : ∀ {rs : List (List Nat)} {v u : Vn}, RplF v rs u → (∀ r ∈ rs, ∀ e, decO r = some e → e.add.length ≤ A) → ∀ {i : Nat}, i < 5 → (u.lv i).length ≤ (v.lv i).length + rs.length * A
  | [], _, _, h, _, i, hi => by cases h; omega
  | b :: rs, v, u, ⟨t, h1, h2⟩, ha, i, hi => by
    have h3 := RplF.short h2 (fun r hr => ha r (by simp [hr])) hi
    obtain ⟨e, U, h4, _⟩ := id h1
    have h5 := h1.len h4 hi
    have h6 := ha b (by simp) e h4
    rw [List.length_cons, Nat.add_mul]
    omega
end Go.Proofs.YtegbngbhmgbocaaGreatDoor
namespace Go.Proofs.YtegbngbhmgbocaaGreatDoor
open Go.ChangeShapes Go.WideShapes Go.ChangeAt Go.RowKit

theorem rdS_sum {b : List Nat} : ∀ (f t : Nat) (bg : Bool) (acc : List Nat) (en : Nat), ((rdS b f t bg acc en).1.map List.length).sum ≤ acc.length + (b.length - t)
  | 0, _, _, _, _ => by simp [rdS]
  | f + 1, t, bg, acc, en => by
    rcases hf : fnd b t with _ | ⟨k, d, e⟩
    · rw [rdS, hf]; simp
    · have he := fnd_end hf
      rw [rdS, hf]
      show ((if k = kd bg true then ((acc ++ d) :: (rdS b f e false [] e).1, (rdS b f e false [] e).2) else if k = kd bg false ∧ e % 64 = 0 then rdS b f e true (acc ++ d) en else ([], en)).1.map List.length).sum ≤ _
      split
      · have ih := rdS_sum (b := b) f e false [] e
        simp only [List.map_cons, List.sum_cons, List.length_append]
        simp only [List.length_nil] at ih
        omega
      · split
        · have ih := rdS_sum (b := b) f e true (acc ++ d) en
          rw [List.length_append] at ih
          omega
        · simp
theorem read_sum (b : List Nat) : ((readL b).1.map List.length).sum ≤ b.length := by
  have := rdS_sum (b := b) (b.length + 1) 0 false [] 0
  simpa [readL] using this
theorem encA_ge {p : Int × Fl} (h : okA p = true) : 16 ≤ (encA p).length := by
  unfold okA at h
  simp only [Bool.and_eq_true] at h
  obtain ⟨h1, h2⟩ := okF_keys h.2
  unfold isK at h1 h2
  simp only [Bool.and_eq_true, decide_eq_true_eq] at h1 h2
  unfold encA
  simp only [List.length_append]
  omega
theorem flatA_ge : ∀ (ps : List (Int × Fl)), (∀ p ∈ ps, okA p = true) → 16 * ps.length ≤ (ps.flatMap encA).length
  | [], _ => by simp
  | p :: ps, h => by
    have h1 := flatA_ge ps (fun q hq => h q (by simp [hq]))
    have h2 := encA_ge (h p (by simp))
    rw [List.flatMap_cons, List.length_append, List.length_cons]
    omega
/-- An edit's tables take bytes. -/
theorem dec_adds {r : List Nat} {e : Ed} (hb : By r) (h : decO r = some e) : 16 * e.add.length ≤ r.length := by
  have h1 := enc_decO hb h
  have h2 := decO_ok h
  unfold okE at h2
  simp only [Bool.and_eq_true] at h2
  have h3 := flatA_ge e.add (List.all_eq_true.1 h2.2.1)
  rw [← h1]
  unfold encE
  simp only [List.length_append]
  omega
theorem RplF.sum : ∀ {rs : List (List Nat)} {v u : Vn}, RplF v rs u → (∀ r ∈ rs, By r) → ∀ {i : Nat}, i < 5 → 16 * (u.lv i).length ≤ 16 * (v.lv i).length + (rs.map List.length).sum
  | [], _, _, h, _, i, hi => by cases h; simp
  | b :: rs, v, u, ⟨t, h1, h2⟩, hb, i, hi => by
    have h3 := RplF.sum h2 (fun r hr => hb r (by simp [hr])) hi
    obtain ⟨e, U, h4, _⟩ := id h1
    have h5 := h1.len h4 hi
    have h6 := dec_adds (hb b (by simp)) h4
    rw [List.map_cons, List.sum_cons]
    omega
theorem sum_take (rs : List (List Nat)) (k : Nat) : ((rs.take k).map List.length).sum ≤ (rs.map List.length).sum := by
  have h := congrArg (fun l => (l.map List.length).sum) (List.take_append_drop k rs)
  simp only [List.map_append, List.sum_append] at h
  omega
theorem len_sum {r : List Nat} : ∀ {rs : List (List Nat)}, r ∈ rs → r.length ≤ (rs.map List.length).sum
  | q :: rs, h => by
    rw [List.map_cons, List.sum_cons]
    rcases List.mem_cons.1 h with rfl | h
    · omega
    · have := len_sum h
      omega
/-- What Replay's contract asks of a log of at most 4000 bytes. -/
theorem replay_small {b : List Nat} (hl : b.length ≤ 4000) (hb : ∀ r ∈ (readL b).1, By r) :
    (∀ r ∈ (readL b).1, r.length ≤ 50000 ∧ ∀ e, decO r = some e → e.add.length ≤ 500 ∧ e.drop.length ≤ 1000000) ∧ ∀ k u, RplF vz ((readL b).1.take k) u → ∀ i, i < 5 → (u.lv i).length ≤ 500 := by
  have hs := read_sum b
  refine ⟨fun r hr => ?_, fun k u hu i hi => ?_⟩
  · have h1 := len_sum hr
    refine ⟨by omega, fun e he => ?_⟩
    have h2 := dec_adds (hb r hr) he
    have h3 := (dec_bys (hb r hr) he).2.1
    omega
  · have h1 := hu.sum (fun r hr => hb r (List.mem_of_mem_take hr)) hi
    have h2 := sum_take (readL b).1 k
    have h3 : (vz.lv i).length = 0 := rfl
    omega
end Go.Proofs.YtegbngbhmgbocaaGreatDoor
namespace Go.Proofs.YtegbngbhmgbocaaGreatDoor
open Go.ChangeShapes Go.WideShapes Go.ChangeAt Go.RowKit

set_option maxRecDepth 20000 in
set_option maxHeartbeats 3200000 in
theorem rcopied_c (w : World) {f : Fl} {la ma : Option Addr} {lc mc : Nat} (h : FRd w f la lc ma mc) :
    Calls Tryz.prog 40 #[.agg #[.int .i64 f.num, .int .i64 f.size, .slice la f.least.length lc, .slice ma f.most.length mc]] w fun r w' => COut w w' f r := by
  obtain ⟨ll, hll⟩ : ∃ ll, ll = f.least.length := ⟨_, rfl⟩
  obtain ⟨lm, hlm⟩ : ∃ lm, lm = f.most.length := ⟨_, rfl⟩
  rw [← hll, ← hlm]
  have HLL := hid hll
  have HLM := hid hlm
  obtain ⟨W0, hW0⟩ : ∃ W0, W0 = (w.alloc (.cells #[.int .i64 f.num, .int .i64 f.size, .slice la ll lc, .slice ma lm mc] 62)).alloc (.cells #[.int .i64 0, .int .i64 0, .slice none 0 0, .slice none 0 0] 62) := ⟨_, rfl⟩
  have f0 : Fr [] w W0 := by rw [hW0]; exact ((Fr.refl _ _).alloc _).alloc _
  have n0 : W0.heap[w.heap.size]? = some (.cells #[.int .i64 f.num, .int .i64 f.size, .slice la ll lc, .slice ma lm mc] 62 (0, 0)) := by rw [hW0, blk_old _ _ (by simp)]; exact blk_new _ _
  have n1 : W0.heap[w.heap.size + 1]? = some (.cells #[.int .i64 0, .int .i64 0, .slice none 0 0, .slice none 0 0] 62 (0, 0)) := by rw [hW0]; exact new_at _ _ (by simp)
  have hsz : w.heap.size + 1 < W0.heap.size := blk_lt n1
  have RL : Hid (∀ W', Fr [] w W' → Rd W' (.slice la ll lc) (bv f.least)) := hid (fun W' g => by rw [hll]; exact h.rl.fr g)
  have RM : Hid (∀ W', Fr [] w W' → Rd W' (.slice ma lm mc) (bv f.most)) := hid (fun W' g => by rw [hlm]; exact h.rm.fr g)
  have HB1 : Hid (0 + (bv f.least).length ≤ 140737488355328) := hid (by rw [bv_len, Nat.zero_add]; exact h.ll)
  have HB2 : Hid (0 + (bv f.most).length ≤ 140737488355328) := hid (by rw [bv_len, Nat.zero_add]; exact h.lm)
  have F0 := hid f0
  have N0 := hid n0
  have N1 := hid n1
  have y2 := (fl_cells n0).2.2.1
  have yf := blk_frozen n0 2
  clear h n0 n1 f0 hll hlm
  go_enter Tryz.func40, Tryz.ntmps40
  go_upto_region 1 with fail
  rw [← hW0]
  clear hW0
  go_cut [] from 3 to 6 (fun W => ∃ a5 c5, W.heap[w.heap.size]? = some (.cells #[.int .i64 f.num, .int .i64 f.size, .slice a5 f.least.length c5, .slice ma lm mc] 62 (0, 0)) ∧ W.heap[w.heap.size + 1]? = some (.cells #[.int .i64 0, .int .i64 0, .slice none 0 0, .slice none 0 0] 62 (0, 0)) ∧ W.ownsRow W0.heap.size 5 1 (.slice a5 f.least.length c5) f.least.length (bv f.least) ∧ Fr [] w W ∧ W0.heap.size ≤ W.heap.size)
  case first =>
    go_wp2_with (at_builtin; refine wpList_append_rd rfl _ _ rfl W0.heap.size (Nat.le_refl _) (.slice none 0 0) 0 [] (by simp [Act.eval]) (World.ownsRow_nil _ _ _ _) _ (bv f.least) (by simp [Act.eval]) (RL.out W0 F0.out) bv_one HB1.out ?_; intro v2 w2 o2 g2 _; obtain ⟨a2, c2, hv2, _⟩ := ownsRow_slice o2; subst hv2; have G2 : Hid (Fr [] W0 w2) := hid ((Fr.refl [] W0).grown g2 (fun k hk => by simp [Value.ownBlock] at hk)); have zf := blk_frozen (G2.out.at N0.out (by simp)) 2; have zc := (fl_cells (G2.out.at N0.out (by simp))).2.2.1; have O2 := hid o2; clear o2 g2)
    go_meet
    case rel =>
      have k0 := G2.out.at N0.out (by simp)
      have k1 := G2.out.at N1.out (by simp)
      have e : 0 + (bv f.least).length = f.least.length := by rw [bv_len, Nat.zero_add]
      have o := O2.out
      rw [e, List.nil_append] at o
      refine ⟨a2, c2, by rw [blk_set k0 2 _]; simp [bv_len], by rw [blk_setne _ _ _ (by omega)]; exact k1, own_set o (by omega), (F0.out.trans G2.out).set _ _ (.inr (Nat.le_refl _)), ?_⟩
      exact Nat.le_trans G2.out.size (by simp)
  case rest =>
    obtain ⟨a5, c5, k0, k1, o5, fw, hz⟩ := hcut
    have K0 := hid k0
    have K1 := hid k1
    have O5 := hid o5
    have FW := hid fw
    clear y2 yf
    have y3 := (fl_cells k0).2.2.2
    clear k0 k1 o5 fw F0 N0 N1 RL HB1
    go_upto_region 2 with fail
    go_cut [] from 7 to 10 (fun W => ∃ a7 c7, W.heap[w.heap.size]? = some (.cells #[.int .i64 f.num, .int .i64 f.size, .slice a5 f.least.length c5, .slice a7 f.most.length c7] 62 (0, 0)) ∧ W.heap[w.heap.size + 1]? = some (.cells #[.int .i64 0, .int .i64 0, .slice none 0 0, .slice none 0 0] 62 (0, 0)) ∧ XO w.heap.size W f a5 c5 a7 c7 ∧ Fr [] w W)
    case first =>
      go_wp2_with (at_builtin; refine wpList_append_rd rfl _ _ rfl W0.heap.size hz (.slice none 0 0) 0 [] (by simp [Act.eval]) (World.ownsRow_nil _ _ _ _) _ (bv f.most) (by simp [Act.eval]) (RM.out _ FW.out) bv_one HB2.out ?_; intro v2 w2 o2 g2 _; obtain ⟨a2, c2, hv2, _⟩ := ownsRow_slice o2; subst hv2; have G2 : Hid (Fr [] _ w2) := hid ((Fr.refl [] _).grown g2 (fun k hk => by simp [Value.ownBlock] at hk)); have zf := blk_frozen (G2.out.at K0.out (by simp)) 3; have zc := (fl_cells (G2.out.at K0.out (by simp))).2.2.2; have O2 := hid o2; clear o2 g2)
      go_meet
      case rel =>
        have k0 := G2.out.at K0.out (by simp)
        have k1 := G2.out.at K1.out (by simp)
        have e : 0 + (bv f.most).length = f.most.length := by rw [bv_len, Nat.zero_add]
        have o := O2.out
        rw [e, List.nil_append] at o
        refine ⟨a2, c2, by rw [blk_set k0 3 _]; simp [bv_len], by rw [blk_setne _ _ _ (by omega)]; exact k1, ⟨?_, ?_⟩, (FW.out.trans G2.out).set _ _ (.inr (Nat.le_refl _))⟩
        · exact own_base9 (own_set (ownsRow_fr O5.out G2.out) (by omega)) (by omega)
        · exact own_base9 (own_set o (by omega)) (by omega)
    case rest =>
      obtain ⟨a7, c7, k0, k1, xo, fw⟩ := hcut
      clear y3
      obtain ⟨y0, y1, y2, y3⟩ := fl_cells k0
      obtain ⟨x0, x1, x2, x3⟩ := fl_cells k1
      have qf0 := blk_frozen k1 0
      have qf1 := blk_frozen k1 1
      have qf2 := blk_frozen k1 2
      have qf3 := blk_frozen k1 3
      clear K0 K1 O5 FW
      have K1 := hid k1
      have XX := hid xo
      have FW := hid fw
      clear k0 k1 xo fw
      go_wp2_with fail
      refine bodyPost_ret (ret_c9k rfl (g := w.heap.size + 1) (by simp) (load4k (by rw [blk_set (blk_set (blk_set (blk_set K1.out 0 _) 1 _) 2 _) 3 _]; rfl))) rfl ?_
      refine ⟨⟨a5, c5, a7, c7, rfl, ?_⟩, (((FW.out.set _ _ (.inr (by omega))).set _ _ (.inr (by omega))).set _ _ (.inr (by omega))).set _ _ (.inr (by omega))⟩
      have st : ∀ {W : World} {i : Nat} {v : Value} {cs : Array Value}, W.heap[w.heap.size + 1]? = some (.cells cs 62 (0, 0)) → XO w.heap.size W f a5 c5 a7 c7 → XO w.heap.size (W.setCell ⟨w.heap.size + 1, i, none⟩ v) f a5 c5 a7 c7 := fun {W i v cs} hc hx =>
        ⟨ownsRow_of_block hx.ol fun b hb => blk_setne _ _ _ (fun e => by subst e; exact own_not hx.ol hc (by decide) hb), ownsRow_of_block hx.om fun b hb => blk_setne _ _ _ (fun e => by subst e; exact own_not hx.om hc (by decide) hb)⟩
      exact st (blk_set (blk_set (blk_set K1.out 0 _) 1 _) 2 _) (st (blk_set (blk_set K1.out 0 _) 1 _) (st (blk_set K1.out 0 _) (st K1.out XX.out)))
end Go.Proofs.YtegbngbhmgbocaaGreatDoor
namespace Go.Proofs.YtegbngbhmgbocaaGreatDoor
open Go.ChangeShapes Go.WideShapes Go.ChangeAt Go.RowKit

/-- A table put in ahead of the first that is not ahead of it. -/
def insF (i : Nat) (f : Fl) : List Fl → List Fl
  | [] => [f]
  | a :: r => if cmpF i a f < 0 then a :: insF i f r else f :: a :: r
theorem insF_perm (i : Nat) (f : Fl) : ∀ l : List Fl, (insF i f l).Perm (l ++ [f])
  | [] => List.Perm.refl _
  | a :: r => by
    unfold insF
    split
    · exact (insF_perm i f r).cons a
    · exact (List.perm_append_singleton f (a :: r)).symm
theorem insF_mem {i : Nat} {f x : Fl} {l : List Fl} (h : x ∈ insF i f l) : x = f ∨ x ∈ l := by
  have := (insF_perm i f l).mem_iff.1 h
  rcases List.mem_append.1 this with h | h
  · exact .inr h
  · exact .inl (by simpa using h)
theorem insF_sort (i : Nat) (f : Fl) : ∀ l : List Fl, l.Pairwise (fun a b => ¬ cmpF i b a < 0) → (insF i f l).Pairwise (fun a b => ¬ cmpF i b a < 0)
  | [], _ => List.pairwise_singleton _ _
  | a :: r, h => by
    obtain ⟨p1, p2⟩ := List.pairwise_cons.1 h
    unfold insF
    split
    next hc =>
      refine List.pairwise_cons.2 ⟨fun x hx => ?_, insF_sort i f r p2⟩
      rcases insF_mem hx with rfl | hx
      · rw [cmpF_neg i a x]; omega
      · exact p1 x hx
    next hc =>
      refine List.pairwise_cons.2 ⟨fun x hx => ?_, h⟩
      rcases List.mem_cons.1 hx with rfl | hx
      · exact hc
      · exact cmpF_nlt i (p1 x hx) hc
theorem insF_at (i : Nat) (f : Fl) : ∀ (l : List Fl) (k : Nat), k ≤ l.length → (∀ (j : Nat) (a : Fl), j < k → l[j]? = some a → cmpF i a f < 0) → (∀ a : Fl, l[k]? = some a → ¬ cmpF i a f < 0) → insF i f l = l.take k ++ f :: l.drop k
  | [], k, hk, _, _ => by
    have : k = 0 := by simpa using hk
    subst this
    rfl
  | a :: r, 0, _, _, h2 => by
    unfold insF
    rw [if_neg (h2 a rfl)]
    rfl
  | a :: r, k + 1, hk, h1, h2 => by
    unfold insF
    rw [if_pos (h1 0 a (by omega) rfl), insF_at i f r k (by simpa using hk) (fun j b hj hb => h1 (j + 1) b (by omega) (by simpa using hb)) (fun b hb => h2 b (by simpa using hb))]
    rfl
/-- .. one by one. -/
def insA (Z : Nat → List Fl) (ps : List (Int × Fl)) : Nat → List Fl := ps.foldl (fun Z p => upA Z p.1.toNat (insF p.1.toNat p.2 (Z p.1.toNat))) Z
theorem insA_snoc (Z : Nat → List Fl) (ps : List (Int × Fl)) (p : Int × Fl) : insA Z (ps ++ [p]) = upA (insA Z ps) p.1.toNat (insF p.1.toNat p.2 (insA Z ps p.1.toNat)) := by
  unfold insA; rw [List.foldl_append]; rfl
theorem insA_take (Z : Nat → List Fl) {ps : List (Int × Fl)} {k : Nat} {p : Int × Fl} (h : ps[k]? = some p) : insA Z (ps.take (k + 1)) = upA (insA Z (ps.take k)) p.1.toNat (insF p.1.toNat p.2 (insA Z (ps.take k) p.1.toNat)) := by
  rw [List.take_add_one, h]; exact insA_snoc Z _ p
theorem insA_comes : ∀ (ps : List (Int × Fl)) (Z : Nat → List Fl), (∀ p ∈ ps, 0 ≤ p.1) → (∀ i, (Z i).Pairwise (fun a b => ¬ cmpF i b a < 0)) → ∀ i, (insA Z ps i).Perm (Z i ++ addF ps i) ∧ (insA Z ps i).Pairwise (fun a b => ¬ cmpF i b a < 0)
  | [], Z, _, hs, i => ⟨by simp [insA, addF], hs i⟩
  | p :: ps, Z, h0, hs, i => by
    have hp := h0 p (by simp)
    obtain ⟨q1, q2⟩ := insA_comes ps (upA Z p.1.toNat (insF p.1.toNat p.2 (Z p.1.toNat))) (fun q hq => h0 q (by simp [hq])) (fun k => by
      by_cases e : k = p.1.toNat
      · subst e; rw [upA_same]; exact insF_sort _ _ _ (hs _)
      · rw [upA_ne _ _ e]; exact hs k) i
    refine ⟨q1.trans ?_, q2⟩
    by_cases e : i = p.1.toNat
    · have e2 : (p.1 == (i : Int)) = true := by simp; omega
      have e3 : addF (p :: ps) i = p.2 :: addF ps i := by unfold addF; rw [List.filter_cons, if_pos e2]; rfl
      rw [e3]
      subst e
      rw [upA_same]
      have := (insF_perm p.1.toNat p.2 (Z p.1.toNat)).append_right (addF ps p.1.toNat)
      rw [List.append_assoc] at this
      exact this
    · have e2 : ¬ (p.1 == (i : Int)) = true := by simp; omega
      have e3 : addF (p :: ps) i = addF ps i := by unfold addF; rw [List.filter_cons, if_neg e2]
      rw [e3, upA_ne _ _ e]
end Go.Proofs.YtegbngbhmgbocaaGreatDoor
namespace Go.Proofs.YtegbngbhmgbocaaGreatDoor
open Go.ChangeShapes Go.WideShapes Go.ChangeAt Go.RowKit

theorem nodup_at {l : List Fl} (nd : (l.map Fl.num).Nodup) {j k : Nat} {a b : Fl} (ha : l[j]? = some a) (hb : l[k]? = some b) (h : a.num = b.num) : j = k := by
  obtain ⟨q1, q2⟩ := List.getElem?_eq_some_iff.1 ha
  obtain ⟨q3, q4⟩ := List.getElem?_eq_some_iff.1 hb
  have hh := List.pairwise_iff_getElem.1 nd
  rcases Nat.lt_trichotomy j k with h1 | h1 | h1
  · have := hh j k (by rw [List.length_map]; exact q1) (by rw [List.length_map]; exact q3) h1
    rw [List.getElem_map, List.getElem_map, q2, q4] at this
    exact absurd h this
  · exact h1
  · have := hh k j (by rw [List.length_map]; exact q3) (by rw [List.length_map]; exact q1) h1
    rw [List.getElem_map, List.getElem_map, q2, q4] at this
    exact absurd h.symm this
/-- The one table of that number is taken out. -/
theorem del_at : ∀ {l : List Fl} (_ : (l.map Fl.num).Nodup) {k : Nat} {f : Fl} (_ : l[k]? = some f), l.take k ++ l.drop (k + 1) = l.filter (fun x => !decide (x.num = f.num))
  | [], _, k, f, hf => by simp at hf
  | a :: r, nd, 0, f, hf => by
    have e : a = f := by simpa using hf
    subst e
    rw [List.map_cons, List.nodup_cons] at nd
    rw [List.filter_cons, if_neg (by simp)]
    have : r.filter (fun x => !decide (x.num = a.num)) = r := List.filter_eq_self.2 (fun x hx => by
      rw [Bool.not_eq_true', decide_eq_false_iff_not]
      intro h
      exact nd.1 (List.mem_map.2 ⟨x, hx, h⟩))
    rw [this]
    simp
  | a :: r, nd, k + 1, f, hf => by
    have hf' : r[k]? = some f := by simpa using hf
    have ne : ¬ a.num = f.num := fun h => by
      have := nodup_at nd (j := 0) (k := k + 1) (a := a) (b := f) rfl hf h
      omega
    rw [List.map_cons, List.nodup_cons] at nd
    rw [List.filter_cons, if_pos (by simp [ne]), ← del_at nd.2 hf']
    rfl
theorem drF_snoc (gs : List (Int × Int)) (g : Int × Int) (i : Nat) (f : Fl) : drF (gs ++ [g]) i f = (drF gs i f || decide (((i : Int), f.num) = g)) := by
  unfold drF
  rw [Bool.eq_iff_iff]
  simp
theorem kept_snoc (gs : List (Int × Int)) (g : Int × Int) (L : Nat → List Fl) (i : Nat) : keptF (gs ++ [g]) L i = (keptF gs L i).filter (fun f => !decide (((i : Int), f.num) = g)) := by
  unfold keptF
  rw [List.filter_filter]
  refine List.filter_congr fun f _ => ?_
  rw [drF_snoc, Bool.not_or, Bool.and_comm]
theorem kept_other {gs : List (Int × Int)} {g : Int × Int} {L : Nat → List Fl} {i : Nat} (h : (i : Int) ≠ g.1) : keptF (gs ++ [g]) L i = keptF gs L i := by
  rw [kept_snoc]
  refine List.filter_eq_self.2 fun f _ => ?_
  rw [Bool.not_eq_true', decide_eq_false_iff_not]
  intro e
  exact h (congrArg Prod.fst e)
theorem kept_this {gs : List (Int × Int)} {g : Int × Int} {L : Nat → List Fl} {i : Nat} (h : (i : Int) = g.1) (nd : ((L i).map Fl.num).Nodup) {k : Nat} {f : Fl} (hf : (keptF gs L i)[k]? = some f) (hn : f.num = g.2) : keptF (gs ++ [g]) L i = (keptF gs L i).take k ++ (keptF gs L i).drop (k + 1) := by
  have nd2 : ((keptF gs L i).map Fl.num).Nodup := by
    unfold keptF
    exact List.Nodup.sublist (List.filter_sublist.map _) nd
  rw [del_at nd2 hf, kept_snoc]
  refine List.filter_congr fun x _ => ?_
  obtain ⟨g1, g2⟩ := g
  simp only at h hn
  rw [h, hn]
  congr 1
  rw [Bool.eq_iff_iff]
  simp
/-- How many are taken out of one list more. -/
theorem cnt_snoc (gs : List (Int × Int)) (g : Int × Int) (i : Nat) (l : List Fl) : l.countP (drF (gs ++ [g]) i) = l.countP (drF gs i) + (l.filter (fun f => !drF gs i f)).countP (fun f => decide (((i : Int), f.num) = g)) := by
  induction l with
  | nil => rfl
  | cons a r ih =>
    rw [List.countP_cons, List.countP_cons, List.filter_cons, ih, drF_snoc]
    cases h1 : drF gs i a with
    | true => simp; omega
    | false => simp [List.countP_cons]; omega
theorem cnt_none {i : Nat} {g : Int × Int} {l : List Fl} (h : ∀ f ∈ l, (i : Int) = g.1 → f.num ≠ g.2) : l.countP (fun f => decide (((i : Int), f.num) = g)) = 0 := by
  rw [List.countP_eq_zero]
  intro f hf hd
  have e := of_decide_eq_true hd
  exact h f hf (congrArg Prod.fst e) (congrArg Prod.snd e)
theorem cnt_one {i : Nat} {g : Int × Int} {l : List Fl} (nd : (l.map Fl.num).Nodup) (hi : (i : Int) = g.1) {f : Fl} (hf : f ∈ l) (hn : f.num = g.2) : l.countP (fun f => decide (((i : Int), f.num) = g)) = 1 := by
  induction l with
  | nil => cases hf
  | cons a r ih =>
    rw [List.map_cons, List.nodup_cons] at nd
    rw [List.countP_cons]
    rcases List.mem_cons.1 hf with rfl | hf
    · rw [cnt_none (fun x hx _ hh => nd.1 (List.mem_map.2 ⟨x, hx, hh.trans hn.symm⟩)), if_pos (decide_eq_true (by rw [hi, hn]))]
    · rw [ih nd.2 hf, if_neg]
      intro hd
      have e := congrArg Prod.snd (of_decide_eq_true hd)
      exact nd.1 (List.mem_map.2 ⟨f, hf, by rw [hn]; exact e.symm⟩)
end Go.Proofs.YtegbngbhmgbocaaGreatDoor
namespace Go.Proofs.YtegbngbhmgbocaaGreatDoor
open Go.ChangeShapes Go.WideShapes Go.ChangeAt Go.RowKit

theorem dc_snoc (gs : List (Int × Int)) {g : Int × Int} (L : Nat → List Fl) {i : Nat} (hi : (i : Int) = g.1) : ∀ m, dcF (gs ++ [g]) L m = dcF gs L m + if i < m then (keptF gs L i).countP (fun f => decide (((i : Int), f.num) = g)) else 0
  | 0 => by simp [dcF]
  | m + 1 => by
    show dcF (gs ++ [g]) L m + _ = dcF gs L m + _ + _
    rw [dc_snoc gs L hi m, cnt_snoc]
    by_cases e : i = m
    · subst e
      rw [if_neg (by omega), if_pos (by omega)]
      unfold keptF
      omega
    · rw [cnt_none (l := (L m).filter (fun f => !drF gs m f)) (fun f _ h _ => e (by omega))]
      by_cases e2 : i < m
      · rw [if_pos e2, if_pos (by omega)]; omega
      · rw [if_neg e2, if_neg (by omega)]; omega
theorem kept_nodup {gs : List (Int × Int)} {L : Nat → List Fl} {i : Nat} (nd : ((L i).map Fl.num).Nodup) : ((keptF gs L i).map Fl.num).Nodup := by
  unfold keptF
  exact List.Nodup.sublist (List.filter_sublist.map _) nd
theorem dc_found {gs : List (Int × Int)} {g : Int × Int} {L : Nat → List Fl} {i : Nat} (h5 : i < 5) (hi : (i : Int) = g.1) (nd : ((L i).map Fl.num).Nodup) {f : Fl} (hf : f ∈ keptF gs L i) (hn : f.num = g.2) : dcF (gs ++ [g]) L 5 = dcF gs L 5 + 1 := by
  rw [dc_snoc gs L hi 5, if_pos h5, cnt_one (kept_nodup nd) hi hf hn]
theorem dc_lost {gs : List (Int × Int)} {g : Int × Int} {L : Nat → List Fl} {i : Nat} (hi : (i : Int) = g.1) (hf : ∀ f ∈ keptF gs L i, f.num ≠ g.2) : dcF (gs ++ [g]) L 5 = dcF gs L 5 := by
  rw [dc_snoc gs L hi 5, cnt_none (fun f h _ => hf f h)]
  simp
theorem dc_le {gs : List (Int × Int)} {g : Int × Int} {L : Nat → List Fl} {i : Nat} (h5 : i < 5) (hi : (i : Int) = g.1) (nd : ((L i).map Fl.num).Nodup) : dcF (gs ++ [g]) L 5 ≤ dcF gs L 5 + 1 := by
  by_cases h : ∃ f ∈ keptF gs L i, f.num = g.2
  · obtain ⟨f, h1, h2⟩ := h
    rw [dc_found h5 hi nd h1 h2]
    exact Nat.le_refl _
  · rw [dc_lost hi (fun f hf hn => h ⟨f, hf, hn⟩)]
    omega
theorem dc_more {L : Nat → List Fl} (nd : ∀ i, i < 5 → ((L i).map Fl.num).Nodup) (gs : List (Int × Int)) : ∀ (hs : List (Int × Int)), (∀ g ∈ hs, 0 ≤ g.1 ∧ g.1 < 5) → dcF (gs ++ hs) L 5 ≤ dcF gs L 5 + hs.length
  | [], _ => by simp
  | g :: hs, hg => by
    have h1 := hg g (by simp)
    have h2 := dc_more nd (gs ++ [g]) hs (fun x hx => hg x (by simp [hx]))
    rw [List.append_assoc] at h2
    have h3 := dc_le (gs := gs) (g := g) (L := L) (i := g.1.toNat) (by omega) (by omega) (nd _ (by omega))
    rw [List.length_cons]
    have h4 : gs ++ ([g] ++ hs) = gs ++ g :: hs := rfl
    rw [h4] at h2
    omega
/-- One that isn't there: too few are taken out. -/
theorem dc_short {L : Nat → List Fl} (nd : ∀ i, i < 5 → ((L i).map Fl.num).Nodup) {gs : List (Int × Int)} (hg : ∀ g ∈ gs, 0 ≤ g.1 ∧ g.1 < 5) {k : Nat} {g : Int × Int} (hk : gs[k]? = some g) (h0 : dcF (gs.take k) L 5 = k) (hf : ∀ f ∈ keptF (gs.take k) L g.1.toNat, f.num ≠ g.2) : dcF gs L 5 ≠ gs.length := by
  have h1 := hg g (List.mem_of_getElem? hk)
  have h2 := dc_lost (gs := gs.take k) (g := g) (L := L) (i := g.1.toNat) (by omega) hf
  have h3 : gs.take (k + 1) = gs.take k ++ [g] := by rw [List.take_add_one, hk]; rfl
  rw [← h3] at h2
  have h4 := dc_more nd (gs.take (k + 1)) (gs.drop (k + 1)) (fun x hx => hg x (List.mem_of_mem_drop hx))
  rw [List.take_append_drop, List.length_drop] at h4
  have h5 := (List.getElem?_eq_some_iff.1 hk).1
  omega
/-- One more that is there. -/
theorem dc_step {L : Nat → List Fl} (nd : ∀ i, i < 5 → ((L i).map Fl.num).Nodup) {gs : List (Int × Int)} {k : Nat} {g : Int × Int} (hg : 0 ≤ g.1 ∧ g.1 < 5) (hk : gs[k]? = some g) (h0 : dcF (gs.take k) L 5 = k) {f : Fl} (hf : f ∈ keptF (gs.take k) L g.1.toNat) (hn : f.num = g.2) : dcF (gs.take (k + 1)) L 5 = k + 1 := by
  have h3 : gs.take (k + 1) = gs.take k ++ [g] := by rw [List.take_add_one, hk]; rfl
  rw [h3, dc_found (i := g.1.toNat) (by omega) (by omega) (nd _ (by omega)) hf hn, h0]
end Go.Proofs.YtegbngbhmgbocaaGreatDoor
