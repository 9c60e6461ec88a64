/-
  Maps without values: sets of numbers, of dropped tables.
-/
import Derived.Test.YtegbngbhmgbocaaGreatDoorJ01
import Derived.ChangeMaps4
import Derived.MapKept
import Derived.Test.YtegbngbhmgbocaaGreatDoorJ09
namespace Go.Proofs.YtegbngbhmgbocaaGreatDoor
open Go.ChangeShapes Go.WideShapes Go.ChangeAt Go.RowKit

/-- Values that are keys of one type. -/
structure KeyOk {α : Type} (kt : TypeId) (enc : α → Value) : Prop where
  check : ∀ (e : Bool) (x : α) (w : World), (Instr.checkKey e 10000 kt (enc x)).run Tryz.prog w = .ok () w
  find : ∀ (x : α) (es : List MapEntry) (w : World), (∀ e ∈ es, ∃ y, e.key = enc y) → ((∀ e ∈ es, e.key ≠ enc x) ∧ (Instr.findKey kt (enc x) es).run Tryz.prog w = .ok none w) ∨ ∃ j e, es[j]? = some e ∧ e.key = enc x ∧ (Instr.findKey kt (enc x) es).run Tryz.prog w = .ok (some (j, e.val)) w
  stays : ∀ (x : α) (w : World), (Instr.keyThatStays (enc x) (enc x)).run Tryz.prog w = .ok (enc x) w
  inj : ∀ x y : α, enc x = enc y → x = y
/-- A block that is the set of ks. -/
def SetB {α : Type} (enc : α → Value) (w : World) (m : Nat) (ks : List α) : Prop :=
  ∃ es clock, w.heap[m]? = some (.map es clock) ∧ (∀ e ∈ es.toList, e.val = .agg #[] ∧ ∃ k ∈ ks, e.key = enc k) ∧ ∀ k ∈ ks, ∃ e ∈ es.toList, e.key = enc k
theorem SetB.new {α : Type} (enc : α → Value) (w : World) {m : Nat} (hm : m = w.heap.size) : SetB enc (w.alloc (.map #[] 0)) m [] := by
  subst hm
  exact ⟨#[], 0, (MapKept.heap_alloc w _).1, by simp, by simp⟩
theorem SetB.lt {α : Type} {enc : α → Value} {w : World} {m : Nat} {ks : List α} (h : SetB enc w m ks) : m < w.heap.size := by
  obtain ⟨es, cl, hb, _⟩ := h
  exact (Array.getElem?_eq_some_iff.1 hb).1
theorem SetB.of {α : Type} {enc : α → Value} {w w' : World} {m : Nat} {ks : List α} (h : SetB enc w m ks) (e : w'.heap[m]? = w.heap[m]?) : SetB enc w' m ks := by
  obtain ⟨es, cl, hb, r⟩ := h
  exact ⟨es, cl, e.trans hb, r⟩
theorem SetB.fr {α : Type} {enc : α → Value} {w w' : World} {m : Nat} {ks : List α} (h : SetB enc w m ks) (f : Fr [] w w') : SetB enc w' m ks := h.of (f.block m h.lt (by simp))
theorem SetB.look {α : Type} {enc : α → Value} {kt mt et : TypeId} [DecidableEq α] (K : KeyOk kt enc) (ht : Tryz.prog.underlying mt = some (.map kt et)) (hz : ∀ w, (zeroValue et).run Tryz.prog w = .ok (.agg #[]) w) {w : World} {m : Nat} {ks : List α} (h : SetB enc w m ks) (x : α) :
    (Instr.lookup mt (.map (some m)) (enc x) true).run Tryz.prog w = .ok (.tuple #[.agg #[], .bool (decide (x ∈ ks))]) w := by
  obtain ⟨es, cl, hb, h1, h2⟩ := h
  rcases K.find x es.toList w (fun e he => (h1 e he).2.imp fun k hk => hk.2) with ⟨h3, h4⟩ | ⟨j, e, h3, h4, h5⟩
  · have hx : x ∉ ks := fun hx => by obtain ⟨e, he, hk⟩ := h2 x hx; exact h3 e he hk
    rw [decide_eq_false hx]
    simp [Instr.lookup, run_underlying ht, MapKept.run_getObj_map hb, K.check, h4, hz, Result.andThen]
  · have he := List.mem_of_getElem? h3
    obtain ⟨h6, k, hk, h7⟩ := h1 e he
    have hx : x ∈ ks := by rw [K.inj x k (h4.symm.trans h7)]; exact hk
    rw [decide_eq_true hx]
    simp [Instr.lookup, run_underlying ht, MapKept.run_getObj_map hb, K.check, h5, h6, Result.andThen]
theorem SetB.put {α : Type} {enc : α → Value} {kt mt et : TypeId} (K : KeyOk kt enc) (ht : Tryz.prog.underlying mt = some (.map kt et)) {w : World} {m : Nat} {ks : List α} (h : SetB enc w m ks) (x : α) :
    ∃ o, (Instr.mapUpdate mt (.map (some m)) (enc x) (.agg #[])).run Tryz.prog w = .ok () (ChangeMaps.setBlock w m o) ∧ SetB enc (ChangeMaps.setBlock w m o) m (ks ++ [x]) := by
  obtain ⟨es, cl, hb, h1, h2⟩ := h
  rcases K.find x es.toList w (fun e he => (h1 e he).2.imp fun k hk => hk.2) with ⟨h3, h4⟩ | ⟨j, e, h3, h4, h5⟩
  · refine ⟨_, by simp [Instr.mapUpdate, run_underlying ht, MapKept.run_getObj_map hb, K.check, h4, MapKept.run_setObj_map _ hb, Result.andThen, ChangeMaps.setBlock]; rfl, _, _, (MapKept.heap_set hb).1, ?_, ?_⟩
    · intro e he
      rw [Array.toList_push, List.mem_append, List.mem_singleton] at he
      rcases he with he | rfl
      · obtain ⟨q, k, hk, e1⟩ := h1 e he
        exact ⟨q, k, by simp [hk], e1⟩
      · exact ⟨rfl, x, by simp, rfl⟩
    · intro k hk
      rw [List.mem_append, List.mem_singleton] at hk
      rcases hk with hk | rfl
      · obtain ⟨e, he, e1⟩ := h2 k hk
        exact ⟨e, by rw [Array.toList_push]; simp [he], e1⟩
      · exact ⟨⟨enc k, .agg #[], cl⟩, by rw [Array.toList_push]; simp, rfl⟩
  · have hj : es[j]? = some e := by simpa using h3
    have hx : x ∈ ks := by
      obtain ⟨_, k, hk, h7⟩ := h1 e (List.mem_of_getElem? h3)
      rw [K.inj x k (h4.symm.trans h7)]; exact hk
    have hkey : ∀ e', es[j]? = some e' → ({ e' with key := enc x, val := .agg #[] } : MapEntry).key = e'.key := fun e' he' => by rw [hj] at he'; cases he'; exact h4.symm
    have hks := MapKept.modify_keys j (fun e' => ({ e' with key := enc x, val := .agg #[] } : MapEntry)) hkey
    refine ⟨_, by simp [Instr.mapUpdate, run_underlying ht, MapKept.run_getObj_map hb, K.check, h5, hj, h4, K.stays, MapKept.run_setObj_map _ hb, Result.andThen, ChangeMaps.setBlock]; rfl, _, _, (MapKept.heap_set hb).1, ?_, ?_⟩
    · intro e' he'
      obtain ⟨i, hi⟩ := List.getElem?_of_mem he'
      rw [Array.getElem?_toList, Array.getElem?_modify] at hi
      by_cases hij : j = i
      · subst hij
        rw [if_pos rfl, hj] at hi
        simp at hi
        subst hi
        exact ⟨rfl, x, by simp, rfl⟩
      · rw [if_neg hij] at hi
        obtain ⟨q, k, hk, e1⟩ := h1 e' (List.mem_of_getElem? (by rw [Array.getElem?_toList]; exact hi))
        exact ⟨q, k, by simp [hk], e1⟩
    · intro k hk
      have hk' : k ∈ ks := by
        rw [List.mem_append, List.mem_singleton] at hk
        rcases hk with hk | rfl
        · exact hk
        · exact hx
      obtain ⟨e2, he2, e1⟩ := h2 k hk'
      have h8 : e2.key ∈ es.toList.map (·.key) := List.mem_map.2 ⟨e2, he2, rfl⟩
      rw [← hks] at h8
      obtain ⟨e3, he3, e4⟩ := List.mem_map.1 h8
      exact ⟨e3, he3, e4.trans e1⟩
/-- A number as a key. -/
def encN (n : Int) : Value := .int .i64 n
theorem int_ok : KeyOk 3 encN where
  check e x w := MapKept.run_checkKey (d := .int .i64) Tryz.underlying3 (show MapKept.IsKey (.int .i64) (.int .i64 x) from rfl) e 9999
  find x es w h := by
    rcases MapKept.findNow_spec (d := .int .i64) (k := encN x) (show MapKept.IsKey (.int .i64) (.int .i64 x) from rfl) es 0 (fun e he => by obtain ⟨y, hy⟩ := h e he; rw [hy]; exact rfl) with ⟨h1, h2⟩ | ⟨j, e, h1, h2, h3⟩
    · exact .inl ⟨h2, MapKept.run_findKey Tryz.underlying3 h1⟩
    · exact .inr ⟨j, e, h2, h3, by rw [MapKept.run_findKey Tryz.underlying3 h1, Nat.zero_add]⟩
  stays x w := MapKept.run_keyThatStays (d := .int .i64) (show MapKept.IsKey (.int .i64) (.int .i64 x) from rfl)
  inj x y h := by unfold encN at h; cases h; rfl
/-- A dropped table as a key. -/
def encG (g : Int × Int) : Value := .agg #[.int .i64 g.1, .int .i64 g.2]
theorem eqG0 (a b c d : Int) (w : World) : (Op.equalIn 10000 45 (.agg #[.int .i64 a, .int .i64 b]) (.agg #[.int .i64 c, .int .i64 d])).run Tryz.prog w = .ok (a == c && b == d) w := by
  have u3 := Tryz.underlying3
  have a3 := Tryz.isAgg3
  have z3 := Tryz.sizeOf3
  have hS : Tryz.prog.underlying 45 = some (.struct (Tryz.prog.fieldsOf 45)) := by kernel_rfl
  have hp : Tryz.prog.stoodInHeld 45 = false := by kernel_rfl
  rw [show (10000 : Nat) = 9999 + 1 from rfl, run_equalIn_agg w 9999 45 _ _ hS hp]
  simp only [Program.fieldsOf, Tryz.underlying45]
  go_simp
  by_cases h1 : a = c <;> by_cases h2 : b = d <;> simp [h1, h2]
theorem eqG (x y : Int × Int) (w : World) : (Op.equal 45 (encG x) (encG y)).run Tryz.prog w = .ok (decide (x = y)) w := by
  have h : (Op.equal 45 (encG x) (encG y)).run Tryz.prog w = .ok (x.1 == y.1 && x.2 == y.2) w := eqG0 _ _ _ _ w
  have e : (x.1 == y.1 && x.2 == y.2) = decide (x = y) := by
    rw [Bool.eq_iff_iff]
    simp [Prod.ext_iff]
  rw [h, e]
theorem find_asking (x : Int × Int) (w : World) : ∀ (es : List MapEntry) (i : Nat), (∀ e ∈ es, ∃ y, e.key = encG y) → ((∀ e ∈ es, e.key ≠ encG x) ∧ (Instr.findAsking 45 (encG x) es i).run Tryz.prog w = .ok none w) ∨ ∃ j e, es[j]? = some e ∧ e.key = encG x ∧ (Instr.findAsking 45 (encG x) es i).run Tryz.prog w = .ok (some (i + j, e.val)) w
  | [], i, _ => .inl ⟨by simp, by simp [Instr.findAsking]⟩
  | e :: es, i, h => by
    obtain ⟨y, hy⟩ := h e (by simp)
    by_cases hxy : x = y
    · refine .inr ⟨0, e, rfl, by rw [hy, hxy], ?_⟩
      simp [Instr.findAsking, hy, eqG, hxy, Result.andThen]
    · rcases find_asking x w es (i + 1) (fun e' he' => h e' (by simp [he'])) with ⟨h1, h2⟩ | ⟨j, e', h1, h2, h3⟩
      · refine .inl ⟨fun e' he' => ?_, by simp [Instr.findAsking, hy, eqG, hxy, Result.andThen, h2]⟩
        rcases List.mem_cons.1 he' with rfl | he'
        · rw [hy]
          intro q
          unfold encG at q
          simp at q
          exact hxy (Prod.ext q.1.symm q.2.symm)
        · exact h1 e' he'
      · exact .inr ⟨j + 1, e', by simpa using h1, h2, by simp [Instr.findAsking, hy, eqG, hxy, Result.andThen, h3]; omega⟩
theorem gone_ok : KeyOk 45 encG where
  check e x w := by cases e <;> kernel_rfl
  find x es w h := by
    cases es with
    | nil => exact .inl ⟨by simp, by simp [Instr.findKey, run_underlying Tryz.underlying45, Instr.findNow, Result.andThen]⟩
    | cons e es =>
      obtain ⟨y, hy⟩ := h e (by simp)
      have e1 : (Instr.findKey 45 (encG x) (e :: es)).run Tryz.prog w = (Instr.findAsking 45 (encG x) (e :: es)).run Tryz.prog w := by
        simp [Instr.findKey, run_underlying Tryz.underlying45, Instr.findNow, hy, encG, Instr.sameNow, Result.andThen]
      rw [e1]
      simpa using find_asking x w (e :: es) 0 h
  stays x w := by
    have : Instr.sameBits 10000 (encG x) (encG x) = true := by
      unfold encG
      simp [Instr.sameBits]
    simp [Instr.keyThatStays, this]
  inj x y h := by unfold encG at h; simp at h; exact Prod.ext h.1 h.2
theorem zeroU (w : World) : (zeroValue 101).run Tryz.prog w = .ok (.agg #[]) w := by kernel_rfl
end Go.Proofs.YtegbngbhmgbocaaGreatDoor
namespace Go.Proofs.YtegbngbhmgbocaaGreatDoor
open Go.ChangeShapes Go.WideShapes Go.ChangeAt Go.RowKit

theorem take_pre {L : Nat → List Fl} {i j : Nat} {f : Fl} (h : (L i)[j]? = some f) : pfx L i ++ (L i).take (j + 1) = (pfx L i ++ (L i).take j) ++ [f] := by
  rw [List.take_add_one, h]; simp
theorem drop_pre {α : Type} {l : List α} {j : Nat} {f : α} (h : l[j]? = some f) : l.drop j = f :: l.drop (j + 1) := by
  obtain ⟨hj, rfl⟩ := List.getElem?_eq_some_iff.1 h
  exact List.drop_eq_getElem_cons hj

set_option maxRecDepth 20000 in
set_option maxHeartbeats 3200000 in
theorem each_file (w : World) {L : Nat → List Fl} {ad : Nat → Option Addr} {ln cp : Nat → Nat} (lg nx : Int) (sq : Nat) (I : List Fl → World → Prop) (p : List Fl → Fl → Bool) (wb : World) (hv : VAt wb L ad ln cp) (h0 : I [] w) (HI : ∀ pre W, I pre W → Fr [] wb W) (HA : ∀ pre W W', I pre W → Fr [] W W' → I pre W')
    (H : ∀ (pre : List Fl) (f : Fl) (W : World) (la : Option Addr) (lc : Nat) (ma : Option Addr) (mc : Nat), I pre W → FRd W f la lc ma mc → Calls Tryz.prog 45 #[.agg #[.int .i64 f.num, .int .i64 f.size, .slice la f.least.length lc, .slice ma f.most.length mc]] W fun r W' => r = .returned (.bool (p pre f)) ∧ I (pre ++ [f]) W') :
    Calls Tryz.prog 49 #[.agg #[.int .i64 lg, .int .i64 nx, .int .u64 (sq : Int), .slice (ad 0) (ln 0) (cp 0), .slice (ad 1) (ln 1) (cp 1), .slice (ad 2) (ln 2) (cp 2), .slice (ad 3) (ln 3) (cp 3), .slice (ad 4) (ln 4) (cp 4)], .func (.func 45) #[] #[]] w fun r w' => r = .returned (.bool (runP p [] (pfx L 5))) ∧ ∃ pre, I pre w' := by
  obtain ⟨R, hR⟩ : ∃ R, R = runP p [] (pfx L 5) := ⟨_, rfl⟩
  rw [← hR]
  have HR : Hid (R = runP p [] (pfx L 5)) := hid hR
  clear hR
  have HV := hid hv
  have HHI := hid HI
  have HHA := hid HA
  have HH := hid H
  clear hv HI HA H
  obtain ⟨W0, hW0⟩ : ∃ W0, W0 = w.alloc (.cells #[.int .i64 lg, .int .i64 nx, .int .u64 (sq : Int), .slice (ad 0) (ln 0) (cp 0), .slice (ad 1) (ln 1) (cp 1), .slice (ad 2) (ln 2) (cp 2), .slice (ad 3) (ln 3) (cp 3), .slice (ad 4) (ln 4) (cp 4)] 28) := ⟨_, rfl⟩
  have I0 : Hid (I [] W0) := hid (HHA.out _ _ _ h0 (by rw [hW0]; exact (Fr.refl _ _).alloc _))
  have n0 : W0.heap[w.heap.size]? = some (.cells #[.int .i64 lg, .int .i64 nx, .int .u64 (sq : Int), .slice (ad 0) (ln 0) (cp 0), .slice (ad 1) (ln 1) (cp 1), .slice (ad 2) (ln 2) (cp 2), .slice (ad 3) (ln 3) (cp 3), .slice (ad 4) (ln 4) (cp 4)] 28 (0, 0)) := by rw [hW0]; exact blk_new _ _
  obtain ⟨z0, z1, z2, z3, z4, z5, z6, z7⟩ := vn_cells n0
  have HX : Hid (∀ i : Nat, i < 5 → ∀ W : World, (Instr.index 26 (.agg #[.slice (ad 0) (ln 0) (cp 0), .slice (ad 1) (ln 1) (cp 1), .slice (ad 2) (ln 2) (cp 2), .slice (ad 3) (ln 3) (cp 3), .slice (ad 4) (ln 4) (cp 4)]) (.int .i64 (i : Int))).run Tryz.prog W = .ok (.slice (ad i) (ln i) (cp i)) W) := hid (fun i hi W => ixs hi ad ln cp W)
  clear n0 h0
  go_enter Tryz.func49, Tryz.ntmps49
  go_upto_region 1 with fail
  rw [← hW0]
  clear hW0
  go_wp2_with fail
  clear z0 z1 z2 z3 z4 z5 z6 z7
  go_loopw [11] (fun v11 wr => ∃ i : Nat, i ≤ 5 ∧ v11 = .int .i64 (i : Int) ∧ I (pfx L i) wr ∧ R = runP p (pfx L i) (sfx L i)) (fun v11 _ => 5 - (intOf v11).toNat)
  case atStart => exact ⟨0, by omega, rfl, I0.out, by rw [HR.out, ← pfx_sfx L 0 (by omega)]; rfl⟩
  case round =>
    obtain ⟨i, hi, rfl, hI, hq⟩ := hrel
    have II := hid hI
    have HQ := hid hq
    clear hI hq
    by_cases hlt : i < 5
    · have hlt' : (i : Int) < 5 := by omega
      have ixi := HX.out i hlt
      have HLN := hid (HV.out.len i hlt)
      have HSM := HV.out.small i hlt
      have HRD := hid (HV.out.rd i hlt)
      obtain ⟨li, hli⟩ : ∃ li, li = ln i := ⟨_, rfl⟩
      obtain ⟨ai, hai⟩ : ∃ ai, ai = ad i := ⟨_, rfl⟩
      obtain ⟨ci, hci⟩ : ∃ ci, ci = cp i := ⟨_, rfl⟩
      rw [← hli] at ixi HLN HSM HRD
      rw [← hai] at ixi HRD
      rw [← hci] at ixi
      clear hli hai hci
      obtain ⟨W1, h1⟩ : ∃ W, W = wr := ⟨_, rfl⟩
      subst h1
      go_wp2_with fail
      clear ixi
      go_loopw [16] (fun v16 wr => ∃ j : Nat, j ≤ li ∧ v16 = .int .i64 (j : Int) ∧ I (pfx L i ++ (L i).take j) wr ∧ R = runP p (pfx L i ++ (L i).take j) ((L i).drop j ++ sfx L (i + 1))) (fun v16 _ => li - (intOf v16).toNat)
      case atStart => exact ⟨0, by omega, rfl, by simpa using II.out, by rw [HQ.out, sfx_succ L hlt]; simp⟩
      case round =>
        obtain ⟨j, hj, rfl, hI, hq⟩ := hrel
        have IJ := hid hI
        have HQ2 := hid hq
        clear hI hq II HQ
        by_cases hjl : j < li
        · have hjl' : (j : Int) < (li : Int) := by omega
          obtain ⟨f, hf⟩ : ∃ f, (L i)[j]? = some f := ⟨_, List.getElem?_eq_getElem (by rw [← HLN.out]; exact hjl)⟩
          have HF := hid hf
          obtain ⟨b, off, hab, m1⟩ := HRD.out (by omega)
          subst hab
          obtain ⟨la, lc, ma, mc, k1⟩ := m1 j f hf
          have k2 := k1.fr (HHI.out _ _ IJ.out)
          clear hf m1 k1
          obtain ⟨x0, x1, x2, x3, xr⟩ := k2
          obtain ⟨W2, hW2⟩ : ∃ W2, W2 = wr.alloc (.cells #[.int .i64 f.num, .int .i64 f.size, .slice la f.least.length lc, .slice ma f.most.length mc] 62) := ⟨_, rfl⟩
          have fw : Fr [] wr W2 := by rw [hW2]; exact (Fr.refl _ _).alloc _
          have I2 := hid (HHA.out _ _ _ IJ.out fw)
          have n2 : W2.heap[wr.heap.size]? = some (.cells #[.int .i64 f.num, .int .i64 f.size, .slice la f.least.length lc, .slice ma f.most.length mc] 62 (0, 0)) := by rw [hW2]; exact blk_new _ _
          obtain ⟨y0, y1, y2, y3⟩ := fl_cells n2
          have HC := hid (HH.out (pfx L i ++ (L i).take j) f W2 la lc ma mc I2.out (xr.fr fw))
          clear n2 fw xr
          have HT : Hid (R = (p (pfx L i ++ (L i).take j) f && runP p (pfx L i ++ (L i).take (j + 1)) ((L i).drop (j + 1) ++ sfx L (i + 1)))) := hid (by rw [HQ2.out, drop_pre HF.out, take_pre HF.out]; rfl)
          go_upto_region 7 with fail
          rw [← hW2]
          clear hW2 x0 x1 x2 x3
          cases hp : p (pfx L i ++ (L i).take j) f with
          | false =>
            rw [hp] at HC HT
            rw [Bool.false_and] at HT
            clear hp
            go_wp2_with (go_at_call 45; refine HC.out.mono ?_; rintro r W3 ⟨rfl, i3⟩; have I3 := hid i3; clear i3)
            go_ret
            exact ⟨ret_bool HT.out.symm, _, I3.out⟩
          | true =>
            rw [hp] at HC HT
            rw [Bool.true_and] at HT
            clear hp
            go_wp2_with (go_at_call 45; refine HC.out.mono ?_; rintro r W3 ⟨rfl, i3⟩; have I3 := hid i3; clear i3)
            go_roundw
            case rel => exact ⟨j + 1, by omega, by go_num, by rw [take_pre HF.out]; exact I3.out, HT.out⟩
            case measure => simp [intOf]; omega
        · have hjn : j = li := by omega
          subst hjn
          go_wp2_with fail
          go_roundw
          case rel => exact ⟨i + 1, by omega, by go_num, by rw [pfx_succ]; have := IJ.out; rw [HLN.out, List.take_length] at this; exact this, by rw [HQ2.out, HLN.out, List.take_length, List.drop_length, pfx_succ]; rfl⟩
          case measure => simp [intOf]; omega
    · have hin : i = 5 := by omega
      subst hin
      have HE : Hid (R = true) := hid (by rw [HQ.out, sfx_five]; rfl)
      go_wp2
      go_ret
      exact ⟨ret_bool HE.out.symm, _, II.out⟩

set_option maxRecDepth 20000 in
set_option maxHeartbeats 3200000 in
theorem each_fresh (w : World) {L : Nat → List Fl} {ad : Nat → Option Addr} {ln cp : Nat → Nat} (lg nx : Int) (sq : Nat) (q : Nat) (I : List Fl → World → Prop) (p : List Fl → Fl → Bool) (wb : World) (hv : VAt wb L ad ln cp) (h0 : I [] w) (HI : ∀ pre W, I pre W → Fr [] wb W) (HA : ∀ pre W W', I pre W → Fr [] W W' → I pre W')
    (H : ∀ (pre : List Fl) (f : Fl) (W : World) (la : Option Addr) (lc : Nat) (ma : Option Addr) (mc : Nat), I pre W → FRd W f la lc ma mc → Calls Tryz.prog 47 #[.agg #[.int .i64 f.num, .int .i64 f.size, .slice la f.least.length lc, .slice ma f.most.length mc], .pointer (some ⟨q, 0, none⟩)] W fun r W' => r = .returned (.bool (p pre f)) ∧ I (pre ++ [f]) W') :
    Calls Tryz.prog 49 #[.agg #[.int .i64 lg, .int .i64 nx, .int .u64 (sq : Int), .slice (ad 0) (ln 0) (cp 0), .slice (ad 1) (ln 1) (cp 1), .slice (ad 2) (ln 2) (cp 2), .slice (ad 3) (ln 3) (cp 3), .slice (ad 4) (ln 4) (cp 4)], .func (.func 47) #[] #[.pointer (some ⟨q, 0, none⟩)]] w fun r w' => r = .returned (.bool (runP p [] (pfx L 5))) ∧ ∃ pre, I pre w' := by
  obtain ⟨R, hR⟩ : ∃ R, R = runP p [] (pfx L 5) := ⟨_, rfl⟩
  rw [← hR]
  have HR : Hid (R = runP p [] (pfx L 5)) := hid hR
  clear hR
  have HV := hid hv
  have HHI := hid HI
  have HHA := hid HA
  have HH := hid H
  clear hv HI HA H
  obtain ⟨W0, hW0⟩ : ∃ W0, W0 = w.alloc (.cells #[.int .i64 lg, .int .i64 nx, .int .u64 (sq : Int), .slice (ad 0) (ln 0) (cp 0), .slice (ad 1) (ln 1) (cp 1), .slice (ad 2) (ln 2) (cp 2), .slice (ad 3) (ln 3) (cp 3), .slice (ad 4) (ln 4) (cp 4)] 28) := ⟨_, rfl⟩
  have I0 : Hid (I [] W0) := hid (HHA.out _ _ _ h0 (by rw [hW0]; exact (Fr.refl _ _).alloc _))
  have n0 : W0.heap[w.heap.size]? = some (.cells #[.int .i64 lg, .int .i64 nx, .int .u64 (sq : Int), .slice (ad 0) (ln 0) (cp 0), .slice (ad 1) (ln 1) (cp 1), .slice (ad 2) (ln 2) (cp 2), .slice (ad 3) (ln 3) (cp 3), .slice (ad 4) (ln 4) (cp 4)] 28 (0, 0)) := by rw [hW0]; exact blk_new _ _
  obtain ⟨z0, z1, z2, z3, z4, z5, z6, z7⟩ := vn_cells n0
  have HX : Hid (∀ i : Nat, i < 5 → ∀ W : World, (Instr.index 26 (.agg #[.slice (ad 0) (ln 0) (cp 0), .slice (ad 1) (ln 1) (cp 1), .slice (ad 2) (ln 2) (cp 2), .slice (ad 3) (ln 3) (cp 3), .slice (ad 4) (ln 4) (cp 4)]) (.int .i64 (i : Int))).run Tryz.prog W = .ok (.slice (ad i) (ln i) (cp i)) W) := hid (fun i hi W => ixs hi ad ln cp W)
  clear n0 h0
  go_enter Tryz.func49, Tryz.ntmps49
  go_upto_region 1 with fail
  rw [← hW0]
  clear hW0
  go_wp2_with fail
  clear z0 z1 z2 z3 z4 z5 z6 z7
  go_loopw [11] (fun v11 wr => ∃ i : Nat, i ≤ 5 ∧ v11 = .int .i64 (i : Int) ∧ I (pfx L i) wr ∧ R = runP p (pfx L i) (sfx L i)) (fun v11 _ => 5 - (intOf v11).toNat)
  case atStart => exact ⟨0, by omega, rfl, I0.out, by rw [HR.out, ← pfx_sfx L 0 (by omega)]; rfl⟩
  case round =>
    obtain ⟨i, hi, rfl, hI, hq⟩ := hrel
    have II := hid hI
    have HQ := hid hq
    clear hI hq
    by_cases hlt : i < 5
    · have hlt' : (i : Int) < 5 := by omega
      have ixi := HX.out i hlt
      have HLN := hid (HV.out.len i hlt)
      have HSM := HV.out.small i hlt
      have HRD := hid (HV.out.rd i hlt)
      obtain ⟨li, hli⟩ : ∃ li, li = ln i := ⟨_, rfl⟩
      obtain ⟨ai, hai⟩ : ∃ ai, ai = ad i := ⟨_, rfl⟩
      obtain ⟨ci, hci⟩ : ∃ ci, ci = cp i := ⟨_, rfl⟩
      rw [← hli] at ixi HLN HSM HRD
      rw [← hai] at ixi HRD
      rw [← hci] at ixi
      clear hli hai hci
      obtain ⟨W1, h1⟩ : ∃ W, W = wr := ⟨_, rfl⟩
      subst h1
      go_wp2_with fail
      clear ixi
      go_loopw [16] (fun v16 wr => ∃ j : Nat, j ≤ li ∧ v16 = .int .i64 (j : Int) ∧ I (pfx L i ++ (L i).take j) wr ∧ R = runP p (pfx L i ++ (L i).take j) ((L i).drop j ++ sfx L (i + 1))) (fun v16 _ => li - (intOf v16).toNat)
      case atStart => exact ⟨0, by omega, rfl, by simpa using II.out, by rw [HQ.out, sfx_succ L hlt]; simp⟩
      case round =>
        obtain ⟨j, hj, rfl, hI, hq⟩ := hrel
        have IJ := hid hI
        have HQ2 := hid hq
        clear hI hq II HQ
        by_cases hjl : j < li
        · have hjl' : (j : Int) < (li : Int) := by omega
          obtain ⟨f, hf⟩ : ∃ f, (L i)[j]? = some f := ⟨_, List.getElem?_eq_getElem (by rw [← HLN.out]; exact hjl)⟩
          have HF := hid hf
          obtain ⟨b, off, hab, m1⟩ := HRD.out (by omega)
          subst hab
          obtain ⟨la, lc, ma, mc, k1⟩ := m1 j f hf
          have k2 := k1.fr (HHI.out _ _ IJ.out)
          clear hf m1 k1
          obtain ⟨x0, x1, x2, x3, xr⟩ := k2
          obtain ⟨W2, hW2⟩ : ∃ W2, W2 = wr.alloc (.cells #[.int .i64 f.num, .int .i64 f.size, .slice la f.least.length lc, .slice ma f.most.length mc] 62) := ⟨_, rfl⟩
          have fw : Fr [] wr W2 := by rw [hW2]; exact (Fr.refl _ _).alloc _
          have I2 := hid (HHA.out _ _ _ IJ.out fw)
          have n2 : W2.heap[wr.heap.size]? = some (.cells #[.int .i64 f.num, .int .i64 f.size, .slice la f.least.length lc, .slice ma f.most.length mc] 62 (0, 0)) := by rw [hW2]; exact blk_new _ _
          obtain ⟨y0, y1, y2, y3⟩ := fl_cells n2
          have HC := hid (HH.out (pfx L i ++ (L i).take j) f W2 la lc ma mc I2.out (xr.fr fw))
          clear n2 fw xr
          have HT : Hid (R = (p (pfx L i ++ (L i).take j) f && runP p (pfx L i ++ (L i).take (j + 1)) ((L i).drop (j + 1) ++ sfx L (i + 1)))) := hid (by rw [HQ2.out, drop_pre HF.out, take_pre HF.out]; rfl)
          go_upto_region 7 with fail
          rw [← hW2]
          clear hW2 x0 x1 x2 x3
          cases hp : p (pfx L i ++ (L i).take j) f with
          | false =>
            rw [hp] at HC HT
            rw [Bool.false_and] at HT
            clear hp
            go_wp2_with (go_at_call 47; refine HC.out.mono ?_; rintro r W3 ⟨rfl, i3⟩; have I3 := hid i3; clear i3)
            go_ret
            exact ⟨ret_bool HT.out.symm, _, I3.out⟩
          | true =>
            rw [hp] at HC HT
            rw [Bool.true_and] at HT
            clear hp
            go_wp2_with (go_at_call 47; refine HC.out.mono ?_; rintro r W3 ⟨rfl, i3⟩; have I3 := hid i3; clear i3)
            go_roundw
            case rel => exact ⟨j + 1, by omega, by go_num, by rw [take_pre HF.out]; exact I3.out, HT.out⟩
            case measure => simp [intOf]; omega
        · have hjn : j = li := by omega
          subst hjn
          go_wp2_with fail
          go_roundw
          case rel => exact ⟨i + 1, by omega, by go_num, by rw [pfx_succ]; have := IJ.out; rw [HLN.out, List.take_length] at this; exact this, by rw [HQ2.out, HLN.out, List.take_length, List.drop_length, pfx_succ]; rfl⟩
          case measure => simp [intOf]; omega
    · have hin : i = 5 := by omega
      subst hin
      have HE : Hid (R = true) := hid (by rw [HQ.out, sfx_five]; rfl)
      go_wp2
      go_ret
      exact ⟨ret_bool HE.out.symm, _, II.out⟩

set_option maxRecDepth 20000 in
set_option maxHeartbeats 3200000 in
theorem each_below (w : World) {L : Nat → List Fl} {ad : Nat → Option Addr} {ln cp : Nat → Nat} (lg nx : Int) (sq : Nat) (q : Nat) (I : List Fl → World → Prop) (p : List Fl → Fl → Bool) (wb : World) (hv : VAt wb L ad ln cp) (h0 : I [] w) (HI : ∀ pre W, I pre W → Fr [] wb W) (HA : ∀ pre W W', I pre W → Fr [] W W' → I pre W')
    (H : ∀ (pre : List Fl) (f : Fl) (W : World) (la : Option Addr) (lc : Nat) (ma : Option Addr) (mc : Nat), I pre W → FRd W f la lc ma mc → Calls Tryz.prog 48 #[.agg #[.int .i64 f.num, .int .i64 f.size, .slice la f.least.length lc, .slice ma f.most.length mc], .pointer (some ⟨q, 0, none⟩)] W fun r W' => r = .returned (.bool (p pre f)) ∧ I (pre ++ [f]) W') :
    Calls Tryz.prog 49 #[.agg #[.int .i64 lg, .int .i64 nx, .int .u64 (sq : Int), .slice (ad 0) (ln 0) (cp 0), .slice (ad 1) (ln 1) (cp 1), .slice (ad 2) (ln 2) (cp 2), .slice (ad 3) (ln 3) (cp 3), .slice (ad 4) (ln 4) (cp 4)], .func (.func 48) #[] #[.pointer (some ⟨q, 0, none⟩)]] w fun r w' => r = .returned (.bool (runP p [] (pfx L 5))) ∧ ∃ pre, I pre w' := by
  obtain ⟨R, hR⟩ : ∃ R, R = runP p [] (pfx L 5) := ⟨_, rfl⟩
  rw [← hR]
  have HR : Hid (R = runP p [] (pfx L 5)) := hid hR
  clear hR
  have HV := hid hv
  have HHI := hid HI
  have HHA := hid HA
  have HH := hid H
  clear hv HI HA H
  obtain ⟨W0, hW0⟩ : ∃ W0, W0 = w.alloc (.cells #[.int .i64 lg, .int .i64 nx, .int .u64 (sq : Int), .slice (ad 0) (ln 0) (cp 0), .slice (ad 1) (ln 1) (cp 1), .slice (ad 2) (ln 2) (cp 2), .slice (ad 3) (ln 3) (cp 3), .slice (ad 4) (ln 4) (cp 4)] 28) := ⟨_, rfl⟩
  have I0 : Hid (I [] W0) := hid (HHA.out _ _ _ h0 (by rw [hW0]; exact (Fr.refl _ _).alloc _))
  have n0 : W0.heap[w.heap.size]? = some (.cells #[.int .i64 lg, .int .i64 nx, .int .u64 (sq : Int), .slice (ad 0) (ln 0) (cp 0), .slice (ad 1) (ln 1) (cp 1), .slice (ad 2) (ln 2) (cp 2), .slice (ad 3) (ln 3) (cp 3), .slice (ad 4) (ln 4) (cp 4)] 28 (0, 0)) := by rw [hW0]; exact blk_new _ _
  obtain ⟨z0, z1, z2, z3, z4, z5, z6, z7⟩ := vn_cells n0
  have HX : Hid (∀ i : Nat, i < 5 → ∀ W : World, (Instr.index 26 (.agg #[.slice (ad 0) (ln 0) (cp 0), .slice (ad 1) (ln 1) (cp 1), .slice (ad 2) (ln 2) (cp 2), .slice (ad 3) (ln 3) (cp 3), .slice (ad 4) (ln 4) (cp 4)]) (.int .i64 (i : Int))).run Tryz.prog W = .ok (.slice (ad i) (ln i) (cp i)) W) := hid (fun i hi W => ixs hi ad ln cp W)
  clear n0 h0
  go_enter Tryz.func49, Tryz.ntmps49
  go_upto_region 1 with fail
  rw [← hW0]
  clear hW0
  go_wp2_with fail
  clear z0 z1 z2 z3 z4 z5 z6 z7
  go_loopw [11] (fun v11 wr => ∃ i : Nat, i ≤ 5 ∧ v11 = .int .i64 (i : Int) ∧ I (pfx L i) wr ∧ R = runP p (pfx L i) (sfx L i)) (fun v11 _ => 5 - (intOf v11).toNat)
  case atStart => exact ⟨0, by omega, rfl, I0.out, by rw [HR.out, ← pfx_sfx L 0 (by omega)]; rfl⟩
  case round =>
    obtain ⟨i, hi, rfl, hI, hq⟩ := hrel
    have II := hid hI
    have HQ := hid hq
    clear hI hq
    by_cases hlt : i < 5
    · have hlt' : (i : Int) < 5 := by omega
      have ixi := HX.out i hlt
      have HLN := hid (HV.out.len i hlt)
      have HSM := HV.out.small i hlt
      have HRD := hid (HV.out.rd i hlt)
      obtain ⟨li, hli⟩ : ∃ li, li = ln i := ⟨_, rfl⟩
      obtain ⟨ai, hai⟩ : ∃ ai, ai = ad i := ⟨_, rfl⟩
      obtain ⟨ci, hci⟩ : ∃ ci, ci = cp i := ⟨_, rfl⟩
      rw [← hli] at ixi HLN HSM HRD
      rw [← hai] at ixi HRD
      rw [← hci] at ixi
      clear hli hai hci
      obtain ⟨W1, h1⟩ : ∃ W, W = wr := ⟨_, rfl⟩
      subst h1
      go_wp2_with fail
      clear ixi
      go_loopw [16] (fun v16 wr => ∃ j : Nat, j ≤ li ∧ v16 = .int .i64 (j : Int) ∧ I (pfx L i ++ (L i).take j) wr ∧ R = runP p (pfx L i ++ (L i).take j) ((L i).drop j ++ sfx L (i + 1))) (fun v16 _ => li - (intOf v16).toNat)
      case atStart => exact ⟨0, by omega, rfl, by simpa using II.out, by rw [HQ.out, sfx_succ L hlt]; simp⟩
      case round =>
        obtain ⟨j, hj, rfl, hI, hq⟩ := hrel
        have IJ := hid hI
        have HQ2 := hid hq
        clear hI hq II HQ
        by_cases hjl : j < li
        · have hjl' : (j : Int) < (li : Int) := by omega
          obtain ⟨f, hf⟩ : ∃ f, (L i)[j]? = some f := ⟨_, List.getElem?_eq_getElem (by rw [← HLN.out]; exact hjl)⟩
          have HF := hid hf
          obtain ⟨b, off, hab, m1⟩ := HRD.out (by omega)
          subst hab
          obtain ⟨la, lc, ma, mc, k1⟩ := m1 j f hf
          have k2 := k1.fr (HHI.out _ _ IJ.out)
          clear hf m1 k1
          obtain ⟨x0, x1, x2, x3, xr⟩ := k2
          obtain ⟨W2, hW2⟩ : ∃ W2, W2 = wr.alloc (.cells #[.int .i64 f.num, .int .i64 f.size, .slice la f.least.length lc, .slice ma f.most.length mc] 62) := ⟨_, rfl⟩
          have fw : Fr [] wr W2 := by rw [hW2]; exact (Fr.refl _ _).alloc _
          have I2 := hid (HHA.out _ _ _ IJ.out fw)
          have n2 : W2.heap[wr.heap.size]? = some (.cells #[.int .i64 f.num, .int .i64 f.size, .slice la f.least.length lc, .slice ma f.most.length mc] 62 (0, 0)) := by rw [hW2]; exact blk_new _ _
          obtain ⟨y0, y1, y2, y3⟩ := fl_cells n2
          have HC := hid (HH.out (pfx L i ++ (L i).take j) f W2 la lc ma mc I2.out (xr.fr fw))
          clear n2 fw xr
          have HT : Hid (R = (p (pfx L i ++ (L i).take j) f && runP p (pfx L i ++ (L i).take (j + 1)) ((L i).drop (j + 1) ++ sfx L (i + 1)))) := hid (by rw [HQ2.out, drop_pre HF.out, take_pre HF.out]; rfl)
          go_upto_region 7 with fail
          rw [← hW2]
          clear hW2 x0 x1 x2 x3
          cases hp : p (pfx L i ++ (L i).take j) f with
          | false =>
            rw [hp] at HC HT
            rw [Bool.false_and] at HT
            clear hp
            go_wp2_with (go_at_call 48; refine HC.out.mono ?_; rintro r W3 ⟨rfl, i3⟩; have I3 := hid i3; clear i3)
            go_ret
            exact ⟨ret_bool HT.out.symm, _, I3.out⟩
          | true =>
            rw [hp] at HC HT
            rw [Bool.true_and] at HT
            clear hp
            go_wp2_with (go_at_call 48; refine HC.out.mono ?_; rintro r W3 ⟨rfl, i3⟩; have I3 := hid i3; clear i3)
            go_roundw
            case rel => exact ⟨j + 1, by omega, by go_num, by rw [take_pre HF.out]; exact I3.out, HT.out⟩
            case measure => simp [intOf]; omega
        · have hjn : j = li := by omega
          subst hjn
          go_wp2_with fail
          go_roundw
          case rel => exact ⟨i + 1, by omega, by go_num, by rw [pfx_succ]; have := IJ.out; rw [HLN.out, List.take_length] at this; exact this, by rw [HQ2.out, HLN.out, List.take_length, List.drop_length, pfx_succ]; rfl⟩
          case measure => simp [intOf]; omega
    · have hin : i = 5 := by omega
      subst hin
      have HE : Hid (R = true) := hid (by rw [HQ.out, sfx_five]; rfl)
      go_wp2
      go_ret
      exact ⟨ret_bool HE.out.symm, _, II.out⟩

end Go.Proofs.YtegbngbhmgbocaaGreatDoor
