/-
  What a key is made of: the value, and its memory.
-/
import Derived.Test.YtpacijcjcdigmaaRC
namespace Go.Proofs.Ytpacijcjcdigmaa
open Go.ChangeShapes Go.WideShapes Go.ChangeAt Go.RowKit

/-- An api.RawKey's cells. -/
def rkc (c : Nat) (f s : List Nat) (n : Nat) (nm : ByteArray) : List Value := .int .u8 (c : Int) :: (bv f ++ (bv s ++ [.int .u64 (n : Int), .string nm]))
theorem rkc_len {c : Nat} {f s : List Nat} {n : Nat} {nm : ByteArray} (hf : f.length = 32) (hs : s.length = 32) : (rkc c f s n nm).length = 67 := by
  simp [rkc, bv_len, hf, hs]
theorem rkc_one {c : Nat} {f s : List Nat} {n : Nat} {nm : ByteArray} : (rkc c f s n nm).toArray.all (·.oneCell') = true := by
  rw [Array.all_eq_true_iff_forall_mem]
  intro v hv
  simp only [rkc, List.mem_toArray, List.mem_cons, List.mem_append, List.not_mem_nil, or_false] at hv
  rcases hv with rfl | hv | hv | rfl | rfl
  · rfl
  · exact bv_one v hv
  · exact bv_one v hv
  · rfl
  · rfl
def z32 : List Nat := List.replicate 32 0
theorem z32_len : z32.length = 32 := rfl
def es : ByteArray := ⟨#[]⟩
theorem infoK : (Try.prog.info? 36).map (·.size) = some 67 := by kernel_rfl
theorem zeroK (w : World) : (zeroValue 36).run Try.prog w = .ok (.agg (rkc 0 z32 z32 0 es).toArray) w := by kernel_rfl
theorem bldK0 (w : World) : (Instr.build 36 #[]).run Try.prog w = .ok (.agg (rkc 0 z32 z32 0 es).toArray) w := by kernel_rfl
theorem bldK1 (w : World) (c : Nat) : (Instr.build 36 #[(0, .int .u8 (c : Int))]).run Try.prog w = .ok (.agg (rkc c z32 z32 0 es).toArray) w := by kernel_rfl
theorem ldK {w : World} {b : Nat} {l : List Value} {t : TypeId} (hl : l.length = 67) (h : w.heap[b]? = some (.cells l.toArray t (0, 0))) : (loadVar 36 ⟨b, 0, none⟩).run Try.prog w = .ok (.agg l.toArray) w :=
  run_loadVar_row w b t _ _ (0, 0) _ h (by kernel_rfl : Try.prog.underlying 36 = some (.struct (Try.prog.fieldsOf 36))) rfl (by rw [List.size_toArray, hl]; exact infoK)
theorem stK {w : World} {b : Nat} {l m : List Value} {t : TypeId} (hl : l.length = 67) (hm : m.length = 67) (h1 : m.toArray.all (·.oneCell') = true) (h : w.heap[b]? = some (.cells l.toArray t (0, 0))) : (storeVar 36 ⟨b, 0, none⟩ (.agg m.toArray)).run Try.prog w = .ok () (w.setRow b m.toArray) :=
  run_storeVar_row w b _ _ _ _ h (by rw [List.size_toArray, hm]; exact infoK) (by simp [hl, hm]) h1
theorem stKc {w : World} {b : Nat} {l m : List Value} {t : TypeId} (hl : l.length = 67) (hm : m.length = 67) (h1 : m.toArray.all (·.oneCell') = true) (h : w.heap[b]? = some (.cells l.toArray t (0, 0))) : (storeCells ⟨b, 0, none⟩ m).run Try.prog w = .ok () (w.setRow b m.toArray) := by
  have := run_storeCells_from (P := Try.prog) b t m 0 l.toArray w h (by simp [hl, hm]) (fun v hv => (Array.all_eq_true_iff_forall_mem.1 h1) v (by simpa using hv))
  rw [this]; simp
theorem ldKc {w : World} {b : Nat} {l : List Value} {t : TypeId} (hl : l.length = 67) (h : w.heap[b]? = some (.cells l.toArray t (0, 0))) : (loadCells ⟨b, 0, none⟩ 67).run Try.prog w = .ok l.toArray w := by
  have := run_loadCells_list (P := Try.prog) w ⟨b, 0, none⟩ l (fun j v hj => by rw [Addr.add_lit, Nat.zero_add, blk_cell h, List.getElem?_toArray]; exact hj)
  rwa [hl] at this
theorem wpList_ldK {ops : Array Oper} {rest : List Oper} {op : Oper} {a : Act} {w : World} {Q : Exit → Act → World → Prop} (hw : Region.wanted op (yielded ops a.tmps) = true) (x : Operand) (ho : op.op = .load 36 x)
    {b : Nat} {l : List Value} {t : TypeId} (hl : l.length = 67) (hb : w.heap[b]? = some (.cells l.toArray t (0, 0))) (hx : a.eval x = .pointer (some ⟨b, 0, none⟩)) (h : wpList Try.prog ops Q rest (a.put op.dst (.agg l.toArray)) w) : wpList Try.prog ops Q (op :: rest) a w :=
  wpList_step fun K hK => by
    simp only [hw, if_true]
    unfold Oper.wp execOp
    simp only [ho, hx, Instr.loadAt, Instr.sureAddr, Sem.run_bind, Sem.run_pure, Result.andThen_ok, ldK hl hb]
    exact hK _ _ h
/-- An array of bytes within an aggregate. -/
theorem partH {pre post : List Value} {f : List Nat} {o : Nat} (w : World) (hf : f.length = 32) (ho : pre.length = o) : (part 23 (pre ++ (bv f ++ post)).toArray o).run Try.prog w = .ok (.agg (bv f).toArray) w := by
  have h1 : (isAgg 23).run Try.prog w = .ok true w := by kernel_rfl
  have h2 : (sizeOf 23).run Try.prog w = .ok 32 w := by kernel_rfl
  unfold part
  simp only [Sem.run_bind, h1, h2, Result.andThen_ok, if_true, Sem.run_pure]
  congr 2
  have e : (pre ++ (bv f ++ post)).toArray.extract o (o + 32) = (((pre ++ (bv f ++ post)).drop o).take 32).toArray := by simp [List.extract_eq_take_drop]
  rw [e, ← ho, List.drop_left, List.take_append_of_le_length (by rw [bv_len, hf]; omega), List.take_of_length_le (by rw [bv_len, hf]; omega)]
/-- A struct's fields compared, by name, type and place. -/
def eqF3 (d : Nat) (xs ys : Array Value) : List (String × TypeId × Nat) → Sem Bool
  | [] => pure true
  | f :: fs =>
    if f.1 ≠ "_" then do
      let a ← part f.2.1 xs f.2.2
      let b ← part f.2.1 ys f.2.2
      let r ← Op.equalIn d f.2.1 a b
      if (!r) = true then pure false else eqF3 d xs ys fs
    else eqF3 d xs ys fs
theorem eqFields_map (d : Nat) (xs ys : Array Value) (fs : List Field) : Op.eqFields d xs ys fs = eqF3 d xs ys (fs.map fun f => (f.name, f.type, f.offset)) := by
  induction fs with
  | nil => rfl
  | cons f fs ih => simp only [Op.eqFields, List.map_cons, eqF3, ih]
theorem eqF3_step (w : World) (d : Nat) (xs ys : Array Value) (fs : List (String × TypeId × Nat)) {nm : String} {t : TypeId} {o : Nat} {a b : Value} (hn : nm ≠ "_") (ha : (part t xs o).run Try.prog w = .ok a w) (hb : (part t ys o).run Try.prog w = .ok b w) (hq : (Op.equalIn d t a b).run Try.prog w = .ok true w) :
    (eqF3 d xs ys ((nm, t, o) :: fs)).run Try.prog w = (eqF3 d xs ys fs).run Try.prog w := by
  rw [eqF3, if_pos hn]
  simp only [Sem.run_bind, ha, hb, hq, Result.andThen_ok, Bool.not_true, Bool.false_eq_true, if_false]
theorem run_eqArr {P : Program} (w : World) (d : Nat) (t e : TypeId) (n : Nat) (k : IntKind) (ht : P.underlying t = some (.array n e)) (he : P.underlying e = some (.int k)) (hsz : ∀ w, (sizeOf e).run P w = .ok 1 w)
    (xs ys : Array Value) (p q : Nat → Int) (hx : ∀ i, i < n → xs[i]? = some (.int k (p i))) (hy : ∀ i, i < n → ys[i]? = some (.int k (q i))) :
    (Op.equalIn (d + 2) t (.agg xs) (.agg ys)).run P w = .ok ((List.range' 0 n 1).all fun i => p i == q i) w := by
  rw [Op.equalIn]
  simp only [Sem.run_bind, run_underlying ht, Result.andThen_ok, hsz, Std.Legacy.Range.forIn_eq_forIn_range', Std.Legacy.Range.size, Nat.sub_zero, Nat.add_sub_cancel, Nat.div_one]
  have hl : ∀ i ∈ List.range' 0 n 1, i < n := fun i hi => by simpa using (List.mem_range'_1.1 hi).2
  generalize List.range' 0 n 1 = l at hl ⊢
  induction l with
  | nil => simp
  | cons i l ih =>
    have hi : i < n := hl i (by simp)
    have px : (part e xs (i * 1)).run P w = .ok (.int k (p i)) w := by
      simp [part, isAgg, run_underlying he, hx i hi]
    have py : (part e ys (i * 1)).run P w = .ok (.int k (q i)) w := by
      simp [part, isAgg, run_underlying he, hy i hi]
    have pe : (Op.equalIn (d + 1) e (.int k (p i)) (.int k (q i))).run P w = .ok (p i == q i) w := by
      rw [run_equalIn_int w d e k k _ _ he]
    simp only [List.forIn_cons, Sem.run_bind, px, py, pe, Result.andThen_ok, List.all_cons]
    cases hb : (p i == q i)
    · simp
    · simp only [Bool.not_true, Bool.false_eq_true, if_false, Sem.run_pure, Result.andThen_ok, Bool.true_and]
      exact ih fun j hj => hl j (by simp [hj])
theorem bv_get {l : List Nat} {i : Nat} (h : i < l.length) : (bv l).toArray[i]? = some (.int .u8 ((l.getD i 0 : Nat) : Int)) := by
  rw [List.getElem?_toArray]
  unfold bv
  rw [List.getElem?_map, List.getElem?_eq_getElem h]
  simp [List.getD, List.getElem?_eq_getElem h]
theorem eqInG (w : World) (d : Nat) {l m : List Nat} (h : l.length = 32) (hm : m.length = 32) : (Op.equalIn (d + 2) 23 (.agg (bv l).toArray) (.agg (bv m).toArray)).run Try.prog w = .ok (decide (l = m)) w := by
  rw [run_eqArr w d 23 5 32 .u8 Try.underlying23 Try.underlying5 (fun w => by kernel_rfl) _ _ (fun i => ((l.getD i 0 : Nat) : Int)) (fun i => ((m.getD i 0 : Nat) : Int)) (fun i hi => bv_get (by omega)) (fun i hi => bv_get (by omega))]
  congr 1
  by_cases e : l = m
  · subst e; simp
  · rw [decide_eq_false e]
    rw [List.all_eq_false]
    apply Classical.byContradiction
    intro hno
    apply e
    apply List.ext_getElem (by omega)
    intro i h1 h2
    apply Classical.byContradiction
    intro hne
    apply hno
    refine ⟨i, by simp; omega, ?_⟩
    simp [List.getD, List.getElem?_eq_getElem h1, List.getElem?_eq_getElem h2]
    omega
theorem eqInH (w : World) {l : List Nat} (h : l.length = 32) : (Op.equalIn 9999 23 (.agg (bv l).toArray) (.agg (bv l).toArray)).run Try.prog w = .ok true w := by
  rw [eqInG w 9997 h h]; simp
/-- Two equal ones are told to be equal. -/
theorem eqK (w : World) {c : Nat} {f s : List Nat} {n : Nat} {nm : ByteArray} (hf : f.length = 32) (hs : s.length = 32) : (Op.equalIn 10000 36 (.agg (rkc c f s n nm).toArray) (.agg (rkc c f s n nm).toArray)).run Try.prog w = .ok true w := by
  have hfl : (Try.prog.fieldsOf 36).toList.map (fun f => (f.name, f.type, f.offset)) = [("Letter", 5, 0), ("First", 23, 1), ("Second", 23, 33), ("Number", 24, 65), ("Name", 9, 66)] := by kernel_rfl
  rw [run_equalIn_struct w 9999 _ _ _ (by kernel_rfl) (by kernel_rfl), eqFields_map, hfl]
  have p0 : (part 5 (rkc c f s n nm).toArray 0).run Try.prog w = .ok (.int .u8 (c : Int)) w := by simp [part, isAgg, run_underlying Try.underlying5, rkc]
  have p1 := partH (o := 1) (f := f) (pre := [.int .u8 (c : Int)]) (post := bv s ++ [.int .u64 (n : Int), .string nm]) w hf rfl
  have p2 := partH (o := 33) (f := s) (pre := .int .u8 (c : Int) :: bv f) (post := [.int .u64 (n : Int), .string nm]) w hs (by simp [bv_len, hf])
  have p3 : (part 24 (rkc c f s n nm).toArray 65).run Try.prog w = .ok (.int .u64 (n : Int)) w := by
    have : (rkc c f s n nm)[65]? = some (.int .u64 (n : Int)) := by
      unfold rkc
      rw [List.getElem?_cons_succ, List.getElem?_append_right (by rw [bv_len, hf]; omega), List.getElem?_append_right (by rw [bv_len, bv_len, hf, hs]; omega), bv_len, bv_len, hf, hs]; rfl
    simp [part, isAgg, run_underlying Try.underlying24, this]
  have p4 : (part 9 (rkc c f s n nm).toArray 66).run Try.prog w = .ok (.string nm) w := by
    have : (rkc c f s n nm)[66]? = some (.string nm) := by
      unfold rkc
      rw [List.getElem?_cons_succ, List.getElem?_append_right (by rw [bv_len, hf]; omega), List.getElem?_append_right (by rw [bv_len, bv_len, hf, hs]; omega), bv_len, bv_len, hf, hs]; rfl
    simp [part, isAgg, run_underlying Try.underlying9, this]
  have e1 : (.int .u8 (c : Int) :: bv f) ++ (bv s ++ [.int .u64 (n : Int), .string nm]) = rkc c f s n nm := rfl
  simp only [List.cons_append, List.nil_append] at p1
  rw [e1] at p2
  have e2 : .int .u8 (c : Int) :: (bv f ++ (bv s ++ [.int .u64 (n : Int), .string nm])) = rkc c f s n nm := rfl
  rw [e2] at p1
  have q0 := run_equalIn_int (P := Try.prog) w 9998 5 .u8 .u8 (c : Int) (c : Int) Try.underlying5
  have q1 := eqInH w hf
  have q2 := eqInH w hs
  have q3 := run_equalIn_int (P := Try.prog) w 9998 24 .u64 .u64 (n : Int) (n : Int) Try.underlying24
  have q4 := run_equalIn_string (P := Try.prog) w 9998 9 nm nm Try.underlying9
  rw [beq_self_eq_true] at q0 q3 q4
  generalize (rkc c f s n nm).toArray = K at p0 p1 p2 p3 p4 ⊢
  rw [eqF3_step w 9999 _ _ _ (by decide) p0 p0 q0, eqF3_step w 9999 _ _ _ (by decide) p1 p1 q1, eqF3_step w 9999 _ _ _ (by decide) p2 p2 q2, eqF3_step w 9999 _ _ _ (by decide) p3 p3 q3, eqF3_step w 9999 _ _ _ (by decide) p4 p4 q4]
  rfl
theorem eqlK (w : World) {c : Nat} {f s : List Nat} {n : Nat} {nm : ByteArray} (hf : f.length = 32) (hs : s.length = 32) : (binOp .eql 36 (.agg (rkc c f s n nm).toArray) (.agg (rkc c f s n nm).toArray)).run Try.prog w = .ok (.bool true) w := by
  rw [run_eql_struct, eqK w hf hs]; rfl
theorem neqK (w : World) {c : Nat} {f s : List Nat} {n : Nat} {nm : ByteArray} (hf : f.length = 32) (hs : s.length = 32) : (binOp .neq 36 (.agg (rkc c f s n nm).toArray) (.agg (rkc c f s n nm).toArray)).run Try.prog w = .ok (.bool false) w := by
  rw [run_neq_struct, eqK w hf hs]; rfl
theorem guardK : Try.prog.eqGuardType Try.prog.depth 36 = false := by kernel_rfl
theorem wpList_eqK {ops : Array Oper} {rest : List Oper} {op : Oper} {a : Act} {w : World} {Q : Exit → Act → World → Prop} (hw : Region.wanted op (yielded ops a.tmps) = true) (x y : Operand) (ho : op.op = .binOp .eql 36 x y 36)
    {l m : Array Value} {r : Bool} (hq : (binOp .eql 36 (.agg l) (.agg m)).run Try.prog w = .ok (.bool r) w) (hx : a.eval x = .agg l) (hy : a.eval y = .agg m) (h : wpList Try.prog ops Q rest (a.put op.dst (.bool r)) w) : wpList Try.prog ops Q (op :: rest) a w :=
  wpList_step fun K hK => by
    simp only [hw, if_true]
    unfold Oper.wp execOp
    simp only [ho, hx, hy, Sem.run_bind, Sem.run_pure, run_eqGuard_agg (P := Try.prog) _ _ _ _ _ _ _ guardK, Result.andThen_ok, hq]
    exact hK _ _ h
theorem wpList_neK {ops : Array Oper} {rest : List Oper} {op : Oper} {a : Act} {w : World} {Q : Exit → Act → World → Prop} (hw : Region.wanted op (yielded ops a.tmps) = true) (x y : Operand) (ho : op.op = .binOp .neq 36 x y 36)
    {l m : Array Value} {r : Bool} (hq : (binOp .neq 36 (.agg l) (.agg m)).run Try.prog w = .ok (.bool r) w) (hx : a.eval x = .agg l) (hy : a.eval y = .agg m) (h : wpList Try.prog ops Q rest (a.put op.dst (.bool r)) w) : wpList Try.prog ops Q (op :: rest) a w :=
  wpList_step fun K hK => by
    simp only [hw, if_true]
    unfold Oper.wp execOp
    simp only [ho, hx, hy, Sem.run_bind, Sem.run_pure, run_eqGuard_agg (P := Try.prog) _ _ _ _ _ _ _ guardK, Result.andThen_ok, hq]
    exact hK _ _ h
theorem ret_ct {fn : Func} {p u : Tmp} {ty : TypeId} (h : fn.results = #[.cell p ty, .tmp u]) {tmps : Array Value} {w : World} {g : Nat} {cs : Array Value} (hp : tmps.getD p undef = .pointer (some ⟨g, 0, none⟩)) (hg : (loadVar ty ⟨g, 0, none⟩).run Try.prog w = .ok (.agg cs) w) :
    (results fn tmps).run Try.prog w = .ok (.tuple #[.agg cs, tmps.getD u undef]) w := by
  have hp' : tmps[p]?.getD undef = .pointer (some ⟨g, 0, none⟩) := by simpa using hp
  simp [results, h, hp', asAddr, hg]

theorem strOf_size (b : List Nat) : (strOf b).size = b.length := by
  have := congrArg List.length (strOf_data b)
  simpa using this
/-- Bytes that can be read, cut off in front. -/
theorem cutB {W : World} {a : Option Addr} {n c l : Nat} {b : List Nat} (hr : Rd W (.slice a n c) (bv b)) (hn : b.length = n) (hl : l ≤ n) :
    ∃ a', (∀ W', (Instr.sliceAt 26 (.slice a n c) (some (.int .i64 (l : Int))) none none).run Try.prog W' = .ok (.slice a' (n - l) (c - l)) W') ∧ Rd W (.slice a' (n - l) (c - l)) (bv (b.drop l)) := by
  refine ⟨if c = l then a else a.map (·.add l), fun W' => ?_, ?_⟩
  · rw [run_sliceAt_slice W' _ _ _ _ _ (by kernel_rfl), run_slice_l W' _ _ _ _ (by kernel_rfl) .i64 (l : Int) (by omega) (by omega), show (sizeOf (Try.prog.elem 26)).run Try.prog W' = .ok 1 W' by kernel_rfl]
    simp only [Result.andThen_ok, sliced, Int.toNat_natCast, Nat.mul_one]
  · rcases hr with ⟨h, h'⟩ | ⟨ad, c', h, h4, h5⟩
    · simp only [Value.slice.injEq] at h
      obtain ⟨rfl, rfl, rfl⟩ := h
      have : b = [] := List.eq_nil_of_length_eq_zero hn
      subst this
      obtain rfl : l = 0 := by omega
      exact .inl ⟨rfl, rfl⟩
    · simp only [Value.slice.injEq] at h
      obtain ⟨rfl, h1, rfl⟩ := h
      rw [bv_len] at h4 h1
      by_cases hc : c = l
      · subst hc
        rw [if_pos rfl]
        have hb0 : b.drop c = [] := List.drop_eq_nil_of_le (by omega)
        rw [hb0]
        exact .inr ⟨ad, c - c, by simp [bv]; omega, by simp [bv], fun j u hj => by simp [bv] at hj⟩
      · rw [if_neg hc]
        refine .inr ⟨ad.add l, c - l, by rw [bv_len, List.length_drop, hn]; rfl, by rw [bv_len, List.length_drop]; omega, fun j u hj => ?_⟩
        rw [bv_drop, List.getElem?_drop] at hj
        have := h5 _ _ hj
        have e : (ad.add l).add j = ad.add (l + j) := by
          unfold Addr.add
          by_cases h1 : l = 0 <;> by_cases h2 : j = 0 <;> simp [h1, h2] <;> omega
        rw [e]; exact this
/-- .. and behind. -/
theorem headB {W : World} {a : Option Addr} {n c l : Nat} {b : List Nat} (hr : Rd W (.slice a n c) (bv b)) (hn : b.length = n) (hl : l ≤ n) :
    (∀ W', (Instr.sliceAt 26 (.slice a n c) none (some (.int .i64 (l : Int))) none).run Try.prog W' = .ok (.slice a l c) W') ∧ Rd W (.slice a l c) (bv (b.take l)) := by
  have hnc : n ≤ c := by
    rcases hr with ⟨h, h'⟩ | ⟨ad, c', h, h4, h5⟩
    · simp only [Value.slice.injEq] at h; omega
    · simp only [Value.slice.injEq] at h; omega
  refine ⟨fun W' => ?_, ?_⟩
  · rw [run_sliceAt_slice W' _ _ _ _ _ (by kernel_rfl), run_slice_h W' _ _ _ _ (by kernel_rfl) .i64 (l : Int) (by omega) (by omega), show (sizeOf (Try.prog.elem 26)).run Try.prog W' = .ok 1 W' by kernel_rfl]
    simp only [Result.andThen_ok, sliced, Int.toNat_natCast, Nat.zero_mul, Nat.sub_zero]
    have : (a.map fun x => x.add 0) = a := by
      cases a with
      | none => rfl
      | some x => simp [Addr.add]
    rw [this]
    split <;> rfl
  · rcases hr with ⟨h, h'⟩ | ⟨ad, c', h, h4, h5⟩
    · simp only [Value.slice.injEq] at h
      obtain ⟨rfl, rfl, rfl⟩ := h
      obtain rfl : l = 0 := by omega
      exact .inl ⟨rfl, by simp [bv]⟩
    · simp only [Value.slice.injEq] at h
      obtain ⟨rfl, h1, rfl⟩ := h
      rw [bv_len] at h4 h1
      refine .inr ⟨ad, c, by rw [bv_len, List.length_take, hn, Nat.min_eq_left hl], by rw [bv_len, List.length_take]; omega, fun j u hj => ?_⟩
      rw [bv_take, List.getElem?_take] at hj
      split at hj
      · exact h5 _ _ hj
      · cases hj
end Go.Proofs.Ytpacijcjcdigmaa
