/-
  Slices of bytes: what can be read of them, what the call itself made, append, and their text.
-/
import Derived.Test.YtegbngbhmgbocaaGreatDoorJ01
import Derived.Test.YtegbngbhmgbocaaGreatDoorJ00
import Derived.Maps.AppendAt
import Derived.Laws.AppendOwnNone
import Derived.Laws.BytesString
import Derived.Laws.CopyOwn
import Derived.Lib.AppendZerosOnto
import Derived.Lib.Overlaps
import Derived.Laws.Externs
namespace Go.Proofs.YtegbngbhmgbocaaGreatDoor
open Go.ChangeShapes Go.WideShapes Go.ChangeAt Go.RowKit

/-- A list of bytes as the program's values. -/
def bv (ns : List Nat) : List Value := ns.map fun n : Nat => Value.int .u8 (n : Int)
theorem bv_len (ns : List Nat) : (bv ns).length = ns.length := List.length_map _
theorem bv_append (a b : List Nat) : bv (a ++ b) = bv a ++ bv b := List.map_append
theorem bv_at {ns : List Nat} {k n : Nat} (h : ns[k]? = some n) : (bv ns)[k]? = some (.int .u8 (n : Int)) := by unfold bv; rw [List.getElem?_map, h]; rfl
theorem bv_take (ns : List Nat) (k : Nat) : bv (ns.take k) = (bv ns).take k := List.map_take
theorem bv_drop (ns : List Nat) (k : Nat) : bv (ns.drop k) = (bv ns).drop k := List.map_drop
theorem bv_one {ns : List Nat} : ∀ u ∈ bv ns, u.oneCell' = true := fun u hu => by
  obtain ⟨n, _, rfl⟩ := List.mem_map.1 hu; rfl

/-- A slice that can be read: its elements. -/
def Rd (w : World) (v : Value) (xs : List Value) : Prop :=
  (v = .slice none 0 0 ∧ xs = []) ∨ ∃ a c, v = .slice (some a) xs.length c ∧ xs.length ≤ c ∧ ∀ j u, xs[j]? = some u → w.cell? (a.add j) = some u

theorem infoB : (Tryz.prog.info? 5).map (fun i => (i.zero, i.size, i.bytes)) = some (some (.int .u8 0), 1, 1) := by kernel_rfl

theorem ownsRow_base {w : World} {B B' : Nat} {e : TypeId} {size : Nat} {v : Value} {n : Nat} {xs : List Value} (h : w.ownsRow B e size v n xs) (hB : B' ≤ B) : w.ownsRow B' e size v n xs := by
  refine ⟨h.1, ?_⟩
  rcases h.2 with h | ⟨g, cap, cur, h1, h2, h3⟩
  · exact .inl h
  · exact .inr ⟨g, cap, cur, h1, by omega, h3⟩
theorem ownsRow_slice {w : World} {base size n : Nat} {e : TypeId} {v : Value} {xs : List Value} (h : w.ownsRow base e size v n xs) : ∃ ao cap, v = .slice ao n cap ∧ n ≤ cap := by
  rcases h.2 with ⟨rfl, rfl⟩ | ⟨g, cap, cur, rfl, _, _, hc, _⟩
  · exact ⟨_, _, rfl, Nat.le_refl _⟩
  · exact ⟨_, _, rfl, hc⟩
theorem ownsRow_of_block {w w' : World} {base size n : Nat} {e : TypeId} {v : Value} {xs : List Value} (h : w.ownsRow base e size v n xs) (hb : ∀ k, v.ownBlock = some k → w'.heap[k]? = w.heap[k]?) : w'.ownsRow base e size v n xs := by
  refine ⟨h.1, ?_⟩
  rcases h.2 with h | ⟨g, cap, cur, rfl, h2, h3, h4⟩
  · exact .inl h
  · exact .inr ⟨g, cap, cur, rfl, h2, by rw [hb g rfl]; exact h3, h4⟩
theorem ownsRow_fr {w w' : World} {base size n : Nat} {e : TypeId} {v : Value} {xs : List Value} (h : w.ownsRow base e size v n xs) (hf : Fr [] w w') : w'.ownsRow base e size v n xs :=
  ownsRow_of_block h fun k hk => hf.block k (h.lt k hk).2 (by simp)
theorem Rd.own {w : World} {base : Nat} {v : Value} {xs : List Value} (h : w.ownsRow base 5 1 v xs.length xs) : Rd w v xs := by
  rcases h.2 with ⟨rfl, h2⟩ | ⟨g, cap, cur, rfl, _, h3, h4, h5⟩
  · exact .inl ⟨rfl, List.eq_nil_of_length_eq_zero h2⟩
  · exact .inr ⟨_, _, rfl, h4, h.cells rfl⟩
theorem Rd.ownB {w : World} {base : Nat} {v : Value} {ns : List Nat} (h : w.ownsRow base 5 1 v ns.length (bv ns)) : Rd w v (bv ns) := Rd.own (base := base) (by rw [bv_len]; exact h)
theorem add_block (a : Addr) (j : Nat) : (a.add j).block = a.block := by unfold Addr.add; split <;> rfl
theorem Rd.fr {w w' : World} {v : Value} {xs : List Value} (h : Rd w v xs) (hf : Fr [] w w') : Rd w' v xs := by
  rcases h with h | ⟨a, c, rfl, h4, h5⟩
  · exact .inl h
  · refine .inr ⟨a, c, rfl, h4, fun j u hj => ?_⟩
    have h6 := h5 j u hj
    rw [World.cell?_of_block (w := w) (hf.block _ (World.block_lt_of_cell? w _ h6) (by simp))]; exact h6
theorem Rd.form {w : World} {v : Value} {xs : List Value} (h : Rd w v xs) : ∃ a c, v = .slice a xs.length c := by
  rcases h with ⟨rfl, rfl⟩ | ⟨a, c, rfl, _, _⟩
  · exact ⟨_, _, rfl⟩
  · exact ⟨_, _, rfl⟩
/-- A slice of bytes that can be read: nothing, or a place in memory. -/
theorem Rd.split {w : World} {v : Value} {ns : List Nat} (h : Rd w v (bv ns)) : (ns = [] ∧ ∃ a c, v = .slice a 0 c) ∨ ∃ b off c, v = .slice (some ⟨b, off, none⟩) ns.length c ∧ ns.length ≤ c ∧ 0 < ns.length ∧ ∀ (j n : Nat), ns[j]? = some n → w.cell? ⟨b, off + j, none⟩ = some (.int .u8 (n : Int)) := by
  cases ns with
  | nil =>
    obtain ⟨a, c, rfl⟩ := h.form
    exact .inl ⟨rfl, a, c, rfl⟩
  | cons n0 r =>
    right
    rcases h with ⟨_, h⟩ | ⟨⟨b, off, sp⟩, c, rfl, h4, h5⟩
    · simp [bv] at h
    · have hsp : sp = none := by
        have := h5 0 _ (bv_at (k := 0) rfl)
        simpa [Addr.add] using World.cell?_spot this
      subst hsp
      rw [bv_len] at h4
      exact ⟨b, off, c, by rw [bv_len], h4, by simp, fun j n hj => by have := h5 j _ (bv_at hj); rwa [Addr.add_lit] at this⟩

theorem Rd_lit1 (w : World) (x : Value) : Rd (w.alloc (.cells #[x] 5)) (.slice (some ⟨w.heap.size, 0, none⟩) 1 1) [x] :=
  Rd.own (World.ownsRow_lit (base := 0) w #[x] 1 (Nat.zero_le _) (by unfold maxLen; omega) rfl)

/-- append(own, x...), x whatever bytes. -/
theorem wpList_append_rd {w : World} {ops : Array Oper} {rest : List Oper} {o : Oper} {a : Act} {Q : Exit → Act → World → Prop} (hgd : o.guard = none) (s x : Operand)
    (ho : o.op = .call { callee := .builtin .append, args := #[s, x], argTypes := #[22, 22] }) (base : Nat) (hbase : base ≤ w.heap.size) (v : Value) (n : Nat) (xs : List Value) (hs : a.eval s = v) (hown : w.ownsRow base 5 1 v n xs) (sx : Value) (news : List Value) (hx : a.eval x = sx) (hr : Rd w sx news) (hb : ∀ u ∈ news, u.oneCell' = true)
    (hl : n + news.length ≤ 140737488355328)
    (h : ∀ v' w', w'.ownsRow base 5 1 v' (n + news.length) (xs ++ news) → w.grownBy w' v.ownBlock → (v'.ownBlock = v.ownBlock ∨ v'.ownBlock = some w.heap.size) → wpList Tryz.prog ops Q rest (a.put o.dst v') w') :
    wpList Tryz.prog ops Q (o :: rest) a w := by
  obtain ⟨i0, hi, hz0, hz1, hz2⟩ := info_parts infoB
  rcases hr with ⟨rfl, rfl⟩ | ⟨ad, c, rfl, h4, h5⟩
  · exact wpList_append_own_none hgd s x 22 ho base 5 i0 1 Tryz.underlying22 hi v n xs hs hown hx (h v w (by simpa using hown) ⟨rfl, rfl, rfl, Nat.le_refl _, fun _ _ _ => rfl⟩ (.inl rfl))
  · exact wpList_append_own_at w hgd s x 22 ho base 5 i0 (.int .u8 0) 1 1 Tryz.underlying22 hi hz0 hz1 hz2 rfl (by decide) v n xs hs hown ad news.length c news hx (by simp) h5 hb (by unfold maxLen; omega) (by omega) (by omega) fun v' w' h1 h2 _ h3 => h v' w' h1 h2 h3

/-- What an append to a row of the call's own leaves. -/
theorem Fr.grew {w0 w w' : World} {v : Value} {n base : Nat} {xs : List Value} (h : Fr [] w0 w) (hown : w.ownsRow base 5 1 v n xs) (hb : w0.heap.size ≤ base) (hg : w.grownBy w' v.ownBlock) : Fr [] w0 w' :=
  h.grown hg fun k hk => .inr (Nat.le_trans hb (hown.lt k hk).1)

/-- The text of a row of bytes. -/
def strOf (ns : List Nat) : ByteArray := ns.foldl (fun r n => r.push (UInt8.ofNat n)) ByteArray.empty
theorem strOf_data (ns : List Nat) : (strOf ns).data.toList = ns.map UInt8.ofNat := by
  have : ∀ (ns : List Nat) (r : ByteArray), (ns.foldl (fun r n => r.push (UInt8.ofNat n)) r).data.toList = r.data.toList ++ ns.map UInt8.ofNat := by
    intro ns
    induction ns with
    | nil => intro r; simp
    | cons n ns ih => intro r; rw [List.foldl_cons, ih]; simp
  unfold strOf; rw [this]; rfl
theorem strOf_inj {a b : List Nat} (ha : By a) (hb : By b) (h : strOf a = strOf b) : a = b := by
  have h1 : a.map UInt8.ofNat = b.map UInt8.ofNat := by rw [← strOf_data, ← strOf_data, h]
  have : ∀ (a b : List Nat), By a → By b → a.map UInt8.ofNat = b.map UInt8.ofNat → a = b := by
    intro a
    induction a with
    | nil => intro b _ _ h; cases b with
      | nil => rfl
      | cons => simp at h
    | cons x a ih => intro b ha hb h; cases b with
      | nil => simp at h
      | cons y b =>
        simp only [List.map_cons, List.cons.injEq] at h
        have hx := ha x (by simp); have hy := hb y (by simp)
        have e : x = y := by
          have := congrArg UInt8.toNat h.1
          simp only [UInt8.toNat_ofNat'] at this
          omega
        rw [e, ih b (fun n hn => ha n (List.mem_cons_of_mem _ hn)) (fun n hn => hb n (List.mem_cons_of_mem _ hn)) h.2]
  exact this a b ha hb h1

theorem run_conv {w : World} {v : Value} {ns : List Nat} (h : Rd w v (bv ns)) : (convert 22 9 v).run Tryz.prog w = .ok (.string (strOf ns)) w := by
  rcases h with ⟨rfl, h⟩ | ⟨a, c, rfl, _, h5⟩
  · have : ns = [] := by simpa [bv] using h
    subst this
    rw [run_convert_bytes_string w 22 9 5 _ _ _ Tryz.underlying22 Tryz.underlying5 Tryz.underlying9]; rfl
  · have e : bv ns = (ns.map fun n : Nat => (n : Int)).map (Value.int .u8) := by simp [bv]
    rw [run_convert_bytes_string w 22 9 5 _ _ _ Tryz.underlying22 Tryz.underlying5 Tryz.underlying9, run_bytesToString w a _ c (ns.map fun n : Nat => (n : Int)) (by rw [← e]; exact run_loadCells_list (P := Tryz.prog) w a _ h5)]
    simp [strOf, List.foldl_map]
theorem ba_beq (s : ByteArray) : (s == s) = true := by
  show ByteArray.beq s s = true
  simp [ByteArray.beq]
theorem ba_ne {s t : ByteArray} (h : s ≠ t) : (s == t) = false := by
  rcases hb : s == t with _ | _
  · rfl
  · exfalso; apply h
    have : ByteArray.beq s t = true := hb
    simp only [ByteArray.beq, beq_iff_eq] at this
    cases s; cases t; simp_all
theorem ret_bool {a b : Bool} (h : a = b) : Ending.returned (.bool a) = .returned (.bool b) := by rw [h]
end Go.Proofs.YtegbngbhmgbocaaGreatDoor
namespace Go.Proofs.YtegbngbhmgbocaaGreatDoor
open Go.ChangeShapes Go.WideShapes Go.ChangeAt Go.RowKit

set_option maxRecDepth 20000 in
theorem room_nat (w : World) (t : Nat) (h : t ≤ 9223372036854775807) :
    Calls Tryz.prog 52 #[.int .i64 (t : Int)] w fun e w' => e = .returned (.tuple #[.int .i64 (zr t : Int), .int .i64 (lf t : Int)]) ∧ w' = w := by
  by_cases hz : 64 - t % 64 < 7
  · have hz' : (64 : Int) - (t : Int) % 64 < 7 := by omega
    have hm : max (t : Int) 0 = (t : Int) := by omega
    go_enter Tryz.func52, Tryz.ntmps52
    go_wp2
    go_ret2
    exact ⟨by unfold zr lf; rw [if_pos hz, if_pos hz]; go_num, rfl⟩
  · have hz' : 7 ≤ (64 : Int) - (t : Int) % 64 := by omega
    have hm : max (t : Int) 0 = (t : Int) := by omega
    go_enter Tryz.func52, Tryz.ntmps52
    go_wp2
    go_ret2
    exact ⟨by unfold zr lf; rw [if_neg hz, if_neg hz]; go_num, rfl⟩
set_option maxRecDepth 20000 in
theorem room_c (w : World) (z : Int) (h : z ≤ 9223372036854775807) :
    Calls Tryz.prog 52 #[.int .i64 z] w fun e w' => e = .returned (.tuple #[.int .i64 (zr z.toNat : Int), .int .i64 (lf z.toNat : Int)]) ∧ w' = w := by
  by_cases hz : 0 ≤ z
  · obtain ⟨t, rfl⟩ : ∃ t : Nat, z = (t : Int) := ⟨z.toNat, by omega⟩
    exact room_nat w t (by omega)
  · have hm : max z 0 = 0 := by omega
    have h0 : z.toNat = 0 := by omega
    rw [h0]
    clear h0
    go_enter Tryz.func52, Tryz.ntmps52
    go_wp2
    go_ret2
    exact ⟨rfl, rfl⟩

theorem nfr_int {l n : Nat} (h7 : 7 ≤ l) (_h64 : l ≤ 64) : 1 + (max ((n : Int) - ((l : Int) - 7)) 0 + 57 - 1) / 57 = ((nfr l n : Nat) : Int) := by
  unfold nfr; omega

end Go.Proofs.YtegbngbhmgbocaaGreatDoor
namespace Go.Proofs.YtegbngbhmgbocaaGreatDoor
open Go.ChangeShapes Go.WideShapes Go.ChangeAt Go.RowKit

/-- append(nil, x...). -/
theorem wpList_append_nil {w : World} {ops : Array Oper} {rest : List Oper} {o : Oper} {a : Act} {Q : Exit → Act → World → Prop} (hgd : o.guard = none) (s x : Operand)
    (ho : o.op = .call { callee := .builtin .append, args := #[s, x], argTypes := #[22, 22] }) (hs : a.eval s = .slice none 0 0) {w0 : World} (hf : Fr [] w0 w) (sx : Value) {ns : List Nat} (hr : Rd w sx (bv ns)) (hx : a.eval x = sx)
    (hl : ns.length ≤ 140737488355328)
    (h : ∀ v' w', w'.ownsRow w.heap.size 5 1 v' ns.length (bv ns) → Fr [] w w' → Fr [] w0 w' → wpList Tryz.prog ops Q rest (a.put o.dst v') w') :
    wpList Tryz.prog ops Q (o :: rest) a w := by
  refine wpList_append_rd hgd s x ho w.heap.size (Nat.le_refl _) (.slice none 0 0) 0 [] hs (World.ownsRow_nil _ _ _ _) sx _ hx hr bv_one (by rw [bv_len]; omega) fun v' w' o1 g1 _ => ?_
  have hf' : Fr [] w w' := (Fr.refl _ _).grown g1 (by simp [Value.ownBlock])
  refine h v' w' ?_ hf' (hf.trans hf')
  rw [bv_len, Nat.zero_add, List.nil_append] at o1
  exact o1
/-- append(own, x...). -/
theorem wpList_append_bv {w : World} {ops : Array Oper} {rest : List Oper} {o : Oper} {a : Act} {Q : Exit → Act → World → Prop} (hgd : o.guard = none) (s x : Operand)
    (ho : o.op = .call { callee := .builtin .append, args := #[s, x], argTypes := #[22, 22] }) {base : Nat} {v : Value} {xs : List Nat} (hown : w.ownsRow base 5 1 v xs.length (bv xs)) (hs : a.eval s = v) {w0 : World} (hf : Fr [] w0 w) (hb : w0.heap.size ≤ base) (hbw : base ≤ w.heap.size) (sx : Value) {ns : List Nat} (hr : Rd w sx (bv ns)) (hx : a.eval x = sx)
    (hl : xs.length + ns.length ≤ 140737488355328)
    (h : ∀ v' w', w'.ownsRow base 5 1 v' (xs.length + ns.length) (bv (xs ++ ns)) → Fr [] w0 w' → wpList Tryz.prog ops Q rest (a.put o.dst v') w') :
    wpList Tryz.prog ops Q (o :: rest) a w := by
  refine wpList_append_rd hgd s x ho base hbw v xs.length _ hs hown sx _ hx hr bv_one (by rw [bv_len]; omega) fun v' w' o1 g1 _ => ?_
  refine h v' w' ?_ (hf.grew hown hb g1)
  rw [bv_len] at o1
  rw [bv_append]
  exact o1
theorem Rd.ownN {w : World} {base n : Nat} {v : Value} {ns : List Nat} (h : w.ownsRow base 5 1 v n (bv ns)) (hn : n = ns.length) : Rd w v (bv ns) := by
  subst hn; exact Rd.ownB h
end Go.Proofs.YtegbngbhmgbocaaGreatDoor
namespace Go.Proofs.YtegbngbhmgbocaaGreatDoor
open Go.ChangeShapes Go.WideShapes Go.ChangeAt Go.RowKit

set_option maxHeartbeats 400000 in
theorem clone_c {w : World} {v : Value} {ns : List Nat} (hr : Rd w v (bv ns)) (hl : ns.length ≤ 140737488355328) :
    Calls Tryz.prog 51 #[v] w fun e w' => ∃ v', e = .returned v' ∧ w'.ownsRow w.heap.size 5 1 v' ns.length (bv ns) ∧ Fr [] w w' := by
  have heq := fun (w : World) (a : Option Addr) (n c : Nat) => Lib.run_eql_slice_nil (P := Tryz.prog) w 22 5 a n c 0 0 Tryz.underlying22
  rcases hr with ⟨rfl, h0⟩ | ⟨a, c, rfl, h4, hc⟩
  · have : ns = [] := by simpa [bv] using h0
    subst this
    go_enter Tryz.func51, Tryz.ntmps51
    go_wp2
    go_ret
    exact ⟨_, rfl, World.ownsRow_nil _ _ _ _, Fr.refl _ _⟩
  · have hown : (w.alloc (.cells #[] 5)).ownsRow w.heap.size 5 1 (.slice (some ⟨w.heap.size, 0, none⟩) 0 0) 0 [] := World.ownsRow_lit w #[] 0 (Nat.le_refl _) (by unfold maxLen; omega) rfl
    have hr' : Rd (w.alloc (.cells #[] 5)) (.slice (some a) (bv ns).length c) (bv ns) := Rd.fr (w := w) (.inr ⟨a, c, rfl, h4, hc⟩) ((Fr.refl _ _).alloc _)
    have HO := hid hown
    have HR := hid hr'
    clear hown hr' hc h4
    rw [bv_len] at HR ⊢
    go_enter Tryz.func51, Tryz.ntmps51
    go_wp2_with (at_builtin; refine wpList_append_rd rfl _ _ rfl w.heap.size (by simp) _ _ _ rfl HO.out _ _ rfl HR.out bv_one (by rw [bv_len]; omega) ?_; intro v' w1 o1 o2 o3)
    go_ret
    rw [bv_len, Nat.zero_add, List.nil_append] at o1
    exact ⟨v', rfl, o1, ((Fr.refl _ _).alloc _).grew HO.out (Nat.le_refl _) o2⟩
end Go.Proofs.YtegbngbhmgbocaaGreatDoor
namespace Go.Proofs.YtegbngbhmgbocaaGreatDoor
open Go.ChangeShapes Go.WideShapes Go.ChangeAt Go.RowKit

theorem sizeB : (Tryz.prog.info? 5).map (·.size) = some 1 := by kernel_rfl
theorem sizeOfB (w : World) : (Go.sizeOf 5).run Tryz.prog w = .ok 1 w := by
  obtain ⟨i0, hi, hz0, hz1, hz2⟩ := info_parts infoB
  simp [sizeOf, typeInfo, hi, hz1]

/-- copy whose run is known, in a walk, and as a step of a region that draws. -/
theorem wpList_copy_is {w : World} {ops : Array Oper} {rest : List Oper} {o : Oper} {a : Act} {Q : Exit → Act → World → Prop} (hgd : o.guard = none) (d s : Operand)
    (ho : o.op = .call { callee := .builtin .copy, args := #[d, s], argTypes := #[22, 22] }) {v u : Value} (hd : a.eval d = v) (hs : a.eval s = u) {v' : Value} {w' : World}
    (hr : (Builtin.copy_ #[22, 22] o.type #[v, u]).run Tryz.prog w = .ok v' w') (h : wpList Tryz.prog ops Q rest (a.put o.dst v') w') : wpList Tryz.prog ops Q (o :: rest) a w := by
  refine wpList_plain hgd fun K hK => ?_
  unfold Oper.wp
  simp [execOp, ho, resolve, invoke, builtin, hd, hs, hr, Result.andThen]
  exact hK _ _ h
theorem step_copy_is {w : World} {ops : Array Oper} {o : Oper} {a : Act} {K : Act → World → Prop} {Q : Exit → Act → World → Prop} {E : Prop} (hgd : o.guard = none) (d s : Operand)
    (ho : o.op = .call { callee := .builtin .copy, args := #[d, s], argTypes := #[22, 22] }) {v u : Value} (hd : a.eval d = v) (hs : a.eval s = u) {v' : Value} {w' : World}
    (hr : (Builtin.copy_ #[22, 22] o.type #[v, u]).run Tryz.prog w = .ok v' w') (h : K (a.put o.dst v') w') : if Region.wanted o (yielded ops a.tmps) = true then Oper.wp Tryz.prog o a w K Q else E := by
  have hw : Region.wanted o (yielded ops a.tmps) = true := by simp [Region.wanted, hgd]
  rw [if_pos hw]
  unfold Oper.wp
  simp [execOp, ho, resolve, invoke, builtin, hd, hs, hr, Result.andThen]
  exact h

/-- A row with something laid over it. -/
def over (L : List Value) (k : Nat) (X : List Value) : List Value := L.take k ++ X ++ L.drop (k + X.length)
theorem over_len {L X : List Value} {k : Nat} (h : k + X.length ≤ L.length) : (over L k X).length = L.length := by
  unfold over; rw [List.length_append, List.length_append, List.length_take, List.length_drop]; omega
theorem over_shift {L X2 Y : List Value} {i m n : Nat} (hY : Y.length = m) (hX : X2.length = n - i) (hi : i ≤ n) (hn : n + m ≤ L.length) :
    (over (over L (i + m) X2) i Y).take (n + m) = L.take i ++ Y ++ X2 := by
  have e1 : (over L (i + m) X2).take i = L.take i := by
    unfold over
    rw [List.append_assoc, List.take_append_of_le_length (by rw [List.length_take]; omega), List.take_take, Nat.min_eq_left (by omega)]
  have e2 : (over L (i + m) X2).drop (i + m) = X2 ++ L.drop (i + m + X2.length) := by
    unfold over
    rw [List.append_assoc, List.drop_left' (by rw [List.length_take]; omega)]
  unfold over at e1 e2 ⊢
  rw [e1, hY, e2, ← List.append_assoc]
  exact List.take_left' (by simp only [List.length_append, List.length_take]; omega)
theorem over_grow {L X2 Y : List Value} {i m n : Nat} (hY : Y.length = m) (hX : X2.length = n - i) (hi : i ≤ n) (hn : n + m ≤ L.length) :
    (over (over L i Y) (i + m) X2).take (n + m) = L.take i ++ Y ++ X2 := by
  have e1 : (over L i Y).take (i + m) = L.take i ++ Y := by
    unfold over
    exact List.take_left' (by simp only [List.length_append, List.length_take]; omega)
  unfold over at e1 ⊢
  rw [e1]
  exact List.take_left' (by simp only [List.length_append, List.length_take]; omega)

theorem copy_over (w : World) {g k dl dc sl sc : Nat} {a : Addr} {cur : List Value} {cs : List Value} (hg : w.heap[g]? = some (.cells cur.toArray 5 (0, 0))) (hn : cs.length = Nat.min sl dl) (hsrc : ∀ j v, cs[j]? = some v → w.cell? (a.add j) = some v) (hfit : k + cs.length ≤ cur.length) (h1 : ∀ v ∈ cs, v.oneCell' = true) (ty : TypeId) :
    (Builtin.copy_ #[22, 22] ty #[.slice (some ⟨g, k, none⟩) dl dc, .slice (some a) sl sc]).run Tryz.prog w = .ok (goInt cs.length) (w.setRow g (over cur k cs).toArray) :=
  run_copy_row Tryz.prog w 22 22 ty 5 g k dl dc a sl sc cur.toArray 5 cs Tryz.underlying22 sizeB hg hn hsrc (by simpa using hfit) h1
theorem cell_heap {w w' : World} (h : w'.heap = w.heap) (a : Addr) : w'.cell? a = w.cell? a := World.cell?_of_block (by rw [h])
theorem setRow_at {w w' : World} {g : Nat} {cur cs : Array Value} {t : TypeId} (hg : w.heap[g]? = some (.cells cur t (0, 0))) (h : w'.heap = w.heap) : (w'.setRow g cs).heap[g]? = some (.cells cs t (0, 0)) := setRow_heap w' g cur cs t (0, 0) (by rw [h]; exact hg)

end Go.Proofs.YtegbngbhmgbocaaGreatDoor
namespace Go.Proofs.YtegbngbhmgbocaaGreatDoor
open Go.ChangeShapes Go.WideShapes Go.ChangeAt Go.RowKit

theorem u8_of (n : Nat) : IntKind.u8.wrap (n : Int) = ((n % 256 : Nat) : Int) := by rw [IntKind.wrap_u8']; omega
theorem or128 (n : Nat) : bits .or .u8 ((n % 256 : Nat) : Int) 128 = ((n % 128 + 128 : Nat) : Int) := by
  have h := u8_or_nat (n % 256) 128 (by omega) (by omega)
  have e : n % 256 ||| 128 = n % 128 + 128 := by
    rcases Nat.lt_or_ge (n % 256) 128 with hl | hl
    · rw [Nat.or_comm]
      have := nat_join 7 128 (n % 256) (by decide) (by omega)
      omega
    · have h1 : n % 256 = 128 ||| (n % 128) := by
        have := nat_join 7 128 (n % 128) (by decide) (by omega)
        omega
      rw [h1, Nat.or_comm, ← Nat.or_assoc, Nat.or_self]
      have := nat_join 7 128 (n % 128) (by decide) (by omega)
      omega
  rw [e] at h
  exact h

set_option maxRecDepth 20000 in
set_option maxHeartbeats 400000 in
theorem put_c (w : World) (n : Nat) (hn : n < 18446744073709551616) :
    Calls Tryz.prog 19 #[.int .u64 (n : Int)] w fun e w' => ∃ v, e = .returned v ∧ w'.ownsRow w.heap.size 5 1 v (putL n).length (bv (putL n)) ∧ Fr [] w w' := by
  have HN := hid hn
  clear hn
  go_enter Tryz.func19, Tryz.ntmps19
  go_wp2
  go_loopw [0, 3] (fun v0 v3 wr => ∃ (m : Nat) (xs : List Nat), m < 18446744073709551616 ∧ v0 = .int .u64 (m : Int) ∧ xs ++ putL m = putL n ∧ wr.ownsRow w.heap.size 5 1 v3 xs.length (bv xs) ∧ Fr [] w wr) (fun v0 _ _ => (intOf v0).toNat)
  case atStart => exact ⟨n, [], HN.out, rfl, rfl, World.ownsRow_nil _ _ _ _, Fr.refl _ _⟩
  case round =>
    obtain ⟨m, xs, hm, rfl, hxs, hown, hfr⟩ := hrel
    have HX := hid hxs
    have HM := hid hm
    have HO := hid hown
    have HF := hid hfr
    have hsz := hfr.size
    have hxl : xs.length ≤ 10 := by
      have h1 := congrArg List.length hxs
      have h2 := putL_len10 HN.out
      rw [List.length_append] at h1; omega
    clear hxs hown hfr hm
    go_wp2_with (at_builtin; refine wpList_append_rd rfl _ _ rfl w.heap.size (by simp; omega) _ _ _ rfl (HO.out.alloc _) _ [_] rfl (Rd_lit1 _ _) (by simp [Value.oneCell']) (by simp; omega) ?_; intro v' w' o1 o2 o3)
    · have hge : 128 ≤ m := by omega
      have B : Hid (m / 128 < 18446744073709551616 ∧ (xs ++ [m % 128 + 128]) ++ putL (m / 128) = putL n ∧ w'.ownsRow w.heap.size 5 1 v' (xs ++ [m % 128 + 128]).length (bv (xs ++ [m % 128 + 128])) ∧ Fr [] w w') := by
        refine ⟨by have := HM.out; omega, by rw [← HX.out, putL_ge hge]; simp, ?_, (HF.out.alloc _).grew (HO.out.alloc _) (Nat.le_refl _) o2⟩
        rw [bv_append, List.length_append]
        have e : bv [m % 128 + 128] = [Value.int .u8 (bits .or .u8 ((m : Int) % 256) 128)] := by
          have h1 := or128 m
          rw [show ((m % 256 : Nat) : Int) = (m : Int) % 256 from by omega] at h1
          rw [h1]; rfl
        rw [e]; exact o1
      clear o1 o2 o3
      go_wp2
      go_roundw
      case rel => exact ⟨m / 128, _, B.out.1, by go_num, B.out.2⟩
      case measure => simp [intOf]; omega
    · have hlt : m < 128 := by omega
      go_wp2
      go_ret
      refine ⟨v', rfl, ?_, (HF.out.alloc _).grew (HO.out.alloc _) (Nat.le_refl _) o2⟩
      rw [← HX.out, putL_lt hlt, bv_append, List.length_append]
      exact o1
end Go.Proofs.YtegbngbhmgbocaaGreatDoor
