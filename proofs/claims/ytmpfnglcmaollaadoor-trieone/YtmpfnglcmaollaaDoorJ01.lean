/-
  Slices of bytes: what can be read of them, what the call itself made, append, and their text.
-/
import Derived.Test.YtmpfnglcmaollaaDoorJ00
import Derived.Maps.AppendAt
import Derived.Laws.AppendOwnNone
import Derived.Laws.BytesString
namespace Go.Proofs.YtmpfnglcmaollaaDoor
open Go.ChangeShapes Go.WideShapes Go.ChangeAt Go.RowKit

/-- A list of bytes as the program's values. -/
def bv (ns : List Nat) : List Value := ns.map fun n : Nat => Value.int .u8 (n : Int)
theorem bv_len (ns : List Nat) : (bv ns).length = ns.length := List.length_map _
theorem bv_append (a b : List Nat) : bv (a ++ b) = bv a ++ bv b := List.map_append
theorem bv_at {ns : List Nat} {k n : Nat} (h : ns[k]? = some n) : (bv ns)[k]? = some (.int .u8 (n : Int)) := by unfold bv; rw [List.getElem?_map, h]; rfl
theorem bv_take (ns : List Nat) (k : Nat) : bv (ns.take k) = (bv ns).take k := List.map_take
theorem bv_drop (ns : List Nat) (k : Nat) : bv (ns.drop k) = (bv ns).drop k := List.map_drop
theorem bv_one {ns : List Nat} : ∀ u ∈ bv ns, u.oneCell' = true := fun u hu => by
  obtain ⟨n, _, rfl⟩ := List.mem_map.1 hu; rfl

/-- A slice that can be read: its elements. -/
def Rd (w : World) (v : Value) (xs : List Value) : Prop :=
  (v = .slice none 0 0 ∧ xs = []) ∨ ∃ a c, v = .slice (some a) xs.length c ∧ xs.length ≤ c ∧ ∀ j u, xs[j]? = some u → w.cell? (a.add j) = some u

theorem infoB : (Tryd.prog.info? 5).map (fun i => (i.zero, i.size, i.bytes)) = some (some (.int .u8 0), 1, 1) := by kernel_rfl

theorem ownsRow_base {w : World} {B B' : Nat} {e : TypeId} {size : Nat} {v : Value} {n : Nat} {xs : List Value} (h : w.ownsRow B e size v n xs) (hB : B' ≤ B) : w.ownsRow B' e size v n xs := by
  refine ⟨h.1, ?_⟩
  rcases h.2 with h | ⟨g, cap, cur, h1, h2, h3⟩
  · exact .inl h
  · exact .inr ⟨g, cap, cur, h1, by omega, h3⟩
theorem ownsRow_slice {w : World} {base size n : Nat} {e : TypeId} {v : Value} {xs : List Value} (h : w.ownsRow base e size v n xs) : ∃ ao cap, v = .slice ao n cap ∧ n ≤ cap := by
  rcases h.2 with ⟨rfl, rfl⟩ | ⟨g, cap, cur, rfl, _, _, hc, _⟩
  · exact ⟨_, _, rfl, Nat.le_refl _⟩
  · exact ⟨_, _, rfl, hc⟩
theorem ownsRow_of_block {w w' : World} {base size n : Nat} {e : TypeId} {v : Value} {xs : List Value} (h : w.ownsRow base e size v n xs) (hb : ∀ k, v.ownBlock = some k → w'.heap[k]? = w.heap[k]?) : w'.ownsRow base e size v n xs := by
  refine ⟨h.1, ?_⟩
  rcases h.2 with h | ⟨g, cap, cur, rfl, h2, h3, h4⟩
  · exact .inl h
  · exact .inr ⟨g, cap, cur, rfl, h2, by rw [hb g rfl]; exact h3, h4⟩
theorem ownsRow_fr {w w' : World} {base size n : Nat} {e : TypeId} {v : Value} {xs : List Value} (h : w.ownsRow base e size v n xs) (hf : Fr [] w w') : w'.ownsRow base e size v n xs :=
  ownsRow_of_block h fun k hk => hf.block k (h.lt k hk).2 (by simp)
theorem Rd.own {w : World} {base : Nat} {v : Value} {xs : List Value} (h : w.ownsRow base 5 1 v xs.length xs) : Rd w v xs := by
  rcases h.2 with ⟨rfl, h2⟩ | ⟨g, cap, cur, rfl, _, h3, h4, h5⟩
  · exact .inl ⟨rfl, List.eq_nil_of_length_eq_zero h2⟩
  · exact .inr ⟨_, _, rfl, h4, h.cells rfl⟩
theorem Rd.ownB {w : World} {base : Nat} {v : Value} {ns : List Nat} (h : w.ownsRow base 5 1 v ns.length (bv ns)) : Rd w v (bv ns) := Rd.own (base := base) (by rw [bv_len]; exact h)
theorem add_block (a : Addr) (j : Nat) : (a.add j).block = a.block := by unfold Addr.add; split <;> rfl
theorem Rd.fr {w w' : World} {v : Value} {xs : List Value} (h : Rd w v xs) (hf : Fr [] w w') : Rd w' v xs := by
  rcases h with h | ⟨a, c, rfl, h4, h5⟩
  · exact .inl h
  · refine .inr ⟨a, c, rfl, h4, fun j u hj => ?_⟩
    have h6 := h5 j u hj
    rw [World.cell?_of_block (w := w) (hf.block _ (World.block_lt_of_cell? w _ h6) (by simp))]; exact h6
theorem Rd.form {w : World} {v : Value} {xs : List Value} (h : Rd w v xs) : ∃ a c, v = .slice a xs.length c := by
  rcases h with ⟨rfl, rfl⟩ | ⟨a, c, rfl, _, _⟩
  · exact ⟨_, _, rfl⟩
  · exact ⟨_, _, rfl⟩
/-- A slice of bytes that can be read: nothing, or a place in memory. -/
theorem Rd.split {w : World} {v : Value} {ns : List Nat} (h : Rd w v (bv ns)) : (ns = [] ∧ ∃ a c, v = .slice a 0 c) ∨ ∃ b off c, v = .slice (some ⟨b, off, none⟩) ns.length c ∧ ns.length ≤ c ∧ 0 < ns.length ∧ ∀ (j n : Nat), ns[j]? = some n → w.cell? ⟨b, off + j, none⟩ = some (.int .u8 (n : Int)) := by
  cases ns with
  | nil =>
    obtain ⟨a, c, rfl⟩ := h.form
    exact .inl ⟨rfl, a, c, rfl⟩
  | cons n0 r =>
    right
    rcases h with ⟨_, h⟩ | ⟨⟨b, off, sp⟩, c, rfl, h4, h5⟩
    · simp [bv] at h
    · have hsp : sp = none := by
        have := h5 0 _ (bv_at (k := 0) rfl)
        simpa [Addr.add] using World.cell?_spot this
      subst hsp
      rw [bv_len] at h4
      exact ⟨b, off, c, by rw [bv_len], h4, by simp, fun j n hj => by have := h5 j _ (bv_at hj); rwa [Addr.add_lit] at this⟩

theorem Rd_lit1 (w : World) (x : Value) : Rd (w.alloc (.cells #[x] 5)) (.slice (some ⟨w.heap.size, 0, none⟩) 1 1) [x] :=
  Rd.own (World.ownsRow_lit (base := 0) w #[x] 1 (Nat.zero_le _) (by unfold maxLen; omega) rfl)

/-- append(own, x...), x whatever bytes. -/
theorem wpList_append_rd {w : World} {ops : Array Oper} {rest : List Oper} {o : Oper} {a : Act} {Q : Exit → Act → World → Prop} (hgd : o.guard = none) (s x : Operand)
    (ho : o.op = .call { callee := .builtin .append, args := #[s, x], argTypes := #[33, 33] }) (base : Nat) (hbase : base ≤ w.heap.size) (v : Value) (n : Nat) (xs : List Value) (hs : a.eval s = v) (hown : w.ownsRow base 5 1 v n xs) (sx : Value) (news : List Value) (hx : a.eval x = sx) (hr : Rd w sx news) (hb : ∀ u ∈ news, u.oneCell' = true)
    (hl : n + news.length ≤ 140737488355328)
    (h : ∀ v' w', w'.ownsRow base 5 1 v' (n + news.length) (xs ++ news) → w.grownBy w' v.ownBlock → (v'.ownBlock = v.ownBlock ∨ v'.ownBlock = some w.heap.size) → wpList Tryd.prog ops Q rest (a.put o.dst v') w') :
    wpList Tryd.prog ops Q (o :: rest) a w := by
  obtain ⟨i0, hi, hz0, hz1, hz2⟩ := info_parts infoB
  rcases hr with ⟨rfl, rfl⟩ | ⟨ad, c, rfl, h4, h5⟩
  · exact wpList_append_own_none hgd s x 33 ho base 5 i0 1 Tryd.underlying33 hi v n xs hs hown hx (h v w (by simpa using hown) ⟨rfl, rfl, rfl, Nat.le_refl _, fun _ _ _ => rfl⟩ (.inl rfl))
  · exact wpList_append_own_at w hgd s x 33 ho base 5 i0 (.int .u8 0) 1 1 Tryd.underlying33 hi hz0 hz1 hz2 rfl (by decide) v n xs hs hown ad news.length c news hx (by simp) h5 hb (by unfold maxLen; omega) (by omega) (by omega) fun v' w' h1 h2 _ h3 => h v' w' h1 h2 h3

/-- What an append to a row of the call's own leaves. -/
theorem Fr.grew {w0 w w' : World} {v : Value} {n base : Nat} {xs : List Value} (h : Fr [] w0 w) (hown : w.ownsRow base 5 1 v n xs) (hb : w0.heap.size ≤ base) (hg : w.grownBy w' v.ownBlock) : Fr [] w0 w' :=
  h.grown hg fun k hk => .inr (Nat.le_trans hb (hown.lt k hk).1)

/-- The text of a row of bytes. -/
def strOf (ns : List Nat) : ByteArray := ns.foldl (fun r n => r.push (UInt8.ofNat n)) ByteArray.empty
theorem strOf_data (ns : List Nat) : (strOf ns).data.toList = ns.map UInt8.ofNat := by
  have : ∀ (ns : List Nat) (r : ByteArray), (ns.foldl (fun r n => r.push (UInt8.ofNat n)) r).data.toList = r.data.toList ++ ns.map UInt8.ofNat := by
    intro ns
    induction ns with
    | nil => intro r; simp
    | cons n ns ih => intro r; rw [List.foldl_cons, ih]; simp
  unfold strOf; rw [this]; rfl
theorem strOf_inj {a b : List Nat} (ha : By a) (hb : By b) (h : strOf a = strOf b) : a = b := by
  have h1 : a.map UInt8.ofNat = b.map UInt8.ofNat := by rw [← strOf_data, ← strOf_data, h]
  have : ∀ (a b : List Nat), By a → By b → a.map UInt8.ofNat = b.map UInt8.ofNat → a = b := by
    intro a
    induction a with
    | nil => intro b _ _ h; cases b with
      | nil => rfl
      | cons => simp at h
    | cons x a ih => intro b ha hb h; cases b with
      | nil => simp at h
      | cons y b =>
        simp only [List.map_cons, List.cons.injEq] at h
        have hx := ha x (by simp); have hy := hb y (by simp)
        have e : x = y := by
          have := congrArg UInt8.toNat h.1
          simp only [UInt8.toNat_ofNat'] at this
          omega
        rw [e, ih b (fun n hn => ha n (List.mem_cons_of_mem _ hn)) (fun n hn => hb n (List.mem_cons_of_mem _ hn)) h.2]
  exact this a b ha hb h1

theorem run_conv {w : World} {v : Value} {ns : List Nat} (h : Rd w v (bv ns)) : (convert 33 9 v).run Tryd.prog w = .ok (.string (strOf ns)) w := by
  rcases h with ⟨rfl, h⟩ | ⟨a, c, rfl, _, h5⟩
  · have : ns = [] := by simpa [bv] using h
    subst this
    rw [run_convert_bytes_string w 33 9 5 _ _ _ Tryd.underlying33 Tryd.underlying5 Tryd.underlying9]; rfl
  · have e : bv ns = (ns.map fun n : Nat => (n : Int)).map (Value.int .u8) := by simp [bv]
    rw [run_convert_bytes_string w 33 9 5 _ _ _ Tryd.underlying33 Tryd.underlying5 Tryd.underlying9, run_bytesToString w a _ c (ns.map fun n : Nat => (n : Int)) (by rw [← e]; exact run_loadCells_list (P := Tryd.prog) w a _ h5)]
    simp [strOf, List.foldl_map]
theorem ba_beq (s : ByteArray) : (s == s) = true := by
  show ByteArray.beq s s = true
  simp [ByteArray.beq]
theorem ba_ne {s t : ByteArray} (h : s ≠ t) : (s == t) = false := by
  rcases hb : s == t with _ | _
  · rfl
  · exfalso; apply h
    have : ByteArray.beq s t = true := hb
    simp only [ByteArray.beq, beq_iff_eq] at this
    cases s; cases t; simp_all
theorem ret_bool {a b : Bool} (h : a = b) : Ending.returned (.bool a) = .returned (.bool b) := by rw [h]
end Go.Proofs.YtmpfnglcmaollaaDoor
namespace Go.Proofs.YtmpfnglcmaollaaDoor
open Go.ChangeShapes Go.WideShapes Go.ChangeAt Go.RowKit

/-- append(nil, x...). -/
theorem wpList_append_nil {w : World} {ops : Array Oper} {rest : List Oper} {o : Oper} {a : Act} {Q : Exit → Act → World → Prop} (hgd : o.guard = none) (s x : Operand)
    (ho : o.op = .call { callee := .builtin .append, args := #[s, x], argTypes := #[33, 33] }) (hs : a.eval s = .slice none 0 0) {w0 : World} (hf : Fr [] w0 w) (sx : Value) {ns : List Nat} (hr : Rd w sx (bv ns)) (hx : a.eval x = sx)
    (hl : ns.length ≤ 140737488355328)
    (h : ∀ v' w', w'.ownsRow w.heap.size 5 1 v' ns.length (bv ns) → Fr [] w w' → Fr [] w0 w' → wpList Tryd.prog ops Q rest (a.put o.dst v') w') :
    wpList Tryd.prog ops Q (o :: rest) a w := by
  refine wpList_append_rd hgd s x ho w.heap.size (Nat.le_refl _) (.slice none 0 0) 0 [] hs (World.ownsRow_nil _ _ _ _) sx _ hx hr bv_one (by rw [bv_len]; omega) fun v' w' o1 g1 _ => ?_
  have hf' : Fr [] w w' := (Fr.refl _ _).grown g1 (by simp [Value.ownBlock])
  refine h v' w' ?_ hf' (hf.trans hf')
  rw [bv_len, Nat.zero_add, List.nil_append] at o1
  exact o1
/-- append(own, x...). -/
theorem wpList_append_bv {w : World} {ops : Array Oper} {rest : List Oper} {o : Oper} {a : Act} {Q : Exit → Act → World → Prop} (hgd : o.guard = none) (s x : Operand)
    (ho : o.op = .call { callee := .builtin .append, args := #[s, x], argTypes := #[33, 33] }) {base : Nat} {v : Value} {xs : List Nat} (hown : w.ownsRow base 5 1 v xs.length (bv xs)) (hs : a.eval s = v) {w0 : World} (hf : Fr [] w0 w) (hb : w0.heap.size ≤ base) (hbw : base ≤ w.heap.size) (sx : Value) {ns : List Nat} (hr : Rd w sx (bv ns)) (hx : a.eval x = sx)
    (hl : xs.length + ns.length ≤ 140737488355328)
    (h : ∀ v' w', w'.ownsRow base 5 1 v' (xs.length + ns.length) (bv (xs ++ ns)) → Fr [] w0 w' → wpList Tryd.prog ops Q rest (a.put o.dst v') w') :
    wpList Tryd.prog ops Q (o :: rest) a w := by
  refine wpList_append_rd hgd s x ho base hbw v xs.length _ hs hown sx _ hx hr bv_one (by rw [bv_len]; omega) fun v' w' o1 g1 _ => ?_
  refine h v' w' ?_ (hf.grew hown hb g1)
  rw [bv_len] at o1
  rw [bv_append]
  exact o1
theorem Rd.ownN {w : World} {base n : Nat} {v : Value} {ns : List Nat} (h : w.ownsRow base 5 1 v n (bv ns)) (hn : n = ns.length) : Rd w v (bv ns) := by
  subst hn; exact Rd.ownB h
end Go.Proofs.YtmpfnglcmaollaaDoor
namespace Go.Proofs.YtmpfnglcmaollaaDoor
open Go.ChangeShapes Go.WideShapes Go.ChangeAt Go.RowKit

set_option maxHeartbeats 400000 in
theorem cloneR_c {w : World} {v : Value} {ns : List Nat} (hr : Rd w v (bv ns)) (hl : ns.length ≤ 140737488355328) :
    Calls Tryd.prog 37 #[v] w fun e w' => ∃ v', e = .returned v' ∧ w'.ownsRow w.heap.size 5 1 v' ns.length (bv ns) ∧ Fr [] w w' := by
  have heq := fun (w : World) (a : Option Addr) (n c : Nat) => Lib.run_eql_slice_nil (P := Tryd.prog) w 33 5 a n c 0 0 Tryd.underlying33
  rcases hr with ⟨rfl, h0⟩ | ⟨a, c, rfl, h4, hc⟩
  · have : ns = [] := by simpa [bv] using h0
    subst this
    go_enter Tryd.func37, Tryd.ntmps37
    go_wp2
    go_ret
    exact ⟨_, rfl, World.ownsRow_nil _ _ _ _, Fr.refl _ _⟩
  · have hown : (w.alloc (.cells #[] 5)).ownsRow w.heap.size 5 1 (.slice (some ⟨w.heap.size, 0, none⟩) 0 0) 0 [] := World.ownsRow_lit w #[] 0 (Nat.le_refl _) (by unfold maxLen; omega) rfl
    have hr' : Rd (w.alloc (.cells #[] 5)) (.slice (some a) (bv ns).length c) (bv ns) := Rd.fr (w := w) (.inr ⟨a, c, rfl, h4, hc⟩) ((Fr.refl _ _).alloc _)
    have HO := hid hown
    have HR := hid hr'
    clear hown hr' hc h4
    rw [bv_len] at HR ⊢
    go_enter Tryd.func37, Tryd.ntmps37
    go_wp2_with (at_builtin; refine wpList_append_rd rfl _ _ rfl w.heap.size (by simp) _ _ _ rfl HO.out _ _ rfl HR.out bv_one (by rw [bv_len]; omega) ?_; intro v' w1 o1 o2 o3)
    go_ret
    rw [bv_len, Nat.zero_add, List.nil_append] at o1
    exact ⟨v', rfl, o1, ((Fr.refl _ _).alloc _).grew HO.out (Nat.le_refl _) o2⟩
end Go.Proofs.YtmpfnglcmaollaaDoor
