/-
  Slices of bytes: what can be read of them, what the call itself made, append, and their text.
-/
import Derived.Test.YthmlpjogbdpgiaaW
import Derived.Test.YthmlpjogbdpgiaaNum
import Derived.Maps.AppendAt
import Derived.Laws.AppendOwnNone
import Derived.Laws.BytesString
import Derived.Lib.Bytealg
import Derived.Lib.BytesEntry
import Derived.Laws.Externs
namespace Go.Proofs.Ythmlpjogbdpgiaa
open Go.ChangeShapes Go.WideShapes Go.ChangeAt Go.RowKit

/-- A list of bytes as the program's values. -/
def bv (ns : List Nat) : List Value := ns.map fun n : Nat => Value.int .u8 (n : Int)
theorem bv_len (ns : List Nat) : (bv ns).length = ns.length := List.length_map _
theorem bv_append (a b : List Nat) : bv (a ++ b) = bv a ++ bv b := List.map_append
theorem bv_at {ns : List Nat} {k n : Nat} (h : ns[k]? = some n) : (bv ns)[k]? = some (.int .u8 (n : Int)) := by unfold bv; rw [List.getElem?_map, h]; rfl
theorem bv_take (ns : List Nat) (k : Nat) : bv (ns.take k) = (bv ns).take k := List.map_take
theorem bv_drop (ns : List Nat) (k : Nat) : bv (ns.drop k) = (bv ns).drop k := List.map_drop
theorem bv_one {ns : List Nat} : ∀ u ∈ bv ns, u.oneCell' = true := fun u hu => by
  obtain ⟨n, _, rfl⟩ := List.mem_map.1 hu; rfl

/-- A slice that can be read: its elements. -/
def Rd (w : World) (v : Value) (xs : List Value) : Prop :=
  (v = .slice none 0 0 ∧ xs = []) ∨ ∃ a c, v = .slice (some a) xs.length c ∧ xs.length ≤ c ∧ ∀ j u, xs[j]? = some u → w.cell? (a.add j) = some u

theorem infoB : (Try.prog.info? 5).map (fun i => (i.zero, i.size, i.bytes)) = some (some (.int .u8 0), 1, 1) := by kernel_rfl

theorem ownsRow_base {w : World} {B B' : Nat} {e : TypeId} {size : Nat} {v : Value} {n : Nat} {xs : List Value} (h : w.ownsRow B e size v n xs) (hB : B' ≤ B) : w.ownsRow B' e size v n xs := by
  refine ⟨h.1, ?_⟩
  rcases h.2 with h | ⟨g, cap, cur, h1, h2, h3⟩
  · exact .inl h
  · exact .inr ⟨g, cap, cur, h1, by omega, h3⟩
theorem ownsRow_slice {w : World} {base size n : Nat} {e : TypeId} {v : Value} {xs : List Value} (h : w.ownsRow base e size v n xs) : ∃ ao cap, v = .slice ao n cap ∧ n ≤ cap := by
  rcases h.2 with ⟨rfl, rfl⟩ | ⟨g, cap, cur, rfl, _, _, hc, _⟩
  · exact ⟨_, _, rfl, Nat.le_refl _⟩
  · exact ⟨_, _, rfl, hc⟩
theorem ownsRow_of_block {w w' : World} {base size n : Nat} {e : TypeId} {v : Value} {xs : List Value} (h : w.ownsRow base e size v n xs) (hb : ∀ k, v.ownBlock = some k → w'.heap[k]? = w.heap[k]?) : w'.ownsRow base e size v n xs := by
  refine ⟨h.1, ?_⟩
  rcases h.2 with h | ⟨g, cap, cur, rfl, h2, h3, h4⟩
  · exact .inl h
  · exact .inr ⟨g, cap, cur, rfl, h2, by rw [hb g rfl]; exact h3, h4⟩
theorem ownsRow_fr {w w' : World} {base size n : Nat} {e : TypeId} {v : Value} {xs : List Value} (h : w.ownsRow base e size v n xs) (hf : Fr [] w w') : w'.ownsRow base e size v n xs :=
  ownsRow_of_block h fun k hk => hf.block k (h.lt k hk).2 (by simp)
theorem Rd.own {w : World} {base : Nat} {v : Value} {xs : List Value} (h : w.ownsRow base 5 1 v xs.length xs) : Rd w v xs := by
  rcases h.2 with ⟨rfl, h2⟩ | ⟨g, cap, cur, rfl, _, h3, h4, h5⟩
  · exact .inl ⟨rfl, List.eq_nil_of_length_eq_zero h2⟩
  · exact .inr ⟨_, _, rfl, h4, h.cells rfl⟩
theorem Rd.ownB {w : World} {base : Nat} {v : Value} {ns : List Nat} (h : w.ownsRow base 5 1 v ns.length (bv ns)) : Rd w v (bv ns) := Rd.own (base := base) (by rw [bv_len]; exact h)
theorem add_block (a : Addr) (j : Nat) : (a.add j).block = a.block := by unfold Addr.add; split <;> rfl
theorem Rd.fr {w w' : World} {v : Value} {xs : List Value} (h : Rd w v xs) (hf : Fr [] w w') : Rd w' v xs := by
  rcases h with h | ⟨a, c, rfl, h4, h5⟩
  · exact .inl h
  · refine .inr ⟨a, c, rfl, h4, fun j u hj => ?_⟩
    have h6 := h5 j u hj
    rw [World.cell?_of_block (w := w) (hf.block _ (World.block_lt_of_cell? w _ h6) (by simp))]; exact h6
theorem Rd.form {w : World} {v : Value} {xs : List Value} (h : Rd w v xs) : ∃ a c, v = .slice a xs.length c := by
  rcases h with ⟨rfl, rfl⟩ | ⟨a, c, rfl, _, _⟩
  · exact ⟨_, _, rfl⟩
  · exact ⟨_, _, rfl⟩
/-- A slice of bytes that can be read: nothing, or a place in memory. -/
theorem Rd.split {w : World} {v : Value} {ns : List Nat} (h : Rd w v (bv ns)) : (ns = [] ∧ ∃ a c, v = .slice a 0 c) ∨ ∃ b off c, v = .slice (some ⟨b, off, none⟩) ns.length c ∧ ns.length ≤ c ∧ 0 < ns.length ∧ ∀ (j n : Nat), ns[j]? = some n → w.cell? ⟨b, off + j, none⟩ = some (.int .u8 (n : Int)) := by
  cases ns with
  | nil =>
    obtain ⟨a, c, rfl⟩ := h.form
    exact .inl ⟨rfl, a, c, rfl⟩
  | cons n0 r =>
    right
    rcases h with ⟨_, h⟩ | ⟨⟨b, off, sp⟩, c, rfl, h4, h5⟩
    · simp [bv] at h
    · have hsp : sp = none := by
        have := h5 0 _ (bv_at (k := 0) rfl)
        simpa [Addr.add] using World.cell?_spot this
      subst hsp
      rw [bv_len] at h4
      exact ⟨b, off, c, by rw [bv_len], h4, by simp, fun j n hj => by have := h5 j _ (bv_at hj); rwa [Addr.add_lit] at this⟩

theorem Rd_lit1 (w : World) (x : Value) : Rd (w.alloc (.cells #[x] 5)) (.slice (some ⟨w.heap.size, 0, none⟩) 1 1) [x] :=
  Rd.own (World.ownsRow_lit (base := 0) w #[x] 1 (Nat.zero_le _) (by unfold maxLen; omega) rfl)

/-- append(own, x...), x whatever bytes. -/
theorem wpList_append_rd {w : World} {ops : Array Oper} {rest : List Oper} {o : Oper} {a : Act} {Q : Exit → Act → World → Prop} (hgd : o.guard = none) (s x : Operand)
    (ho : o.op = .call { callee := .builtin .append, args := #[s, x], argTypes := #[35, 35] }) (base : Nat) (hbase : base ≤ w.heap.size) (v : Value) (n : Nat) (xs : List Value) (hs : a.eval s = v) (hown : w.ownsRow base 5 1 v n xs) (sx : Value) (news : List Value) (hx : a.eval x = sx) (hr : Rd w sx news) (hb : ∀ u ∈ news, u.oneCell' = true)
    (hl : n + news.length ≤ 140737488355328)
    (h : ∀ v' w', w'.ownsRow base 5 1 v' (n + news.length) (xs ++ news) → w.grownBy w' v.ownBlock → (v'.ownBlock = v.ownBlock ∨ v'.ownBlock = some w.heap.size) → wpList Try.prog ops Q rest (a.put o.dst v') w') :
    wpList Try.prog ops Q (o :: rest) a w := by
  obtain ⟨i0, hi, hz0, hz1, hz2⟩ := info_parts infoB
  rcases hr with ⟨rfl, rfl⟩ | ⟨ad, c, rfl, h4, h5⟩
  · exact wpList_append_own_none hgd s x 35 ho base 5 i0 1 Try.underlying35 hi v n xs hs hown hx (h v w (by simpa using hown) ⟨rfl, rfl, rfl, Nat.le_refl _, fun _ _ _ => rfl⟩ (.inl rfl))
  · exact wpList_append_own_at w hgd s x 35 ho base 5 i0 (.int .u8 0) 1 1 Try.underlying35 hi hz0 hz1 hz2 rfl (by decide) v n xs hs hown ad news.length c news hx (by simp) h5 hb (by unfold maxLen; omega) (by omega) (by omega) fun v' w' h1 h2 _ h3 => h v' w' h1 h2 h3

/-- What an append to a row of the call's own leaves. -/
theorem Fr.grew {w0 w w' : World} {v : Value} {n base : Nat} {xs : List Value} (h : Fr [] w0 w) (hown : w.ownsRow base 5 1 v n xs) (hb : w0.heap.size ≤ base) (hg : w.grownBy w' v.ownBlock) : Fr [] w0 w' :=
  h.grown hg fun k hk => .inr (Nat.le_trans hb (hown.lt k hk).1)

/-- The text of a row of bytes. -/
def strOf (ns : List Nat) : ByteArray := ns.foldl (fun r n => r.push (UInt8.ofNat n)) ByteArray.empty
theorem strOf_data (ns : List Nat) : (strOf ns).data.toList = ns.map UInt8.ofNat := by
  have : ∀ (ns : List Nat) (r : ByteArray), (ns.foldl (fun r n => r.push (UInt8.ofNat n)) r).data.toList = r.data.toList ++ ns.map UInt8.ofNat := by
    intro ns
    induction ns with
    | nil => intro r; simp
    | cons n ns ih => intro r; rw [List.foldl_cons, ih]; simp
  unfold strOf; rw [this]; rfl
theorem strOf_inj {a b : List Nat} (ha : By a) (hb : By b) (h : strOf a = strOf b) : a = b := by
  have h1 : a.map UInt8.ofNat = b.map UInt8.ofNat := by rw [← strOf_data, ← strOf_data, h]
  have : ∀ (a b : List Nat), By a → By b → a.map UInt8.ofNat = b.map UInt8.ofNat → a = b := by
    intro a
    induction a with
    | nil => intro b _ _ h; cases b with
      | nil => rfl
      | cons => simp at h
    | cons x a ih => intro b ha hb h; cases b with
      | nil => simp at h
      | cons y b =>
        simp only [List.map_cons, List.cons.injEq] at h
        have hx := ha x (by simp); have hy := hb y (by simp)
        have e : x = y := by
          have := congrArg UInt8.toNat h.1
          simp only [UInt8.toNat_ofNat'] at this
          omega
        rw [e, ih b (fun n hn => ha n (List.mem_cons_of_mem _ hn)) (fun n hn => hb n (List.mem_cons_of_mem _ hn)) h.2]
  exact this a b ha hb h1

theorem run_conv {w : World} {v : Value} {ns : List Nat} (h : Rd w v (bv ns)) : (convert 35 9 v).run Try.prog w = .ok (.string (strOf ns)) w := by
  rcases h with ⟨rfl, h⟩ | ⟨a, c, rfl, _, h5⟩
  · have : ns = [] := by simpa [bv] using h
    subst this
    rw [run_convert_bytes_string w 35 9 5 _ _ _ Try.underlying35 Try.underlying5 Try.underlying9]; rfl
  · have e : bv ns = (ns.map fun n : Nat => (n : Int)).map (Value.int .u8) := by simp [bv]
    rw [run_convert_bytes_string w 35 9 5 _ _ _ Try.underlying35 Try.underlying5 Try.underlying9, run_bytesToString w a _ c (ns.map fun n : Nat => (n : Int)) (by rw [← e]; exact run_loadCells_list (P := Try.prog) w a _ h5)]
    simp [strOf, List.foldl_map]
theorem ba_beq (s : ByteArray) : (s == s) = true := by
  show ByteArray.beq s s = true
  simp [ByteArray.beq]
theorem ba_ne {s t : ByteArray} (h : s ≠ t) : (s == t) = false := by
  rcases hb : s == t with _ | _
  · rfl
  · exfalso; apply h
    have : ByteArray.beq s t = true := hb
    simp only [ByteArray.beq, beq_iff_eq] at this
    cases s; cases t; simp_all
theorem ret_bool {a b : Bool} (h : a = b) : Ending.returned (.bool a) = .returned (.bool b) := by rw [h]
end Go.Proofs.Ythmlpjogbdpgiaa
namespace Go.Proofs.Ythmlpjogbdpgiaa
open Go.ChangeShapes Go.WideShapes Go.ChangeAt Go.RowKit

/-- How two rows of bytes stand. -/
def cmpN : List Nat → List Nat → Int
  | [], [] => 0
  | [], _ :: _ => -1
  | _ :: _, [] => 1
  | x :: a, y :: b => if x < y then -1 else if y < x then 1 else cmpN a b
theorem cmpN_val : ∀ (a b : List Nat), cmpN a b = -1 ∨ cmpN a b = 0 ∨ cmpN a b = 1
  | [], [] => .inr (.inl rfl)
  | [], _ :: _ => .inl rfl
  | _ :: _, [] => .inr (.inr rfl)
  | x :: a, y :: b => by
    unfold cmpN
    split
    · exact .inl rfl
    · split
      · exact .inr (.inr rfl)
      · exact cmpN_val a b
theorem cmpN_neg : ∀ (a b : List Nat), cmpN b a = -cmpN a b
  | [], [] => rfl
  | [], _ :: _ => rfl
  | _ :: _, [] => rfl
  | x :: a, y :: b => by
    unfold cmpN
    rcases Nat.lt_trichotomy x y with h | h | h
    · rw [if_neg (by omega), if_pos h, if_pos h]; rfl
    · rw [if_neg (by omega), if_neg (by omega), if_neg (by omega), if_neg (by omega), cmpN_neg a b]
    · rw [if_pos h, if_neg (by omega), if_pos h]
theorem cmpN_eq : ∀ (a b : List Nat), cmpN a b = 0 ↔ a = b
  | [], [] => by simp [cmpN]
  | [], _ :: _ => by simp [cmpN]
  | _ :: _, [] => by simp [cmpN]
  | x :: a, y :: b => by
    unfold cmpN
    rcases Nat.lt_trichotomy x y with h | h | h
    · rw [if_pos h]; simp; omega
    · rw [if_neg (by omega), if_neg (by omega), cmpN_eq a b]; simp [h]
    · rw [if_neg (by omega), if_pos h]; simp; omega
theorem cmpN_trans : ∀ (a b c : List Nat), cmpN a b ≤ 0 → cmpN b c ≤ 0 → cmpN a c ≤ 0
  | [], _, [], _, _ => by simp [cmpN]
  | [], _, _ :: _, _, _ => by simp [cmpN]
  | _ :: _, [], _, h, _ => by simp [cmpN] at h
  | _ :: _, _ :: _, [], _, h => by simp [cmpN] at h
  | x :: a, y :: b, z :: c, h1, h2 => by
    unfold cmpN at h1 h2 ⊢
    rcases Nat.lt_trichotomy x y with e1 | e1 | e1
    · rcases Nat.lt_trichotomy y z with e2 | e2 | e2
      · rw [if_pos (by omega)]; omega
      · rw [if_pos (by omega)]; omega
      · rw [if_neg (by omega), if_pos e2] at h2; omega
    · rcases Nat.lt_trichotomy y z with e2 | e2 | e2
      · rw [if_pos (by omega)]; omega
      · rw [if_neg (by omega), if_neg (by omega)] at h1 h2 ⊢
        exact cmpN_trans a b c h1 h2
      · rw [if_neg (by omega), if_pos e2] at h2; omega
    · rw [if_neg (by omega), if_pos e1] at h1; omega

theorem cmp_bytes : ∀ (a b : List Nat), By a → By b → Lib.compareBytes (a.map UInt8.ofNat) (b.map UInt8.ofNat) = cmpN a b
  | [], [], _, _ => rfl
  | [], _ :: _, _, _ => rfl
  | _ :: _, [], _, _ => rfl
  | x :: a, y :: b, ha, hb => by
    have hx := ha x (by simp); have hy := hb y (by simp)
    have e : ∀ {p q : Nat}, p < 256 → q < 256 → (UInt8.ofNat p < UInt8.ofNat q ↔ p < q) := by
      intro p q hp hq
      rw [UInt8.lt_iff_toNat_lt, UInt8.toNat_ofNat', UInt8.toNat_ofNat', Nat.mod_eq_of_lt hp, Nat.mod_eq_of_lt hq]
    have ih := cmp_bytes a b (fun n hn => ha n (List.mem_cons_of_mem _ hn)) (fun n hn => hb n (List.mem_cons_of_mem _ hn))
    simp only [List.map_cons, Lib.compareBytes, cmpN, e hx hy, e hy hx, ih]

theorem run_bytesOf {w : World} {v : Value} {a : List Nat} (h : Rd w v (bv a)) : (Extern.Bytes.bytesOf v).run Try.prog w = .ok ⟨(a.map UInt8.ofNat).toArray⟩ w := by
  rcases h with ⟨rfl, h⟩ | ⟨ad, c, rfl, _, h5⟩
  · have : a = [] := by simpa [bv] using h
    subst this
    rfl
  · have h := Lib.run_loadBytesX (P := Try.prog) w (a.map fun n : Nat => (n : Int)) ad .empty (fun j x hx => by
      rw [List.getElem?_map] at hx
      cases hn : a[j]? with
      | none => rw [hn] at hx; cases hx
      | some n => rw [hn] at hx; cases hx; exact h5 j _ (bv_at hn))
    rw [List.length_map] at h
    show (Extern.Bytes.loadBytes ad (bv a).length .empty).run Try.prog w = _
    rw [bv_len, h]
    congr 1
    apply ByteArray.ext
    simp [Lib.bytesOf, List.map_map, Function.comp_def]

theorem run_cmp {w : World} {v1 v2 : Value} {a b : List Nat} (h1 : Rd w v1 (bv a)) (h2 : Rd w v2 (bv b)) (ha : By a) (hb : By b) :
    (callFunc 64 #[v1, v2]).run Try.prog w = .ok (.value (.int .i64 (cmpN a b))) w := by
  rw [run_callFunc_extern (e := Extern.BytealgCompare.compare) Try.func64 (by kernel_rfl) (by kernel_rfl) (by kernel_rfl) (by kernel_rfl)]
  have e : (Extern.BytealgCompare.compare #[v1, v2]).run Try.prog w = .ok (.int .i64 (cmpN a b)) w := by
    change Sem.run Try.prog (do pure (goInt (Extern.BytealgCompare.cmp (← Extern.Bytes.bytesOf v1) (← Extern.Bytes.bytesOf v2)))) w = _
    simp only [Sem.run_bind, run_bytesOf h1, run_bytesOf h2, Result.andThen_ok, Sem.run_pure, Lib.cmp_eq]
    rw [cmp_bytes a b ha hb]
    rfl
  rw [e]; rfl

set_option maxHeartbeats 400000 in
theorem bcmp_c {w : World} {v1 v2 : Value} {a b : List Nat} (h1 : Rd w v1 (bv a)) (h2 : Rd w v2 (bv b)) (ha : By a) (hb : By b) :
    Calls Try.prog 54 #[v1, v2] w fun e w' => e = .returned (.int .i64 (cmpN a b)) ∧ w' = w := by
  have hr := run_cmp h1 h2 ha hb
  obtain ⟨a1, c1, rfl⟩ := h1.form
  obtain ⟨a2, c2, rfl⟩ := h2.form
  clear h1 h2 ha hb
  go_enter Try.func54, Try.ntmps54
  go_wp2
  go_ret
  exact ⟨rfl, rfl⟩

/-- How two numbers stand. -/
def cmpI (x y : Int) : Int := if x < y then -1 else if y < x then 1 else 0

set_option maxHeartbeats 400000 in
theorem cmpu_c (w : World) (x y : Int) : Calls Try.prog 60 #[.int .u64 x, .int .u64 y] w fun e w' => e = .returned (.int .i64 (cmpI x y)) ∧ w' = w := by
  unfold cmpI
  rcases (show x < y ∨ y < x ∨ x = y from by omega) with h | h | h
  · rw [if_pos h]
    go_enter Try.func60, Try.ntmps60
    go_wp2
    go_ret
    exact ⟨rfl, rfl⟩
  · rw [if_neg (by omega), if_pos h]
    go_enter Try.func60, Try.ntmps60
    go_wp2
    go_ret
    exact ⟨rfl, rfl⟩
  · subst h
    rw [if_neg (by omega), if_neg (by omega)]
    go_enter Try.func60, Try.ntmps60
    go_wp2
    go_ret
    exact ⟨rfl, rfl⟩
set_option maxHeartbeats 400000 in
theorem cmpi_c (w : World) (x y : Int) : Calls Try.prog 61 #[.int .i64 x, .int .i64 y] w fun e w' => e = .returned (.int .i64 (cmpI x y)) ∧ w' = w := by
  unfold cmpI
  rcases (show x < y ∨ y < x ∨ x = y from by omega) with h | h | h
  · rw [if_pos h]
    go_enter Try.func61, Try.ntmps61
    go_wp2
    go_ret
    exact ⟨rfl, rfl⟩
  · rw [if_neg (by omega), if_pos h]
    go_enter Try.func61, Try.ntmps61
    go_wp2
    go_ret
    exact ⟨rfl, rfl⟩
  · subst h
    rw [if_neg (by omega), if_neg (by omega)]
    go_enter Try.func61, Try.ntmps61
    go_wp2
    go_ret
    exact ⟨rfl, rfl⟩
end Go.Proofs.Ythmlpjogbdpgiaa
namespace Go.Proofs.Ythmlpjogbdpgiaa
open Go.ChangeShapes Go.WideShapes Go.ChangeAt Go.RowKit

theorem u8_of (n : Nat) : IntKind.u8.wrap (n : Int) = ((n % 256 : Nat) : Int) := by rw [IntKind.wrap_u8']; omega
theorem or128 (n : Nat) : bits .or .u8 ((n % 256 : Nat) : Int) 128 = ((n % 128 + 128 : Nat) : Int) := by
  have h := u8_or_nat (n % 256) 128 (by omega) (by omega)
  have e : n % 256 ||| 128 = n % 128 + 128 := by
    rcases Nat.lt_or_ge (n % 256) 128 with hl | hl
    · rw [Nat.or_comm]
      have := nat_join 7 128 (n % 256) (by decide) (by omega)
      omega
    · have h1 : n % 256 = 128 ||| (n % 128) := by
        have := nat_join 7 128 (n % 128) (by decide) (by omega)
        omega
      rw [h1, Nat.or_comm, ← Nat.or_assoc, Nat.or_self]
      have := nat_join 7 128 (n % 128) (by decide) (by omega)
      omega
  rw [e] at h
  exact h

end Go.Proofs.Ythmlpjogbdpgiaa
