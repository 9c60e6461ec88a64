/-
  What isName, find, beginOn, look and New of package disk answer.
-/
import Derived.Test.YtilgagmnifbdpaaA
namespace Go.Proofs.Ytilgagmnifbdpaa
open Go.ChangeShapes Go.WideShapes Go.ChangeAt Go.RowKit

/-- Is it a name? -/
def isNm (s : ByteArray) : Bool := decide (1 ≤ s.size) && (decide (s.size ≤ 64) && s.data.toList.all (fun c => nb c.toNat))

theorem all_take_succ {α : Type} (p : α → Bool) (l : List α) (k : Nat) (h : k < l.length) : (l.take (k + 1)).all p = ((l.take k).all p && p l[k]) := by
  rw [List.take_succ_eq_append_getElem h, List.all_append]; simp

theorem all_false_of {α : Type} (p : α → Bool) (l : List α) (k : Nat) (h : k < l.length) (hp : p l[k] = false) : l.all p = false := by
  rw [List.all_eq_false]; exact ⟨l[k], List.getElem_mem h, by simp [hp]⟩

set_option maxHeartbeats 400000 in
theorem isName_c (s : ByteArray) (w : World) (hs : s.size ≤ maxLen) :
    Calls Try.prog 17 #[.string s] w fun e w' => e = .returned (.bool (isNm s)) ∧ w' = w := by
  unfold maxLen at hs
  by_cases h1 : 1 ≤ s.size
  · by_cases h2 : s.size ≤ 64
    · go_enter Try.func17, Try.ntmps17
      go_wp2
      go_loop [14] (fun i => ∃ k : Nat, k ≤ s.size ∧ i = .int .i64 k ∧ (s.data.toList.take k).all (fun c => nb c.toNat) = true) (fun i => s.size - (intOf i).toNat)
      case atStart => exact ⟨0, Nat.zero_le _, rfl, by simp⟩
      case round =>
        obtain ⟨k, hk, rfl, hall⟩ := hrel
        have HA : Hid ((s.data.toList.take k).all (fun c => nb c.toNat) = true) := hall
        clear hall
        by_cases hlt : k < s.size
        · cases hc : nb s[k].toNat
          · go_wp2_with (go_at_call 27; refine (isNameByte_c _ _).mono ?_; rintro e w' ⟨rfl, rfl⟩)
            go_ret
            refine ⟨ret_bool ?_, rfl⟩
            have := all_false_of (fun c : UInt8 => nb c.toNat) s.data.toList k (by simpa using hlt) (by rw [Array.getElem_toList]; exact hc)
            simp [isNm, this]
          · go_wp2_with (go_at_call 27; refine (isNameByte_c _ _).mono ?_; rintro e w' ⟨rfl, rfl⟩)
            go_round
            case rel => exact ⟨k + 1, by omega, by go_num, by rw [all_take_succ _ _ _ (by simpa using hlt), HA.out, Bool.true_and, Array.getElem_toList]; exact hc⟩
            case measure => simp [intOf]; omega
        · go_wp2
          go_ret
          refine ⟨ret_bool ?_, rfl⟩
          have := HA.out
          rw [List.take_of_length_le (by simp; omega)] at this
          simp [isNm, h1, h2, this]
    · go_enter Try.func17, Try.ntmps17
      go_wp2
      go_ret
      exact ⟨ret_bool (by simp [isNm, h2]), rfl⟩
  · go_enter Try.func17, Try.ntmps17
    go_wp2
    go_ret
    exact ⟨ret_bool (by simp [isNm, h1]), rfl⟩

/-- Every key of a map is a string. -/
def SK (es : List MapEntry) : Prop := ∀ e ∈ es, ∃ t, e.key = .string t
def keyIs (s : ByteArray) (e : MapEntry) : Bool := match e.key with | .string t => s == t | _ => false
/-- What a map of names tells of one. -/
def lk (es : List MapEntry) (s : ByteArray) : Option Value := (es.find? (keyIs s)).map (·.val)

theorem findNow_str (s : ByteArray) : ∀ (es : List MapEntry) (i : Nat), SK es →
    ((lk es s = none → Instr.findNow .string (.string s) es i = some none) ∧ (∀ v, lk es s = some v → ∃ j, Instr.findNow .string (.string s) es i = some (some (j, v))))
  | [], i, _ => ⟨fun _ => rfl, fun v h => by simp [lk] at h⟩
  | e :: es, i, hs => by
    obtain ⟨t, ht⟩ := hs e (by simp)
    have ih := findNow_str s es (i + 1) (fun e he => hs e (by simp [he]))
    have hk : keyIs s e = (s == t) := by simp [keyIs, ht]
    cases hst : s == t
    · rw [hst] at hk
      have el : lk (e :: es) s = lk es s := by simp [lk, hk]
      rw [el]
      have ef : Instr.findNow .string (.string s) (e :: es) i = Instr.findNow .string (.string s) es (i + 1) := by simp [Instr.findNow, Instr.sameNow, ht, hst]
      rw [ef]; exact ih
    · rw [hst] at hk
      have el : lk (e :: es) s = some e.val := by simp [lk, hk]
      have ef : Instr.findNow .string (.string s) (e :: es) i = some (some (i, e.val)) := by simp [Instr.findNow, Instr.sameNow, ht, hst]
      rw [el, ef]
      exact ⟨fun h => by simp at h, fun v h => ⟨i, by simp at h; rw [h]⟩⟩

theorem infoF : (Try.prog.info? 50).map (fun i => (i.zero, i.size, i.bytes)) = some (some (.pointer none), 1, 8) := by kernel_rfl
theorem zeroF (w : World) : (zeroValue 50).run Try.prog w = .ok (.pointer none) w := by
  obtain ⟨i0, hi, hz0, hz1, hz2⟩ := info_parts infoF
  simp [zeroValue, typeInfo, hi, hz0]

theorem run_getObj_at {w : World} {r : Nat} {es : Array MapEntry} {clk : Nat} (h : w.heap[r]? = some (.map es clk)) : (getObj r).run Try.prog w = .ok (.map es clk) w := by
  simp [getObj, Sem.run, h]
theorem run_checkKey (e : Bool) (n : Nat) (s : ByteArray) (w : World) : (Instr.checkKey e (n + 1) 9 (.string s)).run Try.prog w = .ok () w := by
  simp [Instr.checkKey, run_underlying Try.underlying9]
theorem run_lookup_some (w : World) (r : Nat) (es : Array MapEntry) (clk : Nat) (s : ByteArray) (v : Value) (hb : w.heap[r]? = some (.map es clk)) (hs : SK es.toList) (hv : lk es.toList s = some v) :
    (Instr.lookup 42 (.map (some r)) (.string s) false).run Try.prog w = .ok v w := by
  obtain ⟨j, hj⟩ := (findNow_str s es.toList 0 hs).2 v hv
  simp [Instr.lookup, run_underlying Try.underlying42, run_getObj_at hb, run_checkKey _ 9999, run_underlying Try.underlying9, Instr.findKey, hj]
theorem run_lookup_none (w : World) (r : Nat) (es : Array MapEntry) (clk : Nat) (s : ByteArray) (hb : w.heap[r]? = some (.map es clk)) (hs : SK es.toList) (hv : lk es.toList s = none) :
    (Instr.lookup 42 (.map (some r)) (.string s) false).run Try.prog w = .ok (.pointer none) w := by
  have hj := (findNow_str s es.toList 0 hs).1 hv
  simp [Instr.lookup, run_underlying Try.underlying42, run_getObj_at hb, run_checkKey _ 9999, run_underlying Try.underlying9, Instr.findKey, hj]

set_option maxHeartbeats 400000 in
theorem find_some {w : World} {b m0 m1 : Nat} {cap used made cnt fail halt : Int} {pv : Value} {down : Bool} (h : DB w b cap m0 m1 pv used made cnt fail halt down)
    {es : Array MapEntry} {clk : Nat} {s : ByteArray} {fb : Nat} (hm : w.heap[m0]? = some (.map es clk)) (hs : SK es.toList) (hv : lk es.toList s = some (.pointer (some ⟨fb, 0, none⟩))) (hn : isNm s = true) (hl : s.size ≤ maxLen) :
    Calls Try.prog 14 #[.pointer (some ⟨b, 0, none⟩), .string s] w fun e w' => e = .returned (.tuple #[.pointer (some ⟨fb, 0, none⟩), .int .i64 0]) ∧ w' = w := by
  have c1 : w.cell? ⟨b, 1, none⟩ = some (.map (some m0)) := by rw [blk_cell h]; rfl
  have hlk := run_lookup_some w m0 es clk s _ hm hs hv
  clear h hm hv
  go_enter Try.func14, Try.ntmps14
  go_wp2_with (go_at_call 17; refine (isName_c _ _ hl).mono ?_; rw [hn]; rintro e w' ⟨rfl, rfl⟩)
  go_ret2
  exact ⟨rfl, rfl⟩
set_option maxHeartbeats 400000 in
theorem find_none {w : World} {b m0 m1 : Nat} {cap used made cnt fail halt : Int} {pv : Value} {down : Bool} (h : DB w b cap m0 m1 pv used made cnt fail halt down)
    {es : Array MapEntry} {clk : Nat} {s : ByteArray} (hm : w.heap[m0]? = some (.map es clk)) (hs : SK es.toList) (hv : lk es.toList s = none) (hn : isNm s = true) (hl : s.size ≤ maxLen) :
    Calls Try.prog 14 #[.pointer (some ⟨b, 0, none⟩), .string s] w fun e w' => e = .returned (.tuple #[.pointer none, .int .i64 13]) ∧ w' = w := by
  have c1 : w.cell? ⟨b, 1, none⟩ = some (.map (some m0)) := by rw [blk_cell h]; rfl
  have hlk := run_lookup_none w m0 es clk s hm hs hv
  clear h hm hv
  go_enter Try.func14, Try.ntmps14
  go_wp2_with (go_at_call 17; refine (isName_c _ _ hl).mono ?_; rw [hn]; rintro e w' ⟨rfl, rfl⟩)
  go_ret2
  exact ⟨rfl, rfl⟩

set_option maxHeartbeats 400000 in
theorem beginOn_some {w : World} {b m0 m1 : Nat} {cap used made cnt : Int} {pv : Value} (h : DB w b cap m0 m1 pv used made cnt 0 (-1) false) (h0 : 0 ≤ cnt) (h1 : cnt < 1000000)
    {es : Array MapEntry} {clk : Nat} {s : ByteArray} {fb : Nat} (hm : w.heap[m0]? = some (.map es clk)) (hs : SK es.toList) (hv : lk es.toList s = some (.pointer (some ⟨fb, 0, none⟩))) (hn : isNm s = true) (hl : s.size ≤ maxLen) :
    Calls Try.prog 24 #[.pointer (some ⟨b, 0, none⟩), .string s] w fun e w' => e = .returned (.tuple #[.pointer (some ⟨fb, 0, none⟩), .int .i64 0]) ∧ DB w' b cap m0 m1 pv used made (cnt + 1) 0 (-1) false ∧ Fr [b] w w' := by
  have hne : m0 ∉ [b] := by
    intro e; rw [List.mem_singleton] at e; subst e; unfold DB at h; rw [hm] at h; cases h
  have H : Hid (DB w b cap m0 m1 pv used made cnt 0 (-1) false) := h
  have HM : Hid (w.heap[m0]? = some (.map es clk)) := hm
  have HV : Hid (lk es.toList s = some (.pointer (some ⟨fb, 0, none⟩))) := hv
  clear h hm hv
  go_enter Try.func24, Try.ntmps24
  go_wp2_with fail
  refine (begin_c H.out h0 h1).mono ?_
  rintro e w' ⟨rfl, hd, hf⟩
  have HD : Hid (DB w' b cap m0 m1 pv used made (cnt + 1) 0 (-1) false) := hd
  have HF : Hid (Fr [b] w w') := hf
  clear hd hf
  go_wp2_with fail
  refine (find_some HD.out (HF.out.at HM.out hne) hs HV.out hn hl).mono ?_
  rintro e w2 ⟨rfl, rfl⟩
  go_wp2
  go_ret2
  exact ⟨rfl, HD.out, HF.out⟩

set_option maxHeartbeats 400000 in
theorem look_some {w : World} {b m0 m1 : Nat} {cap used made cnt fail halt : Int} {pv : Value} (h : DB w b cap m0 m1 pv used made cnt fail halt false)
    {es : Array MapEntry} {clk : Nat} {s : ByteArray} {fb : Nat} (hm : w.heap[m0]? = some (.map es clk)) (hs : SK es.toList) (hv : lk es.toList s = some (.pointer (some ⟨fb, 0, none⟩))) (hn : isNm s = true) (hl : s.size ≤ maxLen) :
    Calls Try.prog 26 #[.pointer (some ⟨b, 0, none⟩), .string s] w fun e w' => e = .returned (.tuple #[.pointer (some ⟨fb, 0, none⟩), .int .i64 0]) ∧ w' = w := by
  have c9 : w.cell? ⟨b, 9, none⟩ = some (.bool false) := by rw [blk_cell h]; rfl
  have H : Hid (DB w b cap m0 m1 pv used made cnt fail halt false) := h
  have HM : Hid (w.heap[m0]? = some (.map es clk)) := hm
  have HV : Hid (lk es.toList s = some (.pointer (some ⟨fb, 0, none⟩))) := hv
  clear h hm hv
  go_enter Try.func26, Try.ntmps26
  go_wp2_with fail
  refine (find_some H.out HM.out hs HV.out hn hl).mono ?_
  rintro e w2 ⟨rfl, rfl⟩
  go_wp2
  go_ret2
  exact ⟨rfl, rfl⟩

set_option maxHeartbeats 400000 in
theorem new_c (cap : Int) (w : World) (h0 : 0 ≤ cap) (h1 : cap ≤ 67108864) :
    Calls Try.prog 5 #[.int .i64 cap] w fun e w' => ∃ b m0 m1, e = .returned (.tuple #[.pointer (some ⟨b, 0, none⟩), .int .i64 0]) ∧ DB w' b cap m0 m1 (.slice none 0 0) 0 0 0 0 (-1) false ∧
      w'.heap[m0]? = some (.map #[] 0) ∧ w'.heap[m1]? = some (.map #[] 0) ∧ m0 ≠ m1 ∧ w.heap.size ≤ b ∧ w.heap.size ≤ m0 ∧ w.heap.size ≤ m1 ∧ Fr [] w w' := by
  have hmm := @run_makeMap Try.prog
  go_enter Try.func5, Try.ntmps5
  go_wp2
  go_rounds 3
  go_ret2
  refine ⟨w.heap.size, w.heap.size + 1, w.heap.size + 1 + 1, rfl, ?_, ?_, ?_, by omega, by omega, by omega, by omega, ?_⟩
  · unfold DB; rw [blk_old _ _ (by simp; omega), blk_old _ _ (by simp), blk_new]
  · rw [blk_old _ _ (by simp), new_at _ _ (by simp)]
  · rw [new_at _ _ (by simp)]
  · exact (((Fr.refl _ _).alloc _).alloc _).alloc _
end Go.Proofs.Ytilgagmnifbdpaa
