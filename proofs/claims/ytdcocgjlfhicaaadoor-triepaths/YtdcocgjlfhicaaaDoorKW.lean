/-
  What Write, New and Sum of a sponge answer.
-/
import Derived.Test.YtdcocgjlfhicaaaDoorJ25
import Derived.Test.YtdcocgjlfhicaaaDoorJ02
namespace Go.Proofs.YtdcocgjlfhicaaaDoor
open Go.ChangeShapes Go.WideShapes Go.ChangeAt Go.RowKit

/-- Bytes that can be read, and don't lie in block p. -/
def RdP (p : Nat) (w : World) (v : Value) (ns : List Nat) : Prop :=
  (ns = [] ∧ ∃ a c, v = .slice a 0 c) ∨ ∃ b off c, b ≠ p ∧ v = .slice (some ⟨b, off, none⟩) ns.length c ∧ ns.length ≤ c ∧ 0 < ns.length ∧ ∀ (j n : Nat), ns[j]? = some n → w.cell? ⟨b, off + j, none⟩ = some (.int .u8 (n : Int))
theorem RdP.of {p : Nat} {w : World} {v : Value} {ns : List Nat} (h : Rd w v (bv ns)) (hv : ∀ a l c, v = .slice (some a) l c → 0 < ns.length → a.block ≠ p) : RdP p w v ns := by
  rcases h.split with h | ⟨b, off, c, rfl, h1, h2, h3⟩
  · exact .inl h
  · exact .inr ⟨b, off, c, hv _ _ _ rfl h2, rfl, h1, h2, h3⟩
theorem RdP.rest {p : Nat} {w w' : World} {b off c k : Nat} {ms : List Nat} (hbp : b ≠ p) (hc : ms.length ≤ c) (hcell : ∀ (j n : Nat), ms[j]? = some n → w.cell? ⟨b, off + j, none⟩ = some (.int .u8 (n : Int))) (f : Fr [p] w w') (hk : k ≤ ms.length) :
    (c = k → RdP p w' (.slice (some ⟨b, off, none⟩) (ms.length - k) (c - k)) (ms.drop k)) ∧ RdP p w' (.slice (some ⟨b, off + k, none⟩) (ms.length - k) (c - k)) (ms.drop k) := by
  have hl : (ms.drop k).length = ms.length - k := List.length_drop
  refine ⟨fun e => .inl ⟨List.eq_nil_of_length_eq_zero (by omega), _, _, by rw [show ms.length - k = 0 by omega]⟩, ?_⟩
  by_cases h0 : ms.length = k
  · exact .inl ⟨List.eq_nil_of_length_eq_zero (by omega), _, _, by rw [show ms.length - k = 0 by omega]⟩
  · refine .inr ⟨b, off + k, c - k, hbp, by rw [hl], by omega, by omega, fun j n hj => ?_⟩
    rw [List.getElem?_drop] at hj
    have := hcell _ _ hj
    rw [show off + k + j = off + (k + j) by omega, World.cell?_of_block (w := w) (f.block _ (World.block_lt_of_cell? w _ this) (by simpa using hbp))]
    exact this
theorem copy_val (w : World) {p b off c k : Nat} {t : Sp} {ms : List Nat} (hs : IsSp w p t) (hn : t.n < 136) (hk : k = min ms.length (136 - t.n)) (hcell : ∀ (j n : Nat), ms[j]? = some n → w.cell? ⟨b, off + j, none⟩ = some (.int .u8 (n : Int))) :
    (Builtin.copy_ #[22, 22] 3 #[.slice (some ⟨p, 25 + t.n, none⟩) (136 - t.n) (136 - t.n), .slice (some ⟨b, off, none⟩) ms.length c]).run Tryd.prog w = .ok (.int .i64 (k : Int)) (w.setCells p (25 + t.n) ((ms.take k).map fun n : Nat => Value.int .u8 (n : Int))) := by
  have hl : ((ms.take k).map fun n : Nat => Value.int .u8 (n : Int)).length = k := by rw [List.length_map, List.length_take]; omega
  have := run_copy_cells (P := Tryd.prog) w 22 22 3 5 p (25 + t.n) (136 - t.n) (136 - t.n) ⟨b, off, none⟩ ms.length c ((ms.take k).map fun n : Nat => Value.int .u8 (n : Int)) Tryd.underlying22 (by kernel_rfl) (by rw [hl]; exact hk)
    (fun j v hj => by
      rw [List.getElem?_map, List.getElem?_take] at hj
      split at hj
      · cases hm : ms[j]? with
        | none => rw [hm] at hj; cases hj
        | some x => rw [hm] at hj; cases hj; rw [Addr.add_mid]; exact hcell j x hm
      · cases hj)
    (fun j hj => (hs.there (o := 25 + t.n) (n := 136 - t.n) (by omega) j (by omega)).1) (fun j hj => hs.fz _) (fun v hv => by obtain ⟨x, _, rfl⟩ := List.mem_map.1 hv; rfl)
  rw [hl] at this
  exact this
theorem lay_push {t : Sp} {ms : List Nat} {k : Nat} (hn : t.n < 136) (hk : k = min ms.length (136 - t.n)) (h0 : 0 < k) : 0 < k ∧ pushes t (ms.take k) = if t.n + k = 136 then ⟨ab t.f (lay t.g t.n (ms.take k)), fun _ => 0, 0⟩ else ⟨t.f, lay t.g t.n (ms.take k), t.n + k⟩ := by
  have hl : (ms.take k).length = k := by rw [List.length_take]; omega
  refine ⟨h0, ?_⟩
  split
  · exact pushes_full _ _ (by omega) (by omega)
  · rw [pushes_few _ _ (by omega), hl]
theorem push_on {t s : Sp} {ms ns : List Nat} {k : Nat} (h : pushes t ms = pushes s ns) : pushes (pushes t (ms.take k)) (ms.drop k) = pushes s ns := by
  rw [← pushes_append, List.take_append_drop]; exact h

set_option maxRecDepth 20000 in
set_option maxHeartbeats 400000 in
theorem write_c (w : World) (T : Tabs w) {p : Nat} (hp : 3 ≤ p) {s : Sp} (h : IsSp w p s) (hn : s.n < 136) {v : Value} {ns : List Nat} (hr : RdP p w v ns) (hb : ∀ x ∈ ns, x < 256) (hl : ns.length ≤ 140737488355328) :
    Calls Tryd.prog 65 #[.pointer (some ⟨p, 0, none⟩), v] w fun e w' => e = .returned (.tuple #[]) ∧ IsSp w' p (pushes s ns) ∧ Fr [p] w w' := by
  have HT := hid T
  have HS := hid h
  have HR := hid hr
  have HB := hid hb
  clear T h hr hb
  go_enter Tryd.func65, Tryd.ntmps65
  go_wp2
  go_loopw [1] (fun v1 wr => ∃ (ms : List Nat) (t : Sp), ms.length ≤ ns.length ∧ RdP p wr v1 ms ∧ (∀ x ∈ ms, x < 256) ∧ t.n < 136 ∧ IsSp wr p t ∧ pushes t ms = pushes s ns ∧ Fr [p] w wr) (fun v1 _ => match v1 with | .slice _ n _ => n | _ => 0)
  case atStart => exact ⟨ns, s, Nat.le_refl _, HR.out, HB.out, hn, HS.out, rfl, Fr.refl _ _⟩
  case round =>
    clear HS HR HB hn
    obtain ⟨ms, t, hml, hr, hb, hn, hs, hpu, hf⟩ := hrel
    have HS := hid hs
    have HB := hid hb
    have HP := hid hpu
    have HF := hid hf
    rcases hr with ⟨rfl, a, c, rfl⟩ | ⟨b, off, c, hbp, rfl, hc, h0, hcell⟩
    · clear hs hb hpu hf
      go_wp2
      refine bodyPost_end (v := .tuple #[]) (by simp [results]) rfl ⟨rfl, ?_, HF.out⟩
      rw [← HP.out]; exact HS.out
    · have HC := hid hcell
      obtain ⟨k, hk⟩ : ∃ k, k = min ms.length (136 - t.n) := ⟨_, rfl⟩
      have hk1 : k ≤ ms.length := by omega
      have hk2 : k ≤ 136 - t.n := by omega
      have hk0 : 0 < k := by omega
      have e0 := hs.fill
      have fz := hs.fz
      have hsl := sliceB wr.drew p t.n hn
      have hcp := copy_val wr.drew (c := c) (k := k) (show IsSp wr.drew p t from hs) hn hk hcell
      have HW : Hid (IsSp (wr.drew.setCells p (25 + t.n) ((ms.take k).map fun n : Nat => Value.int .u8 (n : Int))) p ⟨t.f, lay t.g t.n (ms.take k), t.n⟩) :=
        IsSp.laid (show IsSp wr.drew p t from hs) (fun x hx => hb x (List.mem_of_mem_take hx)) (by rw [List.length_take]; omega)
      have HG : Hid (Fr [p] wr (wr.drew.setCells p (25 + t.n) ((ms.take k).map fun n : Nat => Value.int .u8 (n : Int)))) := Fr.cells (S := [p]) (b := p) (.inl (by simp)) _ _ _ (Fr.refl _ _).drew
      have HQ := hid (lay_push (ms := ms) hn hk hk0)
      have HO := hid (push_on (k := k) hpu)
      have HX := hid (fun x (hx : x ∈ ms.drop k) => hb x (List.mem_of_mem_drop hx))
      have HRs := hid (fun (w' : World) (f : Fr [p] wr w') => RdP.rest hbp hc hcell f hk1)
      clear hs hb hpu hf hcell hk HS HB HP HC
      generalize wr.drew.setCells p (25 + t.n) ((ms.take k).map fun n : Nat => Value.int .u8 (n : Int)) = wc at hcp HW HG
      have e1 := HW.out.fill
      have fz1 := HW.out.fz
      by_cases hck : c = k
      · have HCK := hid hck
        obtain ⟨hcl, hcu⟩ : c ≤ k ∧ k ≤ c := by omega
        subst hck
        clear hcl hcu HCK
        by_cases hfull : t.n + c = 136
        · go_wp2
          go_region
          all_goals go_wp2_with fail
          rw [show ((t.n : Int) + (c : Int)) = ((t.n + c : Nat) : Int) from by omega]
          refine (takeIn_c _ (HT.out.fr1 (HF.out.trans (HG.out.set (p := p) 161 _ (.inl (by simp)))) (by simpa using hp)) hp (HW.out.setFill (t.n + c))).mono ?_
          rintro e wd ⟨rfl, hsp, fd⟩
          have hfd := (HG.out.set (p := p) 161 (.int .i64 ((t.n + c : Nat) : Int)) (.inl (by simp))).trans fd
          have HSP := hid hsp
          have HFD := hid hfd
          clear hsp fd hfd
          go_wp2
          go_roundw
          case rel =>
            have hq := HQ.out.2
            rw [if_pos hfull] at hq
            refine ⟨ms.drop c, pushes t (ms.take c), by rw [List.length_drop]; omega, .inl ⟨List.eq_nil_of_length_eq_zero (by rw [List.length_drop]; omega), _, _, rfl⟩, HX.out, by rw [hq]; exact Nat.zero_lt_succ _, by rw [hq]; exact HSP.out, HO.out, HF.out.trans HFD.out⟩
          case measure =>
            show 0 < ms.length
            omega
        · have hltf : t.n + c < 136 := by omega
          go_wp2
          go_region
          all_goals go_wp2_with fail
          go_roundw
          case rel =>
            have hq := HQ.out.2
            rw [if_neg hfull] at hq
            rw [show ((t.n : Int) + (c : Int)) = ((t.n + c : Nat) : Int) from by omega]
            have hfd := HG.out.set (p := p) 161 (.int .i64 ((t.n + c : Nat) : Int)) (.inl (by simp))
            refine ⟨ms.drop c, pushes t (ms.take c), by rw [List.length_drop]; omega, .inl ⟨List.eq_nil_of_length_eq_zero (by rw [List.length_drop]; omega), _, _, rfl⟩, HX.out, by rw [hq]; simp only; omega, by rw [hq]; exact HW.out.setFill _, HO.out, HF.out.trans hfd⟩
          case measure =>
            show 0 < ms.length
            omega
      · by_cases hfull : t.n + k = 136
        · go_wp2
          go_region
          all_goals go_wp2_with fail
          rw [show ((t.n : Int) + (k : Int)) = ((t.n + k : Nat) : Int) from by omega]
          refine (takeIn_c _ (HT.out.fr1 (HF.out.trans (HG.out.set (p := p) 161 _ (.inl (by simp)))) (by simpa using hp)) hp (HW.out.setFill (t.n + k))).mono ?_
          rintro e wd ⟨rfl, hsp, fd⟩
          have hfd := (HG.out.set (p := p) 161 (.int .i64 ((t.n + k : Nat) : Int)) (.inl (by simp))).trans fd
          have HSP := hid hsp
          have HFD := hid hfd
          clear hsp fd hfd
          go_wp2
          go_roundw
          case rel =>
            have hq := HQ.out.2
            rw [if_pos hfull] at hq
            refine ⟨ms.drop k, pushes t (ms.take k), by rw [List.length_drop]; omega, (HRs.out _ (HFD.out)).2, HX.out, by rw [hq]; exact Nat.zero_lt_succ _, by rw [hq]; exact HSP.out, HO.out, HF.out.trans HFD.out⟩
          case measure =>
            show ms.length - k < ms.length
            omega
        · have hltf : t.n + k < 136 := by omega
          go_wp2
          go_region
          all_goals go_wp2_with fail
          go_roundw
          case rel =>
            have hq := HQ.out.2
            rw [if_neg hfull] at hq
            rw [show ((t.n : Int) + (k : Int)) = ((t.n + k : Nat) : Int) from by omega]
            have hfd := HG.out.set (p := p) 161 (.int .i64 ((t.n + k : Nat) : Int)) (.inl (by simp))
            refine ⟨ms.drop k, pushes t (ms.take k), by rw [List.length_drop]; omega, (HRs.out _ (hfd)).2, HX.out, by rw [hq]; simp only; omega, by rw [hq]; exact HW.out.setFill _, HO.out, HF.out.trans hfd⟩
          case measure =>
            show ms.length - k < ms.length
            omega

theorem buildSp (w : World) : (Instr.build 122 #[]).run Tryd.prog w = .ok (.agg (spc (fun _ => 0) (fun _ => 0) 0)) w := by kernel_rfl
theorem allocSp (w : World) : (Instr.alloc 122 true (.tuple #[])).run Tryd.prog w = .ok (.pointer (some ⟨w.heap.size, 0, none⟩)) (w.alloc (.cells (spc (fun _ => 0) (fun _ => 0) 0) 122)) := by kernel_rfl
end Go.Proofs.YtdcocgjlfhicaaaDoor
