/-
  Package block: takeLines.
-/
import Derived.Test.YtdlnfcepknoigaaBH
namespace Go.Proofs.Ytdlnfcepknoigaa
open Go.ChangeShapes Go.WideShapes Go.ChangeAt Go.RowKit

theorem lineL_by {all ah : List Nat} (hb : By all) (ha : By ah) {p s p' : Nat} {k v : List Nat} (hp : p ≤ all.length) (h : lineL all ah p = some (s, k, v, p')) : By k ∧ By v ∧ s ≤ ah.length ∧ v.length ≤ all.length ∧ p + 3 ≤ p' ∧ p' ≤ all.length := by
  obtain ⟨h1, h2, h3, h4, h5, h6⟩ := lineL_inv hb hp h
  have hd := hb.drop p
  rw [h4] at hd
  unfold ent at hd
  have e := ent_len s k v
  refine ⟨?_, fun n hn => hd n (by simp [hn]), h1, by omega, by omega, h6⟩
  intro n hn
  rw [← List.take_append_drop s k, List.mem_append] at hn
  rcases hn with hn | hn
  · rw [h3] at hn; exact ha n (List.mem_of_mem_take hn)
  · exact hd n (by simp [hn])
/-- What takeLines holds ahead of a round. -/
structure TI (w wr : World) (q o c : Nat) (all : List Nat) (v4 v5 : Value) (ls : List Ln) (p : Nat) (ah : List Nat) (f : Nat) : Prop where
  tk : Tk wr w.heap.size (.slice (some ⟨q, o, none⟩) all.length c) p false
  rr : Rd wr (.slice (some ⟨q, o, none⟩) all.length c) (bv all)
  col : ColN wr w.heap.size v4 ls
  ra : Rd wr v5 (bv ah)
  ta : T8 wr v5 (· < w.heap.size)
  ba : By ah
  la : ah.length ≤ 136
  hp : p ≤ all.length
  hf : all.length - p < f
  eq : linesF (all.length + 1) all 0 [] = (linesF f all p ah).map (ls ++ ·)
  ok : ∀ x ∈ ls, OkLn x
  len : ls.length ≤ p
  fr : Fr [] w wr

set_option maxRecDepth 20000 in
set_option maxHeartbeats 3200000 in
theorem takeLines_c (w : World) {q o c : Nat} {all : List Nat} (hr : Rd w (.slice (some ⟨q, o, none⟩) all.length c) (bv all)) (hb : By all) (hc : all.length < c) (hl : all.length ≤ 1000000000) (hq : q < w.heap.size) :
    Calls Try.prog 43 #[.slice (some ⟨q, o, none⟩) all.length c] w fun e w' => ((linesF (all.length + 1) all 0 [] = none ∧ e = .returned (.tuple #[.slice none 0 0, .bool false])) ∨ ∃ ls v, linesF (all.length + 1) all 0 [] = some ls ∧ e = .returned (.tuple #[v, .bool true]) ∧ ColN w' w.heap.size v ls ∧ (∀ x ∈ ls, OkLn x) ∧ ls.length ≤ all.length) ∧ Fr [] w w' := by
  obtain ⟨W0, hW0⟩ : ∃ W, W = w.alloc (.cells #[.slice (some ⟨q, o, none⟩) all.length c, .int .i64 0, .bool false] 98) := ⟨_, rfl⟩
  have F0 : Fr [] w W0 := by rw [hW0]; exact (Fr.refl _ _).alloc _
  have I0 : TI w W0 q o c all (.slice none 0 0) (.slice none 0 0) [] 0 [] (all.length + 1) := by
    refine ⟨by unfold Tk; rw [hW0]; exact blk_new _ _, hr.fr F0, ColN.nil F0.size, .inl ⟨rfl, rfl⟩, fun k hk => by simp [Value.ownBlock] at hk, fun n h => absurd h (by simp), by simp, Nat.zero_le _, by omega, ?_, fun x h => absurd h (by simp), by simp, F0⟩
    cases linesF (all.length + 1) all 0 [] <;> rfl
  have HI := hid I0
  have HB := hid hb
  have HR := hid hr
  clear hr hb F0 I0
  go_enter Try.func43, Try.ntmps43
  go_wp2_with fail
  rw [← hW0]
  clear hW0
  go_loopw [4, 5] (fun v4 v5 wr => ∃ ls p ah f, TI w wr q o c all v4 v5 ls p ah f) (fun _ _ wr => all.length - (intOf ((wr.cell? ⟨w.heap.size, 1, none⟩).getD undef)).toNat)
  case atStart => exact ⟨_, _, _, _, HI.out⟩
  case round =>
    obtain ⟨ls, p, ah, f, hti⟩ := hrel
    have HT := hid hti
    have z1 : wr.cell? ⟨w.heap.size, 1, none⟩ = some (.int .i64 (p : Int)) := by rw [blk_cell hti.tk]; rfl
    clear hti
    by_cases hlt : p < all.length
    · obtain ⟨f', hf'⟩ : ∃ f', f = f' + 1 := ⟨f - 1, by have := HT.out.hf; omega⟩
      subst hf'
      have LC := hid (line_c wr HT.out.tk HT.out.rr HB.out hc hl HT.out.hp HT.out.ra (by have := HT.out.la; omega))
      go_wp2_with fail
      refine LC.out.mono ?_
      rintro e W1 ⟨s, ka, k, kc, va, v, vc, p', h', rfl, rk, tk8, rv, vq, T1, hlin, f1⟩
      have ta1 : T8 W1 u5 (· < w.heap.size) := HT.out.ta.one f1 HT.out.tk (by decide)
      have tk1 : T8 W1 (.slice ka k.length kc) (· < w.heap.size) := fun b hb => by
        rcases tk8 b hb with e | e
        · exact ta1 b e
        · exact .inr e
      have tv1 : T8 W1 (.slice va v.length vc) (· < w.heap.size) := fun b hb => .inl (by rw [vq b hb]; exact hq)
      have FR1 : Fr [] w W1 := ((HT.out.fr.mono (S' := [w.heap.size]) (by simp)).trans f1).shed (fun k hk hlt => by simp at hk; omega)
      have C1 : ColN W1 w.heap.size u4 ls := HT.out.col.one f1 HT.out.tk (by decide) (by decide) (Nat.le_refl _)
      have ra1 : Rd W1 u5 (bv ah) := HT.out.tk.keep f1 HT.out.ra
      obtain ⟨W2, hW2⟩ : ∃ W, W = W1.alloc (.cells #[.int .i64 (p : Int), .int .i64 (s : Int), .slice ka k.length kc, .slice va v.length vc] 60) := ⟨_, rfl⟩
      have F2 : Fr [] W1 W2 := by rw [hW2]; exact (Fr.refl _ _).alloc _
      have X2 : W2.heap[W1.heap.size]? = some (.cells #[.int .i64 (p : Int), .int .i64 (s : Int), .slice ka k.length kc, .slice va v.length vc] 60 (0, 0)) := by rw [hW2]; exact blk_new _ _
      have T2 := F2.at T1 (by simp)
      have HX := hid X2
      have H1 := hid (And.intro tk1 (And.intro tv1 (And.intro FR1 (And.intro C1 (And.intro ra1 (And.intro rk (And.intro rv (And.intro T2 F2))))))))
      have HL := hid hlin
      have z2 : W2.cell? ⟨w.heap.size, 2, none⟩ = some (.bool h') := by rw [blk_cell T2]; rfl
      have y2 : W2.cell? ⟨W1.heap.size, 2, none⟩ = some (.slice ka k.length kc) := by rw [blk_cell X2]; rfl
      clear z1 LC rk tk8 rv vq T1 hlin f1 ta1 tk1 tv1 FR1 C1 ra1 F2 X2 T2
      go_upto_region 6 with fail
      rw [← hW2]
      clear hW2
      rcases HL.out with ⟨rfl, hlin⟩ | ⟨rfl, hlin⟩
      · have HLL := hid hlin
        have LB := hid (lineL_by HB.out HT.out.ba HT.out.hp hlin)
        have hkl : k.length ≤ 1000000136 := by
          have h5 := (lineL_inv HB.out HT.out.hp hlin)
          have := ent_len s k v
          have := HT.out.la
          omega
        have FC := hid (follows_c W2 (H1.out.2.2.2.2.1.fr H1.out.2.2.2.2.2.2.2.2) HT.out.ba (by have := HT.out.la; omega) (H1.out.2.2.2.2.2.1.fr H1.out.2.2.2.2.2.2.2.2) LB.out.1 (by omega))
        clear hlin
        go_wp2_with fail
        refine FC.out.mono ?_
        rintro e W3 ⟨rfl, f3⟩
        have F3 := hid (H1.out.2.2.2.2.2.2.2.2.trans f3)
        have F23 := hid f3
        clear FC f3
        rcases hfl : flw ah k with _ | _
        · have HFL := hid hfl
          clear hfl
          go_wp2
          go_ret2
          refine ⟨.inl ⟨?_, rfl⟩, H1.out.2.2.1.trans F3.out⟩
          rw [HT.out.eq, linesF, if_pos hlt, HLL.out]; dsimp only
          rw [HFL.out]; rfl
        · have HFL := hid hfl
          clear hfl
          have X3 := F23.out.at HX.out (by simp)
          have y0 : W3.cell? ⟨W1.heap.size, 0, none⟩ = some (.int .i64 (p : Int)) := by rw [blk_cell X3]; rfl
          have y1 : W3.cell? ⟨W1.heap.size, 1, none⟩ = some (.int .i64 (s : Int)) := by rw [blk_cell X3]; rfl
          have y2 : W3.cell? ⟨W1.heap.size, 2, none⟩ = some (.slice ka k.length kc) := by rw [blk_cell X3]; rfl
          have y3 : W3.cell? ⟨W1.heap.size, 3, none⟩ = some (.slice va v.length vc) := by rw [blk_cell X3]; rfl
          obtain ⟨W4, hW4⟩ : ∃ W, W = W3.alloc (.cells #[.int .i64 (p : Int), .int .i64 (s : Int), .slice ka k.length kc, .slice va v.length vc] 60) := ⟨_, rfl⟩
          have F4 : Fr [] W3 W4 := by rw [hW4]; exact (Fr.refl _ _).alloc _
          have X4 : W4.heap[W3.heap.size]? = some (.cells #[.int .i64 (p : Int), .int .i64 (s : Int), .slice ka k.length kc, .slice va v.length vc] 60 (0, 0)) := by rw [hW4]; exact blk_new _ _
          have F14 := hid (F3.out.trans F4)
          obtain ⟨hB4, cs, o4, h24⟩ := H1.out.2.2.2.1.fr F14.out
          have H24 := hid h24
          have T4 := (F23.out.trans F4).at H1.out.2.2.2.2.2.2.2.1 (by simp)
          have hll := HT.out.len
          have X4' := F4.at X3 (by simp)
          have HX4 := hid X4'
          clear h24 z2 X3 X4'
          have CN : Hid (∀ v4' W6, W6.ownsRow w.heap.size 60 4 v4' (ls.length + 1) (cs ++ [.int .i64 (p : Int), .int .i64 (s : Int), .slice ka k.length kc, .slice va v.length vc]) → W4.grownBy W6 u4.ownBlock → TI w W6 q o c all v4' (.slice ka k.length kc) (ls ++ [⟨p, s, k, v⟩]) p' k f' ∧ W6.cell? ⟨W1.heap.size, 2, none⟩ = some (.slice ka k.length kc)) := by
            refine hid fun v4' W6 o6 g6 => ?_
            have hu := grown_low o4 g6
            have FR6 : Fr [] w W6 := (H1.out.2.2.1.trans F14.out).grown g6 (fun k hk => .inr (o4.lt k hk).1)
            have t4 : T8 W4 (.slice ka k.length kc) (· < w.heap.size) := H1.out.1.fr F14.out
            have t4v : T8 W4 (.slice va v.length vc) (· < w.heap.size) := H1.out.2.1.fr F14.out
            have rk4 := H1.out.2.2.2.2.2.1.fr F14.out
            have rv4 := H1.out.2.2.2.2.2.2.1.fr F14.out
            have hk136 : k.length ≤ 136 := (isK_len (flw_isK HFL.out)).2.1
            have hu4 : ∀ b, u4.ownBlock = some b → b < W1.heap.size := fun b hb => by
              obtain ⟨_, _, o1, _⟩ := H1.out.2.2.2.1
              exact (o1.lt b hb).2
            refine ⟨⟨?_, HR.out.fr FR6, ColN.snoc (x := ⟨p, s, k, v⟩) hB4 o4 H24.out rk4 rv4 t4 t4v o6 g6, (t4.step hB4 hu).2 _ rk4, (t4.step hB4 hu).1, LB.out.1, hk136, LB.out.2.2.2.2.2, ?_, ?_, ?_, ?_, FR6⟩, ?_⟩
            · unfold Tk
              rw [g6.block _ (blk_lt T4) (fun e => own_not o4 T4 (by decide) e.symm)]
              exact T4
            · have := HT.out.hf; have := LB.out.2.2.2.2; omega
            · rw [HT.out.eq, linesF, if_pos hlt, HLL.out]; dsimp only
              rw [if_pos HFL.out, Option.map_map]
              congr 1
              funext l
              simp
            · intro x hx
              rw [List.mem_append] at hx
              rcases hx with hx | hx
              · exact HT.out.ok x hx
              · simp at hx
                subst hx
                have := HT.out.la
                have := LB.out.2.2
                exact ⟨LB.out.1, LB.out.2.1, by dsimp only; omega, by dsimp only; omega, hk136, by dsimp only; omega⟩
            · have := LB.out.2.2.2.2; simp; omega
            · rw [blk_cell (show W6.heap[W1.heap.size]? = _ from by rw [g6.block _ (blk_lt HX4.out) (fun e => by have := hu4 _ e.symm; omega)]; exact HX4.out)]; rfl
          go_wp2_with (at_builtin; rw [← hW4]; refine wpList_append_ln rfl _ _ rfl w.heap.size hB4 _ _ _ rfl o4 W3.heap.size rfl X4 (by simp [Value.oneCell']) (by omega) ?_; intro v4' W6 o6 g6 q6; have TI6 : Hid (TI w W6 q o c all v4' (.slice ka k.length kc) (ls ++ [⟨p, s, k, v⟩]) p' k f') := hid (CN.out v4' W6 o6 g6).1; have y6 := (CN.out v4' W6 o6 g6).2; clear o6 g6 q6)
          go_roundw
          case rel => exact ⟨_, _, _, _, TI6.out⟩
          case measure =>
            have e1 : W6.cell? ⟨w.heap.size, 1, none⟩ = some (.int .i64 (p' : Int)) := by rw [blk_cell TI6.out.tk]; rfl
            have e2 : wr.cell? ⟨w.heap.size, 1, none⟩ = some (.int .i64 (p : Int)) := by rw [blk_cell HT.out.tk]; rfl
            rw [e1, e2]
            have := LB.out.2.2.2.2
            simp [intOf]
            omega
      · have HLL := hid hlin
        clear hlin
        go_wp2
        go_ret2
        refine ⟨.inl ⟨?_, rfl⟩, H1.out.2.2.1.trans H1.out.2.2.2.2.2.2.2.2⟩
        rw [HT.out.eq, linesF, if_pos hlt, HLL.out]; rfl
    · have hpe : ¬ (p : Int) < (all.length : Int) := by omega
      go_wp2
      go_ret2
      refine ⟨.inr ⟨ls, ?_, u4, rfl, HT.out.col, HT.out.ok, Nat.le_trans HT.out.len HT.out.hp⟩, HT.out.fr⟩
      obtain ⟨f', hf'⟩ : ∃ f', f = f' + 1 := ⟨f - 1, by have := HT.out.hf; omega⟩
      rw [HT.out.eq, hf', linesF, if_neg hlt]
      simp
end Go.Proofs.Ytdlnfcepknoigaa
