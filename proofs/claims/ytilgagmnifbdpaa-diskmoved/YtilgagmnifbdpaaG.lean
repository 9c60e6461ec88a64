/-
  What put and Append answer: no room; nothing to do; bytes behind a file's bytes.
-/
import Derived.Test.YtilgagmnifbdpaaF
namespace Go.Proofs.Ytilgagmnifbdpaa
open Go.ChangeShapes Go.WideShapes Go.ChangeAt Go.RowKit

theorem Rd.own {w : World} {base : Nat} {v : Value} {xs : List Value} (h : w.ownsRow base 5 1 v xs.length xs) : Rd w v xs := by
  rcases h.2 with ⟨rfl, h2⟩ | ⟨g, cap, cur, rfl, _, h3, h4, h5⟩
  · exact .inl ⟨rfl, List.eq_nil_of_length_eq_zero h2⟩
  · exact .inr ⟨_, _, rfl, h4, h.cells rfl⟩

set_option maxHeartbeats 400000 in
theorem put_full {w : World} {b m0 m1 : Nat} {cap used made cnt fail halt : Int} {pv : Value} {down : Bool} (h : DB w b cap m0 m1 pv used made cnt fail halt down) {fb : Nat} {num : Int} {sa : Option Addr} {n sc : Nat} {uv fpv : Value}
    (hf : FB w fb num (.slice sa n sc) uv fpv) (ba : Option Addr) (m c : Nat) (hm : 0 < m) (hm1 : m ≤ 140737488355328) (hn : n ≤ 100000000) (hu : 0 ≤ used) (hu1 : used ≤ 100000000) (hfull : cap < used + m) :
    Calls Try.prog 25 #[.pointer (some ⟨b, 0, none⟩), .pointer (some ⟨fb, 0, none⟩), .int .i64 n, .slice ba m c] w fun e w' => e = .returned (.int .i64 15) ∧ ∃ k, w' = w.drewN k := by
  have c0 : w.cell? ⟨b, 0, none⟩ = some (.int .i64 cap) := by rw [blk_cell h]; rfl
  have c4 : w.cell? ⟨b, 4, none⟩ = some (.int .i64 used) := by rw [blk_cell h]; rfl
  have HF := hid hf
  clear h hf
  go_enter Try.func25, Try.ntmps25
  go_wp2_with (go_at_call 18; refine (size_c HF.out).mono ?_; rintro e w' ⟨rfl, rfl⟩)
  rw [show ((n : Int) + (m : Int) - (n : Int)) = (m : Int) from by omega]
  have hm0 : (0 : Int) < (m : Int) := by omega
  go_quiet (fail)
  go_wp2
  go_ret
  exact ⟨rfl, _, rfl⟩

set_option maxHeartbeats 400000 in
theorem put_none {w : World} {b : Nat} {fb : Nat} {num : Int} {sa : Option Addr} {n sc : Nat} {uv fpv : Value}
    (hf : FB w fb num (.slice sa n sc) uv fpv) (ba : Option Addr) (c : Nat) (hn : n ≤ 100000000) :
    Calls Try.prog 25 #[.pointer (some ⟨b, 0, none⟩), .pointer (some ⟨fb, 0, none⟩), .int .i64 n, .slice ba 0 c] w fun e w' => e = .returned (.int .i64 0) ∧ ∃ k, w' = w.drewN k := by
  have HF := hid hf
  clear hf
  go_enter Try.func25, Try.ntmps25
  go_wp2_with (go_at_call 18; refine (size_c HF.out).mono ?_; rintro e w' ⟨rfl, rfl⟩)
  go_quiet (fail)
  go_wp2
  go_ret
  exact ⟨rfl, _, rfl⟩

theorem notin3 {w : World} {b m0 m1 : Nat} {cap used made cnt fail halt : Int} {pv : Value} {down : Bool} (h : DB w b cap m0 m1 pv used made cnt fail halt down) {fb : Nat} {num : Int} {sv uv fpv : Value} {n m : Nat} {olds ps : List Value}
    (hf : FB w fb num sv uv fpv) (ho : w.ownsRow 0 5 1 sv n olds) (hp : w.ownsRow 0 76 1 fpv m ps) : b ∉ fb :: (sv.ownBlock.toList ++ fpv.ownBlock.toList) := by
  intro e
  simp only [List.mem_cons, List.mem_append, Option.mem_toList] at e
  rcases e with e | e | e
  · subst e; unfold DB at h; unfold FB at hf; rw [h] at hf; simp at hf
  · exact ownsRow_ne ho h (by decide) e
  · exact ownsRow_ne hp h (by decide) e

theorem put_close {w w1 w2 : World} {b m0 m1 : Nat} {cap used made cnt fail halt : Int} {pv : Value} {down : Bool} {fb : Nat} {num : Int} {sv uv fpv cv v2 pv2 : Value} {olds xs ps : List Value}
    (ho : w.ownsRow 0 5 1 sv olds.length olds)
    (hy : FB w1 fb num sv uv fpv ∧ w1.ownsRow 0 5 1 sv olds.length olds ∧ w1.ownsRow 0 76 1 fpv ps.length ps ∧ Rd w1 cv xs ∧ DB w1 b cap m0 m1 pv used made cnt fail halt down ∧ w1.ownsRow w.heap.size 5 1 cv xs.length xs ∧ Fr [] w w1)
    (hz : DB w2 b cap m0 m1 pv used made cnt fail halt down ∧ FB w2 fb num v2 uv pv2 ∧ w2.ownsRow 0 5 1 v2 (olds ++ xs).length (olds ++ xs) ∧ w2.ownsRow 0 76 1 pv2 (ps ++ [wrt fb olds.length cv]).length (ps ++ [wrt fb olds.length cv]) ∧
      Fr (fb :: (sv.ownBlock.toList ++ fpv.ownBlock.toList)) w1 w2 ∧ (v2.ownBlock = sv.ownBlock ∨ ∃ k, v2.ownBlock = some k ∧ w1.heap.size ≤ k) ∧ (pv2.ownBlock = fpv.ownBlock ∨ ∃ k, pv2.ownBlock = some k ∧ w1.heap.size ≤ k)) :
    FB (w2.setCell ⟨b, 4, none⟩ (.int .i64 (used + xs.length))) fb num v2 uv pv2 ∧ (w2.setCell ⟨b, 4, none⟩ (.int .i64 (used + xs.length))).ownsRow 0 5 1 v2 (olds ++ xs).length (olds ++ xs) ∧
      (w2.setCell ⟨b, 4, none⟩ (.int .i64 (used + xs.length))).ownsRow 0 76 1 pv2 (ps ++ [wrt fb olds.length cv]).length (ps ++ [wrt fb olds.length cv]) ∧ (w2.setCell ⟨b, 4, none⟩ (.int .i64 (used + xs.length))).ownsRow w.heap.size 5 1 cv xs.length xs ∧
      DB (w2.setCell ⟨b, 4, none⟩ (.int .i64 (used + xs.length))) b cap m0 m1 pv (used + xs.length) made cnt fail halt down ∧ Fr (b :: fb :: (sv.ownBlock.toList ++ fpv.ownBlock.toList)) w (w2.setCell ⟨b, 4, none⟩ (.int .i64 (used + xs.length))) ∧
      (v2.ownBlock = sv.ownBlock ∨ ∃ k, v2.ownBlock = some k ∧ w.heap.size ≤ k) ∧ (pv2.ownBlock = fpv.ownBlock ∨ ∃ k, pv2.ownBlock = some k ∧ w.heap.size ≤ k) ∧ (∀ k, cv.ownBlock = some k → v2.ownBlock ≠ some k) := by
  obtain ⟨y1, y2, y3, _, y5, y6, y7⟩ := hy
  obtain ⟨z1, z2, z3, z4, z5, z6, z7⟩ := hz
  have hsz := y7.size
  have hcv : w2.ownsRow w.heap.size 5 1 cv xs.length xs := ownsRow_of_block y6 fun k hk => z5.block k (y6.lt k hk).2 (by
    intro e
    have hk1 := (y6.lt k hk).1
    simp only [List.mem_cons, List.mem_append, Option.mem_toList] at e
    rcases e with rfl | e | e
    · exact ownsRow_ne y6 y1 (by decide) hk
    · have := (ho.lt k e).2; omega
    · rcases y3.2 with ⟨e2, _⟩ | ⟨g, cap, cur, e2, _, e3, _⟩
      · rw [e2] at e; simp [Value.ownBlock] at e
      · rw [e2] at e; simp [Value.ownBlock] at e; subst e; exact ownsRow_ne y6 e3 (by decide) hk)
  refine ⟨?_, ?_, ?_, ?_, ?_, ?_, ?_, ?_, ?_⟩
  · unfold FB; rw [blk_setne]; exact z2
    intro e; subst e; unfold DB at z1; unfold FB at z2; rw [z1] at z2; simp at z2
  · exact ownsRow_of_block z3 fun k hk => blk_setne _ _ _ (by intro e; subst e; exact ownsRow_ne z3 z1 (by decide) hk)
  · exact ownsRow_of_block z4 fun k hk => blk_setne _ _ _ (by intro e; subst e; exact ownsRow_ne z4 z1 (by decide) hk)
  · exact ownsRow_of_block hcv fun k hk => blk_setne _ _ _ (by intro e; subst e; exact ownsRow_ne hcv z1 (by decide) hk)
  · unfold DB; rw [blk_set z1]; rfl
  · exact ((y7.mono (by simp)).trans (z5.mono fun k hk => List.mem_cons_of_mem _ hk)).set _ _ (.inl (by simp))
  · rcases z6 with z6 | ⟨k, hk, hk2⟩
    · exact .inl z6
    · exact .inr ⟨k, hk, by omega⟩
  · rcases z7 with z7 | ⟨k, hk, hk2⟩
    · exact .inl z7
    · exact .inr ⟨k, hk, by omega⟩
  · intro k hk hv
    have hk1 := y6.lt k hk
    rcases z6 with z6 | ⟨k', hk', hk2⟩
    · rw [z6] at hv; have := (ho.lt k hv).2; omega
    · rw [hk'] at hv; cases hv; omega

set_option maxHeartbeats 400000 in
theorem put_ok {w : World} {b m0 m1 : Nat} {cap used made cnt fail halt : Int} {pv : Value} {down : Bool} (h : DB w b cap m0 m1 pv used made cnt fail halt down) {fb : Nat} {num : Int} {sv uv fpv bv : Value} {olds xs ps : List Value}
    (hf : FB w fb num sv uv fpv) (ho : w.ownsRow 0 5 1 sv olds.length olds) (hp : w.ownsRow 0 76 1 fpv ps.length ps) (hr : Rd w bv xs) (hb : Bts xs)
    (hx : 0 < xs.length) (hx1 : xs.length ≤ 100000000) (ho1 : olds.length ≤ 100000000) (hp1 : ps.length ≤ 1000000) (hu : 0 ≤ used) (hu1 : used ≤ 100000000) (hroom : used + xs.length ≤ cap) :
    Calls Try.prog 25 #[.pointer (some ⟨b, 0, none⟩), .pointer (some ⟨fb, 0, none⟩), .int .i64 olds.length, bv] w fun e w' => e = .returned (.int .i64 0) ∧ ∃ v' pv' bv', FB w' fb num v' uv pv' ∧
      w'.ownsRow 0 5 1 v' (olds ++ xs).length (olds ++ xs) ∧ w'.ownsRow 0 76 1 pv' (ps ++ [wrt fb olds.length bv']).length (ps ++ [wrt fb olds.length bv']) ∧ w'.ownsRow w.heap.size 5 1 bv' xs.length xs ∧
      DB w' b cap m0 m1 pv (used + xs.length) made cnt fail halt down ∧ Fr (b :: fb :: (sv.ownBlock.toList ++ fpv.ownBlock.toList)) w w' ∧
      (v'.ownBlock = sv.ownBlock ∨ ∃ k, v'.ownBlock = some k ∧ w.heap.size ≤ k) ∧ (pv'.ownBlock = fpv.ownBlock ∨ ∃ k, pv'.ownBlock = some k ∧ w.heap.size ≤ k) ∧ (∀ k, bv'.ownBlock = some k → v'.ownBlock ≠ some k) := by
  have c0 : w.cell? ⟨b, 0, none⟩ = some (.int .i64 cap) := by rw [blk_cell h]; rfl
  have c4 : w.cell? ⟨b, 4, none⟩ = some (.int .i64 used) := by rw [blk_cell h]; rfl
  obtain ⟨ba, bc, rfl, hbc⟩ : ∃ ba bc, bv = .slice ba xs.length bc ∧ xs.length ≤ bc := by
    rcases hr with ⟨rfl, rfl⟩ | ⟨a, c, rfl, h4, _⟩
    · exact ⟨_, _, rfl, Nat.le_refl _⟩
    · exact ⟨_, _, rfl, h4⟩
  obtain ⟨sa, sc, rfl, hsc⟩ := ownsRow_slice ho
  have H := hid h
  have HF := hid hf
  have HO := hid ho
  have HP := hid hp
  have HR := hid hr
  have HB := hid hb
  clear h hf ho hp hr hb
  go_enter Try.func25, Try.ntmps25
  go_wp2_with (go_at_call 18; refine (size_c HF.out).mono ?_; rintro e w' ⟨rfl, rfl⟩)
  rw [show ((olds.length : Int) + (xs.length : Int) - (olds.length : Int)) = (xs.length : Int) from by omega]
  have hm0 : (0 : Int) < (xs.length : Int) := by omega
  go_quiet (fail)
  go_wp2_with fail
  have HRW : Hid (Rd (w'.drewN (nq + 1)) (.slice ba xs.length bc) xs) := HR.out
  have HFW : Hid (FB (w'.drewN (nq + 1)) fb num (.slice sa olds.length sc) uv fpv) := HF.out
  have HOW : Hid ((w'.drewN (nq + 1)).ownsRow 0 5 1 (.slice sa olds.length sc) olds.length olds) := HO.out
  have HPW : Hid ((w'.drewN (nq + 1)).ownsRow 0 76 1 fpv ps.length ps) := HP.out
  have HDW : Hid (DB (w'.drewN (nq + 1)) b cap m0 m1 pv used made cnt fail halt down) := H.out
  have HX : Hid (∀ w1 cv, w1.ownsRow (w'.drewN (nq + 1)).heap.size 5 1 cv xs.length xs → Fr [] (w'.drewN (nq + 1)) w1 → FB w1 fb num (.slice sa olds.length sc) uv fpv ∧ w1.ownsRow 0 5 1 (.slice sa olds.length sc) olds.length olds ∧
      w1.ownsRow 0 76 1 fpv ps.length ps ∧ Rd w1 cv xs ∧ DB w1 b cap m0 m1 pv used made cnt fail halt down ∧ w1.ownsRow w'.heap.size 5 1 cv xs.length xs ∧ Fr [] w' w1) := fun w1 cv hcv hf =>
    ⟨hf.at HFW.out (by simp), ownsRow_of_block HOW.out fun k hk => hf.block k (HOW.out.lt k hk).2 (by simp), ownsRow_of_block HPW.out fun k hk => hf.block k (HPW.out.lt k hk).2 (by simp), Rd.own hcv, hf.at HDW.out (by simp), hcv,
      ((Fr.refl _ _).drewN (nq + 1)).trans hf⟩
  clear HRW HFW HOW HPW HDW
  have HRW : Hid (Rd (w'.drewN (nq + 1)) (.slice ba xs.length bc) xs) := HR.out
  go_region_with (first
    | (go_at_call 21
       go_must (
       refine (clone_c HRW.out HB.out hx1).mono ?_
       rintro e w1 ⟨cv, rfl, hown1, hf1⟩
       obtain ⟨ca, cc, rfl, _⟩ := ownsRow_slice hown1
       have HY := hid (HX.out w1 _ hown1 hf1)
       clear hown1 hf1))
    | (go_at_call 15
       go_must (
       refine (do_write HY.out.1 HY.out.2.1 HY.out.2.2.2.1 HB.out hx hx1 ho1 HY.out.2.2.1 hp1).mono ?_
       rintro e w2 ⟨rfl, v2, pv2, hfb2, ho2, hp2, hf2, hat2, hatp2⟩
       have hd2 : DB w2 b cap m0 m1 pv used made cnt fail halt down := hf2.at HY.out.2.2.2.2.1 (notin3 HY.out.2.2.2.2.1 HY.out.1 HY.out.2.1 HY.out.2.2.1)
       have d4 : w2.cell? ⟨b, 4, none⟩ = some (.int .i64 used) := by rw [blk_cell hd2]; rfl
       have f4 : w2.frozen? ⟨b, 4, none⟩ = false := blk_frozen hd2 4
       have HZ := hid (And.intro hd2 (And.intro hfb2 (And.intro ho2 (And.intro hp2 (And.intro hf2 (And.intro hat2 hatp2))))))
       clear hd2 hfb2 ho2 hp2 hf2 hat2 hatp2)))
  go_wp2
  go_ret
  have R := put_close HO.out HY.out HZ.out
  exact ⟨rfl, v2, pv2, _, R⟩

set_option maxHeartbeats 400000 in
theorem append_full {w : World} {b m0 m1 : Nat} {cap used made cnt : Int} {pv : Value} (h : DB w b cap m0 m1 pv used made cnt 0 (-1) false) (h0 : 0 ≤ cnt) (h1 : cnt < 1000000)
    {es : Array MapEntry} {clk : Nat} {s : ByteArray} {fb : Nat} (hm : w.heap[m0]? = some (.map es clk)) (hs : SK es.toList) (hv : lk es.toList s = some (.pointer (some ⟨fb, 0, none⟩))) (hn : isNm s = true) (hl : s.size ≤ maxLen)
    {num : Int} {sa : Option Addr} {n sc : Nat} {uv fpv : Value} (hf : FB w fb num (.slice sa n sc) uv fpv) (ba : Option Addr) (m c : Nat) (hm' : 0 < m) (hm1 : m ≤ 140737488355328) (hn1 : n ≤ 100000000) (hu : 0 ≤ used) (hu1 : used ≤ 100000000) (hfull : cap < used + m) :
    Calls Try.prog 11 #[.pointer (some ⟨b, 0, none⟩), .string s, .slice ba m c] w fun e w' => e = .returned (.int .i64 15) ∧ DB w' b cap m0 m1 pv used made (cnt + 1) 0 (-1) false ∧ Fr [b] w w' := by
  have hne : fb ≠ b := by intro e; subst e; unfold DB at h; unfold FB at hf; rw [h] at hf; simp at hf
  have H := hid h
  have HM := hid hm
  have HS := hid hs
  have HV := hid hv
  have HF := hid hf
  clear h hm hs hv hf
  go_enter Try.func11, Try.ntmps11
  go_wp2_with fail
  refine (beginOn_some H.out h0 h1 HM.out HS.out HV.out hn hl).mono ?_
  rintro e w1 ⟨rfl, hd1, hf1⟩
  have HD1 := hid hd1
  have HFB1 := hid (hf1.at HF.out (by simp [hne]))
  have HF1 := hid hf1
  clear hd1 hf1
  go_wp2_with fail
  refine (size_c HFB1.out).mono ?_
  rintro e w' ⟨rfl, rfl⟩
  go_wp2_with fail
  refine (put_full HD1.out HFB1.out ba m c hm' hm1 hn1 hu hu1 hfull).mono ?_
  rintro e w2 ⟨rfl, k, rfl⟩
  go_wp2
  go_ret
  exact ⟨rfl, HD1.out, HF1.out.drewN k⟩

set_option maxHeartbeats 400000 in
theorem append_none {w : World} {b m0 m1 : Nat} {cap used made cnt : Int} {pv : Value} (h : DB w b cap m0 m1 pv used made cnt 0 (-1) false) (h0 : 0 ≤ cnt) (h1 : cnt < 1000000)
    {es : Array MapEntry} {clk : Nat} {s : ByteArray} {fb : Nat} (hm : w.heap[m0]? = some (.map es clk)) (hs : SK es.toList) (hv : lk es.toList s = some (.pointer (some ⟨fb, 0, none⟩))) (hn : isNm s = true) (hl : s.size ≤ maxLen)
    {num : Int} {sa : Option Addr} {n sc : Nat} {uv fpv : Value} (hf : FB w fb num (.slice sa n sc) uv fpv) (ba : Option Addr) (c : Nat) (hn1 : n ≤ 100000000) :
    Calls Try.prog 11 #[.pointer (some ⟨b, 0, none⟩), .string s, .slice ba 0 c] w fun e w' => e = .returned (.int .i64 0) ∧ DB w' b cap m0 m1 pv used made (cnt + 1) 0 (-1) false ∧ Fr [b] w w' := by
  have hne : fb ≠ b := by intro e; subst e; unfold DB at h; unfold FB at hf; rw [h] at hf; simp at hf
  have H := hid h
  have HM := hid hm
  have HS := hid hs
  have HV := hid hv
  have HF := hid hf
  clear h hm hs hv hf
  go_enter Try.func11, Try.ntmps11
  go_wp2_with fail
  refine (beginOn_some H.out h0 h1 HM.out HS.out HV.out hn hl).mono ?_
  rintro e w1 ⟨rfl, hd1, hf1⟩
  have HD1 := hid hd1
  have HFB1 := hid (hf1.at HF.out (by simp [hne]))
  have HF1 := hid hf1
  clear hd1 hf1
  go_wp2_with fail
  refine (size_c HFB1.out).mono ?_
  rintro e w' ⟨rfl, rfl⟩
  go_wp2_with fail
  refine (put_none HFB1.out ba c hn1).mono ?_
  rintro e w2 ⟨rfl, k, rfl⟩
  go_wp2
  go_ret
  exact ⟨rfl, HD1.out, HF1.out.drewN k⟩
end Go.Proofs.Ytilgagmnifbdpaa
