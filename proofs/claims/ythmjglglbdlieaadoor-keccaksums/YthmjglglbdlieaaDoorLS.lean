/-
  The walk of KeccakSums.
-/
import Derived.Test.YthmjglglbdlieaaDoorLR
import Derived.Test.YthmjglglbdlieaaDoorLP
namespace Go.Proofs.YthmjglglbdlieaaDoor
open Go.ChangeShapes Go.WideShapes Go.ChangeAt Go.RowKit

/-- Ints that came in. -/
def Ints (w : World) (na : Option Addr) (ln : Nat) (Y : Nat → Int) : Prop :=
  0 < ln → ∃ nb no, na = some ⟨nb, no, none⟩ ∧ ∀ r, r < ln → w.cell? ⟨nb, no + r, none⟩ = some (.int .i64 (Y r))
theorem range32 {w : World} {b : Nat} {f : Nat → Nat} {t : TypeId} (h : w.heap[b]? = some (.cells (bvals 32 f) t (0, 0))) : w.rangeAt b 0 (bvals 32 f).toList := fun j v hv => by
  rw [Array.getElem?_toList] at hv
  rw [Nat.zero_add, blk_cell h, hv]

theorem Rows2.fr {w w' : World} {v : Value} {L : List Value} {X : List (List Nat)} (h : Rows2 w v L X) (f : Fr [] w w') : Rows2 w' v L X := by
  refine ⟨?_, h.len, fun j u x hu hx => (h.rd j u x hu hx).fr f, h.bd⟩
  rcases h.head with h | ⟨b, off, c, rfl, h1, h2⟩
  · exact .inl h
  · refine .inr ⟨b, off, c, rfl, h1, fun j u hj => ?_⟩
    have := h2 j u hj
    rw [World.cell?_of_block (w := w) (f.block _ (World.block_lt_of_cell? w _ this) (by simp))]; exact this
theorem run_min2 {P : Program} (w : World) (ts : Array TypeId) (t : TypeId) (x y : Int) : (Builtin.min_ ts t #[.int .i64 x, .int .i64 y]).run P w = .ok (.int .i64 (if y < x then y else x)) w := by
  simp [Builtin.min_, Builtin.min2]
theorem run_max2 {P : Program} (w : World) (ts : Array TypeId) (t : TypeId) (x y : Int) : (Builtin.max_ ts t #[.int .i64 x, .int .i64 y]).run P w = .ok (.int .i64 (if x < y then y else x)) w := by
  simp [Builtin.max_, Builtin.max2]

set_option maxRecDepth 20000 in
set_option maxHeartbeats 4000000 in
theorem sums_small (w : World) (T : Tabs w) {va : Option Addr} {cap : Nat} {ns : List Nat} (hr : Rd w (.slice va ns.length cap) (bv ns)) (hb : ∀ x ∈ ns, x < 256) (hl : ns.length ≤ 1000) {na : Option Addr} {ln nc : Nat} {Y : Nat → Int} (hY : Ints w na ln Y) (hn : ln ≤ 20) :
    Calls Tryd.prog 3 #[.slice va ns.length cap, .slice na ln nc] w fun e w' => e = .returned (.bool true) ∧ Fr [] w w' := by
  have HT := hid T
  have HR := hid hr
  have HB := hid hb
  have HY := hid hY
  clear T hr hb hY
  go_enter Tryd.func3, Tryd.ntmps3
  go_wp2_with fail
  refine (known_c w HT.out).mono ?_
  rintro e w1 ⟨rfl, f1⟩
  have F1 := hid f1
  clear f1
  go_wp2_with fail
  refine (refSum_c w1 (HR.out.fr F1.out) HB.out (by omega)).mono ?_
  rintro e w2 ⟨rfl, f2⟩
  have F2 := hid (F1.out.trans f2)
  clear f2 F1
  rename_i hK
  refine hK _ _ ?_
  refine wpList_made32 (t1 := 5) (t2 := 24) (g := hashOf ns) rfl rfl rfl rfl rfl rfl (by simp [Act.eval, Act.put]) (by simp [Act.eval, Act.put]) ?_
  have HH : Hid ((w2.alloc (.cells (bvals 32 (hashOf ns)) 26)).heap[w2.heap.size]? = some (.cells (bvals 32 (hashOf ns)) 26 (0, 0))) := blk_new _ _
  have F3 := hid (F2.out.alloc (.cells (bvals 32 (hashOf ns)) 26))
  clear hK F2
  generalize w2.alloc (.cells (bvals 32 (hashOf ns)) 26) = w3 at HH F3 ⊢
  generalize w2.heap.size = Hb at HH ⊢
  obtain ⟨c1, hc1⟩ : ∃ c1, c1 = (bvals 32 (hashOf ns)).toList := ⟨_, rfl⟩
  have A1 := hid (show c1.toArray = bvals 32 (hashOf ns) by rw [hc1, Array.toArray_toList])
  have hi1 : (Tryd.prog.info? 26).map (·.size) = some c1.length := by rw [hc1, Array.length_toList, bvals_size]; exact info32
  have H0 := hid (show (w3.drew.rangeAt Hb 0 c1 ∧ w3.drew.rangeAt Hb 0 c1 ∧ Tabs w3.drew ∧ Fr [] w w3.drew) from by rw [hc1]; exact ⟨range32 HH.out, range32 HH.out, HT.out.fr F3.out.drew, F3.out.drew⟩)
  clear hc1
  have hcmp : ∀ wx : World, (Op.equalIn 10000 26 (.agg (bvals 32 (hashOf ns))) (.agg c1.toArray)).run Tryd.prog wx = .ok true wx := fun wx => by rw [A1.out]; exact eqIn32 wx _ _ fun _ _ => rfl
  have hgd := guard32
  have hu := hUnd
  go_upto_region 6 with fail
  refine wp_region_held_drew (S := fun w' => w'.rangeAt Hb 0 c1 ∧ w'.rangeAt Hb 0 c1 ∧ Tabs w' ∧ Fr [] w w') (by kernel_rfl) H0.out (fun hH => ?_)
  refine wpAnyH_take (i := 3) (v := .agg c1.toArray) rfl (by kernel_rfl) (by kernel_rfl) (by kernel_rfl) (fun _ _ _ h => h) (yieldsIf_load_mid (by rfl) 26 (.tmp 5) rfl Hb 0 rfl c1 _ (fun _ h => h.1) hu rfl hi1) hH ?_
  simp only [Act.put]
  have HS0 := hid hH
  clear hH
  refine wpAnyH_ready (rs := [0]) (by kernel_rfl) (by simp) ?_
  refine AllReadyH.cons rfl (fun K hK => ?_) AllReadyH.nil
  go_simp
  refine hK.out _ _ HS0.out (fun _ => ?_)
  clear hK K
  refine wpAnyH_ready (rs := [1]) (by kernel_rfl) (by simp) ?_
  refine AllReadyH.cons rfl (fun K hK => ?_) AllReadyH.nil
  go_simp
  refine hK.out _ _ (keep2 HS0.out ((Fr.refl _ _).alloc _)) (fun hH => ?_)
  have HS1 := hid hH
  clear hK K hH
  refine wpAnyH_ready (rs := [2]) (by kernel_rfl) (by simp) ?_
  refine AllReadyH.cons rfl (fun K hK => ?_) AllReadyH.nil
  go_simp
  have HRw := hid ((Rows2.one (HR.out.fr F3.out) HB.out (by omega)).fr (Fr.refl [] _).drew)
  refine (sum_c _ HS1.out.2.2.1 HRw.out (by simp)).mono ?_
  rintro e w4 ⟨rfl, f4⟩
  rw [show [ns].flatten = ns by simp]
  refine hK.out _ _ (keep2 HS1.out f4) (fun hH => ?_)
  have HS2 := hid hH
  have HH4 := hid (f4.at (((Fr.refl [] w3).alloc (.cells #[.slice va ns.length cap] 22)).drew.at HH.out (by simp)) (by simp))
  clear hK K hH f4 HRw
  refine wpAnyH_ready (rs := [4]) (by kernel_rfl) (by simp) ?_
  refine AllReadyH.cons rfl (fun K hK => ?_) AllReadyH.nil
  go_simp
  refine hK.out _ _ HS2.out (fun _ => ?_)
  clear hK K
  refine wpAnyH_done (by kernel_rfl) ?_ _
  have F4 := hid HS2.out.2.2.2
  clear HS0 HS1 HS2 H0 HH F3
  go_wp2_with fail
  refine (new_c w4).mono ?_
  rintro e w5 ⟨rfl, hs5, f5, hz5⟩
  have hP : Hid (SQ w Hb w4.heap.size ns sp0 [] (.slice none 0 0) [] [] w5) :=
    ⟨f5.at HH4.out (by simp), hs5, F4.out.size, World.ownsRow_nil _ _ _ _, rfl, fun j u x hu => by simp at hu, fun x hx => by simp at hx, rfl, F4.out.trans f5⟩
  clear hs5 f5 hz5 HH4 F4
  generalize w4.heap.size = P at hP ⊢
  go_wp2
  have hd1 : decide (1000 < (ns.length : Int)) = false := by simp; omega
  have hd2 : decide (20 < (ln : Int)) = false := by simp; omega
  simp only [hd1, hd2, Bool.or_false]
  clear hd1 hd2
  go_loopw [7, 8, 9] (fun v7 v8 v9 wr => ∃ (i t : Nat) (L : List Value) (X : List (List Nat)), i ≤ ln + 1 ∧ t ≤ ns.length ∧ L.length = i ∧ (i = ln + 1 → t = ns.length) ∧ v9 = .int .i64 (i : Int) ∧ v8 = .int .i64 (t : Int) ∧ SQ w Hb P ns (pushes sp0 (ns.take t)) (ns.take t) v7 L X wr) (fun _ _ v9 _ => ln + 1 - (intOf v9).toNat)
  case atStart => exact ⟨0, 0, [], [], by omega, by omega, rfl, fun h => by omega, rfl, rfl, hP.out⟩
  case round =>
    clear hP
    rename_i wz hrel
    obtain ⟨i, t, L, X, hi, ht, hLi, hend, rfl, rfl, hq⟩ := hrel
    have HQ := hid hq
    have HE := hid hend
    have HL := hid hLi
    clear hq hend hLi
    by_cases hlt : i ≤ ln
    · clear hcmp hu hi1
      obtain ⟨k, hk, hkE, hcases⟩ : ∃ k : Nat, t + k ≤ ns.length ∧ (i = ln → t + k = ns.length) ∧ ((i < ln ∧ ∃ (y z : Int) (nb no : Nat), na = some ⟨nb, no, none⟩ ∧ w.cell? ⟨nb, no + i, none⟩ = some (.int .i64 y) ∧ (∀ (wx : World) ts tt, (Builtin.min_ ts tt #[.int .i64 y, .int .i64 ((ns.length : Int) - (t : Int))]).run Tryd.prog wx = .ok (.int .i64 z) wx) ∧ (∀ (wx : World) ts tt, (Builtin.max_ ts tt #[.int .i64 0, .int .i64 z]).run Tryd.prog wx = .ok (.int .i64 (k : Int)) wx)) ∨ (ln ≤ i ∧ (ns.length : Int) - (t : Int) = (k : Int))) := by
        by_cases hil : i < ln
        · obtain ⟨nb, no, hna, hc⟩ := HY.out (by omega)
          refine ⟨(if 0 < (if ((ns.length : Int) - (t : Int)) < Y i then ((ns.length : Int) - (t : Int)) else Y i) then (if ((ns.length : Int) - (t : Int)) < Y i then ((ns.length : Int) - (t : Int)) else Y i) else 0).toNat, ?_, fun h => by omega, .inl ⟨hil, Y i, _, nb, no, hna, hc i hil, fun wx ts tt => run_min2 wx ts tt _ _, fun wx ts tt => ?_⟩⟩
          · split <;> split at * <;> omega
          · rw [run_max2]
            congr 2
            split <;> split at * <;> omega
        · exact ⟨ns.length - t, by omega, fun _ => by omega, .inr ⟨by omega, by omega⟩⟩
      obtain ⟨sa, sc, hsl, hsr⟩ := slice_rd HR.out hk
      have HSR := hid (hsr.fr HQ.out.fr)
      have HK := hid hkE
      have hkl : k ≤ 1000 := by omega
      clear hsr hkE
      obtain ⟨pc, hpc⟩ : ∃ pc, pc = (ns.drop t).take k := ⟨_, rfl⟩
      rw [← hpc] at HSR
      have hpl : Hid (pc.length = k) := by rw [hpc, List.length_take, List.length_drop]; exact Nat.min_eq_left (by omega)
      have HPB : Hid (∀ n ∈ pc, n < 256) := fun n hn' => HB.out n (by rw [hpc] at hn'; exact List.mem_of_mem_drop (List.mem_of_mem_take hn'))
      have HPT : Hid (ns.take t ++ pc = ns.take (t + k)) := by rw [hpc, List.take_add]; exact rfl
      clear hpc
      rcases hcases with ⟨hil, y, z, nb, no, rfl, hcell, hmin, hmax⟩ | ⟨hil, hsub⟩
      · have e0 : wr.cell? ⟨nb, no + i, none⟩ = some (.int .i64 y) := by
          rw [World.cell?_of_block (w := w) (HQ.out.fr.block _ (World.block_lt_of_cell? w _ hcell) (by simp))]; exact hcell
        clear hcell
        go_upto_region 17 with fail
        clear e0 hmin hmax
        go_upto_region 18 with (at_builtin; refine wpList_append_rd rfl _ _ rfl w.heap.size HQ.out.fr.size (.slice none 0 0) 0 [] rfl (World.ownsRow_nil _ _ _ _) _ _ rfl HSR.out bv_one (by rw [bv_len, hpl.out]; omega) ?_; intro p1 wp o1 g1 b1)
        rw [bv_len, hpl.out, Nat.zero_add, List.nil_append] at o1
        obtain ⟨pa, pcap, rfl, _⟩ := ownsRow_slice o1
        have O1 := hid o1
        have F1 : Hid (Fr [] wr wp) := (Fr.refl _ _).grown g1 (by simp [Value.ownBlock])
        have B1 := hid b1
        have HQ1 := hid (HQ.out.grow F1.out)
        have hszp := F1.out.size
        clear o1 g1 b1 HSR hsl
        go_upto_region 19 with (at_builtin; first
          | (refine wpList_append_rd rfl _ _ rfl w.heap.size HQ1.out.fr.size (.slice none 0 0) 0 [] rfl (World.ownsRow_nil _ _ _ _) _ _ rfl (Rd.ownB (by rw [hpl.out]; exact O1.out)) bv_one (by rw [bv_len, hpl.out]; omega) ?_; intro p2 wp2 o2 g2 b2; rw [bv_len, hpl.out, Nat.zero_add, List.nil_append] at o2; obtain ⟨pa2, pcap2, rfl, _⟩ := ownsRow_slice o2)
          | (refine wpList_append_row rfl _ _ rfl w.heap.size (((HQ1.out.fr.grown g2 (by simp [Value.ownBlock])).alloc _).size) _ _ _ rfl (ownsRow_fr HQ1.out.own (((Fr.refl [] wp).grown g2 (by simp [Value.ownBlock])).alloc _)) _ _ rfl (blk_cell (blk_new _ _) 0) rfl (by rw [HL.out]; omega) ?_; intro v7' wl o3 g3))
        have F2 : Hid (Fr [] wp wp2) := (Fr.refl _ _).grown g2 (by simp [Value.ownBlock])
        have HQ2 := hid ((HQ1.out.grow F2.out).grow ((Fr.refl [] _).alloc (.cells #[.slice pa2 k pcap2] 22)))
        have O2 := ownsRow_fr o2 ((Fr.refl [] _).alloc (.cells #[.slice pa2 k pcap2] 22))
        have O1a := ownsRow_fr (ownsRow_fr O1.out F2.out) ((Fr.refl [] _).alloc (.cells #[.slice pa2 k pcap2] 22))
        have HQ3 := hid (HQ2.out.app (x := pc) (u := .slice pa2 k pcap2) (by rw [hpl.out]; exact O2) ⟨HPB.out, by rw [hpl.out]; omega⟩ o3 g3)
        have O1l := hid (own_grown O1a HQ2.out.own g3)
        have HPA : Hid ((pa = none ∧ k = 0) ∨ ∃ g, pa = some ⟨g, 0, none⟩ ∧ w.heap.size ≤ g ∧ (∀ (j : Nat) u, (L ++ [.slice pa2 k pcap2])[j]? = some u → u.ownBlock ≠ some g)) := by
          rcases O1.out.2 with ⟨h, h0⟩ | ⟨g, cp, cur, h, hB, hgc, _⟩
          · simp only [Value.slice.injEq] at h
            exact .inl ⟨h.1, h0⟩
          · simp only [Value.slice.injEq] at h
            obtain ⟨rfl, _, rfl⟩ := h
            have hgw : g = wr.heap.size := by
              rcases B1.out with h | h
              · simp [Value.ownBlock] at h
              · simpa [Value.ownBlock] using h
            have hgl := blk_lt hgc
            refine .inr ⟨g, rfl, hB, fun j u hu hb' => ?_⟩
            rcases Nat.lt_or_ge j L.length with hj | hj
            · rw [List.getElem?_append_left hj] at hu
              have := HQ.out.lt j u hu g hb'
              omega
            · rw [List.getElem?_append_right hj] at hu
              cases hq' : j - L.length with
              | zero =>
                rw [hq'] at hu
                cases hu
                rcases b2 with h | h
                · rw [hb'] at h; simp [Value.ownBlock] at h
                · rw [hb'] at h; simp at h; omega
              | succ q => rw [hq'] at hu; simp at hu
        clear o2 g2 b2 o3 g3 O2 O1a HQ1 HQ2 F1 F2 B1 O1 hszp
        have h3 := HT.out.lt
        have hlo := HQ3.out.lo
        go_wp2_with fail
        refine (write_c wl (HT.out.fr HQ3.out.fr) (by omega) HQ3.out.sp (pushes_n _ _ (by show 0 < 136; omega)) (own_p (by rw [hpl.out]; exact O1l.out) HQ3.out.sp (by decide)) HPB.out (by rw [hpl.out]; omega)).mono ?_
        rintro e wm ⟨rfl, hsm, fm⟩
        rw [← pushes_append, HPT.out] at hsm
        have HQ4 := hid (HQ3.out.wrote fm hsm)
        rw [HPT.out] at HQ4
        have O1m := hid (own_beside O1l.out HQ3.out.sp (by decide) fm)
        clear hsm fm HQ3 O1l
        generalize hL2 : L ++ [Value.slice pa2 k pcap2] = L2 at HQ4 HPA
        generalize X ++ [pc] = X2 at HQ4
        have HL2 : Hid (L2.length = i + 1) := by rw [← hL2, List.length_append, HL.out]; exact rfl
        clear hL2
        have HPC : Hid (∀ g, pa = some ⟨g, 0, none⟩ → ∃ cur : Array Value, wm.heap[g]? = some (.cells cur 5 (0, 0)) ∧ k ≤ cur.size) := by
          intro g hg'
          rcases O1m.out.2 with ⟨h, _⟩ | ⟨g2, cp, cur, h, _, hgc, hkc, _, hsz, _⟩
          · simp only [Value.slice.injEq] at h
            rw [hg'] at h; simp at h
          · simp only [Value.slice.injEq] at h
            rw [hg'] at h
            simp only [Option.some.injEq, Addr.mk.injEq] at h
            obtain ⟨⟨rfl, _⟩, _, rfl⟩ := h
            exact ⟨cur, hgc, by rw [hsz]; omega⟩
        clear O1m
        go_wp2
        go_loopw [12] (fun v12 wr => ∃ j : Nat, j ≤ k ∧ v12 = .int .i64 (j : Int) ∧ SQ w Hb P ns (pushes sp0 (ns.take (t + k))) (ns.take (t + k)) v7' L2 X2 wr ∧ (∀ g, pa = some ⟨g, 0, none⟩ → ∃ cur : Array Value, wr.heap[g]? = some (.cells cur 5 (0, 0)) ∧ k ≤ cur.size)) (fun v12 _ => k - (intOf v12).toNat)
        case atStart => exact ⟨0, by omega, rfl, HQ4.out, HPC.out⟩
        case round =>
          clear HQ4 HPC
          rename_i wk hrel
          obtain ⟨j, hj, rfl, hq, hpc⟩ := hrel
          have HQ5 := hid hq
          have HPC := hid hpc
          clear hq hpc
          by_cases hjk : j < k
          · rcases HPA.out with ⟨_, h0⟩ | ⟨g, rfl, hgw, hgL⟩
            · omega
            · obtain ⟨cur, hcur, hks⟩ := HPC.out g rfl
              have e0 : wr.cell? ⟨g, j, none⟩ = some cur[j] := by rw [blk_cell hcur]; exact Array.getElem?_eq_getElem (by omega)
              have fz := blk_frozen hcur
              have HCU := hid hcur
              have HGL := hid hgL
              clear hcur hgL
              go_wp2
              go_roundw
              case rel =>
                refine ⟨j + 1, by omega, by go_num, HQ5.out.turn ((Fr.refl [g] _).set _ _ (.inl (by simp))) HCU.out hgw HGL.out, fun g' hg' => ?_⟩
                simp only [Option.some.injEq, Addr.mk.injEq] at hg'
                obtain ⟨rfl, _⟩ := hg'
                exact ⟨_, blk_set HCU.out j _, by simpa using hks⟩
              case measure => simp [intOf]; omega
          · clear HPC HPA
            go_upto_region 25 with fail
            obtain ⟨hsl2, hsr2⟩ := slice_hd HR.out (t := t + k) hk
            rw [show ((t + k : Nat) : Int) = (t : Int) + (k : Int) from by omega] at hsl2
            have HS2 := hid hsr2
            have hcm : ∀ wx : World, (Op.equalIn 10000 26 (.agg (bvals 32 (hb (fin (pushes sp0 (ns.take (t + k))))))) (.agg (bvals 32 (hashOf (ns.take (t + k)))))).run Tryd.prog wx = .ok true wx := fun wx => eqIn32 wx _ _ fun _ _ => rfl
            clear hsr2
            refine wp_region_held_drew (S := fun w' => SQ w Hb P ns (pushes sp0 (ns.take (t + k))) (ns.take (t + k)) v7' L2 X2 w') (by kernel_rfl) (HQ5.out.grow (Fr.refl [] _).drew) (fun hH => ?_)
            refine wpAnyH_take (i := 0) (v := .pointer (some ⟨P, 0, none⟩)) rfl (by kernel_rfl) (by kernel_rfl) (by kernel_rfl) (fun _ _ _ h => h) (.inl ⟨by rfl, fun w _ => by go_simp⟩) hH ?_
            simp only [Act.put]
            refine wpAnyH_take (i := 2) (v := .slice va ns.length cap) rfl (by kernel_rfl) (by kernel_rfl) (by kernel_rfl) (fun _ _ _ h => h) (.inl ⟨by rfl, fun w _ => by go_simp⟩) hH ?_
            simp only [Act.put]
            refine wpAnyH_take (i := 3) (v := .int .i64 ((t : Int) + (k : Int))) rfl (by kernel_rfl) (by kernel_rfl) (by kernel_rfl) (fun _ _ _ h => h) (.inl ⟨by rfl, fun w _ => by go_simp⟩) hH ?_
            simp only [Act.put]
            refine wpAnyH_take (i := 4) (v := .slice va (t + k) cap) rfl (by kernel_rfl) (by kernel_rfl) (by kernel_rfl) (fun _ _ _ h => h) (.inl ⟨by rfl, fun w _ => by go_simp⟩) hH ?_
            simp only [Act.put]
            have HS5 := hid hH
            clear hH hsl2
            refine wpAnyH_ready (rs := [1]) (by kernel_rfl) (by simp) ?_
            refine AllReadyH.cons rfl (fun K hK => ?_) AllReadyH.nil
            go_simp
            refine (spsum_c _ (HT.out.fr HS5.out.fr) HS5.out.sp (pushes_n _ _ (by show 0 < 136; omega))).mono ?_
            rintro e wa ⟨rfl, fa⟩
            refine hK.out _ _ (HS5.out.grow fa) (fun hH => ?_)
            have HS6 := hid hH
            clear hK K hH fa
            refine wpAnyH_ready (rs := [5]) (by kernel_rfl) (by simp) ?_
            refine AllReadyH.cons rfl (fun K hK => ?_) AllReadyH.nil
            go_simp
            refine (refSum_c _ (ns := ns.take (t + k)) (by rw [show (Value.slice va (t + k) cap) = .slice va (t + k) cap from rfl]; exact HS2.out.fr HS6.out.fr) (fun x hx => HB.out x (List.mem_of_mem_take hx)) (by rw [List.length_take]; omega)).mono ?_
            rintro e wb ⟨rfl, fb⟩
            refine hK.out _ _ (HS6.out.grow fb) (fun hH => ?_)
            have HS7 := hid hH
            clear hK K hH fb
            refine wpAnyH_ready (rs := [6]) (by kernel_rfl) (by simp) ?_
            refine AllReadyH.cons rfl (fun K hK => ?_) AllReadyH.nil
            go_simp
            refine hK.out _ _ HS7.out (fun _ => ?_)
            clear hK K
            refine wpAnyH_done (by kernel_rfl) ?_ _
            clear hcm HS5 HS6 HS2 HQ5
            go_wp2_with fail
            go_roundw
            case rel => exact ⟨i + 1, t + k, L2, X2, by omega, hk, HL2.out, fun h => HK.out (by omega), by go_num, by go_num, HS7.out⟩
            case measure => simp [intOf]; omega
      · go_upto_region 17 with fail
        clear hsub
        go_upto_region 18 with (at_builtin; refine wpList_append_rd rfl _ _ rfl w.heap.size HQ.out.fr.size (.slice none 0 0) 0 [] rfl (World.ownsRow_nil _ _ _ _) _ _ rfl HSR.out bv_one (by rw [bv_len, hpl.out]; omega) ?_; intro p1 wp o1 g1 b1)
        rw [bv_len, hpl.out, Nat.zero_add, List.nil_append] at o1
        obtain ⟨pa, pcap, rfl, _⟩ := ownsRow_slice o1
        have O1 := hid o1
        have F1 : Hid (Fr [] wr wp) := (Fr.refl _ _).grown g1 (by simp [Value.ownBlock])
        have B1 := hid b1
        have HQ1 := hid (HQ.out.grow F1.out)
        have hszp := F1.out.size
        clear o1 g1 b1 HSR hsl
        go_upto_region 19 with (at_builtin; first
          | (refine wpList_append_rd rfl _ _ rfl w.heap.size HQ1.out.fr.size (.slice none 0 0) 0 [] rfl (World.ownsRow_nil _ _ _ _) _ _ rfl (Rd.ownB (by rw [hpl.out]; exact O1.out)) bv_one (by rw [bv_len, hpl.out]; omega) ?_; intro p2 wp2 o2 g2 b2; rw [bv_len, hpl.out, Nat.zero_add, List.nil_append] at o2; obtain ⟨pa2, pcap2, rfl, _⟩ := ownsRow_slice o2)
          | (refine wpList_append_row rfl _ _ rfl w.heap.size (((HQ1.out.fr.grown g2 (by simp [Value.ownBlock])).alloc _).size) _ _ _ rfl (ownsRow_fr HQ1.out.own (((Fr.refl [] wp).grown g2 (by simp [Value.ownBlock])).alloc _)) _ _ rfl (blk_cell (blk_new _ _) 0) rfl (by rw [HL.out]; omega) ?_; intro v7' wl o3 g3))
        have F2 : Hid (Fr [] wp wp2) := (Fr.refl _ _).grown g2 (by simp [Value.ownBlock])
        have HQ2 := hid ((HQ1.out.grow F2.out).grow ((Fr.refl [] _).alloc (.cells #[.slice pa2 k pcap2] 22)))
        have O2 := ownsRow_fr o2 ((Fr.refl [] _).alloc (.cells #[.slice pa2 k pcap2] 22))
        have O1a := ownsRow_fr (ownsRow_fr O1.out F2.out) ((Fr.refl [] _).alloc (.cells #[.slice pa2 k pcap2] 22))
        have HQ3 := hid (HQ2.out.app (x := pc) (u := .slice pa2 k pcap2) (by rw [hpl.out]; exact O2) ⟨HPB.out, by rw [hpl.out]; omega⟩ o3 g3)
        have O1l := hid (own_grown O1a HQ2.out.own g3)
        have HPA : Hid ((pa = none ∧ k = 0) ∨ ∃ g, pa = some ⟨g, 0, none⟩ ∧ w.heap.size ≤ g ∧ (∀ (j : Nat) u, (L ++ [.slice pa2 k pcap2])[j]? = some u → u.ownBlock ≠ some g)) := by
          rcases O1.out.2 with ⟨h, h0⟩ | ⟨g, cp, cur, h, hB, hgc, _⟩
          · simp only [Value.slice.injEq] at h
            exact .inl ⟨h.1, h0⟩
          · simp only [Value.slice.injEq] at h
            obtain ⟨rfl, _, rfl⟩ := h
            have hgw : g = wr.heap.size := by
              rcases B1.out with h | h
              · simp [Value.ownBlock] at h
              · simpa [Value.ownBlock] using h
            have hgl := blk_lt hgc
            refine .inr ⟨g, rfl, hB, fun j u hu hb' => ?_⟩
            rcases Nat.lt_or_ge j L.length with hj | hj
            · rw [List.getElem?_append_left hj] at hu
              have := HQ.out.lt j u hu g hb'
              omega
            · rw [List.getElem?_append_right hj] at hu
              cases hq' : j - L.length with
              | zero =>
                rw [hq'] at hu
                cases hu
                rcases b2 with h | h
                · rw [hb'] at h; simp [Value.ownBlock] at h
                · rw [hb'] at h; simp at h; omega
              | succ q => rw [hq'] at hu; simp at hu
        clear o2 g2 b2 o3 g3 O2 O1a HQ1 HQ2 F1 F2 B1 O1 hszp
        have h3 := HT.out.lt
        have hlo := HQ3.out.lo
        go_wp2_with fail
        refine (write_c wl (HT.out.fr HQ3.out.fr) (by omega) HQ3.out.sp (pushes_n _ _ (by show 0 < 136; omega)) (own_p (by rw [hpl.out]; exact O1l.out) HQ3.out.sp (by decide)) HPB.out (by rw [hpl.out]; omega)).mono ?_
        rintro e wm ⟨rfl, hsm, fm⟩
        rw [← pushes_append, HPT.out] at hsm
        have HQ4 := hid (HQ3.out.wrote fm hsm)
        rw [HPT.out] at HQ4
        have O1m := hid (own_beside O1l.out HQ3.out.sp (by decide) fm)
        clear hsm fm HQ3 O1l
        generalize hL2 : L ++ [Value.slice pa2 k pcap2] = L2 at HQ4 HPA
        generalize X ++ [pc] = X2 at HQ4
        have HL2 : Hid (L2.length = i + 1) := by rw [← hL2, List.length_append, HL.out]; exact rfl
        clear hL2
        have HPC : Hid (∀ g, pa = some ⟨g, 0, none⟩ → ∃ cur : Array Value, wm.heap[g]? = some (.cells cur 5 (0, 0)) ∧ k ≤ cur.size) := by
          intro g hg'
          rcases O1m.out.2 with ⟨h, _⟩ | ⟨g2, cp, cur, h, _, hgc, hkc, _, hsz, _⟩
          · simp only [Value.slice.injEq] at h
            rw [hg'] at h; simp at h
          · simp only [Value.slice.injEq] at h
            rw [hg'] at h
            simp only [Option.some.injEq, Addr.mk.injEq] at h
            obtain ⟨⟨rfl, _⟩, _, rfl⟩ := h
            exact ⟨cur, hgc, by rw [hsz]; omega⟩
        clear O1m
        go_wp2
        go_loopw [12] (fun v12 wr => ∃ j : Nat, j ≤ k ∧ v12 = .int .i64 (j : Int) ∧ SQ w Hb P ns (pushes sp0 (ns.take (t + k))) (ns.take (t + k)) v7' L2 X2 wr ∧ (∀ g, pa = some ⟨g, 0, none⟩ → ∃ cur : Array Value, wr.heap[g]? = some (.cells cur 5 (0, 0)) ∧ k ≤ cur.size)) (fun v12 _ => k - (intOf v12).toNat)
        case atStart => exact ⟨0, by omega, rfl, HQ4.out, HPC.out⟩
        case round =>
          clear HQ4 HPC
          rename_i wk hrel
          obtain ⟨j, hj, rfl, hq, hpc⟩ := hrel
          have HQ5 := hid hq
          have HPC := hid hpc
          clear hq hpc
          by_cases hjk : j < k
          · rcases HPA.out with ⟨_, h0⟩ | ⟨g, rfl, hgw, hgL⟩
            · omega
            · obtain ⟨cur, hcur, hks⟩ := HPC.out g rfl
              have e0 : wr.cell? ⟨g, j, none⟩ = some cur[j] := by rw [blk_cell hcur]; exact Array.getElem?_eq_getElem (by omega)
              have fz := blk_frozen hcur
              have HCU := hid hcur
              have HGL := hid hgL
              clear hcur hgL
              go_wp2
              go_roundw
              case rel =>
                refine ⟨j + 1, by omega, by go_num, HQ5.out.turn ((Fr.refl [g] _).set _ _ (.inl (by simp))) HCU.out hgw HGL.out, fun g' hg' => ?_⟩
                simp only [Option.some.injEq, Addr.mk.injEq] at hg'
                obtain ⟨rfl, _⟩ := hg'
                exact ⟨_, blk_set HCU.out j _, by simpa using hks⟩
              case measure => simp [intOf]; omega
          · clear HPC HPA
            go_upto_region 25 with fail
            obtain ⟨hsl2, hsr2⟩ := slice_hd HR.out (t := t + k) hk
            rw [show ((t + k : Nat) : Int) = (t : Int) + (k : Int) from by omega] at hsl2
            have HS2 := hid hsr2
            have hcm : ∀ wx : World, (Op.equalIn 10000 26 (.agg (bvals 32 (hb (fin (pushes sp0 (ns.take (t + k))))))) (.agg (bvals 32 (hashOf (ns.take (t + k)))))).run Tryd.prog wx = .ok true wx := fun wx => eqIn32 wx _ _ fun _ _ => rfl
            clear hsr2
            refine wp_region_held_drew (S := fun w' => SQ w Hb P ns (pushes sp0 (ns.take (t + k))) (ns.take (t + k)) v7' L2 X2 w') (by kernel_rfl) (HQ5.out.grow (Fr.refl [] _).drew) (fun hH => ?_)
            refine wpAnyH_take (i := 0) (v := .pointer (some ⟨P, 0, none⟩)) rfl (by kernel_rfl) (by kernel_rfl) (by kernel_rfl) (fun _ _ _ h => h) (.inl ⟨by rfl, fun w _ => by go_simp⟩) hH ?_
            simp only [Act.put]
            refine wpAnyH_take (i := 2) (v := .slice va ns.length cap) rfl (by kernel_rfl) (by kernel_rfl) (by kernel_rfl) (fun _ _ _ h => h) (.inl ⟨by rfl, fun w _ => by go_simp⟩) hH ?_
            simp only [Act.put]
            refine wpAnyH_take (i := 3) (v := .int .i64 ((t : Int) + (k : Int))) rfl (by kernel_rfl) (by kernel_rfl) (by kernel_rfl) (fun _ _ _ h => h) (.inl ⟨by rfl, fun w _ => by go_simp⟩) hH ?_
            simp only [Act.put]
            refine wpAnyH_take (i := 4) (v := .slice va (t + k) cap) rfl (by kernel_rfl) (by kernel_rfl) (by kernel_rfl) (fun _ _ _ h => h) (.inl ⟨by rfl, fun w _ => by go_simp⟩) hH ?_
            simp only [Act.put]
            have HS5 := hid hH
            clear hH hsl2
            refine wpAnyH_ready (rs := [1]) (by kernel_rfl) (by simp) ?_
            refine AllReadyH.cons rfl (fun K hK => ?_) AllReadyH.nil
            go_simp
            refine (spsum_c _ (HT.out.fr HS5.out.fr) HS5.out.sp (pushes_n _ _ (by show 0 < 136; omega))).mono ?_
            rintro e wa ⟨rfl, fa⟩
            refine hK.out _ _ (HS5.out.grow fa) (fun hH => ?_)
            have HS6 := hid hH
            clear hK K hH fa
            refine wpAnyH_ready (rs := [5]) (by kernel_rfl) (by simp) ?_
            refine AllReadyH.cons rfl (fun K hK => ?_) AllReadyH.nil
            go_simp
            refine (refSum_c _ (ns := ns.take (t + k)) (by rw [show (Value.slice va (t + k) cap) = .slice va (t + k) cap from rfl]; exact HS2.out.fr HS6.out.fr) (fun x hx => HB.out x (List.mem_of_mem_take hx)) (by rw [List.length_take]; omega)).mono ?_
            rintro e wb ⟨rfl, fb⟩
            refine hK.out _ _ (HS6.out.grow fb) (fun hH => ?_)
            have HS7 := hid hH
            clear hK K hH fb
            refine wpAnyH_ready (rs := [6]) (by kernel_rfl) (by simp) ?_
            refine AllReadyH.cons rfl (fun K hK => ?_) AllReadyH.nil
            go_simp
            refine hK.out _ _ HS7.out (fun _ => ?_)
            clear hK K
            refine wpAnyH_done (by kernel_rfl) ?_ _
            clear hcm HS5 HS6 HS2 HQ5
            go_wp2_with fail
            go_roundw
            case rel => exact ⟨i + 1, t + k, L2, X2, by omega, hk, HL2.out, fun h => HK.out (by omega), by go_num, by go_num, HS7.out⟩
            case measure => simp [intOf]; omega
    · have hil : i = ln + 1 := by omega
      have htn := HE.out hil
      have HTN : Hid (ns.take t = ns) := by rw [htn, List.take_length]; exact rfl
      rw [HTN.out] at HQ
      clear hil htn HTN
      go_upto_region 27 with fail
      obtain ⟨c2, hc2⟩ : ∃ c2, c2 = (bvals 32 (hashOf ns)).toList := ⟨_, rfl⟩
      have A2 := hid (show c2.toArray = bvals 32 (hashOf ns) by rw [hc2, Array.toArray_toList])
      have hi2 : (Tryd.prog.info? 26).map (·.size) = some c2.length := by rw [hc2, Array.length_toList, bvals_size]; exact info32
      have HRG : Hid (∀ wx : World, SQ w Hb P ns (pushes sp0 ns) ns u7 L X wx → wx.rangeAt Hb 0 c2) := fun wx h => by rw [hc2]; exact range32 h.hb
      have hcm : ∀ wx : World, (Op.equalIn 10000 26 (.agg (bvals 32 (hb (fin (pushes sp0 ns))))) (.agg c2.toArray)).run Tryd.prog wx = .ok true wx := fun wx => by rw [A2.out]; exact eqIn32 wx _ _ fun _ _ => rfl
      have hcm2 : ∀ wx : World, (Op.equalIn 10000 26 (.agg (bvals 32 (hashOf ns))) (.agg c2.toArray)).run Tryd.prog wx = .ok true wx := fun wx => by rw [A2.out]; exact eqIn32 wx _ _ fun _ _ => rfl
      clear hc2 hcmp hi1
      refine wp_region_held_drew (S := fun w' => SQ w Hb P ns (pushes sp0 ns) ns u7 L X w') (by kernel_rfl) (HQ.out.grow (Fr.refl [] _).drew) (fun hH => ?_)
      refine wpAnyH_take (i := 2) (v := .agg c2.toArray) rfl (by kernel_rfl) (by kernel_rfl) (by kernel_rfl) (fun _ _ _ h => h) (yieldsIf_load_mid (by rfl) 26 (.tmp 5) rfl Hb 0 rfl c2 _ HRG.out hu rfl hi2) hH ?_
      simp only [Act.put]
      refine wpAnyH_take (i := 0) (v := .pointer (some ⟨P, 0, none⟩)) rfl (by kernel_rfl) (by kernel_rfl) (by kernel_rfl) (fun _ _ _ h => h) (.inl ⟨by rfl, fun w _ => by go_simp⟩) hH ?_
      simp only [Act.put]
      have HS5 := hid hH
      clear hH
      refine wpAnyH_ready (rs := [1]) (by kernel_rfl) (by simp) ?_
      refine AllReadyH.cons rfl (fun K hK => ?_) AllReadyH.nil
      go_simp
      refine (spsum_c _ (HT.out.fr HS5.out.fr) HS5.out.sp (pushes_n _ _ (by show 0 < 136; omega))).mono ?_
      rintro e wa ⟨rfl, fa⟩
      refine hK.out _ _ (HS5.out.grow fa) (fun hH => ?_)
      have HS6 := hid hH
      clear hH fa
      clear hK K
      refine wpAnyH_ready (rs := [3]) (by kernel_rfl) (by simp) ?_
      refine AllReadyH.cons rfl (fun K hK => ?_) AllReadyH.nil
      go_simp
      refine hK.out _ _ HS6.out (fun _ => ?_)
      clear hK K
      refine wpAnyH_ready (rs := [4]) (by kernel_rfl) (by simp) ?_
      refine AllReadyH.cons rfl (fun K hK => ?_) AllReadyH.nil
      go_simp
      refine hK.out _ _ HS6.out (fun hH => ?_)
      clear hK K
      refine wpAnyH_take (i := 7) (v := .agg c2.toArray) rfl (by kernel_rfl) (by kernel_rfl) (by kernel_rfl) (fun _ _ _ h => h) (yieldsIf_load_mid (by rfl) 26 (.tmp 5) rfl Hb 0 rfl c2 _ HRG.out hu rfl hi2) hH ?_
      simp only [Act.put]
      clear hH
      refine wpAnyH_ready (rs := [5]) (by kernel_rfl) (by simp) ?_
      refine AllReadyH.cons rfl (fun K hK => ?_) AllReadyH.nil
      go_simp
      refine hK.out _ _ HS6.out (fun _ => ?_)
      clear hK K
      refine wpAnyH_ready (rs := [6]) (by kernel_rfl) (by simp) ?_
      refine AllReadyH.cons rfl (fun K hK => ?_) AllReadyH.nil
      go_simp
      refine (sum_c _ (HT.out.fr HS6.out.fr) HS6.out.rows (by rw [HL.out]; omega)).mono ?_
      rintro e wb ⟨rfl, fb⟩
      rw [HS6.out.flat]
      refine hK.out _ _ (HS6.out.grow fb) (fun hH => ?_)
      have HS7 := hid hH
      clear hH fb
      clear hK K
      refine wpAnyH_ready (rs := [8]) (by kernel_rfl) (by simp) ?_
      refine AllReadyH.cons rfl (fun K hK => ?_) AllReadyH.nil
      go_simp
      refine hK.out _ _ HS7.out (fun _ => ?_)
      clear hK K
      refine wpAnyH_ready (rs := [9]) (by kernel_rfl) (by simp) ?_
      refine AllReadyH.cons rfl (fun K hK => ?_) AllReadyH.nil
      go_simp
      refine hK.out _ _ HS7.out (fun _ => ?_)
      clear hK K
      refine wpAnyH_ready (rs := [10]) (by kernel_rfl) (by simp) ?_
      refine AllReadyH.cons rfl (fun K hK => ?_) AllReadyH.nil
      go_simp
      refine hK.out _ _ HS7.out (fun _ => ?_)
      clear hK K
      refine wpAnyH_done (by kernel_rfl) ?_ _
      clear hcm hcm2 hu hi2 hgd
      go_wp2
      go_ret
      exact ⟨rfl, HS7.out.fr⟩
end Go.Proofs.YthmjglglbdlieaaDoor
