/-
  What lay of package wal answers: a fragment behind what was laid down.
-/
import Derived.Test.YtplghoibadmdjaaDoorWa
import Derived.Test.YtplghoibadmdjaaDoorIn
import Derived.Test.YtplghoibadmdjaaDoorAp
import Derived.Test.YtplghoibadmdjaaDoorE
import Derived.Test.YtplghoibadmdjaaDoorF
namespace Go.Proofs.YtplghoibadmdjaaDoor
open Go.ChangeShapes Go.WideShapes Go.ChangeAt Go.RowKit

theorem Rd_lit {w : World} {cs : Array Value} {n : Nat} {ns : List Nat} (hn : n = cs.size) (hm : n ≤ 1000) (h : cs.toList = bv ns) : Rd (w.alloc (.cells cs 5)) (.slice (some ⟨w.heap.size, 0, none⟩) n n) (bv ns) := by
  subst hn
  have : (w.alloc (.cells cs 5)).ownsRow 0 5 1 (.slice (some ⟨w.heap.size, 0, none⟩) cs.size cs.size) cs.size cs.toList := World.ownsRow_lit (base := 0) w cs cs.size (Nat.zero_le _) (by unfold maxLen; omega) (by simp)
  rw [← h]
  exact Rd.own (base := 0) (by simpa using this)
theorem ownsRow_size {w : World} {base size n : Nat} {e : TypeId} {v : Value} {xs : List Value} (h : w.ownsRow base e size v n xs) (h0 : 0 < n) : base ≤ w.heap.size := by
  rcases h.2 with ⟨_, h⟩ | ⟨g, cap, cur, rfl, h2, h3, _⟩
  · omega
  · have := blk_lt h3; omega
theorem Fr.row {w0 w : World} (h : Fr [] w0 w) {g : Nat} (hg : w0.heap.size ≤ g) (cs : Array Value) : Fr [] w0 (w.setRow g cs) :=
  ⟨h.os, h.tape, h.output, by simpa [World.setRow] using h.size, fun k hk hn => by rw [setRow_other _ _ _ _ (by omega)]; exact h.block k hk hn⟩
theorem over_frag {cur : List Value} {xs d : List Nat} {k n : Nat} (hn : n = xs.length + 7 + d.length) (ht : cur.take n = bv ((xs ++ [0, 0, 0, 0, d.length, d.length / 256, k]) ++ d)) (hd : d.length ≤ 57) : (over cur xs.length (bv (fixL (crc (k :: d)) 4))).take n = bv (xs ++ fragL k d) := by
  have h4 : (bv (fixL (crc (k :: d)) 4)).length = 4 := by rw [bv_len, fixL_len]
  have e0 : cur = bv ((xs ++ [0, 0, 0, 0, d.length, d.length / 256, k]) ++ d) ++ cur.drop n := by rw [← ht, List.take_append_drop]
  have e1 : cur.take xs.length = bv xs := by
    have := congrArg (List.take xs.length) ht
    rw [List.take_take, Nat.min_eq_left (by omega)] at this
    rw [this, bv_append, bv_append, List.append_assoc, List.take_left' (bv_len xs)]
  have e2 : (cur.drop (xs.length + 4)).take (n - (xs.length + 4)) = bv ([d.length, d.length / 256, k] ++ d) := by
    rw [← List.drop_take, ht, bv_append, bv_append, List.append_assoc, ← List.drop_drop, List.drop_left' (bv_len xs)]
    rfl
  have hfr : fragL k d = fixL (crc (k :: d)) 4 ++ ([d.length, d.length / 256, k] ++ d) := by
    unfold fragL; rw [Nat.mod_eq_of_lt (by omega)]
  unfold over
  rw [e1, h4, hfr, bv_append, bv_append, ← e2, List.take_append, List.take_of_length_le (by rw [List.length_append, bv_len, h4]; omega), List.length_append, bv_len, h4, List.append_assoc]

set_option maxRecDepth 20000 in
set_option maxHeartbeats 1600000 in
theorem lay_c {w0 w : World} {base : Nat} {v dv : Value} {xs d : List Nat} {k : Nat} (o : w.ownsRow base 5 1 v xs.length (bv xs)) (F : Fr [] w0 w) (hb : w0.heap.size ≤ base) (hbw : base ≤ w.heap.size) (r : Rd w0 dv (bv d)) (hd : By d) (hk : k < 256) (hl : d.length ≤ 57) (hx : xs.length ≤ 100000000) :
    Calls Tryd.prog 24 #[v, .int .u8 (k : Int), dv] w fun e w' => ∃ v', e = .returned v' ∧ w'.ownsRow base 5 1 v' (xs.length + (7 + d.length)) (bv (xs ++ fragL k d)) ∧ Fr [] w0 w' := by
  obtain ⟨a0, c0, rfl, hc0⟩ := ownsRow_slice o
  obtain ⟨a1, c1, hv1⟩ := r.form
  rw [bv_len] at hv1
  subst hv1
  have O1 := hid (ownsRow_fr o ((Fr.refl [] w).alloc (.cells #[.int .u8 0, .int .u8 0, .int .u8 0, .int .u8 0, .int .u8 (d.length : Int), .int .u8 ((d.length : Int) / 256), .int .u8 (k : Int)] 5)))
  have F1 := hid (F.alloc (.cells #[.int .u8 0, .int .u8 0, .int .u8 0, .int .u8 0, .int .u8 (d.length : Int), .int .u8 ((d.length : Int) / 256), .int .u8 (k : Int)] 5))
  have P1 : Hid (Rd (w.alloc (.cells #[.int .u8 0, .int .u8 0, .int .u8 0, .int .u8 0, .int .u8 (d.length : Int), .int .u8 ((d.length : Int) / 256), .int .u8 (k : Int)] 5)) (.slice (some ⟨w.heap.size, 0, none⟩) 7 7) (bv [0, 0, 0, 0, d.length, d.length / 256, k])) := Rd_lit rfl (by omega) (by simp [bv])
  have hlen1 : xs.length + [0, 0, 0, 0, d.length, d.length / 256, k].length ≤ 140737488355328 := by simp; omega
  have hlen2 : (xs ++ [0, 0, 0, 0, d.length, d.length / 256, k]).length + d.length ≤ 140737488355328 := by simp; omega
  have R := hid r
  have HD := hid hd
  have hbw1 : base ≤ (w.alloc (.cells #[.int .u8 0, .int .u8 0, .int .u8 0, .int .u8 0, .int .u8 (d.length : Int), .int .u8 ((d.length : Int) / 256), .int .u8 (k : Int)] 5)).heap.size := by simp; omega
  have HBW1 := hid hbw1
  have HL1 := hid hlen1
  have HL2 := hid hlen2
  clear o F r hd hbw1 hlen1 hlen2
  go_enter Tryd.func24, Tryd.ntmps24
  go_wp2_with (at_builtin; first
    | (refine wpList_append_bv rfl _ _ rfl O1.out rfl F1.out hb HBW1.out _ P1.out rfl HL1.out ?_
       intro v2 w2 o2 f2
       rw [← List.length_append] at o2
       have O2 := hid o2
       have F2 := hid f2
       have P2 := hid (R.out.fr f2)
       have g2 := ownsRow_size o2 (by simp)
       clear o2 f2)
    | (refine wpList_append_bv rfl _ _ rfl O2.out rfl F2.out hb g2 _ P2.out rfl HL2.out ?_
       intro v3 w3 o3 f3
       have O3 := hid o3
       have F3 := hid f3
       clear o3 f3))
  rcases O3.out.2 with ⟨_, h⟩ | ⟨g, cap, cur, rfl, hbg, hg, hcap, hcm, hsz, htk⟩
  · simp at h
  have hnn : (xs ++ [0, 0, 0, 0, d.length, d.length / 256, k]).length + d.length = xs.length + 7 + d.length := by simp
  rw [hnn] at O3 hcap htk ⊢
  rw [Nat.mul_one] at htk
  obtain ⟨n, hn⟩ : ∃ n, n = xs.length + 7 + d.length := ⟨_, rfl⟩
  rw [← hn] at O3 hcap htk ⊢
  have hsz' : cur.toList.length = cap := by simpa using hsz
  have hov := over_frag hn htk hl
  have HOV := hid hov
  have RS : Hid (∀ w', w'.heap = w3.heap → Rd w' (.slice (some ⟨g, xs.length + 6, none⟩) (n - (xs.length + 6)) (cap - (xs.length + 6))) (bv (k :: d))) := by
    intro w' hw'
    have hkd : (k :: d).length = d.length + 1 := rfl
    refine .inr ⟨⟨g, xs.length + 6, none⟩, cap - (xs.length + 6), by rw [bv_len, hkd, show n - (xs.length + 6) = d.length + 1 from by omega], by rw [bv_len, hkd]; omega, fun j u hj => ?_⟩
    rw [Addr.add_lit, World.cell?_of_block (w := w3) (by rw [hw']), blk_cell hg, ← Array.getElem?_toList]
    have h1 : (cur.toList.take n)[xs.length + 6 + j]? = some u := by
      rw [htk, bv_append, bv_append, List.append_assoc, List.getElem?_append_right (by rw [bv_len]; omega), bv_len, show xs.length + 6 + j - xs.length = j + 6 from by omega]
      exact hj
    rw [List.getElem?_take] at h1
    split at h1
    · exact h1
    · cases h1
  have HBY : Hid (By (k :: d)) := fun x hx => by
    rcases List.mem_cons.1 hx with rfl | hx
    · exact hk
    · exact HD.out x hx
  have hkl : (k :: d).length = d.length + 1 := rfl
  obtain ⟨s, hs⟩ : ∃ s, s = crc (k :: d) := ⟨_, rfl⟩
  have hs1 : s < 4294967296 := by rw [hs]; exact crc_lt HBY.out
  have HS := hid hs
  rw [← hs] at HOV
  have h1 : ¬ (cap = xs.length) := by omega
  have h2 : ¬ (cap = xs.length + 6) := by omega
  have h3 : (xs.length : Int) + 6 ≤ (n : Int) := by omega
  have h4 : xs.length + 6 ≤ n := by omega
  have h5 : xs.length ≤ n := by omega
  have h6 : IntKind.i64.wrap ((xs.length : Int) + 6) = (xs.length : Int) + 6 := by rw [IntKind.wrap_i64]; omega
  have h7 : ((xs.length : Int) + 6).toNat = xs.length + 6 := by omega
  have h8 : (0 : Int) ≤ (xs.length : Int) + 6 := by omega
  have h9 : n ≤ 9223372036854775807 := by omega
  have HG := hid hg
  have HT := hid htk
  have HN := hid hn
  have HSZ := hid hsz'
  have HCM := hid hcm
  have CPY : Hid (∀ (W : World) (g4 c4 : Nat) (cu : List Value), W.heap[g]? = some (.cells cur 5 (0, 0)) → (∀ j u, (bv (fixL s 4))[j]? = some u → W.cell? ⟨g4, j, none⟩ = some u) → ∀ ty, (Builtin.copy_ #[22, 22] ty #[.slice (some ⟨g, xs.length, none⟩) (n - xs.length) (cap - xs.length), .slice (some ⟨g4, 0, none⟩) 4 c4]).run Tryd.prog W = .ok (goInt (4 : Nat)) (W.setRow g (over cur.toList xs.length (bv (fixL s 4))).toArray)) := by
    intro W g4 c4 cu hW hc ty
    have h4' : (bv (fixL s 4)).length = 4 := by rw [bv_len, fixL_len]
    have := copy_over W (g := g) (k := xs.length) (dl := n - xs.length) (dc := cap - xs.length) (sl := 4) (sc := c4) (a := ⟨g4, 0, none⟩) (cur := cur.toList) (cs := bv (fixL s 4)) (by simpa using hW) (by rw [h4']; simp only [Nat.min_def]; split <;> omega) (fun j v hj => by rw [Addr.add_lit, Nat.zero_add]; exact hc j v hj) (by rw [h4']; omega) bv_one ty
    rw [h4'] at this
    exact this
  clear hov hg htk hn hsz' hsz hcm hs O1 F1 P1 O2 F2 P2 HBW1 HL1 HL2 hnn g2 O3
  go_region_with (first
    | (go_at_call 31
       refine (sum_c (RS.out w3.drew rfl) HBY.out (by rw [hkl]; omega)).mono ?_
       rintro e w4 ⟨rfl, rfl⟩
       rw [← HS.out])
    | (go_at_call 30
       refine (fixed4_c _ s hs1).mono ?_
       rintro e w4 ⟨v4, rfl, o4, f4⟩
       rcases o4.2 with ⟨_, h0⟩ | ⟨g4, c4, cur4, rfl, hb4, hg4, hc4, hm4, hz4, ht4⟩
       · cases h0
       have hW4 := f4.at (show w3.drew.heap[g]? = _ from HG.out) (by simp)
       have hcc := CPY.out w4 g4 c4 [] hW4 (fun j u hj => by have := o4.cells rfl j u hj; rwa [Addr.add_lit, Nat.zero_add] at this)
       have F4 := hid f4
       have H4 := hid hW4
       clear o4 f4 hW4 ht4 hz4 hg4 hb4))
  go_wp2
  go_ret
  have hn := HN.out
  have hn' : xs.length + (7 + d.length) = n := by omega
  have h4' : (bv (fixL s 4)).length = 4 := by rw [bv_len, fixL_len]
  refine ⟨_, rfl, ?_, ?_⟩
  · rw [hn']
    refine ⟨by rw [bv_len, List.length_append, fragL_len]; omega, .inr ⟨g, cap, _, rfl, hbg, setRow_at H4.out rfl, hcap, HCM.out, ?_, ?_⟩⟩
    · have := HSZ.out
      rw [List.size_toArray, over_len (by omega)]; omega
    · rw [Nat.mul_one, List.toList_toArray]; exact HOV.out
  · exact ((F3.out.drew).trans F4.out).row (by omega) _
end Go.Proofs.YtplghoibadmdjaaDoor
