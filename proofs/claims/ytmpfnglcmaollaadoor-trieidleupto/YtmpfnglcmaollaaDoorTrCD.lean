/-
  The document's Put into a map: a row of entries of the call's own.
-/
import Derived.Test.YtmpfnglcmaollaaDoorJ04
import Derived.Test.YtmpfnglcmaollaaDoorJ05
namespace Go.Proofs.YtmpfnglcmaollaaDoor
open Go.ChangeShapes Go.WideShapes Go.ChangeAt Go.RowKit

theorem at_map {es : List En} {i : Nat} : (es.map En.p)[i]? = es[i]?.map En.p := List.getElem?_map
theorem there_map {es : List En} {k : List Nat} {x : En} (h : es[atM (es.map En.p) k]? = some x) : thereM (es.map En.p) k = decide (x.k = k) := by
  unfold thereM
  rw [at_map, h]
  rfl
theorem there_end {es : List En} {k : List Nat} (h : es.length ≤ atM (es.map En.p) k) : thereM (es.map En.p) k = false := by
  unfold thereM
  rw [at_map, List.getElem?_eq_none h]
  rfl
/-- The row that Put tells. -/
theorem put_row {es : List En} {k v : List Nat} {i : Nat} (hi : i = atM (es.map En.p) k) {b : Bool} (hb : thereM (es.map En.p) k = b) {j : Nat} (hj : j = i + (if b = true then 1 else 0)) {l : List En} (hl : l.map En.p = newM k v) : ((es.take i ++ l) ++ es.drop j).map En.p = putM (es.map En.p) k v := by
  unfold putM
  rw [hb, ← hi, ← hj, List.map_append, List.map_append, hl, List.map_take, List.map_drop]
theorem newM_nil (k : List Nat) : ([] : List En).map En.p = newM k [] := rfl
theorem newM_one {kv vv : Value} {k v : List Nat} (h : 0 < v.length) : [(⟨kv, vv, k, v⟩ : En)].map En.p = newM k v := by
  unfold newM
  rw [if_neg (fun e => by rw [e] at h; simp at h)]
  rfl
theorem EsO.parts {W : World} {B B' i j n : Nat} {v : Value} {es l : List En} (o : W.ownsRow B' 61 2 v n (((es.take i ++ l) ++ es.drop j).flatMap En.c2)) (hb : B ≤ B') (hn : ((es.take i ++ l) ++ es.drop j).length = n) (h : ∀ e ∈ es, EnO W B e) (hl : ∀ e ∈ l, EnO W B e) : EsO W B v ((es.take i ++ l) ++ es.drop j) := by
  subst hn
  refine ⟨ownsRow_base o hb, fun e he => ?_⟩
  rcases List.mem_append.1 he with he | he
  · rcases List.mem_append.1 he with he | he
    · exact h e (List.mem_of_mem_take he)
    · exact hl e he
  · exact h e (List.mem_of_mem_drop he)
set_option maxRecDepth 20000 in
set_option maxHeartbeats 6400000 in
theorem rputS_c (w : World) {B g lc : Nat} {kv vv : Value} {es : List En} {k v : List Nat} (h : EsO w B (.slice (some ⟨g, 0, none⟩) es.length lc) es) (hlc : es.length ≤ lc) (hB : B ≤ w.heap.size) (hn : es.length ≤ 1000) (hk : Rd w kv (bv k)) (hkb : By k) (hkl : k.length ≤ 64) (hv : Rd w vv (bv v)) (hvb : By v) (hvl : v.length ≤ 1024) :
    Calls Tryd.prog 28 #[.slice (some ⟨g, 0, none⟩) es.length lc, kv, vv] w fun e w' => ∃ lv', e = .returned lv' ∧ ∃ es', EsO w' B lv' es' ∧ es'.map En.p = putM (es.map En.p) k v ∧ Fr [] w w' := by
  obtain ⟨ka, kc, e1⟩ := hk.form
  obtain ⟨va, vc, e2⟩ := hv.form
  rw [bv_len] at e1 e2
  subst e1 e2
  have RB := hid (fun (w1 : World) (f : Fr [] w w1) (x : En) (hx : x ∈ es) => refbytes_c (w := w1) (a := x.k) (b := k) ((Rd.ownB (h.2 x hx).ok).fr f) (hk.fr f) (h.2 x hx).bk hkb (by have := (h.2 x hx).lk; omega) (by omega))
  have AT := hid (fun (i : Nat) (lo : ∀ j x, j < i → es[j]? = some x → cmpN x.k k < 0) (hi : i ≤ es.length) (hhi : ∀ x, es[i]? = some x → ¬ cmpN x.k k < 0) => atM_scan (ps := es.map En.p) (k := k) (i := i) (fun j hj p hp => by
    rw [at_map] at hp
    obtain ⟨x, hx, rfl⟩ := Option.map_eq_some_iff.1 hp
    exact lo j x hj hx) (by rw [List.length_map]; exact hi) (fun p hp => by
    rw [at_map] at hp
    obtain ⟨x, hx, rfl⟩ := Option.map_eq_some_iff.1 hp
    exact hhi x hx))
  have ET := hid (fun (i : Nat) (x : En) (hx : es[i]? = some x) => show w.cell? ⟨g, i * 2, none⟩ = some x.kv from by
    obtain ⟨g', c', e', c0, _, _⟩ := h.at' hx
    simp only [Value.slice.injEq, Option.some.injEq, Addr.mk.injEq, and_true] at e'
    obtain ⟨rfl, _⟩ := e'
    exact c0)
  have H := hid h
  have HK := hid hk
  have HV := hid hv
  have HKB := hid hkb
  have HVB := hid hvb
  have HBB := hid hB
  clear h hk hv hkb hvb hB
  obtain ⟨n, hnn⟩ : ∃ n, n = es.length := ⟨_, rfl⟩
  have HN := hid hnn
  rw [← hnn] at hn hlc H ⊢
  clear hnn
  obtain ⟨nk, hnk⟩ : ∃ n, n = k.length := ⟨_, rfl⟩
  have HNK := hid hnk
  obtain ⟨nv, hnv⟩ : ∃ n, n = v.length := ⟨_, rfl⟩
  have HNV := hid hnv
  rw [← hnk] at RB HK hkl ⊢
  rw [← hnv] at HV hvl ⊢
  clear hnk hnv
  go_enter Tryd.func28, Tryd.ntmps28
  go_wp2_with fail
  go_loopw [7] (fun v7 wr => ∃ i : Nat, i ≤ n ∧ v7 = .int .i64 (i : Int) ∧ (∀ j x, j < i → es[j]? = some x → cmpN x.k k < 0) ∧ Fr [] w wr) (fun v7 _ => n - (intOf v7).toNat)
  case atStart => exact ⟨0, Nat.zero_le _, rfl, (fun j x h => by omega), Fr.refl _ _⟩
  case round =>
    obtain ⟨i, hi, rfl, hlo, hf⟩ := hrel
    have HF := hid hf
    have HLO := hid hlo
    clear hf hlo
    by_cases hlt : i < n
    · obtain ⟨x, hx⟩ : ∃ x, es[i]? = some x := ⟨_, List.getElem?_eq_getElem (by rw [← HN.out]; exact hlt)⟩
      have z0 := cell_fr (ET.out i x hx) HF.out
      have HX := hid hx
      clear hx
      have hii : (i : Int) < (n : Int) := by omega
      by_cases hc : cmpN x.k k < 0
      · go_wp2_with (go_at_call 55; refine (RB.out _ HF.out x (List.mem_of_getElem? HX.out)).mono ?_; rintro e w4 ⟨rfl, f4⟩; have F4 := hid (HF.out.trans f4); clear f4)
        refine ⟨⟨i + 1, by omega, by go_num, fun j y hj hy => ?_, F4.out⟩, by simp [intOf]; omega⟩
        rcases Nat.lt_or_ge j i with h | h
        · exact HLO.out j y h hy
        · obtain rfl : j = i := by omega
          rw [HX.out] at hy
          cases hy
          exact hc
      · have HIA := hid (AT.out i HLO.out (by have := HN.out; omega) (fun y hy => by rw [HX.out] at hy; cases hy; omega))
        have HTX := hid (there_map (k := k) (x := x) (by rw [← HIA.out]; exact HX.out))
        clear HLO
        by_cases hq : cmpN x.k k = 0
        · have RBQ := hid (fun (w1 : World) (f : Fr [] w w1) => by have := RB.out w1 f x (List.mem_of_getElem? HX.out); rw [hq] at this; exact this)
          have HT : Hid (thereM (es.map En.p) k = true) := hid (by rw [HTX.out]; exact decide_eq_true ((cmpN_eq _ _).1 hq))
          clear hc
          have HE : Hid ((es.take i).length = i) := by have := HN.out; show _ = _; rw [List.length_take]; omega
          by_cases hlc2 : lc = (i + 1)
          · have HD : Hid ((es.drop (i + 1)).length = n - (i + 1)) := by have := HN.out; show _ = _; rw [List.length_drop]; omega
            by_cases hnv : 0 < nv
            · have hnv2 : (0 : Int) < (nv : Int) := by omega
              go_wp2_with (first | (go_at_call 55; refine (RBQ.out _ HF.out).mono ?_; rintro e w4 ⟨rfl, f4⟩; have F4 := hid (HF.out.trans f4); have z1 := cell_fr z0 f4; clear f4 z0) | (go_at_call 55; refine (RBQ.out _ F4.out).mono ?_; rintro e w9 ⟨rfl, f9⟩; have F9 := hid (F4.out.trans f9); clear f9) | (at_builtin; refine wpList_append_nil rfl _ _ rfl rfl F5.out _ (HK.out.fr F5.out) rfl (by have := HNK.out; omega) ?_; intro v6 w6 o6 f56 f6; obtain ⟨a6, c6, rfl, _⟩ := ownsRow_slice o6; have O6 := hid o6; have F56 := hid f56; have F6 := hid f6; clear o6 f56 f6) | (at_builtin; refine wpList_append_nil rfl _ _ rfl rfl F6.out _ (HV.out.fr F6.out) rfl (by have := HNV.out; omega) ?_; intro v7 w7 o7 f67 f7; obtain ⟨a7, c7, rfl, _⟩ := ownsRow_slice o7; have O7 := hid o7; have F67 := hid f67; have F7 := hid f7; clear o7 f67 f7) | (at_builtin; refine wpList_appE1 rfl _ _ rfl (base := w.heap.size) (F7.out.trans ((Fr.refl _ _).alloc _)).size (ownsRow_fr O5.out (F56.out.trans (F67.out.trans ((Fr.refl _ _).alloc _)))) HE.out rfl rfl ⟨.slice a6 k.length c6, .slice a7 v.length c7, k, v⟩ (blk_new _ _) (w0 := w7) (B := B) ⟨ownsRow_base (ownsRow_fr O6.out F67.out) (by have := F5.out.size; have := HBB.out; omega), ownsRow_base O7.out (by have := F6.out.size; have := HBB.out; omega), HKB.out, HVB.out, by have := HNK.out; show k.length ≤ 64; omega, by have := HNV.out; show v.length ≤ 1024; omega⟩ (by omega) (F7.out.trans ((Fr.refl _ _).alloc _)) (Nat.le_refl _) ?_; intro v8 w8 o8 f8 k8; have EN8 := hid (k8 B ⟨.slice a6 k.length c6, .slice a7 v.length c7, k, v⟩ ⟨ownsRow_base (ownsRow_fr O6.out (F67.out.trans ((Fr.refl _ _).alloc _))) (by have := F5.out.size; have := HBB.out; omega), ownsRow_base (ownsRow_fr O7.out ((Fr.refl _ _).alloc _)) (by have := F6.out.size; have := HBB.out; omega), HKB.out, HVB.out, by have := HNK.out; show k.length ≤ 64; omega, by have := HNV.out; show v.length ≤ 1024; omega⟩); have O8 := hid o8; have F8 := hid f8; clear o8 f8 k8) | (at_builtin; refine wpList_appEs rfl _ _ rfl (base := w.heap.size) F9.out.size (es := []) (fs := es.take i) (World.ownsRow_nil _ _ _ _) rfl rfl HE.out rfl ((H.out.fr F9.out).front i) (fun e he => H.out.2 e (List.mem_of_mem_take he)) (by omega) (by omega) F9.out (Nat.le_refl _) ?_; intro v5 w5 o5 f5 _; rw [List.nil_append, Nat.zero_add] at o5; have O5 := hid o5; have F5 := hid f5; clear o5 f5) | (at_builtin; refine wpList_appEs rfl _ _ rfl (base := w.heap.size) F8.out.size (es := es.take i ++ [⟨.slice a6 k.length c6, .slice a7 v.length c7, k, v⟩]) (fs := es.drop (i + 1)) O8.out (by rw [List.length_append, HE.out]; rfl) rfl HD.out rfl (fun j u hj => by rw [List.eq_nil_of_length_eq_zero (l := es.drop (i + 1)) (by have := HD.out; omega)] at hj; simp at hj) (fun e he => H.out.2 e (List.mem_of_mem_drop he)) (by omega) (by omega) F8.out (Nat.le_refl _) ?_; intro v10 w10 o10 f10 k10; have O10 := hid o10; have F10 := hid f10; have K10 := hid k10; clear o10 f10 k10))
              go_ret
              exact ⟨v10, rfl, _, EsO.parts (i := i) (j := (i + 1)) (l := [⟨.slice a6 k.length c6, .slice a7 v.length c7, k, v⟩]) O10.out HBB.out (by rw [List.length_append, List.length_append, HE.out, HD.out]; try rfl) (fun e he => (H.out.2 e he).fr F10.out) (fun e he => by rw [List.mem_singleton.1 he]; exact K10.out B _ EN8.out), put_row HIA.out HT.out (by rfl) (newM_one (by have := HNV.out; omega)), F10.out⟩
            · have hnv2 : ¬ (0 : Int) < (nv : Int) := by omega
              go_wp2_with (first | (go_at_call 55; refine (RBQ.out _ HF.out).mono ?_; rintro e w4 ⟨rfl, f4⟩; have F4 := hid (HF.out.trans f4); have z1 := cell_fr z0 f4; clear f4 z0) | (go_at_call 55; refine (RBQ.out _ F4.out).mono ?_; rintro e w9 ⟨rfl, f9⟩; have F9 := hid (F4.out.trans f9); clear f9) | (at_builtin; refine wpList_appEs rfl _ _ rfl (base := w.heap.size) F9.out.size (es := []) (fs := es.take i) (World.ownsRow_nil _ _ _ _) rfl rfl HE.out rfl ((H.out.fr F9.out).front i) (fun e he => H.out.2 e (List.mem_of_mem_take he)) (by omega) (by omega) F9.out (Nat.le_refl _) ?_; intro v5 w5 o5 f5 _; rw [List.nil_append, Nat.zero_add] at o5; have O5 := hid o5; have F5 := hid f5; clear o5 f5) | (at_builtin; refine wpList_appEs rfl _ _ rfl (base := w.heap.size) F5.out.size (es := es.take i ++ []) (fs := es.drop (i + 1)) (by rw [List.append_nil]; exact O5.out) (by rw [List.append_nil]; exact HE.out) rfl HD.out rfl (fun j u hj => by rw [List.eq_nil_of_length_eq_zero (l := es.drop (i + 1)) (by have := HD.out; omega)] at hj; simp at hj) (fun e he => H.out.2 e (List.mem_of_mem_drop he)) (by omega) (by omega) F5.out (Nat.le_refl _) ?_; intro v10 w10 o10 f10 k10; have O10 := hid o10; have F10 := hid f10; have K10 := hid k10; clear o10 f10 k10))
              go_ret
              exact ⟨v10, rfl, _, EsO.parts (i := i) (j := (i + 1)) (l := []) O10.out HBB.out (by rw [List.length_append, List.length_append, HE.out, HD.out]; try rfl) (fun e he => (H.out.2 e he).fr F10.out) (fun e he => by cases he), put_row HIA.out HT.out (by rfl) (by have hv0 : v = [] := List.eq_nil_of_length_eq_zero (by have := HNV.out; omega); rw [hv0]; rfl), F10.out⟩
          · have HD : Hid ((es.drop (i + 1)).length = n - (i + 1)) := by have := HN.out; show _ = _; rw [List.length_drop]; omega
            by_cases hnv : 0 < nv
            · have hnv2 : (0 : Int) < (nv : Int) := by omega
              go_wp2_with (first | (go_at_call 55; refine (RBQ.out _ HF.out).mono ?_; rintro e w4 ⟨rfl, f4⟩; have F4 := hid (HF.out.trans f4); have z1 := cell_fr z0 f4; clear f4 z0) | (go_at_call 55; refine (RBQ.out _ F4.out).mono ?_; rintro e w9 ⟨rfl, f9⟩; have F9 := hid (F4.out.trans f9); clear f9) | (at_builtin; refine wpList_append_nil rfl _ _ rfl rfl F5.out _ (HK.out.fr F5.out) rfl (by have := HNK.out; omega) ?_; intro v6 w6 o6 f56 f6; obtain ⟨a6, c6, rfl, _⟩ := ownsRow_slice o6; have O6 := hid o6; have F56 := hid f56; have F6 := hid f6; clear o6 f56 f6) | (at_builtin; refine wpList_append_nil rfl _ _ rfl rfl F6.out _ (HV.out.fr F6.out) rfl (by have := HNV.out; omega) ?_; intro v7 w7 o7 f67 f7; obtain ⟨a7, c7, rfl, _⟩ := ownsRow_slice o7; have O7 := hid o7; have F67 := hid f67; have F7 := hid f7; clear o7 f67 f7) | (at_builtin; refine wpList_appE1 rfl _ _ rfl (base := w.heap.size) (F7.out.trans ((Fr.refl _ _).alloc _)).size (ownsRow_fr O5.out (F56.out.trans (F67.out.trans ((Fr.refl _ _).alloc _)))) HE.out rfl rfl ⟨.slice a6 k.length c6, .slice a7 v.length c7, k, v⟩ (blk_new _ _) (w0 := w7) (B := B) ⟨ownsRow_base (ownsRow_fr O6.out F67.out) (by have := F5.out.size; have := HBB.out; omega), ownsRow_base O7.out (by have := F6.out.size; have := HBB.out; omega), HKB.out, HVB.out, by have := HNK.out; show k.length ≤ 64; omega, by have := HNV.out; show v.length ≤ 1024; omega⟩ (by omega) (F7.out.trans ((Fr.refl _ _).alloc _)) (Nat.le_refl _) ?_; intro v8 w8 o8 f8 k8; have EN8 := hid (k8 B ⟨.slice a6 k.length c6, .slice a7 v.length c7, k, v⟩ ⟨ownsRow_base (ownsRow_fr O6.out (F67.out.trans ((Fr.refl _ _).alloc _))) (by have := F5.out.size; have := HBB.out; omega), ownsRow_base (ownsRow_fr O7.out ((Fr.refl _ _).alloc _)) (by have := F6.out.size; have := HBB.out; omega), HKB.out, HVB.out, by have := HNK.out; show k.length ≤ 64; omega, by have := HNV.out; show v.length ≤ 1024; omega⟩); have O8 := hid o8; have F8 := hid f8; clear o8 f8 k8) | (at_builtin; refine wpList_appEs rfl _ _ rfl (base := w.heap.size) F9.out.size (es := []) (fs := es.take i) (World.ownsRow_nil _ _ _ _) rfl rfl HE.out rfl ((H.out.fr F9.out).front i) (fun e he => H.out.2 e (List.mem_of_mem_take he)) (by omega) (by omega) F9.out (Nat.le_refl _) ?_; intro v5 w5 o5 f5 _; rw [List.nil_append, Nat.zero_add] at o5; have O5 := hid o5; have F5 := hid f5; clear o5 f5) | (at_builtin; refine wpList_appEs rfl _ _ rfl (base := w.heap.size) F8.out.size (es := es.take i ++ [⟨.slice a6 k.length c6, .slice a7 v.length c7, k, v⟩]) (fs := es.drop (i + 1)) O8.out (by rw [List.length_append, HE.out]; rfl) rfl HD.out rfl ((H.out.fr F8.out).behind (i + 1)) (fun e he => H.out.2 e (List.mem_of_mem_drop he)) (by omega) (by omega) F8.out (Nat.le_refl _) ?_; intro v10 w10 o10 f10 k10; have O10 := hid o10; have F10 := hid f10; have K10 := hid k10; clear o10 f10 k10))
              go_ret
              exact ⟨v10, rfl, _, EsO.parts (i := i) (j := (i + 1)) (l := [⟨.slice a6 k.length c6, .slice a7 v.length c7, k, v⟩]) O10.out HBB.out (by rw [List.length_append, List.length_append, HE.out, HD.out]; try rfl) (fun e he => (H.out.2 e he).fr F10.out) (fun e he => by rw [List.mem_singleton.1 he]; exact K10.out B _ EN8.out), put_row HIA.out HT.out (by rfl) (newM_one (by have := HNV.out; omega)), F10.out⟩
            · have hnv2 : ¬ (0 : Int) < (nv : Int) := by omega
              go_wp2_with (first | (go_at_call 55; refine (RBQ.out _ HF.out).mono ?_; rintro e w4 ⟨rfl, f4⟩; have F4 := hid (HF.out.trans f4); have z1 := cell_fr z0 f4; clear f4 z0) | (go_at_call 55; refine (RBQ.out _ F4.out).mono ?_; rintro e w9 ⟨rfl, f9⟩; have F9 := hid (F4.out.trans f9); clear f9) | (at_builtin; refine wpList_appEs rfl _ _ rfl (base := w.heap.size) F9.out.size (es := []) (fs := es.take i) (World.ownsRow_nil _ _ _ _) rfl rfl HE.out rfl ((H.out.fr F9.out).front i) (fun e he => H.out.2 e (List.mem_of_mem_take he)) (by omega) (by omega) F9.out (Nat.le_refl _) ?_; intro v5 w5 o5 f5 _; rw [List.nil_append, Nat.zero_add] at o5; have O5 := hid o5; have F5 := hid f5; clear o5 f5) | (at_builtin; refine wpList_appEs rfl _ _ rfl (base := w.heap.size) F5.out.size (es := es.take i ++ []) (fs := es.drop (i + 1)) (by rw [List.append_nil]; exact O5.out) (by rw [List.append_nil]; exact HE.out) rfl HD.out rfl ((H.out.fr F5.out).behind (i + 1)) (fun e he => H.out.2 e (List.mem_of_mem_drop he)) (by omega) (by omega) F5.out (Nat.le_refl _) ?_; intro v10 w10 o10 f10 k10; have O10 := hid o10; have F10 := hid f10; have K10 := hid k10; clear o10 f10 k10))
              go_ret
              exact ⟨v10, rfl, _, EsO.parts (i := i) (j := (i + 1)) (l := []) O10.out HBB.out (by rw [List.length_append, List.length_append, HE.out, HD.out]; try rfl) (fun e he => (H.out.2 e he).fr F10.out) (fun e he => by cases he), put_row HIA.out HT.out (by rfl) (by have hv0 : v = [] := List.eq_nil_of_length_eq_zero (by have := HNV.out; omega); rw [hv0]; rfl), F10.out⟩
        · have HT : Hid (thereM (es.map En.p) k = false) := hid (by rw [HTX.out]; exact decide_eq_false (fun e => hq ((cmpN_eq _ _).2 e)))
          have RBQ := hid (fun (w1 : World) (f : Fr [] w w1) => RB.out w1 f x (List.mem_of_getElem? HX.out))
          have HE : Hid ((es.take i).length = i) := by have := HN.out; show _ = _; rw [List.length_take]; omega
          by_cases hlc2 : lc = i
          · omega
          · have HD : Hid ((es.drop i).length = n - i) := by have := HN.out; show _ = _; rw [List.length_drop]; omega
            by_cases hnv : 0 < nv
            · have hnv2 : (0 : Int) < (nv : Int) := by omega
              go_wp2_with (first | (go_at_call 55; refine (RBQ.out _ HF.out).mono ?_; rintro e w4 ⟨rfl, f4⟩; have F4 := hid (HF.out.trans f4); have z1 := cell_fr z0 f4; clear f4 z0) | (go_at_call 55; refine (RBQ.out _ F4.out).mono ?_; rintro e w9 ⟨rfl, f9⟩; have F9 := hid (F4.out.trans f9); clear f9) | (at_builtin; refine wpList_append_nil rfl _ _ rfl rfl F5.out _ (HK.out.fr F5.out) rfl (by have := HNK.out; omega) ?_; intro v6 w6 o6 f56 f6; obtain ⟨a6, c6, rfl, _⟩ := ownsRow_slice o6; have O6 := hid o6; have F56 := hid f56; have F6 := hid f6; clear o6 f56 f6) | (at_builtin; refine wpList_append_nil rfl _ _ rfl rfl F6.out _ (HV.out.fr F6.out) rfl (by have := HNV.out; omega) ?_; intro v7 w7 o7 f67 f7; obtain ⟨a7, c7, rfl, _⟩ := ownsRow_slice o7; have O7 := hid o7; have F67 := hid f67; have F7 := hid f7; clear o7 f67 f7) | (at_builtin; refine wpList_appE1 rfl _ _ rfl (base := w.heap.size) (F7.out.trans ((Fr.refl _ _).alloc _)).size (ownsRow_fr O5.out (F56.out.trans (F67.out.trans ((Fr.refl _ _).alloc _)))) HE.out rfl rfl ⟨.slice a6 k.length c6, .slice a7 v.length c7, k, v⟩ (blk_new _ _) (w0 := w7) (B := B) ⟨ownsRow_base (ownsRow_fr O6.out F67.out) (by have := F5.out.size; have := HBB.out; omega), ownsRow_base O7.out (by have := F6.out.size; have := HBB.out; omega), HKB.out, HVB.out, by have := HNK.out; show k.length ≤ 64; omega, by have := HNV.out; show v.length ≤ 1024; omega⟩ (by omega) (F7.out.trans ((Fr.refl _ _).alloc _)) (Nat.le_refl _) ?_; intro v8 w8 o8 f8 k8; have EN8 := hid (k8 B ⟨.slice a6 k.length c6, .slice a7 v.length c7, k, v⟩ ⟨ownsRow_base (ownsRow_fr O6.out (F67.out.trans ((Fr.refl _ _).alloc _))) (by have := F5.out.size; have := HBB.out; omega), ownsRow_base (ownsRow_fr O7.out ((Fr.refl _ _).alloc _)) (by have := F6.out.size; have := HBB.out; omega), HKB.out, HVB.out, by have := HNK.out; show k.length ≤ 64; omega, by have := HNV.out; show v.length ≤ 1024; omega⟩); have O8 := hid o8; have F8 := hid f8; clear o8 f8 k8) | (at_builtin; refine wpList_appEs rfl _ _ rfl (base := w.heap.size) F9.out.size (es := []) (fs := es.take i) (World.ownsRow_nil _ _ _ _) rfl rfl HE.out rfl ((H.out.fr F9.out).front i) (fun e he => H.out.2 e (List.mem_of_mem_take he)) (by omega) (by omega) F9.out (Nat.le_refl _) ?_; intro v5 w5 o5 f5 _; rw [List.nil_append, Nat.zero_add] at o5; have O5 := hid o5; have F5 := hid f5; clear o5 f5) | (at_builtin; refine wpList_appEs rfl _ _ rfl (base := w.heap.size) F8.out.size (es := es.take i ++ [⟨.slice a6 k.length c6, .slice a7 v.length c7, k, v⟩]) (fs := es.drop i) O8.out (by rw [List.length_append, HE.out]; rfl) rfl HD.out rfl ((H.out.fr F8.out).behind i) (fun e he => H.out.2 e (List.mem_of_mem_drop he)) (by omega) (by omega) F8.out (Nat.le_refl _) ?_; intro v10 w10 o10 f10 k10; have O10 := hid o10; have F10 := hid f10; have K10 := hid k10; clear o10 f10 k10))
              go_ret
              exact ⟨v10, rfl, _, EsO.parts (i := i) (j := i) (l := [⟨.slice a6 k.length c6, .slice a7 v.length c7, k, v⟩]) O10.out HBB.out (by rw [List.length_append, List.length_append, HE.out, HD.out]; try rfl) (fun e he => (H.out.2 e he).fr F10.out) (fun e he => by rw [List.mem_singleton.1 he]; exact K10.out B _ EN8.out), put_row HIA.out HT.out (by rfl) (newM_one (by have := HNV.out; omega)), F10.out⟩
            · have hnv2 : ¬ (0 : Int) < (nv : Int) := by omega
              go_wp2_with (first | (go_at_call 55; refine (RBQ.out _ HF.out).mono ?_; rintro e w4 ⟨rfl, f4⟩; have F4 := hid (HF.out.trans f4); have z1 := cell_fr z0 f4; clear f4 z0) | (go_at_call 55; refine (RBQ.out _ F4.out).mono ?_; rintro e w9 ⟨rfl, f9⟩; have F9 := hid (F4.out.trans f9); clear f9) | (at_builtin; refine wpList_appEs rfl _ _ rfl (base := w.heap.size) F9.out.size (es := []) (fs := es.take i) (World.ownsRow_nil _ _ _ _) rfl rfl HE.out rfl ((H.out.fr F9.out).front i) (fun e he => H.out.2 e (List.mem_of_mem_take he)) (by omega) (by omega) F9.out (Nat.le_refl _) ?_; intro v5 w5 o5 f5 _; rw [List.nil_append, Nat.zero_add] at o5; have O5 := hid o5; have F5 := hid f5; clear o5 f5) | (at_builtin; refine wpList_appEs rfl _ _ rfl (base := w.heap.size) F5.out.size (es := es.take i ++ []) (fs := es.drop i) (by rw [List.append_nil]; exact O5.out) (by rw [List.append_nil]; exact HE.out) rfl HD.out rfl ((H.out.fr F5.out).behind i) (fun e he => H.out.2 e (List.mem_of_mem_drop he)) (by omega) (by omega) F5.out (Nat.le_refl _) ?_; intro v10 w10 o10 f10 k10; have O10 := hid o10; have F10 := hid f10; have K10 := hid k10; clear o10 f10 k10))
              go_ret
              exact ⟨v10, rfl, _, EsO.parts (i := i) (j := i) (l := []) O10.out HBB.out (by rw [List.length_append, List.length_append, HE.out, HD.out]; try rfl) (fun e he => (H.out.2 e he).fr F10.out) (fun e he => by cases he), put_row HIA.out HT.out (by rfl) (by have hv0 : v = [] := List.eq_nil_of_length_eq_zero (by have := HNV.out; omega); rw [hv0]; rfl), F10.out⟩
    · have hin : i = n := by omega
      subst hin
      have HIA := hid (AT.out i HLO.out (by have := HN.out; omega) (fun y hy => by have := (List.getElem?_eq_some_iff.1 hy).1; have := HN.out; omega))
      have HT : Hid (thereM (es.map En.p) k = false) := hid (there_end (by rw [← HIA.out]; exact Nat.le_of_eq HN.out.symm))
      clear HLO
      have HE : Hid ((es.take i).length = i) := by have := HN.out; show _ = _; rw [List.length_take]; omega
      by_cases hlc2 : lc = i
      · have HD : Hid ((es.drop i).length = 0) := by have := HN.out; show _ = _; rw [List.length_drop]; omega
        by_cases hnv : 0 < nv
        · have hnv2 : (0 : Int) < (nv : Int) := by omega
          go_wp2_with (first | (at_builtin; refine wpList_append_nil rfl _ _ rfl rfl F5.out _ (HK.out.fr F5.out) rfl (by have := HNK.out; omega) ?_; intro v6 w6 o6 f56 f6; obtain ⟨a6, c6, rfl, _⟩ := ownsRow_slice o6; have O6 := hid o6; have F56 := hid f56; have F6 := hid f6; clear o6 f56 f6) | (at_builtin; refine wpList_append_nil rfl _ _ rfl rfl F6.out _ (HV.out.fr F6.out) rfl (by have := HNV.out; omega) ?_; intro v7 w7 o7 f67 f7; obtain ⟨a7, c7, rfl, _⟩ := ownsRow_slice o7; have O7 := hid o7; have F67 := hid f67; have F7 := hid f7; clear o7 f67 f7) | (at_builtin; refine wpList_appE1 rfl _ _ rfl (base := w.heap.size) (F7.out.trans ((Fr.refl _ _).alloc _)).size (ownsRow_fr O5.out (F56.out.trans (F67.out.trans ((Fr.refl _ _).alloc _)))) HE.out rfl rfl ⟨.slice a6 k.length c6, .slice a7 v.length c7, k, v⟩ (blk_new _ _) (w0 := w7) (B := B) ⟨ownsRow_base (ownsRow_fr O6.out F67.out) (by have := F5.out.size; have := HBB.out; omega), ownsRow_base O7.out (by have := F6.out.size; have := HBB.out; omega), HKB.out, HVB.out, by have := HNK.out; show k.length ≤ 64; omega, by have := HNV.out; show v.length ≤ 1024; omega⟩ (by omega) (F7.out.trans ((Fr.refl _ _).alloc _)) (Nat.le_refl _) ?_; intro v8 w8 o8 f8 k8; have EN8 := hid (k8 B ⟨.slice a6 k.length c6, .slice a7 v.length c7, k, v⟩ ⟨ownsRow_base (ownsRow_fr O6.out (F67.out.trans ((Fr.refl _ _).alloc _))) (by have := F5.out.size; have := HBB.out; omega), ownsRow_base (ownsRow_fr O7.out ((Fr.refl _ _).alloc _)) (by have := F6.out.size; have := HBB.out; omega), HKB.out, HVB.out, by have := HNK.out; show k.length ≤ 64; omega, by have := HNV.out; show v.length ≤ 1024; omega⟩); have O8 := hid o8; have F8 := hid f8; clear o8 f8 k8) | (at_builtin; refine wpList_appEs rfl _ _ rfl (base := w.heap.size) HF.out.size (es := []) (fs := es.take i) (World.ownsRow_nil _ _ _ _) rfl rfl HE.out rfl ((H.out.fr HF.out).front i) (fun e he => H.out.2 e (List.mem_of_mem_take he)) (by omega) (by omega) HF.out (Nat.le_refl _) ?_; intro v5 w5 o5 f5 _; rw [List.nil_append, Nat.zero_add] at o5; have O5 := hid o5; have F5 := hid f5; clear o5 f5) | (at_builtin; refine wpList_appEs rfl _ _ rfl (base := w.heap.size) F8.out.size (es := es.take i ++ [⟨.slice a6 k.length c6, .slice a7 v.length c7, k, v⟩]) (fs := es.drop i) O8.out (by rw [List.length_append, HE.out]; rfl) rfl HD.out rfl (fun j u hj => by rw [List.eq_nil_of_length_eq_zero (l := es.drop i) (by have := HD.out; omega)] at hj; simp at hj) (fun e he => H.out.2 e (List.mem_of_mem_drop he)) (by omega) (by omega) F8.out (Nat.le_refl _) ?_; intro v10 w10 o10 f10 k10; have O10 := hid o10; have F10 := hid f10; have K10 := hid k10; clear o10 f10 k10))
          go_ret
          exact ⟨v10, rfl, _, EsO.parts (i := i) (j := i) (l := [⟨.slice a6 k.length c6, .slice a7 v.length c7, k, v⟩]) O10.out HBB.out (by rw [List.length_append, List.length_append, HE.out, HD.out]; try rfl) (fun e he => (H.out.2 e he).fr F10.out) (fun e he => by rw [List.mem_singleton.1 he]; exact K10.out B _ EN8.out), put_row HIA.out HT.out (by rfl) (newM_one (by have := HNV.out; omega)), F10.out⟩
        · have hnv2 : ¬ (0 : Int) < (nv : Int) := by omega
          go_wp2_with (first | (at_builtin; refine wpList_appEs rfl _ _ rfl (base := w.heap.size) HF.out.size (es := []) (fs := es.take i) (World.ownsRow_nil _ _ _ _) rfl rfl HE.out rfl ((H.out.fr HF.out).front i) (fun e he => H.out.2 e (List.mem_of_mem_take he)) (by omega) (by omega) HF.out (Nat.le_refl _) ?_; intro v5 w5 o5 f5 _; rw [List.nil_append, Nat.zero_add] at o5; have O5 := hid o5; have F5 := hid f5; clear o5 f5) | (at_builtin; refine wpList_appEs rfl _ _ rfl (base := w.heap.size) F5.out.size (es := es.take i ++ []) (fs := es.drop i) (by rw [List.append_nil]; exact O5.out) (by rw [List.append_nil]; exact HE.out) rfl HD.out rfl (fun j u hj => by rw [List.eq_nil_of_length_eq_zero (l := es.drop i) (by have := HD.out; omega)] at hj; simp at hj) (fun e he => H.out.2 e (List.mem_of_mem_drop he)) (by omega) (by omega) F5.out (Nat.le_refl _) ?_; intro v10 w10 o10 f10 k10; have O10 := hid o10; have F10 := hid f10; have K10 := hid k10; clear o10 f10 k10))
          go_ret
          exact ⟨v10, rfl, _, EsO.parts (i := i) (j := i) (l := []) O10.out HBB.out (by rw [List.length_append, List.length_append, HE.out, HD.out]; try rfl) (fun e he => (H.out.2 e he).fr F10.out) (fun e he => by cases he), put_row HIA.out HT.out (by rfl) (by have hv0 : v = [] := List.eq_nil_of_length_eq_zero (by have := HNV.out; omega); rw [hv0]; rfl), F10.out⟩
      · have HD : Hid ((es.drop i).length = 0) := by have := HN.out; show _ = _; rw [List.length_drop]; omega
        by_cases hnv : 0 < nv
        · have hnv2 : (0 : Int) < (nv : Int) := by omega
          go_wp2_with (first | (at_builtin; refine wpList_append_nil rfl _ _ rfl rfl F5.out _ (HK.out.fr F5.out) rfl (by have := HNK.out; omega) ?_; intro v6 w6 o6 f56 f6; obtain ⟨a6, c6, rfl, _⟩ := ownsRow_slice o6; have O6 := hid o6; have F56 := hid f56; have F6 := hid f6; clear o6 f56 f6) | (at_builtin; refine wpList_append_nil rfl _ _ rfl rfl F6.out _ (HV.out.fr F6.out) rfl (by have := HNV.out; omega) ?_; intro v7 w7 o7 f67 f7; obtain ⟨a7, c7, rfl, _⟩ := ownsRow_slice o7; have O7 := hid o7; have F67 := hid f67; have F7 := hid f7; clear o7 f67 f7) | (at_builtin; refine wpList_appE1 rfl _ _ rfl (base := w.heap.size) (F7.out.trans ((Fr.refl _ _).alloc _)).size (ownsRow_fr O5.out (F56.out.trans (F67.out.trans ((Fr.refl _ _).alloc _)))) HE.out rfl rfl ⟨.slice a6 k.length c6, .slice a7 v.length c7, k, v⟩ (blk_new _ _) (w0 := w7) (B := B) ⟨ownsRow_base (ownsRow_fr O6.out F67.out) (by have := F5.out.size; have := HBB.out; omega), ownsRow_base O7.out (by have := F6.out.size; have := HBB.out; omega), HKB.out, HVB.out, by have := HNK.out; show k.length ≤ 64; omega, by have := HNV.out; show v.length ≤ 1024; omega⟩ (by omega) (F7.out.trans ((Fr.refl _ _).alloc _)) (Nat.le_refl _) ?_; intro v8 w8 o8 f8 k8; have EN8 := hid (k8 B ⟨.slice a6 k.length c6, .slice a7 v.length c7, k, v⟩ ⟨ownsRow_base (ownsRow_fr O6.out (F67.out.trans ((Fr.refl _ _).alloc _))) (by have := F5.out.size; have := HBB.out; omega), ownsRow_base (ownsRow_fr O7.out ((Fr.refl _ _).alloc _)) (by have := F6.out.size; have := HBB.out; omega), HKB.out, HVB.out, by have := HNK.out; show k.length ≤ 64; omega, by have := HNV.out; show v.length ≤ 1024; omega⟩); have O8 := hid o8; have F8 := hid f8; clear o8 f8 k8) | (at_builtin; refine wpList_appEs rfl _ _ rfl (base := w.heap.size) HF.out.size (es := []) (fs := es.take i) (World.ownsRow_nil _ _ _ _) rfl rfl HE.out rfl ((H.out.fr HF.out).front i) (fun e he => H.out.2 e (List.mem_of_mem_take he)) (by omega) (by omega) HF.out (Nat.le_refl _) ?_; intro v5 w5 o5 f5 _; rw [List.nil_append, Nat.zero_add] at o5; have O5 := hid o5; have F5 := hid f5; clear o5 f5) | (at_builtin; refine wpList_appEs rfl _ _ rfl (base := w.heap.size) F8.out.size (es := es.take i ++ [⟨.slice a6 k.length c6, .slice a7 v.length c7, k, v⟩]) (fs := es.drop i) O8.out (by rw [List.length_append, HE.out]; rfl) rfl HD.out rfl (fun j u hj => by rw [List.eq_nil_of_length_eq_zero (l := es.drop i) (by have := HD.out; omega)] at hj; simp at hj) (fun e he => H.out.2 e (List.mem_of_mem_drop he)) (by omega) (by omega) F8.out (Nat.le_refl _) ?_; intro v10 w10 o10 f10 k10; have O10 := hid o10; have F10 := hid f10; have K10 := hid k10; clear o10 f10 k10))
          go_ret
          exact ⟨v10, rfl, _, EsO.parts (i := i) (j := i) (l := [⟨.slice a6 k.length c6, .slice a7 v.length c7, k, v⟩]) O10.out HBB.out (by rw [List.length_append, List.length_append, HE.out, HD.out]; try rfl) (fun e he => (H.out.2 e he).fr F10.out) (fun e he => by rw [List.mem_singleton.1 he]; exact K10.out B _ EN8.out), put_row HIA.out HT.out (by rfl) (newM_one (by have := HNV.out; omega)), F10.out⟩
        · have hnv2 : ¬ (0 : Int) < (nv : Int) := by omega
          go_wp2_with (first | (at_builtin; refine wpList_appEs rfl _ _ rfl (base := w.heap.size) HF.out.size (es := []) (fs := es.take i) (World.ownsRow_nil _ _ _ _) rfl rfl HE.out rfl ((H.out.fr HF.out).front i) (fun e he => H.out.2 e (List.mem_of_mem_take he)) (by omega) (by omega) HF.out (Nat.le_refl _) ?_; intro v5 w5 o5 f5 _; rw [List.nil_append, Nat.zero_add] at o5; have O5 := hid o5; have F5 := hid f5; clear o5 f5) | (at_builtin; refine wpList_appEs rfl _ _ rfl (base := w.heap.size) F5.out.size (es := es.take i ++ []) (fs := es.drop i) (by rw [List.append_nil]; exact O5.out) (by rw [List.append_nil]; exact HE.out) rfl HD.out rfl (fun j u hj => by rw [List.eq_nil_of_length_eq_zero (l := es.drop i) (by have := HD.out; omega)] at hj; simp at hj) (fun e he => H.out.2 e (List.mem_of_mem_drop he)) (by omega) (by omega) F5.out (Nat.le_refl _) ?_; intro v10 w10 o10 f10 k10; have O10 := hid o10; have F10 := hid f10; have K10 := hid k10; clear o10 f10 k10))
          go_ret
          exact ⟨v10, rfl, _, EsO.parts (i := i) (j := i) (l := []) O10.out HBB.out (by rw [List.length_append, List.length_append, HE.out, HD.out]; try rfl) (fun e he => (H.out.2 e he).fr F10.out) (fun e he => by cases he), put_row HIA.out HT.out (by rfl) (by have hv0 : v = [] := List.eq_nil_of_length_eq_zero (by have := HNV.out; omega); rw [hv0]; rfl), F10.out⟩
end Go.Proofs.YtmpfnglcmaollaaDoor
