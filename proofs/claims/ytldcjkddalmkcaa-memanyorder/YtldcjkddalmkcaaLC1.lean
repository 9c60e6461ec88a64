/-
  MemLevels, walked: entries are put.
-/
import Derived.Test.YtldcjkddalmkcaaLB1
namespace Go.Proofs.Ytldcjkddalmkcaa
open Go.ChangeShapes Go.WideShapes Go.ChangeAt Go.RowKit

/-- A table as statements keep it: some entries, at most so many. -/
structure TS (w wr : World) (T : Nat) (H : List Nat) (es : List E) (i : Nat) : Prop where
  tb : Tb wr T T H es
  len : es.length ≤ i
  fr : Fr [] w wr
theorem TS.fr' {w wr w2 : World} {T : Nat} {H : List Nat} {es : List E} {i : Nat} (h : TS w wr T H es i) (f : Fr [] wr w2) : TS w w2 T H es i := ⟨h.tb.fr f, h.len, h.fr.trans f⟩
theorem PutR.len {b0 : Nat} {H : List Nat} {es es' : List E} {u : List Nat} {s : Nat} {k : Int} {v : List Nat} (R : PutR b0 H es es' u s k v) : es'.length ≤ es.length + 1 := by
  rcases R with ⟨_, e⟩ | ⟨_, pre, post, n, C, _, e, _⟩
  · rw [e]; omega
  · rw [e, C.eq]; simp; omega
theorem lvK_zero {es : List E} (h : ∀ e ∈ es, 1 ≤ e.h ∧ e.h ≤ 12) : (lvK es 0).length = es.length := by
  unfold lvK
  rw [List.length_map, List.filter_eq_self.2]
  intro e he
  have := (h e he).1
  simp; omega
theorem lvK_sub (es : List E) (i : Nat) : (lvK es (i + 1)).Sublist (lvK es i) := by
  unfold lvK
  refine List.Sublist.map _ ?_
  have : es.filter (fun e => decide (i + 1 < e.h)) = (es.filter (fun e => decide (i < e.h))).filter (fun e => decide (i + 1 < e.h)) := by
    rw [List.filter_filter]
    congr 1
    funext e
    by_cases h : i + 1 < e.h
    · have h2 : i < e.h := by omega
      simp [h, h2]
    · simp [h]
  rw [this]
  exact List.filter_sublist
theorem lvK_srt {es : List E} (h : es.Pairwise (fun a b => ordK a.key b.key < 0)) (i : Nat) : (lvK es i).Pairwise (fun a b => ordK a b < 0) := by
  unfold lvK
  rw [List.pairwise_map]
  exact h.sublist List.filter_sublist
theorem lvK_in {es : List E} {i : Nat} {k : List Nat} (h : k ∈ lvK es i) : ∃ e ∈ es, e.key = k := by
  unfold lvK at h
  obtain ⟨e, he, rfl⟩ := List.mem_map.1 h
  exact ⟨e, (List.mem_filter.1 he).1, rfl⟩
theorem srt_at {ns : List (List Nat)} (h : ns.Pairwise (fun a b => ordK a b < 0)) {k : Nat} {x y : List Nat} (hx : ns[k]? = some x) (hy : ns[k + 1]? = some y) : ordK x y < 0 := by
  have h1 := List.pairwise_iff_getElem.1 h
  obtain ⟨l1, e1⟩ := List.getElem?_eq_some_iff.1 hx
  obtain ⟨l2, e2⟩ := List.getElem?_eq_some_iff.1 hy
  rw [← e1, ← e2]
  exact h1 k (k + 1) l1 l2 (by omega)
/-- A row that is a part of another one, from a place on. -/
theorem sub_hit {bs : List (List Nat)} {x : List Nat} {r : List (List Nat)} {t : Nat} (h : (x :: r).Sublist (bs.drop t)) : ∃ y, bs[t]? = some y ∧ (y ≠ x → (x :: r).Sublist (bs.drop (t + 1))) := by
  cases hd : bs.drop t with
  | nil => rw [hd] at h; cases h
  | cons y l =>
    have hy : bs[t]? = some y := by
      have := congrArg (fun l => l[0]?) hd
      simpa using this
    have hl : bs.drop (t + 1) = l := by
      rw [← List.drop_drop, hd]; rfl
    refine ⟨y, hy, fun hne => ?_⟩
    rw [hl]
    rw [hd] at h
    cases h with
    | cons _ h => exact h
    | cons_cons => exact absurd rfl hne

set_option maxRecDepth 20000 in
set_option maxHeartbeats 4000000 in
theorem levels_walk (w : World) {ha la : Option Addr} {hn hc lc : Nat} {Y : Nat → Int} {ls : List Ar} (hI : Ints w ha hn Y) (hhn : hn ≤ 9223372036854775807) (hE : Ents w la ls) (hl : ls.length ≤ 9223372036854775807) :
    Calls Try.prog 5 #[.slice ha hn hc, .slice la ls.length lc] w fun e w' => e = .returned (.bool true) ∧ Fr [] w w' := by
  have HI := hid hI
  have HE := hid hE
  clear hI hE
  rcases hf : fewB ls with _ | _
  · have HF := hid hf
    clear hf
    go_enter Try.func5, Try.ntmps5
    go_wp2_with (first | (go_at_call 7; refine (known_c w).mono ?_; rintro e w1 ⟨rfl, f1⟩) | (go_at_call 8; refine (few_c w1 (fun h => by obtain ⟨b, o, h1, h2⟩ := HE.out h; exact ⟨b, o, h1, fun j x hj => by obtain ⟨uv, vv, g⟩ := h2 j x hj; exact ⟨uv, vv, g.fr f1⟩⟩) hl).mono ?_; rintro e w2 ⟨rfl, rfl⟩; rw [HF.out]))
    go_ret
    exact ⟨rfl, f1⟩
  · by_cases h40 : 40 < hn
    · have d40 : decide ((40 : Int) < (hn : Int)) = true := by simp; omega
      have HF := hid hf
      clear hf
      go_enter Try.func5, Try.ntmps5
      go_wp2_with (first | (go_at_call 7; refine (known_c w).mono ?_; rintro e w1 ⟨rfl, f1⟩) | (go_at_call 8; refine (few_c w1 (fun h => by obtain ⟨b, o, h1, h2⟩ := HE.out h; exact ⟨b, o, h1, fun j x hj => by obtain ⟨uv, vv, g⟩ := h2 j x hj; exact ⟨uv, vv, g.fr f1⟩⟩) hl).mono ?_; rintro e w2 ⟨rfl, rfl⟩; rw [HF.out]))
      go_ret
      exact ⟨rfl, f1⟩
    · have d40 : decide ((40 : Int) < (hn : Int)) = false := by simp; omega
      have h40' : hn ≤ 40 := by omega
      have hlen := (fewB_all hf).1
      have HF := hid hf
      clear hf h40
      go_enter Try.func5, Try.ntmps5
      go_wp2_with (first | (go_at_call 7; refine (known_c w).mono ?_; rintro e w1 ⟨rfl, f1⟩) | (go_at_call 8; refine (few_c w1 (fun h => by obtain ⟨b, o, h1, h2⟩ := HE.out h; exact ⟨b, o, h1, fun j x hj => by obtain ⟨uv, vv, g⟩ := h2 j x hj; exact ⟨uv, vv, g.fr f1⟩⟩) hl).mono ?_; rintro e w2 ⟨rfl, rfl⟩; rw [HF.out]))
      refine (new_c w2 (HI.out.fr f1) (by omega)).mono ?_
      rintro e w3 ⟨rfl, s3⟩
      have T3 := hid s3.tb
      have F3 : Hid (Fr [] w w3) := f1.trans s3.fr
      have hT : w.heap.size ≤ w2.heap.size := f1.size
      have hHl : (hts Y hn).length ≤ 1000000 := by rw [hts_len]; omega
      generalize hts Y hn = H at T3 hHl
      generalize w2.heap.size = T at *
      clear f1 s3
      have A0 : Hid (TS w w3 T H [] 0) := ⟨T3.out, Nat.le_refl _, F3.out⟩
      clear T3 F3
      obtain ⟨n, hn'⟩ : ∃ n, n = ls.length := ⟨_, rfl⟩
      have HN := hid hn'
      rw [← hn'] at hl hlen ⊢
      clear hn'
      go_wp2_with fail
      go_loopw [6] (fun v6 wr => ∃ (i : Nat) (es : List E), i ≤ n ∧ v6 = .int .i64 (i : Int) ∧ TS w wr T H es i) (fun v6 _ => n - (intOf v6).toNat)
      case atStart => exact ⟨0, [], Nat.zero_le _, rfl, A0.out⟩
      case round =>
        clear A0
        obtain ⟨i, es, hi, rfl, S⟩ := hrel
        have HS := hid S
        clear S
        by_cases hlt : i < n
        · obtain ⟨x, hx⟩ : ∃ x, ls[i]? = some x := ⟨_, List.getElem?_eq_getElem (by rw [← HN.out]; exact hlt)⟩
          obtain ⟨b, o, rfl, hcs⟩ := HE.out (by have := HN.out; omega)
          obtain ⟨uv, vv, g0⟩ := hcs i x hx
          obtain ⟨ua, uc, va, vc, rfl, rfl⟩ := ar_slices g0
          have HG := hid g0
          have SK : Hid (∀ w', Fr [] w w' → w'.cell? ⟨b, o + i * 4, none⟩ = some (.slice ua x.u.length uc) ∧ w'.cell? ⟨b, o + i * 4 + 1, none⟩ = some (.slice va x.v.length vc) ∧ w'.cell? ⟨b, o + i * 4 + 2, none⟩ = some (.int .u64 (x.s : Int)) ∧ w'.cell? ⟨b, o + i * 4 + 3, none⟩ = some (.int .i64 x.k)) := fun w' f => ⟨(HG.out.fr f).c0, (HG.out.fr f).c1, (HG.out.fr f).c2, (HG.out.fr f).c3⟩
          have PC := hid (put_c wr.drew (HS.out.tb.fr (Fr.refl [] _).drew) (by have := HS.out.len; omega) hHl (HG.out.fr HS.out.fr.drew).ru HG.out.bu x.s x.k (HG.out.fr HS.out.fr.drew).rv HG.out.bv')
          clear g0 hcs hx
          go_upto_region 9 with fail
          refine wp_region_held_drew (S := fun w' => w'.cell? ⟨b, o + i * 4, none⟩ = some (.slice ua x.u.length uc) ∧ w'.cell? ⟨b, o + i * 4 + 1, none⟩ = some (.slice va x.v.length vc) ∧ w'.cell? ⟨b, o + i * 4 + 2, none⟩ = some (.int .u64 (x.s : Int)) ∧ w'.cell? ⟨b, o + i * 4 + 3, none⟩ = some (.int .i64 x.k)) (by kernel_rfl) (SK.out _ HS.out.fr.drew) (fun hS => ?_)
          refine wpAnyH_take (i := 0) (v := .pointer (some ⟨T, 0, none⟩)) rfl (by kernel_rfl) (by kernel_rfl) (by kernel_rfl) (fun _ _ _ h => h) (.inl ⟨by rfl, fun wx _ => by go_simp⟩) hS ?_
          simp only [Act.put]
          refine wpAnyH_take (i := 1) (v := .slice (some ⟨b, o, none⟩) n lc) rfl (by kernel_rfl) (by kernel_rfl) (by kernel_rfl) (fun _ _ _ h => h) (.inl ⟨by rfl, fun wx _ => by go_simp⟩) hS ?_
          simp only [Act.put]
          refine wpAnyH_take (i := 2) (v := .int .i64 (i : Int)) rfl (by kernel_rfl) (by kernel_rfl) (by kernel_rfl) (fun _ _ _ h => h) (.inl ⟨by rfl, fun wx _ => by go_simp⟩) hS ?_
          simp only [Act.put]
          refine wpAnyH_take (i := 3) (v := .pointer (some ⟨b, o + i * 4, none⟩)) rfl (by kernel_rfl) (by kernel_rfl) (by kernel_rfl) (fun _ _ _ h => h) (.inl ⟨by rfl, fun wx _ => by go_simp⟩) hS ?_
          simp only [Act.put]
          refine wpAnyH_take (i := 4) (v := .pointer (some ⟨b, o + i * 4, none⟩)) rfl (by kernel_rfl) (by kernel_rfl) (by kernel_rfl) (fun _ _ _ h => h) (.inl ⟨by rfl, fun wx _ => by go_simp⟩) hS ?_
          simp only [Act.put]
          refine wpAnyH_take (i := 5) (v := .slice ua x.u.length uc) rfl (by kernel_rfl) (by kernel_rfl) (by kernel_rfl) (fun _ _ _ h => h) (.inl ⟨by rfl, fun wx hX => by obtain ⟨x0, x1, x2, x3⟩ := hX; go_simp⟩) hS ?_
          simp only [Act.put]
          refine wpAnyH_take (i := 6) (v := .slice (some ⟨b, o, none⟩) n lc) rfl (by kernel_rfl) (by kernel_rfl) (by kernel_rfl) (fun _ _ _ h => h) (.inl ⟨by rfl, fun wx _ => by go_simp⟩) hS ?_
          simp only [Act.put]
          refine wpAnyH_take (i := 7) (v := .int .i64 (i : Int)) rfl (by kernel_rfl) (by kernel_rfl) (by kernel_rfl) (fun _ _ _ h => h) (.inl ⟨by rfl, fun wx _ => by go_simp⟩) hS ?_
          simp only [Act.put]
          refine wpAnyH_take (i := 8) (v := .pointer (some ⟨b, o + i * 4, none⟩)) rfl (by kernel_rfl) (by kernel_rfl) (by kernel_rfl) (fun _ _ _ h => h) (.inl ⟨by rfl, fun wx _ => by go_simp⟩) hS ?_
          simp only [Act.put]
          refine wpAnyH_take (i := 9) (v := .pointer (some ⟨b, o + i * 4 + 2, none⟩)) rfl (by kernel_rfl) (by kernel_rfl) (by kernel_rfl) (fun _ _ _ h => h) (.inl ⟨by rfl, fun wx _ => by go_simp⟩) hS ?_
          simp only [Act.put]
          refine wpAnyH_take (i := 10) (v := .int .u64 (x.s : Int)) rfl (by kernel_rfl) (by kernel_rfl) (by kernel_rfl) (fun _ _ _ h => h) (.inl ⟨by rfl, fun wx hX => by obtain ⟨x0, x1, x2, x3⟩ := hX; go_simp⟩) hS ?_
          simp only [Act.put]
          refine wpAnyH_take (i := 11) (v := .slice (some ⟨b, o, none⟩) n lc) rfl (by kernel_rfl) (by kernel_rfl) (by kernel_rfl) (fun _ _ _ h => h) (.inl ⟨by rfl, fun wx _ => by go_simp⟩) hS ?_
          simp only [Act.put]
          refine wpAnyH_take (i := 12) (v := .int .i64 (i : Int)) rfl (by kernel_rfl) (by kernel_rfl) (by kernel_rfl) (fun _ _ _ h => h) (.inl ⟨by rfl, fun wx _ => by go_simp⟩) hS ?_
          simp only [Act.put]
          refine wpAnyH_take (i := 13) (v := .pointer (some ⟨b, o + i * 4, none⟩)) rfl (by kernel_rfl) (by kernel_rfl) (by kernel_rfl) (fun _ _ _ h => h) (.inl ⟨by rfl, fun wx _ => by go_simp⟩) hS ?_
          simp only [Act.put]
          refine wpAnyH_take (i := 14) (v := .pointer (some ⟨b, o + i * 4 + 3, none⟩)) rfl (by kernel_rfl) (by kernel_rfl) (by kernel_rfl) (fun _ _ _ h => h) (.inl ⟨by rfl, fun wx _ => by go_simp⟩) hS ?_
          simp only [Act.put]
          refine wpAnyH_take (i := 15) (v := .int .i64 x.k) rfl (by kernel_rfl) (by kernel_rfl) (by kernel_rfl) (fun _ _ _ h => h) (.inl ⟨by rfl, fun wx hX => by obtain ⟨x0, x1, x2, x3⟩ := hX; go_simp⟩) hS ?_
          simp only [Act.put]
          refine wpAnyH_take (i := 16) (v := .slice (some ⟨b, o, none⟩) n lc) rfl (by kernel_rfl) (by kernel_rfl) (by kernel_rfl) (fun _ _ _ h => h) (.inl ⟨by rfl, fun wx _ => by go_simp⟩) hS ?_
          simp only [Act.put]
          refine wpAnyH_take (i := 17) (v := .int .i64 (i : Int)) rfl (by kernel_rfl) (by kernel_rfl) (by kernel_rfl) (fun _ _ _ h => h) (.inl ⟨by rfl, fun wx _ => by go_simp⟩) hS ?_
          simp only [Act.put]
          refine wpAnyH_take (i := 18) (v := .pointer (some ⟨b, o + i * 4, none⟩)) rfl (by kernel_rfl) (by kernel_rfl) (by kernel_rfl) (fun _ _ _ h => h) (.inl ⟨by rfl, fun wx _ => by go_simp⟩) hS ?_
          simp only [Act.put]
          refine wpAnyH_take (i := 19) (v := .pointer (some ⟨b, o + i * 4 + 1, none⟩)) rfl (by kernel_rfl) (by kernel_rfl) (by kernel_rfl) (fun _ _ _ h => h) (.inl ⟨by rfl, fun wx _ => by go_simp⟩) hS ?_
          simp only [Act.put]
          refine wpAnyH_take (i := 20) (v := .slice va x.v.length vc) rfl (by kernel_rfl) (by kernel_rfl) (by kernel_rfl) (fun _ _ _ h => h) (.inl ⟨by rfl, fun wx hX => by obtain ⟨x0, x1, x2, x3⟩ := hX; go_simp⟩) hS ?_
          simp only [Act.put]
          clear hS
          refine wpAnyH_ready (rs := [21]) (by kernel_rfl) (by simp) ?_
          refine AllReadyH.cons rfl (fun K hK => ?_) AllReadyH.nil
          go_simp
          refine PC.out.mono ?_
          rintro e w4 ⟨rfl, f4, es', t4, r4⟩
          have S4 : Hid (TS w w4 T H es' (i + 1)) := ⟨t4, by have := r4.len; have := HS.out.len; omega, (HS.out.tb.fr (Fr.refl [] _).drew).shed hT HS.out.fr.drew f4⟩
          refine hK.out _ _ (SK.out _ S4.out.fr) (fun _ => ?_)
          clear hK K f4 t4 r4 PC
          refine wpAnyH_done (by kernel_rfl) ?_ _
          go_wp2
          go_roundw
          case rel => exact ⟨i + 1, es', by omega, by go_num, S4.out⟩
          case measure => simp [intOf]; omega
        · have hin : i = n := by omega
          subst hin
          have hel := HS.out.len
          have HL0 := hid (lvK_zero HS.out.tb.hh)
          go_wp2_with fail
          refine (level_c wr HS.out.tb (by omega) 0).mono ?_
          rintro e w4 ⟨v4, rfl, o4, f4⟩
          rw [show lvZ es 0 = lvK es 0 from rfl] at o4
          have R4 := hid o4.rd
          obtain ⟨a4, c4, hv4, _⟩ := o4.rd
          subst hv4
          have S4 := hid (HS.out.fr' f4)
          clear o4 f4
          rw [HL0.out]
          go_wp2_with (go_at_call 14; refine (len_c w4 S4.out.tb).mono ?_; rintro e w4 ⟨rfl, rfl⟩)
          have L0 : Hid (RdL w4 (.slice a4 es.length c4) (lvK es 0)) := by unfold Hid; rw [← HL0.out]; exact R4.out
          have HIN : Hid (∀ (j : Nat) (k : List Nat), k ∈ lvK es j → isK k = true ∧ By k) := fun j k hk => by
            obtain ⟨e, he, rfl⟩ := lvK_in hk
            obtain ⟨hv, M, _⟩ := HS.out.tb.mm
            obtain ⟨r, g⟩ := M.ent he
            exact ⟨g.isk, g.byk⟩
          have HSRT : Hid (∀ j, (lvK es j).Pairwise (fun a b => ordK a b < 0)) := fun j => lvK_srt HS.out.tb.srt j
          have hLL : ∀ j, (lvK es j).length ≤ 60 := fun j => by have := lvK_len es j; omega
          have HLL := hid hLL
          clear HS R4 HL0 hLL
          go_loopw [7, 8] (fun v7 v8 wr => ∃ j : Nat, j ≤ 11 ∧ v8 = .int .i64 ((j : Int) + 1) ∧ RdL wr v7 (lvK es j) ∧ TS w wr T H es i) (fun _ v8 _ => 12 - (intOf v8).toNat)
          case atStart => exact ⟨0, by omega, rfl, L0.out, S4.out⟩
          case round =>
            clear L0 S4
            obtain ⟨j, hj, rfl, RB, S⟩ := hrel
            have HS := hid S
            have HRB := hid RB
            clear S RB
            by_cases hj11 : j < 11
            · obtain ⟨bs, hbs⟩ : ∃ bs, bs = lvK es j := ⟨_, rfl⟩
              obtain ⟨ns, hns⟩ : ∃ ns, ns = lvK es (j + 1) := ⟨_, rfl⟩
              have HSUB : Hid (ns.Sublist bs) := by rw [hbs, hns]; exact lvK_sub es j
              have HNI : Hid (∀ k ∈ ns, isK k = true ∧ By k) := by rw [hns]; exact HIN.out (j + 1)
              have HBI : Hid (∀ k ∈ bs, isK k = true ∧ By k) := by rw [hbs]; exact HIN.out j
              have HNS : Hid (ns.Pairwise (fun a b => ordK a b < 0)) := by rw [hns]; exact HSRT.out (j + 1)
              have hbl : bs.length ≤ 60 := by rw [hbs]; exact HLL.out j
              have hnl : ns.length ≤ 60 := by rw [hns]; exact HLL.out (j + 1)
              rw [← hbs] at HRB
              obtain ⟨a7, c7, hv7, hb7⟩ := HRB.out
              subst hv7
              have hel := HS.out.len
              have LV := hid (level_c wr HS.out.tb (by omega) ((j : Int) + 1))
              rw [show lvZ es ((j : Int) + 1) = ns from by unfold lvZ; rw [if_pos (by omega), hns]; rfl] at LV
              have HNSE := hid hns
              clear hbs hns hb7
              go_wp2_with fail
              refine LV.out.mono ?_
              rintro e w5 ⟨v5, rfl, o5, f5⟩
              have RN := hid o5.rd
              obtain ⟨a9, c9, hv9, _⟩ := o5.rd
              subst hv9
              have S5 := hid (HS.out.fr' f5)
              have RB := hid (HRB.out.fr f5)
              clear o5 f5 LV HS HRB
              go_wp2_with fail
              go_loopw [10, 11] (fun v10 v11 wr => ∃ t k : Nat, t ≤ bs.length ∧ k ≤ ns.length ∧ v10 = .int .i64 (t : Int) ∧ v11 = .int .i64 (k : Int) ∧ (ns.drop k).Sublist (bs.drop t) ∧ Fr [] w5 wr) (fun _ v11 _ => ns.length - (intOf v11).toNat)
              case atStart => exact ⟨0, 0, Nat.zero_le _, Nat.zero_le _, rfl, rfl, HSUB.out, Fr.refl _ _⟩
              case round =>
                obtain ⟨t, k, ht, hk, rfl, rfl, hsub, hf⟩ := hrel
                have HSB := hid hsub
                have HF := hid hf
                clear hsub hf
                by_cases hkn : k < ns.length
                · obtain ⟨x, hx⟩ : ∃ x, ns[k]? = some x := ⟨_, List.getElem?_eq_getElem hkn⟩
                  have hdr : ns.drop k = x :: ns.drop (k + 1) := by
                    rw [List.drop_eq_getElem_cons hkn]
                    congr 1
                    rw [List.getElem?_eq_getElem hkn] at hx
                    exact Option.some.inj hx
                  rw [hdr] at HSB
                  have hxn : x ∈ ns := List.mem_of_getElem? hx
                  obtain ⟨a9', c9', e9, hc9⟩ := RN.out
                  simp only [Value.slice.injEq] at e9
                  obtain ⟨rfl, _, rfl⟩ := e9
                  obtain ⟨b9, o9, rfl, hr9⟩ := hc9 (by omega)
                  obtain ⟨xa, xc, cx, rx, bx, lx⟩ := hr9 k x hx
                  have CX := hid cx
                  have RX := hid rx
                  have BX := hid bx
                  have HR9 := hid hr9
                  have HX := hid hx
                  have HXN := hid hxn
                  clear hdr hxn cx rx bx hc9 hr9 hx
                  go_wp2_with fail
                  go_loopw [10] (fun v10 wr => ∃ t : Nat, t ≤ bs.length ∧ v10 = .int .i64 (t : Int) ∧ (x :: ns.drop (k + 1)).Sublist (bs.drop t) ∧ Fr [] w5 wr) (fun v10 _ => bs.length - (intOf v10).toNat)
                  case atStart => exact ⟨t, ht, rfl, HSB.out, HF.out⟩
                  case round =>
                    clear HSB HF ht
                    obtain ⟨t, ht, rfl, hsub, hf⟩ := hrel
                    obtain ⟨y, hy, hgo⟩ := sub_hit hsub
                    have htl : t < bs.length := (List.getElem?_eq_some_iff.1 hy).1
                    obtain ⟨a7', c7', e7, hc7⟩ := RB.out
                    simp only [Value.slice.injEq] at e7
                    obtain ⟨rfl, _, rfl⟩ := e7
                    obtain ⟨b7, o7, rfl, hr7⟩ := hc7 (by omega)
                    obtain ⟨ya, yc, cy, ry, by', ly⟩ := hr7 t y hy
                    have cx' := cell_fr hf CX.out
                    have cy' := cell_fr hf cy
                    have HB := hid fun (nq : Nat) => bytes_c ((ry.fr hf).fr ((Fr.refl [] wr).drewN nq)) ((RX.out.fr hf).fr ((Fr.refl [] wr).drewN nq)) by' BX.out
                    have HGO := hid hgo
                    have HF := hid hf
                    have HSB := hid hsub
                    have hd1 : decide ((t : Int) < (bs.length : Int)) = true := by simp; omega
                    have hd2 : ((t : Int) == (bs.length : Int)) = false := beq_eq_false_iff_ne.2 (by omega)
                    clear hgo hsub hf hc7 hr7 cy ry hy
                    by_cases hxy : y = x
                    · rw [decide_eq_true hxy] at HB
                      clear hxy
                      go_wp2_with fail
                      go_quiet ((go_at_call 19; exact Calls.quiet_of_same (HB.out _)))
                      have HF2 := hid (HF.out.drewN nq)
                      generalize wr.drewN nq = w6 at HF2 ⊢
                      clear HB cx' cy' HF
                      have HNX : Hid ((ns.drop (k + 1)).Sublist (bs.drop t)) := (List.sublist_cons_self x _).trans HSB.out
                      by_cases hk0 : k = 0
                      · have hk0' : ¬ (0 : Int) < (k : Int) := by omega
                        have hk0d : decide ((0 : Int) < (k : Int)) = false := by simp; omega
                        clear hk0
                        go_wp2
                        go_roundw
                        case rel => exact ⟨t, k + 1, by omega, by omega, rfl, by go_num, HNX.out, HF2.out⟩
                        case measure => simp [intOf]; omega
                      · obtain ⟨k', hk'⟩ : ∃ k', k' + 1 = k := ⟨k - 1, by omega⟩
                        have hkp : (0 : Int) < (k : Int) := by omega
                        have hk1 : (k : Int) - 1 = (k' : Int) := by omega
                        have hk2 : (k' : Int) < (ns.length : Int) := by omega
                        have hkw : IntKind.i64.wrap (k' : Int) = (k' : Int) := by rw [IntKind.wrap_i64]; omega
                        obtain ⟨pv, hpv⟩ : ∃ pv, ns[k']? = some pv := ⟨_, List.getElem?_eq_getElem (by omega)⟩
                        obtain ⟨pa, pc, cp, rp, bp, lp⟩ := HR9.out k' pv hpv
                        have hpn : pv ∈ ns := List.mem_of_getElem? hpv
                        have HLT : Hid (ordK pv x < 0) := srt_at HNS.out hpv (by rw [hk']; exact HX.out)
                        have SK : Hid (∀ w', Fr [] w5 w' → w'.cell? ⟨b9, o9 + k', none⟩ = some (.slice pa pv.length pc) ∧ w'.cell? ⟨b9, o9 + k, none⟩ = some (.slice xa x.length xc)) := fun w' f => ⟨cell_fr f cp, cell_fr f CX.out⟩
                        have CM := hid (compare_yes w6.drew (rp.fr HF2.out.drew) bp (HNI.out pv hpn).1 (RX.out.fr HF2.out.drew) BX.out (HNI.out x HXN.out).1)
                        obtain ⟨od, hod⟩ : ∃ od, od = ordK pv x := ⟨_, rfl⟩
                        rw [← hod] at CM HLT
                        have hodl : od < 0 := HLT.out
                        have hodd : decide ((0 : Int) ≤ od) = false := by simp; omega
                        clear hk0 hk' hpv cp rp bp hpn hod
                        go_upto_region 26 with fail
                        refine wp_region_held_drew (S := fun w' => w'.cell? ⟨b9, o9 + k', none⟩ = some (.slice pa pv.length pc) ∧ w'.cell? ⟨b9, o9 + k, none⟩ = some (.slice xa x.length xc)) (by kernel_rfl) (SK.out _ HF2.out.drew) (fun hS => ?_)
                        refine wpAnyH_take (i := 0) (v := .slice (some ⟨b9, o9, none⟩) ns.length c9) rfl (by kernel_rfl) (by kernel_rfl) (by kernel_rfl) (fun _ _ _ h => h) (.inl ⟨by rfl, fun wx _ => by go_simp⟩) hS ?_
                        simp only [Act.put]
                        refine wpAnyH_take (i := 1) (v := .int .i64 (k : Int)) rfl (by kernel_rfl) (by kernel_rfl) (by kernel_rfl) (fun _ _ _ h => h) (.inl ⟨by rfl, fun wx _ => by go_simp⟩) hS ?_
                        simp only [Act.put]
                        refine wpAnyH_take (i := 2) (v := .int .i64 (k' : Int)) rfl (by kernel_rfl) (by kernel_rfl) (by kernel_rfl) (fun _ _ _ h => h) (.inl ⟨by rfl, fun wx _ => by go_simp⟩) hS ?_
                        simp only [Act.put]
                        refine wpAnyH_take (i := 3) (v := .pointer (some ⟨b9, o9 + k', none⟩)) rfl (by kernel_rfl) (by kernel_rfl) (by kernel_rfl) (fun _ _ _ h => h) (.inl ⟨by rfl, fun wx _ => by go_simp⟩) hS ?_
                        simp only [Act.put]
                        refine wpAnyH_take (i := 4) (v := .slice pa pv.length pc) rfl (by kernel_rfl) (by kernel_rfl) (by kernel_rfl) (fun _ _ _ h => h) (.inl ⟨by rfl, fun wx hX => by obtain ⟨x0, x1⟩ := hX; go_simp⟩) hS ?_
                        simp only [Act.put]
                        refine wpAnyH_take (i := 5) (v := .slice (some ⟨b9, o9, none⟩) ns.length c9) rfl (by kernel_rfl) (by kernel_rfl) (by kernel_rfl) (fun _ _ _ h => h) (.inl ⟨by rfl, fun wx _ => by go_simp⟩) hS ?_
                        simp only [Act.put]
                        refine wpAnyH_take (i := 6) (v := .int .i64 (k : Int)) rfl (by kernel_rfl) (by kernel_rfl) (by kernel_rfl) (fun _ _ _ h => h) (.inl ⟨by rfl, fun wx _ => by go_simp⟩) hS ?_
                        simp only [Act.put]
                        refine wpAnyH_take (i := 7) (v := .pointer (some ⟨b9, o9 + k, none⟩)) rfl (by kernel_rfl) (by kernel_rfl) (by kernel_rfl) (fun _ _ _ h => h) (.inl ⟨by rfl, fun wx _ => by go_simp⟩) hS ?_
                        simp only [Act.put]
                        refine wpAnyH_take (i := 8) (v := .slice xa x.length xc) rfl (by kernel_rfl) (by kernel_rfl) (by kernel_rfl) (fun _ _ _ h => h) (.inl ⟨by rfl, fun wx hX => by obtain ⟨x0, x1⟩ := hX; go_simp⟩) hS ?_
                        simp only [Act.put]
                        clear hS
                        refine wpAnyH_ready (rs := [9]) (by kernel_rfl) (by simp) ?_
                        refine AllReadyH.cons rfl (fun K hK => ?_) AllReadyH.nil
                        go_simp
                        refine CM.out.mono ?_
                        rintro e w7 ⟨rfl, f7⟩
                        have F7 := hid (HF2.out.drew.trans f7)
                        refine hK.out _ _ (SK.out _ F7.out) (fun _ => ?_)
                        clear hK K f7 CM
                        refine wpAnyH_take (i := 10) (v := .tuple #[.int .i64 od, .int .i64 0]) rfl (by kernel_rfl) (by kernel_rfl) (by kernel_rfl) (fun _ _ _ h => h) (.inl ⟨by rfl, fun wx _ => by go_simp⟩) (SK.out _ F7.out) ?_
                        simp only [Act.put]
                        refine wpAnyH_take (i := 11) (v := .int .i64 od) rfl (by kernel_rfl) (by kernel_rfl) (by kernel_rfl) (fun _ _ _ h => h) (.inl ⟨by rfl, fun wx _ => by go_simp⟩) (SK.out _ F7.out) ?_
                        simp only [Act.put]
                        refine wpAnyH_take (i := 12) (v := .int .i64 0) rfl (by kernel_rfl) (by kernel_rfl) (by kernel_rfl) (fun _ _ _ h => h) (.inl ⟨by rfl, fun wx _ => by go_simp⟩) (SK.out _ F7.out) ?_
                        simp only [Act.put]
                        refine wpAnyH_ready (rs := [13]) (by kernel_rfl) (by simp) ?_
                        refine AllReadyH.cons rfl (fun K hK => ?_) AllReadyH.nil
                        go_simp
                        refine hK.out _ _ (SK.out _ F7.out) (fun _ => ?_)
                        clear hK K
                        refine wpAnyH_ready (rs := [14]) (by kernel_rfl) (by simp) ?_
                        refine AllReadyH.cons rfl (fun K hK => ?_) AllReadyH.nil
                        go_simp
                        refine hK.out _ _ (SK.out _ F7.out) (fun _ => ?_)
                        clear hK K
                        refine wpAnyH_done (by kernel_rfl) ?_ _
                        go_wp2
                        go_roundw
                        case rel => exact ⟨t, k + 1, by omega, by omega, rfl, by go_num, HNX.out, F7.out⟩
                        case measure => simp [intOf]; omega
                    · rw [decide_eq_false hxy] at HB
                      have HG2 := hid (HGO.out hxy)
                      clear hxy
                      go_wp2_with fail
                      go_quiet ((go_at_call 19; exact Calls.quiet_of_same (HB.out _)))
                      go_wp2
                      go_roundw
                      case rel => exact ⟨t + 1, by omega, by go_num, HG2.out, HF.out.drewN _⟩
                      case measure => simp [intOf]; omega
                · have hkk : k = ns.length := by omega
                  subst hkk
                  have SF := hid (S5.out.fr' HF.out)
                  have RF := hid (RN.out.fr HF.out)
                  have RF' : Hid (RdL wr (.slice a9 ns.length c9) (lvK es (j + 1))) := by unfold Hid; rw [← HNSE.out]; exact RF.out
                  clear RF
                  go_wp2
                  go_roundw
                  case rel => exact ⟨j + 1, by omega, by go_num, RF'.out, SF.out⟩
                  case measure => simp [intOf]; omega
            · have hj' : j = 11 := by omega
              subst hj'
              go_wp2
              go_ret
              exact ⟨rfl, HS.out.fr⟩
end Go.Proofs.Ytldcjkddalmkcaa
