/-
  Nodes of tries, without the program: their bytes, how they are referred to; items in memory that are references.
-/
import Derived.Test.YtdcocgjlfhicaaaDoorTrE
import Derived.Test.YtdcocgjlfhicaaaDoorJ14
import Derived.Test.YtdcocgjlfhicaaaDoorJ05
import Derived.Laws.ResultCell
namespace Go.Proofs.YtdcocgjlfhicaaaDoor
open Go.ChangeShapes Go.WideShapes Go.ChangeAt Go.RowKit

/-- A node of a trie. -/
inductive Nd where
  | nil : Nd
  | far (h : List Nat) : Nd
  | leaf (p v : List Nat) : Nd
  | stem (p : List Nat) (t : Nd) : Nd
  | fork (c : Nat → Nd) (v : List Nat) : Nd
/-- A message's hash. -/
def hshF (x : List Nat) : List Nat := (List.range 32).map (hashOf x)
theorem hshF_len (x : List Nat) : (hshF x).length = 32 := by unfold hshF; simp
theorem hshF_by (x : List Nat) : By (hshF x) := fun y hy => by
  obtain ⟨i, _, rfl⟩ := List.mem_map.1 hy
  unfold hashOf hb
  omega
/-- A list's bytes. -/
def lstF (x : List Nat) : List Nat := headL 192 x.length ++ x
/-- How an item's bytes are referred to. -/
def shtF (x : List Nat) : List Nat := if x.length < 32 then x else strL (hshF x)
def refE : Nd → List Nat
  | .nil => strL []
  | .far h => strL h
  | .leaf p v => shtF (lstF (strL (packF p true) ++ strL v))
  | .stem p t => shtF (lstF (strL (packF p false) ++ refE t))
  | .fork c v => shtF (lstF ((List.range 16).flatMap (fun i => refE (c i)) ++ strL v))
/-- A node's own bytes. -/
def encN : Nd → List Nat
  | .nil => strL []
  | .far h => strL h
  | .leaf p v => lstF (strL (packF p true) ++ strL v)
  | .stem p t => lstF (strL (packF p false) ++ refE t)
  | .fork c v => lstF ((List.range 16).flatMap (fun i => refE (c i)) ++ strL v)
/-- An item's height is so much at most. -/
def hgt : (n : Nat) → Tr n → Nat → Prop
  | 0, _, _ => False
  | _ + 1, _, 0 => False
  | n + 1, t, k + 1 => ∀ c ∈ tK t, hgt n c k
/-- Lists have no bytes, strings no items. -/
def okT : (n : Nat) → Tr n → Prop
  | 0, _ => True
  | n + 1, t => ((tL t = true ∧ tB t = []) ∨ (tL t = false ∧ tK t = [])) ∧ ∀ c ∈ tK t, okT n c
theorem bad_ok : ∀ (n : Nat) (t : Tr n) (k e : Nat), okT n t → hgt n t k → e + k ≤ 17 → bad n e t = 0
  | 0, _, _, _, _, h, _ => h.elim
  | _ + 1, _, 0, _, _, h, _ => h.elim
  | n + 1, t, k + 1, e, h1, h2, h3 => by
    unfold bad
    rw [if_neg (by omega), if_neg (by
      rintro (⟨a, b⟩ | ⟨a, b⟩)
      · rcases h1.1 with ⟨_, c⟩ | ⟨c, _⟩
        · exact b c
        · rw [c] at a; cases a
      · rcases h1.1 with ⟨c, _⟩ | ⟨_, c⟩
        · rw [c] at a; cases a
        · exact b c)]
    exact firstBad_zero.2 fun c hc => bad_ok n c k (e + 1) (h1.2 c hc) (h2 c hc) (by omega)
/-- The deepest level is left out. -/
def low : (n : Nat) → Tr (n + 1) → Tr n
  | 0, _ => ()
  | n + 1, t => mkT (tL t) (tB t) ((tK t).map (low n))
theorem low_hgt : ∀ (n : Nat) (t : Tr (n + 1)) (k : Nat), hgt (n + 1) t k → k ≤ n → hgt n (low n t) k
  | 0, _, 0, h, _ => h.elim
  | 0, _, k + 1, _, h => by omega
  | _ + 1, _, 0, h, _ => h.elim
  | n + 1, t, k + 1, h, hk => fun c hc => by
    obtain ⟨c', h1, rfl⟩ := List.mem_map.1 hc
    exact low_hgt n c' k (h c' h1) (by omega)
theorem low_ok : ∀ (n : Nat) (t : Tr (n + 1)), okT (n + 1) t → okT n (low n t)
  | 0, _, _ => trivial
  | n + 1, t, h => ⟨by
      rcases h.1 with ⟨a, b⟩ | ⟨a, b⟩
      · exact .inl ⟨a, b⟩
      · exact .inr ⟨a, by show (tK t).map (low n) = []; rw [b]; rfl⟩, fun c hc => by
    obtain ⟨c', h1, rfl⟩ := List.mem_map.1 hc
    exact low_ok n c' (h.2 c' h1)⟩
theorem low_by : ∀ (n : Nat) (t : Tr (n + 1)), byT (n + 1) t → byT n (low n t)
  | 0, _, _ => trivial
  | n + 1, t, h => ⟨h.1, fun c hc => by
    obtain ⟨c', h1, rfl⟩ := List.mem_map.1 hc
    exact low_by n c' (h.2 c' h1)⟩
theorem low_enc : ∀ (n : Nat) (t : Tr (n + 1)) (k : Nat), hgt (n + 1) t k → k ≤ n → enc n (low n t) = enc (n + 1) t
  | 0, _, 0, h, _ => h.elim
  | 0, _, k + 1, _, h => by omega
  | _ + 1, _, 0, h, _ => h.elim
  | n + 1, t, k + 1, h, hk => by
    have e : ((tK t).map (low n)).flatMap (enc n) = (tK t).flatMap (enc (n + 1)) := by
      rw [List.flatMap_map]
      have : ∀ (l : List (Tr (n + 1))), (∀ c ∈ l, hgt (n + 1) c k) → l.flatMap (fun c => enc n (low n c)) = l.flatMap (enc (n + 1)) := by
        intro l
        induction l with
        | nil => intro _; rfl
        | cons c l ih =>
          intro hl
          simp only [List.flatMap_cons]
          rw [low_enc n c k (hl c (by simp)) (by omega), ih (fun d hd => hl d (by simp [hd]))]
      exact this (tK t) h
    show (if tL t = true then headL 192 (((tK t).map (low n)).flatMap (enc n)).length ++ ((tK t).map (low n)).flatMap (enc n) else strL (tB t)) = if tL t = true then headL 192 ((tK t).flatMap (enc (n + 1))).length ++ (tK t).flatMap (enc (n + 1)) else strL (tB t)
    rw [e]
theorem low_cnt : ∀ (n : Nat) (t : Tr (n + 1)), cnt n (low n t) ≤ cnt (n + 1) t
  | 0, _ => Nat.zero_le _
  | n + 1, t => by
    show 1 + (((tK t).map (low n)).map (cnt n)).sum ≤ 1 + ((tK t).map (cnt (n + 1))).sum
    have : ∀ (l : List (Tr (n + 1))), ((l.map (low n)).map (cnt n)).sum ≤ (l.map (cnt (n + 1))).sum := by
      intro l
      induction l with
      | nil => exact Nat.le_refl _
      | cons c l ih =>
        simp only [List.map_cons, List.sum_cons]
        have := low_cnt n c
        omega
    have := this (tK t)
    omega
theorem IsV.low : ∀ {n : Nat} {w : World} {v : Value} {t : Tr (n + 1)}, IsV w (n + 1) v t → IsV w n v (low n t)
  | 0, w, v, t, h => h.agg
  | n + 1, w, v, t, h => by
    obtain ⟨bs, ka, kc, h1, h2, h3, h4, h5, h6, h7⟩ := h
    refine ⟨bs, ka, kc, by show v = .agg #[.bool (tL t), bs, .slice ka ((tK t).map (Go.Proofs.YtdcocgjlfhicaaaDoor.low n)).length kc]; rw [List.length_map]; exact h1, h2, h3, h4, by show ((tK t).map (Go.Proofs.YtdcocgjlfhicaaaDoor.low n)).length ≤ kc; rw [List.length_map]; exact h5, by show ((tK t).map (Go.Proofs.YtdcocgjlfhicaaaDoor.low n)).length ≤ _; rw [List.length_map]; exact h6, fun h0 => ?_⟩
    have h0' : 0 < (tK t).length := by
      have h9 : 0 < ((tK t).map (Go.Proofs.YtdcocgjlfhicaaaDoor.low n)).length := h0
      rwa [List.length_map] at h9
    obtain ⟨kb, ko, e, h8⟩ := h7 h0'
    refine ⟨kb, ko, e, fun j k hj => ?_⟩
    have hj' : ((tK t).map (Go.Proofs.YtdcocgjlfhicaaaDoor.low n))[j]? = some k := hj
    rw [List.getElem?_map] at hj'
    cases hk : (tK t)[j]? with
    | none => rw [hk] at hj'; cases hj'
    | some k' =>
      rw [hk] at hj'
      simp at hj'
      subst hj'
      obtain ⟨l, b', i', c1, c2, c3, c4⟩ := h8 j k' hk
      exact ⟨l, b', i', c1, c2, c3, c4.low⟩
/-- A value that is an item with these bytes, of such a height, of so many items. -/
def ItV (n : Nat) (w : World) (v : Value) (x : List Nat) (d c : Nat) : Prop := ∃ t : Tr n, IsV w n v t ∧ enc n t = x ∧ byT n t ∧ okT n t ∧ hgt n t d ∧ cnt n t ≤ c
theorem ItV.fr {n : Nat} {w w' : World} {v : Value} {x : List Nat} {d c : Nat} (h : ItV n w v x d c) (f : Fr [] w w') : ItV n w' v x d c := by
  obtain ⟨t, h1, h2⟩ := h
  exact ⟨t, h1.fr f, h2⟩
theorem ItV.low {n : Nat} {w : World} {v : Value} {x : List Nat} {d c : Nat} (h : ItV (n + 1) w v x d c) (hd : d ≤ n) : ItV n w v x d c := by
  obtain ⟨t, h1, h2, h3, h4, h5, h6⟩ := h
  exact ⟨_, h1.low, by rw [low_enc n t d h5 hd, h2], low_by n t h3, low_ok n t h4, low_hgt n t d h5 hd, Nat.le_trans (low_cnt n t) h6⟩
end Go.Proofs.YtdcocgjlfhicaaaDoor
namespace Go.Proofs.YtdcocgjlfhicaaaDoor
open Go.ChangeShapes Go.WideShapes Go.ChangeAt Go.RowKit

theorem slice_allT (T : TypeId) (n : Nat) (hn : Tryd.prog.arrayLen T = n) (he : ∀ w, (sizeOf (Tryd.prog.elem T)).run Tryd.prog w = .ok 1 w) (hu : Tryd.prog.underlying T = some (.array (Tryd.prog.arrayLen T) (Tryd.prog.elem T))) (w : World) (p o : Nat) : (Instr.sliceAt T (.pointer (some ⟨p, o, none⟩)) none none none).run Tryd.prog w = .ok (.slice (some ⟨p, o, none⟩) n n) w := by
  have := run_sliceAt_array_all (P := Tryd.prog) w T ⟨p, o, none⟩ hu
  rw [this, he, hn]
  simp only [Result.andThen_ok, slicedAt, Nat.zero_mul, Nat.sub_zero]
  split
  · rfl
  · rw [Addr.add_lit, Nat.add_zero]
theorem alenF : Tryd.prog.arrayLen 111 = 32 := by kernel_rfl
theorem elemF (w : World) : (sizeOf (Tryd.prog.elem 111)).run Tryd.prog w = .ok 1 w := by kernel_rfl
theorem ItV.str {n : Nat} {w : World} {bs : Value} {b : List Nat} (h : Rd w bs (bv b)) (hb : By b) (hl : b.length ≤ 140737488355328) : ItV (n + 1) w (.agg #[.bool false, bs, .slice none 0 0]) (strL b) 1 1 := by
  refine ⟨mkT false b [], ⟨bs, none, 0, rfl, h, hb, hl, Nat.le_refl _, by simp [tK_mk], fun h0 => by simp [tK_mk] at h0⟩, rfl, ⟨hb, fun k hk => by simp [tK_mk] at hk⟩, ⟨.inr ⟨rfl, rfl⟩, fun k hk => by simp [tK_mk] at hk⟩, fun k hk => by simp [tK_mk] at hk, ?_⟩
  show 1 + ((tK (mkT false b [] : Tr (n + 1))).map (cnt n)).sum ≤ 1
  simp [tK_mk]
theorem ret_cI {fn : Func} {p : Tmp} {ty : TypeId} (h : fn.results = #[.cell p ty]) {tmps : Array Value} {w : World} {g : Nat} {cs : Array Value} (hp : tmps.getD p undef = .pointer (some ⟨g, 0, none⟩)) (hg : (loadVar ty ⟨g, 0, none⟩).run Tryd.prog w = .ok (.agg cs) w) :
    (results fn tmps).run Tryd.prog w = .ok (.agg cs) w := by
  have hp' : tmps[p]?.getD undef = .pointer (some ⟨g, 0, none⟩) := by simpa using hp
  simp [results, h, hp', asAddr, hg]
theorem load_it {w : World} {g : Nat} {a b c : Value} (hg : w.heap[g]? = some (.cells #[a, b, c] 85 (0, 0))) : (loadVar 85 ⟨g, 0, none⟩).run Tryd.prog w = .ok (.agg #[a, b, c]) w := by
  have c0 := blk_cell hg 0
  have c1 := blk_cell hg 1
  have c2 := blk_cell hg 2
  simp at c0 c1 c2
  go_simp
theorem three_set {W : World} {q : Nat} {T : TypeId} {x y z u v t : Value} (h : W.heap[q]? = some (.cells #[x, y, z] T (0, 0))) : (((W.setCell ⟨q, 0, none⟩ u).setCell ⟨q, 1, none⟩ v).setCell ⟨q, 2, none⟩ t).heap[q]? = some (.cells #[u, v, t] T (0, 0)) := by
  have h1 := blk_set h 0 u
  have h2 := blk_set h1 1 v
  have h3 := blk_set h2 2 t
  simpa using h3
set_option maxRecDepth 20000 in
set_option maxHeartbeats 1600000 in
theorem farRef_c (w : World) {l : List Nat} (hl : l.length = 32) :
    Calls Tryd.prog 109 #[.agg (bv l).toArray] w fun e w' => ∃ g, e = .returned (.agg #[.bool false, .slice (some ⟨g, 0, none⟩) 32 32, .slice none 0 0]) ∧ w.heap.size ≤ g ∧ Rd w' (.slice (some ⟨g, 0, none⟩) 32 32) (bv l) ∧ Fr [] w w' := by
  obtain ⟨W, hW⟩ : ∃ W, W = (w.alloc (.cells (bv l).toArray 111)).alloc (.cells #[.bool false, .slice none 0 0, .slice none 0 0] 85) := ⟨_, rfl⟩
  have F : Hid (Fr [] w W) := hid (by rw [hW]; exact ((Fr.refl _ w).alloc _).alloc _)
  have X : Hid (W.heap[w.heap.size]? = some (.cells (bv l).toArray 111 (0, 0))) := hid (by rw [hW, blk_old _ _ (by simp)]; exact blk_new _ _)
  have Y : Hid (W.heap[w.heap.size + 1]? = some (.cells #[.bool false, .slice none 0 0, .slice none 0 0] 85 (0, 0))) := hid (by rw [hW]; exact new_at _ _ (by simp))
  have s2 := slice_allT 111 32 alenF elemF (by kernel_rfl) W w.heap.size 0
  go_enter Tryd.func109, Tryd.ntmps109
  go_upto_region 1 with fail
  rw [← hW]
  clear hW
  have y0 := blk_cell Y.out 0
  have y1 := blk_cell Y.out 1
  have y2 := blk_cell Y.out 2
  have z0 := blk_frozen Y.out 0
  have z1 := blk_frozen Y.out 1
  have z2 := blk_frozen Y.out 2
  simp at y0 y1 y2
  have T3 := hid (three_set (u := .bool false) (v := .slice (some ⟨w.heap.size, 0, none⟩) 32 32) (t := .slice none 0 0) Y.out)
  have FT : Hid (Fr [] w (((W.setCell ⟨w.heap.size + 1, 0, none⟩ (.bool false)).setCell ⟨w.heap.size + 1, 1, none⟩ (.slice (some ⟨w.heap.size, 0, none⟩) 32 32)).setCell ⟨w.heap.size + 1, 2, none⟩ (.slice none 0 0))) := hid (((F.out.set _ _ (.inr (by omega))).set _ _ (.inr (by omega))).set _ _ (.inr (by omega)))
  have XT : Hid ((((W.setCell ⟨w.heap.size + 1, 0, none⟩ (.bool false)).setCell ⟨w.heap.size + 1, 1, none⟩ (.slice (some ⟨w.heap.size, 0, none⟩) 32 32)).setCell ⟨w.heap.size + 1, 2, none⟩ (.slice none 0 0)).heap[w.heap.size]? = some (.cells (bv l).toArray 111 (0, 0))) := hid (by rw [blk_setne _ _ _ (by omega), blk_setne _ _ _ (by omega), blk_setne _ _ _ (by omega)]; exact X.out)
  go_wp2
  refine bodyPost_ret (ret_cI rfl rfl (load_it T3.out)) rfl ?_
  refine ⟨w.heap.size, rfl, Nat.le_refl _, .inr ⟨_, 32, by rw [bv_len, hl], by rw [bv_len, hl]; exact Nat.le_refl _, fun j u hj => ?_⟩, FT.out⟩
  rw [Addr.add_lit, Nat.zero_add, blk_cell XT.out, ← Array.getElem?_toList]
  exact hj
end Go.Proofs.YtdcocgjlfhicaaaDoor
namespace Go.Proofs.YtdcocgjlfhicaaaDoor
open Go.ChangeShapes Go.WideShapes Go.ChangeAt Go.RowKit

theorem store3 {W : World} {g : Nat} {x y z a b c : Value} {T : TypeId} (h : W.heap[g]? = some (.cells #[x, y, z] T (0, 0))) : (((W.setCell ⟨g, 0, none⟩ a).setCell ⟨g, 1, none⟩ b).setCell ⟨g, 2, none⟩ c).heap[g]? = some (.cells #[a, b, c] T (0, 0)) := by
  rw [blk_set (blk_set (blk_set h 0 a) 1 b) 2 c]; rfl
theorem fr3 {w W : World} {g : Nat} (h : Fr [] w W) (hg : w.heap.size ≤ g) (a b c : Value) : Fr [] w (((W.setCell ⟨g, 0, none⟩ a).setCell ⟨g, 1, none⟩ b).setCell ⟨g, 2, none⟩ c) :=
  ((h.set _ _ (.inr hg)).set _ _ (.inr hg)).set _ _ (.inr hg)
theorem sizeItem : (Tryd.prog.info? 85).map (·.size) = some 3 := by kernel_rfl
theorem load_item {w : World} {g : Nat} {a b c : Value} {t : TypeId} (hg : w.heap[g]? = some (.cells #[a, b, c] t (0, 0))) : (loadVar 85 ⟨g, 0, none⟩).run Tryd.prog w = .ok (.agg #[a, b, c]) w :=
  run_loadVar_row w g t 85 #[a, b, c] (0, 0) _ hg Tryd.underlying85 rfl sizeItem
theorem sizePart : (Tryd.prog.info? 171).map (·.size) = some 3 := by kernel_rfl
theorem load_part {w : World} {g : Nat} {a b c : Value} {t : TypeId} (hg : w.heap[g]? = some (.cells #[a, b, c] t (0, 0))) : (loadVar 171 ⟨g, 0, none⟩).run Tryd.prog w = .ok (.agg #[a, b, c]) w :=
  run_loadVar_row w g t 171 #[a, b, c] (0, 0) _ hg Tryd.underlying171 rfl sizePart
theorem ret_ct {fn : Func} {p u : Tmp} {ty : TypeId} (h : fn.results = #[.cell p ty, .tmp u]) {tmps : Array Value} {w : World} {g : Nat} {cs : Array Value} (hp : tmps.getD p undef = .pointer (some ⟨g, 0, none⟩)) (hg : (loadVar ty ⟨g, 0, none⟩).run Tryd.prog w = .ok (.agg cs) w) :
    (results fn tmps).run Tryd.prog w = .ok (.tuple #[.agg cs, tmps.getD u undef]) w := by
  rw [results_cell_tmp h, hp]
  simp [asAddr, hg]
theorem ret_ctt {fn : Func} {p u v : Tmp} {ty : TypeId} (h : fn.results = #[.cell p ty, .tmp u, .tmp v]) {tmps : Array Value} {w : World} {g : Nat} {cs : Array Value} (hp : tmps.getD p undef = .pointer (some ⟨g, 0, none⟩)) (hg : (loadVar ty ⟨g, 0, none⟩).run Tryd.prog w = .ok (.agg cs) w) :
    (results fn tmps).run Tryd.prog w = .ok (.tuple #[.agg cs, tmps.getD u undef, tmps.getD v undef]) w := by
  have hp' : tmps[p]?.getD undef = .pointer (some ⟨g, 0, none⟩) := by simpa using hp
  simp [results, h, hp', asAddr, hg]
end Go.Proofs.YtdcocgjlfhicaaaDoor
