/-
  What Sync answers, and the statements' own comparison of bytes; pending writes whose bytes lie apart from some blocks.
-/
import Derived.Test.YtiiielhhddfdpaaM
namespace Go.Proofs.Ytiiielhhddfdpaa
open Go.ChangeShapes Go.WideShapes Go.ChangeAt Go.RowKit

theorem Rd.fr {w w' : World} {v : Value} {xs : List Value} (h : Rd w v xs) (hf : Fr [] w w') : Rd w' v xs := by
  rcases h with h | ⟨a, c, rfl, h4, h5⟩
  · exact .inl h
  · refine .inr ⟨a, c, rfl, h4, fun j u hj => ?_⟩
    have h6 := h5 j u hj
    rw [World.cell?_of_block (w := w) (hf.block _ (World.block_lt_of_cell? w _ h6) (by simp))]; exact h6
theorem add_block (a : Addr) (j : Nat) : (a.add j).block = a.block := by unfold Addr.add; split <;> rfl
theorem Rd.lt {w : World} {a : Addr} {n c : Nat} {xs : List Value} (h : Rd w (.slice (some a) n c) xs) (hx : 0 < xs.length) : a.block < w.heap.size := by
  rcases h with ⟨h, _⟩ | ⟨a', c', h, _, h5⟩
  · cases h
  · cases h
    have := World.block_lt_of_cell? w _ (h5 0 xs[0] (by simp [hx]))
    rwa [add_block] at this
theorem Rd.form {w : World} {v : Value} {xs : List Value} (h : Rd w v xs) : ∃ a c, v = .slice a xs.length c := by
  rcases h with ⟨rfl, rfl⟩ | ⟨a, c, rfl, _, _⟩
  · exact ⟨_, _, rfl⟩
  · exact ⟨_, _, rfl⟩

set_option maxHeartbeats 400000 in
theorem sync_c {w : World} {b m0 m1 : Nat} {cap used made cnt : Int} {pv : Value} (h : DB w b cap m0 m1 pv used made cnt 0 (-1) false) (h0 : 0 ≤ cnt) (h1 : cnt < 1000000)
    {es : Array MapEntry} {clk : Nat} {s : ByteArray} {fb : Nat} (hm : w.heap[m0]? = some (.map es clk)) (hs : SK es.toList) (hv : lk es.toList s = some (.pointer (some ⟨fb, 0, none⟩))) (hn : isNm s = true) (hl : s.size ≤ maxLen)
    {num : Int} {sv uv fpv : Value} {sure ps : List Value} {xs : List (List Value)} (hf : FB w fb num sv uv fpv) (ho : w.ownsRow 0 5 1 uv sure.length sure)
    (hp : w.ownsRow 0 130 1 fpv ps.length ps) (hw : PW w uv.ownBlock fb sure.length ps xs) (hx1 : sure.length + xs.flatten.length ≤ 100000000) (hp1 : ps.length ≤ 1000000) :
    Calls Try.prog 21 #[.pointer (some ⟨b, 0, none⟩), .string s] w fun e w' => e = .returned (.int .i64 0) ∧ ∃ uv', DB w' b cap m0 m1 pv used made (cnt + 1) 0 (-1) false ∧ FB w' fb num sv uv' (.slice none 0 0) ∧
      w'.ownsRow 0 5 1 uv' (sure ++ xs.flatten).length (sure ++ xs.flatten) ∧ Fr (b :: fb :: uv.ownBlock.toList) w w' ∧ (uv'.ownBlock = uv.ownBlock ∨ ∃ k, uv'.ownBlock = some k ∧ w.heap.size ≤ k) := by
  have H := hid h
  have HM := hid hm
  have HS := hid hs
  have HV := hid hv
  have HC : Hid (∀ W, Fr [b] w W → FB W fb num sv uv fpv ∧ W.ownsRow 0 5 1 uv sure.length sure ∧ W.ownsRow 0 130 1 fpv ps.length ps ∧ PW W uv.ownBlock fb sure.length ps xs) := fun W hF => carry h hF hf ho hp hw
  have HO := hid ho
  clear h hm hs hv hf ho hp hw
  go_enter Try.func21, Try.ntmps21
  go_wp2_with fail
  refine (beginOn_some H.out h0 h1 HM.out HS.out HV.out hn hl).mono ?_
  rintro e w1 ⟨rfl, d1, f1⟩
  have C1 := hid (HC.out w1 f1)
  have D1 := hid d1
  have F1 := hid f1
  clear d1 f1
  go_wp2_with fail
  refine (settle_writes C1.out.1 C1.out.2.1 C1.out.2.2.1 C1.out.2.2.2 _ (by omega) (by omega) hx1 hp1).mono ?_
  rintro e w2 ⟨rfl, uv', g1, g2, g3, g4⟩
  have G := hid (And.intro g1 (And.intro g2 (And.intro g3 g4)))
  clear g1 g2 g3 g4
  go_wp2
  go_ret
  obtain ⟨g1, g2, g3, g4⟩ := G.out
  rw [List.take_of_length_le (by omega)] at g2
  have hsz := F1.out.size
  refine ⟨rfl, uv', g3.at D1.out ?_, g1, g2, (F1.out.mono (by simp)).trans (g3.mono fun k hk => List.mem_cons_of_mem _ hk), ?_⟩
  · intro e
    simp only [List.mem_cons, Option.mem_toList] at e
    rcases e with e | e
    · exact notin_types D1.out C1.out.1 (by simp) e
    · exact ownsRow_ne C1.out.2.1 D1.out (by decide) e
  · rcases g4 with g | ⟨k, hk, hk2⟩
    · exact .inl g
    · exact .inr ⟨k, hk, by omega⟩

/-- The text of a row of bytes. -/
def strOf (xs : List Value) : ByteArray := xs.foldl (fun r v => r.push (UInt8.ofNat (intOf v).toNat)) ByteArray.empty

theorem bts_ints {xs : List Value} (h : Bts xs) : ∃ ns : List Int, xs = ns.map (Value.int .u8) := by
  induction xs with
  | nil => exact ⟨[], rfl⟩
  | cons x r ih =>
    obtain ⟨n, rfl⟩ := h x (by simp)
    obtain ⟨ns, hns⟩ := ih (fun u hu => h u (by simp [hu]))
    exact ⟨n :: ns, by rw [hns]; rfl⟩

theorem run_conv {w : World} {v : Value} {xs : List Value} (h : Rd w v xs) (hb : Bts xs) : (convert 32 9 v).run Try.prog w = .ok (.string (strOf xs)) w := by
  rcases h with ⟨rfl, rfl⟩ | ⟨a, c, rfl, _, h5⟩
  · rw [run_convert_bytes_string w 32 9 5 _ _ _ Try.underlying32 Try.underlying5 Try.underlying9]; rfl
  · obtain ⟨ns, rfl⟩ := bts_ints hb
    rw [run_convert_bytes_string w 32 9 5 _ _ _ Try.underlying32 Try.underlying5 Try.underlying9, run_bytesToString w a _ c ns (run_loadCells_list (P := Try.prog) w a _ h5)]
    simp [strOf, List.foldl_map, intOf]

theorem ba_beq (s : ByteArray) : (s == s) = true := by
  show ByteArray.beq s s = true
  simp [ByteArray.beq]

set_option maxHeartbeats 400000 in
theorem bytes_same {w : World} {v1 v2 : Value} {xs : List Value} (h1 : Rd w v1 xs) (h2 : Rd w v2 xs) (hb : Bts xs) :
    Calls Try.prog 24 #[v1, v2] w fun e w' => e = .returned (.bool true) ∧ w' = w := by
  have e1 := run_conv h1 hb
  have e2 := run_conv h2 hb
  have e3 := ba_beq (strOf xs)
  obtain ⟨a1, c1, rfl⟩ := h1.form
  obtain ⟨a2, c2, rfl⟩ := h2.form
  clear h1 h2 hb
  go_enter Try.func24, Try.ntmps24
  go_wp2
  go_ret
  exact ⟨ret_bool (by simp), rfl⟩

/-- Pending writes of a file, whose bytes lie in rows of their own, none of them in a block of V. -/
def PX (w : World) (V : Nat → Prop) (fb : Nat) : Nat → List Value → List (List Value) → Prop
  | _, [], [] => True
  | n, p :: ps, x :: xs => (∃ bv, p = wrt fb n bv ∧ w.ownsRow 0 5 1 bv x.length x ∧ ∀ k, bv.ownBlock = some k → ¬ V k) ∧ 0 < x.length ∧ Bts x ∧ PX w V fb (n + x.length) ps xs
  | _, _, _ => False

theorem PX.pw {w : World} {V : Nat → Prop} {U : Option Nat} {fb : Nat} (hU : ∀ k, U = some k → V k) : ∀ {n : Nat} {ps : List Value} {xs : List (List Value)}, PX w V fb n ps xs → PW w U fb n ps xs
  | _, [], [], _ => trivial
  | _, [], _ :: _, h => h.elim
  | _, _ :: _, [], h => h.elim
  | n, p :: ps, x :: xs, h => by
    obtain ⟨⟨bv, h1, h2, h3⟩, h4, h5, h6⟩ := h
    exact ⟨⟨bv, h1, h2, fun k hk e => h3 k hk (hU k e)⟩, h4, h5, PX.pw hU h6⟩

theorem PX.keep {w w' : World} {V V' : Nat → Prop} {fb : Nat} {S : List Nat} (hf : Fr S w w') (hS : ∀ k ∈ S, V k ∨ ∀ v n x, w.ownsRow 0 5 1 v n x → v.ownBlock ≠ some k) (hV : ∀ k, k < w.heap.size → V' k → V k) :
    ∀ {n : Nat} {ps : List Value} {xs : List (List Value)}, PX w V fb n ps xs → PX w' V' fb n ps xs
  | _, [], [], _ => trivial
  | _, [], _ :: _, h => h.elim
  | _, _ :: _, [], h => h.elim
  | n, p :: ps, x :: xs, h => by
    obtain ⟨⟨bv, h1, h2, h3⟩, h4, h5, h6⟩ := h
    refine ⟨⟨bv, h1, ownsRow_of_block h2 fun k hk => hf.block k (h2.lt k hk).2 (fun e => ?_), fun k hk e => h3 k hk (hV k (h2.lt k hk).2 e)⟩, h4, h5, PX.keep hf hS hV h6⟩
    rcases hS k e with h | h
    · exact h3 k hk h
    · exact h _ _ _ h2 hk

theorem PX.snoc {w : World} {V : Nat → Prop} {fb : Nat} {bv : Value} {x : List Value} (hb : w.ownsRow 0 5 1 bv x.length x) (hk : ∀ k, bv.ownBlock = some k → ¬ V k) (hx : 0 < x.length) (hx2 : Bts x) :
    ∀ {n : Nat} {ps : List Value} {xs : List (List Value)}, PX w V fb n ps xs → PX w V fb n (ps ++ [wrt fb (n + xs.flatten.length : Nat) bv]) (xs ++ [x])
  | n, [], [], _ => ⟨⟨bv, by simp, hb, hk⟩, hx, hx2, trivial⟩
  | _, [], _ :: _, h => h.elim
  | _, _ :: _, [], h => h.elim
  | n, p :: ps, y :: xs, h => by
    refine ⟨h.1, h.2.1, h.2.2.1, ?_⟩
    have := PX.snoc hb hk hx hx2 h.2.2.2
    rw [show n + y.length + xs.flatten.length = n + (y :: xs).flatten.length from by simp [Nat.add_assoc]] at this
    exact this
end Go.Proofs.Ytiiielhhddfdpaa
