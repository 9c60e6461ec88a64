/-
  DiskTorn's round and its end: an Append, the copy grown, what a Restart leaves.
-/
import Derived.Test.YtiiielhhddfdpaaR2
namespace Go.Proofs.Ytiiielhhddfdpaa
open Go.ChangeShapes Go.WideShapes Go.ChangeAt Go.RowKit

theorem wpList_append_rd {w : World} {ops : Array Oper} {rest : List Oper} {o : Oper} {a : Act} {Q : Exit → Act → World → Prop} (hgd : o.guard = none) (s x : Operand)
    (ho : o.op = .call { callee := .builtin .append, args := #[s, x], argTypes := #[32, 32] }) (v : Value) (n : Nat) (xs : List Value) (hs : a.eval s = v) (hown : w.ownsRow 0 5 1 v n xs) (sx : Value) (news : List Value) (hx : a.eval x = sx) (hr : Rd w sx news) (hb : Bts news)
    (hl : n + news.length ≤ 100000000)
    (h : ∀ v' w', w'.ownsRow 0 5 1 v' (n + news.length) (xs ++ news) → w.grownBy w' v.ownBlock → (v'.ownBlock = v.ownBlock ∨ v'.ownBlock = some w.heap.size) → wpList Try.prog ops Q rest (a.put o.dst v') w') :
    wpList Try.prog ops Q (o :: rest) a w := by
  obtain ⟨i0, hi, hz0, hz1, hz2⟩ := info_parts infoB
  rcases hr with ⟨rfl, rfl⟩ | ⟨ad, c, rfl, h4, h5⟩
  · exact wpList_append_own_none hgd s x 32 ho 0 5 i0 1 Try.underlying32 hi v n xs hs hown hx (h v w (by simpa using hown) ⟨rfl, rfl, rfl, Nat.le_refl _, fun _ _ _ => rfl⟩ (.inl rfl))
  · exact wpList_append_own_at w hgd s x 32 ho 0 5 i0 (.int .u8 0) 1 1 Try.underlying32 hi hz0 hz1 hz2 rfl (by decide) v n xs hs hown ad news.length c news hx (by simp) h5 hb.one (by unfold maxLen; omega) (by omega) (by omega) fun v' w' h1 h2 _ h3 => h v' w' h1 h2 h3

theorem ti_start {w0 w w' : World} {b m0 m1 fb : Nat} {sure : List Value} {av : Value} (h : P6 w0 w b m0 m1 fb sure) (hav : w'.ownsRow 0 5 1 av (0 + sure.length) ([] ++ sure)) (hg : w.grownBy w' (Value.slice none 0 0).ownBlock) (hat : av.ownBlock = (Value.slice none 0 0).ownBlock ∨ av.ownBlock = some w.heap.size) :
    ∃ sv uv, TI w0 w' b m0 m1 fb 4 sv uv (.slice none 0 0) av sure [] [] sure := by
  obtain ⟨sv, uv, a1, a2, a3, a4, a5, a6, a7, a8, a9, a10, a11⟩ := h
  have hf : Fr [] w w' := (Fr.refl _ _).grown hg (fun k hk => by simp [Value.ownBlock] at hk)
  have hs := a5.size
  have hn : ∀ k, av.ownBlock = some k → w.heap.size ≤ k := fun k hk => by
    rcases hat with h | h
    · rw [h] at hk; simp [Value.ownBlock] at hk
    · rw [h] at hk; cases hk; omega
  refine ⟨sv, uv, by rw [List.flatten_nil, List.append_nil]; exact hf.at a1 (by simp), hf.at a2 (by simp), hf.at a3 (by simp), hf.at a4 (by simp), ?_, ownsRow_of_block a9 fun k hk => hf.block k (a9.lt k hk).2 (by simp), World.ownsRow_nil _ _ _ _, by simpa using hav, trivial,
    fun k hk => ⟨(a10 k hk).2, fun e => ?_⟩, fun k hk e => ?_, a5.trans hf, a6, a7, fun k hk => ?_⟩
  · have := ownsRow_of_block (w' := w') a8 fun k hk => hf.block k (a8.lt k hk).2 (by simp)
    simpa using this
  · have := hn k e; have := (a8.lt k hk).2; omega
  · have := hn k e; have := (a9.lt k hk).2; omega
  · rcases hk with e | e | e | e
    · exact (a10 k e).1
    · exact a11 k e
    · simp [Value.ownBlock] at e
    · have := hn k e; omega

/-- An Append, whatever its bytes. -/
theorem torn_app {w0 w : World} {b m0 m1 fb : Nat} {cnt : Int} {sv uv fpv av : Value} {sure ps : List Value} {xss : List (List Value)} {allc : List Value} (h : TI w0 w b m0 m1 fb cnt sv uv fpv av sure ps xss allc) (h0 : 0 ≤ cnt) (h1 : cnt < 1000) (hps : ps.length ≤ 1000) (hl : (sure ++ xss.flatten).length ≤ 10000)
    {ba : Option Addr} {bc : Nat} {x : List Value} (hr0 : Rd w0 (.slice ba x.length bc) x) (hb : Bts x) (hxl : x.length ≤ 300) :
    Calls Try.prog 27 #[.pointer (some ⟨b, 0, none⟩), .string ⟨#[120]⟩, .slice ba x.length bc] w fun e w' => e = .returned (.int .i64 0) ∧ ∃ sv' fpv' ps' xss', TI w0 w' b m0 m1 fb (cnt + 1) sv' uv fpv' av sure ps' xss' allc ∧ xss'.flatten = xss.flatten ++ x ∧ ps'.length ≤ ps.length + 1 := by
  have h' := h
  obtain ⟨a1, a2, a3, a4, a5, a6, a7, a8, a9, a10, a11, a12, a13, a14, a15⟩ := h'
  have hr := hr0.fr a12
  have hs := a12.size
  by_cases hx : 0 < x.length
  · refine (append_ok a1 h0 (by omega) a2 (SK_x _) (lk_x _) isNm_x (by decide) a4 a5 a7 hr hb (fun a n c e => ?_) hx (by omega) (by omega) (by omega) (by omega) (by omega) (by omega)).mono ?_
    · cases e; have := Rd.lt hr0 hx; omega
    rintro e w' ⟨rfl, v', pv', bv', c⟩
    exact ⟨rfl, v', pv', _, _, h.app hx hb c, by simp [List.flatten_append], by simp⟩
  · have h0' : x = [] := List.eq_nil_of_length_eq_zero (by omega)
    subst h0'
    obtain ⟨sa, sc, rfl, _⟩ := ownsRow_slice a5
    refine (append_none a1 h0 (by omega) a2 (SK_x _) (lk_x _) isNm_x (by decide) a4 ba bc (by omega)).mono ?_
    rintro e w' ⟨rfl, c1, c2⟩
    refine ⟨rfl, _, fpv, ps, xss, h.move c2 (fun k hk => by simp at hk; exact .inl hk) c1 (ownsRow_of_block a8 fun k hk => c2.block k (a8.lt k hk).2 ?_) (.inl rfl), by simp, by omega⟩
    intro e; simp at e; subst e; exact ownsRow_ne a8 a1 (by decide) hk

/-- The copy grown by as much. -/
theorem TI.all {w0 w w' : World} {b m0 m1 fb : Nat} {cnt : Int} {sv uv fpv av av' : Value} {sure ps : List Value} {xss : List (List Value)} {allc x : List Value} (h : TI w0 w b m0 m1 fb cnt sv uv fpv av sure ps xss allc)
    (hav : w'.ownsRow 0 5 1 av' (allc.length + x.length) (allc ++ x)) (hg : w.grownBy w' av.ownBlock) (hat : av'.ownBlock = av.ownBlock ∨ av'.ownBlock = some w.heap.size) : TI w0 w' b m0 m1 fb cnt sv uv fpv av' sure ps xss (allc ++ x) := by
  have hf : Fr av.ownBlock.toList w w' := (Fr.refl _ _).grown hg (fun k hk => .inl (by rw [hk]; simp))
  refine h.move hf (fun k hk => .inr (by simpa using hk)) (hf.at h.1 ?_) (by rw [List.length_append]; exact hav) ?_
  · intro e; simp only [Option.mem_toList] at e; exact ownsRow_ne h.2.2.2.2.2.2.2.1 h.1 (by decide) e
  · rcases hat with h | h
    · exact .inl h
    · exact .inr ⟨_, h, by omega⟩

theorem TI.alloc {w0 w : World} {b m0 m1 fb : Nat} {cnt : Int} {sv uv fpv av : Value} {sure ps : List Value} {xss : List (List Value)} {allc : List Value} (h : TI w0 w b m0 m1 fb cnt sv uv fpv av sure ps xss allc) (o : Obj) : TI w0 (w.alloc o) b m0 m1 fb cnt sv uv fpv av sure ps xss allc := by
  have hf : Fr [] w (w.alloc o) := (Fr.refl _ _).alloc o
  exact h.move hf (by simp) (hf.at h.1 (by simp)) (h.2.2.2.2.2.2.2.1.alloc o) (.inl rfl)

theorem PX.bts {w : World} {V : Nat → Prop} {fb : Nat} : ∀ {n : Nat} {ps : List Value} {xs : List (List Value)}, PX w V fb n ps xs → Bts xs.flatten
  | _, [], [], _ => fun u hu => by simp at hu
  | _, [], _ :: _, h => h.elim
  | _, _ :: _, [], h => h.elim
  | _, _ :: _, x :: xs, h => fun u hu => by
    rw [List.flatten_cons] at hu
    rcases List.mem_append.1 hu with hu | hu
    · exact h.2.2.1 u hu
    · exact PX.bts h.2.2.2 u hu

/-- Behind a Restart: what the file tells, and the copy. -/
theorem torn_restart {w0 w : World} {b m0 m1 fb : Nat} {cnt : Int} {sv uv fpv av : Value} {sure ps : List Value} {xss : List (List Value)} {allc : List Value} (h : TI w0 w b m0 m1 fb cnt sv uv fpv av sure ps xss allc) (hps : ps.length ≤ 1000) (hl : (sure ++ xss.flatten).length ≤ 10000) (hsb : Bts sure)
    (n : Int) (hn1 : n ≤ 9223372036854775807) :
    Calls Try.prog 15 #[.pointer (some ⟨b, 0, none⟩), .agg #[.int .i64 0, .slice (some ⟨w.heap.size, 0, none⟩) 1 1]] (w.alloc (.cells #[.int .i64 n] 3)) fun e w' => e = .returned (.tuple #[]) ∧ ∃ m0' sv' uv',
      DB w' b 1048576 m0' m1 (.slice none 0 0) (sure ++ xss.flatten.take n.toNat).length 1 cnt 0 (-1) false ∧ w'.heap[m0']? = some (.map (esX fb) 1) ∧ FB w' fb 0 sv' uv' (.slice none 0 0) ∧ w'.ownsRow 0 5 1 sv' (sure ++ xss.flatten.take n.toNat).length (sure ++ xss.flatten.take n.toNat) ∧
      w'.ownsRow 0 5 1 av allc.length allc ∧ Fr [] w0 w' := by
  have hA := h.alloc (.cells #[.int .i64 n] 3)
  obtain ⟨a1, a2, a3, a4, a5, a6, a7, a8, a9, a10, a11, a12, a13, a14, a15⟩ := hA
  have hbl := blk_lt h.1
  rw [List.length_append] at hl
  refine (restart_one a1 a3 a4 a6 a7 (a9.pw fun k hk => .inr (.inl hk)) (by omega) (by omega) (fun u hu => ?_) n w.heap.size hn1 (by rw [blk_cell (blk_new _ _)]; rfl) (by omega)).mono ?_
  · rcases List.mem_append.1 hu with hu | hu
    · exact hsb u hu
    · exact a9.bts u hu
  rintro e w' ⟨rfl, m0', sv', uv', c1, c2, c3, c4, _, c6⟩
  refine ⟨rfl, m0', sv', uv', c1, c2, c3, c4, ownsRow_of_block a8 fun k hk => c6.block k (a8.lt k hk).2 fun e => ?_, a12.trans' c6 fun x hx hlt => ?_⟩
  · simp only [List.mem_cons, Option.mem_toList] at e
    rcases e with rfl | rfl | e
    · exact ownsRow_ne a8 a1 (by decide) hk
    · exact ownsRow_ne a8 a4 (by decide) hk
    · exact a11 k e hk
  · simp only [List.mem_cons, Option.mem_toList] at hx
    rcases hx with e | e | e
    · omega
    · omega
    · have := a15 x (.inr (.inl e)); omega

theorem take_min (a f : List Value) (m : Nat) : a ++ f.take m = (a ++ f).take (a.length + min m f.length) := by
  rw [List.take_append, List.take_of_length_le (l := a) (by omega), Nat.add_sub_cancel_left]
  congr 1
  rw [List.take_eq_take_iff]; omega

theorem Rd.take {w : World} {aa : Option Addr} {c : Nat} {allc : List Value} (h : w.ownsRow 0 5 1 (.slice aa allc.length c) allc.length allc) {q : Nat} (hq : q ≤ allc.length) : Rd w (.slice aa q c) (allc.take q) := by
  have hl : (allc.take q).length = q := by rw [List.length_take]; omega
  rcases h.2 with ⟨e, e2⟩ | ⟨g, cap, cur, e, _, h3, h4, _⟩
  · simp only [Value.slice.injEq] at e
    obtain ⟨rfl, _, rfl⟩ := e
    have : q = 0 := by omega
    subst this
    exact .inl ⟨rfl, rfl⟩
  · cases e
    refine .inr ⟨_, _, by rw [hl], by omega, fun j u hj => ?_⟩
    rw [List.getElem?_take] at hj
    split at hj
    · exact h.cells rfl j u hj
    · cases hj
end Go.Proofs.Ytiiielhhddfdpaa
