/- A disk that shall fail; rows of numbers of the law's own. -/
import Derived.Test.YtldkeelgnfegeaaGreatMFlH
import Derived.Test.YtldkeelgnfegeaaGreatBodyR
import Derived.Maps.AppendAt

namespace Go.Proofs.YtldkeelgnfegeaaGreat
open Go Go.RowKit Go.By

/-- Numbers, in a row of the law's own. -/
def intsOf (l : List Nat) : List Value := l.map fun (n : Nat) => Value.int .i64 (n : Int)
structure IRow (W : World) (g : Nat) (e : TypeId) (v : Value) (l : List Nat) (own : Own) (w : World) : Prop where
  owns : w.ownsRow W.heap.size e 1 v l.length (intsOf l)
  free : ∀ k, v.ownBlock = some k → own k = none ∧ k ≠ g
theorem IRow.lt {W w : World} {g : Nat} {e : TypeId} {v : Value} {l : List Nat} {own : Own} (h : IRow W g e v l own w) : ∀ k, v.ownBlock = some k → W.heap.size ≤ k ∧ k < w.heap.size := fun k hk => h.owns.lt k hk
theorem IRow.nil (W : World) (g : Nat) (e : TypeId) (own : Own) (w : World) : IRow W g e (.slice none 0 0) [] own w := ⟨World.ownsRow_nil _ _ _ _, fun k hk => (by cases hk)⟩
theorem ownsRow_heap {w w' : World} {base : Nat} {e : TypeId} {v : Value} {n : Nat} {xs : List Value} (h : w.ownsRow base e 1 v n xs) (hb : ∀ k, v.ownBlock = some k → w'.heap[k]? = w.heap[k]?) : w'.ownsRow base e 1 v n xs := by
  refine ⟨h.1, ?_⟩
  rcases h.2 with hn | ⟨g, cap, cur, rfl, h1, h2, rest⟩
  · exact .inl hn
  · exact .inr ⟨g, cap, cur, rfl, h1, (hb g rfl).trans h2, rest⟩
theorem IRow.moves {W w w' : World} {g : Nat} {e : TypeId} {v : Value} {l : List Nat} {own own' : Own} (h : IRow W g e v l own w) (hm : Moves g own own' w w') : IRow W g e v l own' w' :=
  ⟨ownsRow_heap h.owns fun k hk => hm.block k (h.lt k hk).2 (h.free k hk).2 (.inl (h.free k hk).1), fun k hk => ⟨(hm.same k (h.lt k hk).2).trans (h.free k hk).1, (h.free k hk).2⟩⟩
theorem IRow.steps {W w w' : World} {g : Nat} {e : TypeId} {v : Value} {l : List Nat} {own own' : Own} (h : IRow W g e v l own w) (hs : Steps own own' w w') : IRow W g e v l own' w' := h.moves (hs.moves g)
theorem IRow.stay {W w w' : World} {g : Nat} {e : TypeId} {v : Value} {l : List Nat} {own : Own} (h : IRow W g e v l own w) (hb : Below w.heap.size w w') : IRow W g e v l own w' := h.steps (Steps.of_below hb)
theorem IRow.shape {W w : World} {g : Nat} {e : TypeId} {v : Value} {l : List Nat} {own : Own} (h : IRow W g e v l own w) : ∃ p c, v = .slice p l.length c := by
  rcases h.owns.2 with ⟨h1, h2⟩ | ⟨k, c, _, h1, _⟩
  · exact ⟨none, 0, by rw [h1, h2]⟩
  · exact ⟨_, c, h1⟩
theorem IRow.cell {W w : World} {g : Nat} {e : TypeId} {p : Option Addr} {n c : Nat} {l : List Nat} {own : Own} (h : IRow W g e (.slice p n c) l own w) {i : Nat} (hi : i < l.length) : ∃ b, p = some ⟨b, 0, none⟩ ∧ w.cell? ⟨b, i, none⟩ = some (.int .i64 (l.getD i 0 : Nat)) := by
  rcases h.owns.2 with ⟨_, h2⟩ | ⟨b, c', _, h1, _⟩
  · omega
  · simp only [Value.slice.injEq] at h1
    have hc := World.ownsRow.cells h.owns (g := b) (by rw [h1.1]; rfl) i (.int .i64 (l.getD i 0 : Nat)) (by
      unfold intsOf
      rw [List.getElem?_map, List.getElem?_eq_getElem hi, List.getD_eq_getElem?_getD, List.getElem?_eq_getElem hi]; rfl)
    rw [Addr.add_lit, Nat.zero_add] at hc
    exact ⟨b, h1.1, hc⟩
/-- A row has grown; the others stand. -/
theorem Dsk.grown {W w w' : World} {a : Nat} {S : Sk} {own : Own} (h : Dsk W a S own w) {r : Option Nat} (hg : w.grownBy w' r) (hr : ∀ k, r = some k → own k = none ∧ W.heap.size ≤ k) : Dsk W a S own w' := by
  have hst : Steps (fun k => if r = some k then some .disk else none) (fun k => if r = some k then some .disk else none) w w' :=
    ⟨hg.os, hg.tape, hg.output, hg.size, fun k hk ho => hg.block k hk (fun e => by
      rw [if_pos e.symm] at ho
      rcases ho with h | h <;> cases h), fun _ _ => rfl⟩
  obtain ⟨D, hd, hok, e⟩ := h.out
  refine ⟨⟨D, hd.beside hst (fun k r' hr' => .inl (if_neg (by intro e; rw [(hr k e).1] at hr'; cases hr'))), hok, e⟩, h.far, ?_⟩
  exact ⟨hg.os.trans h.below.os, hg.tape.trans h.below.tape, hg.output.trans h.below.output, Nat.le_trans h.below.size hg.size, fun k hk => (hg.block k (Nat.lt_of_lt_of_le hk h.below.size) (fun e => by have := (hr k e.symm).2; omega)).trans (h.below.block k hk)⟩
theorem Fil.grown {W w w' : World} {g a : Nat} {s : ByteArray} {E : Nat} {own : Own} (h : Fil W g a s E own w) {r : Option Nat} (hg : w.grownBy w' r) (hr : r ≠ some g) : Fil W g a s E own w' :=
  h.same (hg.block g h.lt (fun e => hr e.symm))
theorem IRow.grown {W w w' : World} {g : Nat} {e : TypeId} {v : Value} {l : List Nat} {own : Own} (h : IRow W g e v l own w) {r : Option Nat} (hg : w.grownBy w' r) (hr : ∀ k, v.ownBlock = some k → r ≠ some k) : IRow W g e v l own w' :=
  ⟨ownsRow_heap h.owns fun k hk => hg.block k (h.lt k hk).2 (fun e => hr k hk e.symm), h.free⟩
/-- The row that has grown. -/
theorem IRow.appended {W w w' : World} {g : Nat} {e : TypeId} {v v' : Value} {l : List Nat} {own : Own} (h : IRow W g e v l own w) (_hW : W.heap.size ≤ w.heap.size) (hnew : ∀ k, w.heap.size ≤ k → own k = none) (hgl : g < w.heap.size) {x : Nat} (ho : w'.ownsRow W.heap.size e 1 v' (l.length + 1) (intsOf l ++ [.int .i64 (x : Int)]))
    (hat : v'.ownBlock = v.ownBlock ∨ ∃ k, w.heap.size ≤ k ∧ v'.ownBlock = some k) : IRow W g e v' (l ++ [x]) own w' := by
  refine ⟨?_, fun k hk => ?_⟩
  · rw [List.length_append, List.length_singleton]
    have : intsOf (l ++ [x]) = intsOf l ++ [.int .i64 (x : Int)] := by simp [intsOf]
    rw [this]; exact ho
  · rcases hat with h1 | ⟨j, hj, h1⟩
    · exact h.free k (h1 ▸ hk)
    · rw [h1] at hk; cases hk
      exact ⟨hnew k hj, by omega⟩
theorem info_of {P : Program} {e : TypeId} {z : Value} {s b : Nat} (h : (P.info? e).map (fun i => (i.zero, i.size, i.bytes)) = some (some z, s, b)) : ∃ i, P.info? e = some i ∧ i.zero = some z ∧ i.size = s ∧ i.bytes = b := by
  cases hi : P.info? e with
  | none => rw [hi] at h; cases h
  | some i =>
    rw [hi] at h
    simp only [Option.map_some, Option.some.injEq, Prod.mk.injEq] at h
    exact ⟨i, rfl, h.1, h.2.1, h.2.2⟩
/-- append of a number to a row of the law's own. -/
theorem wpList_append_int {P : Program} {ops : Array Oper} {rest : List Oper} {o : Oper} {a : Act} {Q : Exit → Act → World → Prop} (hgd : o.guard = none) (s x : Operand) (t e : TypeId)
    (ho : o.op = .call { callee := .builtin .append, args := #[s, x], argTypes := #[t, t] }) (ht : P.underlying t = some (.slice e)) (hi : (P.info? e).map (fun i => (i.zero, i.size, i.bytes)) = some (some (.int .i64 0), 1, 8))
    {W w0 : World} {g : Nat} {v : Value} {l : List Nat} {own : Own} (h : IRow W g e v l own w0) (hW : W.heap.size ≤ w0.heap.size) (hnew : ∀ k, w0.heap.size ≤ k → own k = none) (hgl : g < w0.heap.size) (hl : l.length ≤ 1000000) (hs : a.eval s = v) {X : Nat} {tt : TypeId} (hx : a.eval x = .slice (some ⟨w0.heap.size, 0, none⟩) 1 1)
    (hK : ∀ v' w', IRow W g e v' (l ++ [X]) own w' → (w0.alloc (.cells #[.int .i64 (X : Int)] tt)).grownBy w' v.ownBlock → (v'.ownBlock = v.ownBlock ∨ ∃ k, w0.heap.size ≤ k ∧ v'.ownBlock = some k) → wpList P ops Q rest (a.put o.dst v') w') :
    wpList P ops Q (o :: rest) a (w0.alloc (.cells #[.int .i64 (X : Int)] tt)) := by
  obtain ⟨i, h1, h2, h3, h4⟩ := info_of hi
  have hst := h.stay ((Below.refl _ _).alloc (Nat.le_refl _) (.cells #[.int .i64 (X : Int)] tt))
  refine wpList_append_own_at _ hgd s x t ho W.heap.size e i (.int .i64 0) 1 8 ht h1 h2 h3 h4 rfl (by decide) v l.length (intsOf l) hs hst.owns ⟨w0.heap.size, 0, none⟩ 1 1 [.int .i64 (X : Int)] hx rfl (cell_one_new _ _ _) (fun u hu => by simp at hu; subst hu; rfl) (by unfold maxLen; omega) (by omega) (by simp; omega) ?_
  intro v' w' hown hgrow _ hat
  have hat' : v'.ownBlock = v.ownBlock ∨ ∃ k, w0.heap.size ≤ k ∧ v'.ownBlock = some k := by
    rcases hat with h | h
    · exact .inl h
    · exact .inr ⟨_, by simp, h⟩
  refine hK v' w' ?_ hgrow hat'
  refine ⟨?_, fun k hk => ?_⟩
  · rw [List.length_append, List.length_singleton]
    have : intsOf (l ++ [X]) = intsOf l ++ [.int .i64 (X : Int)] := by simp [intsOf]
    rw [this]; exact hown
  · rcases hat' with h1 | ⟨j, hj, h1⟩
    · exact h.free k (h1 ▸ hk)
    · rw [h1] at hk; cases hk
      exact ⟨hnew k hj, by omega⟩
end Go.Proofs.YtldkeelgnfegeaaGreat
