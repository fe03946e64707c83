/- file has begun. -/
import Derived.Test.YtajfcnaifegonaaMFlG
import Derived.Test.YtajfcnaifegonaaMDskA
import Derived.Test.YtajfcnaifegonaaMSlA
import Derived.Lib.SlBytesConst
import Derived.Test.YtajfcnaifegonaaMBodyR
import Derived.Maps.AppendAt
namespace Go.Proofs.Ytajfcnaifegonaa
open Go Go.RowKit Go.By
end Go.Proofs.Ytajfcnaifegonaa
/- A disk that shall fail; rows of numbers of the law's own. -/
namespace Go.Proofs.Ytajfcnaifegonaa
open Go Go.RowKit Go.By
set_option maxRecDepth 100000 in
theorem Dsk.fail {W w : World} {a : Nat} {S : Sk} {own : Own} (h : Dsk W a S own w) (n : Nat) :
    Calls Try.prog 14 #[.pointer (some ⟨a, 0, none⟩), .int .i64 (n : Int)] w fun e w' => e = .returned (.tuple #[]) ∧ Steps own own w w' ∧ Dsk W a { S with left := n } own w' := by
  have hfin : ∀ w0 : World, w0.heap = w.heap → w0.os = w.os → w0.tape = w.tape → w0.output = w.output → Steps own own w (w0.setCell ⟨a, 3, none⟩ (.int .i64 n)) ∧ Dsk W a { S with left := n } own (w0.setCell ⟨a, 3, none⟩ (.int .i64 n)) := by
    intro w0 e1 e2 e3 e4
    have hb0 := below_same e1 e2 e3 e4
    have h0 := h.stay hb0
    obtain ⟨D, hd, hok, e⟩ := h0.out
    obtain ⟨q1, q2⟩ := hd.setLeft n
    exact ⟨(Steps.of_below hb0).trans q2, h0.of_steps q2 ⟨_, q1, ⟨hok.seenIn, hok.keptIn, hok.laidIn, hok.made⟩, by rw [← e]; rfl⟩⟩
  have HFIN := Lib.hid hfin
  have hc3 : ∃ v, w.cell? ⟨a, 3, none⟩ = some v ∧ w.frozen? ⟨a, 3, none⟩ = false := by
    obtain ⟨D, hd, hok, e⟩ := h.out
    obtain ⟨ms, mk, mf, lv, h1, h2⟩ := hd.out
    exact ⟨_, cells_of h1 3, free_of h1 3⟩
  obtain ⟨v3, c3, f3⟩ := hc3
  clear h hfin
  have hn : max (n : Int) 0 = n := by omega
  have hn0 : ¬ (n : Int) < 0 := by omega
  go_enter Try.func14, Try.ntmps14
  go_wp2
  go_returns
  exact ⟨rfl, HFIN.out w rfl rfl rfl rfl⟩
def intsOf (l : List Nat) : List Value := l.map fun (n : Nat) => Value.int .i64 (n : Int)
structure IRow (W : World) (g : Nat) (e : TypeId) (v : Value) (l : List Nat) (own : Own) (w : World) : Prop where
  owns : w.ownsRow W.heap.size e 1 v l.length (intsOf l)
  free : ∀ k, v.ownBlock = some k → own k = none ∧ k ≠ g
theorem IRow.lt {W w : World} {g : Nat} {e : TypeId} {v : Value} {l : List Nat} {own : Own} (h : IRow W g e v l own w) : ∀ k, v.ownBlock = some k → W.heap.size ≤ k ∧ k < w.heap.size := fun k hk => h.owns.lt k hk
theorem IRow.nil (W : World) (g : Nat) (e : TypeId) (own : Own) (w : World) : IRow W g e (.slice none 0 0) [] own w := ⟨World.ownsRow_nil _ _ _ _, fun k hk => (by cases hk)⟩
theorem ownsRow_heap {w w' : World} {base : Nat} {e : TypeId} {v : Value} {n : Nat} {xs : List Value} (h : w.ownsRow base e 1 v n xs) (hb : ∀ k, v.ownBlock = some k → w'.heap[k]? = w.heap[k]?) : w'.ownsRow base e 1 v n xs := by
  refine ⟨h.1, ?_⟩
  rcases h.2 with hn | ⟨g, cap, cur, rfl, h1, h2, rest⟩
  · exact .inl hn
  · exact .inr ⟨g, cap, cur, rfl, h1, (hb g rfl).trans h2, rest⟩
theorem IRow.moves {W w w' : World} {g : Nat} {e : TypeId} {v : Value} {l : List Nat} {own own' : Own} (h : IRow W g e v l own w) (hm : Moves g own own' w w') : IRow W g e v l own' w' :=
  ⟨ownsRow_heap h.owns fun k hk => hm.block k (h.lt k hk).2 (h.free k hk).2 (.inl (h.free k hk).1), fun k hk => ⟨(hm.same k (h.lt k hk).2).trans (h.free k hk).1, (h.free k hk).2⟩⟩
theorem IRow.steps {W w w' : World} {g : Nat} {e : TypeId} {v : Value} {l : List Nat} {own own' : Own} (h : IRow W g e v l own w) (hs : Steps own own' w w') : IRow W g e v l own' w' := h.moves (hs.moves g)
theorem IRow.stay {W w w' : World} {g : Nat} {e : TypeId} {v : Value} {l : List Nat} {own : Own} (h : IRow W g e v l own w) (hb : Below w.heap.size w w') : IRow W g e v l own w' := h.steps (Steps.of_below hb)
theorem IRow.shape {W w : World} {g : Nat} {e : TypeId} {v : Value} {l : List Nat} {own : Own} (h : IRow W g e v l own w) : ∃ p c, v = .slice p l.length c := by
  rcases h.owns.2 with ⟨h1, h2⟩ | ⟨k, c, _, h1, _⟩
  · exact ⟨none, 0, by rw [h1, h2]⟩
  · exact ⟨_, c, h1⟩
theorem IRow.cell {W w : World} {g : Nat} {e : TypeId} {p : Option Addr} {n c : Nat} {l : List Nat} {own : Own} (h : IRow W g e (.slice p n c) l own w) {i : Nat} (hi : i < l.length) : ∃ b, p = some ⟨b, 0, none⟩ ∧ w.cell? ⟨b, i, none⟩ = some (.int .i64 (l.getD i 0 : Nat)) := by
  rcases h.owns.2 with ⟨_, h2⟩ | ⟨b, c', _, h1, _⟩
  · omega
  · simp only [Value.slice.injEq] at h1
    have hc := World.ownsRow.cells h.owns (g := b) (by rw [h1.1]; rfl) i (.int .i64 (l.getD i 0 : Nat)) (by
      unfold intsOf
      rw [List.getElem?_map, List.getElem?_eq_getElem hi, List.getD_eq_getElem?_getD, List.getElem?_eq_getElem hi]; rfl)
    rw [Addr.add_lit, Nat.zero_add] at hc
    exact ⟨b, h1.1, hc⟩
theorem Dsk.grown {W w w' : World} {a : Nat} {S : Sk} {own : Own} (h : Dsk W a S own w) {r : Option Nat} (hg : w.grownBy w' r) (hr : ∀ k, r = some k → own k = none ∧ W.heap.size ≤ k) : Dsk W a S own w' := by
  have hst : Steps (fun k => if r = some k then some .disk else none) (fun k => if r = some k then some .disk else none) w w' :=
    ⟨hg.os, hg.tape, hg.output, hg.size, fun k hk ho => hg.block k hk (fun e => by
      rw [if_pos e.symm] at ho
      rcases ho with h | h <;> cases h), fun _ _ => rfl⟩
  obtain ⟨D, hd, hok, e⟩ := h.out
  refine ⟨⟨D, hd.beside hst (fun k r' hr' => .inl (if_neg (by intro e; rw [(hr k e).1] at hr'; cases hr'))), hok, e⟩, h.far, ?_⟩
  exact ⟨hg.os.trans h.below.os, hg.tape.trans h.below.tape, hg.output.trans h.below.output, Nat.le_trans h.below.size hg.size, fun k hk => (hg.block k (Nat.lt_of_lt_of_le hk h.below.size) (fun e => by have := (hr k e.symm).2; omega)).trans (h.below.block k hk)⟩
theorem Fil.grown {W w w' : World} {g a : Nat} {s : ByteArray} {E : Nat} {own : Own} (h : Fil W g a s E own w) {r : Option Nat} (hg : w.grownBy w' r) (hr : r ≠ some g) : Fil W g a s E own w' :=
  h.same (hg.block g h.lt (fun e => hr e.symm))
theorem IRow.grown {W w w' : World} {g : Nat} {e : TypeId} {v : Value} {l : List Nat} {own : Own} (h : IRow W g e v l own w) {r : Option Nat} (hg : w.grownBy w' r) (hr : ∀ k, v.ownBlock = some k → r ≠ some k) : IRow W g e v l own w' :=
  ⟨ownsRow_heap h.owns fun k hk => hg.block k (h.lt k hk).2 (fun e => hr k hk e.symm), h.free⟩
theorem IRow.appended {W w w' : World} {g : Nat} {e : TypeId} {v v' : Value} {l : List Nat} {own : Own} (h : IRow W g e v l own w) (_hW : W.heap.size ≤ w.heap.size) (hnew : ∀ k, w.heap.size ≤ k → own k = none) (hgl : g < w.heap.size) {x : Nat} (ho : w'.ownsRow W.heap.size e 1 v' (l.length + 1) (intsOf l ++ [.int .i64 (x : Int)]))
    (hat : v'.ownBlock = v.ownBlock ∨ ∃ k, w.heap.size ≤ k ∧ v'.ownBlock = some k) : IRow W g e v' (l ++ [x]) own w' := by
  refine ⟨?_, fun k hk => ?_⟩
  · rw [List.length_append, List.length_singleton]
    have : intsOf (l ++ [x]) = intsOf l ++ [.int .i64 (x : Int)] := by simp [intsOf]
    rw [this]; exact ho
  · rcases hat with h1 | ⟨j, hj, h1⟩
    · exact h.free k (h1 ▸ hk)
    · rw [h1] at hk; cases hk
      exact ⟨hnew k hj, by omega⟩
end Go.Proofs.Ytajfcnaifegonaa
/- The disk, its file, rows of numbers of the law's own. -/
namespace Go.Proofs.Ytajfcnaifegonaa
open Go Go.ChangeShapes Go.WideShapes Go.ChangeAt Go.RowKit Go.By
structure Two (W : World) (a g : Nat) (s : ByteArray) (E : Nat) (S : Sk) (e1 e2 : TypeId) (v1 v2 : Value) (l1 l2 : List Nat) (own : Own) (w : World) : Prop where
  disk : Dsk W a S own w
  file : Fil W g a s E own w
  r1 : IRow W g e1 v1 l1 own w
  r2 : IRow W g e2 v2 l2 own w
  apart : ∀ j, v1.ownBlock = some j → v2.ownBlock ≠ some j
end Go.Proofs.Ytajfcnaifegonaa
