/- Rows of whatever: how a row of parts of so many cells each lies in memory; rows that are arguments, opened. -/
import Derived.Test.YtnbnnonjbjbbkaaDeeds
namespace Go.By
open Go Go.RowKit Go.ChangeShapes Go.WideShapes Go.ChangeAt Go.Deep

/-- Cells one behind the other. -/
def CellsAt (w : World) (b o : Nat) (cs : List Value) : Prop := ∀ j (h : j < cs.length), w.cell? ⟨b, o + j, none⟩ = some cs[j]
theorem CellsAt.below {w w' : World} {b o : Nat} {cs : List Value} (h : CellsAt w b o cs) (hb : Below w.heap.size w w') : CellsAt w' b o cs := fun j hj =>
  (hb.cell (p := ⟨b, _, none⟩) (block_lt_of_cell (h j hj))).trans (h j hj)
theorem CellsAt.one {w : World} {b o : Nat} {x : Value} (h : CellsAt w b o [x]) : w.cell? ⟨b, o, none⟩ = some x := h 0 (by simp)
theorem CellsAt.two {w : World} {b o : Nat} {x y : Value} (h : CellsAt w b o [x, y]) : w.cell? ⟨b, o, none⟩ = some x ∧ w.cell? ⟨b, o + 1, none⟩ = some y := ⟨h 0 (by simp), h 1 (by simp)⟩
theorem CellsAt.three {w : World} {b o : Nat} {x y z : Value} (h : CellsAt w b o [x, y, z]) : w.cell? ⟨b, o, none⟩ = some x ∧ w.cell? ⟨b, o + 1, none⟩ = some y ∧ w.cell? ⟨b, o + 2, none⟩ = some z := ⟨h 0 (by simp), h 1 (by simp), h 2 (by simp)⟩

/-- What a part of a row says: cells of it, and what stays true of them. -/
structure Kind (α : Type) where
  width : Nat
  is : World → List Value → α → Prop
  len : ∀ {w cs x}, is w cs x → cs.length = width
  stays : ∀ {w w' cs x}, is w cs x → Below w.heap.size w w' → is w' cs x

/-- A row of such parts. -/
structure RowAt {α : Type} (K : Kind α) (w : World) (p : Option Addr) (cap : Nat) (xs : List α) : Prop where
  le : xs.length ≤ cap
  most : cap ≤ maxLen
  at_ : ∀ i (h : i < xs.length), ∃ lb lo cs, p = some ⟨lb, lo, none⟩ ∧ CellsAt w lb (lo + i * K.width) cs ∧ K.is w cs xs[i]
theorem RowAt.below {α : Type} {K : Kind α} {w w' : World} {p : Option Addr} {cap : Nat} {xs : List α} (h : RowAt K w p cap xs) (hb : Below w.heap.size w w') : RowAt K w' p cap xs := by
  refine ⟨h.le, h.most, fun i hi => ?_⟩
  obtain ⟨lb, lo, cs, h1, c0, h2⟩ := h.at_ i hi
  exact ⟨lb, lo, cs, h1, c0.below hb, K.stays h2 hb⟩
theorem RowAt.nil {α : Type} {K : Kind α} {w : World} {p : Option Addr} : RowAt K w p 0 ([] : List α) := ⟨Nat.le_refl _, Nat.zero_le _, fun _ hi => absurd hi (Nat.not_lt_zero _)⟩
/-- There is something in it: where it lies. -/
theorem RowAt.some {α : Type} {K : Kind α} {w : World} {p : Option Addr} {cap : Nat} {xs : List α} (h : RowAt K w p cap xs) (h0 : 0 < xs.length) :
    ∃ lb lo, p = some ⟨lb, lo, none⟩ ∧ ∀ i (hi : i < xs.length), ∃ cs, CellsAt w lb (lo + i * K.width) cs ∧ K.is w cs xs[i] := by
  obtain ⟨lb, lo, cs, h1, _, _⟩ := h.at_ 0 h0
  subst h1
  refine ⟨lb, lo, rfl, fun i hi => ?_⟩
  obtain ⟨lb', lo', cs', h1, h2, h3⟩ := h.at_ i hi
  obtain ⟨rfl, rfl⟩ : lb = lb' ∧ lo = lo' := by simpa using h1
  exact ⟨cs', h2, h3⟩

theorem list_of_each {α : Type} (n : Nat) (q : Nat → α → Prop) (h : ∀ i, i < n → ∃ x, q i x) : ∃ xs : List α, xs.length = n ∧ ∀ i (hi : i < xs.length), q i xs[i] := by
  induction n with
  | zero => exact ⟨[], rfl, fun i hi => absurd hi (Nat.not_lt_zero _)⟩
  | succ n ih =>
    obtain ⟨xs, hl, hx⟩ := ih (fun i hi => h i (by omega))
    obtain ⟨x, hq⟩ := h n (by omega)
    refine ⟨xs ++ [x], by simp [hl], fun i hi => ?_⟩
    rw [List.length_append, List.length_singleton] at hi
    rw [List.getElem_append]
    split
    · rename_i h'; exact hx i h'
    · obtain rfl : i = n := by omega
      simpa using hq

/-- A row that is an argument (or lies in one). -/
theorem row_of_trod {α : Type} {K : Kind α} {H : Type} {enc : TypeId × Value → H} {P : Program} {W : World} {base : Nat} {t e : TypeId} (ht : P.underlying t = some (.slice e)) (ce : P.cellsOf e = K.width)
    (hk : ∀ {fuel : Nat} {cs : List Value} {x : DataW H × List MemPlace}, cs.length = K.width → DataW.trod enc P W base (fun _ => true) true fuel e cs = some x → ∃ a, K.is W cs a)
    {fuel : Nat} {cs : List Value} {x : DataW H × List MemPlace} (h : DataW.trod enc P W base (fun _ => true) true fuel t cs = some x) (hw : 0 < K.width) :
    ∃ (p : Option Addr) (cap : Nat) (xs : List α), cs = [.slice p xs.length cap] ∧ RowAt K W p cap xs := by
  rcases open_slice ht h with ⟨rfl, _⟩ | ⟨a, len, cap, m, n, D, Pl, rfl, _, hl, hm, hmm, _, hx⟩
  · exact ⟨none, 0, [], rfl, RowAt.nil⟩
  · simp only [if_true] at hmm
    have each : ∀ i, i < len → ∃ y : α, ∃ cs', (∀ j (h : j < cs'.length), W.cell? ((a.add (i * K.width)).add j) = some cs'[j]) ∧ K.is W cs' y := fun i hi => by
      obtain ⟨cs', g1, g2⟩ := hx i (by omega)
      rw [ce] at g1
      obtain ⟨_, hlen, hcell⟩ := World.cells?_some g1
      obtain ⟨y, hy⟩ := hk hlen g2
      refine ⟨y, cs', fun j hj => ?_, hy⟩
      have := hcell j (by omega)
      rw [this, List.getElem?_eq_getElem hj]
    obtain ⟨xs, hxl, hxs⟩ := list_of_each len _ each
    subst hxl
    refine ⟨some a, cap, xs, rfl, hl, hm, fun i hi => ?_⟩
    obtain ⟨cs', hcell, hy⟩ := hxs i hi
    obtain ⟨ab, ao, spot⟩ := a
    have hspot : spot = none := by
      obtain ⟨cs0, hcell0, hy0⟩ := hxs 0 (by omega)
      have hs := World.cell?_spot (hcell0 0 (by rw [K.len hy0]; exact hw))
      simpa [Addr.add] using hs
    subst hspot
    exact ⟨ab, ao, cs', rfl, fun j hj => by have := hcell j hj; simp only [Addr.add_lit] at this; exact this, hy⟩
end Go.By

