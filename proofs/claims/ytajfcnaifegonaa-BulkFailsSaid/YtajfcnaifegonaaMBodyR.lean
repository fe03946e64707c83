/- Arguments that are rows of structures of six parts (two numbers, two texts, a number, bytes), opened. -/
import Derived.Test.YtajfcnaifegonaaMSlA
import Derived.Deep.Slices
import Derived.OpenShut
namespace Go.By
open Go Go.RowKit Go.ChangeShapes Go.WideShapes Go.ChangeAt Go.Deep
structure DeedV where
  kind : Int
  num : Int
  name : ByteArray
  to : ByteArray
  off : Int
  val : Value
  bytes : List Nat
instance : Inhabited DeedV := ⟨⟨0, 0, ByteArray.empty, ByteArray.empty, 0, .slice none 0 0, []⟩⟩
structure Deeds (w : World) (p : Option Addr) (n cap : Nat) (T : Nat → DeedV) : Prop where
  le : n ≤ cap
  most : cap ≤ maxLen
  at_ : ∀ i, i < n → ∃ lb lo, p = some ⟨lb, lo, none⟩ ∧ w.cell? ⟨lb, lo + i * 6, none⟩ = some (.int .i64 (T i).kind) ∧ w.cell? ⟨lb, lo + i * 6 + 1, none⟩ = some (.int .i64 (T i).num) ∧
    w.cell? ⟨lb, lo + i * 6 + 2, none⟩ = some (.string (T i).name) ∧ w.cell? ⟨lb, lo + i * 6 + 3, none⟩ = some (.string (T i).to) ∧ w.cell? ⟨lb, lo + i * 6 + 4, none⟩ = some (.int .i64 (T i).off) ∧ w.cell? ⟨lb, lo + i * 6 + 5, none⟩ = some (T i).val
  wf : ∀ i, i < n → Bytes w (T i).val (T i).bytes ∧ (T i).name.size ≤ maxLen ∧ (T i).to.size ≤ maxLen ∧ (Lit.int .i64 (T i).off).wf = true ∧ (Lit.int .i64 (T i).num).wf = true
theorem Deeds.below {w w' : World} {p : Option Addr} {n cap : Nat} {T : Nat → DeedV} (h : Deeds w p n cap T) (hb : Below w.heap.size w w') : Deeds w' p n cap T := by
  refine ⟨h.le, h.most, fun i hi => ?_, fun i hi => ?_⟩
  · obtain ⟨lb, lo, h1, c0, c1, c2, c3, c4, c5⟩ := h.at_ i hi
    have hk : ∀ {k : Nat} {v : Value}, w.cell? ⟨lb, k, none⟩ = some v → w'.cell? ⟨lb, k, none⟩ = some v := fun h => (hb.cell (p := ⟨lb, _, none⟩) (block_lt_of_cell h)).trans h
    exact ⟨lb, lo, h1, hk c0, hk c1, hk c2, hk c3, hk c4, hk c5⟩
  · obtain ⟨h1, h2⟩ := h.wf i hi
    exact ⟨h1.below hb, h2⟩
end Go.By
/- Rows of whatever: how a row of parts of so many cells each lies in memory; rows that are arguments, opened. -/
namespace Go.By
open Go Go.RowKit Go.ChangeShapes Go.WideShapes Go.ChangeAt Go.Deep
def CellsAt (w : World) (b o : Nat) (cs : List Value) : Prop := ∀ j (h : j < cs.length), w.cell? ⟨b, o + j, none⟩ = some cs[j]
theorem CellsAt.below {w w' : World} {b o : Nat} {cs : List Value} (h : CellsAt w b o cs) (hb : Below w.heap.size w w') : CellsAt w' b o cs := fun j hj =>
  (hb.cell (p := ⟨b, _, none⟩) (block_lt_of_cell (h j hj))).trans (h j hj)
theorem CellsAt.one {w : World} {b o : Nat} {x : Value} (h : CellsAt w b o [x]) : w.cell? ⟨b, o, none⟩ = some x := h 0 (by simp)
theorem CellsAt.two {w : World} {b o : Nat} {x y : Value} (h : CellsAt w b o [x, y]) : w.cell? ⟨b, o, none⟩ = some x ∧ w.cell? ⟨b, o + 1, none⟩ = some y := ⟨h 0 (by simp), h 1 (by simp)⟩
structure Kind (α : Type) where
  width : Nat
  is : World → List Value → α → Prop
  len : ∀ {w cs x}, is w cs x → cs.length = width
  stays : ∀ {w w' cs x}, is w cs x → Below w.heap.size w w' → is w' cs x
structure RowAt {α : Type} (K : Kind α) (w : World) (p : Option Addr) (cap : Nat) (xs : List α) : Prop where
  le : xs.length ≤ cap
  most : cap ≤ maxLen
  at_ : ∀ i (h : i < xs.length), ∃ lb lo cs, p = some ⟨lb, lo, none⟩ ∧ CellsAt w lb (lo + i * K.width) cs ∧ K.is w cs xs[i]
theorem RowAt.below {α : Type} {K : Kind α} {w w' : World} {p : Option Addr} {cap : Nat} {xs : List α} (h : RowAt K w p cap xs) (hb : Below w.heap.size w w') : RowAt K w' p cap xs := by
  refine ⟨h.le, h.most, fun i hi => ?_⟩
  obtain ⟨lb, lo, cs, h1, c0, h2⟩ := h.at_ i hi
  exact ⟨lb, lo, cs, h1, c0.below hb, K.stays h2 hb⟩
theorem RowAt.nil {α : Type} {K : Kind α} {w : World} {p : Option Addr} : RowAt K w p 0 ([] : List α) := ⟨Nat.le_refl _, Nat.zero_le _, fun _ hi => absurd hi (Nat.not_lt_zero _)⟩
theorem RowAt.some {α : Type} {K : Kind α} {w : World} {p : Option Addr} {cap : Nat} {xs : List α} (h : RowAt K w p cap xs) (h0 : 0 < xs.length) :
    ∃ lb lo, p = some ⟨lb, lo, none⟩ ∧ ∀ i (hi : i < xs.length), ∃ cs, CellsAt w lb (lo + i * K.width) cs ∧ K.is w cs xs[i] := by
  obtain ⟨lb, lo, cs, h1, _, _⟩ := h.at_ 0 h0
  subst h1
  refine ⟨lb, lo, rfl, fun i hi => ?_⟩
  obtain ⟨lb', lo', cs', h1, h2, h3⟩ := h.at_ i hi
  obtain ⟨rfl, rfl⟩ : lb = lb' ∧ lo = lo' := by simpa using h1
  exact ⟨cs', h2, h3⟩
end Go.By
/- Pieces of rows of whatever. -/
namespace Go.By
open Go Go.RowKit
structure RowT (P : Program) (t : TypeId) (s : Nat) : Prop where
  slice : P.underlying t = Option.some (.slice (P.elem t))
  size : ∀ w : World, (sizeOf (P.elem t)).run P w = .ok s w
theorem RowAt.upto {α : Type} {K : Kind α} {P : Program} {t : TypeId} (T : RowT P t K.width) {w : World} {p : Option Addr} {cap : Nat} {xs : List α} (h : RowAt K w p cap xs) (n : Nat) (N : Int) (hN : N = n) (hn : n ≤ xs.length) :
    (∀ w0 : World, (Instr.slice t (.slice p xs.length cap) none (Option.some (.int .i64 N)) none).run P w0 = .ok (.slice p (xs.take n).length cap) w0) ∧ RowAt K w p cap (xs.take n) := by
  subst hN
  have hle := h.le
  have hr := fun w0 => run_slice_h (P := P) w0 t p xs.length cap T.slice .i64 (n : Int) (by omega) (by omega)
  have e2 : (n : Int).toNat = n := by omega
  simp only [T.size, Result.andThen, e2, sliced, Nat.zero_mul, Nat.sub_zero] at hr
  have hl : (xs.take n).length = n := by rw [List.length_take]; omega
  refine ⟨fun w0 => ?_, by omega, h.most, fun i hi => ?_⟩
  · rw [hr, hl]
    congr 2
    split
    · rfl
    · cases p with
      | none => rfl
      | some a => simp [Addr.add]
  · obtain ⟨lb, lo, cs, rfl, h1, h2⟩ := h.at_ i (by omega)
    exact ⟨lb, lo, cs, rfl, h1, by simpa using h2⟩
end Go.By
/- Arguments that are rows of rows of bytes, opened. -/
namespace Go.By
open Go Go.RowKit Go.ChangeShapes Go.WideShapes Go.ChangeAt Go.Deep
structure BodyRow (w : World) (p : Option Addr) (n cap : Nat) (T : Nat → Value × List Nat) : Prop where
  le : n ≤ cap
  most : cap ≤ maxLen
  at_ : ∀ i, i < n → ∃ lb lo, p = some ⟨lb, lo, none⟩ ∧ w.cell? ⟨lb, lo + i, none⟩ = some (T i).1
  wf : ∀ i, i < n → Bytes w (T i).1 (T i).2
theorem BodyRow.below {w w' : World} {p : Option Addr} {n cap : Nat} {T : Nat → Value × List Nat} (h : BodyRow w p n cap T) (hb : Below w.heap.size w w') : BodyRow w' p n cap T := by
  refine ⟨h.le, h.most, fun i hi => ?_, fun i hi => (h.wf i hi).below hb⟩
  obtain ⟨lb, lo, h1, c0⟩ := h.at_ i hi
  exact ⟨lb, lo, h1, (hb.cell (p := ⟨lb, _, none⟩) (block_lt_of_cell c0)).trans c0⟩
theorem BodyRow.body {w : World} {lb lo n cap i : Nat} {T : Nat → Value × List Nat} (h : BodyRow w (some ⟨lb, lo, none⟩) n cap T) (hi : i < n) :
    ∃ q c, w.cell? ⟨lb, lo + i, none⟩ = some (.slice q (T i).2.length c) ∧ Bytes w (.slice q (T i).2.length c) (T i).2 := by
  obtain ⟨lb', lo', h1, h2⟩ := h.at_ i hi
  simp only [Option.some.injEq, Addr.mk.injEq, and_true] at h1
  obtain ⟨rfl, rfl⟩ := h1
  have hw := h.wf i hi
  obtain ⟨q, c, hv, _⟩ := hw.any
  rw [hv] at h2 hw
  exact ⟨q, c, h2, hw⟩
end Go.By
