/- Arguments that are rows of structures of six parts (two numbers, two texts, a number, bytes), opened. -/
import Derived.Test.YtdbgihpognfhdaaGreatMSlA
import Derived.Deep.Slices
import Derived.OpenShut
namespace Go.By
open Go Go.RowKit Go.ChangeShapes Go.WideShapes Go.ChangeAt Go.Deep
theorem bytes_of_trod {H : Type} {enc : TypeId × Value → H} {P : Program} {W : World} {base : Nat} {t e : TypeId} (T : ByT P t e) (hc : P.cellsOf e = 1) {fuel : Nat} {v : Value} {x : DataW H × List MemPlace}
    (hf : DataW.trod enc P W base (fun _ => true) true fuel t [v] = some x) : ∃ l : List Nat, Bytes W v l := by
  rcases open_ints T.slice T.elem hc hf with ⟨hcs, hx⟩ | ⟨a, len, cap, zs, hcs, _, hl, hm, hz, hx, hcell, hwz⟩
  · simp only [List.cons.injEq, and_true] at hcs
    subst hcs
    exact ⟨[], Bytes.nil W⟩
  · simp only [List.cons.injEq, and_true] at hcs
    subst hcs
    simp only [if_true] at hz
    have hlen : ((zs.take len).map Int.toNat).length = len := by simp; omega
    refine ⟨(zs.take len).map Int.toNat, ⟨?_, ?_, ?_⟩⟩
    · by_cases h0 : zs.length = 0
      · have h1 : cap = 0 := by omega
        have h2 : len = 0 := by omega
        subst h1 h2
        exact .inr (.inl ⟨a, rfl, by simp⟩)
      · obtain ⟨ab, ao, spot⟩ := a
        have hspot : spot = none := by simpa [Addr.add] using World.cell?_spot (hcell 0 (by omega))
        subst hspot
        refine .inr <| .inr ⟨ab, ao, cap, by rw [hlen], by rw [hlen]; exact hl, fun i hi => ?_⟩
        rw [hlen] at hi
        have hci := hcell i (by omega)
        rw [Addr.add_lit] at hci
        rw [hci]
        have hm := hwz (zs.getD i 0) (by rw [List.getD_eq_getElem?_getD, List.getElem?_eq_getElem (by omega)]; exact List.getElem_mem _)
        obtain ⟨n, hn, _⟩ := u8_of_wf hm
        rw [atB_of (by rw [hlen]; exact hi)]
        rw [List.getElem_map, List.getElem_take]
        have e : zs.getD i 0 = zs[i]'(by omega) := by rw [List.getD_eq_getElem?_getD, List.getElem?_eq_getElem (by omega)]; rfl
        rw [e] at hn ⊢
        rw [hn]; rfl
    · intro c hc
      obtain ⟨z, hz', rfl⟩ := List.mem_map.1 hc
      obtain ⟨n, hn, hlt⟩ := u8_of_wf (hwz z (List.mem_of_mem_take hz'))
      omega
    · rw [hlen]; omega
structure DeedV where
  kind : Int
  num : Int
  name : ByteArray
  to : ByteArray
  off : Int
  val : Value
  bytes : List Nat
instance : Inhabited DeedV := ⟨⟨0, 0, ByteArray.empty, ByteArray.empty, 0, .slice none 0 0, []⟩⟩
structure Deeds (w : World) (p : Option Addr) (n cap : Nat) (T : Nat → DeedV) : Prop where
  le : n ≤ cap
  most : cap ≤ maxLen
  at_ : ∀ i, i < n → ∃ lb lo, p = some ⟨lb, lo, none⟩ ∧ w.cell? ⟨lb, lo + i * 6, none⟩ = some (.int .i64 (T i).kind) ∧ w.cell? ⟨lb, lo + i * 6 + 1, none⟩ = some (.int .i64 (T i).num) ∧
    w.cell? ⟨lb, lo + i * 6 + 2, none⟩ = some (.string (T i).name) ∧ w.cell? ⟨lb, lo + i * 6 + 3, none⟩ = some (.string (T i).to) ∧ w.cell? ⟨lb, lo + i * 6 + 4, none⟩ = some (.int .i64 (T i).off) ∧ w.cell? ⟨lb, lo + i * 6 + 5, none⟩ = some (T i).val
  wf : ∀ i, i < n → Bytes w (T i).val (T i).bytes ∧ (T i).name.size ≤ maxLen ∧ (T i).to.size ≤ maxLen ∧ (Lit.int .i64 (T i).off).wf = true ∧ (Lit.int .i64 (T i).num).wf = true
theorem Deeds.below {w w' : World} {p : Option Addr} {n cap : Nat} {T : Nat → DeedV} (h : Deeds w p n cap T) (hb : Below w.heap.size w w') : Deeds w' p n cap T := by
  refine ⟨h.le, h.most, fun i hi => ?_, fun i hi => ?_⟩
  · obtain ⟨lb, lo, h1, c0, c1, c2, c3, c4, c5⟩ := h.at_ i hi
    have hk : ∀ {k : Nat} {v : Value}, w.cell? ⟨lb, k, none⟩ = some v → w'.cell? ⟨lb, k, none⟩ = some v := fun h => (hb.cell (p := ⟨lb, _, none⟩) (block_lt_of_cell h)).trans h
    exact ⟨lb, lo, h1, hk c0, hk c1, hk c2, hk c3, hk c4, hk c5⟩
  · obtain ⟨h1, h2⟩ := h.wf i hi
    exact ⟨h1.below hb, h2⟩
end Go.By
/- Rows of whatever: how a row of parts of so many cells each lies in memory; rows that are arguments, opened. -/
namespace Go.By
open Go Go.RowKit Go.ChangeShapes Go.WideShapes Go.ChangeAt Go.Deep
def CellsAt (w : World) (b o : Nat) (cs : List Value) : Prop := ∀ j (h : j < cs.length), w.cell? ⟨b, o + j, none⟩ = some cs[j]
theorem CellsAt.below {w w' : World} {b o : Nat} {cs : List Value} (h : CellsAt w b o cs) (hb : Below w.heap.size w w') : CellsAt w' b o cs := fun j hj =>
  (hb.cell (p := ⟨b, _, none⟩) (block_lt_of_cell (h j hj))).trans (h j hj)
theorem CellsAt.one {w : World} {b o : Nat} {x : Value} (h : CellsAt w b o [x]) : w.cell? ⟨b, o, none⟩ = some x := h 0 (by simp)
theorem CellsAt.two {w : World} {b o : Nat} {x y : Value} (h : CellsAt w b o [x, y]) : w.cell? ⟨b, o, none⟩ = some x ∧ w.cell? ⟨b, o + 1, none⟩ = some y := ⟨h 0 (by simp), h 1 (by simp)⟩
structure Kind (α : Type) where
  width : Nat
  is : World → List Value → α → Prop
  len : ∀ {w cs x}, is w cs x → cs.length = width
  stays : ∀ {w w' cs x}, is w cs x → Below w.heap.size w w' → is w' cs x
structure RowAt {α : Type} (K : Kind α) (w : World) (p : Option Addr) (cap : Nat) (xs : List α) : Prop where
  le : xs.length ≤ cap
  most : cap ≤ maxLen
  at_ : ∀ i (h : i < xs.length), ∃ lb lo cs, p = some ⟨lb, lo, none⟩ ∧ CellsAt w lb (lo + i * K.width) cs ∧ K.is w cs xs[i]
theorem RowAt.below {α : Type} {K : Kind α} {w w' : World} {p : Option Addr} {cap : Nat} {xs : List α} (h : RowAt K w p cap xs) (hb : Below w.heap.size w w') : RowAt K w' p cap xs := by
  refine ⟨h.le, h.most, fun i hi => ?_⟩
  obtain ⟨lb, lo, cs, h1, c0, h2⟩ := h.at_ i hi
  exact ⟨lb, lo, cs, h1, c0.below hb, K.stays h2 hb⟩
theorem RowAt.nil {α : Type} {K : Kind α} {w : World} {p : Option Addr} : RowAt K w p 0 ([] : List α) := ⟨Nat.le_refl _, Nat.zero_le _, fun _ hi => absurd hi (Nat.not_lt_zero _)⟩
theorem RowAt.some {α : Type} {K : Kind α} {w : World} {p : Option Addr} {cap : Nat} {xs : List α} (h : RowAt K w p cap xs) (h0 : 0 < xs.length) :
    ∃ lb lo, p = some ⟨lb, lo, none⟩ ∧ ∀ i (hi : i < xs.length), ∃ cs, CellsAt w lb (lo + i * K.width) cs ∧ K.is w cs xs[i] := by
  obtain ⟨lb, lo, cs, h1, _, _⟩ := h.at_ 0 h0
  subst h1
  refine ⟨lb, lo, rfl, fun i hi => ?_⟩
  obtain ⟨lb', lo', cs', h1, h2, h3⟩ := h.at_ i hi
  obtain ⟨rfl, rfl⟩ : lb = lb' ∧ lo = lo' := by simpa using h1
  exact ⟨cs', h2, h3⟩
theorem list_of_each {α : Type} (n : Nat) (q : Nat → α → Prop) (h : ∀ i, i < n → ∃ x, q i x) : ∃ xs : List α, xs.length = n ∧ ∀ i (hi : i < xs.length), q i xs[i] := by
  induction n with
  | zero => exact ⟨[], rfl, fun i hi => absurd hi (Nat.not_lt_zero _)⟩
  | succ n ih =>
    obtain ⟨xs, hl, hx⟩ := ih (fun i hi => h i (by omega))
    obtain ⟨x, hq⟩ := h n (by omega)
    refine ⟨xs ++ [x], by simp [hl], fun i hi => ?_⟩
    rw [List.length_append, List.length_singleton] at hi
    rw [List.getElem_append]
    split
    · rename_i h'; exact hx i h'
    · obtain rfl : i = n := by omega
      simpa using hq
theorem row_of_trod {α : Type} {K : Kind α} {H : Type} {enc : TypeId × Value → H} {P : Program} {W : World} {base : Nat} {t e : TypeId} (ht : P.underlying t = some (.slice e)) (ce : P.cellsOf e = K.width)
    (hk : ∀ {fuel : Nat} {cs : List Value} {x : DataW H × List MemPlace}, cs.length = K.width → DataW.trod enc P W base (fun _ => true) true fuel e cs = some x → ∃ a, K.is W cs a)
    {fuel : Nat} {cs : List Value} {x : DataW H × List MemPlace} (h : DataW.trod enc P W base (fun _ => true) true fuel t cs = some x) (hw : 0 < K.width) :
    ∃ (p : Option Addr) (cap : Nat) (xs : List α), cs = [.slice p xs.length cap] ∧ RowAt K W p cap xs := by
  rcases open_slice ht h with ⟨rfl, _⟩ | ⟨a, len, cap, m, n, D, Pl, rfl, _, hl, hm, hmm, _, hx⟩
  · exact ⟨none, 0, [], rfl, RowAt.nil⟩
  · simp only [if_true] at hmm
    have each : ∀ i, i < len → ∃ y : α, ∃ cs', (∀ j (h : j < cs'.length), W.cell? ((a.add (i * K.width)).add j) = some cs'[j]) ∧ K.is W cs' y := fun i hi => by
      obtain ⟨cs', g1, g2⟩ := hx i (by omega)
      rw [ce] at g1
      obtain ⟨_, hlen, hcell⟩ := World.cells?_some g1
      obtain ⟨y, hy⟩ := hk hlen g2
      refine ⟨y, cs', fun j hj => ?_, hy⟩
      have := hcell j (by omega)
      rw [this, List.getElem?_eq_getElem hj]
    obtain ⟨xs, hxl, hxs⟩ := list_of_each len _ each
    subst hxl
    refine ⟨some a, cap, xs, rfl, hl, hm, fun i hi => ?_⟩
    obtain ⟨cs', hcell, hy⟩ := hxs i hi
    obtain ⟨ab, ao, spot⟩ := a
    have hspot : spot = none := by
      obtain ⟨cs0, hcell0, hy0⟩ := hxs 0 (by omega)
      have hs := World.cell?_spot (hcell0 0 (by rw [K.len hy0]; exact hw))
      simpa [Addr.add] using hs
    subst hspot
    exact ⟨ab, ao, cs', rfl, fun j hj => by have := hcell j hj; simp only [Addr.add_lit] at this; exact this, hy⟩
end Go.By
/- Arguments that are rows of rows of bytes, opened. -/
namespace Go.By
open Go Go.RowKit Go.ChangeShapes Go.WideShapes Go.ChangeAt Go.Deep
structure BodyRow (w : World) (p : Option Addr) (n cap : Nat) (T : Nat → Value × List Nat) : Prop where
  le : n ≤ cap
  most : cap ≤ maxLen
  at_ : ∀ i, i < n → ∃ lb lo, p = some ⟨lb, lo, none⟩ ∧ w.cell? ⟨lb, lo + i, none⟩ = some (T i).1
  wf : ∀ i, i < n → Bytes w (T i).1 (T i).2
theorem BodyRow.below {w w' : World} {p : Option Addr} {n cap : Nat} {T : Nat → Value × List Nat} (h : BodyRow w p n cap T) (hb : Below w.heap.size w w') : BodyRow w' p n cap T := by
  refine ⟨h.le, h.most, fun i hi => ?_, fun i hi => (h.wf i hi).below hb⟩
  obtain ⟨lb, lo, h1, c0⟩ := h.at_ i hi
  exact ⟨lb, lo, h1, (hb.cell (p := ⟨lb, _, none⟩) (block_lt_of_cell c0)).trans c0⟩
theorem BodyRow.body {w : World} {lb lo n cap i : Nat} {T : Nat → Value × List Nat} (h : BodyRow w (some ⟨lb, lo, none⟩) n cap T) (hi : i < n) :
    ∃ q c, w.cell? ⟨lb, lo + i, none⟩ = some (.slice q (T i).2.length c) ∧ Bytes w (.slice q (T i).2.length c) (T i).2 := by
  obtain ⟨lb', lo', h1, h2⟩ := h.at_ i hi
  simp only [Option.some.injEq, Addr.mk.injEq, and_true] at h1
  obtain ⟨rfl, rfl⟩ := h1
  have hw := h.wf i hi
  obtain ⟨q, c, hv, _⟩ := hw.any
  rw [hv] at h2 hw
  exact ⟨q, c, h2, hw⟩
end Go.By
/- Pieces of rows of whatever. -/
namespace Go.By
open Go Go.RowKit
structure RowT (P : Program) (t : TypeId) (s : Nat) : Prop where
  slice : P.underlying t = Option.some (.slice (P.elem t))
  size : ∀ w : World, (sizeOf (P.elem t)).run P w = .ok s w
theorem RowAt.upto {α : Type} {K : Kind α} {P : Program} {t : TypeId} (T : RowT P t K.width) {w : World} {p : Option Addr} {cap : Nat} {xs : List α} (h : RowAt K w p cap xs) (n : Nat) (N : Int) (hN : N = n) (hn : n ≤ xs.length) :
    (∀ w0 : World, (Instr.slice t (.slice p xs.length cap) none (Option.some (.int .i64 N)) none).run P w0 = .ok (.slice p (xs.take n).length cap) w0) ∧ RowAt K w p cap (xs.take n) := by
  subst hN
  have hle := h.le
  have hr := fun w0 => run_slice_h (P := P) w0 t p xs.length cap T.slice .i64 (n : Int) (by omega) (by omega)
  have e2 : (n : Int).toNat = n := by omega
  simp only [T.size, Result.andThen, e2, sliced, Nat.zero_mul, Nat.sub_zero] at hr
  have hl : (xs.take n).length = n := by rw [List.length_take]; omega
  refine ⟨fun w0 => ?_, by omega, h.most, fun i hi => ?_⟩
  · rw [hr, hl]
    congr 2
    split
    · rfl
    · cases p with
      | none => rfl
      | some a => simp [Addr.add]
  · obtain ⟨lb, lo, cs, rfl, h1, h2⟩ := h.at_ i (by omega)
    exact ⟨lb, lo, cs, rfl, h1, by simpa using h2⟩
end Go.By
