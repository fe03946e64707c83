/- Arguments that are rows of rows of bytes, opened. -/
import Derived.Test.YtldkeelgnfegeaaGreatLaw
import Derived.Deep.Slices
import Derived.OpenShut
namespace Go.By
open Go Go.RowKit Go.ChangeShapes Go.WideShapes Go.ChangeAt Go.Deep

theorem bytes_of_trod {H : Type} {enc : TypeId × Value → H} {P : Program} {W : World} {base : Nat} {t e : TypeId} (T : ByT P t e) (hc : P.cellsOf e = 1) {fuel : Nat} {v : Value} {x : DataW H × List MemPlace}
    (hf : DataW.trod enc P W base (fun _ => true) true fuel t [v] = some x) : ∃ l : List Nat, Bytes W v l := by
  rcases open_ints T.slice T.elem hc hf with ⟨hcs, hx⟩ | ⟨a, len, cap, zs, hcs, _, hl, hm, hz, hx, hcell, hwz⟩
  · simp only [List.cons.injEq, and_true] at hcs
    subst hcs
    exact ⟨[], Bytes.nil W⟩
  · simp only [List.cons.injEq, and_true] at hcs
    subst hcs
    simp only [if_true] at hz
    have hlen : ((zs.take len).map Int.toNat).length = len := by simp; omega
    refine ⟨(zs.take len).map Int.toNat, ⟨?_, ?_, ?_⟩⟩
    · by_cases h0 : zs.length = 0
      · have h1 : cap = 0 := by omega
        have h2 : len = 0 := by omega
        subst h1 h2
        exact .inr (.inl ⟨a, rfl, by simp⟩)
      · obtain ⟨ab, ao, spot⟩ := a
        have hspot : spot = none := by simpa [Addr.add] using World.cell?_spot (hcell 0 (by omega))
        subst hspot
        refine .inr <| .inr ⟨ab, ao, cap, by rw [hlen], by rw [hlen]; exact hl, fun i hi => ?_⟩
        rw [hlen] at hi
        have hci := hcell i (by omega)
        rw [Addr.add_lit] at hci
        rw [hci]
        have hm := hwz (zs.getD i 0) (by rw [List.getD_eq_getElem?_getD, List.getElem?_eq_getElem (by omega)]; exact List.getElem_mem _)
        obtain ⟨n, hn, _⟩ := u8_of_wf hm
        rw [atB_of (by rw [hlen]; exact hi)]
        rw [List.getElem_map, List.getElem_take]
        have e : zs.getD i 0 = zs[i]'(by omega) := by rw [List.getD_eq_getElem?_getD, List.getElem?_eq_getElem (by omega)]; rfl
        rw [e] at hn ⊢
        rw [hn]; rfl
    · intro c hc
      obtain ⟨z, hz', rfl⟩ := List.mem_map.1 hc
      obtain ⟨n, hn, hlt⟩ := u8_of_wf (hwz z (List.mem_of_mem_take hz'))
      omega
    · rw [hlen]; omega

/-- The rows of an argument. -/
structure BodyRow (w : World) (p : Option Addr) (n cap : Nat) (T : Nat → Value × List Nat) : Prop where
  le : n ≤ cap
  most : cap ≤ maxLen
  at_ : ∀ i, i < n → ∃ lb lo, p = some ⟨lb, lo, none⟩ ∧ w.cell? ⟨lb, lo + i, none⟩ = some (T i).1
  wf : ∀ i, i < n → Bytes w (T i).1 (T i).2
theorem BodyRow.below {w w' : World} {p : Option Addr} {n cap : Nat} {T : Nat → Value × List Nat} (h : BodyRow w p n cap T) (hb : Below w.heap.size w w') : BodyRow w' p n cap T := by
  refine ⟨h.le, h.most, fun i hi => ?_, fun i hi => (h.wf i hi).below hb⟩
  obtain ⟨lb, lo, h1, c0⟩ := h.at_ i hi
  exact ⟨lb, lo, h1, (hb.cell (p := ⟨lb, _, none⟩) (block_lt_of_cell c0)).trans c0⟩

theorem open_rows {H : Type} {enc : TypeId × Value → H} {P : Program} {W : World} {base b0 : Nat} {t e te : TypeId} (ht : P.underlying t = some (.slice e)) (ce : P.cellsOf e = 1) (T : ByT P e te) (cte : P.cellsOf te = 1) {v : Value} {d : DataW H} {ps : List MemPlace}
    (hval : Value.okWide P W .any b0 t v) (h : DataW.Trod enc P W base (fun _ => true) true t v d ps) :
    ∃ (p : Option Addr) (n cap : Nat) (T : Nat → Value × List Nat), v = .slice p n cap ∧ BodyRow W p n cap T := by
  obtain ⟨p, len, cap, rfl⟩ := okWide_slice ht hval
  obtain ⟨fuel, hf⟩ := h
  have hcs0 : (Value.slice p len cap).cells.toList = [.slice p len cap] := by simp [Value.cells]
  rw [hcs0] at hf
  rcases open_slice1 ht ce hf with ⟨h0, _⟩ | ⟨a, len', cap', m, n, V, D, Pl, h1, _, hl, hm, hmm, _, hx⟩
  · simp only [List.cons.injEq, Value.slice.injEq, and_true] at h0
    obtain ⟨rfl, rfl, rfl⟩ := h0
    exact ⟨none, 0, 0, fun _ => (.slice none 0 0, []), rfl, Nat.le_refl _, Nat.zero_le _, fun i hi => by omega, fun i hi => by omega⟩
  · simp only [List.cons.injEq, Value.slice.injEq, and_true] at h1
    obtain ⟨rfl, rfl, rfl⟩ := h1
    simp only [if_true] at hmm
    have each : ∀ i, i < len → ∃ l : List Nat, Bytes W (V i) l := fun i hi => bytes_of_trod T cte (hx i (by omega)).2
    refine ⟨some a, len, cap, fun i => (V i, if h : i < len then (each i h).choose else []), rfl, hl, hm, fun i hi => ?_, fun i hi => ?_⟩
    · obtain ⟨ab, ao, spot⟩ := a
      have h00 := (hx 0 (by omega)).1
      have hspot : spot = none := by
        have hs := World.cell?_spot h00
        simpa [Addr.add] using hs
      subst hspot
      refine ⟨ab, ao, rfl, ?_⟩
      have hh := (hx i (by omega)).1
      simp only [Addr.add_lit] at hh
      exact hh
    · simp only [dif_pos hi]
      exact (each i hi).choose_spec
theorem BodyRow.body {w : World} {lb lo n cap i : Nat} {T : Nat → Value × List Nat} (h : BodyRow w (some ⟨lb, lo, none⟩) n cap T) (hi : i < n) :
    ∃ q c, w.cell? ⟨lb, lo + i, none⟩ = some (.slice q (T i).2.length c) ∧ Bytes w (.slice q (T i).2.length c) (T i).2 := by
  obtain ⟨lb', lo', h1, h2⟩ := h.at_ i hi
  simp only [Option.some.injEq, Addr.mk.injEq, and_true] at h1
  obtain ⟨rfl, rfl⟩ := h1
  have hw := h.wf i hi
  obtain ⟨q, c, hv, _⟩ := hw.any
  rw [hv] at h2 hw
  exact ⟨q, c, h2, hw⟩
end Go.By

