/- An argument that is a slice of rows of three bytes, opened. -/
import Derived.Test.YtljhflkcikpoiaaLaw
import Derived.Deep.Slices
import Derived.OpenShut
namespace Go.By
open Go Go.RowKit Go.ChangeShapes Go.WideShapes Go.ChangeAt Go.Deep

theorem open_triples {H : Type} {enc : TypeId × Value → H} {P : Program} {W : World} {base b0 : Nat} {t e q : TypeId} (ht : P.underlying t = some (.slice e)) (he : P.underlying e = some (.array 3 q)) (hq : P.underlying q = some (.int .u8)) (ce : P.cellsOf e = 3) (cq : P.cellsOf q = 1) {v : Value} {d : DataW H} {ps : List MemPlace}
    (hval : Value.okWide P W .any b0 t v) (h : DataW.Trod enc P W base (fun _ => true) true t v d ps) :
    ∃ (p : Option Addr) (n cap : Nat) (T : Nat → Nat → Nat), v = .slice p n cap ∧ n ≤ cap ∧ cap ≤ maxLen ∧ (∀ i c, T i c < 256) ∧ ∀ i, i < n → ∃ lb lo, p = some ⟨lb, lo, none⟩ ∧ ∀ c, c < 3 → W.cell? ⟨lb, lo + i * 3 + c, none⟩ = some (.int .u8 (T i c : Nat)) := by
  obtain ⟨p, len, cap, rfl⟩ := okWide_slice ht hval
  obtain ⟨fuel, hf⟩ := h
  have hcs0 : (Value.slice p len cap).cells.toList = [.slice p len cap] := by simp [Value.cells]
  rw [hcs0] at hf
  rcases open_slice ht hf with ⟨h0, _⟩ | ⟨a, len', cap', m, n, D, Pl, h1, _, hl, hm, hmm, _, hx⟩
  · simp only [List.cons.injEq, Value.slice.injEq, and_true] at h0
    obtain ⟨rfl, rfl, rfl⟩ := h0
    exact ⟨none, 0, 0, fun _ _ => 0, rfl, Nat.le_refl _, Nat.zero_le _, fun _ _ => (by show 0 < 256; omega), fun i hi => by omega⟩
  · simp only [List.cons.injEq, Value.slice.injEq, and_true] at h1
    obtain ⟨rfl, rfl, rfl⟩ := h1
    simp only [if_true] at hmm
    have each : ∀ i c, i < len → c < 3 → ∃ z : Nat, z < 256 ∧ W.cell? ((a.add (i * 3)).add c) = some (.int .u8 (z : Nat)) := fun i c hi hc => by
      obtain ⟨cs', g1, g2⟩ := hx i (by omega)
      rw [ce] at g1
      obtain ⟨_, g3, g4⟩ := World.cells?_some g1
      obtain ⟨xs, m', _, _, _, gl, g5⟩ := DataW.trod_array he g2
      have g6 := g5 c hc
      rw [cq, Nat.mul_one] at g6
      have hxc : xs[c]? = some (xs[c]'(by omega)) := List.getElem?_eq_getElem (by omega)
      rw [hxc] at g6
      obtain ⟨z, g7, _, g8⟩ := DataW.trod_int hq g6
      obtain ⟨zn, rfl, hz⟩ := u8_of_wf g8
      refine ⟨zn, hz, ?_⟩
      rw [g4 c hc]
      have h9 : (cs'.drop c).take 1 = [cs'[c]'(by omega)] := by
        rw [List.drop_eq_getElem_cons (by omega)]; rfl
      rw [h9] at g7
      simp only [List.cons.injEq, and_true] at g7
      rw [List.getElem?_eq_getElem (by omega), g7]
    refine ⟨some a, len, cap, fun i c => if h : i < len ∧ c < 3 then (each i c h.1 h.2).choose else 0, rfl, hl, hm, fun i c => ?_, fun i hi => ?_⟩
    · show (if h : i < len ∧ c < 3 then (each i c h.1 h.2).choose else 0) < 256
      split
      · rename_i h; exact (each i c h.1 h.2).choose_spec.1
      · omega
    · obtain ⟨ab, ao, spot⟩ := a
      have h00 := (each 0 0 (by omega) (by omega)).choose_spec.2
      have hspot : spot = none := by
        have hs := World.cell?_spot h00
        simpa [Addr.add] using hs
      subst hspot
      refine ⟨ab, ao, rfl, fun c hc => ?_⟩
      have hh := (each i c hi hc).choose_spec.2
      show W.cell? _ = some (.int .u8 ((if h : i < len ∧ c < 3 then (each i c h.1 h.2).choose else 0 : Nat) : Int))
      rw [dif_pos ⟨hi, hc⟩]
      generalize (each i c hi hc).choose = z at hh ⊢
      rw [Addr.add_lit, Addr.add_lit] at hh
      exact hh
end Go.By
