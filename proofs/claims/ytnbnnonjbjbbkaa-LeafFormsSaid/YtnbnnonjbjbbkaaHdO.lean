/- Arguments that are heads, answers, marks, opened. -/
import Derived.Test.YtnbnnonjbjbbkaaDeeds
import Derived.Test.YtnbnnonjbjbbkaaHdP
namespace Go.By
open Go Go.RowKit Go.ChangeShapes Go.WideShapes Go.ChangeAt Go.Deep

theorem i64_top {a : Int} (h : (Lit.int .i64 a).wf = true) : a ≤ 9223372036854775807 := by
  have h' : -9223372036854775808 ≤ a ∧ a ≤ 9223372036854775807 := by simpa [Lit.wf, IntKind.min, IntKind.max, IntKind.signed, IntKind.bits] using h
  exact h'.2
/-- Two numbers and a truth. -/
theorem open_iib {H : Type} {enc : TypeId × Value → H} {P : Program} {W : World} {base b0 : Nat} {t ti tj tb : TypeId} {f0 f1 f2 : Field}
    (ht : P.underlying t = some (.struct #[f0, f1, f2])) (ce : P.cellsOf t = 3) (o : f0.offset = 0 ∧ f1.offset = 1 ∧ f2.offset = 2)
    (ft : f0.type = ti ∧ f1.type = tj ∧ f2.type = tb) (c : P.cellsOf ti = 1 ∧ P.cellsOf tj = 1 ∧ P.cellsOf tb = 1)
    (ui : P.underlying ti = some (.int .i64)) (uj : P.underlying tj = some (.int .i64)) (ub : P.underlying tb = some .bool) {v : Value} {d : DataW H} {ps : List MemPlace}
    (hval : Value.okWide P W .any b0 t v) (h : DataW.Trod enc P W base (fun _ => true) true t v d ps) :
    ∃ (q r : Int) (b : Bool), v = .agg #[.int .i64 q, .int .i64 r, .bool b] ∧ q ≤ 9223372036854775807 ∧ r ≤ 9223372036854775807 := by
  obtain ⟨cs, rfl, hsz⟩ := okWide_struct ht hval
  obtain ⟨fuel, hf⟩ := h
  have hcs0 : (Value.agg cs).cells.toList = cs.toList := by simp [Value.cells]
  rw [hcs0] at hf
  obtain ⟨o0, o1, o2⟩ := o
  obtain ⟨q0, q1, q2⟩ := ft
  obtain ⟨k1, k2, k3⟩ := c
  obtain ⟨xs, k, _, _, _, hxl, hfs⟩ := DataW.trod_struct ht hf
  obtain ⟨cs⟩ := cs
  have hlen : cs.length = 3 := by rw [← ce, ← hsz]; simp
  match xs, hxl, cs, hlen, hfs with
  | [y0, y1, y2], _, [v0, v1, v2], _, hfs =>
    have r0 := hfs 0 f0 rfl
    have r1 := hfs 1 f1 rfl
    have r2 := hfs 2 f2 rfl
    rw [o0, q0, k1] at r0; rw [o1, q1, k2] at r1; rw [o2, q2, k3] at r2
    obtain ⟨z0, e0, _, w0⟩ := DataW.trod_int ui r0
    obtain ⟨z1, e1, _, w1⟩ := DataW.trod_int uj r1
    obtain ⟨b2, e2, _⟩ := DataW.trod_bool ub r2
    simp only [List.drop, List.take, List.cons.injEq, and_true] at e0 e1 e2
    subst e0 e1 e2
    exact ⟨z0, z1, b2, rfl, i64_top w0, i64_top w1⟩
/-- A number and bytes. -/
theorem open_ib {H : Type} {enc : TypeId × Value → H} {P : Program} {W : World} {base b0 : Nat} {t ti tb te : TypeId} {f0 f1 : Field}
    (ht : P.underlying t = some (.struct #[f0, f1])) (ce : P.cellsOf t = 2) (o : f0.offset = 0 ∧ f1.offset = 1)
    (ft : f0.type = ti ∧ f1.type = tb) (c : P.cellsOf ti = 1 ∧ P.cellsOf tb = 1 ∧ P.cellsOf te = 1)
    (ui : P.underlying ti = some (.int .i64)) (ub : ByT P tb te) {v : Value} {d : DataW H} {ps : List MemPlace}
    (hval : Value.okWide P W .any b0 t v) (h : DataW.Trod enc P W base (fun _ => true) true t v d ps) :
    ∃ (q : Int) (u : Value) (l : List Nat), v = .agg #[.int .i64 q, u] ∧ q ≤ 9223372036854775807 ∧ Bytes W u l := by
  obtain ⟨cs, rfl, hsz⟩ := okWide_struct ht hval
  obtain ⟨fuel, hf⟩ := h
  have hcs0 : (Value.agg cs).cells.toList = cs.toList := by simp [Value.cells]
  rw [hcs0] at hf
  obtain ⟨o0, o1⟩ := o
  obtain ⟨q0, q1⟩ := ft
  obtain ⟨k1, k2, k3⟩ := c
  obtain ⟨xs, k, _, _, _, hxl, hfs⟩ := DataW.trod_struct ht hf
  obtain ⟨cs⟩ := cs
  have hlen : cs.length = 2 := by rw [← ce, ← hsz]; simp
  match xs, hxl, cs, hlen, hfs with
  | [y0, y1], _, [v0, v1], _, hfs =>
    have r0 := hfs 0 f0 rfl
    have r1 := hfs 1 f1 rfl
    rw [o0, q0, k1] at r0; rw [o1, q1, k2] at r1
    obtain ⟨z0, e0, _, w0⟩ := DataW.trod_int ui r0
    obtain ⟨l, hb⟩ := bytes_of_trod ub k3 (v := v1) r1
    simp only [List.drop, List.take, List.cons.injEq, and_true] at e0
    subst e0
    exact ⟨z0, v1, l, rfl, i64_top w0, hb⟩
end Go.By

