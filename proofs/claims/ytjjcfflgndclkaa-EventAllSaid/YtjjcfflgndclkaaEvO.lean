/- Arguments that are events, opened. -/
import Derived.Test.YtjjcfflgndclkaaDeeds
import Derived.Test.YtjjcfflgndclkaaEvA
namespace Go.By
open Go Go.RowKit Go.ChangeShapes Go.WideShapes Go.ChangeAt Go.Deep

theorem i64_most {a : Int} (h : (Lit.int .i64 a).wf = true) : a ≤ 9223372036854775807 := by
  have h' : -9223372036854775808 ≤ a ∧ a ≤ 9223372036854775807 := by simpa [Lit.wf, IntKind.min, IntKind.max, IntKind.signed, IntKind.bits] using h
  exact h'.2
theorem open_event {H : Type} {enc : TypeId × Value → H} {P : Program} {W : World} {base b0 : Nat} {t ti ts tb te : TypeId} {f0 f1 f2 f3 f4 : Field}
    (ht : P.underlying t = some (.struct #[f0, f1, f2, f3, f4])) (ce : P.cellsOf t = 5)
    (o : f0.offset = 0 ∧ f1.offset = 1 ∧ f2.offset = 2 ∧ f3.offset = 3 ∧ f4.offset = 4)
    (ft : f0.type = ti ∧ f1.type = ts ∧ f2.type = ti ∧ f3.type = ts ∧ f4.type = tb)
    (c : P.cellsOf ti = 1 ∧ P.cellsOf ts = 1 ∧ P.cellsOf tb = 1 ∧ P.cellsOf te = 1)
    (ui : P.underlying ti = some (.int .i64)) (us : P.underlying ts = some .string) (ub : ByT P tb te) {v : Value} {d : DataW H} {ps : List MemPlace}
    (hval : Value.okWide P W .any b0 t v) (h : DataW.Trod enc P W base (fun _ => true) true t v d ps) :
    ∃ (q r : Int) (s t : ByteArray) (u : Value) (l : List Nat), v = .agg #[.int .i64 q, .string s, .int .i64 r, .string t, u] ∧ Bytes W u l ∧ q ≤ 9223372036854775807 ∧ r ≤ 9223372036854775807 ∧ s.size ≤ maxLen ∧ t.size ≤ maxLen := by
  obtain ⟨cs, rfl, hsz⟩ := okWide_struct ht hval
  obtain ⟨fuel, hf⟩ := h
  have hcs0 : (Value.agg cs).cells.toList = cs.toList := by simp [Value.cells]
  rw [hcs0] at hf
  obtain ⟨o0, o1, o2, o3, o4⟩ := o
  obtain ⟨q0, q1, q2, q3, q4⟩ := ft
  obtain ⟨k1, k2, k3, k4⟩ := c
  obtain ⟨xs, k, _, _, _, hxl, hfs⟩ := DataW.trod_struct ht hf
  obtain ⟨cs⟩ := cs
  have hlen : cs.length = 5 := by rw [← ce, ← hsz]; simp
  match xs, hxl, cs, hlen, hfs with
  | [y0, y1, y2, y3, y4], _, [v0, v1, v2, v3, v4], _, hfs =>
    have r0 := hfs 0 f0 rfl
    have r1 := hfs 1 f1 rfl
    have r2 := hfs 2 f2 rfl
    have r3 := hfs 3 f3 rfl
    have r4 := hfs 4 f4 rfl
    rw [o0, q0, k1] at r0; rw [o1, q1, k2] at r1; rw [o2, q2, k1] at r2; rw [o3, q3, k2] at r3; rw [o4, q4, k3] at r4
    obtain ⟨z0, e0, _, w0⟩ := DataW.trod_int ui r0
    obtain ⟨s1, e1, _, w1⟩ := DataW.trod_string us r1
    obtain ⟨z2, e2, _, w2⟩ := DataW.trod_int ui r2
    obtain ⟨s3, e3, _, w3⟩ := DataW.trod_string us r3
    obtain ⟨l, hb⟩ := bytes_of_trod ub k4 (v := v4) r4
    simp only [List.drop, List.take, List.cons.injEq, and_true] at e0 e1 e2 e3
    subst e0 e1 e2 e3
    exact ⟨z0, z2, s1, s3, v4, l, rfl, hb, i64_most w0, i64_most w2, w1, w3⟩
end Go.By
namespace Go.Proofs.Ytjjcfflgndclkaa
open Go Go.ChangeShapes Go.WideShapes Go.ChangeAt Go.RowKit Go.By

set_option maxRecDepth 1000000 in
theorem event_parts : ∃ f0 f1 f2 f3 f4 : Field, Try.prog.underlying 24 = some (.struct #[f0, f1, f2, f3, f4]) ∧
    (f0.offset = 0 ∧ f1.offset = 1 ∧ f2.offset = 2 ∧ f3.offset = 3 ∧ f4.offset = 4) ∧
    (f0.type = 2 ∧ f1.type = 9 ∧ f2.type = 2 ∧ f3.type = 9 ∧ f4.type = 22) :=
  ⟨_, _, _, _, _, rfl, ⟨rfl, rfl, rfl, rfl, rfl⟩, ⟨rfl, rfl, rfl, rfl, rfl⟩⟩
/-- An argument that is an event. -/
theorem open_ev {H : Type} {enc : TypeId × Value → H} {W : World} {base b0 : Nat} {v : Value} {d : DataW H} {ps : List MemPlace}
    (hval : Value.okWide Try.prog W .any b0 24 v) (h : DataW.Trod enc Try.prog W base (fun _ => true) true 24 v d ps) :
    ∃ (e : Ev) (q r : Int) (s t : ByteArray) (u : Value), IsEv W v e q r s t u := by
  obtain ⟨f0, f1, f2, f3, f4, hu, ho, hty⟩ := event_parts
  obtain ⟨q, r, s, t, u, l, rfl, hb, hq, hr, hs, ht⟩ := open_event (P := Try.prog) hu (by kernel_rfl) ho hty ⟨by kernel_rfl, by kernel_rfl, by kernel_rfl, by kernel_rfl⟩ (by kernel_rfl) (by kernel_rfl) byT hval h
  exact ⟨⟨q, r, natsOf s, natsOf t, l⟩, q, r, s, t, u, rfl, rfl, hb, hq, hr, hs, ht⟩
end Go.Proofs.Ytjjcfflgndclkaa

