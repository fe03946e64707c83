/- Arguments that are roots, and arrays of bytes, opened. -/
import Derived.Test.YtkhpblclpcgjnaaDeeds
import Derived.Test.YtkhpblclpcgjnaaNdO
import Derived.Test.YtkhpblclpcgjnaaRtA
import Derived.OpenShut
namespace Go.By
open Go Go.RowKit Go.ChangeShapes Go.WideShapes Go.ChangeAt Go.Deep

theorem i64_both {a : Int} (h : (Lit.int .i64 a).wf = true) : -9223372036854775808 ≤ a ∧ a ≤ 9223372036854775807 := by
  simpa [Lit.wf, IntKind.min, IntKind.max, IntKind.signed, IntKind.bits] using h
theorem open_ref {H : Type} {enc : TypeId × Value → H} {P : Program} {W : World} {base : Nat} {r tx ty : TypeId} {h0 h1 : Field}
    (hr : P.underlying r = some (.struct #[h0, h1])) (or : h0.offset = 0 ∧ h1.offset = 1) (fr : h0.type = tx ∧ h1.type = ty) (c : P.cellsOf tx = 1 ∧ P.cellsOf ty = 1)
    (ux : P.underlying tx = some (.int .i64)) (uy : P.underlying ty = some (.int .u64)) {fuel : Nat} {v0 v1 : Value} {x : DataW H × List MemPlace}
    (h : DataW.trod enc P W base (fun _ => true) true fuel r [v0, v1] = some x) :
    ∃ d : NKd, [v0, v1] = rfCells d ∧ -9223372036854775808 ≤ d.off ∧ RfFine d := by
  obtain ⟨o0, o1⟩ := or
  obtain ⟨q0, q1⟩ := fr
  obtain ⟨k0, k1⟩ := c
  obtain ⟨xs, k, _, _, _, hxl, hfs⟩ := DataW.trod_struct hr h
  match xs, hxl, hfs with
  | [y0, y1], _, hfs =>
    have r0 := hfs 0 h0 rfl
    have r1 := hfs 1 h1 rfl
    rw [o0, q0, k0] at r0; rw [o1, q1, k1] at r1
    obtain ⟨z0, e0, _, w0⟩ := DataW.trod_int ux r0
    obtain ⟨z1, e1, _, w1⟩ := DataW.trod_int uy r1
    simp only [List.drop, List.take, List.cons.injEq, and_true] at e0 e1
    subst e0 e1
    obtain ⟨n, rfl, hn⟩ := u64_top w1
    exact ⟨⟨z0, n⟩, rfl, (i64_both w0).1, (i64_both w0).2, hn⟩
/-- A root that is an argument. ta: [5]Ref, r: Ref. -/
theorem open_root {H : Type} {enc : TypeId × Value → H} {P : Program} {W : World} {base b0 : Nat} {t tg tn ta r tx ty : TypeId} {f0 f1 f2 h0 h1 : Field}
    (ht : P.underlying t = some (.struct #[f0, f1, f2])) (ct : P.cellsOf t = 12) (o : f0.offset = 0 ∧ f1.offset = 1 ∧ f2.offset = 2)
    (ft : f0.type = tg ∧ f1.type = tn ∧ f2.type = ta) (c : P.cellsOf tg = 1 ∧ P.cellsOf tn = 1 ∧ P.cellsOf ta = 10 ∧ P.cellsOf tx = 1 ∧ P.cellsOf ty = 1)
    (ug : P.underlying tg = some (.int .u64)) (un : P.underlying tn = some (.int .i64)) (ua : P.underlying ta = some (.array 5 r))
    (hr : P.underlying r = some (.struct #[h0, h1])) (cr : P.cellsOf r = 2) (or : h0.offset = 0 ∧ h1.offset = 1) (fr : h0.type = tx ∧ h1.type = ty)
    (ux : P.underlying tx = some (.int .i64)) (uy : P.underlying ty = some (.int .u64)) {v : Value} {d : DataW H} {ps : List MemPlace}
    (hval : Value.okWide P W .any b0 t v) (h : DataW.Trod enc P W base (fun _ => true) true t v d ps) :
    ∃ q : Rt, v = .agg (rtCells q).toArray ∧ RtCome q := by
  obtain ⟨cs, rfl, hsz⟩ := okWide_struct ht hval
  obtain ⟨fuel, hf⟩ := h
  have hcs0 : (Value.agg cs).cells.toList = cs.toList := by simp [Value.cells]
  rw [hcs0] at hf
  obtain ⟨o0, o1, o2⟩ := o
  obtain ⟨q0, q1, q2⟩ := ft
  obtain ⟨k0, k1, k2, kx, ky⟩ := c
  obtain ⟨xs, k, _, _, _, hxl, hfs⟩ := DataW.trod_struct ht hf
  obtain ⟨cs⟩ := cs
  have hlen : cs.length = 12 := by rw [← ct, ← hsz]; simp
  match xs, hxl, cs, hlen, hfs with
  | [y0, y1, y2], _, [v0, v1, a0, a1, b0, b1, c0, c1, d0, d1, e0, e1], _, hfs =>
    have r0 := hfs 0 f0 rfl
    have r1 := hfs 1 f1 rfl
    have r2 := hfs 2 f2 rfl
    rw [o0, q0, k0] at r0; rw [o1, q1, k1] at r1; rw [o2, q2, k2] at r2
    obtain ⟨z0, g0, _, w0⟩ := DataW.trod_int ug r0
    obtain ⟨z1, g1, _, w1⟩ := DataW.trod_int un r1
    obtain ⟨ys, m, _, _, _, hyl, hys⟩ := DataW.trod_array ua r2
    rw [cr] at hys
    simp only [List.drop, List.take, List.cons.injEq, and_true] at g0 g1
    subst g0 g1
    obtain ⟨n, rfl, hn⟩ := u64_top w0
    match ys, hyl, hys with
    | [x0, x1, x2, x3, x4], _, hys =>
      obtain ⟨p0, s0, t0⟩ := open_ref hr or fr ⟨kx, ky⟩ ux uy (v0 := a0) (v1 := a1) (hys 0 (by omega))
      obtain ⟨p1, s1, t1⟩ := open_ref hr or fr ⟨kx, ky⟩ ux uy (v0 := b0) (v1 := b1) (hys 1 (by omega))
      obtain ⟨p2, s2, t2⟩ := open_ref hr or fr ⟨kx, ky⟩ ux uy (v0 := c0) (v1 := c1) (hys 2 (by omega))
      obtain ⟨p3, s3, t3⟩ := open_ref hr or fr ⟨kx, ky⟩ ux uy (v0 := d0) (v1 := d1) (hys 3 (by omega))
      obtain ⟨p4, s4, t4⟩ := open_ref hr or fr ⟨kx, ky⟩ ux uy (v0 := e0) (v1 := e1) (hys 4 (by omega))
      unfold rfCells at s0 s1 s2 s3 s4
      simp only [List.cons.injEq, and_true] at s0 s1 s2 s3 s4
      obtain ⟨rfl, rfl⟩ := s0
      obtain ⟨rfl, rfl⟩ := s1
      obtain ⟨rfl, rfl⟩ := s2
      obtain ⟨rfl, rfl⟩ := s3
      obtain ⟨rfl, rfl⟩ := s4
      refine ⟨⟨n, z1, [p0, p1, p2, p3, p4]⟩, rfl, RtCome.of hn (i64_both w1) rfl (fun d hd => ?_)⟩
      simp only [List.mem_cons, List.not_mem_nil, or_false] at hd
      rcases hd with rfl | rfl | rfl | rfl | rfl <;> assumption
theorem all_bytes : ∀ {cs : List Value}, (∀ v ∈ cs, ∃ c : Nat, c < 256 ∧ v = .int .u8 c) → ∃ l : List Nat, cs = cellsOf l ∧ ∀ c ∈ l, c < 256
  | [], _ => ⟨[], rfl, fun _ h => by cases h⟩
  | v :: cs, h => by
    obtain ⟨c, hc, rfl⟩ := h v (by simp)
    obtain ⟨l, rfl, hl⟩ := all_bytes (cs := cs) (fun u hu => h u (by simp [hu]))
    refine ⟨c :: l, rfl, fun d hd => ?_⟩
    rcases List.mem_cons.1 hd with rfl | hd
    · exact hc
    · exact hl d hd
/-- An array of bytes that is an argument. -/
theorem open_arr {H : Type} {enc : TypeId × Value → H} {P : Program} {W : World} {base b0 n : Nat} {t e : TypeId}
    (ht : P.underlying t = some (.array n e)) (ct : P.cellsOf t = n) (ce : P.cellsOf e = 1) (ue : P.underlying e = some (.int .u8)) {v : Value} {d : DataW H} {ps : List MemPlace}
    (hval : Value.okWide P W .any b0 t v) (h : DataW.Trod enc P W base (fun _ => true) true t v d ps) :
    ∃ l : List Nat, v = .agg (cellsOf l).toArray ∧ l.length = n ∧ ∀ c ∈ l, c < 256 := by
  have hv : ∃ cs : Array Value, v = .agg cs ∧ cs.size = P.cellsOf t := by
    simp only [Value.okWide, ht] at hval
    obtain ⟨cs, h1, h2, _⟩ := hval
    exact ⟨cs, h1, h2⟩
  obtain ⟨cs, rfl, hsz⟩ := hv
  obtain ⟨fuel, hf⟩ := h
  have hcs0 : (Value.agg cs).cells.toList = cs.toList := by simp [Value.cells]
  rw [hcs0] at hf
  obtain ⟨ys, m, _, _, _, hyl, hys⟩ := DataW.trod_array ht hf
  obtain ⟨cs⟩ := cs
  have hlen : cs.length = n := by rw [← ct, ← hsz]; simp
  obtain ⟨l, rfl, hl⟩ := all_bytes (cs := cs) (fun u hu => by
    obtain ⟨i, hi, rfl⟩ := List.getElem_of_mem hu
    have e1 := hys i (by omega)
    rw [ce, Nat.mul_one, List.getElem?_eq_getElem (by omega)] at e1
    obtain ⟨z, e2, _, e3⟩ := DataW.trod_int ue e1
    dsimp only at e2
    rw [List.drop_eq_getElem_cons hi] at e2
    simp only [List.take, List.cons.injEq, and_true] at e2
    have h' : 0 ≤ z ∧ z ≤ 255 := by simpa [Lit.wf, IntKind.min, IntKind.max, IntKind.signed, IntKind.bits] using e3
    exact ⟨z.toNat, by omega, by rw [e2, show ((z.toNat : Nat) : Int) = z by omega]⟩)
  exact ⟨l, rfl, by rw [← hlen, cellsOf_length], hl⟩
end Go.By

