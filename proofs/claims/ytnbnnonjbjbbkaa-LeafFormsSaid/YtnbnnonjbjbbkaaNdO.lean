/- Arguments that are nodes, opened. -/
import Derived.Test.YtnbnnonjbjbbkaaRowK
import Derived.Test.YtnbnnonjbjbbkaaHdO
import Derived.Test.YtnbnnonjbjbbkaaNdP
namespace Go.By
open Go Go.RowKit Go.ChangeShapes Go.WideShapes Go.ChangeAt Go.Deep

/-- Rows of bytes. -/
def KBytes : Kind (List Nat) where
  width := 1
  is w cs l := ∃ v, cs = [v] ∧ Bytes w v l
  len h := by obtain ⟨v, rfl, _⟩ := h; rfl
  stays h hb := by obtain ⟨v, rfl, h⟩ := h; exact ⟨v, rfl, h.below hb⟩
/-- Items. -/
def KItem : Kind NIt where
  width := 2
  is w cs i := ∃ a b, cs = [a, b] ∧ Bytes w a i.k ∧ Bytes w b i.v
  len h := by obtain ⟨a, b, rfl, _⟩ := h; rfl
  stays h hb := by obtain ⟨a, b, rfl, h1, h2⟩ := h; exact ⟨a, b, rfl, h1.below hb, h2.below hb⟩
/-- Trees. -/
def KRef : Kind NKd where
  width := 2
  is _ cs d := cs = [.int .i64 d.off, .int .u64 (d.ct : Nat)] ∧ d.off ≤ 9223372036854775807 ∧ d.ct < 18446744073709551616
  len h := by obtain ⟨rfl, _⟩ := h; rfl
  stays h _ := h
/-- A value that is a node. -/
structure IsNd (w : World) (v : Value) (n : Nd) (pi : Option Addr) (ci : Nat) (pk : Option Addr) (ck : Nat) (pd : Option Addr) (cd : Nat) : Prop where
  val : v = .agg #[.bool n.leaf, .slice pi n.its.length ci, .slice pk n.ks.length ck, .slice pd n.kids.length cd]
  its : RowAt KItem w pi ci n.its
  ks : RowAt KBytes w pk ck n.ks
  kids : RowAt KRef w pd cd n.kids
theorem IsNd.below {w w' : World} {v : Value} {n : Nd} {pi pk pd : Option Addr} {ci ck cd : Nat} (h : IsNd w v n pi ci pk ck pd cd) (hb : Below w.heap.size w w') : IsNd w' v n pi ci pk ck pd cd :=
  ⟨h.val, h.its.below hb, h.ks.below hb, h.kids.below hb⟩
theorem IsNd.fine {w : World} {v : Value} {n : Nd} {pi pk pd : Option Addr} {ci ck cd : Nat} (h : IsNd w v n pi ci pk ck pd cd) : NdFine n := by
  refine ⟨fun i hi => ?_, fun k hk => ?_, fun d hd => ?_⟩
  · obtain ⟨j, hj, rfl⟩ := List.getElem_of_mem hi
    obtain ⟨_, _, _, _, _, a, b, _, h1, h2⟩ := h.its.at_ j hj
    exact ⟨h1.small, h2.small⟩
  · obtain ⟨j, hj, rfl⟩ := List.getElem_of_mem hk
    obtain ⟨_, _, _, _, _, v, _, h1⟩ := h.ks.at_ j hj
    exact h1.small
  · obtain ⟨j, hj, rfl⟩ := List.getElem_of_mem hd
    obtain ⟨_, _, _, _, _, _, h1⟩ := h.kids.at_ j hj
    exact h1
theorem u64_top {a : Int} (h : (Lit.int .u64 a).wf = true) : ∃ n : Nat, a = n ∧ n < 18446744073709551616 := by
  have h' : 0 ≤ a ∧ a ≤ 18446744073709551615 := by simpa [Lit.wf, IntKind.min, IntKind.max, IntKind.signed, IntKind.bits] using h
  exact ⟨a.toNat, by omega, by omega⟩
/-- A node that is an argument. ti: []Item, e: Item, tb: []byte, te: byte, tk: [][]byte, td: []Ref, r: Ref. -/
theorem open_node {H : Type} {enc : TypeId × Value → H} {P : Program} {W : World} {base b0 : Nat} {t tl ti e tb te tk td r tx ty : TypeId} {f0 f1 f2 f3 g0 g1 h0 h1 : Field}
    (ht : P.underlying t = some (.struct #[f0, f1, f2, f3])) (ct : P.cellsOf t = 4) (o : f0.offset = 0 ∧ f1.offset = 1 ∧ f2.offset = 2 ∧ f3.offset = 3)
    (ft : f0.type = tl ∧ f1.type = ti ∧ f2.type = tk ∧ f3.type = td) (c : P.cellsOf tl = 1 ∧ P.cellsOf ti = 1 ∧ P.cellsOf tk = 1 ∧ P.cellsOf td = 1 ∧ P.cellsOf tb = 1 ∧ P.cellsOf te = 1 ∧ P.cellsOf tx = 1 ∧ P.cellsOf ty = 1)
    (ul : P.underlying tl = some .bool) (uti : P.underlying ti = some (.slice e)) (utk : P.underlying tk = some (.slice tb)) (utd : P.underlying td = some (.slice r)) (ub : ByT P tb te)
    (he : P.underlying e = some (.struct #[g0, g1])) (ce : P.cellsOf e = 2) (oe : g0.offset = 0 ∧ g1.offset = 1) (fe : g0.type = tb ∧ g1.type = tb)
    (hr : P.underlying r = some (.struct #[h0, h1])) (cr : P.cellsOf r = 2) (or : h0.offset = 0 ∧ h1.offset = 1) (fr : h0.type = tx ∧ h1.type = ty) (ux : P.underlying tx = some (.int .i64)) (uy : P.underlying ty = some (.int .u64))
    {v : Value} {d : DataW H} {ps : List MemPlace} (hval : Value.okWide P W .any b0 t v) (h : DataW.Trod enc P W base (fun _ => true) true t v d ps) :
    ∃ n pi ci pk ck pd cd, IsNd W v n pi ci pk ck pd cd := by
  obtain ⟨cs, rfl, hsz⟩ := okWide_struct ht hval
  obtain ⟨fuel, hf⟩ := h
  have hcs0 : (Value.agg cs).cells.toList = cs.toList := by simp [Value.cells]
  rw [hcs0] at hf
  obtain ⟨o0, o1, o2, o3⟩ := o
  obtain ⟨q0, q1, q2, q3⟩ := ft
  obtain ⟨k0, k1, k2, k3, kb, ke, kx, ky⟩ := c
  obtain ⟨xs, k, _, _, _, hxl, hfs⟩ := DataW.trod_struct ht hf
  obtain ⟨cs⟩ := cs
  have hlen : cs.length = 4 := by rw [← ct, ← hsz]; simp
  match xs, hxl, cs, hlen, hfs with
  | [y0, y1, y2, y3], _, [v0, v1, v2, v3], _, hfs =>
    have r0 := hfs 0 f0 rfl
    have r1 := hfs 1 f1 rfl
    have r2 := hfs 2 f2 rfl
    have r3 := hfs 3 f3 rfl
    rw [o0, q0, k0] at r0; rw [o1, q1, k1] at r1; rw [o2, q2, k2] at r2; rw [o3, q3, k3] at r3
    obtain ⟨lf, e0, _⟩ := DataW.trod_bool ul r0
    obtain ⟨pi, ci, its, e1, w1⟩ := row_of_trod (K := KItem) uti ce (fun {fuel cs x} hl hf => by
      obtain ⟨zs, m, _, _, _, hzl, hz⟩ := DataW.trod_struct he hf
      match zs, hzl, cs, hl, hz with
      | [z0, z1], _, [a, b], _, hz =>
        have s0 := hz 0 g0 rfl
        have s1 := hz 1 g1 rfl
        rw [oe.1, fe.1, kb] at s0; rw [oe.2, fe.2, kb] at s1
        obtain ⟨la, ha⟩ := bytes_of_trod ub ke (v := a) s0
        obtain ⟨lb, hb⟩ := bytes_of_trod ub ke (v := b) s1
        exact ⟨⟨la, lb⟩, a, b, rfl, ha, hb⟩) r1 (by decide)
    obtain ⟨pk, ck, ks, e2, w2⟩ := row_of_trod (K := KBytes) utk kb (fun {fuel cs x} hl hf => by
      match cs, hl with
      | [a], _ =>
        obtain ⟨la, ha⟩ := bytes_of_trod ub ke (v := a) hf
        exact ⟨la, a, rfl, ha⟩) r2 (by decide)
    obtain ⟨pd, cd, kids, e3, w3⟩ := row_of_trod (K := KRef) utd cr (fun {fuel cs x} hl hf => by
      obtain ⟨zs, m, _, _, _, hzl, hz⟩ := DataW.trod_struct hr hf
      match zs, hzl, cs, hl, hz with
      | [z0, z1], _, [a, b], _, hz =>
        have s0 := hz 0 h0 rfl
        have s1 := hz 1 h1 rfl
        rw [or.1, fr.1, kx] at s0; rw [or.2, fr.2, ky] at s1
        obtain ⟨m0, e0, _, x0⟩ := DataW.trod_int ux s0
        obtain ⟨m1, e1, _, x1⟩ := DataW.trod_int uy s1
        simp only [List.drop, List.take, List.cons.injEq, and_true] at e0 e1
        obtain ⟨c1, hc1, hlt⟩ := u64_top x1
        subst e0 e1 hc1
        exact ⟨⟨m0, c1⟩, rfl, i64_top x0, hlt⟩) r3 (by decide)
    simp only [List.drop, List.take, List.cons.injEq, and_true] at e0 e1 e2 e3
    subst e0 e1 e2 e3
    exact ⟨⟨lf, its, ks, kids⟩, pi, ci, pk, ck, pd, cd, rfl, w1, w2, w3⟩
end Go.By

