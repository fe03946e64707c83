/- Arguments that are rows of structures of six parts (two numbers, two texts, a number, bytes), opened. -/
import Derived.Test.YtnbnnonjbjbbkaaLaw
import Derived.Deep.Slices
import Derived.OpenShut
namespace Go.By
open Go Go.RowKit Go.ChangeShapes Go.WideShapes Go.ChangeAt Go.Deep

theorem bytes_of_trod {H : Type} {enc : TypeId × Value → H} {P : Program} {W : World} {base : Nat} {t e : TypeId} (T : ByT P t e) (hc : P.cellsOf e = 1) {fuel : Nat} {v : Value} {x : DataW H × List MemPlace}
    (hf : DataW.trod enc P W base (fun _ => true) true fuel t [v] = some x) : ∃ l : List Nat, Bytes W v l := by
  rcases open_ints T.slice T.elem hc hf with ⟨hcs, hx⟩ | ⟨a, len, cap, zs, hcs, _, hl, hm, hz, hx, hcell, hwz⟩
  · simp only [List.cons.injEq, and_true] at hcs
    subst hcs
    exact ⟨[], Bytes.nil W⟩
  · simp only [List.cons.injEq, and_true] at hcs
    subst hcs
    simp only [if_true] at hz
    have hlen : ((zs.take len).map Int.toNat).length = len := by simp; omega
    refine ⟨(zs.take len).map Int.toNat, ⟨?_, ?_, ?_⟩⟩
    · by_cases h0 : zs.length = 0
      · have h1 : cap = 0 := by omega
        have h2 : len = 0 := by omega
        subst h1 h2
        exact .inr (.inl ⟨a, rfl, by simp⟩)
      · obtain ⟨ab, ao, spot⟩ := a
        have hspot : spot = none := by simpa [Addr.add] using World.cell?_spot (hcell 0 (by omega))
        subst hspot
        refine .inr <| .inr ⟨ab, ao, cap, by rw [hlen], by rw [hlen]; exact hl, fun i hi => ?_⟩
        rw [hlen] at hi
        have hci := hcell i (by omega)
        rw [Addr.add_lit] at hci
        rw [hci]
        have hm := hwz (zs.getD i 0) (by rw [List.getD_eq_getElem?_getD, List.getElem?_eq_getElem (by omega)]; exact List.getElem_mem _)
        obtain ⟨n, hn, _⟩ := u8_of_wf hm
        rw [atB_of (by rw [hlen]; exact hi)]
        rw [List.getElem_map, List.getElem_take]
        have e : zs.getD i 0 = zs[i]'(by omega) := by rw [List.getD_eq_getElem?_getD, List.getElem?_eq_getElem (by omega)]; rfl
        rw [e] at hn ⊢
        rw [hn]; rfl
    · intro c hc
      obtain ⟨z, hz', rfl⟩ := List.mem_map.1 hc
      obtain ⟨n, hn, hlt⟩ := u8_of_wf (hwz z (List.mem_of_mem_take hz'))
      omega
    · rw [hlen]; omega

/-- One deed. -/
structure DeedV where
  kind : Int
  num : Int
  name : ByteArray
  to : ByteArray
  off : Int
  val : Value
  bytes : List Nat
instance : Inhabited DeedV := ⟨⟨0, 0, ByteArray.empty, ByteArray.empty, 0, .slice none 0 0, []⟩⟩
/-- The deeds of an argument. -/
structure Deeds (w : World) (p : Option Addr) (n cap : Nat) (T : Nat → DeedV) : Prop where
  le : n ≤ cap
  most : cap ≤ maxLen
  at_ : ∀ i, i < n → ∃ lb lo, p = some ⟨lb, lo, none⟩ ∧ w.cell? ⟨lb, lo + i * 6, none⟩ = some (.int .i64 (T i).kind) ∧ w.cell? ⟨lb, lo + i * 6 + 1, none⟩ = some (.int .i64 (T i).num) ∧
    w.cell? ⟨lb, lo + i * 6 + 2, none⟩ = some (.string (T i).name) ∧ w.cell? ⟨lb, lo + i * 6 + 3, none⟩ = some (.string (T i).to) ∧ w.cell? ⟨lb, lo + i * 6 + 4, none⟩ = some (.int .i64 (T i).off) ∧ w.cell? ⟨lb, lo + i * 6 + 5, none⟩ = some (T i).val
  wf : ∀ i, i < n → Bytes w (T i).val (T i).bytes ∧ (T i).name.size ≤ maxLen ∧ (T i).to.size ≤ maxLen ∧ (Lit.int .i64 (T i).off).wf = true ∧ (Lit.int .i64 (T i).num).wf = true

theorem Deeds.below {w w' : World} {p : Option Addr} {n cap : Nat} {T : Nat → DeedV} (h : Deeds w p n cap T) (hb : Below w.heap.size w w') : Deeds w' p n cap T := by
  refine ⟨h.le, h.most, fun i hi => ?_, fun i hi => ?_⟩
  · obtain ⟨lb, lo, h1, c0, c1, c2, c3, c4, c5⟩ := h.at_ i hi
    have hk : ∀ {k : Nat} {v : Value}, w.cell? ⟨lb, k, none⟩ = some v → w'.cell? ⟨lb, k, none⟩ = some v := fun h => (hb.cell (p := ⟨lb, _, none⟩) (block_lt_of_cell h)).trans h
    exact ⟨lb, lo, h1, hk c0, hk c1, hk c2, hk c3, hk c4, hk c5⟩
  · obtain ⟨h1, h2⟩ := h.wf i hi
    exact ⟨h1.below hb, h2⟩

theorem open_deeds {H : Type} {enc : TypeId × Value → H} {P : Program} {W : World} {base b0 : Nat} {t e ti ts to_ tb te : TypeId} {f0 f1 f2 f3 f4 f5 : Field} (ht : P.underlying t = some (.slice e))
    (he : P.underlying e = some (.struct #[f0, f1, f2, f3, f4, f5])) (ce : P.cellsOf e = 6)
    (o : f0.offset = 0 ∧ f1.offset = 1 ∧ f2.offset = 2 ∧ f3.offset = 3 ∧ f4.offset = 4 ∧ f5.offset = 5)
    (ft : f0.type = ti ∧ f1.type = ti ∧ f2.type = ts ∧ f3.type = ts ∧ f4.type = to_ ∧ f5.type = tb)
    (c : P.cellsOf ti = 1 ∧ P.cellsOf ts = 1 ∧ P.cellsOf to_ = 1 ∧ P.cellsOf tb = 1 ∧ P.cellsOf te = 1)
    (ui : P.underlying ti = some (.int .i64)) (us : P.underlying ts = some .string) (uo : P.underlying to_ = some (.int .i64)) (ub : ByT P tb te) {v : Value} {d : DataW H} {ps : List MemPlace}
    (hval : Value.okWide P W .any b0 t v) (h : DataW.Trod enc P W base (fun _ => true) true t v d ps) :
    ∃ (p : Option Addr) (n cap : Nat) (T : Nat → DeedV), v = .slice p n cap ∧ Deeds W p n cap T := by
  obtain ⟨p, len, cap, rfl⟩ := okWide_slice ht hval
  obtain ⟨fuel, hf⟩ := h
  have hcs0 : (Value.slice p len cap).cells.toList = [.slice p len cap] := by simp [Value.cells]
  rw [hcs0] at hf
  obtain ⟨o0, o1, o2, o3, o4, o5⟩ := o
  obtain ⟨q0, q1, q2, q3, q4, q5⟩ := ft
  obtain ⟨k1, k2, k3, k4, k5⟩ := c
  rcases open_slice ht hf with ⟨h0, _⟩ | ⟨a, len', cap', m, n, D, Pl, h1, _, hl, hm, hmm, _, hx⟩
  · simp only [List.cons.injEq, Value.slice.injEq, and_true] at h0
    obtain ⟨rfl, rfl, rfl⟩ := h0
    exact ⟨none, 0, 0, fun _ => default, rfl, Nat.le_refl _, Nat.zero_le _, fun i hi => by omega, fun i hi => by omega⟩
  · simp only [List.cons.injEq, Value.slice.injEq, and_true] at h1
    obtain ⟨rfl, rfl, rfl⟩ := h1
    simp only [if_true] at hmm
    have each : ∀ i, i < len → ∃ T : DeedV, (W.cell? (a.add (i * 6)) = some (.int .i64 T.kind) ∧ W.cell? ((a.add (i * 6)).add 1) = some (.int .i64 T.num) ∧
        W.cell? ((a.add (i * 6)).add 2) = some (.string T.name) ∧ W.cell? ((a.add (i * 6)).add 3) = some (.string T.to) ∧ W.cell? ((a.add (i * 6)).add 4) = some (.int .i64 T.off) ∧ W.cell? ((a.add (i * 6)).add 5) = some T.val) ∧
        (Bytes W T.val T.bytes ∧ T.name.size ≤ maxLen ∧ T.to.size ≤ maxLen ∧ (Lit.int .i64 T.off).wf = true ∧ (Lit.int .i64 T.num).wf = true) := fun i hi => by
      obtain ⟨cs', g1, g2⟩ := hx i (by omega)
      rw [ce] at g1
      obtain ⟨_, hlen, hcell⟩ := World.cells?_some g1
      obtain ⟨xs, k, _, _, _, hxl, hfs⟩ := DataW.trod_struct he g2
      match xs, hxl, cs', hlen with
      | [y0, y1, y2, y3, y4, y5], _, [v0, v1, v2, v3, v4, v5], _ =>
        have r0 := hfs 0 f0 rfl
        have r1 := hfs 1 f1 rfl
        have r2 := hfs 2 f2 rfl
        have r3 := hfs 3 f3 rfl
        have r4 := hfs 4 f4 rfl
        have r5 := hfs 5 f5 rfl
        rw [o0, q0, k1] at r0; rw [o1, q1, k1] at r1; rw [o2, q2, k2] at r2; rw [o3, q3, k2] at r3; rw [o4, q4, k3] at r4; rw [o5, q5, k4] at r5
        obtain ⟨z0, e0, _, _⟩ := DataW.trod_int ui r0
        obtain ⟨z1, e1, _, w1⟩ := DataW.trod_int ui r1
        obtain ⟨s2, e2, _, w2⟩ := DataW.trod_string us r2
        obtain ⟨s3, e3, _, w3⟩ := DataW.trod_string us r3
        obtain ⟨z4, e4, _, w4⟩ := DataW.trod_int uo r4
        obtain ⟨l, hb⟩ := bytes_of_trod ub k5 (v := v5) r5
        simp only [List.drop, List.take, List.cons.injEq, and_true] at e0 e1 e2 e3 e4
        subst e0 e1 e2 e3 e4
        have c0 := hcell 0 (by omega)
        rw [show (a.add (i * 6)).add 0 = a.add (i * 6) by simp [Addr.add]] at c0
        exact ⟨⟨z0, z1, s2, s3, z4, v5, l⟩, ⟨c0, hcell 1 (by omega), hcell 2 (by omega), hcell 3 (by omega), hcell 4 (by omega), hcell 5 (by omega)⟩, hb, w2, w3, w4, w1⟩
    refine ⟨some a, len, cap, fun i => if h : i < len then (each i h).choose else default, rfl, hl, hm, fun i hi => ?_, fun i hi => ?_⟩
    · obtain ⟨ab, ao, spot⟩ := a
      have h00 := (each 0 (by omega)).choose_spec.1.1
      have hspot : spot = none := by
        have hs := World.cell?_spot h00
        simpa [Addr.add] using hs
      subst hspot
      refine ⟨ab, ao, rfl, ?_⟩
      simp only [dif_pos hi]
      have hh := (each i hi).choose_spec.1
      generalize (each i hi).choose = z at hh ⊢
      simp only [Addr.add_lit] at hh
      exact hh
    · simp only [dif_pos hi]
      exact (each i hi).choose_spec.2
end Go.By

