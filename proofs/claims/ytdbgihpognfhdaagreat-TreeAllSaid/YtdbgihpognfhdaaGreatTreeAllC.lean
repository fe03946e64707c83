/- The law TreeAll: whatever the nodes, the place and the key, every call of it returns true, and all that was there before the call is as it was. No condition. -/
import Derived.Test.YtdbgihpognfhdaaGreatRows
import Derived.Test.YtdbgihpognfhdaaGreatMTLc
import Derived.Test.YtdbgihpognfhdaaGreatMTLe
import Derived.Test.YtdbgihpognfhdaaGreatMSlA
import Derived.SizedLaws
import Derived.ChangeMaps5
namespace Go.By
open Go Go.RowKit Go.ChangeShapes Go.WideShapes Go.ChangeAt Go.Deep
theorem weightsAll_mem {H : Type} {P : Program} {e : TypeId} : ∀ {l : List (DataW H)} {d : DataW H}, d ∈ l → ∀ n ∈ d.weights P e, n ∈ DataW.weightsAll P e l
  | d' :: r, d, hd, n, hn => by
    simp only [DataW.weightsAll, List.mem_append]
    rcases List.mem_cons.1 hd with rfl | h
    · exact .inl hn
    · exact .inr (weightsAll_mem h n hn)
theorem len_of_trod {H : Type} {enc : TypeId × Value → H} {P : Program} {W : World} {base : Nat} {t e : TypeId} (ht : P.underlying t = some (.slice e)) {fuel : Nat} {p : Option Addr} {len cap : Nat} {x : DataW H × List MemPlace}
    (h : DataW.trod enc P W base (fun _ => true) true fuel t [.slice p len cap] = some x) (hz : ∀ m ∈ x.1.weights P t, m ≤ reachBytes) : len * P.bytesOf e ≤ reachBytes := by
  rcases open_slice ht h with ⟨e1, _⟩ | ⟨a, len', cap', m, n, D, Pl, e1, _, _, _, _, rfl, _⟩
  · cases e1; simp
  · cases e1
    have := hz ((len + (m - len)) * P.bytesOf e) (by simp [DataW.weights, ht])
    exact Nat.le_trans (Nat.mul_le_mul_right _ (Nat.le_add_right _ _)) this
theorem row_of_trod_sized {α : Type} {K : Kind α} {H : Type} {enc : TypeId × Value → H} {P : Program} {W : World} {base : Nat} {t e : TypeId} (ht : P.underlying t = some (.slice e)) (ce : P.cellsOf e = K.width)
    (hk : ∀ {fuel : Nat} {cs : List Value} {x : DataW H × List MemPlace}, cs.length = K.width → DataW.trod enc P W base (fun _ => true) true fuel e cs = some x → (∀ m ∈ x.1.weights P e, m ≤ reachBytes) → ∃ a, K.is W cs a)
    {fuel : Nat} {cs : List Value} {x : DataW H × List MemPlace} (h : DataW.trod enc P W base (fun _ => true) true fuel t cs = some x) (hz : ∀ m ∈ x.1.weights P t, m ≤ reachBytes) (hw : 0 < K.width) :
    ∃ (p : Option Addr) (cap : Nat) (xs : List α), cs = [.slice p xs.length cap] ∧ RowAt K W p cap xs := by
  rcases open_slice ht h with ⟨rfl, _⟩ | ⟨a, len, cap, m, n, D, Pl, rfl, _, hl, hm, hmm, rfl, hx⟩
  · exact ⟨none, 0, [], rfl, RowAt.nil⟩
  · simp only [if_true] at hmm
    have each : ∀ i, i < len → ∃ y : α, ∃ cs', (∀ j (h : j < cs'.length), W.cell? ((a.add (i * K.width)).add j) = some cs'[j]) ∧ K.is W cs' y := fun i hi => by
      obtain ⟨cs', g1, g2⟩ := hx i (by omega)
      rw [ce] at g1
      obtain ⟨_, hlen, hcell⟩ := World.cells?_some g1
      obtain ⟨y, hy⟩ := hk hlen g2 (fun m0 hm0 => hz m0 (by
        simp only [DataW.weights, ht, List.mem_cons, List.mem_append]
        exact .inr (.inl (weightsAll_mem (List.mem_map.2 ⟨i, List.mem_range.2 hi, rfl⟩) _ hm0))))
      refine ⟨y, cs', fun j hj => ?_, hy⟩
      have := hcell j (by omega)
      rw [this, List.getElem?_eq_getElem hj]
    obtain ⟨xs, hxl, hxs⟩ := list_of_each len _ each
    subst hxl
    refine ⟨some a, cap, xs, rfl, hl, hm, fun i hi => ?_⟩
    obtain ⟨cs', hcell, hy⟩ := hxs i hi
    obtain ⟨ab, ao, spot⟩ := a
    have hspot : spot = none := by
      obtain ⟨cs0, hcell0, hy0⟩ := hxs 0 (by omega)
      have hs := World.cell?_spot (hcell0 0 (by rw [K.len hy0]; exact hw))
      simpa [Addr.add] using hs
    subst hspot
    exact ⟨ab, ao, cs', rfl, fun j hj => by have := hcell j hj; simp only [Addr.add_lit] at this; exact this, hy⟩
def KNdS : Kind Nd where
  width := 4
  is w cs n := KNd.is w cs n ∧ n.kids.length ≤ 8796093022000 ∧ n.ks.length ≤ 8796093022000
  len h := KNd.len h.1
  stays h hb := ⟨KNd.stays h.1 hb, h.2⟩
theorem node_of_trod {H : Type} {enc : TypeId × Value → H} {P : Program} {W : World} {base : Nat} {t tl ti e tb te tk td r tx ty : TypeId} {f0 f1 f2 f3 g0 g1 h0 h1 : Field}
    (ht : P.underlying t = some (.struct #[f0, f1, f2, f3])) (o : f0.offset = 0 ∧ f1.offset = 1 ∧ f2.offset = 2 ∧ f3.offset = 3)
    (ft : f0.type = tl ∧ f1.type = ti ∧ f2.type = tk ∧ f3.type = td) (c : P.cellsOf tl = 1 ∧ P.cellsOf ti = 1 ∧ P.cellsOf tk = 1 ∧ P.cellsOf td = 1 ∧ P.cellsOf tb = 1 ∧ P.cellsOf te = 1 ∧ P.cellsOf tx = 1 ∧ P.cellsOf ty = 1)
    (ul : P.underlying tl = some .bool) (uti : P.underlying ti = some (.slice e)) (utk : P.underlying tk = some (.slice tb)) (utd : P.underlying td = some (.slice r)) (ub : ByT P tb te)
    (he : P.underlying e = some (.struct #[g0, g1])) (ce : P.cellsOf e = 2) (oe : g0.offset = 0 ∧ g1.offset = 1) (fe : g0.type = tb ∧ g1.type = tb)
    (hr : P.underlying r = some (.struct #[h0, h1])) (cr : P.cellsOf r = 2) (or : h0.offset = 0 ∧ h1.offset = 1) (fr : h0.type = tx ∧ h1.type = ty) (ux : P.underlying tx = some (.int .i64)) (uy : P.underlying ty = some (.int .u64))
    (bk : P.bytesOf tb = 24) (br : P.bytesOf r = 16)
    {fuel : Nat} {cs : List Value} {x : DataW H × List MemPlace} (hlen : cs.length = 4) (hf : DataW.trod enc P W base (fun _ => true) true fuel t cs = some x) (hz : ∀ m ∈ x.1.weights P t, m ≤ reachBytes) :
    ∃ n, KNdS.is W cs n := by
  obtain ⟨o0, o1, o2, o3⟩ := o
  obtain ⟨q0, q1, q2, q3⟩ := ft
  obtain ⟨k0, k1, k2, k3, kb, ke, kx, ky⟩ := c
  obtain ⟨xs, k, _, rfl, _, hxl, hfs⟩ := DataW.trod_struct ht hf
  match xs, hxl, cs, hlen, hfs, hz with
  | [y0, y1, y2, y3], _, [v0, v1, v2, v3], _, hfs, hz =>
    have hzz : ∀ m, m ∈ y2.1.weights P tk ∨ m ∈ y3.1.weights P td → m ≤ reachBytes := fun m hm => hz m (by
      simp only [DataW.weights, ht, DataW.weightsEach, List.map, q0, q1, q2, q3, List.mem_append]
      rcases hm with hm | hm
      · exact .inr (.inr (.inl hm))
      · exact .inr (.inr (.inr (.inl hm))))
    have r0 := hfs 0 f0 rfl
    have r1 := hfs 1 f1 rfl
    have r2 := hfs 2 f2 rfl
    have r3 := hfs 3 f3 rfl
    rw [o0, q0, k0] at r0; rw [o1, q1, k1] at r1; rw [o2, q2, k2] at r2; rw [o3, q3, k3] at r3
    obtain ⟨lf, e0, _⟩ := DataW.trod_bool ul r0
    obtain ⟨pi, ci, its, e1, w1⟩ := row_of_trod (K := KItem) uti ce (fun {fuel cs x} hl hf => by
      obtain ⟨zs, m, _, _, _, hzl, hz⟩ := DataW.trod_struct he hf
      match zs, hzl, cs, hl, hz with
      | [z0, z1], _, [a, b], _, hz =>
        have s0 := hz 0 g0 rfl
        have s1 := hz 1 g1 rfl
        rw [oe.1, fe.1, kb] at s0; rw [oe.2, fe.2, kb] at s1
        obtain ⟨la, ha⟩ := bytes_of_trod ub ke (v := a) s0
        obtain ⟨lb, hb⟩ := bytes_of_trod ub ke (v := b) s1
        exact ⟨⟨la, lb⟩, a, b, rfl, ha, hb⟩) r1 (by decide)
    obtain ⟨pk, ck, ks, e2, w2⟩ := row_of_trod (K := KBytes) utk kb (fun {fuel cs x} hl hf => by
      match cs, hl with
      | [a], _ =>
        obtain ⟨la, ha⟩ := bytes_of_trod ub ke (v := a) hf
        exact ⟨la, a, rfl, ha⟩) r2 (by decide)
    obtain ⟨pd, cd, kids, e3, w3⟩ := row_of_trod (K := KRef) utd cr (fun {fuel cs x} hl hf => by
      obtain ⟨zs, m, _, _, _, hzl, hz⟩ := DataW.trod_struct hr hf
      match zs, hzl, cs, hl, hz with
      | [z0, z1], _, [a, b], _, hz =>
        have s0 := hz 0 h0 rfl
        have s1 := hz 1 h1 rfl
        rw [or.1, fr.1, kx] at s0; rw [or.2, fr.2, ky] at s1
        obtain ⟨m0, e0, _, x0⟩ := DataW.trod_int ux s0
        obtain ⟨m1, e1, _, x1⟩ := DataW.trod_int uy s1
        simp only [List.drop, List.take, List.cons.injEq, and_true] at e0 e1
        obtain ⟨c1, hc1, hlt⟩ := u64_top x1
        subst e0 e1 hc1
        exact ⟨⟨m0, c1⟩, rfl, i64_top x0, hlt⟩) r3 (by decide)
    rw [e2] at r2
    rw [e3] at r3
    have l2 := len_of_trod utk r2 (fun m hm => hzz m (.inl hm))
    have l3 := len_of_trod utd r3 (fun m hm => hzz m (.inr hm))
    rw [bk] at l2
    rw [br] at l3
    have hre : reachBytes = 140737488351232 := by decide
    simp only [List.drop, List.take, List.cons.injEq, and_true] at e0 e1 e2 e3
    subst e0 e1 e2 e3
    exact ⟨⟨lf, its, ks, kids⟩, ⟨pi, ci, pk, ck, pd, cd, rfl, w1, w2, w3⟩, by show kids.length ≤ _; omega, by show ks.length ≤ _; omega⟩
theorem KNdS.row {W : World} {p : Option Addr} {cap : Nat} {xs : List Nd} (h : RowAt KNdS W p cap xs) : RowAt KNd W p cap xs ∧ ∀ n ∈ xs, n.kids.length ≤ 8796093022000 ∧ n.ks.length ≤ 8796093022000 := by
  refine ⟨⟨h.le, h.most, fun i hi => ?_⟩, fun n hn => ?_⟩
  · obtain ⟨lb, lo, cs, e, h1, h2⟩ := h.at_ i hi
    exact ⟨lb, lo, cs, e, h1, h2.1⟩
  · obtain ⟨i, hi, rfl⟩ := List.mem_iff_getElem.1 hn
    obtain ⟨_, _, _, _, _, h2⟩ := h.at_ i hi
    exact h2.2
theorem ref_of_trod {H : Type} {enc : TypeId × Value → H} {P : Program} {W : World} {base b0 : Nat} {r tx ty : TypeId} {h0 h1 : Field}
    (hr : P.underlying r = some (.struct #[h0, h1])) (cr : P.cellsOf r = 2) (or : h0.offset = 0 ∧ h1.offset = 1) (fr : h0.type = tx ∧ h1.type = ty) (c : P.cellsOf tx = 1 ∧ P.cellsOf ty = 1)
    (ux : P.underlying tx = some (.int .i64)) (uy : P.underlying ty = some (.int .u64)) {v : Value} {d : DataW H} {ps : List MemPlace} (hval : Value.okWide P W .any b0 r v) (h : DataW.Trod enc P W base (fun _ => true) true r v d ps) :
    ∃ (off : Int) (ct : Nat), v = .agg #[.int .i64 off, .int .u64 (ct : Nat)] ∧ off ≤ 9223372036854775807 ∧ ct < 18446744073709551616 := by
  obtain ⟨cs, rfl, hsz⟩ := okWide_struct hr hval
  obtain ⟨fuel, hf⟩ := h
  have hcs0 : (Value.agg cs).cells.toList = cs.toList := by simp [Value.cells]
  rw [hcs0] at hf
  obtain ⟨zs, m, _, _, _, hzl, hz⟩ := DataW.trod_struct hr hf
  obtain ⟨cs⟩ := cs
  have hlen : cs.length = 2 := by rw [← cr, ← hsz]; simp
  match zs, hzl, cs, hlen, hz with
  | [z0, z1], _, [a, b], _, hz =>
    have s0 := hz 0 h0 rfl
    have s1 := hz 1 h1 rfl
    rw [or.1, fr.1, c.1] at s0; rw [or.2, fr.2, c.2] at s1
    obtain ⟨m0, e0, _, x0⟩ := DataW.trod_int ux s0
    obtain ⟨m1, e1, _, x1⟩ := DataW.trod_int uy s1
    simp only [List.drop, List.take, List.cons.injEq, and_true] at e0 e1
    obtain ⟨c1, hc1, hlt⟩ := u64_top x1
    subst e0 e1 hc1
    exact ⟨m0, c1, rfl, i64_top x0, hlt⟩
end Go.By
namespace Go.Proofs.YtdbgihpognfhdaaGreat.Sl.Nd
open Go Go.ChangeShapes Go.WideShapes Go.ChangeAt Go.RowKit Go.By
set_option maxRecDepth 1000000 in
theorem nd_parts : ∃ f0 f1 f2 f3 : Field, Tryz.prog.underlying 38 = some (.struct #[f0, f1, f2, f3]) ∧ (f0.offset = 0 ∧ f1.offset = 1 ∧ f2.offset = 2 ∧ f3.offset = 3) ∧ (f0.type = 4 ∧ f1.type = 35 ∧ f2.type = 36 ∧ f3.type = 34) :=
  ⟨_, _, _, _, rfl, ⟨rfl, rfl, rfl, rfl⟩, ⟨rfl, rfl, rfl, rfl⟩⟩
set_option maxRecDepth 1000000 in
theorem it_parts : ∃ f0 f1 : Field, Tryz.prog.underlying 49 = some (.struct #[f0, f1]) ∧ (f0.offset = 0 ∧ f1.offset = 1) ∧ (f0.type = 26 ∧ f1.type = 26) :=
  ⟨_, _, rfl, ⟨rfl, rfl⟩, ⟨rfl, rfl⟩⟩
set_option maxRecDepth 1000000 in
theorem rf_parts : ∃ f0 f1 : Field, Tryz.prog.underlying 25 = some (.struct #[f0, f1]) ∧ (f0.offset = 0 ∧ f1.offset = 1) ∧ (f0.type = 2 ∧ f1.type = 23) :=
  ⟨_, _, rfl, ⟨rfl, rfl⟩, ⟨rfl, rfl⟩⟩
set_option maxRecDepth 100000 in
theorem treeAll_lifted (os : Os) (started : os.Started) (H : Type) (enc : TypeId × Value → H) :
    ReturnsInHanded {} Tryz.checked os 3 .any (Rows.treeAllSpec.pre6 enc Tryz.prog Tryz.f3 Rows.treeAllRow.domain false) (Rows.treeAllSpec.post enc Tryz.prog Tryz.f3 false true false false) := by
  refine returnsInHanded_of_change_sized (C := Tryz.checked) own_none started (by kernel_rfl) Tryz.func3
    (ChangeSpec.witness6 (enc := enc) (C := Tryz.checked) false ⟨#[], #[.slice none 0 0, .agg #[.int .i64 0, .int .u64 0], .slice none 0 0], []⟩ 8 (by kernel_rfl) (by kernel_rfl) (by kernel_rfl) (by kernel_rfl)) ?_
  intro W base args ds gs before hval0 hW hcnd hsz0 _
  have hval : ∀ (j : Nat) t v, Tryz.f3.params[j]? = some t → args[j]? = some v → Value.okWide Tryz.prog W .any base t v := hval0
  have hW' := hW
  obtain ⟨p, q, hA0, hV, rfl, hfz, hnd⟩ := hW
  have hA : DataW.TrodAll enc Tryz.prog W 0 (fun _ => true) true Tryz.f3.params.toList args.toList ds p := hA0
  have hp : Tryz.f3.params = #[22, 25, 26] := by kernel_rfl
  have hsz : (DataW.weightsEach Tryz.prog (Tryz.f3.params.toList ++ Rows.treeAllSpec.plain.varTypes Tryz.prog) (ds ++ gs)).all (· ≤ reachBytes) = true := hsz0
  rw [hp] at hA hval hsz
  obtain ⟨v0, v1, v2, d0, d1, d2, p0, p1, p2, rfl, rfl, rfl, h0, h1, h2⟩ := trodAll_three hA
  obtain ⟨rfl, rfl⟩ := trodVars_none hV
  obtain ⟨_, _, _, _, hu0, ho0, hf0⟩ := nd_parts
  obtain ⟨_, _, hu1, ho1, hf1⟩ := it_parts
  obtain ⟨_, _, hu2, ho2, hf2⟩ := rf_parts
  have hz0 : ∀ m ∈ d0.weights Tryz.prog 22, m ≤ reachBytes := fun m hm => of_decide_eq_true (List.all_eq_true.1 hsz m (DataW.weights_mem_each (j := 0) rfl rfl m hm))
  have hus : Tryz.prog.underlying 22 = some (.slice 38) := by kernel_rfl
  obtain ⟨q0, l0, c0, rfl⟩ := okWide_slice hus (hval 0 22 v0 rfl rfl)
  obtain ⟨fuel, hf⟩ := h0
  obtain ⟨pn, cn, nodes, hcs, hrow⟩ := row_of_trod_sized (K := KNdS) hus (by kernel_rfl) (fun {fuel cs x} hl hf hz =>
    node_of_trod (P := Tryz.prog) hu0 ho0 hf0 ⟨by kernel_rfl, by kernel_rfl, by kernel_rfl, by kernel_rfl, by kernel_rfl, by kernel_rfl, by kernel_rfl, by kernel_rfl⟩ (by kernel_rfl) (by kernel_rfl) (by kernel_rfl) (by kernel_rfl) byT hu1 (by kernel_rfl) ho1 hf1 hu2 (by kernel_rfl) ho2 hf2 (by kernel_rfl) (by kernel_rfl) (by kernel_rfl) (by kernel_rfl) hl hf hz) hf hz0 (by decide)
  simp only [Value.cells, List.cons.injEq, and_true] at hcs
  cases hcs
  obtain ⟨hn, hlens⟩ := KNdS.row hrow
  obtain ⟨off, ct, rfl, hoff, hct⟩ := ref_of_trod (P := Tryz.prog) hu2 (by kernel_rfl) ho2 hf2 ⟨by kernel_rfl, by kernel_rfl⟩ (by kernel_rfl) (by kernel_rfl) (hval 1 25 v1 rfl rfl) h1
  obtain ⟨key, hk⟩ := open_bytes (P := Tryz.prog) byT (by kernel_rfl) (hval 2 26 v2 rfl rfl) h2
  refine (treeAll_any begun12_any hn off ct hoff hct hk hlens).mono fun e W' ⟨he, hb⟩ => ?_
  subst he
  exact ⟨_, rfl, law_post (tb := 4) laidOut (by rw [hp]; intro t ht; simp at ht; rcases ht with rfl | rfl | rfl <;> exact ⟨by kernel_rfl, by decide +kernel⟩) rfl rfl (by kernel_rfl) (by kernel_rfl) hW' hb⟩
theorem treeAll_holds : Rows.TreeAllSaid :=
  OpenClaim.holds_of_wide 3 Tryz.f3 rfl rfl rfl rfl rfl rfl rfl ⟨rfl, rfl, rfl, rfl, rfl⟩ rfl rfl rfl rfl rfl (by kernel_rfl) Tryz.func3 (by kernel_rfl)
    (of_decide_eq_true (by kernel_rfl)) (by unfold Func.isWrapper; rw [if_neg (by decide +kernel)]; exact ⟨rfl, rfl⟩)
    (fun os started H enc _ => treeAll_lifted os started H enc)
end Go.Proofs.YtdbgihpognfhdaaGreat.Sl.Nd
namespace Go.Proofs.YtdbgihpognfhdaaGreat
theorem treeAll_holds : Rows.TreeAllSaid := Sl.Nd.treeAll_holds
end Go.Proofs.YtdbgihpognfhdaaGreat
