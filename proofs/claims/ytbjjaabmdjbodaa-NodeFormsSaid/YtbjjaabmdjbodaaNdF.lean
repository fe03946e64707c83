/- Nodes in a program: the same, light. -/
import Derived.Test.YtbjjaabmdjbodaaNdE
namespace Go.Proofs.Ytbjjaabmdjbodaa
open Go Go.RowKit Go.By

/-- A block that holds this node. -/
def NdAt (w : World) (g : Nat) (n : Nd) (pi : Option Addr) (ci : Nat) (pk : Option Addr) (ck : Nat) (pd : Option Addr) (cd : Nat) : Prop :=
  w.heap[g]? = some (.cells #[.bool n.leaf, .slice pi n.its.length ci, .slice pk n.ks.length ck, .slice pd n.kids.length cd] 26 (0, 0))
theorem NdAt.lt {w : World} {g : Nat} {n : Nd} {pi pk pd : Option Addr} {ci ck cd : Nat} (h : NdAt w g n pi ci pk ck pd cd) : g < w.heap.size := (Array.getElem?_eq_some_iff.1 h).1
theorem NdAt.below {w w' : World} {g : Nat} {n : Nd} {pi pk pd : Option Addr} {ci ck cd : Nat} (h : NdAt w g n pi ci pk ck pd cd) (hb : Below w.heap.size w w') : NdAt w' g n pi ci pk ck pd cd := (hb.block _ h.lt).trans h
theorem NdAt.cells {w : World} {g : Nat} {n : Nd} {pi pk pd : Option Addr} {ci ck cd : Nat} (h : NdAt w g n pi ci pk ck pd cd) : w.cell? ⟨g, 0, none⟩ = some (.bool n.leaf) ∧ w.cell? ⟨g, 1, none⟩ = some (.slice pi n.its.length ci) ∧ w.cell? ⟨g, 2, none⟩ = some (.slice pk n.ks.length ck) ∧ w.cell? ⟨g, 3, none⟩ = some (.slice pd n.kids.length cd) :=
  ⟨cells_of h 0, cells_of h 1, cells_of h 2, cells_of h 3⟩
theorem NdAt.new (w : World) (n : Nd) (pi : Option Addr) (ci : Nat) (pk : Option Addr) (ck : Nat) (pd : Option Addr) (cd : Nat) : NdAt (w.alloc (.cells #[.bool n.leaf, .slice pi n.its.length ci, .slice pk n.ks.length ck, .slice pd n.kids.length cd] 26)) w.heap.size n pi ci pk ck pd cd := heap_alloc_new w _

theorem nd_eq (n m : Nd) : decide (n = m) = ((n.leaf == m.leaf) && (decide (n.its = m.its) && (decide (n.ks = m.ks) && decide (n.kids = m.kids)))) := by
  cases n; cases m
  rw [Bool.eq_iff_iff]
  simp

set_option maxRecDepth 100000 in
theorem same_any {w : World} {v u : Value} {n m : Nd} {pi pk pd pi' pk' pd' : Option Addr} {ci ck cd ci' ck' cd' : Nat} (h : IsNd w v n pi ci pk ck pd cd) (k : IsNd w u m pi' ci' pk' ck' pd' cd') :
    Calls Try.prog 10 #[v, u] w fun z w' => z = .returned (.bool (decide (n = m))) ∧ Below w.heap.size w w' := by
  have hv := h.val
  have hu := k.val
  subst hv hu
  obtain ⟨W0, hW0⟩ : ∃ W, W = w.alloc (.cells #[.bool n.leaf, .slice pi n.its.length ci, .slice pk n.ks.length ck, .slice pd n.kids.length cd] 26) := ⟨_, rfl⟩
  obtain ⟨W, hW⟩ : ∃ W, W = W0.alloc (.cells #[.bool m.leaf, .slice pi' m.its.length ci', .slice pk' m.ks.length ck', .slice pd' m.kids.length cd'] 26) := ⟨_, rfl⟩
  have hz0 : W0.heap.size = w.heap.size + 1 := by rw [hW0]; simp
  have hb0 : Below w.heap.size w W0 := by rw [hW0]; exact (Below.refl w.heap.size w).alloc (Nat.le_refl _) _
  have hb1 : Below W0.heap.size W0 W := by rw [hW]; exact (Below.refl _ _).alloc (Nat.le_refl _) _
  have hb : Below w.heap.size w W := hb0.trans (hb1.mono hb0.size)
  have hx : NdAt W w.heap.size n pi ci pk ck pd cd := NdAt.below (by rw [hW0]; exact NdAt.new ..) hb1
  have hy : NdAt W (w.heap.size + 1) m pi' ci' pk' ck' pd' cd' := by rw [hW, ← hz0]; exact NdAt.new ..
  have HB := Lib.hid hb; have HX := Lib.hid hx; have HY := Lib.hid hy
  have HWW : Hid (W = (w.alloc (.cells #[.bool n.leaf, .slice pi n.its.length ci, .slice pk n.ks.length ck, .slice pd n.kids.length cd] 26)).alloc (.cells #[.bool m.leaf, .slice pi' m.its.length ci', .slice pk' m.ks.length ck', .slice pd' m.kids.length cd'] 26)) := by unfold Hid; rw [hW, hW0]
  have HI := Lib.hid (eqItems_any pi pi' ci ci' n.its m.its W (h.its.below hb) (k.its.below hb))
  have HK := Lib.hid (fun W' (hB : Below W.heap.size W W') => eqKeys_any pk pk' ck ck' n.ks m.ks W' ((h.ks.below hb).below hB) ((k.ks.below hb).below hB))
  have HD := Lib.hid (fun W' (hB : Below W.heap.size W W') => eqRefs_any pd pd' cd cd' n.kids m.kids W' ((h.kids.below hb).below hB) ((k.kids.below hb).below hB))
  have HE := Lib.hid (nd_eq n m)
  clear h k hW0 hW hz0 hb0 hb1 hb hx hy
  obtain ⟨c0, c1, c2, c3⟩ := HX.out.cells
  obtain ⟨d0, d1, d2, d3⟩ := HY.out.cells
  generalize hq : (n.leaf == m.leaf) = q at *
  generalize hit : decide (n.its = m.its) = xi at *
  generalize hkt : decide (n.ks = m.ks) = xk at *
  generalize hdt : decide (n.kids = m.kids) = xd at *
  clear hit hkt hdt
  go_enter Try.func10, Try.ntmps10
  cases q with
  | false =>
    go_wp2
    rw [← HWW.out]
    go_ret
    exact ⟨by rw [HE.out]; rfl, HB.out⟩
  | true =>
    go_wp2_with fail
    rw [← HWW.out]
    refine HI.out.mono ?_
    rintro e w1 ⟨rfl, hb1⟩
    have HB1 := Lib.hid hb1
    have HC1 : Hid (Below w.heap.size w w1) := HB.out.trans (hb1.mono HB.out.size)
    have HX1 := Lib.hid (HX.out.below hb1); have HY1 := Lib.hid (HY.out.below hb1)
    clear c0 c1 c2 c3 d0 d1 d2 d3 hb1
    obtain ⟨c0, c1, c2, c3⟩ := HX1.out.cells
    obtain ⟨d0, d1, d2, d3⟩ := HY1.out.cells
    cases xi with
    | false =>
      go_wp2
      go_ret
      exact ⟨by rw [HE.out]; rfl, HC1.out⟩
    | true =>
      go_wp2_with fail
      refine (HK.out _ HB1.out).mono ?_
      rintro e w2 ⟨rfl, hb2⟩
      have HB2 : Hid (Below W.heap.size W w2) := HB1.out.trans (hb2.mono HB1.out.size)
      have HC2 : Hid (Below w.heap.size w w2) := HC1.out.trans (hb2.mono HC1.out.size)
      have HX2 := Lib.hid (HX1.out.below hb2); have HY2 := Lib.hid (HY1.out.below hb2)
      clear c0 c1 c2 c3 d0 d1 d2 d3 hb2
      obtain ⟨c0, c1, c2, c3⟩ := HX2.out.cells
      obtain ⟨d0, d1, d2, d3⟩ := HY2.out.cells
      cases xk with
      | false =>
        go_wp2
        go_ret
        exact ⟨by rw [HE.out]; rfl, HC2.out⟩
      | true =>
        go_wp2_with fail
        refine (HD.out _ HB2.out).mono ?_
        rintro e w3 ⟨rfl, hb3⟩
        have HC3 : Hid (Below w.heap.size w w3) := HC2.out.trans (hb3.mono HC2.out.size)
        clear c0 c1 c2 c3 d0 d1 d2 d3 hb3
        go_wp2
        go_ret
        exact ⟨by rw [HE.out]; rfl, HC3.out⟩

/-- Some truth is told, nothing that was there turns. -/
def SaysAny (w : World) (z : Ending) (w' : World) : Prop := ∃ b, z = .returned (.bool b) ∧ Below w.heap.size w w'
def LightRel (W : World) (N : Nat) (i : Value) (w' : World) : Prop := ∃ k : Nat, k ≤ N ∧ i = .int .i64 k ∧ w' = W
set_option maxRecDepth 100000 in
theorem light_any {w : World} {v : Value} {n : Nd} {pi pk pd : Option Addr} {ci ck cd : Nat} (h : IsNd w v n pi ci pk ck pd cd) :
    Calls Try.prog 6 #[v] w (SaysAny w) := by
  have hv := h.val
  subst hv
  obtain ⟨W, hW⟩ : ∃ W, W = w.alloc (.cells #[.bool n.leaf, .slice pi n.its.length ci, .slice pk n.ks.length ck, .slice pd n.kids.length cd] 26) := ⟨_, rfl⟩
  have hb : Below w.heap.size w W := by rw [hW]; exact (Below.refl w.heap.size w).alloc (Nat.le_refl _) _
  have hx : NdAt W w.heap.size n pi ci pk ck pd cd := by rw [hW]; exact NdAt.new ..
  have HI := Lib.hid (h.its.below hb)
  have HK := Lib.hid (h.ks.below hb)
  have hi9 : (n.its.length : Int) ≤ 9223372036854775807 := by have := h.its.le; have := h.its.most; unfold maxLen at this; omega
  have hk9 : (n.ks.length : Int) ≤ 9223372036854775807 := by have := h.ks.le; have := h.ks.most; unfold maxLen at this; omega
  have HB := Lib.hid hb; have HX := Lib.hid hx; have HW := Lib.hid hW
  clear h hW hb hx
  obtain ⟨c0, c1, c2, c3⟩ := HX.out.cells
  generalize hni : n.its.length = NI at *
  generalize hnk : n.ks.length = NK at *
  have HNI := Lib.hid hni; have HNK := Lib.hid hnk
  clear hni hnk
  go_enter Try.func6, Try.ntmps6
  go_wp2
  rw [← HW.out]
  go_loopw [3] (fun i w' => LightRel W NI i w') (fun i _ => NI - (intOf i).toNat)
  case atStart => exact ⟨0, by omega, rfl, rfl⟩
  case round =>
    obtain ⟨k, hk, rfl, rfl⟩ := hrel
    by_cases hlt : k < NI
    · have hkl : k < n.its.length := by rw [HNI.out]; exact hlt
      obtain ⟨lb, lo, rfl, hat⟩ := HI.out.some (by omega)
      obtain ⟨cs, hc, a, b, rfl, ha, hb⟩ := hat k hkl
      obtain ⟨e0, e1⟩ := hc.two
      simp only [KItem] at e0 e1
      obtain ⟨qa, ca, rfl, -⟩ := ha.any
      obtain ⟨qb, cb, rfl, -⟩ := hb.any
      have HLT := Lib.hid hlt
      generalize n.its[k].k.length = l1 at *
      generalize n.its[k].v.length = l2 at *
      clear ha hb hc hat hkl
      by_cases h1 : (l1 : Int) ≤ 60
      · by_cases h2 : (l2 : Int) ≤ 150
        · go_wp2
          go_roundw
          case rel => exact ⟨k + 1, HLT.out, by go_num, rfl⟩
          case measure => simp [intOf]; have := HLT.out; omega
        · go_wp2
          go_ret
          exact ⟨_, rfl, HB.out⟩
      · go_wp2
        go_ret
        exact ⟨_, rfl, HB.out⟩
    · obtain rfl : k = NI := by omega
      go_wp2
      go_loopw [4] (fun i w' => LightRel wr NK i w') (fun i _ => NK - (intOf i).toNat)
      case atStart => exact ⟨0, by omega, rfl, rfl⟩
      case round =>
        obtain ⟨j, hj, rfl, rfl⟩ := hrel
        by_cases hlj : j < NK
        · have hkl : j < n.ks.length := by rw [HNK.out]; exact hlj
          obtain ⟨lb, lo, rfl, hat⟩ := HK.out.some (by omega)
          obtain ⟨cs, hc, a, rfl, ha⟩ := hat j hkl
          have e0 := hc.one
          simp only [KBytes, Nat.mul_one] at e0
          obtain ⟨qa, ca, rfl, -⟩ := ha.any
          have HLT := Lib.hid hlj
          generalize n.ks[j].length = l1 at *
          clear ha hc hat hkl
          by_cases h1 : (l1 : Int) ≤ 60
          · go_wp2
            go_roundw
            case rel => exact ⟨j + 1, HLT.out, by go_num, rfl⟩
            case measure => simp [intOf]; have := HLT.out; omega
          · go_wp2
            go_ret
            exact ⟨_, rfl, HB.out⟩
        · obtain rfl : j = NK := by omega
          by_cases h1 : (k : Int) ≤ 12
          · by_cases h2 : (j : Int) ≤ 12
            · go_wp2
              go_ret
              exact ⟨_, rfl, HB.out⟩
            · go_wp2
              go_ret
              exact ⟨_, rfl, HB.out⟩
          · go_wp2
            go_ret
            exact ⟨_, rfl, HB.out⟩
end Go.Proofs.Ytbjjaabmdjbodaa

