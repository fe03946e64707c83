/- Ranks in a program: spans of keys. -/
import Derived.Test.YtlagllhhahomlaaGreatMBaC
import Derived.Test.YtlagllhhahomlaaGreatMRkP
namespace Go.Proofs.YtlagllhhahomlaaGreat.Sl.Nd
open Go Go.RowKit Go.By
structure SpAt (w : World) (fv tv : Value) (fr to : List Nat) : Prop where
  fr : Bytes w fv fr
  to : Bytes w tv to
theorem SpAt.below {w w' : World} {fv tv : Value} {fr to : List Nat} (h : SpAt w fv tv fr to) (hb : Below w.heap.size w w') : SpAt w' fv tv fr to := ⟨h.fr.below hb, h.to.below hb⟩
set_option maxRecDepth 100000 in
theorem spAbove_any {w : World} {fv tv kv : Value} {fr to k : List Nat} (op : Bool) (h : SpAt w fv tv fr to) (hk : Bytes w kv k) :
    Calls Tryz.prog 163 #[.agg #[fv, tv, .bool op], kv] w (TruthTold w (endS to op k)) := by
  have hbo := (Below.refl w.heap.size w).alloc (Nat.le_refl _) (.cells #[fv, tv, .bool op] 123)
  have HC := Lib.hid (compare_any kv tv k to _ (hk.below hbo) (h.to.below hbo))
  have HE : Hid (decide (cmpN k to < 0) = lessN k to) := cmpN_less hk.small h.to.small
  obtain ⟨qa, ca, rfl, -⟩ := h.fr.any
  obtain ⟨qb, cb, rfl, -⟩ := h.to.any
  obtain ⟨qk, ck, rfl, -⟩ := hk.any
  have HL : Hid (endS to op k = (op || decide (cmpN k to < 0))) := by unfold Hid; rw [HE.out]; rfl
  have HB := Lib.hid hbo
  clear h hk hbo HE
  rw [HL.out]
  clear HL
  generalize cmpN k to = x at *
  generalize k.length = l1 at *
  generalize to.length = l2 at *
  generalize fr.length = l3 at *
  cases op with
  | true =>
    go_enter Tryz.func163, Tryz.ntmps163
    go_wp2
    go_ret
    exact ⟨by simp, HB.out⟩
  | false =>
    go_enter Tryz.func163, Tryz.ntmps163
    go_wp2_with fail
    refine HC.out.mono ?_
    rintro e w1 ⟨rfl, rfl⟩
    go_wp2
    go_ret
    exact ⟨by simp, HB.out⟩
set_option maxRecDepth 100000 in
theorem has_any {w : World} {fv tv kv : Value} {fr to k : List Nat} (op : Bool) (h : SpAt w fv tv fr to) (hk : Bytes w kv k) :
    Calls Tryz.prog 129 #[.agg #[fv, tv, .bool op], kv] w (TruthTold w (inS fr to op k)) := by
  have hbo := (Below.refl w.heap.size w).alloc (Nat.le_refl _) (.cells #[fv, tv, .bool op] 123)
  have HC := Lib.hid (compare_any kv fv k fr _ (hk.below hbo) (h.fr.below hbo))
  have HAB := Lib.hid (spAbove_any op (h.below hbo) (hk.below hbo))
  have HE : Hid (decide (cmpN k fr < 0) = lessN k fr) := cmpN_less hk.small h.fr.small
  obtain ⟨qa, ca, rfl, -⟩ := h.fr.any
  obtain ⟨qb, cb, rfl, -⟩ := h.to.any
  obtain ⟨qk, ck, rfl, -⟩ := hk.any
  have HL : Hid (inS fr to op k = (!decide (cmpN k fr < 0) && endS to op k)) := by unfold Hid; rw [HE.out]; rfl
  have HB := Lib.hid hbo
  clear h hk hbo HE
  rw [HL.out]
  clear HL
  unfold TruthTold at HAB
  generalize endS to op k = X at *
  generalize cmpN k fr = x at *
  generalize k.length = l1 at *
  generalize to.length = l2 at *
  generalize fr.length = l3 at *
  by_cases hx : x < 0
  · have hg : ¬ 0 ≤ x := by omega
    rw [decide_eq_true hx]
    clear hx
    go_enter Tryz.func129, Tryz.ntmps129
    go_wp2_with fail
    refine HC.out.mono ?_
    rintro e w1 ⟨rfl, rfl⟩
    go_wp2
    go_ret
    exact ⟨by simp, HB.out⟩
  · have hg : 0 ≤ x := by omega
    rw [decide_eq_false hx]
    clear hx
    go_enter Tryz.func129, Tryz.ntmps129
    go_wp2_with fail
    refine HC.out.mono ?_
    rintro e w1 ⟨rfl, rfl⟩
    go_wp2_with fail
    refine HAB.out.mono ?_
    rintro e w2 ⟨rfl, hb2⟩
    have HB2 := Lib.hid (HB.out.trans (hb2.mono HB.out.size))
    clear hb2
    go_wp2
    go_ret
    exact ⟨by simp, HB2.out⟩
set_option maxRecDepth 100000 in
set_option maxHeartbeats 1000000 in
theorem meets_any {w : World} {fv tv va vb : Value} {fr to least bound : List Nat} {deep : Nat} (op : Bool) (h : SpAt w fv tv fr to) (hp : PlAt w (.agg #[.int .i64 (deep : Nat), va, vb]) deep least bound va vb) :
    Calls Tryz.prog 128 #[.agg #[fv, tv, .bool op], .agg #[.int .i64 (deep : Nat), va, vb]] w (TruthTold w (meetS fr to op least bound)) := by
  obtain ⟨W1, hW1⟩ : ∃ W1, W1 = (w.alloc (.cells #[fv, tv, .bool op] 123)).alloc (.cells #[.int .i64 (deep : Nat), va, vb] 100) := ⟨_, rfl⟩
  have hWs : W1 = allocs w [.cells #[fv, tv, .bool op] 123, .cells #[.int .i64 (deep : Nat), va, vb] 100] := hW1
  have g0 : W1.heap[w.heap.size]? = some (.cells #[fv, tv, .bool op] 123 (0, 0)) := by rw [hWs]; exact allocs_at (i := 0) rfl
  have g1 : W1.heap[w.heap.size + 1]? = some (.cells #[.int .i64 (deep : Nat), va, vb] 100 (0, 0)) := by rw [hWs]; exact allocs_at (i := 1) rfl
  have hb1 : Below w.heap.size w W1 := by rw [hWs]; exact allocs_below _ _
  have HAB := Lib.hid (spAbove_any op (h.below hb1) (hp.least.below hb1))
  have HPA := Lib.hid (fun W' (hb : Below W1.heap.size W1 W') => isAbove_any ((hp.below hb1).below hb) ((h.fr.below hb1).below hb))
  obtain ⟨qa, ca, rfl, -⟩ := h.fr.any
  obtain ⟨qb, cb, rfl, -⟩ := h.to.any
  obtain ⟨qc, cc, rfl, -⟩ := hp.least.any
  obtain ⟨qd, cd, rfl, -⟩ := hp.bound.any
  have HL : Hid (meetS fr to op least bound = (endS to op least && isLow fr bound)) := rfl
  rw [HL.out]
  have HB := Lib.hid hb1; have HG0 := Lib.hid g0; have HG1 := Lib.hid g1; have HW1 := Lib.hid hW1
  unfold TruthTold at HAB
  clear h hp hb1 HL hWs hW1 g0 g1
  generalize endS to op least = X at *
  generalize isLow fr bound = Y at *
  generalize least.length = l1 at *
  generalize bound.length = l4 at *
  generalize to.length = l2 at *
  generalize fr.length = l3 at *
  have c1 := cells_of HG1.out 1
  simp only [List.getElem?_toArray, List.getElem?_cons_zero, List.getElem?_cons_succ] at c1
  have c0 := cells_of HG0.out 0; have c2 := cells_of HG0.out 1; have c3 := cells_of HG0.out 2
  simp only [List.getElem?_toArray, List.getElem?_cons_zero, List.getElem?_cons_succ] at c0 c2 c3
  rw [HW1.out] at c0 c1 c2 c3
  go_enter Tryz.func128, Tryz.ntmps128
  go_wp2_with fail
  rw [← HW1.out]
  refine HAB.out.mono ?_
  rintro e w2 ⟨rfl, hb2⟩
  clear c0 c1 c2 c3
  have k0 := (hb2.block _ (Array.getElem?_eq_some_iff.1 HG0.out).1).trans HG0.out
  have k1 := (hb2.block _ (Array.getElem?_eq_some_iff.1 HG1.out).1).trans HG1.out
  have c0 := cells_of k0 0
  have d0 := cells_of k1 0; have d1 := cells_of k1 1; have d2 := cells_of k1 2
  simp only [List.getElem?_toArray, List.getElem?_cons_zero, List.getElem?_cons_succ] at c0 d0 d1 d2
  have HB2 := Lib.hid (HB.out.trans (hb2.mono HB.out.size))
  have HQ := Lib.hid (HPA.out _ hb2)
  clear hb2 k0 k1 HPA
  cases X with
  | false =>
    go_wp2
    go_ret
    exact ⟨by simp, HB2.out⟩
  | true =>
    go_wp2_with fail
    refine HQ.out.mono ?_
    rintro e w3 ⟨rfl, hb3⟩
    have HB3 := Lib.hid (HB2.out.trans (hb3.mono HB2.out.size))
    clear hb3
    go_wp2
    go_ret
    exact ⟨by simp, HB3.out⟩
set_option maxRecDepth 100000 in
set_option maxHeartbeats 1000000 in
theorem holds_any {w : World} {fv tv va vb : Value} {fr to least bound : List Nat} {deep : Nat} (op : Bool) (h : SpAt w fv tv fr to) (hp : PlAt w (.agg #[.int .i64 (deep : Nat), va, vb]) deep least bound va vb) :
    Calls Tryz.prog 130 #[.agg #[fv, tv, .bool op], .agg #[.int .i64 (deep : Nat), va, vb]] w (TruthTold w (holdS fr to op least bound)) := by
  obtain ⟨W1, hW1⟩ : ∃ W1, W1 = (w.alloc (.cells #[fv, tv, .bool op] 123)).alloc (.cells #[.int .i64 (deep : Nat), va, vb] 100) := ⟨_, rfl⟩
  have hWs : W1 = allocs w [.cells #[fv, tv, .bool op] 123, .cells #[.int .i64 (deep : Nat), va, vb] 100] := hW1
  have g0 : W1.heap[w.heap.size]? = some (.cells #[fv, tv, .bool op] 123 (0, 0)) := by rw [hWs]; exact allocs_at (i := 0) rfl
  have g1 : W1.heap[w.heap.size + 1]? = some (.cells #[.int .i64 (deep : Nat), va, vb] 100 (0, 0)) := by rw [hWs]; exact allocs_at (i := 1) rfl
  have hb1 : Below w.heap.size w W1 := by rw [hWs]; exact allocs_below _ _
  have HC := Lib.hid (compare_any va fv least fr _ (hp.least.below hb1) (h.fr.below hb1))
  have HE : Hid (decide (cmpN least fr < 0) = lessN least fr) := cmpN_less hp.least.small h.fr.small
  have HPA := Lib.hid (isAbove_any (hp.below hb1) (h.to.below hb1))
  obtain ⟨qa, ca, rfl, -⟩ := h.fr.any
  obtain ⟨qb, cb, rfl, -⟩ := h.to.any
  obtain ⟨qc, cc, rfl, -⟩ := hp.least.any
  obtain ⟨qd, cd, rfl, -⟩ := hp.bound.any
  have HL : Hid (holdS fr to op least bound = (!decide (cmpN least fr < 0) && (op || !isLow to bound))) := by unfold Hid; rw [HE.out]; rfl
  rw [HL.out]
  have HB := Lib.hid hb1; have HG0 := Lib.hid g0; have HG1 := Lib.hid g1; have HW1 := Lib.hid hW1
  clear h hp hb1 HL hWs hW1 g0 g1 HE
  generalize cmpN least fr = x at *
  generalize isLow to bound = Y at *
  generalize least.length = l1 at *
  generalize bound.length = l4 at *
  generalize to.length = l2 at *
  generalize fr.length = l3 at *
  have d0 := cells_of HG1.out 0; have d1 := cells_of HG1.out 1; have d2 := cells_of HG1.out 2
  have c0 := cells_of HG0.out 0; have c1 := cells_of HG0.out 1; have c2 := cells_of HG0.out 2
  simp only [List.getElem?_toArray, List.getElem?_cons_zero, List.getElem?_cons_succ] at c0 c1 c2 d0 d1 d2
  rw [HW1.out] at c0 c1 c2 d0 d1 d2
  rw [HW1.out] at HC HPA HB
  by_cases hx : x < 0
  · have hg : ¬ 0 ≤ x := by omega
    rw [decide_eq_true hx]
    clear hx
    go_enter Tryz.func130, Tryz.ntmps130
    go_wp2_with fail
    refine HC.out.mono ?_
    rintro e w1 ⟨rfl, rfl⟩
    go_wp2
    go_ret
    exact ⟨by simp, HB.out⟩
  · have hg : 0 ≤ x := by omega
    rw [decide_eq_false hx]
    clear hx
    cases op with
    | true =>
      go_enter Tryz.func130, Tryz.ntmps130
      go_wp2_with fail
      refine HC.out.mono ?_
      rintro e w1 ⟨rfl, rfl⟩
      go_wp2
      go_ret
      exact ⟨by simp, HB.out⟩
    | false =>
      go_enter Tryz.func130, Tryz.ntmps130
      go_wp2_with fail
      refine HC.out.mono ?_
      rintro e w1 ⟨rfl, rfl⟩
      go_wp2_with fail
      refine HPA.out.mono ?_
      rintro e w2 ⟨rfl, hb2⟩
      have HB2 := Lib.hid (HB.out.trans (hb2.mono HB.out.size))
      clear hb2
      cases Y with
      | true =>
        go_wp2
        go_ret
        exact ⟨by simp, HB2.out⟩
      | false =>
        go_wp2
        go_ret
        exact ⟨by simp, HB2.out⟩
end Go.Proofs.YtlagllhhahomlaaGreat.Sl.Nd
