/- Rows made trees, in a program: what is cut off in front is a node. -/
import Derived.Test.YtajfcnaifegonaaMBkC
import Derived.Test.YtajfcnaifegonaaMBkE
namespace Go.By
open Go Go.RowKit
theorem wpOp_st {P : Program} {ops : Array Oper} {Q : Exit → Act → World → Prop} {i : Nat} {o : Oper} {K : Act → World → Prop} {a : Act} {w : World} (hi : ops[i]? = some o) (hg : o.guard = none) (op : Op) (ty : TypeId) (hd : o.dst = none) (ho : o.op = op) (hty : o.type = ty) (h : Oper.wp P ⟨none, op, ty, "", #[], none⟩ a w K Q) : wpOp P ops Q i K a w := by
  unfold wpOp
  have hw : Region.wanted o (yielded ops a.tmps) = true := by simp [Region.wanted, hg]
  simp only [hi, hw, if_true]
  obtain ⟨d, op', ty', p, af, g⟩ := o
  dsimp only at hd ho hty
  subst hd ho hty
  exact .inl h
theorem cell1B {P : Program} {fn : Func} {p : Tmp} {ty : TypeId} {n : Nat} (hr : fn.results = #[.cell p ty]) (hi0 : (P.info? ty).map (·.size) = some n)
    (hq : (P.underlying ty).map (fun d => match d with | .struct _ | .array _ _ => true | _ => false) = some true) {tmps : Array Value} {w : World} {A : Nat} {cs : Array Value} (hp : tmps.getD p undef = .pointer (some ⟨A, 0, none⟩))
    (hg : w.heap[A]? = some (.cells cs ty (0, 0))) (hc : cs.size = n) : (results fn tmps).run P w = .ok (.agg cs) w := by
  have hi : (P.info? ty).map (·.size) = some cs.size := by rw [hc]; exact hi0
  obtain ⟨d, hu, hd⟩ := Option.map_eq_some_iff.1 hq
  exact results_cell_row hr tmps w A ty cs (0, 0) d hp hg hu (by cases d <;> simp_all) hi
theorem cell2B {P : Program} {fn : Func} {p u : Tmp} {ty : TypeId} {n : Nat} (hr : fn.results = #[.cell p ty, .tmp u]) (hi0 : (P.info? ty).map (·.size) = some n)
    (hq : (P.underlying ty).map (fun d => match d with | .struct _ | .array _ _ => true | _ => false) = some true) {tmps : Array Value} {w : World} {A : Nat} {cs : Array Value} {x : Value} (hp : tmps.getD p undef = .pointer (some ⟨A, 0, none⟩)) (hx : tmps.getD u undef = x)
    (hg : w.heap[A]? = some (.cells cs ty (0, 0))) (hc : cs.size = n) : (results fn tmps).run P w = .ok (.tuple #[.agg cs, x]) w := by
  have hi : (P.info? ty).map (·.size) = some cs.size := by rw [hc]; exact hi0
  obtain ⟨d, hu, hd⟩ := Option.map_eq_some_iff.1 hq
  rw [results_cell_tmp hr, hp, hx]
  have := run_loadVar_row (P := P) w A ty ty cs (0, 0) d hg hu (by cases d <;> simp_all) hi
  simp [asAddr, this, Result.andThen]
def set4 (w : World) (A : Nat) (a b c d : Value) : World := (((w.setCell ⟨A, 0, none⟩ a).setCell ⟨A, 1, none⟩ b).setCell ⟨A, 2, none⟩ c).setCell ⟨A, 3, none⟩ d
theorem set4_at {w : World} {A : Nat} {T : TypeId} {a b c d a' b' c' d' : Value} (h : w.heap[A]? = some (.cells #[a', b', c', d'] T (0, 0))) : (set4 w A a b c d).heap[A]? = some (.cells #[a, b, c, d] T (0, 0)) := by
  have h0 := heap_setCell_same w A 0 _ _ a h
  simp only [List.setIfInBounds_toArray, List.set_cons_zero] at h0
  have h1 := heap_setCell_same _ A 1 _ _ b h0
  simp only [List.setIfInBounds_toArray, List.set_cons_zero, List.set_cons_succ] at h1
  have h2 := heap_setCell_same _ A 2 _ _ c h1
  simp only [List.setIfInBounds_toArray, List.set_cons_zero, List.set_cons_succ] at h2
  have h3 := heap_setCell_same _ A 3 _ _ d h2
  simp only [List.setIfInBounds_toArray, List.set_cons_zero, List.set_cons_succ] at h3
  unfold set4
  exact h3
theorem set4_only (w : World) (A : Nat) (a b c d : Value) : Only A w (set4 w A a b c d) := by
  unfold set4
  exact (((Only.set A 0 w a).trans (Only.set A 1 _ b)).trans (Only.set A 2 _ c)).trans (Only.set A 3 _ d)
end Go.By
namespace Go.Proofs.Ytajfcnaifegonaa.Sl.Nd
open Go Go.RowKit Go.By
structure Row6 (own : Own) (g : Nat) (w : World) (p : Nat) (it : Bool) (vi kv dv up : Value) (its : List NIt) (es : List KE) : Prop where
  cells : w.heap[p]? = some (.cells (rowC p g it vi kv dv up) 82 (0, 0))
  its : ItT own w vi its
  ks : KyT own w kv (es.map (·.k))
  ds : KdT w dv (es.map (·.d))
structure NdT (own : Own) (w : World) (nv : Value) (n : Nd) (vi kv dv : Value) : Prop where
  out : ∃ pi ci pk ck pd cd, nv = .agg #[.bool n.leaf, .slice pi n.its.length ci, .slice pk n.ks.length ck, .slice pd n.kids.length cd] ∧ ItT own w (.slice pi n.its.length ci) n.its ∧ KyT own w (.slice pk n.ks.length ck) n.ks ∧ KdT w (.slice pd n.kids.length cd) n.kids ∧
    (∀ k, (Value.slice pi n.its.length ci).ownBlock = some k → vi.ownBlock = some k) ∧ (∀ k, (Value.slice pk n.ks.length ck).ownBlock = some k → kv.ownBlock = some k) ∧ (∀ k, (Value.slice pd n.kids.length cd).ownBlock = some k → dv.ownBlock = some k)
theorem NdT.turns {own own' : Own} {g : Nat} {F : List Nat} {w w' : World} {nv vi kv dv : Value} {n : Nd} (h : NdT own w nv n vi kv dv) (ht : Turns g F own own' w w') (hk : ∀ k, vi.ownBlock = some k ∨ kv.ownBlock = some k ∨ dv.ownBlock = some k → w'.heap[k]? = w.heap[k]?) : NdT own' w' nv n vi kv dv := by
  obtain ⟨pi, ci, pk, ck, pd, cd, h1, h2, h3, h4, b1, b2, b3⟩ := h.out
  exact ⟨pi, ci, pk, ck, pd, cd, h1, h2.turns ht (fun k e => hk k (.inl (b1 k e))), h3.turns ht (fun k e => hk k (.inr (.inl (b2 k e)))), h4.stay (fun k e => hk k (.inr (.inr (b3 k e)))), b1, b2, b3⟩
theorem NdT.nd {own : Own} {w : World} {nv vi kv dv : Value} {n : Nd} (h : NdT own w nv n vi kv dv) : ∃ pi ci pk ck pd cd, IsNd w nv n pi ci pk ck pd cd := by
  obtain ⟨pi, ci, pk, ck, pd, cd, h1, h2, h3, h4, _⟩ := h.out
  obtain ⟨p1, c1, e1, r1⟩ := h2.row
  obtain ⟨p2, c2, e2, r2⟩ := h3.row
  obtain ⟨p3, c3, e3, r3⟩ := h4.row
  simp only [Value.slice.injEq] at e1 e2 e3
  obtain ⟨rfl, -, rfl⟩ := e1
  obtain ⟨rfl, -, rfl⟩ := e2
  obtain ⟨rfl, -, rfl⟩ := e3
  exact ⟨_, _, _, _, _, _, h1, r1, r2, r3⟩
def CutTold (own : Own) (g p : Nat) (it : Bool) (vi kv dv up : Value) (its : List NIt) (es : List KE) (n : Nat) (w : World) (e : Ending) (w' : World) : Prop :=
  ∃ nv vi' kv' dv', e = .returned nv ∧ Row6 own g w' p it vi' kv' dv' up (if it = true then its.drop n else its) (if it = true then es else es.drop n) ∧ NdT own w' nv (if it = true then lfOf (its.take n) else ndE (es.take n)) vi kv dv ∧ Only p w w' ∧
    vi'.ownBlock = vi.ownBlock ∧ kv'.ownBlock = kv.ownBlock ∧ dv'.ownBlock = dv.ownBlock ∧ (it = false → vi' = vi)
theorem ty_bk2 : 34 ≠ 82 ∧ 31 ≠ 82 ∧ 39 ≠ 82 := by decide
theorem Row6.only {own : Own} {g : Nat} {w w' : World} {p : Nat} {it : Bool} {vi kv dv up vi2 kv2 dv2 : Value} {its its2 : List NIt} {es : List KE} {ks2 : List (List Nat)} {ds2 : List NKd} (h : Row6 own g w p it vi kv dv up its es) (ho : Only p w w') (h1 : ItT own w vi2 its2) (h2 : KyT own w kv2 ks2) (h3 : KdT w dv2 ds2) : ItT own w' vi2 its2 ∧ KyT own w' kv2 ks2 ∧ KdT w' dv2 ds2 := by
  have ht : Turns g [p] own own w w' := Turns.only ho (by simp) h.cells ty_bk.2.2.2.1
  refine ⟨h1.turns ht (fun k hk => ?_), h2.turns ht (fun k hk => ?_), h3.stay (fun k hk => ?_)⟩
  · obtain ⟨cur, hc⟩ := h1.block hk
    exact ho.block k (Array.getElem?_eq_some_iff.1 hc).1 (fun e => by
      rw [e, h.cells] at hc
      simp only [Option.some.injEq, Obj.cells.injEq] at hc
      exact ty_bk2.1 hc.2.1.symm)
  · obtain ⟨cur, hc⟩ := h2.block hk
    exact ho.block k (Array.getElem?_eq_some_iff.1 hc).1 (fun e => by
      rw [e, h.cells] at hc
      simp only [Option.some.injEq, Obj.cells.injEq] at hc
      exact ty_bk2.2.1 hc.2.1.symm)
  · obtain ⟨cur, hc⟩ := h3.block hk
    exact ho.block k (Array.getElem?_eq_some_iff.1 hc).1 (fun e => by
      rw [e, h.cells] at hc
      simp only [Option.some.injEq, Obj.cells.injEq] at hc
      exact ty_bk2.2.2 hc.2.1.symm)
set_option maxRecDepth 100000 in
set_option maxHeartbeats 1000000 in
theorem cutItems_bk {own : Own} {g : Nat} {w : World} {p : Nat} {vi kv dv up : Value} {its : List NIt} {es : List KE} (h : Row6 own g w p true vi kv dv up its es) {n : Nat} (hn : n ≤ its.length) :
    Calls Try.prog 31 #[.pointer (some ⟨p, 0, none⟩), .int .i64 (n : Nat)] w (CutTold own g p true vi kv dv up its es n w) := by
  obtain ⟨pi, ci, rfl, hri⟩ := h.its.row
  have hl9 : (its.length : Int) ≤ 9223372036854775807 := by have := hri.le; have := hri.most; unfold maxLen at this; omega
  obtain ⟨r1, r2, q, d, r3, r4, r5⟩ := h.its.cut n hn
  obtain ⟨W1, hW1⟩ : ∃ W1, W1 = w.alloc (.cells #[.bool false, .slice none 0 0, .slice none 0 0, .slice none 0 0] 93) := ⟨_, rfl⟩
  have hbW : Below w.heap.size w W1 := by rw [hW1]; exact (Below.refl _ _).alloc (Nat.le_refl _) _
  have hpl : p < w.heap.size := (Array.getElem?_eq_some_iff.1 h.cells).1
  have hp1 : W1.heap[p]? = some (.cells (rowC p g true (.slice pi its.length ci) kv dv up) 82 (0, 0)) := (hbW.block _ hpl).trans h.cells
  have hA1 : W1.heap[w.heap.size]? = some (.cells #[.bool false, .slice none 0 0, .slice none 0 0, .slice none 0 0] 93 (0, 0)) := by rw [hW1]; exact heap_alloc_new w _
  obtain ⟨W2, hW2⟩ : ∃ W2, W2 = W1.setCell ⟨p, 0, none⟩ (.slice q (its.length - n) d) := ⟨_, rfl⟩
  have hne : w.heap.size ≠ p := by omega
  have hA2 : W2.heap[w.heap.size]? = some (.cells #[.bool false, .slice none 0 0, .slice none 0 0, .slice none 0 0] 93 (0, 0)) := by rw [hW2]; exact (Below.heap_setCell _ _ _ _ (by show _ ≠ p; exact hne)).trans hA1
  have hp2 : W2.heap[p]? = some (.cells (rowC p g true (.slice q (its.length - n) d) kv dv up) 82 (0, 0)) := by rw [hW2]; exact heap_setCell_same _ p 0 _ _ _ hp1
  have c0 : W1.cell? ⟨p, 0, none⟩ = some (.slice pi its.length ci) := cells_of hp1 0
  have q0 := free_of hp1 0
  have HX := Lib.hid (fun (_ : Unit) => set4_at (a := .bool true) (b := .slice pi n ci) (c := .slice none 0 0) (d := .slice none 0 0) hA2)
  have HF : Hid (CutTold own g p true (.slice pi its.length ci) kv dv up its es n w (.returned (.agg #[.bool true, .slice pi n ci, .slice none 0 0, .slice none 0 0])) (set4 W2 w.heap.size (.bool true) (.slice pi n ci) (.slice none 0 0) (.slice none 0 0))) := by
    have ho := set4_only W2 w.heap.size (.bool true) (.slice pi n ci) (.slice none 0 0) (.slice none 0 0)
    have hs2 : W2.heap.size = w.heap.size + 1 := by rw [hW2, hW1]; simp [World.setCell]
    have h12 : Only p W1 W2 := by rw [hW2]; exact Only.set p 0 W1 _
    have ho2 : Only p w W2 := (Only.of_below hbW).trans h12
    have ho3 : Only p w (set4 W2 w.heap.size (.bool true) (.slice pi n ci) (.slice none 0 0) (.slice none 0 0)) := ⟨ho.os.trans ho2.os, ho.tape.trans ho2.tape, ho.output.trans ho2.output, Nat.le_trans ho2.size ho.size, fun k hk hkg => (ho.block k (by omega) (by omega)).trans (ho2.block k hk hkg)⟩
    obtain ⟨a1, a2, a3⟩ := h.only ho3 r4 h.ks h.ds
    obtain ⟨b1, b2, b3⟩ := h.only ho3 r2 KyT.nil KdT.nil
    have hlt : (its.take n).length = n := by rw [List.length_take]; omega
    refine ⟨_, .slice q (its.length - n) d, kv, dv, rfl, ⟨?_, a1, a2, a3⟩, ⟨pi, ci, none, 0, none, 0, ?_, ?_, b2, b3, fun k hk => (by cases pi <;> exact hk), fun k hk => (by cases hk), fun k hk => (by cases hk)⟩, ho3, r5, rfl, rfl, fun h => by cases h⟩
    · rw [ho.block p (by omega) (fun e => hne e.symm)]; exact hp2
    · show Value.agg _ = Value.agg #[.bool true, .slice pi (its.take n).length ci, _, _]
      rw [hlt]; rfl
    · show ItT own _ (.slice pi (its.take n).length ci) (its.take n)
      rw [hlt]; exact b1
  have c2 : W2.cell? ⟨w.heap.size, 0, none⟩ = some (.bool false) := cells_of hA2 0
  have c3 : W2.cell? ⟨w.heap.size, 1, none⟩ = some (.slice none 0 0) := cells_of hA2 1
  have c4 : W2.cell? ⟨w.heap.size, 2, none⟩ = some (.slice none 0 0) := cells_of hA2 2
  have c5 : W2.cell? ⟨w.heap.size, 3, none⟩ = some (.slice none 0 0) := cells_of hA2 3
  have f0 := free_of hA2 0; have f1 := free_of hA2 1; have f2 := free_of hA2 2; have f3 := free_of hA2 3
  clear h hri hp1 hA1 hA2 hp2 r2 r4 r5 hbW hpl hne
  generalize its.length = L at *
  subst hW2
  subst hW1
  go_enter Try.func31, Try.ntmps31
  go_wp2
  exact bodyPost_ret (cell1B (p := 4) (ty := 93) (n := 4) (by kernel_rfl) (by kernel_rfl) (by kernel_rfl) rfl (HX.out ()) rfl) rfl HF.out
set_option maxRecDepth 100000 in
set_option maxHeartbeats 4000000 in
theorem cutKids_bk {own : Own} {g : Nat} {w : World} {p : Nat} {vi kv dv up : Value} {its : List NIt} {es : List KE} (h : Row6 own g w p false vi kv dv up its es) {n : Nat} (hn : n ≤ es.length) :
    Calls Try.prog 85 #[.pointer (some ⟨p, 0, none⟩), .int .i64 (n : Nat)] w (CutTold own g p false vi kv dv up its es n w) := by
  obtain ⟨pk, ck, rfl, hrk⟩ := h.ks.row
  obtain ⟨pd, cd, rfl, hrd⟩ := h.ds.row
  have hl9 : (es.length : Int) ≤ 9223372036854775807 := by have := hrk.le; have := hrk.most; unfold maxLen at this; rw [List.length_map] at *; omega
  obtain ⟨r1, r2, q, d, r3, r4, r5⟩ := h.ks.cut n (by rw [List.length_map]; exact hn)
  obtain ⟨s1, s2, u, c, s3, s4, s5⟩ := h.ds.cut n (by rw [List.length_map]; exact hn)
  rw [List.length_map] at r1 r3 r4 r5 s1 s3 s4 s5
  rw [← List.map_drop] at r4 s4
  rw [← List.map_take] at r2 s2
  have hcells := h.cells
  rw [List.length_map, List.length_map] at hcells
  obtain ⟨W1, hW1⟩ : ∃ W1, W1 = w.alloc (.cells #[.bool false, .slice none 0 0, .slice none 0 0, .slice none 0 0] 93) := ⟨_, rfl⟩
  have hbW : Below w.heap.size w W1 := by rw [hW1]; exact (Below.refl _ _).alloc (Nat.le_refl _) _
  have hpl : p < w.heap.size := (Array.getElem?_eq_some_iff.1 h.cells).1
  have hp1 : W1.heap[p]? = some (.cells (rowC p g false vi (.slice pk es.length ck) (.slice pd es.length cd) up) 82 (0, 0)) := (hbW.block _ hpl).trans hcells
  have hA1 : W1.heap[w.heap.size]? = some (.cells #[.bool false, .slice none 0 0, .slice none 0 0, .slice none 0 0] 93 (0, 0)) := by rw [hW1]; exact heap_alloc_new w _
  obtain ⟨W2, hW2⟩ : ∃ W2, W2 = (W1.setCell ⟨p, 1, none⟩ (.slice q (es.length - n) d)).setCell ⟨p, 2, none⟩ (.slice u (es.length - n) c) := ⟨_, rfl⟩
  have hne : w.heap.size ≠ p := by omega
  have hA2 : W2.heap[w.heap.size]? = some (.cells #[.bool false, .slice none 0 0, .slice none 0 0, .slice none 0 0] 93 (0, 0)) := by rw [hW2]; exact (Below.heap_setCell _ _ _ _ (by show _ ≠ p; exact hne)).trans ((Below.heap_setCell _ _ _ _ (by show _ ≠ p; exact hne)).trans hA1)
  have hp2 : W2.heap[p]? = some (.cells (rowC p g false vi (.slice q (es.length - n) d) (.slice u (es.length - n) c) up) 82 (0, 0)) := by rw [hW2]; exact heap_setCell_same _ p 2 _ _ _ (heap_setCell_same _ p 1 _ _ _ hp1)
  have m0 : W1.cell? ⟨p, 1, none⟩ = some (.slice pk es.length ck) := cells_of hp1 1
  have m1 : W1.cell? ⟨p, 2, none⟩ = some (.slice pd es.length cd) := cells_of hp1 2
  have HX := Lib.hid (fun (_ : Unit) => (show (set4 W2 w.heap.size (.bool false) (.slice none 0 0) (.slice pk n ck) (.slice pd n cd)).drew.drew.heap[w.heap.size]? = _ from set4_at hA2))
  have HF : Hid (CutTold own g p false vi (.slice pk es.length ck) (.slice pd es.length cd) up its es n w (.returned (.agg #[.bool false, .slice none 0 0, .slice pk n ck, .slice pd n cd])) (set4 W2 w.heap.size (.bool false) (.slice none 0 0) (.slice pk n ck) (.slice pd n cd)).drew.drew) := by
    have ho := set4_only W2 w.heap.size (.bool false) (.slice none 0 0) (.slice pk n ck) (.slice pd n cd)
    have hs2 : W2.heap.size = w.heap.size + 1 := by rw [hW2, hW1]; simp [World.setCell]
    have h11 : Only p W1 W2 := by rw [hW2]; exact (Only.set p 1 W1 _).trans (Only.set p 2 _ _)
    have ho2 : Only p w W2 := (Only.of_below hbW).trans h11
    have ho3 : Only p w (set4 W2 w.heap.size (.bool false) (.slice none 0 0) (.slice pk n ck) (.slice pd n cd)).drew.drew := ⟨ho.os.trans ho2.os, ho.tape.trans ho2.tape, ho.output.trans ho2.output, Nat.le_trans ho2.size ho.size, fun k hk hkg => (ho.block k (by omega) (by omega)).trans (ho2.block k hk hkg)⟩
    obtain ⟨a1, a2, a3⟩ := h.only ho3 h.its r4 s4
    obtain ⟨b1, b2, b3⟩ := h.only ho3 (ItT.nil (own := own)) r2 s2
    have hlt : (es.take n).length = n := by rw [List.length_take]; omega
    refine ⟨_, vi, .slice q (es.length - n) d, .slice u (es.length - n) c, rfl, ⟨?_, a1, a2, a3⟩, ⟨none, 0, pk, ck, pd, cd, ?_, b1, ?_, ?_, fun k hk => (by cases hk), fun k hk => (by cases pk <;> exact hk), fun k hk => (by cases pd <;> exact hk)⟩, ho3, rfl, r5, s5, fun _ => rfl⟩
    · exact (ho.block p (by omega) (fun e => hne e.symm)).trans hp2
    · show Value.agg _ = Value.agg #[.bool false, _, .slice pk ((es.take n).map (·.k)).length ck, .slice pd ((es.take n).map (·.d)).length cd]
      rw [List.length_map, List.length_map, hlt]; rfl
    · show KyT own _ (.slice pk ((es.take n).map (·.k)).length ck) ((es.take n).map (·.k))
      rw [List.length_map, hlt]; exact b2
    · show KdT _ (.slice pd ((es.take n).map (·.d)).length cd) ((es.take n).map (·.d))
      rw [List.length_map, hlt]; exact b3
  rw [List.length_map, List.length_map]
  have c2 : W2.cell? ⟨w.heap.size, 0, none⟩ = some (.bool false) := cells_of hA2 0
  have c3 : W2.cell? ⟨w.heap.size, 1, none⟩ = some (.slice none 0 0) := cells_of hA2 1
  have c4 : W2.cell? ⟨w.heap.size, 2, none⟩ = some (.slice none 0 0) := cells_of hA2 2
  have c5 : W2.cell? ⟨w.heap.size, 3, none⟩ = some (.slice none 0 0) := cells_of hA2 3
  have q1 := free_of hp1 1; have q2 := free_of hp1 2
  have f0 : W2.frozen? ⟨w.heap.size, 0, none⟩ = false := free_of hA2 0; have f1 : W2.frozen? ⟨w.heap.size, 1, none⟩ = false := free_of hA2 1
  have f2 : W2.frozen? ⟨w.heap.size, 2, none⟩ = false := free_of hA2 2; have f3 : W2.frozen? ⟨w.heap.size, 3, none⟩ = false := free_of hA2 3
  clear h hrk hrd hp1 hA1 hA2 hp2 r2 r4 r5 s2 s4 s5 hbW hpl hne hcells
  generalize es.length = L at *
  have HW1 := Lib.hid hW1
  subst hW2
  clear hW1
  go_enter Try.func85, Try.ntmps85
  go_wp2_with fail
  rw [← HW1.out]
  clear HW1
  go_region
  go_wp2_with fail
  refine wp_region_heldD (S := fun _ => True) (by kernel_rfl) ?_
  refine wpAnyH_takeAt 0 19 ((.pointer (some ⟨p, 0, none⟩))) rfl rfl (by kernel_rfl) (by kernel_rfl) (by kernel_rfl) (fun _ _ _ h => h) (Or.inl ⟨by rfl, fun w h => by (try dsimp only at h); (try go_split_ands); go_simp⟩) trivial ?_
  try simp only [Act.put, arr0, arr1, arr2]
  refine wpAnyH_takeAt 1 20 ((.pointer (some ⟨p, 0, none⟩))) rfl rfl (by kernel_rfl) (by kernel_rfl) (by kernel_rfl) (fun _ _ _ h => h) (Or.inl ⟨by rfl, fun w h => by (try dsimp only at h); (try go_split_ands); go_simp⟩) trivial ?_
  try simp only [Act.put, arr0, arr1, arr2]
  refine wpAnyH_takeAt 2 21 ((.pointer (some ⟨p, 0, none⟩))) rfl rfl (by kernel_rfl) (by kernel_rfl) (by kernel_rfl) (fun _ _ _ h => h) (Or.inl ⟨by rfl, fun w h => by (try dsimp only at h); (try go_split_ands); go_simp⟩) trivial ?_
  try simp only [Act.put, arr0, arr1, arr2]
  refine wpAnyH_takeAt 3 22 ((.pointer (some ⟨p, 0, none⟩))) rfl rfl (by kernel_rfl) (by kernel_rfl) (by kernel_rfl) (fun _ _ _ h => h) (Or.inl ⟨by rfl, fun w h => by (try dsimp only at h); (try go_split_ands); go_simp⟩) trivial ?_
  try simp only [Act.put, arr0, arr1, arr2]
  refine wpAnyH_takeAt 4 23 ((.pointer (some ⟨p, 1, none⟩))) rfl rfl (by kernel_rfl) (by kernel_rfl) (by kernel_rfl) (fun _ _ _ h => h) (Or.inl ⟨by rfl, fun w h => by (try dsimp only at h); (try go_split_ands); go_simp⟩) trivial ?_
  try simp only [Act.put, arr0, arr1, arr2]
  refine wpAnyH_takeAt 6 25 (.int .i64 (n : Nat)) rfl rfl (by kernel_rfl) (by kernel_rfl) (by kernel_rfl) (fun _ _ _ h => h) (Or.inl ⟨by rfl, fun w h => by (try dsimp only at h); (try go_split_ands); go_simp⟩) trivial ?_
  try simp only [Act.put, arr0, arr1, arr2]
  refine wpAnyH_takeAt 8 27 ((.pointer (some ⟨p, 0, none⟩))) rfl rfl (by kernel_rfl) (by kernel_rfl) (by kernel_rfl) (fun _ _ _ h => h) (Or.inl ⟨by rfl, fun w h => by (try dsimp only at h); (try go_split_ands); go_simp⟩) trivial ?_
  try simp only [Act.put, arr0, arr1, arr2]
  refine wpAnyH_takeAt 9 28 ((.pointer (some ⟨p, 0, none⟩))) rfl rfl (by kernel_rfl) (by kernel_rfl) (by kernel_rfl) (fun _ _ _ h => h) (Or.inl ⟨by rfl, fun w h => by (try dsimp only at h); (try go_split_ands); go_simp⟩) trivial ?_
  try simp only [Act.put, arr0, arr1, arr2]
  refine wpAnyH_takeAt 10 29 ((.pointer (some ⟨p, 2, none⟩))) rfl rfl (by kernel_rfl) (by kernel_rfl) (by kernel_rfl) (fun _ _ _ h => h) (Or.inl ⟨by rfl, fun w h => by (try dsimp only at h); (try go_split_ands); go_simp⟩) trivial ?_
  try simp only [Act.put, arr0, arr1, arr2]
  refine wpAnyH_takeAt 12 31 (.int .i64 (n : Nat)) rfl rfl (by kernel_rfl) (by kernel_rfl) (by kernel_rfl) (fun _ _ _ h => h) (Or.inl ⟨by rfl, fun w h => by (try dsimp only at h); (try go_split_ands); go_simp⟩) trivial ?_
  try simp only [Act.put, arr0, arr1, arr2]
  refine wpAnyH_two 5 11 (by kernel_rfl) (fun K hK => ?_) (fun K hK => ?_)
  · refine wpOp_as rfl rfl 24 (.load 78 (.tmp 23)) 78 rfl rfl rfl ?_
    go_simp
    refine hK _ _ trivial (fun _ => ?_)
    clear hK K
    try simp only [Act.put, arr0, arr1, arr2]
    refine wpAnyH_takeAt 7 26 (.slice q (L - n) d) rfl rfl (by kernel_rfl) (by kernel_rfl) (by kernel_rfl) (fun _ _ _ h => h) (Or.inl ⟨by rfl, fun w h => by (try dsimp only at h); (try go_split_ands); go_simp⟩) trivial ?_
    try simp only [Act.put, arr0, arr1, arr2]
    refine wpAnyH_one 11 (by kernel_rfl) (fun K hK => ?_)
    refine wpOp_as rfl rfl 30 (.load 79 (.tmp 29)) 79 rfl rfl rfl ?_
    go_simp
    refine hK _ _ trivial (fun _ => ?_)
    clear hK K
    try simp only [Act.put, arr0, arr1, arr2]
    refine wpAnyH_takeAt 13 32 (.slice u (L - n) c) rfl rfl (by kernel_rfl) (by kernel_rfl) (by kernel_rfl) (fun _ _ _ h => h) (Or.inl ⟨by rfl, fun w h => by (try dsimp only at h); (try go_split_ands); go_simp⟩) trivial ?_
    try simp only [Act.put, arr0, arr1, arr2]
    refine wpAnyH_takeAt 14 33 ((.pointer (some ⟨p, 0, none⟩))) rfl rfl (by kernel_rfl) (by kernel_rfl) (by kernel_rfl) (fun _ _ _ h => h) (Or.inl ⟨by rfl, fun w h => by (try dsimp only at h); (try go_split_ands); go_simp⟩) trivial ?_
    try simp only [Act.put, arr0, arr1, arr2]
    refine wpAnyH_takeAt 15 34 ((.pointer (some ⟨p, 1, none⟩))) rfl rfl (by kernel_rfl) (by kernel_rfl) (by kernel_rfl) (fun _ _ _ h => h) (Or.inl ⟨by rfl, fun w h => by (try dsimp only at h); (try go_split_ands); go_simp⟩) trivial ?_
    try simp only [Act.put, arr0, arr1, arr2]
    refine wpAnyH_one 16 (by kernel_rfl) (fun K hK => ?_)
    refine wpOp_st rfl rfl (.store 78 (.tmp 34) (.tmp 26)) 0 rfl rfl rfl ?_
    go_simp
    refine hK _ _ trivial (fun _ => ?_)
    clear hK K
    try simp only [Act.put, arr0, arr1, arr2]
    refine wpAnyH_takeAt 17 35 ((.pointer (some ⟨p, 0, none⟩))) rfl rfl (by kernel_rfl) (by kernel_rfl) (by kernel_rfl) (fun _ _ _ h => h) (Or.inl ⟨by rfl, fun w h => by (try dsimp only at h); (try go_split_ands); go_simp⟩) trivial ?_
    try simp only [Act.put, arr0, arr1, arr2]
    refine wpAnyH_takeAt 18 36 ((.pointer (some ⟨p, 2, none⟩))) rfl rfl (by kernel_rfl) (by kernel_rfl) (by kernel_rfl) (fun _ _ _ h => h) (Or.inl ⟨by rfl, fun w h => by (try dsimp only at h); (try go_split_ands); go_simp⟩) trivial ?_
    try simp only [Act.put, arr0, arr1, arr2]
    refine wpAnyH_one 19 (by kernel_rfl) (fun K hK => ?_)
    refine wpOp_st rfl rfl (.store 79 (.tmp 36) (.tmp 32)) 0 rfl rfl rfl ?_
    go_simp
    refine hK _ _ trivial (fun _ => ?_)
    clear hK K
    try simp only [Act.put, arr0, arr1, arr2]
    refine wpAnyH_done (by kernel_rfl) ?_ _
    go_wp2
    exact bodyPost_ret (cell1B (p := 4) (ty := 93) (n := 4) (by kernel_rfl) (by kernel_rfl) (by kernel_rfl) rfl (HX.out ()) rfl) rfl HF.out
  · refine wpOp_as rfl rfl 30 (.load 79 (.tmp 29)) 79 rfl rfl rfl ?_
    go_simp
    refine hK _ _ trivial (fun _ => ?_)
    clear hK K
    try simp only [Act.put, arr0, arr1, arr2]
    refine wpAnyH_takeAt 13 32 (.slice u (L - n) c) rfl rfl (by kernel_rfl) (by kernel_rfl) (by kernel_rfl) (fun _ _ _ h => h) (Or.inl ⟨by rfl, fun w h => by (try dsimp only at h); (try go_split_ands); go_simp⟩) trivial ?_
    try simp only [Act.put, arr0, arr1, arr2]
    refine wpAnyH_one 5 (by kernel_rfl) (fun K hK => ?_)
    refine wpOp_as rfl rfl 24 (.load 78 (.tmp 23)) 78 rfl rfl rfl ?_
    go_simp
    refine hK _ _ trivial (fun _ => ?_)
    clear hK K
    try simp only [Act.put, arr0, arr1, arr2]
    refine wpAnyH_takeAt 7 26 (.slice q (L - n) d) rfl rfl (by kernel_rfl) (by kernel_rfl) (by kernel_rfl) (fun _ _ _ h => h) (Or.inl ⟨by rfl, fun w h => by (try dsimp only at h); (try go_split_ands); go_simp⟩) trivial ?_
    try simp only [Act.put, arr0, arr1, arr2]
    refine wpAnyH_takeAt 14 33 ((.pointer (some ⟨p, 0, none⟩))) rfl rfl (by kernel_rfl) (by kernel_rfl) (by kernel_rfl) (fun _ _ _ h => h) (Or.inl ⟨by rfl, fun w h => by (try dsimp only at h); (try go_split_ands); go_simp⟩) trivial ?_
    try simp only [Act.put, arr0, arr1, arr2]
    refine wpAnyH_takeAt 15 34 ((.pointer (some ⟨p, 1, none⟩))) rfl rfl (by kernel_rfl) (by kernel_rfl) (by kernel_rfl) (fun _ _ _ h => h) (Or.inl ⟨by rfl, fun w h => by (try dsimp only at h); (try go_split_ands); go_simp⟩) trivial ?_
    try simp only [Act.put, arr0, arr1, arr2]
    refine wpAnyH_one 16 (by kernel_rfl) (fun K hK => ?_)
    refine wpOp_st rfl rfl (.store 78 (.tmp 34) (.tmp 26)) 0 rfl rfl rfl ?_
    go_simp
    refine hK _ _ trivial (fun _ => ?_)
    clear hK K
    try simp only [Act.put, arr0, arr1, arr2]
    refine wpAnyH_takeAt 17 35 ((.pointer (some ⟨p, 0, none⟩))) rfl rfl (by kernel_rfl) (by kernel_rfl) (by kernel_rfl) (fun _ _ _ h => h) (Or.inl ⟨by rfl, fun w h => by (try dsimp only at h); (try go_split_ands); go_simp⟩) trivial ?_
    try simp only [Act.put, arr0, arr1, arr2]
    refine wpAnyH_takeAt 18 36 ((.pointer (some ⟨p, 2, none⟩))) rfl rfl (by kernel_rfl) (by kernel_rfl) (by kernel_rfl) (fun _ _ _ h => h) (Or.inl ⟨by rfl, fun w h => by (try dsimp only at h); (try go_split_ands); go_simp⟩) trivial ?_
    try simp only [Act.put, arr0, arr1, arr2]
    refine wpAnyH_one 19 (by kernel_rfl) (fun K hK => ?_)
    refine wpOp_st rfl rfl (.store 79 (.tmp 36) (.tmp 32)) 0 rfl rfl rfl ?_
    go_simp
    refine hK _ _ trivial (fun _ => ?_)
    clear hK K
    try simp only [Act.put, arr0, arr1, arr2]
    refine wpAnyH_done (by kernel_rfl) ?_ _
    go_wp2
    exact bodyPost_ret (cell1B (p := 4) (ty := 93) (n := 4) (by kernel_rfl) (by kernel_rfl) (by kernel_rfl) rfl (HX.out ()) rfl) rfl HF.out
end Go.Proofs.Ytajfcnaifegonaa.Sl.Nd
/- Rows made trees, in a program: a kid comes behind the others. -/
namespace Go.By
open Go Go.RowKit
theorem step_appB {P : Program} {w : World} {ops : Array Oper} {o : Oper} {a : Act} {K : Act → World → Prop} {Q : Exit → Act → World → Prop} {E : Prop} {F : Value → World → Prop} (hgd : o.guard = none) (s x : Operand) (t t' : TypeId)
    (ho : o.op = .call { callee := .builtin .append, args := #[s, x], argTypes := #[t, t'] }) (v xv : Value) (hs : a.eval s = v) (hx : a.eval x = xv) (hrun : ∃ v' w', (Builtin.append_ #[t, t'] o.type #[v, xv]).run P w = .ok v' w' ∧ F v' w')
    (h : ∀ v' w', F v' w' → K (a.put o.dst v') w') :
    if Region.wanted o (yielded ops a.tmps) = true then Oper.wp P o a w K Q else E := by
  obtain ⟨v', w', hr, hF⟩ := hrun
  have hw : Region.wanted o (yielded ops a.tmps) = true := by simp [Region.wanted, hgd]
  rw [if_pos hw]
  unfold Oper.wp execOp
  simp only [ho, resolve, invoke, builtin, Sem.run_bind, Sem.run_pure, Result.andThen_ok, List.map_toArray, List.map_cons, List.map_nil, hs, hx, hr]
  exact h v' w' hF
end Go.By
namespace Go.Proofs.Ytajfcnaifegonaa.Sl.Nd
open Go Go.RowKit Go.By
structure PuSt (own : Own) (g : Nat) (w0 : World) (p : Nat) (vi kv dv up : Value) (its : List NIt) (kx dx : Value) (K1 : List (List Nat)) (K2 : List NKd) (A0 : Nat) (d : NKd) (w : World) : Prop where
  tn : Turns g (p :: (blk kv ++ blk dv)) own own w0 w
  row : w.heap[p]? = some (.cells (rowC p g false vi kv dv up) 82 (0, 0))
  box : w.heap[A0]? = some (.cells #[.int .i64 d.off, .int .u64 (d.ct : Nat)] 39 (0, 0))
  its : ItT own w vi its
  ky : KyT own w kx K1
  kd : KdT w dx K2
  kb : ∀ k, kx.ownBlock = some k → k ∈ blk kv ∨ w0.heap.size ≤ k
  db : ∀ k, dx.ownBlock = some k → (k ∈ blk dv ∨ w0.heap.size ≤ k) ∧ k ≠ A0
  pl : p < w0.heap.size
  so : Sole (p :: (blk kv ++ blk dv)) w0 w
theorem ty_bk3 : 31 ≠ 39 ∧ 31 ≠ 34 ∧ 39 ≠ 34 := by decide
section
variable {own : Own} {g : Nat} {w0 : World} {p : Nat} {vi kv dv up : Value} {its : List NIt} {kx dx : Value} {K1 : List (List Nat)} {K2 : List NKd} {A0 : Nat} {d : NKd} {w : World}
theorem PuSt.below {w' : World} (h : PuSt own g w0 p vi kv dv up its kx dx K1 K2 A0 d w) (hb : Below w.heap.size w w') : PuSt own g w0 p vi kv dv up its kx dx K1 K2 A0 d w' := by
  have kp : ∀ {j : Nat} {x : Obj}, w.heap[j]? = some x → w'.heap[j]? = some x := fun hj => (hb.block _ (Array.getElem?_eq_some_iff.1 hj).1).trans hj
  have ht : Turns g [] own own w w' := Turns.below hb
  exact ⟨h.tn.trans ht (by simp), kp h.row, kp h.box, h.its.turns ht (fun k hk => hb.block k (h.its.choose_spec.2.1.lt hk)), h.ky.turns ht (fun k hk => hb.block k (h.ky.choose_spec.2.1.lt hk)), h.kd.stay (fun k hk => hb.block k (h.kd.1.lt hk)), h.kb, h.db, h.pl, h.so.trans (Sole.below (F := []) hb) (by simp)⟩
theorem PuSt.key {b : Nat} {x : Value} {k : List Nat} (h : PuSt own g w0 p vi kv dv up its kx dx K1 K2 A0 d w) (hn : K1.length ≤ 1000000) (hx : TxtO own w x k) (hx1 : x.oneCell' = true) (hb : w.cell? ⟨b, 0, none⟩ = some x) :
    ∃ v' w', (Builtin.append_ #[78, 78] 78 #[kx, .slice (some ⟨b, 0, none⟩) 1 1]).run Try.prog w = .ok v' w' ∧ PuSt own g w0 p vi kv dv up its v' dx (K1 ++ [k]) K2 A0 d w' ∧ (∀ {j : Nat} {c : Array Value} {T : TypeId} {fr : Nat × Nat}, w.heap[j]? = some (.cells c T fr) → 31 ≠ T → w'.heap[j]? = some (.cells c T fr)) ∧ ∀ {v l}, TxtO own w v l → TxtO own w' v l := by
  obtain ⟨v', w', hr, hky, hg⟩ := h.ky.app hn hx hx1 hb
  have ht : Turns g (blk kx) own own w w' := Turns.grows hg (fun _ hk => hk) h.ky.choose_spec.2.1 ty_bk.2.1
  have kp : ∀ {j : Nat} {c : Array Value} {T : TypeId} {fr : Nat × Nat}, w.heap[j]? = some (.cells c T fr) → 31 ≠ T → w'.heap[j]? = some (.cells c T fr) := fun {j c T fr} hj hT => (hg.block (Array.getElem?_eq_some_iff.1 hj).1 (h.ky.choose_spec.2.1.ne hj hT)).trans hj
  refine ⟨v', w', hr, ⟨h.tn.trans ht (fun k hk => ?_), kp h.row ty_bk2.2.1, kp h.box ty_bk3.1, h.its.turns ht (fun k hk => ?_), hky, h.kd.stay (fun k hk => ?_), fun k hk => ?_, h.db, h.pl, h.so.trans (Sole.grows (F := blk kx) hg (fun k hk => mem_blk.2 hk)) (fun k hk => ?_)⟩, kp, fun hv => hv.turns ht⟩
  · rcases h.kb k (mem_blk.1 hk) with h1 | h1
    · exact .inl (by simp [h1])
    · exact .inr h1
  · obtain ⟨cur, hc⟩ := h.its.block hk
    rw [kp hc ty_bk3.2.1, hc]
  · obtain ⟨cur, hc⟩ := h.kd.block hk
    rw [kp hc ty_bk3.1, hc]
  · rcases hg.new with e | ⟨j, e, hj⟩
    · exact h.kb k (by rw [← e]; exact hk)
    · rw [e] at hk
      cases hk
      exact .inr (Nat.le_trans h.tn.size hj)
  · rcases h.kb k (mem_blk.1 hk) with h1 | h1
    · exact .inl (by simp [h1])
    · exact .inr h1
theorem PuSt.kid {b : Nat} (h : PuSt own g w0 p vi kv dv up its kx dx K1 K2 A0 d w) (hA : A0 < w.heap.size) (hn : K2.length ≤ 1000000) (hd : d.off ≤ 9223372036854775807 ∧ d.ct < 18446744073709551616) (h0 : w.cell? ⟨b, 0, none⟩ = some (.int .i64 d.off)) (h1 : w.cell? ⟨b, 1, none⟩ = some (.int .u64 (d.ct : Nat))) :
    ∃ v' w', (Builtin.append_ #[79, 79] 79 #[dx, .slice (some ⟨b, 0, none⟩) 1 1]).run Try.prog w = .ok v' w' ∧ PuSt own g w0 p vi kv dv up its kx v' K1 (K2 ++ [d]) A0 d w' := by
  obtain ⟨v', w', hr, hkd, hg⟩ := h.kd.app hn hd h0 h1
  have ht : Turns g (blk dx) own own w w' := Turns.grows hg (fun _ hk => hk) h.kd.1 ty_bk.2.2.1
  have kp : ∀ {j : Nat} {c : Array Value} {T : TypeId} {fr : Nat × Nat}, w.heap[j]? = some (.cells c T fr) → 39 ≠ T → w'.heap[j]? = some (.cells c T fr) := fun {j c T fr} hj hT => (hg.block (Array.getElem?_eq_some_iff.1 hj).1 (h.kd.1.ne hj hT)).trans hj
  refine ⟨v', w', hr, ⟨h.tn.trans ht (fun k hk => ?_), kp h.row ty_bk2.2.2, ?_, h.its.turns ht (fun k hk => ?_), h.ky.turns ht (fun k hk => ?_), hkd, h.kb, fun k hk => ?_, h.pl, h.so.trans (Sole.grows (F := blk dx) hg (fun k hk => mem_blk.2 hk)) (fun k hk => ?_)⟩⟩
  · rcases (h.db k (mem_blk.1 hk)).1 with h1 | h1
    · exact .inl (by simp [h1])
    · exact .inr h1
  · exact (hg.block hA (fun e => (h.db _ e).2 rfl)).trans h.box
  · obtain ⟨cur, hc⟩ := h.its.block hk
    rw [kp hc ty_bk3.2.2, hc]
  · obtain ⟨cur, hc⟩ := h.ky.block hk
    rw [kp hc (Ne.symm ty_bk3.1), hc]
  · rcases hg.new with e | ⟨j, e, hj⟩
    · exact h.db k (by rw [← e]; exact hk)
    · rw [e] at hk
      cases hk
      exact ⟨.inr (Nat.le_trans h.tn.size hj), by omega⟩
  · rcases (h.db k (mem_blk.1 hk)).1 with h1 | h1
    · exact .inl (by simp [h1])
    · exact .inr h1
theorem PuSt.fin {es : List KE} (h : PuSt own g w0 p vi kv dv up its kx dx (es.map (·.k)) (es.map (·.d)) A0 d w) :
    Row6 own g ((w.setCell ⟨p, 1, none⟩ kx).setCell ⟨p, 2, none⟩ dx) p false vi kx dx up its es ∧ Turns g (p :: (blk kv ++ blk dv)) own own w0 ((w.setCell ⟨p, 1, none⟩ kx).setCell ⟨p, 2, none⟩ dx) ∧ Sole (p :: (blk kv ++ blk dv)) w0 ((w.setCell ⟨p, 1, none⟩ kx).setCell ⟨p, 2, none⟩ dx) := by
  have ho : Only p w ((w.setCell ⟨p, 1, none⟩ kx).setCell ⟨p, 2, none⟩ dx) := (Only.set p 1 w kx).trans (Only.set p 2 _ dx)
  have ht : Turns g [p] own own w ((w.setCell ⟨p, 1, none⟩ kx).setCell ⟨p, 2, none⟩ dx) := Turns.only ho (by simp) h.row ty_bk.2.2.2.1
  have hne : ∀ {k : Nat} {cur : Array Value} {T : TypeId}, w.heap[k]? = some (.cells cur T (0, 0)) → T ≠ 82 → ((w.setCell ⟨p, 1, none⟩ kx).setCell ⟨p, 2, none⟩ dx).heap[k]? = w.heap[k]? := fun {k cur T} hc hT => ho.block k (Array.getElem?_eq_some_iff.1 hc).1 (fun e => by
    rw [e, h.row] at hc
    simp only [Option.some.injEq, Obj.cells.injEq] at hc
    exact hT hc.2.1.symm)
  refine ⟨⟨?_, h.its.turns ht (fun k hk => ?_), h.ky.turns ht (fun k hk => ?_), h.kd.stay (fun k hk => ?_)⟩, h.tn.trans ht (by simp), h.so.trans (Sole.only (F := [p]) ho (by simp)) (by simp)⟩
  · exact heap_setCell_same _ p 2 _ _ _ (heap_setCell_same _ p 1 _ _ _ h.row)
  · obtain ⟨cur, hc⟩ := h.its.block hk
    exact hne hc ty_bk2.1
  · obtain ⟨cur, hc⟩ := h.ky.block hk
    exact hne hc ty_bk2.2.1
  · obtain ⟨cur, hc⟩ := h.kd.block hk
    exact hne hc ty_bk2.2.2
end
def Ret (R : Int → World → Prop) (e : Ending) (w : World) : Prop := ∃ v, e = .returned (.int .i64 v) ∧ R v w
def Took6 (own : Own) (g : Nat) (w0 : World) (p : Nat) (it : Bool) (vi kv dv up : Value) (its : List NIt) (es : List KE) (w : World) : Prop :=
  ∃ vi' kv' dv', Row6 own g w p it vi' kv' dv' up its es ∧ Turns g (p :: (blk vi ++ (blk kv ++ blk dv))) own own w0 w ∧ (∀ k, vi'.ownBlock = some k → k ∈ blk vi ∨ w0.heap.size ≤ k) ∧ (∀ k, kv'.ownBlock = some k → k ∈ blk kv ∨ w0.heap.size ≤ k) ∧ (∀ k, dv'.ownBlock = some k → k ∈ blk dv ∨ w0.heap.size ≤ k) ∧ (it = false → vi' = vi) ∧ Sole (p :: (blk vi ++ (blk kv ++ blk dv))) w0 w
set_option maxRecDepth 100000 in
set_option maxHeartbeats 4000000 in
theorem takeKid_bk {own : Own} {g : Nat} {w : World} {p : Nat} {vi kv dv up : Value} {its : List NIt} {es : List KE} {e : KE} {key : Value} {R : Int → World → Prop} (h : Row6 own g w p false vi kv dv up its es) (hn : es.length ≤ 1000000) (_hnew : ∀ k, w.heap.size ≤ k → own k = none)
    (hk : TxtO own w key e.k) (hd : e.d.off ≤ 9223372036854775807 ∧ e.d.ct < 18446744073709551616)
    (hE : ∀ w', Took6 own g w p false vi kv dv up its (es ++ [e]) w' → Calls Try.prog 39 #[.pointer (some ⟨p, 0, none⟩)] w' (Ret R)) :
    Calls Try.prog 66 #[.pointer (some ⟨p, 0, none⟩), key, .agg #[.int .i64 e.d.off, .int .u64 (e.d.ct : Nat)]] w (Ret R) := by
  obtain ⟨q1, c1, rfl, -⟩ := hk.bytes.any
  obtain ⟨pk, ck, ekv, hrk⟩ := h.ks.row
  obtain ⟨pd, cd, edv, hrd⟩ := h.ds.row
  rw [List.length_map] at ekv edv
  subst ekv
  subst edv
  have HFN : Hid (∀ w8 k6 d7, PuSt own g w p vi (.slice pk es.length ck) (.slice pd es.length cd) up its k6 d7 (es.map (·.k) ++ [e.k]) (es.map (·.d) ++ [e.d]) w.heap.size e.d w8 → Calls Try.prog 39 #[.pointer (some ⟨p, 0, none⟩)] ((w8.setCell ⟨p, 1, none⟩ k6).setCell ⟨p, 2, none⟩ d7) (Ret R)) := fun w8 k6 d7 h8 => by
    have h9 : PuSt own g w p vi (.slice pk es.length ck) (.slice pd es.length cd) up its k6 d7 ((es ++ [e]).map (·.k)) ((es ++ [e]).map (·.d)) w.heap.size e.d w8 := by simpa using h8
    obtain ⟨r, t, so9⟩ := h9.fin
    refine hE _ ⟨vi, k6, d7, r, t.mono (fun k hk => ?_), fun k hk => .inl (mem_blk.2 hk), h8.kb, fun k hk => (h8.db k hk).1, fun _ => rfl, ⟨so9.os, so9.tape, so9.output, so9.size, fun k hk hn => so9.block k hk (fun hm => hn ?_)⟩⟩
    rcases List.mem_cons.1 hk with rfl | hk
    · exact .inl (by simp)
    · exact .inl (List.mem_cons_of_mem _ (List.mem_append_right _ hk))
    · rcases List.mem_cons.1 hm with rfl | hm
      · simp
      · exact List.mem_cons_of_mem _ (List.mem_append_right _ hm)
  obtain ⟨W1, hW1⟩ : ∃ W1, W1 = w.alloc (.cells #[.int .i64 e.d.off, .int .u64 (e.d.ct : Nat)] 39) := ⟨_, rfl⟩
  have hb1 : Below w.heap.size w W1 := by rw [hW1]; exact (Below.refl _ _).alloc (Nat.le_refl _) _
  have hpl : p < w.heap.size := (Array.getElem?_eq_some_iff.1 h.cells).1
  have hX1 : W1.heap[w.heap.size]? = some (.cells #[.int .i64 e.d.off, .int .u64 (e.d.ct : Nat)] 39 (0, 0)) := by rw [hW1]; exact heap_alloc_new w _
  have ht1 : Turns g [] own own w W1 := Turns.below hb1
  have HP1 : Hid (PuSt own g w p vi (.slice pk es.length ck) (.slice pd es.length cd) up its (.slice pk es.length ck) (.slice pd es.length cd) (es.map (·.k)) (es.map (·.d)) w.heap.size e.d W1) := ⟨ht1.mono (by simp), (hb1.block _ hpl).trans h.cells, hX1, h.its.turns ht1 (fun k hk => hb1.block k (h.its.choose_spec.2.1.lt hk)), h.ks.turns ht1 (fun k hk => hb1.block k (h.ks.choose_spec.2.1.lt hk)), h.ds.stay (fun k hk => hb1.block k (h.ds.1.lt hk)), fun k hk => .inl (mem_blk.2 hk), fun k hk => ⟨.inl (mem_blk.2 hk), by have := h.ds.1.lt hk; omega⟩, hpl, Sole.below hb1⟩
  have HK : Hid (TxtO own W1 (.slice q1 e.k.length c1) e.k) := hk.turns ht1
  have HN : Hid ((es.map (·.k)).length ≤ 1000000 ∧ (es.map (·.d)).length ≤ 1000000) := by rw [List.length_map, List.length_map]; exact ⟨hn, hn⟩
  have HD := Lib.hid hd
  have HS1 : Hid (w.heap.size < W1.heap.size) := (Array.getElem?_eq_some_iff.1 hX1).1
  have BD1 : ∀ x, Below W1.heap.size W1 (W1.alloc x).drew := fun x => ((Below.refl _ _).alloc (Nat.le_refl _) _).drew
  have BD2 : ∀ x y, Below W1.heap.size W1 ((W1.alloc x).alloc y).drew := fun x y => (((Below.refl _ _).alloc (Nat.le_refl _) x).alloc ((Below.refl W1.heap.size W1).alloc (Nat.le_refl _) x).size y).drew
  have s0 : W1.cell? ⟨p, 1, none⟩ = some (.slice pk es.length ck) := cells_of HP1.out.row 1
  have s1 : W1.cell? ⟨p, 2, none⟩ = some (.slice pd es.length cd) := cells_of HP1.out.row 2
  have r0 : W1.cell? ⟨w.heap.size, 0, none⟩ = some (.int .i64 e.d.off) := cells_of HP1.out.box 0
  have r1 : W1.cell? ⟨w.heap.size, 1, none⟩ = some (.int .u64 (e.d.ct : Nat)) := cells_of HP1.out.box 1
  have HW1 := Lib.hid hW1
  clear h hn _hnew hk hd hE hrk hrd hW1 hb1 hpl hX1 ht1
  generalize e.k.length = kl at *
  obtain ⟨D, hD⟩ : ∃ D, D = e.d := ⟨_, rfl⟩
  rw [← hD] at HFN HW1 HP1 HD r0 r1 ⊢
  obtain ⟨K0, hK0⟩ : ∃ K0, K0 = e.k := ⟨_, rfl⟩
  rw [← hK0] at HFN HK
  clear hD hK0
  go_enter Try.func66, Try.ntmps66
  go_wp2_with fail
  rw [← HW1.out]
  refine wp_region_heldD (S := fun _ => True) (by kernel_rfl) ?_
  refine wpAnyH_takeAt 0 7 ((.pointer (some ⟨p, 0, none⟩))) rfl rfl (by kernel_rfl) (by kernel_rfl) (by kernel_rfl) (fun _ _ _ h => h) (Or.inl ⟨by rfl, fun w h => by (try dsimp only at h); (try go_split_ands); go_simp⟩) trivial ?_
  try simp only [Act.put, arr0, arr1, arr2]
  refine wpAnyH_takeAt 1 8 ((.pointer (some ⟨p, 0, none⟩))) rfl rfl (by kernel_rfl) (by kernel_rfl) (by kernel_rfl) (fun _ _ _ h => h) (Or.inl ⟨by rfl, fun w h => by (try dsimp only at h); (try go_split_ands); go_simp⟩) trivial ?_
  try simp only [Act.put, arr0, arr1, arr2]
  refine wpAnyH_takeAt 2 9 ((.pointer (some ⟨p, 0, none⟩))) rfl rfl (by kernel_rfl) (by kernel_rfl) (by kernel_rfl) (fun _ _ _ h => h) (Or.inl ⟨by rfl, fun w h => by (try dsimp only at h); (try go_split_ands); go_simp⟩) trivial ?_
  try simp only [Act.put, arr0, arr1, arr2]
  refine wpAnyH_takeAt 3 10 ((.pointer (some ⟨p, 0, none⟩))) rfl rfl (by kernel_rfl) (by kernel_rfl) (by kernel_rfl) (fun _ _ _ h => h) (Or.inl ⟨by rfl, fun w h => by (try dsimp only at h); (try go_split_ands); go_simp⟩) trivial ?_
  try simp only [Act.put, arr0, arr1, arr2]
  refine wpAnyH_takeAt 4 11 ((.pointer (some ⟨p, 1, none⟩))) rfl rfl (by kernel_rfl) (by kernel_rfl) (by kernel_rfl) (fun _ _ _ h => h) (Or.inl ⟨by rfl, fun w h => by (try dsimp only at h); (try go_split_ands); go_simp⟩) trivial ?_
  try simp only [Act.put, arr0, arr1, arr2]
  refine wpAnyH_takeAt 6 13 (.slice q1 kl c1) rfl rfl (by kernel_rfl) (by kernel_rfl) (by kernel_rfl) (fun _ _ _ h => h) (Or.inl ⟨by rfl, fun w h => by (try dsimp only at h); (try go_split_ands); go_simp⟩) trivial ?_
  try simp only [Act.put, arr0, arr1, arr2]
  refine wpAnyH_takeAt 9 16 ((.pointer (some ⟨p, 0, none⟩))) rfl rfl (by kernel_rfl) (by kernel_rfl) (by kernel_rfl) (fun _ _ _ h => h) (Or.inl ⟨by rfl, fun w h => by (try dsimp only at h); (try go_split_ands); go_simp⟩) trivial ?_
  try simp only [Act.put, arr0, arr1, arr2]
  refine wpAnyH_takeAt 10 17 ((.pointer (some ⟨p, 0, none⟩))) rfl rfl (by kernel_rfl) (by kernel_rfl) (by kernel_rfl) (fun _ _ _ h => h) (Or.inl ⟨by rfl, fun w h => by (try dsimp only at h); (try go_split_ands); go_simp⟩) trivial ?_
  try simp only [Act.put, arr0, arr1, arr2]
  refine wpAnyH_takeAt 11 18 ((.pointer (some ⟨p, 2, none⟩))) rfl rfl (by kernel_rfl) (by kernel_rfl) (by kernel_rfl) (fun _ _ _ h => h) (Or.inl ⟨by rfl, fun w h => by (try dsimp only at h); (try go_split_ands); go_simp⟩) trivial ?_
  try simp only [Act.put, arr0, arr1, arr2]
  refine wpAnyH_cut (S := (fun _ => True)) (ex := [0, 1, 2, 3, 4, 6, 9, 10, 11]) (head := ?hd21) (n := 21) ?p121 rfl rfl ?p321 ?_
  case p121 => (simp only [List.pop_toArray, List.dropLast]; rfl)
  case p321 => kernel_rfl
  refine wpAnyH_cut (S := (fun _ => True)) (ex := [0, 1, 2, 3, 4, 6, 9, 10, 11]) (head := ?hd20) (n := 20) ?p120 rfl rfl ?p320 ?_
  case p120 => (simp only [List.pop_toArray, List.dropLast]; rfl)
  case p320 => kernel_rfl
  refine wpAnyH_cut (S := (fun _ => True)) (ex := [0, 1, 2, 3, 4, 6, 9, 10, 11]) (head := ?hd19) (n := 19) ?p119 rfl rfl ?p319 ?_
  case p119 => (simp only [List.pop_toArray, List.dropLast]; rfl)
  case p319 => kernel_rfl
  refine wpAnyH_cut (S := (fun w' => w'.cell? ⟨p, 1, none⟩ = some (.slice pk es.length ck) ∧ w'.cell? ⟨p, 2, none⟩ = some (.slice pd es.length cd) ∧ w'.cell? ⟨w.heap.size, 0, none⟩ = some (.int .i64 D.off) ∧ w'.cell? ⟨w.heap.size, 1, none⟩ = some (.int .u64 (D.ct : Nat)))) (ex := [0, 1, 2, 3, 4, 6, 9, 10, 11]) (head := ?hd18) (n := 18) ?p118 rfl rfl ?p318 ?_
  case p118 => (simp only [List.pop_toArray, List.dropLast]; rfl)
  case p318 => kernel_rfl
  have hHeld : (fun w' => w'.cell? ⟨p, 1, none⟩ = some (.slice pk es.length ck) ∧ w'.cell? ⟨p, 2, none⟩ = some (.slice pd es.length cd) ∧ w'.cell? ⟨w.heap.size, 0, none⟩ = some (.int .i64 D.off) ∧ w'.cell? ⟨w.heap.size, 1, none⟩ = some (.int .u64 (D.ct : Nat))) W1.drew := ⟨s0, s1, r0, r1⟩
  refine wpAnyH_takeAt 5 12 (.slice pk es.length ck) rfl rfl (by kernel_rfl) (by kernel_rfl) (by kernel_rfl) (fun _ _ _ h => h) (Or.inl ⟨by rfl, fun w h => by (try dsimp only at h); (try go_split_ands); go_simp⟩) hHeld ?_
  try simp only [Act.put, arr0, arr1, arr2]
  refine wpAnyH_takeAt 12 19 (.slice pd es.length cd) rfl rfl (by kernel_rfl) (by kernel_rfl) (by kernel_rfl) (fun _ _ _ h => h) (Or.inl ⟨by rfl, fun w h => by (try dsimp only at h); (try go_split_ands); go_simp⟩) hHeld ?_
  try simp only [Act.put, arr0, arr1, arr2]
  refine wpAnyH_takeAt 13 20 (.agg #[.int .i64 D.off, .int .u64 (D.ct : Nat)]) rfl rfl (by kernel_rfl) (by kernel_rfl) (by kernel_rfl) (fun _ _ _ h => h) (Or.inl ⟨by rfl, fun w h => by (try dsimp only at h); (try go_split_ands); go_simp⟩) hHeld ?_
  try simp only [Act.put, arr0, arr1, arr2]
  refine wpAnyH_two 7 14 (by kernel_rfl) (fun K hK => ?_) (fun K hK => ?_)
  · refine wpOp_as rfl rfl 14 (.buildSlice 78 1 #[(0, .tmp 13)]) 78 rfl rfl rfl ?_
    go_simp
    refine hK _ _ ⟨by go_keep, by go_keep, by go_keep, by go_keep⟩ (fun hHeld => ?_)
    clear hK K
    try simp only [Act.put, arr0, arr1, arr2]
    refine wpAnyH_two 8 14 (by kernel_rfl) (fun K hK => ?_) (fun K hK => ?_)
    · refine wpOp_if rfl rfl ?_
      refine step_appB rfl (.tmp 12) (.tmp 14) 78 78 rfl (.slice pk es.length ck) _ rfl rfl (PuSt.key (HP1.out.below (BD1 _)) HN.out.1 (HK.out.turns (Turns.below (F := []) (g := 0) (BD1 _))) rfl (by go_keep)) ?_
      rintro v6 w6 ⟨h6, kp6, tx6⟩
      refine hK _ _ ⟨cells_of h6.row 1, cells_of h6.row 2, cells_of h6.box 0, cells_of h6.box 1⟩ (fun hHeld => ?_)
      clear hK K
      try simp only [Act.put, List.setIfInBounds_toArray]
      refine wpAnyH_one 14 (by kernel_rfl) (fun K hK => ?_)
      refine wpOp_as rfl rfl 21 (.buildSlice 79 1 #[(0, .tmp 20)]) 79 rfl rfl rfl ?_
      go_simp
      refine hK _ _ ⟨by go_keep, by go_keep, by go_keep, by go_keep⟩ (fun hHeld => ?_)
      clear hK K
      try simp only [Act.put, arr0, arr1, arr2]
      refine wpAnyH_one 15 (by kernel_rfl) (fun K hK => ?_)
      refine wpOp_if rfl rfl ?_
      refine step_appB rfl (.tmp 19) (.tmp 21) 79 79 rfl (.slice pd es.length cd) _ rfl rfl (PuSt.kid (h6.below ((Below.refl _ _).alloc (Nat.le_refl _) _)) (by have := h6.tn.size; have := HS1.out; exact (Array.getElem?_eq_some_iff.1 (h6.below ((Below.refl _ _).alloc (Nat.le_refl _) _)).box).1) HN.out.2 HD.out (by go_keep) (by go_keep)) ?_
      rintro v7 w7 h7
      refine hK _ _ ⟨cells_of h7.row 1, cells_of h7.row 2, cells_of h7.box 0, cells_of h7.box 1⟩ (fun hHeld => ?_)
      clear hK K
      try simp only [Act.put, List.setIfInBounds_toArray]
      refine wpAnyH_takeAt 16 23 ((.pointer (some ⟨p, 0, none⟩))) rfl rfl (by kernel_rfl) (by kernel_rfl) (by kernel_rfl) (fun _ _ _ h => h) (Or.inl ⟨by rfl, fun w h => by (try dsimp only at h); (try go_split_ands); go_simp⟩) hHeld ?_
      try simp only [Act.put]
      refine wpAnyH_takeAt 17 24 ((.pointer (some ⟨p, 1, none⟩))) rfl rfl (by kernel_rfl) (by kernel_rfl) (by kernel_rfl) (fun _ _ _ h => h) (Or.inl ⟨by rfl, fun w h => by (try dsimp only at h); (try go_split_ands); go_simp⟩) hHeld ?_
      try simp only [Act.put]
      refine wpAnyH_done (by kernel_rfl) ?_ _
      have c71 : w7.cell? ⟨p, 1, none⟩ = some (.slice pk es.length ck) := cells_of h7.row 1
      have c72 : w7.cell? ⟨p, 2, none⟩ = some (.slice pd es.length cd) := cells_of h7.row 2
      have f71 := free_of h7.row 1; have f72 := free_of h7.row 2
      obtain ⟨p6, k6, e6, -⟩ := h7.ky.row
      obtain ⟨p7, k7, e7, -⟩ := h7.kd.row
      subst e6; subst e7
      have HE7 := HFN.out w7 _ _ h7
      generalize ((es.map (·.k)) ++ [K0]).length = L6 at *
      generalize ((es.map (·.d)) ++ [D]).length = L7 at *
      clear h6 h7 hHeld
      refine popQ_st rfl rfl (.store 78 (.tmp 24) (.tmp 15)) 0 rfl rfl rfl ?_
      go_simp
      refine popQ_as rfl rfl 25 (.nilCheck (.tmp 8)) 0 rfl rfl rfl ?_
      go_simp
      refine popQ_as rfl rfl 26 (.fieldAddr 82 (.tmp 25) 2) 0 rfl rfl rfl ?_
      go_simp
      refine popQ_st rfl rfl (.store 79 (.tmp 26) (.tmp 22)) 0 rfl rfl rfl ?_
      go_simp
      clear c71 c72 f71 f72 s0 s1 r0 r1
      go_wp2_with fail
      refine HE7.mono ?_
      rintro z wz ⟨rv, rfl, hz⟩
      go_wp2
      go_ret
      exact ⟨rv, rfl, hz⟩
    · refine wpOp_as rfl rfl 21 (.buildSlice 79 1 #[(0, .tmp 20)]) 79 rfl rfl rfl ?_
      go_simp
      refine hK _ _ ⟨by go_keep, by go_keep, by go_keep, by go_keep⟩ (fun hHeld => ?_)
      clear hK K
      try simp only [Act.put, arr0, arr1, arr2]
      refine wpAnyH_one 8 (by kernel_rfl) (fun K hK => ?_)
      refine wpOp_if rfl rfl ?_
      refine step_appB rfl (.tmp 12) (.tmp 14) 78 78 rfl (.slice pk es.length ck) _ rfl rfl (PuSt.key (HP1.out.below (BD2 _ _)) HN.out.1 (HK.out.turns (Turns.below (F := []) (g := 0) (BD2 _ _))) rfl (by go_keep)) ?_
      rintro v6 w6 ⟨h6, kp6, tx6⟩
      refine hK _ _ ⟨cells_of h6.row 1, cells_of h6.row 2, cells_of h6.box 0, cells_of h6.box 1⟩ (fun hHeld => ?_)
      clear hK K
      try simp only [Act.put, List.setIfInBounds_toArray]
      refine wpAnyH_one 15 (by kernel_rfl) (fun K hK => ?_)
      refine wpOp_if rfl rfl ?_
      refine step_appB rfl (.tmp 19) (.tmp 21) 79 79 rfl (.slice pd es.length cd) _ rfl rfl (PuSt.kid (h6) (by have := h6.tn.size; have := HS1.out; exact (Array.getElem?_eq_some_iff.1 (h6).box).1) HN.out.2 HD.out (cells_of (kp6 (allocs_at (w := W1) (os := [_, _]) (i := 1) rfl) ty_bk3.1) 0) (cells_of (kp6 (allocs_at (w := W1) (os := [_, _]) (i := 1) rfl) ty_bk3.1) 1)) ?_
      rintro v7 w7 h7
      refine hK _ _ ⟨cells_of h7.row 1, cells_of h7.row 2, cells_of h7.box 0, cells_of h7.box 1⟩ (fun hHeld => ?_)
      clear hK K
      try simp only [Act.put]
      refine wpAnyH_takeAt 16 23 ((.pointer (some ⟨p, 0, none⟩))) rfl rfl (by kernel_rfl) (by kernel_rfl) (by kernel_rfl) (fun _ _ _ h => h) (Or.inl ⟨by rfl, fun w h => by (try dsimp only at h); (try go_split_ands); go_simp⟩) hHeld ?_
      try simp only [Act.put]
      refine wpAnyH_takeAt 17 24 ((.pointer (some ⟨p, 1, none⟩))) rfl rfl (by kernel_rfl) (by kernel_rfl) (by kernel_rfl) (fun _ _ _ h => h) (Or.inl ⟨by rfl, fun w h => by (try dsimp only at h); (try go_split_ands); go_simp⟩) hHeld ?_
      try simp only [Act.put]
      refine wpAnyH_done (by kernel_rfl) ?_ _
      have c71 : w7.cell? ⟨p, 1, none⟩ = some (.slice pk es.length ck) := cells_of h7.row 1
      have c72 : w7.cell? ⟨p, 2, none⟩ = some (.slice pd es.length cd) := cells_of h7.row 2
      have f71 := free_of h7.row 1; have f72 := free_of h7.row 2
      obtain ⟨p6, k6, e6, -⟩ := h7.ky.row
      obtain ⟨p7, k7, e7, -⟩ := h7.kd.row
      subst e6; subst e7
      have HE7 := HFN.out w7 _ _ h7
      generalize ((es.map (·.k)) ++ [K0]).length = L6 at *
      generalize ((es.map (·.d)) ++ [D]).length = L7 at *
      clear h6 h7 hHeld
      refine popQ_st rfl rfl (.store 78 (.tmp 24) (.tmp 15)) 0 rfl rfl rfl ?_
      go_simp
      refine popQ_as rfl rfl 25 (.nilCheck (.tmp 8)) 0 rfl rfl rfl ?_
      go_simp
      refine popQ_as rfl rfl 26 (.fieldAddr 82 (.tmp 25) 2) 0 rfl rfl rfl ?_
      go_simp
      refine popQ_st rfl rfl (.store 79 (.tmp 26) (.tmp 22)) 0 rfl rfl rfl ?_
      go_simp
      clear c71 c72 f71 f72 s0 s1 r0 r1
      go_wp2_with fail
      refine HE7.mono ?_
      rintro z wz ⟨rv, rfl, hz⟩
      go_wp2
      go_ret
      exact ⟨rv, rfl, hz⟩
  · refine wpOp_as rfl rfl 21 (.buildSlice 79 1 #[(0, .tmp 20)]) 79 rfl rfl rfl ?_
    go_simp
    refine hK _ _ ⟨by go_keep, by go_keep, by go_keep, by go_keep⟩ (fun hHeld => ?_)
    clear hK K
    try simp only [Act.put, arr0, arr1, arr2]
    refine wpAnyH_one 7 (by kernel_rfl) (fun K hK => ?_)
    refine wpOp_as rfl rfl 14 (.buildSlice 78 1 #[(0, .tmp 13)]) 78 rfl rfl rfl ?_
    go_simp
    refine hK _ _ ⟨by go_keep, by go_keep, by go_keep, by go_keep⟩ (fun hHeld => ?_)
    clear hK K
    try simp only [Act.put, arr0, arr1, arr2]
    refine wpAnyH_one 8 (by kernel_rfl) (fun K hK => ?_)
    refine wpOp_if rfl rfl ?_
    refine step_appB rfl (.tmp 12) (.tmp 14) 78 78 rfl (.slice pk es.length ck) _ rfl rfl (PuSt.key (HP1.out.below (BD2 _ _)) HN.out.1 (HK.out.turns (Turns.below (F := []) (g := 0) (BD2 _ _))) rfl (by go_keep)) ?_
    rintro v6 w6 ⟨h6, kp6, tx6⟩
    refine hK _ _ ⟨cells_of h6.row 1, cells_of h6.row 2, cells_of h6.box 0, cells_of h6.box 1⟩ (fun hHeld => ?_)
    clear hK K
    try simp only [Act.put, List.setIfInBounds_toArray]
    refine wpAnyH_one 15 (by kernel_rfl) (fun K hK => ?_)
    refine wpOp_if rfl rfl ?_
    refine step_appB rfl (.tmp 19) (.tmp 21) 79 79 rfl (.slice pd es.length cd) _ rfl rfl (PuSt.kid (h6) (by have := h6.tn.size; have := HS1.out; exact (Array.getElem?_eq_some_iff.1 (h6).box).1) HN.out.2 HD.out (cells_of (kp6 (allocs_at (w := W1) (os := [_, _]) (i := 0) rfl) ty_bk3.1) 0) (cells_of (kp6 (allocs_at (w := W1) (os := [_, _]) (i := 0) rfl) ty_bk3.1) 1)) ?_
    rintro v7 w7 h7
    refine hK _ _ ⟨cells_of h7.row 1, cells_of h7.row 2, cells_of h7.box 0, cells_of h7.box 1⟩ (fun hHeld => ?_)
    clear hK K
    try simp only [Act.put]
    refine wpAnyH_takeAt 16 23 ((.pointer (some ⟨p, 0, none⟩))) rfl rfl (by kernel_rfl) (by kernel_rfl) (by kernel_rfl) (fun _ _ _ h => h) (Or.inl ⟨by rfl, fun w h => by (try dsimp only at h); (try go_split_ands); go_simp⟩) hHeld ?_
    try simp only [Act.put]
    refine wpAnyH_takeAt 17 24 ((.pointer (some ⟨p, 1, none⟩))) rfl rfl (by kernel_rfl) (by kernel_rfl) (by kernel_rfl) (fun _ _ _ h => h) (Or.inl ⟨by rfl, fun w h => by (try dsimp only at h); (try go_split_ands); go_simp⟩) hHeld ?_
    try simp only [Act.put]
    refine wpAnyH_done (by kernel_rfl) ?_ _
    have c71 : w7.cell? ⟨p, 1, none⟩ = some (.slice pk es.length ck) := cells_of h7.row 1
    have c72 : w7.cell? ⟨p, 2, none⟩ = some (.slice pd es.length cd) := cells_of h7.row 2
    have f71 := free_of h7.row 1; have f72 := free_of h7.row 2
    obtain ⟨p6, k6, e6, -⟩ := h7.ky.row
    obtain ⟨p7, k7, e7, -⟩ := h7.kd.row
    subst e6; subst e7
    have HE7 := HFN.out w7 _ _ h7
    generalize ((es.map (·.k)) ++ [K0]).length = L6 at *
    generalize ((es.map (·.d)) ++ [D]).length = L7 at *
    clear h6 h7 hHeld
    refine popQ_st rfl rfl (.store 78 (.tmp 24) (.tmp 15)) 0 rfl rfl rfl ?_
    go_simp
    refine popQ_as rfl rfl 25 (.nilCheck (.tmp 8)) 0 rfl rfl rfl ?_
    go_simp
    refine popQ_as rfl rfl 26 (.fieldAddr 82 (.tmp 25) 2) 0 rfl rfl rfl ?_
    go_simp
    refine popQ_st rfl rfl (.store 79 (.tmp 26) (.tmp 22)) 0 rfl rfl rfl ?_
    go_simp
    clear c71 c72 f71 f72 s0 s1 r0 r1
    go_wp2_with fail
    refine HE7.mono ?_
    rintro z wz ⟨rv, rfl, hz⟩
    go_wp2
    go_ret
    exact ⟨rv, rfl, hz⟩
end Go.Proofs.Ytajfcnaifegonaa.Sl.Nd
/- Rows made trees, in a program: rows begun; a row is eased; what stands while a node is laid. -/
namespace Go.Proofs.Ytajfcnaifegonaa.Sl.Nd
open Go Go.RowKit Go.By
set_option maxRecDepth 100000 in
theorem eased_bk {own : Own} {g : Nat} {w : World} {p : Nat} {it : Bool} {vi kv dv up : Value} {its : List NIt} {es : List KE} {R : Int → World → Prop} (h : Row6 own g w p it vi kv dv up its es) (hs : its.length + es.length ≤ 1000)
    (h1 : its.length + es.length < 12 → ∀ w', Below w.heap.size w w' → R 0 w') (h2 : 12 ≤ its.length + es.length → ∀ w', Below w.heap.size w w' → Calls Try.prog 41 #[.pointer (some ⟨p, 0, none⟩), .int .i64 8] w' (Ret R)) :
    Calls Try.prog 39 #[.pointer (some ⟨p, 0, none⟩)] w (Ret R) := by
  obtain ⟨pi, ci, rfl, -⟩ := h.its.row
  obtain ⟨pk, ck, rfl, -⟩ := h.ks.row
  obtain ⟨pd, cd, rfl, -⟩ := h.ds.row
  have hc := h.cells
  rw [List.length_map, List.length_map] at hc
  have HSZ := Lib.hid (size_bk hc (by omega))
  generalize its.length + es.length = n at *
  by_cases h12 : (n : Int) < 12
  · have HR := Lib.hid (h1 (by omega))
    clear h h1 h2 hs hc
    go_enter Try.func39, Try.ntmps39
    go_wp2_with fail
    refine HSZ.out.mono ?_
    rintro e w2 ⟨rfl, hb⟩
    have HF := Lib.hid (HR.out w2 hb)
    clear hb HR
    go_wp2
    go_ret
    exact ⟨0, rfl, HF.out⟩
  · have HL := Lib.hid (h2 (by omega))
    clear h h1 h2 hs hc
    go_enter Try.func39, Try.ntmps39
    go_wp2_with fail
    refine HSZ.out.mono ?_
    rintro e w2 ⟨rfl, hb⟩
    have HC := Lib.hid (HL.out w2 hb)
    clear hb HL
    go_wp2_with fail
    refine HC.out.mono ?_
    rintro e w3 ⟨v, rfl, hr⟩
    go_wp2
    go_ret
    exact ⟨v, rfl, hr⟩
def RowNew (g : Nat) (it : Bool) (w : World) (e : Ending) (w' : World) : Prop :=
  ∃ p, e = .returned (.pointer (some ⟨p, 0, none⟩)) ∧ w.heap.size ≤ p ∧ w'.heap[p]? = some (.cells (rowC p g it (.slice none 0 0) (.slice none 0 0) (.slice none 0 0) (.pointer none)) 82 (0, 0)) ∧ Below w.heap.size w w'
set_option maxRecDepth 100000 in
theorem rowOfKids_bk (g : Nat) (w : World) : Calls Try.prog 65 #[.func (.func 18) #[.pointer (some ⟨g, 0, none⟩)] #[]] w (RowNew g false w) := by
  have hb : Below w.heap.size w (w.alloc (.cells (rowC w.heap.size g false (.slice none 0 0) (.slice none 0 0) (.slice none 0 0) (.pointer none)) 82)) := (Below.refl _ _).alloc (Nat.le_refl _) _
  have hb : Below w.heap.size w (w.alloc (.cells (rowC w.heap.size g false (.slice none 0 0) (.slice none 0 0) (.slice none 0 0) (.pointer none)) 82)) := (Below.refl _ _).alloc (Nat.le_refl _) _
  have hb : Below w.heap.size w (w.alloc (.cells (rowC w.heap.size g false (.slice none 0 0) (.slice none 0 0) (.slice none 0 0) (.pointer none)) 82)) := (Below.refl _ _).alloc (Nat.le_refl _) _
  have hb : Below w.heap.size w (w.alloc (.cells (rowC w.heap.size g false (.slice none 0 0) (.slice none 0 0) (.slice none 0 0) (.pointer none)) 82)) := (Below.refl _ _).alloc (Nat.le_refl _) _
  go_enter Try.func65, Try.ntmps65
  go_wp2_with fail
  go_ret
  exact ⟨w.heap.size, rfl, Nat.le_refl _, heap_alloc_new w _, hb⟩
set_option maxRecDepth 100000 in
theorem rowOfItems_bk (g : Nat) (w : World) : Calls Try.prog 17 #[.func (.func 18) #[.pointer (some ⟨g, 0, none⟩)] #[]] w (RowNew g true w) := by
  have hb : Below w.heap.size w (w.alloc (.cells (rowC w.heap.size g true (.slice none 0 0) (.slice none 0 0) (.slice none 0 0) (.pointer none)) 82)) := (Below.refl _ _).alloc (Nat.le_refl _) _
  go_enter Try.func17, Try.ntmps17
  go_wp2_with fail
  go_ret
  exact ⟨w.heap.size, rfl, Nat.le_refl _, heap_alloc_new w _, hb⟩
structure St6 (own : Own) (W : World) (g : Nat) (w : World) (p : Nat) (it : Bool) (vi kv dv up : Value) (its : List NIt) (es : List KE) (rest : List (List KE)) (F : List Nat) : Prop where
  row : Row6 own g w p it vi kv dv up its es
  ch : Chain own W g w up rest F
  nd : (p :: (blk vi ++ (blk kv ++ (blk dv ++ F)))).Nodup
  fr : ∀ k ∈ p :: (blk vi ++ (blk kv ++ (blk dv ++ F))), own k = none ∧ k ≠ g ∧ W.heap.size ≤ k ∧ k < w.heap.size
def Told (R : Int) (C' : List Nat) (lf : Nat) (W : World) (g a : Nat) (own : Own) (p : Nat) (it : Bool) (F0 : List Nat) (its' : List NIt) (lv' : List (List KE)) (w : World) (v : Int) (w' : World) : Prop :=
  (v = 0 ∧ ∃ own' lf' vi kv dv up es rest F, lv' = es :: rest ∧ lf' ≤ lf ∧ (it = false → vi = .slice none 0 0) ∧ St6 own' W g w' p it vi kv dv up its' es rest F ∧ (∀ k ∈ p :: (blk vi ++ (blk kv ++ (blk dv ++ F))), k ∈ F0 ∨ w.heap.size ≤ k) ∧ Turns g F0 own own' w w' ∧ BkF R C' lf' W g a own' w') ∨
    (lf ≠ 0 ∧ v = 5 ∧ ∃ own', Turns g F0 own own' w w')
def sumD (lvls : List (List KE)) : Nat := (lvls.map (fun es => sumK (es.map (·.d)))).sum
structure Bd (R : Int) (lvls : List (List KE)) (C' : List Nat) (more : Nat) : Prop where
  room : ((256 + C'.length + 4105 : Nat) : Int) ≤ R ∧ R ≤ 1099511627776
  len : C'.length ≤ 1000000
  few : ∀ es ∈ lvls, es.length ≤ 11
  small : ∀ es ∈ lvls, ∀ x ∈ es, x.k.length ≤ 1000
  sum : sumD lvls + more ≤ 1099511627776
def TakeSpec (R : Int) (W : World) (g a : Nat) (es : List KE) (rest : List (List KE)) : Prop :=
  ∀ (own : Own) (w : World) (p : Nat) (kv dv up : Value) (F : List Nat) (C : List Nat) (lf : Nat) (e : KE) (key : Value), St6 own W g w p false (.slice none 0 0) kv dv up [] es rest F → BkF R C lf W g a own w → lf < 1000000 → TxtO own w key e.k → e.k.length ≤ 1000 → 0 ≤ e.d.off ∧ e.d.off ≤ 1000000000 →
    Bd R (es :: rest) (takeK C (es :: rest) e).1 e.d.ct → Calls Try.prog 66 #[.pointer (some ⟨p, 0, none⟩), key, .agg #[.int .i64 e.d.off, .int .u64 (e.d.ct : Nat)]] w (Ret (Told R (takeK C (es :: rest) e).1 lf W g a own p false (p :: (blk (.slice none 0 0) ++ (blk kv ++ (blk dv ++ F)))) [] (takeK C (es :: rest) e).2 w))
structure LaySt (own : Own) (W : World) (g : Nat) (w : World) (p : Nat) (it : Bool) (vi kv dv vi' kv' dv' up : Value) (its' : List NIt) (es' : List KE) (rest : List (List KE)) (F : List Nat) (A : Nat) (n : Nd) (cs : Array Value) (own' : Own) (wx : World) : Prop where
  tn : Turns g [p] own own' w wx
  row : Row6 own' g wx p it vi' kv' dv' up its' es'
  ch : Chain own' W g wx up rest F
  nd : NdT own' wx (.agg cs) n vi kv dv
  box : wx.heap[A]? = some (.cells cs 93 (0, 0))
  fa : own' A = none ∧ A ≠ g ∧ w.heap.size ≤ A
  fr : ∀ k ∈ p :: (blk vi ++ (blk kv ++ (blk dv ++ F))), own' k = none ∧ k ≠ g ∧ W.heap.size ≤ k ∧ k < wx.heap.size
  un : (p :: (blk vi ++ (blk kv ++ (blk dv ++ F)))).Nodup
  eq : vi'.ownBlock = vi.ownBlock ∧ kv'.ownBlock = kv.ownBlock ∧ dv'.ownBlock = dv.ownBlock
  veq : it = false → vi' = vi
section
variable {own : Own} {W : World} {g : Nat} {w : World} {p : Nat} {it : Bool} {vi kv dv vi' kv' dv' up : Value} {its' : List NIt} {es' : List KE} {rest : List (List KE)} {F : List Nat} {A : Nat} {n : Nd} {cs : Array Value} {own' own2 : Own} {wx wy : World}
theorem LaySt.go (h : LaySt own W g w p it vi kv dv vi' kv' dv' up its' es' rest F A n cs own' wx) (ht : Turns g [] own' own2 wx wy) : LaySt own W g w p it vi kv dv vi' kv' dv' up its' es' rest F A n cs own2 wy := by
  have hs := ht.size
  have st : ∀ k ∈ p :: (blk vi ++ (blk kv ++ (blk dv ++ F))), wy.heap[k]? = wx.heap[k]? := fun k hk => by
    obtain ⟨a1, a2, a3, a4⟩ := h.fr k hk
    exact ht.block k a4 a2 (by simp) a1
  have hvi : ∀ k, vi.ownBlock = some k → wy.heap[k]? = wx.heap[k]? := fun k hk => st k (by simp [mem_blk, hk])
  have hkv : ∀ k, kv.ownBlock = some k → wy.heap[k]? = wx.heap[k]? := fun k hk => st k (by simp [mem_blk, hk])
  have hdv : ∀ k, dv.ownBlock = some k → wy.heap[k]? = wx.heap[k]? := fun k hk => st k (by simp [mem_blk, hk])
  refine ⟨h.tn.trans ht (by simp), ⟨(st p (by simp)).trans h.row.cells, h.row.its.turns ht (fun k hk => hvi k (by rw [← h.eq.1]; exact hk)), h.row.ks.turns ht (fun k hk => hkv k (by rw [← h.eq.2.1]; exact hk)), h.row.ds.stay (fun k hk => hdv k (by rw [← h.eq.2.2]; exact hk))⟩, h.ch.stay ht (fun k hk => st k (by simp [hk])), h.nd.turns ht (fun k hk => ?_), ?_, ?_, fun k hk => ?_, h.un, h.eq, h.veq⟩
  · rcases hk with hk | hk | hk
    · exact hvi k hk
    · exact hkv k hk
    · exact hdv k hk
  · exact (ht.block A (Array.getElem?_eq_some_iff.1 h.box).1 h.fa.2.1 (by simp) h.fa.1).trans h.box
  · exact ⟨(ht.same A (Array.getElem?_eq_some_iff.1 h.box).1).trans h.fa.1, h.fa.2⟩
  · obtain ⟨a1, a2, a3, a4⟩ := h.fr k hk
    exact ⟨(ht.same k a4).trans a1, a2, a3, by omega⟩
theorem LaySt.below (h : LaySt own W g w p it vi kv dv vi' kv' dv' up its' es' rest F A n cs own' wx) (hb : Below wx.heap.size wx wy) : LaySt own W g w p it vi kv dv vi' kv' dv' up its' es' rest F A n cs own' wy := h.go (Turns.below hb)
end
theorem LaySt.start {own : Own} {W : World} {g : Nat} {w w1 : World} {p : Nat} {it : Bool} {vi kv dv vi' kv' dv' up : Value} {its its' : List NIt} {es es' : List KE} {rest : List (List KE)} {F : List Nat} {n : Nd} {cs : Array Value} (hs : St6 own W g w p it vi kv dv up its es rest F) (hnew : ∀ k, w.heap.size ≤ k → own k = none) (hg : g < w.heap.size)
    (hr : Row6 own g w1 p it vi' kv' dv' up its' es') (hn : NdT own w1 (.agg cs) n vi kv dv) (ho : Only p w w1) (he : vi'.ownBlock = vi.ownBlock ∧ kv'.ownBlock = kv.ownBlock ∧ dv'.ownBlock = dv.ownBlock) (hv : it = false → vi' = vi) :
    LaySt own W g w p it vi kv dv vi' kv' dv' up its' es' rest F w1.heap.size n cs own (w1.alloc (.cells cs 93)) := by
  have hb : Below w1.heap.size w1 (w1.alloc (.cells cs 93)) := (Below.refl _ _).alloc (Nat.le_refl _) _
  have ht1 : Turns g [p] own own w w1 := Turns.only ho (by simp) hs.row.cells ty_bk.2.2.2.1
  have ht2 : Turns g [] own own w1 (w1.alloc (.cells cs 93)) := Turns.below hb
  have hsz := ho.size
  have hpF : ∀ k ∈ F, k ≠ p := fun k hk e => by
    have := (List.nodup_cons.1 hs.nd).1
    exact this (by rw [← e]; simp [hk])
  have hch : Chain own W g w1 up rest F := hs.ch.stay ht1 (fun k hk => ho.block k (hs.ch.free k hk).2.2.2 (hpF k hk))
  have kp : ∀ {k : Nat}, k < w1.heap.size → (w1.alloc (.cells cs 93)).heap[k]? = w1.heap[k]? := fun hk => hb.block _ hk
  refine ⟨ht1.trans ht2 (by simp), ⟨(kp (Array.getElem?_eq_some_iff.1 hr.cells).1).trans hr.cells, hr.its.turns ht2 (fun k hk => kp (hr.its.choose_spec.2.1.lt hk)), hr.ks.turns ht2 (fun k hk => kp (hr.ks.choose_spec.2.1.lt hk)), hr.ds.stay (fun k hk => kp (hr.ds.1.lt hk))⟩,
    hch.stay ht2 (fun k hk => kp (hch.free k hk).2.2.2), hn.turns ht2 (fun k hk => kp ?_), heap_alloc_new w1 _, ⟨hnew _ hsz, by omega, hsz⟩, fun k hk => ⟨(hs.fr k hk).1, (hs.fr k hk).2.1, (hs.fr k hk).2.2.1, by have h4 := (hs.fr k hk).2.2.2; have h5 := hb.size; omega⟩, hs.nd, he, hv⟩
  have : k < w.heap.size := by
    rcases hk with hk | hk | hk
    · exact (hs.fr k (by simp [mem_blk, hk])).2.2.2
    · exact (hs.fr k (by simp [mem_blk, hk])).2.2.2
    · exact (hs.fr k (by simp [mem_blk, hk])).2.2.2
  omega
theorem blk_eq {v v' : Value} (h : v'.ownBlock = v.ownBlock) : blk v' = blk v := by unfold blk; rw [h]
theorem Chain.st6 {own : Own} {W : World} {g : Nat} {w : World} {p : Nat} {es : List KE} {rest : List (List KE)} {F : List Nat} (h : Chain own W g w (.pointer (some ⟨p, 0, none⟩)) (es :: rest) F) :
    ∃ kv dv up F', F = p :: (blk (.slice none 0 0) ++ (blk kv ++ (blk dv ++ F'))) ∧ St6 own W g w p false (.slice none 0 0) kv dv up [] es rest F' := by
  cases h with
  | @cons _ kv dv up _ _ F' hp hk hd hr hn hf => exact ⟨kv, dv, up, F', rfl, ⟨hp, ItT.nil, hk, hd⟩, hr, hn, hf⟩
theorem St6.chain {own : Own} {W : World} {g : Nat} {w : World} {p : Nat} {vi kv dv up : Value} {es : List KE} {rest : List (List KE)} {F : List Nat} (h : St6 own W g w p false vi kv dv up [] es rest F) (hv : vi = .slice none 0 0) :
    Chain own W g w (.pointer (some ⟨p, 0, none⟩)) (es :: rest) (p :: (blk kv ++ (blk dv ++ F))) := by
  subst hv
  exact .cons h.row.cells h.row.ks h.row.ds h.ch h.nd h.fr
theorem LaySt.grow {own : Own} {W : World} {g : Nat} {w : World} {p : Nat} {it : Bool} {vi kv dv vi' kv' dv' : Value} {its' : List NIt} {es' : List KE} {A : Nat} {n : Nd} {cs : Array Value} {own' : Own} {wx wy : World} (h : LaySt own W g w p it vi kv dv vi' kv' dv' (.pointer none) its' es' [] [] A n cs own' wx)
    (hnew : ∀ k, wx.heap.size ≤ k → own' k = none) (hg : g < wx.heap.size) (hW : W.heap.size ≤ wx.heap.size) {q : Nat} (hq : wx.heap.size ≤ q) (hc : wy.heap[q]? = some (.cells (rowC q g false (.slice none 0 0) (.slice none 0 0) (.slice none 0 0) (.pointer none)) 82 (0, 0))) (hb : Below wx.heap.size wx wy) :
    LaySt own W g w p it vi kv dv vi' kv' dv' (.pointer (some ⟨q, 0, none⟩)) its' es' [[]] [q] A n cs own' (wy.setCell ⟨p, 5, none⟩ (.pointer (some ⟨q, 0, none⟩))) := by
  have h2 := h.below hb
  have hpl : p < wx.heap.size := (h.fr p (by simp)).2.2.2
  have hA : A < wx.heap.size := (Array.getElem?_eq_some_iff.1 h.box).1
  have ho : Only p wy (wy.setCell ⟨p, 5, none⟩ (.pointer (some ⟨q, 0, none⟩))) := Only.set p 5 wy _
  have ht : Turns g [p] own' own' wy (wy.setCell ⟨p, 5, none⟩ (.pointer (some ⟨q, 0, none⟩))) := Turns.only ho (by simp) h2.row.cells ty_bk.2.2.2.1
  have hql : q < wy.heap.size := (Array.getElem?_eq_some_iff.1 hc).1
  obtain ⟨a1, a2, a3⟩ := h2.row.only ho h2.row.its h2.row.ks h2.row.ds
  have hnd : NdT own' (wy.setCell ⟨p, 5, none⟩ (.pointer (some ⟨q, 0, none⟩))) (.agg cs) n vi kv dv := by
    obtain ⟨pi, ci, pk, ck, pd, cd, h1, b1, b2, b3, b4⟩ := h2.nd.out
    obtain ⟨c1, c2, c3⟩ := h2.row.only ho b1 b2 b3
    exact ⟨pi, ci, pk, ck, pd, cd, h1, c1, c2, c3, b4⟩
  have hsz : (wy.setCell ⟨p, 5, none⟩ (.pointer (some ⟨q, 0, none⟩))).heap.size = wy.heap.size := by simp [World.setCell]
  have hAp : A ≠ p := fun e => by
    have h5 := h2.box
    rw [e, h2.row.cells] at h5
    simp only [Option.some.injEq, Obj.cells.injEq] at h5
    exact absurd h5.2.1 (by decide)
  have hqc : (wy.setCell ⟨p, 5, none⟩ (.pointer (some ⟨q, 0, none⟩))).heap[q]? = some (.cells (rowC q g false (.slice none 0 0) (.slice none 0 0) (.slice none 0 0) (.pointer none)) 82 (0, 0)) := (ho.block q hql (by omega)).trans hc
  have hu := h.un
  refine ⟨h2.tn.trans ht (by simp), ⟨heap_setCell_same _ p 5 _ _ _ h2.row.cells, a1, a2, a3⟩, ?_, hnd, (ho.block A (Array.getElem?_eq_some_iff.1 h2.box).1 hAp).trans h2.box, h2.fa, fun k hk => ?_, ?_, h2.eq, h2.veq⟩
  · refine Chain.cons (F := []) hqc KyT.nil KdT.nil .nil (by simp [blk, Value.ownBlock]) (fun k hk => ?_)
    obtain rfl : k = q := by simpa [blk, Value.ownBlock] using hk
    exact ⟨hnew _ hq, by omega, by omega, by omega⟩
  · have hk' : k ∈ p :: (blk vi ++ (blk kv ++ (blk dv ++ []))) ∨ k = q := by
      simp only [List.mem_cons, List.mem_append, List.not_mem_nil, or_false] at hk ⊢
      rcases hk with hk | hk | hk | hk | hk <;> simp [hk]
    rcases hk' with hk' | rfl
    · obtain ⟨e1, e2, e3, e4⟩ := h2.fr k hk'
      exact ⟨e1, e2, e3, by omega⟩
    · exact ⟨hnew _ hq, by omega, by omega, by omega⟩
  · have e : p :: (blk vi ++ (blk kv ++ (blk dv ++ [q]))) = (p :: (blk vi ++ (blk kv ++ (blk dv ++ [])))) ++ [q] := by simp
    rw [e, List.nodup_append]
    refine ⟨hu, by simp, fun x hx y hy => ?_⟩
    obtain rfl : y = q := by simpa using hy
    have := (h.fr x hx).2.2.2
    omega
theorem LaySt.fin {R : Int} {C' : List Nat} {lf lf' a : Nat} {own : Own} {W : World} {g : Nat} {w : World} {p : Nat} {it : Bool} {vi kv dv vi' kv' dv' : Value} {its' : List NIt} {es' es5 : List KE} {rest rest5 lv5 : List (List KE)} {F F0 F5 : List Nat} {A q : Nat} {n : Nd} {cs : Array Value} {own' own2 : Own} {wx wy : World} {vq kq dq uq : Value} (h : LaySt own W g w p it vi kv dv vi' kv' dv' (.pointer (some ⟨q, 0, none⟩)) its' es' rest F A n cs own' wx)
    (hF : ∀ k ∈ F, k ∈ F0 ∨ w.heap.size ≤ k) (hl : lf' ≤ lf) (hv0 : it = false → vi = .slice none 0 0) (h5 : St6 own2 W g wy q false vq kq dq uq [] es5 rest5 F5) (hvq2 : vq = .slice none 0 0) (hlv : lv5 = es5 :: rest5) (hs : ∀ k ∈ q :: (blk vq ++ (blk kq ++ (blk dq ++ F5))), k ∈ F ∨ wx.heap.size ≤ k) (ht : Turns g F own' own2 wx wy) (hf : BkF R C' lf' W g a own2 wy) :
    Told R C' lf W g a own p it (p :: (blk vi ++ (blk kv ++ (blk dv ++ F0)))) its' (es' :: lv5) w 0 wy := by
  have hvq : vq.ownBlock = none := by rw [hvq2]; rfl
  have hsz := ht.size
  have hpF : ∀ k ∈ p :: (blk vi ++ (blk kv ++ blk dv)), k ∉ F := fun k hk hkF => by
    have e : p :: (blk vi ++ (blk kv ++ (blk dv ++ F))) = (p :: (blk vi ++ (blk kv ++ blk dv))) ++ F := by simp
    have := h.un
    rw [e, List.nodup_append] at this
    exact this.2.2 k hk k hkF rfl
  have hin : ∀ k ∈ p :: (blk vi ++ (blk kv ++ blk dv)), k ∈ p :: (blk vi ++ (blk kv ++ (blk dv ++ F))) := fun k hk => by
    simp only [List.mem_cons, List.mem_append] at hk ⊢
    rcases hk with hk | hk | hk | hk <;> simp [hk]
  have st : ∀ k ∈ p :: (blk vi ++ (blk kv ++ blk dv)), wy.heap[k]? = wx.heap[k]? := fun k hk => by
    obtain ⟨a1, a2, a3, a4⟩ := h.fr k (hin k hk)
    exact ht.block k a4 a2 (hpF k hk) a1
  have hvi : ∀ k, vi'.ownBlock = some k → wy.heap[k]? = wx.heap[k]? := fun k hk => st k (by rw [h.eq.1] at hk; simp [mem_blk, hk])
  have hkv : ∀ k, kv'.ownBlock = some k → wy.heap[k]? = wx.heap[k]? := fun k hk => st k (by rw [h.eq.2.1] at hk; simp [mem_blk, hk])
  have hdv : ∀ k, dv'.ownBlock = some k → wy.heap[k]? = wx.heap[k]? := fun k hk => st k (by rw [h.eq.2.2] at hk; simp [mem_blk, hk])
  have hL : blk vq = [] := by unfold blk; rw [hvq]
  have hs' : ∀ k ∈ q :: (blk kq ++ (blk dq ++ F5)), k ∈ F ∨ wx.heap.size ≤ k := fun k hk => hs k (by rw [hL]; exact hk)
  have b1 := blk_eq h.eq.1; have b2 := blk_eq h.eq.2.1; have b3 := blk_eq h.eq.2.2
  have e : p :: (blk vi' ++ (blk kv' ++ (blk dv' ++ (q :: (blk kq ++ (blk dq ++ F5)))))) = (p :: (blk vi ++ (blk kv ++ blk dv))) ++ (q :: (blk kq ++ (blk dq ++ F5))) := by rw [b1, b2, b3]; simp
  have hfr : ∀ k ∈ p :: (blk vi' ++ (blk kv' ++ (blk dv' ++ (q :: (blk kq ++ (blk dq ++ F5)))))), own2 k = none ∧ k ≠ g ∧ W.heap.size ≤ k ∧ k < wy.heap.size := fun k hk => by
    rw [e] at hk
    rcases List.mem_append.1 hk with hk | hk
    · obtain ⟨a1, a2, a3, a4⟩ := h.fr k (hin k hk)
      exact ⟨(ht.same k a4).trans a1, a2, a3, by omega⟩
    · exact h5.fr k (by rw [hL]; exact hk)
  refine .inl ⟨rfl, own2, lf', vi', kv', dv', .pointer (some ⟨q, 0, none⟩), es', lv5, q :: (blk kq ++ (blk dq ++ F5)), rfl, hl, fun h0 => (h.veq h0).trans (hv0 h0), ⟨⟨(st p (by simp)).trans h.row.cells, h.row.its.turns ht hvi, h.row.ks.turns ht hkv, h.row.ds.stay hdv⟩, by rw [hlv]; exact h5.chain hvq2, ?_, hfr⟩, fun k hk => ?_, ?_, hf⟩
  · rw [e, List.nodup_append]
    refine ⟨?_, ?_, fun x hx y hy hxy => ?_⟩
    · have := h.un
      have e2 : p :: (blk vi ++ (blk kv ++ (blk dv ++ F))) = (p :: (blk vi ++ (blk kv ++ blk dv))) ++ F := by simp
      rw [e2, List.nodup_append] at this
      exact this.1
    · have := h5.nd
      rw [hL] at this
      exact this
    · subst hxy
      rcases hs' x hy with h1 | h1
      · exact hpF x hx h1
      · have := (h.fr x (hin x hx)).2.2.2
        omega
  · rw [e] at hk
    rcases List.mem_append.1 hk with hk | hk
    · left
      simp only [List.mem_cons, List.mem_append] at hk ⊢
      rcases hk with hk | hk | hk | hk <;> simp [hk]
    · rcases hs' k hk with h1 | h1
      · rcases hF k h1 with h2 | h2
        · exact .inl (by simp [h2])
        · exact .inr h2
      · exact .inr (Nat.le_trans h.tn.size h1)
  · refine (h.tn.mono (F2 := p :: (blk vi ++ (blk kv ++ (blk dv ++ F0)))) (by simp)).trans ht (fun k hk => ?_)
    rcases hF k hk with h1 | h1
    · exact .inl (by simp [h1])
    · exact .inr h1
end Go.Proofs.Ytajfcnaifegonaa.Sl.Nd
/- Rows made trees, in a program: a node is laid. -/
namespace Go.By
open Go
theorem takeK_more : ∀ (lvls : List (List KE)) (C : List Nat) (e : KE), C.length ≤ (takeK C lvls e).1.length
  | [], C, e => Nat.le_refl _
  | es :: rest, C, e => by
    unfold takeK
    by_cases h12 : es.length + 1 < 12
    · rw [if_pos h12]; exact Nat.le_refl _
    · rw [if_neg h12]
      have := takeK_more rest (layE C ((es ++ [e]).take 8)).1 (layE C ((es ++ [e]).take 8)).2
      have h2 : C.length ≤ (layE C ((es ++ [e]).take 8)).1.length := by simp [layE]
      exact Nat.le_trans h2 this
end Go.By
namespace Go.Proofs.Ytajfcnaifegonaa.Sl.Nd
open Go Go.RowKit Go.By
def CutBy (own : Own) (g p : Nat) (it : Bool) (vi kv dv up : Value) (its' : List NIt) (es' : List KE) (nd : Nd) (w : World) (e : Ending) (w' : World) : Prop :=
  ∃ nv vi' kv' dv', e = .returned nv ∧ Row6 own g w' p it vi' kv' dv' up its' es' ∧ NdT own w' nv nd vi kv dv ∧ Only p w w' ∧ vi'.ownBlock = vi.ownBlock ∧ kv'.ownBlock = kv.ownBlock ∧ dv'.ownBlock = dv.ownBlock ∧ (it = false → vi' = vi)
theorem ndt_val {own : Own} {w : World} {nv vi kv dv : Value} {n : Nd} (h : NdT own w nv n vi kv dv) : ∃ pi ci pk ck pd cd, nv = .agg #[.bool n.leaf, .slice pi n.its.length ci, .slice pk n.ks.length ck, .slice pd n.kids.length cd] := by
  obtain ⟨pi, ci, pk, ck, pd, cd, h1, _⟩ := h.out
  exact ⟨pi, ci, pk, ck, pd, cd, h1⟩
theorem lst_small {n : Nd} (h : NdFine n) : ∀ c ∈ lst n, c < 256 := by
  unfold lst
  split
  · cases hi : n.its with
    | nil => intro c hc; cases hc
    | cons i r => exact (h.its i (by rw [hi]; simp)).1
  · cases hi : n.ks with
    | nil => intro c hc; cases hc
    | cons k r => exact h.ks k (by rw [hi]; simp)
theorem Chain.kind {own : Own} {W : World} {g : Nat} {w : World} {v : Value} {lv : List (List KE)} {F : List Nat} (h : Chain own W g w v lv F) : ∀ k ∈ F, ∃ c T, w.heap[k]? = some (.cells c T (0, 0)) ∧ T ≠ 93 := by
  induction h with
  | nil => intro k hk; cases hk
  | cons hp hk hd hr hn hf ih =>
    intro k hm
    simp only [List.mem_cons, List.mem_append] at hm
    rcases hm with rfl | hm | hm | hm
    · exact ⟨_, _, hp, by decide⟩
    · obtain ⟨cur, hc⟩ := hk.block (mem_blk.1 hm)
      exact ⟨_, _, hc, by decide⟩
    · obtain ⟨cur, hc⟩ := hd.block (mem_blk.1 hm)
      exact ⟨_, _, hc, by decide⟩
    · exact ih k hm
section
variable {R : Int} {C' : List Nat} {lf lf4 a : Nat} {own : Own} {W : World} {g : Nat} {w : World} {p : Nat} {it : Bool} {vi kv dv vi' kv' dv' up : Value} {its' : List NIt} {es' : List KE} {rest lv' : List (List KE)} {F F0 Fq : List Nat} {A q : Nat} {n : Nd} {cs : Array Value} {own4 : Own} {w8 w9 : World} {kq dq : Value} {lv9 : List (List KE)} {v9 : Int}
theorem lay_fail (h : LaySt own W g w p it vi kv dv vi' kv' dv' up its' es' rest F A n cs own4 w8) (hl : lf ≠ 0) : Told R C' lf W g a own p it (p :: (blk vi ++ (blk kv ++ (blk dv ++ F)))) its' lv' w 5 w8 :=
  .inr ⟨hl, rfl, own4, h.tn.mono (by simp)⟩
theorem told_turns {F1 : List Nat} {its1 : List NIt} (h9 : Told R C' lf4 W g a own4 q it F1 its1 lv9 w8 v9 w9) : ∃ own9, Turns g F1 own4 own9 w8 w9 := by
  rcases h9 with ⟨_, own9, _, _, _, _, _, _, _, _, _, _, _, _, _, ht, _⟩ | ⟨_, _, own9, ht⟩
  · exact ⟨own9, ht⟩
  · exact ⟨own9, ht⟩
theorem lay_keep (h : LaySt own W g w p it vi kv dv vi' kv' dv' (.pointer (some ⟨q, 0, none⟩)) its' es' rest F A n cs own4 w8) (hF : F = q :: (blk (.slice none 0 0) ++ (blk kq ++ (blk dq ++ Fq))))
    (h9 : Told R C' lf4 W g a own4 q false (q :: (blk (.slice none 0 0) ++ (blk kq ++ (blk dq ++ Fq)))) [] lv9 w8 v9 w9) : w9.heap[p]? = w8.heap[p]? ∧ w9.heap[A]? = w8.heap[A]? := by
  rw [← hF] at h9
  obtain ⟨own9, ht⟩ := told_turns h9
  refine ⟨ht.block p (h.fr p (by simp)).2.2.2 (h.fr p (by simp)).2.1 (fun hp => ?_) (h.fr p (by simp)).1, ht.block A (Array.getElem?_eq_some_iff.1 h.box).1 h.fa.2.1 (fun hA => ?_) h.fa.1⟩
  · have := (List.nodup_cons.1 h.un).1
    exact this (by simp [hp])
  · obtain ⟨c, T, hc, hT⟩ := h.ch.kind A hA
    rw [h.box] at hc
    simp only [Option.some.injEq, Obj.cells.injEq] at hc
    exact hT hc.2.1.symm
theorem lay_end (h : LaySt own W g w p it vi kv dv vi' kv' dv' (.pointer (some ⟨q, 0, none⟩)) its' es' rest F A n cs own4 w8) (hQ : ∀ k ∈ F, k ∈ F0 ∨ w.heap.size ≤ k) (hl : lf4 ≤ lf) (hv0 : it = false → vi = .slice none 0 0) (hF : F = q :: (blk (.slice none 0 0) ++ (blk kq ++ (blk dq ++ Fq))))
    {lv : List Nat × List (List KE)} (h9 : Told R lv.1 lf4 W g a own4 q false (q :: (blk (.slice none 0 0) ++ (blk kq ++ (blk dq ++ Fq)))) [] lv.2 w8 v9 w9) : Told R lv.1 lf W g a own p it (p :: (blk vi ++ (blk kv ++ (blk dv ++ F0)))) its' (es' :: lv.2) w v9 w9 := by
  rw [← hF] at h9
  rcases h9 with ⟨rfl, own9, lf9, vi9, kv9, dv9, up9, es9, rest9, F9, h1, h2, h3, h4, h5, h6, h7⟩ | ⟨h1, rfl, own9, ht⟩
  · exact h.fin hQ (Nat.le_trans h2 hl) hv0 h4 (h3 rfl) h1 h5 h6 h7
  · refine .inr ⟨by omega, rfl, own9, (h.tn.mono (F2 := p :: (blk vi ++ (blk kv ++ (blk dv ++ F0)))) (by simp)).trans ht (fun k hk => ?_)⟩
    rcases hQ k hk with h1 | h1
    · exact .inl (by simp [h1])
    · exact .inr h1
end
set_option maxRecDepth 100000 in
set_option maxHeartbeats 4000000 in
theorem lay_items_top {R : Int} {C : List Nat} {lf a : Nat} {own : Own} {W : World} {g : Nat} {w : World} {p : Nat} {vi kv dv : Value} {its its' : List NIt} {es es' : List KE} {es0 : List KE} {rest0 : List (List KE)} {F : List Nat} {n : Nat} {nd : Nd} {e : KE}
    (hs : St6 own W g w p true vi kv dv (.pointer none) its es [] F) (hf : BkF R C lf W g a own w) (hlf : lf < 1000000) (hcut : Calls Try.prog 31 #[.pointer (some ⟨p, 0, none⟩), .int .i64 (n : Nat)] w (CutBy own g p true vi kv dv (.pointer none) its' es' nd w))
    (hk : e.k = lst nd) (hk1 : e.k.length ≤ 1000) (ho : e.d.off = (256 + C.length : Nat)) (hct : e.d.ct = cnt nd) (hsum : sumCt nd.kids ≤ 17592186044416) (hv0 : true = false → vi = .slice none 0 0) (h0 : es0 = [] ∧ rest0 = [])
    (hT : TakeSpec R W g a es0 rest0) (hB : Bd R (es0 :: rest0) (takeK (C ++ recOf 2 (putNd nd)) (es0 :: rest0) e).1 e.d.ct) :
    Calls Try.prog 41 #[.pointer (some ⟨p, 0, none⟩), .int .i64 (n : Nat)] w (Ret (Told R (takeK (C ++ recOf 2 (putNd nd)) (es0 :: rest0) e).1 lf W g a own p true (p :: (blk vi ++ (blk kv ++ (blk dv ++ F)))) its' (es' :: (takeK (C ++ recOf 2 (putNd nd)) (es0 :: rest0) e).2) w)) := by
  obtain ⟨rfl, rfl⟩ := h0
  obtain rfl : F = [] := by cases hs.ch; rfl
  obtain ⟨lv, hlv⟩ : ∃ lv, lv = takeK (C ++ recOf 2 (putNd nd)) ([[]]) e := ⟨_, rfl⟩
  have hCl : C.length ≤ 1000000 ∧ (C ++ recOf 2 (putNd nd)).length ≤ lv.1.length := by
    have h1 := takeK_more ([[]]) (C ++ recOf 2 (putNd nd)) e
    have h2 := hB.len
    rw [hlv]
    rw [List.length_append] at h1
    refine ⟨by omega, ?_⟩
    rw [List.length_append]; exact h1
  have hpl : (putNd nd).length ≤ 1300 := putNd_length nd
  have hglt := hf.glt
  have HNEW : Hid (∀ k, w.heap.size ≤ k → own k = none) := fun k hk => hf.new_none hk
  have hroom := hB.room
  have HSt := Lib.hid hs; have HCUT := Lib.hid hcut
  have hcr : (recOf 2 (putNd nd)).length = 9 + (putNd nd).length := recOf_length ..
  have HAP : Hid (∀ wx (bv : Value), BkF R C lf W g a own wx → Bytes wx bv (putNd nd) → Calls Try.prog 18 #[.pointer (some ⟨g, 0, none⟩), .int .u8 2, bv] wx (Appd R C lf W g a own 2 (putNd nd) wx)) := fun wx bv hx hb => app_bk hx (by rw [← hlv] at hroom; rw [List.length_append] at hCl; have := hCl.2; omega) hCl.1 hlf (by decide) hb (by omega)
  have HPO : Hid (∀ wx vv, wx.ownsRow w.heap.size 5 1 vv (putNd nd).length (cellsOf (putNd nd)) → NdT own w (.agg #[]) nd vi kv dv ∨ True → NdFine nd → Bytes wx vv (putNd nd)) := fun wx vv hb _ hfn => Bytes.of_owns hb (putNd_small hfn) (by unfold maxLen; omega)
  have c3 : w.cell? ⟨p, 3, none⟩ = some (.func (.func 31) #[.pointer (some ⟨p, 0, none⟩)] #[]) := cells_of hs.row.cells 3
  have HF := Lib.hid hf; have HLF := Lib.hid hlf; have HT := Lib.hid hT; have HB := Lib.hid hB; have HLV := Lib.hid hlv; have HK := Lib.hid hk; have HK1 := Lib.hid hk1; have HO := Lib.hid ho; have HCT := Lib.hid hct; have HSUM := Lib.hid hsum; have HC1 := Lib.hid hCl; have HV0 := Lib.hid hv0; have HG := Lib.hid hglt
  rw [← hlv]
  clear hs hf hlf hcut hk hk1 ho hct hsum hT hB hlv hv0 hCl hpl hglt hroom hcr
  go_enter Try.func41, Try.ntmps41
  go_wp2_with fail
  refine HCUT.out.mono ?_
  rintro z w1 ⟨nv, vi', kv', dv', rfl, hr1, hn1, ho1, he1, he2, he3, hv1⟩
  obtain ⟨pi, ci, pk, ck, pd, cd, rfl⟩ := ndt_val hn1
  have hL0 := LaySt.start HSt.out HNEW.out HG.out.1 hr1 hn1 ho1 ⟨he1, he2, he3⟩ hv1
  have HNF : Hid (NdFine nd) := by obtain ⟨_, _, _, _, _, _, hh⟩ := hn1.nd; exact hh.fine
  have hF1 : BkF R C lf W g a own w1 := HF.out.only ho1 (let h9 := HSt.out.fr p (by simp); ⟨h9.1, h9.2.1, h9.2.2.1⟩)
  obtain ⟨A, hA⟩ : ∃ A, A = w1.heap.size := ⟨_, rfl⟩
  obtain ⟨W2, hW2⟩ : ∃ W2, W2 = w1.alloc (.cells #[.bool nd.leaf, .slice pi nd.its.length ci, .slice pk nd.ks.length ck, .slice pd nd.kids.length cd] 93) := ⟨_, rfl⟩
  rw [← hA, ← hW2] at hL0
  have hF2 : BkF R C lf W g a own W2 := by rw [hW2]; exact hF1.stay ((Below.refl _ _).alloc (Nat.le_refl _) _)
  have HL0 := Lib.hid hL0; have HF2 := Lib.hid hF2; have HW2 := Lib.hid hW2; have HA := Lib.hid hA
  clear hL0 hF2 hF1 hW2 hA hr1 hn1 ho1 he1 he2 he3 hv1 c3 HCUT HF
  generalize hnl : nd.leaf = nl at *; generalize hli : nd.its.length = li at *; generalize hlk : nd.ks.length = lk at *; generalize hld : nd.kids.length = ld at *
  clear hnl hli hlk hld
  go_wp2_with fail
  rw [← HW2.out, ← HA.out]
  clear HW2 HA
  refine wp_region_heldD (S := (fun w' => w'.cell? ⟨p, 4, none⟩ = some (.func (.func 18) #[.pointer (some ⟨g, 0, none⟩)] #[]) ∧ w'.cell? ⟨A, 0, none⟩ = some (.bool nl) ∧ w'.cell? ⟨A, 1, none⟩ = some (.slice pi li ci) ∧ w'.cell? ⟨A, 2, none⟩ = some (.slice pk lk ck) ∧ w'.cell? ⟨A, 3, none⟩ = some (.slice pd ld cd) ∧ w'.cell? ⟨p, 5, none⟩ = some (.pointer none))) (by kernel_rfl) ?_
  have hL1 := HL0.out.below ((Below.refl W2.heap.size W2).drew)
  have hHeld : (fun w' => w'.cell? ⟨p, 4, none⟩ = some (.func (.func 18) #[.pointer (some ⟨g, 0, none⟩)] #[]) ∧ w'.cell? ⟨A, 0, none⟩ = some (.bool nl) ∧ w'.cell? ⟨A, 1, none⟩ = some (.slice pi li ci) ∧ w'.cell? ⟨A, 2, none⟩ = some (.slice pk lk ck) ∧ w'.cell? ⟨A, 3, none⟩ = some (.slice pd ld cd) ∧ w'.cell? ⟨p, 5, none⟩ = some (.pointer none)) W2.drew := ⟨cells_of (hL1).row.cells 4, cells_of (hL1).box 0, cells_of (hL1).box 1, cells_of (hL1).box 2, cells_of (hL1).box 3, cells_of (hL1).row.cells 5⟩
  refine wpAnyH_takeAt 0 15 ((.pointer (some ⟨p, 0, none⟩))) rfl rfl (by kernel_rfl) (by kernel_rfl) (by kernel_rfl) (fun _ _ _ h => h) (Or.inl ⟨by rfl, fun w h => by (try dsimp only at h); (try go_split_ands); go_simp⟩) hHeld ?_
  try simp only [Act.put, arr0, arr1, arr2]
  refine wpAnyH_takeAt 1 16 ((.pointer (some ⟨p, 0, none⟩))) rfl rfl (by kernel_rfl) (by kernel_rfl) (by kernel_rfl) (fun _ _ _ h => h) (Or.inl ⟨by rfl, fun w h => by (try dsimp only at h); (try go_split_ands); go_simp⟩) hHeld ?_
  try simp only [Act.put, arr0, arr1, arr2]
  refine wpAnyH_takeAt 2 17 ((.pointer (some ⟨p, 4, none⟩))) rfl rfl (by kernel_rfl) (by kernel_rfl) (by kernel_rfl) (fun _ _ _ h => h) (Or.inl ⟨by rfl, fun w h => by (try dsimp only at h); (try go_split_ands); go_simp⟩) hHeld ?_
  try simp only [Act.put, arr0, arr1, arr2]
  refine wpAnyH_takeAt 3 18 ((.func (.func 18) #[.pointer (some ⟨g, 0, none⟩)] #[])) rfl rfl (by kernel_rfl) (by kernel_rfl) (by kernel_rfl) (fun _ _ _ h => h) (Or.inl ⟨by rfl, fun w h => by (try dsimp only at h); (try go_split_ands); go_simp⟩) hHeld ?_
  try simp only [Act.put, arr0, arr1, arr2]
  refine wpAnyH_takeAt 4 19 (.agg #[.bool nl, .slice pi li ci, .slice pk lk ck, .slice pd ld cd]) rfl rfl (by kernel_rfl) (by kernel_rfl) (by kernel_rfl) (fun _ _ _ h => h) (Or.inl ⟨by rfl, fun w h => by (try dsimp only at h); (try go_split_ands); go_simp⟩) hHeld ?_
  try simp only [Act.put, arr0, arr1, arr2]
  refine wpAnyH_one 5 (by kernel_rfl) (fun K hK => ?_)
  refine wpOp_as rfl rfl 20 (.call { callee := .value (.func 64), args := #[.tmp 19], argTypes := #[93] }) 31 rfl rfl rfl ?_
  obtain ⟨_, _, _, _, _, _, hnd1⟩ := hL1.nd.nd
  have HPU := Lib.hid (put_any hnd1)
  go_simp
  go_at_call 64
  refine HPU.out.mono ?_
  rintro e3 w3 ⟨v3, rfl, o3, b3⟩
  have hL3 := hL1.below b3
  have hF3 : BkF R C lf W g a own w3 := (HF2.out.stay ((Below.refl W2.heap.size W2).drew)).stay b3
  have hB3 : Bytes w3 v3 (putNd nd) := HPO.out w3 v3 (owns_base o3 (Nat.le_trans hL1.tn.size (Nat.le_refl _))) (.inr trivial) HNF.out
  obtain ⟨q3, d3, rfl, -⟩ := hB3.any
  have HAC := Lib.hid (HAP.out _ _ hF3 hB3)
  refine hK _ _ ⟨cells_of (hL3).row.cells 4, cells_of (hL3).box 0, cells_of (hL3).box 1, cells_of (hL3).box 2, cells_of (hL3).box 3, cells_of (hL3).row.cells 5⟩ (fun hHeld => ?_)
  clear hK K HPU hnd1 o3 b3
  try simp only [Act.put, arr0, arr1, arr2]
  have HL3 := Lib.hid hL3
  clear hL3 hL1 hF3 hB3
  refine wpAnyH_one 6 (by kernel_rfl) (fun K hK => ?_)
  refine wpOp_as rfl rfl 21 (.call { callee := .value (.tmp 18), args := #[.const (.int .u8 2), .tmp 20], argTypes := #[5, 31] }) 84 rfl rfl rfl ?_
  go_simp
  go_at_call 18
  refine HAC.out.mono ?_
  rintro e4 w4 (⟨rfl, own4, lf4, hl4, ht4, hF4⟩ | ⟨hl0, rfl, own4, ht4⟩)
  · have hL4 := HL3.out.go ht4
    refine hK _ _ ⟨cells_of (hL4).row.cells 4, cells_of (hL4).box 0, cells_of (hL4).box 1, cells_of (hL4).box 2, cells_of (hL4).box 3, cells_of (hL4).row.cells 5⟩ (fun hHeld => ?_)
    clear hK K HAC
    try simp only [Act.put, arr0, arr1, arr2]
    refine wpAnyH_takeAt 7 14 (.tuple #[.int .i64 (256 + C.length : Nat), .int .i64 0]) rfl rfl (by kernel_rfl) (by kernel_rfl) (by kernel_rfl) (fun _ _ _ h => h) (Or.inl ⟨by rfl, fun w h => by (try dsimp only at h); (try go_split_ands); go_simp⟩) hHeld ?_
    try simp only [Act.put, arr0, arr1, arr2]
    refine wpAnyH_takeAt 8 22 (.int .i64 (256 + C.length : Nat)) rfl rfl (by kernel_rfl) (by kernel_rfl) (by kernel_rfl) (fun _ _ _ h => h) (Or.inl ⟨by rfl, fun w h => by (try dsimp only at h); (try go_split_ands); go_simp⟩) hHeld ?_
    try simp only [Act.put, arr0, arr1, arr2]
    refine wpAnyH_takeAt 9 23 (.int .i64 0) rfl rfl (by kernel_rfl) (by kernel_rfl) (by kernel_rfl) (fun _ _ _ h => h) (Or.inl ⟨by rfl, fun w h => by (try dsimp only at h); (try go_split_ands); go_simp⟩) hHeld ?_
    try simp only [Act.put, arr0, arr1, arr2]
    refine wpAnyH_takeAt 10 6 (.int .i64 (256 + C.length : Nat)) rfl rfl (by kernel_rfl) (by kernel_rfl) (by kernel_rfl) (fun _ _ _ h => h) (Or.inl ⟨by rfl, fun w h => by (try dsimp only at h); (try go_split_ands); go_simp⟩) hHeld ?_
    try simp only [Act.put, arr0, arr1, arr2]
    refine wpAnyH_takeAt 11 7 (.int .i64 0) rfl rfl (by kernel_rfl) (by kernel_rfl) (by kernel_rfl) (fun _ _ _ h => h) (Or.inl ⟨by rfl, fun w h => by (try dsimp only at h); (try go_split_ands); go_simp⟩) hHeld ?_
    try simp only [Act.put, arr0, arr1, arr2]
    refine wpAnyH_done (by kernel_rfl) ?_ _
    have HL4 := Lib.hid hL4; have HF4 := Lib.hid hF4; have HLZ := Lib.hid hl4
    have n5 : w4.cell? ⟨p, 5, none⟩ = some (.pointer none) := cells_of hL4.row.cells 5
    have n4 : w4.cell? ⟨p, 4, none⟩ = some (.func (.func 18) #[.pointer (some ⟨g, 0, none⟩)] #[]) := cells_of hL4.row.cells 4
    clear hL4 hF4 hl4 ht4 hHeld
    go_wp2_with fail
    refine (rowOfKids_bk g w4).mono ?_
    rintro e5 w5 ⟨q, rfl, hq, hc5, hb5⟩
    have hL5 := HL4.out.grow (fun k hk => HF4.out.new_none hk) HF4.out.glt.1 HF4.out.glt.2.2 hq hc5 hb5
    have n55 : w5.cell? ⟨p, 5, none⟩ = some (.pointer none) := cells_of (HL4.out.below hb5).row.cells 5
    have f55 := free_of (HL4.out.below hb5).row.cells 5
    have hF5 : BkF R (C ++ recOf 2 (putNd nd)) lf4 W g a own4 (w5.setCell ⟨p, 5, none⟩ (.pointer (some ⟨q, 0, none⟩))) := (HF4.out.stay hb5).only (Only.set p 5 w5 _) (let h9 := (HL4.out.below hb5).fr p (by simp); ⟨h9.1, h9.2.1, h9.2.2.1⟩)
    have HQ : Hid (∀ k ∈ [q], k ∈ ([] : List Nat) ∨ w.heap.size ≤ k) := fun k hk => .inr (by obtain rfl := List.mem_singleton.1 hk; exact Nat.le_trans HL4.out.tn.size hq)
    obtain ⟨W6, hW6⟩ : ∃ W6, W6 = w5.setCell ⟨p, 5, none⟩ (.pointer (some ⟨q, 0, none⟩)) := ⟨_, rfl⟩
    rw [← hW6] at hL5 hF5
    have HL5 := Lib.hid hL5; have HF5 := Lib.hid hF5; have HW6 := Lib.hid hW6
    clear hL5 hF5 hW6 hc5 hb5 hq n5 n4 HL4 HF4
    go_wp2_with fail
    rw [← HW6.out]
    clear HW6 n55 f55
    refine wp_region_heldD (S := (fun w' => w'.cell? ⟨p, 4, none⟩ = some (.func (.func 18) #[.pointer (some ⟨g, 0, none⟩)] #[]) ∧ w'.cell? ⟨A, 0, none⟩ = some (.bool nl) ∧ w'.cell? ⟨A, 1, none⟩ = some (.slice pi li ci) ∧ w'.cell? ⟨A, 2, none⟩ = some (.slice pk lk ck) ∧ w'.cell? ⟨A, 3, none⟩ = some (.slice pd ld cd) ∧ w'.cell? ⟨p, 5, none⟩ = some (.pointer (some ⟨q, 0, none⟩)))) (by kernel_rfl) ?_
    have hL6 := HL5.out.below ((Below.refl W6.heap.size W6).drew)
    have hHeld : (fun w' => w'.cell? ⟨p, 4, none⟩ = some (.func (.func 18) #[.pointer (some ⟨g, 0, none⟩)] #[]) ∧ w'.cell? ⟨A, 0, none⟩ = some (.bool nl) ∧ w'.cell? ⟨A, 1, none⟩ = some (.slice pi li ci) ∧ w'.cell? ⟨A, 2, none⟩ = some (.slice pk lk ck) ∧ w'.cell? ⟨A, 3, none⟩ = some (.slice pd ld cd) ∧ w'.cell? ⟨p, 5, none⟩ = some (.pointer (some ⟨q, 0, none⟩))) W6.drew := ⟨cells_of (hL6).row.cells 4, cells_of (hL6).box 0, cells_of (hL6).box 1, cells_of (hL6).box 2, cells_of (hL6).box 3, cells_of (hL6).row.cells 5⟩
    refine wpAnyH_takeAt 0 40 ((.pointer (some ⟨p, 0, none⟩))) rfl rfl (by kernel_rfl) (by kernel_rfl) (by kernel_rfl) (fun _ _ _ h => h) (Or.inl ⟨by rfl, fun w h => by (try dsimp only at h); (try go_split_ands); go_simp⟩) hHeld ?_
    try simp only [Act.put, arr0, arr1, arr2]
    refine wpAnyH_takeAt 1 41 ((.pointer (some ⟨p, 0, none⟩))) rfl rfl (by kernel_rfl) (by kernel_rfl) (by kernel_rfl) (fun _ _ _ h => h) (Or.inl ⟨by rfl, fun w h => by (try dsimp only at h); (try go_split_ands); go_simp⟩) hHeld ?_
    try simp only [Act.put, arr0, arr1, arr2]
    refine wpAnyH_takeAt 2 42 ((.pointer (some ⟨p, 5, none⟩))) rfl rfl (by kernel_rfl) (by kernel_rfl) (by kernel_rfl) (fun _ _ _ h => h) (Or.inl ⟨by rfl, fun w h => by (try dsimp only at h); (try go_split_ands); go_simp⟩) hHeld ?_
    try simp only [Act.put, arr0, arr1, arr2]
    refine wpAnyH_takeAt 3 43 ((.pointer (some ⟨q, 0, none⟩))) rfl rfl (by kernel_rfl) (by kernel_rfl) (by kernel_rfl) (fun _ _ _ h => h) (Or.inl ⟨by rfl, fun w h => by (try dsimp only at h); (try go_split_ands); go_simp⟩) hHeld ?_
    try simp only [Act.put, arr0, arr1, arr2]
    refine wpAnyH_takeAt 4 44 (.agg #[.bool nl, .slice pi li ci, .slice pk lk ck, .slice pd ld cd]) rfl rfl (by kernel_rfl) (by kernel_rfl) (by kernel_rfl) (fun _ _ _ h => h) (Or.inl ⟨by rfl, fun w h => by (try dsimp only at h); (try go_split_ands); go_simp⟩) hHeld ?_
    try simp only [Act.put, arr0, arr1, arr2]
    refine wpAnyH_takeAt 6 46 ((.int .i64 (256 + C.length : Nat))) rfl rfl (by kernel_rfl) (by kernel_rfl) (by kernel_rfl) (fun _ _ _ h => h) (Or.inl ⟨by rfl, fun w h => by (try dsimp only at h); (try go_split_ands); go_simp⟩) hHeld ?_
    try simp only [Act.put, arr0, arr1, arr2]
    refine wpAnyH_takeAt 7 47 (.agg #[.bool nl, .slice pi li ci, .slice pk lk ck, .slice pd ld cd]) rfl rfl (by kernel_rfl) (by kernel_rfl) (by kernel_rfl) (fun _ _ _ h => h) (Or.inl ⟨by rfl, fun w h => by (try dsimp only at h); (try go_split_ands); go_simp⟩) hHeld ?_
    try simp only [Act.put, arr0, arr1, arr2]
    obtain ⟨_, _, _, _, _, _, hnd6⟩ := hL6.nd.nd
    have HLE := Lib.hid (least_any hnd6 (by rw [← HK.out]; exact HK1.out))
    clear hnd6
    refine wpAnyH_one 5 (by kernel_rfl) (fun K hK => ?_)
    refine wpOp_as rfl rfl 45 (.call { callee := .value (.func 67), args := #[.tmp 44], argTypes := #[93] }) 31 rfl rfl rfl ?_
    go_simp
    go_at_call 67
    refine HLE.out.mono ?_
    rintro e7 w7 ⟨v7, rfl, o7, b7⟩
    have hL7 := hL6.below b7
    have hF7 : BkF R (C ++ recOf 2 (putNd nd)) lf4 W g a own4 w7 := (HF5.out.stay ((Below.refl W6.heap.size W6).drew)).stay b7
    have hK7 : TxtO own4 w7 v7 e.k := by rw [HK.out]; exact TxtO.of_new o7 (lst_small HNF.out) (by rw [← HK.out]; have := HK1.out; unfold maxLen; omega) (fun k hk => HF5.out.new_none hk)
    obtain ⟨q7, d7, rfl, -⟩ := hK7.bytes.any
    obtain ⟨_, _, _, _, _, _, hnd7⟩ := hL7.nd.nd
    have HCO := Lib.hid (count_any hnd7 HSUM.out)
    refine hK _ _ ⟨cells_of (hL7).row.cells 4, cells_of (hL7).box 0, cells_of (hL7).box 1, cells_of (hL7).box 2, cells_of (hL7).box 3, cells_of (hL7).row.cells 5⟩ (fun hHeld => ?_)
    clear hK K HLE hnd7 o7 b7
    try simp only [Act.put, arr0, arr1, arr2]
    refine wpAnyH_one 8 (by kernel_rfl) (fun K hK => ?_)
    refine wpOp_as rfl rfl 48 (.call { callee := .value (.func 68), args := #[.tmp 47], argTypes := #[93] }) 37 rfl rfl rfl ?_
    go_simp
    go_at_call 68
    refine HCO.out.mono ?_
    rintro e8 w8 ⟨rfl, b8⟩
    have hL8 := hL7.below b8
    have hF8 := hF7.stay b8
    have hK8 : TxtO own4 w8 (.slice q7 e.k.length d7) e.k := hK7.turns (F := []) (g := g) (Turns.below b8)
    obtain ⟨kq, dq, uq, Fq, hFq, hst⟩ := hL8.ch.st6
    have HFq := Lib.hid hFq
    clear hFq
    have HTK := Lib.hid (HT.out own4 w8 q kq dq uq Fq _ lf4 e _ hst hF8 (Nat.lt_of_le_of_lt HLZ.out HLF.out) hK8 HK1.out (by rw [HO.out]; have := HC1.out.1; omega) HB.out)
    refine hK _ _ ⟨cells_of (hL8).row.cells 4, cells_of (hL8).box 0, cells_of (hL8).box 1, cells_of (hL8).box 2, cells_of (hL8).box 3, cells_of (hL8).row.cells 5⟩ (fun hHeld => ?_)
    clear hK K HCO b8
    try simp only [Act.put, arr0, arr1, arr2]
    refine wpAnyH_takeAt 9 49 (.agg #[.int .i64 (256 + C.length : Nat), .int .u64 (cnt nd : Nat)]) rfl rfl (by kernel_rfl) (by kernel_rfl) (by kernel_rfl) (fun _ _ _ h => h) (Or.inl ⟨by rfl, fun w h => by (try dsimp only at h); (try go_split_ands); go_simp⟩) hHeld ?_
    try simp only [Act.put, arr0, arr1, arr2]
    rw [HO.out, HCT.out] at HTK
    refine wpAnyH_one 10 (by kernel_rfl) (fun K hK => ?_)
    refine wpOp_as rfl rfl 50 (.call { callee := .value (.func 66), args := #[.tmp 43, .tmp 45, .tmp 49], argTypes := #[52, 31, 39] }) 35 rfl rfl rfl ?_
    go_simp
    go_at_call 66
    refine HTK.out.mono ?_
    rintro e9 w9 ⟨v9, rfl, h9⟩
    have HFIN := Lib.hid (lay_end (F0 := []) hL8 HQ.out HLZ.out (by first | exact HV0.out | exact fun _ => HV0.out trivial) HFq.out (lv := lv) (by rw [HLV.out]; exact h9))
    have hkp := lay_keep hL8 HFq.out h9
    refine hK _ _ ⟨cells_of (hkp.1.trans hL8.row.cells) 4, cells_of (hkp.2.trans hL8.box) 0, cells_of (hkp.2.trans hL8.box) 1, cells_of (hkp.2.trans hL8.box) 2, cells_of (hkp.2.trans hL8.box) 3, cells_of (hkp.1.trans hL8.row.cells) 5⟩ (fun hHeld => ?_)
    clear hK K HTK h9
    try simp only [Act.put, arr0, arr1, arr2]
    refine wpAnyH_takeAt 11 4 (.int .i64 v9) rfl rfl (by kernel_rfl) (by kernel_rfl) (by kernel_rfl) (fun _ _ _ h => h) (Or.inl ⟨by rfl, fun w h => by (try dsimp only at h); (try go_split_ands); go_simp⟩) hHeld ?_
    try simp only [Act.put, arr0, arr1, arr2]
    refine wpAnyH_done (by kernel_rfl) ?_ _
    clear hHeld hL6 hL7 hL8 hF7 hF8 hK7 hK8 hst hkp
    go_wp2
    go_ret
    exact ⟨v9, rfl, by have := HFIN.out; simp only [List.append_nil] at this; exact this⟩
  · have hL4 := HL3.out.go ht4
    refine hK _ _ ⟨cells_of (hL4).row.cells 4, cells_of (hL4).box 0, cells_of (hL4).box 1, cells_of (hL4).box 2, cells_of (hL4).box 3, cells_of (hL4).row.cells 5⟩ (fun hHeld => ?_)
    clear hK K HAC
    try simp only [Act.put, arr0, arr1, arr2]
    refine wpAnyH_takeAt 7 14 (.tuple #[.int .i64 0, .int .i64 5]) rfl rfl (by kernel_rfl) (by kernel_rfl) (by kernel_rfl) (fun _ _ _ h => h) (Or.inl ⟨by rfl, fun w h => by (try dsimp only at h); (try go_split_ands); go_simp⟩) hHeld ?_
    try simp only [Act.put, arr0, arr1, arr2]
    refine wpAnyH_takeAt 8 22 (.int .i64 0) rfl rfl (by kernel_rfl) (by kernel_rfl) (by kernel_rfl) (fun _ _ _ h => h) (Or.inl ⟨by rfl, fun w h => by (try dsimp only at h); (try go_split_ands); go_simp⟩) hHeld ?_
    try simp only [Act.put, arr0, arr1, arr2]
    refine wpAnyH_takeAt 9 23 (.int .i64 5) rfl rfl (by kernel_rfl) (by kernel_rfl) (by kernel_rfl) (fun _ _ _ h => h) (Or.inl ⟨by rfl, fun w h => by (try dsimp only at h); (try go_split_ands); go_simp⟩) hHeld ?_
    try simp only [Act.put, arr0, arr1, arr2]
    refine wpAnyH_takeAt 10 6 (.int .i64 0) rfl rfl (by kernel_rfl) (by kernel_rfl) (by kernel_rfl) (fun _ _ _ h => h) (Or.inl ⟨by rfl, fun w h => by (try dsimp only at h); (try go_split_ands); go_simp⟩) hHeld ?_
    try simp only [Act.put, arr0, arr1, arr2]
    refine wpAnyH_takeAt 11 7 (.int .i64 5) rfl rfl (by kernel_rfl) (by kernel_rfl) (by kernel_rfl) (fun _ _ _ h => h) (Or.inl ⟨by rfl, fun w h => by (try dsimp only at h); (try go_split_ands); go_simp⟩) hHeld ?_
    try simp only [Act.put, arr0, arr1, arr2]
    refine wpAnyH_done (by kernel_rfl) ?_ _
    have HFIN := Lib.hid (lay_fail (R := R) (C' := lv.1) (a := a) (its' := its') (lv' := es' :: lv.2) (it := true) hL4 hl0)
    clear hHeld hL4 ht4
    go_wp2
    go_ret
    exact ⟨5, rfl, by have := HFIN.out; simp only [List.append_nil] at this; exact this⟩
set_option maxRecDepth 100000 in
set_option maxHeartbeats 4000000 in
theorem lay_kids_top {R : Int} {C : List Nat} {lf a : Nat} {own : Own} {W : World} {g : Nat} {w : World} {p : Nat} {vi kv dv : Value} {its its' : List NIt} {es es' : List KE} {es0 : List KE} {rest0 : List (List KE)} {F : List Nat} {n : Nat} {nd : Nd} {e : KE}
    (hs : St6 own W g w p false vi kv dv (.pointer none) its es [] F) (hf : BkF R C lf W g a own w) (hlf : lf < 1000000) (hcut : Calls Try.prog 85 #[.pointer (some ⟨p, 0, none⟩), .int .i64 (n : Nat)] w (CutBy own g p false vi kv dv (.pointer none) its' es' nd w))
    (hk : e.k = lst nd) (hk1 : e.k.length ≤ 1000) (ho : e.d.off = (256 + C.length : Nat)) (hct : e.d.ct = cnt nd) (hsum : sumCt nd.kids ≤ 17592186044416) (hv0 : false = false → vi = .slice none 0 0) (h0 : es0 = [] ∧ rest0 = [])
    (hT : TakeSpec R W g a es0 rest0) (hB : Bd R (es0 :: rest0) (takeK (C ++ recOf 2 (putNd nd)) (es0 :: rest0) e).1 e.d.ct) :
    Calls Try.prog 41 #[.pointer (some ⟨p, 0, none⟩), .int .i64 (n : Nat)] w (Ret (Told R (takeK (C ++ recOf 2 (putNd nd)) (es0 :: rest0) e).1 lf W g a own p false (p :: (blk vi ++ (blk kv ++ (blk dv ++ F)))) its' (es' :: (takeK (C ++ recOf 2 (putNd nd)) (es0 :: rest0) e).2) w)) := by
  obtain ⟨rfl, rfl⟩ := h0
  obtain rfl : F = [] := by cases hs.ch; rfl
  obtain ⟨lv, hlv⟩ : ∃ lv, lv = takeK (C ++ recOf 2 (putNd nd)) ([[]]) e := ⟨_, rfl⟩
  have hCl : C.length ≤ 1000000 ∧ (C ++ recOf 2 (putNd nd)).length ≤ lv.1.length := by
    have h1 := takeK_more ([[]]) (C ++ recOf 2 (putNd nd)) e
    have h2 := hB.len
    rw [hlv]
    rw [List.length_append] at h1
    refine ⟨by omega, ?_⟩
    rw [List.length_append]; exact h1
  have hpl : (putNd nd).length ≤ 1300 := putNd_length nd
  have hglt := hf.glt
  have HNEW : Hid (∀ k, w.heap.size ≤ k → own k = none) := fun k hk => hf.new_none hk
  have hroom := hB.room
  have HSt := Lib.hid hs; have HCUT := Lib.hid hcut
  have hcr : (recOf 2 (putNd nd)).length = 9 + (putNd nd).length := recOf_length ..
  have HAP : Hid (∀ wx (bv : Value), BkF R C lf W g a own wx → Bytes wx bv (putNd nd) → Calls Try.prog 18 #[.pointer (some ⟨g, 0, none⟩), .int .u8 2, bv] wx (Appd R C lf W g a own 2 (putNd nd) wx)) := fun wx bv hx hb => app_bk hx (by rw [← hlv] at hroom; rw [List.length_append] at hCl; have := hCl.2; omega) hCl.1 hlf (by decide) hb (by omega)
  have HPO : Hid (∀ wx vv, wx.ownsRow w.heap.size 5 1 vv (putNd nd).length (cellsOf (putNd nd)) → NdT own w (.agg #[]) nd vi kv dv ∨ True → NdFine nd → Bytes wx vv (putNd nd)) := fun wx vv hb _ hfn => Bytes.of_owns hb (putNd_small hfn) (by unfold maxLen; omega)
  have c3 : w.cell? ⟨p, 3, none⟩ = some (.func (.func 85) #[.pointer (some ⟨p, 0, none⟩)] #[]) := cells_of hs.row.cells 3
  have HF := Lib.hid hf; have HLF := Lib.hid hlf; have HT := Lib.hid hT; have HB := Lib.hid hB; have HLV := Lib.hid hlv; have HK := Lib.hid hk; have HK1 := Lib.hid hk1; have HO := Lib.hid ho; have HCT := Lib.hid hct; have HSUM := Lib.hid hsum; have HC1 := Lib.hid hCl; have HV0 := Lib.hid hv0; have HG := Lib.hid hglt
  rw [← hlv]
  clear hs hf hlf hcut hk hk1 ho hct hsum hT hB hlv hv0 hCl hpl hglt hroom hcr
  go_enter Try.func41, Try.ntmps41
  go_wp2_with fail
  refine HCUT.out.mono ?_
  rintro z w1 ⟨nv, vi', kv', dv', rfl, hr1, hn1, ho1, he1, he2, he3, hv1⟩
  obtain ⟨pi, ci, pk, ck, pd, cd, rfl⟩ := ndt_val hn1
  have hL0 := LaySt.start HSt.out HNEW.out HG.out.1 hr1 hn1 ho1 ⟨he1, he2, he3⟩ hv1
  have HNF : Hid (NdFine nd) := by obtain ⟨_, _, _, _, _, _, hh⟩ := hn1.nd; exact hh.fine
  have hF1 : BkF R C lf W g a own w1 := HF.out.only ho1 (let h9 := HSt.out.fr p (by simp); ⟨h9.1, h9.2.1, h9.2.2.1⟩)
  obtain ⟨A, hA⟩ : ∃ A, A = w1.heap.size := ⟨_, rfl⟩
  obtain ⟨W2, hW2⟩ : ∃ W2, W2 = w1.alloc (.cells #[.bool nd.leaf, .slice pi nd.its.length ci, .slice pk nd.ks.length ck, .slice pd nd.kids.length cd] 93) := ⟨_, rfl⟩
  rw [← hA, ← hW2] at hL0
  have hF2 : BkF R C lf W g a own W2 := by rw [hW2]; exact hF1.stay ((Below.refl _ _).alloc (Nat.le_refl _) _)
  have HL0 := Lib.hid hL0; have HF2 := Lib.hid hF2; have HW2 := Lib.hid hW2; have HA := Lib.hid hA
  clear hL0 hF2 hF1 hW2 hA hr1 hn1 ho1 he1 he2 he3 hv1 c3 HCUT HF
  generalize hnl : nd.leaf = nl at *; generalize hli : nd.its.length = li at *; generalize hlk : nd.ks.length = lk at *; generalize hld : nd.kids.length = ld at *
  clear hnl hli hlk hld
  go_wp2_with fail
  rw [← HW2.out, ← HA.out]
  clear HW2 HA
  refine wp_region_heldD (S := (fun w' => w'.cell? ⟨p, 4, none⟩ = some (.func (.func 18) #[.pointer (some ⟨g, 0, none⟩)] #[]) ∧ w'.cell? ⟨A, 0, none⟩ = some (.bool nl) ∧ w'.cell? ⟨A, 1, none⟩ = some (.slice pi li ci) ∧ w'.cell? ⟨A, 2, none⟩ = some (.slice pk lk ck) ∧ w'.cell? ⟨A, 3, none⟩ = some (.slice pd ld cd) ∧ w'.cell? ⟨p, 5, none⟩ = some (.pointer none))) (by kernel_rfl) ?_
  have hL1 := HL0.out.below ((Below.refl W2.heap.size W2).drew)
  have hHeld : (fun w' => w'.cell? ⟨p, 4, none⟩ = some (.func (.func 18) #[.pointer (some ⟨g, 0, none⟩)] #[]) ∧ w'.cell? ⟨A, 0, none⟩ = some (.bool nl) ∧ w'.cell? ⟨A, 1, none⟩ = some (.slice pi li ci) ∧ w'.cell? ⟨A, 2, none⟩ = some (.slice pk lk ck) ∧ w'.cell? ⟨A, 3, none⟩ = some (.slice pd ld cd) ∧ w'.cell? ⟨p, 5, none⟩ = some (.pointer none)) W2.drew := ⟨cells_of (hL1).row.cells 4, cells_of (hL1).box 0, cells_of (hL1).box 1, cells_of (hL1).box 2, cells_of (hL1).box 3, cells_of (hL1).row.cells 5⟩
  refine wpAnyH_takeAt 0 15 ((.pointer (some ⟨p, 0, none⟩))) rfl rfl (by kernel_rfl) (by kernel_rfl) (by kernel_rfl) (fun _ _ _ h => h) (Or.inl ⟨by rfl, fun w h => by (try dsimp only at h); (try go_split_ands); go_simp⟩) hHeld ?_
  try simp only [Act.put, arr0, arr1, arr2]
  refine wpAnyH_takeAt 1 16 ((.pointer (some ⟨p, 0, none⟩))) rfl rfl (by kernel_rfl) (by kernel_rfl) (by kernel_rfl) (fun _ _ _ h => h) (Or.inl ⟨by rfl, fun w h => by (try dsimp only at h); (try go_split_ands); go_simp⟩) hHeld ?_
  try simp only [Act.put, arr0, arr1, arr2]
  refine wpAnyH_takeAt 2 17 ((.pointer (some ⟨p, 4, none⟩))) rfl rfl (by kernel_rfl) (by kernel_rfl) (by kernel_rfl) (fun _ _ _ h => h) (Or.inl ⟨by rfl, fun w h => by (try dsimp only at h); (try go_split_ands); go_simp⟩) hHeld ?_
  try simp only [Act.put, arr0, arr1, arr2]
  refine wpAnyH_takeAt 3 18 ((.func (.func 18) #[.pointer (some ⟨g, 0, none⟩)] #[])) rfl rfl (by kernel_rfl) (by kernel_rfl) (by kernel_rfl) (fun _ _ _ h => h) (Or.inl ⟨by rfl, fun w h => by (try dsimp only at h); (try go_split_ands); go_simp⟩) hHeld ?_
  try simp only [Act.put, arr0, arr1, arr2]
  refine wpAnyH_takeAt 4 19 (.agg #[.bool nl, .slice pi li ci, .slice pk lk ck, .slice pd ld cd]) rfl rfl (by kernel_rfl) (by kernel_rfl) (by kernel_rfl) (fun _ _ _ h => h) (Or.inl ⟨by rfl, fun w h => by (try dsimp only at h); (try go_split_ands); go_simp⟩) hHeld ?_
  try simp only [Act.put, arr0, arr1, arr2]
  refine wpAnyH_one 5 (by kernel_rfl) (fun K hK => ?_)
  refine wpOp_as rfl rfl 20 (.call { callee := .value (.func 64), args := #[.tmp 19], argTypes := #[93] }) 31 rfl rfl rfl ?_
  obtain ⟨_, _, _, _, _, _, hnd1⟩ := hL1.nd.nd
  have HPU := Lib.hid (put_any hnd1)
  go_simp
  go_at_call 64
  refine HPU.out.mono ?_
  rintro e3 w3 ⟨v3, rfl, o3, b3⟩
  have hL3 := hL1.below b3
  have hF3 : BkF R C lf W g a own w3 := (HF2.out.stay ((Below.refl W2.heap.size W2).drew)).stay b3
  have hB3 : Bytes w3 v3 (putNd nd) := HPO.out w3 v3 (owns_base o3 (Nat.le_trans hL1.tn.size (Nat.le_refl _))) (.inr trivial) HNF.out
  obtain ⟨q3, d3, rfl, -⟩ := hB3.any
  have HAC := Lib.hid (HAP.out _ _ hF3 hB3)
  refine hK _ _ ⟨cells_of (hL3).row.cells 4, cells_of (hL3).box 0, cells_of (hL3).box 1, cells_of (hL3).box 2, cells_of (hL3).box 3, cells_of (hL3).row.cells 5⟩ (fun hHeld => ?_)
  clear hK K HPU hnd1 o3 b3
  try simp only [Act.put, arr0, arr1, arr2]
  have HL3 := Lib.hid hL3
  clear hL3 hL1 hF3 hB3
  refine wpAnyH_one 6 (by kernel_rfl) (fun K hK => ?_)
  refine wpOp_as rfl rfl 21 (.call { callee := .value (.tmp 18), args := #[.const (.int .u8 2), .tmp 20], argTypes := #[5, 31] }) 84 rfl rfl rfl ?_
  go_simp
  go_at_call 18
  refine HAC.out.mono ?_
  rintro e4 w4 (⟨rfl, own4, lf4, hl4, ht4, hF4⟩ | ⟨hl0, rfl, own4, ht4⟩)
  · have hL4 := HL3.out.go ht4
    refine hK _ _ ⟨cells_of (hL4).row.cells 4, cells_of (hL4).box 0, cells_of (hL4).box 1, cells_of (hL4).box 2, cells_of (hL4).box 3, cells_of (hL4).row.cells 5⟩ (fun hHeld => ?_)
    clear hK K HAC
    try simp only [Act.put, arr0, arr1, arr2]
    refine wpAnyH_takeAt 7 14 (.tuple #[.int .i64 (256 + C.length : Nat), .int .i64 0]) rfl rfl (by kernel_rfl) (by kernel_rfl) (by kernel_rfl) (fun _ _ _ h => h) (Or.inl ⟨by rfl, fun w h => by (try dsimp only at h); (try go_split_ands); go_simp⟩) hHeld ?_
    try simp only [Act.put, arr0, arr1, arr2]
    refine wpAnyH_takeAt 8 22 (.int .i64 (256 + C.length : Nat)) rfl rfl (by kernel_rfl) (by kernel_rfl) (by kernel_rfl) (fun _ _ _ h => h) (Or.inl ⟨by rfl, fun w h => by (try dsimp only at h); (try go_split_ands); go_simp⟩) hHeld ?_
    try simp only [Act.put, arr0, arr1, arr2]
    refine wpAnyH_takeAt 9 23 (.int .i64 0) rfl rfl (by kernel_rfl) (by kernel_rfl) (by kernel_rfl) (fun _ _ _ h => h) (Or.inl ⟨by rfl, fun w h => by (try dsimp only at h); (try go_split_ands); go_simp⟩) hHeld ?_
    try simp only [Act.put, arr0, arr1, arr2]
    refine wpAnyH_takeAt 10 6 (.int .i64 (256 + C.length : Nat)) rfl rfl (by kernel_rfl) (by kernel_rfl) (by kernel_rfl) (fun _ _ _ h => h) (Or.inl ⟨by rfl, fun w h => by (try dsimp only at h); (try go_split_ands); go_simp⟩) hHeld ?_
    try simp only [Act.put, arr0, arr1, arr2]
    refine wpAnyH_takeAt 11 7 (.int .i64 0) rfl rfl (by kernel_rfl) (by kernel_rfl) (by kernel_rfl) (fun _ _ _ h => h) (Or.inl ⟨by rfl, fun w h => by (try dsimp only at h); (try go_split_ands); go_simp⟩) hHeld ?_
    try simp only [Act.put, arr0, arr1, arr2]
    refine wpAnyH_done (by kernel_rfl) ?_ _
    have HL4 := Lib.hid hL4; have HF4 := Lib.hid hF4; have HLZ := Lib.hid hl4
    have n5 : w4.cell? ⟨p, 5, none⟩ = some (.pointer none) := cells_of hL4.row.cells 5
    have n4 : w4.cell? ⟨p, 4, none⟩ = some (.func (.func 18) #[.pointer (some ⟨g, 0, none⟩)] #[]) := cells_of hL4.row.cells 4
    clear hL4 hF4 hl4 ht4 hHeld
    go_wp2_with fail
    refine (rowOfKids_bk g w4).mono ?_
    rintro e5 w5 ⟨q, rfl, hq, hc5, hb5⟩
    have hL5 := HL4.out.grow (fun k hk => HF4.out.new_none hk) HF4.out.glt.1 HF4.out.glt.2.2 hq hc5 hb5
    have n55 : w5.cell? ⟨p, 5, none⟩ = some (.pointer none) := cells_of (HL4.out.below hb5).row.cells 5
    have f55 := free_of (HL4.out.below hb5).row.cells 5
    have hF5 : BkF R (C ++ recOf 2 (putNd nd)) lf4 W g a own4 (w5.setCell ⟨p, 5, none⟩ (.pointer (some ⟨q, 0, none⟩))) := (HF4.out.stay hb5).only (Only.set p 5 w5 _) (let h9 := (HL4.out.below hb5).fr p (by simp); ⟨h9.1, h9.2.1, h9.2.2.1⟩)
    have HQ : Hid (∀ k ∈ [q], k ∈ ([] : List Nat) ∨ w.heap.size ≤ k) := fun k hk => .inr (by obtain rfl := List.mem_singleton.1 hk; exact Nat.le_trans HL4.out.tn.size hq)
    obtain ⟨W6, hW6⟩ : ∃ W6, W6 = w5.setCell ⟨p, 5, none⟩ (.pointer (some ⟨q, 0, none⟩)) := ⟨_, rfl⟩
    rw [← hW6] at hL5 hF5
    have HL5 := Lib.hid hL5; have HF5 := Lib.hid hF5; have HW6 := Lib.hid hW6
    clear hL5 hF5 hW6 hc5 hb5 hq n5 n4 HL4 HF4
    go_wp2_with fail
    rw [← HW6.out]
    clear HW6 n55 f55
    refine wp_region_heldD (S := (fun w' => w'.cell? ⟨p, 4, none⟩ = some (.func (.func 18) #[.pointer (some ⟨g, 0, none⟩)] #[]) ∧ w'.cell? ⟨A, 0, none⟩ = some (.bool nl) ∧ w'.cell? ⟨A, 1, none⟩ = some (.slice pi li ci) ∧ w'.cell? ⟨A, 2, none⟩ = some (.slice pk lk ck) ∧ w'.cell? ⟨A, 3, none⟩ = some (.slice pd ld cd) ∧ w'.cell? ⟨p, 5, none⟩ = some (.pointer (some ⟨q, 0, none⟩)))) (by kernel_rfl) ?_
    have hL6 := HL5.out.below ((Below.refl W6.heap.size W6).drew)
    have hHeld : (fun w' => w'.cell? ⟨p, 4, none⟩ = some (.func (.func 18) #[.pointer (some ⟨g, 0, none⟩)] #[]) ∧ w'.cell? ⟨A, 0, none⟩ = some (.bool nl) ∧ w'.cell? ⟨A, 1, none⟩ = some (.slice pi li ci) ∧ w'.cell? ⟨A, 2, none⟩ = some (.slice pk lk ck) ∧ w'.cell? ⟨A, 3, none⟩ = some (.slice pd ld cd) ∧ w'.cell? ⟨p, 5, none⟩ = some (.pointer (some ⟨q, 0, none⟩))) W6.drew := ⟨cells_of (hL6).row.cells 4, cells_of (hL6).box 0, cells_of (hL6).box 1, cells_of (hL6).box 2, cells_of (hL6).box 3, cells_of (hL6).row.cells 5⟩
    refine wpAnyH_takeAt 0 40 ((.pointer (some ⟨p, 0, none⟩))) rfl rfl (by kernel_rfl) (by kernel_rfl) (by kernel_rfl) (fun _ _ _ h => h) (Or.inl ⟨by rfl, fun w h => by (try dsimp only at h); (try go_split_ands); go_simp⟩) hHeld ?_
    try simp only [Act.put, arr0, arr1, arr2]
    refine wpAnyH_takeAt 1 41 ((.pointer (some ⟨p, 0, none⟩))) rfl rfl (by kernel_rfl) (by kernel_rfl) (by kernel_rfl) (fun _ _ _ h => h) (Or.inl ⟨by rfl, fun w h => by (try dsimp only at h); (try go_split_ands); go_simp⟩) hHeld ?_
    try simp only [Act.put, arr0, arr1, arr2]
    refine wpAnyH_takeAt 2 42 ((.pointer (some ⟨p, 5, none⟩))) rfl rfl (by kernel_rfl) (by kernel_rfl) (by kernel_rfl) (fun _ _ _ h => h) (Or.inl ⟨by rfl, fun w h => by (try dsimp only at h); (try go_split_ands); go_simp⟩) hHeld ?_
    try simp only [Act.put, arr0, arr1, arr2]
    refine wpAnyH_takeAt 3 43 ((.pointer (some ⟨q, 0, none⟩))) rfl rfl (by kernel_rfl) (by kernel_rfl) (by kernel_rfl) (fun _ _ _ h => h) (Or.inl ⟨by rfl, fun w h => by (try dsimp only at h); (try go_split_ands); go_simp⟩) hHeld ?_
    try simp only [Act.put, arr0, arr1, arr2]
    refine wpAnyH_takeAt 4 44 (.agg #[.bool nl, .slice pi li ci, .slice pk lk ck, .slice pd ld cd]) rfl rfl (by kernel_rfl) (by kernel_rfl) (by kernel_rfl) (fun _ _ _ h => h) (Or.inl ⟨by rfl, fun w h => by (try dsimp only at h); (try go_split_ands); go_simp⟩) hHeld ?_
    try simp only [Act.put, arr0, arr1, arr2]
    refine wpAnyH_takeAt 6 46 ((.int .i64 (256 + C.length : Nat))) rfl rfl (by kernel_rfl) (by kernel_rfl) (by kernel_rfl) (fun _ _ _ h => h) (Or.inl ⟨by rfl, fun w h => by (try dsimp only at h); (try go_split_ands); go_simp⟩) hHeld ?_
    try simp only [Act.put, arr0, arr1, arr2]
    refine wpAnyH_takeAt 7 47 (.agg #[.bool nl, .slice pi li ci, .slice pk lk ck, .slice pd ld cd]) rfl rfl (by kernel_rfl) (by kernel_rfl) (by kernel_rfl) (fun _ _ _ h => h) (Or.inl ⟨by rfl, fun w h => by (try dsimp only at h); (try go_split_ands); go_simp⟩) hHeld ?_
    try simp only [Act.put, arr0, arr1, arr2]
    obtain ⟨_, _, _, _, _, _, hnd6⟩ := hL6.nd.nd
    have HLE := Lib.hid (least_any hnd6 (by rw [← HK.out]; exact HK1.out))
    clear hnd6
    refine wpAnyH_one 5 (by kernel_rfl) (fun K hK => ?_)
    refine wpOp_as rfl rfl 45 (.call { callee := .value (.func 67), args := #[.tmp 44], argTypes := #[93] }) 31 rfl rfl rfl ?_
    go_simp
    go_at_call 67
    refine HLE.out.mono ?_
    rintro e7 w7 ⟨v7, rfl, o7, b7⟩
    have hL7 := hL6.below b7
    have hF7 : BkF R (C ++ recOf 2 (putNd nd)) lf4 W g a own4 w7 := (HF5.out.stay ((Below.refl W6.heap.size W6).drew)).stay b7
    have hK7 : TxtO own4 w7 v7 e.k := by rw [HK.out]; exact TxtO.of_new o7 (lst_small HNF.out) (by rw [← HK.out]; have := HK1.out; unfold maxLen; omega) (fun k hk => HF5.out.new_none hk)
    obtain ⟨q7, d7, rfl, -⟩ := hK7.bytes.any
    obtain ⟨_, _, _, _, _, _, hnd7⟩ := hL7.nd.nd
    have HCO := Lib.hid (count_any hnd7 HSUM.out)
    refine hK _ _ ⟨cells_of (hL7).row.cells 4, cells_of (hL7).box 0, cells_of (hL7).box 1, cells_of (hL7).box 2, cells_of (hL7).box 3, cells_of (hL7).row.cells 5⟩ (fun hHeld => ?_)
    clear hK K HLE hnd7 o7 b7
    try simp only [Act.put, arr0, arr1, arr2]
    refine wpAnyH_one 8 (by kernel_rfl) (fun K hK => ?_)
    refine wpOp_as rfl rfl 48 (.call { callee := .value (.func 68), args := #[.tmp 47], argTypes := #[93] }) 37 rfl rfl rfl ?_
    go_simp
    go_at_call 68
    refine HCO.out.mono ?_
    rintro e8 w8 ⟨rfl, b8⟩
    have hL8 := hL7.below b8
    have hF8 := hF7.stay b8
    have hK8 : TxtO own4 w8 (.slice q7 e.k.length d7) e.k := hK7.turns (F := []) (g := g) (Turns.below b8)
    obtain ⟨kq, dq, uq, Fq, hFq, hst⟩ := hL8.ch.st6
    have HFq := Lib.hid hFq
    clear hFq
    have HTK := Lib.hid (HT.out own4 w8 q kq dq uq Fq _ lf4 e _ hst hF8 (Nat.lt_of_le_of_lt HLZ.out HLF.out) hK8 HK1.out (by rw [HO.out]; have := HC1.out.1; omega) HB.out)
    refine hK _ _ ⟨cells_of (hL8).row.cells 4, cells_of (hL8).box 0, cells_of (hL8).box 1, cells_of (hL8).box 2, cells_of (hL8).box 3, cells_of (hL8).row.cells 5⟩ (fun hHeld => ?_)
    clear hK K HCO b8
    try simp only [Act.put, arr0, arr1, arr2]
    refine wpAnyH_takeAt 9 49 (.agg #[.int .i64 (256 + C.length : Nat), .int .u64 (cnt nd : Nat)]) rfl rfl (by kernel_rfl) (by kernel_rfl) (by kernel_rfl) (fun _ _ _ h => h) (Or.inl ⟨by rfl, fun w h => by (try dsimp only at h); (try go_split_ands); go_simp⟩) hHeld ?_
    try simp only [Act.put, arr0, arr1, arr2]
    rw [HO.out, HCT.out] at HTK
    refine wpAnyH_one 10 (by kernel_rfl) (fun K hK => ?_)
    refine wpOp_as rfl rfl 50 (.call { callee := .value (.func 66), args := #[.tmp 43, .tmp 45, .tmp 49], argTypes := #[52, 31, 39] }) 35 rfl rfl rfl ?_
    go_simp
    go_at_call 66
    refine HTK.out.mono ?_
    rintro e9 w9 ⟨v9, rfl, h9⟩
    have HFIN := Lib.hid (lay_end (F0 := []) hL8 HQ.out HLZ.out (by first | exact HV0.out | exact fun _ => HV0.out trivial) HFq.out (lv := lv) (by rw [HLV.out]; exact h9))
    have hkp := lay_keep hL8 HFq.out h9
    refine hK _ _ ⟨cells_of (hkp.1.trans hL8.row.cells) 4, cells_of (hkp.2.trans hL8.box) 0, cells_of (hkp.2.trans hL8.box) 1, cells_of (hkp.2.trans hL8.box) 2, cells_of (hkp.2.trans hL8.box) 3, cells_of (hkp.1.trans hL8.row.cells) 5⟩ (fun hHeld => ?_)
    clear hK K HTK h9
    try simp only [Act.put, arr0, arr1, arr2]
    refine wpAnyH_takeAt 11 4 (.int .i64 v9) rfl rfl (by kernel_rfl) (by kernel_rfl) (by kernel_rfl) (fun _ _ _ h => h) (Or.inl ⟨by rfl, fun w h => by (try dsimp only at h); (try go_split_ands); go_simp⟩) hHeld ?_
    try simp only [Act.put, arr0, arr1, arr2]
    refine wpAnyH_done (by kernel_rfl) ?_ _
    clear hHeld hL6 hL7 hL8 hF7 hF8 hK7 hK8 hst hkp
    go_wp2
    go_ret
    exact ⟨v9, rfl, by have := HFIN.out; simp only [List.append_nil] at this; exact this⟩
  · have hL4 := HL3.out.go ht4
    refine hK _ _ ⟨cells_of (hL4).row.cells 4, cells_of (hL4).box 0, cells_of (hL4).box 1, cells_of (hL4).box 2, cells_of (hL4).box 3, cells_of (hL4).row.cells 5⟩ (fun hHeld => ?_)
    clear hK K HAC
    try simp only [Act.put, arr0, arr1, arr2]
    refine wpAnyH_takeAt 7 14 (.tuple #[.int .i64 0, .int .i64 5]) rfl rfl (by kernel_rfl) (by kernel_rfl) (by kernel_rfl) (fun _ _ _ h => h) (Or.inl ⟨by rfl, fun w h => by (try dsimp only at h); (try go_split_ands); go_simp⟩) hHeld ?_
    try simp only [Act.put, arr0, arr1, arr2]
    refine wpAnyH_takeAt 8 22 (.int .i64 0) rfl rfl (by kernel_rfl) (by kernel_rfl) (by kernel_rfl) (fun _ _ _ h => h) (Or.inl ⟨by rfl, fun w h => by (try dsimp only at h); (try go_split_ands); go_simp⟩) hHeld ?_
    try simp only [Act.put, arr0, arr1, arr2]
    refine wpAnyH_takeAt 9 23 (.int .i64 5) rfl rfl (by kernel_rfl) (by kernel_rfl) (by kernel_rfl) (fun _ _ _ h => h) (Or.inl ⟨by rfl, fun w h => by (try dsimp only at h); (try go_split_ands); go_simp⟩) hHeld ?_
    try simp only [Act.put, arr0, arr1, arr2]
    refine wpAnyH_takeAt 10 6 (.int .i64 0) rfl rfl (by kernel_rfl) (by kernel_rfl) (by kernel_rfl) (fun _ _ _ h => h) (Or.inl ⟨by rfl, fun w h => by (try dsimp only at h); (try go_split_ands); go_simp⟩) hHeld ?_
    try simp only [Act.put, arr0, arr1, arr2]
    refine wpAnyH_takeAt 11 7 (.int .i64 5) rfl rfl (by kernel_rfl) (by kernel_rfl) (by kernel_rfl) (fun _ _ _ h => h) (Or.inl ⟨by rfl, fun w h => by (try dsimp only at h); (try go_split_ands); go_simp⟩) hHeld ?_
    try simp only [Act.put, arr0, arr1, arr2]
    refine wpAnyH_done (by kernel_rfl) ?_ _
    have HFIN := Lib.hid (lay_fail (R := R) (C' := lv.1) (a := a) (its' := its') (lv' := es' :: lv.2) (it := false) hL4 hl0)
    clear hHeld hL4 ht4
    go_wp2
    go_ret
    exact ⟨5, rfl, by have := HFIN.out; simp only [List.append_nil] at this; exact this⟩
set_option maxRecDepth 100000 in
set_option maxHeartbeats 4000000 in
theorem lay_items_mid {R : Int} {C : List Nat} {lf a : Nat} {own : Own} {W : World} {g : Nat} {w : World} {p q : Nat} {vi kv dv : Value} {its its' : List NIt} {es es' : List KE} {es0 : List KE} {rest0 : List (List KE)} {F : List Nat} {n : Nat} {nd : Nd} {e : KE}
    (hs : St6 own W g w p true vi kv dv (.pointer (some ⟨q, 0, none⟩)) its es (es0 :: rest0) F) (hf : BkF R C lf W g a own w) (hlf : lf < 1000000) (hcut : Calls Try.prog 31 #[.pointer (some ⟨p, 0, none⟩), .int .i64 (n : Nat)] w (CutBy own g p true vi kv dv (.pointer (some ⟨q, 0, none⟩)) its' es' nd w))
    (hk : e.k = lst nd) (hk1 : e.k.length ≤ 1000) (ho : e.d.off = (256 + C.length : Nat)) (hct : e.d.ct = cnt nd) (hsum : sumCt nd.kids ≤ 17592186044416) (hv0 : true = false → vi = .slice none 0 0)
    (hT : TakeSpec R W g a es0 rest0) (hB : Bd R (es0 :: rest0) (takeK (C ++ recOf 2 (putNd nd)) (es0 :: rest0) e).1 e.d.ct) :
    Calls Try.prog 41 #[.pointer (some ⟨p, 0, none⟩), .int .i64 (n : Nat)] w (Ret (Told R (takeK (C ++ recOf 2 (putNd nd)) (es0 :: rest0) e).1 lf W g a own p true (p :: (blk vi ++ (blk kv ++ (blk dv ++ F)))) its' (es' :: (takeK (C ++ recOf 2 (putNd nd)) (es0 :: rest0) e).2) w)) := by
  obtain ⟨lv, hlv⟩ : ∃ lv, lv = takeK (C ++ recOf 2 (putNd nd)) (es0 :: rest0) e := ⟨_, rfl⟩
  have hCl : C.length ≤ 1000000 ∧ (C ++ recOf 2 (putNd nd)).length ≤ lv.1.length := by
    have h1 := takeK_more (es0 :: rest0) (C ++ recOf 2 (putNd nd)) e
    have h2 := hB.len
    rw [hlv]
    rw [List.length_append] at h1
    refine ⟨by omega, ?_⟩
    rw [List.length_append]; exact h1
  have hpl : (putNd nd).length ≤ 1300 := putNd_length nd
  have hglt := hf.glt
  have HNEW : Hid (∀ k, w.heap.size ≤ k → own k = none) := fun k hk => hf.new_none hk
  have hroom := hB.room
  have HSt := Lib.hid hs; have HCUT := Lib.hid hcut
  have hcr : (recOf 2 (putNd nd)).length = 9 + (putNd nd).length := recOf_length ..
  have HAP : Hid (∀ wx (bv : Value), BkF R C lf W g a own wx → Bytes wx bv (putNd nd) → Calls Try.prog 18 #[.pointer (some ⟨g, 0, none⟩), .int .u8 2, bv] wx (Appd R C lf W g a own 2 (putNd nd) wx)) := fun wx bv hx hb => app_bk hx (by rw [← hlv] at hroom; rw [List.length_append] at hCl; have := hCl.2; omega) hCl.1 hlf (by decide) hb (by omega)
  have HPO : Hid (∀ wx vv, wx.ownsRow w.heap.size 5 1 vv (putNd nd).length (cellsOf (putNd nd)) → NdT own w (.agg #[]) nd vi kv dv ∨ True → NdFine nd → Bytes wx vv (putNd nd)) := fun wx vv hb _ hfn => Bytes.of_owns hb (putNd_small hfn) (by unfold maxLen; omega)
  have c3 : w.cell? ⟨p, 3, none⟩ = some (.func (.func 31) #[.pointer (some ⟨p, 0, none⟩)] #[]) := cells_of hs.row.cells 3
  have HF := Lib.hid hf; have HLF := Lib.hid hlf; have HT := Lib.hid hT; have HB := Lib.hid hB; have HLV := Lib.hid hlv; have HK := Lib.hid hk; have HK1 := Lib.hid hk1; have HO := Lib.hid ho; have HCT := Lib.hid hct; have HSUM := Lib.hid hsum; have HC1 := Lib.hid hCl; have HV0 := Lib.hid hv0; have HG := Lib.hid hglt
  rw [← hlv]
  clear hs hf hlf hcut hk hk1 ho hct hsum hT hB hlv hv0 hCl hpl hglt hroom hcr
  go_enter Try.func41, Try.ntmps41
  go_wp2_with fail
  refine HCUT.out.mono ?_
  rintro z w1 ⟨nv, vi', kv', dv', rfl, hr1, hn1, ho1, he1, he2, he3, hv1⟩
  obtain ⟨pi, ci, pk, ck, pd, cd, rfl⟩ := ndt_val hn1
  have hL0 := LaySt.start HSt.out HNEW.out HG.out.1 hr1 hn1 ho1 ⟨he1, he2, he3⟩ hv1
  have HNF : Hid (NdFine nd) := by obtain ⟨_, _, _, _, _, _, hh⟩ := hn1.nd; exact hh.fine
  have hF1 : BkF R C lf W g a own w1 := HF.out.only ho1 (let h9 := HSt.out.fr p (by simp); ⟨h9.1, h9.2.1, h9.2.2.1⟩)
  obtain ⟨A, hA⟩ : ∃ A, A = w1.heap.size := ⟨_, rfl⟩
  obtain ⟨W2, hW2⟩ : ∃ W2, W2 = w1.alloc (.cells #[.bool nd.leaf, .slice pi nd.its.length ci, .slice pk nd.ks.length ck, .slice pd nd.kids.length cd] 93) := ⟨_, rfl⟩
  rw [← hA, ← hW2] at hL0
  have hF2 : BkF R C lf W g a own W2 := by rw [hW2]; exact hF1.stay ((Below.refl _ _).alloc (Nat.le_refl _) _)
  have HL0 := Lib.hid hL0; have HF2 := Lib.hid hF2; have HW2 := Lib.hid hW2; have HA := Lib.hid hA
  clear hL0 hF2 hF1 hW2 hA hr1 hn1 ho1 he1 he2 he3 hv1 c3 HCUT HF
  generalize hnl : nd.leaf = nl at *; generalize hli : nd.its.length = li at *; generalize hlk : nd.ks.length = lk at *; generalize hld : nd.kids.length = ld at *
  clear hnl hli hlk hld
  go_wp2_with fail
  rw [← HW2.out, ← HA.out]
  clear HW2 HA
  refine wp_region_heldD (S := (fun w' => w'.cell? ⟨p, 4, none⟩ = some (.func (.func 18) #[.pointer (some ⟨g, 0, none⟩)] #[]) ∧ w'.cell? ⟨A, 0, none⟩ = some (.bool nl) ∧ w'.cell? ⟨A, 1, none⟩ = some (.slice pi li ci) ∧ w'.cell? ⟨A, 2, none⟩ = some (.slice pk lk ck) ∧ w'.cell? ⟨A, 3, none⟩ = some (.slice pd ld cd) ∧ w'.cell? ⟨p, 5, none⟩ = some (.pointer (some ⟨q, 0, none⟩)))) (by kernel_rfl) ?_
  have hL1 := HL0.out.below ((Below.refl W2.heap.size W2).drew)
  have hHeld : (fun w' => w'.cell? ⟨p, 4, none⟩ = some (.func (.func 18) #[.pointer (some ⟨g, 0, none⟩)] #[]) ∧ w'.cell? ⟨A, 0, none⟩ = some (.bool nl) ∧ w'.cell? ⟨A, 1, none⟩ = some (.slice pi li ci) ∧ w'.cell? ⟨A, 2, none⟩ = some (.slice pk lk ck) ∧ w'.cell? ⟨A, 3, none⟩ = some (.slice pd ld cd) ∧ w'.cell? ⟨p, 5, none⟩ = some (.pointer (some ⟨q, 0, none⟩))) W2.drew := ⟨cells_of (hL1).row.cells 4, cells_of (hL1).box 0, cells_of (hL1).box 1, cells_of (hL1).box 2, cells_of (hL1).box 3, cells_of (hL1).row.cells 5⟩
  refine wpAnyH_takeAt 0 15 ((.pointer (some ⟨p, 0, none⟩))) rfl rfl (by kernel_rfl) (by kernel_rfl) (by kernel_rfl) (fun _ _ _ h => h) (Or.inl ⟨by rfl, fun w h => by (try dsimp only at h); (try go_split_ands); go_simp⟩) hHeld ?_
  try simp only [Act.put, arr0, arr1, arr2]
  refine wpAnyH_takeAt 1 16 ((.pointer (some ⟨p, 0, none⟩))) rfl rfl (by kernel_rfl) (by kernel_rfl) (by kernel_rfl) (fun _ _ _ h => h) (Or.inl ⟨by rfl, fun w h => by (try dsimp only at h); (try go_split_ands); go_simp⟩) hHeld ?_
  try simp only [Act.put, arr0, arr1, arr2]
  refine wpAnyH_takeAt 2 17 ((.pointer (some ⟨p, 4, none⟩))) rfl rfl (by kernel_rfl) (by kernel_rfl) (by kernel_rfl) (fun _ _ _ h => h) (Or.inl ⟨by rfl, fun w h => by (try dsimp only at h); (try go_split_ands); go_simp⟩) hHeld ?_
  try simp only [Act.put, arr0, arr1, arr2]
  refine wpAnyH_takeAt 3 18 ((.func (.func 18) #[.pointer (some ⟨g, 0, none⟩)] #[])) rfl rfl (by kernel_rfl) (by kernel_rfl) (by kernel_rfl) (fun _ _ _ h => h) (Or.inl ⟨by rfl, fun w h => by (try dsimp only at h); (try go_split_ands); go_simp⟩) hHeld ?_
  try simp only [Act.put, arr0, arr1, arr2]
  refine wpAnyH_takeAt 4 19 (.agg #[.bool nl, .slice pi li ci, .slice pk lk ck, .slice pd ld cd]) rfl rfl (by kernel_rfl) (by kernel_rfl) (by kernel_rfl) (fun _ _ _ h => h) (Or.inl ⟨by rfl, fun w h => by (try dsimp only at h); (try go_split_ands); go_simp⟩) hHeld ?_
  try simp only [Act.put, arr0, arr1, arr2]
  refine wpAnyH_one 5 (by kernel_rfl) (fun K hK => ?_)
  refine wpOp_as rfl rfl 20 (.call { callee := .value (.func 64), args := #[.tmp 19], argTypes := #[93] }) 31 rfl rfl rfl ?_
  obtain ⟨_, _, _, _, _, _, hnd1⟩ := hL1.nd.nd
  have HPU := Lib.hid (put_any hnd1)
  go_simp
  go_at_call 64
  refine HPU.out.mono ?_
  rintro e3 w3 ⟨v3, rfl, o3, b3⟩
  have hL3 := hL1.below b3
  have hF3 : BkF R C lf W g a own w3 := (HF2.out.stay ((Below.refl W2.heap.size W2).drew)).stay b3
  have hB3 : Bytes w3 v3 (putNd nd) := HPO.out w3 v3 (owns_base o3 (Nat.le_trans hL1.tn.size (Nat.le_refl _))) (.inr trivial) HNF.out
  obtain ⟨q3, d3, rfl, -⟩ := hB3.any
  have HAC := Lib.hid (HAP.out _ _ hF3 hB3)
  refine hK _ _ ⟨cells_of (hL3).row.cells 4, cells_of (hL3).box 0, cells_of (hL3).box 1, cells_of (hL3).box 2, cells_of (hL3).box 3, cells_of (hL3).row.cells 5⟩ (fun hHeld => ?_)
  clear hK K HPU hnd1 o3 b3
  try simp only [Act.put, arr0, arr1, arr2]
  have HL3 := Lib.hid hL3
  clear hL3 hL1 hF3 hB3
  refine wpAnyH_one 6 (by kernel_rfl) (fun K hK => ?_)
  refine wpOp_as rfl rfl 21 (.call { callee := .value (.tmp 18), args := #[.const (.int .u8 2), .tmp 20], argTypes := #[5, 31] }) 84 rfl rfl rfl ?_
  go_simp
  go_at_call 18
  refine HAC.out.mono ?_
  rintro e4 w4 (⟨rfl, own4, lf4, hl4, ht4, hF4⟩ | ⟨hl0, rfl, own4, ht4⟩)
  · have hL4 := HL3.out.go ht4
    refine hK _ _ ⟨cells_of (hL4).row.cells 4, cells_of (hL4).box 0, cells_of (hL4).box 1, cells_of (hL4).box 2, cells_of (hL4).box 3, cells_of (hL4).row.cells 5⟩ (fun hHeld => ?_)
    clear hK K HAC
    try simp only [Act.put, arr0, arr1, arr2]
    refine wpAnyH_takeAt 7 14 (.tuple #[.int .i64 (256 + C.length : Nat), .int .i64 0]) rfl rfl (by kernel_rfl) (by kernel_rfl) (by kernel_rfl) (fun _ _ _ h => h) (Or.inl ⟨by rfl, fun w h => by (try dsimp only at h); (try go_split_ands); go_simp⟩) hHeld ?_
    try simp only [Act.put, arr0, arr1, arr2]
    refine wpAnyH_takeAt 8 22 (.int .i64 (256 + C.length : Nat)) rfl rfl (by kernel_rfl) (by kernel_rfl) (by kernel_rfl) (fun _ _ _ h => h) (Or.inl ⟨by rfl, fun w h => by (try dsimp only at h); (try go_split_ands); go_simp⟩) hHeld ?_
    try simp only [Act.put, arr0, arr1, arr2]
    refine wpAnyH_takeAt 9 23 (.int .i64 0) rfl rfl (by kernel_rfl) (by kernel_rfl) (by kernel_rfl) (fun _ _ _ h => h) (Or.inl ⟨by rfl, fun w h => by (try dsimp only at h); (try go_split_ands); go_simp⟩) hHeld ?_
    try simp only [Act.put, arr0, arr1, arr2]
    refine wpAnyH_takeAt 10 6 (.int .i64 (256 + C.length : Nat)) rfl rfl (by kernel_rfl) (by kernel_rfl) (by kernel_rfl) (fun _ _ _ h => h) (Or.inl ⟨by rfl, fun w h => by (try dsimp only at h); (try go_split_ands); go_simp⟩) hHeld ?_
    try simp only [Act.put, arr0, arr1, arr2]
    refine wpAnyH_takeAt 11 7 (.int .i64 0) rfl rfl (by kernel_rfl) (by kernel_rfl) (by kernel_rfl) (fun _ _ _ h => h) (Or.inl ⟨by rfl, fun w h => by (try dsimp only at h); (try go_split_ands); go_simp⟩) hHeld ?_
    try simp only [Act.put, arr0, arr1, arr2]
    refine wpAnyH_done (by kernel_rfl) ?_ _
    have HL4 := Lib.hid hL4; have HF4 := Lib.hid hF4; have HLZ := Lib.hid hl4
    have n5 : w4.cell? ⟨p, 5, none⟩ = some (.pointer (some ⟨q, 0, none⟩)) := cells_of hL4.row.cells 5
    clear hL4 hF4 hl4 ht4 hHeld
    have HQ : Hid (∀ k ∈ F, k ∈ F ∨ w.heap.size ≤ k) := fun k hk => .inl hk
    have HL5 := HL4; have HF5 := HF4
    obtain ⟨W6, hW6⟩ : ∃ W6, W6 = w4 := ⟨_, rfl⟩
    rw [← hW6] at HL5 HF5
    have HW6 := Lib.hid hW6
    clear hW6 HL4 HF4
    go_wp2_with fail
    rw [← HW6.out]
    clear HW6 n5
    refine wp_region_heldD (S := (fun w' => w'.cell? ⟨p, 4, none⟩ = some (.func (.func 18) #[.pointer (some ⟨g, 0, none⟩)] #[]) ∧ w'.cell? ⟨A, 0, none⟩ = some (.bool nl) ∧ w'.cell? ⟨A, 1, none⟩ = some (.slice pi li ci) ∧ w'.cell? ⟨A, 2, none⟩ = some (.slice pk lk ck) ∧ w'.cell? ⟨A, 3, none⟩ = some (.slice pd ld cd) ∧ w'.cell? ⟨p, 5, none⟩ = some (.pointer (some ⟨q, 0, none⟩)))) (by kernel_rfl) ?_
    have hL6 := HL5.out.below ((Below.refl W6.heap.size W6).drew)
    have hHeld : (fun w' => w'.cell? ⟨p, 4, none⟩ = some (.func (.func 18) #[.pointer (some ⟨g, 0, none⟩)] #[]) ∧ w'.cell? ⟨A, 0, none⟩ = some (.bool nl) ∧ w'.cell? ⟨A, 1, none⟩ = some (.slice pi li ci) ∧ w'.cell? ⟨A, 2, none⟩ = some (.slice pk lk ck) ∧ w'.cell? ⟨A, 3, none⟩ = some (.slice pd ld cd) ∧ w'.cell? ⟨p, 5, none⟩ = some (.pointer (some ⟨q, 0, none⟩))) W6.drew := ⟨cells_of (hL6).row.cells 4, cells_of (hL6).box 0, cells_of (hL6).box 1, cells_of (hL6).box 2, cells_of (hL6).box 3, cells_of (hL6).row.cells 5⟩
    refine wpAnyH_takeAt 0 40 ((.pointer (some ⟨p, 0, none⟩))) rfl rfl (by kernel_rfl) (by kernel_rfl) (by kernel_rfl) (fun _ _ _ h => h) (Or.inl ⟨by rfl, fun w h => by (try dsimp only at h); (try go_split_ands); go_simp⟩) hHeld ?_
    try simp only [Act.put, arr0, arr1, arr2]
    refine wpAnyH_takeAt 1 41 ((.pointer (some ⟨p, 0, none⟩))) rfl rfl (by kernel_rfl) (by kernel_rfl) (by kernel_rfl) (fun _ _ _ h => h) (Or.inl ⟨by rfl, fun w h => by (try dsimp only at h); (try go_split_ands); go_simp⟩) hHeld ?_
    try simp only [Act.put, arr0, arr1, arr2]
    refine wpAnyH_takeAt 2 42 ((.pointer (some ⟨p, 5, none⟩))) rfl rfl (by kernel_rfl) (by kernel_rfl) (by kernel_rfl) (fun _ _ _ h => h) (Or.inl ⟨by rfl, fun w h => by (try dsimp only at h); (try go_split_ands); go_simp⟩) hHeld ?_
    try simp only [Act.put, arr0, arr1, arr2]
    refine wpAnyH_takeAt 3 43 ((.pointer (some ⟨q, 0, none⟩))) rfl rfl (by kernel_rfl) (by kernel_rfl) (by kernel_rfl) (fun _ _ _ h => h) (Or.inl ⟨by rfl, fun w h => by (try dsimp only at h); (try go_split_ands); go_simp⟩) hHeld ?_
    try simp only [Act.put, arr0, arr1, arr2]
    refine wpAnyH_takeAt 4 44 (.agg #[.bool nl, .slice pi li ci, .slice pk lk ck, .slice pd ld cd]) rfl rfl (by kernel_rfl) (by kernel_rfl) (by kernel_rfl) (fun _ _ _ h => h) (Or.inl ⟨by rfl, fun w h => by (try dsimp only at h); (try go_split_ands); go_simp⟩) hHeld ?_
    try simp only [Act.put, arr0, arr1, arr2]
    refine wpAnyH_takeAt 6 46 ((.int .i64 (256 + C.length : Nat))) rfl rfl (by kernel_rfl) (by kernel_rfl) (by kernel_rfl) (fun _ _ _ h => h) (Or.inl ⟨by rfl, fun w h => by (try dsimp only at h); (try go_split_ands); go_simp⟩) hHeld ?_
    try simp only [Act.put, arr0, arr1, arr2]
    refine wpAnyH_takeAt 7 47 (.agg #[.bool nl, .slice pi li ci, .slice pk lk ck, .slice pd ld cd]) rfl rfl (by kernel_rfl) (by kernel_rfl) (by kernel_rfl) (fun _ _ _ h => h) (Or.inl ⟨by rfl, fun w h => by (try dsimp only at h); (try go_split_ands); go_simp⟩) hHeld ?_
    try simp only [Act.put, arr0, arr1, arr2]
    obtain ⟨_, _, _, _, _, _, hnd6⟩ := hL6.nd.nd
    have HLE := Lib.hid (least_any hnd6 (by rw [← HK.out]; exact HK1.out))
    clear hnd6
    refine wpAnyH_one 5 (by kernel_rfl) (fun K hK => ?_)
    refine wpOp_as rfl rfl 45 (.call { callee := .value (.func 67), args := #[.tmp 44], argTypes := #[93] }) 31 rfl rfl rfl ?_
    go_simp
    go_at_call 67
    refine HLE.out.mono ?_
    rintro e7 w7 ⟨v7, rfl, o7, b7⟩
    have hL7 := hL6.below b7
    have hF7 : BkF R (C ++ recOf 2 (putNd nd)) lf4 W g a own4 w7 := (HF5.out.stay ((Below.refl W6.heap.size W6).drew)).stay b7
    have hK7 : TxtO own4 w7 v7 e.k := by rw [HK.out]; exact TxtO.of_new o7 (lst_small HNF.out) (by rw [← HK.out]; have := HK1.out; unfold maxLen; omega) (fun k hk => HF5.out.new_none hk)
    obtain ⟨q7, d7, rfl, -⟩ := hK7.bytes.any
    obtain ⟨_, _, _, _, _, _, hnd7⟩ := hL7.nd.nd
    have HCO := Lib.hid (count_any hnd7 HSUM.out)
    refine hK _ _ ⟨cells_of (hL7).row.cells 4, cells_of (hL7).box 0, cells_of (hL7).box 1, cells_of (hL7).box 2, cells_of (hL7).box 3, cells_of (hL7).row.cells 5⟩ (fun hHeld => ?_)
    clear hK K HLE hnd7 o7 b7
    try simp only [Act.put, arr0, arr1, arr2]
    refine wpAnyH_one 8 (by kernel_rfl) (fun K hK => ?_)
    refine wpOp_as rfl rfl 48 (.call { callee := .value (.func 68), args := #[.tmp 47], argTypes := #[93] }) 37 rfl rfl rfl ?_
    go_simp
    go_at_call 68
    refine HCO.out.mono ?_
    rintro e8 w8 ⟨rfl, b8⟩
    have hL8 := hL7.below b8
    have hF8 := hF7.stay b8
    have hK8 : TxtO own4 w8 (.slice q7 e.k.length d7) e.k := hK7.turns (F := []) (g := g) (Turns.below b8)
    obtain ⟨kq, dq, uq, Fq, hFq, hst⟩ := hL8.ch.st6
    have HFq := Lib.hid hFq
    clear hFq
    have HTK := Lib.hid (HT.out own4 w8 q kq dq uq Fq _ lf4 e _ hst hF8 (Nat.lt_of_le_of_lt HLZ.out HLF.out) hK8 HK1.out (by rw [HO.out]; have := HC1.out.1; omega) HB.out)
    refine hK _ _ ⟨cells_of (hL8).row.cells 4, cells_of (hL8).box 0, cells_of (hL8).box 1, cells_of (hL8).box 2, cells_of (hL8).box 3, cells_of (hL8).row.cells 5⟩ (fun hHeld => ?_)
    clear hK K HCO b8
    try simp only [Act.put, arr0, arr1, arr2]
    refine wpAnyH_takeAt 9 49 (.agg #[.int .i64 (256 + C.length : Nat), .int .u64 (cnt nd : Nat)]) rfl rfl (by kernel_rfl) (by kernel_rfl) (by kernel_rfl) (fun _ _ _ h => h) (Or.inl ⟨by rfl, fun w h => by (try dsimp only at h); (try go_split_ands); go_simp⟩) hHeld ?_
    try simp only [Act.put, arr0, arr1, arr2]
    rw [HO.out, HCT.out] at HTK
    refine wpAnyH_one 10 (by kernel_rfl) (fun K hK => ?_)
    refine wpOp_as rfl rfl 50 (.call { callee := .value (.func 66), args := #[.tmp 43, .tmp 45, .tmp 49], argTypes := #[52, 31, 39] }) 35 rfl rfl rfl ?_
    go_simp
    go_at_call 66
    refine HTK.out.mono ?_
    rintro e9 w9 ⟨v9, rfl, h9⟩
    have HFIN := Lib.hid (lay_end (F0 := F) hL8 HQ.out HLZ.out (by first | exact HV0.out | exact fun _ => HV0.out trivial) HFq.out (lv := lv) (by rw [HLV.out]; exact h9))
    have hkp := lay_keep hL8 HFq.out h9
    refine hK _ _ ⟨cells_of (hkp.1.trans hL8.row.cells) 4, cells_of (hkp.2.trans hL8.box) 0, cells_of (hkp.2.trans hL8.box) 1, cells_of (hkp.2.trans hL8.box) 2, cells_of (hkp.2.trans hL8.box) 3, cells_of (hkp.1.trans hL8.row.cells) 5⟩ (fun hHeld => ?_)
    clear hK K HTK h9
    try simp only [Act.put, arr0, arr1, arr2]
    refine wpAnyH_takeAt 11 4 (.int .i64 v9) rfl rfl (by kernel_rfl) (by kernel_rfl) (by kernel_rfl) (fun _ _ _ h => h) (Or.inl ⟨by rfl, fun w h => by (try dsimp only at h); (try go_split_ands); go_simp⟩) hHeld ?_
    try simp only [Act.put, arr0, arr1, arr2]
    refine wpAnyH_done (by kernel_rfl) ?_ _
    clear hHeld hL6 hL7 hL8 hF7 hF8 hK7 hK8 hst hkp
    go_wp2
    go_ret
    exact ⟨v9, rfl, HFIN.out⟩
  · have hL4 := HL3.out.go ht4
    refine hK _ _ ⟨cells_of (hL4).row.cells 4, cells_of (hL4).box 0, cells_of (hL4).box 1, cells_of (hL4).box 2, cells_of (hL4).box 3, cells_of (hL4).row.cells 5⟩ (fun hHeld => ?_)
    clear hK K HAC
    try simp only [Act.put, arr0, arr1, arr2]
    refine wpAnyH_takeAt 7 14 (.tuple #[.int .i64 0, .int .i64 5]) rfl rfl (by kernel_rfl) (by kernel_rfl) (by kernel_rfl) (fun _ _ _ h => h) (Or.inl ⟨by rfl, fun w h => by (try dsimp only at h); (try go_split_ands); go_simp⟩) hHeld ?_
    try simp only [Act.put, arr0, arr1, arr2]
    refine wpAnyH_takeAt 8 22 (.int .i64 0) rfl rfl (by kernel_rfl) (by kernel_rfl) (by kernel_rfl) (fun _ _ _ h => h) (Or.inl ⟨by rfl, fun w h => by (try dsimp only at h); (try go_split_ands); go_simp⟩) hHeld ?_
    try simp only [Act.put, arr0, arr1, arr2]
    refine wpAnyH_takeAt 9 23 (.int .i64 5) rfl rfl (by kernel_rfl) (by kernel_rfl) (by kernel_rfl) (fun _ _ _ h => h) (Or.inl ⟨by rfl, fun w h => by (try dsimp only at h); (try go_split_ands); go_simp⟩) hHeld ?_
    try simp only [Act.put, arr0, arr1, arr2]
    refine wpAnyH_takeAt 10 6 (.int .i64 0) rfl rfl (by kernel_rfl) (by kernel_rfl) (by kernel_rfl) (fun _ _ _ h => h) (Or.inl ⟨by rfl, fun w h => by (try dsimp only at h); (try go_split_ands); go_simp⟩) hHeld ?_
    try simp only [Act.put, arr0, arr1, arr2]
    refine wpAnyH_takeAt 11 7 (.int .i64 5) rfl rfl (by kernel_rfl) (by kernel_rfl) (by kernel_rfl) (fun _ _ _ h => h) (Or.inl ⟨by rfl, fun w h => by (try dsimp only at h); (try go_split_ands); go_simp⟩) hHeld ?_
    try simp only [Act.put, arr0, arr1, arr2]
    refine wpAnyH_done (by kernel_rfl) ?_ _
    have HFIN := Lib.hid (lay_fail (R := R) (C' := lv.1) (a := a) (its' := its') (lv' := es' :: lv.2) (it := true) hL4 hl0)
    clear hHeld hL4 ht4
    go_wp2
    go_ret
    exact ⟨5, rfl, HFIN.out⟩
set_option maxRecDepth 100000 in
set_option maxHeartbeats 4000000 in
theorem lay_kids_mid {R : Int} {C : List Nat} {lf a : Nat} {own : Own} {W : World} {g : Nat} {w : World} {p q : Nat} {vi kv dv : Value} {its its' : List NIt} {es es' : List KE} {es0 : List KE} {rest0 : List (List KE)} {F : List Nat} {n : Nat} {nd : Nd} {e : KE}
    (hs : St6 own W g w p false vi kv dv (.pointer (some ⟨q, 0, none⟩)) its es (es0 :: rest0) F) (hf : BkF R C lf W g a own w) (hlf : lf < 1000000) (hcut : Calls Try.prog 85 #[.pointer (some ⟨p, 0, none⟩), .int .i64 (n : Nat)] w (CutBy own g p false vi kv dv (.pointer (some ⟨q, 0, none⟩)) its' es' nd w))
    (hk : e.k = lst nd) (hk1 : e.k.length ≤ 1000) (ho : e.d.off = (256 + C.length : Nat)) (hct : e.d.ct = cnt nd) (hsum : sumCt nd.kids ≤ 17592186044416) (hv0 : false = false → vi = .slice none 0 0)
    (hT : TakeSpec R W g a es0 rest0) (hB : Bd R (es0 :: rest0) (takeK (C ++ recOf 2 (putNd nd)) (es0 :: rest0) e).1 e.d.ct) :
    Calls Try.prog 41 #[.pointer (some ⟨p, 0, none⟩), .int .i64 (n : Nat)] w (Ret (Told R (takeK (C ++ recOf 2 (putNd nd)) (es0 :: rest0) e).1 lf W g a own p false (p :: (blk vi ++ (blk kv ++ (blk dv ++ F)))) its' (es' :: (takeK (C ++ recOf 2 (putNd nd)) (es0 :: rest0) e).2) w)) := by
  obtain ⟨lv, hlv⟩ : ∃ lv, lv = takeK (C ++ recOf 2 (putNd nd)) (es0 :: rest0) e := ⟨_, rfl⟩
  have hCl : C.length ≤ 1000000 ∧ (C ++ recOf 2 (putNd nd)).length ≤ lv.1.length := by
    have h1 := takeK_more (es0 :: rest0) (C ++ recOf 2 (putNd nd)) e
    have h2 := hB.len
    rw [hlv]
    rw [List.length_append] at h1
    refine ⟨by omega, ?_⟩
    rw [List.length_append]; exact h1
  have hpl : (putNd nd).length ≤ 1300 := putNd_length nd
  have hglt := hf.glt
  have HNEW : Hid (∀ k, w.heap.size ≤ k → own k = none) := fun k hk => hf.new_none hk
  have hroom := hB.room
  have HSt := Lib.hid hs; have HCUT := Lib.hid hcut
  have hcr : (recOf 2 (putNd nd)).length = 9 + (putNd nd).length := recOf_length ..
  have HAP : Hid (∀ wx (bv : Value), BkF R C lf W g a own wx → Bytes wx bv (putNd nd) → Calls Try.prog 18 #[.pointer (some ⟨g, 0, none⟩), .int .u8 2, bv] wx (Appd R C lf W g a own 2 (putNd nd) wx)) := fun wx bv hx hb => app_bk hx (by rw [← hlv] at hroom; rw [List.length_append] at hCl; have := hCl.2; omega) hCl.1 hlf (by decide) hb (by omega)
  have HPO : Hid (∀ wx vv, wx.ownsRow w.heap.size 5 1 vv (putNd nd).length (cellsOf (putNd nd)) → NdT own w (.agg #[]) nd vi kv dv ∨ True → NdFine nd → Bytes wx vv (putNd nd)) := fun wx vv hb _ hfn => Bytes.of_owns hb (putNd_small hfn) (by unfold maxLen; omega)
  have c3 : w.cell? ⟨p, 3, none⟩ = some (.func (.func 85) #[.pointer (some ⟨p, 0, none⟩)] #[]) := cells_of hs.row.cells 3
  have HF := Lib.hid hf; have HLF := Lib.hid hlf; have HT := Lib.hid hT; have HB := Lib.hid hB; have HLV := Lib.hid hlv; have HK := Lib.hid hk; have HK1 := Lib.hid hk1; have HO := Lib.hid ho; have HCT := Lib.hid hct; have HSUM := Lib.hid hsum; have HC1 := Lib.hid hCl; have HV0 := Lib.hid hv0; have HG := Lib.hid hglt
  rw [← hlv]
  clear hs hf hlf hcut hk hk1 ho hct hsum hT hB hlv hv0 hCl hpl hglt hroom hcr
  go_enter Try.func41, Try.ntmps41
  go_wp2_with fail
  refine HCUT.out.mono ?_
  rintro z w1 ⟨nv, vi', kv', dv', rfl, hr1, hn1, ho1, he1, he2, he3, hv1⟩
  obtain ⟨pi, ci, pk, ck, pd, cd, rfl⟩ := ndt_val hn1
  have hL0 := LaySt.start HSt.out HNEW.out HG.out.1 hr1 hn1 ho1 ⟨he1, he2, he3⟩ hv1
  have HNF : Hid (NdFine nd) := by obtain ⟨_, _, _, _, _, _, hh⟩ := hn1.nd; exact hh.fine
  have hF1 : BkF R C lf W g a own w1 := HF.out.only ho1 (let h9 := HSt.out.fr p (by simp); ⟨h9.1, h9.2.1, h9.2.2.1⟩)
  obtain ⟨A, hA⟩ : ∃ A, A = w1.heap.size := ⟨_, rfl⟩
  obtain ⟨W2, hW2⟩ : ∃ W2, W2 = w1.alloc (.cells #[.bool nd.leaf, .slice pi nd.its.length ci, .slice pk nd.ks.length ck, .slice pd nd.kids.length cd] 93) := ⟨_, rfl⟩
  rw [← hA, ← hW2] at hL0
  have hF2 : BkF R C lf W g a own W2 := by rw [hW2]; exact hF1.stay ((Below.refl _ _).alloc (Nat.le_refl _) _)
  have HL0 := Lib.hid hL0; have HF2 := Lib.hid hF2; have HW2 := Lib.hid hW2; have HA := Lib.hid hA
  clear hL0 hF2 hF1 hW2 hA hr1 hn1 ho1 he1 he2 he3 hv1 c3 HCUT HF
  generalize hnl : nd.leaf = nl at *; generalize hli : nd.its.length = li at *; generalize hlk : nd.ks.length = lk at *; generalize hld : nd.kids.length = ld at *
  clear hnl hli hlk hld
  go_wp2_with fail
  rw [← HW2.out, ← HA.out]
  clear HW2 HA
  refine wp_region_heldD (S := (fun w' => w'.cell? ⟨p, 4, none⟩ = some (.func (.func 18) #[.pointer (some ⟨g, 0, none⟩)] #[]) ∧ w'.cell? ⟨A, 0, none⟩ = some (.bool nl) ∧ w'.cell? ⟨A, 1, none⟩ = some (.slice pi li ci) ∧ w'.cell? ⟨A, 2, none⟩ = some (.slice pk lk ck) ∧ w'.cell? ⟨A, 3, none⟩ = some (.slice pd ld cd) ∧ w'.cell? ⟨p, 5, none⟩ = some (.pointer (some ⟨q, 0, none⟩)))) (by kernel_rfl) ?_
  have hL1 := HL0.out.below ((Below.refl W2.heap.size W2).drew)
  have hHeld : (fun w' => w'.cell? ⟨p, 4, none⟩ = some (.func (.func 18) #[.pointer (some ⟨g, 0, none⟩)] #[]) ∧ w'.cell? ⟨A, 0, none⟩ = some (.bool nl) ∧ w'.cell? ⟨A, 1, none⟩ = some (.slice pi li ci) ∧ w'.cell? ⟨A, 2, none⟩ = some (.slice pk lk ck) ∧ w'.cell? ⟨A, 3, none⟩ = some (.slice pd ld cd) ∧ w'.cell? ⟨p, 5, none⟩ = some (.pointer (some ⟨q, 0, none⟩))) W2.drew := ⟨cells_of (hL1).row.cells 4, cells_of (hL1).box 0, cells_of (hL1).box 1, cells_of (hL1).box 2, cells_of (hL1).box 3, cells_of (hL1).row.cells 5⟩
  refine wpAnyH_takeAt 0 15 ((.pointer (some ⟨p, 0, none⟩))) rfl rfl (by kernel_rfl) (by kernel_rfl) (by kernel_rfl) (fun _ _ _ h => h) (Or.inl ⟨by rfl, fun w h => by (try dsimp only at h); (try go_split_ands); go_simp⟩) hHeld ?_
  try simp only [Act.put, arr0, arr1, arr2]
  refine wpAnyH_takeAt 1 16 ((.pointer (some ⟨p, 0, none⟩))) rfl rfl (by kernel_rfl) (by kernel_rfl) (by kernel_rfl) (fun _ _ _ h => h) (Or.inl ⟨by rfl, fun w h => by (try dsimp only at h); (try go_split_ands); go_simp⟩) hHeld ?_
  try simp only [Act.put, arr0, arr1, arr2]
  refine wpAnyH_takeAt 2 17 ((.pointer (some ⟨p, 4, none⟩))) rfl rfl (by kernel_rfl) (by kernel_rfl) (by kernel_rfl) (fun _ _ _ h => h) (Or.inl ⟨by rfl, fun w h => by (try dsimp only at h); (try go_split_ands); go_simp⟩) hHeld ?_
  try simp only [Act.put, arr0, arr1, arr2]
  refine wpAnyH_takeAt 3 18 ((.func (.func 18) #[.pointer (some ⟨g, 0, none⟩)] #[])) rfl rfl (by kernel_rfl) (by kernel_rfl) (by kernel_rfl) (fun _ _ _ h => h) (Or.inl ⟨by rfl, fun w h => by (try dsimp only at h); (try go_split_ands); go_simp⟩) hHeld ?_
  try simp only [Act.put, arr0, arr1, arr2]
  refine wpAnyH_takeAt 4 19 (.agg #[.bool nl, .slice pi li ci, .slice pk lk ck, .slice pd ld cd]) rfl rfl (by kernel_rfl) (by kernel_rfl) (by kernel_rfl) (fun _ _ _ h => h) (Or.inl ⟨by rfl, fun w h => by (try dsimp only at h); (try go_split_ands); go_simp⟩) hHeld ?_
  try simp only [Act.put, arr0, arr1, arr2]
  refine wpAnyH_one 5 (by kernel_rfl) (fun K hK => ?_)
  refine wpOp_as rfl rfl 20 (.call { callee := .value (.func 64), args := #[.tmp 19], argTypes := #[93] }) 31 rfl rfl rfl ?_
  obtain ⟨_, _, _, _, _, _, hnd1⟩ := hL1.nd.nd
  have HPU := Lib.hid (put_any hnd1)
  go_simp
  go_at_call 64
  refine HPU.out.mono ?_
  rintro e3 w3 ⟨v3, rfl, o3, b3⟩
  have hL3 := hL1.below b3
  have hF3 : BkF R C lf W g a own w3 := (HF2.out.stay ((Below.refl W2.heap.size W2).drew)).stay b3
  have hB3 : Bytes w3 v3 (putNd nd) := HPO.out w3 v3 (owns_base o3 (Nat.le_trans hL1.tn.size (Nat.le_refl _))) (.inr trivial) HNF.out
  obtain ⟨q3, d3, rfl, -⟩ := hB3.any
  have HAC := Lib.hid (HAP.out _ _ hF3 hB3)
  refine hK _ _ ⟨cells_of (hL3).row.cells 4, cells_of (hL3).box 0, cells_of (hL3).box 1, cells_of (hL3).box 2, cells_of (hL3).box 3, cells_of (hL3).row.cells 5⟩ (fun hHeld => ?_)
  clear hK K HPU hnd1 o3 b3
  try simp only [Act.put, arr0, arr1, arr2]
  have HL3 := Lib.hid hL3
  clear hL3 hL1 hF3 hB3
  refine wpAnyH_one 6 (by kernel_rfl) (fun K hK => ?_)
  refine wpOp_as rfl rfl 21 (.call { callee := .value (.tmp 18), args := #[.const (.int .u8 2), .tmp 20], argTypes := #[5, 31] }) 84 rfl rfl rfl ?_
  go_simp
  go_at_call 18
  refine HAC.out.mono ?_
  rintro e4 w4 (⟨rfl, own4, lf4, hl4, ht4, hF4⟩ | ⟨hl0, rfl, own4, ht4⟩)
  · have hL4 := HL3.out.go ht4
    refine hK _ _ ⟨cells_of (hL4).row.cells 4, cells_of (hL4).box 0, cells_of (hL4).box 1, cells_of (hL4).box 2, cells_of (hL4).box 3, cells_of (hL4).row.cells 5⟩ (fun hHeld => ?_)
    clear hK K HAC
    try simp only [Act.put, arr0, arr1, arr2]
    refine wpAnyH_takeAt 7 14 (.tuple #[.int .i64 (256 + C.length : Nat), .int .i64 0]) rfl rfl (by kernel_rfl) (by kernel_rfl) (by kernel_rfl) (fun _ _ _ h => h) (Or.inl ⟨by rfl, fun w h => by (try dsimp only at h); (try go_split_ands); go_simp⟩) hHeld ?_
    try simp only [Act.put, arr0, arr1, arr2]
    refine wpAnyH_takeAt 8 22 (.int .i64 (256 + C.length : Nat)) rfl rfl (by kernel_rfl) (by kernel_rfl) (by kernel_rfl) (fun _ _ _ h => h) (Or.inl ⟨by rfl, fun w h => by (try dsimp only at h); (try go_split_ands); go_simp⟩) hHeld ?_
    try simp only [Act.put, arr0, arr1, arr2]
    refine wpAnyH_takeAt 9 23 (.int .i64 0) rfl rfl (by kernel_rfl) (by kernel_rfl) (by kernel_rfl) (fun _ _ _ h => h) (Or.inl ⟨by rfl, fun w h => by (try dsimp only at h); (try go_split_ands); go_simp⟩) hHeld ?_
    try simp only [Act.put, arr0, arr1, arr2]
    refine wpAnyH_takeAt 10 6 (.int .i64 (256 + C.length : Nat)) rfl rfl (by kernel_rfl) (by kernel_rfl) (by kernel_rfl) (fun _ _ _ h => h) (Or.inl ⟨by rfl, fun w h => by (try dsimp only at h); (try go_split_ands); go_simp⟩) hHeld ?_
    try simp only [Act.put, arr0, arr1, arr2]
    refine wpAnyH_takeAt 11 7 (.int .i64 0) rfl rfl (by kernel_rfl) (by kernel_rfl) (by kernel_rfl) (fun _ _ _ h => h) (Or.inl ⟨by rfl, fun w h => by (try dsimp only at h); (try go_split_ands); go_simp⟩) hHeld ?_
    try simp only [Act.put, arr0, arr1, arr2]
    refine wpAnyH_done (by kernel_rfl) ?_ _
    have HL4 := Lib.hid hL4; have HF4 := Lib.hid hF4; have HLZ := Lib.hid hl4
    have n5 : w4.cell? ⟨p, 5, none⟩ = some (.pointer (some ⟨q, 0, none⟩)) := cells_of hL4.row.cells 5
    clear hL4 hF4 hl4 ht4 hHeld
    have HQ : Hid (∀ k ∈ F, k ∈ F ∨ w.heap.size ≤ k) := fun k hk => .inl hk
    have HL5 := HL4; have HF5 := HF4
    obtain ⟨W6, hW6⟩ : ∃ W6, W6 = w4 := ⟨_, rfl⟩
    rw [← hW6] at HL5 HF5
    have HW6 := Lib.hid hW6
    clear hW6 HL4 HF4
    go_wp2_with fail
    rw [← HW6.out]
    clear HW6 n5
    refine wp_region_heldD (S := (fun w' => w'.cell? ⟨p, 4, none⟩ = some (.func (.func 18) #[.pointer (some ⟨g, 0, none⟩)] #[]) ∧ w'.cell? ⟨A, 0, none⟩ = some (.bool nl) ∧ w'.cell? ⟨A, 1, none⟩ = some (.slice pi li ci) ∧ w'.cell? ⟨A, 2, none⟩ = some (.slice pk lk ck) ∧ w'.cell? ⟨A, 3, none⟩ = some (.slice pd ld cd) ∧ w'.cell? ⟨p, 5, none⟩ = some (.pointer (some ⟨q, 0, none⟩)))) (by kernel_rfl) ?_
    have hL6 := HL5.out.below ((Below.refl W6.heap.size W6).drew)
    have hHeld : (fun w' => w'.cell? ⟨p, 4, none⟩ = some (.func (.func 18) #[.pointer (some ⟨g, 0, none⟩)] #[]) ∧ w'.cell? ⟨A, 0, none⟩ = some (.bool nl) ∧ w'.cell? ⟨A, 1, none⟩ = some (.slice pi li ci) ∧ w'.cell? ⟨A, 2, none⟩ = some (.slice pk lk ck) ∧ w'.cell? ⟨A, 3, none⟩ = some (.slice pd ld cd) ∧ w'.cell? ⟨p, 5, none⟩ = some (.pointer (some ⟨q, 0, none⟩))) W6.drew := ⟨cells_of (hL6).row.cells 4, cells_of (hL6).box 0, cells_of (hL6).box 1, cells_of (hL6).box 2, cells_of (hL6).box 3, cells_of (hL6).row.cells 5⟩
    refine wpAnyH_takeAt 0 40 ((.pointer (some ⟨p, 0, none⟩))) rfl rfl (by kernel_rfl) (by kernel_rfl) (by kernel_rfl) (fun _ _ _ h => h) (Or.inl ⟨by rfl, fun w h => by (try dsimp only at h); (try go_split_ands); go_simp⟩) hHeld ?_
    try simp only [Act.put, arr0, arr1, arr2]
    refine wpAnyH_takeAt 1 41 ((.pointer (some ⟨p, 0, none⟩))) rfl rfl (by kernel_rfl) (by kernel_rfl) (by kernel_rfl) (fun _ _ _ h => h) (Or.inl ⟨by rfl, fun w h => by (try dsimp only at h); (try go_split_ands); go_simp⟩) hHeld ?_
    try simp only [Act.put, arr0, arr1, arr2]
    refine wpAnyH_takeAt 2 42 ((.pointer (some ⟨p, 5, none⟩))) rfl rfl (by kernel_rfl) (by kernel_rfl) (by kernel_rfl) (fun _ _ _ h => h) (Or.inl ⟨by rfl, fun w h => by (try dsimp only at h); (try go_split_ands); go_simp⟩) hHeld ?_
    try simp only [Act.put, arr0, arr1, arr2]
    refine wpAnyH_takeAt 3 43 ((.pointer (some ⟨q, 0, none⟩))) rfl rfl (by kernel_rfl) (by kernel_rfl) (by kernel_rfl) (fun _ _ _ h => h) (Or.inl ⟨by rfl, fun w h => by (try dsimp only at h); (try go_split_ands); go_simp⟩) hHeld ?_
    try simp only [Act.put, arr0, arr1, arr2]
    refine wpAnyH_takeAt 4 44 (.agg #[.bool nl, .slice pi li ci, .slice pk lk ck, .slice pd ld cd]) rfl rfl (by kernel_rfl) (by kernel_rfl) (by kernel_rfl) (fun _ _ _ h => h) (Or.inl ⟨by rfl, fun w h => by (try dsimp only at h); (try go_split_ands); go_simp⟩) hHeld ?_
    try simp only [Act.put, arr0, arr1, arr2]
    refine wpAnyH_takeAt 6 46 ((.int .i64 (256 + C.length : Nat))) rfl rfl (by kernel_rfl) (by kernel_rfl) (by kernel_rfl) (fun _ _ _ h => h) (Or.inl ⟨by rfl, fun w h => by (try dsimp only at h); (try go_split_ands); go_simp⟩) hHeld ?_
    try simp only [Act.put, arr0, arr1, arr2]
    refine wpAnyH_takeAt 7 47 (.agg #[.bool nl, .slice pi li ci, .slice pk lk ck, .slice pd ld cd]) rfl rfl (by kernel_rfl) (by kernel_rfl) (by kernel_rfl) (fun _ _ _ h => h) (Or.inl ⟨by rfl, fun w h => by (try dsimp only at h); (try go_split_ands); go_simp⟩) hHeld ?_
    try simp only [Act.put, arr0, arr1, arr2]
    obtain ⟨_, _, _, _, _, _, hnd6⟩ := hL6.nd.nd
    have HLE := Lib.hid (least_any hnd6 (by rw [← HK.out]; exact HK1.out))
    clear hnd6
    refine wpAnyH_one 5 (by kernel_rfl) (fun K hK => ?_)
    refine wpOp_as rfl rfl 45 (.call { callee := .value (.func 67), args := #[.tmp 44], argTypes := #[93] }) 31 rfl rfl rfl ?_
    go_simp
    go_at_call 67
    refine HLE.out.mono ?_
    rintro e7 w7 ⟨v7, rfl, o7, b7⟩
    have hL7 := hL6.below b7
    have hF7 : BkF R (C ++ recOf 2 (putNd nd)) lf4 W g a own4 w7 := (HF5.out.stay ((Below.refl W6.heap.size W6).drew)).stay b7
    have hK7 : TxtO own4 w7 v7 e.k := by rw [HK.out]; exact TxtO.of_new o7 (lst_small HNF.out) (by rw [← HK.out]; have := HK1.out; unfold maxLen; omega) (fun k hk => HF5.out.new_none hk)
    obtain ⟨q7, d7, rfl, -⟩ := hK7.bytes.any
    obtain ⟨_, _, _, _, _, _, hnd7⟩ := hL7.nd.nd
    have HCO := Lib.hid (count_any hnd7 HSUM.out)
    refine hK _ _ ⟨cells_of (hL7).row.cells 4, cells_of (hL7).box 0, cells_of (hL7).box 1, cells_of (hL7).box 2, cells_of (hL7).box 3, cells_of (hL7).row.cells 5⟩ (fun hHeld => ?_)
    clear hK K HLE hnd7 o7 b7
    try simp only [Act.put, arr0, arr1, arr2]
    refine wpAnyH_one 8 (by kernel_rfl) (fun K hK => ?_)
    refine wpOp_as rfl rfl 48 (.call { callee := .value (.func 68), args := #[.tmp 47], argTypes := #[93] }) 37 rfl rfl rfl ?_
    go_simp
    go_at_call 68
    refine HCO.out.mono ?_
    rintro e8 w8 ⟨rfl, b8⟩
    have hL8 := hL7.below b8
    have hF8 := hF7.stay b8
    have hK8 : TxtO own4 w8 (.slice q7 e.k.length d7) e.k := hK7.turns (F := []) (g := g) (Turns.below b8)
    obtain ⟨kq, dq, uq, Fq, hFq, hst⟩ := hL8.ch.st6
    have HFq := Lib.hid hFq
    clear hFq
    have HTK := Lib.hid (HT.out own4 w8 q kq dq uq Fq _ lf4 e _ hst hF8 (Nat.lt_of_le_of_lt HLZ.out HLF.out) hK8 HK1.out (by rw [HO.out]; have := HC1.out.1; omega) HB.out)
    refine hK _ _ ⟨cells_of (hL8).row.cells 4, cells_of (hL8).box 0, cells_of (hL8).box 1, cells_of (hL8).box 2, cells_of (hL8).box 3, cells_of (hL8).row.cells 5⟩ (fun hHeld => ?_)
    clear hK K HCO b8
    try simp only [Act.put, arr0, arr1, arr2]
    refine wpAnyH_takeAt 9 49 (.agg #[.int .i64 (256 + C.length : Nat), .int .u64 (cnt nd : Nat)]) rfl rfl (by kernel_rfl) (by kernel_rfl) (by kernel_rfl) (fun _ _ _ h => h) (Or.inl ⟨by rfl, fun w h => by (try dsimp only at h); (try go_split_ands); go_simp⟩) hHeld ?_
    try simp only [Act.put, arr0, arr1, arr2]
    rw [HO.out, HCT.out] at HTK
    refine wpAnyH_one 10 (by kernel_rfl) (fun K hK => ?_)
    refine wpOp_as rfl rfl 50 (.call { callee := .value (.func 66), args := #[.tmp 43, .tmp 45, .tmp 49], argTypes := #[52, 31, 39] }) 35 rfl rfl rfl ?_
    go_simp
    go_at_call 66
    refine HTK.out.mono ?_
    rintro e9 w9 ⟨v9, rfl, h9⟩
    have HFIN := Lib.hid (lay_end (F0 := F) hL8 HQ.out HLZ.out (by first | exact HV0.out | exact fun _ => HV0.out trivial) HFq.out (lv := lv) (by rw [HLV.out]; exact h9))
    have hkp := lay_keep hL8 HFq.out h9
    refine hK _ _ ⟨cells_of (hkp.1.trans hL8.row.cells) 4, cells_of (hkp.2.trans hL8.box) 0, cells_of (hkp.2.trans hL8.box) 1, cells_of (hkp.2.trans hL8.box) 2, cells_of (hkp.2.trans hL8.box) 3, cells_of (hkp.1.trans hL8.row.cells) 5⟩ (fun hHeld => ?_)
    clear hK K HTK h9
    try simp only [Act.put, arr0, arr1, arr2]
    refine wpAnyH_takeAt 11 4 (.int .i64 v9) rfl rfl (by kernel_rfl) (by kernel_rfl) (by kernel_rfl) (fun _ _ _ h => h) (Or.inl ⟨by rfl, fun w h => by (try dsimp only at h); (try go_split_ands); go_simp⟩) hHeld ?_
    try simp only [Act.put, arr0, arr1, arr2]
    refine wpAnyH_done (by kernel_rfl) ?_ _
    clear hHeld hL6 hL7 hL8 hF7 hF8 hK7 hK8 hst hkp
    go_wp2
    go_ret
    exact ⟨v9, rfl, HFIN.out⟩
  · have hL4 := HL3.out.go ht4
    refine hK _ _ ⟨cells_of (hL4).row.cells 4, cells_of (hL4).box 0, cells_of (hL4).box 1, cells_of (hL4).box 2, cells_of (hL4).box 3, cells_of (hL4).row.cells 5⟩ (fun hHeld => ?_)
    clear hK K HAC
    try simp only [Act.put, arr0, arr1, arr2]
    refine wpAnyH_takeAt 7 14 (.tuple #[.int .i64 0, .int .i64 5]) rfl rfl (by kernel_rfl) (by kernel_rfl) (by kernel_rfl) (fun _ _ _ h => h) (Or.inl ⟨by rfl, fun w h => by (try dsimp only at h); (try go_split_ands); go_simp⟩) hHeld ?_
    try simp only [Act.put, arr0, arr1, arr2]
    refine wpAnyH_takeAt 8 22 (.int .i64 0) rfl rfl (by kernel_rfl) (by kernel_rfl) (by kernel_rfl) (fun _ _ _ h => h) (Or.inl ⟨by rfl, fun w h => by (try dsimp only at h); (try go_split_ands); go_simp⟩) hHeld ?_
    try simp only [Act.put, arr0, arr1, arr2]
    refine wpAnyH_takeAt 9 23 (.int .i64 5) rfl rfl (by kernel_rfl) (by kernel_rfl) (by kernel_rfl) (fun _ _ _ h => h) (Or.inl ⟨by rfl, fun w h => by (try dsimp only at h); (try go_split_ands); go_simp⟩) hHeld ?_
    try simp only [Act.put, arr0, arr1, arr2]
    refine wpAnyH_takeAt 10 6 (.int .i64 0) rfl rfl (by kernel_rfl) (by kernel_rfl) (by kernel_rfl) (fun _ _ _ h => h) (Or.inl ⟨by rfl, fun w h => by (try dsimp only at h); (try go_split_ands); go_simp⟩) hHeld ?_
    try simp only [Act.put, arr0, arr1, arr2]
    refine wpAnyH_takeAt 11 7 (.int .i64 5) rfl rfl (by kernel_rfl) (by kernel_rfl) (by kernel_rfl) (fun _ _ _ h => h) (Or.inl ⟨by rfl, fun w h => by (try dsimp only at h); (try go_split_ands); go_simp⟩) hHeld ?_
    try simp only [Act.put, arr0, arr1, arr2]
    refine wpAnyH_done (by kernel_rfl) ?_ _
    have HFIN := Lib.hid (lay_fail (R := R) (C' := lv.1) (a := a) (its' := its') (lv' := es' :: lv.2) (it := false) hL4 hl0)
    clear hHeld hL4 ht4
    go_wp2
    go_ret
    exact ⟨5, rfl, HFIN.out⟩
end Go.Proofs.Ytajfcnaifegonaa.Sl.Nd
/- Rows made trees, in a program: a kid comes, however many levels turn. -/
namespace Go.By
open Go
theorem headE_len {a : List KE} {m : Nat} (h : ∀ x ∈ a, x.k.length ≤ m) : (headE a).length ≤ m := by
  cases a with
  | nil => exact Nat.zero_le _
  | cons x r => exact h x (by simp)
theorem sumK_app : ∀ (a b : List NKd), sumK (a ++ b) = sumK a + sumK b
  | [], b => by simp [sumK]
  | d :: r, b => by simp [sumK, sumK_app r b]; omega
theorem sumK_takeN (a : List NKd) (n : Nat) : sumK (a.take n) ≤ sumK a := by
  have := sumK_app (a.take n) (a.drop n)
  rw [List.take_append_drop] at this
  omega
theorem takeK_few {C : List Nat} {es : List KE} {rest : List (List KE)} {e : KE} (h : es.length + 1 < 12) : takeK C (es :: rest) e = (C, (es ++ [e]) :: rest) := by
  unfold takeK
  rw [if_pos h]
theorem takeK_full {C : List Nat} {es : List KE} {rest : List (List KE)} {e : KE} (h : ¬ es.length + 1 < 12) : takeK C (es :: rest) e = ((takeK (layE C ((es ++ [e]).take 8)).1 rest (layE C ((es ++ [e]).take 8)).2).1, (es ++ [e]).drop 8 :: (takeK (layE C ((es ++ [e]).take 8)).1 rest (layE C ((es ++ [e]).take 8)).2).2) := by
  rw [takeK]
  rw [if_neg h]
theorem takeK_nil (C : List Nat) (e : KE) : takeK C [] e = takeK C [[]] e := by simp [takeK]
end Go.By
namespace Go.Proofs.Ytajfcnaifegonaa.Sl.Nd
open Go Go.RowKit Go.By
theorem sumCt_eq : ∀ (l : List NKd), sumCt l = sumK l
  | [] => rfl
  | d :: r => by simp [sumCt, sumK, sumCt_eq r]
theorem lst_ndE (a : List KE) : lst (ndE a) = headE a := by
  unfold lst
  rw [if_neg (by simp [ndE])]
  cases a with
  | nil => rfl
  | cons x r => rfl
theorem cnt_ndE (a : List KE) : cnt (ndE a) = sumK (a.map (·.d)) := by
  unfold cnt
  rw [if_neg (by simp [ndE]), sumCt_eq]
  rfl
theorem lst_lfI (a : List NIt) : lst (lfOf a) = headI a := by
  unfold lst
  rw [if_pos (show (lfOf a).leaf = true from rfl)]
  cases a with
  | nil => rfl
  | cons x r => rfl
theorem cnt_lfI (a : List NIt) : cnt (lfOf a) = a.length := by
  unfold cnt
  rw [if_pos (show (lfOf a).leaf = true from rfl)]
  rfl
theorem cut_by_kids {own : Own} {g : Nat} {w : World} {p : Nat} {vi kv dv up : Value} {its : List NIt} {es : List KE} (h : Row6 own g w p false vi kv dv up its es) {n : Nat} (hn : n ≤ es.length) :
    Calls Try.prog 85 #[.pointer (some ⟨p, 0, none⟩), .int .i64 (n : Nat)] w (CutBy own g p false vi kv dv up its (es.drop n) (ndE (es.take n)) w) := by
  refine (cutKids_bk h hn).mono ?_
  rintro e w' ⟨nv, vi', kv', dv', h1, h2, h3, h4⟩
  simp only [Bool.false_eq_true, if_false] at h2 h3
  exact ⟨nv, vi', kv', dv', h1, h2, h3, h4⟩
theorem cut_by_items {own : Own} {g : Nat} {w : World} {p : Nat} {vi kv dv up : Value} {its : List NIt} {es : List KE} (h : Row6 own g w p true vi kv dv up its es) {n : Nat} (hn : n ≤ its.length) :
    Calls Try.prog 31 #[.pointer (some ⟨p, 0, none⟩), .int .i64 (n : Nat)] w (CutBy own g p true vi kv dv up (its.drop n) es (lfOf (its.take n)) w) := by
  refine (cutItems_bk h hn).mono ?_
  rintro e w' ⟨nv, vi', kv', dv', h1, h2, h3, h4⟩
  simp only [if_true] at h2 h3
  exact ⟨nv, vi', kv', dv', h1, h2, h3, h4⟩
theorem mem4 {p : Nat} {a b c F : List Nat} {k : Nat} : k ∈ p :: (a ++ (b ++ (c ++ F))) ↔ k = p ∨ k ∈ a ∨ k ∈ b ∨ k ∈ c ∨ k ∈ F := by simp only [List.mem_cons, List.mem_append]
theorem St6.took {own : Own} {W : World} {g : Nat} {w w' : World} {p : Nat} {it : Bool} {vi kv dv up : Value} {its its' : List NIt} {es es' : List KE} {rest : List (List KE)} {F : List Nat} (h : St6 own W g w p it vi kv dv up its es rest F) (hnew : ∀ k, w.heap.size ≤ k → own k = none) (hg : g < w.heap.size) (hW : W.heap.size ≤ w.heap.size) (h6 : Took6 own g w p it vi kv dv up its' es' w') :
    ∃ vi' kv' dv', St6 own W g w' p it vi' kv' dv' up its' es' rest F ∧ Turns g (p :: (blk vi ++ (blk kv ++ (blk dv ++ F)))) own own w w' ∧ (∀ k ∈ p :: (blk vi' ++ (blk kv' ++ (blk dv' ++ F))), k ∈ p :: (blk vi ++ (blk kv ++ (blk dv ++ F))) ∨ w.heap.size ≤ k) ∧ (it = false → vi' = vi) ∧ Sole (p :: (blk vi ++ (blk kv ++ blk dv))) w w' := by
  obtain ⟨vi', kv', dv', hr, ht, b1, b2, b3, hv, hso⟩ := h6
  have hun : (p :: (blk vi ++ (blk kv ++ blk dv))).Nodup ∧ F.Nodup ∧ ∀ k ∈ p :: (blk vi ++ (blk kv ++ blk dv)), k ∉ F := by
    have e : p :: (blk vi ++ (blk kv ++ (blk dv ++ F))) = (p :: (blk vi ++ (blk kv ++ blk dv))) ++ F := by simp
    have := h.nd
    rw [e, List.nodup_append] at this
    exact ⟨this.1, this.2.1, fun k hk hF => this.2.2 k hk k hF rfl⟩
  have hch : Chain own W g w' up rest F := h.ch.apart ht (fun k hk hk2 => hun.2.2 k hk2 hk)
  have hin : ∀ k ∈ p :: (blk vi' ++ (blk kv' ++ (blk dv' ++ F))), k ∈ p :: (blk vi ++ (blk kv ++ (blk dv ++ F))) ∨ w.heap.size ≤ k := fun k hk => by
    rw [mem4] at hk ⊢
    rcases hk with hk | hk | hk | hk | hk
    · exact .inl (.inl hk)
    · rcases b1 k (mem_blk.1 hk) with h1 | h1
      · exact .inl (.inr (.inl h1))
      · exact .inr h1
    · rcases b2 k (mem_blk.1 hk) with h1 | h1
      · exact .inl (.inr (.inr (.inl h1)))
      · exact .inr h1
    · rcases b3 k (mem_blk.1 hk) with h1 | h1
      · exact .inl (.inr (.inr (.inr (.inl h1))))
      · exact .inr h1
    · exact .inl (.inr (.inr (.inr (.inr hk))))
  have hlt : ∀ k ∈ p :: (blk vi' ++ (blk kv' ++ (blk dv' ++ F))), k < w'.heap.size := fun k hk => by
    rw [mem4] at hk
    rcases hk with hk | hk | hk | hk | hk
    · rw [hk]; exact (Array.getElem?_eq_some_iff.1 hr.cells).1
    · exact hr.its.choose_spec.2.1.lt (mem_blk.1 hk)
    · exact hr.ks.choose_spec.2.1.lt (mem_blk.1 hk)
    · exact hr.ds.1.lt (mem_blk.1 hk)
    · exact (hch.free k hk).2.2.2
  have hty : ∀ {k : Nat} {c c' : Array Value} {T T' : TypeId}, w'.heap[k]? = some (.cells c T (0, 0)) → w'.heap[k]? = some (.cells c' T' (0, 0)) → T = T' := fun h1 h2 => by
    rw [h1] at h2
    simp only [Option.some.injEq, Obj.cells.injEq] at h2
    exact h2.2.1
  have hone : ∀ v : Value, (blk v).Nodup := fun v => by unfold blk; split <;> simp
  have hFn : ∀ k ∈ F, ∀ {v v0 : Value}, (∀ j, v.ownBlock = some j → j ∈ blk v0 ∨ w.heap.size ≤ j) → (∀ j ∈ blk v0, j ∉ F) → k ∉ blk v := fun k hk v v0 hb hd hkv => by
    rcases hb k (mem_blk.1 hkv) with h1 | h1
    · exact hd k h1 hk
    · have := (h.ch.free k hk).2.2.2
      omega
  refine ⟨vi', kv', dv', ⟨hr, hch, ?_, fun k hk => ?_⟩, ht.mono (fun k hk => ?_), hin, hv, hso⟩
  · have k1 : ∀ k ∈ blk vi', ∃ c, w'.heap[k]? = some (.cells c 34 (0, 0)) := fun k hk => hr.its.block (mem_blk.1 hk)
    have k2 : ∀ k ∈ blk kv', ∃ c, w'.heap[k]? = some (.cells c 31 (0, 0)) := fun k hk => hr.ks.block (mem_blk.1 hk)
    have k3 : ∀ k ∈ blk dv', ∃ c, w'.heap[k]? = some (.cells c 39 (0, 0)) := fun k hk => hr.ds.block (mem_blk.1 hk)
    rw [List.nodup_cons, List.nodup_append, List.nodup_append, List.nodup_append]
    refine ⟨fun hm => ?_, hone _, ⟨hone _, ⟨hone _, hun.2.1, fun a ha b hb hab => ?_⟩, fun a ha b hb hab => ?_⟩, fun a ha b hb hab => ?_⟩
    · simp only [List.mem_append] at hm
      rcases hm with hm | hm | hm | hm
      · obtain ⟨c, hc⟩ := k1 p hm
        exact absurd (hty hc hr.cells) ty_bk2.1
      · obtain ⟨c, hc⟩ := k2 p hm
        exact absurd (hty hc hr.cells) ty_bk2.2.1
      · obtain ⟨c, hc⟩ := k3 p hm
        exact absurd (hty hc hr.cells) ty_bk2.2.2
      · exact hun.2.2 p (by simp) hm
    · subst hab
      exact hFn a hb b3 (fun j hj => hun.2.2 j (by simp [hj])) ha
    · subst hab
      simp only [List.mem_append] at hb
      obtain ⟨c, hc⟩ := k2 a ha
      rcases hb with hb | hb
      · obtain ⟨c', hc'⟩ := k3 a hb
        exact absurd (hty hc hc') ty_bk3.1
      · exact hFn a hb b2 (fun j hj => hun.2.2 j (by simp [hj])) ha
    · subst hab
      simp only [List.mem_append] at hb
      obtain ⟨c, hc⟩ := k1 a ha
      rcases hb with hb | hb | hb
      · obtain ⟨c', hc'⟩ := k2 a hb
        exact absurd (hty hc hc') (Ne.symm ty_bk3.2.1)
      · obtain ⟨c', hc'⟩ := k3 a hb
        exact absurd (hty hc hc') (Ne.symm ty_bk3.2.2)
      · exact hFn a hb b1 (fun j hj => hun.2.2 j (by simp [hj])) ha
  · rcases hin k hk with h1 | h1
    · obtain ⟨a1, a2, a3, a4⟩ := h.fr k h1
      exact ⟨a1, a2, a3, hlt k hk⟩
    · exact ⟨hnew k h1, by omega, by omega, hlt k hk⟩
  · rw [mem4]
    simp only [List.mem_cons, List.mem_append] at hk
    rcases hk with hk | hk | hk | hk <;> simp [hk]
theorem St6.stay {own : Own} {W : World} {g : Nat} {w w' : World} {p : Nat} {it : Bool} {vi kv dv up : Value} {its : List NIt} {es : List KE} {rest : List (List KE)} {F : List Nat} (h : St6 own W g w p it vi kv dv up its es rest F) (hb : Below w.heap.size w w') : St6 own W g w' p it vi kv dv up its es rest F := by
  have ht : Turns g [] own own w w' := Turns.below hb
  have kp : ∀ {k : Nat}, k < w.heap.size → w'.heap[k]? = w.heap[k]? := fun hk => hb.block _ hk
  exact ⟨⟨(kp (Array.getElem?_eq_some_iff.1 h.row.cells).1).trans h.row.cells, h.row.its.turns ht (fun k hk => kp (h.row.its.choose_spec.2.1.lt hk)), h.row.ks.turns ht (fun k hk => kp (h.row.ks.choose_spec.2.1.lt hk)), h.row.ds.stay (fun k hk => kp (h.row.ds.1.lt hk))⟩,
    h.ch.stay ht (fun k hk => kp (h.ch.free k hk).2.2.2), h.nd, fun k hk => ⟨(h.fr k hk).1, (h.fr k hk).2.1, (h.fr k hk).2.2.1, Nat.lt_of_lt_of_le (h.fr k hk).2.2.2 hb.size⟩⟩
theorem Told.back {R : Int} {C' : List Nat} {lf : Nat} {W : World} {g a : Nat} {own own1 : Own} {p : Nat} {it : Bool} {F0 F1 : List Nat} {its' : List NIt} {lv' : List (List KE)} {w w1 : World} {v : Int} {w' : World} {lf1 : Nat} (h : Told R C' lf1 W g a own1 p it F1 its' lv' w1 v w') (hl : lf1 ≤ lf) (ht : Turns g F0 own own1 w w1) (hF : ∀ k ∈ F1, k ∈ F0 ∨ w.heap.size ≤ k) :
    Told R C' lf W g a own p it F0 its' lv' w v w' := by
  rcases h with ⟨rfl, own2, lf2, vi, kv, dv, up, es, rest, F, h1, h2, h3, h4, h5, h6, h7⟩ | ⟨h1, rfl, own2, h2⟩
  · refine .inl ⟨rfl, own2, lf2, vi, kv, dv, up, es, rest, F, h1, Nat.le_trans h2 hl, h3, h4, fun k hk => ?_, ht.trans h6 hF, h7⟩
    rcases h5 k hk with h8 | h8
    · exact hF k h8
    · exact .inr (Nat.le_trans ht.size h8)
  · exact .inr ⟨by omega, rfl, own2, ht.trans h2 hF⟩
theorem take_step {R : Int} {W : World} {g a : Nat} {es : List KE} {rest : List (List KE)} (hT : es.length + 1 < 12 ∨ ∃ es0 rest0, ((rest = [] ∧ es0 = [] ∧ rest0 = []) ∨ rest = es0 :: rest0) ∧ TakeSpec R W g a es0 rest0) : TakeSpec R W g a es rest := by
  intro own w p kv dv up F C lf e key hs hf hlf hk hk1 ho hB
  have hnew : ∀ k, w.heap.size ≤ k → own k = none := fun k hk => hf.new_none hk
  have hgl := hf.glt
  have hfew := hB.few es (by simp)
  have hsum := hB.sum
  refine takeKid_bk hs.row (by omega) hnew hk ⟨by omega, by omega⟩ (fun w' h6 => ?_)
  obtain ⟨vi', kv', dv', hs', ht', hF', hv', hso⟩ := hs.took hnew hgl.1 hgl.2.2 h6
  obtain rfl := hv' rfl
  have hf' : BkF R C lf W g a own w' := hf.sole hso (fun k hk => by
    have := hs.fr k (by rw [mem4]; simp only [List.mem_cons, List.mem_append] at hk; rcases hk with hk | hk | hk | hk <;> simp [hk])
    exact ⟨this.1, this.2.1, this.2.2.1⟩)
  refine eased_bk hs'.row (by simp; omega) (fun h12 w2 hb => ?_) (fun h12 w2 hb => ?_)
  · have hl : es.length + 1 < 12 := by simpa using h12
    rw [takeK_few hl]
    refine .inl ⟨rfl, own, lf, _, kv', dv', up, es ++ [e], rest, F, rfl, Nat.le_refl _, fun _ => rfl, hs'.stay hb, hF', ht'.trans (Turns.below (F := []) hb) (by simp), hf'.stay hb⟩
  · have hl : ¬ es.length + 1 < 12 := by simp at h12; omega
    have hT' := hT.resolve_left hl
    obtain ⟨es0, rest0, hup, hT0⟩ := hT'
    rw [takeK_full hl] at hB ⊢
    dsimp only at hB ⊢
    have hln : (es ++ [e]).length = 12 := by simp; omega
    have hkl : ∀ x ∈ es ++ [e], x.k.length ≤ 1000 := fun x hx => by
      rcases List.mem_append.1 hx with hx | hx
      · exact hB.small es (by simp) x hx
      · obtain rfl : x = e := by simpa using hx
        exact hk1
    have hct : sumK (((es ++ [e]).take 8).map (·.d)) ≤ sumK (es.map (·.d)) + e.d.ct := by
      rw [List.map_take]
      refine Nat.le_trans (sumK_takeN _ _) ?_
      rw [List.map_append, sumK_app]
      simp [sumK]
    have hsD : sumD (es :: rest) = sumK (es.map (·.d)) + sumD rest := by simp [sumD]
    have hs2 := hs'.stay hb
    have hf2 := hf'.stay hb
    have hcut := cut_by_kids hs2.row (n := 8) (by omega)
    have hroom := hB.room
    have hrest : takeK (layE C ((es ++ [e]).take 8)).1 rest (layE C ((es ++ [e]).take 8)).2 = takeK (C ++ recOf 2 (putNd (ndE ((es ++ [e]).take 8)))) (es0 :: rest0) (layE C ((es ++ [e]).take 8)).2 := by
      rcases hup with ⟨rfl, rfl, rfl⟩ | rfl
      · exact takeK_nil _ _
      · rfl
    have hB0 : Bd R (es0 :: rest0) (takeK (C ++ recOf 2 (putNd (ndE ((es ++ [e]).take 8)))) (es0 :: rest0) (layE C ((es ++ [e]).take 8)).2).1 (layE C ((es ++ [e]).take 8)).2.d.ct := by
      rw [← hrest]
      have hct2 : (layE C ((es ++ [e]).take 8)).2.d.ct ≤ sumK (es.map (·.d)) + e.d.ct := hct
      rcases hup with ⟨rfl, rfl, rfl⟩ | rfl
      · refine ⟨hroom, hB.len, fun x hx => ?_, fun x hx => ?_, ?_⟩
        · obtain rfl : x = [] := by simpa using hx
          exact Nat.zero_le _
        · obtain rfl : x = [] := by simpa using hx
          exact fun y hy => by cases hy
        · rw [hsD] at hsum
          have : sumD ([[]] : List (List KE)) = 0 := rfl
          omega
      · refine ⟨hroom, hB.len, fun x hx => hB.few x (List.mem_cons_of_mem _ hx), fun x hx => hB.small x (List.mem_cons_of_mem _ hx), ?_⟩
        rw [hsD] at hsum
        omega
    have hkx : (layE C ((es ++ [e]).take 8)).2.k = lst (ndE ((es ++ [e]).take 8)) := (lst_ndE _).symm
    have hkx1 : (layE C ((es ++ [e]).take 8)).2.k.length ≤ 1000 := headE_len (fun x hx => hkl x (List.mem_of_mem_take hx))
    have hcx : (layE C ((es ++ [e]).take 8)).2.d.ct = cnt (ndE ((es ++ [e]).take 8)) := (cnt_ndE _).symm
    have hsx : sumCt (ndE ((es ++ [e]).take 8)).kids ≤ 17592186044416 := by
      rw [sumCt_eq]
      show sumK (((es ++ [e]).take 8).map (·.d)) ≤ _
      omega
    have ht2 : Turns g (p :: (blk (.slice none 0 0) ++ (blk kv ++ (blk dv ++ F)))) own own w w2 := ht'.trans (Turns.below (F := []) hb) (by simp)
    rw [hrest]
    rcases hup with ⟨rfl, rfl, rfl⟩ | rfl
    · have hup0 : up = .pointer none := by cases hs.ch; rfl
      subst hup0
      refine (lay_kids_top hs2 hf2 hlf hcut hkx hkx1 rfl hcx hsx (fun _ => rfl) ⟨rfl, rfl⟩ hT0 hB0).mono ?_
      rintro z wz ⟨v, rfl, hv⟩
      exact ⟨v, rfl, hv.back (Nat.le_refl _) ht2 hF'⟩
    · obtain ⟨q, rfl⟩ : ∃ q, up = .pointer (some ⟨q, 0, none⟩) := by cases hs.ch; exact ⟨_, rfl⟩
      refine (lay_kids_mid hs2 hf2 hlf hcut hkx hkx1 rfl hcx hsx (fun _ => rfl) hT0 hB0).mono ?_
      rintro z wz ⟨v, rfl, hv⟩
      exact ⟨v, rfl, hv.back (Nat.le_refl _) ht2 hF'⟩
theorem take_spec (R : Int) (W : World) (g a : Nat) : ∀ (rest : List (List KE)) (es : List KE), TakeSpec R W g a es rest
  | [], es => take_step (.inr ⟨[], [], .inl ⟨rfl, rfl, rfl⟩, take_step (.inl (by simp))⟩)
  | es0 :: rest0, es => take_step (.inr ⟨es0, rest0, .inr rfl, take_spec R W g a rest0 es0⟩)
end Go.Proofs.Ytajfcnaifegonaa.Sl.Nd
/- Rows made trees, in a program: an item comes. -/
namespace Go.Proofs.Ytajfcnaifegonaa.Sl.Nd
open Go Go.RowKit Go.By
structure ItSt (own : Own) (g : Nat) (w0 : World) (p : Nat) (vi kv dv up : Value) (es : List KE) (vx : Value) (K : List NIt) (A0 : Nat) (a b : Value) (w : World) : Prop where
  tn : Turns g (p :: blk vi) own own w0 w
  row : w.heap[p]? = some (.cells (rowC p g true vi kv dv up) 82 (0, 0))
  box : w.heap[A0]? = some (.cells #[a, b] 34 (0, 0))
  its : ItT own w vx K
  ky : KyT own w kv (es.map (·.k))
  kd : KdT w dv (es.map (·.d))
  kb : ∀ k, vx.ownBlock = some k → (k ∈ blk vi ∨ w0.heap.size ≤ k) ∧ k ≠ A0
  so : Sole (p :: blk vi) w0 w
section
variable {own : Own} {g : Nat} {w0 : World} {p : Nat} {vi kv dv up : Value} {es : List KE} {vx : Value} {K : List NIt} {A0 : Nat} {a b : Value} {w : World}
theorem ItSt.below {w' : World} (h : ItSt own g w0 p vi kv dv up es vx K A0 a b w) (hb : Below w.heap.size w w') : ItSt own g w0 p vi kv dv up es vx K A0 a b w' := by
  have kp : ∀ {j : Nat} {x : Obj}, w.heap[j]? = some x → w'.heap[j]? = some x := fun hj => (hb.block _ (Array.getElem?_eq_some_iff.1 hj).1).trans hj
  have ht : Turns g [] own own w w' := Turns.below hb
  exact ⟨h.tn.trans ht (by simp), kp h.row, kp h.box, h.its.turns ht (fun k hk => hb.block k (h.its.choose_spec.2.1.lt hk)), h.ky.turns ht (fun k hk => hb.block k (h.ky.choose_spec.2.1.lt hk)), h.kd.stay (fun k hk => hb.block k (h.kd.1.lt hk)), h.kb, h.so.trans (Sole.below (F := []) hb) (by simp)⟩
theorem ItSt.item {c : Nat} {x y : Value} {it : NIt} (h : ItSt own g w0 p vi kv dv up es vx K A0 a b w) (hA : A0 < w.heap.size) (hn : K.length ≤ 1000000) (hx : TxtO own w x it.k) (hy : TxtO own w y it.v) (hx1 : x.oneCell' = true ∧ y.oneCell' = true) (h0 : w.cell? ⟨c, 0, none⟩ = some x) (h1 : w.cell? ⟨c, 1, none⟩ = some y) :
    ∃ v' w', (Builtin.append_ #[30, 30] 30 #[vx, .slice (some ⟨c, 0, none⟩) 1 1]).run Try.prog w = .ok v' w' ∧ ItSt own g w0 p vi kv dv up es v' (K ++ [it]) A0 a b w' := by
  obtain ⟨v', w', hr, hit, hg⟩ := h.its.app hn hx hy hx1 h0 h1
  have ht : Turns g (blk vx) own own w w' := Turns.grows hg (fun _ hk => hk) h.its.choose_spec.2.1 ty_bk.1
  have kp : ∀ {j : Nat} {c : Array Value} {T : TypeId} {fr : Nat × Nat}, w.heap[j]? = some (.cells c T fr) → 34 ≠ T → w'.heap[j]? = some (.cells c T fr) := fun {j c T fr} hj hT => (hg.block (Array.getElem?_eq_some_iff.1 hj).1 (h.its.choose_spec.2.1.ne hj hT)).trans hj
  have hin : ∀ k ∈ blk vx, k ∈ p :: blk vi ∨ w0.heap.size ≤ k := fun k hk => by
    rcases (h.kb k (mem_blk.1 hk)).1 with h1 | h1
    · exact .inl (by simp [h1])
    · exact .inr h1
  refine ⟨v', w', hr, ⟨h.tn.trans ht hin, kp h.row ty_bk2.1, (hg.block hA (fun e => (h.kb _ e).2 rfl)).trans h.box, hit, h.ky.turns ht (fun k hk => ?_), h.kd.stay (fun k hk => ?_), fun k hk => ?_, h.so.trans (Sole.grows (F := blk vx) hg (fun k hk => mem_blk.2 hk)) hin⟩⟩
  · obtain ⟨cur, hc⟩ := h.ky.block hk
    rw [kp hc (by decide), hc]
  · obtain ⟨cur, hc⟩ := h.kd.block hk
    rw [kp hc (by decide), hc]
  · rcases hg.new with e | ⟨j, e, hj⟩
    · exact h.kb k (by rw [← e]; exact hk)
    · rw [e] at hk
      cases hk
      exact ⟨.inr (Nat.le_trans h.tn.size hj), by omega⟩
theorem ItSt.fin (h : ItSt own g w0 p vi kv dv up es vx K A0 a b w) : Took6 own g w0 p true vi kv dv up K es (w.setCell ⟨p, 0, none⟩ vx) := by
  have ho : Only p w (w.setCell ⟨p, 0, none⟩ vx) := Only.set p 0 w vx
  have ht : Turns g [p] own own w (w.setCell ⟨p, 0, none⟩ vx) := Turns.only ho (by simp) h.row ty_bk.2.2.2.1
  have hne : ∀ {k : Nat} {cur : Array Value} {T : TypeId}, w.heap[k]? = some (.cells cur T (0, 0)) → T ≠ 82 → (w.setCell ⟨p, 0, none⟩ vx).heap[k]? = w.heap[k]? := fun {k cur T} hc hT => ho.block k (Array.getElem?_eq_some_iff.1 hc).1 (fun e => by
    rw [e, h.row] at hc
    simp only [Option.some.injEq, Obj.cells.injEq] at hc
    exact hT hc.2.1.symm)
  have hso := h.so.trans (Sole.only (F := [p]) ho (by simp)) (by simp)
  refine ⟨vx, kv, dv, ⟨heap_setCell_same _ p 0 _ _ _ h.row, h.its.turns ht (fun k hk => ?_), h.ky.turns ht (fun k hk => ?_), h.kd.stay (fun k hk => ?_)⟩, (h.tn.trans ht (by simp)).mono (fun k hk => ?_), fun k hk => (h.kb k hk).1, fun k hk => .inl (mem_blk.2 hk), fun k hk => .inl (mem_blk.2 hk), (fun e => (by cases e)), ⟨hso.os, hso.tape, hso.output, hso.size, fun k hk hn => hso.block k hk (fun hm => hn ?_)⟩⟩
  · obtain ⟨cur, hc⟩ := h.its.block hk
    exact hne hc ty_bk2.1
  · obtain ⟨cur, hc⟩ := h.ky.block hk
    exact hne hc ty_bk2.2.1
  · obtain ⟨cur, hc⟩ := h.kd.block hk
    exact hne hc ty_bk2.2.2
  · left
    simp only [List.mem_cons, List.mem_append] at hk ⊢
    rcases hk with hk | hk <;> simp [hk]
  · simp only [List.mem_cons, List.mem_append] at hm ⊢
    rcases hm with hm | hm <;> simp [hm]
end
set_option maxRecDepth 100000 in
set_option maxHeartbeats 4000000 in
theorem takeItem_bk {own : Own} {g : Nat} {w : World} {p : Nat} {vi kv dv up a b : Value} {its : List NIt} {es : List KE} {it : NIt} {R : Int → World → Prop} (h : Row6 own g w p true vi kv dv up its es) (hn : its.length ≤ 1000000) (hnew : ∀ k, w.heap.size ≤ k → own k = none)
    (ha : Bytes w a it.k) (hb : Bytes w b it.v) (hk : it.k.length ≤ 1000000 ∧ it.v.length ≤ 1000000)
    (hE : ∀ w', Took6 own g w p true vi kv dv up (its ++ [it]) es w' → Calls Try.prog 39 #[.pointer (some ⟨p, 0, none⟩)] w' (Ret R)) :
    Calls Try.prog 22 #[.pointer (some ⟨p, 0, none⟩), .agg #[a, b]] w (Ret R) := by
  obtain ⟨pa, ca, rfl, -⟩ := ha.any
  obtain ⟨pb, cb, rfl, -⟩ := hb.any
  obtain ⟨pi, ci, rfl, hri⟩ := h.its.row
  have hsm : (∀ c ∈ it.k, c < 256) ∧ ∀ c ∈ it.v, c < 256 := ⟨ha.small, hb.small⟩
  obtain ⟨W1, hW1⟩ : ∃ W1, W1 = w.alloc (.cells #[.slice pa it.k.length ca, .slice pb it.v.length cb] 34) := ⟨_, rfl⟩
  have hb1 : Below w.heap.size w W1 := by rw [hW1]; exact (Below.refl _ _).alloc (Nat.le_refl _) _
  have hpl : p < w.heap.size := (Array.getElem?_eq_some_iff.1 h.cells).1
  have hX1 : W1.heap[w.heap.size]? = some (.cells #[.slice pa it.k.length ca, .slice pb it.v.length cb] 34 (0, 0)) := by rw [hW1]; exact heap_alloc_new w _
  have ht1 : Turns g [] own own w W1 := Turns.below hb1
  have HP1 : Hid (ItSt own g w p (.slice pi its.length ci) kv dv up es (.slice pi its.length ci) its w.heap.size (.slice pa it.k.length ca) (.slice pb it.v.length cb) W1) := ⟨ht1.mono (by simp), (hb1.block _ hpl).trans h.cells, hX1, h.its.turns ht1 (fun k hk => hb1.block k (h.its.choose_spec.2.1.lt hk)), h.ks.turns ht1 (fun k hk => hb1.block k (h.ks.choose_spec.2.1.lt hk)), h.ds.stay (fun k hk => hb1.block k (h.ds.1.lt hk)), fun k hk => ⟨.inl (mem_blk.2 hk), by have := h.its.choose_spec.2.1.lt hk; omega⟩, Sole.below hb1⟩
  have HCA : Hid (∀ wx, Below W1.heap.size W1 wx → Calls Try.prog 38 #[.slice pa it.k.length ca] wx fun e w' => ∃ v', e = .returned v' ∧ w'.ownsRow wx.heap.size 5 1 v' it.k.length (cellsOf it.k) ∧ Below wx.heap.size wx w') := fun wx hx => clone_any _ _ _ ((ha.below hb1).below hx) (by omega)
  have HCB : Hid (∀ wx, Below W1.heap.size W1 wx → Calls Try.prog 38 #[.slice pb it.v.length cb] wx fun e w' => ∃ v', e = .returned v' ∧ w'.ownsRow wx.heap.size 5 1 v' it.v.length (cellsOf it.v) ∧ Below wx.heap.size wx w') := fun wx hx => clone_any _ _ _ ((hb.below hb1).below hx) (by omega)
  have HNW : Hid (∀ wx : World, w.heap.size ≤ wx.heap.size → ∀ k, wx.heap.size ≤ k → own k = none) := fun wx hx k hk => hnew k (Nat.le_trans hx hk)
  have HS1 : Hid (w.heap.size < W1.heap.size) := (Array.getElem?_eq_some_iff.1 hX1).1
  have s0 : W1.cell? ⟨p, 0, none⟩ = some (.slice pi its.length ci) := cells_of HP1.out.row 0
  have r0 : W1.cell? ⟨w.heap.size, 0, none⟩ = some (.slice pa it.k.length ca) := cells_of HP1.out.box 0
  have r1 : W1.cell? ⟨w.heap.size, 1, none⟩ = some (.slice pb it.v.length cb) := cells_of HP1.out.box 1
  have HW1 := Lib.hid hW1; have HSM := Lib.hid hsm; have HKL := Lib.hid hk; have HN := Lib.hid hn; have HE := Lib.hid hE
  have HB1 := Lib.hid hb1
  clear h hn hnew ha hb hk hE hri hsm hW1 hb1 hpl hX1 ht1
  generalize hla : it.k.length = la at *
  generalize hlb : it.v.length = lb at *
  have HLA := Lib.hid hla; have HLB := Lib.hid hlb
  clear hla hlb
  obtain ⟨L, hL⟩ : ∃ L, L = its.length := ⟨_, rfl⟩
  have HL := Lib.hid hL
  rw [← hL] at s0
  clear hL
  go_enter Try.func22, Try.ntmps22
  go_wp2_with fail
  rw [← HW1.out]
  refine wp_region_heldD (S := fun _ => True) (by kernel_rfl) ?_
  refine wpAnyH_takeAt 0 5 ((.pointer (some ⟨p, 0, none⟩))) rfl rfl (by kernel_rfl) (by kernel_rfl) (by kernel_rfl) (fun _ _ _ h => h) (Or.inl ⟨by rfl, fun w h => by (try dsimp only at h); (try go_split_ands); go_simp⟩) trivial ?_
  try simp only [Act.put, arr0, arr1, arr2]
  refine wpAnyH_takeAt 1 6 ((.pointer (some ⟨p, 0, none⟩))) rfl rfl (by kernel_rfl) (by kernel_rfl) (by kernel_rfl) (fun _ _ _ h => h) (Or.inl ⟨by rfl, fun w h => by (try dsimp only at h); (try go_split_ands); go_simp⟩) trivial ?_
  try simp only [Act.put, arr0, arr1, arr2]
  refine wpAnyH_takeAt 2 7 ((.pointer (some ⟨p, 0, none⟩))) rfl rfl (by kernel_rfl) (by kernel_rfl) (by kernel_rfl) (fun _ _ _ h => h) (Or.inl ⟨by rfl, fun w h => by (try dsimp only at h); (try go_split_ands); go_simp⟩) trivial ?_
  try simp only [Act.put, arr0, arr1, arr2]
  refine wpAnyH_takeAt 3 8 ((.pointer (some ⟨p, 0, none⟩))) rfl rfl (by kernel_rfl) (by kernel_rfl) (by kernel_rfl) (fun _ _ _ h => h) (Or.inl ⟨by rfl, fun w h => by (try dsimp only at h); (try go_split_ands); go_simp⟩) trivial ?_
  try simp only [Act.put, arr0, arr1, arr2]
  refine wpAnyH_takeAt 5 10 ((.pointer (some ⟨w.heap.size, 0, none⟩))) rfl rfl (by kernel_rfl) (by kernel_rfl) (by kernel_rfl) (fun _ _ _ h => h) (Or.inl ⟨by rfl, fun w h => by (try dsimp only at h); (try go_split_ands); go_simp⟩) trivial ?_
  try simp only [Act.put, arr0, arr1, arr2]
  refine wpAnyH_takeAt 8 13 ((.pointer (some ⟨w.heap.size, 1, none⟩))) rfl rfl (by kernel_rfl) (by kernel_rfl) (by kernel_rfl) (fun _ _ _ h => h) (Or.inl ⟨by rfl, fun w h => by (try dsimp only at h); (try go_split_ands); go_simp⟩) trivial ?_
  try simp only [Act.put, arr0, arr1, arr2]
  refine wpAnyH_cut (S := (fun w' => w'.cell? ⟨p, 0, none⟩ = some (.slice pi L ci) ∧ w'.cell? ⟨w.heap.size, 0, none⟩ = some (.slice pa la ca) ∧ w'.cell? ⟨w.heap.size, 1, none⟩ = some (.slice pb lb cb))) (ex := [0, 1, 2, 3, 5, 8]) (head := ?hd16) (n := 16) ?p116 rfl rfl ?p316 ?_
  case p116 => (simp only [List.pop_toArray, List.dropLast]; rfl)
  case p316 => kernel_rfl
  have hHeld : (fun w' => w'.cell? ⟨p, 0, none⟩ = some (.slice pi L ci) ∧ w'.cell? ⟨w.heap.size, 0, none⟩ = some (.slice pa la ca) ∧ w'.cell? ⟨w.heap.size, 1, none⟩ = some (.slice pb lb cb)) W1.drew := ⟨s0, r0, r1⟩
  refine wpAnyH_takeAt 4 9 (.slice pi L ci) rfl rfl (by kernel_rfl) (by kernel_rfl) (by kernel_rfl) (fun _ _ _ h => h) (Or.inl ⟨by rfl, fun w h => by (try dsimp only at h); (try go_split_ands); go_simp⟩) hHeld ?_
  try simp only [Act.put, arr0, arr1, arr2]
  refine wpAnyH_takeAt 6 11 (.slice pa la ca) rfl rfl (by kernel_rfl) (by kernel_rfl) (by kernel_rfl) (fun _ _ _ h => h) (Or.inl ⟨by rfl, fun w h => by (try dsimp only at h); (try go_split_ands); go_simp⟩) hHeld ?_
  try simp only [Act.put, arr0, arr1, arr2]
  refine wpAnyH_takeAt 9 14 (.slice pb lb cb) rfl rfl (by kernel_rfl) (by kernel_rfl) (by kernel_rfl) (fun _ _ _ h => h) (Or.inl ⟨by rfl, fun w h => by (try dsimp only at h); (try go_split_ands); go_simp⟩) hHeld ?_
  try simp only [Act.put, arr0, arr1, arr2]
  refine wpAnyH_one 7 (by kernel_rfl) (fun K hK => ?_)
  refine wpOp_as rfl rfl 12 (.call { callee := .value (.func 38), args := #[.tmp 11], argTypes := #[31] }) 31 rfl rfl rfl ?_
  go_simp
  go_at_call 38
  refine (HCA.out W1.drew ((Below.refl _ _).drew)).mono ?_
  rintro e3 w3 ⟨v3, rfl, o3, b3⟩
  have h3 := (HP1.out.below ((Below.refl W1.heap.size W1).drew)).below b3
  have x3 : TxtO own w3 v3 it.k := TxtO.of_new (by rw [HLA.out]; exact o3) HSM.out.1 (by rw [HLA.out]; have := HKL.out.1; unfold maxLen; omega) (HNW.out _ (Nat.le_of_lt HS1.out))
  have B3 : Below W1.heap.size W1 w3 := ((Below.refl W1.heap.size W1).drew).trans b3
  obtain ⟨q3, d3, rfl, -⟩ := x3.bytes.any
  refine hK _ _ ⟨by rw [HL.out]; exact cells_of (h3).row 0, cells_of (h3).box 0, cells_of (h3).box 1⟩ (fun hHeld => ?_)
  clear hK K o3 b3
  try simp only [Act.put, arr0, arr1, arr2]
  refine wpAnyH_one 10 (by kernel_rfl) (fun K hK => ?_)
  refine wpOp_as rfl rfl 15 (.call { callee := .value (.func 38), args := #[.tmp 14], argTypes := #[31] }) 31 rfl rfl rfl ?_
  go_simp
  go_at_call 38
  refine (HCB.out w3 B3).mono ?_
  rintro e4 w4 ⟨v4, rfl, o4, b4⟩
  have h4 := h3.below b4
  have x4 : TxtO own w4 v4 it.v := TxtO.of_new (by rw [HLB.out]; exact o4) HSM.out.2 (by rw [HLB.out]; have := HKL.out.2; unfold maxLen; omega) (HNW.out _ h3.tn.size)
  have y4 : TxtO own w4 (.slice q3 it.k.length d3) it.k := x3.turns (F := []) (g := g) (Turns.below b4)
  obtain ⟨q4, d4, rfl, -⟩ := x4.bytes.any
  rw [HLB.out] at x4
  rw [HLA.out] at y4
  rw [HLB.out, HLA.out]
  refine hK _ _ ⟨by rw [HL.out]; exact cells_of (h4).row 0, cells_of (h4).box 0, cells_of (h4).box 1⟩ (fun hHeld => ?_)
  clear hK K o4 b4
  try simp only [Act.put, arr0, arr1, arr2]
  refine wpAnyH_takeAt 11 16 (.agg #[.slice q3 la d3, .slice q4 lb d4]) rfl rfl (by kernel_rfl) (by kernel_rfl) (by kernel_rfl) (fun _ _ _ h => h) (Or.inl ⟨by rfl, fun w h => by (try dsimp only at h); (try go_split_ands); go_simp⟩) hHeld ?_
  try simp only [Act.put, arr0, arr1, arr2]
  refine wpAnyH_one 12 (by kernel_rfl) (fun K hK => ?_)
  refine wpOp_as rfl rfl 17 (.buildSlice 30 1 #[(0, .tmp 16)]) 30 rfl rfl rfl ?_
  go_simp
  have b5 : Below w4.heap.size w4 (w4.alloc (.cells #[.slice q3 la d3, .slice q4 lb d4] 34)) := (Below.refl _ _).alloc (Nat.le_refl _) _
  have hg5 := heap_alloc_new w4 (.cells #[.slice q3 la d3, .slice q4 lb d4] 34)
  have h5 := h4.below b5
  have x5 : TxtO own _ _ it.v := x4.turns (F := []) (g := g) (Turns.below b5)
  have y5 : TxtO own _ _ it.k := y4.turns (F := []) (g := g) (Turns.below b5)
  refine hK _ _ ⟨by rw [HL.out]; exact cells_of (h5).row 0, cells_of (h5).box 0, cells_of (h5).box 1⟩ (fun hHeld => ?_)
  clear hK K
  try simp only [Act.put, arr0, arr1, arr2]
  refine wpAnyH_one 13 (by kernel_rfl) (fun K hK => ?_)
  refine wpOp_if rfl rfl ?_
  refine step_appB rfl (.tmp 9) (.tmp 17) 30 30 rfl (.slice pi L ci) _ rfl rfl (by rw [HL.out]; exact ItSt.item h5 (Array.getElem?_eq_some_iff.1 h5.box).1 HN.out y5 x5 ⟨rfl, rfl⟩ (cells_of hg5 0) (cells_of hg5 1)) ?_
  rintro v6 w6 h6
  refine hK _ _ ⟨by rw [HL.out]; exact cells_of (h6).row 0, cells_of (h6).box 0, cells_of (h6).box 1⟩ (fun hHeld => ?_)
  clear hK K
  try simp only [Act.put, List.setIfInBounds_toArray]
  refine wpAnyH_takeAt 14 19 ((.pointer (some ⟨p, 0, none⟩))) rfl rfl (by kernel_rfl) (by kernel_rfl) (by kernel_rfl) (fun _ _ _ h => h) (Or.inl ⟨by rfl, fun w h => by (try dsimp only at h); (try go_split_ands); go_simp⟩) hHeld ?_
  try simp only [Act.put]
  refine wpAnyH_takeAt 15 20 ((.pointer (some ⟨p, 0, none⟩))) rfl rfl (by kernel_rfl) (by kernel_rfl) (by kernel_rfl) (fun _ _ _ h => h) (Or.inl ⟨by rfl, fun w h => by (try dsimp only at h); (try go_split_ands); go_simp⟩) hHeld ?_
  try simp only [Act.put]
  refine wpAnyH_done (by kernel_rfl) ?_ _
  have c6 : w6.cell? ⟨p, 0, none⟩ = some (.slice pi L ci) := by rw [HL.out]; exact cells_of h6.row 0
  have f6 := free_of h6.row 0
  have HFN := Lib.hid (HE.out _ h6.fin)
  obtain ⟨p6, k6, e6, -⟩ := h6.its.row
  subst e6
  generalize (its ++ [it]).length = L6 at *
  clear hHeld s0 r0 r1 h3 h4 h5 h6 x3 x4 y4 x5 y5 b5 hg5 B3
  refine popQ_st rfl rfl (.store 30 (.tmp 20) (.tmp 18)) 0 rfl rfl rfl ?_
  go_simp
  clear c6 f6
  go_wp2_with fail
  refine HFN.out.mono ?_
  rintro z wz ⟨rv, rfl, hz⟩
  go_wp2
  go_ret
  exact ⟨rv, rfl, hz⟩
end Go.Proofs.Ytajfcnaifegonaa.Sl.Nd
/- Rows made trees, in a program: whatever row is laid a node of; an item comes, however many levels turn. -/
namespace Go.By
open Go
def Smp (lvls : List (List KE)) : Prop := ∀ es ∈ lvls, es.length ≤ 11 ∧ ∀ x ∈ es, x.k.length ≤ 1000
theorem Smp.tail {es : List KE} {rest : List (List KE)} (h : Smp (es :: rest)) : Smp rest := fun x hx => h x (List.mem_cons_of_mem _ hx)
theorem Smp.cons {es : List KE} {rest : List (List KE)} (h1 : es.length ≤ 11) (h2 : ∀ x ∈ es, x.k.length ≤ 1000) (h : Smp rest) : Smp (es :: rest) := fun x hx => by
  rcases List.mem_cons.1 hx with rfl | hx
  · exact ⟨h1, h2⟩
  · exact h x hx
end Go.By
namespace Go.Proofs.Ytajfcnaifegonaa.Sl.Nd
open Go Go.RowKit Go.By
theorem sumD_cons (es : List KE) (rest : List (List KE)) : sumD (es :: rest) = sumK (es.map (·.d)) + sumD rest := by simp [sumD]
theorem sumD_nil : sumD [] = 0 := rfl
theorem takeK_smp : ∀ (lvls : List (List KE)) (C : List Nat) (e : KE), Smp lvls → e.k.length ≤ 1000 → Smp (takeK C lvls e).2 ∧ sumD (takeK C lvls e).2 = sumD lvls + e.d.ct
  | [], C, e, _, he => by
    refine ⟨Smp.cons (by simp) (fun x hx => ?_) (fun x hx => by cases hx), ?_⟩
    · obtain rfl : x = e := by simpa using hx
      exact he
    · show sumD [[e]] = _
      simp [sumD, sumK]
  | es :: rest, C, e, h, he => by
    have hes := h es (by simp)
    have hk : ∀ x ∈ es ++ [e], x.k.length ≤ 1000 := fun x hx => by
      rcases List.mem_append.1 hx with hx | hx
      · exact hes.2 x hx
      · obtain rfl : x = e := by simpa using hx
        exact he
    by_cases h12 : es.length + 1 < 12
    · rw [takeK_few h12]
      refine ⟨Smp.cons (by simp; omega) hk h.tail, ?_⟩
      rw [sumD_cons, sumD_cons, List.map_append, sumK_app]
      simp [sumK]; omega
    · rw [takeK_full h12]
      obtain ⟨h1, h2⟩ := takeK_smp rest (layE C ((es ++ [e]).take 8)).1 (layE C ((es ++ [e]).take 8)).2 h.tail (headE_len (fun x hx => hk x (List.mem_of_mem_take hx)))
      refine ⟨Smp.cons (by have := hes.1; simp; omega) (fun x hx => hk x (List.mem_of_mem_drop hx)) h1, ?_⟩
      dsimp only
      rw [sumD_cons, h2, sumD_cons]
      show sumK (((es ++ [e]).drop 8).map (·.d)) + (sumD rest + sumK (((es ++ [e]).take 8).map (·.d))) = _
      have := sumK_app (((es ++ [e]).take 8).map (·.d)) (((es ++ [e]).drop 8).map (·.d))
      rw [← List.map_append, List.take_append_drop, List.map_append, sumK_app] at this
      simp only [List.map_cons, List.map_nil, sumK] at this
      omega
structure Roomy (R : Int) (C : List Nat) : Prop where
  room : ((256 + C.length + 4105 : Nat) : Int) ≤ R ∧ R ≤ 1099511627776
  len : C.length ≤ 1000000
theorem Roomy.less {R : Int} {C C' : List Nat} (h : Roomy R C') (hl : C.length ≤ C'.length) : Roomy R C := ⟨by have := h.room; omega, by have := h.len; omega⟩
theorem bd_of {R : Int} {C' : List Nat} {rest es0r : List (List KE)} {es0 : List KE} {x : KE} (hup : (rest = [] ∧ es0 = [] ∧ es0r = []) ∨ rest = es0 :: es0r) (hm : Smp rest) (hs : sumD rest + x.d.ct ≤ 1099511627776) (hr : Roomy R C') : Bd R (es0 :: es0r) C' x.d.ct := by
  rcases hup with ⟨rfl, rfl, rfl⟩ | rfl
  · refine ⟨hr.room, hr.len, fun y hy => ?_, fun y hy => ?_, ?_⟩
    · obtain rfl : y = [] := by simpa using hy
      exact Nat.zero_le _
    · obtain rfl : y = [] := by simpa using hy
      exact fun z hz => by cases hz
    · have : sumD ([[]] : List (List KE)) = 0 := rfl
      rw [sumD_nil] at hs
      omega
  · exact ⟨hr.room, hr.len, fun y hy => (hm y hy).1, fun y hy => (hm y hy).2, hs⟩
theorem up_of {own : Own} {W : World} {g : Nat} {w : World} {up : Value} {rest : List (List KE)} {F : List Nat} (h : Chain own W g w up rest F) : (rest = [] ∧ up = .pointer none) ∨ ∃ q es0 rest0, rest = es0 :: rest0 ∧ up = .pointer (some ⟨q, 0, none⟩) := by
  cases h with
  | nil => exact .inl ⟨rfl, rfl⟩
  | cons => exact .inr ⟨_, _, _, rfl, rfl⟩
theorem lay_kids {R : Int} {C : List Nat} {lf a : Nat} {own : Own} {W : World} {g : Nat} {w : World} {p : Nat} {kv dv up : Value} {es : List KE} {rest : List (List KE)} {F : List Nat} {n : Nat}
    (hs : St6 own W g w p false (.slice none 0 0) kv dv up [] es rest F) (hf : BkF R C lf W g a own w) (hlf : lf < 1000000) (hn : n ≤ es.length) (hm : Smp (es :: rest)) (hsum : sumD (es :: rest) ≤ 1099511627776) (hr : Roomy R (takeK (layE C (es.take n)).1 rest (layE C (es.take n)).2).1) :
    Calls Try.prog 41 #[.pointer (some ⟨p, 0, none⟩), .int .i64 (n : Nat)] w (Ret (Told R (takeK (layE C (es.take n)).1 rest (layE C (es.take n)).2).1 lf W g a own p false (p :: (blk (.slice none 0 0) ++ (blk kv ++ (blk dv ++ F)))) [] (es.drop n :: (takeK (layE C (es.take n)).1 rest (layE C (es.take n)).2).2) w)) := by
  have hcut := cut_by_kids hs.row hn
  have hes := hm es (by simp)
  rw [sumD_cons] at hsum
  have hct : sumK ((es.take n).map (·.d)) ≤ sumK (es.map (·.d)) := by rw [List.map_take]; exact sumK_takeN _ _
  have hkx : (layE C (es.take n)).2.k = lst (ndE (es.take n)) := (lst_ndE _).symm
  have hkx1 : (layE C (es.take n)).2.k.length ≤ 1000 := headE_len (fun x hx => hes.2 x (List.mem_of_mem_take hx))
  have hcx : (layE C (es.take n)).2.d.ct = cnt (ndE (es.take n)) := (cnt_ndE _).symm
  have hsx : sumCt (ndE (es.take n)).kids ≤ 17592186044416 := by
    rw [sumCt_eq]
    show sumK ((es.take n).map (·.d)) ≤ _
    omega
  have hsx2 : sumD rest + (layE C (es.take n)).2.d.ct ≤ 1099511627776 := by
    have : (layE C (es.take n)).2.d.ct = sumK ((es.take n).map (·.d)) := rfl
    omega
  rcases up_of hs.ch with ⟨rfl, rfl⟩ | ⟨q, es0, rest0, rfl, rfl⟩
  · rw [takeK_nil] at hr ⊢
    exact lay_kids_top hs hf hlf hcut hkx hkx1 rfl hcx hsx (fun _ => rfl) ⟨rfl, rfl⟩ (take_spec R W g a [] []) (bd_of (.inl ⟨rfl, rfl, rfl⟩) hm.tail hsx2 hr)
  · exact lay_kids_mid hs hf hlf hcut hkx hkx1 rfl hcx hsx (fun _ => rfl) (take_spec R W g a rest0 es0) (bd_of (.inr rfl) hm.tail hsx2 hr)
theorem headI_len {a : List NIt} {m : Nat} (h : ∀ x ∈ a, x.k.length ≤ m) : (headI a).length ≤ m := by
  cases a with
  | nil => exact Nat.zero_le _
  | cons x r => exact h x (by simp)
theorem lay_items {R : Int} {C : List Nat} {lf a : Nat} {own : Own} {W : World} {g : Nat} {w : World} {p : Nat} {vi kv dv up : Value} {its : List NIt} {es : List KE} {rest : List (List KE)} {F : List Nat} {n : Nat}
    (hs : St6 own W g w p true vi kv dv up its es rest F) (hf : BkF R C lf W g a own w) (hlf : lf < 1000000) (hn : n ≤ its.length) (_hl : its.length ≤ 1000) (hk : ∀ x ∈ its, x.k.length ≤ 1000) (hm : Smp rest) (hsum : sumD rest + its.length ≤ 1099511627776) (hr : Roomy R (takeK (layI C (its.take n)).1 rest (layI C (its.take n)).2).1) :
    Calls Try.prog 41 #[.pointer (some ⟨p, 0, none⟩), .int .i64 (n : Nat)] w (Ret (Told R (takeK (layI C (its.take n)).1 rest (layI C (its.take n)).2).1 lf W g a own p true (p :: (blk vi ++ (blk kv ++ (blk dv ++ F)))) (its.drop n) (es :: (takeK (layI C (its.take n)).1 rest (layI C (its.take n)).2).2) w)) := by
  have hcut := cut_by_items hs.row hn
  have hkx : (layI C (its.take n)).2.k = lst (lfOf (its.take n)) := (lst_lfI _).symm
  have hkx1 : (layI C (its.take n)).2.k.length ≤ 1000 := headI_len (fun x hx => hk x (List.mem_of_mem_take hx))
  have hcx : (layI C (its.take n)).2.d.ct = cnt (lfOf (its.take n)) := (cnt_lfI _).symm
  have hsx : sumCt (lfOf (its.take n)).kids ≤ 17592186044416 := by show (0 : Nat) ≤ _; omega
  have hsx2 : sumD rest + (layI C (its.take n)).2.d.ct ≤ 1099511627776 := by
    have : (layI C (its.take n)).2.d.ct = (its.take n).length := rfl
    rw [List.length_take] at this
    omega
  rcases up_of hs.ch with ⟨rfl, rfl⟩ | ⟨q, es0, rest0, rfl, rfl⟩
  · rw [takeK_nil] at hr ⊢
    exact lay_items_top hs hf hlf hcut hkx hkx1 rfl hcx hsx (fun h => by cases h) ⟨rfl, rfl⟩ (take_spec R W g a [] []) (bd_of (.inl ⟨rfl, rfl, rfl⟩) hm hsx2 hr)
  · exact lay_items_mid hs hf hlf hcut hkx hkx1 rfl hcx hsx (fun h => by cases h) (take_spec R W g a rest0 es0) (bd_of (.inr rfl) hm hsx2 hr)
theorem take_item {R : Int} {C : List Nat} {lf a : Nat} {own : Own} {W : World} {g : Nat} {w : World} {p : Nat} {vi kv dv up ka va : Value} {its : List NIt} {es : List KE} {rest : List (List KE)} {F : List Nat} {it : NIt}
    (hs : St6 own W g w p true vi kv dv up its es rest F) (he : es = []) (hf : BkF R C lf W g a own w) (hlf : lf < 1000000) (hl : its.length ≤ 11) (hk : ∀ x ∈ its ++ [it], x.k.length ≤ 1000) (hm : Smp rest) (hsum : sumD rest + its.length + 1 ≤ 1099511627776) (hr : Roomy R (putB C its rest it).1)
    (ha : Bytes w ka it.k) (hb : Bytes w va it.v) (hv : it.v.length ≤ 1000000) :
    Calls Try.prog 22 #[.pointer (some ⟨p, 0, none⟩), .agg #[ka, va]] w (Ret (Told R (putB C its rest it).1 lf W g a own p true (p :: (blk vi ++ (blk kv ++ (blk dv ++ F)))) (putB C its rest it).2.1 ([] :: (putB C its rest it).2.2) w)) := by
  subst he
  have hnew : ∀ k, w.heap.size ≤ k → own k = none := fun k hk => hf.new_none hk
  have hgl := hf.glt
  refine takeItem_bk hs.row (by omega) hnew ha hb ⟨by have := hk it (by simp); omega, hv⟩ (fun w' h6 => ?_)
  obtain ⟨vi', kv', dv', hs', ht', hF', hv', hso⟩ := hs.took hnew hgl.1 hgl.2.2 h6
  have hf' : BkF R C lf W g a own w' := hf.sole hso (fun k hk => by
    have := hs.fr k (by rw [mem4]; simp only [List.mem_cons, List.mem_append] at hk; rcases hk with hk | hk | hk | hk <;> simp [hk])
    exact ⟨this.1, this.2.1, this.2.2.1⟩)
  refine eased_bk hs'.row (by simp; omega) (fun h12 w2 hb => ?_) (fun h12 w2 hb => ?_)
  · have hl12 : its.length + 1 < 12 := by simpa using h12
    have e : putB C its rest it = (C, its ++ [it], rest) := by unfold putB; rw [if_pos hl12]
    rw [e]
    refine .inl ⟨rfl, own, lf, vi', kv', dv', up, [], rest, F, rfl, Nat.le_refl _, fun h => (by cases h), hs'.stay hb, hF', ht'.trans (Turns.below (F := []) hb) (by simp), hf'.stay hb⟩
  · have hl12 : ¬ its.length + 1 < 12 := by simp at h12; omega
    have e : putB C its rest it = ((takeK (layI C ((its ++ [it]).take 8)).1 rest (layI C ((its ++ [it]).take 8)).2).1, (its ++ [it]).drop 8, (takeK (layI C ((its ++ [it]).take 8)).1 rest (layI C ((its ++ [it]).take 8)).2).2) := by unfold putB; rw [if_neg hl12]
    rw [e] at hr ⊢
    dsimp only at hr ⊢
    have ht2 : Turns g (p :: (blk vi ++ (blk kv ++ (blk dv ++ F)))) own own w w2 := ht'.trans (Turns.below (F := []) hb) (by simp)
    refine (lay_items (n := 8) (hs'.stay hb) (hf'.stay hb) hlf (by simp; omega) (by simp; omega) hk hm (by simp; omega) hr).mono ?_
    rintro z wz ⟨v, rfl, hv⟩
    exact ⟨v, rfl, hv.back (Nat.le_refl _) ht2 hF'⟩
end Go.Proofs.Ytajfcnaifegonaa.Sl.Nd
/- Rows made trees, in a program: all rows are closed: the root. -/
namespace Go.By
open Go
theorem layAllE_more : ∀ (f : Nat) (C : List Nat) (es : List KE) (rest : List (List KE)), C.length ≤ (layAllE f C es rest).1.length
  | 0, _, _, _ => Nat.le_refl _
  | f + 1, C, es, rest => by
    unfold layAllE
    split
    · exact Nat.le_refl _
    · have h1 : C.length ≤ (layE C (es.take (shareN es.length))).1.length := by simp [layE]
      have h2 := takeK_more rest (layE C (es.take (shareN es.length))).1 (layE C (es.take (shareN es.length))).2
      have h3 := layAllE_more f (takeK (layE C (es.take (shareN es.length))).1 rest (layE C (es.take (shareN es.length))).2).1 (es.drop (shareN es.length)) (takeK (layE C (es.take (shareN es.length))).1 rest (layE C (es.take (shareN es.length))).2).2
      omega
theorem layAllI_more : ∀ (f : Nat) (C : List Nat) (es : List NIt) (rest : List (List KE)), C.length ≤ (layAllI f C es rest).1.length
  | 0, _, _, _ => Nat.le_refl _
  | f + 1, C, es, rest => by
    unfold layAllI
    split
    · exact Nat.le_refl _
    · have h1 : C.length ≤ (layI C (es.take (shareN es.length))).1.length := by simp [layI]
      have h2 := takeK_more rest (layI C (es.take (shareN es.length))).1 (layI C (es.take (shareN es.length))).2
      have h3 := layAllI_more f (takeK (layI C (es.take (shareN es.length))).1 rest (layI C (es.take (shareN es.length))).2).1 (es.drop (shareN es.length)) (takeK (layI C (es.take (shareN es.length))).1 rest (layI C (es.take (shareN es.length))).2).2
      omega
theorem doneK_more : ∀ (f : Nat) (C : List Nat) (lvls : List (List KE)) {x : List Nat × NKd}, doneK f C lvls = some x → C.length ≤ x.1.length
  | 0, _, _, _, h => by cases h
  | _ + 1, C, [], _, h => by cases h; exact Nat.le_refl _
  | f + 1, C, es :: rest, x, h => by
    unfold doneK at h
    split at h
    · cases h; exact Nat.le_refl _
    · exact Nat.le_trans (layAllE_more _ _ _ _) (doneK_more f _ _ h)
end Go.By
namespace Go.Proofs.Ytajfcnaifegonaa.Sl.Nd
open Go Go.RowKit Go.By
def Shut (R : Int) (C' : List Nat) (d : NKd) (lf : Nat) (W : World) (g a : Nat) (own : Own) (F0 : List Nat) (w : World) (e : Ending) (w' : World) : Prop :=
  (e = .returned (.tuple #[.agg #[.int .i64 d.off, .int .u64 (d.ct : Nat)], .int .i64 0]) ∧ ∃ own' lf', lf' ≤ lf ∧ Turns g F0 own own' w w' ∧ BkF R C' lf' W g a own' w') ∨
    (lf ≠ 0 ∧ e = .returned (.tuple #[.agg #[.int .i64 0, .int .u64 0], .int .i64 5]) ∧ ∃ own', Turns g F0 own own' w w')
def rowLen (w : World) (p i : Nat) : Nat := match w.cell? ⟨p, i, none⟩ with
  | some (.slice _ n _) => n
  | _ => 0
theorem two_setB {w : World} {A : Nat} {T : TypeId} {a b x y : Value} (h : w.heap[A]? = some (.cells #[x, y] T (0, 0))) : ((w.setCell ⟨A, 0, none⟩ a).setCell ⟨A, 1, none⟩ b).heap[A]? = some (.cells #[a, b] T (0, 0)) :=
  heap_setCell_same _ A 1 _ _ b (heap_setCell_same _ A 0 _ _ a h)
theorem turns_ans {g A : Nat} {F0 : List Nat} {own own' : Own} {w W1 w' : World} (hb : Below w.heap.size w W1) (hA : A = w.heap.size) (h : Turns g F0 own own' W1 w') (hx : ∃ c, w'.heap[A]? = some (.cells c 39 (0, 0))) (x y : Value) : Turns g F0 own own' w ((w'.setCell ⟨A, 0, none⟩ x).setCell ⟨A, 1, none⟩ y) := by
  have h1 : Turns g F0 own own w W1 := Turns.below hb
  have ho : Only A w' ((w'.setCell ⟨A, 0, none⟩ x).setCell ⟨A, 1, none⟩ y) := (Only.set A 0 w' x).trans (Only.set A 1 _ y)
  obtain ⟨c, hc⟩ := hx
  exact (h1.trans h (fun k hk => .inl hk)).trans (Turns.only (F := [A]) ho (by simp) hc ty_bk.2.2.1) (fun k hk => .inr (by obtain rfl := List.mem_singleton.1 hk; omega))
def ClE (R : Int) (fin : List Nat × List (List KE)) (lf : Nat) (W : World) (g a : Nat) (own : Own) (F0 : List Nat) (w : World) (p : Nat) (wr : World) : Prop :=
  ∃ own1 lf1 kv dv up es rest F C f, es.length ≤ f ∧ layAllE f C es rest = fin ∧ lf1 ≤ lf ∧ St6 own1 W g wr p false (.slice none 0 0) kv dv up [] es rest F ∧ (∀ k ∈ p :: (blk (.slice none 0 0) ++ (blk kv ++ (blk dv ++ F))), k ∈ F0 ∨ w.heap.size ≤ k) ∧ Turns g F0 own own1 w wr ∧ BkF R C lf1 W g a own1 wr ∧ Smp (es :: rest) ∧ sumD (es :: rest) ≤ 1099511627776
def ClI (R : Int) (fin : List Nat × List (List KE)) (lf : Nat) (W : World) (g a : Nat) (own : Own) (F0 : List Nat) (w : World) (p : Nat) (wr : World) : Prop :=
  ∃ own1 lf1 vi kv dv up its rest F C f, its.length ≤ f ∧ layAllI f C its rest = fin ∧ lf1 ≤ lf ∧ St6 own1 W g wr p true vi kv dv up its [] rest F ∧ (∀ k ∈ p :: (blk vi ++ (blk kv ++ (blk dv ++ F))), k ∈ F0 ∨ w.heap.size ≤ k) ∧ Turns g F0 own own1 w wr ∧ BkF R C lf1 W g a own1 wr ∧ Smp rest ∧ sumD rest + its.length ≤ 1099511627776 ∧ its.length ≤ 1000 ∧ ∀ x ∈ its, x.k.length ≤ 1000
set_option maxRecDepth 100000 in
theorem closed_none (w : World) : Calls Try.prog 24 #[.pointer none] w fun e w' => e = .returned (.tuple #[.agg #[.int .i64 0, .int .u64 0], .int .i64 0]) ∧ Below w.heap.size w w' := by
  have hb : Below w.heap.size w (w.alloc (.cells #[.int .i64 0, .int .u64 0] 39)) := (Below.refl _ _).alloc (Nat.le_refl _) _
  have HX := Lib.hid (fun (_ : Unit) => heap_alloc_new w (.cells #[.int .i64 0, .int .u64 0] 39))
  have HF : Hid (∀ e : Ending, e = .returned (.tuple #[.agg #[.int .i64 0, .int .u64 0], .int .i64 0]) → e = .returned (.tuple #[.agg #[.int .i64 0, .int .u64 0], .int .i64 0]) ∧ Below w.heap.size w (w.alloc (.cells #[.int .i64 0, .int .u64 0] 39))) := fun e he => ⟨he, hb⟩
  clear hb
  go_enter Try.func24, Try.ntmps24
  go_wp2
  exact bodyPost_ret (cell2B (p := 2) (u := 3) (x := .int .i64 0) (ty := 39) (n := 2) (by kernel_rfl) (by kernel_rfl) (by kernel_rfl) rfl rfl (HX.out ()) rfl) rfl (HF.out _ rfl)
set_option maxRecDepth 100000 in
set_option maxHeartbeats 1000000 in
theorem closed_one {own : Own} {W : World} {g : Nat} {w : World} {p : Nat} {kv dv : Value} {e : KE} {F : List Nat} (hs : St6 own W g w p false (.slice none 0 0) kv dv (.pointer none) [] [e] [] F) :
    Calls Try.prog 24 #[.pointer (some ⟨p, 0, none⟩)] w fun z w' => z = .returned (.tuple #[.agg #[.int .i64 e.d.off, .int .u64 (e.d.ct : Nat)], .int .i64 0]) ∧ Below w.heap.size w w' := by
  obtain ⟨pd, cd, rfl, hrd⟩ := hs.row.ds.row
  obtain ⟨lb, lo, cs, rfl, hc, hcs, -⟩ := hrd.at_ 0 (by simp)
  simp only [List.map_cons, List.map_nil, List.getElem_cons_zero] at hcs
  subst hcs
  obtain ⟨W1, hW1⟩ : ∃ W1, W1 = w.alloc (.cells #[.int .i64 0, .int .u64 0] 39) := ⟨_, rfl⟩
  have hb : Below w.heap.size w W1 := by rw [hW1]; exact (Below.refl _ _).alloc (Nat.le_refl _) _
  have e0 := hc 0 (by simp)
  have e1 := hc 1 (by simp)
  simp only [Nat.zero_mul, Nat.add_zero, List.getElem_cons_zero, List.getElem_cons_succ] at e0 e1
  have d0 : W1.cell? ⟨lb, lo, none⟩ = some (.int .i64 e.d.off) := (hb.cell (p := ⟨lb, lo, none⟩) (block_lt_of_cell e0)).trans e0
  have d1 : W1.cell? ⟨lb, lo + 1, none⟩ = some (.int .u64 (e.d.ct : Nat)) := (hb.cell (p := ⟨lb, lo + 1, none⟩) (block_lt_of_cell e1)).trans e1
  have hrow := (hb.block _ (Array.getElem?_eq_some_iff.1 hs.row.cells).1).trans hs.row.cells
  have c2 : W1.cell? ⟨p, 2, none⟩ = some (.slice (some ⟨lb, lo, none⟩) 1 cd) := cells_of hrow 2
  have c5 : W1.cell? ⟨p, 5, none⟩ = some (.pointer none) := cells_of hrow 5
  have hA1 : W1.heap[w.heap.size]? = some (.cells #[.int .i64 0, .int .u64 0] 39 (0, 0)) := by rw [hW1]; exact heap_alloc_new w _
  have t0 : W1.cell? ⟨w.heap.size, 0, none⟩ = some (.int .i64 0) := cells_of hA1 0
  have t1 : W1.cell? ⟨w.heap.size, 1, none⟩ = some (.int .u64 0) := cells_of hA1 1
  have q0 := free_of hA1 0; have q1 := free_of hA1 1
  have hb2 : Below w.heap.size w (w.alloc (.cells #[.int .i64 e.d.off, .int .u64 (e.d.ct : Nat)] 39)) := (Below.refl _ _).alloc (Nat.le_refl _) _
  have HX := Lib.hid (fun (_ : Unit) => heap_alloc_new w (.cells #[.int .i64 e.d.off, .int .u64 (e.d.ct : Nat)] 39))
  have HF : Hid (∀ z : Ending, z = .returned (.tuple #[.agg #[.int .i64 e.d.off, .int .u64 (e.d.ct : Nat)], .int .i64 0]) → z = .returned (.tuple #[.agg #[.int .i64 e.d.off, .int .u64 (e.d.ct : Nat)], .int .i64 0]) ∧ Below w.heap.size w (w.alloc (.cells #[.int .i64 e.d.off, .int .u64 (e.d.ct : Nat)] 39))) := fun z hz => ⟨hz, hb2⟩
  clear hb2
  subst hW1
  clear hs hrd hc e0 e1 hrow hA1 hb
  generalize e.d.off = off at *
  generalize e.d.ct = ct at *
  go_enter Try.func24, Try.ntmps24
  go_wp2
  refine bodyPost_ret (cell2B (p := 2) (u := 3) (x := .int .i64 0) (ty := 39) (n := 2) (by kernel_rfl) (by kernel_rfl) (by kernel_rfl) rfl rfl (HX.out ()) rfl) rfl ?_
  exact HF.out _ rfl
set_option maxRecDepth 100000 in
set_option maxHeartbeats 4000000 in
theorem closed_kids_top {R : Int} {C C' : List Nat} {lf a : Nat} {own : Own} {W : World} {g : Nat} {w : World} {p : Nat} {kv dv : Value} {_its : List NIt} {es : List KE} {_rest : List (List KE)} {F : List Nat} {d : NKd}
    (hs : St6 own W g w p false (.slice none 0 0) kv dv (.pointer none) [] es [] F) (hf : BkF R C lf W g a own w) (hlf : lf < 1000000) (hm : Smp (es :: [])) (hsum : sumD (es :: []) ≤ 1099511627776) (hr : Roomy R C') (_hl : es.length ≤ 11) (h1 : es.length ≠ 1)
    (hfin : (layAllE es.length C es []).1.length ≤ C'.length)
    (hC : ∀ own1 w1 up1 F1 lf1, Chain own1 W g w1 up1 (layAllE es.length C es []).2 F1 → BkF R (layAllE es.length C es []).1 lf1 W g a own1 w1 → lf1 ≤ lf → Calls Try.prog 24 #[up1] w1 (Shut R C' d lf1 W g a own1 F1 w1)) :
    Calls Try.prog 24 #[.pointer (some ⟨p, 0, none⟩)] w (Shut R C' d lf W g a own (p :: (blk (.slice none 0 0) ++ (blk kv ++ (blk dv ++ F)))) w) := by
  obtain ⟨fin, hfi⟩ : ∃ fin, fin = layAllE es.length C es [] := ⟨_, rfl⟩
  rw [← hfi] at hfin hC
  obtain ⟨F0, hF0⟩ : ∃ F0, F0 = p :: (blk (.slice none 0 0) ++ (blk kv ++ (blk dv ++ F))) := ⟨_, rfl⟩
  obtain ⟨A, hA⟩ : ∃ A, A = w.heap.size := ⟨_, rfl⟩
  obtain ⟨W1, hW1⟩ : ∃ W1, W1 = w.alloc (.cells #[.int .i64 0, .int .u64 0] 39) := ⟨_, rfl⟩
  have hb : Below w.heap.size w W1 := by rw [hW1]; exact (Below.refl _ _).alloc (Nat.le_refl _) _
  have hA1 : W1.heap[A]? = some (.cells #[.int .i64 0, .int .u64 0] 39 (0, 0)) := by rw [hA, hW1]; exact heap_alloc_new w _
  have hgl := hf.glt
  have hAF : ∀ k ∈ F0, k < A := fun k hk => by rw [hA]; exact (hs.fr k (by rw [← hF0]; exact hk)).2.2.2
  have hoA : own A = none := hf.new_none (by omega)
  have HANS : Hid (∀ own1 wr, Turns g F0 own own1 W1 wr → wr.heap[A]? = some (.cells #[.int .i64 0, .int .u64 0] 39 (0, 0)) ∧ own1 A = none) := fun own1 wr ht => ⟨(ht.block A (Array.getElem?_eq_some_iff.1 hA1).1 (by omega) (fun h => by have := hAF A h; omega) hoA).trans hA1, (ht.same A (Array.getElem?_eq_some_iff.1 hA1).1).trans hoA⟩
  have HTA : Hid (∀ own1 wr (x y : Value), Turns g F0 own own1 W1 wr → Turns g F0 own own1 w ((wr.setCell ⟨A, 0, none⟩ x).setCell ⟨A, 1, none⟩ y)) := fun own1 wr x y ht => turns_ans hb hA ht ⟨_, (HANS.out own1 wr ht).1⟩ x y
  have HFA : Hid (∀ own1 lf1 C1 wr (x y : Value), Turns g F0 own own1 W1 wr → BkF R C1 lf1 W g a own1 wr → BkF R C1 lf1 W g a own1 ((wr.setCell ⟨A, 0, none⟩ x).setCell ⟨A, 1, none⟩ y)) := fun own1 lf1 C1 wr x y ht h => h.only ((Only.set A 0 wr x).trans (Only.set A 1 _ y)) ⟨(HANS.out own1 wr ht).2, by omega, by omega⟩
  have H0 : Hid (ClE R fin lf W g a own F0 W1 p W1) := ⟨own, lf, kv, dv, (.pointer none), es, [], F, C, es.length, Nat.le_refl _, hfi.symm, Nat.le_refl _, hs.stay hb, fun k hk => .inl (by rw [hF0]; exact hk), Turns.refl _ _ _ _, hf.stay hb, hm, hsum⟩
  have hrow := (hb.block _ (Array.getElem?_eq_some_iff.1 hs.row.cells).1).trans hs.row.cells
  have c5 : W1.cell? ⟨p, 5, none⟩ = some (.pointer none) := cells_of hrow 5
  obtain ⟨pd, cd, rfl, -⟩ := hs.row.ds.row
  have c2 : W1.cell? ⟨p, 2, none⟩ = some (.slice pd es.length cd) := by have := cells_of hrow 2; rw [List.length_map] at this; exact this
  have h1I : ¬ ((es.length : Int) = 1) := by omega
  have h1B : ((es.length : Int) == 1) = false := by simpa using h1I
  have HC := Lib.hid hC; have HR := Lib.hid hr; have HFI := Lib.hid hfin; have HLF := Lib.hid hlf
  rw [← hF0]
  clear hs hf hlf hm hsum hr _hl hfin hC hfi hF0 hb hA1 hgl hAF hoA hrow h1
  subst hA
  subst hW1
  generalize es.length = len0 at *
  go_enter Try.func24, Try.ntmps24
  go_wp2
  go_loopw [4] (fun _ wr => ClE R fin lf W g a own F0 (w.alloc (.cells #[.int .i64 0, .int .u64 0] 39)) p wr) (fun _ wr => rowLen wr p 2)
  case atStart => exact H0.out
  case round =>
    clear H0 c5 c2
    clear h1I h1B
    obtain ⟨own1, lf1, kv1, dv1, up1, es1, rest1, F1, C1, f1, hf1, hl1, hlf1, hs1, hF1, ht1, hk1, hm1, hsum1⟩ := hrel
    have hlen1 : es1.length ≤ 11 := (hm1 es1 (by simp)).1
    obtain ⟨pk1, ck1, rfl, -⟩ := hs1.row.ks.row
    obtain ⟨pd1, cd1, rfl, -⟩ := hs1.row.ds.row
    have hcr := hs1.row.cells
    have HSZ : Hid (∀ wx, Below wr.heap.size wr wx → Calls Try.prog 40 #[.pointer (some ⟨p, 0, none⟩)] wx fun e w' => e = .returned (.int .i64 (es1.length : Nat)) ∧ Below wx.heap.size wx w') := fun wx hx => by
      have := size_bk ((hx.block _ (Array.getElem?_eq_some_iff.1 hcr).1).trans hcr) (by simp; omega)
      simpa using this
    have hln : rowLen wr p 2 = es1.length := by have h9 : wr.cell? ⟨p, 2, none⟩ = some (.slice pd1 (es1.map (·.d)).length cd1) := cells_of hcr 2; unfold rowLen; rw [h9]; simp
    have HS1 := Lib.hid hs1; have HK1 := Lib.hid hk1; have HT1 := Lib.hid ht1; have HF1 := Lib.hid hF1; have HL1 := Lib.hid hl1; have HLN := Lib.hid hln; have HLE := Lib.hid hlf1
    have HM1 := Lib.hid hm1; have HSU := Lib.hid hsum1; have HFU := Lib.hid hf1; have HLEN := Lib.hid hlen1
    clear hs1 hk1 ht1 hF1 hl1 hln hlf1 hm1 hsum1 hf1 hlen1 hcr
    by_cases hz : (es1.length : Int) > 0
    · have hpos : 0 < es1.length := by omega
      have HPOS := Lib.hid hpos
      obtain ⟨N, hN⟩ : ∃ N, N = es1.length := ⟨_, rfl⟩
      have HN := Lib.hid hN
      rw [← hN] at HSZ hz
      clear hpos hN
      go_wp2_with fail
      refine (HSZ.out _ (Below.refl _ _)).mono ?_
      rintro e2 w2 ⟨rfl, b2⟩
      have HB2 := Lib.hid b2
      clear b2
      go_wp2_with fail
      refine (HSZ.out _ HB2.out).mono ?_
      rintro e3 w3 ⟨rfl, b3⟩
      have HB3 : Hid (Below wr.heap.size wr w3) := HB2.out.trans (b3.mono HB2.out.size)
      clear b3 HB2
      go_wp2_with fail
      refine (share_bk w3 N (by rw [HN.out]; have := HLEN.out; omega)).mono ?_
      rintro e4 w4 ⟨rfl, b4⟩
      have HB4 : Hid (Below wr.heap.size wr w4) := HB3.out.trans (b4.mono HB3.out.size)
      clear b4 HB3
      have hsh := share_le (n := N) (by rw [HN.out]; exact HPOS.out)
      obtain ⟨f0, hf0⟩ : ∃ f0, f1 = f0 + 1 := ⟨f1 - 1, by have := HFU.out; have := HPOS.out; omega⟩
      have hstep : layAllE f0 (takeK (layE C1 (es1.take (shareN N))).1 rest1 (layE C1 (es1.take (shareN N))).2).1 (es1.drop (shareN N)) (takeK (layE C1 (es1.take (shareN N))).1 rest1 (layE C1 (es1.take (shareN N))).2).2 = fin := by
        have := HL1.out
        rw [hf0, layAllE, if_neg (by have := HPOS.out; omega), ← HN.out] at this
        exact this
      have hmore := layAllE_more f0 (takeK (layE C1 (es1.take (shareN N))).1 rest1 (layE C1 (es1.take (shareN N))).2).1 (es1.drop (shareN N)) (takeK (layE C1 (es1.take (shareN N))).1 rest1 (layE C1 (es1.take (shareN N))).2).2
      rw [hstep] at hmore
      have hly := lay_kids (R := R) (n := shareN N) (HS1.out.stay HB4.out) (HK1.out.stay HB4.out) (Nat.lt_of_le_of_lt HLE.out HLF.out) (by rw [← HN.out]; exact hsh.2) HM1.out HSU.out (HR.out.less (Nat.le_trans hmore HFI.out))
      have hsp := takeK_smp rest1 (layE C1 (es1.take (shareN N))).1 (layE C1 (es1.take (shareN N))).2 HM1.out.tail (headE_len (fun x hx => (HM1.out es1 (by simp)).2 x (List.mem_of_mem_take hx)))
      have HLY := Lib.hid hly; have HSTP := Lib.hid hstep; have HSP := Lib.hid hsp; have HSH := Lib.hid hsh; have HF0E := Lib.hid hf0
      clear hly hstep hsp hsh hmore hf0
      go_wp2_with fail
      refine HLY.out.mono ?_
      rintro e5 w5 ⟨v5, rfl, h5⟩
      clear HLY
      rcases h5 with ⟨rfl, own5, lf5, vi5, kv5, dv5, up5, es5, rest5, F5, hlv, hlf5, hvi5, hs5, hF5, ht5, hk5⟩ | ⟨hl0, rfl, own5, ht5⟩
      · simp only [List.cons.injEq] at hlv
        obtain ⟨rfl, rfl⟩ := hlv
        obtain rfl := hvi5 rfl
        have ht6 := (HT1.out.trans (Turns.below (F := []) HB4.out) (by simp)).trans ht5 HF1.out
        have hF6 : ∀ k ∈ p :: (blk (.slice none 0 0) ++ (blk kv5 ++ (blk dv5 ++ F5))), k ∈ F0 ∨ (w.alloc (.cells #[.int .i64 0, .int .u64 0] 39)).heap.size ≤ k := fun k hk => by
          rcases hF5 k hk with h1 | h1
          · exact HF1.out k h1
          · exact .inr (Nat.le_trans HT1.out.size (Nat.le_trans HB4.out.size h1))
        have HN6 : Hid (ClE R fin lf W g a own F0 (w.alloc (.cells #[.int .i64 0, .int .u64 0] 39)) p w5) := ⟨own5, lf5, kv5, dv5, up5, es1.drop (shareN N), _, F5, _, f0, by rw [List.length_drop]; have := HFU.out; have := HF0E.out; have := HSH.out.1; omega, HSTP.out, Nat.le_trans hlf5 HLE.out, hs5, hF6, ht6, hk5, Smp.cons (by rw [List.length_drop]; have := HLEN.out; omega) (fun x hx => (HM1.out es1 (by simp)).2 x (List.mem_of_mem_drop hx)) HSP.out.1, by
            rw [sumD_cons, HSP.out.2]
            have h7 : (layE C1 (es1.take (shareN N))).2.d.ct = sumK ((es1.take (shareN N)).map (·.d)) := rfl
            have h8 := HSU.out
            rw [sumD_cons] at h8
            have h9 := sumK_app ((es1.take (shareN N)).map (·.d)) ((es1.drop (shareN N)).map (·.d))
            rw [← List.map_append, List.take_append_drop] at h9
            omega⟩
        have hm6 : rowLen w5 p 2 < rowLen wr p 2 := by
          rw [HLN.out]
          obtain ⟨p6, c6, rfl, -⟩ := hs5.row.ds.row
          have h9 : w5.cell? ⟨p, 2, none⟩ = some (.slice p6 ((es1.drop (shareN N)).map (·.d)).length c6) := cells_of hs5.row.cells 2
          unfold rowLen
          rw [h9]
          show ((es1.drop (shareN N)).map (·.d)).length < _
          rw [List.length_map, List.length_drop]; have := HSH.out; have := HPOS.out; omega
        have HM6 := Lib.hid hm6
        clear hs5 hF5 ht5 hk5 ht6 hF6 hm6 hvi5 hlf5
        go_wp2
        go_roundw
        case rel => first | exact HN6.out | exact ⟨_, _, _, _, _, _, _, _, _, _, HN6.out, rfl⟩ | exact ⟨_, _, _, _, _, _, _, _, _, _, _, HN6.out, rfl⟩ | exact ⟨_, _, _, _, _, _, _, _, _, _, _, _, HN6.out, rfl⟩ | exact ⟨_, _, _, _, _, _, _, _, _, _, _, _, _, HN6.out, rfl⟩ | exact ⟨_, _, _, _, _, _, _, _, _, _, _, _, _, _, HN6.out, rfl⟩ | exact ⟨_, _, _, _, _, _, _, _, _, _, _, _, _, _, _, HN6.out, rfl⟩ | exact ⟨_, _, _, _, _, _, _, _, _, _, _, _, _, _, _, _, HN6.out, rfl⟩ | exact ⟨_, _, _, _, _, _, _, _, _, _, _, _, _, _, _, _, _, HN6.out, rfl⟩ | exact ⟨_, _, _, _, _, _, _, _, _, _, _, _, _, _, _, _, _, _, HN6.out, rfl⟩ | exact ⟨_, _, _, _, _, _, _, _, _, _, _, _, _, _, _, _, _, _, _, HN6.out, rfl⟩
        case measure => exact HM6.out
      · have ht6 := (HT1.out.trans (Turns.below (F := []) HB4.out) (by simp)).trans ht5 HF1.out
        obtain ⟨hx6, hoA6⟩ := HANS.out own5 w5 ht6
        have t0 : w5.cell? ⟨w.heap.size, 0, none⟩ = some (.int .i64 0) := cells_of hx6 0
        have t1 : w5.cell? ⟨w.heap.size, 1, none⟩ = some (.int .u64 0) := cells_of hx6 1
        have q0 := free_of hx6 0; have q1 := free_of hx6 1
        have HX := Lib.hid (fun (_ : Unit) => two_setB (a := .int .i64 0) (b := .int .u64 0) hx6)
        have HF : Hid (Shut R C' d lf W g a own F0 w (.returned (.tuple #[.agg #[.int .i64 0, .int .u64 0], .int .i64 5])) ((w5.setCell ⟨w.heap.size, 0, none⟩ (.int .i64 0)).setCell ⟨w.heap.size, 1, none⟩ (.int .u64 0))) := .inr ⟨by have := HLE.out; omega, rfl, own5, HTA.out own5 w5 _ _ ht6⟩
        clear hx6 hoA6 ht5 ht6
        go_wp2
        exact bodyPost_ret (cell2B (p := 2) (u := 3) (x := .int .i64 5) (ty := 39) (n := 2) (by kernel_rfl) (by kernel_rfl) (by kernel_rfl) rfl rfl (HX.out ()) rfl) rfl HF.out
    · have hn0 : es1.length = 0 := by omega
      have hn1 : es1 = [] := List.eq_nil_of_length_eq_zero hn0
      have hfe : fin = (C1, rest1) := by
        rw [← HL1.out, hn1]
        cases f1 with
        | zero => rfl
        | succ f => simp [layAllE]
      rw [hn0] at HSZ
      have HFE := Lib.hid hfe
      clear hz hn0 hn1 hfe
      go_wp2_with fail
      refine (HSZ.out _ (Below.refl _ _)).mono ?_
      rintro e2 w2 ⟨rfl, b2⟩
      have hs2 := HS1.out.stay b2
      have hk2 := HK1.out.stay b2
      have ht2 := HT1.out.trans (Turns.below (F := []) b2) (by simp)
      have m5 : w2.cell? ⟨p, 5, none⟩ = some up1 := cells_of hs2.row.cells 5
      have hcl := HC.out own1 w2 up1 F1 lf1 (by rw [HFE.out]; exact hs2.ch) (by rw [HFE.out]; exact hk2) HLE.out
      have hupx : (∃ q1 : Option Addr, up1 = .pointer q1) := by rcases up_of hs2.ch with ⟨_, h⟩ | ⟨q1, _, _, _, h⟩; exact ⟨_, h⟩; exact ⟨_, h⟩
      obtain ⟨q1, rfl⟩ := hupx
      have hFF : ∀ k ∈ F1, k ∈ F0 ∨ (w.alloc (.cells #[.int .i64 0, .int .u64 0] 39)).heap.size ≤ k := fun k hk => HF1.out k (by rw [mem4]; simp [hk])
      have HCL := Lib.hid hcl; have HT2 := Lib.hid ht2; have HFF := Lib.hid hFF
      clear hs2 hk2 ht2 b2 hcl hFF
      go_wp2_with fail
      refine HCL.out.mono ?_
      rintro e3 w3 (⟨rfl, own3, lf3, hl3, ht3, hk3⟩ | ⟨hl0, rfl, own3, ht3⟩)
      · have ht6 := HT2.out.trans ht3 HFF.out
        obtain ⟨hx6, hoA6⟩ := HANS.out own3 w3 ht6
        have t0 : w3.cell? ⟨w.heap.size, 0, none⟩ = some (.int .i64 0) := cells_of hx6 0
        have t1 : w3.cell? ⟨w.heap.size, 1, none⟩ = some (.int .u64 0) := cells_of hx6 1
        have q2 := free_of hx6 0; have q3 := free_of hx6 1
        have HX := Lib.hid (fun (_ : Unit) => two_setB (a := (.int .i64 d.off)) (b := (.int .u64 (d.ct : Nat))) hx6)
        have HF : Hid (Shut R C' d lf W g a own F0 w (.returned (.tuple #[.agg #[.int .i64 d.off, .int .u64 (d.ct : Nat)], .int .i64 0])) ((w3.setCell ⟨w.heap.size, 0, none⟩ (.int .i64 d.off)).setCell ⟨w.heap.size, 1, none⟩ (.int .u64 (d.ct : Nat)))) := .inl ⟨rfl, own3, lf3, Nat.le_trans hl3 HLE.out, HTA.out own3 w3 _ _ ht6, HFA.out own3 lf3 C' w3 _ _ ht6 hk3⟩
        clear hx6 hoA6 ht3 ht6 hk3 hl3
        go_wp2
        exact bodyPost_ret (cell2B (p := 2) (u := 3) (x := .int .i64 0) (ty := 39) (n := 2) (by kernel_rfl) (by kernel_rfl) (by kernel_rfl) rfl rfl (HX.out ()) rfl) rfl HF.out
      · have ht6 := HT2.out.trans ht3 HFF.out
        obtain ⟨hx6, hoA6⟩ := HANS.out own3 w3 ht6
        have t0 : w3.cell? ⟨w.heap.size, 0, none⟩ = some (.int .i64 0) := cells_of hx6 0
        have t1 : w3.cell? ⟨w.heap.size, 1, none⟩ = some (.int .u64 0) := cells_of hx6 1
        have q2 := free_of hx6 0; have q3 := free_of hx6 1
        have HX := Lib.hid (fun (_ : Unit) => two_setB (a := (.int .i64 0)) (b := (.int .u64 0)) hx6)
        have HF : Hid (Shut R C' d lf W g a own F0 w (.returned (.tuple #[.agg #[.int .i64 0, .int .u64 0], .int .i64 5])) ((w3.setCell ⟨w.heap.size, 0, none⟩ (.int .i64 0)).setCell ⟨w.heap.size, 1, none⟩ (.int .u64 0))) := .inr ⟨by have := HLE.out; omega, rfl, own3, HTA.out own3 w3 _ _ ht6⟩
        clear hx6 hoA6 ht3 ht6 hl0
        go_wp2
        exact bodyPost_ret (cell2B (p := 2) (u := 3) (x := .int .i64 5) (ty := 39) (n := 2) (by kernel_rfl) (by kernel_rfl) (by kernel_rfl) rfl rfl (HX.out ()) rfl) rfl HF.out
set_option maxRecDepth 100000 in
set_option maxHeartbeats 4000000 in
theorem closed_kids_mid {R : Int} {C C' : List Nat} {lf a : Nat} {own : Own} {W : World} {g : Nat} {w : World} {p q : Nat} {kv dv : Value} {_its : List NIt} {es : List KE} {rest : List (List KE)} {F : List Nat} {d : NKd}
    (hs : St6 own W g w p false (.slice none 0 0) kv dv (.pointer (some ⟨q, 0, none⟩)) [] es rest F) (hf : BkF R C lf W g a own w) (hlf : lf < 1000000) (hm : Smp (es :: rest)) (hsum : sumD (es :: rest) ≤ 1099511627776) (hr : Roomy R C') (_hl : es.length ≤ 11)
    (hfin : (layAllE es.length C es rest).1.length ≤ C'.length)
    (hC : ∀ own1 w1 up1 F1 lf1, Chain own1 W g w1 up1 (layAllE es.length C es rest).2 F1 → BkF R (layAllE es.length C es rest).1 lf1 W g a own1 w1 → lf1 ≤ lf → Calls Try.prog 24 #[up1] w1 (Shut R C' d lf1 W g a own1 F1 w1)) :
    Calls Try.prog 24 #[.pointer (some ⟨p, 0, none⟩)] w (Shut R C' d lf W g a own (p :: (blk (.slice none 0 0) ++ (blk kv ++ (blk dv ++ F)))) w) := by
  obtain ⟨fin, hfi⟩ : ∃ fin, fin = layAllE es.length C es rest := ⟨_, rfl⟩
  rw [← hfi] at hfin hC
  obtain ⟨F0, hF0⟩ : ∃ F0, F0 = p :: (blk (.slice none 0 0) ++ (blk kv ++ (blk dv ++ F))) := ⟨_, rfl⟩
  obtain ⟨A, hA⟩ : ∃ A, A = w.heap.size := ⟨_, rfl⟩
  obtain ⟨W1, hW1⟩ : ∃ W1, W1 = w.alloc (.cells #[.int .i64 0, .int .u64 0] 39) := ⟨_, rfl⟩
  have hb : Below w.heap.size w W1 := by rw [hW1]; exact (Below.refl _ _).alloc (Nat.le_refl _) _
  have hA1 : W1.heap[A]? = some (.cells #[.int .i64 0, .int .u64 0] 39 (0, 0)) := by rw [hA, hW1]; exact heap_alloc_new w _
  have hgl := hf.glt
  have hAF : ∀ k ∈ F0, k < A := fun k hk => by rw [hA]; exact (hs.fr k (by rw [← hF0]; exact hk)).2.2.2
  have hoA : own A = none := hf.new_none (by omega)
  have HANS : Hid (∀ own1 wr, Turns g F0 own own1 W1 wr → wr.heap[A]? = some (.cells #[.int .i64 0, .int .u64 0] 39 (0, 0)) ∧ own1 A = none) := fun own1 wr ht => ⟨(ht.block A (Array.getElem?_eq_some_iff.1 hA1).1 (by omega) (fun h => by have := hAF A h; omega) hoA).trans hA1, (ht.same A (Array.getElem?_eq_some_iff.1 hA1).1).trans hoA⟩
  have HTA : Hid (∀ own1 wr (x y : Value), Turns g F0 own own1 W1 wr → Turns g F0 own own1 w ((wr.setCell ⟨A, 0, none⟩ x).setCell ⟨A, 1, none⟩ y)) := fun own1 wr x y ht => turns_ans hb hA ht ⟨_, (HANS.out own1 wr ht).1⟩ x y
  have HFA : Hid (∀ own1 lf1 C1 wr (x y : Value), Turns g F0 own own1 W1 wr → BkF R C1 lf1 W g a own1 wr → BkF R C1 lf1 W g a own1 ((wr.setCell ⟨A, 0, none⟩ x).setCell ⟨A, 1, none⟩ y)) := fun own1 lf1 C1 wr x y ht h => h.only ((Only.set A 0 wr x).trans (Only.set A 1 _ y)) ⟨(HANS.out own1 wr ht).2, by omega, by omega⟩
  have H0 : Hid (ClE R fin lf W g a own F0 W1 p W1) := ⟨own, lf, kv, dv, (.pointer (some ⟨q, 0, none⟩)), es, rest, F, C, es.length, Nat.le_refl _, hfi.symm, Nat.le_refl _, hs.stay hb, fun k hk => .inl (by rw [hF0]; exact hk), Turns.refl _ _ _ _, hf.stay hb, hm, hsum⟩
  have hrow := (hb.block _ (Array.getElem?_eq_some_iff.1 hs.row.cells).1).trans hs.row.cells
  have c5 : W1.cell? ⟨p, 5, none⟩ = some (.pointer (some ⟨q, 0, none⟩)) := cells_of hrow 5
  have HC := Lib.hid hC; have HR := Lib.hid hr; have HFI := Lib.hid hfin; have HLF := Lib.hid hlf
  rw [← hF0]
  clear hs hf hlf hm hsum hr _hl hfin hC hfi hF0 hb hA1 hgl hAF hoA hrow
  subst hA
  subst hW1
  go_enter Try.func24, Try.ntmps24
  go_wp2
  go_loopw [4] (fun _ wr => ClE R fin lf W g a own F0 (w.alloc (.cells #[.int .i64 0, .int .u64 0] 39)) p wr) (fun _ wr => rowLen wr p 2)
  case atStart => exact H0.out
  case round =>
    clear H0 c5
    obtain ⟨own1, lf1, kv1, dv1, up1, es1, rest1, F1, C1, f1, hf1, hl1, hlf1, hs1, hF1, ht1, hk1, hm1, hsum1⟩ := hrel
    have hlen1 : es1.length ≤ 11 := (hm1 es1 (by simp)).1
    obtain ⟨pk1, ck1, rfl, -⟩ := hs1.row.ks.row
    obtain ⟨pd1, cd1, rfl, -⟩ := hs1.row.ds.row
    have hcr := hs1.row.cells
    have HSZ : Hid (∀ wx, Below wr.heap.size wr wx → Calls Try.prog 40 #[.pointer (some ⟨p, 0, none⟩)] wx fun e w' => e = .returned (.int .i64 (es1.length : Nat)) ∧ Below wx.heap.size wx w') := fun wx hx => by
      have := size_bk ((hx.block _ (Array.getElem?_eq_some_iff.1 hcr).1).trans hcr) (by simp; omega)
      simpa using this
    have hln : rowLen wr p 2 = es1.length := by have h9 : wr.cell? ⟨p, 2, none⟩ = some (.slice pd1 (es1.map (·.d)).length cd1) := cells_of hcr 2; unfold rowLen; rw [h9]; simp
    have HS1 := Lib.hid hs1; have HK1 := Lib.hid hk1; have HT1 := Lib.hid ht1; have HF1 := Lib.hid hF1; have HL1 := Lib.hid hl1; have HLN := Lib.hid hln; have HLE := Lib.hid hlf1
    have HM1 := Lib.hid hm1; have HSU := Lib.hid hsum1; have HFU := Lib.hid hf1; have HLEN := Lib.hid hlen1
    clear hs1 hk1 ht1 hF1 hl1 hln hlf1 hm1 hsum1 hf1 hlen1 hcr
    by_cases hz : (es1.length : Int) > 0
    · have hpos : 0 < es1.length := by omega
      have HPOS := Lib.hid hpos
      obtain ⟨N, hN⟩ : ∃ N, N = es1.length := ⟨_, rfl⟩
      have HN := Lib.hid hN
      rw [← hN] at HSZ hz
      clear hpos hN
      go_wp2_with fail
      refine (HSZ.out _ (Below.refl _ _)).mono ?_
      rintro e2 w2 ⟨rfl, b2⟩
      have HB2 := Lib.hid b2
      clear b2
      go_wp2_with fail
      refine (HSZ.out _ HB2.out).mono ?_
      rintro e3 w3 ⟨rfl, b3⟩
      have HB3 : Hid (Below wr.heap.size wr w3) := HB2.out.trans (b3.mono HB2.out.size)
      clear b3 HB2
      go_wp2_with fail
      refine (share_bk w3 N (by rw [HN.out]; have := HLEN.out; omega)).mono ?_
      rintro e4 w4 ⟨rfl, b4⟩
      have HB4 : Hid (Below wr.heap.size wr w4) := HB3.out.trans (b4.mono HB3.out.size)
      clear b4 HB3
      have hsh := share_le (n := N) (by rw [HN.out]; exact HPOS.out)
      obtain ⟨f0, hf0⟩ : ∃ f0, f1 = f0 + 1 := ⟨f1 - 1, by have := HFU.out; have := HPOS.out; omega⟩
      have hstep : layAllE f0 (takeK (layE C1 (es1.take (shareN N))).1 rest1 (layE C1 (es1.take (shareN N))).2).1 (es1.drop (shareN N)) (takeK (layE C1 (es1.take (shareN N))).1 rest1 (layE C1 (es1.take (shareN N))).2).2 = fin := by
        have := HL1.out
        rw [hf0, layAllE, if_neg (by have := HPOS.out; omega), ← HN.out] at this
        exact this
      have hmore := layAllE_more f0 (takeK (layE C1 (es1.take (shareN N))).1 rest1 (layE C1 (es1.take (shareN N))).2).1 (es1.drop (shareN N)) (takeK (layE C1 (es1.take (shareN N))).1 rest1 (layE C1 (es1.take (shareN N))).2).2
      rw [hstep] at hmore
      have hly := lay_kids (R := R) (n := shareN N) (HS1.out.stay HB4.out) (HK1.out.stay HB4.out) (Nat.lt_of_le_of_lt HLE.out HLF.out) (by rw [← HN.out]; exact hsh.2) HM1.out HSU.out (HR.out.less (Nat.le_trans hmore HFI.out))
      have hsp := takeK_smp rest1 (layE C1 (es1.take (shareN N))).1 (layE C1 (es1.take (shareN N))).2 HM1.out.tail (headE_len (fun x hx => (HM1.out es1 (by simp)).2 x (List.mem_of_mem_take hx)))
      have HLY := Lib.hid hly; have HSTP := Lib.hid hstep; have HSP := Lib.hid hsp; have HSH := Lib.hid hsh; have HF0E := Lib.hid hf0
      clear hly hstep hsp hsh hmore hf0
      go_wp2_with fail
      refine HLY.out.mono ?_
      rintro e5 w5 ⟨v5, rfl, h5⟩
      clear HLY
      rcases h5 with ⟨rfl, own5, lf5, vi5, kv5, dv5, up5, es5, rest5, F5, hlv, hlf5, hvi5, hs5, hF5, ht5, hk5⟩ | ⟨hl0, rfl, own5, ht5⟩
      · simp only [List.cons.injEq] at hlv
        obtain ⟨rfl, rfl⟩ := hlv
        obtain rfl := hvi5 rfl
        have ht6 := (HT1.out.trans (Turns.below (F := []) HB4.out) (by simp)).trans ht5 HF1.out
        have hF6 : ∀ k ∈ p :: (blk (.slice none 0 0) ++ (blk kv5 ++ (blk dv5 ++ F5))), k ∈ F0 ∨ (w.alloc (.cells #[.int .i64 0, .int .u64 0] 39)).heap.size ≤ k := fun k hk => by
          rcases hF5 k hk with h1 | h1
          · exact HF1.out k h1
          · exact .inr (Nat.le_trans HT1.out.size (Nat.le_trans HB4.out.size h1))
        have HN6 : Hid (ClE R fin lf W g a own F0 (w.alloc (.cells #[.int .i64 0, .int .u64 0] 39)) p w5) := ⟨own5, lf5, kv5, dv5, up5, es1.drop (shareN N), _, F5, _, f0, by rw [List.length_drop]; have := HFU.out; have := HF0E.out; have := HSH.out.1; omega, HSTP.out, Nat.le_trans hlf5 HLE.out, hs5, hF6, ht6, hk5, Smp.cons (by rw [List.length_drop]; have := HLEN.out; omega) (fun x hx => (HM1.out es1 (by simp)).2 x (List.mem_of_mem_drop hx)) HSP.out.1, by
            rw [sumD_cons, HSP.out.2]
            have h7 : (layE C1 (es1.take (shareN N))).2.d.ct = sumK ((es1.take (shareN N)).map (·.d)) := rfl
            have h8 := HSU.out
            rw [sumD_cons] at h8
            have h9 := sumK_app ((es1.take (shareN N)).map (·.d)) ((es1.drop (shareN N)).map (·.d))
            rw [← List.map_append, List.take_append_drop] at h9
            omega⟩
        have hm6 : rowLen w5 p 2 < rowLen wr p 2 := by
          rw [HLN.out]
          obtain ⟨p6, c6, rfl, -⟩ := hs5.row.ds.row
          have h9 : w5.cell? ⟨p, 2, none⟩ = some (.slice p6 ((es1.drop (shareN N)).map (·.d)).length c6) := cells_of hs5.row.cells 2
          unfold rowLen
          rw [h9]
          show ((es1.drop (shareN N)).map (·.d)).length < _
          rw [List.length_map, List.length_drop]; have := HSH.out; have := HPOS.out; omega
        have HM6 := Lib.hid hm6
        clear hs5 hF5 ht5 hk5 ht6 hF6 hm6 hvi5 hlf5
        go_wp2
        go_roundw
        case rel => first | exact HN6.out | exact ⟨_, _, _, _, _, _, _, _, _, _, HN6.out, rfl⟩ | exact ⟨_, _, _, _, _, _, _, _, _, _, _, HN6.out, rfl⟩ | exact ⟨_, _, _, _, _, _, _, _, _, _, _, _, HN6.out, rfl⟩ | exact ⟨_, _, _, _, _, _, _, _, _, _, _, _, _, HN6.out, rfl⟩ | exact ⟨_, _, _, _, _, _, _, _, _, _, _, _, _, _, HN6.out, rfl⟩ | exact ⟨_, _, _, _, _, _, _, _, _, _, _, _, _, _, _, HN6.out, rfl⟩ | exact ⟨_, _, _, _, _, _, _, _, _, _, _, _, _, _, _, _, HN6.out, rfl⟩ | exact ⟨_, _, _, _, _, _, _, _, _, _, _, _, _, _, _, _, _, HN6.out, rfl⟩ | exact ⟨_, _, _, _, _, _, _, _, _, _, _, _, _, _, _, _, _, _, HN6.out, rfl⟩ | exact ⟨_, _, _, _, _, _, _, _, _, _, _, _, _, _, _, _, _, _, _, HN6.out, rfl⟩
        case measure => exact HM6.out
      · have ht6 := (HT1.out.trans (Turns.below (F := []) HB4.out) (by simp)).trans ht5 HF1.out
        obtain ⟨hx6, hoA6⟩ := HANS.out own5 w5 ht6
        have t0 : w5.cell? ⟨w.heap.size, 0, none⟩ = some (.int .i64 0) := cells_of hx6 0
        have t1 : w5.cell? ⟨w.heap.size, 1, none⟩ = some (.int .u64 0) := cells_of hx6 1
        have q0 := free_of hx6 0; have q1 := free_of hx6 1
        have HX := Lib.hid (fun (_ : Unit) => two_setB (a := .int .i64 0) (b := .int .u64 0) hx6)
        have HF : Hid (Shut R C' d lf W g a own F0 w (.returned (.tuple #[.agg #[.int .i64 0, .int .u64 0], .int .i64 5])) ((w5.setCell ⟨w.heap.size, 0, none⟩ (.int .i64 0)).setCell ⟨w.heap.size, 1, none⟩ (.int .u64 0))) := .inr ⟨by have := HLE.out; omega, rfl, own5, HTA.out own5 w5 _ _ ht6⟩
        clear hx6 hoA6 ht5 ht6
        go_wp2
        exact bodyPost_ret (cell2B (p := 2) (u := 3) (x := .int .i64 5) (ty := 39) (n := 2) (by kernel_rfl) (by kernel_rfl) (by kernel_rfl) rfl rfl (HX.out ()) rfl) rfl HF.out
    · have hn0 : es1.length = 0 := by omega
      have hn1 : es1 = [] := List.eq_nil_of_length_eq_zero hn0
      have hfe : fin = (C1, rest1) := by
        rw [← HL1.out, hn1]
        cases f1 with
        | zero => rfl
        | succ f => simp [layAllE]
      rw [hn0] at HSZ
      have HFE := Lib.hid hfe
      clear hz hn0 hn1 hfe
      go_wp2_with fail
      refine (HSZ.out _ (Below.refl _ _)).mono ?_
      rintro e2 w2 ⟨rfl, b2⟩
      have hs2 := HS1.out.stay b2
      have hk2 := HK1.out.stay b2
      have ht2 := HT1.out.trans (Turns.below (F := []) b2) (by simp)
      have m5 : w2.cell? ⟨p, 5, none⟩ = some up1 := cells_of hs2.row.cells 5
      have hcl := HC.out own1 w2 up1 F1 lf1 (by rw [HFE.out]; exact hs2.ch) (by rw [HFE.out]; exact hk2) HLE.out
      have hupx : (∃ q1 : Option Addr, up1 = .pointer q1) := by rcases up_of hs2.ch with ⟨_, h⟩ | ⟨q1, _, _, _, h⟩; exact ⟨_, h⟩; exact ⟨_, h⟩
      obtain ⟨q1, rfl⟩ := hupx
      have hFF : ∀ k ∈ F1, k ∈ F0 ∨ (w.alloc (.cells #[.int .i64 0, .int .u64 0] 39)).heap.size ≤ k := fun k hk => HF1.out k (by rw [mem4]; simp [hk])
      have HCL := Lib.hid hcl; have HT2 := Lib.hid ht2; have HFF := Lib.hid hFF
      clear hs2 hk2 ht2 b2 hcl hFF
      go_wp2_with fail
      refine HCL.out.mono ?_
      rintro e3 w3 (⟨rfl, own3, lf3, hl3, ht3, hk3⟩ | ⟨hl0, rfl, own3, ht3⟩)
      · have ht6 := HT2.out.trans ht3 HFF.out
        obtain ⟨hx6, hoA6⟩ := HANS.out own3 w3 ht6
        have t0 : w3.cell? ⟨w.heap.size, 0, none⟩ = some (.int .i64 0) := cells_of hx6 0
        have t1 : w3.cell? ⟨w.heap.size, 1, none⟩ = some (.int .u64 0) := cells_of hx6 1
        have q2 := free_of hx6 0; have q3 := free_of hx6 1
        have HX := Lib.hid (fun (_ : Unit) => two_setB (a := (.int .i64 d.off)) (b := (.int .u64 (d.ct : Nat))) hx6)
        have HF : Hid (Shut R C' d lf W g a own F0 w (.returned (.tuple #[.agg #[.int .i64 d.off, .int .u64 (d.ct : Nat)], .int .i64 0])) ((w3.setCell ⟨w.heap.size, 0, none⟩ (.int .i64 d.off)).setCell ⟨w.heap.size, 1, none⟩ (.int .u64 (d.ct : Nat)))) := .inl ⟨rfl, own3, lf3, Nat.le_trans hl3 HLE.out, HTA.out own3 w3 _ _ ht6, HFA.out own3 lf3 C' w3 _ _ ht6 hk3⟩
        clear hx6 hoA6 ht3 ht6 hk3 hl3
        go_wp2
        exact bodyPost_ret (cell2B (p := 2) (u := 3) (x := .int .i64 0) (ty := 39) (n := 2) (by kernel_rfl) (by kernel_rfl) (by kernel_rfl) rfl rfl (HX.out ()) rfl) rfl HF.out
      · have ht6 := HT2.out.trans ht3 HFF.out
        obtain ⟨hx6, hoA6⟩ := HANS.out own3 w3 ht6
        have t0 : w3.cell? ⟨w.heap.size, 0, none⟩ = some (.int .i64 0) := cells_of hx6 0
        have t1 : w3.cell? ⟨w.heap.size, 1, none⟩ = some (.int .u64 0) := cells_of hx6 1
        have q2 := free_of hx6 0; have q3 := free_of hx6 1
        have HX := Lib.hid (fun (_ : Unit) => two_setB (a := (.int .i64 0)) (b := (.int .u64 0)) hx6)
        have HF : Hid (Shut R C' d lf W g a own F0 w (.returned (.tuple #[.agg #[.int .i64 0, .int .u64 0], .int .i64 5])) ((w3.setCell ⟨w.heap.size, 0, none⟩ (.int .i64 0)).setCell ⟨w.heap.size, 1, none⟩ (.int .u64 0))) := .inr ⟨by have := HLE.out; omega, rfl, own3, HTA.out own3 w3 _ _ ht6⟩
        clear hx6 hoA6 ht3 ht6 hl0
        go_wp2
        exact bodyPost_ret (cell2B (p := 2) (u := 3) (x := .int .i64 5) (ty := 39) (n := 2) (by kernel_rfl) (by kernel_rfl) (by kernel_rfl) rfl rfl (HX.out ()) rfl) rfl HF.out
set_option maxRecDepth 100000 in
set_option maxHeartbeats 4000000 in
theorem closed_items_top {R : Int} {C C' : List Nat} {lf a : Nat} {own : Own} {W : World} {g : Nat} {w : World} {p : Nat} {vi kv dv : Value} {its : List NIt} {_es : List KE} {_rest : List (List KE)} {F : List Nat} {d : NKd}
    (hs : St6 own W g w p true vi kv dv (.pointer none) its [] [] F) (hf : BkF R C lf W g a own w) (hlf : lf < 1000000) (hm : Smp ([])) (hsum : sumD [] + its.length ≤ 1099511627776) (hr : Roomy R C') (hl : its.length ≤ 11) (hk : ∀ x ∈ its, x.k.length ≤ 1000)
    (hfin : (layAllI its.length C its []).1.length ≤ C'.length)
    (hC : ∀ own1 w1 up1 F1 lf1, Chain own1 W g w1 up1 (layAllI its.length C its []).2 F1 → BkF R (layAllI its.length C its []).1 lf1 W g a own1 w1 → lf1 ≤ lf → Calls Try.prog 24 #[up1] w1 (Shut R C' d lf1 W g a own1 F1 w1)) :
    Calls Try.prog 24 #[.pointer (some ⟨p, 0, none⟩)] w (Shut R C' d lf W g a own (p :: (blk vi ++ (blk kv ++ (blk dv ++ F)))) w) := by
  obtain ⟨fin, hfi⟩ : ∃ fin, fin = layAllI its.length C its [] := ⟨_, rfl⟩
  rw [← hfi] at hfin hC
  obtain ⟨F0, hF0⟩ : ∃ F0, F0 = p :: (blk vi ++ (blk kv ++ (blk dv ++ F))) := ⟨_, rfl⟩
  obtain ⟨A, hA⟩ : ∃ A, A = w.heap.size := ⟨_, rfl⟩
  obtain ⟨W1, hW1⟩ : ∃ W1, W1 = w.alloc (.cells #[.int .i64 0, .int .u64 0] 39) := ⟨_, rfl⟩
  have hb : Below w.heap.size w W1 := by rw [hW1]; exact (Below.refl _ _).alloc (Nat.le_refl _) _
  have hA1 : W1.heap[A]? = some (.cells #[.int .i64 0, .int .u64 0] 39 (0, 0)) := by rw [hA, hW1]; exact heap_alloc_new w _
  have hgl := hf.glt
  have hAF : ∀ k ∈ F0, k < A := fun k hk => by rw [hA]; exact (hs.fr k (by rw [← hF0]; exact hk)).2.2.2
  have hoA : own A = none := hf.new_none (by omega)
  have HANS : Hid (∀ own1 wr, Turns g F0 own own1 W1 wr → wr.heap[A]? = some (.cells #[.int .i64 0, .int .u64 0] 39 (0, 0)) ∧ own1 A = none) := fun own1 wr ht => ⟨(ht.block A (Array.getElem?_eq_some_iff.1 hA1).1 (by omega) (fun h => by have := hAF A h; omega) hoA).trans hA1, (ht.same A (Array.getElem?_eq_some_iff.1 hA1).1).trans hoA⟩
  have HTA : Hid (∀ own1 wr (x y : Value), Turns g F0 own own1 W1 wr → Turns g F0 own own1 w ((wr.setCell ⟨A, 0, none⟩ x).setCell ⟨A, 1, none⟩ y)) := fun own1 wr x y ht => turns_ans hb hA ht ⟨_, (HANS.out own1 wr ht).1⟩ x y
  have HFA : Hid (∀ own1 lf1 C1 wr (x y : Value), Turns g F0 own own1 W1 wr → BkF R C1 lf1 W g a own1 wr → BkF R C1 lf1 W g a own1 ((wr.setCell ⟨A, 0, none⟩ x).setCell ⟨A, 1, none⟩ y)) := fun own1 lf1 C1 wr x y ht h => h.only ((Only.set A 0 wr x).trans (Only.set A 1 _ y)) ⟨(HANS.out own1 wr ht).2, by omega, by omega⟩
  have H0 : Hid (ClI R fin lf W g a own F0 W1 p W1) := ⟨own, lf, vi, kv, dv, (.pointer none), its, [], F, C, its.length, Nat.le_refl _, hfi.symm, Nat.le_refl _, hs.stay hb, fun k hk => .inl (by rw [hF0]; exact hk), Turns.refl _ _ _ _, hf.stay hb, hm, hsum, by omega, hk⟩
  have hrow := (hb.block _ (Array.getElem?_eq_some_iff.1 hs.row.cells).1).trans hs.row.cells
  have c5 : W1.cell? ⟨p, 5, none⟩ = some (.pointer none) := cells_of hrow 5
  obtain ⟨pd, cd, rfl, -⟩ := hs.row.ds.row
  have c2 : W1.cell? ⟨p, 2, none⟩ = some (.slice pd 0 cd) := by have := cells_of hrow 2; exact this
  have HC := Lib.hid hC; have HR := Lib.hid hr; have HFI := Lib.hid hfin; have HLF := Lib.hid hlf
  rw [← hF0]
  clear hs hf hlf hm hsum hr hl hfin hC hfi hF0 hb hA1 hgl hAF hoA hrow hk
  subst hA
  subst hW1
  go_enter Try.func24, Try.ntmps24
  go_wp2
  go_loopw [4] (fun _ wr => ClI R fin lf W g a own F0 (w.alloc (.cells #[.int .i64 0, .int .u64 0] 39)) p wr) (fun _ wr => rowLen wr p 0)
  case atStart => exact H0.out
  case round =>
    clear H0 c5 c2
    obtain ⟨own1, lf1, vi1, kv1, dv1, up1, its1, rest1, F1, C1, f1, hf1, hl1, hlf1, hs1, hF1, ht1, hk1, hm1, hsum1, hlen1, hkey1⟩ := hrel
    obtain ⟨pi1, ci1, rfl, -⟩ := hs1.row.its.row
    obtain ⟨pk1, ck1, rfl, -⟩ := hs1.row.ks.row
    obtain ⟨pd1, cd1, rfl, -⟩ := hs1.row.ds.row
    have hcr := hs1.row.cells
    have HSZ : Hid (∀ wx, Below wr.heap.size wr wx → Calls Try.prog 40 #[.pointer (some ⟨p, 0, none⟩)] wx fun e w' => e = .returned (.int .i64 (its1.length : Nat)) ∧ Below wx.heap.size wx w') := fun wx hx => by
      have := size_bk ((hx.block _ (Array.getElem?_eq_some_iff.1 hcr).1).trans hcr) (by simp; omega)
      simpa using this
    have hln : rowLen wr p 0 = its1.length := by have h9 : wr.cell? ⟨p, 0, none⟩ = some (.slice pi1 its1.length ci1) := cells_of hcr 0; unfold rowLen; rw [h9]
    have HS1 := Lib.hid hs1; have HK1 := Lib.hid hk1; have HT1 := Lib.hid ht1; have HF1 := Lib.hid hF1; have HL1 := Lib.hid hl1; have HLN := Lib.hid hln; have HLE := Lib.hid hlf1
    have HM1 := Lib.hid hm1; have HSU := Lib.hid hsum1; have HFU := Lib.hid hf1; have HLEN := Lib.hid hlen1
    have HKEY := Lib.hid hkey1
    clear hs1 hk1 ht1 hF1 hl1 hln hlf1 hm1 hsum1 hf1 hlen1 hcr hkey1
    by_cases hz : (its1.length : Int) > 0
    · have hpos : 0 < its1.length := by omega
      have HPOS := Lib.hid hpos
      obtain ⟨N, hN⟩ : ∃ N, N = its1.length := ⟨_, rfl⟩
      have HN := Lib.hid hN
      rw [← hN] at HSZ hz
      clear hpos hN
      go_wp2_with fail
      refine (HSZ.out _ (Below.refl _ _)).mono ?_
      rintro e2 w2 ⟨rfl, b2⟩
      have HB2 := Lib.hid b2
      clear b2
      go_wp2_with fail
      refine (HSZ.out _ HB2.out).mono ?_
      rintro e3 w3 ⟨rfl, b3⟩
      have HB3 : Hid (Below wr.heap.size wr w3) := HB2.out.trans (b3.mono HB2.out.size)
      clear b3 HB2
      go_wp2_with fail
      refine (share_bk w3 N (by rw [HN.out]; have := HLEN.out; omega)).mono ?_
      rintro e4 w4 ⟨rfl, b4⟩
      have HB4 : Hid (Below wr.heap.size wr w4) := HB3.out.trans (b4.mono HB3.out.size)
      clear b4 HB3
      have hsh := share_le (n := N) (by rw [HN.out]; exact HPOS.out)
      obtain ⟨f0, hf0⟩ : ∃ f0, f1 = f0 + 1 := ⟨f1 - 1, by have := HFU.out; have := HPOS.out; omega⟩
      have hstep : layAllI f0 (takeK (layI C1 (its1.take (shareN N))).1 rest1 (layI C1 (its1.take (shareN N))).2).1 (its1.drop (shareN N)) (takeK (layI C1 (its1.take (shareN N))).1 rest1 (layI C1 (its1.take (shareN N))).2).2 = fin := by
        have := HL1.out
        rw [hf0, layAllI, if_neg (by have := HPOS.out; omega), ← HN.out] at this
        exact this
      have hmore := layAllI_more f0 (takeK (layI C1 (its1.take (shareN N))).1 rest1 (layI C1 (its1.take (shareN N))).2).1 (its1.drop (shareN N)) (takeK (layI C1 (its1.take (shareN N))).1 rest1 (layI C1 (its1.take (shareN N))).2).2
      rw [hstep] at hmore
      have hly := lay_items (R := R) (n := shareN N) (HS1.out.stay HB4.out) (HK1.out.stay HB4.out) (Nat.lt_of_le_of_lt HLE.out HLF.out) (by rw [← HN.out]; exact hsh.2) (HLEN.out) (HKEY.out) HM1.out HSU.out (HR.out.less (Nat.le_trans hmore HFI.out))
      have hsp := takeK_smp rest1 (layI C1 (its1.take (shareN N))).1 (layI C1 (its1.take (shareN N))).2 HM1.out (headI_len (fun x hx => HKEY.out x (List.mem_of_mem_take hx)))
      have HLY := Lib.hid hly; have HSTP := Lib.hid hstep; have HSP := Lib.hid hsp; have HSH := Lib.hid hsh; have HF0E := Lib.hid hf0
      clear hly hstep hsp hsh hmore hf0
      go_wp2_with fail
      refine HLY.out.mono ?_
      rintro e5 w5 ⟨v5, rfl, h5⟩
      clear HLY
      rcases h5 with ⟨rfl, own5, lf5, vi5, kv5, dv5, up5, es5, rest5, F5, hlv, hlf5, hvi5, hs5, hF5, ht5, hk5⟩ | ⟨hl0, rfl, own5, ht5⟩
      · simp only [List.cons.injEq] at hlv
        obtain ⟨rfl, rfl⟩ := hlv
        have ht6 := (HT1.out.trans (Turns.below (F := []) HB4.out) (by simp)).trans ht5 HF1.out
        have hF6 : ∀ k ∈ p :: (blk vi5 ++ (blk kv5 ++ (blk dv5 ++ F5))), k ∈ F0 ∨ (w.alloc (.cells #[.int .i64 0, .int .u64 0] 39)).heap.size ≤ k := fun k hk => by
          rcases hF5 k hk with h1 | h1
          · exact HF1.out k h1
          · exact .inr (Nat.le_trans HT1.out.size (Nat.le_trans HB4.out.size h1))
        have HN6 : Hid (ClI R fin lf W g a own F0 (w.alloc (.cells #[.int .i64 0, .int .u64 0] 39)) p w5) := ⟨own5, lf5, vi5, kv5, dv5, up5, its1.drop (shareN N), _, F5, _, f0, by rw [List.length_drop]; have := HFU.out; have := HF0E.out; have := HSH.out.1; omega, HSTP.out, Nat.le_trans hlf5 HLE.out, hs5, hF6, ht6, hk5, HSP.out.1, by rw [HSP.out.2, List.length_drop]; have := HSU.out; have h7 : (layI C1 (its1.take (shareN N))).2.d.ct = (its1.take (shareN N)).length := rfl; rw [h7, List.length_take]; have := HSH.out.2; have := HN.out; omega, by rw [List.length_drop]; have := HLEN.out; omega, fun x hx => HKEY.out x (List.mem_of_mem_drop hx)⟩
        have hm6 : rowLen w5 p 0 < rowLen wr p 0 := by
          rw [HLN.out]
          obtain ⟨p6, c6, rfl, -⟩ := hs5.row.its.row
          have h9 : w5.cell? ⟨p, 0, none⟩ = some (.slice p6 (its1.drop (shareN N)).length c6) := cells_of hs5.row.cells 0
          unfold rowLen
          rw [h9]
          show (its1.drop (shareN N)).length < _
          rw [List.length_drop]; have := HSH.out; have := HPOS.out; omega
        have HM6 := Lib.hid hm6
        clear hs5 hF5 ht5 hk5 ht6 hF6 hm6 hvi5 hlf5
        go_wp2
        go_roundw
        case rel => first | exact HN6.out | exact ⟨_, _, _, _, _, _, _, _, _, _, HN6.out, rfl⟩ | exact ⟨_, _, _, _, _, _, _, _, _, _, _, HN6.out, rfl⟩ | exact ⟨_, _, _, _, _, _, _, _, _, _, _, _, HN6.out, rfl⟩ | exact ⟨_, _, _, _, _, _, _, _, _, _, _, _, _, HN6.out, rfl⟩ | exact ⟨_, _, _, _, _, _, _, _, _, _, _, _, _, _, HN6.out, rfl⟩ | exact ⟨_, _, _, _, _, _, _, _, _, _, _, _, _, _, _, HN6.out, rfl⟩ | exact ⟨_, _, _, _, _, _, _, _, _, _, _, _, _, _, _, _, HN6.out, rfl⟩ | exact ⟨_, _, _, _, _, _, _, _, _, _, _, _, _, _, _, _, _, HN6.out, rfl⟩ | exact ⟨_, _, _, _, _, _, _, _, _, _, _, _, _, _, _, _, _, _, HN6.out, rfl⟩ | exact ⟨_, _, _, _, _, _, _, _, _, _, _, _, _, _, _, _, _, _, _, HN6.out, rfl⟩
        case measure => exact HM6.out
      · have ht6 := (HT1.out.trans (Turns.below (F := []) HB4.out) (by simp)).trans ht5 HF1.out
        obtain ⟨hx6, hoA6⟩ := HANS.out own5 w5 ht6
        have t0 : w5.cell? ⟨w.heap.size, 0, none⟩ = some (.int .i64 0) := cells_of hx6 0
        have t1 : w5.cell? ⟨w.heap.size, 1, none⟩ = some (.int .u64 0) := cells_of hx6 1
        have q0 := free_of hx6 0; have q1 := free_of hx6 1
        have HX := Lib.hid (fun (_ : Unit) => two_setB (a := .int .i64 0) (b := .int .u64 0) hx6)
        have HF : Hid (Shut R C' d lf W g a own F0 w (.returned (.tuple #[.agg #[.int .i64 0, .int .u64 0], .int .i64 5])) ((w5.setCell ⟨w.heap.size, 0, none⟩ (.int .i64 0)).setCell ⟨w.heap.size, 1, none⟩ (.int .u64 0))) := .inr ⟨by have := HLE.out; omega, rfl, own5, HTA.out own5 w5 _ _ ht6⟩
        clear hx6 hoA6 ht5 ht6
        go_wp2
        exact bodyPost_ret (cell2B (p := 2) (u := 3) (x := .int .i64 5) (ty := 39) (n := 2) (by kernel_rfl) (by kernel_rfl) (by kernel_rfl) rfl rfl (HX.out ()) rfl) rfl HF.out
    · have hn0 : its1.length = 0 := by omega
      have hn1 : its1 = [] := List.eq_nil_of_length_eq_zero hn0
      have hfe : fin = (C1, rest1) := by
        rw [← HL1.out, hn1]
        cases f1 with
        | zero => rfl
        | succ f => simp [layAllI]
      rw [hn0] at HSZ
      have HFE := Lib.hid hfe
      clear hz hn0 hn1 hfe
      go_wp2_with fail
      refine (HSZ.out _ (Below.refl _ _)).mono ?_
      rintro e2 w2 ⟨rfl, b2⟩
      have hs2 := HS1.out.stay b2
      have hk2 := HK1.out.stay b2
      have ht2 := HT1.out.trans (Turns.below (F := []) b2) (by simp)
      have m5 : w2.cell? ⟨p, 5, none⟩ = some up1 := cells_of hs2.row.cells 5
      have hcl := HC.out own1 w2 up1 F1 lf1 (by rw [HFE.out]; exact hs2.ch) (by rw [HFE.out]; exact hk2) HLE.out
      have hupx : (∃ q1 : Option Addr, up1 = .pointer q1) := by rcases up_of hs2.ch with ⟨_, h⟩ | ⟨q1, _, _, _, h⟩; exact ⟨_, h⟩; exact ⟨_, h⟩
      obtain ⟨q1, rfl⟩ := hupx
      have hFF : ∀ k ∈ F1, k ∈ F0 ∨ (w.alloc (.cells #[.int .i64 0, .int .u64 0] 39)).heap.size ≤ k := fun k hk => HF1.out k (by rw [mem4]; simp [hk])
      have HCL := Lib.hid hcl; have HT2 := Lib.hid ht2; have HFF := Lib.hid hFF
      clear hs2 hk2 ht2 b2 hcl hFF
      go_wp2_with fail
      refine HCL.out.mono ?_
      rintro e3 w3 (⟨rfl, own3, lf3, hl3, ht3, hk3⟩ | ⟨hl0, rfl, own3, ht3⟩)
      · have ht6 := HT2.out.trans ht3 HFF.out
        obtain ⟨hx6, hoA6⟩ := HANS.out own3 w3 ht6
        have t0 : w3.cell? ⟨w.heap.size, 0, none⟩ = some (.int .i64 0) := cells_of hx6 0
        have t1 : w3.cell? ⟨w.heap.size, 1, none⟩ = some (.int .u64 0) := cells_of hx6 1
        have q2 := free_of hx6 0; have q3 := free_of hx6 1
        have HX := Lib.hid (fun (_ : Unit) => two_setB (a := (.int .i64 d.off)) (b := (.int .u64 (d.ct : Nat))) hx6)
        have HF : Hid (Shut R C' d lf W g a own F0 w (.returned (.tuple #[.agg #[.int .i64 d.off, .int .u64 (d.ct : Nat)], .int .i64 0])) ((w3.setCell ⟨w.heap.size, 0, none⟩ (.int .i64 d.off)).setCell ⟨w.heap.size, 1, none⟩ (.int .u64 (d.ct : Nat)))) := .inl ⟨rfl, own3, lf3, Nat.le_trans hl3 HLE.out, HTA.out own3 w3 _ _ ht6, HFA.out own3 lf3 C' w3 _ _ ht6 hk3⟩
        clear hx6 hoA6 ht3 ht6 hk3 hl3
        go_wp2
        exact bodyPost_ret (cell2B (p := 2) (u := 3) (x := .int .i64 0) (ty := 39) (n := 2) (by kernel_rfl) (by kernel_rfl) (by kernel_rfl) rfl rfl (HX.out ()) rfl) rfl HF.out
      · have ht6 := HT2.out.trans ht3 HFF.out
        obtain ⟨hx6, hoA6⟩ := HANS.out own3 w3 ht6
        have t0 : w3.cell? ⟨w.heap.size, 0, none⟩ = some (.int .i64 0) := cells_of hx6 0
        have t1 : w3.cell? ⟨w.heap.size, 1, none⟩ = some (.int .u64 0) := cells_of hx6 1
        have q2 := free_of hx6 0; have q3 := free_of hx6 1
        have HX := Lib.hid (fun (_ : Unit) => two_setB (a := (.int .i64 0)) (b := (.int .u64 0)) hx6)
        have HF : Hid (Shut R C' d lf W g a own F0 w (.returned (.tuple #[.agg #[.int .i64 0, .int .u64 0], .int .i64 5])) ((w3.setCell ⟨w.heap.size, 0, none⟩ (.int .i64 0)).setCell ⟨w.heap.size, 1, none⟩ (.int .u64 0))) := .inr ⟨by have := HLE.out; omega, rfl, own3, HTA.out own3 w3 _ _ ht6⟩
        clear hx6 hoA6 ht3 ht6 hl0
        go_wp2
        exact bodyPost_ret (cell2B (p := 2) (u := 3) (x := .int .i64 5) (ty := 39) (n := 2) (by kernel_rfl) (by kernel_rfl) (by kernel_rfl) rfl rfl (HX.out ()) rfl) rfl HF.out
set_option maxRecDepth 100000 in
set_option maxHeartbeats 4000000 in
theorem closed_items_mid {R : Int} {C C' : List Nat} {lf a : Nat} {own : Own} {W : World} {g : Nat} {w : World} {p q : Nat} {vi kv dv : Value} {its : List NIt} {_es : List KE} {rest : List (List KE)} {F : List Nat} {d : NKd}
    (hs : St6 own W g w p true vi kv dv (.pointer (some ⟨q, 0, none⟩)) its [] rest F) (hf : BkF R C lf W g a own w) (hlf : lf < 1000000) (hm : Smp (rest)) (hsum : sumD rest + its.length ≤ 1099511627776) (hr : Roomy R C') (hl : its.length ≤ 11) (hk : ∀ x ∈ its, x.k.length ≤ 1000)
    (hfin : (layAllI its.length C its rest).1.length ≤ C'.length)
    (hC : ∀ own1 w1 up1 F1 lf1, Chain own1 W g w1 up1 (layAllI its.length C its rest).2 F1 → BkF R (layAllI its.length C its rest).1 lf1 W g a own1 w1 → lf1 ≤ lf → Calls Try.prog 24 #[up1] w1 (Shut R C' d lf1 W g a own1 F1 w1)) :
    Calls Try.prog 24 #[.pointer (some ⟨p, 0, none⟩)] w (Shut R C' d lf W g a own (p :: (blk vi ++ (blk kv ++ (blk dv ++ F)))) w) := by
  obtain ⟨fin, hfi⟩ : ∃ fin, fin = layAllI its.length C its rest := ⟨_, rfl⟩
  rw [← hfi] at hfin hC
  obtain ⟨F0, hF0⟩ : ∃ F0, F0 = p :: (blk vi ++ (blk kv ++ (blk dv ++ F))) := ⟨_, rfl⟩
  obtain ⟨A, hA⟩ : ∃ A, A = w.heap.size := ⟨_, rfl⟩
  obtain ⟨W1, hW1⟩ : ∃ W1, W1 = w.alloc (.cells #[.int .i64 0, .int .u64 0] 39) := ⟨_, rfl⟩
  have hb : Below w.heap.size w W1 := by rw [hW1]; exact (Below.refl _ _).alloc (Nat.le_refl _) _
  have hA1 : W1.heap[A]? = some (.cells #[.int .i64 0, .int .u64 0] 39 (0, 0)) := by rw [hA, hW1]; exact heap_alloc_new w _
  have hgl := hf.glt
  have hAF : ∀ k ∈ F0, k < A := fun k hk => by rw [hA]; exact (hs.fr k (by rw [← hF0]; exact hk)).2.2.2
  have hoA : own A = none := hf.new_none (by omega)
  have HANS : Hid (∀ own1 wr, Turns g F0 own own1 W1 wr → wr.heap[A]? = some (.cells #[.int .i64 0, .int .u64 0] 39 (0, 0)) ∧ own1 A = none) := fun own1 wr ht => ⟨(ht.block A (Array.getElem?_eq_some_iff.1 hA1).1 (by omega) (fun h => by have := hAF A h; omega) hoA).trans hA1, (ht.same A (Array.getElem?_eq_some_iff.1 hA1).1).trans hoA⟩
  have HTA : Hid (∀ own1 wr (x y : Value), Turns g F0 own own1 W1 wr → Turns g F0 own own1 w ((wr.setCell ⟨A, 0, none⟩ x).setCell ⟨A, 1, none⟩ y)) := fun own1 wr x y ht => turns_ans hb hA ht ⟨_, (HANS.out own1 wr ht).1⟩ x y
  have HFA : Hid (∀ own1 lf1 C1 wr (x y : Value), Turns g F0 own own1 W1 wr → BkF R C1 lf1 W g a own1 wr → BkF R C1 lf1 W g a own1 ((wr.setCell ⟨A, 0, none⟩ x).setCell ⟨A, 1, none⟩ y)) := fun own1 lf1 C1 wr x y ht h => h.only ((Only.set A 0 wr x).trans (Only.set A 1 _ y)) ⟨(HANS.out own1 wr ht).2, by omega, by omega⟩
  have H0 : Hid (ClI R fin lf W g a own F0 W1 p W1) := ⟨own, lf, vi, kv, dv, (.pointer (some ⟨q, 0, none⟩)), its, rest, F, C, its.length, Nat.le_refl _, hfi.symm, Nat.le_refl _, hs.stay hb, fun k hk => .inl (by rw [hF0]; exact hk), Turns.refl _ _ _ _, hf.stay hb, hm, hsum, by omega, hk⟩
  have hrow := (hb.block _ (Array.getElem?_eq_some_iff.1 hs.row.cells).1).trans hs.row.cells
  have c5 : W1.cell? ⟨p, 5, none⟩ = some (.pointer (some ⟨q, 0, none⟩)) := cells_of hrow 5
  have HC := Lib.hid hC; have HR := Lib.hid hr; have HFI := Lib.hid hfin; have HLF := Lib.hid hlf
  rw [← hF0]
  clear hs hf hlf hm hsum hr hl hfin hC hfi hF0 hb hA1 hgl hAF hoA hrow hk
  subst hA
  subst hW1
  go_enter Try.func24, Try.ntmps24
  go_wp2
  go_loopw [4] (fun _ wr => ClI R fin lf W g a own F0 (w.alloc (.cells #[.int .i64 0, .int .u64 0] 39)) p wr) (fun _ wr => rowLen wr p 0)
  case atStart => exact H0.out
  case round =>
    clear H0 c5
    obtain ⟨own1, lf1, vi1, kv1, dv1, up1, its1, rest1, F1, C1, f1, hf1, hl1, hlf1, hs1, hF1, ht1, hk1, hm1, hsum1, hlen1, hkey1⟩ := hrel
    obtain ⟨pi1, ci1, rfl, -⟩ := hs1.row.its.row
    obtain ⟨pk1, ck1, rfl, -⟩ := hs1.row.ks.row
    obtain ⟨pd1, cd1, rfl, -⟩ := hs1.row.ds.row
    have hcr := hs1.row.cells
    have HSZ : Hid (∀ wx, Below wr.heap.size wr wx → Calls Try.prog 40 #[.pointer (some ⟨p, 0, none⟩)] wx fun e w' => e = .returned (.int .i64 (its1.length : Nat)) ∧ Below wx.heap.size wx w') := fun wx hx => by
      have := size_bk ((hx.block _ (Array.getElem?_eq_some_iff.1 hcr).1).trans hcr) (by simp; omega)
      simpa using this
    have hln : rowLen wr p 0 = its1.length := by have h9 : wr.cell? ⟨p, 0, none⟩ = some (.slice pi1 its1.length ci1) := cells_of hcr 0; unfold rowLen; rw [h9]
    have HS1 := Lib.hid hs1; have HK1 := Lib.hid hk1; have HT1 := Lib.hid ht1; have HF1 := Lib.hid hF1; have HL1 := Lib.hid hl1; have HLN := Lib.hid hln; have HLE := Lib.hid hlf1
    have HM1 := Lib.hid hm1; have HSU := Lib.hid hsum1; have HFU := Lib.hid hf1; have HLEN := Lib.hid hlen1
    have HKEY := Lib.hid hkey1
    clear hs1 hk1 ht1 hF1 hl1 hln hlf1 hm1 hsum1 hf1 hlen1 hcr hkey1
    by_cases hz : (its1.length : Int) > 0
    · have hpos : 0 < its1.length := by omega
      have HPOS := Lib.hid hpos
      obtain ⟨N, hN⟩ : ∃ N, N = its1.length := ⟨_, rfl⟩
      have HN := Lib.hid hN
      rw [← hN] at HSZ hz
      clear hpos hN
      go_wp2_with fail
      refine (HSZ.out _ (Below.refl _ _)).mono ?_
      rintro e2 w2 ⟨rfl, b2⟩
      have HB2 := Lib.hid b2
      clear b2
      go_wp2_with fail
      refine (HSZ.out _ HB2.out).mono ?_
      rintro e3 w3 ⟨rfl, b3⟩
      have HB3 : Hid (Below wr.heap.size wr w3) := HB2.out.trans (b3.mono HB2.out.size)
      clear b3 HB2
      go_wp2_with fail
      refine (share_bk w3 N (by rw [HN.out]; have := HLEN.out; omega)).mono ?_
      rintro e4 w4 ⟨rfl, b4⟩
      have HB4 : Hid (Below wr.heap.size wr w4) := HB3.out.trans (b4.mono HB3.out.size)
      clear b4 HB3
      have hsh := share_le (n := N) (by rw [HN.out]; exact HPOS.out)
      obtain ⟨f0, hf0⟩ : ∃ f0, f1 = f0 + 1 := ⟨f1 - 1, by have := HFU.out; have := HPOS.out; omega⟩
      have hstep : layAllI f0 (takeK (layI C1 (its1.take (shareN N))).1 rest1 (layI C1 (its1.take (shareN N))).2).1 (its1.drop (shareN N)) (takeK (layI C1 (its1.take (shareN N))).1 rest1 (layI C1 (its1.take (shareN N))).2).2 = fin := by
        have := HL1.out
        rw [hf0, layAllI, if_neg (by have := HPOS.out; omega), ← HN.out] at this
        exact this
      have hmore := layAllI_more f0 (takeK (layI C1 (its1.take (shareN N))).1 rest1 (layI C1 (its1.take (shareN N))).2).1 (its1.drop (shareN N)) (takeK (layI C1 (its1.take (shareN N))).1 rest1 (layI C1 (its1.take (shareN N))).2).2
      rw [hstep] at hmore
      have hly := lay_items (R := R) (n := shareN N) (HS1.out.stay HB4.out) (HK1.out.stay HB4.out) (Nat.lt_of_le_of_lt HLE.out HLF.out) (by rw [← HN.out]; exact hsh.2) (HLEN.out) (HKEY.out) HM1.out HSU.out (HR.out.less (Nat.le_trans hmore HFI.out))
      have hsp := takeK_smp rest1 (layI C1 (its1.take (shareN N))).1 (layI C1 (its1.take (shareN N))).2 HM1.out (headI_len (fun x hx => HKEY.out x (List.mem_of_mem_take hx)))
      have HLY := Lib.hid hly; have HSTP := Lib.hid hstep; have HSP := Lib.hid hsp; have HSH := Lib.hid hsh; have HF0E := Lib.hid hf0
      clear hly hstep hsp hsh hmore hf0
      go_wp2_with fail
      refine HLY.out.mono ?_
      rintro e5 w5 ⟨v5, rfl, h5⟩
      clear HLY
      rcases h5 with ⟨rfl, own5, lf5, vi5, kv5, dv5, up5, es5, rest5, F5, hlv, hlf5, hvi5, hs5, hF5, ht5, hk5⟩ | ⟨hl0, rfl, own5, ht5⟩
      · simp only [List.cons.injEq] at hlv
        obtain ⟨rfl, rfl⟩ := hlv
        have ht6 := (HT1.out.trans (Turns.below (F := []) HB4.out) (by simp)).trans ht5 HF1.out
        have hF6 : ∀ k ∈ p :: (blk vi5 ++ (blk kv5 ++ (blk dv5 ++ F5))), k ∈ F0 ∨ (w.alloc (.cells #[.int .i64 0, .int .u64 0] 39)).heap.size ≤ k := fun k hk => by
          rcases hF5 k hk with h1 | h1
          · exact HF1.out k h1
          · exact .inr (Nat.le_trans HT1.out.size (Nat.le_trans HB4.out.size h1))
        have HN6 : Hid (ClI R fin lf W g a own F0 (w.alloc (.cells #[.int .i64 0, .int .u64 0] 39)) p w5) := ⟨own5, lf5, vi5, kv5, dv5, up5, its1.drop (shareN N), _, F5, _, f0, by rw [List.length_drop]; have := HFU.out; have := HF0E.out; have := HSH.out.1; omega, HSTP.out, Nat.le_trans hlf5 HLE.out, hs5, hF6, ht6, hk5, HSP.out.1, by rw [HSP.out.2, List.length_drop]; have := HSU.out; have h7 : (layI C1 (its1.take (shareN N))).2.d.ct = (its1.take (shareN N)).length := rfl; rw [h7, List.length_take]; have := HSH.out.2; have := HN.out; omega, by rw [List.length_drop]; have := HLEN.out; omega, fun x hx => HKEY.out x (List.mem_of_mem_drop hx)⟩
        have hm6 : rowLen w5 p 0 < rowLen wr p 0 := by
          rw [HLN.out]
          obtain ⟨p6, c6, rfl, -⟩ := hs5.row.its.row
          have h9 : w5.cell? ⟨p, 0, none⟩ = some (.slice p6 (its1.drop (shareN N)).length c6) := cells_of hs5.row.cells 0
          unfold rowLen
          rw [h9]
          show (its1.drop (shareN N)).length < _
          rw [List.length_drop]; have := HSH.out; have := HPOS.out; omega
        have HM6 := Lib.hid hm6
        clear hs5 hF5 ht5 hk5 ht6 hF6 hm6 hvi5 hlf5
        go_wp2
        go_roundw
        case rel => first | exact HN6.out | exact ⟨_, _, _, _, _, _, _, _, _, _, HN6.out, rfl⟩ | exact ⟨_, _, _, _, _, _, _, _, _, _, _, HN6.out, rfl⟩ | exact ⟨_, _, _, _, _, _, _, _, _, _, _, _, HN6.out, rfl⟩ | exact ⟨_, _, _, _, _, _, _, _, _, _, _, _, _, HN6.out, rfl⟩ | exact ⟨_, _, _, _, _, _, _, _, _, _, _, _, _, _, HN6.out, rfl⟩ | exact ⟨_, _, _, _, _, _, _, _, _, _, _, _, _, _, _, HN6.out, rfl⟩ | exact ⟨_, _, _, _, _, _, _, _, _, _, _, _, _, _, _, _, HN6.out, rfl⟩ | exact ⟨_, _, _, _, _, _, _, _, _, _, _, _, _, _, _, _, _, HN6.out, rfl⟩ | exact ⟨_, _, _, _, _, _, _, _, _, _, _, _, _, _, _, _, _, _, HN6.out, rfl⟩ | exact ⟨_, _, _, _, _, _, _, _, _, _, _, _, _, _, _, _, _, _, _, HN6.out, rfl⟩
        case measure => exact HM6.out
      · have ht6 := (HT1.out.trans (Turns.below (F := []) HB4.out) (by simp)).trans ht5 HF1.out
        obtain ⟨hx6, hoA6⟩ := HANS.out own5 w5 ht6
        have t0 : w5.cell? ⟨w.heap.size, 0, none⟩ = some (.int .i64 0) := cells_of hx6 0
        have t1 : w5.cell? ⟨w.heap.size, 1, none⟩ = some (.int .u64 0) := cells_of hx6 1
        have q0 := free_of hx6 0; have q1 := free_of hx6 1
        have HX := Lib.hid (fun (_ : Unit) => two_setB (a := .int .i64 0) (b := .int .u64 0) hx6)
        have HF : Hid (Shut R C' d lf W g a own F0 w (.returned (.tuple #[.agg #[.int .i64 0, .int .u64 0], .int .i64 5])) ((w5.setCell ⟨w.heap.size, 0, none⟩ (.int .i64 0)).setCell ⟨w.heap.size, 1, none⟩ (.int .u64 0))) := .inr ⟨by have := HLE.out; omega, rfl, own5, HTA.out own5 w5 _ _ ht6⟩
        clear hx6 hoA6 ht5 ht6
        go_wp2
        exact bodyPost_ret (cell2B (p := 2) (u := 3) (x := .int .i64 5) (ty := 39) (n := 2) (by kernel_rfl) (by kernel_rfl) (by kernel_rfl) rfl rfl (HX.out ()) rfl) rfl HF.out
    · have hn0 : its1.length = 0 := by omega
      have hn1 : its1 = [] := List.eq_nil_of_length_eq_zero hn0
      have hfe : fin = (C1, rest1) := by
        rw [← HL1.out, hn1]
        cases f1 with
        | zero => rfl
        | succ f => simp [layAllI]
      rw [hn0] at HSZ
      have HFE := Lib.hid hfe
      clear hz hn0 hn1 hfe
      go_wp2_with fail
      refine (HSZ.out _ (Below.refl _ _)).mono ?_
      rintro e2 w2 ⟨rfl, b2⟩
      have hs2 := HS1.out.stay b2
      have hk2 := HK1.out.stay b2
      have ht2 := HT1.out.trans (Turns.below (F := []) b2) (by simp)
      have m5 : w2.cell? ⟨p, 5, none⟩ = some up1 := cells_of hs2.row.cells 5
      have hcl := HC.out own1 w2 up1 F1 lf1 (by rw [HFE.out]; exact hs2.ch) (by rw [HFE.out]; exact hk2) HLE.out
      have hupx : (∃ q1 : Option Addr, up1 = .pointer q1) := by rcases up_of hs2.ch with ⟨_, h⟩ | ⟨q1, _, _, _, h⟩; exact ⟨_, h⟩; exact ⟨_, h⟩
      obtain ⟨q1, rfl⟩ := hupx
      have hFF : ∀ k ∈ F1, k ∈ F0 ∨ (w.alloc (.cells #[.int .i64 0, .int .u64 0] 39)).heap.size ≤ k := fun k hk => HF1.out k (by rw [mem4]; simp [hk])
      have HCL := Lib.hid hcl; have HT2 := Lib.hid ht2; have HFF := Lib.hid hFF
      clear hs2 hk2 ht2 b2 hcl hFF
      go_wp2_with fail
      refine HCL.out.mono ?_
      rintro e3 w3 (⟨rfl, own3, lf3, hl3, ht3, hk3⟩ | ⟨hl0, rfl, own3, ht3⟩)
      · have ht6 := HT2.out.trans ht3 HFF.out
        obtain ⟨hx6, hoA6⟩ := HANS.out own3 w3 ht6
        have t0 : w3.cell? ⟨w.heap.size, 0, none⟩ = some (.int .i64 0) := cells_of hx6 0
        have t1 : w3.cell? ⟨w.heap.size, 1, none⟩ = some (.int .u64 0) := cells_of hx6 1
        have q2 := free_of hx6 0; have q3 := free_of hx6 1
        have HX := Lib.hid (fun (_ : Unit) => two_setB (a := (.int .i64 d.off)) (b := (.int .u64 (d.ct : Nat))) hx6)
        have HF : Hid (Shut R C' d lf W g a own F0 w (.returned (.tuple #[.agg #[.int .i64 d.off, .int .u64 (d.ct : Nat)], .int .i64 0])) ((w3.setCell ⟨w.heap.size, 0, none⟩ (.int .i64 d.off)).setCell ⟨w.heap.size, 1, none⟩ (.int .u64 (d.ct : Nat)))) := .inl ⟨rfl, own3, lf3, Nat.le_trans hl3 HLE.out, HTA.out own3 w3 _ _ ht6, HFA.out own3 lf3 C' w3 _ _ ht6 hk3⟩
        clear hx6 hoA6 ht3 ht6 hk3 hl3
        go_wp2
        exact bodyPost_ret (cell2B (p := 2) (u := 3) (x := .int .i64 0) (ty := 39) (n := 2) (by kernel_rfl) (by kernel_rfl) (by kernel_rfl) rfl rfl (HX.out ()) rfl) rfl HF.out
      · have ht6 := HT2.out.trans ht3 HFF.out
        obtain ⟨hx6, hoA6⟩ := HANS.out own3 w3 ht6
        have t0 : w3.cell? ⟨w.heap.size, 0, none⟩ = some (.int .i64 0) := cells_of hx6 0
        have t1 : w3.cell? ⟨w.heap.size, 1, none⟩ = some (.int .u64 0) := cells_of hx6 1
        have q2 := free_of hx6 0; have q3 := free_of hx6 1
        have HX := Lib.hid (fun (_ : Unit) => two_setB (a := (.int .i64 0)) (b := (.int .u64 0)) hx6)
        have HF : Hid (Shut R C' d lf W g a own F0 w (.returned (.tuple #[.agg #[.int .i64 0, .int .u64 0], .int .i64 5])) ((w3.setCell ⟨w.heap.size, 0, none⟩ (.int .i64 0)).setCell ⟨w.heap.size, 1, none⟩ (.int .u64 0))) := .inr ⟨by have := HLE.out; omega, rfl, own3, HTA.out own3 w3 _ _ ht6⟩
        clear hx6 hoA6 ht3 ht6 hl0
        go_wp2
        exact bodyPost_ret (cell2B (p := 2) (u := 3) (x := .int .i64 5) (ty := 39) (n := 2) (by kernel_rfl) (by kernel_rfl) (by kernel_rfl) rfl rfl (HX.out ()) rfl) rfl HF.out
end Go.Proofs.Ytajfcnaifegonaa.Sl.Nd
