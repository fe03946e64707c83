/- The disk: what was laid by, done again: truncate, and either. -/
import Derived.Test.YtobhhedggppneaaDskJ
namespace Go.Proofs.Ytobhhedggppneaa
open Go Go.RowKit Go.By

/-- An operation, done again: the row, and how many pieces were asked for. -/
def redoOp (bit : Nat → Bool) : ByteOp → Nat → List Nat → List Nat × Nat
  | .write off b, i, l => redoWrite off b bit b.length 0 i l
  | .cut n, i, l => (if bit i then fitL l n else l, i + 1)
def redoOps (bit : Nat → Bool) : List ByteOp → Nat → List Nat → List Nat × Nat
  | [], i, l => (l, i)
  | o :: os, i, l => redoOps bit os (redoOp bit o i l).2 (redoOp bit o i l).1

set_option maxRecDepth 100000 in
theorem redoCut_any {fid : FuncId} {first : Array Value} {S : Nat → Prop} {lb : Option Nat} {I : Nat → World → Prop} {bit : Nat → Bool} (L : Lasts fid first S lb I bit)
    (v : Value) (l : List Nat) (n i : Nat) (w : World) (hI : I i w) (hv : w.ownsRow 0 5 1 v l.length (cellsOf l)) (hS : ∀ k, v.ownBlock = some k → ¬ S k) (hn : n ≤ 16777216) (hi : i < drawLim) :
    Calls Try.prog 40 #[.agg #[.int .i64 n], v, .func (.func fid) first #[]] w fun e w' => ∃ v', e = .returned v' ∧
      I (redoOp bit (.cut n) i l).2 w' ∧ RowTo S lb w w' v v' (redoOp bit (.cut n) i l).1 := by
  have ho : redoOp bit (.cut n) i l = (if bit i then fitL l n else l, i + 1) := rfl
  have HO := Lib.hid ho; clear ho
  have hvlt : ∀ k, v.ownBlock = some k → k < w.heap.size := fun k hk => by
    rcases hv.2 with ⟨h, _⟩ | ⟨g, cap, cur, h, _, hg, _⟩
    · rw [h] at hk; cases hk
    · rw [h] at hk; cases hk; exact (Array.getElem?_eq_some_iff.1 hg).1
  obtain ⟨W, hW⟩ : ∃ W, W = w.alloc (Obj.cells #[Value.int IntKind.i64 ↑n] 90) := ⟨_, rfl⟩
  have hWs : W.heap.size = w.heap.size + 1 := by rw [hW]; simp
  have hWb : Below w.heap.size w W := by rw [hW]; exact Below.alloc (Below.refl _ _) (Nat.le_refl _) _
  have hW0 : W.heap[w.heap.size]? = some (.cells #[Value.int IntKind.i64 ↑n] 90 (0, 0)) := by rw [hW]; exact heap_alloc_new w _
  have hRT : RowTo S lb W W v v l := RowTo.refl (ownsRow_of_heap hv fun k hk => hWb.block k (hvlt k hk))
  have hIW : I i W := L.stay i w W hI fun k hk => hWb.block k (L.here i w k hI hk)
  have call := L.call i W hIW hi
  have hSl := fun k hk => L.here i w k hI hk
  have HS := Lib.hid hS; have HW := Lib.hid hW; have HWs := Lib.hid hWs; have HWb := Lib.hid hWb; have HW0 := Lib.hid hW0; have HRT := Lib.hid hRT; have HVL := Lib.hid hvlt; have CALL := Lib.hid call; have HSL := Lib.hid hSl
  clear hI hv hS hW hWs hWb hW0 hRT hIW hvlt call hSl
  go_enter Try.func40, Try.ntmps40
  go_wp2
  rw [L.enter, ← HW.out]
  refine CALL.out.mono ?_
  rintro e w2 ⟨rfl, hI2, hg2⟩
  have hr2 := HRT.out.asked hg2 (fun j hj e => HS.out j hj (L.own _ e))
  have hq1 : w2.heap[w.heap.size]? = W.heap[w.heap.size]? := hr2.keeps (by have := HWs.out; omega) (fun e => by have := HVL.out _ e; omega) (fun e => by have := HSL.out _ (L.own _ e); omega)
  have d1 : w2.cell? ⟨w.heap.size, 0, none⟩ = some (.int .i64 n) := (World.cell?_of_block hq1).trans (cells_of HW0.out 0)
  have HI2 := Lib.hid hI2; have HR2 := Lib.hid hr2
  clear hI2 hg2 hr2 hq1
  cases hbit : bit i
  · have HBIT := Lib.hid hbit; clear hbit
    go_wp2
    go_ret
    exact ⟨_, rfl, by rw [HO.out]; exact HI2.out, by rw [HO.out, HBIT.out]; exact HR2.out.lead HWb.out⟩
  · have HBIT := Lib.hid hbit; clear hbit
    have hfit := fit_any v l n w2 HR2.out.owns (by omega)
    have HFIT := Lib.hid hfit; clear hfit
    go_wp2_with fail
    refine HFIT.out.mono ?_
    rintro e w3 ⟨v2, rfl, hs⟩
    have hI3 := L.stay (i + 1) w2 w3 HI2.out fun q hq => hs.grown.block q (L.here _ w2 q HI2.out hq) (fun e => HS.out q e.symm hq)
    have hr3 := (HR2.out.step hs).lead HWb.out
    have HI3 := Lib.hid hI3; have HR3 := Lib.hid hr3
    clear hI3 hr3 hs
    go_wp2
    go_ret
    exact ⟨_, rfl, by rw [HO.out]; exact HI3.out, by rw [HO.out, HBIT.out]; exact HR3.out⟩

theorem redoWrite_at {off : Nat} {b : List Nat} {bit : Nat → Bool} : ∀ (f k i : Nat) (l : List Nat), (redoWrite off b bit f k i l).2 ≤ i + f
  | 0, _, i, _ => by simp [redoWrite]
  | f + 1, k, i, l => by
    unfold redoWrite
    split
    · refine Nat.le_trans (redoWrite_at f _ (i + 1) _) (by omega)
    · exact Nat.le_add_right _ _
theorem redoOp_at {bit : Nat → Bool} {w : World} {own : Own} {c : Value} {o : ByteOp} (ho : OpV w own c o) (i : Nat) (l : List Nat) : (redoOp bit o i l).2 ≤ i + 1048576 := by
  cases o with
  | write off b =>
    obtain ⟨_, _, _, _, _, _, hb⟩ := ho
    have := redoWrite_at (off := off) (b := b) (bit := bit) b.length 0 i l
    exact Nat.le_trans this (by omega)
  | cut n => exact Nat.add_le_add_left (by decide) i

/-- The same of whatever was laid by. -/
theorem redo_any {fid : FuncId} {first : Array Value} {S : Nat → Prop} {lb : Option Nat} {I : Nat → World → Prop} {bit : Nat → Bool} (L : Lasts fid first S lb I bit)
    (own : Own) (o : ByteOp) (c v : Value) (l : List Nat) (i : Nat) (w : World) (hI : I i w) (hv : w.ownsRow 0 5 1 v l.length (cellsOf l)) (ho : OpV w own c o)
    (hd : ∀ k, own k = some .ink → v.ownBlock ≠ some k ∧ ¬ S k) (hS : ∀ k, v.ownBlock = some k → ¬ S k) (hi : i + 1048576 ≤ drawLim) :
    ∃ g fs, c = .func (.func g) fs #[] ∧ (∀ args w, (callFunc g args).run Try.prog w = .ok (.enter g args) w) ∧ Calls Try.prog g (fs ++ #[v, .func (.func fid) first #[]]) w fun e w' => ∃ v', e = .returned v' ∧
      I (redoOp bit o i l).2 w' ∧ RowTo S lb w w' v v' (redoOp bit o i l).1 := by
  cases o with
  | write off b =>
    obtain ⟨bv, rfl, hb, hbk, hb0, hoff, hbl⟩ := ho
    exact ⟨_, _, rfl, by intro args w; kernel_rfl, redoWrite_any L v bv l b off i w hI hv hb (fun k hk => hd k (hbk k hk)) hS hb0 hoff hbl (by omega)⟩
  | cut n =>
    obtain ⟨rfl, hn⟩ := ho
    exact ⟨_, _, rfl, by intro args w; kernel_rfl, redoCut_any L v l n i w hI hv hS hn (by omega)⟩
end Go.Proofs.Ytobhhedggppneaa
