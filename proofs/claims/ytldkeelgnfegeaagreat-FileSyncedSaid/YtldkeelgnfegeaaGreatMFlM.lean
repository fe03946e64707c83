/- The disk, its file, rows of numbers of the law's own. -/
import Derived.Test.YtldkeelgnfegeaaGreatMFlJ

namespace Go.Proofs.YtldkeelgnfegeaaGreat
open Go Go.ChangeShapes Go.WideShapes Go.ChangeAt Go.RowKit Go.By

theorem int64T : Tryz.prog.underlying 32 = some (.slice 2) := by kernel_rfl
theorem info64 : (Tryz.prog.info? 2).map (fun i => (i.zero, i.size, i.bytes)) = some (some (.int .i64 0), 1, 8) := by kernel_rfl
theorem infoInt : (Tryz.prog.info? 3).map (fun i => (i.zero, i.size, i.bytes)) = some (some (.int .i64 0), 1, 8) := by kernel_rfl

/-- The disk, its file, two rows of numbers. -/
structure Two (W : World) (a g : Nat) (s : ByteArray) (E : Nat) (S : Sk) (e1 e2 : TypeId) (v1 v2 : Value) (l1 l2 : List Nat) (own : Own) (w : World) : Prop where
  disk : Dsk W a S own w
  file : Fil W g a s E own w
  r1 : IRow W g e1 v1 l1 own w
  r2 : IRow W g e2 v2 l2 own w
  apart : ∀ j, v1.ownBlock = some j → v2.ownBlock ≠ some j
theorem after_one {W w w' : World} {a g : Nat} {s : ByteArray} {E : Nat} {S : Sk} {e1 e2 : TypeId} {v1 v2 v' : Value} {l1 l2 : List Nat} {own : Own} {x : Nat} {tt : TypeId} (hD : Dsk W a S own w) (hF : Fil W g a s E own w) (h1 : IRow W g e1 v1 l1 own w) (h2 : IRow W g e2 v2 l2 own w) (hap : ∀ j, v1.ownBlock = some j → v2.ownBlock ≠ some j)
    (hr : IRow W g e1 v' (l1 ++ [x]) own w') (hg : (w.alloc (.cells #[.int .i64 (x : Int)] tt)).grownBy w' v1.ownBlock) (hat : v'.ownBlock = v1.ownBlock ∨ ∃ k, w.heap.size ≤ k ∧ v'.ownBlock = some k) : Two W a g s E S e1 e2 v' v2 (l1 ++ [x]) l2 own w' := by
  have hb := (Below.refl w.heap.size w).alloc (Nat.le_refl _) (.cells #[.int .i64 (x : Int)] tt)
  refine ⟨(hD.stay hb).grown hg fun k hk => ⟨(h1.free k hk).1, (h1.lt k hk).1⟩, (hF.stay hb).grown hg fun e => (h1.free g e).2 rfl, hr, (h2.stay hb).grown hg fun k hk e => hap k e hk, fun j hj e => ?_⟩
  rcases hat with h | ⟨k, hk, h⟩
  · exact hap j (h ▸ hj) e
  · rw [h] at hj; cases hj
    have := (h2.lt _ e).2; omega
theorem after_two {W w w' : World} {a g : Nat} {s : ByteArray} {E : Nat} {S : Sk} {e1 e2 : TypeId} {v1 v2 v' : Value} {l1 l2 : List Nat} {own : Own} {x : Nat} {tt : TypeId} (h : Two W a g s E S e1 e2 v1 v2 l1 l2 own w)
    (hr : IRow W g e2 v' (l2 ++ [x]) own w') (hg : (w.alloc (.cells #[.int .i64 (x : Int)] tt)).grownBy w' v2.ownBlock) (hat : v'.ownBlock = v2.ownBlock ∨ ∃ k, w.heap.size ≤ k ∧ v'.ownBlock = some k) : Two W a g s E S e1 e2 v1 v' l1 (l2 ++ [x]) own w' := by
  have hb := (Below.refl w.heap.size w).alloc (Nat.le_refl _) (.cells #[.int .i64 (x : Int)] tt)
  refine ⟨(h.disk.stay hb).grown hg fun k hk => ⟨(h.r2.free k hk).1, (h.r2.lt k hk).1⟩, (h.file.stay hb).grown hg fun e => (h.r2.free g e).2 rfl, (h.r1.stay hb).grown hg fun k hk e => h.apart k hk e, hr, fun j hj e => ?_⟩
  rcases hat with h' | ⟨k, hk, h'⟩
  · exact h.apart j hj (h' ▸ e)
  · rw [h'] at e; cases e
    have := (h.r1.lt _ hj).2; omega
theorem drop_more {C X Y m : List Nat} {j k : Nat} (h : C.drop j = recOf k Y ++ m) : (C ++ X).drop j = recOf k Y ++ (m ++ X) := by
  have hl := congrArg List.length h
  rw [List.length_drop, List.length_append, recOf_length] at hl
  rw [List.drop_append_of_le_length (by omega), h, List.append_assoc]
end Go.Proofs.YtldkeelgnfegeaaGreat
