/- What is lent, and whether it is kept. -/
import Derived.Test.YtnbnnonjbjbbkaaChecked
import Derived.Test.YtnbnnonjbjbbkaaBy
namespace Go.Proofs.Ytnbnnonjbjbbkaa
open Go.RowKit Go.By

theorem byT : ByT Try.prog 27 5 := ⟨by kernel_rfl, by kernel_rfl, by kernel_rfl⟩

def tail (k : Nat) : List Nat := (List.range k).map (224 + ·)
theorem tail_succ (k : Nat) : tail (k + 1) = tail k ++ [224 + k] := by simp [tail, List.range_succ]
theorem tail_length (k : Nat) : (tail k).length = k := by simp [tail]

/-- What is lent: the row, and six bytes behind its end. -/
def Lent (B : Nat) (w : World) (v : Value) (l : List Nat) : Prop :=
  ∃ g cap, v = .slice (some ⟨g, 0, none⟩) l.length cap ∧ w.ownsRow B 5 1 (.slice (some ⟨g, 0, none⟩) (l.length + 6) cap) (l.length + 6) (cellsOf (l ++ tail 6))

def LentRel (B : Nat) (l : List Nat) (w0 : World) (v i : Value) (w : World) : Prop :=
  ∃ (x : Value) (k : Nat), x = v ∧ k ≤ 6 ∧ i = .int .i64 k ∧ x ≠ .slice none 0 0 ∧ w.ownsRow B 5 1 x (l.length + k) (cellsOf (l ++ tail k)) ∧ Below B w0 w

end Go.Proofs.Ytnbnnonjbjbbkaa

