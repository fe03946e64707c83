/- Batches in a program: the root over one part. -/
import Derived.Test.YtlagllhhahomlaaGreatMBaC
namespace Go.Proofs.YtlagllhhahomlaaGreat.Sl.Nd
open Go Go.RowKit Go.By Lf
theorem set8_below {B : Nat} {w0 w : World} (hb : Below B w0 w) {A : Nat} (hA : B ≤ A) (a b c d e f g h : Value) : Below B w0 (set8 w A a b c d e f g h) := by
  unfold set8
  exact (((((((hb.setCell (p := ⟨A, 0, none⟩) hA a).setCell (p := ⟨A, 1, none⟩) hA b).setCell (p := ⟨A, 2, none⟩) hA c).setCell (p := ⟨A, 3, none⟩) hA d).setCell (p := ⟨A, 4, none⟩) hA e).setCell (p := ⟨A, 5, none⟩) hA f).setCell (p := ⟨A, 6, none⟩) hA g).setCell (p := ⟨A, 7, none⟩) hA h
end Go.Proofs.YtlagllhhahomlaaGreat.Sl.Nd
