/- slot: a slot is put. -/
import Derived.Test.YtajfcnaifegonaaMSlD
import Derived.Lib.BufferWrite
import Derived.Test.YtajfcnaifegonaaMCloneG
import Derived.Deep.RegionWith
namespace Go.Proofs.Ytajfcnaifegonaa.Sl
open Go Go.RowKit Go.By
end Go.Proofs.Ytajfcnaifegonaa.Sl
/- slot: a slot is put. -/
namespace Go.Proofs.Ytajfcnaifegonaa.Sl
open Go Go.RowKit Go.By
end Go.Proofs.Ytajfcnaifegonaa.Sl
/- slot: a slot is taken. -/
namespace Go.Proofs.Ytajfcnaifegonaa.Sl
open Go Go.RowKit Go.By
inductive SlotRel (w0 : World) (l : List Nat) : Value → World → Prop where
  | r0 {w : World} : Below w0.heap.size w0 w → SlotRel w0 l (.int .i64 0) w
  | r1 {w : World} : spOk l 0 = true → Below w0.heap.size w0 w → SlotRel w0 l (.int .i64 1) w
  | r2 {w : World} : spOk l 1 = true → Below w0.heap.size w0 w → SlotRel w0 l (.int .i64 2) w
  | r3 {w : World} : spOk l 1 = true → spOk l 2 = true → Below w0.heap.size w0 w → SlotRel w0 l (.int .i64 3) w
  | r4 {w : World} : spOk l 1 = true → spOk l 2 = true → spOk l 3 = true → Below w0.heap.size w0 w → SlotRel w0 l (.int .i64 4) w
  | r5 {w : World} : isSlot l = true → Below w0.heap.size w0 w → SlotRel w0 l (.int .i64 5) w
end Go.Proofs.Ytajfcnaifegonaa.Sl
/- slot: which of two is better. -/
namespace Go.Proofs.Ytajfcnaifegonaa.Sl
open Go Go.RowKit Go.By
end Go.Proofs.Ytajfcnaifegonaa.Sl
