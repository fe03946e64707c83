/- slot: a slot is put. -/
import Derived.Test.YtlagllhhahomlaaGreatMSlD
import Derived.Lib.BufferWrite
namespace Go.Proofs.YtlagllhhahomlaaGreat.Sl
open Go Go.RowKit Go.By
end Go.Proofs.YtlagllhhahomlaaGreat.Sl
/- slot: a slot is put. -/
namespace Go.Proofs.YtlagllhhahomlaaGreat.Sl
open Go Go.RowKit Go.By
end Go.Proofs.YtlagllhhahomlaaGreat.Sl
