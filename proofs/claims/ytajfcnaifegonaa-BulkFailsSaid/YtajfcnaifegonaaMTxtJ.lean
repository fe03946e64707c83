/- Rows of bytes in a program: a text joined, by the document. -/
import Derived.Test.YtajfcnaifegonaaMEvC
namespace Go.Proofs.Ytajfcnaifegonaa.Sl.Nd
open Go Go.RowKit Go.By
end Go.Proofs.Ytajfcnaifegonaa.Sl.Nd
