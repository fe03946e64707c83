/- Both laws of rows made trees. -/
import Derived.Test.YtajfcnaifegonaaMBulkFails
namespace Go.Proofs.Ytajfcnaifegonaa.Sl.Nd
theorem bulk_both : Rows.BulkManySaid ∧ Rows.BulkFailsSaid := ⟨bulkMany_holds, bulkFails_holds⟩
end Go.Proofs.Ytajfcnaifegonaa.Sl.Nd
namespace Go.Proofs.Ytajfcnaifegonaa
theorem bulkMany_holds : Rows.BulkManySaid := Sl.Nd.bulkMany_holds
theorem bulkFails_holds : Rows.BulkFailsSaid := Sl.Nd.bulkFails_holds
end Go.Proofs.Ytajfcnaifegonaa
