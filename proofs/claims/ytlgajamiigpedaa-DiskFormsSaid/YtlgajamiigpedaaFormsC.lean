/- Rounds of the law DiskForms, by the kernel. -/
import Derived.Test.YtlgajamiigpedaaForms0
namespace Go.Abs
open Go.RowKit Go.Proofs

theorem round7_7 : ∀ l, IsTab l → step7 Try.prog (callN Try.prog (tableOf l) ext2 100 18) Try.f7 (Try.f7.body.getD .skip) 7 = true := by
  rintro _ rfl
  kernel_rfl

theorem round7_9 : ∀ l, IsTab l → step7 Try.prog (callN Try.prog (tableOf l) ext2 100 18) Try.f7 (Try.f7.body.getD .skip) 9 = true := by
  rintro _ rfl
  kernel_rfl
end Go.Abs
