/- Rounds of the law DiskForms, by the kernel. -/
import Derived.Test.YtlgajamiigpedaaForms0
namespace Go.Abs
open Go.RowKit Go.Proofs

theorem round7_8 : ∀ l, IsTab l → step7 Try.prog (callN Try.prog (tableOf l) ext2 100 18) Try.f7 (Try.f7.body.getD .skip) 8 = true := by
  rintro _ rfl
  kernel_rfl

theorem ends7_10 : ∀ l, IsTab l → ends7 Try.prog (callN Try.prog (tableOf l) ext2 100 18) Try.f7 (Try.f7.body.getD .skip) 10 = true := by
  rintro _ rfl
  kernel_rfl
end Go.Abs
