/- The law BulkMany holds whatever the input: a row of so many items, laid one behind the other, is found again whole, in a tree no deeper than it must be; no condition. -/
import Derived.Test.YtajfcnaifegonaaRows
import Derived.Test.YtajfcnaifegonaaMBkU
import Derived.Test.YtajfcnaifegonaaMSlA
namespace Go.By
open Go
theorem u16_top {a : Int} (h : (Lit.int .u16 a).wf = true) : ∃ n : Nat, a = n ∧ n < 65536 := by
  have h' : 0 ≤ a ∧ a ≤ 65535 := by simpa [Lit.wf, IntKind.min, IntKind.max, IntKind.signed, IntKind.bits] using h
  exact ⟨a.toNat, by omega, by omega⟩
end Go.By
namespace Go.Proofs.Ytajfcnaifegonaa.Sl.Nd
open Go Go.ChangeShapes Go.WideShapes Go.ChangeAt Go.RowKit Go.By
set_option maxRecDepth 100000 in
theorem bulkMany_lifted (os : Os) (started : os.Started) (H : Type) (enc : TypeId × Value → H) :
    ReturnsInHanded {} Try.checked os 3 .any (Rows.bulkManySpec.pre6 enc Try.prog Try.f3 Rows.bulkManyRow.domain false) (Rows.bulkManySpec.post enc Try.prog Try.f3 false true false false) := by
  refine returnsInHanded_of_change (C := Try.checked) own_none started (by kernel_rfl) Try.func3
    (ChangeSpec.witness6 (enc := enc) (C := Try.checked) false ⟨#[], #[.int .u16 0], []⟩ 8 (by kernel_rfl) (by kernel_rfl) (by kernel_rfl) (by kernel_rfl)) ?_
  intro W base args ds gs before hval0 hW hcnd _
  have hval : ∀ (j : Nat) t v, Try.f3.params[j]? = some t → args[j]? = some v → Value.okWide Try.prog W .any base t v := hval0
  have hW' := hW
  obtain ⟨p, q, hA0, hV, rfl, hfz, hnd⟩ := hW
  have hA : DataW.TrodAll enc Try.prog W 0 (fun _ => true) true Try.f3.params.toList args.toList ds p := hA0
  have hp : Try.f3.params = #[22] := by kernel_rfl
  rw [hp] at hA hval
  obtain ⟨v0, d0, rfl, rfl, h0⟩ := trodAll_one hA
  obtain ⟨rfl, rfl⟩ := trodVars_none hV
  obtain ⟨a, rfl, _, _, wa⟩ := open_int (P := Try.prog) (t := 22) (k := .u16) (by kernel_rfl) (hval 0 22 v0 rfl rfl) h0
  obtain ⟨n, rfl, hn⟩ := u16_top wa
  refine (bulkMany_any n hn W).mono fun e W' ⟨he, hb⟩ => ?_
  subst he
  exact ⟨_, rfl, law_post (tb := 4) laidOut (by rw [hp]; intro t ht; simp at ht; subst ht; exact ⟨by kernel_rfl, by decide +kernel⟩) rfl rfl (by kernel_rfl) (by kernel_rfl) hW' hb⟩
theorem bulkMany_holds : Rows.BulkManySaid :=
  OpenClaim.holds_of_wide 3 Try.f3 rfl rfl rfl rfl rfl rfl rfl ⟨rfl, rfl, rfl, rfl, rfl⟩ rfl rfl rfl rfl rfl (by kernel_rfl) Try.func3 (by kernel_rfl)
    (of_decide_eq_true (by kernel_rfl)) (by unfold Func.isWrapper; rw [if_neg (by decide +kernel)]; exact ⟨rfl, rfl⟩)
    (fun os started H enc _ => bulkMany_lifted os started H enc)
end Go.Proofs.Ytajfcnaifegonaa.Sl.Nd
namespace Go.Proofs.Ytajfcnaifegonaa
theorem bulkMany_holds : Rows.BulkManySaid := Sl.Nd.bulkMany_holds
end Go.Proofs.Ytajfcnaifegonaa
