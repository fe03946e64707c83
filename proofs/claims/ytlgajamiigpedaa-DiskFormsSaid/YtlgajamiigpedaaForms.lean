/- The law DiskForms: every call of it returns true, and all that was there before the call is as it was. No condition. -/
import Derived.Test.YtlgajamiigpedaaPost
import Derived.Test.YtlgajamiigpedaaFormsA
import Derived.Test.YtlgajamiigpedaaFormsB
import Derived.Test.YtlgajamiigpedaaFormsC
import Derived.Test.YtlgajamiigpedaaFormsD
namespace Go.Proofs.Ytlgajamiigpedaa
open Go.ChangeShapes Go.WideShapes Go.ChangeAt Go.RowKit Go.Abs Go.Proofs

theorem calls7 (w : World) : Calls Try.prog 7 #[] w fun e w' => e = .returned (.bool true) ∧ Below w.heap.size w w' := by
  obtain ⟨l, hl⟩ : ∃ l, IsTab l := ⟨_, rfl⟩
  have hcf : CallOK Try.prog (callN Try.prog (tableOf l) ext2 100 18) := callN_sound (by kernel_rfl) (tab_ok hl) ext2_ok 18
  have hbody : Try.f7.body = some (Try.f7.body.getD .skip) := by kernel_rfl
  have hloops : rootLoops (Try.f7.body.getD .skip) = [loopBody (Try.f7.body.getD .skip)] := by kernel_rfl
  have hend := ends7_10 l hl
  unfold ends7 headAt at hend
  cases hhead : headOf Try.prog (callN Try.prog (tableOf l) ext2 100 18) 100 Try.f7 (Try.f7.body.getD .skip) with
  | none => rw [hhead] at hend; cases hend
  | some s5 =>
    rw [hhead] at hend
    simp only [Option.bind_some, Bool.and_eq_true] at hend
    have key : ∀ i, step7 Try.prog (callN Try.prog (tableOf l) ext2 100 18) Try.f7 (Try.f7.body.getD .skip) i = true →
        stepB Try.prog (callN Try.prog (tableOf l) ext2 100 18) 100 (loopBody (Try.f7.body.getD .skip)) (setReg s5 3 (.int .i64 (i : Nat))) (setReg s5 3 (.int .i64 ((i + 1 : Nat) : Int))) = true := by
      intro i h
      unfold step7 headAt at h
      rw [hhead] at h
      exact h
    refine calls_cut (K := 10) (S := fun i => setReg s5 3 (.int .i64 (i : Nat))) (by kernel_rfl) hcf Try.func7 hbody hloops (fun _ => rfl) hend.1.1 ?_ hend.1.2 hend.2 w
    intro i hi
    have hi' : i = 0 ∨ i = 1 ∨ i = 2 ∨ i = 3 ∨ i = 4 ∨ i = 5 ∨ i = 6 ∨ i = 7 ∨ i = 8 ∨ i = 9 := by omega
    rcases hi' with rfl | rfl | rfl | rfl | rfl | rfl | rfl | rfl | rfl | rfl
    · exact key _ (round7_0 l hl)
    · exact key _ (round7_1 l hl)
    · exact key _ (round7_2 l hl)
    · exact key _ (round7_3 l hl)
    · exact key _ (round7_4 l hl)
    · exact key _ (round7_5 l hl)
    · exact key _ (round7_6 l hl)
    · exact key _ (round7_7 l hl)
    · exact key _ (round7_8 l hl)
    · exact key _ (round7_9 l hl)

set_option maxRecDepth 100000 in
theorem forms_lifted (os : Os) (started : os.Started) (H : Type) (enc : TypeId × Value → H) :
    ReturnsInHanded {} Try.checked os 7 .any (Rows.diskFormsSpec.pre6 enc Try.prog Try.f7 Rows.diskFormsRow.domain false) (Rows.diskFormsSpec.post enc Try.prog Try.f7 false true false false) := by
  refine returnsInHanded_of_change (C := Try.checked) own_none started (by kernel_rfl) Try.func7
    (ChangeSpec.witness6 (enc := enc) (C := Try.checked) false ⟨#[], #[], []⟩ 8 (by kernel_rfl) (by kernel_rfl) (by kernel_rfl) (by kernel_rfl)) ?_
  intro W base args ds gs before hval0 hW hcnd _
  have hW' := hW
  obtain ⟨p, q, hA0, hV, rfl, hfz, hnd⟩ := hW
  have hA : DataW.TrodAll enc Try.prog W 0 (fun _ => true) true Try.f7.params.toList args.toList ds p := hA0
  have hp7 : Try.f7.params = #[] := by kernel_rfl
  rw [hp7] at hA
  obtain ⟨ha, rfl, rfl⟩ := trodAll_nil hA
  obtain rfl : args = #[] := Array.toList_inj.1 ha
  obtain ⟨rfl, rfl⟩ := trodVars_none hV
  clear hA0 hval0
  simp only [List.append_nil] at hW'
  refine (calls7 W).mono fun e W' ⟨he, hw⟩ => ?_
  subst he
  exact ⟨_, rfl, post_plain hW' (fun _ _ _ => trodAll_mk1 (shut_bool (by kernel_rfl) true)) (fun _ => rfl) (fun _ => rfl) hw
    (ok_one (t := 4) (by kernel_rfl) rfl (okWide_bool_mk (t := 4) (by kernel_rfl) true))⟩

theorem diskForms_holds : Rows.DiskFormsSaid :=
  OpenClaim.holds_of_wide 7 Try.f7 rfl rfl rfl rfl rfl rfl rfl ⟨rfl, rfl, rfl, rfl, rfl⟩ rfl rfl rfl rfl rfl (by kernel_rfl) Try.func7 (by kernel_rfl)
    (of_decide_eq_true (by kernel_rfl)) (by unfold Func.isWrapper; rw [if_neg (by decide +kernel)]; exact ⟨rfl, rfl⟩)
    (fun os started H enc _ => forms_lifted os started H enc)
end Go.Proofs.Ytlgajamiigpedaa
