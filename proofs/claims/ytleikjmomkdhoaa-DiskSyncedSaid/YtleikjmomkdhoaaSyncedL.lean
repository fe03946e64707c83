/- The law DiskSynced: every call of it returns true, and all that was there before the call is as it was. No condition. -/
import Derived.Test.YtleikjmomkdhoaaRows
import Derived.Test.YtleikjmomkdhoaaSynced
import Derived.Test.YtleikjmomkdhoaaAbsM
import Derived.Test.YtleikjmomkdhoaaLaw
import Derived.Handy
namespace Go.Proofs.Ytleikjmomkdhoaa
open Go Go.ChangeShapes Go.WideShapes Go.ChangeAt Go.RowKit Go.By

set_option maxRecDepth 1000000 in
theorem deed_parts : ∃ f0 f1 f2 f3 f4 f5 : Field, Try.prog.underlying 31 = some (.struct #[f0, f1, f2, f3, f4, f5]) ∧
    (f0.offset = 0 ∧ f1.offset = 1 ∧ f2.offset = 2 ∧ f3.offset = 3 ∧ f4.offset = 4 ∧ f5.offset = 5) ∧
    (f0.type = 3 ∧ f1.type = 3 ∧ f2.type = 9 ∧ f3.type = 9 ∧ f4.type = 2 ∧ f5.type = 23) :=
  ⟨_, _, _, _, _, _, rfl, ⟨rfl, rfl, rfl, rfl, rfl, rfl⟩, ⟨rfl, rfl, rfl, rfl, rfl, rfl⟩⟩

theorem own_none : ownKnob Try.prog.godebug = none := by kernel_rfl
theorem laidOut : laidOutB Try.prog = true := by kernel_rfl

set_option maxRecDepth 100000 in
theorem synced_lifted (os : Os) (started : os.Started) (H : Type) (enc : TypeId × Value → H) :
    ReturnsInHanded {} Try.checked os 3 .any (Rows.diskSyncedSpec.pre6 enc Try.prog Try.f3 Rows.diskSyncedRow.domain false) (Rows.diskSyncedSpec.post enc Try.prog Try.f3 false true false false) := by
  refine returnsInHanded_of_change (C := Try.checked) own_none started (by kernel_rfl) Try.func3
    (ChangeSpec.witness6 (enc := enc) (C := Try.checked) false ⟨#[], #[.slice none 0 0, .slice none 0 0, .slice none 0 0], []⟩ 8 (by kernel_rfl) (by kernel_rfl) (by kernel_rfl) (by kernel_rfl)) ?_
  intro W base args ds gs before hval0 hW hcnd _
  have hval : ∀ (j : Nat) t v, Try.f3.params[j]? = some t → args[j]? = some v → Value.okWide Try.prog W .any base t v := hval0
  have hW' := hW
  obtain ⟨p, q, hA0, hV, rfl, hfz, hnd⟩ := hW
  have hA : DataW.TrodAll enc Try.prog W 0 (fun _ => true) true Try.f3.params.toList args.toList ds p := hA0
  have hp : Try.f3.params = #[22, 22, 23] := by kernel_rfl
  rw [hp] at hA hval
  obtain ⟨v0, v1, v2, d0, d1, d2, p0, p1, p2, rfl, rfl, rfl, h0, h1, h2⟩ := trodAll_three hA
  obtain ⟨rfl, rfl⟩ := trodVars_none hV
  obtain ⟨f0, f1, f2, f3, f4, f5, hu, ho, hty⟩ := deed_parts
  obtain ⟨pa, na, ca, A, rfl, hA'⟩ := open_deeds (P := Try.prog) (by kernel_rfl) hu (by kernel_rfl) ho hty ⟨by kernel_rfl, by kernel_rfl, by kernel_rfl, by kernel_rfl, by kernel_rfl⟩ (by kernel_rfl) (by kernel_rfl) (by kernel_rfl) bytesT (hval 0 22 v0 rfl rfl) h0
  obtain ⟨pb, nb, cb, B, rfl, hB'⟩ := open_deeds (P := Try.prog) (by kernel_rfl) hu (by kernel_rfl) ho hty ⟨by kernel_rfl, by kernel_rfl, by kernel_rfl, by kernel_rfl, by kernel_rfl⟩ (by kernel_rfl) (by kernel_rfl) (by kernel_rfl) bytesT (hval 1 22 v1 rfl rfl) h1
  obtain ⟨bits, hbits⟩ := open_bytes (P := Try.prog) bytesT (by kernel_rfl) (hval 2 23 v2 rfl rfl) h2
  refine (synced_any (fun w => Go.Abs.begun_any w) pa na ca A pb nb cb B v2 bits W hA' hB' hbits).mono fun e W' ⟨he, hb⟩ => ?_
  subst he
  exact ⟨_, rfl, law_post (tb := 4) laidOut (by rw [hp]; intro t ht; simp at ht; rcases ht with rfl | rfl <;> exact ⟨by kernel_rfl, by decide +kernel⟩) rfl rfl (by kernel_rfl) (by kernel_rfl) hW' hb⟩

theorem diskSynced_holds : Rows.DiskSyncedSaid :=
  OpenClaim.holds_of_wide 3 Try.f3 rfl rfl rfl rfl rfl rfl rfl ⟨rfl, rfl, rfl, rfl, rfl⟩ rfl rfl rfl rfl rfl (by kernel_rfl) Try.func3 (by kernel_rfl)
    (of_decide_eq_true (by kernel_rfl)) (by unfold Func.isWrapper; rw [if_neg (by decide +kernel)]; exact ⟨rfl, rfl⟩)
    (fun os started H enc _ => synced_lifted os started H enc)
end Go.Proofs.Ytleikjmomkdhoaa
