/- The law DiskFails: whatever the number, every call of it returns true, and all that was there before the call is as it was. No condition. -/
import Derived.Test.YtlgajamiigpedaaPost
import Derived.Test.YtlgajamiigpedaaFailsA
import Derived.Test.YtlgajamiigpedaaFailsB
import Derived.Test.YtlgajamiigpedaaFailsC
namespace Go.Proofs.Ytlgajamiigpedaa
open Go.ChangeShapes Go.WideShapes Go.ChangeAt Go.RowKit Go.Abs Go.Proofs

theorem calls8 (n : Nat) (hn : n < 256) (w : World) : Calls Try.prog 8 #[.int .u8 n] w fun e w' => e = .returned (.bool true) ∧ Below w.heap.size w w' := by
  have hr : n % 12 = 0 ∨ n % 12 = 1 ∨ n % 12 = 2 ∨ n % 12 = 3 ∨ n % 12 = 4 ∨ n % 12 = 5 ∨ n % 12 = 6 ∨ n % 12 = 7 ∨ n % 12 = 8 ∨ n % 12 = 9 ∨ n % 12 = 10 ∨ n % 12 = 11 := by omega
  rcases hr with h | h | h | h | h | h | h | h | h | h | h | h
  · exact calls_true ext2_ok run8_0 (vals := #[.int .u8 n]) (by simp only [RepL, Rep]; exact ⟨_, _, rfl, ⟨n, rfl, h, hn⟩, rfl⟩) w
  · exact calls_true ext2_ok run8_1 (vals := #[.int .u8 n]) (by simp only [RepL, Rep]; exact ⟨_, _, rfl, ⟨n, rfl, h, hn⟩, rfl⟩) w
  · exact calls_true ext2_ok run8_2 (vals := #[.int .u8 n]) (by simp only [RepL, Rep]; exact ⟨_, _, rfl, ⟨n, rfl, h, hn⟩, rfl⟩) w
  · exact calls_true ext2_ok run8_3 (vals := #[.int .u8 n]) (by simp only [RepL, Rep]; exact ⟨_, _, rfl, ⟨n, rfl, h, hn⟩, rfl⟩) w
  · exact calls_true ext2_ok run8_4 (vals := #[.int .u8 n]) (by simp only [RepL, Rep]; exact ⟨_, _, rfl, ⟨n, rfl, h, hn⟩, rfl⟩) w
  · exact calls_true ext2_ok run8_5 (vals := #[.int .u8 n]) (by simp only [RepL, Rep]; exact ⟨_, _, rfl, ⟨n, rfl, h, hn⟩, rfl⟩) w
  · exact calls_true ext2_ok run8_6 (vals := #[.int .u8 n]) (by simp only [RepL, Rep]; exact ⟨_, _, rfl, ⟨n, rfl, h, hn⟩, rfl⟩) w
  · exact calls_true ext2_ok run8_7 (vals := #[.int .u8 n]) (by simp only [RepL, Rep]; exact ⟨_, _, rfl, ⟨n, rfl, h, hn⟩, rfl⟩) w
  · exact calls_true ext2_ok run8_8 (vals := #[.int .u8 n]) (by simp only [RepL, Rep]; exact ⟨_, _, rfl, ⟨n, rfl, h, hn⟩, rfl⟩) w
  · exact calls_true ext2_ok run8_9 (vals := #[.int .u8 n]) (by simp only [RepL, Rep]; exact ⟨_, _, rfl, ⟨n, rfl, h, hn⟩, rfl⟩) w
  · exact calls_true ext2_ok run8_10 (vals := #[.int .u8 n]) (by simp only [RepL, Rep]; exact ⟨_, _, rfl, ⟨n, rfl, h, hn⟩, rfl⟩) w
  · exact calls_true ext2_ok run8_11 (vals := #[.int .u8 n]) (by simp only [RepL, Rep]; exact ⟨_, _, rfl, ⟨n, rfl, h, hn⟩, rfl⟩) w

set_option maxRecDepth 100000 in
theorem fails_lifted (os : Os) (started : os.Started) (H : Type) (enc : TypeId × Value → H) :
    ReturnsInHanded {} Try.checked os 8 .any (Rows.diskFailsSpec.pre6 enc Try.prog Try.f8 Rows.diskFailsRow.domain false) (Rows.diskFailsSpec.post enc Try.prog Try.f8 false true false false) := by
  refine returnsInHanded_of_change (C := Try.checked) own_none started (by kernel_rfl) Try.func8
    (ChangeSpec.witness6 (enc := enc) (C := Try.checked) false ⟨#[], #[.int .u8 0], []⟩ 8 (by kernel_rfl) (by kernel_rfl) (by kernel_rfl) (by kernel_rfl)) ?_
  intro W base args ds gs before hval0 hW hcnd _
  have hval : ∀ (j : Nat) t v, Try.f8.params[j]? = some t → args[j]? = some v → Value.okWide Try.prog W .any base t v := hval0
  have hW' := hW
  obtain ⟨p, q, hA0, hV, rfl, hfz, hnd⟩ := hW
  have hA : DataW.TrodAll enc Try.prog W 0 (fun _ => true) true Try.f8.params.toList args.toList ds p := hA0
  have hp8 : Try.f8.params = #[5] := by kernel_rfl
  rw [hp8] at hA hval
  obtain ⟨v0, d0, rfl, rfl, h0⟩ := trodAll_one hA
  obtain ⟨rfl, rfl⟩ := trodVars_none hV
  obtain ⟨a, rfl, rfl, rfl, wa⟩ := open_int (P := Try.prog) (t := 5) (k := .u8) (by kernel_rfl) (hval 0 5 v0 rfl rfl) h0
  obtain ⟨n, rfl, hn⟩ := byte_nat wa
  clear hA0 hval0
  simp only [List.append_nil] at hW'
  refine (calls8 n hn W).mono fun e W' ⟨he, hw⟩ => ?_
  subst he
  exact ⟨_, rfl, post_plain hW' (fun _ _ _ => trodAll_mk1 (shut_bool (by kernel_rfl) true)) (fun sp => trodAll_mk1 (shut_int (by kernel_rfl) wa)) (fun _ => rfl) hw
    (ok_one (t := 4) (by kernel_rfl) rfl (okWide_bool_mk (t := 4) (by kernel_rfl) true))⟩

theorem diskFails_holds : Rows.DiskFailsSaid :=
  OpenClaim.holds_of_wide 8 Try.f8 rfl rfl rfl rfl rfl rfl rfl ⟨rfl, rfl, rfl, rfl, rfl⟩ rfl rfl rfl rfl rfl (by kernel_rfl) Try.func8 (by kernel_rfl)
    (of_decide_eq_true (by kernel_rfl)) (by unfold Func.isWrapper; rw [if_neg (by decide +kernel)]; exact ⟨rfl, rfl⟩)
    (fun os started H enc _ => fails_lifted os started H enc)
end Go.Proofs.Ytlgajamiigpedaa
