/- Trees in a program: one that has nothing. -/
import Derived.Test.YtlagllhhahomlaaGreatMBaC
namespace Go.Proofs.YtlagllhhahomlaaGreat.Sl.Nd
open Go Go.RowKit Go.By
set_option maxRecDepth 100000 in
theorem isEmpty_any (o : Int) (c : Nat) (w : World) : Calls Tryz.prog 41 #[.agg #[.int .i64 o, .int .u64 (c : Nat)]] w fun e w' => e = .returned (.bool (decide (o = 0 ∧ c = 0))) ∧ Below w.heap.size w w' := by
  have HB := Lib.hid ((Below.refl w.heap.size w).alloc (Nat.le_refl _) (.cells #[.int .i64 o, .int .u64 (c : Nat)] 25))
  have HX : Hid (∀ b, b = decide (o = 0 ∧ c = 0) → (Ending.returned (.bool b) = .returned (.bool (decide (o = 0 ∧ c = 0))) ∧ Below w.heap.size w (w.alloc (.cells #[.int .i64 o, .int .u64 (c : Nat)] 25)))) := fun b h => ⟨by rw [h], HB.out⟩
  by_cases h1 : o = 0
  · by_cases h2 : c = 0
    · have HX1 := Lib.hid (HX.out true (by rw [decide_eq_true ⟨h1, h2⟩]))
      have e1 : (o == 0) = true := by rw [h1]; rfl
      have e2 : ((c : Int) == 0) = true := by rw [h2]; rfl
      clear HX h1 h2 HB
      obtain ⟨X, hX⟩ : ∃ X, X = decide (o = 0 ∧ c = 0) := ⟨_, rfl⟩
      rw [← hX] at HX1 ⊢
      clear hX
      go_enter Tryz.func41, Tryz.ntmps41
      go_wp2
      all_goals (go_ret; exact HX1.out)
    · have HX1 := Lib.hid (HX.out false (by rw [decide_eq_false (fun h => h2 h.2)]))
      have e1 : (o == 0) = true := by rw [h1]; rfl
      have e2 : ((c : Int) == 0) = false := by simp; omega
      clear HX h1 h2 HB
      obtain ⟨X, hX⟩ : ∃ X, X = decide (o = 0 ∧ c = 0) := ⟨_, rfl⟩
      rw [← hX] at HX1 ⊢
      clear hX
      go_enter Tryz.func41, Tryz.ntmps41
      go_wp2
      all_goals (go_ret; exact HX1.out)
  · have HX1 := Lib.hid (HX.out false (by rw [decide_eq_false (fun h => h1 h.1)]))
    have e1 : (o == 0) = false := by simpa using h1
    clear HX h1 HB
    obtain ⟨X, hX⟩ : ∃ X, X = decide (o = 0 ∧ c = 0) := ⟨_, rfl⟩
    rw [← hX] at HX1 ⊢
    clear hX
    go_enter Tryz.func41, Tryz.ntmps41
    go_wp2
    all_goals (go_ret; exact HX1.out)
end Go.Proofs.YtlagllhhahomlaaGreat.Sl.Nd
