/- What the law KeyAfter rests on: how a key stands to the one after it. -/
import Derived.Test.YtfebdgnojacoiaaKeyG
namespace Go.Proofs.Ytfebdgnojacoiaa
open Go Go.RowKit Go.By

theorem afterL_small : ∀ {l : List Nat}, (∀ c ∈ l, c < 256) → ∀ c ∈ afterL l, c < 256
  | [], _, c, hc => by cases hc
  | a :: k, h, c, hc => by
    unfold afterL at hc
    split at hc
    · split at hc
      · have : c = a + 1 := by simpa using hc
        omega
      · cases hc
    · rcases List.mem_cons.1 hc with rfl | hc
      · exact h _ (List.mem_cons_self ..)
      · exact afterL_small (fun x hx => h x (List.mem_cons_of_mem _ hx)) c hc

theorem lessN_not : ∀ {x y : List Nat}, lessN x y = true → lessN y x = false ∧ y ≠ x
  | _, [], h => by rw [lessN_nil_right] at h; cases h
  | [], b :: y, _ => ⟨rfl, by simp⟩
  | a :: x, b :: y, h => by
    simp only [lessN, Bool.or_eq_true, Bool.and_eq_true, decide_eq_true_eq] at h
    rcases h with h | ⟨rfl, h⟩
    · refine ⟨?_, fun he => ?_⟩
      · have h1 : ¬ b < a := by omega
        have h2 : ¬ b = a := by omega
        simp [lessN, h1, h2]
      · simp only [List.cons.injEq] at he
        omega
    · obtain ⟨h1, h2⟩ := lessN_not h
      refine ⟨by simp [lessN, h1], fun he => ?_⟩
      simp only [List.cons.injEq, true_and] at he
      exact h2 he

theorem run_geq (s t : ByteArray) (w : World) : (binOp .geq 9 (.string s) (.string t)).run Try.prog w = .ok (.bool (!Op.bytesLess s.toList t.toList)) w := by kernel_rfl
theorem run_gtr (s t : ByteArray) (w : World) : (binOp .gtr 9 (.string s) (.string t)).run Try.prog w = .ok (.bool (!(Op.bytesLess s.toList t.toList || s.toList == t.toList))) w := by kernel_rfl

/-- What the law's two sides come to. -/
structure AfterFacts (k x : List Nat) (A B C : Bool) : Prop where
  xk : Op.bytesLess (strOf x).toList (strOf k).toList = A
  xa : Op.bytesLess (strOf x).toList (strOf (afterL k)).toList = C
  ka : (!(Op.bytesLess (strOf (afterL k)).toList (strOf k).toList || (strOf (afterL k)).toList == (strOf k).toList)) = true
  both : B = (!A && C)
theorem after_facts {k x : List Nat} (hk : ∀ c ∈ k, c < 256) (hx : ∀ c ∈ x, c < 256) (h : afterL k ≠ []) : AfterFacts k x (lessN x k) (decide (k.length ≤ x.length ∧ x.take k.length = k)) (lessN x (afterL k)) := by
  refine ⟨?_, ?_, ?_, ?_⟩
  · rw [less_str, natsOf_strOf hx, natsOf_strOf hk]
  · rw [less_str, natsOf_strOf hx, natsOf_strOf (afterL_small hk)]
  · have := lessN_not (after_above h)
    rw [less_str, eq_str, natsOf_strOf hk, natsOf_strOf (afterL_small hk), this.1, decide_eq_false this.2]
    rfl
  · have := after_between x hk hx h
    rw [Bool.eq_iff_iff, decide_eq_true_eq, ← this]
    cases lessN x k <;> cases lessN x (afterL k) <;> simp

theorem strOf_empty (l : List Nat) : (strOf l).toList.isEmpty = decide (l = []) := by
  rw [strOf_toList]
  cases l <;> simp
theorem str_same {l m : List Nat} (hl : ∀ c ∈ l, c < 256) (hm : ∀ c ∈ m, c < 256) : ((strOf l).toList == (strOf m).toList) = decide (l = m) := by
  rw [eq_str, natsOf_strOf hl, natsOf_strOf hm]

end Go.Proofs.Ytfebdgnojacoiaa

