/- The document's keys: names, pairs, letters, what is after. -/
import Derived.Test.YtoegkdfeonkgkaaRefN
import Derived.Test.YtoegkdfeonkgkaaKeyP
import Derived.Test.YtoegkdfeonkgkaaConvB
namespace Go.Proofs.Ytoegkdfeonkgkaa
open Go Go.RowKit Go.By

theorem nats_at {s : ByteArray} {k : Nat} (h : k < s.size) : (s[k]'h).toNat = atB (natsOf s) k := by
  have h2 : k < (natsOf s).length := by rw [natsOf_length]; exact h
  rw [atB_of h2]
  have h3 : k < s.toList.length := by rw [Lib.toList_data]; exact h
  have e : (natsOf s)[k] = (s.toList[k]).toNat := List.getElem_map ..
  rw [e]
  congr 1
  have e2 : s[k] = s.data.toList[k]'(by exact h) := rfl
  rw [e2]
  congr 1
  exact (Lib.toList_data s).symm

/-- Of the first k bytes: all may stand in a name. -/
def goodTo (l : List Nat) (k : Nat) : Prop := ∀ i < k, 33 ≤ atB l i ∧ atB l i ≤ 126
theorem mayNm_of_good {l : List Nat} (h : goodTo l l.length) : mayNm l = (decide (1 ≤ l.length) && decide (l.length ≤ 16)) := by
  unfold mayNm
  rw [(List.all_eq_true).2, Bool.true_and]
  intro c hc
  obtain ⟨i, hi, rfl⟩ := List.getElem_of_mem hc
  have := h i hi
  rw [atB_of hi] at this
  simp [this]
theorem mayNm_of_bad {l : List Nat} {k : Nat} (hk : k < l.length) (h : atB l k < 33 ∨ 126 < atB l k) : mayNm l = false := by
  rw [Bool.eq_false_iff]
  intro h2
  unfold mayNm at h2
  rw [Bool.and_eq_true, List.all_eq_true] at h2
  have := h2.1 _ (List.getElem_mem hk)
  rw [atB_of hk] at h
  simp at this
  omega

/-- A name, a 0, a number: or nothing. -/
def pairK (l : List Nat) (n : Int) : List Nat := if mayNm l = true ∧ 0 ≤ n then pairOf l n.toNat else []

end Go.Proofs.Ytoegkdfeonkgkaa

