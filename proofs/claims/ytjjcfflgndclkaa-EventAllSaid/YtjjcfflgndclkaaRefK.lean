/- The document's keys: names, pairs, letters, what is after. -/
import Derived.Test.YtjjcfflgndclkaaRefN
import Derived.Test.YtjjcfflgndclkaaKeyP
import Derived.Test.YtjjcfflgndclkaaConvB
namespace Go.Proofs.Ytjjcfflgndclkaa
open Go Go.RowKit Go.By

theorem nats_at {s : ByteArray} {k : Nat} (h : k < s.size) : (s[k]'h).toNat = atB (natsOf s) k := by
  have h2 : k < (natsOf s).length := by rw [natsOf_length]; exact h
  rw [atB_of h2]
  have h3 : k < s.toList.length := by rw [Lib.toList_data]; exact h
  have e : (natsOf s)[k] = (s.toList[k]).toNat := List.getElem_map ..
  rw [e]
  congr 1
  have e2 : s[k] = s.data.toList[k]'(by exact h) := rfl
  rw [e2]
  congr 1
  exact (Lib.toList_data s).symm

/-- Of the first k bytes: all may stand in a name. -/
def goodTo (l : List Nat) (k : Nat) : Prop := ∀ i < k, 33 ≤ atB l i ∧ atB l i ≤ 126
theorem mayNm_of_good {l : List Nat} (h : goodTo l l.length) : mayNm l = (decide (1 ≤ l.length) && decide (l.length ≤ 16)) := by
  unfold mayNm
  rw [(List.all_eq_true).2, Bool.true_and]
  intro c hc
  obtain ⟨i, hi, rfl⟩ := List.getElem_of_mem hc
  have := h i hi
  rw [atB_of hi] at this
  simp [this]
theorem mayNm_of_bad {l : List Nat} {k : Nat} (hk : k < l.length) (h : atB l k < 33 ∨ 126 < atB l k) : mayNm l = false := by
  rw [Bool.eq_false_iff]
  intro h2
  unfold mayNm at h2
  rw [Bool.and_eq_true, List.all_eq_true] at h2
  have := h2.1 _ (List.getElem_mem hk)
  rw [atB_of hk] at h
  simp at this
  omega

set_option maxRecDepth 100000 in
theorem refMay_any (s : ByteArray) (w : World) (hs : s.size ≤ maxLen) : Calls Try.prog 27 #[.string s] w fun e w' => e = .returned (.bool (mayNm (natsOf s))) ∧ w = w' := by
  unfold maxLen at hs
  go_enter Try.func27, Try.ntmps27
  go_wp2
  go_loop [3] (fun i => ∃ k : Nat, k ≤ s.size ∧ i = .int .i64 k ∧ goodTo (natsOf s) k) (fun i => s.size - (intOf i).toNat)
  case atStart => exact ⟨0, by omega, rfl, fun i hi => absurd hi (by omega)⟩
  case round =>
    obtain ⟨k, hk, rfl, hg⟩ := hrel
    have HG := Lib.hid hg; clear hg
    by_cases hlt : k < s.size
    · have hat := nats_at hlt
      have hln : k < (natsOf s).length := by rw [natsOf_length]; exact hlt
      by_cases h1 : 33 ≤ ((atB (natsOf s) k : Nat) : Int)
      · by_cases h2 : ((atB (natsOf s) k : Nat) : Int) ≤ 126
        · go_wp2
          go_round
          case rel =>
            refine ⟨k + 1, by omega, by go_num, fun i hi => ?_⟩
            by_cases he : i = k
            · subst he; omega
            · exact HG.out i (by omega)
          case measure => simp [intOf]; omega
        · have E := Lib.hid (mayNm_of_bad hln (.inr (by omega)))
          go_wp2
          go_ret
          exact ⟨by rw [E.out]; rfl, rfl⟩
      · have E := Lib.hid (mayNm_of_bad hln (.inl (by omega)))
        go_wp2
        go_ret
        exact ⟨by rw [E.out]; rfl, rfl⟩
    · have hk2 : k = s.size := by omega
      have hl : (natsOf s).length = s.size := natsOf_length s
      have E := Lib.hid (mayNm_of_good (l := natsOf s) (by rw [hl, ← hk2]; exact HG.out))
      by_cases h1 : 1 ≤ (s.size : Int)
      · by_cases h2 : (s.size : Int) ≤ 16
        · go_wp2
          go_ret
          exact ⟨by rw [E.out, hl]; simp; omega, rfl⟩
        · go_wp2
          go_ret
          exact ⟨by rw [E.out, hl]; simp; omega, rfl⟩
      · go_wp2
        go_ret
        exact ⟨by rw [E.out, hl]; simp; omega, rfl⟩

/-- A name, a 0, a number: or nothing. -/
def pairK (l : List Nat) (n : Int) : List Nat := if mayNm l = true ∧ 0 ≤ n then pairOf l n.toNat else []

end Go.Proofs.Ytjjcfflgndclkaa

