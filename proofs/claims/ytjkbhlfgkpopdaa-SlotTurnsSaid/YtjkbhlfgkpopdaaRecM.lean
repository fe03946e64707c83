/- A record of which a byte is turned is none. Plain. -/
import Derived.Test.YtjkbhlfgkpopdaaBig
namespace Go.By
open Go

theorem zipx_set (l : List Nat) (j y : Nat) (h : j < l.length) : Crc.zipx l (l.set j (atB l j ^^^ y)) = List.replicate j 0 ++ [y] ++ List.replicate (l.length - j - 1) 0 := by
  rw [List.append_assoc]
  apply List.ext_getElem
  · simp [Crc.zipx]; omega
  · intro i h1 h2
    have hi : i < l.length := by simp [Crc.zipx] at h1; omega
    by_cases h3 : i < j
    · rw [List.getElem_append_left (by simpa using h3)]
      simp [Crc.zipx, List.getElem_set_ne (by omega : j ≠ i)]
    · by_cases h4 : i = j
      · subst h4
        rw [List.getElem_append_right (by simp)]
        simp [Crc.zipx, atB_of hi]
        rw [← Nat.xor_assoc, Nat.xor_self, Nat.zero_xor]
      · rw [List.getElem_append_right (by simp; omega), List.getElem_append_right (by simp; omega)]
        simp [Crc.zipx, List.getElem_set_ne (by omega : j ≠ i)]
theorem sum_set {l : List Nat} {j y : Nat} (h : j < l.length) (hy : y < 256) : Crc.sum l = Crc.sum (l.set j (atB l j ^^^ y)) ↔ y = 0 := by
  rw [Crc.sum_ne _ _ (by simp), zipx_set l j y h, Crc.told _ _ _ (by simpa using hy) (by simp)]
  simp

theorem isRec_turned {k : Nat} {b : List Nat} (hk : k < 256) (hb : b.length ≤ 4096) (hs : ∀ c ∈ b, c < 256) {j y : Nat} (h4 : 4 ≤ j) (hj : j < 9 + b.length) (hy : y < 256) :
    isRec ((recOf k b).set j (atB (recOf k b) j ^^^ y)) = decide (y = 0) := by
  by_cases hy0 : y = 0
  · subst hy0
    have hjl : j < (recOf k b).length := by rw [recOf_length]; exact hj
    have : (recOf k b).set j (atB (recOf k b) j ^^^ 0) = recOf k b ++ [] := by
      rw [Nat.xor_zero, atB_of hjl, List.set_getElem_self, List.append_nil]
    rw [this, isRec_rec hk hb hs]; rfl
  · have h0 : bodyLen ((recOf k b).set j (atB (recOf k b) j ^^^ y)) = b.length := by
      have h := bodyLen_rec k b [] hb
      rw [List.append_nil] at h
      rw [← h]
      unfold bodyLen pc
      rw [List.drop_zero, List.drop_zero, List.take_set_of_le (by omega)]
    have hlen : ((recOf k b).set j (atB (recOf k b) j ^^^ y)).length = 9 + b.length := by rw [List.length_set, recOf_length]
    have hne : (numOf (pc ((recOf k b).set j (atB (recOf k b) j ^^^ y)) (5 + b.length) 4) == Crc.sum (((recOf k b).set j (atB (recOf k b) j ^^^ y)).take (5 + b.length))) = false := by
      rw [beq_eq_false_iff_ne]
      have hsum := Crc.sum_lt _ (recHead_small hk hs)
      have hat : ∀ i, i < 5 + b.length → atB (recOf k b) i = atB (recHead k b) i := fun i hi => by
        unfold atB recOf
        rw [List.getD_eq_getElem?_getD, List.getD_eq_getElem?_getD, List.getElem?_append_left (by rw [recHead_length]; exact hi)]
      by_cases hlt : j < 5 + b.length
      · have e1 : ((recOf k b).set j (atB (recOf k b) j ^^^ y)).take (5 + b.length) = (recHead k b).set j (atB (recHead k b) j ^^^ y) := by
          rw [List.take_set, hat j hlt]
          have := take_rec k b []
          rw [List.append_nil] at this
          rw [this]
        have e2 : pc ((recOf k b).set j (atB (recOf k b) j ^^^ y)) (5 + b.length) 4 = highOf (Crc.sum (recHead k b)) 4 := by
          unfold pc
          rw [List.drop_set_of_lt hlt, recOf, List.drop_append, recHead_length]
          simp [List.drop_of_length_le, recHead_length, highOf_length, List.take_of_length_le]
        rw [e1, e2, numOf_high 4 _ hsum]
        intro h
        exact hy0 ((sum_set (by rw [recHead_length]; exact hlt) hy).1 h)
      · have e1 : ((recOf k b).set j (atB (recOf k b) j ^^^ y)).take (5 + b.length) = recHead k b := by
          rw [List.take_set_of_le (by omega)]
          have := take_rec k b []
          rw [List.append_nil] at this
          rw [this]
        rw [e1]
        intro h
        have hp := pc_length (l := (recOf k b).set j (atB (recOf k b) j ^^^ y)) (i := 5 + b.length) (n := 4) (by rw [hlen]; omega)
        have hall : ∀ c ∈ (recOf k b).set j (atB (recOf k b) j ^^^ y), c < 256 := by
          intro c hc
          rcases List.mem_or_eq_of_mem_set hc with hc | rfl
          · exact recOf_small hk hs c hc
          · refine Nat.xor_lt_two_pow (n := 8) ?_ hy
            rw [atB_of (by rw [recOf_length]; exact hj)]
            exact recOf_small hk hs _ (List.getElem_mem _)
        have hh := high_numOf _ (pc_small (i := 5 + b.length) (n := 4) hall)
        rw [hp, h] at hh
        have e3 : pc (recOf k b) (5 + b.length) 4 = highOf (Crc.sum (recHead k b)) 4 := by
          unfold pc
          rw [recOf, List.drop_append, recHead_length]
          simp [List.drop_of_length_le, recHead_length, highOf_length, List.take_of_length_le]
        rw [← e3] at hh
        have h5 := congrArg (fun l => atB l (j - (5 + b.length))) hh
        simp only [pc_at (show j - (5 + b.length) < 4 by omega), show 5 + b.length + (j - (5 + b.length)) = j by omega] at h5
        have hjl : j < (recOf k b).length := by rw [recOf_length]; exact hj
        rw [atB_of (l := (recOf k b).set j _) (by rw [hlen]; exact hj), List.getElem_set_self] at h5
        have h6 : atB (recOf k b) j ^^^ (atB (recOf k b) j ^^^ y) = 0 := by
          rw [← h5, Nat.xor_self]
        rw [← Nat.xor_assoc, Nat.xor_self, Nat.zero_xor] at h6
        exact hy0 h6
    rw [decide_eq_false hy0]
    simp [isRec, partOk, h0, hlen, hne]
end Go.By
