/- A record of which a byte is turned is none. Plain. -/
import Derived.Test.YtldkeelgnfegeaaGreatBig

namespace Go.By
open Go

theorem zipx_set (l : List Nat) (j y : Nat) (h : j < l.length) : Crc.zipx l (l.set j (atB l j ^^^ y)) = List.replicate j 0 ++ [y] ++ List.replicate (l.length - j - 1) 0 := by
  rw [List.append_assoc]
  apply List.ext_getElem
  · simp [Crc.zipx]; omega
  · intro i h1 h2
    have hi : i < l.length := by simp [Crc.zipx] at h1; omega
    by_cases h3 : i < j
    · rw [List.getElem_append_left (by simpa using h3)]
      simp [Crc.zipx, List.getElem_set_ne (by omega : j ≠ i)]
    · by_cases h4 : i = j
      · subst h4
        rw [List.getElem_append_right (by simp)]
        simp [Crc.zipx, atB_of hi]
        rw [← Nat.xor_assoc, Nat.xor_self, Nat.zero_xor]
      · rw [List.getElem_append_right (by simp; omega), List.getElem_append_right (by simp; omega)]
        simp [Crc.zipx, List.getElem_set_ne (by omega : j ≠ i)]
theorem sum_set {l : List Nat} {j y : Nat} (h : j < l.length) (hy : y < 256) : Crc.sum l = Crc.sum (l.set j (atB l j ^^^ y)) ↔ y = 0 := by
  rw [Crc.sum_ne _ _ (by simp), zipx_set l j y h, Crc.told _ _ _ (by simpa using hy) (by simp)]
  simp

theorem isRec_turned {k : Nat} {b : List Nat} (hk : k < 256) (hb : b.length ≤ 4096) (hs : ∀ c ∈ b, c < 256) {j y : Nat} (h4 : 4 ≤ j) (hj : j < 9 + b.length) (hy : y < 256) :
    isRec ((recOf k b).set j (atB (recOf k b) j ^^^ y)) = decide (y = 0) := by
  by_cases hy0 : y = 0
  · subst hy0
    have hjl : j < (recOf k b).length := by rw [recOf_length]; exact hj
    have : (recOf k b).set j (atB (recOf k b) j ^^^ 0) = recOf k b ++ [] := by
      rw [Nat.xor_zero, atB_of hjl, List.set_getElem_self, List.append_nil]
    rw [this, isRec_rec hk hb hs]; rfl
  · have h0 : bodyLen ((recOf k b).set j (atB (recOf k b) j ^^^ y)) = b.length := by
      have h := bodyLen_rec k b [] hb
      rw [List.append_nil] at h
      rw [← h]
      unfold bodyLen pc
      rw [List.drop_zero, List.drop_zero, List.take_set_of_le (by omega)]
    have hlen : ((recOf k b).set j (atB (recOf k b) j ^^^ y)).length = 9 + b.length := by rw [List.length_set, recOf_length]
    have hne : (numOf (pc ((recOf k b).set j (atB (recOf k b) j ^^^ y)) (5 + b.length) 4) == Crc.sum (((recOf k b).set j (atB (recOf k b) j ^^^ y)).take (5 + b.length))) = false := by
      rw [beq_eq_false_iff_ne]
      have hsum := Crc.sum_lt _ (recHead_small hk hs)
      have hat : ∀ i, i < 5 + b.length → atB (recOf k b) i = atB (recHead k b) i := fun i hi => by
        unfold atB recOf
        rw [List.getD_eq_getElem?_getD, List.getD_eq_getElem?_getD, List.getElem?_append_left (by rw [recHead_length]; exact hi)]
      by_cases hlt : j < 5 + b.length
      · have e1 : ((recOf k b).set j (atB (recOf k b) j ^^^ y)).take (5 + b.length) = (recHead k b).set j (atB (recHead k b) j ^^^ y) := by
          rw [List.take_set, hat j hlt]
          have := take_rec k b []
          rw [List.append_nil] at this
          rw [this]
        have e2 : pc ((recOf k b).set j (atB (recOf k b) j ^^^ y)) (5 + b.length) 4 = highOf (Crc.sum (recHead k b)) 4 := by
          unfold pc
          rw [List.drop_set_of_lt hlt, recOf, List.drop_append, recHead_length]
          simp [List.drop_of_length_le, recHead_length, highOf_length, List.take_of_length_le]
        rw [e1, e2, numOf_high 4 _ hsum]
        intro h
        exact hy0 ((sum_set (by rw [recHead_length]; exact hlt) hy).1 h)
      · have e1 : ((recOf k b).set j (atB (recOf k b) j ^^^ y)).take (5 + b.length) = recHead k b := by
          rw [List.take_set_of_le (by omega)]
          have := take_rec k b []
          rw [List.append_nil] at this
          rw [this]
        rw [e1]
        intro h
        have hp := pc_length (l := (recOf k b).set j (atB (recOf k b) j ^^^ y)) (i := 5 + b.length) (n := 4) (by rw [hlen]; omega)
        have hall : ∀ c ∈ (recOf k b).set j (atB (recOf k b) j ^^^ y), c < 256 := by
          intro c hc
          rcases List.mem_or_eq_of_mem_set hc with hc | rfl
          · exact recOf_small hk hs c hc
          · refine Nat.xor_lt_two_pow (n := 8) ?_ hy
            rw [atB_of (by rw [recOf_length]; exact hj)]
            exact recOf_small hk hs _ (List.getElem_mem _)
        have hh := high_numOf _ (pc_small (i := 5 + b.length) (n := 4) hall)
        rw [hp, h] at hh
        have e3 : pc (recOf k b) (5 + b.length) 4 = highOf (Crc.sum (recHead k b)) 4 := by
          unfold pc
          rw [recOf, List.drop_append, recHead_length]
          simp [List.drop_of_length_le, recHead_length, highOf_length, List.take_of_length_le]
        rw [← e3] at hh
        have h5 := congrArg (fun l => atB l (j - (5 + b.length))) hh
        simp only [pc_at (show j - (5 + b.length) < 4 by omega), show 5 + b.length + (j - (5 + b.length)) = j by omega] at h5
        have hjl : j < (recOf k b).length := by rw [recOf_length]; exact hj
        rw [atB_of (l := (recOf k b).set j _) (by rw [hlen]; exact hj), List.getElem_set_self] at h5
        have h6 : atB (recOf k b) j ^^^ (atB (recOf k b) j ^^^ y) = 0 := by
          rw [← h5, Nat.xor_self]
        rw [← Nat.xor_assoc, Nat.xor_self, Nat.zero_xor] at h6
        exact hy0 h6
    rw [decide_eq_false hy0]
    simp [isRec, partOk, h0, hlen, hne]
end Go.By

/- Slots as rows of bytes. Plain. -/
namespace Go.By
open Go

theorem drop_pc (l : List Nat) (i n : Nat) : l.drop i = pc l i n ++ l.drop (i + n) := by
  unfold pc
  rw [← List.drop_drop, List.take_append_drop]
theorem pc_mid {A M C : List Nat} {i n : Nat} (hA : A.length = i) (hM : M.length = n) : pc (A ++ (M ++ C)) i n = M := by
  subst hA hM
  unfold pc
  simp
theorem at_mid {A C : List Nat} {c i : Nat} (hA : A.length = i) : atB (A ++ (c :: C)) i = c := by
  subst hA
  unfold atB
  simp
theorem drop_at {l : List Nat} {i : Nat} (h : i < l.length) : l.drop i = atB l i :: l.drop (i + 1) := by
  rw [atB_of h, List.drop_eq_getElem_cons h]

/-- What stands ahead of a slot's sum. -/
def slotHead (g : Nat) (b : List Nat) : List Nat := [80, 68] ++ (highOf g 8 ++ (b.length :: (b ++ List.replicate (113 - b.length) 0)))
def slotOf (g : Nat) (b : List Nat) : List Nat := slotHead g b ++ highOf (Crc.sum (slotHead g b)) 4
theorem slotHead_length {g : Nat} {b : List Nat} (h : b.length ≤ 113) : (slotHead g b).length = 124 := by simp [slotHead, highOf_length]; omega
theorem slotOf_length {g : Nat} {b : List Nat} (h : b.length ≤ 113) : (slotOf g b).length = 128 := by simp [slotOf, highOf_length, slotHead_length h]
theorem slotHead_small {g : Nat} {b : List Nat} (h : b.length ≤ 113) (hb : ∀ c ∈ b, c < 256) : ∀ c ∈ slotHead g b, c < 256 := by
  intro c hc
  simp only [slotHead, List.mem_append, List.mem_cons, List.mem_replicate, List.not_mem_nil, or_false] at hc
  rcases hc with (rfl | rfl) | hc | rfl | hc | ⟨_, rfl⟩
  · omega
  · omega
  · exact highOf_small _ _ c hc
  · omega
  · exact hb c hc
  · omega
theorem slotOf_small {g : Nat} {b : List Nat} (h : b.length ≤ 113) (hb : ∀ c ∈ b, c < 256) : ∀ c ∈ slotOf g b, c < 256 := by
  intro c hc
  simp only [slotOf, List.mem_append] at hc
  rcases hc with hc | hc
  · exact slotHead_small h hb c hc
  · exact highOf_small _ _ c hc

def slotGen (l : List Nat) : Nat := numOf (pc l 2 8)
def slotSize (l : List Nat) : Nat := atB l 10
def slotBody (l : List Nat) : List Nat := pc l 11 (slotSize l)
/-- Is a part of a slot just so? (0: its length, 1: the letters, 2: the body's length, 3: the noughts, 4: the sum.) -/
def spOk (l : List Nat) : Nat → Bool
  | 0 => decide (l.length = 128)
  | 1 => pc l 0 2 == [80, 68]
  | 2 => decide (slotSize l ≤ 113)
  | 3 => (pc l (11 + slotSize l) (113 - slotSize l)).all (· == 0)
  | _ => numOf (pc l 124 4) == Crc.sum (l.take 124)
def isSlot (l : List Nat) : Bool := spOk l 0 && (spOk l 1 && (spOk l 2 && (spOk l 3 && spOk l 4)))

theorem slotOf_parts (g : Nat) (b : List Nat) : slotOf g b = [80, 68] ++ (highOf g 8 ++ (b.length :: (b ++ (List.replicate (113 - b.length) 0 ++ highOf (Crc.sum (slotHead g b)) 4)))) := by
  rw [slotOf]
  simp [slotHead]
theorem gen_slot {g : Nat} {b : List Nat} (hg : g < 18446744073709551616) : slotGen (slotOf g b) = g := by
  unfold slotGen
  rw [slotOf_parts, pc_mid (by rfl) (highOf_length g 8), numOf_high]
  exact Nat.lt_of_lt_of_le hg (by decide)
theorem size_slot (g : Nat) (b : List Nat) : slotSize (slotOf g b) = b.length := by
  unfold slotSize
  rw [slotOf_parts, ← List.append_assoc, at_mid (by simp [highOf_length])]
theorem body_slot (g : Nat) (b : List Nat) : slotBody (slotOf g b) = b := by
  unfold slotBody
  have e : slotOf g b = ([80, 68] ++ highOf g 8 ++ [b.length]) ++ (b ++ (List.replicate (113 - b.length) 0 ++ highOf (Crc.sum (slotHead g b)) 4)) := by
    rw [slotOf_parts]; simp
  rw [size_slot, e, pc_mid (by simp [highOf_length]) rfl]
theorem take_slot {g : Nat} {b : List Nat} (h : b.length ≤ 113) : (slotOf g b).take 124 = slotHead g b := by
  unfold slotOf
  rw [List.take_append, slotHead_length h]
  simp [List.take_of_length_le, slotHead_length h]
theorem end_slot {g : Nat} {b : List Nat} (h : b.length ≤ 113) : pc (slotOf g b) 124 4 = highOf (Crc.sum (slotHead g b)) 4 := by
  have := pc_mid (C := []) (slotHead_length (g := g) h) (highOf_length (Crc.sum (slotHead g b)) 4)
  rw [List.append_nil] at this
  exact this
theorem noughts_slot {g : Nat} {b : List Nat} (_h : b.length ≤ 113) : pc (slotOf g b) (11 + b.length) (113 - b.length) = List.replicate (113 - b.length) 0 := by
  have e : slotOf g b = ([80, 68] ++ highOf g 8 ++ [b.length] ++ b) ++ (List.replicate (113 - b.length) 0 ++ highOf (Crc.sum (slotHead g b)) 4) := by
    rw [slotOf_parts]; simp
  rw [e, pc_mid (by simp [highOf_length]; omega) (by simp)]
theorem isSlot_slot {g : Nat} {b : List Nat} (h : b.length ≤ 113) (hb : ∀ c ∈ b, c < 256) : isSlot (slotOf g b) = true := by
  have h1 : pc (slotOf g b) 0 2 = [80, 68] := by rw [slotOf_parts]; rfl
  have h4 := Crc.sum_lt _ (slotHead_small (g := g) h hb)
  simp only [isSlot, spOk, slotOf_length h, h1, size_slot, noughts_slot h, end_slot h, take_slot h, numOf_high 4 _ h4]
  simp [h]

theorem slot_split {l : List Nat} (h : l.length = 128) (hs : slotSize l ≤ 113) :
    l = pc l 0 2 ++ (pc l 2 8 ++ (slotSize l :: (slotBody l ++ (pc l (11 + slotSize l) (113 - slotSize l) ++ pc l 124 4)))) := by
  have h1 := drop_pc l 0 2
  have h2 := drop_pc l 2 8
  have h3 := drop_at (l := l) (i := 10) (by omega)
  have h4 := drop_pc l 11 (slotSize l)
  have h5 := drop_pc l (11 + slotSize l) (113 - slotSize l)
  have h6 : l.drop 124 = pc l 124 4 := by unfold pc; rw [List.take_of_length_le (by simp; omega)]
  rw [show 11 + slotSize l + (113 - slotSize l) = 124 by omega, h6] at h5
  rw [h5] at h4
  rw [h4] at h3
  rw [show 2 + 8 = 10 from rfl, h3] at h2
  rw [show 0 + 2 = 2 from rfl, h2, List.drop_zero] at h1
  exact h1
theorem take_split {l : List Nat} (h : l.length = 128) : l.take 124 ++ pc l 124 4 = l := by
  have h6 : l.drop 124 = pc l 124 4 := by unfold pc; rw [List.take_of_length_le (by simp; omega)]
  rw [← h6, List.take_append_drop]
theorem all_zero {l : List Nat} (h : l.all (· == 0) = true) : l = List.replicate l.length 0 := by
  apply List.eq_replicate_of_mem
  intro c hc
  have := List.all_eq_true.1 h c hc
  simpa using this

theorem slot_of_is {l : List Nat} (hs : ∀ c ∈ l, c < 256) (h : isSlot l = true) : slotOf (slotGen l) (slotBody l) = l := by
  simp only [isSlot, spOk, Bool.and_eq_true, decide_eq_true_eq, beq_iff_eq] at h
  obtain ⟨h0, h1, h2, h3, h4⟩ := h
  have hb : (slotBody l).length = slotSize l := pc_length (by omega)
  have h5 := slot_split h0 h2
  have e2 : highOf (numOf (pc l 2 8)) 8 = pc l 2 8 := by
    have := high_numOf (pc l 2 8) (pc_small hs)
    rw [pc_length (by omega)] at this
    exact this
  have e3 := all_zero h3
  rw [pc_length (by omega)] at e3
  have hh : slotHead (slotGen l) (slotBody l) = l.take 124 := by
    have : slotHead (slotGen l) (slotBody l) ++ pc l 124 4 = l := by
      refine Eq.trans ?_ h5.symm
      unfold slotHead slotGen
      rw [hb, e2, ← e3, ← h1]
      simp
    exact List.append_cancel_right (this.trans (take_split h0).symm)
  unfold slotOf
  rw [hh, ← h4]
  have e4 := high_numOf (pc l 124 4) (pc_small hs)
  rw [pc_length (by omega)] at e4
  rw [e4, take_split h0]
theorem isSlot_iff {l : List Nat} (hs : ∀ c ∈ l, c < 256) (h : l.length = 128) (h2 : slotSize l ≤ 113) : isSlot l = decide (slotOf (slotGen l) (slotBody l) = l) := by
  by_cases he : slotOf (slotGen l) (slotBody l) = l
  · rw [decide_eq_true he]
    have := isSlot_slot (g := slotGen l) (b := slotBody l) (by rw [slotBody, pc_length (by omega)]; exact h2) (pc_small hs)
    rw [he] at this
    exact this
  · rw [decide_eq_false he]
    cases hi : isSlot l
    · rfl
    · exact absurd (slot_of_is hs hi) he
theorem slotGen_lt {l : List Nat} (hs : ∀ c ∈ l, c < 256) : slotGen l < 18446744073709551616 := by
  have h1 := numOf_lt (pc l 2 8) (pc_small hs)
  have h2 : 256 ^ (pc l 2 8).length ≤ 256 ^ 8 := Nat.pow_le_pow_right (by omega) (by simp [pc]; omega)
  exact Nat.lt_of_lt_of_le h1 (Nat.le_trans h2 (by decide))

/-- A slot of which a byte is turned is none. -/
theorem isSlot_turned {g : Nat} {b : List Nat} (hb : b.length ≤ 113) (hs : ∀ c ∈ b, c < 256) {j y : Nat} (hj : j < 128) (hy : y < 256) :
    isSlot ((slotOf g b).set j (atB (slotOf g b) j ^^^ y)) = decide (y = 0) := by
  have hjl : j < (slotOf g b).length := by rw [slotOf_length hb]; exact hj
  by_cases hy0 : y = 0
  · subst hy0
    have : (slotOf g b).set j (atB (slotOf g b) j ^^^ 0) = slotOf g b := by
      rw [Nat.xor_zero, atB_of hjl, List.set_getElem_self]
    rw [this, isSlot_slot hb hs]; rfl
  · have hlen : ((slotOf g b).set j (atB (slotOf g b) j ^^^ y)).length = 128 := by rw [List.length_set, slotOf_length hb]
    have hsum := Crc.sum_lt _ (slotHead_small (g := g) hb hs)
    have hat : ∀ i, i < 124 → atB (slotOf g b) i = atB (slotHead g b) i := fun i hi => by
      unfold atB slotOf
      rw [List.getD_eq_getElem?_getD, List.getD_eq_getElem?_getD, List.getElem?_append_left (by rw [slotHead_length hb]; exact hi)]
    have hne : (numOf (pc ((slotOf g b).set j (atB (slotOf g b) j ^^^ y)) 124 4) == Crc.sum (((slotOf g b).set j (atB (slotOf g b) j ^^^ y)).take 124)) = false := by
      rw [beq_eq_false_iff_ne]
      by_cases hlt : j < 124
      · have e1 : ((slotOf g b).set j (atB (slotOf g b) j ^^^ y)).take 124 = (slotHead g b).set j (atB (slotHead g b) j ^^^ y) := by
          rw [List.take_set, hat j hlt, take_slot hb]
        have e2 : pc ((slotOf g b).set j (atB (slotOf g b) j ^^^ y)) 124 4 = highOf (Crc.sum (slotHead g b)) 4 := by
          rw [← end_slot hb]
          unfold pc
          rw [List.drop_set_of_lt hlt]
        rw [e1, e2, numOf_high 4 _ hsum]
        intro h
        exact hy0 ((sum_set (by rw [slotHead_length hb]; exact hlt) hy).1 h)
      · have e1 : ((slotOf g b).set j (atB (slotOf g b) j ^^^ y)).take 124 = slotHead g b := by
          rw [List.take_set_of_le (by omega), take_slot hb]
        rw [e1]
        intro h
        have hp := pc_length (l := (slotOf g b).set j (atB (slotOf g b) j ^^^ y)) (i := 124) (n := 4) (by rw [hlen]; omega)
        have hall : ∀ c ∈ (slotOf g b).set j (atB (slotOf g b) j ^^^ y), c < 256 := by
          intro c hc
          rcases List.mem_or_eq_of_mem_set hc with hc | rfl
          · exact slotOf_small hb hs c hc
          · refine Nat.xor_lt_two_pow (n := 8) ?_ hy
            rw [atB_of hjl]
            exact slotOf_small hb hs _ (List.getElem_mem _)
        have hh := high_numOf _ (pc_small (i := 124) (n := 4) hall)
        rw [hp, h, ← end_slot hb] at hh
        have h5 := congrArg (fun l => atB l (j - 124)) hh
        simp only [pc_at (show j - 124 < 4 by omega), show 124 + (j - 124) = j by omega] at h5
        rw [atB_of (l := (slotOf g b).set j _) (by rw [hlen]; exact hj), List.getElem_set_self] at h5
        have h6 : atB (slotOf g b) j ^^^ (atB (slotOf g b) j ^^^ y) = 0 := by
          rw [← h5, Nat.xor_self]
        rw [← Nat.xor_assoc, Nat.xor_self, Nat.zero_xor] at h6
        exact hy0 h6
    rw [decide_eq_false hy0]
    simp [isSlot, spOk, hne]

/-- What Take tells. -/
def stErr (l : List Nat) : Nat := if isSlot l then 0 else 2
def stGen (l : List Nat) : Nat := if isSlot l then slotGen l else 0
def stBody (l : List Nat) : List Nat := if isSlot l then slotBody l else []
/-- What Better tells. -/
def btWins (a b : List Nat) : Bool := isSlot b && (!isSlot a || decide (slotGen a < slotGen b))
def btWhich (a b : List Nat) : Nat := if btWins a b then 1 else 0
def btGen (a b : List Nat) : Nat := if btWins a b then stGen b else stGen a
def btBody (a b : List Nat) : List Nat := if btWins a b then stBody b else stBody a
def btErr (a b : List Nat) : Nat := if btWins a b then 0 else stErr a
/-- What Put tells. -/
def spErr (b : List Nat) : Nat := if b.length ≤ 113 then 0 else 4
def spBytes (g : Nat) (b : List Nat) : List Nat := if b.length ≤ 113 then slotOf g b else []
theorem st_none {l : List Nat} (h : isSlot l = false) : stErr l = 2 ∧ stGen l = 0 ∧ stBody l = [] := by
  unfold stErr stGen stBody
  rw [h]; exact ⟨rfl, rfl, rfl⟩
theorem st_some {l : List Nat} (h : isSlot l = true) : stErr l = 0 ∧ stGen l = slotGen l ∧ stBody l = slotBody l := by
  unfold stErr stGen stBody
  rw [h]; exact ⟨rfl, rfl, rfl⟩
theorem st_slot {g : Nat} {b : List Nat} (h : b.length ≤ 113) (hb : ∀ c ∈ b, c < 256) (hg : g < 18446744073709551616) : stErr (slotOf g b) = 0 ∧ stGen (slotOf g b) = g ∧ stBody (slotOf g b) = b := by
  have := st_some (isSlot_slot (g := g) h hb)
  rw [gen_slot hg, body_slot] at this
  exact this
theorem isSlot_long {l : List Nat} (h : l.length ≠ 128) : isSlot l = false := by simp [isSlot, spOk, h]

theorem highOf_cons (v : Nat) (n : Nat) : highOf v (n + 1) = v / 256 ^ n % 256 :: highOf v n := by
  induction n generalizing v with
  | zero => simp [highOf]
  | succ n ih =>
    rw [highOf, ih, highOf]
    simp only [List.cons_append, Nat.div_div_eq_div_mul]
    rw [Nat.pow_succ, Nat.mul_comm 256]
end Go.By
