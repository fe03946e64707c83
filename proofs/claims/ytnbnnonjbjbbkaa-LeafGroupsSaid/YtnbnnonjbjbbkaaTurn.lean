/- Bytes of which some in a row are turned. Plain arithmetic. -/
import Derived.Test.YtnbnnonjbjbbkaaBy
import Derived.Test.YtnbnnonjbjbbkaaCrc
namespace Go.By
open Go

/-- What is turned: g from place k on, i bytes of it. -/
def hole (k i : Nat) (g : Nat → Nat) (j : Nat) : Nat := if k ≤ j ∧ j < k + i then g (j - k) else 0
def turn (l : List Nat) (f : Nat → Nat) : List Nat := (List.range l.length).map fun j => atB l j ^^^ f j
theorem turn_length (l : List Nat) (f : Nat → Nat) : (turn l f).length = l.length := by simp [turn]
theorem turn_at {l : List Nat} {f : Nat → Nat} {j : Nat} (h : j < l.length) : atB (turn l f) j = atB l j ^^^ f j := by
  rw [atB_of (by rw [turn_length]; exact h)]; simp [turn]
theorem turn_zero (l : List Nat) (k : Nat) (g : Nat → Nat) : turn l (hole k 0 g) = l := by
  apply List.ext_getElem
  · simp [turn]
  · intro j h1 h2
    have : hole k 0 g j = 0 := by unfold hole; rw [if_neg (by omega)]
    simp [turn, this, atB_of h2]
theorem turn_set (l : List Nat) (k i : Nat) (g : Nat → Nat) (_h : k + i < l.length) :
    (turn l (hole k i g)).set (k + i) (atB l (k + i) ^^^ g i) = turn l (hole k (i + 1) g) := by
  apply List.ext_getElem
  · simp [turn]
  · intro j h1 h2
    by_cases hj : k + i = j
    · subst hj
      simp [turn, hole]
    · rw [List.getElem_set_ne hj]
      simp only [turn, List.getElem_map, List.getElem_range, hole]
      have : (k ≤ j ∧ j < k + i) ↔ (k ≤ j ∧ j < k + (i + 1)) := by omega
      simp only [this]
theorem turn_before (l : List Nat) (k i : Nat) (g : Nat → Nat) (h : k + i < l.length) : atB (turn l (hole k i g)) (k + i) = atB l (k + i) := by
  rw [turn_at h]
  have : hole k i g (k + i) = 0 := by unfold hole; rw [if_neg (by omega)]
  rw [this, Nat.xor_zero]
theorem turn_small {l : List Nat} {f : Nat → Nat} (hl : ∀ c ∈ l, c < 256) (hf : ∀ j, f j < 256) : ∀ c ∈ turn l f, c < 256 := by
  intro c hc
  obtain ⟨j, hj, rfl⟩ := List.mem_map.1 hc
  have hj' : j < l.length := by simpa using hj
  refine Nat.xor_lt_two_pow (n := 8) ?_ (hf j)
  rw [atB_of hj']; exact hl _ (List.getElem_mem hj')
theorem hole_lt {k i : Nat} {g : Nat → Nat} (hg : ∀ j, g j < 256) (j : Nat) : hole k i g j < 256 := by
  unfold hole; split
  · exact hg _
  · omega

theorem zipx_turn (l : List Nat) (f : Nat → Nat) : Crc.zipx l (turn l f) = (List.range l.length).map f := by
  apply List.ext_getElem
  · simp [Crc.zipx, turn]
  · intro j h1 h2
    have hj : j < l.length := by simpa using h2
    simp [Crc.zipx, turn, atB_of hj]
    rw [← Nat.xor_assoc, Nat.xor_self, Nat.zero_xor]
theorem range_hole (n k i : Nat) (g : Nat → Nat) (h : k + i ≤ n) : (List.range n).map (hole k i g) = List.replicate k 0 ++ (List.range i).map g ++ List.replicate (n - k - i) 0 := by
  apply List.ext_getElem
  · simp; omega
  · intro j h1 h2
    simp only [List.getElem_map, List.getElem_range]
    by_cases h3 : j < k
    · rw [List.getElem_append_left (by simp; omega), List.getElem_append_left (by simpa using h3)]
      unfold hole; rw [if_neg (by omega)]; simp
    · by_cases h4 : j < k + i
      · rw [List.getElem_append_left (by simp; omega), List.getElem_append_right (by simpa using h3)]
        unfold hole; rw [if_pos (by omega)]; simp
      · rw [List.getElem_append_right (by simp; omega)]
        unfold hole; rw [if_neg (by omega)]; simp

/-- The sum tells whether anything was turned. -/
theorem sum_turn (l : List Nat) (k i : Nat) (g : Nat → Nat) (h : k + i ≤ l.length) (hi : i ≤ 4) (hg : ∀ j, g j < 256) : Crc.sum (turn l (hole k i g)) = Crc.sum l ↔ ∀ j, j < i → g j = 0 := by
  rw [eq_comm, Crc.sum_ne l _ (by rw [turn_length]), zipx_turn, range_hole _ _ _ _ h, Crc.told]
  · simp
  · intro c hc; obtain ⟨j, _, rfl⟩ := List.mem_map.1 hc; exact hg j
  · simpa using hi

/-- Was anything turned? -/
def any (g : Nat → Nat) : Nat → Bool
  | 0 => false
  | i + 1 => any g i || (g i != 0)
theorem any_iff (g : Nat → Nat) : ∀ i, any g i = false ↔ ∀ j, j < i → g j = 0
  | 0 => by simp [any]
  | i + 1 => by
    simp only [any, Bool.or_eq_false_iff, any_iff g i, bne_eq_false_iff_eq]
    constructor
    · rintro ⟨h1, h2⟩ j hj
      by_cases h : j = i
      · subst h; exact h2
      · exact h1 j (by omega)
    · intro h
      exact ⟨fun j hj => h j (by omega), h i (by omega)⟩
theorem sum_turn_bne (l : List Nat) (k i : Nat) (g : Nat → Nat) (h : k + i ≤ l.length) (hi : i ≤ 4) (hg : ∀ j, g j < 256) :
    (((Crc.sum (turn l (hole k i g)) : Nat) : Int) != ((Crc.sum l : Nat) : Int)) = any g i := by
  have h1 := sum_turn l k i g h hi hg
  have h2 := any_iff g i
  cases ha : any g i with
  | false =>
    have := h1.2 (h2.1 ha)
    rw [this]; simp
  | true =>
    have hne : Crc.sum (turn l (hole k i g)) ≠ Crc.sum l := fun he => by
      have := h2.2 (h1.1 he); rw [ha] at this; cases this
    simp only [bne_iff_ne, ne_eq, Int.natCast_inj]; exact hne
end Go.By

