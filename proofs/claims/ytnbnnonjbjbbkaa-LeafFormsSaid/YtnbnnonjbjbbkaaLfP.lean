/- How a row is grouped: plain. -/
namespace Go.By

/-- How many groups; how many in each, and how many have one more. -/
def gk (n : Nat) : Nat := (n + 7) / 8
def gq (n : Nat) : Nat := n / gk n
def gr (n : Nat) : Nat := n % gk n
def grpAt (n i : Nat) : Nat := gq n + if i < gr n then 1 else 0
def groupsOf (n : Nat) : List Nat := (List.range (gk n)).map (grpAt n)
theorem groupsOf_length (n : Nat) : (groupsOf n).length = gk n := by simp [groupsOf]
theorem groupsOf_at {n i : Nat} (h : i < (groupsOf n).length) : (groupsOf n)[i] = grpAt n i := by simp [groupsOf]
theorem groupsOf_zero : groupsOf 0 = [] := rfl
theorem g_eq (n : Nat) : gk n * gq n + gr n = n := Nat.div_add_mod n (gk n)
theorem gk_pos {n : Nat} (h : 1 ≤ n) : 1 ≤ gk n := by unfold gk; omega
theorem gk_le {n : Nat} (h : 1 ≤ n) : gk n ≤ n := by unfold gk; omega
theorem gr_lt {n : Nat} (h : 1 ≤ n) : gr n < gk n := Nat.mod_lt _ (gk_pos h)
theorem gq_pos {n : Nat} (h : 1 ≤ n) : 1 ≤ gq n := (Nat.le_div_iff_mul_le (gk_pos h)).2 (by have := gk_le h; omega)
theorem gq_least {n : Nat} (h : 1 ≤ n) (h1 : 1 < gk n) : 4 ≤ gq n := (Nat.le_div_iff_mul_le (gk_pos h)).2 (by unfold gk at h1 ⊢; omega)
theorem g_most {n : Nat} (h : 1 ≤ n) (i : Nat) : grpAt n i ≤ 8 := by
  have h8 : n ≤ gk n * 8 := by unfold gk; omega
  have he := g_eq n
  unfold grpAt
  split
  · rename_i hi
    have hr : 0 < gr n := by omega
    have hlt : gk n * gq n < gk n * 8 := by omega
    have := Nat.lt_of_mul_lt_mul_left hlt
    omega
  · have hle : gk n * gq n ≤ gk n * 8 := by omega
    have := Nat.le_of_mul_le_mul_left hle (gk_pos h)
    omega
theorem g_few {n : Nat} (h : 1 ≤ n) : 8 * (gk n - 1) < n := by unfold gk; omega
theorem g_falls {n i : Nat} : grpAt n (i + 1) ≤ grpAt n i := by
  unfold grpAt
  split <;> split <;> omega
theorem g_even {n i : Nat} : grpAt n 0 - grpAt n i ≤ 1 ∧ grpAt n i ≤ grpAt n 0 := by
  unfold grpAt
  split <;> split <;> omega
/-- How many are in the first groups. -/
def gsum (n j : Nat) : Nat := j * gq n + min j (gr n)
theorem gsum_succ (n j : Nat) : gsum n (j + 1) = gsum n j + grpAt n j := by
  unfold gsum grpAt
  rw [Nat.succ_mul]
  split <;> omega
theorem gsum_all {n : Nat} (h : 1 ≤ n) : gsum n (gk n) = n := by
  have h1 := g_eq n
  have h2 := gr_lt h
  unfold gsum
  omega
end Go.By

