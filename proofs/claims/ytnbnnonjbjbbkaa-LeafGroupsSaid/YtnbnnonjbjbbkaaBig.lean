/- Numbers as bytes, the highest first; records as rows of bytes. Plain. -/
import Derived.Test.YtnbnnonjbjbbkaaBy
import Derived.Test.YtnbnnonjbjbbkaaCrc
import Derived.Test.YtnbnnonjbjbbkaaTurn
namespace Go.By
open Go

/-- The number that bytes are, the highest first. -/
def numOf (l : List Nat) : Nat := l.foldl (fun n c => n * 256 + c) 0
/-- n bytes of a number, the highest first. -/
def highOf (v : Nat) : Nat → List Nat
  | 0 => []
  | n + 1 => highOf (v / 256) n ++ [v % 256]
theorem highOf_length (v n : Nat) : (highOf v n).length = n := by
  induction n generalizing v with
  | zero => rfl
  | succ n ih => simp [highOf, ih]
theorem highOf_small (v n : Nat) : ∀ c ∈ highOf v n, c < 256 := by
  induction n generalizing v with
  | zero => simp [highOf]
  | succ n ih =>
    intro c hc
    simp only [highOf, List.mem_append, List.mem_singleton] at hc
    rcases hc with hc | rfl
    · exact ih _ c hc
    · omega
theorem numOf_snoc (l : List Nat) (c : Nat) : numOf (l ++ [c]) = numOf l * 256 + c := by simp [numOf]
theorem numOf_high (n : Nat) : ∀ v, v < 256 ^ n → numOf (highOf v n) = v := by
  induction n with
  | zero => intro v h; simp at h; subst h; rfl
  | succ n ih =>
    intro v h
    rw [highOf, numOf_snoc, ih _ (by rw [Nat.pow_succ] at h; omega)]
    omega
theorem snoc_ind {p : List Nat → Prop} (h0 : p []) (h1 : ∀ l c, p l → p (l ++ [c])) (l : List Nat) : p l := by
  rw [← List.reverse_reverse l]
  induction l.reverse with
  | nil => exact h0
  | cons c l ih => rw [List.reverse_cons]; exact h1 _ _ ih
theorem numOf_lt (l : List Nat) (h : ∀ c ∈ l, c < 256) : numOf l < 256 ^ l.length := by
  revert h
  refine snoc_ind (p := fun l => (∀ c ∈ l, c < 256) → numOf l < 256 ^ l.length) ?_ ?_ l
  · intro _; simp [numOf]
  · intro l c ih h
    have h1 := ih (fun x hx => h x (by simp [hx]))
    have h2 := h c (by simp)
    rw [numOf_snoc, List.length_append, List.length_singleton, Nat.pow_succ]
    omega
theorem high_numOf (l : List Nat) (h : ∀ c ∈ l, c < 256) : highOf (numOf l) l.length = l := by
  revert h
  refine snoc_ind (p := fun l => (∀ c ∈ l, c < 256) → highOf (numOf l) l.length = l) ?_ ?_ l
  · intro _; rfl
  · intro l c ih h
    have h1 := ih (fun x hx => h x (by simp [hx]))
    have h2 := h c (by simp)
    rw [numOf_snoc, List.length_append, List.length_singleton, highOf]
    rw [show (numOf l * 256 + c) / 256 = numOf l by omega, show (numOf l * 256 + c) % 256 = c by omega, h1]
theorem high4 (n : Nat) : highOf n 4 = [n / 16777216 % 256, n / 65536 % 256, n / 256 % 256, n % 256] := by
  simp [highOf, Nat.div_div_eq_div_mul]

/-- A piece of a row. -/
def pc (l : List Nat) (at' n : Nat) : List Nat := (l.drop at').take n
theorem pc_length {l : List Nat} {i n : Nat} (h : i + n ≤ l.length) : (pc l i n).length = n := by simp [pc]; omega
theorem pc_small {l : List Nat} {i n : Nat} (h : ∀ c ∈ l, c < 256) : ∀ c ∈ pc l i n, c < 256 := fun c hc => h c (List.mem_of_mem_drop (List.mem_of_mem_take hc))
theorem pc_at {l : List Nat} {i n j : Nat} (h : j < n) : atB (pc l i n) j = atB l (i + j) := by
  unfold atB pc
  simp [List.getD, h]
theorem pc_left {l m : List Nat} {i n : Nat} (h : i + n ≤ l.length) : pc (l ++ m) i n = pc l i n := by
  unfold pc
  rw [List.drop_append, List.take_append]
  simp; omega
theorem pc_right {l m : List Nat} {n : Nat} (_h : n ≤ m.length) : pc (l ++ m) l.length n = m.take n := by
  unfold pc; simp

/-- What stands ahead of a record's sum. -/
def recHead (k : Nat) (b : List Nat) : List Nat := highOf b.length 4 ++ ([k] ++ b)
def recOf (k : Nat) (b : List Nat) : List Nat := recHead k b ++ highOf (Crc.sum (recHead k b)) 4
theorem recHead_length (k : Nat) (b : List Nat) : (recHead k b).length = 5 + b.length := by simp [recHead, highOf_length]; omega
theorem recOf_length (k : Nat) (b : List Nat) : (recOf k b).length = 9 + b.length := by simp [recOf, highOf_length, recHead_length]; omega
theorem recHead_small {k : Nat} {b : List Nat} (hk : k < 256) (hb : ∀ c ∈ b, c < 256) : ∀ c ∈ recHead k b, c < 256 := by
  intro c hc
  simp only [recHead, List.mem_append, List.mem_singleton] at hc
  rcases hc with hc | rfl | hc
  · exact highOf_small _ _ c hc
  · exact hk
  · exact hb c hc
theorem recOf_small {k : Nat} {b : List Nat} (hk : k < 256) (hb : ∀ c ∈ b, c < 256) : ∀ c ∈ recOf k b, c < 256 := by
  intro c hc
  simp only [recOf, List.mem_append] at hc
  rcases hc with hc | hc
  · exact recHead_small hk hb c hc
  · exact highOf_small _ _ c hc

/-- How long a body is, as the front of bytes says. -/
def bodyLen (l : List Nat) : Nat := numOf (pc l 0 4)
/-- Is a part of a record there, and may it be? (0: the length, 1: the kind, 2: the body, 3: the sum.) -/
def partOk (l : List Nat) : Nat → Bool
  | 0 => decide (4 ≤ l.length) && decide (bodyLen l ≤ 4096)
  | 1 => decide (5 ≤ l.length)
  | 2 => decide (5 + bodyLen l ≤ l.length)
  | _ => decide (9 + bodyLen l ≤ l.length) && (numOf (pc l (5 + bodyLen l) 4) == Crc.sum (l.take (5 + bodyLen l)))
def isRec (l : List Nat) : Bool := partOk l 0 && partOk l 1 && partOk l 2 && partOk l 3

theorem bodyLen_rec (k : Nat) (b m : List Nat) (hb : b.length ≤ 4096) : bodyLen (recOf k b ++ m) = b.length := by
  have : pc (recOf k b ++ m) 0 4 = highOf b.length 4 := by
    unfold pc recOf recHead
    simp only [List.drop_zero, List.append_assoc]
    rw [List.take_append, highOf_length]
    simp [List.take_of_length_le, highOf_length]
  rw [bodyLen, this, numOf_high]
  omega
theorem take_rec (k : Nat) (b m : List Nat) : (recOf k b ++ m).take (5 + b.length) = recHead k b := by
  rw [recOf, List.append_assoc, List.take_append, recHead_length]
  simp [List.take_of_length_le, recHead_length]
theorem isRec_rec {k : Nat} {b m : List Nat} (hk : k < 256) (hb : b.length ≤ 4096) (hs : ∀ c ∈ b, c < 256) : isRec (recOf k b ++ m) = true := by
  have h1 := bodyLen_rec k b m hb
  have h2 := recOf_length k b
  have h3 : pc (recOf k b ++ m) (5 + b.length) 4 = highOf (Crc.sum (recHead k b)) 4 := by
    unfold pc recOf
    rw [List.append_assoc, List.drop_append, recHead_length]
    simp [List.drop_of_length_le, recHead_length, highOf_length]
  have h4 : numOf (highOf (Crc.sum (recHead k b)) 4) = Crc.sum (recHead k b) := numOf_high 4 _ (Crc.sum_lt _ (recHead_small hk hs))
  simp only [isRec, partOk, h1, take_rec, h3, h4, List.length_append, h2]
  simp; omega
theorem kind_rec (k : Nat) (b m : List Nat) : atB (recOf k b ++ m) 4 = k := by
  unfold atB recOf recHead
  rw [high4]; simp
theorem body_rec (k : Nat) (b m : List Nat) : pc (recOf k b ++ m) 5 b.length = b := by
  unfold pc recOf recHead
  rw [high4]; simp
/-- Cut off, it is none. -/
theorem isRec_cut {k : Nat} {b : List Nat} (hb : b.length ≤ 4096) {i : Nat} (hi : i < 9 + b.length) : isRec ((recOf k b).take i) = false := by
  by_cases h4 : 4 ≤ i
  · have h1 : bodyLen ((recOf k b).take i) = b.length := by
      have := bodyLen_rec k b [] hb
      rw [List.append_nil] at this
      rw [← this]
      unfold bodyLen pc
      simp only [List.drop_zero, List.take_take]
      rw [Nat.min_eq_left h4]
    have h2 : ((recOf k b).take i).length = i := by rw [List.length_take, recOf_length]; omega
    have : partOk ((recOf k b).take i) 3 = false := by
      simp only [partOk, h1, h2]
      have : ¬ 9 + b.length ≤ i := by omega
      simp [this]
    simp [isRec, this]
  · have h2 : ((recOf k b).take i).length < 4 := by rw [List.length_take]; omega
    have : partOk ((recOf k b).take i) 0 = false := by
      simp only [partOk]
      have : ¬ 4 ≤ ((recOf k b).take i).length := by omega
      rw [decide_eq_false this]; rfl
    simp [isRec, this]
end Go.By

