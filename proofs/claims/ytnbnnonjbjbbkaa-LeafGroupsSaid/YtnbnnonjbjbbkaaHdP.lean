/- Heads, ids' answers, marks and places as rows of bytes. Plain. -/
import Derived.Test.YtnbnnonjbjbbkaaEvP
namespace Go.By
open Go

/-- The numbers that eight bytes are. -/
theorem num8_lt {l : List Nat} (h : ∀ c ∈ l, c < 256) : numOf (l.take 8) < 18446744073709551616 := by
  have h1 := numOf_lt (l.take 8) (fun c hc => h c (List.mem_of_mem_take hc))
  have h2 : 256 ^ (l.take 8).length ≤ 256 ^ 8 := Nat.pow_le_pow_right (by omega) (by rw [List.length_take]; omega)
  exact Nat.lt_of_lt_of_le h1 (Nat.le_trans h2 (by decide))
theorem take_high (n : Nat) (k : Nat) (m : List Nat) : (highOf n k ++ m).take k = highOf n k := by
  have := List.take_left (l₁ := highOf n k) (l₂ := m)
  rw [highOf_length] at this
  exact this
theorem drop_high (n : Nat) (k : Nat) (m : List Nat) : (highOf n k ++ m).drop k = m := by
  have := List.drop_left (l₁ := highOf n k) (l₂ := m)
  rw [highOf_length] at this
  exact this
theorem num_high8 {n : Int} (h0 : 0 ≤ n) (h1 : n ≤ 9223372036854775807) : RowKit.wrap64 (numOf (highOf n.toNat 8) : Nat) = n := by
  rw [numOf_high 8 _ (by omega), wrap64_nat (by omega), Int.toNat_of_nonneg h0]

structure Hd where
  nx : Int
  fi : Int
  tb : Bool
deriving DecidableEq
def mayHd (h : Hd) : Bool := decide (0 ≤ h.fi) && decide (h.fi ≤ h.nx)
theorem mayHd_iff (h : Hd) : mayHd h = true ↔ 0 ≤ h.fi ∧ h.fi ≤ h.nx := by simp [mayHd]
def tombOf (b : Bool) : Nat := if b = true then 1 else 0
def headOf (h : Hd) : List Nat := highOf h.nx.toNat 8 ++ (highOf h.fi.toNat 8 ++ [tombOf h.tb])
theorem headOf_length (h : Hd) : (headOf h).length = 17 := by simp [headOf, highOf_length]
theorem headOf_small (h : Hd) : ∀ c ∈ headOf h, c < 256 := by
  intro c hc
  unfold headOf at hc
  simp only [List.mem_append, List.mem_singleton] at hc
  rcases hc with hc | hc | rfl
  · exact highOf_small _ _ c hc
  · exact highOf_small _ _ c hc
  · unfold tombOf; split <;> omega
def putHd (h : Hd) : List Nat := if mayHd h = true then headOf h else []
theorem putHd_small (h : Hd) : ∀ c ∈ putHd h, c < 256 := by
  unfold putHd
  split
  · exact headOf_small h
  · intro c hc; cases hc
theorem putHd_length (h : Hd) : (putHd h).length ≤ 17 := by
  unfold putHd
  split
  · rw [headOf_length]; omega
  · simp
def rdHd (l : List Nat) : Hd := ⟨RowKit.wrap64 (numOf (l.take 8) : Nat), RowKit.wrap64 (numOf ((l.drop 8).take 8) : Nat), decide (atB l 16 = 1)⟩
def takeHd (l : List Nat) : Option Hd := if l.length = 17 ∧ putHd (rdHd l) = l then some (rdHd l) else none
theorem rdHd_of {h : Hd} (hm : mayHd h = true) (hn : h.nx ≤ 9223372036854775807) : rdHd (headOf h) = h := by
  obtain ⟨h0, h1⟩ := (mayHd_iff h).1 hm
  unfold rdHd headOf
  rw [take_high, drop_high, take_high, num_high8 (by omega) hn, num_high8 h0 (by omega)]
  have : decide (atB (highOf h.nx.toNat 8 ++ (highOf h.fi.toNat 8 ++ [tombOf h.tb])) 16 = 1) = h.tb := by
    have e : atB (highOf h.nx.toNat 8 ++ (highOf h.fi.toNat 8 ++ [tombOf h.tb])) 16 = tombOf h.tb := by
      unfold atB
      rw [List.getD_eq_getElem?_getD, List.getElem?_append_right (by rw [highOf_length]; omega), highOf_length, List.getElem?_append_right (by rw [highOf_length]; omega), highOf_length]
      rfl
    rw [e]
    cases h.tb <;> rfl
  rw [this]
theorem takeHd_put {h : Hd} (hm : mayHd h = true) (hn : h.nx ≤ 9223372036854775807) : takeHd (putHd h) = some h := by
  have hp : putHd h = headOf h := by unfold putHd; rw [if_pos hm]
  unfold takeHd
  rw [hp, rdHd_of hm hn, if_pos ⟨headOf_length h, hp⟩]
theorem takeHd_no {h : Hd} (hm : mayHd h = false) : takeHd (putHd h) = none := by
  have hp : putHd h = [] := by unfold putHd; rw [hm]; rfl
  unfold takeHd
  rw [hp, if_neg (fun k => by simp at k)]

structure Dn where
  fi : Int
  ct : Int
  ag : Bool
deriving DecidableEq
def mayDn (d : Dn) : Bool := decide (0 ≤ d.fi) && (decide (1 ≤ d.ct) && (decide (d.ct ≤ 65535) && !d.ag))
theorem mayDn_iff (d : Dn) : mayDn d = true ↔ 0 ≤ d.fi ∧ 1 ≤ d.ct ∧ d.ct ≤ 65535 ∧ d.ag = false := by simp [mayDn]
def doneOf (d : Dn) : List Nat := highOf d.fi.toNat 8 ++ highOf d.ct.toNat 2
theorem doneOf_length (d : Dn) : (doneOf d).length = 10 := by simp [doneOf, highOf_length]
def putDn (d : Dn) : List Nat := if mayDn d = true then doneOf d else []
theorem putDn_small (d : Dn) : ∀ c ∈ putDn d, c < 256 := by
  unfold putDn
  split
  · intro c hc
    rcases List.mem_append.1 hc with hc | hc
    · exact highOf_small _ _ c hc
    · exact highOf_small _ _ c hc
  · intro c hc; cases hc
theorem putDn_length (d : Dn) : (putDn d).length ≤ 10 := by
  unfold putDn
  split
  · rw [doneOf_length]; omega
  · simp
def rdDn (l : List Nat) : Dn := ⟨RowKit.wrap64 (numOf (l.take 8) : Nat), (numOf (l.drop 8) : Nat), false⟩
def takeDn (l : List Nat) : Option Dn := if l.length = 10 ∧ putDn (rdDn l) = l then some (rdDn l) else none
theorem rdDn_of {d : Dn} (hm : mayDn d = true) (hn : d.fi ≤ 9223372036854775807) : rdDn (doneOf d) = d := by
  obtain ⟨h0, h1, h2, h3⟩ := (mayDn_iff d).1 hm
  unfold rdDn doneOf
  rw [take_high, drop_high, num_high8 h0 hn, numOf_high 2 _ (by omega), Int.toNat_of_nonneg (by omega), ← h3]
theorem takeDn_put {d : Dn} (hm : mayDn d = true) (hn : d.fi ≤ 9223372036854775807) : takeDn (putDn d) = some d := by
  have hp : putDn d = doneOf d := by unfold putDn; rw [if_pos hm]
  unfold takeDn
  rw [hp, rdDn_of hm hn, if_pos ⟨doneOf_length d, hp⟩]
theorem takeDn_no {d : Dn} (hm : mayDn d = false) : takeDn (putDn d) = none := by
  have hp : putDn d = [] := by unfold putDn; rw [hm]; rfl
  unfold takeDn
  rw [hp, if_neg (fun k => by simp at k)]

structure Mk where
  at_ : Int
  da : List Nat
deriving DecidableEq
def mayMk (m : Mk) : Bool := decide (0 ≤ m.at_) && decide (m.da.length ≤ 100)
theorem mayMk_iff (m : Mk) : mayMk m = true ↔ 0 ≤ m.at_ ∧ m.da.length ≤ 100 := by simp [mayMk]
def markOf (m : Mk) : List Nat := highOf m.at_.toNat 8 ++ m.da
theorem markOf_length (m : Mk) : (markOf m).length = 8 + m.da.length := by simp [markOf, highOf_length]
def putMk (m : Mk) : List Nat := if mayMk m = true then markOf m else []
theorem putMk_small {m : Mk} (h : ∀ c ∈ m.da, c < 256) : ∀ c ∈ putMk m, c < 256 := by
  unfold putMk
  split
  · intro c hc
    rcases List.mem_append.1 hc with hc | hc
    · exact highOf_small _ _ c hc
    · exact h c hc
  · intro c hc; cases hc
theorem putMk_length (m : Mk) : (putMk m).length ≤ 108 := by
  unfold putMk
  split
  · rename_i h
    have := ((mayMk_iff m).1 h).2
    rw [markOf_length]; omega
  · simp
def rdMk (l : List Nat) : Mk := ⟨RowKit.wrap64 (numOf (l.take 8) : Nat), l.drop 8⟩
def takeMk (l : List Nat) : Option Mk := if 8 ≤ l.length ∧ l.length ≤ 108 ∧ atB l 0 ≤ 127 then some (rdMk l) else none
/-- The first of eight bytes says whether the number has 63 bits. -/
theorem first_high (n : Nat) (m : List Nat) : atB (highOf n 8 ++ m) 0 = n / 72057594037927936 % 256 := by
  have e : highOf n 8 = [n / 256 / 256 / 256 / 256 / 256 / 256 / 256 % 256, n / 256 / 256 / 256 / 256 / 256 / 256 % 256, n / 256 / 256 / 256 / 256 / 256 % 256, n / 256 / 256 / 256 / 256 % 256, n / 256 / 256 / 256 % 256, n / 256 / 256 % 256, n / 256 % 256, n % 256] := rfl
  have e2 : atB (highOf n 8 ++ m) 0 = n / 256 / 256 / 256 / 256 / 256 / 256 / 256 % 256 := by rw [e]; rfl
  rw [e2, Nat.div_div_eq_div_mul, Nat.div_div_eq_div_mul, Nat.div_div_eq_div_mul, Nat.div_div_eq_div_mul, Nat.div_div_eq_div_mul, Nat.div_div_eq_div_mul]
theorem first_num {l : List Nat} (hs : ∀ c ∈ l, c < 256) (hl : 8 ≤ l.length) : atB l 0 ≤ 127 ↔ numOf (l.take 8) ≤ 9223372036854775807 := by
  have h1 := num8_lt hs
  have h2 := high_numOf (l.take 8) (fun c hc => hs c (List.mem_of_mem_take hc))
  rw [List.length_take, Nat.min_eq_left hl] at h2
  have h3 := first_high (numOf (l.take 8)) (l.drop 8)
  rw [h2, List.take_append_drop] at h3
  rw [h3]
  omega
theorem takeMk_put {m : Mk} (hm : mayMk m = true) (hn : m.at_ ≤ 9223372036854775807) : takeMk (putMk m) = some m := by
  obtain ⟨h0, h1⟩ := (mayMk_iff m).1 hm
  have hp : putMk m = markOf m := by unfold putMk; rw [if_pos hm]
  have hr : rdMk (markOf m) = m := by
    unfold rdMk markOf
    rw [take_high, drop_high, num_high8 h0 hn]
  unfold takeMk
  rw [hp, hr, markOf_length, if_pos ⟨by omega, by omega, by
    unfold markOf
    rw [first_high]
    omega⟩]
theorem takeMk_no {m : Mk} (hm : mayMk m = false) : takeMk (putMk m) = none := by
  have hp : putMk m = [] := by unfold putMk; rw [hm]; rfl
  unfold takeMk
  rw [hp, if_neg (fun k => by simp at k)]

def putOf (n : Int) : List Nat := if 0 ≤ n then highOf n.toNat 8 else []
theorem putOf_small (n : Int) : ∀ c ∈ putOf n, c < 256 := by
  unfold putOf
  split
  · exact highOf_small _ _
  · intro c hc; cases hc
theorem putOf_length (n : Int) : (putOf n).length ≤ 8 := by
  unfold putOf
  split
  · rw [highOf_length]; omega
  · simp
def takeOf (l : List Nat) : Option Int := if l.length = 8 ∧ atB l 0 ≤ 127 then some (RowKit.wrap64 (numOf l : Nat)) else none
theorem takeOf_put {n : Int} (h0 : 0 ≤ n) (hn : n ≤ 9223372036854775807) : takeOf (putOf n) = some n := by
  unfold putOf
  rw [if_pos h0]
  unfold takeOf
  have h := first_high n.toNat []
  rw [List.append_nil] at h
  rw [if_pos ⟨highOf_length _ _, by rw [h]; omega⟩, num_high8 h0 hn]
theorem takeOf_no {n : Int} (h0 : ¬ 0 ≤ n) : takeOf (putOf n) = none := by
  unfold putOf takeOf
  rw [if_neg h0, if_neg (fun k => by simp at k)]
end Go.By

