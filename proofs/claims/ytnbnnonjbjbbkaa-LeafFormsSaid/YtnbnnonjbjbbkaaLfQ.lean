/- Changes of rows of items: plain. -/
import Derived.Test.YtnbnnonjbjbbkaaNdO
import Derived.Test.YtnbnnonjbjbbkaaCmp
import Derived.Test.YtnbnnonjbjbbkaaLfP
namespace Go.By
open Go Go.RowKit

theorem cmpB_more : ∀ (x y : List UInt8), decide (0 < Lib.compareBytes x y) = Op.bytesLess y x
  | [], [] => rfl
  | [], _ :: _ => rfl
  | _ :: _, [] => rfl
  | a :: x, b :: y => by
    have ih := cmpB_more x y
    rw [Op.bytesLess, Lib.compareBytes, ← ih]
    by_cases h1 : a < b
    · have h2 : ¬ b < a := by rw [UInt8.lt_iff_toNat_lt] at *; omega
      have h3 : (b == a) = false := by
        rw [beq_eq_false_iff_ne]
        intro e
        subst e
        exact h2 h1
      simp [h1, h2, h3]
    · by_cases h2 : b < a
      · simp [h1, h2]
      · have h3 : a = b := by
          apply UInt8.toNat_inj.1
          rw [UInt8.lt_iff_toNat_lt] at h1 h2
          omega
        simp [h3]
theorem cmpN_more {l m : List Nat} (hl : ∀ c ∈ l, c < 256) (hm : ∀ c ∈ m, c < 256) : decide (0 < cmpN l m) = lessN m l := by
  unfold cmpN
  rw [cmpB_more, less_nats, u8s_nats hl, u8s_nats hm]

/-- A change. -/
structure NCh where
  k : List Nat
  v : List Nat
  out : Bool
deriving DecidableEq
def KChange : Kind NCh where
  width := 3
  is w cs c := ∃ a b, cs = [a, b, .bool c.out] ∧ Bytes w a c.k ∧ Bytes w b c.v
  len h := by obtain ⟨a, b, rfl, _⟩ := h; rfl
  stays h hb := by obtain ⟨a, b, rfl, h1, h2⟩ := h; exact ⟨a, b, rfl, h1.below hb, h2.below hb⟩
theorem KChange.mk {w : World} {a b : Value} {c : NCh} {o : Bool} (ho : o = c.out) (ha : Bytes w a c.k) (hb : Bytes w b c.v) : KChange.is w [a, b, .bool o] c := ⟨a, b, by rw [ho], ha, hb⟩

def mostVal (c : NCh) : Nat := if c.out = true then 0 else 120
/-- May c come behind this key? -/
def okCh (last : List Nat) (c : NCh) : Bool := lessN last c.k && (decide (c.k.length ≤ 40) && decide (c.v.length ≤ mostVal c))
def risesCh : List Nat → List NCh → Bool
  | _, [] => true
  | last, c :: r => okCh last c && risesCh c.k r

/-- Is the key above the item? -/
def isAb (k : List Nat) (i : NIt) : Bool := lessN i.k k
/-- How many items are at the front that the key is above. -/
def front (k : List Nat) : List NIt → Nat
  | [] => 0
  | i :: r => if isAb k i = true then front k r + 1 else 0
theorem front_le (k : List Nat) : ∀ l : List NIt, front k l ≤ l.length
  | [] => Nat.le_refl _
  | i :: r => by
    rw [front]
    split
    · have := front_le k r
      simp
      omega
    · simp
theorem front_at {k : List Nat} : ∀ {l : List NIt} {j : Nat} (h : j < l.length), j < front k l → isAb k l[j] = true
  | i :: r, 0, _, h => by
    rw [front] at h
    split at h
    · assumption
    · omega
  | i :: r, j + 1, h, h' => by
    rw [front] at h'
    split at h'
    · rw [List.getElem_cons_succ]
      exact front_at (by simpa using h) (by omega)
    · omega
theorem front_end {k : List Nat} : ∀ {l : List NIt} (h : front k l < l.length), isAb k l[front k l] = false
  | i :: r, h => by
    by_cases hi : isAb k i = true
    · have e : front k (i :: r) = front k r + 1 := by rw [front, if_pos hi]
      simp only [e] at h ⊢
      rw [List.getElem_cons_succ]
      exact front_end (by simpa using h)
    · have e : front k (i :: r) = 0 := by rw [front, if_neg hi]
      simp only [e] at h ⊢
      simpa using hi
theorem front_of {k : List Nat} {l : List NIt} {n : Nat} (hn : n ≤ l.length) (h1 : ∀ j (h : j < l.length), j < n → isAb k l[j] = true) (h2 : ∀ h : n < l.length, isAb k l[n] = false) : front k l = n := by
  have hl := front_le k l
  rcases Nat.lt_trichotomy (front k l) n with h | h | h
  · have e := front_end (k := k) (l := l) (by omega)
    rw [h1 _ (by omega) h] at e
    cases e
  · exact h
  · have e := front_at (k := k) (l := l) (j := n) (by omega) h
    rw [h2 (by omega)] at e
    cases e
/-- Without the first, if it has this key. -/
def passed (k : List Nat) : List NIt → List NIt
  | [] => []
  | i :: r => if k = i.k then r else i :: r
def putsCh (c : NCh) : List NIt := if c.out = true then [] else [⟨c.k, c.v⟩]
/-- What is left, and what is made, behind a change. -/
def step1 (c : NCh) (x : List NIt × List NIt) : List NIt × List NIt := (x.1.drop (front c.k x.1), x.2 ++ x.1.take (front c.k x.1))
def step2 (c : NCh) (x : List NIt × List NIt) : List NIt × List NIt := (passed c.k x.1, x.2)
def step3 (c : NCh) (x : List NIt × List NIt) : List NIt × List NIt := (x.1, x.2 ++ putsCh c)
def stepAll (x : List NIt × List NIt) (c : NCh) : List NIt × List NIt := step3 c (step2 c (step1 c x))
def applyN (its : List NIt) (l : List NCh) : List NIt := ((l.foldl stepAll (its, [])).2 ++ (l.foldl stepAll (its, [])).1)
theorem passed_le (k : List Nat) (l : List NIt) : (passed k l).length ≤ l.length := by
  cases l with
  | nil => exact Nat.le_refl _
  | cons i r =>
    rw [passed]
    split <;> simp
theorem stepAll_len (x : List NIt × List NIt) (c : NCh) : (stepAll x c).1.length + (stepAll x c).2.length ≤ x.1.length + x.2.length + 1 := by
  have h1 := front_le c.k x.1
  have h2 := passed_le c.k (x.1.drop (front c.k x.1))
  have h3 : (putsCh c).length ≤ 1 := by unfold putsCh; split <;> simp
  unfold stepAll step3 step2 step1
  simp only [List.length_append, List.length_take, List.length_drop] at h2 ⊢
  omega
theorem fold_len : ∀ (l : List NCh) (x : List NIt × List NIt), (l.foldl stepAll x).1.length + (l.foldl stepAll x).2.length ≤ x.1.length + x.2.length + l.length
  | [], x => Nat.le_refl _
  | c :: l, x => by
    have h1 := fold_len l (stepAll x c)
    have h2 := stepAll_len x c
    rw [List.foldl_cons, List.length_cons]
    omega
/-- How many keys are below. -/
def belowN (k : List Nat) (l : List NIt) : Nat := l.countP (isAb k)
end Go.By

