/- Keys: names, numbers, their order. Plain. -/
import Derived.Test.YtajfcnaifegonaaMSlA
import Derived.Lib.Bytes
namespace Go.By
open Go
def natsOf (s : ByteArray) : List Nat := s.toList.map UInt8.toNat
theorem natsOf_length (s : ByteArray) : (natsOf s).length = s.size := by
  unfold natsOf
  rw [List.length_map, Lib.toList_data]
  rfl
theorem strOf_toList (l : List Nat) : (strOf l).toList = l.map UInt8.ofNat := by
  unfold strOf
  rw [Lib.strOfNums_toList, Lib.bytesOf, List.map_map]
  rfl
theorem natsOf_strOf {l : List Nat} (h : ∀ c ∈ l, c < 256) : natsOf (strOf l) = l := by
  unfold natsOf
  rw [strOf_toList, List.map_map]
  conv => rhs; rw [← List.map_id l]
  apply List.map_congr_left
  intro c hc
  have := h c hc
  simp
  omega
theorem strOf_natsOf (s : ByteArray) : strOf (natsOf s) = s := by
  have h : (strOf (natsOf s)).toList = s.toList := by
    rw [strOf_toList]
    unfold natsOf
    rw [List.map_map]
    conv => rhs; rw [← List.map_id s.toList]
    apply List.map_congr_left
    intro x _
    simp
  rw [Lib.toList_data, Lib.toList_data] at h
  have h2 := Array.toList_inj.1 h
  cases s
  cases hs : strOf (natsOf _)
  simp_all
theorem natsOf_inj {s t : ByteArray} (h : natsOf s = natsOf t) : s = t := by
  rw [← strOf_natsOf s, ← strOf_natsOf t, h]
def lessN : List Nat → List Nat → Bool
  | _, [] => false
  | [], _ :: _ => true
  | a :: x, b :: y => decide (a < b) || (decide (a = b) && lessN x y)
theorem less_nats : ∀ (x y : List UInt8), Op.bytesLess x y = lessN (x.map UInt8.toNat) (y.map UInt8.toNat)
  | [], [] => rfl
  | _ :: _, [] => rfl
  | [], _ :: _ => rfl
  | a :: x, b :: y => by
    rw [Op.bytesLess, less_nats x y]
    show _ = (decide (a.toNat < b.toNat) || (decide (a.toNat = b.toNat) && lessN (x.map UInt8.toNat) (y.map UInt8.toNat)))
    have e1 : decide (a < b) = decide (a.toNat < b.toNat) := decide_eq_decide.2 UInt8.lt_iff_toNat_lt
    have e2 : (a == b) = decide (a.toNat = b.toNat) := by
      rw [Bool.eq_iff_iff, beq_iff_eq, decide_eq_true_eq]
      exact UInt8.toNat_inj.symm
    rw [e1, e2]
theorem less_str (a b : ByteArray) : Op.bytesLess a.toList b.toList = lessN (natsOf a) (natsOf b) := less_nats _ _
theorem eq_str (a b : ByteArray) : (a.toList == b.toList) = decide (natsOf a = natsOf b) := by
  rw [Bool.eq_iff_iff, beq_iff_eq, decide_eq_true_eq]
  constructor
  · intro h; unfold natsOf; rw [h]
  · intro h; rw [natsOf_inj h]
theorem lessN_irrefl : ∀ x : List Nat, lessN x x = false
  | [] => rfl
  | a :: x => by simp [lessN, lessN_irrefl x]
theorem lessN_append : ∀ (x y p q : List Nat), x.length = y.length → lessN (x ++ p) (y ++ q) = (lessN x y || (decide (x = y) && lessN p q))
  | [], [], p, q, _ => by simp [lessN]
  | a :: x, b :: y, p, q, h => by
    simp only [List.length_cons, Nat.succ.injEq] at h
    simp only [List.cons_append, lessN, lessN_append x y p q h, List.cons.injEq]
    by_cases h1 : a < b <;> by_cases h2 : a = b <;> simp [h1, h2]
  | [], _ :: _, _, _, h => by simp at h
  | _ :: _, [], _, _, h => by simp at h
theorem lessN_high : ∀ (k n m : Nat), n < 256 ^ k → m < 256 ^ k → lessN (highOf n k) (highOf m k) = decide (n < m)
  | 0, n, m, hn, hm => by
    simp at hn hm
    subst hn hm
    rfl
  | k + 1, n, m, hn, hm => by
    rw [Nat.pow_succ] at hn hm
    have h1 := lessN_high k (n / 256) (m / 256) (by omega) (by omega)
    rw [highOf, highOf, lessN_append _ _ _ _ (by rw [highOf_length, highOf_length]), h1]
    have hinj : highOf (n / 256) k = highOf (m / 256) k ↔ n / 256 = m / 256 := by
      constructor
      · intro h
        have a := numOf_high k (n / 256) (by omega)
        have b := numOf_high k (m / 256) (by omega)
        rw [← a, ← b, h]
      · intro h; rw [h]
    have h2 : lessN [n % 256] [m % 256] = decide (n % 256 < m % 256) := by simp [lessN]
    rw [h2, Bool.eq_iff_iff]
    simp only [Bool.or_eq_true, Bool.and_eq_true, decide_eq_true_eq, hinj]
    omega
theorem lessN_nil_right (x : List Nat) : lessN x [] = false := by cases x <;> rfl
end Go.By
/- Events as rows of bytes: what is put, how it is read on. Plain. -/
namespace Go.By
open Go
structure Ev where
  seq : Int
  ver : Int
  st : List Nat
  ty : List Nat
  da : List Nat
deriving DecidableEq
def txt (l : List Nat) : List Nat := l.length :: l
theorem txt_length (l : List Nat) : (txt l).length = l.length + 1 := rfl
structure EvFine (e : Ev) : Prop where
  seq : e.seq ≤ 9223372036854775807
  ver : e.ver ≤ 9223372036854775807
  st : ∀ c ∈ e.st, c < 256
  ty : ∀ c ∈ e.ty, c < 256
  da : ∀ c ∈ e.da, c < 256
def rdTake (n : Nat) : Option (List Nat) → List Nat × Option (List Nat)
  | none => ([], none)
  | some l => if n ≤ l.length then (l.take n, some (l.drop n)) else ([], none)
def rdText (s : Option (List Nat)) : List Nat × Option (List Nat) := rdTake (numOf (rdTake 1 s).1) (rdTake 1 s).2
structure EvRd where
  a : List Nat
  b : List Nat
  c : List Nat
  d : List Nat
  e : List Nat
  s : Option (List Nat)
theorem wrap64_nat {n : Nat} (h : n ≤ 9223372036854775807) : RowKit.wrap64 (n : Nat) = n := by unfold RowKit.wrap64; omega
end Go.By
/- Heads, ids' answers, marks and places as rows of bytes. Plain. -/
namespace Go.By
open Go
structure Hd where
  nx : Int
  fi : Int
  tb : Bool
deriving DecidableEq
structure Dn where
  fi : Int
  ct : Int
  ag : Bool
deriving DecidableEq
structure Mk where
  at_ : Int
  da : List Nat
deriving DecidableEq
end Go.By
