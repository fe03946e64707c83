/- What the law KeyOrder rests on: how keys stand to each other. -/
import Derived.Test.YtfebdgnojacoiaaKeyG
import Derived.Test.YtfebdgnojacoiaaReg
namespace Go.Proofs.Ytfebdgnojacoiaa
open Go Go.RowKit Go.By

theorem pairK_yes {l : List Nat} {n : Int} (hl : mayNm l = true) (hn : 0 ≤ n) : pairK l n = pairOf l n.toNat := by unfold pairK; rw [if_pos ⟨hl, hn⟩]
theorem seqK_yes {n : Int} (hn : 0 ≤ n) : seqK n = highOf n.toNat 8 := by unfold seqK; rw [if_pos hn]
theorem order_pair {a b : ByteArray} {n m : Int} (hma : mayNm (natsOf a) = true) (hmb : mayNm (natsOf b) = true) (hn0 : 0 ≤ n) (hm0 : 0 ≤ m) (hn : n ≤ 9223372036854775807) (hm : m ≤ 9223372036854775807) :
    Op.bytesLess (strOf (pairK (natsOf a) n)).toList (strOf (pairK (natsOf b) m)).toList = (Op.bytesLess a.toList b.toList || ((a.toList == b.toList) && decide (n < m))) := by
  rw [less_str, less_str, eq_str, natsOf_strOf pairK_small, natsOf_strOf pairK_small, pairK_yes hma hn0, pairK_yes hmb hm0, pair_less hma hmb (by omega) (by omega)]
  congr 2
  exact decide_eq_decide.2 (by omega)
theorem order_pair_eq {a b : ByteArray} {n m : Int} (hma : mayNm (natsOf a) = true) (hmb : mayNm (natsOf b) = true) (hn0 : 0 ≤ n) (hm0 : 0 ≤ m) (hn : n ≤ 9223372036854775807) (hm : m ≤ 9223372036854775807) :
    ((strOf (pairK (natsOf a) n)).toList == (strOf (pairK (natsOf b) m)).toList) = ((a.toList == b.toList) && decide (n = m)) := by
  rw [eq_str, eq_str, natsOf_strOf pairK_small, natsOf_strOf pairK_small, pairK_yes hma hn0, pairK_yes hmb hm0, Bool.eq_iff_iff, decide_eq_true_eq, Bool.and_eq_true, decide_eq_true_eq, decide_eq_true_eq, pair_inj (by omega) (by omega)]
  constructor
  · rintro ⟨h1, h2⟩; exact ⟨h1, by omega⟩
  · rintro ⟨h1, h2⟩; exact ⟨h1, by omega⟩
theorem order_seq {n m : Int} (hn0 : 0 ≤ n) (hm0 : 0 ≤ m) (hn : n ≤ 9223372036854775807) (hm : m ≤ 9223372036854775807) :
    Op.bytesLess (strOf (seqK n)).toList (strOf (seqK m)).toList = decide (n < m) := by
  rw [less_str, natsOf_strOf seqK_small, natsOf_strOf seqK_small, seqK_yes hn0, seqK_yes hm0, lessN_high 8 _ _ (by omega) (by omega)]
  exact decide_eq_decide.2 (by omega)
theorem i64_of_wf {a : Int} (h : (Lit.int .i64 a).wf = true) : a ≤ 9223372036854775807 := by
  have h' : -9223372036854775808 ≤ a ∧ a ≤ 9223372036854775807 := by simpa [Lit.wf, IntKind.min, IntKind.max, IntKind.signed, IntKind.bits] using h
  exact h'.2
theorem strOf_size (l : List Nat) : (strOf l).size = l.length := by
  have h := strOf_toList l
  rw [Lib.toList_data] at h
  have h2 := congrArg List.length h
  rw [List.length_map] at h2
  exact h2
theorem order_size {a : ByteArray} {n : Int} (hma : mayNm (natsOf a) = true) (hn0 : 0 ≤ n) : ((strOf (pairK (natsOf a) n)).size : Int) = (a.size : Int) + 9 := by
  rw [strOf_size, pairK_yes hma hn0, pairOf_length, natsOf_length]; rfl
end Go.Proofs.Ytfebdgnojacoiaa

