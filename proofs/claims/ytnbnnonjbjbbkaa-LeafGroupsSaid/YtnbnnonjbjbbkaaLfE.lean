/- Rows of items in a program: Find. -/
import Derived.Test.YtnbnnonjbjbbkaaLfA
namespace Go.By
open Go Go.RowKit
theorem belowN_le (k : List Nat) (l : List NIt) : belowN k l ≤ l.length := List.countP_le_length
theorem belowN_next {k : List Nat} {l : List NIt} {n : Nat} (h : n < l.length) : belowN k (l.take (n + 1)) = belowN k (l.take n) + (if isAb k l[n] = true then 1 else 0) := by
  unfold belowN
  rw [List.take_succ_eq_append_getElem h, List.countP_append, List.countP_singleton]
/-- Is the key that of the item there? -/
def isThere (k : List Nat) (l : List NIt) : Bool := match l[belowN k l]? with
  | some i => decide (k = i.k)
  | none => false
theorem isThere_at {k : List Nat} {l : List NIt} (h : belowN k l < l.length) : isThere k l = decide (k = l[belowN k l].k) := by
  unfold isThere
  rw [List.getElem?_eq_getElem h]
theorem isThere_none {k : List Nat} {l : List NIt} (h : ¬ belowN k l < l.length) : isThere k l = false := by
  unfold isThere
  rw [List.getElem?_eq_none (by omega)]
end Go.By
namespace Go.Proofs.Ytnbnnonjbjbbkaa
open Go Go.RowKit Go.By

def CntRel (w : World) (k : List Nat) (its : List NIt) (n i : Value) (W : World) : Prop :=
  ∃ j : Nat, j ≤ its.length ∧ i = .int .i64 j ∧ n = .int .i64 (belowN k (its.take j) : Nat) ∧ Below w.heap.size w W

set_option maxRecDepth 100000 in
theorem count_any (p : Option Addr) (cap : Nat) (its : List NIt) (kv : Value) (k : List Nat) (w : World) (hi : RowAt KItem w p cap its) (hk : Bytes w kv k) :
    Calls Try.prog 16 #[.slice p its.length cap, .func (.func 17) #[kv] #[]] w fun e w' => e = .returned (.int .i64 (belowN k its : Nat)) ∧ Below w.heap.size w w' := by
  have H0 : Hid (CntRel w k its (.int .i64 (0 : Nat)) (.int .i64 (0 : Nat)) w) := ⟨0, Nat.zero_le _, rfl, rfl, Below.refl _ _⟩
  have HI := Lib.hid hi
  have HK := Lib.hid hk
  have hN9 : (its.length : Int) ≤ 9223372036854775807 := by have := hi.le; have := hi.most; unfold maxLen at this; omega
  obtain ⟨N, hN⟩ : ∃ N, N = its.length := ⟨_, rfl⟩
  have HN := Lib.hid hN
  rw [← hN] at hN9 ⊢
  clear hi hk hN
  obtain ⟨qv, cv, rfl, -⟩ := HK.out.any
  generalize hl1 : k.length = l1 at *
  go_enter Try.func16, Try.ntmps16
  go_wp2
  go_loopw [4, 9] (fun n i W => CntRel w k its n i W) (fun _ i _ => N - (intOf i).toNat)
  case atStart => exact H0.out
  case round =>
    clear H0
    obtain ⟨j, hj, rfl, rfl, hb⟩ := hrel
    by_cases hlt : j < N
    · have hjl : j < its.length := by rw [← HN.out]; exact hlt
      obtain ⟨lb, lo, cs, rfl, hcs, a, b, rfl, ha, hbv⟩ := HI.out.at_ j hjl
      obtain ⟨e0, e1⟩ := (hcs.below hb).two
      simp only [KItem] at e0 e1
      have hnx := belowN_next (k := k) hjl
      have hle := belowN_le k (its.take j)
      have hle2 : (its.take j).length ≤ N := by rw [List.length_take]; omega
      have hb2 : Below w.heap.size w (wr.alloc (.cells #[a, b] 36)) := hb.alloc hb.size _
      have HC := Lib.hid (isAbove_any _ a b k its[j] _ (HK.out.below hb2) (ha.below hb2) (hbv.below hb2))
      have HNX : Hid (∀ W, Below wr.heap.size wr W → CntRel w k its (.int .i64 (belowN k (its.take (j + 1)) : Nat)) (.int .i64 (j + 1 : Nat)) W) := fun W hW => ⟨j + 1, hjl, rfl, rfl, hb.trans (hW.mono hb.size)⟩
      have HBB : Hid (Below wr.heap.size wr ((wr.alloc (.cells #[a, b] 36)).alloc (.cells #[a, b] 36))) := ((Below.refl _ _).alloc (Nat.le_refl _) _).alloc (by simp) _
      obtain ⟨qa, ca, rfl, -⟩ := ha.any
      obtain ⟨qb, cb, rfl, -⟩ := hbv.any
      rw [hnx] at HNX
      have hS9 : (belowN k (its.take j) : Int) ≤ 9223372036854775800 + 7 := by omega
      have hS8 : (belowN k (its.take j) : Int) ≤ j := by
        have : (its.take j).length ≤ j := List.length_take_le _ _
        omega
      have HLT := Lib.hid hlt
      generalize isAb k its[j] = t at *
      generalize its[j].k.length = l3 at *
      generalize its[j].v.length = l4 at *
      generalize belowN k (its.take j) = S at *
      clear ha hbv hcs hb hb2 hnx hle hle2 hjl hS9
      go_wp2_with fail
      refine HC.out.mono ?_
      rintro e w2 ⟨rfl, rfl⟩
      cases t with
      | true =>
        have HR := Lib.hid (HNX.out _ HBB.out)
        clear HC HNX HBB
        go_wp2
        go_roundw
        case rel => exact HR.out
        case measure => simp [intOf]; have := HLT.out; omega
      | false =>
        have HR := Lib.hid (HNX.out _ HBB.out)
        clear HC HNX HBB
        go_wp2
        go_roundw
        case rel => exact HR.out
        case measure => simp [intOf]; have := HLT.out; omega
    · obtain rfl : j = N := by have := HN.out; omega
      rw [List.take_of_length_le (by rw [← HN.out]; exact Nat.le_refl _)]
      have HB := Lib.hid hb
      clear hb
      go_wp2
      go_ret
      exact ⟨rfl, HB.out⟩

set_option maxRecDepth 100000 in
theorem find_any (p : Option Addr) (cap : Nat) (its : List NIt) (kv : Value) (k : List Nat) (w : World) (hi : RowAt KItem w p cap its) (hk : Bytes w kv k) :
    Calls Try.prog 9 #[.slice p its.length cap, kv] w fun e w' => e = .returned (.tuple #[.int .i64 (belowN k its : Nat), .bool (isThere k its)]) ∧ Below w.heap.size w w' := by
  have HC := Lib.hid (count_any p cap its kv k w hi hk)
  have hN9 : (its.length : Int) ≤ 9223372036854775807 := by have := hi.le; have := hi.most; unfold maxLen at this; omega
  have hle := belowN_le k its
  obtain ⟨qv, cv, rfl, -⟩ := hk.any
  by_cases hlt : belowN k its < its.length
  · obtain ⟨lb, lo, cs, rfl, hcs, a, b, rfl, ha, hbv⟩ := hi.at_ _ hlt
    have HE := Lib.hid (isThere_at hlt)
    have HF : Hid (∀ W, Below w.heap.size w W → Calls Try.prog 18 #[.slice qv k.length cv, .agg #[a, b]] W fun e w' => e = .returned (.bool (isThere k its)) ∧ w' = W.alloc (.cells #[a, b] 36)) := fun W hW => by
      rw [HE.out]
      exact isOf_any _ a b k its[belowN k its] W (hk.below hW) (ha.below hW) (hbv.below hW)
    have HCS := Lib.hid hcs
    obtain ⟨qa, ca, rfl, -⟩ := ha.any
    obtain ⟨qb, cb, rfl, -⟩ := hbv.any
    have hltI : (belowN k its : Int) < its.length := by omega
    clear hi hk ha hbv hcs HE
    generalize isThere k its = t at *
    generalize its[belowN k its].k.length = l3 at *
    generalize its[belowN k its].v.length = l4 at *
    generalize belowN k its = S at *
    generalize its.length = N at *
    generalize k.length = l1 at *
    clear hle
    go_enter Try.func9, Try.ntmps9
    go_wp2_with fail
    refine HC.out.mono ?_
    rintro e w2 ⟨rfl, hb2⟩
    obtain ⟨e0, e1⟩ := (HCS.out.below hb2).two
    simp only [KItem] at e0 e1
    have HD := Lib.hid (HF.out w2 hb2)
    have HB := Lib.hid (hb2.alloc hb2.size (.cells #[.slice qa l3 ca, .slice qb l4 cb] 36))
    clear hb2 HF HC
    go_wp2_with fail
    refine HD.out.mono ?_
    rintro e w3 ⟨rfl, rfl⟩
    clear HD
    go_wp2
    go_ret2
    exact ⟨rfl, HB.out⟩
  · have HE := Lib.hid (isThere_none hlt)
    have hltI : (its.length : Int) ≤ belowN k its := by omega
    generalize isThere k its = t at *
    generalize belowN k its = S at *
    generalize its.length = N at *
    generalize k.length = l1 at *
    clear hi hk hle
    go_enter Try.func9, Try.ntmps9
    go_wp2_with fail
    refine HC.out.mono ?_
    rintro e w2 ⟨rfl, hb2⟩
    have HB := Lib.hid hb2
    clear hb2 HC
    go_wp2
    go_ret2
    exact ⟨by rw [HE.out]; rfl, HB.out⟩
end Go.Proofs.Ytnbnnonjbjbbkaa

