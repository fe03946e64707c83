/- slot: a number is put; a slot is put. -/
import Derived.Test.YtjkbhlfgkpopdaaSlC
namespace Go.Proofs.Ytjkbhlfgkpopdaa
open Go Go.RowKit Go.By

theorem splice_length {L X : List Nat} {i : Nat} (h : i + X.length ≤ L.length) : (splice L i X).length = L.length := length_splice L i X h
theorem splice_mid {A M C X : List Nat} {i : Nat} (hA : A.length = i) (hM : M.length = X.length) : splice (A ++ (M ++ C)) i X = A ++ (X ++ C) := by
  subst hA
  unfold splice
  rw [← hM]
  simp
theorem splice_set {L X : List Nat} {i c : Nat} (h : i + 1 + X.length ≤ L.length) : (splice L (i + 1) X).set i c = splice L i (c :: X) := by
  unfold splice
  rw [List.set_append_left _ _ (by simp; omega), List.take_succ_eq_append_getElem (by omega), List.set_append_right _ _ (by simp; omega)]
  simp [Nat.min_eq_left (by omega : i ≤ L.length)]
  congr 1
  omega

theorem tup_none : (Value.tuple #[]) = .tuple #[] := rfl

set_option maxRecDepth 100000 in
theorem putNumber_any (w0 w : World) (L : List Nat) (off n c v : Nat) (h : Filled w0 w L) (ho : off + n ≤ L.length) (hn : n ≤ 8) (hv : v < 18446744073709551616) :
    Calls Try.prog 16 #[.slice (some ⟨w0.heap.size, off, none⟩) n c, .int .u64 v] w fun e w' => e = .returned (.tuple #[]) ∧ Filled w0 w' (splice L off (highOf v n)) := by
  have H := Lib.hid h
  have hv' : (v : Int) < 18446744073709551616 := by omega
  clear h
  go_enter Try.func16, Try.ntmps16
  go_wp2
  go_loopw [7] (fun i wr => ∃ k : Nat, k ≤ n ∧ i = .int .i64 k ∧ Filled w0 wr (splice L (off + (n - k)) (highOf v k))) (fun i _ => n - (intOf i).toNat)
  case atStart =>
    refine ⟨0, by omega, rfl, ?_⟩
    have e : splice L (off + (n - 0)) (highOf v 0) = L := by simp [splice, highOf]
    rw [e]; exact H.out
  case round =>
    clear H
    obtain ⟨k, hk, rfl, hF⟩ := hrel
    by_cases hlt : k < n
    · obtain ⟨j, hj⟩ : ∃ j, j = n - 1 - k := ⟨_, rfl⟩
      have hj1 : (n : Int) - 1 - (k : Int) = j := by omega
      have hlen : (splice L (off + (n - k)) (highOf v k)).length = L.length := splice_length (by rw [highOf_length]; omega)
      have hc := hF.cell (i := off + j) (by rw [hlen]; omega)
      have hf := hF.free (off + j)
      have hset := hF.set (off + j) (v / 256 ^ k % 256)
      have e1 : off + (n - k) = off + j + 1 := by omega
      have e2 : off + (n - (k + 1)) = off + j := by omega
      rw [e1, splice_set (by rw [highOf_length]; omega), ← highOf_cons, ← e2] at hset
      have HS := Lib.hid hset
      have hsh : (v : Int) / 2 ^ (8 * (k : Int)).toNat = ((v / 256 ^ k : Nat) : Int) := by
        have : (8 * (k : Int)).toNat = 8 * k := by omega
        rw [this, show 256 ^ k = 2 ^ (8 * k) by rw [Nat.pow_mul], Int.natCast_ediv, Int.natCast_pow]
        rfl
      have hvk : v / 256 ^ k < 18446744073709551616 := Nat.lt_of_le_of_lt (Nat.div_le_self _ _) hv
      generalize v / 256 ^ k = x at *
      have hjl : (j : Int) < n := by omega
      have E2 := Lib.hid e2
      clear hset hF e1 e2 hlen hj hvk
      go_wp2
      go_roundw
      case rel => exact ⟨k + 1, by omega, by go_num, by have := HS.out; rw [E2.out] at this ⊢; exact this⟩
      case measure => simp [intOf]; omega
    · obtain rfl : k = n := by omega
      rw [Nat.sub_self, Nat.add_zero] at hF
      have HF := Lib.hid hF; clear hF
      go_wp2
      go_returns
      exact ⟨rfl, HF.out⟩
end Go.Proofs.Ytjkbhlfgkpopdaa
