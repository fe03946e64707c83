/- What is left of bytes behind a crash: where nothing was laid again, the byte is the one that lasted; never fewer. Lists only. -/
import Derived.Test.YtajfcnaifegonaaMFlA
namespace Go.Proofs.Ytajfcnaifegonaa
open Go Go.By
theorem atB_getD (l : List Nat) (i : Nat) : atB l i = (l[i]?).getD 0 := by
  unfold atB; rw [List.getD_eq_getElem?_getD]
theorem atB_fit {l : List Nat} {n : Nat} (h : l.length ≤ n) (i : Nat) : atB (fitL l n) i = atB l i := by
  rw [fitL_more h, atB_getD, atB_getD, List.getElem?_append]
  split
  · rfl
  · rename_i hi
    rw [List.getElem?_replicate, List.getElem?_eq_none (by omega)]
    split <;> rfl
theorem atB_over {l p : List Nat} {off : Nat} (h : off + p.length ≤ l.length) (i : Nat) : atB (overL l off p) i = if off ≤ i ∧ i < off + p.length then atB p (i - off) else atB l i := by
  unfold overL
  rw [atB_getD, atB_getD, atB_getD, List.getElem?_append]
  have ht : (l.take off).length = off := by simp; omega
  rw [ht]
  by_cases h1 : i < off
  · rw [if_pos h1, if_neg (by omega), List.getElem?_take, if_pos h1]
  · rw [if_neg h1, List.getElem?_append]
    by_cases h2 : i - off < p.length
    · rw [if_pos h2, if_pos (by omega)]
    · rw [if_neg h2, if_neg (by omega), List.getElem?_drop]
      congr 2; omega
theorem atB_put {l p : List Nat} {off : Nat} (i : Nat) : atB (putL l off p) i = if off ≤ i ∧ i < off + p.length then atB p (i - off) else atB l i := by
  unfold putL
  by_cases h : l.length < off + p.length
  · rw [if_pos h, atB_over (by rw [fitL_length]; exact Nat.le_refl _), atB_fit (by omega)]
  · rw [if_neg h, atB_over (by omega)]
theorem piece_length {off : Nat} {b : List Nat} {at_ : Nat} (_h : at_ < b.length) : ((b.drop at_).take (pieceLen off b.length at_)).length = pieceLen off b.length at_ := by
  rw [List.length_take, List.length_drop]
  have := pieceLen_le off b.length at_
  omega
theorem redoWrite_all {off : Nat} {b : List Nat} : ∀ (fuel at_ i : Nat) (l : List Nat), b.length ≤ at_ + fuel → at_ < b.length →
    (∀ k, atB (redoWrite off b allBits fuel at_ i l).1 k = if off + at_ ≤ k ∧ k < off + b.length then atB b (k - off) else atB l k) ∧ (redoWrite off b allBits fuel at_ i l).1.length = max l.length (off + b.length)
  | 0, at_, i, l, hf, ha => by omega
  | fuel + 1, at_, i, l, hf, ha => by
    unfold redoWrite
    rw [if_pos ha]
    have hp := piece_length (off := off) ha
    have hle := pieceLen_le off b.length at_
    have hpos := pieceLen_pos (off := off) ha
    have hb : allBits i = true := rfl
    simp only [hb, if_true]
    have hput : ∀ k, atB (putL l (off + at_) ((b.drop at_).take (pieceLen off b.length at_))) k = if off + at_ ≤ k ∧ k < off + at_ + pieceLen off b.length at_ then atB b (k - off) else atB l k := fun k => by
      rw [atB_put, hp]
      split
      · rename_i hk
        rw [atB_take (by omega), atB_getD, atB_getD, List.getElem?_drop]
        congr 2; omega
      · rfl
    by_cases hn : at_ + pieceLen off b.length at_ < b.length
    · obtain ⟨h1, h2⟩ := redoWrite_all (off := off) (b := b) fuel (at_ + pieceLen off b.length at_) (i + 1) (putL l (off + at_) ((b.drop at_).take (pieceLen off b.length at_))) (by omega) hn
      refine ⟨fun k => ?_, by rw [h2, putL_length, hp]; omega⟩
      rw [h1 k, hput k]
      by_cases hk : off + (at_ + pieceLen off b.length at_) ≤ k ∧ k < off + b.length
      · rw [if_pos hk, if_pos (by omega)]
      · rw [if_neg hk]
        by_cases hk2 : off + at_ ≤ k ∧ k < off + at_ + pieceLen off b.length at_
        · rw [if_pos hk2, if_pos (by omega)]
        · rw [if_neg hk2, if_neg (by omega)]
    · have he : at_ + pieceLen off b.length at_ = b.length := by omega
      have hstop : redoWrite off b allBits fuel (at_ + pieceLen off b.length at_) (i + 1) (putL l (off + at_) ((b.drop at_).take (pieceLen off b.length at_))) = (putL l (off + at_) ((b.drop at_).take (pieceLen off b.length at_)), i + 1) := by
        cases fuel with
        | zero => rfl
        | succ f => unfold redoWrite; rw [if_neg hn]
      rw [hstop]
      refine ⟨fun k => ?_, by show (putL _ _ _).length = _; rw [putL_length, hp]; omega⟩
      show atB (putL _ _ _) k = _
      rw [hput k]
      by_cases hk2 : off + at_ ≤ k ∧ k < off + b.length
      · rw [if_pos (by omega), if_pos hk2]
      · rw [if_neg (by omega), if_neg hk2]
theorem redoOps_append (bit : Nat → Bool) : ∀ (a b : List ByteOp) (i : Nat) (l : List Nat), redoOps bit (a ++ b) i l = redoOps bit b (redoOps bit a i l).2 (redoOps bit a i l).1
  | [], _, _, _ => rfl
  | _o :: a, b, _i, _l => redoOps_append bit a b _ _
end Go.Proofs.Ytajfcnaifegonaa
