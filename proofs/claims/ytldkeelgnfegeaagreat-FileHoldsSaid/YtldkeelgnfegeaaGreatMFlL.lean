/- What a crash leaves of the bytes of a file. Plain. -/
import Derived.Test.YtldkeelgnfegeaaGreatMFlI

namespace Go.Proofs.YtldkeelgnfegeaaGreat
open Go Go.RowKit Go.By

/-- Where all that was laid by is written behind the bytes that last, these stand at the front. -/
theorem left_front {bit : Nat → Bool} {K0 : List Nat} {ws : List (Nat × List Nat)} {m : Nat} (h : ∀ p ∈ ws, K0.length ≤ p.1) (hm : ∀ p ∈ ws, p.1 + p.2.length ≤ m) (j : Nat) :
    (∃ Y, (redoOps bit (writeOps ws) j K0).1 = K0 ++ Y) ∧ (redoOps bit (writeOps ws) j K0).1.length ≤ max K0.length m := by
  obtain ⟨h1, h2, h3⟩ := redoOps_out (bit := bit) ws j K0 hm
  generalize (redoOps bit (writeOps ws) j K0).1 = S at *
  refine ⟨⟨S.drop K0.length, ?_⟩, h3⟩
  have : S.take K0.length = K0 := by
    refine ext_at (by simp; omega) fun k hk => ?_
    have hk' : k < K0.length := by simp at hk; omega
    rw [atB_take hk', h1 k (fun ⟨p, hp, q1, _⟩ => by have := h p hp; omega)]
  calc S = S.take K0.length ++ S.drop K0.length := (List.take_append_drop _ _).symm
    _ = K0 ++ S.drop K0.length := by rw [this]
theorem writeOps_snoc (ws : List (Nat × List Nat)) (off : Nat) (b : List Nat) : writeOps ws ++ [.write off b] = writeOps (ws ++ [(off, b)]) := by simp [writeOps]

/-- A sector is written, or not. -/
theorem redo_sector {off : Nat} {b : List Nat} {bit : Nat → Bool} (hb : b.length = 128) (ho : off % 128 = 0) (i : Nat) (l : List Nat) : (redoWrite off b bit b.length 0 i l).1 = if bit i then nextK l off b else l := by
  have hp : pieceLen off b.length 0 = 128 := by
    unfold pieceLen
    omega
  have h1 : ∀ (bit : Nat → Bool) i l, (redoWrite off b bit b.length 0 i l).1 = if bit i then putL l (off + 0) ((b.drop 0).take 128) else l := by
    intro bit i l
    rw [hb]
    unfold redoWrite
    rw [if_pos (by omega), ← hb, hp, hb]
    unfold redoWrite
    rw [if_neg (by omega)]
  rw [h1]
  have h2 : nextK l off b = putL l (off + 0) ((b.drop 0).take 128) := by
    unfold nextK
    rw [h1, if_pos (show allBits 0 = true from rfl)]
  rw [h2]
end Go.Proofs.YtldkeelgnfegeaaGreat
