/- The document's keys: what a pair was made of. -/
import Derived.Test.YtoegkdfeonkgkaaRefL
namespace Go.Proofs.Ytoegkdfeonkgkaa
open Go Go.RowKit Go.By

/-- b[i:]. -/
theorem tail_run {w : World} {p : Option Addr} {cap : Nat} {l : List Nat} (h : Bytes w (.slice p l.length cap) l) (i : Nat) (I : Int) (hI : I = i) (hi : i ≤ l.length) :
    ∃ q c, (∀ w0 : World, (Instr.slice 26 (.slice p l.length cap) (some (.int .i64 I)) none none).run Try.prog w0 = .ok (.slice q (l.length - i) c) w0) ∧ Bytes w (.slice q (l.length - i) c) (l.drop i) := by
  subst hI
  obtain ⟨q, c, hr, hq⟩ := piece_run h i (l.length - i) (by omega)
  have hcap := h.room.2
  refine ⟨q, c, fun w0 => ?_, ?_⟩
  · rw [← hr w0, run_slice_l (P := Try.prog) w0 26 p l.length cap (by kernel_rfl) .i64 (i : Int) (by omega) (by omega),
      run_slice_lh (P := Try.prog) w0 26 p l.length cap (by kernel_rfl) .i64 .i64 (i : Int) ((i : Int) + ((l.length - i : Nat) : Int)) (by omega) (by omega) (by omega)]
    have e : ((i : Int) + ((l.length - i : Nat) : Int)).toNat = l.length := by omega
    rw [e]
  · have e : pc l i (l.length - i) = l.drop i := by
      unfold pc
      rw [List.take_of_length_le (by rw [List.length_drop]; omega)]
    rw [← e]; exact hq

def pkName (l : List Nat) : ByteArray := if isPair l = true then strOf (l.take (l.length - 9)) else ByteArray.empty
def pkNum (l : List Nat) : Nat := if isPair l = true then numOf (l.drop (l.length - 8)) else 0

theorem isPair_short {l : List Nat} (h : l.length < 10) : isPair l = false := by
  unfold isPair
  rw [decide_eq_false (by omega)]; rfl

end Go.Proofs.Ytoegkdfeonkgkaa

