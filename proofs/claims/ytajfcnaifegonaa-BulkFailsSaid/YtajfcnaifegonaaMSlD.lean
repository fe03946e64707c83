/- slot: what a sector's parts say. -/
import Derived.Test.YtajfcnaifegonaaMSlB
import Derived.Lib.Bytes
namespace Go.Proofs.Ytajfcnaifegonaa.Sl
open Go Go.RowKit Go.By
theorem piece_at {w : World} {b off cap : Nat} {l : List Nat} (h : Bytes w (.slice (some ⟨b, off, none⟩) l.length cap) l) (i n c : Nat) (hn : i + n ≤ l.length) (hc : n ≤ c) : Bytes w (.slice (some ⟨b, off + i, none⟩) n c) (pc l i n) where
  out := by
    have hpl := pc_length hn
    refine .inr <| .inr ⟨b, off + i, c, by rw [hpl], by rw [hpl]; exact hc, fun j hj => ?_⟩
    rw [hpl] at hj
    obtain ⟨b', o', h1, h2⟩ := h.spot (i + j) (by omega)
    simp only [Option.some.injEq, Addr.mk.injEq, and_true] at h1
    obtain ⟨rfl, rfl⟩ := h1
    rw [Nat.add_assoc, h2, pc_at hj]
  small := pc_small h.small
  short := by rw [pc_length hn]; have := h.short; omega
def Sec (w : World) (b off cap : Nat) (l : List Nat) : Prop := Bytes w (.slice (some ⟨b, off, none⟩) 128 cap) l ∧ l.length = 128
theorem Sec.cap {w : World} {b off cap : Nat} {l : List Nat} (h : Sec w b off cap l) : 128 ≤ cap := h.1.room.2
theorem Sec.full {w : World} {b off cap : Nat} {l : List Nat} (h : Sec w b off cap l) : Bytes w (.slice (some ⟨b, off, none⟩) l.length cap) l := by
  have := h.1
  rw [h.2]; exact this
theorem Sec.piece {w : World} {b off cap : Nat} {l : List Nat} (h : Sec w b off cap l) (i n c : Nat) (hn : i + n ≤ 128) (hc : n ≤ c) : Bytes w (.slice (some ⟨b, off + i, none⟩) n c) (pc l i n) := piece_at h.full i n c (by rw [h.2]; exact hn) hc
theorem Sec.below {w w' : World} {b off cap : Nat} {l : List Nat} (h : Sec w b off cap l) (hb : Below w.heap.size w w') : Sec w' b off cap l := ⟨h.1.below hb, h.2⟩
end Go.Proofs.Ytajfcnaifegonaa.Sl
/- slot: a number is put; a slot is put. -/
namespace Go.Proofs.Ytajfcnaifegonaa.Sl
open Go Go.RowKit Go.By
end Go.Proofs.Ytajfcnaifegonaa.Sl
