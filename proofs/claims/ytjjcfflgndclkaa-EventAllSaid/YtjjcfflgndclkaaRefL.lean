/- The document's keys: streams, types, numbers, letters. -/
import Derived.Test.YtjjcfflgndclkaaRefK
namespace Go.Proofs.Ytjjcfflgndclkaa
open Go Go.RowKit Go.By

/-- A number of eight bytes: or nothing. -/
def seqK (n : Int) : List Nat := if 0 ≤ n then highOf n.toNat 8 else []

/-- A letter, and a name: or nothing. -/
def letK (c : Nat) (l : List Nat) : List Nat := if mayNm l = true then c :: l else []

theorem strCells_nats (s : ByteArray) : Lib.strCells s = cellsOf (natsOf s) := by
  unfold Lib.strCells cellsOf natsOf
  rw [Lib.toList_data, List.map_map]
  rfl

end Go.Proofs.Ytjjcfflgndclkaa

