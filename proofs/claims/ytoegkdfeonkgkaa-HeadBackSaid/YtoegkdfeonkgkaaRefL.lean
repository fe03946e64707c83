/- The document's keys: streams, types, numbers, letters. -/
import Derived.Test.YtoegkdfeonkgkaaRefK
namespace Go.Proofs.Ytoegkdfeonkgkaa
open Go Go.RowKit Go.By

/-- A number of eight bytes: or nothing. -/
def seqK (n : Int) : List Nat := if 0 ≤ n then highOf n.toNat 8 else []

set_option maxRecDepth 100000 in
theorem refSeq_any (n : Int) (w : World) (hn1 : n < 9223372036854775808) :
    Calls Try.prog 53 #[.int .i64 n] w fun e w' => ∃ v', e = .returned v' ∧ OwnM w' w.heap.size v' (seqK n) ∧ Below w.heap.size w w' := by
  by_cases h0 : n < 0
  · have E : Hid (seqK n = []) := by unfold Hid seqK; rw [if_neg (by omega)]
    clear hn1
    go_enter Try.func53, Try.ntmps53
    go_wp2
    go_ret
    exact ⟨_, rfl, by rw [E.out]; exact .inl ⟨rfl, rfl⟩, Below.refl _ _⟩
  · obtain ⟨k, rfl⟩ : ∃ k : Nat, n = k := ⟨n.toNat, by omega⟩
    have E : Hid (seqK k = highOf k 8) := by unfold Hid seqK; rw [if_pos (by omega)]; simp
    have hk : (k : Int) ≤ 9223372036854775807 := by omega
    clear hn1
    go_enter Try.func53, Try.ntmps53
    go_wp2_with fail
    refine (high_any k 8 w (by omega) (by omega)).mono ?_
    rintro e w2 ⟨v2, rfl, ho2, hb2⟩
    go_wp2
    go_ret
    exact ⟨_, rfl, by rw [E.out]; exact OwnM.of_owns (by rw [highOf_length]; exact ho2), hb2⟩

/-- A letter, and a name: or nothing. -/
def letK (c : Nat) (l : List Nat) : List Nat := if mayNm l = true then c :: l else []

theorem strCells_nats (s : ByteArray) : Lib.strCells s = cellsOf (natsOf s) := by
  unfold Lib.strCells cellsOf natsOf
  rw [Lib.toList_data, List.map_map]
  rfl

end Go.Proofs.Ytoegkdfeonkgkaa

