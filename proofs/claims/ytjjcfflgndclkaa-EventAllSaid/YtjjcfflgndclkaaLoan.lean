/- What is lent, and whether it is kept. -/
import Derived.Test.YtjjcfflgndclkaaChecked
import Derived.Test.YtjjcfflgndclkaaBy
namespace Go.Proofs.Ytjjcfflgndclkaa
open Go.RowKit Go.By

theorem byT : ByT Try.prog 22 5 := ⟨by kernel_rfl, by kernel_rfl, by kernel_rfl⟩

def tail (k : Nat) : List Nat := (List.range k).map (224 + ·)
theorem tail_succ (k : Nat) : tail (k + 1) = tail k ++ [224 + k] := by simp [tail, List.range_succ]
theorem tail_length (k : Nat) : (tail k).length = k := by simp [tail]

/-- What is lent: the row, and six bytes behind its end. -/
def Lent (B : Nat) (w : World) (v : Value) (l : List Nat) : Prop :=
  ∃ g cap, v = .slice (some ⟨g, 0, none⟩) l.length cap ∧ w.ownsRow B 5 1 (.slice (some ⟨g, 0, none⟩) (l.length + 6) cap) (l.length + 6) (cellsOf (l ++ tail 6))

def LentRel (B : Nat) (l : List Nat) (w0 : World) (v i : Value) (w : World) : Prop :=
  ∃ (x : Value) (k : Nat), x = v ∧ k ≤ 6 ∧ i = .int .i64 k ∧ x ≠ .slice none 0 0 ∧ w.ownsRow B 5 1 x (l.length + k) (cellsOf (l ++ tail k)) ∧ Below B w0 w

set_option maxRecDepth 100000 in
theorem loaned_any (v : Value) (l : List Nat) (w : World) (hv : Bytes w v l) (hm : l.length ≤ 140737488351232) :
    Calls Try.prog 7 #[v] w fun e w' => ∃ v', e = .returned v' ∧ Lent w.heap.size w' v' l ∧ Below w.heap.size w w' := by
  have HV := Lib.hid hv; clear hv
  go_enter Try.func7, Try.ntmps7
  go_wp2_with (at_builtin; refine wpList_append_bytes rfl (.tmp 5) (.tmp 6) byT rfl w.heap.size (.slice (some ⟨w.heap.size, 0, none⟩) 0 0) 0 [] rfl (World.ownsRow_made w #[] 0 (Nat.le_refl _) (by decide) rfl) v l rfl (HV.out.below ((Below.refl _ _).alloc (Nat.le_refl _) _)) (by omega) (by simp) ?_; intro v1 w1 hown hgrow hnil)
  have hne : v1 ≠ .slice none 0 0 := by rw [Ne, hnil]; simp
  have hB : Below w.heap.size w w1 := ((Below.refl _ _).alloc (Nat.le_refl _) _).grown hgrow (by simp) (by simp [Value.ownBlock])
  have hstart : LentRel w.heap.size l w v1 (.int .i64 (0 : Nat)) w1 := ⟨v1, 0, rfl, by omega, rfl, hne, by simpa [tail] using hown, hB⟩
  have HS := Lib.hid hstart
  clear hown hgrow hnil hne hB hstart
  obtain ⟨p, cap, hveq⟩ : ∃ p cap, v = .slice p l.length cap := let ⟨p, cap, h, _⟩ := HV.out.any; ⟨p, cap, h⟩
  have HVE := Lib.hid hveq; clear hveq
  go_wp2
  go_loopw [3, 4] (fun x i wr => LentRel w.heap.size l w x i wr) (fun _ i _ => 6 - (intOf i).toNat)
  case atStart => exact HS.out
  case round =>
    obtain ⟨x, k, rfl, hk, rfl, hne, hown, hB⟩ := hrel
    have HNE := Lib.hid hne; clear hne
    have hsz := hB.size
    clear HS
    by_cases hlt : k < 6
    · go_wp2_with (at_builtin; go_loud (refine wpList_append_bytes rfl (.tmp 12) (.tmp 16) byT rfl w.heap.size x (l.length + k) (cellsOf (l ++ tail k)) rfl (hown.alloc _) (.slice (some ⟨wr.heap.size, 0, none⟩) 1 1) [224 + k] rfl (Bytes.one (by omega) (by omega)) (by simp; omega) (by simp; omega) ?_); intro v2 w2 hown2 hgrow2 hnil2)
      have hB2 : Below w.heap.size w w2 := (hB.alloc hsz _).grown hgrow2 (by simp; omega) (fun j hj => (hown.lt j hj).1)
      have hown3 : w2.ownsRow w.heap.size 5 1 v2 (l.length + (k + 1)) (cellsOf (l ++ tail (k + 1))) := by
        rw [tail_succ, ← List.append_assoc, cellsOf_append]; exact hown2
      have hne2 : v2 ≠ .slice none 0 0 := by rw [Ne, hnil2]; simp
      have hrel2 : LentRel w.heap.size l w v2 (.int .i64 (k + 1 : Nat)) w2 := ⟨v2, k + 1, rfl, by omega, rfl, hne2, hown3, hB2⟩
      have HR := Lib.hid hrel2
      clear hown2 hown hgrow2 hnil2 hB2 hown3 hne2 hrel2 hB
      go_wp2
      go_roundw
      case rel => exact HR.out
      case measure => simp [intOf]; omega
    · obtain rfl : k = 6 := by omega
      obtain ⟨g, cap', cur, rfl, hrest⟩ : ∃ g cap' cur, x = .slice (some ⟨g, 0, none⟩) (l.length + 6) cap' ∧ w.heap.size ≤ g ∧ wr.heap[g]? = some (.cells cur 5 (0, 0)) ∧ l.length + 6 ≤ cap' ∧ cap' ≤ maxLen := by
        rcases hown.2 with ⟨h, _⟩ | ⟨g, cap', cur, h1, h2, h3, h4, h5, _⟩
        · exact absurd h HNE.out
        · exact ⟨g, cap', cur, h1, h2, h3, h4, h5⟩
      obtain ⟨h2, h3, h4, h5⟩ := hrest
      have HO := Lib.hid hown; clear hown
      have HB := Lib.hid hB; clear hB
      have H3 := Lib.hid h3; clear h3
      unfold maxLen at h5
      obtain rfl := HVE.out
      go_wp2
      go_ret
      exact ⟨_, rfl, ⟨g, cap', rfl, HO.out⟩, HB.out⟩
end Go.Proofs.Ytjjcfflgndclkaa

