/- The document's keys: streams, types, numbers, letters. -/
import Derived.Test.YtfebdgnojacoiaaRefK
namespace Go.Proofs.Ytfebdgnojacoiaa
open Go Go.RowKit Go.By

set_option maxRecDepth 100000 in
theorem refStream_any (s : ByteArray) (n : Int) (w : World) (hs : s.size ≤ maxLen) (hn1 : n < 9223372036854775808) :
    Calls Try.prog 15 #[.string s, .int .i64 n] w fun e w' => ∃ v', e = .returned v' ∧ OwnM w' w.heap.size v' (pairK (natsOf s) n) ∧ Below w.heap.size w w' := by
  have H := refPair_any s n w hs hn1
  clear hn1
  go_enter Try.func15, Try.ntmps15
  go_wp2_with fail
  refine H.mono ?_
  rintro e w' ⟨v', rfl, ho, hb⟩
  go_wp2
  go_ret
  exact ⟨_, rfl, ho, hb⟩

set_option maxRecDepth 100000 in
theorem refType_any (s : ByteArray) (n : Int) (w : World) (hs : s.size ≤ maxLen) (hn1 : n < 9223372036854775808) :
    Calls Try.prog 17 #[.string s, .int .i64 n] w fun e w' => ∃ v', e = .returned v' ∧ OwnM w' w.heap.size v' (pairK (natsOf s) n) ∧ Below w.heap.size w w' := by
  have H := refPair_any s n w hs hn1
  clear hn1
  go_enter Try.func17, Try.ntmps17
  go_wp2_with fail
  refine H.mono ?_
  rintro e w' ⟨v', rfl, ho, hb⟩
  go_wp2
  go_ret
  exact ⟨_, rfl, ho, hb⟩

/-- A number of eight bytes: or nothing. -/
def seqK (n : Int) : List Nat := if 0 ≤ n then highOf n.toNat 8 else []

set_option maxRecDepth 100000 in
theorem refSeq_any (n : Int) (w : World) (hn1 : n < 9223372036854775808) :
    Calls Try.prog 19 #[.int .i64 n] w fun e w' => ∃ v', e = .returned v' ∧ OwnM w' w.heap.size v' (seqK n) ∧ Below w.heap.size w w' := by
  by_cases h0 : n < 0
  · have E : Hid (seqK n = []) := by unfold Hid seqK; rw [if_neg (by omega)]
    clear hn1
    go_enter Try.func19, Try.ntmps19
    go_wp2
    go_ret
    exact ⟨_, rfl, by rw [E.out]; exact .inl ⟨rfl, rfl⟩, Below.refl _ _⟩
  · obtain ⟨k, rfl⟩ : ∃ k : Nat, n = k := ⟨n.toNat, by omega⟩
    have E : Hid (seqK k = highOf k 8) := by unfold Hid seqK; rw [if_pos (by omega)]; simp
    have hk : (k : Int) ≤ 9223372036854775807 := by omega
    clear hn1
    go_enter Try.func19, Try.ntmps19
    go_wp2_with fail
    refine (high_any k 8 w (by omega) (by omega)).mono ?_
    rintro e w2 ⟨v2, rfl, ho2, hb2⟩
    go_wp2
    go_ret
    exact ⟨_, rfl, by rw [E.out]; exact OwnM.of_owns (by rw [highOf_length]; exact ho2), hb2⟩

/-- A letter, and a name: or nothing. -/
def letK (c : Nat) (l : List Nat) : List Nat := if mayNm l = true then c :: l else []

theorem strCells_nats (s : ByteArray) : Lib.strCells s = cellsOf (natsOf s) := by
  unfold Lib.strCells cellsOf natsOf
  rw [Lib.toList_data, List.map_map]
  rfl

set_option maxRecDepth 100000 in
theorem refLet_any (c : Nat) (hc : c < 256) (s : ByteArray) (w : World) (hs : s.size ≤ maxLen) :
    Calls Try.prog 21 #[.int .u8 c, .string s] w fun e w' => ∃ v', e = .returned v' ∧ OwnM w' w.heap.size v' (letK c (natsOf s)) ∧ Below w.heap.size w w' := by
  have HC := Lib.hid hc; clear hc
  go_enter Try.func21, Try.ntmps21
  go_wp2_with fail
  refine (refMay_any s w hs).mono ?_
  rintro e w' ⟨rfl, rfl⟩
  cases hm : mayNm (natsOf s) with
  | false =>
    have E : Hid (letK c (natsOf s) = []) := by unfold Hid letK; rw [if_neg (by rw [hm]; simp)]
    go_wp2
    go_ret
    exact ⟨_, rfl, by rw [E.out]; exact .inl ⟨rfl, rfl⟩, Below.refl _ _⟩
  | true =>
    have E : Hid (letK c (natsOf s) = [c] ++ natsOf s) := by unfold Hid letK; rw [if_pos hm]; rfl
    have hl := mayNm_length hm
    rw [natsOf_length] at hl
    obtain ⟨i, hi, hz, hz1, hz2⟩ := info_parts (byT).info
    have ho : (w.alloc (.cells #[.int .u8 (c : Nat)] 5)).ownsRow w.heap.size 5 1 (.slice (some ⟨w.heap.size, 0, none⟩) 1 1) 1 (cellsOf [c]) :=
      ⟨rfl, .inr ⟨w.heap.size, 1, _, rfl, Nat.le_refl _, heap_alloc_new w _, Nat.le_refl _, by decide, rfl, rfl⟩⟩
    obtain ⟨v1, w1, hrun, ho1, hg1, _⟩ := Lib.run_append_own_string (P := Try.prog) _ w.heap.size 22 9 22 5 i byT.slice (by kernel_rfl) hi hz hz1 hz2 _ 1 _ ho s (by unfold maxLen; omega) (by omega) (by simp)
    have hM : OwnM w1 w.heap.size v1 ([c] ++ natsOf s) := OwnM.of_owns (by rw [cellsOf_append, ← strCells_nats, List.length_append, natsOf_length]; exact ho1)
    have hb : Below w.heap.size w w1 := ((Below.refl _ _).alloc (Nat.le_refl _) _).grown hg1 (by simp) (by simp [Value.ownBlock])
    have HR := Lib.hid hrun; have HM := Lib.hid hM; have HB := Lib.hid hb
    clear hrun hM hb ho1 hg1 ho hi hz hz1 hz2
    go_wp2_with (at_builtin; refine Lib.wpList_append_run _ rfl (.tmp 9) (.tmp 10) 22 9 rfl _ _ rfl rfl v1 w1 HR.out ?_)
    go_ret
    exact ⟨_, rfl, by rw [E.out]; exact HM.out, HB.out⟩
end Go.Proofs.Ytfebdgnojacoiaa

