/- []byte(s) of a string that is no constant, and append behind it. Over whatever program. -/
import Derived.Test.YtlagllhhahomlaaGreatMGrw
import Derived.Test.YtlagllhhahomlaaGreatMHdP
import Derived.Lib.ConvBytes
import Derived.Lib.AppendStr
import Derived.Deep.Upon
import Derived.Deep.MidRow
import Derived.Test.YtlagllhhahomlaaGreatMRefN
namespace Go.By
open Go Go.RowKit
def OwnM (w : World) (base : Nat) (v : Value) (l : List Nat) : Prop :=
  (v = .slice none 0 0 ∧ l = []) ∨ ∃ g cap, v = .slice (some ⟨g, 0, none⟩) l.length cap ∧ base ≤ g ∧ g < w.heap.size ∧ l.length ≤ cap ∧ cap ≤ maxLen ∧
    (∀ j, j < cap → (w.cell? ⟨g, j, none⟩).isSome = true ∧ w.frozen? ⟨g, j, none⟩ = false) ∧ (∀ j, j < l.length → w.cell? ⟨g, j, none⟩ = some (.int .u8 (atB l j : Nat)))
theorem OwnM.of_owns {w : World} {base : Nat} {e : TypeId} {v : Value} {l : List Nat} (h : w.ownsRow base e 1 v l.length (cellsOf l)) : OwnM w base v l := by
  have hc := fun g hg => h.cells (g := g) hg
  rcases h.2 with ⟨h1, h2⟩ | ⟨g, cap, cur, rfl, hb, hg, hnc, hcm, hcs, _⟩
  · exact .inl ⟨h1, List.eq_nil_of_length_eq_zero h2⟩
  · refine .inr ⟨g, cap, rfl, hb, (Array.getElem?_eq_some_iff.1 hg).1, hnc, hcm, fun j hj => ⟨?_, frozen_of_row w g j cur e hg⟩, fun j hj => ?_⟩
    · rw [cell_of_row w g j cur e _ hg]
      have : j < cur.size := by omega
      simp [this]
    · have := hc g rfl j _ (cellsOf_get hj)
      rw [Addr.add_lit] at this
      simpa using this
theorem OwnM.bytes {w : World} {base : Nat} {v : Value} {l : List Nat} (h : OwnM w base v l) (hs : ∀ c ∈ l, c < 256) : Bytes w v l := by
  rcases h with ⟨rfl, rfl⟩ | ⟨g, cap, rfl, _, _, hnc, hcm, _, hv⟩
  · exact Bytes.nil w
  · refine ⟨.inr (.inr ⟨g, 0, cap, rfl, hnc, fun i hi => ?_⟩), hs, by omega⟩
    rw [Nat.zero_add]; exact hv i hi
theorem OwnM.lt {w : World} {base : Nat} {v : Value} {l : List Nat} (h : OwnM w base v l) : ∀ k, v.ownBlock = some k → base ≤ k ∧ k < w.heap.size := by
  intro k hk
  rcases h with ⟨rfl, _⟩ | ⟨g, cap, rfl, hb, hg, _⟩
  · simp [Value.ownBlock] at hk
  · simp only [Value.ownBlock, Option.some.injEq] at hk
    subst hk
    exact ⟨hb, hg⟩
theorem OwnM.below {w w' : World} {base : Nat} {v : Value} {l : List Nat} (h : OwnM w base v l) (hb : Below w.heap.size w w') : OwnM w' base v l := by
  rcases h with h | ⟨g, cap, rfl, h1, hg, hnc, hcm, hf, hv⟩
  · exact .inl h
  · have he := hb.block g hg
    have hfr : ∀ j, w'.frozen? ⟨g, j, none⟩ = w.frozen? ⟨g, j, none⟩ := by intro j; unfold World.frozen?; rw [he]
    have hce : ∀ j, w'.cell? ⟨g, j, none⟩ = w.cell? ⟨g, j, none⟩ := fun j => hb.cell (p := ⟨g, j, none⟩) hg
    exact .inr ⟨g, cap, rfl, h1, Nat.lt_of_lt_of_le hg hb.size, hnc, hcm, fun j hj => by rw [hfr, hce]; exact hf j hj, fun j hj => by rw [hce]; exact hv j hj⟩
theorem Bytes.kept {w w' : World} {v : Value} {l : List Nat} {row : Option Nat} (h : Bytes w v l) (hg : w.grownBy w' row) (hne : v.ownBlock = none ∨ v.ownBlock ≠ row) : Bytes w' v l where
  out := by
    rcases h.out with h1 | h1 | ⟨b, off, cap, rfl, h2, hc⟩
    · exact .inl h1
    · exact .inr (.inl h1)
    · refine .inr <| .inr ⟨b, off, cap, rfl, h2, fun i hi => ?_⟩
      have hlt := block_lt_of_cell (hc i hi)
      have := hg.block b hlt (by simpa [Value.ownBlock] using hne)
      rw [World.cell?_of_block (w := w) this]
      exact hc i hi
  small := h.small
  short := h.short
theorem OwnM.shape {w : World} {base : Nat} {v : Value} {l : List Nat} (h : OwnM w base v l) : ∃ p c, v = .slice p l.length c := by
  rcases h with ⟨rfl, rfl⟩ | ⟨g, cap, rfl, _⟩
  · exact ⟨none, 0, rfl⟩
  · exact ⟨_, _, rfl⟩
theorem OwnM.conv (w : World) (e : TypeId) (s : ByteArray) (hs : s.size ≤ maxLen) :
    OwnM (Lib.bytesWorld w e s) w.heap.size (.slice (some ⟨w.heap.size, 0, none⟩) s.size (grownCap w s.size 0 e)) (natsOf s) ∧ Below w.heap.size w (Lib.bytesWorld w e s) := by
  have hge := grownCap_ge w s.size 0 e
  have hcm := grownCap_le_maxLen w s.size 0 e hs
  have hsz := Lib.bytesWorld_size w e s
  have hcs : (Lib.bytesCells w e s).size = grownCap w s.size 0 e := by
    unfold Lib.bytesCells
    rw [Array.size_append, Array.size_map, Array.size_replicate]
    have : s.data.size = s.size := rfl
    omega
  have hn := Lib.bytesWorld_at_new w e s
  refine ⟨.inr ⟨w.heap.size, _, by rw [natsOf_length], Nat.le_refl _, by omega, by rw [natsOf_length]; exact hge, hcm, fun j hj => ⟨?_, ?_⟩, fun j hj => ?_⟩, ?_⟩
  · rw [cell_of_row _ _ j _ _ _ hn]
    have : j < (Lib.bytesCells w e s).size := by omega
    simp [this]
  · unfold World.frozen?
    rw [hn]
    simp
    omega
  · rw [natsOf_length] at hj
    rw [Lib.bytesWorld_cell w e s j hj]
    congr 2
    have hj' : j < s.data.toList.length := hj
    unfold atB natsOf
    rw [Lib.toList_data, List.getD_eq_getElem?_getD, List.getD_eq_getElem?_getD, List.getElem?_map, List.getElem?_eq_getElem hj']
    rfl
  · exact ⟨rfl, rfl, rfl, by omega, fun k hk => Lib.bytesWorld_at_old w e s k hk⟩
theorem atB_left {l m : List Nat} {j : Nat} (h : j < l.length) : atB (l ++ m) j = atB l j := by
  unfold atB
  rw [List.getD_eq_getElem?_getD, List.getD_eq_getElem?_getD, List.getElem?_append_left h]
theorem atB_right (l m : List Nat) (k : Nat) : atB (l ++ m) (l.length + k) = atB m k := by
  unfold atB
  rw [List.getD_eq_getElem?_getD, List.getD_eq_getElem?_getD, List.getElem?_append_right (by omega), Nat.add_sub_cancel_left]
end Go.By
/- The document's keys: names, pairs, letters, what is after. -/
namespace Go.Proofs.YtlagllhhahomlaaGreat.Sl.Nd
open Go Go.RowKit Go.By
end Go.Proofs.YtlagllhhahomlaaGreat.Sl.Nd
/- The document's keys: streams, types, numbers, letters. -/
namespace Go.Proofs.YtlagllhhahomlaaGreat.Sl.Nd
open Go Go.RowKit Go.By
def seqK (n : Int) : List Nat := if 0 ≤ n then highOf n.toNat 8 else []
set_option maxRecDepth 100000 in
theorem refSeq_any (n : Int) (w : World) (hn1 : n < 9223372036854775808) :
    Calls Tryz.prog 22 #[.int .i64 n] w fun e w' => ∃ v', e = .returned v' ∧ OwnM w' w.heap.size v' (seqK n) ∧ Below w.heap.size w w' := by
  by_cases h0 : n < 0
  · have E : Hid (seqK n = []) := by unfold Hid seqK; rw [if_neg (by omega)]
    clear hn1
    go_enter Tryz.func22, Tryz.ntmps22
    go_wp2
    go_ret
    exact ⟨_, rfl, by rw [E.out]; exact .inl ⟨rfl, rfl⟩, Below.refl _ _⟩
  · obtain ⟨k, rfl⟩ : ∃ k : Nat, n = k := ⟨n.toNat, by omega⟩
    have E : Hid (seqK k = highOf k 8) := by unfold Hid seqK; rw [if_pos (by omega)]; simp
    have hk : (k : Int) ≤ 9223372036854775807 := by omega
    clear hn1
    go_enter Tryz.func22, Tryz.ntmps22
    go_wp2_with fail
    refine (high_any k 8 w (by omega) (by omega)).mono ?_
    rintro e w2 ⟨v2, rfl, ho2, hb2⟩
    go_wp2
    go_ret
    exact ⟨_, rfl, by rw [E.out]; exact OwnM.of_owns (by rw [highOf_length]; exact ho2), hb2⟩
end Go.Proofs.YtlagllhhahomlaaGreat.Sl.Nd
