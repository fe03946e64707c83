/- []byte(s) of a string that is no constant, and append behind it. Over whatever program. -/
import Derived.Test.YtajfcnaifegonaaMGrw
import Derived.Test.YtajfcnaifegonaaMHdP
import Derived.Lib.ConvBytes
import Derived.Lib.AppendStr
import Derived.Deep.Upon
import Derived.Deep.MidRow
import Derived.Test.YtajfcnaifegonaaMRefN
namespace Go.By
open Go Go.RowKit
def OwnM (w : World) (base : Nat) (v : Value) (l : List Nat) : Prop :=
  (v = .slice none 0 0 ∧ l = []) ∨ ∃ g cap, v = .slice (some ⟨g, 0, none⟩) l.length cap ∧ base ≤ g ∧ g < w.heap.size ∧ l.length ≤ cap ∧ cap ≤ maxLen ∧
    (∀ j, j < cap → (w.cell? ⟨g, j, none⟩).isSome = true ∧ w.frozen? ⟨g, j, none⟩ = false) ∧ (∀ j, j < l.length → w.cell? ⟨g, j, none⟩ = some (.int .u8 (atB l j : Nat)))
theorem OwnM.of_owns {w : World} {base : Nat} {e : TypeId} {v : Value} {l : List Nat} (h : w.ownsRow base e 1 v l.length (cellsOf l)) : OwnM w base v l := by
  have hc := fun g hg => h.cells (g := g) hg
  rcases h.2 with ⟨h1, h2⟩ | ⟨g, cap, cur, rfl, hb, hg, hnc, hcm, hcs, _⟩
  · exact .inl ⟨h1, List.eq_nil_of_length_eq_zero h2⟩
  · refine .inr ⟨g, cap, rfl, hb, (Array.getElem?_eq_some_iff.1 hg).1, hnc, hcm, fun j hj => ⟨?_, frozen_of_row w g j cur e hg⟩, fun j hj => ?_⟩
    · rw [cell_of_row w g j cur e _ hg]
      have : j < cur.size := by omega
      simp [this]
    · have := hc g rfl j _ (cellsOf_get hj)
      rw [Addr.add_lit] at this
      simpa using this
theorem OwnM.bytes {w : World} {base : Nat} {v : Value} {l : List Nat} (h : OwnM w base v l) (hs : ∀ c ∈ l, c < 256) : Bytes w v l := by
  rcases h with ⟨rfl, rfl⟩ | ⟨g, cap, rfl, _, _, hnc, hcm, _, hv⟩
  · exact Bytes.nil w
  · refine ⟨.inr (.inr ⟨g, 0, cap, rfl, hnc, fun i hi => ?_⟩), hs, by omega⟩
    rw [Nat.zero_add]; exact hv i hi
theorem OwnM.lt {w : World} {base : Nat} {v : Value} {l : List Nat} (h : OwnM w base v l) : ∀ k, v.ownBlock = some k → base ≤ k ∧ k < w.heap.size := by
  intro k hk
  rcases h with ⟨rfl, _⟩ | ⟨g, cap, rfl, hb, hg, _⟩
  · simp [Value.ownBlock] at hk
  · simp only [Value.ownBlock, Option.some.injEq] at hk
    subst hk
    exact ⟨hb, hg⟩
theorem OwnM.below {w w' : World} {base : Nat} {v : Value} {l : List Nat} (h : OwnM w base v l) (hb : Below w.heap.size w w') : OwnM w' base v l := by
  rcases h with h | ⟨g, cap, rfl, h1, hg, hnc, hcm, hf, hv⟩
  · exact .inl h
  · have he := hb.block g hg
    have hfr : ∀ j, w'.frozen? ⟨g, j, none⟩ = w.frozen? ⟨g, j, none⟩ := by intro j; unfold World.frozen?; rw [he]
    have hce : ∀ j, w'.cell? ⟨g, j, none⟩ = w.cell? ⟨g, j, none⟩ := fun j => hb.cell (p := ⟨g, j, none⟩) hg
    exact .inr ⟨g, cap, rfl, h1, Nat.lt_of_lt_of_le hg hb.size, hnc, hcm, fun j hj => by rw [hfr, hce]; exact hf j hj, fun j hj => by rw [hce]; exact hv j hj⟩
theorem Bytes.kept {w w' : World} {v : Value} {l : List Nat} {row : Option Nat} (h : Bytes w v l) (hg : w.grownBy w' row) (hne : v.ownBlock = none ∨ v.ownBlock ≠ row) : Bytes w' v l where
  out := by
    rcases h.out with h1 | h1 | ⟨b, off, cap, rfl, h2, hc⟩
    · exact .inl h1
    · exact .inr (.inl h1)
    · refine .inr <| .inr ⟨b, off, cap, rfl, h2, fun i hi => ?_⟩
      have hlt := block_lt_of_cell (hc i hi)
      have := hg.block b hlt (by simpa [Value.ownBlock] using hne)
      rw [World.cell?_of_block (w := w) this]
      exact hc i hi
  small := h.small
  short := h.short
theorem OwnM.shape {w : World} {base : Nat} {v : Value} {l : List Nat} (h : OwnM w base v l) : ∃ p c, v = .slice p l.length c := by
  rcases h with ⟨rfl, rfl⟩ | ⟨g, cap, rfl, _⟩
  · exact ⟨none, 0, rfl⟩
  · exact ⟨_, _, rfl⟩
theorem OwnM.conv (w : World) (e : TypeId) (s : ByteArray) (hs : s.size ≤ maxLen) :
    OwnM (Lib.bytesWorld w e s) w.heap.size (.slice (some ⟨w.heap.size, 0, none⟩) s.size (grownCap w s.size 0 e)) (natsOf s) ∧ Below w.heap.size w (Lib.bytesWorld w e s) := by
  have hge := grownCap_ge w s.size 0 e
  have hcm := grownCap_le_maxLen w s.size 0 e hs
  have hsz := Lib.bytesWorld_size w e s
  have hcs : (Lib.bytesCells w e s).size = grownCap w s.size 0 e := by
    unfold Lib.bytesCells
    rw [Array.size_append, Array.size_map, Array.size_replicate]
    have : s.data.size = s.size := rfl
    omega
  have hn := Lib.bytesWorld_at_new w e s
  refine ⟨.inr ⟨w.heap.size, _, by rw [natsOf_length], Nat.le_refl _, by omega, by rw [natsOf_length]; exact hge, hcm, fun j hj => ⟨?_, ?_⟩, fun j hj => ?_⟩, ?_⟩
  · rw [cell_of_row _ _ j _ _ _ hn]
    have : j < (Lib.bytesCells w e s).size := by omega
    simp [this]
  · unfold World.frozen?
    rw [hn]
    simp
    omega
  · rw [natsOf_length] at hj
    rw [Lib.bytesWorld_cell w e s j hj]
    congr 2
    have hj' : j < s.data.toList.length := hj
    unfold atB natsOf
    rw [Lib.toList_data, List.getD_eq_getElem?_getD, List.getD_eq_getElem?_getD, List.getElem?_map, List.getElem?_eq_getElem hj']
    rfl
  · exact ⟨rfl, rfl, rfl, by omega, fun k hk => Lib.bytesWorld_at_old w e s k hk⟩
theorem atB_left {l m : List Nat} {j : Nat} (h : j < l.length) : atB (l ++ m) j = atB l j := by
  unfold atB
  rw [List.getD_eq_getElem?_getD, List.getD_eq_getElem?_getD, List.getElem?_append_left h]
theorem atB_right (l m : List Nat) (k : Nat) : atB (l ++ m) (l.length + k) = atB m k := by
  unfold atB
  rw [List.getD_eq_getElem?_getD, List.getD_eq_getElem?_getD, List.getElem?_append_right (by omega), Nat.add_sub_cancel_left]
end Go.By
/- The document's keys: names, pairs, letters, what is after. -/
namespace Go.Proofs.Ytajfcnaifegonaa.Sl.Nd
open Go Go.RowKit Go.By
end Go.Proofs.Ytajfcnaifegonaa.Sl.Nd
/- The document's keys: streams, types, numbers, letters. -/
namespace Go.Proofs.Ytajfcnaifegonaa.Sl.Nd
open Go Go.RowKit Go.By
end Go.Proofs.Ytajfcnaifegonaa.Sl.Nd
/- The document's keys: what a pair was made of. -/
namespace Go.Proofs.Ytajfcnaifegonaa.Sl.Nd
open Go Go.RowKit Go.By
theorem tail_run {w : World} {p : Option Addr} {cap : Nat} {l : List Nat} (h : Bytes w (.slice p l.length cap) l) (i : Nat) (I : Int) (hI : I = i) (hi : i ≤ l.length) :
    ∃ q c, (∀ w0 : World, (Instr.slice 31 (.slice p l.length cap) (some (.int .i64 I)) none none).run Try.prog w0 = .ok (.slice q (l.length - i) c) w0) ∧ Bytes w (.slice q (l.length - i) c) (l.drop i) := by
  subst hI
  obtain ⟨q, c, hr, hq⟩ := piece_run h i (l.length - i) (by omega)
  have hcap := h.room.2
  refine ⟨q, c, fun w0 => ?_, ?_⟩
  · rw [← hr w0, run_slice_l (P := Try.prog) w0 31 p l.length cap (by kernel_rfl) .i64 (i : Int) (by omega) (by omega),
      run_slice_lh (P := Try.prog) w0 31 p l.length cap (by kernel_rfl) .i64 .i64 (i : Int) ((i : Int) + ((l.length - i : Nat) : Int)) (by omega) (by omega) (by omega)]
    have e : ((i : Int) + ((l.length - i : Nat) : Int)).toNat = l.length := by omega
    rw [e]
  · have e : pc l i (l.length - i) = l.drop i := by
      unfold pc
      rw [List.take_of_length_le (by rw [List.length_drop]; omega)]
    rw [← e]; exact hq
end Go.Proofs.Ytajfcnaifegonaa.Sl.Nd
/- Events in a program: the document's reader. -/
namespace Go.By
open Go Go.RowKit
theorem OwnM.base' {w : World} {B B' : Nat} {v : Value} {l : List Nat} (h : OwnM w B v l) (hb : B' ≤ B) : OwnM w B' v l := by
  rcases h with h | ⟨g, cap, rfl, h1, h2⟩
  · exact .inl h
  · exact .inr ⟨g, cap, rfl, Nat.le_trans hb h1, h2⟩
end Go.By
namespace Go.Proofs.Ytajfcnaifegonaa.Sl.Nd
open Go Go.RowKit Go.By
def RdIs (w : World) (g : Nat) (l : List Nat) (bad : Bool) : Prop := ∃ v, w.heap[g]? = some (.cells #[v, .bool bad] 137 (0, 0)) ∧ Bytes w v l
def rdS (l : List Nat) (bad : Bool) : Option (List Nat) := if bad = true then none else some l
theorem bytes_beside {w w' : World} {v u : Value} {l : List Nat} {g : Nat} {b : Bool} (h : Bytes w v l) (hg : w.heap[g]? = some (.cells #[u, .bool b] 137 (0, 0))) (hu : ∀ k n, u ≠ .int k n) (hk : ∀ k, k < w.heap.size → k ≠ g → w'.heap[k]? = w.heap[k]?) : Bytes w' v l where
  out := by
    rcases h.out with h1 | h1 | ⟨b', off, cap, rfl, h2, hc⟩
    · exact .inl h1
    · exact .inr (.inl h1)
    · refine .inr <| .inr ⟨b', off, cap, rfl, h2, fun i hi => ?_⟩
      have hci := hc i hi
      have hlt := block_lt_of_cell hci
      have hne : b' ≠ g := by
        rintro rfl
        rw [cells_of hg] at hci
        match off + i, hci with
        | 0, hci => simp at hci; exact hu _ _ hci
        | 1, hci => simp at hci
        | k + 2, hci => simp at hci
      rw [World.cell?_of_block (w := w) (hk b' hlt hne)]
      exact hci
  small := h.small
  short := h.short
theorem bytes_slice {w : World} {v : Value} {l : List Nat} (h : Bytes w v l) : ∀ k n, v ≠ .int k n := by
  obtain ⟨p, cap, rfl, _⟩ := h.any
  intro k n h; cases h
theorem rdTake_small {n : Nat} {l : List Nat} {bad : Bool} (h : ∀ c ∈ l, c < 256) : ∀ c ∈ (rdTake n (rdS l bad)).1, c < 256 := by
  intro c hc
  unfold rdTake rdS at hc
  cases bad
  · simp only [Bool.false_eq_true, if_false] at hc
    split at hc
    · exact h c (List.mem_of_mem_take hc)
    · cases hc
  · cases hc
theorem rdTake_short {n : Nat} {s : Option (List Nat)} : (rdTake n s).1.length ≤ n := by
  unfold rdTake
  cases s with
  | none => simp
  | some l =>
    dsimp only
    split
    · rw [List.length_take]; omega
    · simp
theorem RdIs.small {w : World} {g : Nat} {l : List Nat} {bad : Bool} (h : RdIs w g l bad) : ∀ c ∈ l, c < 256 := let ⟨_, _, h⟩ := h; h.small
end Go.Proofs.Ytajfcnaifegonaa.Sl.Nd
