/- The disk: one file behind a crash. -/
import Derived.Test.YtobhhedggppneaaDskBA
import Derived.Test.YtobhhedggppneaaDskBB
import Derived.RegionTactic
namespace Go.Proofs.Ytobhhedggppneaa
open Go Go.RowKit Go.By

theorem lots_lasts (lb : Nat) (bv : Value) (bits : List Nat) : Lasts 37 #[.pointer (some ⟨lb, 0, none⟩)] (fun k => k = lb ∨ (bits ≠ [] ∧ bv.ownBlock = some k)) (some lb) (fun i w => LotsIs lb bv bits i w) (drawBit bits) where
  call := fun i w h hi => draw_any lb bv bits i w h hi
  stay := by
    intro i w w' h hs
    refine ⟨(hs lb (.inl rfl)).trans h.heap, ⟨?_, h.bytes.small, h.bytes.short⟩, h.apart⟩
    rcases h.bytes.out with h1 | h1 | ⟨b, off, cap, h1, h2, hc⟩
    · exact .inl h1
    · exact .inr (.inl h1)
    · refine .inr (.inr ⟨b, off, cap, h1, h2, fun j hj => ?_⟩)
      have hb : w'.heap[b]? = w.heap[b]? := hs b (.inr ⟨by rintro rfl; simp at hj, by rw [h1]; rfl⟩)
      exact (World.cell?_of_block hb).trans (hc j hj)
  here := by
    intro i w k h hk
    rcases hk with rfl | ⟨hne, hk⟩
    · exact (Array.getElem?_eq_some_iff.1 h.heap).1
    · rcases h.bytes.out with ⟨_, h1⟩ | ⟨_, _, h1⟩ | ⟨b, off, cap, h1, h2, hc⟩
      · exact absurd h1 hne
      · exact absurd h1 hne
      · rw [h1] at hk; cases hk
        have hl : 0 < bits.length := by cases bits with
          | nil => exact absurd rfl hne
          | cons x xs => simp
        exact block_lt_of_cell (hc 0 hl)
  own := fun k h => by cases h; exact .inl rfl
  enter := by intro args w; kernel_rfl

/-- How many of n operations on names survive. -/
def firstOf (bits : List Nat) (n : Nat) : Nat := if bits = [] then 0 else atB bits 0 % (n + 1)
theorem firstOf_le (bits : List Nat) (n : Nat) : firstOf bits n ≤ n := by
  unfold firstOf; split
  · omega
  · have := Nat.mod_lt (atB bits 0) (show 0 < n + 1 by omega); omega

set_option maxRecDepth 100000 in
theorem firstOf_any (v : Value) (bits : List Nat) (n : Nat) (w : World) (hv : Bytes w v bits) (hn : n ≤ 1000000000) :
    Calls Try.prog 36 #[v, .int .i64 n] w fun e w' => e = .returned (.int .i64 (firstOf bits n : Nat)) ∧ w = w' := by
  obtain ⟨p, c, rfl, hsp⟩ := hv.any
  have hm := hv.short
  unfold maxLen at hm
  by_cases h0 : bits = []
  · subst h0
    have hf : Hid (firstOf [] n = 0) := rfl
    clear hsp hv
    go_enter Try.func36, Try.ntmps36
    go_wp2
    go_ret
    rw [hf.out]
    exact ⟨rfl, rfl⟩
  · have hl : 0 < bits.length := by cases bits with
      | nil => exact absurd rfl h0
      | cons x xs => simp
    obtain ⟨b, off, rfl, hcell⟩ := hsp 0 hl
    rw [Nat.add_zero] at hcell
    have hx := hv.at_lt hl
    have hf : Hid (firstOf bits n = atB bits 0 % (n + 1)) := if_neg h0
    have hne : ((bits.length : Int) == 0) = false := beq_eq_false_iff_ne.2 (by omega)
    have hl0 : 0 < (bits.length : Int) := by omega
    obtain ⟨x, hxx⟩ : ∃ x, atB bits 0 = x := ⟨_, rfl⟩
    rw [hxx] at hcell hx
    have hx0 : (x : Int) < 256 := by omega
    obtain ⟨y, hy⟩ : ∃ y, x % (n + 1) = y := ⟨_, rfl⟩
    have hm1 : (x : Int) % ((n : Int) + 1) = y := by rw [← hy]; simp
    have hm2 : Int.tmod (x : Int) ((n : Int) + 1) = y := by rw [Int.tmod_eq_emod_of_nonneg (by omega)]; exact hm1
    have hn1 : (n : Int) ≤ 1000000000 := by omega
    have HX := Lib.hid hxx; have HY := Lib.hid hy
    clear hsp hv hxx hx hy h0 hl hm hn
    go_enter Try.func36, Try.ntmps36
    go_wp2
    go_ret
    rw [hf.out, HX.out, HY.out]
    exact ⟨rfl, rfl⟩

/-- What is seen of a file is laid anew. -/
theorem FileIs.reseen {w w1 : World} {own : Own} {n fb : Nat} {F : FileA} {v : Value} {l : List Nat} (h : FileIs w own n fb F) (here : ∀ k r, own k = some r → k < w.heap.size) (hb : Below w.heap.size w w1)
    (hv : w1.ownsRow 0 5 1 v l.length (cellsOf l)) (hk : ∀ k, v.ownBlock = some k → w.heap.size ≤ k) (hs : ∀ c ∈ l, c < 256) :
    ∃ own', FileIs (w1.setCell ⟨fb, 0, none⟩ v) own' n fb { F with seen := l } ∧ FileStep n none own own' w (w1.setCell ⟨fb, 0, none⟩ v) := by
  obtain ⟨⟨sv, kv, lv, cs, h1, h2, h3, h4, h5, h6⟩, hr, hbf⟩ := h
  have hfl := here fb _ hr
  have hw1 : w1.heap[fb]? = some (.cells #[sv, kv, lv] 65 (0, 0)) := (hb.block fb hfl).trans h1
  have s0 := set_heap hw1 0 v
  have hvl : ∀ k, v.ownBlock = some k → k < w1.heap.size := fun k hk => (hv.lt k hk).2
  obtain ⟨own', p1, p2, p3, p4⟩ := own_went (own := own) (w := w) (w' := w1) here (v := .slice none 0 0) (v' := v) (r := .fseen n) (fun k hk => by cases hk) (by
    cases hb : v.ownBlock with
    | none => exact .inl rfl
    | some q => exact .inr ⟨q, rfl, hk q hb⟩) hvl
  have hz : (w1.setCell ⟨fb, 0, none⟩ v).heap.size = w1.heap.size := by simp
  have stay : Stay own own' (fun r => r ≠ .file n) w (w1.setCell ⟨fb, 0, none⟩ v) := ⟨p2, fun k r hkr hne => (s0.2 k (by rintro rfl; rw [hr] at hkr; cases hkr; exact hne rfl)).trans (hb.block k (here k r hkr))⟩
  refine ⟨own', ⟨⟨v, kv, lv, cs, s0.1, ⟨ownsRow_of_heap hv fun k hkv => s0.2 k (by rintro rfl; have := hk _ hkv; omega), p3, hs⟩, h3.stay stay (by simp), ownsRow_of_heap h4 fun k hkr => stay.block k _ (h5 k hkr) (by simp), fun k hkr => p2 k _ (h5 k hkr), h6.stay stay (by simp)⟩, p2 fb _ hr, fun lv' hl h0 => (third_cell s0.1 (x := lv) (by simp) hl).trans (hbf lv (by rw [cell_of_row w fb 2 _ _ _ h1]; rfl) h0)⟩,
    ⟨⟨hb.os, hb.tape, hb.output, by rw [hz]; exact hb.size, fun k hkl hn => ?_⟩, p1, p2, fun k r hkr => ?_⟩⟩
  · exact (s0.2 k (by rintro rfl; exact hn (.inl ⟨_, hr, .inl rfl⟩))).trans (hb.block k hkl)
  · rcases p4 k r hkr with h' | ⟨q1, q2, rfl⟩
    · exact .inl h'
    · exact .inr ⟨q1, by rw [hz]; exact q2, .inl (.inr (.inl rfl))⟩

theorem redoOps_at {bit : Nat → Bool} {w : World} {own : Own} : ∀ {cs : List Value} {l : List ByteOp}, OpsV w own cs l → ∀ (i : Nat) (m : List Nat), (redoOps bit l i m).2 ≤ i + l.length * 1048576
  | [], _, h, i, m => by simp only [OpsV] at h; subst h; simp [redoOps]
  | _ :: _, _, h, i, m => by
    obtain ⟨o, os, rfl, h1, h2⟩ := h
    have a1 := redoOp_at (bit := bit) h1 i m
    have a2 := redoOps_at (bit := bit) h2 (redoOp bit o i m).2 (redoOp bit o i m).1
    simp only [redoOps, List.length_cons]
    omega
theorem redoOps_small {bit : Nat → Bool} {w : World} {own : Own} : ∀ {cs : List Value} {l : List ByteOp}, OpsV w own cs l → ∀ (i : Nat) {m : List Nat}, (∀ c ∈ m, c < 256) → ∀ c ∈ (redoOps bit l i m).1, c < 256
  | [], _, h, i, m, hm => by simp only [OpsV] at h; subst h; exact hm
  | _ :: _, _, h, i, m, hm => by
    obtain ⟨o, os, rfl, h1, h2⟩ := h
    simp only [redoOps]
    exact redoOps_small h2 _ (redoOp_small h1 hm)
end Go.Proofs.Ytobhhedggppneaa
