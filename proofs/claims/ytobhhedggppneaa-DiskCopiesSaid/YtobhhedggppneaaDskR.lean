/- The disk: Write. -/
import Derived.Test.YtobhhedggppneaaDskQ
namespace Go.Proofs.Ytobhhedggppneaa
open Go Go.RowKit Go.By

theorem putL_length (l : List Nat) (off : Nat) (p : List Nat) : (putL l off p).length = max l.length (off + p.length) := by
  unfold putL
  split
  · rw [overL_length (by rw [fitL_length]; omega), fitL_length]; omega
  · rw [overL_length (by omega)]; omega
theorem redoWrite_length {off : Nat} {b : List Nat} {bit : Nat → Bool} : ∀ (f k i : Nat) (l : List Nat), k ≤ b.length → l.length ≤ (redoWrite off b bit f k i l).1.length ∧ (redoWrite off b bit f k i l).1.length ≤ max l.length (off + b.length)
  | 0, _, _, _, _ => ⟨Nat.le_refl _, Nat.le_max_left _ _⟩
  | f + 1, k, i, l, hk => by
    unfold redoWrite
    split
    · rename_i hlt
      have hp := pieceLen_le off b.length k
      have hp0 := pieceLen_pos (off := off) hlt
      have h := redoWrite_length (off := off) (b := b) (bit := bit) f (k + pieceLen off b.length k) (i + 1) (if bit i then putL l (off + k) ((b.drop k).take (pieceLen off b.length k)) else l) (by omega)
      have hl : ((b.drop k).take (pieceLen off b.length k)).length = pieceLen off b.length k := by simp; omega
      split at h
      · rename_i hb
        rw [putL_length, hl] at h
        rw [if_pos hb]
        exact ⟨by omega, by omega⟩
      · rename_i hb
        rw [if_neg hb]
        exact h
    · exact ⟨Nat.le_refl _, Nat.le_max_left _ _⟩

theorem Bytes.steps {own own' : Own} {w w' : World} {v : Value} {l : List Nat} (h : Bytes w v l) (hs : Steps own own' w w') (hk : ∀ k, v.ownBlock = some k → own k = none ∨ own k = some .ink) : Bytes w' v l where
  out := by
    rcases h.out with h1 | h1 | ⟨b, off, cap, rfl, h2, hc⟩
    · exact .inl h1
    · exact .inr (.inl h1)
    · refine .inr (.inr ⟨b, off, cap, rfl, h2, fun i hi => ?_⟩)
      have := hc i hi
      exact (World.cell?_of_block (hs.block b (block_lt_of_cell this) (hk b rfl))).trans this
  small := h.small
  short := h.short

theorem Bytes.stepsE {own own' : Own} {w w' : World} {v : Value} {l : List Nat} (h : Bytes w v l) (hs : Steps own own' w w') (hk : l ≠ [] → ∀ k, v.ownBlock = some k → own k = none ∨ own k = some .ink) : Bytes w' v l where
  out := by
    rcases h.out with h1 | h1 | ⟨b, off, cap, rfl, h2, hc⟩
    · exact .inl h1
    · exact .inr (.inl h1)
    · refine .inr (.inr ⟨b, off, cap, rfl, h2, fun i hi => ?_⟩)
      have := hc i hi
      exact (World.cell?_of_block (hs.block b (block_lt_of_cell this) (hk (by intro e; subst e; exact absurd hi (Nat.not_lt_zero _)) b rfl))).trans this
  small := h.small
  short := h.short

theorem Bytes.same {w w' : World} {v : Value} {l : List Nat} (h : Bytes w v l) (e : w'.heap = w.heap) : Bytes w' v l where
  out := by
    rcases h.out with h1 | h1 | ⟨b, off, cap, rfl, h2, hc⟩
    · exact .inl h1
    · exact .inr (.inl h1)
    · exact .inr (.inr ⟨b, off, cap, rfl, h2, fun i hi => (World.cell?_of_block (by rw [e])).trans (hc i hi)⟩)
  small := h.small
  short := h.short

/-- A copy of some bytes becomes the disk's ink. -/
theorem inked {own : Own} {w w' : World} {a : Nat} {D : DiskA} {v : Value} {l : List Nat} (h : DiskIs w own a D) (hown : w'.ownsRow 0 5 1 v l.length (cellsOf l)) (hk : ∀ k, v.ownBlock = some k → w.heap.size ≤ k) (hb : Below w.heap.size w w') :
    ∃ own', DiskIs w' own' a D ∧ Steps own own' w w' ∧ ∀ k, v.ownBlock = some k → own' k = some .ink := by
  obtain ⟨o1, a1, a2, a3, a4⟩ := own_went h.here (v := .slice none 0 0) (v' := v) (r := .ink) (w' := w') (fun k hk => by cases hk) (by
    cases e : v.ownBlock with
    | none => exact .inl rfl
    | some q => exact .inr ⟨q, rfl, hk q e⟩) (fun k hk => by
    rcases hown.2 with ⟨e, _⟩ | ⟨g, c, cur, e, _, hg, _⟩
    · rw [e] at hk; cases hk
    · rw [e] at hk; cases hk; exact (Array.getElem?_eq_some_iff.1 hg).1)
  obtain ⟨ms, mk, mf, lv, h1, h2⟩ := h.out
  have hs : Stay own o1 (fun _ => True) w w' := ⟨a2, fun k r hk _ => hb.block k (h.here k r hk)⟩
  refine ⟨o1, ⟨⟨ms, mk, mf, lv, (hs.block a _ h.role trivial).trans h1, h2.stay (hs.weaken fun _ _ => trivial)⟩, a2 a _ h.role, fun k hk => ?_, fun k r hk => ?_⟩, ⟨hb.os, hb.tape, hb.output, hb.size, fun k hk _ => hb.block k hk, a1⟩, a3⟩
  · rcases a4 k _ hk with h' | ⟨_, _, h'⟩
    · exact h.only k h'
    · cases h'
  · rcases a4 k r hk with h' | ⟨_, h', _⟩
    · exact Nat.lt_of_lt_of_le (h.here k r h') hb.size
    · exact h'

def DiskA.write (D : DiskA) (n : Nat) (off : Int) (b : List Nat) (x : Int) (D2 : DiskA) : Prop :=
  (b = [] ∧ x = 0 ∧ D2 = D) ∨ (b ≠ [] ∧ D.hasRoom n (off + b.length) = false ∧ x = 4 ∧ D2 = D) ∨ (b ≠ [] ∧ D.hasRoom n (off + b.length) = true ∧ x = 0 ∧ D2 = D.alterFile n (.write off.toNat b))

theorem same_steps {own : Own} {w w0 : World} (e1 : w0.heap = w.heap) (e2 : w0.os = w.os) (e3 : w0.tape = w.tape) (e4 : w0.output = w.output) : Steps own own w w0 :=
  ⟨e2, e3, e4, by rw [e1]; exact Nat.le_refl _, fun k _ _ => by rw [e1], fun _ _ => rfl⟩
theorem DiskIs.same {own : Own} {w w0 : World} {a : Nat} {D : DiskA} (h : DiskIs w own a D) (e1 : w0.heap = w.heap) : DiskIs w0 own a D :=
  h.turn (fun k _ => by rw [e1]) (by rw [e1]; exact Nat.le_refl _) (fun ms mk mf lv q1 q2 => ⟨ms, mk, mf, lv, by rw [e1]; exact q1, q2⟩)

/-- Behind the copy, the rest of a write. -/
def WriteRest (own : Own) (a n fb : Nat) (D1 : DiskA) (off : Nat) (b : List Nat) (x : Int) (w w4 : World) (v : Value) : Prop :=
  w4.cell? ⟨a, 1, none⟩ = some (.int .i64 D1.used) ∧
  ∀ w0 : World, w0.heap = w4.heap → w0.os = w4.os → w0.tape = w4.tape → w0.output = w4.output → Calls Try.prog 30 #[.pointer (some ⟨fb, 0, none⟩), .func (.func 32) #[.agg #[.int .i64 off, v]] #[]] w0 fun e w' => e = .returned (.int .i64 x) ∧
    w'.cell? ⟨a, 1, none⟩ = some (.int .i64 D1.used) ∧ w'.frozen? ⟨a, 1, none⟩ = false ∧
    ∃ own', Steps own own' w (w'.setCell ⟨a, 1, none⟩ (.int .i64 (D1.used + x))) ∧ DiskIs (w'.setCell ⟨a, 1, none⟩ (.int .i64 (D1.used + x))) own' a (D1.alterFile n (.write off b))

theorem write_rest {own : Own} {a n fb : Nat} {D1 : DiskA} {off : Nat} {b : List Nat} {w w2 w3 w4 : World} {v : Value} (hd : DiskIs w2 own a D1) (hst : Steps own own w w2) (hfb : Mp.get D1.fm n = some fb) (hl : (D1.cont n).laid.length < 1000000) (hoff : off ≤ 16777216) (hb0 : 0 < b.length) (hbl : b.length ≤ 1048576) (hs : ∀ c ∈ b, c < 256)
    (e1 : w3.heap = w2.heap) (e2 : w3.os = w2.os) (e3 : w3.tape = w2.tape) (e4 : w3.output = w2.output)
    (hown : w4.ownsRow 0 5 1 v b.length (cellsOf b)) (hk : ∀ k, v.ownBlock = some k → w3.heap.size ≤ k) (hbel : Below w3.heap.size w3 w4) : WriteRest own a n fb D1 off b ((D1.cont n).more (.write off b)) w w4 v := by
  have hd3 := hd.same e1
  obtain ⟨o1, hd4, hs4, hink⟩ := inked hd3 hown hk hbel
  obtain ⟨ms, mk, mf, lv, h1, _⟩ := hd4.out
  refine ⟨cells_of h1 1, fun w0 q1 q2 q3 q4 => ?_⟩
  have hd0 := hd4.same q1
  have ho : OpV w0 o1 (.func (.func 32) #[.agg #[.int .i64 off, v]] #[]) (.write off b) :=
    ⟨v, rfl, Bytes.of_owns (ownsRow_of_heap hown fun k _ => by rw [q1]) hs (by unfold maxLen; omega), hink, hb0, hoff, hbl⟩
  refine (alterDisk_any o1 a n fb D1 _ (.write off b) w0 hd0 hfb ho hl).mono ?_
  rintro e w' ⟨k1, k2, k3, own', k4, k5⟩
  exact ⟨k1, k2, k3, own', (((hst.trans (same_steps e1 e2 e3 e4)).trans hs4).trans (same_steps q1 q2 q3 q4)).trans k4, k5⟩
end Go.Proofs.Ytobhhedggppneaa
