/- The disk: what was laid by is done again, piece by piece. -/
import Derived.Test.YtobhhedggppneaaDskH
namespace Go.Proofs.Ytobhhedggppneaa
open Go Go.RowKit Go.By

/-- Only blocks of this set, and new ones, are turned. -/
structure Turned (S : Nat → Prop) (w w' : World) : Prop where
  os : w'.os = w.os
  tape : w'.tape = w.tape
  output : w'.output = w.output
  size : w.heap.size ≤ w'.heap.size
  block : ∀ k, k < w.heap.size → ¬ S k → w'.heap[k]? = w.heap[k]?
theorem Turned.refl (S : Nat → Prop) (w : World) : Turned S w w := ⟨rfl, rfl, rfl, Nat.le_refl _, fun _ _ _ => rfl⟩
theorem Turned.trans {S S' : Nat → Prop} {w w1 w2 : World} (h : Turned S w w1) (k : Turned S' w1 w2) (hS : ∀ j, S' j → S j ∨ w.heap.size ≤ j) : Turned S w w2 :=
  ⟨k.os.trans h.os, k.tape.trans h.tape, k.output.trans h.output, Nat.le_trans h.size k.size, fun j hj hn => (k.block j (Nat.lt_of_lt_of_le hj h.size) (fun hs => by
    rcases hS j hs with h' | h'
    · exact hn h'
    · omega)).trans (h.block j hj hn)⟩
theorem Turned.of_grown {w w' : World} {row : Option Nat} (h : w.grownBy w' row) : Turned (fun k => row = some k) w w' := ⟨h.os, h.tape, h.output, h.size, fun k hk hn => h.block k hk (fun e => hn e.symm)⟩
theorem Turned.weaken {S S' : Nat → Prop} {w w' : World} (h : Turned S w w') (hS : ∀ k, S k → S' k) : Turned S' w w' := ⟨h.os, h.tape, h.output, h.size, fun k hk hn => h.block k hk (fun hs => hn (hS k hs))⟩
theorem Turned.drew {S : Nat → Prop} {w w' : World} (h : Turned S w w') : Turned S w w'.drew := ⟨h.os, h.tape, h.output, h.size, h.block⟩
theorem Turned.alloc {S : Nat → Prop} {w w' : World} (h : Turned S w w') (o : Obj) : Turned S w (w'.alloc o) :=
  ⟨h.os, h.tape, h.output, Nat.le_trans h.size (by simp), fun k hk hn => (Below.heap_alloc w' o k (Nat.lt_of_lt_of_le hk h.size)).trans (h.block k hk hn)⟩

/-- More often it is not asked. -/
def drawLim : Nat := 1152921504606846976

/-- What tells, one piece after the other, whether it lasts. It hangs on the blocks of S alone, and turns lb alone. -/
structure Lasts (fid : FuncId) (first : Array Value) (S : Nat → Prop) (lb : Option Nat) (I : Nat → World → Prop) (bit : Nat → Bool) : Prop where
  call : ∀ i w, I i w → i < drawLim → Calls Try.prog fid first w fun e w' => e = .returned (.bool (bit i)) ∧ I (i + 1) w' ∧ w.grownBy w' lb
  stay : ∀ i w w', I i w → (∀ k, S k → w'.heap[k]? = w.heap[k]?) → I i w'
  here : ∀ i w k, I i w → S k → k < w.heap.size
  own : ∀ k, lb = some k → S k
  enter : ∀ args w, (callFunc fid args).run Try.prog w = .ok (.enter fid args) w

theorem always_lasts : Lasts 34 #[] (fun _ => False) none (fun _ _ => True) (fun _ => true) where
  call := by
    intro i w _ _
    go_enter Try.func34, Try.ntmps34
    go_wp2
    go_ret
    exact ⟨rfl, trivial, World.grownBy.refl _ _⟩
  stay := fun _ _ _ _ _ => trivial
  here := fun _ _ _ _ h => h.elim
  own := fun _ h => by cases h
  enter := by intro args w; kernel_rfl

/-- How many bytes the next piece has. -/
def pieceLen (off n at_ : Nat) : Nat := min (128 - (off + at_) % 128) (n - at_)
/-- A write, done again from a place on: the row, and how many pieces were asked for. -/
def redoWrite (off : Nat) (b : List Nat) (bit : Nat → Bool) : Nat → Nat → Nat → List Nat → List Nat × Nat
  | 0, _, i, l => (l, i)
  | fuel + 1, at_, i, l =>
    if at_ < b.length then redoWrite off b bit fuel (at_ + pieceLen off b.length at_) (i + 1) (if bit i then putL l (off + at_) ((b.drop at_).take (pieceLen off b.length at_)) else l)
    else (l, i)

/-- The row behind some rounds. -/
structure RowTo (S : Nat → Prop) (lb : Option Nat) (w w' : World) (v v' : Value) (l : List Nat) : Prop where
  owns : w'.ownsRow 0 5 1 v' l.length (cellsOf l)
  turned : Turned (fun k => v.ownBlock = some k ∨ lb = some k) w w'
  moved : v'.ownBlock = v.ownBlock ∨ ∃ k, v'.ownBlock = some k ∧ w.heap.size ≤ k

end Go.Proofs.Ytobhhedggppneaa
