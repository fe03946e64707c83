/- Events in a program: what taking them comes to. -/
import Derived.Test.YtjjcfflgndclkaaEvA
import Derived.Test.YtjjcfflgndclkaaEvC
import Derived.Deep.RegionHeld
import Derived.Laws.ResultCell
import Derived.Laws.Rows
namespace Go.Proofs.Ytjjcfflgndclkaa
open Go Go.RowKit Go.By

/-- Bytes lie in no block of an event. -/
theorem bytes_off {w w' : World} {v : Value} {l : List Nat} {g : Nat} {q r : Int} {s t : ByteArray} {u : Value} (h : Bytes w v l) (hg : w.heap[g]? = some (.cells #[.int .i64 q, .string s, .int .i64 r, .string t, u] 24 (0, 0))) (hu : ∀ k n, u ≠ .int k n) (hk : ∀ k, k < w.heap.size → k ≠ g → w'.heap[k]? = w.heap[k]?) : Bytes w' v l where
  out := by
    rcases h.out with h1 | h1 | ⟨b', off, cap, rfl, h2, hc⟩
    · exact .inl h1
    · exact .inr (.inl h1)
    · refine .inr <| .inr ⟨b', off, cap, rfl, h2, fun i hi => ?_⟩
      have hci := hc i hi
      have hlt := block_lt_of_cell hci
      have hne : b' ≠ g := by
        rintro rfl
        rw [cells_of hg] at hci
        match off + i, hci with
        | 0, hci => simp at hci
        | 1, hci => simp at hci
        | 2, hci => simp at hci
        | 3, hci => simp at hci
        | 4, hci => simp at hci; exact hu _ _ hci
        | k + 5, hci => simp at hci
      rw [World.cell?_of_block (w := w) (hk b' hlt hne)]
      exact hci
  small := h.small
  short := h.short
theorem ev_chain {l l2 l3 l5 l6 l8 : List Nat} {b2 b3 b5 b6 b8 : Bool} (h2 : rdS l2 b2 = (rdTake 8 (rdS l false)).2) (h3 : rdS l3 b3 = (rdTake 8 (rdS l2 b2)).2) (h5 : rdS l5 b5 = (rdText (rdS l3 b3)).2) (h6 : rdS l6 b6 = (rdText (rdS l5 b5)).2) (h8 : rdS l8 b8 = (rdText (rdS l6 b6)).2) :
    rdEv (some l) = ⟨(rdTake 8 (rdS l false)).1, (rdTake 8 (rdS l2 b2)).1, (rdText (rdS l3 b3)).1, (rdText (rdS l5 b5)).1, (rdText (rdS l6 b6)).1, rdS l8 b8⟩ := by
  have e : rdEv (some l) = rdEv (rdS l false) := rfl
  rw [e]
  unfold rdEv
  simp only [← h2, ← h3, ← h5, ← h6, ← h8]
theorem takeEv_bad {l : List Nat} (h : (rdEv (some l)).s ≠ some []) : takeEv l = none := by
  unfold takeEv
  rw [if_neg (fun k => h k.1)]
theorem takeEv_not {l : List Nat} (h : mayEv (evRd (rdEv (some l))) = false) : takeEv l = none := by
  unfold takeEv
  rw [if_neg (fun k => by rw [h] at k; cases k.2)]
theorem takeEv_yes {l : List Nat} (h : (rdEv (some l)).s = some []) (h2 : mayEv (evRd (rdEv (some l))) = true) : takeEv l = some (evRd (rdEv (some l))) := by
  unfold takeEv
  rw [if_pos ⟨h, h2⟩]
theorem strOf_max {l : List Nat} (hl : l.length ≤ maxLen) : (strOf l).size ≤ maxLen := by
  have h := strOf_toList l
  rw [Lib.toList_data] at h
  have h2 := congrArg List.length h
  rw [List.length_map] at h2
  have h3 : (strOf l).size = l.length := h2
  rw [h3]; exact hl
theorem RdIs.drew {w : World} {g : Nat} {l : List Nat} {bad : Bool} (h : RdIs w g l bad) : RdIs w.drew g l bad := let ⟨v, h1, h2⟩ := h; ⟨v, h1, bytes_drewN h2 1⟩

theorem rdTake_in {n : Nat} {s : Option (List Nat)} {l : List Nat} (h : ∀ m, s = some m → ∀ c ∈ m, c ∈ l) : (∀ c ∈ (rdTake n s).1, c ∈ l) ∧ ∀ m, (rdTake n s).2 = some m → ∀ c ∈ m, c ∈ l := by
  unfold rdTake
  cases s with
  | none => exact ⟨fun c hc => (by cases hc), fun m hm => (by cases hm)⟩
  | some k =>
    dsimp only
    have hk := h k rfl
    split
    · refine ⟨fun c hc => hk c (List.mem_of_mem_take hc), fun m hm c hc => ?_⟩
      cases hm
      exact hk c (List.mem_of_mem_drop hc)
    · exact ⟨fun c hc => (by cases hc), fun m hm => (by cases hm)⟩
theorem rdText_small {l : List Nat} {bad : Bool} (h : ∀ c ∈ l, c < 256) : ∀ c ∈ (rdText (rdS l bad)).1, c < 256 := by
  intro c hc
  unfold rdText at hc
  have h1 := rdTake_in (n := 1) (s := rdS l bad) (l := l) (fun m hm c hc => by
    unfold rdS at hm
    cases bad <;> simp at hm
    subst hm; exact hc)
  exact h c ((rdTake_in h1.2).1 c hc)

/-- The block of the answer, while the reader reads. -/
def AnsAt (w : World) (A : Nat) : Prop := w.heap[A]? = some (.cells #[.int .i64 0, .string ⟨#[]⟩, .int .i64 0, .string ⟨#[]⟩, .slice none 0 0] 24 (0, 0))
/-- An answer is laid over it. -/
theorem ans_set {w : World} {A : Nat} (h : AnsAt w A) (q r : Int) (s t : ByteArray) (d : Value) :
    (((((w.setCell ⟨A, 0, none⟩ (.int .i64 q)).setCell ⟨A, 1, none⟩ (.string s)).setCell ⟨A, 2, none⟩ (.int .i64 r)).setCell ⟨A, 3, none⟩ (.string t)).setCell ⟨A, 4, none⟩ d).heap[A]? = some (.cells #[.int .i64 q, .string s, .int .i64 r, .string t, d] 24 (0, 0)) :=
  heap_setCell_same _ A 4 _ _ d (heap_setCell_same _ A 3 _ _ (.string t) (heap_setCell_same _ A 2 _ _ (.int .i64 r) (heap_setCell_same _ A 1 _ _ (.string s) (heap_setCell_same _ A 0 _ _ (.int .i64 q) h))))
theorem ans_below {B : Nat} {w0 w : World} {A : Nat} (h : Below B w0 w) (hB : B ≤ A) (q r : Int) (s t : ByteArray) (d : Value) :
    Below B w0 (((((w.setCell ⟨A, 0, none⟩ (.int .i64 q)).setCell ⟨A, 1, none⟩ (.string s)).setCell ⟨A, 2, none⟩ (.int .i64 r)).setCell ⟨A, 3, none⟩ (.string t)).setCell ⟨A, 4, none⟩ d) :=
  ((((h.setCell (p := ⟨A, 0, none⟩) hB _).setCell (p := ⟨A, 1, none⟩) hB _).setCell (p := ⟨A, 2, none⟩) hB _).setCell (p := ⟨A, 3, none⟩) hB _).setCell (p := ⟨A, 4, none⟩) hB _
theorem ans_isEv {w : World} {A : Nat} {x : Value} {e : Ev} {q r : Int} {s t : ByteArray} {v : Value} (h : IsEv w x e q r s t v) (ha : AnsAt w A) (q' r' : Int) (s' t' : ByteArray) (d' : Value) :
    IsEv (((((w.setCell ⟨A, 0, none⟩ (.int .i64 q')).setCell ⟨A, 1, none⟩ (.string s')).setCell ⟨A, 2, none⟩ (.int .i64 r')).setCell ⟨A, 3, none⟩ (.string t')).setCell ⟨A, 4, none⟩ d') x e q r s t v :=
  ⟨h.val, h.ev, bytes_off h.da ha (fun _ _ h => by cases h) (fun k _ hne => by
    rw [heap_setCell_other _ _ k _ hne, heap_setCell_other _ _ k _ hne, heap_setCell_other _ _ k _ hne, heap_setCell_other _ _ k _ hne, heap_setCell_other _ _ k _ hne]), h.q63, h.r63, h.s63, h.t63⟩
end Go.Proofs.Ytjjcfflgndclkaa

