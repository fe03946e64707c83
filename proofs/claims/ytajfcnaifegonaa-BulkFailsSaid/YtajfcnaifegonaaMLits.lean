/- Rows that were written out; worlds of blocks made in a row. -/
import Derived.Test.YtajfcnaifegonaaMNdO
import Derived.Test.YtajfcnaifegonaaMCloneG
namespace Go.By
open Go Go.RowKit
def allocs (w : World) (os : List Obj) : World := os.foldl World.alloc w
theorem allocs_below : ∀ (os : List Obj) (w : World), Below w.heap.size w (allocs w os)
  | [], w => Below.refl _ _
  | o :: os, w => ((Below.refl _ _).alloc (Nat.le_refl _) o).trans ((allocs_below os (w.alloc o)).mono (by simp))
theorem allocs_at : ∀ {os : List Obj} {w : World} {i : Nat} {o : Obj}, os[i]? = some o → (allocs w os).heap[w.heap.size + i]? = some o
  | o' :: os, w, 0, o, h => by
    obtain rfl : o' = o := by simpa using h
    show (allocs (w.alloc o') os).heap[w.heap.size + 0]? = _
    rw [(allocs_below os (w.alloc o')).block _ (by simp)]
    exact heap_alloc_new w o'
  | o' :: os, w, i + 1, o, h => by
    have := allocs_at (os := os) (w := w.alloc o') (i := i) (o := o) (by simpa using h)
    rw [World.size_alloc, Nat.add_assoc, Nat.add_comm 1 i] at this
    exact this
inductive All2 {α β : Type} (R : α → β → Prop) : List α → List β → Prop where
  | nil : All2 R [] []
  | cons {a : α} {b : β} {xs : List α} {ys : List β} : R a b → All2 R xs ys → All2 R (a :: xs) (b :: ys)
theorem All2.len {α β : Type} {R : α → β → Prop} : ∀ {xs : List α} {ys : List β}, All2 R xs ys → xs.length = ys.length
  | _, _, .nil => rfl
  | _, _, .cons _ h => by simp [h.len]
theorem All2.at_ {α β : Type} {R : α → β → Prop} : ∀ {xs : List α} {ys : List β}, All2 R xs ys → ∀ i (h : i < xs.length) (h' : i < ys.length), R xs[i] ys[i]
  | _, _, .cons hr _, 0, _, _ => hr
  | _, _, .cons _ h, i + 1, h1, h2 => h.at_ i (by simpa using h1) (by simpa using h2)
theorem flat_at {m : Nat} : ∀ {css : List (List Value)} (_ : ∀ cs ∈ css, cs.length = m) {i j : Nat} (h : i < css.length), j < m → css.flatten[i * m + j]? = css[i][j]?
  | cs :: css, hm, 0, j, _, hj => by
    rw [List.flatten_cons, Nat.zero_mul, Nat.zero_add, List.getElem?_append_left (by rw [hm cs (by simp)]; exact hj)]
    rfl
  | cs :: css, hm, i + 1, j, h, hj => by
    have hl := hm cs (by simp)
    rw [List.flatten_cons, List.getElem?_append_right (by rw [hl, Nat.succ_mul]; omega), hl, Nat.succ_mul, show i * m + m + j - m = i * m + j by omega]
    exact flat_at (fun c hc => hm c (by simp [hc])) (by simpa using h) hj
theorem RowAt.lit {α : Type} {K : Kind α} {w : World} {g : Nat} {c : Array Value} {T : TypeId} {fr : Nat × Nat} {css : List (List Value)} {xs : List α} {n : Nat} (hg : w.heap[g]? = Option.some (Obj.cells c T fr)) (hc : c = css.flatten.toArray) (ha : All2 (K.is w) css xs) (hn : n = xs.length) (hm : n ≤ maxLen) :
    RowAt K w (Option.some ⟨g, 0, none⟩) n xs := by
  subst hn
  refine ⟨Nat.le_refl _, hm, fun i hi => ?_⟩
  have hi' : i < css.length := by rw [ha.len]; exact hi
  have hk := ha.at_ i hi' hi
  refine ⟨g, 0, css[i], rfl, fun j hj => ?_, hk⟩
  have hall : ∀ cs ∈ css, cs.length = K.width := fun cs hcs => by
    obtain ⟨j, hj, rfl⟩ := List.getElem_of_mem hcs
    exact K.len (ha.at_ j hj (by rw [← ha.len]; exact hj))
  rw [Nat.zero_add, cell_of_row w g _ c T fr hg, hc, List.getElem?_toArray]
  rw [flat_at hall hi' (by rw [K.len hk] at hj; exact hj), List.getElem?_eq_getElem hj]
theorem KItem.mk {w : World} {a b : Value} {i : NIt} (ha : Bytes w a i.k) (hb : Bytes w b i.v) : KItem.is w [a, b] i := ⟨a, b, rfl, ha, hb⟩
theorem KBytes.mk {w : World} {a : Value} {l : List Nat} (ha : Bytes w a l) : KBytes.is w [a] l := ⟨a, rfl, ha⟩
theorem bytes_at {w : World} {g : Nat} {c : Array Value} {T : TypeId} {fr : Nat × Nat} {n : Nat} (l : List Nat) (hg : w.heap[g]? = some (.cells c T fr)) (hc : c = (cellsOf l).toArray) (hn : n = l.length) (hs : ∀ c ∈ l, c < 256) (hm : l.length ≤ maxLen) : Bytes w (.slice (some ⟨g, 0, none⟩) n n) l := by
  subst hn hc
  refine ⟨.inr (.inr ⟨g, 0, l.length, rfl, Nat.le_refl _, fun i hi => ?_⟩), hs, hm⟩
  rw [Nat.zero_add, cell_of_row w g i _ T fr hg, List.getElem?_toArray]
  exact cellsOf_get hi
end Go.By
