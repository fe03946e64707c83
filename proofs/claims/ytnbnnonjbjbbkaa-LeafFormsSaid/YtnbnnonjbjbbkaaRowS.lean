/- Pieces of rows of whatever. -/
import Derived.Test.YtnbnnonjbjbbkaaRowK
namespace Go.By
open Go Go.RowKit

/-- What a slice of a row of parts needs of its type. -/
structure RowT (P : Program) (t : TypeId) (s : Nat) : Prop where
  slice : P.underlying t = Option.some (.slice (P.elem t))
  size : ∀ w : World, (sizeOf (P.elem t)).run P w = .ok s w
/-- xs[n:]. -/
theorem RowAt.from_ {α : Type} {K : Kind α} {P : Program} {t : TypeId} (T : RowT P t K.width) {w : World} {p : Option Addr} {cap : Nat} {xs : List α} (h : RowAt K w p cap xs) (n : Nat) (N : Int) (hN : N = n) (hn : n ≤ xs.length) :
    ∃ q c, (∀ w0 : World, (Instr.slice t (.slice p xs.length cap) (Option.some (.int .i64 N)) none none).run P w0 = .ok (.slice q (xs.drop n).length c) w0) ∧ RowAt K w q c (xs.drop n) := by
  subst hN
  have hr := fun w0 => run_slice_l (P := P) w0 t p xs.length cap T.slice .i64 (n : Int) (by omega) (by omega)
  have e2 : (n : Int).toNat = n := by omega
  simp only [T.size, Result.andThen, e2, sliced] at hr
  refine ⟨if cap = n then p else p.map (·.add (n * K.width)), cap - n, fun w0 => by rw [hr, List.length_drop], ?_⟩
  have hle := h.le
  refine ⟨by rw [List.length_drop]; omega, by have := h.most; omega, fun i hi => ?_⟩
  rw [List.length_drop] at hi
  obtain ⟨lb, lo, cs, rfl, h1, h2⟩ := h.at_ (n + i) (by omega)
  rw [if_neg (by omega)]
  refine ⟨lb, lo + n * K.width, cs, by simp [Addr.add], ?_, by simpa using h2⟩
  have e : lo + n * K.width + i * K.width = lo + (n + i) * K.width := by rw [Nat.add_mul]; omega
  rw [e]
  exact h1
/-- xs[:n]. -/
theorem RowAt.upto {α : Type} {K : Kind α} {P : Program} {t : TypeId} (T : RowT P t K.width) {w : World} {p : Option Addr} {cap : Nat} {xs : List α} (h : RowAt K w p cap xs) (n : Nat) (N : Int) (hN : N = n) (hn : n ≤ xs.length) :
    (∀ w0 : World, (Instr.slice t (.slice p xs.length cap) none (Option.some (.int .i64 N)) none).run P w0 = .ok (.slice p (xs.take n).length cap) w0) ∧ RowAt K w p cap (xs.take n) := by
  subst hN
  have hle := h.le
  have hr := fun w0 => run_slice_h (P := P) w0 t p xs.length cap T.slice .i64 (n : Int) (by omega) (by omega)
  have e2 : (n : Int).toNat = n := by omega
  simp only [T.size, Result.andThen, e2, sliced, Nat.zero_mul, Nat.sub_zero] at hr
  have hl : (xs.take n).length = n := by rw [List.length_take]; omega
  refine ⟨fun w0 => ?_, by omega, h.most, fun i hi => ?_⟩
  · rw [hr, hl]
    congr 2
    split
    · rfl
    · cases p with
      | none => rfl
      | some a => simp [Addr.add]
  · obtain ⟨lb, lo, cs, rfl, h1, h2⟩ := h.at_ i (by omega)
    exact ⟨lb, lo, cs, rfl, h1, by simpa using h2⟩
/-- xs[n:m]. -/
theorem RowAt.part {α : Type} {K : Kind α} {P : Program} {t : TypeId} (T : RowT P t K.width) {w : World} {p : Option Addr} {cap : Nat} {xs : List α} (h : RowAt K w p cap xs) (n m : Nat) (N M : Int) (hN : N = n) (hM : M = m) (hnm : n ≤ m) (hn : m ≤ xs.length) :
    ∃ q c, (∀ w0 : World, (Instr.slice t (.slice p xs.length cap) (Option.some (.int .i64 N)) (Option.some (.int .i64 M)) none).run P w0 = .ok (.slice q ((xs.take m).drop n).length c) w0) ∧ RowAt K w q c ((xs.take m).drop n) := by
  subst hN hM
  have hle := h.le
  have hr := fun w0 => run_slice_lh (P := P) w0 t p xs.length cap T.slice .i64 .i64 (n : Int) (m : Int) (by omega) (by omega) (by omega)
  have e1 : (m : Int).toNat = m := by omega
  have e2 : (n : Int).toNat = n := by omega
  simp only [T.size, Result.andThen, e1, e2, sliced] at hr
  have hl : ((xs.take m).drop n).length = m - n := by rw [List.length_drop, List.length_take]; omega
  refine ⟨if cap = n then p else p.map (·.add (n * K.width)), cap - n, fun w0 => by rw [hr, hl], by omega, by have := h.most; omega, fun i hi => ?_⟩
  rw [hl] at hi
  obtain ⟨lb, lo, cs, rfl, h1, h2⟩ := h.at_ (n + i) (by omega)
  rw [if_neg (by omega)]
  refine ⟨lb, lo + n * K.width, cs, by simp [Addr.add], ?_, by simpa using h2⟩
  have e : lo + n * K.width + i * K.width = lo + (n + i) * K.width := by rw [Nat.add_mul]; omega
  rw [e]
  exact h1
end Go.By

