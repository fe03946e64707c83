/- rec: the reader. -/
import Derived.Test.YtjpcddgclimmgaaRecA
namespace Go.Proofs.Ytjpcddgclimmgaa
open Go Go.RowKit Go.By

theorem bytT_size (w : World) : (sizeOf (Try.prog.elem 22)).run Try.prog w = .ok 1 w := by kernel_rfl
/-- b[i:i+n]. -/
theorem piece_run {w : World} {p : Option Addr} {cap : Nat} {l : List Nat} (h : Bytes w (.slice p l.length cap) l) (i n : Nat) (hn : i + n ≤ l.length) :
    ∃ q c, (∀ w0 : World, (Instr.slice 22 (.slice p l.length cap) (some (.int .i64 (i : Int))) (some (.int .i64 ((i : Int) + (n : Int)))) none).run Try.prog w0 = .ok (.slice q n c) w0) ∧ Bytes w (.slice q n c) (pc l i n) := by
  have hcap := h.room.2
  have hr := fun w0 => run_slice_lh (P := Try.prog) w0 22 p l.length cap (by kernel_rfl) .i64 .i64 (i : Int) ((i : Int) + (n : Int)) (by omega) (by omega) (by omega)
  have e1 : ((i : Int) + (n : Int)).toNat = i + n := by omega
  have e2 : (i : Int).toNat = i := by omega
  simp only [bytT_size, Result.andThen, e1, e2, sliced, Nat.add_sub_cancel_left, Nat.mul_one] at hr
  refine ⟨_, _, hr, ?_⟩
  have hpl := pc_length hn
  rcases h.out with ⟨h1, rfl⟩ | ⟨a, h1, rfl⟩ | ⟨b, off, cap', h1, h2, hc⟩
  · simp only [Value.slice.injEq] at h1
    obtain ⟨rfl, _, rfl⟩ := h1
    simp only [List.length_nil] at hn
    obtain rfl : i = 0 := by omega
    obtain rfl : n = 0 := by omega
    simpa [pc] using Bytes.nil w
  · simp only [Value.slice.injEq] at h1
    obtain ⟨rfl, _, rfl⟩ := h1
    simp only [List.length_nil] at hn
    obtain rfl : i = 0 := by omega
    obtain rfl : n = 0 := by omega
    simp only [↓reduceIte, Nat.sub_zero, pc, List.drop_nil, List.take_nil]
    exact ⟨.inr (.inl ⟨a, rfl, rfl⟩), by simp, by simp⟩
  · simp only [Value.slice.injEq, true_and] at h1
    obtain ⟨rfl, rfl⟩ := h1
    by_cases he : cap = i
    · obtain rfl : n = 0 := by omega
      rw [if_pos he]
      subst he
      simp only [Nat.sub_self, pc, List.take_zero]
      exact ⟨.inr (.inl ⟨_, rfl, rfl⟩), by simp, by simp⟩
    · rw [if_neg he]
      refine ⟨.inr (.inr ⟨b, off + i, cap - i, by simp [Addr.add_lit, hpl], by rw [hpl]; omega, fun j hj => ?_⟩), pc_small h.small, by rw [hpl]; have := h.short; omega⟩
      rw [hpl] at hj
      rw [Nat.add_assoc, hc (i + j) (by omega), pc_at hj]

/-- The reader, in its block. -/
def Rd (B b : Nat) (w0 w : World) (sv : Value) (i size kind : Nat) (bv : Value) : Prop :=
  w.heap[b]? = some (.cells #[sv, .int .i64 i, .int .i64 size, .int .u8 kind, bv] 40 (0, 0)) ∧ Below B w0 w

theorem cells_of {w : World} {a : Nat} {c : Array Value} {t : TypeId} {fr : Nat × Nat} (h : w.heap[a]? = some (.cells c t fr)) (i : Nat) : w.cell? ⟨a, i, none⟩ = c[i]? := cell_of_row w a i c t fr h
theorem free_of {w : World} {a : Nat} {c : Array Value} {t : TypeId} (h : w.heap[a]? = some (.cells c t (0, 0))) (i : Nat) : w.frozen? ⟨a, i, none⟩ = false := frozen_of_row w a i c t h
theorem set_heap {w : World} {a : Nat} {c : Array Value} {t : TypeId} (h : w.heap[a]? = some (.cells c t (0, 0))) (i : Nat) (v : Value) :
    (w.setCell ⟨a, i, none⟩ v).heap[a]? = some (.cells (c.setIfInBounds i v) t (0, 0)) := heap_setCell_same w a i c t v h

theorem Rd.setAt {B b : Nat} {w0 w : World} {sv : Value} {i size kind : Nat} {bv : Value} (h : Rd B b w0 w sv i size kind bv) (hB : B ≤ b) (j : Nat) : Rd B b w0 (w.setCell ⟨b, 1, none⟩ (.int .i64 j)) sv j size kind bv :=
  ⟨set_heap h.1 1 _, h.2.setCell hB _⟩
theorem Rd.setSize {B b : Nat} {w0 w : World} {sv : Value} {i size kind : Nat} {bv : Value} (h : Rd B b w0 w sv i size kind bv) (hB : B ≤ b) (j : Nat) : Rd B b w0 (w.setCell ⟨b, 2, none⟩ (.int .i64 j)) sv i j kind bv :=
  ⟨set_heap h.1 2 _, h.2.setCell hB _⟩
theorem Rd.setKind {B b : Nat} {w0 w : World} {sv : Value} {i size kind : Nat} {bv : Value} (h : Rd B b w0 w sv i size kind bv) (hB : B ≤ b) (j : Nat) : Rd B b w0 (w.setCell ⟨b, 3, none⟩ (.int .u8 j)) sv i size j bv :=
  ⟨set_heap h.1 3 _, h.2.setCell hB _⟩
theorem Rd.setBody {B b : Nat} {w0 w : World} {sv : Value} {i size kind : Nat} {bv : Value} (h : Rd B b w0 w sv i size kind bv) (hB : B ≤ b) (v : Value) : Rd B b w0 (w.setCell ⟨b, 4, none⟩ v) sv i size kind v :=
  ⟨set_heap h.1 4 _, h.2.setCell hB _⟩
theorem Rd.drew {B b : Nat} {w0 w : World} {sv : Value} {i size kind : Nat} {bv : Value} (h : Rd B b w0 w sv i size kind bv) : Rd B b w0 w.drew sv i size kind bv := ⟨h.1, h.2.drew⟩
theorem Rd.below {B b : Nat} {w0 w w' : World} {sv : Value} {i size kind : Nat} {bv : Value} (h : Rd B b w0 w sv i size kind bv) (hb : Below w.heap.size w w') (hB : B ≤ b) : Rd B b w0 w' sv i size kind bv := by
  have hlt : b < w.heap.size := (Array.getElem?_eq_some_iff.1 h.1).1
  exact ⟨(hb.block b hlt).trans h.1, h.2.trans (hb.mono (by omega))⟩

set_option maxRecDepth 100000 in
theorem next_no (B b : Nat) (w0 w : World) (sv : Value) (l : List Nat) (i size kind n : Nat) (bv : Value) (h : Rd B b w0 w sv i size kind bv) (hsv : Bytes w0 sv l) (hi : i ≤ l.length) (hn : n ≤ 4611686018427387904) (hlt : l.length < i + n) :
    Calls Try.prog 26 #[.pointer (some ⟨b, 0, none⟩), .int .i64 n] w fun e w' => e = .returned (.tuple #[.slice none 0 0, .bool false]) ∧ Rd B b w0 w' sv i size kind bv := by
  obtain ⟨p, cap, rfl, _⟩ := hsv.any
  have hm := hsv.short
  unfold maxLen at hm
  clear hsv
  have c0 := cells_of h.1 0
  have c1 := cells_of h.1 1
  simp only [List.getElem?_toArray, List.getElem?_cons_zero, List.getElem?_cons_succ] at c0 c1
  have H := Lib.hid h; clear h
  have b1 : (l.length : Int) - i < n := by omega
  clear hlt
  go_enter Try.func26, Try.ntmps26
  go_wp2
  go_region
  go_wp2
  go_ret2
  exact ⟨rfl, H.out.drew⟩

set_option maxRecDepth 100000 in
theorem next_yes (B b : Nat) (w0 w : World) (sv : Value) (l : List Nat) (i size kind n : Nat) (bv : Value) (h : Rd B b w0 w sv i size kind bv) (hsv : Bytes w0 sv l) (hB : B ≤ b) (hlt : i + n ≤ l.length) :
    Calls Try.prog 26 #[.pointer (some ⟨b, 0, none⟩), .int .i64 n] w fun e w' => ∃ q c, e = .returned (.tuple #[.slice q n c, .bool true]) ∧ Bytes w0 (.slice q n c) (pc l i n) ∧ Rd B b w0 w' sv (i + n) size kind bv := by
  obtain ⟨p, cap, rfl, _⟩ := hsv.any
  have hm := hsv.short
  unfold maxLen at hm
  obtain ⟨q, c, hsl, hbq⟩ := piece_run hsv i n hlt
  have HBZ := Lib.hid hbq
  clear hsv hbq
  have c0 := cells_of h.1 0
  have c1 := cells_of h.1 1
  have f0 := free_of h.1
  simp only [List.getElem?_toArray, List.getElem?_cons_zero, List.getElem?_cons_succ] at c0 c1
  have H2 := Lib.hid (h.drew.setAt hB (i + n))
  have H := Lib.hid h; clear h
  have b1 : ¬ (l.length : Int) - i < n := by omega
  clear hlt
  go_enter Try.func26, Try.ntmps26
  go_wp2
  go_region
  go_wp2
  go_region
  go_wp2
  go_ret2
  exact ⟨_, _, rfl, HBZ.out, H2.out.drew⟩
end Go.Proofs.Ytjpcddgclimmgaa
