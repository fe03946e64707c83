/- Rows of bytes in a program: makes, pieces, rows that are filled. -/
import Derived.Test.YtajfcnaifegonaaMDskA
import Derived.Test.YtajfcnaifegonaaMSlA
import Derived.Handy
import Derived.Maps.AppendAt
import Derived.Laws.OwnMore
import Derived.Laws.CopyOwn
import Derived.Deep.RegionLaw
import Derived.Deep.QuietTactic
import Derived.BigQuiet
import Derived.Deep.RegionHeld3
import Derived.Lib.SliceRun
namespace Go.By
open Go Go.RowKit
end Go.By
namespace Go.Proofs.Ytajfcnaifegonaa.Sl
open Go Go.RowKit Go.By
theorem grownBy_alloc {w w' : World} {o : Obj} {r : Option Nat} (h : (w.alloc o).grownBy w' r) : w.grownBy w' r :=
  ⟨h.os, h.tape, h.output, by have := h.size; simp at this; omega, fun k hk hn => (h.block k (by simp; omega) hn).trans (Below.heap_alloc w o k hk)⟩
theorem owns_below {w w' : World} {base : Nat} {e : TypeId} {v : Value} {n : Nat} {xs : List Value} (h : w.ownsRow base e 1 v n xs) (hb : Below w.heap.size w w') : w'.ownsRow base e 1 v n xs :=
  ⟨h.1, by
    rcases h.2 with h2 | ⟨g, cap, cur, h1, h2, h3, h4⟩
    · exact .inl h2
    · exact .inr ⟨g, cap, cur, h1, h2, (hb.block g (Array.getElem?_eq_some_iff.1 h3).1).trans h3, h4⟩⟩
def zeros (n : Nat) : Array Value := (cellsOf (List.replicate n 0)).toArray
theorem zeros_size (n : Nat) : (zeros n).size = n := by simp [zeros, cellsOf]
theorem made_run (m c : Nat) (M C : Int) (hM : M = m) (hC : C = c) (hmc : m ≤ c) (hc : c < 1099511627776) (w : World) : (Instr.makeSlice 31 (.int .i64 M) (.int .i64 C)).run Try.prog w = .ok (.slice (some ⟨w.heap.size, 0, none⟩) m c) (w.alloc (.cells (zeros c) 5)) := by
  subst hM hC
  obtain ⟨i, hi, hz, hz1, hz2⟩ := info_parts byT.info
  have h := run_make (P := Try.prog) (w := w) 31 5 i (.int .u8 0) byT.slice hi hz .i64 .i64 (m : Int) (c : Int) (by omega) (by omega) (by rw [hz2]; omega) (by omega)
  rw [h]
  have e : madeCells (Value.int .u8 0).cells ((c : Int).toNat * i.size) = zeros c := by
    rw [hz1]
    apply Array.toList_inj.1
    apply List.ext_getElem
    · simp [madeCells, cellsOf, zeros]
    · intro j h1 h2
      simp [madeCells, cellsOf, zeros, Value.cells, Nat.mod_one]
  rw [e]; simp
theorem bytT_size (w : World) : (sizeOf (Try.prog.elem 31)).run Try.prog w = .ok 1 w := by kernel_rfl
theorem piece_run {w : World} {p : Option Addr} {cap : Nat} {l : List Nat} (h : Bytes w (.slice p l.length cap) l) (i n : Nat) (hn : i + n ≤ l.length) :
    ∃ q c, (∀ w0 : World, (Instr.slice 31 (.slice p l.length cap) (some (.int .i64 (i : Int))) (some (.int .i64 ((i : Int) + (n : Int)))) none).run Try.prog w0 = .ok (.slice q n c) w0) ∧ Bytes w (.slice q n c) (pc l i n) := by
  have hcap := h.room.2
  have hr := fun w0 => run_slice_lh (P := Try.prog) w0 31 p l.length cap (by kernel_rfl) .i64 .i64 (i : Int) ((i : Int) + (n : Int)) (by omega) (by omega) (by omega)
  have e1 : ((i : Int) + (n : Int)).toNat = i + n := by omega
  have e2 : (i : Int).toNat = i := by omega
  simp only [bytT_size, Result.andThen, e1, e2, sliced, Nat.add_sub_cancel_left, Nat.mul_one] at hr
  refine ⟨_, _, hr, ?_⟩
  have hpl := pc_length hn
  rcases h.out with ⟨h1, rfl⟩ | ⟨a, h1, rfl⟩ | ⟨b, off, cap', h1, h2, hc⟩
  · simp only [Value.slice.injEq] at h1
    obtain ⟨rfl, _, rfl⟩ := h1
    simp only [List.length_nil] at hn
    obtain rfl : i = 0 := by omega
    obtain rfl : n = 0 := by omega
    simpa [pc] using Bytes.nil w
  · simp only [Value.slice.injEq] at h1
    obtain ⟨rfl, _, rfl⟩ := h1
    simp only [List.length_nil] at hn
    obtain rfl : i = 0 := by omega
    obtain rfl : n = 0 := by omega
    simp only [↓reduceIte, Nat.sub_zero, pc, List.drop_nil, List.take_nil]
    exact ⟨.inr (.inl ⟨a, rfl, rfl⟩), by simp, by simp⟩
  · simp only [Value.slice.injEq, true_and] at h1
    obtain ⟨rfl, rfl⟩ := h1
    by_cases he : cap = i
    · obtain rfl : n = 0 := by omega
      rw [if_pos he]
      subst he
      simp only [Nat.sub_self, pc, List.take_zero]
      exact ⟨.inr (.inl ⟨_, rfl, rfl⟩), by simp, by simp⟩
    · rw [if_neg he]
      refine ⟨.inr (.inr ⟨b, off + i, cap - i, by simp [Addr.add_lit, hpl], by rw [hpl]; omega, fun j hj => ?_⟩), pc_small h.small, by rw [hpl]; have := h.short; omega⟩
      rw [hpl] at hj
      rw [Nat.add_assoc, hc (i + j) (by omega), pc_at hj]
theorem cells_of {w : World} {a : Nat} {c : Array Value} {t : TypeId} {fr : Nat × Nat} (h : w.heap[a]? = some (.cells c t fr)) (i : Nat) : w.cell? ⟨a, i, none⟩ = c[i]? := cell_of_row w a i c t fr h
theorem free_of {w : World} {a : Nat} {c : Array Value} {t : TypeId} (h : w.heap[a]? = some (.cells c t (0, 0))) (i : Nat) : w.frozen? ⟨a, i, none⟩ = false := frozen_of_row w a i c t h
theorem set_heap {w : World} {a : Nat} {c : Array Value} {t : TypeId} (h : w.heap[a]? = some (.cells c t (0, 0))) (i : Nat) (v : Value) :
    (w.setCell ⟨a, i, none⟩ v).heap[a]? = some (.cells (c.setIfInBounds i v) t (0, 0)) := heap_setCell_same w a i c t v h
set_option maxRecDepth 100000 in
theorem upto_run (p : Option Addr) (len cap n : Nat) (hn : n ≤ cap) (w : World) : (Instr.slice 31 (.slice p len cap) none (some (.int .i64 (n : Int))) none).run Try.prog w = .ok (.slice p n cap) w := by
  have hr := run_slice_h (P := Try.prog) w 31 p len cap (by kernel_rfl) .i64 (n : Int) (by omega) (by omega)
  have e2 : (n : Int).toNat = n := by omega
  simp only [bytT_size, Result.andThen, e2, sliced, Nat.zero_mul, Nat.sub_zero] at hr
  rw [hr]
  congr 2
  split
  · rfl
  · cases p with
    | none => rfl
    | some a => simp [Addr.add]
theorem upto_runI (p : Option Addr) (len cap n : Nat) (N : Int) (hN : N = n) (hn : n ≤ cap) (w : World) : (Instr.slice 31 (.slice p len cap) none (some (.int .i64 N)) none).run Try.prog w = .ok (.slice p n cap) w := by
  subst hN; exact upto_run p len cap n hn w
theorem shape_of {w : World} {base : Nat} {v : Value} {l : List Nat} (h : w.ownsRow base 5 1 v l.length (cellsOf l)) : ∃ p c, v = .slice p l.length c := by
  rcases h.2 with ⟨h, h2⟩ | ⟨g, c, _, h, _⟩
  · exact ⟨none, 0, by rw [h]; congr 1; omega⟩
  · exact ⟨_, c, by rw [h]⟩
def Filled (w0 w : World) (L : List Nat) : Prop := w.heap[w0.heap.size]? = some (.cells (cellsOf L).toArray 5 (0, 0)) ∧ Below w0.heap.size w0 w
theorem Filled.set {w0 w : World} {L : List Nat} (h : Filled w0 w L) (i y : Nat) : Filled w0 (w.setCell ⟨w0.heap.size, i, none⟩ (.int .u8 y)) (L.set i y) := by
  refine ⟨?_, h.2.setCell (Nat.le_refl _) _⟩
  have := heap_setCell_same w w0.heap.size i (cellsOf L).toArray 5 (.int .u8 (y : Int)) h.1
  rw [this]
  congr 2
  rw [← cellsOf_set]
  simp
theorem Filled.cell {w0 w : World} {L : List Nat} (h : Filled w0 w L) {i : Nat} (hi : i < L.length) : w.cell? ⟨w0.heap.size, i, none⟩ = some (.int .u8 (atB L i : Nat)) := by
  rw [cell_of_row w w0.heap.size i (cellsOf L).toArray 5 (0, 0) h.1, List.getElem?_toArray]
  exact cellsOf_get hi
theorem Filled.free {w0 w : World} {L : List Nat} (h : Filled w0 w L) (i : Nat) : w.frozen? ⟨w0.heap.size, i, none⟩ = false := frozen_of_row w w0.heap.size i _ 5 h.1
theorem Filled.owns {w0 w : World} {L : List Nat} (h : Filled w0 w L) (hm : L.length ≤ maxLen) : w.ownsRow w0.heap.size 5 1 (.slice (some ⟨w0.heap.size, 0, none⟩) L.length L.length) L.length (cellsOf L) :=
  ⟨by simp [cellsOf], .inr ⟨w0.heap.size, L.length, _, rfl, Nat.le_refl _, h.1, Nat.le_refl _, hm, by simp [cellsOf], by simp [cellsOf, List.take_of_length_le]⟩⟩
theorem bytes_drewN {w : World} {v : Value} {l : List Nat} (h : Bytes w v l) (n : Nat) : Bytes (w.drewN n) v l where
  out := by
    rcases h.out with h1 | h1 | ⟨b, off, cap, rfl, h2, hc⟩
    · exact .inl h1
    · exact .inr (.inl h1)
    · exact .inr <| .inr ⟨b, off, cap, rfl, h2, fun i hi => hc i hi⟩
  small := h.small
  short := h.short
theorem below_drewN {B : Nat} (w : World) (n : Nat) : Below B w (w.drewN n) := ⟨rfl, rfl, rfl, Nat.le_refl _, fun _ _ => rfl⟩
theorem own_none : ownKnob Try.prog.godebug = none := by kernel_rfl
theorem laidOut : laidOutB Try.prog = true := by kernel_rfl
theorem Lent.below {B : Nat} {w w' : World} {v : Value} {l : List Nat} (h : Lent B w v l) (hb : Below w.heap.size w w') : Lent B w' v l := by
  obtain ⟨g, cap, rfl, hown⟩ := h
  exact ⟨g, cap, rfl, hown.kept (row := none) ⟨hb.os, hb.tape, hb.output, hb.size, fun k hk _ => hb.block k hk⟩ (.inr (by simp [Value.ownBlock]))⟩
end Go.Proofs.Ytajfcnaifegonaa.Sl
/- bytes.Clone. -/
namespace Go.Proofs.Ytajfcnaifegonaa.Sl
open Go Go.RowKit Go.By
set_option maxRecDepth 100000 in
theorem clone_any (v : Value) (l : List Nat) (w : World) (hv : Bytes w v l) (hl : l.length ≤ 17592186044416) :
    Calls Try.prog 38 #[v] w fun e w' => ∃ v', e = .returned v' ∧ w'.ownsRow w.heap.size 5 1 v' l.length (cellsOf l) ∧ Below w.heap.size w w' := by
  obtain ⟨p, cap, rfl, _⟩ := hv.any
  have HV := Lib.hid hv
  clear hv
  have hn : ∀ (q : Option Addr) (n c : Nat) (w0 : World), (binOp .eql 31 (.slice q n c) (.slice none 0 0)).run Try.prog w0 = .ok (.bool q.isNone) w0 := fun q n c w0 => Lib.run_eql_slice_nil w0 _ _ q n c 0 0 byT.slice
  cases p with
  | none =>
    have hl0 : l = [] := by
      rcases HV.out.out with ⟨_, h⟩ | ⟨a, h, _⟩ | ⟨b, o, c, h, _⟩
      · exact h
      · cases h
      · cases h
    subst hl0
    go_enter Try.func38, Try.ntmps38
    go_wp2
    go_ret
    exact ⟨_, rfl, World.ownsRow_nil _ _ _ _, Below.refl _ _⟩
  | some ad =>
    go_enter Try.func38, Try.ntmps38
    go_wp2_with (at_builtin; refine wpList_append_bytes rfl (.tmp 5) (.tmp 6) byT rfl w.heap.size (.slice (some ⟨w.heap.size, 0, none⟩) 0 0) 0 [] rfl (World.ownsRow_made w #[] 0 (Nat.le_refl _) (by decide) rfl) (.slice (some ad) l.length cap) l rfl (HV.out.below ((Below.refl _ _).alloc (Nat.le_refl _) _)) (by omega) (by simp) ?_; intro v1 w1 hown hgrow hnil)
    have hb : Below w.heap.size w w1 := ⟨hgrow.os, hgrow.tape, hgrow.output, by have := hgrow.size; simp at this; omega, fun k hk => (hgrow.block k (by simp; omega) (by simp [Value.ownBlock]; omega)).trans (Below.heap_alloc w _ k hk)⟩
    have hown0 : w1.ownsRow w.heap.size 5 1 v1 l.length (cellsOf l) := by
      have h := hown
      rw [Nat.zero_add, List.nil_append] at h
      exact h
    have HOWN := Lib.hid hown0; have HB := Lib.hid hb
    obtain ⟨p1, c1, rfl⟩ : ∃ p c, v1 = .slice p l.length c := by
      rcases hown.2 with ⟨h, h2⟩ | ⟨g, c, _, h, _⟩
      · exact ⟨none, 0, by rw [h]; congr 1; omega⟩
      · exact ⟨_, c, by rw [h]; congr 1; omega⟩
    clear hown hgrow hnil hb hown0
    go_wp2
    go_ret
    exact ⟨_, rfl, HOWN.out, HB.out⟩
end Go.Proofs.Ytajfcnaifegonaa.Sl
