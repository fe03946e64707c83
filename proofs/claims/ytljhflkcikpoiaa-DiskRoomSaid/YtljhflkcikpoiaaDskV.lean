/- The law of how much room there is: its calls. -/
import Derived.Test.YtljhflkcikpoiaaDskT
namespace Go.Proofs.Ytljhflkcikpoiaa
open Go Go.RowKit Go.By

theorem SI.truncate_call {W w : World} {nb sb room i a : Nat} {sz : Nat → Nat} {own : Own} {D : DiskA} (h : SI W nb sb room i sz a own D w) (hi : i < 1000) (hroom : room < 256) {k off : Nat} (hk : k < 3) (hoff : off < 100) :
    Calls Try.prog 18 #[.pointer (some ⟨a, 0, none⟩), .string (nm k), .int .i64 off] w fun e w' =>
      (fitsIn sz room k off ∧ e = .returned (.int .i64 0) ∧ Left W nb sb room i sz a w' (fun j => if j = k + 1 then off else sz j)) ∨ (¬ fitsIn sz room k off ∧ e = .returned (.int .i64 4) ∧ Left W nb sb room i sz a w' sz) := by
  have hu := h.base.used
  have hf := h.fits
  refine (truncate_any own a D (nm k) off w h.base.disk h.base.ok (by have := h.base.ops; omega) (by rw [h.base.left]; omega) (by rw [nm_size]; decide) (fun n => by have := h.base.flaid n; omega) (by rw [h.base.room]; omega) (by rw [hu]; omega)
    (fun n => by rw [h.base.size n]; have := h.few n; omega)).mono ?_
  intro e w' hc
  exact h.truncate hk (by omega) hc

theorem SI.write_call {W w : World} {nb sb room i a : Nat} {sz : Nat → Nat} {own : Own} {D : DiskA} (h : SI W nb sb room i sz a own D w) (hi : i < 1000) (hroom : room < 256) {k off cnt : Nat} (hk : k < 3) (hoff : off < 100) (hcnt : cnt < 50) {bv : Value} (hb : Bytes w bv (List.replicate cnt 0)) (hbk : ∀ q, bv.ownBlock = some q → own q = none) :
    Calls Try.prog 11 #[.pointer (some ⟨a, 0, none⟩), .string (nm k), .int .i64 off, bv] w fun e w' =>
      (cnt = 0 ∧ e = .returned (.int .i64 0) ∧ Left W nb sb room i sz a w' sz) ∨
      (0 < cnt ∧ fitsIn sz room k (max (sz (k + 1)) (off + cnt)) ∧ e = .returned (.int .i64 0) ∧ Left W nb sb room i sz a w' (fun j => if j = k + 1 then max (sz (k + 1)) (off + cnt) else sz j)) ∨ (0 < cnt ∧ ¬ fitsIn sz room k (max (sz (k + 1)) (off + cnt)) ∧ e = .returned (.int .i64 4) ∧ Left W nb sb room i sz a w' sz) := by
  have hu := h.base.used
  have hf := h.fits
  refine (write_any own a D (nm k) off bv _ w h.base.disk h.base.ok (by have := h.base.ops; omega) (by rw [h.base.left]; omega) (by rw [nm_size]; decide) (fun n => by have := h.base.flaid n; omega) (by rw [h.base.room]; omega) (by rw [hu]; omega)
    (fun n => by rw [h.base.size n]; have := h.few n; omega) hb (fun q hq => .inl (hbk q hq)) (by simp; omega)).mono ?_
  intro e w' hc
  exact h.write hk (by omega) hc

theorem RI.size_call {W w : World} {nb room m a : Nat} {sz : Nat → Nat} {own : Own} {D : DiskA} (h : RI W nb room 3 m sz a own D w) {k : Nat} (hk : k < 3) :
    Calls Try.prog 15 #[.pointer (some ⟨a, 0, none⟩), .string (nm k)] w fun e w' => e = .returned (.tuple #[.int .i64 (sz (k + 1) : Nat), .bool true]) ∧ w = w' := by
  refine (size_any own a D (nm k) w h.disk h.ok).mono ?_
  rintro e w' ⟨rfl, rfl⟩
  refine ⟨?_, rfl⟩
  unfold DiskA.size
  rw [h.seen k hk, if_pos hk]
  simp only [Option.map_some, h.size]
  rfl

/-- The law's own table is written. -/
theorem RI.stored {W w : World} {nb room m a sb : Nat} {sz : Nat → Nat} {own : Own} {D : DiskA} (h : RI W nb room 3 m sz a own D w) (h1 : own sb = none) (h2 : W.heap.size ≤ sb) (h3 : sb ≠ nb) (k : Nat) (v : Value) : RI W nb room 3 m sz a own D (w.setCell ⟨sb, k, none⟩ v) := by
  have ho : ∀ q, q ≠ sb → (w.setCell ⟨sb, k, none⟩ v).heap[q]? = w.heap[q]? := fun q hq => heap_setCell_other w ⟨sb, k, none⟩ q v (fun e => hq e)
  have hst : Steps (fun q => if q = sb then some .seen else none) (fun q => if q = sb then some Role.seen else none) w (w.setCell ⟨sb, k, none⟩ v) := ⟨rfl, rfl, rfl, by simp, fun q _ hn => ho q (by
    rintro rfl
    simp at hn), fun _ _ => rfl⟩
  refine ⟨h.disk.beside hst (fun q r hq => .inl (if_neg (by rintro rfl; rw [h1] at hq; cases hq))), h.ok, h.far, h.below.setCell h2 _, h.room, h.left, h.ops, h.laid, h.made, h.seen, h.flaid, h.size, h.used, ⟨h.names.1, by simpa using h.names.2.1, fun q hq => (World.cell?_of_block (ho nb (fun e => h3 e.symm))).trans (h.names.2.2 q hq)⟩⟩

/-- Behind a round in which the table is written. -/
theorem SI.next {W w w' : World} {nb sb room i a k to : Nat} {sz : Nat → Nat} {own : Own} {D : DiskA} (h : SI W nb sb room i sz a own D w) (hl : Left W nb sb room i sz a w' (fun j => if j = k + 1 then to else sz j)) (hk : k < 3) (hto : to ≤ 150) (hf : fitsIn sz room k to) :
    (w'.cell? ⟨sb, k, none⟩ = some (.int .i64 (sz (k + 1) : Nat)) ∧ w'.frozen? ⟨sb, k, none⟩ = false) ∧ ∃ own' D', SI W nb sb room (i + 1) (fun j => if j = k + 1 then to else sz j) a own' D' (w'.setCell ⟨sb, k, none⟩ (.int .i64 (to : Nat))) := by
  obtain ⟨own', D', hr, hrow, ho⟩ := hl
  refine ⟨⟨?_, free_of hrow k⟩, own', D', ⟨hr.stored ho h.off.2.1 h.off.2.2 k _, ?_, ⟨ho, h.off.2⟩, fun j => ?_, ?_⟩⟩
  · rw [cells_of hrow]
    match k, hk with
    | 0, _ => rfl
    | 1, _ => rfl
    | 2, _ => rfl
  · rw [(set_heap hrow k _).1]
    match k, hk with
    | 0, _ => rfl
    | 1, _ => rfl
    | 2, _ => rfl
  · show (if j = k + 1 then to else sz j) ≤ 150
    split
    · exact hto
    · exact h.few j
  · unfold fitsIn at hf
    match k, hk with
    | 0, _ => show to + sz 2 + sz 3 ≤ room; simp only [Nat.zero_add] at hf; omega
    | 1, _ => show sz 1 + to + sz 3 ≤ room; simp only [Nat.reduceAdd] at hf; omega
    | 2, _ => show sz 1 + sz 2 + to ≤ room; simp only [Nat.reduceAdd] at hf; omega
theorem SI.rest {W w w' : World} {nb sb room i a : Nat} {sz : Nat → Nat} {own : Own} {D : DiskA} (h : SI W nb sb room i sz a own D w) (hl : Left W nb sb room i sz a w' sz) : ∃ own' D', SI W nb sb room (i + 1) sz a own' D' w' := by
  obtain ⟨own', D', hr, hrow, ho⟩ := hl
  exact ⟨own', D', hr, hrow, ⟨ho, h.off.2⟩, h.few, h.fits⟩
def zeros (n : Nat) : Array Value := (cellsOf (List.replicate n 0)).toArray
theorem made_run (n : Nat) (hn : n < 50) (w : World) : (Instr.makeSlice 23 (.int .i64 (n : Int)) (.int .i64 (n : Int))).run Try.prog w = .ok (.slice (some ⟨w.heap.size, 0, none⟩) n n) (w.alloc (.cells (zeros n) 5)) := by
  obtain ⟨i, hi, hz, hz1, hz2⟩ := info_parts bytesT.info
  have h := run_makeSlice (P := Try.prog) (w := w) 23 5 i (.int .u8 0) bytesT.slice hi hz .i64 .i64 (n : Int) (n : Int) (by omega) (Int.le_refl _) (by rw [hz1]; simp; omega) (by rw [hz2]; omega) (by omega)
  rw [h]
  have e : madeCells (Value.int .u8 0).cells ((n : Int).toNat * i.size) = zeros n := by
    rw [hz1]
    apply Array.toList_inj.1
    apply List.ext_getElem
    · simp [madeCells, cellsOf, zeros]
    · intro j h1 h2
      simp [madeCells, cellsOf, zeros, Value.cells, Nat.mod_one]
  rw [e]; simp

theorem SI.alloc {W w : World} {nb sb room i a : Nat} {sz : Nat → Nat} {own : Own} {D : DiskA} (h : SI W nb sb room i sz a own D w) (o : Obj) : SI W nb sb room i sz a own D (w.alloc o) := by
  have hst : Steps (fun _ => none) (fun _ => none) w (w.alloc o) := Steps.of_below ((Below.refl _ _).alloc (Nat.le_refl _) _)
  have hsb : sb < w.heap.size := (Array.getElem?_eq_some_iff.1 h.row).1
  refine ⟨⟨h.base.disk.beside (o1 := fun _ => none) (o2 := fun _ => none) hst (fun _ _ _ => .inl rfl), h.base.ok, h.base.far, h.base.below.alloc h.base.below.size _, h.base.room, h.base.left, h.base.ops, h.base.laid, h.base.made, h.base.seen, h.base.flaid, h.base.size, h.base.used, ⟨h.base.names.1, by have := h.base.names.2.1; simp; omega, fun k hk => ?_⟩⟩, (hst.block sb hsb (.inl rfl)).trans h.row, h.off, h.few, h.fits⟩
  exact (World.cell?_of_block (hst.block nb h.base.names.2.1 (.inl rfl))).trans (h.base.names.2.2 k hk)

theorem SI.made_call {W w : World} {nb sb room i a : Nat} {sz : Nat → Nat} {own : Own} {D : DiskA} (h : SI W nb sb room i sz a own D w) (hi : i < 1000) (hroom : room < 256) {k off cnt : Nat} (hk : k < 3) (hoff : off < 100) (hcnt : cnt < 50)
    (w0 : World) (e1 : w0.heap = (w.alloc (.cells (zeros cnt) 5)).heap) (e2 : w0.os = w.os) (e3 : w0.tape = w.tape) (e4 : w0.output = w.output) :
    Calls Try.prog 11 #[.pointer (some ⟨a, 0, none⟩), .string (nm k), .int .i64 off, .slice (some ⟨w.heap.size, 0, none⟩) cnt cnt] w0 fun e w' =>
      (cnt = 0 ∧ e = .returned (.int .i64 0) ∧ Left W nb sb room i sz a w' sz) ∨
      (0 < cnt ∧ fitsIn sz room k (max (sz (k + 1)) (off + cnt)) ∧ e = .returned (.int .i64 0) ∧ Left W nb sb room i sz a w' (fun j => if j = k + 1 then max (sz (k + 1)) (off + cnt) else sz j)) ∨ (0 < cnt ∧ ¬ fitsIn sz room k (max (sz (k + 1)) (off + cnt)) ∧ e = .returned (.int .i64 4) ∧ Left W nb sb room i sz a w' sz) := by
  have h0 := (h.alloc (.cells (zeros cnt) 5)).drawn e1 e2 e3 e4
  have hb := Bytes.lit (w := w) (e := 5) (fr := (0, 0)) (List.replicate cnt 0) (rfl : zeros cnt = _) (n := cnt) (by simp) (fun c hc => by have := List.eq_of_mem_replicate hc; omega) (by simp; unfold maxLen; omega)
  refine h0.write_call hi hroom hk hoff hcnt (Bytes.same hb e1) (fun q hq => ?_)
  simp only [Value.ownBlock, Option.some.injEq] at hq
  subst hq
  cases e : own w.heap.size with
  | none => rfl
  | some r => exact absurd (h.base.disk.here _ r e) (Nat.lt_irrefl _)
end Go.Proofs.Ytljhflkcikpoiaa
