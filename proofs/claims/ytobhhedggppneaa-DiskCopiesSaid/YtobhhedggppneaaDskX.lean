/- The disk: names that last: the first loop of settle. -/
import Derived.Test.YtobhhedggppneaaDskW
import Derived.Laws.IdiomRangeMap
namespace Go.Proofs.Ytobhhedggppneaa
open Go Go.RowKit Go.By

def redoName : NameOp → List (ByteArray × Nat) → List (ByteArray × Nat)
  | .create s n, m => Mp.put m s n
  | .remove s, m => Mp.del m s
  | .rename s t, m => Mp.put (Mp.del m s) t ((Mp.get m s).getD 0)
def redoNames (l : List NameOp) (m : List (ByteArray × Nat)) : List (ByteArray × Nat) := l.foldl (fun m o => redoName o m) m
def NameOp.told : NameOp → Bool
  | .rename _ _ => false
  | _ => true
theorem redoNames_snoc (l : List NameOp) (o : NameOp) (m : List (ByteArray × Nat)) : redoNames (l ++ [o]) m = redoName o (redoNames l m) := by simp [redoNames]

/-- What redoing names has turned: the kept map alone. -/
structure KeptTo (w wr : World) (mk : Value) (own : Own) (K : List (ByteArray × Nat)) : Prop where
  map : MapV wr own .kept mk strV natV K
  os : wr.os = w.os
  tape : wr.tape = w.tape
  output : wr.output = w.output
  size : w.heap.size ≤ wr.heap.size
  block : ∀ j, j < w.heap.size → mk ≠ .map (some j) → wr.heap[j]? = w.heap[j]?

theorem KeptTo.step {w wr w2 : World} {b : Nat} {own : Own} {K K' : List (ByteArray × Nat)} (h : KeptTo w wr (.map (some b)) own K) (hr : own b = some .kept) (hm : Mp.Is w2 b strV natV K') (hg : wr.grownBy w2 (some b)) : KeptTo w w2 (.map (some b)) own K' :=
  ⟨.inr ⟨b, rfl, hr, hm⟩, hg.os.trans h.os, hg.tape.trans h.tape, hg.output.trans h.output, Nat.le_trans h.size hg.size, fun j hj hne =>
    (hg.block j (Nat.lt_of_lt_of_le hj h.size) (fun e => hne (by cases e; rfl))).trans (h.block j hj hne)⟩

/-- One operation on names, done again, by its value. -/
theorem redoName_any (o : NameOp) (ho : o.told = true) (b : Nat) (m : List (ByteArray × Nat)) (w : World) (hm : Mp.Is w b strV natV m) :
    ∃ fid recv, nameV o = .func (.func fid) #[recv] #[] ∧ (∀ args w, (callFunc fid args).run Try.prog w = .ok (.enter fid args) w) ∧ Calls Try.prog fid #[recv, .map (some b)] w (fun e w' => e = .returned (.tuple #[]) ∧ Mp.Is w' b strV natV (redoName o m) ∧ w.grownBy w' (some b)) := by
  cases o with
  | create s n => exact ⟨_, _, rfl, by intro args w; kernel_rfl, redoCreate_any s n b m w hm⟩
  | remove s => exact ⟨_, _, rfl, by intro args w; kernel_rfl, redoRemove_any s b m w hm⟩
  | rename s t => cases ho

theorem nameOps_size (w : World) : (sizeOf (Try.prog.elem 54)).run Try.prog w = .ok 1 w := by kernel_rfl
set_option maxRecDepth 100000 in
theorem upto_runN (p : Option Addr) (len cap n : Nat) (hn : n ≤ cap) (w : World) : (Instr.slice 54 (.slice p len cap) none (some (.int .i64 (n : Int))) none).run Try.prog w = .ok (.slice p n cap) w := by
  have hr := run_slice_h (P := Try.prog) w 54 p len cap (by kernel_rfl) .i64 (n : Int) (by omega) (by omega)
  have e2 : (n : Int).toNat = n := by omega
  simp only [nameOps_size, Result.andThen, e2, sliced, Nat.zero_mul, Nat.sub_zero] at hr
  rw [hr]
  congr 2
  split
  · rfl
  · cases p with
    | none => rfl
    | some a => simp [Addr.add]

theorem run_makeMap_int {t kt et : TypeId} (ht : Try.prog.underlying t = some (.map kt et)) (k : IntKind) (n : Int) (w : World) : (Instr.makeMap t (some (.int k n))).run Try.prog w = .ok (.map (some w.heap.size)) (w.alloc (.map #[] 0)) := by
  simp [Instr.makeMap, run_underlying ht, asInt, asIntOf]


/-- Everything that settle leaves is told of here: numbers that lead to files by name, and the others no more. -/
def Kept (fm : List (Nat × Nat)) (K : List (ByteArray × Nat)) (fm' : List (Nat × Nat)) : Prop := ∀ n, Mp.get fm' n = if n ∈ K.map (·.2) then Mp.get fm n else none
def DiskA.settled (D : DiskA) (n : Nat) (fm' : List (Nat × Nat)) : DiskA :=
  { D with kept := redoNames (D.laid.take n) D.kept, seen := redoNames (D.laid.take n) D.kept, laid := [], fm := fm' }

set_option maxRecDepth 100000 in
theorem settle_nil (own : Own) (a : Nat) (D : DiskA) (w : World) (h : DiskIs w own a D) {ms lv mf : Value} (h1 : w.heap[a]? = some (.cells (diskCells D ms (.map none) lv mf) 58 (0, 0))) (h2 : Parts w own ms (.map none) mf lv D) :
    Calls Try.prog 35 #[.pointer (some ⟨a, 0, none⟩), .int .i64 0] w fun e w' => e = .returned (.tuple #[]) ∧
      w'.heap.size = w.heap.size + 2 ∧ w'.heap[w.heap.size]? = some (.map #[] 0) ∧ w'.heap[a]? = some (.cells (diskCells D (.map none) (.map none) (.slice none 0 0) (.map (some w.heap.size))) 58 (0, 0)) ∧
      w'.os = w.os ∧ w'.tape = w.tape ∧ w'.output = w.output ∧ ∀ k, k < w.heap.size → k ≠ a → w'.heap[k]? = w.heap[k]? := by
  have hlt : a < w.heap.size := h.here a _ h.role
  obtain ⟨p, c, hlv⟩ : ∃ p c, lv = .slice p 0 c := by
    have hb := h2.bare rfl
    have := h2.laid
    rw [hb.2.2] at this
    rcases this.2 with ⟨h, _⟩ | ⟨g, c, _, h, _⟩
    · exact ⟨none, 0, h⟩
    · exact ⟨_, c, h⟩
  subst hlv
  have c4 : w.cell? ⟨a, 4, none⟩ = some ms := cells_of h1 4
  have c5 : w.cell? ⟨a, 5, none⟩ = some (.map none) := cells_of h1 5
  have c6 : w.cell? ⟨a, 6, none⟩ = some (.slice p 0 c) := cells_of h1 6
  have c8 : w.cell? ⟨a, 8, none⟩ = some mf := cells_of h1 8
  have f4 := free_of h1 4
  have f6 := free_of h1 6
  have f8 := free_of h1 8
  have hup := upto_runN p 0 c 0 (Nat.zero_le _)
  have H1 := Lib.hid h1
  clear h h1 h2
  go_enter Try.func35, Try.ntmps35
  go_wp2
  clear hup
  go_loop [16] (fun i => i = .int .i64 0) (fun _ => 0)
  case atStart => rfl
  case round =>
    subst hrel
    have hln : ∀ (w : World) (ty : TypeId), (Builtin.len_ #[53] ty #[.map none]).run Try.prog w = .ok (.int .i64 0) w := fun w ty => by
      simp [Builtin.len_, run_underlying namesT, goInt]
    go_wp2_with fail
    refine (cloneNil_any _).mono ?_
    rintro e w1 ⟨rfl, rfl⟩
    have hmk := fun w => run_makeMap_int filesT .i64 0 w
    go_wp2_with fail
    obtain ⟨W5, hW5⟩ : ∃ W5, W5 = ((w.setCell ⟨a, 6, none⟩ (.slice none 0 0)).setCell ⟨a, 4, none⟩ (.map none)).alloc (.map #[] 0) := ⟨_, rfl⟩
    rw [← hW5]
    have s6 := set_heap H1.out 6 (.slice none 0 0)
    have s4 := set_heap s6.1 4 (.map none)
    have z5 : W5.heap.size = w.heap.size + 1 := by rw [hW5]; simp
    have k5 : W5.heap[w.heap.size]? = some (.map #[] 0) := by
      rw [hW5]
      have := heap_alloc_new ((w.setCell ⟨a, 6, none⟩ (.slice none 0 0)).setCell ⟨a, 4, none⟩ (.map none)) (.map #[] 0)
      simpa using this
    have a5 : W5.heap[a]? = some (.cells (diskCells D (.map none) (.map none) (.slice none 0 0) mf) 58 (0, 0)) := by
      rw [hW5, Below.heap_alloc _ _ _ (by simpa using hlt)]; exact s4.1
    have o5 : W5.os = w.os ∧ W5.tape = w.tape ∧ W5.output = w.output := by rw [hW5]; exact ⟨rfl, rfl, rfl⟩
    have b5 : ∀ k, k < w.heap.size → k ≠ a → W5.heap[k]? = w.heap[k]? := fun k hk hne => by
      rw [hW5, Below.heap_alloc _ _ _ (by simpa using hk)]
      exact (s4.2 k hne).trans (s6.2 k hne)
    have hlt5 : a < W5.heap.size := by omega
    have a6 : (W5.alloc (.mapIter none 0 #[] 0)).heap[a]? = some (.cells (diskCells D (.map none) (.map none) (.slice none 0 0) mf) 58 (0, 0)) := (Below.heap_alloc _ _ _ hlt5).trans a5
    have d8 : (W5.alloc (.mapIter none 0 #[] 0)).cell? ⟨a, 8, none⟩ = some mf := cells_of a6 8
    have e8 : (W5.alloc (.mapIter none 0 #[] 0)).frozen? ⟨a, 8, none⟩ = false := free_of a6 8
    have s8 := set_heap a6 8 (.map (some w.heap.size))
    have fin : ((W5.alloc (.mapIter none 0 #[] 0)).setCell ⟨a, 8, none⟩ (.map (some w.heap.size))).heap.size = w.heap.size + 2 ∧ ((W5.alloc (.mapIter none 0 #[] 0)).setCell ⟨a, 8, none⟩ (.map (some w.heap.size))).heap[w.heap.size]? = some (.map #[] 0) ∧
        ((W5.alloc (.mapIter none 0 #[] 0)).setCell ⟨a, 8, none⟩ (.map (some w.heap.size))).heap[a]? = some (.cells (diskCells D (.map none) (.map none) (.slice none 0 0) (.map (some w.heap.size))) 58 (0, 0)) ∧
        ((W5.alloc (.mapIter none 0 #[] 0)).setCell ⟨a, 8, none⟩ (.map (some w.heap.size))).os = w.os ∧ ((W5.alloc (.mapIter none 0 #[] 0)).setCell ⟨a, 8, none⟩ (.map (some w.heap.size))).tape = w.tape ∧ ((W5.alloc (.mapIter none 0 #[] 0)).setCell ⟨a, 8, none⟩ (.map (some w.heap.size))).output = w.output ∧
        ∀ k, k < w.heap.size → k ≠ a → ((W5.alloc (.mapIter none 0 #[] 0)).setCell ⟨a, 8, none⟩ (.map (some w.heap.size))).heap[k]? = w.heap[k]? := by
      refine ⟨by simp; omega, ?_, s8.1, o5.1, o5.2.1, o5.2.2, fun k hk hne => (s8.2 k hne).trans ((Below.heap_alloc _ _ _ (by omega)).trans (b5 k hk hne))⟩
      exact (s8.2 _ (by omega)).trans ((Below.heap_alloc _ _ _ (by omega)).trans k5)
    have FIN := Lib.hid fin
    have hrg := run_range_nilMap (P := Try.prog) W5 53 9 3 namesT
    have hnx : ∀ ty, (Instr.next (.pointer (some ⟨W5.heap.size, 0, none⟩)) false ty).run Try.prog (W5.alloc (.mapIter none 0 #[] 0)) = _ := fun ty => run_next_nilMap W5 ty 0 0 #[]
    clear s6 s4 z5 k5 a5 o5 b5 a6 s8 fin hW5 hmk hln c4 c5 c6 c8 f4 f6 f8 hlt hlt5
    rw [hrg]
    go_wp2
    refine wp_loop_rounds 1 ?_
    rw [rounds_succ]
    go_wp2
    go_returns
    exact ⟨rfl, FIN.out⟩
end Go.Proofs.Ytobhhedggppneaa
