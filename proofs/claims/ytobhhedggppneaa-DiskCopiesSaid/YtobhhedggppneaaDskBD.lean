/- The disk: Crash, as lists. -/
import Derived.Test.YtobhhedggppneaaDskBC
namespace Go.Proofs.Ytobhhedggppneaa
open Go Go.RowKit Go.By

def crashFile (bits : List Nat) (x : DiskA × Nat) (s : ByteArray) : DiskA × Nat :=
  let n := (Mp.get x.1.seen s).getD 0
  let r := redoOps (drawBit bits) (x.1.cont n).laid x.2 (x.1.cont n).kept
  ({ (x.1.withFile n ⟨r.1, r.1, []⟩) with used := x.1.used + (r.1.length : Int) }, r.2)
def crashFiles (bits : List Nat) (l : List ByteArray) (x : DiskA × Nat) : DiskA × Nat := l.foldl (crashFile bits) x
theorem crashFiles_snoc (bits : List Nat) (l : List ByteArray) (s : ByteArray) (x : DiskA × Nat) : crashFiles bits (l ++ [s]) x = crashFile bits (crashFiles bits l x) s := by simp [crashFiles]

/-- What stays the same, file by file. -/
structure SameNames (D D' : DiskA) : Prop where
  seen : D'.seen = D.seen
  kept : D'.kept = D.kept
  laid : D'.laid = D.laid
  fm : D'.fm = D.fm
  room : D'.room = D.room
  ops : D'.ops = D.ops
  left : D'.left = D.left
  made : D'.made = D.made
theorem crashFiles_same (bits : List Nat) : ∀ (l : List ByteArray) (x : DiskA × Nat), SameNames x.1 (crashFiles bits l x).1
  | [], _ => ⟨rfl, rfl, rfl, rfl, rfl, rfl, rfl, rfl⟩
  | s :: l, x => by
    have h := crashFiles_same bits l (crashFile bits x s)
    exact ⟨h.seen, h.kept, h.laid, h.fm, h.room, h.ops, h.left, h.made⟩

/-- No file has too much to be done again, and none becomes too long. -/
structure CrashFits (bits : List Nat) (D : DiskA) : Prop where
  laid : ∀ n, (D.cont n).laid.length ≤ 1000000
  long : ∀ n i, (redoOps (drawBit bits) (D.cont n).laid i (D.cont n).kept).1.length ≤ 1099511627776
theorem CrashFits.step {bits : List Nat} {x : DiskA × Nat} (h : CrashFits bits x.1) (s : ByteArray) : CrashFits bits (crashFile bits x s).1 where
  laid := fun n => by
    show (if n = _ then (⟨_, _, []⟩ : FileA) else x.1.cont n).laid.length ≤ _
    split
    · exact Nat.zero_le _
    · exact h.laid n
  long := fun n i => by
    show (redoOps (drawBit bits) (if n = _ then (⟨_, _, []⟩ : FileA) else x.1.cont n).laid i (if n = _ then (⟨_, _, []⟩ : FileA) else x.1.cont n).kept).1.length ≤ _
    split
    · exact h.long _ _
    · exact h.long n i
theorem CrashFits.steps {bits : List Nat} : ∀ (l : List ByteArray) {x : DiskA × Nat}, CrashFits bits x.1 → CrashFits bits (crashFiles bits l x).1
  | [], _, h => h
  | s :: l, x, h => CrashFits.steps l (x := crashFile bits x s) (h.step s)

theorem crash_used {bits : List Nat} : ∀ (l : List ByteArray) {x : DiskA × Nat}, CrashFits bits x.1 → x.1.used ≤ (crashFiles bits l x).1.used ∧ (crashFiles bits l x).1.used ≤ x.1.used + l.length * 1099511627776
  | [], x, h => ⟨Int.le_refl _, by show x.1.used ≤ x.1.used + 0 * _; omega⟩
  | s :: l, x, h => by
    have h1 := crash_used l (x := crashFile bits x s) (h.step s)
    have h2 : (crashFile bits x s).1.used = x.1.used + ((redoOps (drawBit bits) (x.1.cont ((Mp.get x.1.seen s).getD 0)).laid x.2 (x.1.cont ((Mp.get x.1.seen s).getD 0)).kept).1.length : Int) := rfl
    have h3 := h.long ((Mp.get x.1.seen s).getD 0) x.2
    have h4 : crashFiles bits (s :: l) x = crashFiles bits l (crashFile bits x s) := rfl
    rw [h4, List.length_cons]
    omega

/-- A step that turns one block more, which is not the disk's. -/
structure StepsL (lb : Nat) (own own' : Own) (w w' : World) : Prop where
  os : w'.os = w.os
  tape : w'.tape = w.tape
  output : w'.output = w.output
  size : w.heap.size ≤ w'.heap.size
  block : ∀ k, k < w.heap.size → k ≠ lb → (own k = none ∨ own k = some .ink) → w'.heap[k]? = w.heap[k]?
  same : ∀ k, k < w.heap.size → own' k = own k
theorem StepsL.refl (lb : Nat) (own : Own) (w : World) : StepsL lb own own w w := ⟨rfl, rfl, rfl, Nat.le_refl _, fun _ _ _ _ => rfl, fun _ _ => rfl⟩
theorem StepsL.trans {lb : Nat} {o1 o2 o3 : Own} {w1 w2 w3 : World} (h : StepsL lb o1 o2 w1 w2) (k : StepsL lb o2 o3 w2 w3) : StepsL lb o1 o3 w1 w3 :=
  ⟨k.os.trans h.os, k.tape.trans h.tape, k.output.trans h.output, Nat.le_trans h.size k.size,
    fun b hb hl hn => (k.block b (Nat.lt_of_lt_of_le hb h.size) hl (by rw [h.same b hb]; exact hn)).trans (h.block b hb hl hn),
    fun b hb => (k.same b (Nat.lt_of_lt_of_le hb h.size)).trans (h.same b hb)⟩
theorem StepsL.of_steps {lb : Nat} {o1 o2 : Own} {w1 w2 : World} (h : Steps o1 o2 w1 w2) : StepsL lb o1 o2 w1 w2 := ⟨h.os, h.tape, h.output, h.size, fun k hk _ hn => h.block k hk hn, h.same⟩
theorem StepsL.of_file {n lb : Nat} {own own' : Own} {w w' : World} (hs : FileStep n (some lb) own own' w w') : StepsL lb own own' w w' :=
  ⟨hs.turned.os, hs.turned.tape, hs.turned.output, hs.turned.size, fun k hk hl hn => hs.turned.block k hk (by
    rintro (⟨r, h1, h2⟩ | h)
    · rcases hn with hn | hn
      · rw [hn] at h1; cases h1
      · rw [hn] at h1; cases h1; rcases h2 with h | h | h | h <;> cases h
    · cases h; exact hl rfl), hs.same⟩
theorem StepsL.lead {lb : Nat} {o1 o2 o3 : Own} {w1 w2 w3 : World} (h : Steps o1 o2 w1 w2) (k : StepsL lb o2 o3 w2 w3) (hl : w1.heap.size ≤ lb) : Steps o1 o3 w1 w3 :=
  ⟨k.os.trans h.os, k.tape.trans h.tape, k.output.trans h.output, Nat.le_trans h.size k.size,
    fun b hb hn => (k.block b (Nat.lt_of_lt_of_le hb h.size) (by omega) (by rw [h.same b hb]; exact hn)).trans (h.block b hb hn),
    fun b hb => (k.same b (Nat.lt_of_lt_of_le hb h.size)).trans (h.same b hb)⟩

/-- The names, as texts. -/
def namesOf (m : List (ByteArray × Nat)) : List ByteArray := (sortedNames m).map fun l => ⟨l.toArray⟩
theorem namesOf_length (m : List (ByteArray × Nat)) : (namesOf m).length = m.length := by simp [namesOf, sortedNames, List.length_mergeSort]
theorem namesOf_mem {m : List (ByteArray × Nat)} {s : ByteArray} (h : s ∈ namesOf m) : ∃ n, (s, n) ∈ m := by
  obtain ⟨l, hl, rfl⟩ := List.mem_map.1 h
  have : l ∈ m.map fun p => p.1.data.toList := (List.mergeSort_perm _ _).mem_iff.1 hl
  obtain ⟨p, hp, rfl⟩ := List.mem_map.1 this
  exact ⟨p.2, hp⟩
theorem namesOf_cells (m : List (ByteArray × Nat)) : (sortedNames m).map encStr = (namesOf m).map strV := by
  simp [namesOf, List.map_map, Function.comp_def, encStr, strV]

theorem withFile_twice (D : DiskA) (n : Nat) (F G : FileA) : (D.withFile n F).withFile n G = D.withFile n G := by
  unfold DiskA.withFile
  congr 1
  funext k
  by_cases h : k = n <;> simp [h]

/-- One file behind a crash: what the walk needs, put together. -/
theorem crash_file_done {own own6 own8 : Own} {a n fb lb i : Nat} {x : DiskA × Nat} {s : ByteArray} {bits : List Nat} {wr w6 w8 : World} (h : DiskIs wr own a x.1) (hx : x.2 = i) (hs : Mp.get x.1.seen s = some n) (hfb : Mp.get x.1.fm n = some fb)
    (hlb : ∀ k r, own k = some r → lb ≠ k)
    (f6 : FileIs w6 own6 n fb { x.1.cont n with kept := (redoOps (drawBit bits) (x.1.cont n).laid i (x.1.cont n).kept).1, laid := [] }) (s6 : FileStep n (some lb) own own6 wr w6)
    (f8 : FileIs w8 own8 n fb { x.1.cont n with seen := (redoOps (drawBit bits) (x.1.cont n).laid i (x.1.cont n).kept).1, kept := (redoOps (drawBit bits) (x.1.cont n).laid i (x.1.cont n).kept).1, laid := [] }) (s8 : FileStep n none own6 own8 w6 w8) :
    DiskIs w8 own8 a (x.1.withFile n ⟨(redoOps (drawBit bits) (x.1.cont n).laid i (x.1.cont n).kept).1, (redoOps (drawBit bits) (x.1.cont n).laid i (x.1.cont n).kept).1, []⟩) ∧ StepsL lb own own8 wr w8 := by
  have d6 := h.filed hfb f6 s6 (fun k r hk e => by cases e; exact hlb _ r hk rfl)
  have hfb6 : Mp.get (x.1.withFile n { x.1.cont n with kept := (redoOps (drawBit bits) (x.1.cont n).laid i (x.1.cont n).kept).1, laid := [] }).fm n = some fb := hfb
  have d8 := d6.filed hfb6 f8 s8 (fun _ _ _ e => by cases e)
  rw [withFile_twice] at d8
  exact ⟨d8, (StepsL.of_file s6).trans (StepsL.of_steps s8.steps)⟩
theorem crashFile_eq {x : DiskA × Nat} {s : ByteArray} {n : Nat} {bits : List Nat} (hs : Mp.get x.1.seen s = some n) :
    crashFile bits x s = ({ (x.1.withFile n ⟨(redoOps (drawBit bits) (x.1.cont n).laid x.2 (x.1.cont n).kept).1, (redoOps (drawBit bits) (x.1.cont n).laid x.2 (x.1.cont n).kept).1, []⟩) with used := x.1.used + ((redoOps (drawBit bits) (x.1.cont n).laid x.2 (x.1.cont n).kept).1.length : Int) }, (redoOps (drawBit bits) (x.1.cont n).laid x.2 (x.1.cont n).kept).2) := by
  unfold crashFile
  rw [hs]; rfl
end Go.Proofs.Ytobhhedggppneaa
