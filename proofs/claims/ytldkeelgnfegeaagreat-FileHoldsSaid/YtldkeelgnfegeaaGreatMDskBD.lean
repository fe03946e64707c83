/- The disk: one file behind a crash. -/
import Derived.Test.YtldkeelgnfegeaaGreatMDskBA
import Derived.Test.YtldkeelgnfegeaaGreatMDskBB
import Derived.RegionTactic

namespace Go.Proofs.YtldkeelgnfegeaaGreat
open Go Go.RowKit Go.By

theorem lots_lasts (lb : Nat) (bv : Value) (bits : List Nat) : Lasts 32 #[.pointer (some ⟨lb, 0, none⟩)] (fun k => k = lb ∨ (bits ≠ [] ∧ bv.ownBlock = some k)) (some lb) (fun i w => LotsIs lb bv bits i w) (drawBit bits) where
  call := fun i w h hi => draw_any lb bv bits i w h hi
  stay := by
    intro i w w' h hs
    refine ⟨(hs lb (.inl rfl)).trans h.heap, ⟨?_, h.bytes.small, h.bytes.short⟩, h.apart⟩
    rcases h.bytes.out with h1 | h1 | ⟨b, off, cap, h1, h2, hc⟩
    · exact .inl h1
    · exact .inr (.inl h1)
    · refine .inr (.inr ⟨b, off, cap, h1, h2, fun j hj => ?_⟩)
      have hb : w'.heap[b]? = w.heap[b]? := hs b (.inr ⟨by rintro rfl; simp at hj, by rw [h1]; rfl⟩)
      exact (World.cell?_of_block hb).trans (hc j hj)
  here := by
    intro i w k h hk
    rcases hk with rfl | ⟨hne, hk⟩
    · exact (Array.getElem?_eq_some_iff.1 h.heap).1
    · rcases h.bytes.out with ⟨_, h1⟩ | ⟨_, _, h1⟩ | ⟨b, off, cap, h1, h2, hc⟩
      · exact absurd h1 hne
      · exact absurd h1 hne
      · rw [h1] at hk; cases hk
        have hl : 0 < bits.length := by cases bits with
          | nil => exact absurd rfl hne
          | cons x xs => simp
        exact block_lt_of_cell (hc 0 hl)
  own := fun k h => by cases h; exact .inl rfl
  enter := by intro args w; kernel_rfl

/-- How many of n operations on names survive. -/
def firstOf (bits : List Nat) (n : Nat) : Nat := if bits = [] then 0 else atB bits 0 % (n + 1)
theorem firstOf_le (bits : List Nat) (n : Nat) : firstOf bits n ≤ n := by
  unfold firstOf; split
  · omega
  · have := Nat.mod_lt (atB bits 0) (show 0 < n + 1 by omega); omega

set_option maxRecDepth 100000 in
theorem firstOf_any (v : Value) (bits : List Nat) (n : Nat) (w : World) (hv : Bytes w v bits) (hn : n ≤ 1000000000) :
    Calls Tryz.prog 30 #[v, .int .i64 n] w fun e w' => e = .returned (.int .i64 (firstOf bits n : Nat)) ∧ w = w' := by
  obtain ⟨p, c, rfl, hsp⟩ := hv.any
  have hm := hv.short
  unfold maxLen at hm
  by_cases h0 : bits = []
  · subst h0
    have hf : Hid (firstOf [] n = 0) := rfl
    clear hsp hv
    go_enter Tryz.func30, Tryz.ntmps30
    go_wp2
    go_ret
    rw [hf.out]
    exact ⟨rfl, rfl⟩
  · have hl : 0 < bits.length := by cases bits with
      | nil => exact absurd rfl h0
      | cons x xs => simp
    obtain ⟨b, off, rfl, hcell⟩ := hsp 0 hl
    rw [Nat.add_zero] at hcell
    have hx := hv.at_lt hl
    have hf : Hid (firstOf bits n = atB bits 0 % (n + 1)) := if_neg h0
    have hne : ((bits.length : Int) == 0) = false := beq_eq_false_iff_ne.2 (by omega)
    have hl0 : 0 < (bits.length : Int) := by omega
    obtain ⟨x, hxx⟩ : ∃ x, atB bits 0 = x := ⟨_, rfl⟩
    rw [hxx] at hcell hx
    have hx0 : (x : Int) < 256 := by omega
    obtain ⟨y, hy⟩ : ∃ y, x % (n + 1) = y := ⟨_, rfl⟩
    have hm1 : (x : Int) % ((n : Int) + 1) = y := by rw [← hy]; simp
    have hm2 : Int.tmod (x : Int) ((n : Int) + 1) = y := by rw [Int.tmod_eq_emod_of_nonneg (by omega)]; exact hm1
    have hn1 : (n : Int) ≤ 1000000000 := by omega
    have HX := Lib.hid hxx; have HY := Lib.hid hy
    clear hsp hv hxx hx hy h0 hl hm hn
    go_enter Tryz.func30, Tryz.ntmps30
    go_wp2
    go_ret
    rw [hf.out, HX.out, HY.out]
    exact ⟨rfl, rfl⟩

/-- What is seen of a file is laid anew. -/
theorem FileIs.reseen {w w1 : World} {own : Own} {n fb : Nat} {F : FileA} {v : Value} {l : List Nat} (h : FileIs w own n fb F) (here : ∀ k r, own k = some r → k < w.heap.size) (hb : Below w.heap.size w w1)
    (hv : w1.ownsRow 0 5 1 v l.length (cellsOf l)) (hk : ∀ k, v.ownBlock = some k → w.heap.size ≤ k) (hs : ∀ c ∈ l, c < 256) :
    ∃ own', FileIs (w1.setCell ⟨fb, 0, none⟩ v) own' n fb { F with seen := l } ∧ FileStep n none own own' w (w1.setCell ⟨fb, 0, none⟩ v) := by
  obtain ⟨⟨sv, kv, lv, cs, h1, h2, h3, h4, h5, h6⟩, hr, hbf⟩ := h
  have hfl := here fb _ hr
  have hw1 : w1.heap[fb]? = some (.cells #[sv, kv, lv] 75 (0, 0)) := (hb.block fb hfl).trans h1
  have s0 := set_heap hw1 0 v
  have hvl : ∀ k, v.ownBlock = some k → k < w1.heap.size := fun k hk => (hv.lt k hk).2
  obtain ⟨own', p1, p2, p3, p4⟩ := own_went (own := own) (w := w) (w' := w1) here (v := .slice none 0 0) (v' := v) (r := .fseen n) (fun k hk => by cases hk) (by
    cases hb : v.ownBlock with
    | none => exact .inl rfl
    | some q => exact .inr ⟨q, rfl, hk q hb⟩) hvl
  have hz : (w1.setCell ⟨fb, 0, none⟩ v).heap.size = w1.heap.size := by simp
  have stay : Stay own own' (fun r => r ≠ .file n) w (w1.setCell ⟨fb, 0, none⟩ v) := ⟨p2, fun k r hkr hne => (s0.2 k (by rintro rfl; rw [hr] at hkr; cases hkr; exact hne rfl)).trans (hb.block k (here k r hkr))⟩
  refine ⟨own', ⟨⟨v, kv, lv, cs, s0.1, ⟨ownsRow_of_heap hv fun k hkv => s0.2 k (by rintro rfl; have := hk _ hkv; omega), p3, hs⟩, h3.stay stay (by simp), ownsRow_of_heap h4 fun k hkr => stay.block k _ (h5 k hkr) (by simp), fun k hkr => p2 k _ (h5 k hkr), h6.stay stay (by simp)⟩, p2 fb _ hr, fun lv' hl h0 => (third_cell s0.1 (x := lv) (by simp) hl).trans (hbf lv (by rw [cell_of_row w fb 2 _ _ _ h1]; rfl) h0)⟩,
    ⟨⟨hb.os, hb.tape, hb.output, by rw [hz]; exact hb.size, fun k hkl hn => ?_⟩, p1, p2, fun k r hkr => ?_⟩⟩
  · exact (s0.2 k (by rintro rfl; exact hn (.inl ⟨_, hr, .inl rfl⟩))).trans (hb.block k hkl)
  · rcases p4 k r hkr with h' | ⟨q1, q2, rfl⟩
    · exact .inl h'
    · exact .inr ⟨q1, by rw [hz]; exact q2, .inl (.inr (.inl rfl))⟩

theorem redoOps_at {bit : Nat → Bool} {w : World} {own : Own} : ∀ {cs : List Value} {l : List ByteOp}, OpsV w own cs l → ∀ (i : Nat) (m : List Nat), (redoOps bit l i m).2 ≤ i + l.length * 1048576
  | [], _, h, i, m => by simp only [OpsV] at h; subst h; simp [redoOps]
  | _ :: _, _, h, i, m => by
    obtain ⟨o, os, rfl, h1, h2⟩ := h
    have a1 := redoOp_at (bit := bit) h1 i m
    have a2 := redoOps_at (bit := bit) h2 (redoOp bit o i m).2 (redoOp bit o i m).1
    simp only [redoOps, List.length_cons]
    omega
theorem redoOps_small {bit : Nat → Bool} {w : World} {own : Own} : ∀ {cs : List Value} {l : List ByteOp}, OpsV w own cs l → ∀ (i : Nat) {m : List Nat}, (∀ c ∈ m, c < 256) → ∀ c ∈ (redoOps bit l i m).1, c < 256
  | [], _, h, i, m, hm => by simp only [OpsV] at h; subst h; exact hm
  | _ :: _, _, h, i, m, hm => by
    obtain ⟨o, os, rfl, h1, h2⟩ := h
    simp only [redoOps]
    exact redoOps_small h2 _ (redoOp_small h1 hm)
end Go.Proofs.YtldkeelgnfegeaaGreat

/- The disk: Crash, as lists. -/
namespace Go.Proofs.YtldkeelgnfegeaaGreat
open Go Go.RowKit Go.By

def crashFile (bits : List Nat) (x : DiskA × Nat) (s : ByteArray) : DiskA × Nat :=
  let n := (Mp.get x.1.seen s).getD 0
  let r := redoOps (drawBit bits) (x.1.cont n).laid x.2 (x.1.cont n).kept
  ({ (x.1.withFile n ⟨r.1, r.1, []⟩) with used := x.1.used + (r.1.length : Int) }, r.2)
def crashFiles (bits : List Nat) (l : List ByteArray) (x : DiskA × Nat) : DiskA × Nat := l.foldl (crashFile bits) x
theorem crashFiles_snoc (bits : List Nat) (l : List ByteArray) (s : ByteArray) (x : DiskA × Nat) : crashFiles bits (l ++ [s]) x = crashFile bits (crashFiles bits l x) s := by simp [crashFiles]

/-- What stays the same, file by file. -/
structure SameNames (D D' : DiskA) : Prop where
  seen : D'.seen = D.seen
  kept : D'.kept = D.kept
  laid : D'.laid = D.laid
  fm : D'.fm = D.fm
  room : D'.room = D.room
  ops : D'.ops = D.ops
  left : D'.left = D.left
  made : D'.made = D.made
theorem crashFiles_same (bits : List Nat) : ∀ (l : List ByteArray) (x : DiskA × Nat), SameNames x.1 (crashFiles bits l x).1
  | [], _ => ⟨rfl, rfl, rfl, rfl, rfl, rfl, rfl, rfl⟩
  | s :: l, x => by
    have h := crashFiles_same bits l (crashFile bits x s)
    exact ⟨h.seen, h.kept, h.laid, h.fm, h.room, h.ops, h.left, h.made⟩

/-- No file has too much to be done again, and none becomes too long. -/
structure CrashFits (bits : List Nat) (D : DiskA) : Prop where
  laid : ∀ n, (D.cont n).laid.length ≤ 1000000
  long : ∀ n i, (redoOps (drawBit bits) (D.cont n).laid i (D.cont n).kept).1.length ≤ 1099511627776
theorem CrashFits.step {bits : List Nat} {x : DiskA × Nat} (h : CrashFits bits x.1) (s : ByteArray) : CrashFits bits (crashFile bits x s).1 where
  laid := fun n => by
    show (if n = _ then (⟨_, _, []⟩ : FileA) else x.1.cont n).laid.length ≤ _
    split
    · exact Nat.zero_le _
    · exact h.laid n
  long := fun n i => by
    show (redoOps (drawBit bits) (if n = _ then (⟨_, _, []⟩ : FileA) else x.1.cont n).laid i (if n = _ then (⟨_, _, []⟩ : FileA) else x.1.cont n).kept).1.length ≤ _
    split
    · exact h.long _ _
    · exact h.long n i
theorem CrashFits.steps {bits : List Nat} : ∀ (l : List ByteArray) {x : DiskA × Nat}, CrashFits bits x.1 → CrashFits bits (crashFiles bits l x).1
  | [], _, h => h
  | s :: l, x, h => CrashFits.steps l (x := crashFile bits x s) (h.step s)

theorem crash_used {bits : List Nat} : ∀ (l : List ByteArray) {x : DiskA × Nat}, CrashFits bits x.1 → x.1.used ≤ (crashFiles bits l x).1.used ∧ (crashFiles bits l x).1.used ≤ x.1.used + l.length * 1099511627776
  | [], x, h => ⟨Int.le_refl _, by show x.1.used ≤ x.1.used + 0 * _; omega⟩
  | s :: l, x, h => by
    have h1 := crash_used l (x := crashFile bits x s) (h.step s)
    have h2 : (crashFile bits x s).1.used = x.1.used + ((redoOps (drawBit bits) (x.1.cont ((Mp.get x.1.seen s).getD 0)).laid x.2 (x.1.cont ((Mp.get x.1.seen s).getD 0)).kept).1.length : Int) := rfl
    have h3 := h.long ((Mp.get x.1.seen s).getD 0) x.2
    have h4 : crashFiles bits (s :: l) x = crashFiles bits l (crashFile bits x s) := rfl
    rw [h4, List.length_cons]
    omega

/-- A step that turns one block more, which is not the disk's. -/
structure StepsL (lb : Nat) (own own' : Own) (w w' : World) : Prop where
  os : w'.os = w.os
  tape : w'.tape = w.tape
  output : w'.output = w.output
  size : w.heap.size ≤ w'.heap.size
  block : ∀ k, k < w.heap.size → k ≠ lb → (own k = none ∨ own k = some .ink) → w'.heap[k]? = w.heap[k]?
  same : ∀ k, k < w.heap.size → own' k = own k
theorem StepsL.refl (lb : Nat) (own : Own) (w : World) : StepsL lb own own w w := ⟨rfl, rfl, rfl, Nat.le_refl _, fun _ _ _ _ => rfl, fun _ _ => rfl⟩
theorem StepsL.trans {lb : Nat} {o1 o2 o3 : Own} {w1 w2 w3 : World} (h : StepsL lb o1 o2 w1 w2) (k : StepsL lb o2 o3 w2 w3) : StepsL lb o1 o3 w1 w3 :=
  ⟨k.os.trans h.os, k.tape.trans h.tape, k.output.trans h.output, Nat.le_trans h.size k.size,
    fun b hb hl hn => (k.block b (Nat.lt_of_lt_of_le hb h.size) hl (by rw [h.same b hb]; exact hn)).trans (h.block b hb hl hn),
    fun b hb => (k.same b (Nat.lt_of_lt_of_le hb h.size)).trans (h.same b hb)⟩
theorem StepsL.of_steps {lb : Nat} {o1 o2 : Own} {w1 w2 : World} (h : Steps o1 o2 w1 w2) : StepsL lb o1 o2 w1 w2 := ⟨h.os, h.tape, h.output, h.size, fun k hk _ hn => h.block k hk hn, h.same⟩
theorem StepsL.of_file {n lb : Nat} {own own' : Own} {w w' : World} (hs : FileStep n (some lb) own own' w w') : StepsL lb own own' w w' :=
  ⟨hs.turned.os, hs.turned.tape, hs.turned.output, hs.turned.size, fun k hk hl hn => hs.turned.block k hk (by
    rintro (⟨r, h1, h2⟩ | h)
    · rcases hn with hn | hn
      · rw [hn] at h1; cases h1
      · rw [hn] at h1; cases h1; rcases h2 with h | h | h | h <;> cases h
    · cases h; exact hl rfl), hs.same⟩
theorem StepsL.lead {lb : Nat} {o1 o2 o3 : Own} {w1 w2 w3 : World} (h : Steps o1 o2 w1 w2) (k : StepsL lb o2 o3 w2 w3) (hl : w1.heap.size ≤ lb) : Steps o1 o3 w1 w3 :=
  ⟨k.os.trans h.os, k.tape.trans h.tape, k.output.trans h.output, Nat.le_trans h.size k.size,
    fun b hb hn => (k.block b (Nat.lt_of_lt_of_le hb h.size) (by omega) (by rw [h.same b hb]; exact hn)).trans (h.block b hb hn),
    fun b hb => (k.same b (Nat.lt_of_lt_of_le hb h.size)).trans (h.same b hb)⟩

/-- The names, as texts. -/
def namesOf (m : List (ByteArray × Nat)) : List ByteArray := (sortedNames m).map fun l => ⟨l.toArray⟩
theorem namesOf_length (m : List (ByteArray × Nat)) : (namesOf m).length = m.length := by simp [namesOf, sortedNames, List.length_mergeSort]
theorem namesOf_mem {m : List (ByteArray × Nat)} {s : ByteArray} (h : s ∈ namesOf m) : ∃ n, (s, n) ∈ m := by
  obtain ⟨l, hl, rfl⟩ := List.mem_map.1 h
  have : l ∈ m.map fun p => p.1.data.toList := (List.mergeSort_perm _ _).mem_iff.1 hl
  obtain ⟨p, hp, rfl⟩ := List.mem_map.1 this
  exact ⟨p.2, hp⟩
theorem namesOf_cells (m : List (ByteArray × Nat)) : (sortedNames m).map encStr = (namesOf m).map strV := by
  simp [namesOf, List.map_map, Function.comp_def, encStr, strV]

theorem withFile_twice (D : DiskA) (n : Nat) (F G : FileA) : (D.withFile n F).withFile n G = D.withFile n G := by
  unfold DiskA.withFile
  congr 1
  funext k
  by_cases h : k = n <;> simp [h]

/-- One file behind a crash: what the walk needs, put together. -/
theorem crash_file_done {own own6 own8 : Own} {a n fb lb i : Nat} {x : DiskA × Nat} {s : ByteArray} {bits : List Nat} {wr w6 w8 : World} (h : DiskIs wr own a x.1) (hx : x.2 = i) (hs : Mp.get x.1.seen s = some n) (hfb : Mp.get x.1.fm n = some fb)
    (hlb : ∀ k r, own k = some r → lb ≠ k)
    (f6 : FileIs w6 own6 n fb { x.1.cont n with kept := (redoOps (drawBit bits) (x.1.cont n).laid i (x.1.cont n).kept).1, laid := [] }) (s6 : FileStep n (some lb) own own6 wr w6)
    (f8 : FileIs w8 own8 n fb { x.1.cont n with seen := (redoOps (drawBit bits) (x.1.cont n).laid i (x.1.cont n).kept).1, kept := (redoOps (drawBit bits) (x.1.cont n).laid i (x.1.cont n).kept).1, laid := [] }) (s8 : FileStep n none own6 own8 w6 w8) :
    DiskIs w8 own8 a (x.1.withFile n ⟨(redoOps (drawBit bits) (x.1.cont n).laid i (x.1.cont n).kept).1, (redoOps (drawBit bits) (x.1.cont n).laid i (x.1.cont n).kept).1, []⟩) ∧ StepsL lb own own8 wr w8 := by
  have d6 := h.filed hfb f6 s6 (fun k r hk e => by cases e; exact hlb _ r hk rfl)
  have hfb6 : Mp.get (x.1.withFile n { x.1.cont n with kept := (redoOps (drawBit bits) (x.1.cont n).laid i (x.1.cont n).kept).1, laid := [] }).fm n = some fb := hfb
  have d8 := d6.filed hfb6 f8 s8 (fun _ _ _ e => by cases e)
  rw [withFile_twice] at d8
  exact ⟨d8, (StepsL.of_file s6).trans (StepsL.of_steps s8.steps)⟩
theorem crashFile_eq {x : DiskA × Nat} {s : ByteArray} {n : Nat} {bits : List Nat} (hs : Mp.get x.1.seen s = some n) :
    crashFile bits x s = ({ (x.1.withFile n ⟨(redoOps (drawBit bits) (x.1.cont n).laid x.2 (x.1.cont n).kept).1, (redoOps (drawBit bits) (x.1.cont n).laid x.2 (x.1.cont n).kept).1, []⟩) with used := x.1.used + ((redoOps (drawBit bits) (x.1.cont n).laid x.2 (x.1.cont n).kept).1.length : Int) }, (redoOps (drawBit bits) (x.1.cont n).laid x.2 (x.1.cont n).kept).2) := by
  unfold crashFile
  rw [hs]; rfl
end Go.Proofs.YtldkeelgnfegeaaGreat
