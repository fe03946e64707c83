/- The disk: names that last: the first loop of settle. -/
import Derived.Test.YtldkeelgnfegeaaGreatMDskW
import Derived.Laws.IdiomRangeMap

namespace Go.Proofs.YtldkeelgnfegeaaGreat
open Go Go.RowKit Go.By

def redoName : NameOp → List (ByteArray × Nat) → List (ByteArray × Nat)
  | .create s n, m => Mp.put m s n
  | .remove s, m => Mp.del m s
  | .rename s t, m => Mp.put (Mp.del m s) t ((Mp.get m s).getD 0)
def redoNames (l : List NameOp) (m : List (ByteArray × Nat)) : List (ByteArray × Nat) := l.foldl (fun m o => redoName o m) m
def NameOp.told : NameOp → Bool
  | .rename _ _ => false
  | _ => true
theorem redoNames_snoc (l : List NameOp) (o : NameOp) (m : List (ByteArray × Nat)) : redoNames (l ++ [o]) m = redoName o (redoNames l m) := by simp [redoNames]

/-- What redoing names has turned: the kept map alone. -/
structure KeptTo (w wr : World) (mk : Value) (own : Own) (K : List (ByteArray × Nat)) : Prop where
  map : MapV wr own .kept mk strV natV K
  os : wr.os = w.os
  tape : wr.tape = w.tape
  output : wr.output = w.output
  size : w.heap.size ≤ wr.heap.size
  block : ∀ j, j < w.heap.size → mk ≠ .map (some j) → wr.heap[j]? = w.heap[j]?

theorem KeptTo.step {w wr w2 : World} {b : Nat} {own : Own} {K K' : List (ByteArray × Nat)} (h : KeptTo w wr (.map (some b)) own K) (hr : own b = some .kept) (hm : Mp.Is w2 b strV natV K') (hg : wr.grownBy w2 (some b)) : KeptTo w w2 (.map (some b)) own K' :=
  ⟨.inr ⟨b, rfl, hr, hm⟩, hg.os.trans h.os, hg.tape.trans h.tape, hg.output.trans h.output, Nat.le_trans h.size hg.size, fun j hj hne =>
    (hg.block j (Nat.lt_of_lt_of_le hj h.size) (fun e => hne (by cases e; rfl))).trans (h.block j hj hne)⟩

/-- One operation on names, done again, by its value. -/
theorem redoName_any (o : NameOp) (ho : o.told = true) (b : Nat) (m : List (ByteArray × Nat)) (w : World) (hm : Mp.Is w b strV natV m) :
    ∃ fid recv, nameV o = .func (.func fid) #[recv] #[] ∧ (∀ args w, (callFunc fid args).run Tryz.prog w = .ok (.enter fid args) w) ∧ Calls Tryz.prog fid #[recv, .map (some b)] w (fun e w' => e = .returned (.tuple #[]) ∧ Mp.Is w' b strV natV (redoName o m) ∧ w.grownBy w' (some b)) := by
  cases o with
  | create s n => exact ⟨_, _, rfl, by intro args w; kernel_rfl, redoCreate_any s n b m w hm⟩
  | remove s => exact ⟨_, _, rfl, by intro args w; kernel_rfl, redoRemove_any s b m w hm⟩
  | rename s t => cases ho

theorem nameOps_size (w : World) : (sizeOf (Tryz.prog.elem 52)).run Tryz.prog w = .ok 1 w := by kernel_rfl
set_option maxRecDepth 100000 in
theorem upto_runN (p : Option Addr) (len cap n : Nat) (hn : n ≤ cap) (w : World) : (Instr.slice 52 (.slice p len cap) none (some (.int .i64 (n : Int))) none).run Tryz.prog w = .ok (.slice p n cap) w := by
  have hr := run_slice_h (P := Tryz.prog) w 52 p len cap (by kernel_rfl) .i64 (n : Int) (by omega) (by omega)
  have e2 : (n : Int).toNat = n := by omega
  simp only [nameOps_size, Result.andThen, e2, sliced, Nat.zero_mul, Nat.sub_zero] at hr
  rw [hr]
  congr 2
  split
  · rfl
  · cases p with
    | none => rfl
    | some a => simp [Addr.add]

theorem run_makeMap_int {t kt et : TypeId} (ht : Tryz.prog.underlying t = some (.map kt et)) (k : IntKind) (n : Int) (w : World) : (Instr.makeMap t (some (.int k n))).run Tryz.prog w = .ok (.map (some w.heap.size)) (w.alloc (.map #[] 0)) := by
  simp [Instr.makeMap, run_underlying ht, asInt, asIntOf]


/-- Everything that settle leaves is told of here: numbers that lead to files by name, and the others no more. -/
def Kept (fm : List (Nat × Nat)) (K : List (ByteArray × Nat)) (fm' : List (Nat × Nat)) : Prop := ∀ n, Mp.get fm' n = if n ∈ K.map (·.2) then Mp.get fm n else none
def DiskA.settled (D : DiskA) (n : Nat) (fm' : List (Nat × Nat)) : DiskA :=
  { D with kept := redoNames (D.laid.take n) D.kept, seen := redoNames (D.laid.take n) D.kept, laid := [], fm := fm' }

set_option maxRecDepth 100000 in
theorem settle_nil (own : Own) (a : Nat) (D : DiskA) (w : World) (h : DiskIs w own a D) {ms lv mf : Value} (h1 : w.heap[a]? = some (.cells (diskCells D ms (.map none) lv mf) 56 (0, 0))) (h2 : Parts w own ms (.map none) mf lv D) :
    Calls Tryz.prog 25 #[.pointer (some ⟨a, 0, none⟩), .int .i64 0] w fun e w' => e = .returned (.tuple #[]) ∧
      w'.heap.size = w.heap.size + 2 ∧ w'.heap[w.heap.size]? = some (.map #[] 0) ∧ w'.heap[a]? = some (.cells (diskCells D (.map none) (.map none) (.slice none 0 0) (.map (some w.heap.size))) 56 (0, 0)) ∧
      w'.os = w.os ∧ w'.tape = w.tape ∧ w'.output = w.output ∧ ∀ k, k < w.heap.size → k ≠ a → w'.heap[k]? = w.heap[k]? := by
  have hlt : a < w.heap.size := h.here a _ h.role
  obtain ⟨p, c, hlv⟩ : ∃ p c, lv = .slice p 0 c := by
    have hb := h2.bare rfl
    have := h2.laid
    rw [hb.2.2] at this
    rcases this.2 with ⟨h, _⟩ | ⟨g, c, _, h, _⟩
    · exact ⟨none, 0, h⟩
    · exact ⟨_, c, h⟩
  subst hlv
  have c4 : w.cell? ⟨a, 4, none⟩ = some ms := cells_of h1 4
  have c5 : w.cell? ⟨a, 5, none⟩ = some (.map none) := cells_of h1 5
  have c6 : w.cell? ⟨a, 6, none⟩ = some (.slice p 0 c) := cells_of h1 6
  have c8 : w.cell? ⟨a, 8, none⟩ = some mf := cells_of h1 8
  have f4 := free_of h1 4
  have f6 := free_of h1 6
  have f8 := free_of h1 8
  have hup := upto_runN p 0 c 0 (Nat.zero_le _)
  have H1 := Lib.hid h1
  clear h h1 h2
  go_enter Tryz.func25, Tryz.ntmps25
  go_wp2
  clear hup
  go_loop [16] (fun i => i = .int .i64 0) (fun _ => 0)
  case atStart => rfl
  case round =>
    subst hrel
    have hln : ∀ (w : World) (ty : TypeId), (Builtin.len_ #[51] ty #[.map none]).run Tryz.prog w = .ok (.int .i64 0) w := fun w ty => by
      simp [Builtin.len_, run_underlying namesT, goInt]
    go_wp2_with fail
    refine (cloneNil_any _).mono ?_
    rintro e w1 ⟨rfl, rfl⟩
    have hmk := fun w => run_makeMap_int filesT .i64 0 w
    go_wp2_with fail
    obtain ⟨W5, hW5⟩ : ∃ W5, W5 = ((w.setCell ⟨a, 6, none⟩ (.slice none 0 0)).setCell ⟨a, 4, none⟩ (.map none)).alloc (.map #[] 0) := ⟨_, rfl⟩
    rw [← hW5]
    have s6 := set_heap H1.out 6 (.slice none 0 0)
    have s4 := set_heap s6.1 4 (.map none)
    have z5 : W5.heap.size = w.heap.size + 1 := by rw [hW5]; simp
    have k5 : W5.heap[w.heap.size]? = some (.map #[] 0) := by
      rw [hW5]
      have := heap_alloc_new ((w.setCell ⟨a, 6, none⟩ (.slice none 0 0)).setCell ⟨a, 4, none⟩ (.map none)) (.map #[] 0)
      simpa using this
    have a5 : W5.heap[a]? = some (.cells (diskCells D (.map none) (.map none) (.slice none 0 0) mf) 56 (0, 0)) := by
      rw [hW5, Below.heap_alloc _ _ _ (by simpa using hlt)]; exact s4.1
    have o5 : W5.os = w.os ∧ W5.tape = w.tape ∧ W5.output = w.output := by rw [hW5]; exact ⟨rfl, rfl, rfl⟩
    have b5 : ∀ k, k < w.heap.size → k ≠ a → W5.heap[k]? = w.heap[k]? := fun k hk hne => by
      rw [hW5, Below.heap_alloc _ _ _ (by simpa using hk)]
      exact (s4.2 k hne).trans (s6.2 k hne)
    have hlt5 : a < W5.heap.size := by omega
    have a6 : (W5.alloc (.mapIter none 0 #[] 0)).heap[a]? = some (.cells (diskCells D (.map none) (.map none) (.slice none 0 0) mf) 56 (0, 0)) := (Below.heap_alloc _ _ _ hlt5).trans a5
    have d8 : (W5.alloc (.mapIter none 0 #[] 0)).cell? ⟨a, 8, none⟩ = some mf := cells_of a6 8
    have e8 : (W5.alloc (.mapIter none 0 #[] 0)).frozen? ⟨a, 8, none⟩ = false := free_of a6 8
    have s8 := set_heap a6 8 (.map (some w.heap.size))
    have fin : ((W5.alloc (.mapIter none 0 #[] 0)).setCell ⟨a, 8, none⟩ (.map (some w.heap.size))).heap.size = w.heap.size + 2 ∧ ((W5.alloc (.mapIter none 0 #[] 0)).setCell ⟨a, 8, none⟩ (.map (some w.heap.size))).heap[w.heap.size]? = some (.map #[] 0) ∧
        ((W5.alloc (.mapIter none 0 #[] 0)).setCell ⟨a, 8, none⟩ (.map (some w.heap.size))).heap[a]? = some (.cells (diskCells D (.map none) (.map none) (.slice none 0 0) (.map (some w.heap.size))) 56 (0, 0)) ∧
        ((W5.alloc (.mapIter none 0 #[] 0)).setCell ⟨a, 8, none⟩ (.map (some w.heap.size))).os = w.os ∧ ((W5.alloc (.mapIter none 0 #[] 0)).setCell ⟨a, 8, none⟩ (.map (some w.heap.size))).tape = w.tape ∧ ((W5.alloc (.mapIter none 0 #[] 0)).setCell ⟨a, 8, none⟩ (.map (some w.heap.size))).output = w.output ∧
        ∀ k, k < w.heap.size → k ≠ a → ((W5.alloc (.mapIter none 0 #[] 0)).setCell ⟨a, 8, none⟩ (.map (some w.heap.size))).heap[k]? = w.heap[k]? := by
      refine ⟨by simp; omega, ?_, s8.1, o5.1, o5.2.1, o5.2.2, fun k hk hne => (s8.2 k hne).trans ((Below.heap_alloc _ _ _ (by omega)).trans (b5 k hk hne))⟩
      exact (s8.2 _ (by omega)).trans ((Below.heap_alloc _ _ _ (by omega)).trans k5)
    have FIN := Lib.hid fin
    have hrg := run_range_nilMap (P := Tryz.prog) W5 51 9 3 namesT
    have hnx : ∀ ty, (Instr.next (.pointer (some ⟨W5.heap.size, 0, none⟩)) false ty).run Tryz.prog (W5.alloc (.mapIter none 0 #[] 0)) = _ := fun ty => run_next_nilMap W5 ty 0 0 #[]
    clear s6 s4 z5 k5 a5 o5 b5 a6 s8 fin hW5 hmk hln c4 c5 c6 c8 f4 f6 f8 hlt hlt5
    rw [hrg]
    go_wp2
    refine wp_loop_rounds 1 ?_
    rw [rounds_succ]
    go_wp2
    go_returns
    exact ⟨rfl, FIN.out⟩
end Go.Proofs.YtldkeelgnfegeaaGreat

/- The disk: names that last: settle. -/
namespace Go.Proofs.YtldkeelgnfegeaaGreat
open Go Go.RowKit Go.By

/-- How many entries are still to come. -/
def leftIn (w : World) (r b : Nat) : Nat := match w.heap[r]?, w.heap[b]? with
  | some (.mapIter _ _ seen _), some (.map es _) => (leftOf es seen).size
  | _, _ => 0
theorem leftIn_of {w : World} {b r : Nat} {es : Array MapEntry} {clock : Nat} {seen : Array Nat} (h : Mp.Ranged w b r es clock seen) : leftIn w r b = (leftOf es seen).size := by
  unfold leftIn; rw [h.iter, h.map]

/-- The table of files that have a name, as it is filled. -/
structure Naming (W : World) (bs bn r : Nat) (es : Array MapEntry) (clock : Nat) (K : List (ByteArray × Nat)) (fm : List (Nat × Nat)) (seen : Array Nat) (wr : World) : Prop where
  rng : Mp.Ranged wr bs r es clock seen
  ns : ∃ ns, Mp.Is wr bn natV ptrV ns ∧ (∀ j, (∃ i s, K[i]? = some (s, j) ∧ Mp.came es seen i) → Mp.get ns j = Mp.get fm j) ∧ (∀ j, (¬ ∃ i s, K[i]? = some (s, j) ∧ Mp.came es seen i) → Mp.get ns j = none)
  below : Below bn W wr

theorem Naming.start {W W5 W6 : World} {bs bn r : Nat} {es : Array MapEntry} {clock : Nat} {K : List (ByteArray × Nat)} {fm : List (Nat × Nat)} (hb : W.heap[bs]? = some (.map es clock)) (h5 : W5 = W.alloc (.map #[] 0)) (h6 : W6 = W5.alloc (.mapIter (some bs) clock #[] clock)) (hn : bn = W.heap.size) (hr : r = W5.heap.size) :
    Naming W bs bn r es clock K fm #[] W6 := by
  subst hn hr
  have hbl : bs < W.heap.size := (Array.getElem?_eq_some_iff.1 hb).1
  have z5 : W5.heap.size = W.heap.size + 1 := by rw [h5]; simp
  have k5 : ∀ j, j < W.heap.size → W6.heap[j]? = W.heap[j]? := fun j hj => by
    rw [h6, Below.heap_alloc _ _ _ (by omega), h5, Below.heap_alloc _ _ _ hj]
  have i5 : Mp.Is W6 W.heap.size natV ptrV ([] : List (Nat × Nat)) := by
    have := Mp.Is.made W natV ptrV
    rw [← h5] at this
    exact this.of_heap (by rw [h6, Below.heap_alloc _ _ _ (by omega)])
  refine ⟨⟨(k5 bs hbl).trans hb, by rw [h6]; exact heap_alloc_new W5 _⟩, ⟨[], i5, fun j hj => ?_, fun _ _ => rfl⟩, ⟨by rw [h6, h5]; rfl, by rw [h6, h5]; rfl, by rw [h6, h5]; rfl, by rw [h6, h5]; simp; omega, k5⟩⟩
  obtain ⟨i, s, _, e, _, he⟩ := hj
  simp at he

theorem Naming.leave {W wr : World} {bs bn r : Nat} {es : Array MapEntry} {clock : Nat} {K : List (ByteArray × Nat)} {fm : List (Nat × Nat)} {seen : Array Nat} (h : Naming W bs bn r es clock K fm seen wr) (hall : ∀ i, i < K.length → Mp.came es seen i) :
    ∃ fm', Kept fm K fm' ∧ Mp.Is wr bn natV ptrV fm' := by
  obtain ⟨ns, h1, h2, h3⟩ := h.ns
  refine ⟨ns, fun j => ?_, h1⟩
  by_cases hj : j ∈ K.map (·.2)
  · rw [if_pos hj]
    obtain ⟨p, hp, rfl⟩ := List.mem_map.1 hj
    obtain ⟨i, hi, rfl⟩ := List.getElem_of_mem hp
    exact h2 _ ⟨i, K[i].1, List.getElem?_eq_getElem hi, hall i hi⟩
  · rw [if_neg hj]
    refine h3 j ?_
    rintro ⟨i, s, hs, _⟩
    exact hj (List.mem_map.2 ⟨(s, j), List.mem_of_getElem? hs, rfl⟩)

/-- One file more is laid into the table. -/
theorem Naming.step {W wr W7 W8 : World} {bs bn r i fb : Nat} {p : ByteArray × Nat} {e : MapEntry} {es : Array MapEntry} {clock : Nat} {K : List (ByteArray × Nat)} {fm : List (Nat × Nat)} {seen : Array Nat} (h : Naming W bs bn r es clock K fm seen wr) (hnd : (es.toList.map (·.born)).Nodup)
    {ns : List (Nat × Nat)} (h2 : ∀ j, (∃ i s, K[i]? = some (s, j) ∧ Mp.came es seen i) → Mp.get ns j = Mp.get fm j) (h3 : ∀ j, (¬ ∃ i s, K[i]? = some (s, j) ∧ Mp.came es seen i) → Mp.get ns j = none)
    (hp : K[i]? = some p) (he : es[i]? = some e) (hfb : Mp.get fm p.2 = some fb) (h7 : ∀ k, k ≠ r → W7.heap[k]? = wr.heap[k]?) (hz : W7.heap.size = wr.heap.size) (ho : W7.os = wr.os ∧ W7.tape = wr.tape ∧ W7.output = wr.output) (hR : Mp.Ranged W7 bs r es clock (seen.push e.born)) (hrb : bn < r) (hsb : bs < bn)
    (h8 : Mp.Is W8 bn natV ptrV (Mp.put ns p.2 fb)) (hg : W7.grownBy W8 (some bn)) :
    Naming W bs bn r es clock K fm (seen.push e.born) W8 := by
  have hlt : r < W7.heap.size := (Array.getElem?_eq_some_iff.1 hR.iter).1
  have hput : ∀ j, Mp.get (Mp.put ns p.2 fb) j = if p.2 = j then some fb else Mp.get ns j := fun j => Mp.get_put ns p.2 j fb
  refine ⟨⟨(hg.block bs (by omega) (by simp; omega)).trans hR.map, (hg.block r hlt (by simp; omega)).trans hR.iter⟩, ⟨Mp.put ns p.2 fb, h8, fun j hj => ?_, fun j hj => ?_⟩, ⟨hg.os.trans (ho.1.trans h.below.os), hg.tape.trans (ho.2.1.trans h.below.tape), hg.output.trans (ho.2.2.trans h.below.output), ?_, fun k hk => ?_⟩⟩
  · rw [hput]
    by_cases hpj : p.2 = j
    · rw [if_pos hpj, ← hpj, hfb]
    · rw [if_neg hpj]
      obtain ⟨i', s, hs, hc⟩ := hj
      rcases (Mp.came_push hnd he i').1 hc with hc | rfl
      · exact h2 j ⟨i', s, hs, hc⟩
      · rw [hp] at hs; cases hs; exact absurd rfl hpj
  · rw [hput]
    by_cases hpj : p.2 = j
    · exact absurd ⟨i, p.1, by rw [hp, ← hpj], (Mp.came_push hnd he i).2 (.inr rfl)⟩ hj
    · rw [if_neg hpj]
      refine h3 j ?_
      rintro ⟨i', s, hs, hc⟩
      exact hj ⟨i', s, hs, (Mp.came_push hnd he i').2 (.inl hc)⟩
  · have := h.below.size; have := hg.size; omega
  · exact (hg.block k (by omega) (by simp; omega)).trans ((h7 k (by omega)).trans (h.below.block k hk))

/-- What stands behind settle, where there are tables. -/
structure SettledSome (w w' : World) (a bk : Nat) (D : DiskA) (n : Nat) : Prop where
  out : ∃ fm' bs bn, Kept D.fm (redoNames (D.laid.take n) D.kept) fm' ∧ Mp.Is w' bk strV natV (redoNames (D.laid.take n) D.kept) ∧ Mp.Is w' bs strV natV (redoNames (D.laid.take n) D.kept) ∧ Mp.Is w' bn natV ptrV fm' ∧
    w.heap.size ≤ bs ∧ w.heap.size ≤ bn ∧ bs ≠ bn ∧ w'.heap[a]? = some (.cells (diskCells D (.map (some bs)) (.map (some bk)) (.slice none 0 0) (.map (some bn))) 56 (0, 0))
  os : w'.os = w.os
  tape : w'.tape = w.tape
  output : w'.output = w.output
  size : w.heap.size ≤ w'.heap.size
  block : ∀ k, k < w.heap.size → k ≠ a → k ≠ bk → w'.heap[k]? = w.heap[k]?

set_option maxRecDepth 100000 in
set_option maxHeartbeats 2000000 in
theorem settle_some (own : Own) (a n : Nat) (D : DiskA) (w : World) (h : DiskIs w own a D) {ms lv mf : Value} {bk : Nat} (h1 : w.heap[a]? = some (.cells (diskCells D ms (.map (some bk)) lv mf) 56 (0, 0))) (h2 : Parts w own ms (.map (some bk)) mf lv D)
    (hn : n ≤ D.laid.length) (hlen : D.laid.length < 1000000) (ht : ∀ o ∈ D.laid, o.told = true) (hin : ∀ j ∈ (redoNames (D.laid.take n) D.kept).map (·.2), (Mp.get D.fm j).isSome = true) :
    Calls Tryz.prog 25 #[.pointer (some ⟨a, 0, none⟩), .int .i64 n] w fun e w' => e = .returned (.tuple #[]) ∧ SettledSome w w' a bk D n := by
  have hlt : a < w.heap.size := h.here a _ h.role
  obtain ⟨hrk, hmk⟩ : own bk = some .kept ∧ Mp.Is w bk strV natV D.kept := by
    rcases h2.kept with ⟨hh, _⟩ | ⟨b, hh, hb, hm⟩
    · cases hh
    · cases hh; exact ⟨hb, hm⟩
  have hka : bk ≠ a := by rintro rfl; rw [h.role] at hrk; cases hrk
  obtain ⟨p, c, hlv, hlc, hcell⟩ : ∃ p c, lv = .slice p D.laid.length c ∧ D.laid.length ≤ c ∧ ∀ k o, D.laid[k]? = some o → ∃ g, p = some ⟨g, 0, none⟩ ∧ own g = some .laid ∧ w.cell? ⟨g, k, none⟩ = some (nameV o) := by
    have ho := h2.laid
    rcases ho.2 with ⟨h, h0⟩ | ⟨g, c, cur, h, _, hg, hc, _⟩
    · exact ⟨none, 0, by rw [h, h0], by omega, fun k o hk => by rw [List.eq_nil_of_length_eq_zero h0] at hk; cases hk⟩
    · refine ⟨_, c, h, hc, fun k o hk => ⟨g, rfl, h2.laidR g (by rw [h]; rfl), ?_⟩⟩
      have := ho.cells (g := g) (by rw [h]; rfl) k (nameV o) (by rw [List.getElem?_map, hk]; rfl)
      rw [Addr.add_lit, Nat.zero_add] at this
      exact this
  subst hlv
  have c5 : w.cell? ⟨a, 5, none⟩ = some (.map (some bk)) := cells_of h1 5
  have c6 : w.cell? ⟨a, 6, none⟩ = some (.slice p D.laid.length c) := cells_of h1 6
  have hup := upto_runN p D.laid.length c n (by omega)
  have H := Lib.hid h; have H1 := Lib.hid h1; have H2 := Lib.hid h2; have HC := Lib.hid hcell; have HT := Lib.hid ht; have HIN := Lib.hid hin; have HMK := Lib.hid hmk; have HRK := Lib.hid hrk; have HKA := Lib.hid hka
  clear h h1 h2 hcell ht hin hmk hrk hka
  go_enter Tryz.func25, Tryz.ntmps25
  go_wp2
  clear hup c5 c6
  have h0 : KeptTo w w (.map (some bk)) own D.kept := ⟨.inr ⟨bk, rfl, HRK.out, HMK.out⟩, rfl, rfl, rfl, Nat.le_refl _, fun _ _ _ => rfl⟩
  have H0 := Lib.hid h0; clear h0
  go_loopw [16] (fun i wr => ∃ k : Nat, k ≤ n ∧ i = .int .i64 k ∧ KeptTo w wr (.map (some bk)) own (redoNames (D.laid.take k) D.kept)) (fun i _ => n - (intOf i).toNat)
  case atStart => exact ⟨0, by omega, rfl, H0.out⟩
  case round =>
    obtain ⟨k, hk, rfl, hkt⟩ := hrel
    clear H0
    by_cases hkn : k < n
    · have hko : k < D.laid.length := by omega
      obtain ⟨g, rfl, hgr, hcg⟩ := HC.out k _ (List.getElem?_eq_getElem hko)
      have hgb : g ≠ bk := by rintro rfl; rw [HRK.out] at hgr; cases hgr
      have hgl : g < w.heap.size := H.out.here g _ hgr
      have q1 : wr.cell? ⟨g, k, none⟩ = some (nameV D.laid[k]) := (World.cell?_of_block (hkt.block g hgl (by intro e; cases e; exact hgb rfl))).trans hcg
      have q5 : wr.cell? ⟨a, 5, none⟩ = some (.map (some bk)) := (World.cell?_of_block (hkt.block a hlt (by intro e; cases e; exact HKA.out rfl))).trans (cells_of H1.out 5)
      have hmr : Mp.Is wr bk strV natV (redoNames (D.laid.take k) D.kept) := by
        rcases hkt.map with ⟨hh, _⟩ | ⟨b, hh, _, hm⟩
        · cases hh
        · cases hh; exact hm
      obtain ⟨fid, recv, hv, henter, hcall⟩ := redoName_any D.laid[k] (HT.out _ (List.getElem_mem hko)) bk _ wr hmr
      rw [hv] at q1
      have hsn : redoNames (D.laid.take (k + 1)) D.kept = redoName D.laid[k] (redoNames (D.laid.take k) D.kept) := by
        rw [List.take_succ_eq_append_getElem hko, redoNames_snoc]
      have HSN := Lib.hid hsn; have HCALL := Lib.hid hcall; have HKT := Lib.hid hkt
      have hkn' : (k : Int) < n := by omega
      have hkl : (k : Int) < D.laid.length := by omega
      clear hsn hcall hkt hcg hmr hv hgb hgl hgr
      go_wp2_with fail
      refine HCALL.out.mono ?_
      rintro e w2 ⟨rfl, hm2, hg2⟩
      have hkt2 := HKT.out.step HRK.out hm2 hg2
      have HKT2 := Lib.hid hkt2
      clear hm2 hg2 hkt2 henter
      go_wp2
      go_roundw
      case rel => exact ⟨k + 1, by omega, by go_num, by rw [HSN.out]; exact HKT2.out⟩
      case measure => simp [intOf]; omega
    · obtain rfl : k = n := by omega
      have a1 : wr.heap[a]? = some (.cells (diskCells D ms (.map (some bk)) (.slice p D.laid.length c) mf) 56 (0, 0)) := (hkt.block a hlt (by intro e; cases e; exact HKA.out rfl)).trans H1.out
      have s6 := set_heap a1 6 (.slice none 0 0)
      have q6 : wr.cell? ⟨a, 6, none⟩ = some (.slice p D.laid.length c) := cells_of a1 6
      have q5 : wr.cell? ⟨a, 5, none⟩ = some (.map (some bk)) := cells_of a1 5
      have q4 : wr.cell? ⟨a, 4, none⟩ = some ms := cells_of a1 4
      have f6 := free_of a1 6
      have hmr : Mp.Is wr bk strV natV (redoNames (D.laid.take k) D.kept) := by
        rcases hkt.map with ⟨hh, _⟩ | ⟨b, hh, _, hm⟩
        · cases hh
        · cases hh; exact hm
      obtain ⟨⟨es, clock, hes, hlies, hborn, hnd⟩, hkn2⟩ := hmr
      have hm2 : (wr.setCell ⟨a, 6, none⟩ (.slice none 0 0)).heap[bk]? = some (.map es clock) := (s6.2 bk HKA.out).trans hes
      have HKT := Lib.hid hkt; have HM2 := Lib.hid hm2; have S6 := Lib.hid s6; have HES := Lib.hid hes; have HLI := Lib.hid hlies; have HBO := Lib.hid hborn; have HND := Lib.hid hnd; have HKN := Lib.hid hkn2
      clear hkt a1 s6 hes hlies hborn hnd hkn2 hm2
      go_wp2_with fail
      refine (cloneMap_any bk es clock _ HM2.out).mono ?_
      rintro e W3 ⟨rfl, hW3⟩
      -- what stands behind the clone
      obtain ⟨bs, hbs⟩ : ∃ bs, bs = (wr.setCell ⟨a, 6, none⟩ (.slice none 0 0)).heap.size := ⟨_, rfl⟩
      rw [← hbs]
      have hbw : w.heap.size ≤ bs := by rw [hbs]; have := HKT.out.size; simpa using this
      have z3 : W3.heap.size = bs + 1 := by rw [hW3, hbs]; simp
      have m3 : W3.heap[bs]? = some (.map es clock) := by rw [hW3, hbs]; exact heap_alloc_new _ _
      have l3 : ∀ j, j < bs → W3.heap[j]? = (wr.setCell ⟨a, 6, none⟩ (.slice none 0 0)).heap[j]? := fun j hj => by rw [hW3]; exact Below.heap_alloc _ _ _ (by omega)
      have hbkl : bk < bs := by
        have := (Array.getElem?_eq_some_iff.1 HM2.out).1
        omega
      have a3 : W3.heap[a]? = some (.cells (diskCells D ms (.map (some bk)) (.slice none 0 0) mf) 56 (0, 0)) := (l3 a (by omega)).trans S6.out.1
      have k3 : W3.heap[bk]? = some (.map es clock) := (l3 bk hbkl).trans HM2.out
      have b3 : ∀ j, j < w.heap.size → j ≠ a → j ≠ bk → W3.heap[j]? = w.heap[j]? := fun j hj h1 h2 => (l3 j (by omega)).trans ((S6.out.2 j h1).trans (HKT.out.block j hj (by intro e; cases e; exact h2 rfl)))
      have o3 : W3.os = w.os ∧ W3.tape = w.tape ∧ W3.output = w.output := by rw [hW3]; exact ⟨HKT.out.os, HKT.out.tape, HKT.out.output⟩
      -- the names as they are seen
      have s4 := set_heap a3 4 (.map (some bs))
      have t4 : W3.cell? ⟨a, 4, none⟩ = some ms := cells_of a3 4
      have g4 := free_of a3 4
      obtain ⟨W4, hW4⟩ : ∃ W4, W4 = W3.setCell ⟨a, 4, none⟩ (.map (some bs)) := ⟨_, rfl⟩
      rw [← hW4] at s4
      have z4 : W4.heap.size = bs + 1 := by rw [hW4]; simpa using z3
      have m4 : W4.heap[bs]? = some (.map es clock) := (s4.2 bs (by omega)).trans m3
      have k4 : W4.heap[bk]? = some (.map es clock) := (s4.2 bk HKA.out).trans k3
      have b4 : ∀ j, j < w.heap.size → j ≠ a → j ≠ bk → W4.heap[j]? = w.heap[j]? := fun j hj h1 h2 => (s4.2 j h1).trans (b3 j hj h1 h2)
      have o4 : W4.os = w.os ∧ W4.tape = w.tape ∧ W4.output = w.output := by rw [hW4]; exact o3
      obtain ⟨W5, hW5⟩ : ∃ W5, W5 = W4.alloc (.map #[] 0) := ⟨_, rfl⟩
      obtain ⟨W6, hW6⟩ : ∃ W6, W6 = W5.alloc (.mapIter (some bs) clock #[] clock) := ⟨_, rfl⟩
      obtain ⟨bn, hbn⟩ : ∃ bn, bn = W4.heap.size := ⟨_, rfl⟩
      obtain ⟨r, hr⟩ : ∃ r, r = W5.heap.size := ⟨_, rfl⟩
      have z5 : W5.heap.size = bs + 2 := by rw [hW5]; simp; omega
      have m5 : W5.heap[bs]? = some (.map es clock) := by rw [hW5, Below.heap_alloc _ _ _ (by omega)]; exact m4
      have a5 : W5.heap[a]? = some (.cells (diskCells D (.map (some bs)) (.map (some bk)) (.slice none 0 0) mf) 56 (0, 0)) := by rw [hW5, Below.heap_alloc _ _ _ (by omega)]; exact s4.1
      have hNs := Naming.start (K := redoNames (D.laid.take k) D.kept) (fm := D.fm) m4 hW5 hW6 hbn hr
      have hlen' := Mp.Is.len (P := Tryz.prog) (mk := strV) (mv := natV) (m := redoNames (D.laid.take k) D.kept) (w := W3.setCell ⟨a, 4, none⟩ (.map (some bs))) (b := bs) (t := 51) ⟨⟨es, clock, by rw [← hW4]; exact m4, HLI.out, HBO.out, HND.out⟩, HKN.out⟩ namesT
      have hmk5 : (Instr.makeMap 54 (some (.int .i64 ((redoNames (D.laid.take k) D.kept).length : Int)))).run Tryz.prog (W3.setCell ⟨a, 4, none⟩ (.map (some bs))) = .ok (.map (some bn)) W5 := by
        rw [← hW4, run_makeMap_int filesT, hW5, hbn]
      have t5 : W5.cell? ⟨a, 4, none⟩ = some (.map (some bs)) := cells_of a5 4
      have hrg : (Instr.range 51 (.map (some bs))).run Tryz.prog W5 = .ok (.pointer (some ⟨r, 0, none⟩)) W6 := by
        rw [run_range_map W5 51 9 3 bs es clock namesT m5, hr, hW6]
      have hrn : r = bn + 1 := by omega
      have hsn : bs < bn := by omega
      have HNs := Lib.hid hNs; have S4 := Lib.hid s4; have K4 := Lib.hid k4; have B4 := Lib.hid b4; have O4 := Lib.hid o4; have HW4 := Lib.hid hW4; have HRN := Lib.hid hrn; have HSN := Lib.hid hsn; have HBN := Lib.hid hbn; have HBW := Lib.hid hbw; have HBKL := Lib.hid hbkl; have Z4 := Lib.hid z4
      clear hbs z3 m3 l3 a3 k3 b3 o3 s4 z4 m4 k4 b4 o4 hW5 hW6 z5 m5 a5 hNs hrn hsn hbn hr hW3 hW4 q4 q5 q6 f6 hbw hbkl
      clear HM2 S6 HES HC HT
      go_wp2
      clear hlen' hmk5 t5 hrg t4 g4
      go_loopw [8] (fun _ wr => ∃ seen, Naming W4 bs bn r es clock (redoNames (D.laid.take k) D.kept) D.fm seen wr) (fun _ wr => leftIn wr r bs)
      case atStart => exact ⟨_, HNs.out⟩
      case round =>
        clear HNs
        obtain ⟨seen, hN⟩ := hrel
        have hbn := HBN.out
        have hrn := HRN.out
        have hsn := HSN.out
        have hbw := HBW.out
        have hz := hN.below.size
        have ar : wr.heap[a]? = some (.cells (diskCells D (.map (some bs)) (.map (some bk)) (.slice none 0 0) mf) 56 (0, 0)) := (hN.below.block a (by omega)).trans S4.out.1
        have hR0 := hN.rng.next (P := Tryz.prog) HLI.out HBO.out HND.out 0
        rcases hR0 with ⟨hall, hnx⟩ | ⟨i, pr, e, w1, hp, he, hel, hw1, hnx, hR, hen⟩
        · obtain ⟨fm', hk', hi'⟩ := hN.leave (fun i hi => hall i hi)
          have s8 := set_heap ar 8 (.map (some bn))
          have q8 : wr.cell? ⟨a, 8, none⟩ = some mf := cells_of ar 8
          have f8 := free_of ar 8
          have fin : SettledSome w (wr.setCell ⟨a, 8, none⟩ (.map (some bn))) a bk D k := by
            have hbl := HBKL.out
            refine ⟨⟨fm', bs, bn, hk', ?_, ?_, hi'.of_heap (s8.2 bn (by omega)), by omega, by omega, by omega, s8.1⟩, ?_, ?_, ?_, ?_, fun j hj h1 h2 => ?_⟩
            · exact ⟨⟨es, clock, (s8.2 bk HKA.out).trans ((hN.below.block bk (by omega)).trans K4.out), HLI.out, HBO.out, HND.out⟩, HKN.out⟩
            · exact ⟨⟨es, clock, (s8.2 bs (by omega)).trans hN.rng.map, HLI.out, HBO.out, HND.out⟩, HKN.out⟩
            · exact hN.below.os.trans O4.out.1
            · exact hN.below.tape.trans O4.out.2.1
            · exact hN.below.output.trans O4.out.2.2
            · simp; omega
            · exact (s8.2 j h1).trans ((hN.below.block j (by omega)).trans (B4.out j hj h1 h2))
          have FIN := Lib.hid fin
          clear hbn hrn hsn hbw hz ar hall hk' hi' s8 fin hN
          go_wp2
          go_returns
          exact ⟨rfl, FIN.out⟩
        · obtain ⟨W7, hW7⟩ : ∃ W7, W7 = ChangeMaps.setBlock w1 r (.mapIter (some bs) clock (seen.push e.born) clock) := ⟨_, rfl⟩
          rw [← hW7] at hnx hR hen
          have hR7 := hR (by omega)
          have hen7 := hen (by omega)
          have h7 : ∀ j, j ≠ r → W7.heap[j]? = wr.heap[j]? := fun j hj => by
            rw [hW7]
            show (w1.heap.setIfInBounds r _)[j]? = _
            rw [Array.getElem?_setIfInBounds_ne (fun e => hj e.symm)]
            rcases hw1 with rfl | rfl <;> rfl
          have z7 : W7.heap.size = wr.heap.size := by
            rw [hW7]
            show (w1.heap.setIfInBounds r _).size = _
            rcases hw1 with rfl | rfl <;> simp
          have o7 : W7.os = wr.os ∧ W7.tape = wr.tape ∧ W7.output = wr.output := by
            rw [hW7]
            rcases hw1 with rfl | rfl <;> exact ⟨rfl, rfl, rfl⟩
          have hfbs : (Mp.get D.fm pr.2).isSome = true := HIN.out _ (List.mem_map.2 ⟨pr, List.mem_of_getElem? hp, rfl⟩)
          obtain ⟨fb, hfb⟩ := Option.isSome_iff_exists.1 hfbs
          obtain ⟨bf, hmf, hrf, hmf2⟩ : ∃ bf, mf = .map (some bf) ∧ own bf = some .files ∧ Mp.Is w bf natV ptrV D.fm := by
            rcases H2.out.files with ⟨hh, _⟩ | ⟨b, hh, hb, hm⟩
            · exact absurd hh (H2.out.full (by simp)).2
            · exact ⟨b, hh, hb, hm⟩
          subst hmf
          have hfa : bf ≠ a := by rintro rfl; rw [H.out.role] at hrf; cases hrf
          have hfk : bf ≠ bk := by rintro rfl; rw [HRK.out] at hrf; cases hrf
          have hfl : bf < w.heap.size := H.out.here bf _ hrf
          have i7 : Mp.Is W7 bf natV ptrV D.fm := hmf2.of_heap ((h7 bf (by omega)).trans ((hN.below.block bf (by omega)).trans (B4.out bf hfl hfa hfk)))
          have a7 : W7.heap[a]? = some (.cells (diskCells D (.map (some bs)) (.map (some bk)) (.slice none 0 0) (.map (some bf))) 56 (0, 0)) := (h7 a (by omega)).trans ar
          have q8 : W7.cell? ⟨a, 8, none⟩ = some (.map (some bf)) := cells_of a7 8
          have hlk := (i7.look natK filesT (zeroFile W7) pr.2).2
          rw [hfb] at hlk
          obtain ⟨ns, hns, hn2, hn3⟩ := hN.ns
          have hns7 : Mp.Is W7 bn natV ptrV ns := hns.of_heap (h7 bn (by omega))
          obtain ⟨W8, hup8, hi8, hg8, _⟩ := update_world hns7 natK filesT pr.2 fb
          have hN8 : Naming W4 bs bn r es clock (redoNames (D.laid.take k) D.kept) D.fm (seen.push e.born) W8 := hN.step HND.out hn2 hn3 hp he hfb h7 z7 o7 hR7 (by omega) (by omega) hi8 hg8
          have hms : leftIn W8 r bs < leftIn wr r bs := by rw [leftIn_of hN8.rng, leftIn_of hN.rng]; exact Mp.left_less hel
          have HN8 := Lib.hid hN8; have HMS := Lib.hid hms
          unfold natV ptrV at hlk hup8
          unfold natV strV at hnx hen7
          simp only [Option.map_some, Option.getD_some] at hlk
          clear hbn hrn hsn hbw hz ar hp he hel hw1 hR hen hW7 hR7 h7 z7 o7 hfbs hfb hrf hmf2 hfa hfk hfl i7 a7 hns hns7 hi8 hg8 hN8 hms hN hn2 hn3
          go_wp2
          go_roundw
          case rel => exact ⟨_, HN8.out⟩
          case measure => exact HMS.out
end Go.Proofs.YtldkeelgnfegeaaGreat

/- The disk: names that last: settle, as lists; SyncDir. -/
namespace Go.Proofs.YtldkeelgnfegeaaGreat
open Go Go.RowKit Go.By

theorem mem_put {α β : Type} [DecidableEq α] {m : List (α × β)} {a : α} {v : β} {p : α × β} (h : p ∈ Mp.put m a v) : p = (a, v) ∨ p ∈ m := by
  induction m with
  | nil => simp [Mp.put] at h; exact .inl h
  | cons q m ih =>
    simp only [Mp.put] at h
    split at h
    · rcases List.mem_cons.1 h with h | h
      · exact .inl h
      · exact .inr (List.mem_cons_of_mem _ h)
    · rcases List.mem_cons.1 h with h | h
      · exact .inr (by rw [h]; exact List.mem_cons_self)
      · rcases ih h with h | h
        · exact .inl h
        · exact .inr (List.mem_cons_of_mem _ h)
theorem mem_del {α β : Type} [DecidableEq α] {m : List (α × β)} {a : α} {p : α × β} (h : p ∈ Mp.del m a) : p ∈ m := by
  induction m with
  | nil => simp [Mp.del] at h
  | cons q m ih =>
    simp only [Mp.del] at h
    split at h
    · exact List.mem_cons_of_mem _ h
    · rcases List.mem_cons.1 h with h | h
      · rw [h]; exact List.mem_cons_self
      · exact List.mem_cons_of_mem _ (ih h)
theorem get_of_mem {α β : Type} [DecidableEq α] {m : List (α × β)} (hn : (m.map (·.1)).Nodup) {p : α × β} (h : p ∈ m) : Mp.get m p.1 = some p.2 := by
  induction m with
  | nil => cases h
  | cons q m ih =>
    simp only [List.map_cons, List.nodup_cons] at hn
    simp only [Mp.get]
    rcases List.mem_cons.1 h with h | h
    · subst h; rw [if_pos rfl]
    · rw [if_neg (by intro e; exact hn.1 (by rw [e]; exact List.mem_map_of_mem h))]
      exact ih hn.2 h
theorem mem_of_get {α β : Type} [DecidableEq α] {m : List (α × β)} {a : α} {v : β} (h : Mp.get m a = some v) : (a, v) ∈ m := by
  induction m with
  | nil => cases h
  | cons q m ih =>
    simp only [Mp.get] at h
    split at h
    · rename_i e
      cases h; rw [← e]; exact List.mem_cons_self
    · exact List.mem_cons_of_mem _ (ih h)

theorem mem_redo {l : List NameOp} (ht : ∀ o ∈ l, o.told = true) : ∀ {m : List (ByteArray × Nat)} {p : ByteArray × Nat}, p ∈ redoNames l m → p ∈ m ∨ NameOp.create p.1 p.2 ∈ l := by
  induction l with
  | nil => intro m p h; exact .inl h
  | cons o l ih =>
    intro m p h
    have hh : p ∈ redoNames l (redoName o m) := h
    rcases ih (fun o ho => ht o (List.mem_cons_of_mem _ ho)) hh with h | h
    · cases o with
      | create s n =>
        rcases mem_put h with h | h
        · subst h; exact .inr List.mem_cons_self
        · exact .inl h
      | remove s => exact .inl (mem_del h)
      | rename s t => have := ht _ List.mem_cons_self; cases this
    · exact .inr (List.mem_cons_of_mem _ h)
theorem nodup_redo {l : List NameOp} : ∀ {m : List (ByteArray × Nat)}, (m.map (·.1)).Nodup → ((redoNames l m).map (·.1)).Nodup := by
  induction l with
  | nil => intro m h; exact h
  | cons o l ih =>
    intro m h
    refine ih (m := redoName o m) ?_
    cases o with
    | create s n => exact Mp.nodup_put h s n
    | remove s => exact Mp.nodup_del h s
    | rename s t => exact Mp.nodup_put (Mp.nodup_del h s) t _

theorem MapV.nodup {α β : Type} [DecidableEq α] {w : World} {own : Own} {r : Role} {v : Value} {mk : α → Value} {mv : β → Value} {m : List (α × β)} (h : MapV w own r v mk mv m) : (m.map (·.1)).Nodup := by
  rcases h with ⟨_, rfl⟩ | ⟨_, _, _, hm⟩
  · simp
  · exact hm.nodup

/-- The numbers that names lead to have files. -/
theorem redo_in {D : DiskA} (hok : D.Ok) (hn : (D.kept.map (·.1)).Nodup) (ht : ∀ o ∈ D.laid, o.told = true) (n : Nat) : ∀ j ∈ (redoNames (D.laid.take n) D.kept).map (·.2), (Mp.get D.fm j).isSome = true := by
  intro j hj
  obtain ⟨p, hp, rfl⟩ := List.mem_map.1 hj
  rcases mem_redo (fun o ho => ht o (List.mem_of_mem_take ho)) hp with h | h
  · exact hok.keptIn p.1 p.2 (get_of_mem hn h)
  · exact hok.laidIn p.1 p.2 (List.mem_of_mem_take h)

theorem DiskA.settled_ok {D : DiskA} (hok : D.Ok) {n : Nat} {fm' : List (Nat × Nat)} (hk : Kept D.fm (redoNames (D.laid.take n) D.kept) fm') (hin : ∀ j ∈ (redoNames (D.laid.take n) D.kept).map (·.2), (Mp.get D.fm j).isSome = true) : (D.settled n fm').Ok where
  seenIn := fun s j h => by
    have hm : j ∈ (redoNames (D.laid.take n) D.kept).map (·.2) := List.mem_map.2 ⟨(s, j), mem_of_get h, rfl⟩
    show (Mp.get fm' j).isSome = true
    rw [hk j, if_pos hm]; exact hin j hm
  keptIn := fun s j h => by
    have hm : j ∈ (redoNames (D.laid.take n) D.kept).map (·.2) := List.mem_map.2 ⟨(s, j), mem_of_get h, rfl⟩
    show (Mp.get fm' j).isSome = true
    rw [hk j, if_pos hm]; exact hin j hm
  laidIn := fun s j h => by cases h
  made := fun j h => by
    have h' : (Mp.get fm' j).isSome = true := h
    rw [hk j] at h'
    split at h'
    · exact hok.made j h'
    · cases h'

def Settled (own : Own) (a n : Nat) (D : DiskA) (w w' : World) : Prop :=
  ∃ own' fm', Steps own own' w w' ∧ DiskIs w' own' a (D.settled n fm') ∧ Kept D.fm (redoNames (D.laid.take n) D.kept) fm'

theorem settle_any (own : Own) (a n : Nat) (D : DiskA) (w : World) (h : DiskIs w own a D) (hok : D.Ok) (hn : n ≤ D.laid.length) (hlen : D.laid.length < 1000000) (ht : ∀ o ∈ D.laid, o.told = true) :
    Calls Tryz.prog 25 #[.pointer (some ⟨a, 0, none⟩), .int .i64 n] w fun e w' => e = .returned (.tuple #[]) ∧ Settled own a n D w w' := by
  obtain ⟨ms, mk, mf, lv, h1, h2⟩ := h.out
  have hlt : a < w.heap.size := h.here a _ h.role
  rcases h2.kept with ⟨rfl, hk0⟩ | ⟨bk, rfl, hrk, hmk⟩
  · have hb := h2.bare rfl
    have hn0 : n = 0 := by rw [hb.2.2] at hn; simpa using hn
    subst hn0
    refine (settle_nil own a D w h h1 h2).mono ?_
    rintro e w' ⟨rfl, z, kn, ka, q1, q2, q3, kb⟩
    have he : redoNames (D.laid.take 0) D.kept = [] := by rw [List.take_zero, hk0]; rfl
    refine ⟨rfl, own.add w.heap.size .files, [], ⟨q1, q2, q3, by omega, fun k hk hne => kb k hk ?_, fun k hk => Own.add_lt hk⟩, ⟨⟨.map none, .map none, .map (some w.heap.size), .slice none 0 0, ka, ?_⟩, ?_, fun k hk => ?_, fun k r hk => ?_⟩, ?_⟩
    · rintro rfl; rw [h.role] at hne; simp at hne
    · refine ⟨.inl ⟨rfl, he⟩, .inl ⟨rfl, he⟩, World.ownsRow_nil _ _ _ _, fun k hk => (by cases hk), .inr ⟨w.heap.size, rfl, Own.add_self _ _ _, ⟨⟨#[], 0, kn, rfl, by simp, by simp⟩, by simp [DiskA.settled]⟩⟩, fun j fb hj => (by cases hj), fun _ => ⟨he, rfl, rfl⟩, fun hne => absurd rfl hne, fun _ => rfl⟩
    · exact Own.add_old h.here (Nat.le_refl _) h.role
    · rcases Own.add_some hk with ⟨_, hh⟩ | hh
      · cases hh
      · exact h.only k hh
    · rcases Own.add_some hk with ⟨hh, _⟩ | hh
      · omega
      · have := h.here k r hh; omega
    · intro j; rw [he]; rfl
  · have hin := redo_in hok h2.kept.nodup ht n
    refine (settle_some own a n D w h h1 h2 hn hlen ht hin).mono ?_
    rintro e w' ⟨rfl, ⟨fm', bs, bn, hk, i1, i2, i3, hbs, hbn, hne, ha⟩, q1, q2, q3, z, kb⟩
    have hka : bk ≠ a := by rintro rfl; rw [h.role] at hrk; cases hrk
    let o1 := own.add bs .seen
    let o2 := o1.add bn .files
    have r0 : ∀ k r, own k = some r → o2 k = some r := fun k r hkr => by
      have := h.here k r hkr
      show (o1.add bn .files) k = _
      unfold Own.add
      rw [if_neg (by omega)]
      show (own.add bs .seen) k = _
      unfold Own.add
      rw [if_neg (by omega)]; exact hkr
    have rs : o2 bs = some .seen := by
      show (o1.add bn .files) bs = _
      unfold Own.add
      rw [if_neg hne]
      exact Own.add_self _ _ _
    have rn : o2 bn = some .files := Own.add_self _ _ _
    have stay : Stay own o2 (fun r => r ≠ .disk ∧ r ≠ .kept) w w' := ⟨r0, fun k r hkr hr => kb k (h.here k r hkr) (by rintro rfl; rw [h.role] at hkr; cases hkr; exact hr.1 rfl) (by rintro rfl; rw [hrk] at hkr; cases hkr; exact hr.2 rfl)⟩
    refine ⟨rfl, o2, fm', ⟨q1, q2, q3, z, fun k hkl hor => kb k hkl ?_ ?_, fun k hkl => ?_⟩, ⟨⟨_, _, _, _, ha, ?_⟩, r0 a _ h.role, fun k hkr => ?_, fun k r hkr => ?_⟩, hk⟩
    · rintro rfl; rw [h.role] at hor; simp at hor
    · rintro rfl; rw [hrk] at hor; simp at hor
    · show (o1.add bn .files) k = _
      unfold Own.add
      rw [if_neg (by omega)]
      show (own.add bs .seen) k = _
      unfold Own.add
      rw [if_neg (by omega)]
    · refine ⟨.inr ⟨bs, rfl, rs, i2⟩, .inr ⟨bk, rfl, r0 bk _ hrk, i1⟩, World.ownsRow_nil _ _ _ _, fun k hk => (by cases hk), .inr ⟨bn, rfl, rn, i3⟩, fun j fb hj => ?_, fun hh => (by cases hh), fun _ => ⟨by simp, by simp⟩, fun _ => rfl⟩
      have hj' : Mp.get fm' j = some fb := hj
      rw [hk j] at hj'
      split at hj'
      · exact (h2.each j fb hj').stay stay (by simp) (by simp) (by simp) (by simp) (by simp)
      · cases hj'
    · rcases Own.add_some hkr with ⟨_, hh⟩ | hh
      · cases hh
      rcases Own.add_some hh with ⟨_, hh⟩ | hh
      · cases hh
      exact h.only k hh
    · rcases Own.add_some hkr with ⟨rfl, _⟩ | hh
      · exact i3.lt
      rcases Own.add_some hh with ⟨rfl, _⟩ | hh
      · exact i2.lt
      have := h.here k r hh; omega

/-- What SyncDir leaves. -/
def SyncedDir (own : Own) (a : Nat) (D : DiskA) (w : World) (e : Ending) (w' : World) : Prop :=
  (∃ own', Steps own own' w w' ∧ (D.begin true).2 ≠ 0 ∧ e = .returned (.int .i64 (D.begin true).2) ∧ DiskIs w' own' a (D.begin true).1) ∨
  ((D.begin true).2 = 0 ∧ e = .returned (.int .i64 0) ∧ Settled own a D.laid.length (D.begin true).1 w w')

set_option maxRecDepth 100000 in
theorem syncDir_any (own : Own) (a : Nat) (D : DiskA) (w : World) (h : DiskIs w own a D) (hok : D.Ok) (ho : D.ops < 4611686018427387904) (hl : D.left < 4611686018427387904) (hlen : D.laid.length < 1000000) (ht : ∀ o ∈ D.laid, o.told = true) :
    Calls Tryz.prog 9 #[.pointer (some ⟨a, 0, none⟩)] w (SyncedDir own a D w) := by
  have hc := begin_any own a D true w h ho hl
  have hbl : (D.begin true).1.laid = D.laid := (DiskA.begin_same D true).2.2.1
  by_cases he : (D.begin true).2 = 0
  · have HOK := Lib.hid (DiskA.begin_ok hok true)
    have HC := Lib.hid hc; have HBL := Lib.hid hbl; have HE := Lib.hid he; have HLEN := Lib.hid hlen; have HT := Lib.hid ht
    clear hc hbl he h hok ho hl hlen ht
    go_enter Tryz.func9, Tryz.ntmps9
    go_wp2_with fail
    refine HC.out.mono ?_
    rintro e w1 ⟨rfl, hd1, hs1⟩
    rw [HE.out]
    obtain ⟨ms, mk, mf, lv, k1, k2⟩ := hd1.out
    obtain ⟨p, c, rfl⟩ : ∃ p c, lv = .slice p (D.begin true).1.laid.length c := by
      rcases k2.laid.2 with ⟨h, h0⟩ | ⟨g, c, _, h, _⟩
      · exact ⟨none, 0, by rw [h, h0]⟩
      · exact ⟨_, c, h⟩
    have c6 : w1.cell? ⟨a, 6, none⟩ = some (.slice p (D.begin true).1.laid.length c) := cells_of k1 6
    have hst := settle_any own a (D.begin true).1.laid.length (D.begin true).1 w1 hd1 HOK.out (Nat.le_refl _) (by rw [HBL.out]; exact HLEN.out) (by rw [HBL.out]; exact HT.out)
    have HST := Lib.hid hst; have HS1 := Lib.hid hs1; have HD1 := Lib.hid hd1
    clear hst hs1 hd1 k1 k2
    go_wp2_with fail
    refine HST.out.mono ?_
    rintro e w2 ⟨rfl, hset⟩
    have hfin : SyncedDir own a D w (.returned (.int .i64 0)) w2 := by
      obtain ⟨own', fm', q1, q2, q3⟩ := hset
      refine .inr ⟨HE.out, rfl, own', fm', HS1.out.trans q1, ?_, ?_⟩
      · rw [HBL.out] at q2; exact q2
      · rw [HBL.out] at q3; rw [HBL.out]; exact q3
    have HFIN := Lib.hid hfin
    clear hset hfin c6
    go_wp2
    go_ret
    exact HFIN.out
  · have hc0 : ∃ x : Int, (D.begin true).2 = x ∧ x ≠ 0 := ⟨_, rfl, he⟩
    obtain ⟨x, hx, hx0⟩ := hc0
    have HC := Lib.hid hc; have HX := Lib.hid hx; have HE := Lib.hid he
    clear hc hbl he h hok ho hl hlen ht hx
    go_enter Tryz.func9, Tryz.ntmps9
    go_wp2_with fail
    refine HC.out.mono ?_
    rintro e w1 ⟨rfl, hd1, hs1⟩
    rw [HX.out]
    have hxb : (x == 0) = false := beq_eq_false_iff_ne.2 hx0
    clear hx0
    have HD1 := Lib.hid hd1; have HS1 := Lib.hid hs1
    clear hd1 hs1
    go_wp2
    go_ret
    exact .inl ⟨own, HS1.out, HE.out, by rw [HX.out]; rfl, HD1.out⟩
end Go.Proofs.YtldkeelgnfegeaaGreat
