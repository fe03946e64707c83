/- The law of names that survive: what its loops keep of the disk. -/
import Derived.Test.YtobhhedggppneaaDskBE
namespace Go.Proofs.Ytobhhedggppneaa
open Go Go.RowKit Go.By

theorem begun0 {D : DiskA} (h : D.left = 0) : D.begin true = ({ D with ops := D.ops + 1, left := 0 }, 0) := by
  unfold DiskA.begin
  rw [if_neg (by omega), h]; rfl
theorem far_steps {W w w' : World} {own own' : Own} (far : ∀ k r, own k = some r → W.heap.size ≤ k) (hb : Below W.heap.size W w) (hs : Steps own own' w w') (_hd : ∀ k r, own' k = some r → k < w'.heap.size) :
    Below W.heap.size W w' ∧ ∀ k r, own' k = some r → W.heap.size ≤ k := by
  refine ⟨hb.trans (hs.below hb.size far), fun k r hk => ?_⟩
  by_cases h : k < w.heap.size
  · rw [hs.same k h] at hk; exact far k r hk
  · have := hb.size; omega
theorem created_ok {D : DiskA} (h : D.Ok) (s : ByteArray) (fb : Nat) : (D.create s fb).Ok := by
  have hin : ∀ n, (Mp.get D.fm n).isSome = true → (Mp.get (Mp.put D.fm (D.made + 1) fb) n).isSome = true := fun n hn => by
    rw [Mp.get_put]; split
    · rfl
    · exact hn
  have hnew : (Mp.get (Mp.put D.fm (D.made + 1) fb) (D.made + 1)).isSome = true := by rw [Mp.get_put, if_pos rfl]; rfl
  refine ⟨fun t n ht => ?_, fun t n ht => hin n (h.keptIn t n ht), fun t n ht => ?_, fun n hn => ?_⟩
  · have ht' : Mp.get (Mp.put D.seen s (D.made + 1)) t = some n := ht
    rw [Mp.get_put] at ht'
    split at ht'
    · cases ht'; exact hnew
    · exact hin n (h.seenIn t n ht')
  · have ht' : NameOp.create t n ∈ D.laid ++ [.create s (D.made + 1)] := ht
    rcases List.mem_append.1 ht' with h' | h'
    · exact hin n (h.laidIn t n h')
    · rw [List.mem_singleton] at h'
      cases h'; exact hnew
  · have hn' : (Mp.get (Mp.put D.fm (D.made + 1) fb) n).isSome = true := hn
    rw [Mp.get_put] at hn'
    show n ≤ D.made + 1
    split at hn'
    · omega
    · have := h.made n hn'; omega

theorem put_new {α β : Type} [DecidableEq α] {m : List (α × β)} {a : α} (h : Mp.get m a = none) (v : β) : Mp.put m a v = m ++ [(a, v)] := by
  induction m with
  | nil => rfl
  | cons p m ih =>
    simp only [Mp.get] at h
    split at h
    · cases h
    · rename_i hne
      simp only [Mp.put, if_neg hne, List.cons_append, ih h]

/-- The i-th name. -/
def nmf (i : Nat) : ByteArray := (⟨#[102]⟩ : ByteArray) ++ Go.By.strOf [48 + i]
theorem nmf_inj : ∀ i, i < 10 → ∀ j, j < 10 → nmf i = nmf j → i = j := by decide +kernel
theorem nmf_may : ∀ i, i < 10 → mayName (nmf i) = true := by decide +kernel
theorem nmf_size : ∀ i, i < 10 → (nmf i).size = 2 := by decide +kernel
theorem nmf_le : ∀ i, i < 10 → ∀ j, j < 10 → i < j → (nmf i).data.toList ≤ (nmf j).data.toList := by decide +kernel

def nmPairs (i : Nat) : List (ByteArray × Nat) := (List.range i).map fun j => (nmf j, j + 1)
def nmOps (i : Nat) : List NameOp := (List.range i).map fun j => .create (nmf j) (j + 1)
theorem nmPairs_get {i j : Nat} (hi : i ≤ 10) (hj : j < 10) : Mp.get (nmPairs i) (nmf j) = if j < i then some (j + 1) else none := by
  induction i with
  | zero => rfl
  | succ i ih =>
    have e : nmPairs (i + 1) = Mp.put (nmPairs i) (nmf i) (i + 1) := by
      rw [put_new (by rw [show Mp.get (nmPairs i) (nmf i) = none by
        cases h : Mp.get (nmPairs i) (nmf i) with
        | none => rfl
        | some n =>
          obtain ⟨q, hq, he⟩ := List.mem_map.1 (mem_of_get h)
          simp only [Prod.mk.injEq] at he
          have := nmf_inj q (by have := List.mem_range.1 hq; omega) i (by omega) he.1
          have := List.mem_range.1 hq
          omega])]
      unfold nmPairs
      rw [List.range_succ, List.map_append]; rfl
    rw [e, Mp.get_put]
    by_cases h : nmf i = nmf j
    · have := nmf_inj i (by omega) j hj h
      subst this
      rw [if_pos rfl, if_pos (by omega)]
    · rw [if_neg h, ih (by omega)]
      have : j ≠ i := fun e => h (by rw [e])
      by_cases h1 : j < i
      · rw [if_pos h1, if_pos (by omega)]
      · rw [if_neg h1, if_neg (by omega)]
theorem nmPairs_succ {i : Nat} (hi : i < 10) : Mp.put (nmPairs i) (nmf i) (i + 1) = nmPairs (i + 1) := by
  rw [put_new (by rw [nmPairs_get (by omega) hi, if_neg (by omega)])]
  unfold nmPairs
  rw [List.range_succ, List.map_append]; rfl
theorem nmOps_succ (i : Nat) : nmOps i ++ [.create (nmf i) (i + 1)] = nmOps (i + 1) := by
  unfold nmOps
  rw [List.range_succ, List.map_append]; rfl
theorem nm_redo : ∀ i, i ≤ 10 → redoNames (nmOps i) [] = nmPairs i
  | 0, _ => rfl
  | i + 1, h => by
    rw [← nmOps_succ, redoNames_snoc, nm_redo i (by omega)]
    exact nmPairs_succ (by omega)
theorem nmOps_take (k c : Nat) (h : c ≤ k) : (nmOps k).take c = nmOps c := by
  unfold nmOps
  rw [← List.map_take, List.take_range, Nat.min_eq_left h]

/-- What the first loop keeps of the disk. -/
structure NI (W : World) (i a : Nat) (own : Own) (D : DiskA) (wr : World) : Prop where
  disk : DiskIs wr own a D
  ok : D.Ok
  far : ∀ k r, own k = some r → W.heap.size ≤ k
  below : Below W.heap.size W wr
  left : D.left = 0
  ops : D.ops ≤ i
  seen : D.seen = nmPairs i
  kept : D.kept = []
  laid : D.laid = nmOps i
  made : D.made = i
  cont : ∀ n, D.cont n = ⟨[], [], []⟩
theorem NI.create {W wr w' : World} {i a : Nat} {own : Own} {D : DiskA} {e : Ending} (h : NI W i a own D wr) (hi : i < 10) (hc : Created own a D (nmf i) wr e w') :
    e = .returned (.int .i64 0) ∧ ∃ own' D', NI W (i + 1) a own' D' w' := by
  obtain ⟨own', hs, hc⟩ := hc
  rw [nmf_may i hi, begun0 h.left] at hc
  rcases hc with ⟨h1, _⟩ | ⟨_, h1, _⟩ | ⟨_, _, rfl, fb, hd⟩
  · exact absurd rfl h1
  · rw [h.seen, nmPairs_get (by omega) hi, if_neg (by omega)] at h1; cases h1
  · obtain ⟨hb, hf⟩ := far_steps h.far h.below hs hd.here
    refine ⟨rfl, own', _, ⟨hd, ?_, hf, hb, rfl, ?_, ?_, h.kept, ?_, ?_, fun n => ?_⟩⟩
    · exact created_ok (D := { D with ops := D.ops + 1, left := 0 }) ⟨h.ok.seenIn, h.ok.keptIn, h.ok.laidIn, h.ok.made⟩ _ _
    · show D.ops + 1 ≤ i + 1
      have := h.ops; omega
    · show Mp.put D.seen (nmf i) (D.made + 1) = _
      rw [h.seen, h.made]; exact nmPairs_succ hi
    · show D.laid ++ [.create (nmf i) (D.made + 1)] = _
      rw [h.laid, h.made]; exact nmOps_succ i
    · show D.made + 1 = i + 1
      rw [h.made]
    · show (if n = D.made + 1 then (⟨[], [], []⟩ : FileA) else D.cont n) = _
      split
      · rfl
      · exact h.cont n

theorem crash_empty {bits : List Nat} : ∀ (l : List ByteArray) (x : DiskA × Nat), (∀ n, x.1.cont n = ⟨[], [], []⟩) → ∀ n, (crashFiles bits l x).1.cont n = ⟨[], [], []⟩
  | [], _, h => h
  | s :: l, x, h => by
    refine crash_empty l (crashFile bits x s) (fun n => ?_)
    show (if n = _ then (⟨_, _, []⟩ : FileA) else x.1.cont n) = _
    split
    · rw [h]; rfl
    · exact h n

/-- What is left of the names. -/
theorem NI.crashed {D : DiskA} {k c : Nat} {fm' : List (Nat × Nat)} (hl : D.laid = nmOps k) (hk : D.kept = []) (hk10 : k < 10) (hc : ∀ n, D.cont n = ⟨[], [], []⟩) :
    (crashed [c] D fm').seen = nmPairs (c % (k + 1)) ∧ ∀ n, ((crashed [c] D fm').cont n).seen = [] := by
  have hlen : D.laid.length = k := by rw [hl]; simp [nmOps]
  have hf : firstOf [c] D.laid.length = c % (k + 1) := by rw [hlen]; rfl
  have hlt : c % (k + 1) < k + 1 := Nat.mod_lt _ (by omega)
  have hr : redoNames (D.laid.take (firstOf [c] D.laid.length)) D.kept = nmPairs (c % (k + 1)) := by
    rw [hf, hl, hk, nmOps_take _ _ (by omega), nm_redo _ (by omega)]
  refine ⟨?_, fun n => ?_⟩
  · unfold Go.Proofs.Ytobhhedggppneaa.crashed
    rw [(crashFiles_same [c] _ _).seen]
    exact hr
  · unfold Go.Proofs.Ytobhhedggppneaa.crashed
    rw [crash_empty]
    exact hc

theorem nm_sorted {c : Nat} (h : c ≤ 9) : sortedNames (nmPairs c) = (List.range c).map fun j => (nmf j).data.toList := by
  unfold sortedNames nmPairs
  rw [List.map_map]
  refine List.mergeSort_of_pairwise ?_
  rw [List.pairwise_map]
  refine List.Pairwise.imp_of_mem (R := fun i j => i < j) ?_ (List.pairwise_lt_range)
  intro i j hi hj hij
  have := List.mem_range.1 hi
  have := List.mem_range.1 hj
  simp only [decide_eq_true_eq]
  exact nmf_le i (by omega) j (by omega) hij
end Go.Proofs.Ytobhhedggppneaa
