/- Rows of bytes of one's own: noughts appended; what a step does to a row. Over whatever program. -/
import Derived.Test.YtajfcnaifegonaaMSlA
import Derived.Maps.AppendAt
import Derived.Laws.CopyOwn
namespace Go.By
open Go Go.RowKit
theorem zeros_list (n : Nat) : (Builtin.zeroCells #[Value.int .u8 0] n).toList = cellsOf (List.replicate n 0) := by
  apply List.ext_getElem
  · simp [Builtin.zeroCells, cellsOf]
  · intro i h1 h2
    simp [Builtin.zeroCells, cellsOf, Nat.mod_one]
theorem run_append_zeros {P : Program} {w : World} {t e ti ty : TypeId} (T : ByT P t e) {k : IntKind} (hti : P.underlying ti = some (.int k)) (base : Nat) (v : Value) (l : List Nat) (hown : w.ownsRow base e 1 v l.length (cellsOf l)) (n : Nat) (hbytes : l.length + n ≤ 140737488355328) (hbase : base ≤ w.heap.size) :
    ∃ v' w', (Builtin.append_ #[t, ti] ty #[v, .int .i64 n]).run P w = .ok v' w' ∧ w'.ownsRow base e 1 v' (l.length + n) (cellsOf (l ++ List.replicate n 0)) ∧ w.grownBy w' v.ownBlock ∧ (v'.ownBlock = v.ownBlock ∨ v'.ownBlock = some w.heap.size) := by
  obtain ⟨i, hi, hz, hz1, hz2⟩ := info_parts T.info
  have hnw : IntKind.i64.wrap (n : Int) = n := IntWalk.i64_in _ (by omega)
  have hlen : (cellsOf (l ++ List.replicate n 0)).length = (l.length + n) * 1 := by simp [cellsOf]
  have hw0 : IntKind.i64.wrap 0 = 0 := rfl
  have h0 : ¬ ((n : Int) < 0) := by omega
  have h48 : ¬ (281474976710656 < (n : Int)) := by omega
  rcases hown.2 with ⟨rfl, hl0⟩ | ⟨g, cap, cur, rfl, hbg, hg, hnc, hcm, hcs, htake⟩
  · have hl : l = [] := List.eq_nil_of_length_eq_zero hl0
    subst hl
    by_cases hn : n = 0
    · subst hn
      refine ⟨.slice none 0 0, w, ?_, ⟨by simp [cellsOf], .inl ⟨rfl, rfl⟩⟩, World.grownBy.refl _ _, .inl rfl⟩
      simp [Builtin.append_, run_underlying T.slice, run_underlying hti, sizeOf, typeInfo, hi, hz2, asInt, asIntOf, hw0]
    · have hfit : ¬ (281474976710656 < Builtin.nextslicecap n 0) := by
        have := growslice_fits (need := n) (old := 0) (bytes := 1) (by omega) (by omega); omega
      have h63 : ¬ (9223372036854775807 < (n : Int)) := by omega
      refine ⟨.slice (some ⟨w.heap.size, 0, none⟩) n (grownCap w n 0 e), w.drew.alloc (.cells ((cellsOf (List.replicate n 0)).toArray ++ Builtin.zeroCells #[.int .u8 0] (grownCap w n 0 e - n)) e), ?_, ⟨by simpa using hlen, .inr ⟨w.heap.size, grownCap w n 0 e, _, by simp, hbase, heap_alloc_new w.drew _, ?_, ?_, ?_, ?_⟩⟩, ⟨rfl, rfl, rfl, by simp, fun k hk _ => Below.heap_alloc w.drew _ k hk⟩, .inr rfl⟩
      · simp [Builtin.append_, run_underlying T.slice, run_underlying hti, sizeOf, typeInfo, zeroValue, hi, hz, hz1, hz2, asInt, asIntOf, hnw, h0, h48, hn, h63, hfit, Question.forced, newRow, grownCap, Builtin.firstCells, Value.cells, ← zeros_list]
      · simpa using grownCap_ge w n 0 e
      · exact grownCap_le_maxLen w n 0 e (by unfold maxLen; omega)
      · have := grownCap_ge w n 0 e
        simp [cellsOf, Builtin.zeroCells]; omega
      · simp [cellsOf]
  · by_cases hroom : l.length + n ≤ cap
    · have hcs' : cur.size = cap := by rw [hcs, Nat.mul_one]
      have hst := run_storeCells_at P g l.length e (cellsOf (List.replicate n 0)) 0 cur w hg (by simp [cellsOf]; omega) (cellsOf_one _)
      simp only [Nat.add_zero] at hst
      refine ⟨.slice (some ⟨g, 0, none⟩) (l.length + n) cap, w.setRow g (cur.toList.take l.length ++ cellsOf (List.replicate n 0) ++ cur.toList.drop (l.length + (cellsOf (List.replicate n 0)).length)).toArray, ?_, ⟨hlen, .inr ⟨g, cap, _, rfl, hbg, setRow_heap w g cur _ e _ hg, hroom, hcm, ?_, ?_⟩⟩, ⟨rfl, rfl, rfl, by simp, fun k _ hk => setRow_other w g k _ (fun e => hk (by simp [Value.ownBlock, e]))⟩, .inl rfl⟩
      · by_cases hn : n = 0
        · subst hn
          have hst0 : (storeCells ⟨g, l.length, none⟩ []).run P w = .ok () (w.setRow g (cur.toList.take l.length ++ cellsOf (List.replicate 0 0) ++ cur.toList.drop (l.length + (cellsOf (List.replicate 0 0)).length)).toArray) := hst
          simp [Builtin.append_, run_underlying T.slice, run_underlying hti, sizeOf, typeInfo, hi, hz1, hz2, asInt, asIntOf, hw0, hnc, Addr.add_lit, hst0]
        · have hz' : (Builtin.zeroCells #[Value.int .u8 0] n).toList = cellsOf (List.replicate n 0) := zeros_list n
          simp [Builtin.append_, run_underlying T.slice, run_underlying hti, sizeOf, typeInfo, zeroValue, hi, hz, hz1, hz2, asInt, asIntOf, hnw, h0, h48, hn, hroom, Addr.add_lit, Value.cells, hz', hst]
      · simp only [List.size_toArray, List.length_append, List.length_take, List.length_drop, Array.length_toList, cellsOf_length, List.length_replicate]
        omega
      · have htk : cur.toList.take l.length = cellsOf l := by rw [← htake, Nat.mul_one]
        rw [htk, ← cellsOf_append, Nat.mul_one]
        have : l.length + n = (cellsOf (l ++ List.replicate n 0)).length := by simp [cellsOf]
        rw [this]
        exact List.take_left
    · have hn : n ≠ 0 := by omega
      have holds : ∀ j u, (cellsOf l)[j]? = some u → w.drew.cell? ((⟨g, 0, none⟩ : Addr).add j) = some u := hown.cells (g := g) rfl
      have hfo := run_firstCells_some (P := P) w.drew 1 l.length ⟨g, 0, none⟩ l.length cap (cellsOf l) (by simp [cellsOf]) holds
      have hfit : ¬ (281474976710656 < Builtin.nextslicecap (l.length + n) cap) := by
        have := growslice_fits (need := l.length + n) (old := cap) (bytes := 1) (by omega) (by omega); omega
      have h63 : ¬ (9223372036854775807 < (l.length : Int) + (n : Int)) := by omega
      refine ⟨.slice (some ⟨w.heap.size, 0, none⟩) (l.length + n) (grownCap w (l.length + n) cap e), w.drew.alloc (.cells ((cellsOf (l ++ List.replicate n 0)).toArray ++ Builtin.zeroCells #[.int .u8 0] (grownCap w (l.length + n) cap e - (l.length + n))) e), ?_, ⟨hlen, .inr ⟨w.heap.size, _, _, rfl, hbase, heap_alloc_new w.drew _, ?_, ?_, ?_, ?_⟩⟩, ⟨rfl, rfl, rfl, by simp, fun k hk _ => Below.heap_alloc w.drew _ k hk⟩, .inr rfl⟩
      · simp [Builtin.append_, run_underlying T.slice, run_underlying hti, sizeOf, typeInfo, zeroValue, hi, hz, hz1, hz2, asInt, asIntOf, hnw, h0, h48, hn, hroom, h63, hfit, hfo, Question.forced, newRow, grownCap, Value.cells, cellsOf_append, ← zeros_list]
        congr 2
        apply Array.ext'
        simp [List.append_assoc]
      · exact grownCap_ge w _ _ e
      · exact grownCap_le_maxLen w _ _ e (by unfold maxLen; omega)
      · have := grownCap_ge w (l.length + n) cap e
        simp [cellsOf, Builtin.zeroCells]; omega
      · have : (l.length + n) * 1 = (cellsOf (l ++ List.replicate n 0)).length := by simp [cellsOf]
        rw [this, Array.toList_append]
        exact List.take_left
structure RowStep (w w' : World) (e : TypeId) (v v' : Value) (l : List Nat) : Prop where
  owns : w'.ownsRow 0 e 1 v' l.length (cellsOf l)
  grown : w.grownBy w' v.ownBlock
  moved : v'.ownBlock = v.ownBlock ∨ ∃ k, v'.ownBlock = some k ∧ w.heap.size ≤ k
theorem RowStep.refl {w : World} {e : TypeId} {v : Value} {l : List Nat} (h : w.ownsRow 0 e 1 v l.length (cellsOf l)) : RowStep w w e v v l := ⟨h, World.grownBy.refl _ _, .inl rfl⟩
theorem RowStep.trans {w w1 w2 : World} {e : TypeId} {v v1 v2 : Value} {l1 l2 : List Nat} (h : RowStep w w1 e v v1 l1) (k : RowStep w1 w2 e v1 v2 l2) : RowStep w w2 e v v2 l2 where
  owns := k.owns
  grown := ⟨k.grown.os.trans h.grown.os, k.grown.tape.trans h.grown.tape, k.grown.output.trans h.grown.output, Nat.le_trans h.grown.size k.grown.size, fun j hj hne => by
    refine (k.grown.block j (Nat.lt_of_lt_of_le hj h.grown.size) ?_).trans (h.grown.block j hj hne)
    rcases h.moved with hm | ⟨q, hm, hq⟩
    · rw [hm]; exact hne
    · rw [hm]; intro e; cases e; omega⟩
  moved := by
    rcases k.moved with hm | ⟨q, hm, hq⟩
    · rw [hm]; exact h.moved
    · exact .inr ⟨q, hm, Nat.le_trans h.grown.size hq⟩
def fitL (l : List Nat) (n : Nat) : List Nat := l.take n ++ List.replicate (n - l.length) 0
theorem fitL_length (l : List Nat) (n : Nat) : (fitL l n).length = n := by simp [fitL]; omega
theorem fitL_less {l : List Nat} {n : Nat} (h : n ≤ l.length) : fitL l n = l.take n := by simp [fitL, Nat.sub_eq_zero_of_le h]
theorem fitL_more {l : List Nat} {n : Nat} (h : l.length ≤ n) : fitL l n = l ++ List.replicate (n - l.length) 0 := by simp [fitL, List.take_of_length_le h]
theorem fitL_small {l : List Nat} {n : Nat} (h : ∀ c ∈ l, c < 256) : ∀ c ∈ fitL l n, c < 256 := by
  intro c hc
  simp only [fitL, List.mem_append] at hc
  rcases hc with hc | hc
  · exact h c (List.mem_of_mem_take hc)
  · have := List.eq_of_mem_replicate hc; omega
theorem owns_less {w : World} {base : Nat} {e : TypeId} {p : Option Addr} {cap : Nat} {l : List Nat} (h : w.ownsRow base e 1 (.slice p l.length cap) l.length (cellsOf l)) {n : Nat} (hn : n ≤ l.length) : w.ownsRow base e 1 (.slice p n cap) n (cellsOf (l.take n)) := by
  refine ⟨by simp [cellsOf]; omega, ?_⟩
  rcases h.2 with ⟨h1, h2⟩ | ⟨g, cap', cur, h1, h2, h3, h4, h5, h6, h7⟩
  · simp only [Value.slice.injEq] at h1
    exact .inl ⟨by rw [h1.1, h1.2.2]; congr 1; omega, by omega⟩
  · simp only [Value.slice.injEq, true_and] at h1
    refine .inr ⟨g, cap, cur, by rw [h1.1], h2, h3, by omega, by omega, by rw [h6, h1.2], ?_⟩
    have : cellsOf (l.take n) = (cellsOf l).take n := by simp [cellsOf, List.map_take]
    rw [this, ← h7, List.take_take]
    congr 1; omega
def overL (l : List Nat) (off : Nat) (p : List Nat) : List Nat := l.take off ++ (p ++ l.drop (off + p.length))
theorem overL_length {l p : List Nat} {off : Nat} (h : off + p.length ≤ l.length) : (overL l off p).length = l.length := by simp [overL]; omega
def putL (l : List Nat) (off : Nat) (p : List Nat) : List Nat := overL (if l.length < off + p.length then fitL l (off + p.length) else l) off p
theorem overL_small {l p : List Nat} {off : Nat} (hl : ∀ c ∈ l, c < 256) (hp : ∀ c ∈ p, c < 256) : ∀ c ∈ overL l off p, c < 256 := by
  intro c hc
  simp only [overL, List.mem_append] at hc
  rcases hc with hc | hc | hc
  · exact hl c (List.mem_of_mem_take hc)
  · exact hp c hc
  · exact hl c (List.mem_of_mem_drop hc)
theorem putL_small {l p : List Nat} {off : Nat} (hl : ∀ c ∈ l, c < 256) (hp : ∀ c ∈ p, c < 256) : ∀ c ∈ putL l off p, c < 256 := by
  unfold putL
  refine overL_small ?_ hp
  split
  · exact fitL_small hl
  · exact hl
theorem over_take {C P : List Value} {n off : Nat} (hC : n ≤ C.length) (hoff : off + P.length ≤ n) :
    (C.take off ++ (P ++ C.drop (off + P.length))).take n = (C.take n).take off ++ (P ++ (C.take n).drop (off + P.length)) := by
  have e1 : (C.take off).length = off := by rw [List.length_take]; omega
  have e2 : (C.take n).take off = C.take off := by rw [List.take_take]; congr 1; omega
  rw [List.take_append, e1, List.take_of_length_le (by rw [e1]; omega), e2]
  congr 1
  rw [List.take_append, List.take_of_length_le (by omega), List.drop_take]
  congr 2
  omega
theorem over_step {w : World} {e : TypeId} {g cap off : Nat} {l p : List Nat} {cur : Array Value} (hg : w.heap[g]? = some (.cells cur e (0, 0))) (hnc : l.length ≤ cap) (hcm : cap ≤ maxLen) (hcs : cur.size = cap * 1) (htake : cur.toList.take (l.length * 1) = cellsOf l)
    (hoff : off + p.length ≤ l.length) :
    RowStep w (w.setRow g (cur.toList.take off ++ (cellsOf p ++ cur.toList.drop (off + (cellsOf p).length))).toArray) e (.slice (some ⟨g, 0, none⟩) l.length cap) (.slice (some ⟨g, 0, none⟩) l.length cap) (overL l off p) := by
  refine ⟨⟨by simp [cellsOf], .inr ⟨g, cap, _, by rw [overL_length hoff], Nat.zero_le _, setRow_heap w g cur _ e _ hg, by rw [overL_length hoff]; exact hnc, hcm, ?_, ?_⟩⟩, ⟨rfl, rfl, rfl, by simp, fun k _ hk => setRow_other w g k _ (fun e => hk (by simp [Value.ownBlock, e]))⟩, .inl rfl⟩
  · simp only [List.size_toArray, List.length_append, List.length_take, List.length_drop, Array.length_toList, cellsOf_length]
    omega
  · rw [overL_length hoff]
    simp only [Nat.mul_one] at htake ⊢
    have h1 : cellsOf (overL l off p) = (cellsOf l).take off ++ (cellsOf p ++ (cellsOf l).drop (off + (cellsOf p).length)) := by
      simp [overL, cellsOf, List.map_take, List.map_drop]
    rw [h1, ← htake]
    exact over_take (by have hh : cur.toList.length = cur.size := Array.length_toList; omega) (by rw [cellsOf_length]; exact hoff)
end Go.By
