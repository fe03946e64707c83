/- Rows of bytes: what a value that reads as such is; appending one to a row of one's own. Over whatever program. -/
import Derived.WalkKit
import Derived.ProofKit
import Derived.Handy
import Derived.Lib.Hide
import Derived.Laws.AppendOwnNone
namespace Go.By
open Go Go.RowKit

/-- The byte at a place. -/
def atB (l : List Nat) (i : Nat) : Nat := l.getD i 0
theorem atB_of {l : List Nat} {i : Nat} (h : i < l.length) : atB l i = l[i] := by
  unfold atB; rw [List.getD_eq_getElem?_getD, List.getElem?_eq_getElem h]; rfl
def cellsOf (l : List Nat) : List Value := l.map fun (c : Nat) => .int .u8 c
theorem cellsOf_length (l : List Nat) : (cellsOf l).length = l.length := by simp [cellsOf]
theorem cellsOf_append (l m : List Nat) : cellsOf (l ++ m) = cellsOf l ++ cellsOf m := by simp [cellsOf]
theorem cellsOf_one (l : List Nat) : ∀ u ∈ cellsOf l, u.oneCell' = true := by
  intro u hu
  obtain ⟨_, _, rfl⟩ := List.mem_map.1 hu
  rfl
theorem cellsOf_at {l : List Nat} {i : Nat} {u : Value} (h : (cellsOf l)[i]? = some u) : i < l.length ∧ u = .int .u8 (atB l i : Nat) := by
  unfold cellsOf at h
  rw [List.getElem?_map] at h
  obtain ⟨c, hc, rfl⟩ := Option.map_eq_some_iff.1 h
  obtain ⟨hi, rfl⟩ := List.getElem?_eq_some_iff.1 hc
  exact ⟨hi, by rw [atB_of hi]⟩
theorem cellsOf_get {l : List Nat} {i : Nat} (h : i < l.length) : (cellsOf l)[i]? = some (.int .u8 (atB l i : Nat)) := by
  unfold cellsOf
  rw [List.getElem?_map, List.getElem?_eq_getElem h, atB_of h]; rfl

/-- A value that reads as a row of bytes. -/
structure Bytes (w : World) (v : Value) (l : List Nat) : Prop where
  out : (v = .slice none 0 0 ∧ l = []) ∨ (∃ a, v = .slice (some a) 0 0 ∧ l = []) ∨ ∃ b off cap, v = .slice (some ⟨b, off, none⟩) l.length cap ∧ l.length ≤ cap ∧ ∀ i : Nat, i < l.length → w.cell? ⟨b, off + i, none⟩ = some (.int .u8 (atB l i : Nat))
  small : ∀ c ∈ l, c < 256
  short : l.length ≤ maxLen

/-- The same, as a walk takes it: whatever the address. -/
theorem Bytes.any {w : World} {v : Value} {l : List Nat} (h : Bytes w v l) :
    ∃ p cap, v = .slice p l.length cap ∧ ∀ i : Nat, i < l.length → ∃ b off, p = some ⟨b, off, none⟩ ∧ w.cell? ⟨b, off + i, none⟩ = some (.int .u8 (atB l i : Nat)) := by
  rcases h.out with ⟨rfl, rfl⟩ | ⟨a, rfl, rfl⟩ | ⟨b, off, cap, rfl, _, hc⟩
  · exact ⟨none, 0, rfl, fun i hi => by simp at hi⟩
  · exact ⟨some a, 0, rfl, fun i hi => by simp at hi⟩
  · exact ⟨_, cap, rfl, fun i hi => ⟨b, off, rfl, hc i hi⟩⟩

theorem Bytes.spot {w : World} {p : Option Addr} {n cap : Nat} {l : List Nat} (h : Bytes w (.slice p n cap) l) (i : Nat) (hi : i < l.length) :
    ∃ b off, p = some ⟨b, off, none⟩ ∧ w.cell? ⟨b, off + i, none⟩ = some (.int .u8 (atB l i : Nat)) := by
  obtain ⟨p', cap', e, hc⟩ := h.any
  simp only [Value.slice.injEq] at e
  obtain ⟨rfl, _, _⟩ := e
  exact hc i hi

theorem Bytes.room {w : World} {p : Option Addr} {n cap : Nat} {l : List Nat} (h : Bytes w (.slice p n cap) l) : l.length = n ∧ n ≤ cap := by
  rcases h.out with ⟨h1, rfl⟩ | ⟨a, h1, rfl⟩ | ⟨b, off, cap', h1, h2, _⟩
  · simp only [Value.slice.injEq] at h1
    simp; omega
  · simp only [Value.slice.injEq] at h1
    simp; omega
  · simp only [Value.slice.injEq] at h1
    omega

theorem Bytes.at_lt {w : World} {v : Value} {l : List Nat} (h : Bytes w v l) {i : Nat} (hi : i < l.length) : atB l i < 256 := by
  rw [atB_of hi]; exact h.small _ (List.getElem_mem hi)

theorem Bytes.below {w w' : World} {v : Value} {l : List Nat} (h : Bytes w v l) (hb : Below w.heap.size w w') : Bytes w' v l where
  out := by
    rcases h.out with h1 | h1 | ⟨b, off, cap, rfl, h2, hc⟩
    · exact .inl h1
    · exact .inr (.inl h1)
    · exact .inr <| .inr ⟨b, off, cap, rfl, h2, fun i hi => (hb.cell (p := ⟨b, off + i, none⟩) (block_lt_of_cell (hc i hi))).trans (hc i hi)⟩
  small := h.small
  short := h.short

/-- The same where only blocks below a bound stay, and the value's own lies below it. -/
theorem Bytes.under {B : Nat} {w w' : World} {v : Value} {l : List Nat} (h : Bytes w v l) (hv : ∀ k, v.ownBlock = some k → k < B) (hb : Below B w w') : Bytes w' v l where
  out := by
    rcases h.out with h1 | h1 | ⟨b, off, cap, rfl, h2, hc⟩
    · exact .inl h1
    · exact .inr (.inl h1)
    · exact .inr <| .inr ⟨b, off, cap, rfl, h2, fun i hi => (hb.cell (p := ⟨b, off + i, none⟩) (hv b rfl)).trans (hc i hi)⟩
  small := h.small
  short := h.short

/-- What of a row of one's own is in use reads as bytes. -/
theorem Bytes.of_owns {w : World} {base : Nat} {e : TypeId} {v : Value} {n : Nat} {l : List Nat} (h : w.ownsRow base e 1 v n (cellsOf l)) (hs : ∀ c ∈ l, c < 256) (hm : l.length ≤ maxLen) : Bytes w v l where
  out := by
    have hl := h.1
    rw [cellsOf_length] at hl
    rcases h.2 with ⟨rfl, rfl⟩ | ⟨g, cap, cur, rfl, _, hg, hnc, _, _, _⟩
    · exact .inl ⟨rfl, List.eq_nil_of_length_eq_zero (by omega)⟩
    · refine .inr <| .inr ⟨g, 0, cap, by rw [hl, Nat.mul_one], by omega, fun i hi => ?_⟩
      have := h.cells (g := g) rfl i _ (cellsOf_get hi)
      rw [Addr.add_lit] at this
      exact this
  small := hs
  short := hm

/-- The slice's and the element's types, as the program's table has them. -/
structure ByT (P : Program) (t e : TypeId) : Prop where
  slice : P.underlying t = some (.slice e)
  elem : P.underlying e = some (.int .u8)
  info : (P.info? e).map (fun i => (i.zero, i.size, i.bytes)) = some (some (.int .u8 0), 1, 1)

/-- append(s, x...), s one's own, x whatever row of bytes. -/
theorem wpList_append_bytes {P : Program} {w : World} {ops : Array Oper} {rest : List Oper} {o : Oper} {a : Act} {Q : Exit → Act → World → Prop} (hgd : o.guard = none) (s x : Operand) {t e : TypeId} (T : ByT P t e)
    (ho : o.op = .call { callee := .builtin .append, args := #[s, x], argTypes := #[t, t] })
    (base : Nat) (v : Value) (n : Nat) (xs : List Value) (hs : a.eval s = v) (hown : w.ownsRow base e 1 v n xs) (xv : Value) (l : List Nat) (hx : a.eval x = xv) (hl : Bytes w xv l)
    (hbytes : n + l.length ≤ 140737488355328) (hbase : base ≤ w.heap.size)
    (h : ∀ v' w', w'.ownsRow base e 1 v' (n + l.length) (xs ++ cellsOf l) → w.grownBy w' v.ownBlock → (v' = .slice none 0 0 ↔ v = .slice none 0 0 ∧ l.length = 0) → wpList P ops Q rest (a.put o.dst v') w') :
    wpList P ops Q (o :: rest) a w := by
  obtain ⟨i, hi, hz, hz1, hz2⟩ := info_parts T.info
  rcases hl.out with ⟨rfl, rfl⟩ | ⟨ad, rfl, rfl⟩ | ⟨b, off, cap, rfl, hcap, hc⟩
  · refine wpList_append_own_none hgd s x t ho base e i 1 T.slice hi v n xs hs hown hx (h v w ?_ (World.grownBy.refl _ _) (by simp))
    simpa [cellsOf] using hown
  · exact wpList_append_own w hgd s x t ho base e i (.int .u8 0) 1 1 T.slice hi hz hz1 hz2 rfl (by omega) v n xs hs hown ad 0 0 [] hx rfl (by simp) (by simp) (by simp at hbytes; unfold maxLen; omega) (by simpa using hbytes) hbase h
  · refine wpList_append_own w hgd s x t ho base e i (.int .u8 0) 1 1 T.slice hi hz hz1 hz2 rfl (by omega) v n xs hs hown ⟨b, off, none⟩ l.length cap (cellsOf l) hx ?_ ?_ (cellsOf_one l) ?_ ?_ hbase h
    · rw [cellsOf_length, Nat.mul_one]
    · intro j u hu
      obtain ⟨hj, rfl⟩ := cellsOf_at hu
      rw [Addr.add_lit]; exact hc j hj
    · unfold maxLen; omega
    · omega

/-- The bytes, as a string. -/
def strOf (l : List Nat) : ByteArray := strOfNums (l.map fun (c : Nat) => (c : Int))
theorem strOf_nil : strOf [] = ByteArray.empty := rfl

/-- string(b). -/
theorem Bytes.toString {P : Program} {t e : TypeId} (T : ByT P t e) {w : World} {v : Value} {l : List Nat} (h : Bytes w v l) {d : TypeId} (hd : P.underlying d = some .string) :
    (convert t d v).run P w = .ok (.string (strOf l)) w := by
  rcases h.out with ⟨rfl, rfl⟩ | ⟨a, rfl, rfl⟩ | ⟨b, off, cap, rfl, _, hc⟩
  · exact run_convert_bytes_nil w t e T.slice T.elem 0 0 d hd
  · rw [run_convert_bytes_string w t d e (some a) 0 0 T.slice T.elem hd, run_bytesToString w a 0 0 [] (by simpa using run_loadCells_list (P := P) w a [] (by simp))]
    rfl
  · refine run_convert_bytes_arg w t e T.slice T.elem b off l.length cap _ (by simp) (fun i hi => ?_) d hd
    rw [hc i hi]
    simp [atB_of hi, hi]

theorem atB_take {l : List Nat} {n i : Nat} (h : i < n) : atB (l.take n) i = atB l i := by
  unfold atB
  rw [List.getD_eq_getElem?_getD, List.getD_eq_getElem?_getD, List.getElem?_take, if_pos h]

/-- b[:n]. -/
theorem Bytes.upto {w : World} {p : Option Addr} {l : List Nat} {cap n : Nat} (h : Bytes w (.slice p l.length cap) l) (hn : n ≤ l.length) : Bytes w (.slice p n cap) (l.take n) where
  out := by
    have hl : (l.take n).length = n := by rw [List.length_take]; omega
    rcases h.out with ⟨h1, rfl⟩ | ⟨a, h1, rfl⟩ | ⟨b, off, cap', h1, h2, hc⟩
    · simp only [Value.slice.injEq] at h1
      simp only [List.length_nil, Nat.le_zero_eq] at hn
      exact .inl ⟨by rw [hn, h1.1, h1.2.2], by simp⟩
    · simp only [Value.slice.injEq] at h1
      simp only [List.length_nil, Nat.le_zero_eq] at hn
      exact .inr (.inl ⟨a, by rw [hn, h1.1, h1.2.2], by simp⟩)
    · simp only [Value.slice.injEq, true_and] at h1
      refine .inr (.inr ⟨b, off, cap, by rw [hl, h1.1], by omega, fun i hi => ?_⟩)
      rw [hl] at hi
      rw [hc i (by omega), atB_take hi]
  small := fun c hc => h.small c (List.mem_of_mem_take hc)
  short := by
    have := h.short
    rw [List.length_take]; omega

theorem run_min4 {P : Program} (w : World) (ts : Array TypeId) (t : TypeId) (k : IntKind) (x y z u : Nat) :
    (Builtin.min_ ts t #[.int k x, .int k y, .int k z, .int k u]).run P w = .ok (.int k (min (min (min x y) z) u : Nat)) w := by
  simp only [Builtin.min_, List.foldlM_cons, List.foldlM_nil, Builtin.min2, pure_bind, Sem.run_pure, Result.ok.injEq, Value.int.injEq, true_and, and_true]
  split <;> split <;> split <;> omega

theorem cellsOf_set (l : List Nat) (i x : Nat) : (cellsOf l).set i (.int .u8 x) = cellsOf (l.set i x) := by
  simp [cellsOf, List.map_set]

/-- No bytes. -/
theorem Bytes.nil (w : World) : Bytes w (.slice none 0 0) [] := ⟨.inl ⟨rfl, rfl⟩, by simp, by simp⟩

theorem cell_new (w : World) (c : Array Value) (e : TypeId) (fr : Nat × Nat) (i : Nat) : (w.alloc (.cells c e fr)).cell? ⟨w.heap.size, i, none⟩ = c[i]? := by
  have h : (w.alloc (.cells c e fr)).heap[w.heap.size]? = some (.cells c e fr) := by
    show (w.heap.push (.cells c e fr))[w.heap.size]? = _
    simp
  simp only [World.cell?, h]; rfl
/-- A new row of some bytes. -/
theorem Bytes.lit {w : World} {e : TypeId} {c : Array Value} {fr : Nat × Nat} (l : List Nat) (hc : c = (cellsOf l).toArray) {n : Nat} (hn : n = l.length) (hs : ∀ c ∈ l, c < 256) (hm : l.length ≤ maxLen) :
    Bytes (w.alloc (.cells c e fr)) (.slice (some ⟨w.heap.size, 0, none⟩) n n) l where
  out := .inr <| .inr ⟨w.heap.size, 0, l.length, by rw [hn], Nat.le_refl _, fun i hi => by
    rw [cell_new, hc, List.getElem?_toArray, Nat.zero_add]; exact cellsOf_get hi⟩
  small := hs
  short := hm

/-- A new row of one byte. -/
theorem Bytes.one {w : World} {e : TypeId} {n : Int} {x : Nat} (hn : n = x) (hx : x < 256) : Bytes (w.alloc (.cells #[.int .u8 n] e)) (.slice (some ⟨w.heap.size, 0, none⟩) 1 1) [x] where
  out := .inr <| .inr ⟨w.heap.size, 0, 1, rfl, Nat.le_refl _, fun i hi => by
    obtain rfl : i = 0 := by simp at hi; exact hi
    rw [World.cell?_alloc_new, hn]; rfl⟩
  small := by intro c hc; simp at hc; omega
  short := by simp [maxLen]
end Go.By

