/- Maps of Go as lists of keys and values, whatever their order: looked up, written, struck out, ranged over. Over whatever program. -/
import Derived.WalkKit
import Derived.ProofKit
import Derived.Lib.Hide
import Derived.MapKept
namespace Go.Mp
open Go Go.RowKit Go.MapKept

section
variable {α β : Type} [DecidableEq α]

def get : List (α × β) → α → Option β
  | [], _ => none
  | p :: m, a => if p.1 = a then some p.2 else get m a
def put : List (α × β) → α → β → List (α × β)
  | [], a, v => [(a, v)]
  | p :: m, a, v => if p.1 = a then (a, v) :: m else p :: put m a v
def del : List (α × β) → α → List (α × β)
  | [], _ => []
  | p :: m, a => if p.1 = a then m else p :: del m a

theorem get_put (m : List (α × β)) (a c : α) (v : β) : get (put m a v) c = if a = c then some v else get m c := by
  induction m with
  | nil => simp [put, get]
  | cons p m ih =>
    simp only [put]
    by_cases h : p.1 = a
    · rw [if_pos h]
      simp only [get]
      by_cases hc : a = c
      · rw [if_pos hc, if_pos hc]
      · rw [if_neg hc, if_neg hc, if_neg (by rw [h]; exact hc)]
    · rw [if_neg h]
      simp only [get, ih]
      by_cases hp : p.1 = c
      · rw [if_pos hp, if_pos hp, if_neg (by rintro rfl; exact h hp)]
      · rw [if_neg hp, if_neg hp]
theorem keys_put (m : List (α × β)) (a : α) (v : β) : (put m a v).map (·.1) = if a ∈ m.map (·.1) then m.map (·.1) else m.map (·.1) ++ [a] := by
  induction m with
  | nil => simp [put]
  | cons p m ih =>
    simp only [put]
    by_cases h : p.1 = a
    · rw [if_pos h, if_pos (by simp [h])]; simp [h]
    · rw [if_neg h, List.map_cons, ih]
      simp only [List.map_cons, List.mem_cons]
      by_cases hm : a ∈ m.map (·.1)
      · rw [if_pos hm, if_pos (.inr hm)]
      · rw [if_neg hm, if_neg (by rintro (rfl | h'); exact h rfl; exact hm h')]; simp
theorem get_mem {m : List (α × β)} {a : α} : (get m a).isSome = true ↔ a ∈ m.map (·.1) := by
  induction m with
  | nil => simp [get]
  | cons p m ih =>
    simp only [get, List.map_cons, List.mem_cons]
    by_cases h : p.1 = a
    · rw [if_pos h]; simp [h]
    · rw [if_neg h, ih]; constructor
      · exact .inr
      · rintro (rfl | h'); exact absurd rfl h; exact h'
theorem keys_del (m : List (α × β)) (a : α) : (del m a).map (·.1) = (m.map (·.1)).erase a := by
  induction m with
  | nil => simp [del]
  | cons p m ih =>
    simp only [del, List.map_cons]
    by_cases h : p.1 = a
    · rw [if_pos h, List.erase_cons, if_pos (by simpa using h)]
    · rw [if_neg h, List.erase_cons, if_neg (by simpa using h), List.map_cons, ih]
theorem get_del (m : List (α × β)) (hn : (m.map (·.1)).Nodup) (a c : α) : get (del m a) c = if a = c then none else get m c := by
  induction m with
  | nil => simp [del, get]
  | cons p m ih =>
    simp only [List.map_cons, List.nodup_cons] at hn
    simp only [del]
    by_cases h : p.1 = a
    · rw [if_pos h]
      by_cases hc : a = c
      · rw [if_pos hc]
        have : ¬ (get m c).isSome = true := by rw [get_mem]; rw [← hc, ← h]; exact hn.1
        simpa using this
      · rw [if_neg hc]; simp only [get]; rw [if_neg (by rw [h]; exact hc)]
    · rw [if_neg h]
      simp only [get, ih hn.2]
      by_cases hp : p.1 = c
      · rw [if_pos hp, if_pos hp, if_neg (by rintro rfl; exact h hp)]
      · rw [if_neg hp, if_neg hp]

/-- How keys lie in the model. -/
structure KeyOf (P : Program) (kt : TypeId) (mk : α → Value) : Prop where
  out : ∃ d, P.underlying kt = some d ∧ (∀ a, IsKey d (mk a)) ∧ ∀ a b, Instr.sameNow d (mk a) (mk b) = some (decide (a = b))

theorem KeyOf.string {P : Program} {kt : TypeId} (h : P.underlying kt = some .string) : KeyOf P kt (fun s : ByteArray => .string s) :=
  ⟨.string, h, fun _ => trivial, fun a b => by
    simp only [Instr.sameNow, Option.some.injEq]
    rw [Bool.eq_iff_iff, decide_eq_true_eq]
    exact bytes_beq a b⟩
theorem KeyOf.int {P : Program} {kt : TypeId} {k : IntKind} (h : P.underlying kt = some (.int k)) : KeyOf P kt (fun n : Int => .int k n) :=
  ⟨.int k, h, fun _ => rfl, fun a b => by simp [Instr.sameNow]; rfl⟩

/-- The entries, as they lie. -/
def Lies (mk : α → Value) (mv : β → Value) (l : List MapEntry) (m : List (α × β)) : Prop := l.map (fun e => (e.key, e.val)) = m.map fun p => (mk p.1, mv p.2)

theorem find_spec {P : Program} {kt : TypeId} {mk : α → Value} {mv : β → Value} {d : TypeDesc} (hs : ∀ a b, Instr.sameNow d (mk a) (mk b) = some (decide (a = b))) (a : α) : ∀ (l : List MapEntry) (m : List (α × β)) (i : Nat), Lies mk mv l m →
    (get m a = none ∧ Instr.findNow d (mk a) l i = some none ∧ (∀ v, put m a v = m ++ [(a, v)]) ∧ del m a = m) ∨
    ∃ j v, get m a = some v ∧ Instr.findNow d (mk a) l i = some (some (i + j, mv v)) ∧ (l[j]?).map (·.key) = some (mk a) ∧ (∀ u, put m a u = m.set j (a, u)) ∧ del m a = m.eraseIdx j
  | [], [], _, _ => .inl ⟨rfl, rfl, fun _ => rfl, rfl⟩
  | [], _ :: _, _, h => by simp [Lies] at h
  | _ :: _, [], _, h => by simp [Lies] at h
  | e :: l, p :: m, i, h => by
    simp only [Lies, List.map_cons, List.cons.injEq, Prod.mk.injEq] at h
    obtain ⟨⟨hk, hv⟩, hr⟩ := h
    by_cases hp : p.1 = a
    · refine .inr ⟨0, p.2, by simp [get, hp], ?_, by simp [hk, hp], fun u => by simp [put, hp], by simp [del, hp]⟩
      simp only [Instr.findNow, hk, hs, hp, decide_true]
      simp [hv]
    · have hne : decide (a = p.1) = false := by simpa using fun h => hp h.symm
      rcases find_spec (P := P) (kt := kt) hs a l m (i + 1) hr with ⟨h1, h2, h3, h4⟩ | ⟨j, v, h1, h2, h3, h4, h5⟩
      · exact .inl ⟨by simp [get, hp, h1], by simp [Instr.findNow, hk, hs, hne, h2], fun v => by simp [put, hp, h3], by simp [del, hp, h4]⟩
      · refine .inr ⟨j + 1, v, by simp [get, hp, h1], ?_, by simpa using h3, fun u => by simp [put, hp, h4], by simp [del, hp, h5]⟩
        simp only [Instr.findNow, hk, hs, hne, h2]
        congr 3; omega

/-- Block b is a map of these keys and values. -/
structure Is (w : World) (b : Nat) (mk : α → Value) (mv : β → Value) (m : List (α × β)) : Prop where
  out : ∃ es clock, w.heap[b]? = some (.map es clock) ∧ Lies mk mv es.toList m ∧ (∀ e ∈ es.toList, e.born < clock) ∧ (es.toList.map (·.born)).Nodup
  nodup : (m.map (·.1)).Nodup

variable {P : Program} {w : World} {b : Nat} {mk : α → Value} {mv : β → Value} {m : List (α × β)} {t kt et : TypeId}

omit [DecidableEq α] in
theorem Is.of_heap {w' : World} (h : Is w b mk mv m) (hb : w'.heap[b]? = w.heap[b]?) : Is w' b mk mv m := by
  obtain ⟨⟨es, clock, h1, h2⟩, hn⟩ := h
  exact ⟨⟨es, clock, by rw [hb]; exact h1, h2⟩, hn⟩
omit [DecidableEq α] in
theorem Is.lt (h : Is w b mk mv m) : b < w.heap.size := by
  obtain ⟨⟨es, clock, h1, _⟩, _⟩ := h
  exact (Array.getElem?_eq_some_iff.1 h1).1
omit [DecidableEq α] in
theorem Is.made (w : World) (mk : α → Value) (mv : β → Value) : Is (w.alloc (.map #[] 0)) w.heap.size mk mv [] :=
  ⟨⟨#[], 0, (MapKept.heap_alloc w _).1, rfl, by simp, by simp⟩, by simp⟩

/-- v, ok := m[a] -/
theorem Is.look (h : Is w b mk mv m) (K : KeyOf P kt mk) (ht : P.underlying t = some (.map kt et)) {z : Value} (hz : (zeroValue et).run P w = .ok z w) (a : α) :
    (Instr.lookup t (.map (some b)) (mk a) true).run P w = .ok (.tuple #[((get m a).map mv).getD z, .bool (get m a).isSome]) w ∧ (Instr.lookup t (.map (some b)) (mk a) false).run P w = .ok (((get m a).map mv).getD z) w := by
  obtain ⟨⟨es, clock, h1, h2, _⟩, _⟩ := h
  obtain ⟨d, hd, hk, hs⟩ := K.out
  have hck := fun e => run_checkKey (P := P) (w := w) hd (hk a) e 9999
  rcases find_spec (P := P) (kt := kt) hs a es.toList m 0 h2 with ⟨g1, g2, _⟩ | ⟨j, v, g1, g2, _⟩
  · rw [g1]
    exact ⟨by simp [Instr.lookup, run_underlying ht, MapKept.run_getObj_map h1, hck, run_findKey hd g2, hz], by simp [Instr.lookup, run_underlying ht, MapKept.run_getObj_map h1, hck, run_findKey hd g2, hz]⟩
  · rw [g1]
    exact ⟨by simp [Instr.lookup, run_underlying ht, MapKept.run_getObj_map h1, hck, run_findKey hd g2], by simp [Instr.lookup, run_underlying ht, MapKept.run_getObj_map h1, hck, run_findKey hd g2]⟩

/-- .. of a nil map -/
theorem look_nil (K : KeyOf P kt mk) (ht : P.underlying t = some (.map kt et)) {z : Value} (hz : (zeroValue et).run P w = .ok z w) (a : α) :
    (Instr.lookup t (.map none) (mk a) true).run P w = .ok (.tuple #[z, .bool false]) w ∧ (Instr.lookup t (.map none) (mk a) false).run P w = .ok z w := by
  obtain ⟨d, hd, hk, hs⟩ := K.out
  have hck := fun e => run_checkKey (P := P) (w := w) hd (hk a) e 9999
  have hf : (Instr.findKey kt (mk a) []).run P w = .ok none w := run_findKey hd rfl
  exact ⟨by simp [Instr.lookup, run_underlying ht, hck, hf, hz], by simp [Instr.lookup, run_underlying ht, hck, hf, hz]⟩

theorem nodup_put (hn : (m.map (·.1)).Nodup) (a : α) (v : β) : ((put m a v).map (·.1)).Nodup := by
  rw [keys_put]
  split
  · exact hn
  · rename_i h
    rw [List.nodup_append]
    exact ⟨hn, by simp, fun x hx y hy => by simp at hy; subst hy; rintro rfl; exact h hx⟩
theorem nodup_del (hn : (m.map (·.1)).Nodup) (a : α) : ((del m a).map (·.1)).Nodup := by
  rw [keys_del]; exact hn.erase a

omit [DecidableEq α] in
theorem lies_set {l : List MapEntry} (h : Lies mk mv l m) (j : Nat) (a : α) (u : β) : Lies mk mv (l.modify j fun e => { e with key := mk a, val := mv u }) (m.set j (a, u)) := by
  unfold Lies at *
  induction l generalizing m j with
  | nil => cases m <;> simp_all
  | cons e l ih =>
    cases m with
    | nil => simp at h
    | cons p m =>
      simp only [List.map_cons, List.cons.injEq] at h
      cases j with
      | zero => simpa using h.2
      | succ j => simp only [List.modify_succ_cons, List.set_cons_succ, List.map_cons, List.cons.injEq]; exact ⟨h.1, ih h.2 j⟩

/-- m[a] = v -/
theorem Is.update (h : Is w b mk mv m) (K : KeyOf P kt mk) (ht : P.underlying t = some (.map kt et)) (a : α) (v : β) :
    ∃ o, (Instr.mapUpdate t (.map (some b)) (mk a) (mv v)).run P w = .ok () { w with heap := w.heap.setIfInBounds b o } ∧ Is { w with heap := w.heap.setIfInBounds b o } b mk mv (put m a v) := by
  obtain ⟨⟨es, clock, h1, h2, h3, h4⟩, hn⟩ := h
  obtain ⟨d, hd, hk, hs⟩ := K.out
  have hck := fun e => run_checkKey (P := P) (w := w) hd (hk a) e 9999
  rcases find_spec (P := P) (kt := kt) hs a es.toList m 0 h2 with ⟨g1, g2, g3, _⟩ | ⟨j, u, g1, g2, g3, g4, _⟩
  · refine ⟨_, by simp [Instr.mapUpdate, run_underlying ht, MapKept.run_getObj_map h1, hck, run_findKey hd g2, run_setObj_map _ h1]; rfl, ⟨_, _, (heap_set h1).1, ?_, ?_, ?_⟩, nodup_put hn a v⟩
    · rw [g3, Array.toList_push]; unfold Lies at *; simp [h2]
    · intro e he
      simp only [Array.toList_push, List.mem_append, List.mem_singleton] at he
      rcases he with he | rfl
      · have := h3 e he; omega
      · exact Nat.lt_succ_self _
    · rw [Array.toList_push, List.map_append, List.nodup_append]
      refine ⟨h4, by simp, fun x hx y hy => ?_⟩
      simp only [List.map_cons, List.map_nil, List.mem_singleton] at hy
      subst hy
      obtain ⟨e, he, rfl⟩ := List.mem_map.1 hx
      have := h3 e he
      omega
  · simp only [Nat.zero_add] at g2
    have hkeep : ((es[j]?).map (·.key)).getD (mk a) = mk a := by
      rw [Array.getElem?_toList] at g3
      rw [g3]; rfl
    have hst := run_keyThatStays (P := P) (w := w) (hk a)
    refine ⟨_, by simp [Instr.mapUpdate, run_underlying ht, MapKept.run_getObj_map h1, hck, run_findKey hd g2, hkeep, hst, run_setObj_map _ h1]; rfl, ⟨_, _, (heap_set h1).1, ?_, ?_, ?_⟩, nodup_put hn a v⟩
    · rw [g4, Array.toList_modify]; exact lies_set h2 j a v
    · have hb : (es.modify j fun e => { e with key := mk a, val := mv v }).toList.map (·.born) = es.toList.map (·.born) := by
        rw [Array.toList_modify]
        apply List.ext_getElem?; intro i
        simp only [List.getElem?_map, List.getElem?_modify]
        cases es.toList[i]? <;> simp; split <;> rfl
      intro e he
      have : e.born ∈ es.toList.map (·.born) := by rw [← hb]; exact List.mem_map_of_mem he
      obtain ⟨e', he', hbe⟩ := List.mem_map.1 this
      rw [← hbe]; exact h3 e' he'
    · have hb : (es.modify j fun e => { e with key := mk a, val := mv v }).toList.map (·.born) = es.toList.map (·.born) := by
        rw [Array.toList_modify]
        apply List.ext_getElem?; intro i
        simp only [List.getElem?_map, List.getElem?_modify]
        cases es.toList[i]? <;> simp; split <;> rfl
      rw [hb]; exact h4
end
end Go.Mp

