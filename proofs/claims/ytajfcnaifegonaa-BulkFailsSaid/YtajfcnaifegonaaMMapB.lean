/- Maps of Go as lists of keys and values, whatever their order: looked up, written, struck out, ranged over. Over whatever program. -/
import Derived.WalkKit
import Derived.ProofKit
import Derived.Lib.Hide
import Derived.MapKept
import Derived.Maps.RangeRun
import Derived.WideLaws
namespace Go.Mp
open Go Go.RowKit Go.MapKept
section
variable {α β : Type} [DecidableEq α]
def get : List (α × β) → α → Option β
  | [], _ => none
  | p :: m, a => if p.1 = a then some p.2 else get m a
def put : List (α × β) → α → β → List (α × β)
  | [], a, v => [(a, v)]
  | p :: m, a, v => if p.1 = a then (a, v) :: m else p :: put m a v
def del : List (α × β) → α → List (α × β)
  | [], _ => []
  | p :: m, a => if p.1 = a then m else p :: del m a
theorem get_put (m : List (α × β)) (a c : α) (v : β) : get (put m a v) c = if a = c then some v else get m c := by
  induction m with
  | nil => simp [put, get]
  | cons p m ih =>
    simp only [put]
    by_cases h : p.1 = a
    · rw [if_pos h]
      simp only [get]
      by_cases hc : a = c
      · rw [if_pos hc, if_pos hc]
      · rw [if_neg hc, if_neg hc, if_neg (by rw [h]; exact hc)]
    · rw [if_neg h]
      simp only [get, ih]
      by_cases hp : p.1 = c
      · rw [if_pos hp, if_pos hp, if_neg (by rintro rfl; exact h hp)]
      · rw [if_neg hp, if_neg hp]
theorem keys_put (m : List (α × β)) (a : α) (v : β) : (put m a v).map (·.1) = if a ∈ m.map (·.1) then m.map (·.1) else m.map (·.1) ++ [a] := by
  induction m with
  | nil => simp [put]
  | cons p m ih =>
    simp only [put]
    by_cases h : p.1 = a
    · rw [if_pos h, if_pos (by simp [h])]; simp [h]
    · rw [if_neg h, List.map_cons, ih]
      simp only [List.map_cons, List.mem_cons]
      by_cases hm : a ∈ m.map (·.1)
      · rw [if_pos hm, if_pos (.inr hm)]
      · rw [if_neg hm, if_neg (by rintro (rfl | h'); exact h rfl; exact hm h')]; simp
theorem keys_del (m : List (α × β)) (a : α) : (del m a).map (·.1) = (m.map (·.1)).erase a := by
  induction m with
  | nil => simp [del]
  | cons p m ih =>
    simp only [del, List.map_cons]
    by_cases h : p.1 = a
    · rw [if_pos h, List.erase_cons, if_pos (by simpa using h)]
    · rw [if_neg h, List.erase_cons, if_neg (by simpa using h), List.map_cons, ih]
structure KeyOf (P : Program) (kt : TypeId) (mk : α → Value) : Prop where
  out : ∃ d, P.underlying kt = some d ∧ (∀ a, IsKey d (mk a)) ∧ ∀ a b, Instr.sameNow d (mk a) (mk b) = some (decide (a = b))
theorem KeyOf.string {P : Program} {kt : TypeId} (h : P.underlying kt = some .string) : KeyOf P kt (fun s : ByteArray => .string s) :=
  ⟨.string, h, fun _ => trivial, fun a b => by
    simp only [Instr.sameNow, Option.some.injEq]
    rw [Bool.eq_iff_iff, decide_eq_true_eq]
    exact bytes_beq a b⟩
theorem KeyOf.int {P : Program} {kt : TypeId} {k : IntKind} (h : P.underlying kt = some (.int k)) : KeyOf P kt (fun n : Int => .int k n) :=
  ⟨.int k, h, fun _ => rfl, fun a b => by simp [Instr.sameNow]; rfl⟩
def Lies (mk : α → Value) (mv : β → Value) (l : List MapEntry) (m : List (α × β)) : Prop := l.map (fun e => (e.key, e.val)) = m.map fun p => (mk p.1, mv p.2)
theorem find_spec {P : Program} {kt : TypeId} {mk : α → Value} {mv : β → Value} {d : TypeDesc} (hs : ∀ a b, Instr.sameNow d (mk a) (mk b) = some (decide (a = b))) (a : α) : ∀ (l : List MapEntry) (m : List (α × β)) (i : Nat), Lies mk mv l m →
    (get m a = none ∧ Instr.findNow d (mk a) l i = some none ∧ (∀ v, put m a v = m ++ [(a, v)]) ∧ del m a = m) ∨
    ∃ j v, get m a = some v ∧ Instr.findNow d (mk a) l i = some (some (i + j, mv v)) ∧ (l[j]?).map (·.key) = some (mk a) ∧ (∀ u, put m a u = m.set j (a, u)) ∧ del m a = m.eraseIdx j
  | [], [], _, _ => .inl ⟨rfl, rfl, fun _ => rfl, rfl⟩
  | [], _ :: _, _, h => by simp [Lies] at h
  | _ :: _, [], _, h => by simp [Lies] at h
  | e :: l, p :: m, i, h => by
    simp only [Lies, List.map_cons, List.cons.injEq, Prod.mk.injEq] at h
    obtain ⟨⟨hk, hv⟩, hr⟩ := h
    by_cases hp : p.1 = a
    · refine .inr ⟨0, p.2, by simp [get, hp], ?_, by simp [hk, hp], fun u => by simp [put, hp], by simp [del, hp]⟩
      simp only [Instr.findNow, hk, hs, hp, decide_true]
      simp [hv]
    · have hne : decide (a = p.1) = false := by simpa using fun h => hp h.symm
      rcases find_spec (P := P) (kt := kt) hs a l m (i + 1) hr with ⟨h1, h2, h3, h4⟩ | ⟨j, v, h1, h2, h3, h4, h5⟩
      · exact .inl ⟨by simp [get, hp, h1], by simp [Instr.findNow, hk, hs, hne, h2], fun v => by simp [put, hp, h3], by simp [del, hp, h4]⟩
      · refine .inr ⟨j + 1, v, by simp [get, hp, h1], ?_, by simpa using h3, fun u => by simp [put, hp, h4], by simp [del, hp, h5]⟩
        simp only [Instr.findNow, hk, hs, hne, h2]
        congr 3; omega
structure Is (w : World) (b : Nat) (mk : α → Value) (mv : β → Value) (m : List (α × β)) : Prop where
  out : ∃ es clock, w.heap[b]? = some (.map es clock) ∧ Lies mk mv es.toList m ∧ (∀ e ∈ es.toList, e.born < clock) ∧ (es.toList.map (·.born)).Nodup
  nodup : (m.map (·.1)).Nodup
variable {P : Program} {w : World} {b : Nat} {mk : α → Value} {mv : β → Value} {m : List (α × β)} {t kt et : TypeId}
omit [DecidableEq α] in
theorem Is.of_heap {w' : World} (h : Is w b mk mv m) (hb : w'.heap[b]? = w.heap[b]?) : Is w' b mk mv m := by
  obtain ⟨⟨es, clock, h1, h2⟩, hn⟩ := h
  exact ⟨⟨es, clock, by rw [hb]; exact h1, h2⟩, hn⟩
omit [DecidableEq α] in
theorem Is.lt (h : Is w b mk mv m) : b < w.heap.size := by
  obtain ⟨⟨es, clock, h1, _⟩, _⟩ := h
  exact (Array.getElem?_eq_some_iff.1 h1).1
omit [DecidableEq α] in
theorem Is.made (w : World) (mk : α → Value) (mv : β → Value) : Is (w.alloc (.map #[] 0)) w.heap.size mk mv [] :=
  ⟨⟨#[], 0, (MapKept.heap_alloc w _).1, rfl, by simp, by simp⟩, by simp⟩
theorem Is.look (h : Is w b mk mv m) (K : KeyOf P kt mk) (ht : P.underlying t = some (.map kt et)) {z : Value} (hz : (zeroValue et).run P w = .ok z w) (a : α) :
    (Instr.lookup t (.map (some b)) (mk a) true).run P w = .ok (.tuple #[((get m a).map mv).getD z, .bool (get m a).isSome]) w ∧ (Instr.lookup t (.map (some b)) (mk a) false).run P w = .ok (((get m a).map mv).getD z) w := by
  obtain ⟨⟨es, clock, h1, h2, _⟩, _⟩ := h
  obtain ⟨d, hd, hk, hs⟩ := K.out
  have hck := fun e => run_checkKey (P := P) (w := w) hd (hk a) e 9999
  rcases find_spec (P := P) (kt := kt) hs a es.toList m 0 h2 with ⟨g1, g2, _⟩ | ⟨j, v, g1, g2, _⟩
  · rw [g1]
    exact ⟨by simp [Instr.lookup, run_underlying ht, MapKept.run_getObj_map h1, hck, run_findKey hd g2, hz], by simp [Instr.lookup, run_underlying ht, MapKept.run_getObj_map h1, hck, run_findKey hd g2, hz]⟩
  · rw [g1]
    exact ⟨by simp [Instr.lookup, run_underlying ht, MapKept.run_getObj_map h1, hck, run_findKey hd g2], by simp [Instr.lookup, run_underlying ht, MapKept.run_getObj_map h1, hck, run_findKey hd g2]⟩
theorem look_nil (K : KeyOf P kt mk) (ht : P.underlying t = some (.map kt et)) {z : Value} (hz : (zeroValue et).run P w = .ok z w) (a : α) :
    (Instr.lookup t (.map none) (mk a) true).run P w = .ok (.tuple #[z, .bool false]) w ∧ (Instr.lookup t (.map none) (mk a) false).run P w = .ok z w := by
  obtain ⟨d, hd, hk, hs⟩ := K.out
  have hck := fun e => run_checkKey (P := P) (w := w) hd (hk a) e 9999
  have hf : (Instr.findKey kt (mk a) []).run P w = .ok none w := run_findKey hd rfl
  exact ⟨by simp [Instr.lookup, run_underlying ht, hck, hf, hz], by simp [Instr.lookup, run_underlying ht, hck, hf, hz]⟩
theorem nodup_put (hn : (m.map (·.1)).Nodup) (a : α) (v : β) : ((put m a v).map (·.1)).Nodup := by
  rw [keys_put]
  split
  · exact hn
  · rename_i h
    rw [List.nodup_append]
    exact ⟨hn, by simp, fun x hx y hy => by simp at hy; subst hy; rintro rfl; exact h hx⟩
theorem nodup_del (hn : (m.map (·.1)).Nodup) (a : α) : ((del m a).map (·.1)).Nodup := by
  rw [keys_del]; exact hn.erase a
omit [DecidableEq α] in
theorem lies_set {l : List MapEntry} (h : Lies mk mv l m) (j : Nat) (a : α) (u : β) : Lies mk mv (l.modify j fun e => { e with key := mk a, val := mv u }) (m.set j (a, u)) := by
  unfold Lies at *
  induction l generalizing m j with
  | nil => cases m <;> simp_all
  | cons e l ih =>
    cases m with
    | nil => simp at h
    | cons p m =>
      simp only [List.map_cons, List.cons.injEq] at h
      cases j with
      | zero => simpa using h.2
      | succ j => simp only [List.modify_succ_cons, List.set_cons_succ, List.map_cons, List.cons.injEq]; exact ⟨h.1, ih h.2 j⟩
theorem Is.update (h : Is w b mk mv m) (K : KeyOf P kt mk) (ht : P.underlying t = some (.map kt et)) (a : α) (v : β) :
    ∃ o, (Instr.mapUpdate t (.map (some b)) (mk a) (mv v)).run P w = .ok () { w with heap := w.heap.setIfInBounds b o } ∧ Is { w with heap := w.heap.setIfInBounds b o } b mk mv (put m a v) := by
  obtain ⟨⟨es, clock, h1, h2, h3, h4⟩, hn⟩ := h
  obtain ⟨d, hd, hk, hs⟩ := K.out
  have hck := fun e => run_checkKey (P := P) (w := w) hd (hk a) e 9999
  rcases find_spec (P := P) (kt := kt) hs a es.toList m 0 h2 with ⟨g1, g2, g3, _⟩ | ⟨j, u, g1, g2, g3, g4, _⟩
  · refine ⟨_, by simp [Instr.mapUpdate, run_underlying ht, MapKept.run_getObj_map h1, hck, run_findKey hd g2, run_setObj_map _ h1]; rfl, ⟨_, _, (heap_set h1).1, ?_, ?_, ?_⟩, nodup_put hn a v⟩
    · rw [g3, Array.toList_push]; unfold Lies at *; simp [h2]
    · intro e he
      simp only [Array.toList_push, List.mem_append, List.mem_singleton] at he
      rcases he with he | rfl
      · have := h3 e he; omega
      · exact Nat.lt_succ_self _
    · rw [Array.toList_push, List.map_append, List.nodup_append]
      refine ⟨h4, by simp, fun x hx y hy => ?_⟩
      simp only [List.map_cons, List.map_nil, List.mem_singleton] at hy
      subst hy
      obtain ⟨e, he, rfl⟩ := List.mem_map.1 hx
      have := h3 e he
      omega
  · simp only [Nat.zero_add] at g2
    have hkeep : ((es[j]?).map (·.key)).getD (mk a) = mk a := by
      rw [Array.getElem?_toList] at g3
      rw [g3]; rfl
    have hst := run_keyThatStays (P := P) (w := w) (hk a)
    refine ⟨_, by simp [Instr.mapUpdate, run_underlying ht, MapKept.run_getObj_map h1, hck, run_findKey hd g2, hkeep, hst, run_setObj_map _ h1]; rfl, ⟨_, _, (heap_set h1).1, ?_, ?_, ?_⟩, nodup_put hn a v⟩
    · rw [g4, Array.toList_modify]; exact lies_set h2 j a v
    · have hb : (es.modify j fun e => { e with key := mk a, val := mv v }).toList.map (·.born) = es.toList.map (·.born) := by
        rw [Array.toList_modify]
        apply List.ext_getElem?; intro i
        simp only [List.getElem?_map, List.getElem?_modify]
        cases es.toList[i]? <;> simp; split <;> rfl
      intro e he
      have : e.born ∈ es.toList.map (·.born) := by rw [← hb]; exact List.mem_map_of_mem he
      obtain ⟨e', he', hbe⟩ := List.mem_map.1 this
      rw [← hbe]; exact h3 e' he'
    · have hb : (es.modify j fun e => { e with key := mk a, val := mv v }).toList.map (·.born) = es.toList.map (·.born) := by
        rw [Array.toList_modify]
        apply List.ext_getElem?; intro i
        simp only [List.getElem?_map, List.getElem?_modify]
        cases es.toList[i]? <;> simp; split <;> rfl
      rw [hb]; exact h4
end
end Go.Mp
/- Maps of Go, as lists: a key is struck out; how many there are; a clone; one entry after the other. Over whatever program. -/
namespace Go.Mp
open Go Go.RowKit Go.MapKept
section
variable {α β : Type} [DecidableEq α] {P : Program} {w : World} {b : Nat} {mk : α → Value} {mv : β → Value} {m : List (α × β)} {t kt et : TypeId}
omit [DecidableEq α] in
theorem Lies.length {l : List MapEntry} (h : Lies mk mv l m) : l.length = m.length := by
  have := congrArg List.length h
  simpa [Lies] using this
omit [DecidableEq α] in
theorem Lies.at {l : List MapEntry} (h : Lies mk mv l m) {i : Nat} {e : MapEntry} (hi : l[i]? = some e) : ∃ p, m[i]? = some p ∧ e.key = mk p.1 ∧ e.val = mv p.2 := by
  have h1 := congrArg (fun x => x[i]?) h
  simp only [List.getElem?_map, hi, Option.map_some] at h1
  cases hm : m[i]? with
  | none => rw [hm] at h1; cases h1
  | some p =>
    rw [hm] at h1
    simp only [Option.map_some, Option.some.injEq, Prod.mk.injEq] at h1
    exact ⟨p, rfl, h1.1, h1.2⟩
omit [DecidableEq α] in
theorem lies_erase {l : List MapEntry} (h : Lies mk mv l m) (j : Nat) : Lies mk mv (l.eraseIdx j) (m.eraseIdx j) := by
  unfold Lies at *
  rw [Go.ChangeMaps.map_eraseIdx, Go.ChangeMaps.map_eraseIdx, h]
theorem Is.delete (h : Is w b mk mv m) (K : KeyOf P kt mk) (ht : P.underlying t = some (.map kt et)) (a : α) (ty : TypeId) :
    ∃ o, (Builtin.delete_ #[t, kt] ty #[.map (some b), mk a]).run P w = .ok (.tuple #[]) { w with heap := w.heap.setIfInBounds b o } ∧ Is { w with heap := w.heap.setIfInBounds b o } b mk mv (del m a) := by
  obtain ⟨⟨es, clock, h1, h2, h3, h4⟩, hn⟩ := h
  obtain ⟨d, hd, hk, hs⟩ := K.out
  have hck := fun e => run_checkKey (P := P) (w := w) hd (hk a) e 9999
  rcases find_spec (P := P) (kt := kt) hs a es.toList m 0 h2 with ⟨g1, g2, _, g4⟩ | ⟨j, u, g1, g2, g3, _, g5⟩
  · refine ⟨.map es clock, by simp [Builtin.delete_, run_underlying ht, MapKept.run_getObj_map h1, hck, run_findKey hd g2, run_setObj_map _ h1], ⟨es, clock, (heap_set h1).1, by rw [g4]; exact h2, h3, h4⟩, by rw [g4]; exact hn⟩
  · simp only [Nat.zero_add] at g2
    refine ⟨_, by simp [Builtin.delete_, run_underlying ht, MapKept.run_getObj_map h1, hck, run_findKey hd g2, run_setObj_map _ h1]; rfl, ⟨_, _, (heap_set h1).1, ?_, ?_, ?_⟩, nodup_del hn a⟩
    · rw [g5]
      have := lies_erase h2 j
      simpa [Array.toList_eraseIdxIfInBounds] using this
    · intro e he
      refine h3 e ?_
      simp only [Array.toList_eraseIdxIfInBounds] at he
      exact List.mem_of_mem_eraseIdx he
    · simp only [Array.toList_eraseIdxIfInBounds]
      rw [Go.ChangeMaps.map_eraseIdx]
      exact h4.sublist (List.eraseIdx_sublist _ _)
omit [DecidableEq α] in
theorem Is.len (h : Is w b mk mv m) (ht : P.underlying t = some (.map kt et)) (ty : TypeId) : (Builtin.len_ #[t] ty #[.map (some b)]).run P w = .ok (.int .i64 (m.length : Int)) w := by
  obtain ⟨⟨es, clock, h1, h2, _⟩, _⟩ := h
  have : es.size = m.length := by rw [← h2.length, Array.length_toList]
  simp [Builtin.len_, run_underlying ht, MapKept.run_getObj_map h1, this, goInt]
structure Ranged (w : World) (b r : Nat) (es : Array MapEntry) (clock : Nat) (seen : Array Nat) : Prop where
  map : w.heap[b]? = some (.map es clock)
  iter : w.heap[r]? = some (.mapIter (some b) clock seen clock)
def came (es : Array MapEntry) (seen : Array Nat) (i : Nat) : Prop := ∃ e, es[i]? = some e ∧ e.born ∈ seen.toList
omit [DecidableEq α] in
theorem Ranged.next {r : Nat} {es : Array MapEntry} {clock : Nat} {seen : Array Nat} (h : Ranged w b r es clock seen) (hl : Lies mk mv es.toList m) (hb : ∀ e ∈ es.toList, e.born < clock) (hn : (es.toList.map (·.born)).Nodup) (ty : TypeId) :
    ((∀ i, i < m.length → came es seen i) ∧ (Instr.next (.pointer (some ⟨r, 0, none⟩)) false ty).run P w = .ok (.tuple #[.bool false]) w) ∨
    ∃ (i : Nat) (p : α × β) (e : MapEntry) (w1 : World), m[i]? = some p ∧ es[i]? = some e ∧ e ∈ (leftOf es seen).toList ∧ (w1 = w ∨ w1 = w.drew) ∧
      (Instr.next (.pointer (some ⟨r, 0, none⟩)) false ty).run P w = .ok (.tuple #[.bool true, mk p.1, mv p.2]) (ChangeMaps.setBlock w1 r (.mapIter (some b) clock (seen.push e.born) clock)) ∧
      (b ≠ r → Ranged (ChangeMaps.setBlock w1 r (.mapIter (some b) clock (seen.push e.born) clock)) b r es clock (seen.push e.born)) ∧
      (b ≠ r → (Instr.entry (.pointer (some ⟨r, 0, none⟩))).run P (ChangeMaps.setBlock w1 r (.mapIter (some b) clock (seen.push e.born) clock)) = .ok (.tuple #[mk p.1, mv p.2]) (ChangeMaps.setBlock w1 r (.mapIter (some b) clock (seen.push e.born) clock))) := by
  rcases run_next_at (P := P) w ty r b clock clock seen es clock h.iter h.map hb (Nat.le_refl _) with ⟨h1, h2⟩ | ⟨e, he, w1, hw, h2⟩
  · left
    refine ⟨fun i hi => ?_, h2⟩
    have hsz : es.size = m.length := by rw [← hl.length, Array.length_toList]
    have hie : es[i]? = some es[i] := Array.getElem?_eq_getElem (by omega)
    refine ⟨es[i], hie, ?_⟩
    have hnil : leftOf es seen = #[] := Array.eq_empty_of_size_eq_zero h1
    unfold leftOf at hnil
    rw [Array.filter_eq_empty_iff] at hnil
    have := hnil es[i] (Array.getElem_mem _)
    simpa using this
  · right
    have hmem : e ∈ es.toList := by
      unfold leftOf at he
      rw [Array.toList_filter] at he
      exact (List.mem_filter.1 he).1
    obtain ⟨i, hi, hie⟩ := List.getElem_of_mem hmem
    have hie' : es.toList[i]? = some e := by rw [List.getElem?_eq_getElem hi, hie]
    obtain ⟨p, hp, hk, hv⟩ := hl.at hie'
    have hh : w1.heap[r]? = some (.mapIter (some b) clock seen clock) ∧ w1.heap[b]? = some (.map es clock) := by
      rcases hw with rfl | rfl <;> exact ⟨h.iter, h.map⟩
    have hlt : r < w1.heap.size := (Array.getElem?_eq_some_iff.1 hh.1).1
    have hR : b ≠ r → Ranged (ChangeMaps.setBlock w1 r (.mapIter (some b) clock (seen.push e.born) clock)) b r es clock (seen.push e.born) := fun hbr => by
      refine ⟨?_, ?_⟩
      · show (w1.heap.setIfInBounds r _)[b]? = _
        rw [Array.getElem?_setIfInBounds_ne (fun e => hbr e.symm)]; exact hh.2
      · show (w1.heap.setIfInBounds r _)[r]? = _
        simp [hlt]
    rw [hk, hv] at h2
    refine ⟨i, p, e, w1, hp, by rw [← Array.getElem?_toList]; exact hie', he, hw, h2, hR, fun hbr => ?_⟩
    have := run_entry_at (P := P) _ r b clock seen es clock e (hR hbr).iter (hR hbr).map hmem hn
    rw [hk, hv] at this
    exact this
end
end Go.Mp
