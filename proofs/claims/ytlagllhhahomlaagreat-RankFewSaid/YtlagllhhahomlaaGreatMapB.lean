/- Maps of Go, as lists: a key is struck out; how many there are; a clone; one entry after the other. Over whatever program. -/
import Derived.Test.YtlagllhhahomlaaGreatMap
import Derived.Maps.RangeRun
import Derived.WideLaws
namespace Go.Mp
open Go Go.RowKit Go.MapKept

section
variable {α β : Type} [DecidableEq α] {P : Program} {w : World} {b : Nat} {mk : α → Value} {mv : β → Value} {m : List (α × β)} {t kt et : TypeId}

omit [DecidableEq α] in
theorem Lies.length {l : List MapEntry} (h : Lies mk mv l m) : l.length = m.length := by
  have := congrArg List.length h
  simpa [Lies] using this
omit [DecidableEq α] in
theorem Lies.at {l : List MapEntry} (h : Lies mk mv l m) {i : Nat} {e : MapEntry} (hi : l[i]? = some e) : ∃ p, m[i]? = some p ∧ e.key = mk p.1 ∧ e.val = mv p.2 := by
  have h1 := congrArg (fun x => x[i]?) h
  simp only [List.getElem?_map, hi, Option.map_some] at h1
  cases hm : m[i]? with
  | none => rw [hm] at h1; cases h1
  | some p =>
    rw [hm] at h1
    simp only [Option.map_some, Option.some.injEq, Prod.mk.injEq] at h1
    exact ⟨p, rfl, h1.1, h1.2⟩

omit [DecidableEq α] in
theorem lies_erase {l : List MapEntry} (h : Lies mk mv l m) (j : Nat) : Lies mk mv (l.eraseIdx j) (m.eraseIdx j) := by
  unfold Lies at *
  rw [Go.ChangeMaps.map_eraseIdx, Go.ChangeMaps.map_eraseIdx, h]

/-- delete(m, a) -/
theorem Is.delete (h : Is w b mk mv m) (K : KeyOf P kt mk) (ht : P.underlying t = some (.map kt et)) (a : α) (ty : TypeId) :
    ∃ o, (Builtin.delete_ #[t, kt] ty #[.map (some b), mk a]).run P w = .ok (.tuple #[]) { w with heap := w.heap.setIfInBounds b o } ∧ Is { w with heap := w.heap.setIfInBounds b o } b mk mv (del m a) := by
  obtain ⟨⟨es, clock, h1, h2, h3, h4⟩, hn⟩ := h
  obtain ⟨d, hd, hk, hs⟩ := K.out
  have hck := fun e => run_checkKey (P := P) (w := w) hd (hk a) e 9999
  rcases find_spec (P := P) (kt := kt) hs a es.toList m 0 h2 with ⟨g1, g2, _, g4⟩ | ⟨j, u, g1, g2, g3, _, g5⟩
  · refine ⟨.map es clock, by simp [Builtin.delete_, run_underlying ht, MapKept.run_getObj_map h1, hck, run_findKey hd g2, run_setObj_map _ h1], ⟨es, clock, (heap_set h1).1, by rw [g4]; exact h2, h3, h4⟩, by rw [g4]; exact hn⟩
  · simp only [Nat.zero_add] at g2
    refine ⟨_, by simp [Builtin.delete_, run_underlying ht, MapKept.run_getObj_map h1, hck, run_findKey hd g2, run_setObj_map _ h1]; rfl, ⟨_, _, (heap_set h1).1, ?_, ?_, ?_⟩, nodup_del hn a⟩
    · rw [g5]
      have := lies_erase h2 j
      simpa [Array.toList_eraseIdxIfInBounds] using this
    · intro e he
      refine h3 e ?_
      simp only [Array.toList_eraseIdxIfInBounds] at he
      exact List.mem_of_mem_eraseIdx he
    · simp only [Array.toList_eraseIdxIfInBounds]
      rw [Go.ChangeMaps.map_eraseIdx]
      exact h4.sublist (List.eraseIdx_sublist _ _)

omit [DecidableEq α] in
/-- len(m) -/
theorem Is.len (h : Is w b mk mv m) (ht : P.underlying t = some (.map kt et)) (ty : TypeId) : (Builtin.len_ #[t] ty #[.map (some b)]).run P w = .ok (.int .i64 (m.length : Int)) w := by
  obtain ⟨⟨es, clock, h1, h2, _⟩, _⟩ := h
  have : es.size = m.length := by rw [← h2.length, Array.length_toList]
  simp [Builtin.len_, run_underlying ht, MapKept.run_getObj_map h1, this, goInt]

/-- An iterator over a map that is not written meanwhile; 'seen' are the stamps of what has come. -/
structure Ranged (w : World) (b r : Nat) (es : Array MapEntry) (clock : Nat) (seen : Array Nat) : Prop where
  map : w.heap[b]? = some (.map es clock)
  iter : w.heap[r]? = some (.mapIter (some b) clock seen clock)

/-- Has the i-th entry come? -/
def came (es : Array MapEntry) (seen : Array Nat) (i : Nat) : Prop := ∃ e, es[i]? = some e ∧ e.born ∈ seen.toList

theorem came_push {es : Array MapEntry} (hn : (es.toList.map (·.born)).Nodup) {seen : Array Nat} {i : Nat} {e : MapEntry} (hi : es[i]? = some e) (j : Nat) : came es (seen.push e.born) j ↔ came es seen j ∨ j = i := by
  unfold came
  constructor
  · rintro ⟨e', h1, h2⟩
    simp only [Array.toList_push, List.mem_append, List.mem_singleton] at h2
    rcases h2 with h2 | h2
    · exact .inl ⟨e', h1, h2⟩
    · right
      obtain ⟨q1, q2⟩ := Array.getElem?_eq_some_iff.1 h1
      obtain ⟨p1, p2⟩ := Array.getElem?_eq_some_iff.1 hi
      have hj : j < (es.toList.map (·.born)).length := by simpa using q1
      have hi' : i < (es.toList.map (·.born)).length := by simpa using p1
      refine (List.getElem_inj (h₀ := hj) (h₁ := hi') hn).1 ?_
      simp only [List.getElem_map, Array.getElem_toList, q2, p2]
      exact h2
  · rintro (⟨e', h1, h2⟩ | rfl)
    · exact ⟨e', h1, by simp [h2]⟩
    · exact ⟨e, hi, by simp⟩

omit [DecidableEq α] in
/-- One entry more, whichever the tape says; or all have come. -/
theorem Ranged.next {r : Nat} {es : Array MapEntry} {clock : Nat} {seen : Array Nat} (h : Ranged w b r es clock seen) (hl : Lies mk mv es.toList m) (hb : ∀ e ∈ es.toList, e.born < clock) (hn : (es.toList.map (·.born)).Nodup) (ty : TypeId) :
    ((∀ i, i < m.length → came es seen i) ∧ (Instr.next (.pointer (some ⟨r, 0, none⟩)) false ty).run P w = .ok (.tuple #[.bool false]) w) ∨
    ∃ (i : Nat) (p : α × β) (e : MapEntry) (w1 : World), m[i]? = some p ∧ es[i]? = some e ∧ e ∈ (leftOf es seen).toList ∧ (w1 = w ∨ w1 = w.drew) ∧
      (Instr.next (.pointer (some ⟨r, 0, none⟩)) false ty).run P w = .ok (.tuple #[.bool true, mk p.1, mv p.2]) (ChangeMaps.setBlock w1 r (.mapIter (some b) clock (seen.push e.born) clock)) ∧
      (b ≠ r → Ranged (ChangeMaps.setBlock w1 r (.mapIter (some b) clock (seen.push e.born) clock)) b r es clock (seen.push e.born)) ∧
      (b ≠ r → (Instr.entry (.pointer (some ⟨r, 0, none⟩))).run P (ChangeMaps.setBlock w1 r (.mapIter (some b) clock (seen.push e.born) clock)) = .ok (.tuple #[mk p.1, mv p.2]) (ChangeMaps.setBlock w1 r (.mapIter (some b) clock (seen.push e.born) clock))) := by
  rcases run_next_at (P := P) w ty r b clock clock seen es clock h.iter h.map hb (Nat.le_refl _) with ⟨h1, h2⟩ | ⟨e, he, w1, hw, h2⟩
  · left
    refine ⟨fun i hi => ?_, h2⟩
    have hsz : es.size = m.length := by rw [← hl.length, Array.length_toList]
    have hie : es[i]? = some es[i] := Array.getElem?_eq_getElem (by omega)
    refine ⟨es[i], hie, ?_⟩
    have hnil : leftOf es seen = #[] := Array.eq_empty_of_size_eq_zero h1
    unfold leftOf at hnil
    rw [Array.filter_eq_empty_iff] at hnil
    have := hnil es[i] (Array.getElem_mem _)
    simpa using this
  · right
    have hmem : e ∈ es.toList := by
      unfold leftOf at he
      rw [Array.toList_filter] at he
      exact (List.mem_filter.1 he).1
    obtain ⟨i, hi, hie⟩ := List.getElem_of_mem hmem
    have hie' : es.toList[i]? = some e := by rw [List.getElem?_eq_getElem hi, hie]
    obtain ⟨p, hp, hk, hv⟩ := hl.at hie'
    have hh : w1.heap[r]? = some (.mapIter (some b) clock seen clock) ∧ w1.heap[b]? = some (.map es clock) := by
      rcases hw with rfl | rfl <;> exact ⟨h.iter, h.map⟩
    have hlt : r < w1.heap.size := (Array.getElem?_eq_some_iff.1 hh.1).1
    have hR : b ≠ r → Ranged (ChangeMaps.setBlock w1 r (.mapIter (some b) clock (seen.push e.born) clock)) b r es clock (seen.push e.born) := fun hbr => by
      refine ⟨?_, ?_⟩
      · show (w1.heap.setIfInBounds r _)[b]? = _
        rw [Array.getElem?_setIfInBounds_ne (fun e => hbr e.symm)]; exact hh.2
      · show (w1.heap.setIfInBounds r _)[r]? = _
        simp [hlt]
    rw [hk, hv] at h2
    refine ⟨i, p, e, w1, hp, by rw [← Array.getElem?_toList]; exact hie', he, hw, h2, hR, fun hbr => ?_⟩
    have := run_entry_at (P := P) _ r b clock seen es clock e (hR hbr).iter (hR hbr).map hmem hn
    rw [hk, hv] at this
    exact this

theorem left_less {es : Array MapEntry} {seen : Array Nat} {e : MapEntry} (he : e ∈ (leftOf es seen).toList) : (leftOf es (seen.push e.born)).size < (leftOf es seen).size := by
  have hsz : ∀ sn : Array Nat, (leftOf es sn).size = (es.toList.filter fun x => !sn.contains x.born).length := fun sn => by
    rw [← Array.length_toList]; unfold leftOf; rw [Array.toList_filter]
  rw [hsz, hsz]
  have he' : e ∈ es.toList.filter fun x => !seen.contains x.born := by unfold leftOf at he; rw [Array.toList_filter] at he; exact he
  obtain ⟨h1, h2⟩ := List.mem_filter.1 he'
  clear he he' hsz
  generalize es.toList = l at *
  have hle : ∀ l : List MapEntry, (l.filter fun x => !(seen.push e.born).contains x.born).length ≤ (l.filter fun x => !seen.contains x.born).length := fun l => by
    induction l with
    | nil => simp
    | cons x l ih =>
      simp only [List.filter_cons]
      by_cases hx : x.born ∈ seen.toList
      · have a1 : seen.contains x.born = true := by simpa using hx
        have a2 : (seen.push e.born).contains x.born = true := by
          simp only [Array.contains_iff_mem, Array.mem_push]; left; simpa using hx
        rw [a1, a2]; simpa using ih
      · have a1 : seen.contains x.born = false := by simpa using hx
        rw [a1]
        simp only [Bool.not_false, if_true, List.length_cons]
        split <;> (try simp only [List.length_cons]) <;> omega
  induction l with
  | nil => cases h1
  | cons x l ih =>
    simp only [List.filter_cons]
    rcases List.mem_cons.1 h1 with rfl | h1
    · have a2 : (seen.push e.born).contains e.born = true := by simp
      rw [h2, a2]
      simp only [Bool.not_true, Bool.false_eq_true, if_false, if_true, List.length_cons]
      have := hle l
      omega
    · have := ih h1
      by_cases hx : x.born ∈ seen.toList
      · have a1 : seen.contains x.born = true := by simpa using hx
        have a2 : (seen.push e.born).contains x.born = true := by
          simp only [Array.contains_iff_mem, Array.mem_push]; left; simpa using hx
        rw [a1, a2]; simpa using this
      · have a1 : seen.contains x.born = false := by simpa using hx
        rw [a1]
        simp only [Bool.not_false, if_true, List.length_cons]
        split <;> (try simp only [List.length_cons]) <;> omega
end
end Go.Mp

