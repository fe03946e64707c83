/- The operations of the small interpreter on maps: what each answers, and that it holds of the world. -/
import Derived.Test.YtobhhedggppneaaAbsE
import Derived.MapKept
namespace Go.Abs
open Go.RowKit (Below)
open Go.MapKept

def isKeyA : TypeDesc → AV → Bool
  | .int k, .int k' _ => eqKind k' k
  | .string, .str _ => true
  | .bool, .bool _ => true
  | _, _ => false

theorem isKeyA_rep {σ : List (Nat × Nat)} {d : TypeDesc} {x : AV} {v : Value} (h : isKeyA d x = true) (hx : Rep σ x v) : IsKey d v := by
  unfold isKeyA at h
  split at h
  · simp only [Rep] at hx; subst hx; exact eqKind_eq h
  · simp only [Rep] at hx; obtain ⟨s, rfl, _⟩ := hx; trivial
  · simp only [Rep] at hx; subst hx; trivial
  · cases h

def aSame : TypeDesc → AV → AV → Option Bool
  | .int _, .int k a, .int k' b => need (eqKind k k') (some (decide (a = b)))
  | .string, .str a, .str b => some (eqL a b)
  | .bool, .bool a, .bool b => some (a == b)
  | _, _, _ => none

theorem beq_bytes (a b : ByteArray) : (a == b) = (a.data.toList == b.data.toList) := by
  obtain ⟨x⟩ := a
  obtain ⟨y⟩ := b
  show (x == y) = _
  rw [Bool.eq_iff_iff]
  simp only [beq_iff_eq]
  exact ⟨fun h => h ▸ rfl, fun h => Array.toList_inj.1 h⟩

theorem sound_same {σ : List (Nat × Nat)} {d : TypeDesc} {x y : AV} {v u : Value} {r : Bool} (h : aSame d x y = some r) (hx : Rep σ x v) (hy : Rep σ y u) : Instr.sameNow d v u = some r := by
  unfold aSame at h
  split at h
  · simp only [Rep] at hx hy; subst hx hy
    obtain ⟨h1, h2⟩ := need_some h
    have := eqKind_eq h1; subst this
    cases h2
    simp [Instr.sameNow]; rfl
  · simp only [Rep] at hx hy; obtain ⟨s, rfl, rfl⟩ := hx; obtain ⟨s', rfl, rfl⟩ := hy
    simp only [Option.some.injEq] at h
    rw [eqL_map] at h
    simp [Instr.sameNow, beq_bytes, h]
  · simp only [Rep] at hx hy; subst hx hy
    cases h
    simp [Instr.sameNow]
  · cases h

theorem same_eq {σ : List (Nat × Nat)} {d : TypeDesc} {x y : AV} {v u : Value} (h : aSame d x y = some true) (hx : Rep σ x v) (hy : Rep σ y u) : v = u := by
  have := sound_same h hx hy
  unfold Instr.sameNow at this
  split at this
  · split at this
    · rename_i hk; subst hk; simp only [Option.some.injEq, beq_iff_eq] at this; rw [this]
    · cases this
  · simp only [Option.some.injEq] at this; rw [(bytes_beq _ _).1 this]
  · simp only [Option.some.injEq, beq_iff_eq] at this; rw [this]
  · cases this

def aFind (d : TypeDesc) (k : AV) : List (AV × AV × Nat) → Nat → Option (Option (Nat × AV))
  | [], _ => some none
  | e :: es, i => (aSame d k e.1).bind fun r => cond r (some (some (i, e.2.1))) (aFind d k es (i + 1))

theorem sound_find {σ : List (Nat × Nat)} {d : TypeDesc} {x : AV} {v : Value} (hx : Rep σ x v) : ∀ (es : List (AV × AV × Nat)) (i : Nat) (l : List MapEntry) (r : Option (Nat × AV)), aFind d x es i = some r → RepE σ es l →
    (r = none ∧ Instr.findNow d v l i = some none) ∨ ∃ j y u, r = some (i + j, y) ∧ Instr.findNow d v l i = some (some (i + j, u)) ∧ Rep σ y u ∧ (l[j]?).map (·.key) = some v
  | [], i, l, r, h, hr => by
    simp only [aFind, Option.some.injEq] at h
    simp only [RepE] at hr
    subst h hr
    exact .inl ⟨rfl, rfl⟩
  | e :: es, i, l, r, h, hr => by
    obtain ⟨y, ys, rfl, h1, h2, h3, h4⟩ := hr
    simp only [aFind] at h
    obtain ⟨b, hb, h5⟩ := Option.bind_eq_some_iff.1 h
    have hs := sound_same hb hx h1
    cases b with
    | true =>
      simp only [cond_true, Option.some.injEq] at h5
      subst h5
      exact .inr ⟨0, _, _, rfl, by simp [Instr.findNow, hs], h2, by simp [same_eq hb hx h1]⟩
    | false =>
      simp only [cond_false] at h5
      rcases sound_find hx es (i + 1) ys r h5 h4 with ⟨g1, g2⟩ | ⟨j, z, u, g1, g2, g3, g4⟩
      · exact .inl ⟨g1, by simp [Instr.findNow, hs, g2]⟩
      · exact .inr ⟨j + 1, z, u, by rw [g1]; congr 2; omega, by simp only [Instr.findNow, hs, g2]; congr 3; omega, g3, by simpa using g4⟩

def aMap (h : Heap) (b : Nat) : Option (List (AV × AV × Nat) × Nat) :=
  (h.get b).bind fun
    | .map es clock => some (es, clock)
    | _ => none

theorem aMap_rep {σ : List (Nat × Nat)} {W0 w : World} {H : Heap} {b a n : Nat} {es : List (AV × AV × Nat)} {clock : Nat} (h : aMap H b = some (es, clock)) (hs : Sim σ H W0 w) (hσ : σ[b]? = some (a, n)) :
    H.get b = some (.map es clock) ∧ ∃ l : Array MapEntry, w.heap[a]? = some (.map l clock) ∧ RepE σ es l.toList := by
  unfold aMap at h
  obtain ⟨o, ho, h1⟩ := Option.bind_eq_some_iff.1 h
  split at h1
  · cases h1
    obtain ⟨a', m', ob, g1, g2, g3⟩ := hs.obj b _ ho
    rw [hσ] at g1; cases g1
    obtain ⟨l, rfl, g4⟩ := g3
    exact ⟨ho, l, g2, g4⟩
  · cases h1

def aLookup (P : Program) (t : TypeId) (x k : AV) (ok : Bool) (h : Heap) : Option AV :=
  (P.underlying t).bind fun
    | .map kt et => (P.underlying kt).bind fun d => need (isKeyA d k) ((P.info? et).bind fun ie => ie.zero.bind fun z =>
      (match x with
        | .nilmap => some none
        | .map b => (aMap h b).bind fun m => aFind d k m.1 0
        | _ => none).bind fun r =>
      match r with
      | some p => some (cond ok (.tuple [p.2, .bool true]) p.2)
      | none => some (cond ok (.tuple [ofValue z, .bool false]) (ofValue z)))
    | _ => none

theorem rep_pair {σ : List (Nat × Nat)} {y : AV} {u : Value} {b ok : Bool} (h : Rep σ y u) : Rep σ (cond ok (.tuple [y, .bool b]) y) (if ok = true then .tuple #[u, .bool b] else u) := by
  cases ok
  · simpa using h
  · simp only [cond_true, if_true, Rep, RepL]
    exact ⟨_, rfl, _, _, rfl, h, _, _, rfl, rfl, rfl⟩

theorem sound_lookup {P : Program} {σ : List (Nat × Nat)} {W0 w : World} {H : Heap} {t : TypeId} {x k y : AV} {ok : Bool} {v u : Value}
    (h : aLookup P t x k ok H = some y) (hs : Sim σ H W0 w) (hx : Rep σ x v) (hk : Rep σ k u) : ∃ r, (Instr.lookup t v u ok).run P w = .ok r w ∧ Rep σ y r := by
  unfold aLookup at h
  obtain ⟨d0, hd0, h1⟩ := Option.bind_eq_some_iff.1 h
  clear h
  split at h1
  · rename_i kt et
    obtain ⟨d, hd, h2⟩ := Option.bind_eq_some_iff.1 h1
    obtain ⟨hkey, h3⟩ := need_some h2
    obtain ⟨ie, hie, h4⟩ := Option.bind_eq_some_iff.1 h3
    obtain ⟨z, hz, h5⟩ := Option.bind_eq_some_iff.1 h4
    obtain ⟨r, hr, h6⟩ := Option.bind_eq_some_iff.1 h5
    clear h1 h2 h3 h4 h5
    have hK := isKeyA_rep hkey hk
    have hck := fun e => run_checkKey (P := P) (w := w) hd hK e 9999
    split at hr
    · cases hr
      simp only [Rep] at hx; subst hx
      simp only [Option.some.injEq] at h6
      subst h6
      refine ⟨if ok = true then .tuple #[z, .bool false] else z, ?_, rep_pair (ofValue_rep σ z)⟩
      have hf : (Instr.findKey kt u []).run P w = .ok none w := run_findKey hd rfl
      simp [Instr.lookup, run_underlying hd0, hck, hf, run_zero hie hz]
    · rename_i b
      simp only [Rep] at hx
      obtain ⟨a, n, hσ, rfl⟩ := hx
      obtain ⟨m, hm, h7⟩ := Option.bind_eq_some_iff.1 hr
      obtain ⟨g0, l, g1, g2⟩ := aMap_rep hm hs hσ
      rcases sound_find hk m.1 0 l.toList r h7 g2 with ⟨rfl, f2⟩ | ⟨j, q, uq, rfl, f2, f3, _⟩
      · simp only [Option.some.injEq] at h6
        subst h6
        refine ⟨if ok = true then .tuple #[z, .bool false] else z, ?_, rep_pair (ofValue_rep σ z)⟩
        simp [Instr.lookup, run_underlying hd0, Go.MapKept.run_getObj_map g1, hck, run_findKey hd f2, run_zero hie hz]
      · simp only [Option.some.injEq] at h6
        subst h6
        refine ⟨if ok = true then .tuple #[uq, .bool true] else uq, ?_, rep_pair f3⟩
        simp [Instr.lookup, run_underlying hd0, Go.MapKept.run_getObj_map g1, hck, run_findKey hd f2]
    · cases hr
  · cases h1

theorem RepE.length {σ : List (Nat × Nat)} : ∀ {xs : List (AV × AV × Nat)} {vs : List MapEntry}, RepE σ xs vs → xs.length = vs.length
  | [], _, h => by simp only [RepE] at h; subst h; rfl
  | _ :: _, _, h => by obtain ⟨y, ys, rfl, _, _, _, h3⟩ := h; simp [h3.length]

theorem RepE.append {σ : List (Nat × Nat)} : ∀ {xs ys : List (AV × AV × Nat)} {vs ws : List MapEntry}, RepE σ xs vs → RepE σ ys ws → RepE σ (xs ++ ys) (vs ++ ws)
  | [], _, _, _, h, h' => by simp only [RepE] at h; subst h; exact h'
  | x :: xs, _, _, _, h, h' => by obtain ⟨y, ys, rfl, h1, h2, h3, h4⟩ := h; exact ⟨y, _, rfl, h1, h2, h3, h4.append h'⟩

theorem RepE.eraseIdx {σ : List (Nat × Nat)} : ∀ {xs : List (AV × AV × Nat)} {vs : List MapEntry} (i : Nat), RepE σ xs vs → RepE σ (xs.eraseIdx i) (vs.eraseIdx i)
  | [], _, _, h => by simp only [RepE] at h; subst h; simp [RepE]
  | x :: xs, _, 0, h => by obtain ⟨y, ys, rfl, h1, h2, h3, h4⟩ := h; simpa using h4
  | x :: xs, _, i + 1, h => by obtain ⟨y, ys, rfl, h1, h2, h3, h4⟩ := h; exact ⟨y, _, rfl, h1, h2, h3, h4.eraseIdx i⟩

theorem RepE.filter {σ : List (Nat × Nat)} (p : Nat → Bool) : ∀ {xs : List (AV × AV × Nat)} {vs : List MapEntry}, RepE σ xs vs → RepE σ (xs.filter fun e => p e.2.2) (vs.filter fun e => p e.born)
  | [], _, h => by simp only [RepE] at h; subst h; simp [RepE]
  | x :: xs, _, h => by
    obtain ⟨y, ys, rfl, h1, h2, h3, h4⟩ := h
    simp only [List.filter_cons, h3]
    split
    · exact ⟨y, _, rfl, h1, h2, h3, h4.filter p⟩
    · exact h4.filter p

theorem RepE.all {σ : List (Nat × Nat)} (p : Nat → Bool) : ∀ {xs : List (AV × AV × Nat)} {vs : List MapEntry}, RepE σ xs vs → (vs.all fun e => p e.born) = xs.all fun e => p e.2.2
  | [], _, h => by simp only [RepE] at h; subst h; rfl
  | x :: xs, _, h => by
    obtain ⟨y, ys, rfl, h1, h2, h3, h4⟩ := h
    simp only [List.all_cons, h3, h4.all p]

theorem RepE.modify {σ : List (Nat × Nat)} {k x : AV} {u v : Value} (hk : Rep σ k u) (hx : Rep σ x v) : ∀ {xs : List (AV × AV × Nat)} {vs : List MapEntry} (i : Nat), RepE σ xs vs →
    RepE σ (xs.modify i fun e => (k, x, e.2.2)) (vs.modify i fun e => { e with key := u, val := v })
  | [], _, _, h => by simp only [RepE] at h; subst h; simp [RepE]
  | y :: xs, _, 0, h => by obtain ⟨z, ys, rfl, h1, h2, h3, h4⟩ := h; exact ⟨_, _, rfl, hk, hx, h3, h4⟩
  | y :: xs, _, i + 1, h => by obtain ⟨z, ys, rfl, h1, h2, h3, h4⟩ := h; exact ⟨z, _, rfl, h1, h2, h3, h4.modify hk hx i⟩

theorem RepE.find {σ : List (Nat × Nat)} (p : Nat → Bool) : ∀ {xs : List (AV × AV × Nat)} {vs : List MapEntry} (e : AV × AV × Nat), RepE σ xs vs → (xs.find? fun e => p e.2.2) = some e →
    ∃ y, (vs.find? fun e => p e.born) = some y ∧ Rep σ e.1 y.key ∧ Rep σ e.2.1 y.val
  | [], _, _, _, hf => by cases hf
  | x :: xs, _, e, h, hf => by
    obtain ⟨y, ys, rfl, h1, h2, h3, h4⟩ := h
    simp only [List.find?_cons, h3] at hf ⊢
    cases hp : p x.2.2 with
    | true => rw [hp] at hf; cases hf; exact ⟨y, rfl, h1, h2⟩
    | false => rw [hp] at hf; exact h4.find p e hf

def aUpdate (P : Program) (t : TypeId) (x k y : AV) (h : Heap) : Option Heap :=
  match x with
  | .map b => (P.underlying t).bind fun
    | .map kt _ => (P.underlying kt).bind fun d => need (isKeyA d k) ((aMap h b).bind fun m => (aFind d k m.1 0).bind fun r =>
      match r with
      | some p => some (h.put b (some (.map (m.1.modify p.1 fun e => (k, y, e.2.2)) m.2)))
      | none => some (h.put b (some (.map (m.1 ++ [(k, y, m.2)]) (m.2 + 1)))))
    | _ => none
  | _ => none

theorem sound_update {P : Program} {σ : List (Nat × Nat)} {W0 w : World} {H H' : Heap} {t : TypeId} {x k y : AV} {v u z : Value}
    (h : aUpdate P t x k y H = some H') (hs : Sim σ H W0 w) (hx : Rep σ x v) (hk : Rep σ k u) (hy : Rep σ y z) : ∃ w', (Instr.mapUpdate t v u z).run P w = .ok () w' ∧ Sim σ H' W0 w' := by
  unfold aUpdate at h
  split at h
  · rename_i b
    simp only [Rep] at hx
    obtain ⟨a, n, hσ, rfl⟩ := hx
    obtain ⟨d0, hd0, h1⟩ := Option.bind_eq_some_iff.1 h
    clear h
    split at h1
    · rename_i kt et
      obtain ⟨d, hd, h2⟩ := Option.bind_eq_some_iff.1 h1
      obtain ⟨hkey, h3⟩ := need_some h2
      obtain ⟨m, hm, h4⟩ := Option.bind_eq_some_iff.1 h3
      obtain ⟨r, hr, h5⟩ := Option.bind_eq_some_iff.1 h4
      clear h1 h2 h3 h4
      have hK := isKeyA_rep hkey hk
      have hck := fun e => run_checkKey (P := P) (w := w) hd hK e 9999
      obtain ⟨g0, l, g1, g2⟩ := aMap_rep hm hs hσ
      have hlt : a < w.heap.size := (Array.getElem?_eq_some_iff.1 g1).1
      rcases sound_find hk m.1 0 l.toList r hr g2 with ⟨rfl, f2⟩ | ⟨j, q, uq, rfl, f2, f3, f4⟩
      · cases h5
        refine ⟨_, by simp [Instr.mapUpdate, run_underlying hd0, Go.MapKept.run_getObj_map g1, hck, run_findKey hd f2, run_setObj_map _ g1]; rfl, ?_⟩
        refine hs.turn g0 hσ (by simp) (heap_set g1).1 (fun k hk => (heap_set g1).2 k hk) rfl rfl rfl ?_
        intro o ho; cases ho
        refine ⟨_, rfl, ?_⟩
        rw [Array.toList_push]
        exact g2.append ⟨_, _, rfl, hk, hy, rfl, rfl⟩
      · cases h5
        simp only [Nat.zero_add] at f2
        have hkeep : ((l[j]?).map (·.key)).getD u = u := by
          have : (l.toList[j]?).map (·.key) = some u := f4
          rw [Array.getElem?_toList] at this
          rw [this]; rfl
        have hst := run_keyThatStays (P := P) (w := w) hK
        refine ⟨_, by simp [Instr.mapUpdate, run_underlying hd0, Go.MapKept.run_getObj_map g1, hck, run_findKey hd f2, hkeep, hst, run_setObj_map _ g1]; rfl, ?_⟩
        refine hs.turn g0 hσ (by simp) (heap_set g1).1 (fun k hk => (heap_set g1).2 k hk) rfl rfl rfl ?_
        intro o ho; cases ho
        refine ⟨_, rfl, ?_⟩
        rw [Array.toList_modify, Nat.zero_add]
        exact g2.modify hk hy j
    · cases h1
  · cases h

def aDelete (P : Program) (t : TypeId) (x k : AV) (h : Heap) : Option (List (AV × Heap)) :=
  (P.underlying t).bind fun
    | .map kt _ => (P.underlying kt).bind fun d => need (isKeyA d k)
      (match x with
      | .nilmap => some [(.tuple [], h)]
      | .map b => (aMap h b).bind fun m => (aFind d k m.1 0).bind fun r =>
        match r with
        | some p => some [(.tuple [], h.put b (some (.map (m.1.eraseIdx p.1) m.2)))]
        | none => some [(.tuple [], h)]
      | _ => none)
    | _ => none

theorem eraseIdx_toList {α : Type} (l : Array α) (i : Nat) : (l.eraseIdxIfInBounds i).toList = l.toList.eraseIdx i := by
  unfold Array.eraseIdxIfInBounds
  split
  · simp
  · rename_i h; rw [List.eraseIdx_of_length_le (by simpa using h)]

theorem setObj_same {w : World} {a : Nat} {o : Obj} (h : w.heap[a]? = some o) : w.heap.setIfInBounds a o = w.heap := by
  apply Array.ext_getElem?
  intro k
  by_cases hk : a = k
  · subst hk; rw [Array.getElem?_setIfInBounds_self_of_lt (Array.getElem?_eq_some_iff.1 h).1, h]
  · rw [Array.getElem?_setIfInBounds_ne hk]

theorem sound_delete {P : Program} {σ : List (Nat × Nat)} {W0 w : World} {H : Heap} {t ty t2 : TypeId} {x k : AV} {v u : Value} {outs : List (AV × Heap)}
    (h : aDelete P t x k H = some outs) (hs : Sim σ H W0 w) (hx : Rep σ x v) (hk : Rep σ k u) : ValOK P σ W0 (Builtin.delete_ #[t, t2] ty #[v, u]) w outs := by
  unfold aDelete at h
  obtain ⟨d0, hd0, h1⟩ := Option.bind_eq_some_iff.1 h
  clear h
  split at h1
  · rename_i kt et
    obtain ⟨d, hd, h2⟩ := Option.bind_eq_some_iff.1 h1
    obtain ⟨hkey, h3⟩ := need_some h2
    clear h1 h2
    have hK := isKeyA_rep hkey hk
    have hck := fun e => run_checkKey (P := P) (w := w) hd hK e 9999
    split at h3
    · cases h3
      simp only [Rep] at hx; subst hx
      exact ValOK.one (v := .tuple #[]) (by simp [Builtin.delete_, run_underlying hd0, hck]) hs (by simp [Rep, RepL])
    · rename_i b
      simp only [Rep] at hx
      obtain ⟨a, n, hσ, rfl⟩ := hx
      obtain ⟨m, hm, h4⟩ := Option.bind_eq_some_iff.1 h3
      obtain ⟨r, hr, h5⟩ := Option.bind_eq_some_iff.1 h4
      clear h3 h4
      obtain ⟨g0, l, g1, g2⟩ := aMap_rep hm hs hσ
      rcases sound_find hk m.1 0 l.toList r hr g2 with ⟨rfl, f2⟩ | ⟨j, q, uq, rfl, f2, f3, f4⟩
      · cases h5
        refine ValOK.one (v := .tuple #[]) ?_ hs (by simp [Rep, RepL])
        simp [Builtin.delete_, run_underlying hd0, Go.MapKept.run_getObj_map g1, hck, run_findKey hd f2, run_setObj_map _ g1, setObj_same g1]
      · cases h5
        simp only [Nat.zero_add] at f2
        refine ⟨_, List.mem_singleton.2 rfl, σ, .tuple #[], { w with heap := w.heap.setIfInBounds a (.map (l.eraseIdxIfInBounds j) m.2) }, ?_, List.prefix_refl σ, ?_, by simp [Rep, RepL]⟩
        · simp [Builtin.delete_, run_underlying hd0, Go.MapKept.run_getObj_map g1, hck, run_findKey hd f2, run_setObj_map _ g1]
        · refine hs.turn g0 hσ (by simp) (heap_set g1).1 (fun k hk => (heap_set g1).2 k hk) rfl rfl rfl ?_
          intro o ho; cases ho
          refine ⟨_, rfl, ?_⟩
          rw [eraseIdx_toList, Nat.zero_add]
          exact g2.eraseIdx j
    · cases h3
  · cases h1

def aRange (P : Program) (t : TypeId) (x : AV) (h : Heap) : Option (List (AV × Heap)) :=
  (P.underlying t).bind fun
    | .map _ _ => match x with
      | .nilmap => aNew h (.iter none 0 [] 0) fun b => .ptr b 0
      | .map m => (aMap h m).bind fun q => aNew h (.iter (some m) q.2 [] q.2) fun b => .ptr b 0
      | _ => none
    | _ => none

theorem sound_range {P : Program} {σ : List (Nat × Nat)} {W0 w : World} {H : Heap} {t : TypeId} {x : AV} {v : Value} {outs : List (AV × Heap)}
    (h : aRange P t x H = some outs) (hs : Sim σ H W0 w) (hx : Rep σ x v) : ValOK P σ W0 (Instr.range t v) w outs := by
  unfold aRange at h
  obtain ⟨d0, hd0, h1⟩ := Option.bind_eq_some_iff.1 h
  clear h
  split at h1
  · split at h1
    · simp only [Rep] at hx; subst hx
      exact valOK_new (n := 0) (v := .pointer (some ⟨w.heap.size, 0, none⟩)) h1 hs (ob := .mapIter none 0 #[] 0) rfl (by simp [Instr.range, run_underlying hd0]) (fun σ' hσ => by simp only [Rep]; exact ⟨_, _, hσ, rfl⟩)
    · rename_i m
      simp only [Rep] at hx
      obtain ⟨a, n, hσ, rfl⟩ := hx
      obtain ⟨q, hq, h2⟩ := Option.bind_eq_some_iff.1 h1
      obtain ⟨g0, l, g1, g2⟩ := aMap_rep hq hs hσ
      exact valOK_new (n := 0) (v := .pointer (some ⟨w.heap.size, 0, none⟩)) h2 hs (ob := .mapIter (some a) q.2 #[] q.2) ⟨a, n, hσ, rfl⟩ (by simp [Instr.range, run_underlying hd0, Go.MapKept.run_getObj_map g1])
        (fun σ' hσ => by simp only [Rep]; exact ⟨_, _, hσ, rfl⟩)
    · cases h1
  · cases h1

def iterNext (h : Heap) (b m since : Nat) (seen : List Nat) (clock : Nat) (e : Option (AV × AV × Nat)) : AV × Heap :=
  match e with
  | none => (.tuple [.bool false], h)
  | some e => (.tuple [.bool true, e.1, e.2.1], h.put b (some (.iter (some m) since (seen ++ [e.2.2]) clock)))

def aNext (x : AV) (isString : Bool) (h : Heap) : Option (List (AV × Heap)) :=
  match x, isString with
  | .ptr b 0, false => (h.get b).bind fun
    | .iter none _ _ _ => some [(.tuple [.bool false], h)]
    | .iter (some m) since seen last => (aMap h m).bind fun q =>
      need (!(!seen.isEmpty && !q.1.isEmpty && q.1.all fun e => decide (last ≤ e.2.2)))
        (let left := q.1.filter fun e => !seen.contains e.2.2
         let old := left.filter fun e => decide (e.2.2 < since)
         let new := left.filter fun e => decide (since ≤ e.2.2)
         some (((cond old.isEmpty [none] []) ++ (old ++ new).map some).map (iterNext h b m since seen q.2)))
    | _ => none
  | _, _ => none

theorem RepE.get {σ : List (Nat × Nat)} : ∀ {xs : List (AV × AV × Nat)} {vs : List MapEntry} (i : Nat) (y : MapEntry), RepE σ xs vs → vs[i]? = some y → ∃ x, xs[i]? = some x ∧ Rep σ x.1 y.key ∧ Rep σ x.2.1 y.val ∧ y.born = x.2.2
  | [], _, _, _, h, hi => by simp only [RepE] at h; subst h; cases hi
  | x :: xs, _, 0, y, h, hi => by obtain ⟨z, ys, rfl, h1, h2, h3, h4⟩ := h; cases hi; exact ⟨x, rfl, h1, h2, h3⟩
  | x :: xs, _, i + 1, y, h, hi => by obtain ⟨z, ys, rfl, h1, h2, h3, h4⟩ := h; simpa using h4.get i y (by simpa using hi)

theorem RepE.isEmpty {σ : List (Nat × Nat)} {xs : List (AV × AV × Nat)} {vs : List MapEntry} (h : RepE σ xs vs) : vs.isEmpty = xs.isEmpty := by
  have := h.length
  cases xs <;> cases vs <;> simp_all

theorem contains_toArray (l : List Nat) (n : Nat) : l.toArray.contains n = l.contains n := by simp

theorem sound_next {P : Program} {σ : List (Nat × Nat)} {W0 w : World} {H : Heap} {x : AV} {isS : Bool} {ty : TypeId} {v : Value} {outs : List (AV × Heap)}
    (h : aNext x isS H = some outs) (hs : Sim σ H W0 w) (hx : Rep σ x v) : ValOK P σ W0 (Instr.next v isS ty) w outs := by
  unfold aNext at h
  split at h
  · rename_i b
    simp only [Rep] at hx
    obtain ⟨a, n, hσ, rfl⟩ := hx
    obtain ⟨o, ho, h1⟩ := Option.bind_eq_some_iff.1 h
    clear h
    obtain ⟨a', m', ob, g1, g2, g3⟩ := hs.obj b o ho
    rw [hσ] at g1; cases g1
    split at h1
    · cases h1
      cases g3
      exact ValOK.one (v := .tuple #[.bool false]) (by simp [Instr.next, getObj, Sem.run, g2]) hs (by simp only [Rep, RepL]; exact ⟨_, rfl, _, _, rfl, rfl, rfl⟩)
    · rename_i m since seen last
      obtain ⟨am, nm, hσm, rfl⟩ := g3
      obtain ⟨q, hq, h2⟩ := Option.bind_eq_some_iff.1 h1
      obtain ⟨hguard, h3⟩ := need_some h2
      clear h1 h2
      obtain ⟨f0, l, f1, f2⟩ := aMap_rep hq hs hσm
      simp only [Option.some.injEq] at h3
      subst h3
      let left := l.filter fun e => !seen.toArray.contains e.born
      let old := left.filter fun e => decide (e.born < since)
      let new := left.filter fun e => decide (e.born ≥ since)
      have eleft : RepE σ (q.1.filter fun e => !seen.contains e.2.2) left.toList := by
        have := f2.filter fun n => !seen.contains n
        simpa [left, Array.toList_filter] using this
      have eold : RepE σ ((q.1.filter fun e => !seen.contains e.2.2).filter fun e => decide (e.2.2 < since)) old.toList := by
        have := eleft.filter fun n => decide (n < since)
        simpa [old, Array.toList_filter] using this
      have enew : RepE σ ((q.1.filter fun e => !seen.contains e.2.2).filter fun e => decide (since ≤ e.2.2)) new.toList := by
        have := eleft.filter fun n => decide (since ≤ n)
        simpa [new, Array.toList_filter] using this
      have hg : ¬ ((!seen.toArray.isEmpty && !l.isEmpty && l.all fun e => decide (e.born ≥ last)) = true) := by
        have hall := f2.all fun n => decide (last ≤ n)
        have hemp := f2.isEmpty
        have e1 : (l.all fun e => decide (e.born ≥ last)) = q.1.all fun e => decide (last ≤ e.2.2) := by
          rw [← hall, ← Array.all_toList]
        have e2 : l.isEmpty = q.1.isEmpty := by rw [← hemp]; simp
        have e3 : seen.toArray.isEmpty = seen.isEmpty := by simp
        rw [e1, e2, e3]
        intro hh; rw [hh] at hguard; cases hguard
      let cands : Array (Option MapEntry) := (if old.isEmpty then #[none] else #[]) ++ (old ++ new).map some
      let acands : List (Option (AV × AV × Nat)) := (cond ((q.1.filter fun e => !seen.contains e.2.2).filter fun e => decide (e.2.2 < since)).isEmpty [none] []) ++ ((((q.1.filter fun e => !seen.contains e.2.2).filter fun e => decide (e.2.2 < since)) ++ ((q.1.filter fun e => !seen.contains e.2.2).filter fun e => decide (since ≤ e.2.2))).map some)
      have hoe : old.isEmpty = ((q.1.filter fun e => !seen.contains e.2.2).filter fun e => decide (e.2.2 < since)).isEmpty := by
        rw [← eold.isEmpty]; simp
      have hpos : 0 < cands.size := by
        simp only [cands, Array.size_append, Array.size_map]
        cases hh : old.isEmpty with
        | true => simp; omega
        | false =>
          have : ¬ old.size = 0 := by intro h0; rw [Array.isEmpty_iff_size_eq_zero.2 h0] at hh; cases hh
          simp; omega
      -- which one is drawn
      let i := if (Question.mapNext cands.size).forced then 0 else (Question.mapNext cands.size).cut (w.tape w.drawn (.mapNext cands.size))
      let w1 : World := if (Question.mapNext cands.size).forced then w else { w with drawn := w.drawn + 1 }
      have hi : i < cands.size := by
        simp only [i]
        split
        · exact hpos
        · exact Nat.mod_lt _ hpos
      have hchoose : (choose (.mapNext cands.size)).run P w = .ok i w1 := by
        rw [run_choose]
        simp only [i, w1]
        split <;> rfl
      have hs1 : Sim σ H W0 w1 := by
        simp only [w1]
        split
        · exact hs
        · exact hs.drew _
      have hh1 : w1.heap = w.heap := by simp only [w1]; split <;> rfl
      have hrun : ∀ c, cands[i]? = some c → (Instr.next (.pointer (some ⟨a, 0, none⟩)) false ty).run P w =
          (match c with
            | some e => (do setObj a (.mapIter (some am) since (seen.toArray.push e.born) q.2); pure (.tuple #[.bool true, e.key, e.val]) : Sem Value).run P w1
            | none => .ok (.tuple #[.bool false]) w1) := by
        intro c hc
        have hgo : (getObj a).run P w = .ok (.mapIter (some am) since seen.toArray last) w := by simp [getObj, Sem.run, g2]
        simp only [Instr.next, Sem.run_bind, hgo, Result.andThen_ok, Go.MapKept.run_getObj_map f1]
        rw [if_neg hg]
        simp only [Sem.run_bind, Sem.run_pure]
        show Result.andThen ((choose (.mapNext cands.size)).run P w) _ = _
        rw [hchoose]
        simp only [Result.andThen_ok]
        show Sem.run P (match cands[i]? with | some (some e) => _ | some none => _ | none => _) w1 = _
        rw [hc]
        cases c with
        | none => rfl
        | some e => simp only [Sem.run_bind, Sem.run_pure]
      obtain ⟨c, hc⟩ : ∃ c, cands[i]? = some c := ⟨cands[i], Array.getElem?_eq_getElem hi⟩
      have hrel : ∃ ac, ac ∈ acands ∧ (match c, ac with
          | none, none => True
          | some e, some ae => Rep σ ae.1 e.key ∧ Rep σ ae.2.1 e.val ∧ e.born = ae.2.2
          | _, _ => False) := by
        have hon := eold.append enew
        have hmem : c ∈ cands := Array.mem_of_getElem? hc
        simp only [cands, Array.mem_append, Array.mem_map] at hmem
        rcases hmem with hmem | ⟨e, he, rfl⟩
        · cases hh : old.isEmpty with
          | true =>
            rw [hh] at hmem
            simp only [if_true, List.mem_toArray, List.mem_singleton] at hmem
            subst hmem
            refine ⟨none, ?_, trivial⟩
            simp only [acands]
            rw [← hoe, hh]; simp
          | false => rw [hh] at hmem; simp at hmem
        · have he' : e ∈ old.toList ++ new.toList := by
            rcases he with h | h
            · exact List.mem_append_left _ (Array.mem_toList_iff.2 h)
            · exact List.mem_append_right _ (Array.mem_toList_iff.2 h)
          obtain ⟨k, hk⟩ := List.mem_iff_getElem?.1 he'
          obtain ⟨ae, q1, q2, q3, q4⟩ := hon.get k e hk
          refine ⟨some ae, ?_, q2, q3, q4⟩
          simp only [acands]
          exact List.mem_append_right _ (List.mem_map.2 ⟨ae, List.mem_of_getElem? q1, rfl⟩)
      obtain ⟨ac, hac, hr⟩ := hrel
      refine ⟨iterNext H b m since seen q.2 ac, List.mem_map.2 ⟨ac, hac, rfl⟩, σ, ?_⟩
      cases c with
      | none =>
        cases ac with
        | none => exact ⟨.tuple #[.bool false], w1, hrun none hc, List.prefix_refl _, hs1, by simp only [iterNext, Rep, RepL]; exact ⟨_, rfl, _, _, rfl, rfl, rfl⟩⟩
        | some _ => exact hr.elim
      | some e =>
        cases ac with
        | none => exact hr.elim
        | some ae =>
          obtain ⟨r1, r2, r3⟩ := hr
          have hit : w1.heap[a]? = some (.mapIter (some am) since seen.toArray last) := by rw [hh1]; exact g2
          refine ⟨.tuple #[.bool true, e.key, e.val], { w1 with heap := w1.heap.setIfInBounds a (.mapIter (some am) since (seen.toArray.push e.born) q.2) }, ?_, List.prefix_refl _, ?_, ?_⟩
          · rw [hrun _ hc]
            simp [setObj, Sem.run, hit]
          · refine hs1.turn ho hσ (by simp) (heap_set hit).1 (fun k hk => (heap_set hit).2 k hk) rfl rfl rfl ?_
            intro o' ho'; cases ho'
            exact ⟨am, nm, hσm, by rw [r3]; simp⟩
          · simp only [iterNext, Rep, RepL]
            exact ⟨_, rfl, _, _, rfl, rfl, _, _, rfl, r1, _, _, rfl, r2, rfl⟩
    · cases h1
  · cases h

def aEntry (x : AV) (h : Heap) : Option AV :=
  match x with
  | .ptr b 0 => (h.get b).bind fun
    | .iter (some m) _ seen stepped => seen.getLast?.bind fun stamp => (aMap h m).bind fun q => need (Nat.beq q.2 stepped) ((q.1.find? fun e => e.2.2 == stamp).bind fun e => some (.tuple [e.1, e.2.1]))
    | _ => none
  | _ => none

theorem sound_entry {P : Program} {σ : List (Nat × Nat)} {W0 w : World} {H : Heap} {x y : AV} {v : Value}
    (h : aEntry x H = some y) (hs : Sim σ H W0 w) (hx : Rep σ x v) : ∃ r, (Instr.entry v).run P w = .ok r w ∧ Rep σ y r := by
  unfold aEntry at h
  split at h
  · rename_i b
    simp only [Rep] at hx
    obtain ⟨a, n, hσ, rfl⟩ := hx
    obtain ⟨o, ho, h1⟩ := Option.bind_eq_some_iff.1 h
    clear h
    obtain ⟨a', m', ob, g1, g2, g3⟩ := hs.obj b o ho
    rw [hσ] at g1; cases g1
    split at h1
    · rename_i m since seen stepped
      obtain ⟨am, nm, hσm, rfl⟩ := g3
      obtain ⟨stamp, hst, h2⟩ := Option.bind_eq_some_iff.1 h1
      obtain ⟨q, hq, h3⟩ := Option.bind_eq_some_iff.1 h2
      obtain ⟨hb, h4⟩ := need_some h3
      obtain ⟨e, he, h5⟩ := Option.bind_eq_some_iff.1 h4
      clear h1 h2 h3 h4
      cases h5
      have hb' := Nat.eq_of_beq_eq_true hb
      obtain ⟨f0, l, f1, f2⟩ := aMap_rep hq hs hσm
      obtain ⟨y, e1, e2, e3⟩ := f2.find (fun n => n == stamp) e he
      have hgo : (getObj a).run P w = .ok (.mapIter (some am) since seen.toArray stepped) w := by simp [getObj, Sem.run, g2]
      have hback : seen.toArray.back? = some stamp := by simpa using hst
      have hfind : l.find? (fun e => e.born == stamp) = some y := by rw [← Array.find?_toList]; exact e1
      refine ⟨.tuple #[y.key, y.val], ?_, by simp only [Rep, RepL]; exact ⟨_, rfl, _, _, rfl, e2, _, _, rfl, e3, rfl⟩⟩
      simp [Instr.entry, hgo, hback, Go.MapKept.run_getObj_map f1, hb', hfind]
    · cases h1
  · cases h
end Go.Abs
