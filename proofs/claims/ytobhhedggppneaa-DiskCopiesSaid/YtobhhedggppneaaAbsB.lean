/- The operations of the small interpreter that touch cells: what each answers, and that it holds of the world. -/
import Derived.Test.YtobhhedggppneaaAbsA
import Derived.Laws.CopyRow
namespace Go.Abs
open Go.RowKit (Below)

/-- The world goes on to one that the outcome speaks of. -/
def ValOK (P : Program) (σ : List (Nat × Nat)) (W0 : World) (s : Sem Value) (w : World) (outs : List (AV × Heap)) : Prop :=
  ∃ out ∈ outs, ∃ σ' v w', s.run P w = .ok v w' ∧ σ <+: σ' ∧ Sim σ' out.2 W0 w' ∧ Rep σ' out.1 v

theorem ValOK.one {P : Program} {σ : List (Nat × Nat)} {W0 w : World} {s : Sem Value} {x : AV} {H : Heap} {v : Value}
    (hr : s.run P w = .ok v w) (hs : Sim σ H W0 w) (hx : Rep σ x v) : ValOK P σ W0 s w [(x, H)] :=
  ⟨_, List.mem_singleton.2 rfl, σ, v, w, hr, List.prefix_refl σ, hs, hx⟩

def ofCell : Value → AV
  | .bool b => .bool b
  | .int k n => .int k n
  | .string s => .str (s.data.toList.map (·.toNat))
  | .pointer none => .nilptr
  | .slice none 0 0 => .nilslice
  | .map none => .nilmap
  | .nilFunc => .nilfunc
  | .nilIface => .niliface
  | _ => .top
def ofValue : Value → AV
  | .agg cs => .agg (cs.toList.map ofCell)
  | v => ofCell v

theorem ofCell_rep (σ : List (Nat × Nat)) (v : Value) : Rep σ (ofCell v) v := by
  unfold ofCell
  split <;> simp [Rep]

theorem ofCells_rep (σ : List (Nat × Nat)) : ∀ vs : List Value, RepL σ (vs.map ofCell) vs
  | [] => by simp [RepL]
  | v :: vs => by simp only [List.map_cons, RepL]; exact ⟨v, vs, rfl, ofCell_rep σ v, ofCells_rep σ vs⟩

theorem ofValue_rep (σ : List (Nat × Nat)) (v : Value) : Rep σ (ofValue v) v := by
  unfold ofValue
  split
  · simp only [Rep]; exact ⟨_, rfl, ofCells_rep σ _⟩
  · exact ofCell_rep σ v

/-- The cells of a value. -/
def AV.cells : AV → Option (List AV)
  | .agg cs => some cs
  | .top | .tuple _ => none
  | v => some [v]

theorem AV.cells_rep {σ : List (Nat × Nat)} {x : AV} {v : Value} {cs : List AV} (h : x.cells = some cs) (hx : Rep σ x v) : RepL σ cs v.cells.toList := by
  cases x <;> simp only [AV.cells, Option.some.injEq, reduceCtorEq] at h <;> subst h
  case agg => simp only [Rep] at hx; obtain ⟨l, rfl, h⟩ := hx; exact h
  all_goals
    simp only [RepL]
    refine ⟨v, [], ?_, hx, rfl⟩
    simp only [Rep] at hx
    first
      | (subst hx; rfl)
      | (obtain ⟨_, rfl, _⟩ := hx; rfl)
      | (obtain ⟨_, rfl⟩ := hx; rfl)
      | (obtain ⟨_, _, _, rfl⟩ := hx; rfl)
      | (obtain ⟨_, _, _, _, rfl, _⟩ := hx; rfl)
      | (obtain ⟨_, _, rfl, _⟩ := hx; rfl)

def AV.cell : AV → Bool
  | .top | .agg _ | .tuple _ => false
  | _ => true

theorem AV.cell_rep {σ : List (Nat × Nat)} {x : AV} {v : Value} (h : x.cell = true) (hx : Rep σ x v) : v.oneCell' = true := by
  cases x <;> simp only [AV.cell, Bool.false_eq_true] at h
  all_goals
    simp only [Rep] at hx
    first
      | (subst hx; rfl)
      | (obtain ⟨_, rfl, _⟩ := hx; rfl)
      | (obtain ⟨_, rfl⟩ := hx; rfl)
      | (obtain ⟨_, _, _, rfl⟩ := hx; rfl)
      | (obtain ⟨_, _, _, _, rfl, _⟩ := hx; rfl)
      | (obtain ⟨_, _, rfl, _⟩ := hx; rfl)

theorem RepL.cells {σ : List (Nat × Nat)} : ∀ {xs : List AV} {vs : List Value}, xs.all AV.cell = true → RepL σ xs vs → ∀ v ∈ vs, v.oneCell' = true
  | [], _, _, h, v, hv => by simp only [RepL] at h; subst h; simp at hv
  | x :: xs, _, ha, h, v, hv => by
    simp only [RepL] at h
    obtain ⟨y, ys, rfl, h2, h3⟩ := h
    simp only [List.all_cons, Bool.and_eq_true] at ha
    rcases List.mem_cons.1 hv with rfl | hv
    · exact AV.cell_rep ha.1 h2
    · exact h3.cells ha.2 v hv

/-- A new block. -/
def aNew (h : Heap) (o : AO) (mk : Nat → AV) : Option (List (AV × Heap)) := (h.alloc o).bind fun h' => some [(mk h.next, h')]

theorem valOK_new {P : Program} {σ : List (Nat × Nat)} {W0 w : World} {s : Sem Value} {H : Heap} {o : AO} {mk : Nat → AV} {outs : List (AV × Heap)} {ob : Obj} {n : Nat} {v : Value}
    (h : aNew H o mk = some outs) (hs : Sim σ H W0 w) (ho : RepO σ n o ob) (hr : s.run P w = .ok v { w with heap := w.heap.push ob })
    (hv : ∀ σ' : List (Nat × Nat), σ'[H.next]? = some (w.heap.size, n) → Rep σ' (mk H.next) v) : ValOK P σ W0 s w outs := by
  unfold aNew at h
  obtain ⟨H', ha, h⟩ := Option.bind_eq_some_iff.1 h
  cases h
  obtain ⟨h1, h2⟩ := hs.alloc ha ho
  exact ⟨_, List.mem_singleton.2 rfl, _, v, _, hr, ⟨_, rfl⟩, h1, hv _ h2⟩

theorem repO_cells {σ : List (Nat × Nat)} {cs : List AV} {vs : Array Value} {e : TypeId} (h : RepL σ cs vs.toList) : RepO σ vs.size (.cells cs false e false) (.cells vs e) :=
  ⟨vs, rfl, rfl, fun i x hi => h.get i x hi, fun _ => by simpa using h.length⟩

def aBox (elem : TypeId) (x : AV) (h : Heap) : Option (List (AV × Heap)) :=
  x.cells.bind fun cs => aNew h (.cells cs false elem false) fun b => .ptr b 0

theorem sound_box {P : Program} {σ : List (Nat × Nat)} {W0 w : World} {H : Heap} {outs : List (AV × Heap)} {elem : TypeId} {x : AV} {v : Value}
    (h : aBox elem x H = some outs) (hs : Sim σ H W0 w) (hx : Rep σ x v) : ValOK P σ W0 (Instr.box elem v) w outs := by
  unfold aBox at h
  obtain ⟨cs, hc, h⟩ := Option.bind_eq_some_iff.1 h
  refine valOK_new (v := .pointer (some ⟨w.heap.size, 0, none⟩)) h hs (repO_cells (AV.cells_rep hc hx)) (by simp [Instr.box, newVar, newRow]) ?_
  intro σ' hσ
  simp only [Rep]
  exact ⟨_, _, hσ, rfl⟩

def aAlloc (P : Program) (elem : TypeId) (h : Heap) : Option (List (AV × Heap)) :=
  (P.info? elem).bind fun i => i.zero.bind fun z => aBox elem (ofValue z) h

theorem run_zero {P : Program} {w : World} {t : TypeId} {i : TypeInfo} {z : Value} (hi : P.info? t = some i) (hz : i.zero = some z) : (zeroValue t).run P w = .ok z w := by
  simp [zeroValue, typeInfo, hi, hz]

theorem run_size {P : Program} {w : World} {t : TypeId} {i : TypeInfo} (hi : P.info? t = some i) : (sizeOf t).run P w = .ok i.size w := by
  simp [sizeOf, typeInfo, hi]

theorem sound_alloc {P : Program} {σ : List (Nat × Nat)} {W0 w : World} {H : Heap} {outs : List (AV × Heap)} {elem : TypeId}
    (h : aAlloc P elem H = some outs) (hs : Sim σ H W0 w) : ValOK P σ W0 (Instr.alloc elem true (.tuple #[])) w outs := by
  unfold aAlloc at h
  obtain ⟨i, hi, h⟩ := Option.bind_eq_some_iff.1 h
  obtain ⟨z, hz, h⟩ := Option.bind_eq_some_iff.1 h
  obtain ⟨out, ho, σ', v, w', hr, rest⟩ := sound_box (P := P) h hs (ofValue_rep σ z)
  exact ⟨out, ho, σ', v, w', by simpa [Instr.alloc, Instr.box, run_zero hi hz] using hr, rest⟩

/-- The known cells of a block from 'off' on. -/
def aCells (h : Heap) (b off n : Nat) : Option (List AV) :=
  (h.get b).bind fun
    | .cells c _ _ _ => let r := (c.drop off).take n; cond (Nat.beq r.length n) (some r) none
    | _ => none

theorem aCells_rep {σ : List (Nat × Nat)} {W0 w : World} {H : Heap} {b off n : Nat} {r : List AV} {a m : Nat} (h : aCells H b off n = some r) (hs : Sim σ H W0 w) (hσ : σ[b]? = some (a, m)) :
    r.length = n ∧ ∃ l e fz, w.heap[a]? = some (.cells l e fz) ∧ l.size = m ∧ ∀ (j : Nat) (x : AV), r[j]? = some x → ∃ v, l[off + j]? = some v ∧ Rep σ x v := by
  unfold aCells at h
  obtain ⟨o, ho, h⟩ := Option.bind_eq_some_iff.1 h
  obtain ⟨a', m', ob, h1, h2, h3⟩ := hs.obj b o ho
  rw [hσ] at h1; cases h1
  cases o with
  | cells c opn e fz =>
    obtain ⟨l, rfl, h4, h5, h6⟩ := h3
    simp only at h
    cases hb : Nat.beq (List.take n (List.drop off c)).length n with
    | false => rw [hb] at h; cases h
    | true =>
      rw [hb] at h; simp only [cond_true, Option.some.injEq] at h; subst h
      refine ⟨Nat.eq_of_beq_eq_true hb, l, e, _, h2, h4, fun j x hj => ?_⟩
      have hj' : c[off + j]? = some x := by
        rw [List.getElem?_take] at hj
        split at hj
        · rwa [List.getElem?_drop] at hj
        · cases hj
      obtain ⟨v, g1, g2⟩ := h5 _ _ hj'
      exact ⟨v, by simpa using g1, g2⟩
  | map _ _ => cases h
  | iter _ _ _ _ => cases h

theorem cells_list {σ : List (Nat × Nat)} {w : World} {r : List AV} {a off : Nat} {l : Array Value} {e : TypeId} {fz : Nat × Nat} (hl : w.heap[a]? = some (.cells l e fz))
    (h : ∀ (j : Nat) (x : AV), r[j]? = some x → ∃ v, l[off + j]? = some v ∧ Rep σ x v) :
    ∃ vs : List Value, vs.length = r.length ∧ RepL σ r vs ∧ ∀ (j : Nat) (v : Value), vs[j]? = some v → w.cell? ((⟨a, off, none⟩ : Addr).add j) = some v := by
  have hsz : ∀ j, j < r.length → off + j < l.size := by
    intro j hj
    obtain ⟨v, h1, _⟩ := h j r[j] (List.getElem?_eq_getElem hj)
    rcases Nat.lt_or_ge (off + j) l.size with h2 | h2
    · exact h2
    · rw [Array.getElem?_eq_none h2] at h1; cases h1
  refine ⟨(l.toList.drop off).take r.length, ?_, ?_, ?_⟩
  · simp only [List.length_take, List.length_drop, Array.length_toList]
    rcases Nat.eq_zero_or_pos r.length with h0 | h0
    · omega
    · have := hsz (r.length - 1) (by omega); omega
  · refine RepL.of_get ?_ ?_
    · simp only [List.length_take, List.length_drop, Array.length_toList]
      rcases Nat.eq_zero_or_pos r.length with h0 | h0
      · omega
      · have := hsz (r.length - 1) (by omega); omega
    · intro j x hj
      have hj' : j < r.length := by
        rcases Nat.lt_or_ge j r.length with h2 | h2
        · exact h2
        · rw [List.getElem?_eq_none h2] at hj; cases hj
      obtain ⟨v, h1, h2⟩ := h j x hj
      refine ⟨v, ?_, h2⟩
      rw [List.getElem?_take, if_pos hj', List.getElem?_drop, Array.getElem?_toList]; exact h1
  · intro j v hj
    rw [List.getElem?_take] at hj
    split at hj
    · rw [List.getElem?_drop, Array.getElem?_toList] at hj
      rw [Addr.add_lit]
      simp [World.cell?, hl, hj]
    · cases hj

def isWide : TypeDesc → Bool
  | .struct _ | .array _ _ => true
  | _ => false

theorem run_isAgg {P : Program} {w : World} {t : TypeId} {d : TypeDesc} (hd : P.underlying t = some d) : (isAgg t).run P w = .ok (isWide d) w := by
  simp only [isAgg, Sem.run_bind, run_underlying hd, Result.andThen_ok]
  cases d <;> rfl

def aLoad (P : Program) (t : TypeId) (x : AV) (h : Heap) : Option AV :=
  match x with
  | .ptr b off => (P.underlying t).bind fun d => cond (isWide d)
      ((P.info? t).bind fun i => (aCells h b off i.size).bind fun cs => some (.agg cs))
      ((aCells h b off 1).bind fun cs => cs.head?)
  | _ => none

theorem sound_load {P : Program} {σ : List (Nat × Nat)} {W0 w : World} {H : Heap} {t : TypeId} {x y : AV} {v : Value}
    (h : aLoad P t x H = some y) (hs : Sim σ H W0 w) (hx : Rep σ x v) : ∃ u, (Instr.loadAt t v).run P w = .ok u w ∧ Rep σ y u := by
  cases x <;> simp only [aLoad, reduceCtorEq] at h
  rename_i b off
  simp only [Rep] at hx
  obtain ⟨a, n, hσ, rfl⟩ := hx
  obtain ⟨d, hd, h⟩ := Option.bind_eq_some_iff.1 h
  cases hw : isWide d with
  | true =>
    rw [hw, cond_true] at h
    obtain ⟨i, hi, h⟩ := Option.bind_eq_some_iff.1 h
    obtain ⟨cs, hc, h⟩ := Option.bind_eq_some_iff.1 h
    cases h
    obtain ⟨hl, l, e, fz, h1, h2, h3⟩ := aCells_rep hc hs hσ
    obtain ⟨vs, g1, g2, g3⟩ := cells_list h1 h3
    have := run_loadCells_list (P := P) w ⟨a, off, none⟩ vs g3
    refine ⟨.agg vs.toArray, ?_, ?_⟩
    · simp [Instr.loadAt, Instr.sureAddr, loadVar, run_isAgg hd, hw, run_size hi, ← hl, ← g1, this]
    · simp only [Rep]; exact ⟨_, rfl, g2⟩
  | false =>
    rw [hw, cond_false] at h
    obtain ⟨cs, hc, h⟩ := Option.bind_eq_some_iff.1 h
    obtain ⟨hl, l, e, fz, h1, h2, h3⟩ := aCells_rep hc hs hσ
    obtain ⟨u, g1, g2⟩ := h3 0 y (by rw [← List.head?_eq_getElem?]; exact h)
    refine ⟨u, ?_, g2⟩
    have : w.cell? ⟨a, off, none⟩ = some u := by simp only [World.cell?, h1]; simpa using g1
    simp [Instr.loadAt, Instr.sureAddr, loadVar, run_isAgg hd, hw, this]

/-- A run of cells in the place of another. -/
def splice {α : Type} (c : List α) (off : Nat) (vs : List α) : List α := c.take off ++ vs ++ c.drop (off + vs.length)

theorem splice_length {α : Type} {c : List α} {off : Nat} {vs : List α} (h : off + vs.length ≤ c.length) : (splice c off vs).length = c.length := by
  simp [splice]; omega

theorem getElem?_splice {α : Type} (c : List α) (off : Nat) (vs : List α) (hoff : off ≤ c.length) (j : Nat) :
    (splice c off vs)[j]? = if j < off then c[j]? else if j < off + vs.length then vs[j - off]? else c[j]? := by
  unfold splice
  have h1 : (c.take off).length = off := by simp; omega
  by_cases hj : j < off
  · rw [if_pos hj, List.append_assoc, List.getElem?_append_left (by omega), List.getElem?_take, if_pos hj]
  · rw [if_neg hj, List.append_assoc, List.getElem?_append_right (by omega), h1]
    by_cases hj2 : j < off + vs.length
    · rw [if_pos hj2, List.getElem?_append_left (by omega)]
    · rw [if_neg hj2, List.getElem?_append_right (by omega), List.getElem?_drop]
      congr 1; omega

theorem Pre.splice {σ : List (Nat × Nat)} {c : List AV} {l : List Value} {off : Nat} {vs : List AV} {us : List Value} (hp : Pre σ c l) (hv : RepL σ vs us) (hoff : off ≤ c.length) (hl : off + us.length ≤ l.length) :
    Pre σ (splice c off vs) (splice l off us) := by
  have hlen := hv.length
  intro j x hj
  rw [getElem?_splice c off vs hoff] at hj
  rw [getElem?_splice l off us (by omega)]
  by_cases h1 : j < off
  · rw [if_pos h1] at hj ⊢; exact hp j x hj
  · rw [if_neg h1] at hj ⊢
    rw [hlen] at hj
    by_cases h2 : j < off + us.length
    · rw [if_pos h2] at hj ⊢; exact hv.get _ _ hj
    · rw [if_neg h2] at hj ⊢; exact hp j x hj

/-- Cells are written into a block. 'room': so many cells are known to be there. -/
def aWrite (h : Heap) (b off : Nat) (vs : List AV) (roomy : Bool) : Option Heap :=
  (h.get b).bind fun
    | .cells c opn e false => cond (vs.all AV.cell && Nat.ble off c.length && (roomy || Nat.ble (off + vs.length) c.length)) (some (h.put b (some (.cells (splice c off vs) opn e false)))) none
    | _ => none

theorem sound_write {P : Program} {σ : List (Nat × Nat)} {W0 w : World} {H H' : Heap} {b off : Nat} {vs : List AV} {roomy : Bool} {us : List Value} {a n : Nat}
    (h : aWrite H b off vs roomy = some H') (hs : Sim σ H W0 w) (hσ : σ[b]? = some (a, n)) (hv : RepL σ vs us) (hroom : roomy = true → off + us.length ≤ n) :
    ∃ w', (storeCells ⟨a, off, none⟩ us).run P w = .ok () w' ∧ Sim σ H' W0 w' := by
  unfold aWrite at h
  obtain ⟨o, ho, h⟩ := Option.bind_eq_some_iff.1 h
  obtain ⟨a', m', ob, h1, h2, h3⟩ := hs.obj b o ho
  rw [hσ] at h1; cases h1
  split at h
  · rename_i c opn e
    obtain ⟨l, rfl, h4, h5, h6⟩ := h3
    have hlen := hv.length
    cases hc : (vs.all AV.cell && Nat.ble off c.length && (roomy || Nat.ble (off + vs.length) c.length)) with
    | false => rw [hc] at h; cases h
    | true =>
      rw [hc, cond_true, Option.some.injEq] at h
      subst h
      simp only [Bool.and_eq_true, Bool.or_eq_true, Nat.ble_eq] at hc
      obtain ⟨⟨hc1, hc2⟩, hc3⟩ := hc
      have hcl : c.length ≤ l.size := by
        rcases Nat.eq_zero_or_pos c.length with h0 | h0
        · omega
        · obtain ⟨v, g1, _⟩ := h5 (c.length - 1) c[c.length - 1] (List.getElem?_eq_getElem (by omega))
          rcases Nat.lt_or_ge (c.length - 1) l.toList.length with g2 | g2
          · simp at g2; omega
          · rw [List.getElem?_eq_none g2] at g1; cases g1
      have hfit : off + us.length ≤ l.size := by
        rcases hc3 with h7 | h7
        · have := hroom h7; omega
        · omega
      have hrun := run_storeCells_at P a off e us 0 l w h2 (by simpa using hfit) (hv.cells hc1)
      simp only [Nat.add_zero] at hrun
      refine ⟨_, hrun, hs.turn ho hσ (by simp) (setRow_heap w a l _ e (0, 0) h2) (fun k hk => setRow_other w a k _ hk) rfl rfl rfl ?_⟩
      intro x hx; cases hx
      refine ⟨_, rfl, ?_, ?_, ?_⟩
      · simp; omega
      · have := h5.splice hv hc2 (by simpa using hfit)
        simpa [Abs.splice] using this
      · intro hopn
        have := h6 hopn
        rw [splice_length (by omega)]; exact this
  · cases h

def aStore (P : Program) (t : TypeId) (x y : AV) (h : Heap) : Option Heap :=
  match x with
  | .ptr b off => (P.info? t).bind fun i => y.cells.bind fun cs => cond (Nat.beq cs.length i.size) (aWrite h b off cs false) none
  | _ => none

theorem sound_store {P : Program} {σ : List (Nat × Nat)} {W0 w : World} {H H' : Heap} {t : TypeId} {x y : AV} {v u : Value}
    (h : aStore P t x y H = some H') (hs : Sim σ H W0 w) (hx : Rep σ x v) (hy : Rep σ y u) : ∃ w', (Instr.storeAt t v u).run P w = .ok () w' ∧ Sim σ H' W0 w' := by
  cases x <;> simp only [aStore, reduceCtorEq] at h
  rename_i b off
  simp only [Rep] at hx
  obtain ⟨a, n, hσ, rfl⟩ := hx
  obtain ⟨i, hi, h⟩ := Option.bind_eq_some_iff.1 h
  obtain ⟨cs, hc, h⟩ := Option.bind_eq_some_iff.1 h
  have hcs := AV.cells_rep hc hy
  have hlen := hcs.length
  cases hb : Nat.beq cs.length i.size with
  | false => rw [hb] at h; cases h
  | true =>
    rw [hb, cond_true] at h
    have hb' := Nat.eq_of_beq_eq_true hb
    obtain ⟨w', h1, h2⟩ := sound_write (P := P) h hs hσ hcs (by simp)
    have hz : u.cells.size = i.size := by rw [← hb', hlen]; simp
    exact ⟨w', by simp [Instr.storeAt, Instr.sureAddr, storeVar, run_size hi, hz, h1], h2⟩
end Go.Abs
