/- More operations of the small interpreter: composite literals, made slices, slices of slices; what each answers, and that it holds of the world. -/
import Derived.Test.YtobhhedggppneaaAbsD
namespace Go.Abs
open Go.RowKit (Below)

theorem RepL.splice {σ : List (Nat × Nat)} {c : List AV} {l : List Value} {off : Nat} {vs : List AV} {us : List Value} (hc : RepL σ c l) (hv : RepL σ vs us) : RepL σ (splice c off vs) (splice l off us) := by
  unfold Abs.splice
  rw [hv.length]
  exact ((hc.take off).append hv).append (hc.drop _)

theorem foldl_splice (off : Nat) : ∀ (l : List Value) (k : Nat) (cells : Array Value), off + k + l.length ≤ cells.size →
    ((l.zipIdx k).foldl (fun (cs : Array Value) p => cs.setIfInBounds (off + p.2) p.1) cells).toList = splice cells.toList (off + k) l
  | [], k, cells, _ => by simp [splice]
  | v :: l, k, cells, h => by
    simp only [List.length_cons] at h
    simp only [List.zipIdx_cons, List.foldl_cons]
    rw [foldl_splice off l (k + 1) _ (by simp; omega)]
    apply List.ext_getElem?
    intro j
    rw [getElem?_splice _ _ _ (by simp; omega), getElem?_splice _ _ _ (by simp; omega)]
    simp only [Array.toList_setIfInBounds, List.length_cons]
    by_cases h1 : j < off + k
    · rw [if_pos h1, if_pos (by omega), List.getElem?_set_ne (by omega)]
    · rw [if_neg h1]
      by_cases h2 : j = off + k
      · subst h2
        rw [if_pos (by omega), if_pos (by omega), List.getElem?_set_self (by simp; omega)]
        simp
      · rw [if_neg (by omega)]
        by_cases h3 : j < off + k + (l.length + 1)
        · rw [if_pos (by omega), if_pos h3]
          obtain ⟨m, hm⟩ : ∃ m, j - (off + k) = m + 1 := ⟨j - (off + k) - 1, by omega⟩
          rw [hm, List.getElem?_cons_succ]
          congr 1; omega
        · rw [if_neg (by omega), if_neg h3, List.getElem?_set_ne (by omega)]

def aFill (place : Nat → Option (Nat × Nat)) : List AV → List (Nat × AV) → Option (List AV)
  | cells, [] => some cells
  | cells, (i, x) :: rest => (place i).bind fun p => x.cells.bind fun vc => need (Nat.beq vc.length p.2 && Nat.ble (p.1 + vc.length) cells.length) (aFill place (splice cells p.1 vc) rest)

theorem sound_fill {σ : List (Nat × Nat)} {place : Nat → Option (Nat × Nat)} {e : Operand → AV} {ρ : Operand → Value} (he : ∀ x, Rep σ (e x) (ρ x)) :
    ∀ (l : List (Nat × Operand)) (cs r : List AV) (cells : Array Value), aFill place cs (l.map fun p => (p.1, e p.2)) = some r → RepL σ cs cells.toList →
      ∃ cells', Instr.fill place cells (l.map fun p => (p.1, ρ p.2)) = some cells' ∧ RepL σ r cells'.toList
  | [], cs, r, cells, h, hc => by simp only [List.map_nil, aFill, Option.some.injEq] at h; subst h; exact ⟨cells, rfl, hc⟩
  | (i, x) :: l, cs, r, cells, h, hc => by
    simp only [List.map_cons, aFill] at h
    obtain ⟨p, hp, h1⟩ := Option.bind_eq_some_iff.1 h
    obtain ⟨vc, hvc, h2⟩ := Option.bind_eq_some_iff.1 h1
    obtain ⟨hb, h3⟩ := need_some h2
    simp only [Bool.and_eq_true, Nat.ble_eq] at hb
    have hb1 := Nat.eq_of_beq_eq_true hb.1
    have hrep := AV.cells_rep hvc (he x)
    have hlen := hrep.length
    have hclen := hc.length
    simp only [Array.length_toList] at hlen hclen
    obtain ⟨cells', g1, g2⟩ := sound_fill he l _ r ((ρ x).cells.zipIdx.foldl (fun cs p' => cs.setIfInBounds (p.1 + p'.2) p'.1) cells) h3 (by
      rw [← Array.foldl_toList, Array.toList_zipIdx]
      have := foldl_splice p.1 (ρ x).cells.toList 0 cells (by simp; omega)
      rw [this]
      exact hc.splice hrep)
    refine ⟨cells', ?_, g2⟩
    simp only [List.map_cons, Instr.fill, hp]
    rw [if_neg (by simp; omega)]
    exact g1

theorem run_places {P : Program} {w : World} : ∀ (l : List Field), (l.all fun f => (P.info? f.type).isSome) = true →
    (l.mapM fun f => do pure (f.offset, ← sizeOf f.type) : Sem (List (Nat × Nat))).run P w = .ok (l.map fun f => (f.offset, P.cellsOf f.type)) w
  | [], _ => by simp
  | f :: l, h => by
    simp only [List.all_cons, Bool.and_eq_true] at h
    obtain ⟨i, hi⟩ := Option.isSome_iff_exists.1 h.1
    have ih := run_places (w := w) l h.2
    simp only [List.mapM_cons, Sem.run_bind, run_size hi, Result.andThen_ok, ih, Sem.run_pure, List.map_cons, Program.cellsOf, hi, Option.map_some, Option.getD_some]

def aBuild (P : Program) (t : TypeId) (parts : List (Nat × AV)) : Option AV :=
  (P.info? t).bind fun i => i.zero.bind fun z => (ofValue z).cells.bind fun zc => (P.underlying t).bind fun
    | .struct fs => need (fs.toList.all fun f => (P.info? f.type).isSome) ((aFill (fun (i : Nat) => (fs.toList.map fun f => (f.offset, P.cellsOf f.type))[i]?) zc parts).bind fun cs => some (.agg cs))
    | .array _ e => (P.info? e).bind fun ie => (aFill (fun i => some (i * ie.size, ie.size)) zc parts).bind fun cs => some (.agg cs)
    | _ => none

theorem sound_build {P : Program} {σ : List (Nat × Nat)} {w : World} {e : Operand → AV} {ρ : Operand → Value} {t : TypeId} {parts : Array (Nat × Operand)} {y : AV}
    (h : aBuild P t (parts.toList.map fun p => (p.1, e p.2)) = some y) (he : ∀ x, Rep σ (e x) (ρ x)) :
    ∃ r, (Instr.build t (parts.map fun (i, x) => (i, ρ x))).run P w = .ok r w ∧ Rep σ y r := by
  unfold aBuild at h
  obtain ⟨i, hi, h1⟩ := Option.bind_eq_some_iff.1 h
  obtain ⟨z, hz, h2⟩ := Option.bind_eq_some_iff.1 h1
  obtain ⟨zc, hzc, h3⟩ := Option.bind_eq_some_iff.1 h2
  obtain ⟨d, hd, h4⟩ := Option.bind_eq_some_iff.1 h3
  clear h h1 h2 h3
  have hzr := AV.cells_rep hzc (ofValue_rep σ z)
  split at h4
  · rename_i fs
    obtain ⟨hall, h5⟩ := need_some h4
    obtain ⟨cs, hcs, h6⟩ := Option.bind_eq_some_iff.1 h5
    cases h6
    obtain ⟨cells', g1, g2⟩ := sound_fill he parts.toList zc cs z.cells hcs hzr
    refine ⟨.agg cells', ?_, by simp only [Rep]; exact ⟨_, rfl, g2⟩⟩
    have hm : (fs.mapM fun f => do pure (f.offset, ← sizeOf f.type) : Sem (Array (Nat × Nat))).run P w = .ok (fs.toList.map fun f => (f.offset, P.cellsOf f.type)).toArray w := by
      rw [Array.mapM_eq_mapM_toList]
      simp only [Sem.run_map, run_places fs.toList hall, Result.andThen_ok]
    simp only [Instr.build, Sem.run_bind, run_zero hi hz, run_underlying hd, Result.andThen_ok, hm]
    have hf : Instr.fill (fun (i : Nat) => (fs.toList.map fun f => (f.offset, P.cellsOf f.type)).toArray[i]?) z.cells (parts.map fun (i, x) => (i, ρ x)).toList = some cells' := by
      rw [Array.toList_map]
      have e1 : (fun (i : Nat) => (fs.toList.map fun f => (f.offset, P.cellsOf f.type)).toArray[i]?) = (fun (i : Nat) => (fs.toList.map fun f => (f.offset, P.cellsOf f.type))[i]?) := by
        funext i; simp
      rw [e1]
      exact g1
    rw [hf]
    rfl
  · rename_i n el
    obtain ⟨ie, hie, h5⟩ := Option.bind_eq_some_iff.1 h4
    obtain ⟨cs, hcs, h6⟩ := Option.bind_eq_some_iff.1 h5
    cases h6
    obtain ⟨cells', g1, g2⟩ := sound_fill he parts.toList zc cs z.cells hcs hzr
    refine ⟨.agg cells', ?_, by simp only [Rep]; exact ⟨_, rfl, g2⟩⟩
    simp only [Instr.build, Sem.run_bind, run_zero hi hz, run_underlying hd, Result.andThen_ok, run_size hie]
    have hf : Instr.fill (fun i => some (i * ie.size, ie.size)) z.cells (parts.map fun (i, x) => (i, ρ x)).toList = some cells' := by
      rw [Array.toList_map]
      exact g1
    rw [hf]
    rfl
  · cases h4

/-- So many cells of the zero value. -/
def zeros (zc : List AV) (n : Nat) : List AV :=
  match zc with
  | [z] => List.replicate n z
  | _ => (List.range n).map fun i => (zc[i % zc.length]?).getD .top

theorem zeros_rep {σ : List (Nat × Nat)} {zc : List AV} {z : Array Value} (h : RepL σ zc z.toList) (n : Nat) : RepL σ (zeros zc n) ((Array.range n).map (z[· % z.size]!)).toList := by
  have hlen := h.length
  refine RepL.of_get ?_ ?_
  · unfold zeros; split <;> simp
  · intro i x hi
    have key : ∀ (j : Nat), Rep σ ((zc[j % zc.length]?).getD .top) (z[j % z.size]!) := by
      intro j
      simp only [Array.length_toList] at hlen
      rw [← hlen]
      cases hg : zc[j % zc.length]? with
      | none => simp [Rep]
      | some a =>
        obtain ⟨v, h1, h2⟩ := h.get _ _ hg
        have h1' : z[j % zc.length]? = some v := by simpa using h1
        rw [getElem!_def, h1']
        exact h2
    unfold zeros at hi
    split at hi
    · rename_i a
      rw [List.getElem?_replicate] at hi
      split at hi
      · rename_i hlt
        cases hi
        refine ⟨z[i % z.size]!, by simp [hlt], ?_⟩
        have := key i
        simpa [Nat.mod_one] using this
      · cases hi
    · simp only [List.getElem?_map, Option.map_eq_some_iff] at hi
      obtain ⟨j, hj, rfl⟩ := hi
      rcases Nat.lt_or_ge i n with hlt | hge
      · rw [List.getElem?_range hlt] at hj
        cases hj
        exact ⟨z[i % z.size]!, by simp [hlt], key i⟩
      · rw [List.getElem?_eq_none (by simpa using hge)] at hj
        cases hj

def aBuildSlice (P : Program) (t : TypeId) (len : Nat) (parts : List (Nat × AV)) (h : Heap) : Option (List (AV × Heap)) :=
  (P.underlying t).bind fun
    | .slice e => (P.info? e).bind fun ie => ie.zero.bind fun z => (ofValue z).cells.bind fun zc => need (Nat.ble (len * ie.size) 1000000)
        ((aFill (fun i => some (i * ie.size, ie.size)) (zeros zc (len * ie.size)) parts).bind fun cs => aNew h (.cells cs false e false) fun b => .slice b 0 len (some len) ie.size)
    | _ => none

theorem sound_buildSlice {P : Program} {σ : List (Nat × Nat)} {W0 w : World} {H : Heap} {e : Operand → AV} {ρ : Operand → Value} {t : TypeId} {len : Nat} {parts : Array (Nat × Operand)} {outs : List (AV × Heap)}
    (h : aBuildSlice P t len (parts.toList.map fun p => (p.1, e p.2)) H = some outs) (hs : Sim σ H W0 w) (he : ∀ x, Rep σ (e x) (ρ x)) :
    ValOK P σ W0 (Instr.buildSlice t len (parts.map fun (i, x) => (i, ρ x))) w outs := by
  unfold aBuildSlice at h
  obtain ⟨d, hd, h4⟩ := Option.bind_eq_some_iff.1 h
  clear h
  split at h4
  · rename_i el
    obtain ⟨ie, hie, h1⟩ := Option.bind_eq_some_iff.1 h4
    obtain ⟨z, hz, h2⟩ := Option.bind_eq_some_iff.1 h1
    obtain ⟨zc, hzc, h3⟩ := Option.bind_eq_some_iff.1 h2
    obtain ⟨hb, h5⟩ := need_some h3
    obtain ⟨cs, hcs, h6⟩ := Option.bind_eq_some_iff.1 h5
    clear h1 h2 h3 h4 h5
    rw [Nat.ble_eq] at hb
    have hzr := AV.cells_rep hzc (ofValue_rep σ z)
    let Z : Array Value := if len * ie.size = 0 then #[] else z.cells
    have hZ : RepL σ (zeros zc (len * ie.size)) ((Array.range (len * ie.size)).map (Z[· % Z.size]!)).toList := by
      by_cases h0 : len * ie.size = 0
      · have e1 : zeros zc (len * ie.size) = [] := List.length_eq_zero_iff.1 (by rw [h0]; unfold zeros; split <;> simp)
        rw [e1, h0]; simp [RepL]
      · simp only [Z, if_neg h0]; exact zeros_rep hzr _
    obtain ⟨cells', g1, g2⟩ := sound_fill he parts.toList _ cs ((Array.range (len * ie.size)).map (Z[· % Z.size]!)) hcs hZ
    have hle : ¬ len * ie.size > 2 ^ 24 := by omega
    refine valOK_new (v := .slice (some ⟨w.heap.size, 0, none⟩) len len) h6 hs (repO_cells g2) ?_ ?_
    · have hf : Instr.fill (fun i => some (i * ie.size, ie.size)) ((Array.range (len * ie.size)).map (Z[· % Z.size]!)) (parts.map fun (i, x) => (i, ρ x)).toList = some cells' := by
        rw [Array.toList_map]
        exact g1
      simp only [Instr.buildSlice, Sem.run_bind, run_underlying hd, Result.andThen_ok, run_size hie, if_neg hle]
      by_cases h0 : len * ie.size = 0
      · have hZ0 : Z = #[] := by simp only [Z, if_pos h0]
        rw [hZ0] at hf
        rw [if_pos h0]
        simp only [Sem.run_bind, Sem.run_pure, Result.andThen_ok]
        rw [hf]
        simp [newRow]
      · have hZ1 : Z = z.cells := by simp only [Z, if_neg h0]
        rw [hZ1] at hf
        rw [if_neg h0]
        simp only [Sem.run_bind, run_zero hie hz, Sem.run_pure, Result.andThen_ok]
        rw [hf]
        simp [newRow]
    · intro σ' hσ
      simp only [Rep]
      exact ⟨_, _, _, hσ, rfl, rfl⟩
  · cases h4

def aMakeMap (P : Program) (t : TypeId) (r : Option AV) (h : Heap) : Option (List (AV × Heap)) :=
  match r with
  | none => aNew h (.map [] 0) .map
  | some (.int _ _) => (P.underlying t).bind fun
    | .map _ _ => aNew h (.map [] 0) .map
    | _ => none
  | _ => none

theorem sound_makeMap {P : Program} {σ : List (Nat × Nat)} {W0 w : World} {H : Heap} {e : Operand → AV} {ρ : Operand → Value} {t : TypeId} {r : Option Operand} {outs : List (AV × Heap)}
    (h : aMakeMap P t (r.map e) H = some outs) (hs : Sim σ H W0 w) (he : ∀ x, Rep σ (e x) (ρ x)) : ValOK P σ W0 (Instr.makeMap t (r.map ρ)) w outs := by
  cases r with
  | none => exact valOK_new (n := 0) (v := .map (some w.heap.size)) h hs ⟨#[], rfl, by simp [RepE]⟩ rfl (fun σ' hσ => by simp only [Rep]; exact ⟨_, _, hσ, rfl⟩)
  | some x =>
    simp only [Option.map_some, aMakeMap] at h
    have hx := he x
    split at h
    · rename_i heq; cases heq
    · rename_i heq
      simp only [Option.some.injEq] at heq
      rw [heq] at hx
      simp only [Rep] at hx
      obtain ⟨d, hd, h4⟩ := Option.bind_eq_some_iff.1 h
      split at h4
      · exact valOK_new (n := 0) (v := .map (some w.heap.size)) h4 hs ⟨#[], rfl, by simp [RepE]⟩ (by simp [Instr.makeMap, hx, run_underlying hd, asInt, asIntOf]) (fun σ' hσ => by simp only [Rep]; exact ⟨_, _, hσ, rfl⟩)
      · cases h4
    · cases h

def aMakeSlice (P : Program) (t : TypeId) (l c : AV) (h : Heap) : Option (List (AV × Heap)) :=
  match l, c with
  | .int _ (.ofNat l), .int _ (.ofNat c) => (P.underlying t).bind fun
    | .slice e => (P.info? e).bind fun ie => ie.zero.bind fun z => (ofValue z).cells.bind fun zc => need (Nat.ble l c && Nat.ble c 1000000 && Nat.ble ie.bytes 1000000)
        (aNew h (.cells (zeros zc (c * ie.size)) false e false) fun b => .slice b 0 l (some c) ie.size)
    | _ => none
  | _, _ => none

theorem wrap_small {n : Nat} (h : n ≤ 1000000) : IntKind.i64.wrap (n : Int) = n := by
  have e : ((n : Int) % 2 ^ 64) = n := Int.emod_eq_of_lt (by omega) (by omega)
  simp only [IntKind.wrap, IntKind.bits, e]
  rw [if_neg (by simp; omega)]

theorem zeros_length (zc : List AV) (n : Nat) : (zeros zc n).length = n := by unfold zeros; split <;> simp

theorem sound_makeSlice {P : Program} {σ : List (Nat × Nat)} {W0 w : World} {H : Heap} {t : TypeId} {l c : AV} {v u : Value} {outs : List (AV × Heap)}
    (h : aMakeSlice P t l c H = some outs) (hs : Sim σ H W0 w) (hl : Rep σ l v) (hc : Rep σ c u) : ValOK P σ W0 (Instr.makeSlice t v u) w outs := by
  unfold aMakeSlice at h
  split at h
  · rename_i k l k' c
    simp only [Rep] at hl hc
    subst hl hc
    obtain ⟨d, hd, h0⟩ := Option.bind_eq_some_iff.1 h
    clear h
    split at h0
    · rename_i e
      obtain ⟨ie, hie, h1⟩ := Option.bind_eq_some_iff.1 h0
      obtain ⟨z, hz, h2⟩ := Option.bind_eq_some_iff.1 h1
      obtain ⟨zc, hzc, h3⟩ := Option.bind_eq_some_iff.1 h2
      obtain ⟨hb, h5⟩ := need_some h3
      simp only [Bool.and_eq_true, Nat.ble_eq] at hb
      obtain ⟨⟨hb1, hb2⟩, hb3⟩ := hb
      have hzr := AV.cells_rep hzc (ofValue_rep σ z)
      have hlw := wrap_small (show l ≤ 1000000 by omega)
      have hcw := wrap_small hb2
      have hbig : ¬ ((ie.bytes : Int) * (c : Int) > 2 ^ 48) := by
        have h9 : ie.bytes * c ≤ 1000000 * 1000000 := Nat.mul_le_mul hb3 hb2
        have h10 : (ie.bytes : Int) * (c : Int) = ((ie.bytes * c : Nat) : Int) := by simp
        rw [h10]; omega
      let cells : Array Value := if c * ie.size = 0 then (Array.range (c * ie.size)).map ((#[] : Array Value)[· % (#[] : Array Value).size]!) else (Array.range (c * ie.size)).map (z.cells[· % z.cells.size]!)
      have hcells : RepL σ (zeros zc (c * ie.size)) cells.toList := by
        simp only [cells]
        split
        · rename_i h0; rw [h0]; have : zeros zc 0 = [] := List.length_eq_zero_iff.1 (zeros_length zc 0)
          rw [this]; simp [RepL]
        · exact zeros_rep hzr _
      refine valOK_new (v := .slice (some ⟨w.heap.size, 0, none⟩) l c) h5 hs (repO_cells hcells) ?_ ?_
      · simp only [Instr.makeSlice, Sem.run_bind, run_underlying hd, Result.andThen_ok, asInt, asIntOf, Sem.run_pure, typeInfo, run_program, hie, Int.ofNat_eq_natCast, hlw, hcw]
        have ht : (decide ((c : Int) < 0) || decide ((ie.bytes : Int) * (c : Int) > 2 ^ 48) || decide ((l : Int) < 0) || decide ((l : Int) > (c : Int))) = false := by
          simp only [Bool.or_eq_false_iff, decide_eq_false_iff_not]
          refine ⟨⟨⟨by omega, hbig⟩, by omega⟩, by omega⟩
        rw [if_neg (by rw [ht]; simp)]
        simp only [Sem.run_bind, run_askRoom, Result.andThen_ok, Int.toNat_natCast, sizeOf, typeInfo, run_program, hie, Sem.run_pure, Sem.run_ite, zeroValue, hz]
        by_cases h0 : c * ie.size = 0
        · simp [h0, newRow, cells]
        · simp [h0, newRow, cells]
      · intro σ' hσ
        simp only [Rep]
        exact ⟨_, _, _, hσ, rfl, rfl⟩
    · cases h0
  · cases h

/-- The bounds of a slice expression. -/
def aBound (x : Option AV) (d up : Nat) : Option Nat :=
  match x with
  | none => some d
  | some (.int _ (.ofNat i)) => need (Nat.ble i up) (some i)
  | _ => none

theorem sound_bound {P : Program} {σ : List (Nat × Nat)} {w : World} {e : Operand → AV} {ρ : Operand → Value} {x : Operand} {d up cap h : Nat}
    (hh : aBound (some (e x)) d up = some h) (he : ∀ x, Rep σ (e x) (ρ x)) (hup : up ≤ cap) : (∀ code, (Instr.sliceBound (ρ x) cap code).run P w = .ok h w) ∧ h ≤ up := by
  have hx := he x
  unfold aBound at hh
  split at hh
  · rename_i heq; cases heq
  · rename_i k i heq
    simp only [Option.some.injEq] at heq
    rw [heq] at hx; simp only [Rep] at hx
    obtain ⟨g1, g2⟩ := need_some hh
    cases g2
    rw [Nat.ble_eq] at g1
    exact ⟨fun code => by simp [hx, Instr.sliceBound, asIntOf, show h ≤ cap by omega], g1⟩
  · cases hh

theorem sound_bounds {P : Program} {σ : List (Nat × Nat)} {w : World} {e : Operand → AV} {ρ : Operand → Value} {lo hi : Option Operand} {len up cap l h : Nat} {isS : Bool}
    (hh : aBound (hi.map e) len up = some h) (hl : aBound (lo.map e) 0 h = some l) (he : ∀ x, Rep σ (e x) (ρ x)) (hup : up ≤ cap) :
    (Instr.sliceBounds isS len cap (lo.map ρ) (hi.map ρ) none).run P w = .ok (l, h, cap) w ∧ l ≤ h := by
  cases hi with
  | none =>
    simp only [Option.map_none, aBound, Option.some.injEq] at hh
    subst hh
    cases lo with
    | none =>
      simp only [Option.map_none, aBound, Option.some.injEq] at hl
      subst hl
      exact ⟨rfl, by omega⟩
    | some y =>
      obtain ⟨g1, g2⟩ := sound_bound (P := P) (w := w) (d := 0) hl he (Nat.le_refl _)
      exact ⟨by simp [Instr.sliceBounds, g1], g2⟩
  | some x =>
    obtain ⟨f1, f2⟩ := sound_bound (P := P) (w := w) (d := len) hh he hup
    cases lo with
    | none =>
      simp only [Option.map_none, aBound, Option.some.injEq] at hl
      subst hl
      exact ⟨by simp [Instr.sliceBounds, f1], by omega⟩
    | some y =>
      obtain ⟨g1, g2⟩ := sound_bound (P := P) (w := w) (d := 0) hl he (Nat.le_refl _)
      exact ⟨by simp [Instr.sliceBounds, f1, g1], g2⟩

def aSlice (P : Program) (t : TypeId) (x : AV) (lo hi mx : Option AV) : Option AV :=
  match mx with
  | some _ => none
  | none => (P.underlying t).bind fun d =>
    match d, x with
    | .string, .str s => (aBound hi s.length s.length).bind fun h => (aBound lo 0 h).bind fun l => some (.str ((s.drop l).take (h - l)))
    | .slice e, .nilslice => (P.info? e).bind fun _ => (aBound hi 0 0).bind fun h => (aBound lo 0 h).bind fun _ => some .nilslice
    | .slice e, .slice b off len (some c) esz => (P.info? e).bind fun ie => (aBound hi len c).bind fun h => (aBound lo 0 h).bind fun l =>
        some (.slice b (cond (Nat.beq c l) off (off + l * ie.size)) (h - l) (some (c - l)) esz)
    | .slice e, .slice b off len none esz => (P.info? e).bind fun ie => (aBound hi len len).bind fun h => (aBound lo 0 h).bind fun l =>
        need (Nat.beq ie.size esz && (Nat.beq l 0 || Nat.ble (l + 1) len)) (some (.slice b (off + l * ie.size) (h - l) none esz))
    | .array n e, .ptr b off => (P.info? e).bind fun ie => (aBound hi n n).bind fun h => (aBound lo 0 h).bind fun l =>
        some (.slice b (cond (Nat.beq n l) off (off + l * ie.size)) (h - l) (some (n - l)) ie.size)
    | _, _ => none

theorem extract_bytes (s : ByteArray) (l h : Nat) : ((s.extract l h).data.toList.map (·.toNat)) = ((s.data.toList.map (·.toNat)).drop l).take (h - l) := by
  have : (s.extract l h).data = s.data.extract l h := by simp
  rw [this, Array.toList_extract, List.extract_eq_take_drop, List.map_take, List.map_drop]

theorem sound_slice {P : Program} {σ : List (Nat × Nat)} {w : World} {e : Operand → AV} {ρ : Operand → Value} {t : TypeId} {x y : AV} {v : Value} {lo hi mx : Option Operand}
    (h : aSlice P t x (lo.map e) (hi.map e) (mx.map e) = some y) (hx : Rep σ x v) (he : ∀ x, Rep σ (e x) (ρ x)) :
    ∃ r, (Instr.sliceAt t v (lo.map ρ) (hi.map ρ) (mx.map ρ)).run P w = .ok r w ∧ Rep σ y r := by
  cases mx with
  | some _ => simp only [Option.map_some, aSlice, reduceCtorEq] at h
  | none =>
    simp only [Option.map_none, aSlice] at h
    obtain ⟨d, hd, h0⟩ := Option.bind_eq_some_iff.1 h
    clear h
    simp only [Option.map_none]
    split at h0
    · obtain ⟨hh, h1, h2⟩ := Option.bind_eq_some_iff.1 h0
      obtain ⟨l, h3, h4⟩ := Option.bind_eq_some_iff.1 h2
      cases h4
      simp only [Rep] at hx
      obtain ⟨s, rfl, rfl⟩ := hx
      have hsz : (s.data.toList.map (·.toNat)).length = s.size := by simp
      rw [hsz] at h1
      obtain ⟨g1, g2⟩ := sound_bounds (P := P) (w := w) (isS := false) h1 h3 he (Nat.le_refl s.size)
      exact ⟨.string (s.extract l hh), by simp [Instr.sliceAt, Instr.slice, run_underlying hd, g1], by simp only [Rep]; exact ⟨_, rfl, extract_bytes s l hh⟩⟩
    · obtain ⟨ie, hie, h00⟩ := Option.bind_eq_some_iff.1 h0
      obtain ⟨hh, h1, h2⟩ := Option.bind_eq_some_iff.1 h00
      obtain ⟨l, h3, h4⟩ := Option.bind_eq_some_iff.1 h2
      cases h4
      simp only [Rep] at hx
      subst hx
      obtain ⟨g1, g2⟩ := sound_bounds (P := P) (w := w) (isS := true) h1 h3 he (Nat.le_refl 0)
      have hh0 : hh = 0 := by
        unfold aBound at h1
        split at h1
        · cases h1; rfl
        · obtain ⟨q1, q2⟩ := need_some h1; cases q2; rw [Nat.ble_eq] at q1; omega
        · cases h1
      subst hh0
      have hl0 : l = 0 := by omega
      subst hl0
      exact ⟨.slice none 0 0, by simp [Instr.sliceAt, Instr.slice, run_underlying hd, g1, run_size hie], by simp [Rep]⟩
    · rename_i el b off len c esz
      obtain ⟨ie, hie, h00⟩ := Option.bind_eq_some_iff.1 h0
      obtain ⟨hh, h1, h2⟩ := Option.bind_eq_some_iff.1 h00
      obtain ⟨l, h3, h4⟩ := Option.bind_eq_some_iff.1 h2
      cases h4
      simp only [Rep] at hx
      obtain ⟨a, n, c', hσ, rfl, hcap⟩ := hx
      subst hcap
      obtain ⟨g1, g2⟩ := sound_bounds (P := P) (w := w) (isS := true) h1 h3 he (Nat.le_refl c')
      refine ⟨.slice (some ⟨a, cond (Nat.beq c' l) off (off + l * ie.size), none⟩) (hh - l) (c' - l), ?_, by simp only [Rep]; exact ⟨_, _, _, hσ, rfl, rfl⟩⟩
      simp only [Instr.sliceAt, Instr.slice, Sem.run_bind, run_underlying hd, Result.andThen_ok, g1, run_size hie, Sem.run_pure]
      cases hb : Nat.beq c' l with
      | true => have := Nat.eq_of_beq_eq_true hb; simp [this]
      | false => have := Nat.ne_of_beq_eq_false hb; simp [this, Addr.add_lit]
    · rename_i el b off len esz
      obtain ⟨ie, hie, h00⟩ := Option.bind_eq_some_iff.1 h0
      obtain ⟨hh, h1, h2⟩ := Option.bind_eq_some_iff.1 h00
      obtain ⟨l, h3, h4⟩ := Option.bind_eq_some_iff.1 h2
      obtain ⟨hb, h5⟩ := need_some h4
      cases h5
      simp only [Rep] at hx
      obtain ⟨a, n, c', hσ, rfl, hcap⟩ := hx
      simp only [Bool.and_eq_true, Bool.or_eq_true, Nat.ble_eq] at hb
      have hes := Nat.eq_of_beq_eq_true hb.1
      obtain ⟨g1, g2⟩ := sound_bounds (P := P) (w := w) (isS := true) h1 h3 he hcap.2
      have hhl : hh ≤ len := by
        unfold aBound at h1
        split at h1
        · cases h1; omega
        · obtain ⟨q1, q2⟩ := need_some h1; cases q2; rw [Nat.ble_eq] at q1; exact q1
        · cases h1
      refine ⟨.slice (some ⟨a, off + l * ie.size, none⟩) (hh - l) (c' - l), ?_, ?_⟩
      · simp only [Instr.sliceAt, Instr.slice, Sem.run_bind, run_underlying hd, Result.andThen_ok, g1, run_size hie, Sem.run_pure]
        by_cases hcl : c' = l
        · have hl0 : l = 0 := by
            rcases hb.2 with q | q
            · exact Nat.eq_of_beq_eq_true q
            · omega
          subst hl0
          simp [hcl]
        · simp [hcl, Addr.add_lit]
      · simp only [Rep]
        refine ⟨_, _, _, hσ, rfl, ?_, by omega⟩
        rw [hes, Nat.sub_mul]
        have : l * esz ≤ c' * esz := Nat.mul_le_mul_right _ (by omega)
        omega
    · rename_i n el b off
      obtain ⟨ie, hie, h00⟩ := Option.bind_eq_some_iff.1 h0
      obtain ⟨hh, h1, h2⟩ := Option.bind_eq_some_iff.1 h00
      obtain ⟨l, h3, h4⟩ := Option.bind_eq_some_iff.1 h2
      cases h4
      simp only [Rep] at hx
      obtain ⟨a, m, hσ, rfl⟩ := hx
      obtain ⟨g1, g2⟩ := sound_bounds (P := P) (w := w) (isS := false) h1 h3 he (Nat.le_refl n)
      refine ⟨.slice (some ⟨a, cond (Nat.beq n l) off (off + l * ie.size), none⟩) (hh - l) (n - l), ?_, by simp only [Rep]; exact ⟨_, _, _, hσ, rfl, rfl⟩⟩
      simp only [Instr.sliceAt, Instr.sureAddr, Sem.run_bind, run_underlying hd, Result.andThen_ok, g1, run_size hie, Sem.run_pure]
      cases hb : Nat.beq n l with
      | true => have := Nat.eq_of_beq_eq_true hb; simp [this]
      | false => have := Nat.ne_of_beq_eq_false hb; simp [this, Addr.add_lit]
    · cases h0
end Go.Abs
