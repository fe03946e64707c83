/- The built-in functions of the small interpreter: what each answers, and that it holds of the world. -/
import Derived.Test.YtobhhedggppneaaAbsF
import Derived.Laws.AppendOwn
namespace Go.Abs
open Go.RowKit (Below)

/-- A second number for a block of which nothing is said any more. -/
theorem Sim.alias {σ : List (Nat × Nat)} {H H' : Heap} {W0 w : World} (h : Sim σ H W0 w) {o : AO} {ob : Obj} {a n : Nat} (ha : H.alloc o = some H') (ho : RepO σ n o ob)
    (hw : w.heap[a]? = some ob) (hge : W0.heap.size ≤ a) (hfree : ∀ (c : Nat) (x : AO) (m : Nat), H.get c = some x → σ[c]? ≠ some (a, m)) :
    Sim (σ ++ [(a, n)]) H' W0 w ∧ (σ ++ [(a, n)])[H.next]? = some (a, n) := by
  have hg := fun c => Heap.get_alloc (c := c) ha
  have hlast : (σ ++ [(a, n)])[H.next]? = some (a, n) := by rw [← h.len]; simp
  have hpre : σ <+: σ ++ [(a, n)] := ⟨_, rfl⟩
  have hlt : a < w.heap.size := (Array.getElem?_eq_some_iff.1 hw).1
  have hold : ∀ (b a' n' : Nat), (σ ++ [(a, n)])[b]? = some (a', n') → (σ[b]? = some (a', n') ∧ b < H.next) ∨ (b = H.next ∧ a' = a ∧ n' = n) := by
    intro b a' n' hb
    rcases Nat.lt_trichotomy b σ.length with h1 | h1 | h1
    · rw [List.getElem?_append_left h1] at hb; exact .inl ⟨hb, h.len ▸ h1⟩
    · subst h1; simp at hb; exact .inr ⟨h.len, hb.1.symm, hb.2.symm⟩
    · rw [List.getElem?_append_right (by omega)] at hb
      obtain ⟨k, hk⟩ : ∃ k, b - σ.length = k + 1 := ⟨b - σ.length - 1, by omega⟩
      rw [hk] at hb; simp at hb
  refine ⟨⟨h.below, ?_, ?_, ?_, ?_⟩, hlast⟩
  · simp [h.len, (hg 0).1]
  · intro b a' n' hb
    rcases hold b a' n' hb with ⟨h1, _⟩ | ⟨_, h1, _⟩
    · exact h.here b a' n' h1
    · subst h1; exact ⟨hge, hlt⟩
  · intro b b' a' n1 n2 o1 o2 h1 h2 h3 h4
    rw [(hg b).2] at h1; rw [(hg b').2] at h2
    rcases hold b a' n1 h3 with ⟨h5, h6⟩ | ⟨h5, h6, _⟩ <;> rcases hold b' a' n2 h4 with ⟨h7, h8⟩ | ⟨h7, h8, _⟩
    · rw [if_neg (by omega)] at h1 h2
      exact h.inj b b' a' n1 n2 o1 o2 h1 h2 h5 h7
    · rw [if_neg (by omega)] at h1; subst h8; exact absurd h5 (hfree b o1 n1 h1)
    · rw [if_neg (by omega)] at h2; subst h6; exact absurd h7 (hfree b' o2 n2 h2)
    · omega
  · intro b o1 h1
    rw [(hg b).2] at h1
    by_cases hb : H.next = b
    · rw [if_pos hb] at h1; cases h1; subst hb
      exact ⟨a, n, ob, hlast, hw, ho.mono hpre⟩
    · rw [if_neg hb] at h1
      obtain ⟨a', n', ob', h2, h3, h4⟩ := h.obj b o1 h1
      exact ⟨a', n', ob', getElem?_prefix hpre h2, h3, h4.mono hpre⟩

def lenA : AV → Option Nat
  | .slice _ _ len _ _ => some len
  | .nilslice => some 0
  | .str s => some s.length
  | _ => none

def firstA (h : Heap) (size n : Nat) : AV → Option (List AV)
  | .slice b off _ _ _ => aCells h b off (n * size)
  | .nilslice => some []
  | .str s => some ((s.take n).map fun (b : Nat) => AV.int .u8 (b : Int))
  | _ => none

theorem sound_len1 {P : Program} {σ : List (Nat × Nat)} {w : World} {x : AV} {v : Value} {n : Nat} (h : lenA x = some n) (hx : Rep σ x v) : (Builtin.lenOf v).run P w = .ok n w := by
  cases x <;> simp only [lenA, Option.some.injEq, reduceCtorEq] at h <;> subst h <;> simp only [Rep] at hx
  · obtain ⟨s, rfl, rfl⟩ := hx; simp [Builtin.lenOf]
  · subst hx; rfl
  · obtain ⟨a, n, c, _, rfl, _⟩ := hx; rfl

theorem repL_bytes {σ : List (Nat × Nat)} : ∀ l : List UInt8, RepL σ ((l.map (·.toNat)).map fun (b : Nat) => AV.int .u8 (b : Int)) (l.map fun b => Value.int .u8 b.toNat)
  | [] => by simp [RepL]
  | b :: l => by simp only [List.map_cons, RepL]; exact ⟨_, _, rfl, by simp [Rep], repL_bytes l⟩

theorem sound_first {P : Program} {σ : List (Nat × Nat)} {W0 w : World} {H : Heap} {size n : Nat} {x : AV} {v : Value} {r : List AV} (h : firstA H size n x = some r) (hs : Sim σ H W0 w) (hx : Rep σ x v) :
    ∃ vs : List Value, RepL σ r vs ∧ ∀ w' : World, w'.heap = w.heap → (Builtin.firstCells size n v).run P w' = .ok vs.toArray w' := by
  cases x <;> simp only [firstA, Option.some.injEq, reduceCtorEq] at h <;> simp only [Rep] at hx
  · obtain ⟨s, rfl, rfl⟩ := hx
    subst h
    refine ⟨(s.data.toList.take n).map fun b => Value.int .u8 b.toNat, ?_, ?_⟩
    · have := repL_bytes (σ := σ) (s.data.toList.take n)
      rw [List.map_take] at this
      exact this
    · intro w' _
      simp only [Builtin.firstCells, Sem.run_pure]
      congr 1
      apply Array.ext'
      have e : (s.extract 0 n).data = s.data.extract 0 n := by simp
      rw [Array.toList_map, e, Array.toList_extract, List.extract_eq_take_drop]
      simp
  · subst hx; subst h
    exact ⟨[], by simp [RepL], fun _ _ => rfl⟩
  · obtain ⟨a, m, c, hσ, rfl, _⟩ := hx
    obtain ⟨hl, l, e, fz, h1, h2, h3⟩ := aCells_rep h hs hσ
    obtain ⟨vs, g1, g2, g3⟩ := cells_list h1 h3
    refine ⟨vs, g2, ?_⟩
    intro w' hw'
    refine run_firstCells_some w' size n _ _ _ vs (by omega) ?_
    intro j v hj
    have := g3 j v hj
    simpa [World.cell?, hw'] using this

def isRow : TypeDesc → Bool
  | .slice _ | .string => true
  | _ => false

/-- What an append appends: how many, and their cells. (An integer: so many zero values.) -/
def srcA (dX : TypeDesc) (ie : TypeInfo) (zc : List AV) (x : AV) (h : Heap) : Option (Nat × List AV) :=
  match dX with
  | .int _ => match x with
    | .int _ (.ofNat n) => need (Nat.ble n 1000000 && Nat.ble ie.bytes 1000000 && Nat.beq zc.length ie.size) (some (n, zeros zc (n * ie.size)))
    | _ => none
  | _ => need (isRow dX) ((lenA x).bind fun n => (firstA h ie.size n x).bind fun new => some (n, new))

/-- An append that makes a new row. -/
def aGrow (elem : TypeId) (ie : TypeInfo) (zc old new : List AV) (need' : Nat) (h : Heap) : Option (List (AV × Heap)) :=
  need (Nat.ble need' 1000000 && Nat.ble ie.bytes 1000000 && Nat.beq zc.length ie.size && Nat.beq (old ++ new).length (need' * ie.size))
    (aNew h (.cells (old ++ new) true elem false) fun b => .slice b 0 need' none ie.size)

def aAppend (P : Program) (ts : List TypeId) (s x : AV) (h : Heap) : Option (List (AV × Heap)) :=
  match ts with
  | [tS, tX] => (P.underlying tS).bind fun
    | .slice e => (P.underlying tX).bind fun dX => (P.info? e).bind fun ie => ie.zero.bind fun z => (ofValue z).cells.bind fun zc => (srcA dX ie zc x h).bind fun q =>
      let n := q.1
      let new := q.2
      need (Nat.beq new.length (n * ie.size) && new.all AV.cell)
        (match s with
        | .nilslice => cond (Nat.beq n 0) (some [(.nilslice, h)]) (aGrow e ie zc [] new n h)
        | .slice b off len (some c) esz => cond (Nat.ble (len + n) c) ((aWrite h b (off + len * ie.size) new false).bind fun h' => some [(.slice b off (len + n) (some c) esz, h')])
            ((aCells h b off (len * ie.size)).bind fun old => aGrow e ie zc old new (len + n) h)
        | .slice b off len none esz => cond (Nat.beq n 0) (some [(s, h)]) ((h.get b).bind fun
          | .cells c _ el false => need (Nat.beq el e && Nat.beq off 0 && Nat.beq esz ie.size && Nat.beq (c.take (len * ie.size)).length (len * ie.size))
              (aGrow e ie zc (c.take (len * ie.size)) new (len + n) (h.put b none))
          | _ => none)
        | _ => none)
    | _ => none
  | _ => none

theorem run_append_in {P : Program} {w w' : World} {tS tX ty e : TypeId} {ie : TypeInfo} {dX : TypeDesc} (hS : P.underlying tS = some (.slice e)) (hX : P.underlying tX = some dX)
    (hd : isRow dX = true) (hi : P.info? e = some ie) {a : Addr} {sLen sCap n : Nat} {v : Value} {news : List Value}
    (hlen : (Builtin.lenOf v).run P w = .ok n w) (hf : (Builtin.firstCells ie.size n v).run P w = .ok news.toArray w) (hroom : sLen + n ≤ sCap)
    (hst : (storeCells (a.add (sLen * ie.size)) news).run P w = .ok () w') :
    (Builtin.append_ #[tS, tX] ty #[.slice (some a) sLen sCap, v]).run P w = .ok (.slice (some a) (sLen + n) sCap) w' := by
  cases dX <;> first | (cases hd; done) | simp [Builtin.append_, run_underlying hS, run_underlying hX, sizeOf, typeInfo, hi, hlen, hf, hroom, hst]

theorem run_append_none {P : Program} {w : World} {tS tX ty e : TypeId} {ie : TypeInfo} {dX : TypeDesc} (hS : P.underlying tS = some (.slice e)) (hX : P.underlying tX = some dX)
    (hd : isRow dX = true) (hi : P.info? e = some ie) {v : Value} {news : List Value}
    (hlen : (Builtin.lenOf v).run P w = .ok 0 w) (hf : (Builtin.firstCells ie.size 0 v).run P w = .ok news.toArray w) :
    (Builtin.append_ #[tS, tX] ty #[.slice none 0 0, v]).run P w = .ok (.slice none 0 0) w := by
  cases dX <;> first | (cases hd; done) | simp [Builtin.append_, run_underlying hS, run_underlying hX, sizeOf, typeInfo, hi, hlen, hf]

theorem run_append_new {P : Program} {w : World} {tS tX ty e : TypeId} {ie : TypeInfo} {dX : TypeDesc} {z : Value} (hS : P.underlying tS = some (.slice e)) (hX : P.underlying tX = some dX)
    (hd : isRow dX = true) (hi : P.info? e = some ie) (hz : ie.zero = some z) {base : Option Addr} {sLen sCap n : Nat} {v : Value} {olds news : List Value}
    (hlen : (Builtin.lenOf v).run P w = .ok n w) (hf : (Builtin.firstCells ie.size n v).run P w.drew = .ok news.toArray w.drew)
    (hfo : (Builtin.firstCells ie.size sLen (.slice base sLen sCap)).run P w.drew = .ok olds.toArray w.drew)
    (hroom : ¬ sLen + n ≤ sCap) (h1 : sLen + n ≤ 1000000) (h2 : ie.bytes ≤ 1000000) :
    (Builtin.append_ #[tS, tX] ty #[.slice base sLen sCap, v]).run P w =
      .ok (.slice (some ⟨w.heap.size, 0, none⟩) (sLen + n) (grownCap w (sLen + n) sCap e))
        (w.drew.alloc (.cells (olds ++ news ++ (Builtin.zeroCells z.cells (grownCap w (sLen + n) sCap e - (sLen + n))).toList).toArray e)) := by
  have h63 : ¬ (9223372036854775807 < ((sLen : Int) + (n : Int))) := by omega
  have hfit : Builtin.nextslicecap (sLen + n) sCap * ie.bytes ≤ 281474976710656 := growslice_fits (by omega) (by
    have : (sLen + n) * ie.bytes ≤ 1000000 * 1000000 := Nat.mul_le_mul h1 h2
    omega)
  have h48 : ¬ (281474976710656 < Builtin.nextslicecap (sLen + n) sCap * ie.bytes) := by omega
  cases dX <;> first
    | (cases hd; done)
    | (simp [Builtin.append_, run_underlying hS, run_underlying hX, sizeOf, typeInfo, zeroValue, hi, hz, hlen, hroom, h63, h48, Question.forced, hf, hfo, newRow, grownCap]
       congr 2
       apply Array.ext'
       simp)

/-- What an append does with what it appends, in the three ways that it may go. -/
structure AppendSrc (P : Program) (w : World) (tS tX ty e : TypeId) (ie : TypeInfo) (z : Value) (v : Value) (n : Nat) (news : List Value) : Prop where
  inn : ∀ (a : Addr) (sLen sCap : Nat) (w' : World), sLen + n ≤ sCap → (storeCells (a.add (sLen * ie.size)) news).run P w = .ok () w' → (Builtin.append_ #[tS, tX] ty #[.slice (some a) sLen sCap, v]).run P w = .ok (.slice (some a) (sLen + n) sCap) w'
  non : n = 0 → (Builtin.append_ #[tS, tX] ty #[.slice none 0 0, v]).run P w = .ok (.slice none 0 0) w
  new : ∀ (base : Option Addr) (sLen sCap : Nat) (olds : List Value), (Builtin.firstCells ie.size sLen (.slice base sLen sCap)).run P w.drew = .ok olds.toArray w.drew → ¬ sLen + n ≤ sCap → sLen + n ≤ 1000000 → ie.bytes ≤ 1000000 →
    (Builtin.append_ #[tS, tX] ty #[.slice base sLen sCap, v]).run P w = .ok (.slice (some ⟨w.heap.size, 0, none⟩) (sLen + n) (grownCap w (sLen + n) sCap e))
        (w.drew.alloc (.cells (olds ++ news ++ (Builtin.zeroCells z.cells (grownCap w (sLen + n) sCap e - (sLen + n))).toList).toArray e))

theorem sound_src {P : Program} {σ : List (Nat × Nat)} {W0 w : World} {H : Heap} {tS tX ty e : TypeId} {ie : TypeInfo} {dX : TypeDesc} {z : Value} {zc : List AV} {x : AV} {u : Value} {n : Nat} {new : List AV}
    (h : srcA dX ie zc x H = some (n, new)) (hS : P.underlying tS = some (.slice e)) (hX : P.underlying tX = some dX) (hi : P.info? e = some ie) (hz : ie.zero = some z) (hzr : RepL σ zc z.cells.toList) (hs : Sim σ H W0 w) (hu : Rep σ x u) :
    ∃ news : List Value, RepL σ new news ∧ AppendSrc P w tS tX ty e ie z u n news := by
  unfold srcA at h
  split at h
  · split at h
    · rename_i k k' m
      obtain ⟨hb, h1⟩ := need_some h
      simp only [Option.some.injEq, Prod.mk.injEq] at h1
      obtain ⟨rfl, rfl⟩ := h1
      simp only [Rep] at hu
      subst hu
      simp only [Bool.and_eq_true, Nat.ble_eq] at hb
      obtain ⟨⟨hb1, hb2⟩, hb3⟩ := hb
      have hb3 := Nat.eq_of_beq_eq_true hb3
      have hzl : z.cells.size = ie.size := by rw [← hb3, hzr.length]; simp
      have hwr := wrap_small hb1
      have hbig : ¬ ((281474976710656 : Int) < (m : Int) * (ie.bytes : Int)) := by
        have h9 : m * ie.bytes ≤ 1000000 * 1000000 := Nat.mul_le_mul hb1 hb2
        have h10 : (m : Int) * (ie.bytes : Int) = ((m * ie.bytes : Nat) : Int) := by simp
        rw [h10]; omega
      have hneg : ¬ ((m : Int) < 0) := by omega
      let Z : Array Value := if m * ie.size = 0 then #[] else Builtin.zeroCells z.cells m
      have hZ : RepL σ (zeros zc (m * ie.size)) Z.toList := by
        by_cases h0 : m * ie.size = 0
        · have e1 : zeros zc (m * ie.size) = [] := List.length_eq_zero_iff.1 (by rw [h0]; exact zeros_length zc 0)
          rw [e1]; simp [Z, h0, RepL]
        · simp only [Z, if_neg h0, Builtin.zeroCells]
          have := zeros_rep hzr (m * ie.size)
          rw [← hzl] at this ⊢
          exact this
      refine ⟨Z.toList, hZ, ?_, ?_, ?_⟩
      · intro a sLen sCap w' hroom hst
        by_cases h0 : m * ie.size = 0
        · simp only [Z, if_pos h0] at hst
          simp [Builtin.append_, run_underlying hS, run_underlying hX, sizeOf, typeInfo, hi, asInt, asIntOf, hwr, hneg, hbig, hroom, h0, hst]
        · simp only [Z, if_neg h0] at hst
          simp [Builtin.append_, run_underlying hS, run_underlying hX, sizeOf, typeInfo, zeroValue, hz, hi, asInt, asIntOf, hwr, hneg, hbig, hroom, h0, hst]
      · intro h0
        subst h0
        have hw0 : IntKind.i64.wrap 0 = 0 := by decide
        simp [Builtin.append_, run_underlying hS, run_underlying hX, sizeOf, typeInfo, hi, asInt, asIntOf, hw0]
      · intro base sLen sCap olds hfo hroom h1 h2
        have h63 : ¬ (9223372036854775807 < ((sLen : Int) + (m : Int))) := by omega
        have hfit : Builtin.nextslicecap (sLen + m) sCap * ie.bytes ≤ 281474976710656 := growslice_fits (by omega) (by
          have : (sLen + m) * ie.bytes ≤ 1000000 * 1000000 := Nat.mul_le_mul h1 h2
          omega)
        have h48 : ¬ (281474976710656 < Builtin.nextslicecap (sLen + m) sCap * ie.bytes) := by omega
        by_cases h0 : m * ie.size = 0
        · simp only [Z, if_pos h0]
          simp [Builtin.append_, run_underlying hS, run_underlying hX, sizeOf, typeInfo, zeroValue, hi, hz, asInt, asIntOf, hwr, hneg, hbig, hroom, h63, h48, Question.forced, hfo, newRow, grownCap, h0]
          congr 2
          apply Array.ext'
          simp
        · simp only [Z, if_neg h0]
          simp [Builtin.append_, run_underlying hS, run_underlying hX, sizeOf, typeInfo, zeroValue, hi, hz, asInt, asIntOf, hwr, hneg, hbig, hroom, h63, h48, Question.forced, hfo, newRow, grownCap, h0]
          congr 2
          apply Array.ext'
          simp
    · cases h
  · obtain ⟨hd, h1⟩ := need_some h
    obtain ⟨n', hn, h2⟩ := Option.bind_eq_some_iff.1 h1
    obtain ⟨new', hnew, h3⟩ := Option.bind_eq_some_iff.1 h2
    simp only [Option.some.injEq, Prod.mk.injEq] at h3
    obtain ⟨rfl, rfl⟩ := h3
    have hlen := sound_len1 (P := P) (w := w) hn hu
    obtain ⟨news, hnr, hnf⟩ := sound_first (P := P) hnew hs hu
    refine ⟨news, hnr, ?_, ?_, ?_⟩
    · intro a sLen sCap w' hroom hst
      exact run_append_in hS hX hd hi hlen (hnf w rfl) hroom hst
    · intro h0; subst h0; exact run_append_none hS hX hd hi hlen (hnf w rfl)
    · intro base sLen sCap olds hfo hroom b1 b2
      exact run_append_new hS hX hd hi hz hlen (hnf w.drew rfl) hfo hroom b1 b2

/-- The new row's own part of the proof. -/
theorem sound_grow {P : Program} {σ : List (Nat × Nat)} {W0 w : World} {H : Heap} {s : Sem Value} {e : TypeId} {ie : TypeInfo} {z : Value} {zc old new : List AV} {sCap nd : Nat} {outs : List (AV × Heap)} {olds news : List Value}
    (h : aGrow e ie zc old new nd H = some outs) (hs : Sim σ H W0 w) (hz : RepL σ zc z.cells.toList) (ho : RepL σ old olds) (hn : RepL σ new news)
    (hr : nd ≤ 1000000 → ie.bytes ≤ 1000000 → s.run P w = .ok (.slice (some ⟨w.heap.size, 0, none⟩) nd (grownCap w nd sCap e))
        (w.drew.alloc (.cells (olds ++ news ++ (Builtin.zeroCells z.cells (grownCap w nd sCap e - nd)).toList).toArray e))) : ValOK P σ W0 s w outs := by
  obtain ⟨hb, h1⟩ := need_some h
  simp only [Bool.and_eq_true, Nat.ble_eq] at hb
  obtain ⟨⟨⟨hb1, hb2⟩, hb3⟩, hb4⟩ := hb
  have hb3 := Nat.eq_of_beq_eq_true hb3
  have hb4 := Nat.eq_of_beq_eq_true hb4
  have hzl : z.cells.size = ie.size := by rw [← hb3, hz.length]; simp
  have hon := ho.append hn
  have hcap := grownCap_ge w nd sCap e
  have hsz : (olds ++ news ++ (Builtin.zeroCells z.cells (grownCap w nd sCap e - nd)).toList).toArray.size = grownCap w nd sCap e * ie.size := by
    have h1 : (olds ++ news).length = nd * ie.size := by rw [← hb4, hon.length]
    rw [List.size_toArray, List.length_append, h1, Array.length_toList, size_zeroCells, hzl, ← Nat.add_mul]
    congr 1; omega
  refine valOK_new' h1 hs (n := grownCap w nd sCap e * ie.size) (ob := .cells (olds ++ news ++ (Builtin.zeroCells z.cells (grownCap w nd sCap e - nd)).toList).toArray e) ?_ (hr hb1 hb2) rfl rfl rfl rfl ?_
  · refine ⟨_, rfl, hsz, ?_, fun h => by cases h⟩
    intro i x hi
    obtain ⟨v, g1, g2⟩ := hon.get i x hi
    refine ⟨v, ?_, g2⟩
    have hlt : i < (olds ++ news).length := by
      rcases Nat.lt_or_ge i (olds ++ news).length with q | q
      · exact q
      · rw [List.getElem?_eq_none q] at g1; cases g1
    simp only [List.getElem?_append_left hlt]
    exact g1
  · intro σ' hσ
    simp only [Rep]
    exact ⟨_, _, _, hσ, rfl, by omega, hcap⟩

theorem sound_append {P : Program} {σ : List (Nat × Nat)} {W0 w : World} {H : Heap} {ts : Array TypeId} {ty : TypeId} {s x : AV} {v u : Value} {outs : List (AV × Heap)}
    (h : aAppend P ts.toList s x H = some outs) (hs : Sim σ H W0 w) (hv : Rep σ s v) (hu : Rep σ x u) : ValOK P σ W0 (Builtin.append_ ts ty #[v, u]) w outs := by
  unfold aAppend at h
  split at h
  · rename_i tS tX hts
    have hts' : ts = #[tS, tX] := Array.toList_inj.1 hts
    subst hts'
    obtain ⟨d0, hS, h1⟩ := Option.bind_eq_some_iff.1 h
    clear h hts
    split at h1
    · rename_i e
      obtain ⟨dX, hX, h2⟩ := Option.bind_eq_some_iff.1 h1
      obtain ⟨ie, hi, h4⟩ := Option.bind_eq_some_iff.1 h2
      obtain ⟨z, hz, h5⟩ := Option.bind_eq_some_iff.1 h4
      obtain ⟨zc, hzc, h6⟩ := Option.bind_eq_some_iff.1 h5
      obtain ⟨⟨n, new⟩, hq, h8⟩ := Option.bind_eq_some_iff.1 h6
      obtain ⟨hb, h9⟩ := need_some h8
      clear h1 h2 h4 h5 h6 h8
      simp only at h9 hb
      simp only [Bool.and_eq_true] at hb
      have hb1 := Nat.eq_of_beq_eq_true hb.1
      have hzr := AV.cells_rep hzc (ofValue_rep σ z)
      obtain ⟨news, hnr, src⟩ := sound_src (P := P) (tS := tS) (ty := ty) hq hS hX hi hz hzr hs hu
      have hnl := hnr.length
      split at h9
      · simp only [Rep] at hv; subst hv
        cases h0 : Nat.beq n 0 with
        | true =>
          rw [h0] at h9; cases h9
          have := Nat.eq_of_beq_eq_true h0
          subst this
          exact ValOK.one (src.non rfl) hs (by simp [Rep])
        | false =>
          rw [h0] at h9
          have hne := Nat.ne_of_beq_eq_false h0
          refine sound_grow (olds := []) (news := news) (sCap := 0) h9 hs hzr (by simp [RepL]) hnr ?_
          intro b1 b2
          have := src.new none 0 0 [] rfl (by omega) (by omega) b2
          simpa using this
      · rename_i b off len c esz
        simp only [Rep] at hv
        obtain ⟨a, na, c', hσ, rfl, hc'⟩ := hv
        subst hc'
        cases h0 : Nat.ble (len + n) c' with
        | true =>
          rw [h0, cond_true] at h9
          rw [Nat.ble_eq] at h0
          obtain ⟨h', hw', h10⟩ := Option.bind_eq_some_iff.1 h9
          cases h10
          obtain ⟨w', g1, g2⟩ := sound_write (P := P) hw' hs hσ hnr (by simp)
          exact ⟨_, List.mem_singleton.2 rfl, σ, _, w', src.inn _ _ _ _ h0 (by rw [Addr.add_lit]; exact g1), List.prefix_refl _, g2, by simp only [Rep]; exact ⟨_, _, _, hσ, rfl, rfl⟩⟩
        | false =>
          rw [h0, cond_false] at h9
          have hroom : ¬ len + n ≤ c' := by intro hh; rw [ble_true hh] at h0; cases h0
          obtain ⟨old, hold, h10⟩ := Option.bind_eq_some_iff.1 h9
          obtain ⟨hl, l, el, fz, q1, q2, q3⟩ := aCells_rep hold hs hσ
          obtain ⟨olds, g1, g2, g3⟩ := cells_list q1 q3
          refine sound_grow (olds := olds) (news := news) (sCap := c') h10 hs hzr g2 hnr ?_
          intro b1 b2
          exact src.new _ _ _ _ (run_firstCells_some w.drew ie.size len _ _ _ olds (by omega) (by simpa using g3)) hroom b1 b2
      · rename_i b off len esz
        cases h0 : Nat.beq n 0 with
        | true =>
          rw [h0] at h9; cases h9
          have := Nat.eq_of_beq_eq_true h0
          subst this
          have hv' := hv
          simp only [Rep] at hv'
          obtain ⟨a, na, c', hσ, rfl, hc1, hc2⟩ := hv'
          have hnn : news = [] := List.length_eq_zero_iff.1 (by omega)
          subst hnn
          exact ValOK.one (src.inn _ _ _ w (by omega) rfl) hs (by simpa using hv)
        | false =>
          rw [h0, cond_false] at h9
          have hne := Nat.ne_of_beq_eq_false h0
          simp only [Rep] at hv
          obtain ⟨a, na, c', hσ, rfl, hc1, hc2⟩ := hv
          obtain ⟨o, ho, h10⟩ := Option.bind_eq_some_iff.1 h9
          clear h9
          obtain ⟨a', m', ob, q1, q2, q3⟩ := hs.obj b o ho
          rw [hσ] at q1; cases q1
          split at h10
          · rename_i c opn el
            obtain ⟨l, rfl, q4, q5, q6⟩ := q3
            obtain ⟨hbb, h11⟩ := need_some h10
            clear h10
            simp only [Bool.and_eq_true] at hbb
            obtain ⟨⟨⟨hel, hb2⟩, hb3⟩, hb4⟩ := hbb
            have ee := Nat.eq_of_beq_eq_true hel
            have e0 := Nat.eq_of_beq_eq_true hb2
            have e1 := Nat.eq_of_beq_eq_true hb3
            have e2 := Nat.eq_of_beq_eq_true hb4
            subst e0 e1 ee
            have hsz : len * ie.size ≤ l.size := by
              rw [q4]
              have : len * ie.size ≤ c' * ie.size := Nat.mul_le_mul_right _ hc2
              omega
            let olds := l.toList.take (len * ie.size)
            have hol : olds.length = len * ie.size := by simp only [olds, List.length_take, Array.length_toList]; omega
            have hor : RepL σ (c.take (len * ie.size)) olds := by
              refine RepL.of_get (by omega) ?_
              intro i y hy
              rw [List.getElem?_take] at hy
              split at hy
              · obtain ⟨v, r1, r2⟩ := q5 i y hy
                exact ⟨v, by simp only [olds]; rw [List.getElem?_take, if_pos (by assumption)]; exact r1, r2⟩
              · cases hy
            by_cases hroom : len + n ≤ c'
            · -- there is room: the row goes on under a new number
              obtain ⟨hbq, h12⟩ := need_some h11
              unfold aNew at h12
              obtain ⟨H', ha, h13⟩ := Option.bind_eq_some_iff.1 h12
              cases h13
              have hfit : len * ie.size + news.length ≤ l.size := by
                rw [q4]
                have h14 : (len + n) * ie.size ≤ c' * ie.size := Nat.mul_le_mul_right _ hroom
                have h15 : news.length = n * ie.size := by omega
                rw [Nat.add_mul] at h14; omega
              have hst := run_storeCells_at P a (len * ie.size) el news 0 l w q2 (by simpa using hfit) (hnr.cells hb.2)
              simp only [Nat.add_zero] at hst
              have hs1 := hs.turn (o' := none) (w' := w.setRow a (l.toList.take (len * ie.size) ++ news ++ l.toList.drop (len * ie.size + news.length)).toArray) ho hσ (by simp) (setRow_heap w a l _ el (0, 0) q2) (fun k hk => setRow_other w a k _ hk) rfl rfl rfl (by intro x hx; cases hx)
              have hal := hs1.alias (n := na) (ob := .cells (l.toList.take (len * ie.size) ++ news ++ l.toList.drop (len * ie.size + news.length)).toArray el) ha ?_ (setRow_heap w a l _ el (0, 0) q2) (hs.here b a na hσ).1 ?_
              · refine ⟨_, List.mem_singleton.2 rfl, _, _, _, src.inn _ _ _ _ hroom (by rw [Addr.add_lit, Nat.zero_add]; exact hst), ⟨_, rfl⟩, hal.1, ?_⟩
                simp only [Rep]
                exact ⟨_, _, _, hal.2, rfl, by omega, hroom⟩
              · refine ⟨_, rfl, ?_, ?_, fun h => by cases h⟩
                · simp; omega
                · intro i x hi
                  obtain ⟨v, r1, r2⟩ := (hor.append hnr).get i x hi
                  refine ⟨v, ?_, r2⟩
                  have hlt : i < (olds ++ news).length := by
                    rcases Nat.lt_or_ge i (olds ++ news).length with q | q
                    · exact q
                    · rw [List.getElem?_eq_none q] at r1; cases r1
                  simp only
                  rw [List.getElem?_append_left hlt]
                  exact r1
              · intro k x m hk hm
                rw [Heap.get_put ho] at hk
                by_cases hbk : b = k
                · rw [if_pos hbk] at hk; cases hk
                · rw [if_neg hbk] at hk
                  exact hbk (hs.inj b k a na m _ _ ho hk hσ hm)
            · have hs1 := hs.turn (o' := none) (w' := w) ho hσ rfl q2 (fun _ _ => rfl) rfl rfl rfl (by intro x hx; cases hx)
              refine sound_grow (olds := olds) (news := news) (sCap := c') h11 hs1 hzr hor hnr ?_
              intro b1 b2
              refine src.new _ _ _ _ (run_firstCells_some w.drew ie.size len _ _ _ olds hol ?_) hroom b1 b2
              intro j v hj
              simp only [olds] at hj
              rw [List.getElem?_take] at hj
              split at hj
              · rw [Addr.add_lit]
                simp only [World.cell?_drew]
                have hj' : l[j]? = some v := by simpa using hj
                simp [World.cell?, q2, hj']
              · cases hj
          · cases h10
      · cases h9
    · cases h1
  · cases h

def aCopy (P : Program) (ts : List TypeId) (d s : AV) (h : Heap) : Option (List (AV × Heap)) :=
  match ts with
  | tD :: _ => (P.underlying tD).bind fun
    | .slice e => (P.info? e).bind fun ie => (lenA s).bind fun m =>
      match d with
      | .nilslice => (firstA h ie.size 0 s).bind fun _ => some [(.int .i64 0, h)]
      | .slice b off len _ _ => (firstA h ie.size (Nat.min m len) s).bind fun cs => (aWrite h b off cs false).bind fun h' => some [(.int .i64 (Nat.min m len : Nat), h')]
      | _ => none
    | _ => none
  | _ => none

theorem sound_copy {P : Program} {σ : List (Nat × Nat)} {W0 w : World} {H : Heap} {ts : Array TypeId} {ty : TypeId} {d s : AV} {v u : Value} {outs : List (AV × Heap)}
    (h : aCopy P ts.toList d s H = some outs) (hs : Sim σ H W0 w) (hv : Rep σ d v) (hu : Rep σ s u) : ValOK P σ W0 (Builtin.copy_ ts ty #[v, u]) w outs := by
  unfold aCopy at h
  split at h
  · rename_i tD rest hts
    have h0 : ts[0]? = some tD := by rw [← Array.getElem?_toList, hts]; rfl
    obtain ⟨d0, hD, h1⟩ := Option.bind_eq_some_iff.1 h
    clear h
    split at h1
    · rename_i e
      obtain ⟨ie, hi, h2⟩ := Option.bind_eq_some_iff.1 h1
      obtain ⟨m, hm, h3⟩ := Option.bind_eq_some_iff.1 h2
      clear h1 h2
      have hlen := sound_len1 (P := P) (w := w) hm hu
      split at h3
      · simp only [Rep] at hv; subst hv
        obtain ⟨cs, hcs, h4⟩ := Option.bind_eq_some_iff.1 h3
        cases h4
        obtain ⟨us, hr, hf⟩ := sound_first (P := P) hcs hs hu
        have := hf w rfl
        exact ValOK.one (v := .int .i64 0) (by simp [Builtin.copy_, h0, run_underlying hD, hlen, run_size hi, this, goInt]) hs (by simp [Rep])
      · simp only [Rep] at hv
        obtain ⟨a, na, c', hσ, rfl, hc'⟩ := hv
        obtain ⟨cs, hcs, h4⟩ := Option.bind_eq_some_iff.1 h3
        obtain ⟨h', hw', h5⟩ := Option.bind_eq_some_iff.1 h4
        cases h5
        obtain ⟨us, hr, hf⟩ := sound_first (P := P) hcs hs hu
        have hf1 := hf w rfl
        obtain ⟨w', g1, g2⟩ := sound_write (P := P) hw' hs hσ hr (by simp)
        refine ⟨_, List.mem_singleton.2 rfl, σ, _, w', ?_, List.prefix_refl _, g2, by simp only [Rep]; rfl⟩
        simp only [Builtin.copy_, h0, List.getElem?_toArray, List.getElem?_cons_zero, List.getElem?_cons_succ, Sem.run_bind, run_underlying hD, Result.andThen_ok, hlen, run_size hi, hf1, g1, Sem.run_pure, goInt]
      · cases h3
    · cases h1
  · cases h

def aLen (P : Program) (ts : List TypeId) (x : AV) (h : Heap) : Option AV :=
  match ts with
  | t :: _ => (P.underlying t).bind fun d =>
    match d, x with
    | .string, .str s => some (.int .i64 s.length)
    | .string, .anyStr => some (.anyInt .i64)
    | .slice _, .slice _ _ len _ _ => some (.int .i64 len)
    | .slice _, .nilslice => some (.int .i64 0)
    | .array n _, _ => some (.int .i64 n)
    | .map _ _, .nilmap => some (.int .i64 0)
    | .map _ _, .map b => (aMap h b).bind fun q => some (.int .i64 q.1.length)
    | _, _ => none
  | _ => none

theorem sound_len {P : Program} {σ : List (Nat × Nat)} {W0 w : World} {H : Heap} {ts : Array TypeId} {ty : TypeId} {x y : AV} {v : Value}
    (h : aLen P ts.toList x H = some y) (hs : Sim σ H W0 w) (hx : Rep σ x v) : ∃ r, (Builtin.len_ ts ty #[v]).run P w = .ok r w ∧ Rep σ y r := by
  unfold aLen at h
  split at h
  · rename_i t rest hts
    have h0 : ts[0]? = some t := by rw [← Array.getElem?_toList, hts]; rfl
    obtain ⟨d, hd, h1⟩ := Option.bind_eq_some_iff.1 h
    clear h
    split at h1
    · cases h1; simp only [Rep] at hx; obtain ⟨s, rfl, rfl⟩ := hx
      exact ⟨.int .i64 s.size, by simp [Builtin.len_, h0, run_underlying hd, goInt], by simp [Rep]⟩
    · cases h1; simp only [Rep] at hx; obtain ⟨s, rfl⟩ := hx
      exact ⟨.int .i64 s.size, by simp [Builtin.len_, h0, run_underlying hd, goInt], by simp [Rep]⟩
    · cases h1; simp only [Rep] at hx; obtain ⟨a, n, c, _, rfl, _⟩ := hx
      exact ⟨_, by simp [Builtin.len_, h0, run_underlying hd, goInt]; rfl, by simp only [Rep]⟩
    · cases h1; simp only [Rep] at hx; subst hx
      exact ⟨.int .i64 0, by simp [Builtin.len_, h0, run_underlying hd, goInt], by simp [Rep]⟩
    · cases h1
      exact ⟨_, by simp [Builtin.len_, h0, run_underlying hd, goInt]; rfl, by simp only [Rep]⟩
    · cases h1; simp only [Rep] at hx; subst hx
      exact ⟨.int .i64 0, by simp [Builtin.len_, h0, run_underlying hd, goInt], by simp [Rep]⟩
    · simp only [Rep] at hx
      obtain ⟨a, n, hσ, rfl⟩ := hx
      obtain ⟨q, hq, h2⟩ := Option.bind_eq_some_iff.1 h1
      cases h2
      obtain ⟨f0, l, f1, f2⟩ := aMap_rep hq hs hσ
      have hl := f2.length
      exact ⟨.int .i64 l.size, by simp [Builtin.len_, h0, run_underlying hd, Go.MapKept.run_getObj_map f1, goInt], by simp only [Rep]; rw [hl]; simp⟩
    · cases h1
  · cases h

def aCap (P : Program) (ts : List TypeId) (x : AV) : Option AV :=
  match ts with
  | t :: _ => (P.underlying t).bind fun d =>
    match d, x with
    | .slice _, .slice _ _ _ (some c) _ => some (.int .i64 c)
    | .slice _, .nilslice => some (.int .i64 0)
    | .array n _, _ => some (.int .i64 n)
    | _, _ => none
  | _ => none

theorem sound_cap {P : Program} {σ : List (Nat × Nat)} {w : World} {ts : Array TypeId} {ty : TypeId} {x y : AV} {v : Value}
    (h : aCap P ts.toList x = some y) (hx : Rep σ x v) : ∃ r, (Builtin.cap_ ts ty #[v]).run P w = .ok r w ∧ Rep σ y r := by
  unfold aCap at h
  split at h
  · rename_i t rest hts
    have h0 : ts[0]? = some t := by rw [← Array.getElem?_toList, hts]; rfl
    obtain ⟨d, hd, h1⟩ := Option.bind_eq_some_iff.1 h
    clear h
    split at h1
    · cases h1; simp only [Rep] at hx; obtain ⟨a, n, c, _, rfl, rfl⟩ := hx
      exact ⟨_, by simp [Builtin.cap_, h0, run_underlying hd, goInt]; rfl, by simp only [Rep]⟩
    · cases h1; simp only [Rep] at hx; subst hx
      exact ⟨.int .i64 0, by simp [Builtin.cap_, h0, run_underlying hd, goInt], by simp [Rep]⟩
    · cases h1
      exact ⟨_, by simp [Builtin.cap_, h0, run_underlying hd, goInt]; rfl, by simp only [Rep]⟩
    · cases h1
  · cases h

def aMost (big : Bool) : AV → List AV → Option AV
  | x, [] => some x
  | .int k a, .int _ b :: rest => aMost big (.int k (cond (cond big (decide (b > a)) (decide (b < a))) b a)) rest
  | .anyInt k, .int _ _ :: rest => aMost big (.anyInt k) rest
  | .anyInt k, .anyInt _ :: rest => aMost big (.anyInt k) rest
  | .int k _, .anyInt _ :: rest => aMost big (.anyInt k) rest
  | _, _ => none

theorem sound_most {P : Program} {σ : List (Nat × Nat)} {w : World} (big : Bool) : ∀ (l : List AV) (x y : AV) (v : Value) (vs : List Value), aMost big x l = some y → Rep σ x v → RepL σ l vs →
    ∃ r, (vs.foldlM (cond big Builtin.max2 Builtin.min2) v).run P w = .ok r w ∧ Rep σ y r
  | [], x, y, v, vs, h, hx, hl => by
    simp only [RepL] at hl; subst hl
    simp only [aMost, Option.some.injEq] at h; subst h
    exact ⟨v, rfl, hx⟩
  | z :: l, x, y, v, vs, h, hx, hl => by
    simp only [RepL] at hl
    obtain ⟨u, us, rfl, h2, h3⟩ := hl
    simp only [List.foldlM_cons, Sem.run_bind]
    unfold aMost at h
    split at h
    · cases ‹_ = []›
    · rename_i k a k' b rest heq
      cases heq
      simp only [Rep] at hx h2; subst hx h2
      obtain ⟨r, g1, g2⟩ := sound_most big l _ y (.int k (cond (cond big (decide (b > a)) (decide (b < a))) b a)) us h (by simp [Rep]) h3
      refine ⟨r, ?_, g2⟩
      cases big with
      | true =>
        have : (Builtin.max2 (.int k a) (.int k' b)).run P w = .ok (.int k (cond (decide (b > a)) b a)) w := by
          simp only [Builtin.max2, Sem.run_pure]
          by_cases hc : b > a <;> simp [hc]
        simp only [cond_true, this, Result.andThen_ok]; exact g1
      | false =>
        have : (Builtin.min2 (.int k a) (.int k' b)).run P w = .ok (.int k (cond (decide (b < a)) b a)) w := by
          simp only [Builtin.min2, Sem.run_pure]
          by_cases hc : b < a <;> simp [hc]
        simp only [cond_false, this, Result.andThen_ok]; exact g1
    · rename_i k k' b rest heq
      cases heq
      simp only [Rep] at hx h2; obtain ⟨a, rfl⟩ := hx; subst h2
      cases big with
      | true =>
        obtain ⟨r, g1, g2⟩ := sound_most true l _ y (.int k (if b > a then b else a)) us h (by simp [Rep]) h3
        exact ⟨r, by simpa [Builtin.max2] using g1, g2⟩
      | false =>
        obtain ⟨r, g1, g2⟩ := sound_most false l _ y (.int k (if b < a then b else a)) us h (by simp [Rep]) h3
        exact ⟨r, by simpa [Builtin.min2] using g1, g2⟩
    · rename_i k k' rest heq
      cases heq
      simp only [Rep] at hx h2; obtain ⟨a, rfl⟩ := hx; obtain ⟨b, rfl⟩ := h2
      cases big with
      | true =>
        obtain ⟨r, g1, g2⟩ := sound_most true l _ y (.int k (if b > a then b else a)) us h (by simp [Rep]) h3
        exact ⟨r, by simpa [Builtin.max2] using g1, g2⟩
      | false =>
        obtain ⟨r, g1, g2⟩ := sound_most false l _ y (.int k (if b < a then b else a)) us h (by simp [Rep]) h3
        exact ⟨r, by simpa [Builtin.min2] using g1, g2⟩
    · rename_i k a k' rest heq
      cases heq
      simp only [Rep] at hx h2; subst hx; obtain ⟨b, rfl⟩ := h2
      cases big with
      | true =>
        obtain ⟨r, g1, g2⟩ := sound_most true l _ y (.int k (if b > a then b else a)) us h (by simp [Rep]) h3
        exact ⟨r, by simpa [Builtin.max2] using g1, g2⟩
      | false =>
        obtain ⟨r, g1, g2⟩ := sound_most false l _ y (.int k (if b < a then b else a)) us h (by simp [Rep]) h3
        exact ⟨r, by simpa [Builtin.min2] using g1, g2⟩
    · cases h
end Go.Abs
