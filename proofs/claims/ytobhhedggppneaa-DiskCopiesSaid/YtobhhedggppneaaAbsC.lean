/- The operations of the small interpreter that only reckon: what each answers, and that it holds of the world. -/
import Derived.Test.YtobhhedggppneaaAbsB
import Derived.Laws.Build
import Derived.Laws.Strings
namespace Go.Abs
open Go.RowKit (Below)

def need {α : Type} (b : Bool) (x : Option α) : Option α := cond b x none
theorem need_some {α : Type} {b : Bool} {x : Option α} {y : α} (h : need b x = some y) : b = true ∧ x = some y := by
  cases b with
  | true => exact ⟨rfl, h⟩
  | false => cases h

/-- The address of a field. -/
def aField (P : Program) (s : TypeId) (x : AV) (f : Nat) : Option AV :=
  match x with
  | .ptr b off => (P.underlying s).bind fun
      | .struct fs => fs[f]?.bind fun fd => (P.info? fd.type).bind fun i => need (!Nat.beq i.size 0) (some (.ptr b (off + fd.offset)))
      | _ => none
  | _ => none

theorem sound_field {P : Program} {σ : List (Nat × Nat)} {s : TypeId} {x y : AV} {f : Nat} {v : Value}
    (h : aField P s x f = some y) (hx : Rep σ x v) : ∃ u, (∀ w : World, (Instr.fieldAt s v f).run P w = .ok u w) ∧ Rep σ y u := by
  cases x <;> simp only [aField, reduceCtorEq] at h
  rename_i b off
  simp only [Rep] at hx
  obtain ⟨a, n, hσ, rfl⟩ := hx
  obtain ⟨d, hd, h⟩ := Option.bind_eq_some_iff.1 h
  cases d <;> simp only [reduceCtorEq] at h
  rename_i fs
  obtain ⟨fd, hf, h⟩ := Option.bind_eq_some_iff.1 h
  obtain ⟨i, hi, h⟩ := Option.bind_eq_some_iff.1 h
  obtain ⟨h1, h⟩ := need_some h
  cases h
  have hz : ¬ i.size = 0 := by
    intro h0; rw [h0] at h1; cases h1
  exact ⟨.pointer (some ⟨a, off + fd.offset, none⟩), fun w => by simp [Instr.fieldAt, run_underlying hd, hf, Instr.sureAddr, fieldPlace, run_size hi, hz, Addr.add_lit], by simp only [Rep]; exact ⟨_, _, hσ, rfl⟩⟩

/-- A part of an aggregate. -/
def aPart (P : Program) (t : TypeId) (cs : List AV) (off : Nat) : Option AV :=
  (P.underlying t).bind fun d => cond (isWide d) ((P.info? t).bind fun i => some (.agg ((cs.drop off).take i.size))) cs[off]?

theorem RepL.drop {σ : List (Nat × Nat)} : ∀ (n : Nat) {xs : List AV} {vs : List Value}, RepL σ xs vs → RepL σ (xs.drop n) (vs.drop n)
  | 0, _, _, h => h
  | n + 1, [], _, h => by simp only [RepL] at h; subst h; simp [RepL]
  | n + 1, x :: xs, _, h => by
    simp only [RepL] at h
    obtain ⟨y, ys, rfl, h2, h3⟩ := h
    simpa using h3.drop n

theorem RepL.take {σ : List (Nat × Nat)} : ∀ (n : Nat) {xs : List AV} {vs : List Value}, RepL σ xs vs → RepL σ (xs.take n) (vs.take n)
  | 0, _, _, _ => by simp [RepL]
  | n + 1, [], _, h => by simp only [RepL] at h; subst h; simp [RepL]
  | n + 1, x :: xs, _, h => by
    simp only [RepL] at h
    obtain ⟨y, ys, rfl, h2, h3⟩ := h
    simp only [List.take_succ_cons, RepL]
    exact ⟨y, _, rfl, h2, h3.take n⟩

theorem sound_part {P : Program} {σ : List (Nat × Nat)} {w : World} {t : TypeId} {cs : List AV} {off : Nat} {y : AV} {l : Array Value}
    (h : aPart P t cs off = some y) (hx : RepL σ cs l.toList) : ∃ u, (part t l off).run P w = .ok u w ∧ Rep σ y u := by
  unfold aPart at h
  obtain ⟨d, hd, h⟩ := Option.bind_eq_some_iff.1 h
  cases hw : isWide d with
  | true =>
    rw [hw, cond_true] at h
    obtain ⟨i, hi, h⟩ := Option.bind_eq_some_iff.1 h
    cases h
    refine ⟨.agg (l.extract off (off + i.size)), by simp [part, run_isAgg hd, hw, run_size hi], ?_⟩
    simp only [Rep]
    refine ⟨_, rfl, ?_⟩
    have := (hx.drop off).take i.size
    have e : (l.extract off (off + i.size)).toList = (l.toList.drop off).take i.size := by simp [Array.toList_extract, List.extract_eq_take_drop]
    rw [e]; exact this
  | false =>
    rw [hw, cond_false] at h
    obtain ⟨u, h1, h2⟩ := hx.get off y h
    refine ⟨u, ?_, h2⟩
    have h1' : l[off]? = some u := by simpa using h1
    simp [part, run_isAgg hd, hw, h1']

def aFieldOf (P : Program) (s : TypeId) (x : AV) (f : Nat) : Option AV :=
  match x with
  | .agg cs => (P.underlying s).bind fun
      | .struct fs => fs[f]?.bind fun fd => aPart P fd.type cs fd.offset
      | _ => none
  | _ => none

theorem sound_fieldOf {P : Program} {σ : List (Nat × Nat)} {w : World} {s : TypeId} {x y : AV} {f : Nat} {v : Value}
    (h : aFieldOf P s x f = some y) (hx : Rep σ x v) : ∃ u, (Instr.field s v f).run P w = .ok u w ∧ Rep σ y u := by
  cases x <;> simp only [aFieldOf, reduceCtorEq] at h
  simp only [Rep] at hx
  obtain ⟨l, rfl, hl⟩ := hx
  obtain ⟨d, hd, h⟩ := Option.bind_eq_some_iff.1 h
  cases d <;> simp only [reduceCtorEq] at h
  obtain ⟨fd, hf, h⟩ := Option.bind_eq_some_iff.1 h
  obtain ⟨u, h1, h2⟩ := sound_part (P := P) (w := w) h hl
  exact ⟨u, by simp [Instr.field, run_underlying hd, hf, asAgg, h1], h2⟩

def inB (i : Int) (n : Nat) : Bool := match i with
  | .ofNat k => Nat.ble (k + 1) n
  | .negSucc _ => false
theorem inB_spec {i : Int} {n : Nat} (h : inB i n = true) : 0 ≤ i ∧ i < n := by
  cases i with
  | ofNat k => simp only [inB, Nat.ble_eq] at h; simp only [Int.ofNat_eq_natCast]; omega
  | negSucc k => cases h

/-- The address of an element. -/
def aIndexAt (P : Program) (t : TypeId) (x ix : AV) : Option AV :=
  match x, ix with
  | .slice b off len _ _, .int _ i => (P.underlying t).bind fun
      | .slice e => (P.info? e).bind fun inf => need (inB i len) (some (.ptr b (off + i.toNat * inf.size)))
      | _ => none
  | .ptr b off, .int _ i => (P.underlying t).bind fun
      | .array n e => (P.info? e).bind fun inf => need (inB i n) (some (.ptr b (off + i.toNat * inf.size)))
      | _ => none
  | _, _ => none

theorem sound_indexAt {P : Program} {σ : List (Nat × Nat)} {w : World} {t : TypeId} {x ix y : AV} {v u : Value}
    (h : aIndexAt P t x ix = some y) (hx : Rep σ x v) (hi : Rep σ ix u) : ∃ r, (Instr.indexAt t v u).run P w = .ok r w ∧ Rep σ y r := by
  cases x <;> cases ix <;> simp only [aIndexAt, reduceCtorEq] at h
  · rename_i b off k i
    simp only [Rep] at hx hi
    subst hi
    obtain ⟨a, n, hσ, rfl⟩ := hx
    obtain ⟨d, hd, h⟩ := Option.bind_eq_some_iff.1 h
    cases d <;> simp only [reduceCtorEq] at h
    obtain ⟨inf, hf, h⟩ := Option.bind_eq_some_iff.1 h
    obtain ⟨h1, h⟩ := need_some h
    cases h
    have h2 := inB_spec h1
    exact ⟨.pointer (some ⟨a, off + i.toNat * inf.size, none⟩), by simp [Instr.indexAt, asIntOf, run_underlying hd, Instr.sureAddr, h2, run_size hf, Addr.add_lit], by simp only [Rep]; exact ⟨_, _, hσ, rfl⟩⟩
  · rename_i b off len cap esz k i
    simp only [Rep] at hx hi
    subst hi
    obtain ⟨a, n, c, hσ, rfl, _⟩ := hx
    obtain ⟨d, hd, h⟩ := Option.bind_eq_some_iff.1 h
    cases d <;> simp only [reduceCtorEq] at h
    obtain ⟨inf, hf, h⟩ := Option.bind_eq_some_iff.1 h
    obtain ⟨h1, h⟩ := need_some h
    cases h
    have h2 := inB_spec h1
    exact ⟨.pointer (some ⟨a, off + i.toNat * inf.size, none⟩), by simp [Instr.indexAt, asIntOf, run_underlying hd, h2, run_size hf, Addr.add_lit], by simp only [Rep]; exact ⟨_, _, hσ, rfl⟩⟩

/-- An element of an array's value, a byte of a string. -/
def aIndex (P : Program) (t : TypeId) (x ix : AV) : Option AV :=
  match x, ix with
  | .agg cs, .int _ i => (P.underlying t).bind fun
      | .array n e => (P.info? e).bind fun inf => need (inB i n) (aPart P e cs (i.toNat * inf.size))
      | _ => none
  | .str s, .int _ i => (P.underlying t).bind fun
      | .string => need (inB i s.length) (s[i.toNat]?.bind fun b => some (.int .u8 b))
      | _ => none
  | _, _ => none

theorem sound_index {P : Program} {σ : List (Nat × Nat)} {w : World} {t : TypeId} {x ix y : AV} {v u : Value}
    (h : aIndex P t x ix = some y) (hx : Rep σ x v) (hi : Rep σ ix u) : ∃ r, (Instr.index t v u).run P w = .ok r w ∧ Rep σ y r := by
  cases x <;> cases ix <;> simp only [aIndex, reduceCtorEq] at h
  · rename_i k i
    simp only [Rep] at hx hi
    subst hi
    obtain ⟨s, rfl, rfl⟩ := hx
    obtain ⟨d, hd, h⟩ := Option.bind_eq_some_iff.1 h
    cases d <;> simp only [reduceCtorEq] at h
    obtain ⟨h1, h⟩ := need_some h
    have h2 := inB_spec h1
    obtain ⟨b, hb, h⟩ := Option.bind_eq_some_iff.1 h
    cases h
    simp only [List.getElem?_map, Option.map_eq_some_iff] at hb
    obtain ⟨c, hc, rfl⟩ := hb
    refine ⟨.int .u8 c.toNat, ?_, by simp [Rep]⟩
    have hc' : s[i.toNat]? = some c := by
      have : s.data[i.toNat]? = some c := by simpa using hc
      have hlt : i.toNat < s.data.size := (Array.getElem?_eq_some_iff.1 this).1
      have hlt' : i.toNat < s.size := hlt
      rw [getElem?_pos s i.toNat hlt']
      congr 1
      exact (Array.getElem?_eq_some_iff.1 this).2
    simp [Instr.index, asIntOf, run_underlying hd, h2.1, hc']
  · rename_i k i
    simp only [Rep] at hx hi
    subst hi
    obtain ⟨l, rfl, hl⟩ := hx
    obtain ⟨d, hd, h⟩ := Option.bind_eq_some_iff.1 h
    cases d <;> simp only [reduceCtorEq] at h
    obtain ⟨inf, hf, h⟩ := Option.bind_eq_some_iff.1 h
    obtain ⟨h1, h⟩ := need_some h
    have h2 := inB_spec h1
    obtain ⟨r, h3, h4⟩ := sound_part (P := P) (w := w) h hl
    exact ⟨r, by simp [Instr.index, asIntOf, run_underlying hd, h2, run_size hf, h3], h4⟩

def aExtract (x : AV) (i : Nat) : Option AV :=
  match x with
  | .tuple vs => vs[i]?
  | _ => none

theorem sound_extract {P : Program} {σ : List (Nat × Nat)} {w : World} {x y : AV} {i : Nat} {v : Value}
    (h : aExtract x i = some y) (hx : Rep σ x v) : ∃ r, (Instr.extract v i).run P w = .ok r w ∧ Rep σ y r := by
  cases x <;> simp only [aExtract, reduceCtorEq] at h
  simp only [Rep] at hx
  obtain ⟨l, rfl, hl⟩ := hx
  obtain ⟨r, h1, h2⟩ := hl.get i y h
  have h1' : l[i]? = some r := by simpa using h1
  exact ⟨r, by simp [Instr.extract, h1'], h2⟩

theorem RepL.map {σ : List (Nat × Nat)} {e : Operand → AV} {ρ : Operand → Value} (he : ∀ x, Rep σ (e x) (ρ x)) : ∀ l : List Operand, RepL σ (l.map e) (l.map ρ)
  | [] => by simp [RepL]
  | x :: l => by simp only [List.map_cons, RepL]; exact ⟨_, _, rfl, he x, RepL.map he l⟩

def aMakeFunc (e : Operand → AV) (fn : Fn) (first captured : Array Operand) : Option AV :=
  match fn with
  | .func f => some (.func f (first.toList.map e) (captured.toList.map e))
  | _ => none

theorem sound_makeFunc {P : Program} {σ : List (Nat × Nat)} {w : World} {e : Operand → AV} {ρ : Operand → Value} {fn : Fn} {first captured : Array Operand} {y : AV}
    (h : aMakeFunc e fn first captured = some y) (he : ∀ x, Rep σ (e x) (ρ x)) : ∃ r, (Instr.makeFunc fn (first.map ρ) (captured.map ρ)).run P w = .ok r w ∧ Rep σ y r := by
  cases fn <;> simp only [aMakeFunc, Option.some.injEq, reduceCtorEq] at h
  subst h
  refine ⟨_, rfl, ?_⟩
  simp only [Rep]
  exact ⟨_, _, rfl, by simpa using RepL.map he first.toList, by simpa using RepL.map he captured.toList⟩

def aIface (P : Program) (t : TypeId) (x : AV) : Option AV := need (P.concrete t) (some (.iface t x))

theorem sound_iface {P : Program} {σ : List (Nat × Nat)} {w : World} {t : TypeId} {x y : AV} {v : Value}
    (h : aIface P t x = some y) (hx : Rep σ x v) : ∃ r, (Instr.makeInterface t v).run P w = .ok r w ∧ Rep σ y r := by
  obtain ⟨h1, h⟩ := need_some h
  cases h
  exact ⟨_, run_makeInterface w t v h1, by simp only [Rep]; exact ⟨_, rfl, hx⟩⟩

/-- To a type that is no interface type, the value's own. -/
def aAssert (P : Program) (asserted : TypeId) (ok : Bool) (x : AV) : Option AV :=
  match x with
  | .iface t y => need (P.concrete asserted && Nat.beq t asserted) (some (cond ok (.tuple [y, .bool true]) y))
  | _ => none

theorem sound_assert {P : Program} {σ : List (Nat × Nat)} {w : World} {xt t : TypeId} {ok : Bool} {x y : AV} {v : Value}
    (h : aAssert P t ok x = some y) (hx : Rep σ x v) : ∃ r, (Instr.typeAssert v xt t ok).run P w = .ok r w ∧ Rep σ y r := by
  cases x <;> simp only [aAssert, reduceCtorEq] at h
  simp only [Rep] at hx
  obtain ⟨z, rfl, hz⟩ := hx
  obtain ⟨h1, h⟩ := need_some h
  cases h
  simp only [Bool.and_eq_true] at h1
  have ht := Nat.eq_of_beq_eq_true h1.2
  subst ht
  refine ⟨if ok then .tuple #[z, .bool true] else z, ?_, ?_⟩
  · have hc := h1.1
    unfold Program.concrete at hc
    cases hd : P.underlying _ with
    | none => rw [hd] at hc; cases hc
    | some d =>
      rw [hd] at hc
      cases d <;> first | (cases hc; done) | simp [Instr.typeAssert, run_underlying hd]
  · cases ok
    · simpa using hz
    · simp only [cond_true, if_true, Rep, RepL]
      exact ⟨_, rfl, _, _, rfl, hz, _, _, rfl, rfl, rfl⟩

/-- Bytes in order. -/
def ltL : List Nat → List Nat → Bool
  | _, [] => false
  | [], _ :: _ => true
  | a :: x, b :: y => Nat.ble (a + 1) b || (Nat.beq a b && ltL x y)
def eqL : List Nat → List Nat → Bool
  | [], [] => true
  | a :: x, b :: y => Nat.beq a b && eqL x y
  | _, _ => false

theorem eqL_map : ∀ (x y : List UInt8), eqL (x.map (·.toNat)) (y.map (·.toNat)) = (x == y)
  | [], [] => rfl
  | [], _ :: _ => rfl
  | _ :: _, [] => rfl
  | a :: x, b :: y => by
    simp only [List.map_cons, eqL, eqL_map x y, List.cons_beq_cons]
    congr 1
    cases h : Nat.beq a.toNat b.toNat with
    | true => exact (beq_iff_eq.2 (UInt8.toNat_inj.1 (Nat.eq_of_beq_eq_true h))).symm
    | false =>
      symm
      rw [beq_eq_false_iff_ne]
      rintro rfl
      rw [Nat.beq_refl] at h; cases h

theorem ltL_map : ∀ (x y : List UInt8), ltL (x.map (·.toNat)) (y.map (·.toNat)) = Op.bytesLess x y
  | [], [] => rfl
  | _ :: _, [] => rfl
  | [], _ :: _ => rfl
  | a :: x, b :: y => by
    simp only [List.map_cons, ltL, ltL_map x y, Op.bytesLess]
    congr 1
    · rw [Bool.eq_iff_iff, Nat.ble_eq, decide_eq_true_iff, UInt8.lt_iff_toNat_lt]; omega
    · congr 1
      cases h : Nat.beq a.toNat b.toNat with
      | true => exact (beq_iff_eq.2 (UInt8.toNat_inj.1 (Nat.eq_of_beq_eq_true h))).symm
      | false =>
        symm
        rw [beq_eq_false_iff_ne]
        rintro rfl
        rw [Nat.beq_refl] at h; cases h

theorem toList_data (s : ByteArray) : s.toList = s.data.toList := ByteArray.toList_eq s

def aCmp (op : BinOp) (lt eq : Bool) : Option Bool :=
  match op with
  | .eql => some eq
  | .neq => some (!eq)
  | .lss => some lt
  | .leq => some (lt || eq)
  | .gtr => some (!(lt || eq))
  | .geq => some (!lt)
  | _ => none

theorem sound_strCmp {P : Program} {w : World} {op : BinOp} {x y : ByteArray} {b : Bool} (h : aCmp op (ltL (x.data.toList.map (·.toNat)) (y.data.toList.map (·.toNat))) (eqL (x.data.toList.map (·.toNat)) (y.data.toList.map (·.toNat))) = some b) :
    (Op.stringOp op x y).run P w = .ok (.bool b) w := by
  rw [ltL_map, eqL_map] at h
  cases op <;> simp only [aCmp, Option.some.injEq, reduceCtorEq] at h <;> subst h <;> simp [Op.stringOp, toList_data]

def aArith (op : BinOp) (k : IntKind) (x y : Int) : Option AV :=
  match op with
  | .add => some (.int k (k.wrap (x + y)))
  | .sub => some (.int k (k.wrap (x - y)))
  | .mul => some (.int k (k.wrap (x * y)))
  | .quo => need (!decide (y = 0)) (some (.int k (k.wrap (x.tdiv y))))
  | .rem => need (!decide (y = 0)) (some (.int k (x.tmod y)))
  | .and => some (.int k (k.wrap ((x % 2 ^ k.bits).toNat &&& (y % 2 ^ k.bits).toNat : Nat)))
  | .or => some (.int k (k.wrap ((x % 2 ^ k.bits).toNat ||| (y % 2 ^ k.bits).toNat : Nat)))
  | .xor => some (.int k (k.wrap ((x % 2 ^ k.bits).toNat ^^^ (y % 2 ^ k.bits).toNat : Nat)))
  | .andNot => some (.int k (k.wrap ((x % 2 ^ k.bits).toNat &&& (2 ^ k.bits - 1 - (y % 2 ^ k.bits).toNat) : Nat)))
  | .eql => some (.bool (decide (x = y)))
  | .neq => some (.bool (!decide (x = y)))
  | .lss => some (.bool (decide (x < y)))
  | .leq => some (.bool (decide (x ≤ y)))
  | .gtr => some (.bool (decide (y < x)))
  | .geq => some (.bool (decide (y ≤ x)))
  | _ => none

def aShift (op : BinOp) (k : IntKind) (x y : Int) : Option AV :=
  need (decide (0 ≤ y)) (match op with
    | .shl => some (.int k (k.wrap (x * 2 ^ (min y.toNat k.bits))))
    | .shr => some (.int k (x.fdiv (2 ^ (min y.toNat k.bits))))
    | _ => none)

def isShift : BinOp → Bool
  | .shl | .shr => true
  | _ => false

def isCmp : BinOp → Bool
  | .eql | .neq | .lss | .leq | .gtr | .geq => true
  | _ => false

theorem sound_arith {P : Program} {w : World} {op : BinOp} {k : IntKind} {a b : Int} {t : TypeId} {y : AV} {σ : List (Nat × Nat)} (h : aArith op k a b = some y) :
    ∃ r, (binOp op t (.int k a) (.int k b)).run P w = .ok r w ∧ Rep σ y r := by
  cases op <;> simp only [aArith, Option.some.injEq, reduceCtorEq] at h
  case quo =>
    obtain ⟨h1, h⟩ := need_some h
    cases h
    have h1' : ¬ b = 0 := by simpa using h1
    exact ⟨.int k (k.wrap (a.tdiv b)), by simp [binOp, Op.intDiv, h1'], by simp [Rep]⟩
  case rem =>
    obtain ⟨h1, h⟩ := need_some h
    cases h
    have h1' : ¬ b = 0 := by simpa using h1
    exact ⟨.int k (a.tmod b), by simp [binOp, Op.intDiv, h1'], by simp [Rep]⟩
  all_goals subst h
  case add => exact ⟨_, by simp [binOp, Op.intArith]; rfl, by simp only [Rep]⟩
  case sub => exact ⟨_, by simp [binOp, Op.intArith]; rfl, by simp only [Rep]⟩
  case mul => exact ⟨_, by simp [binOp, Op.intArith]; rfl, by simp only [Rep]⟩
  case and => exact ⟨_, by simp [binOp, Op.intBits]; rfl, by simp only [Rep]⟩
  case or => exact ⟨_, by simp [binOp, Op.intBits]; rfl, by simp only [Rep]⟩
  case xor => exact ⟨_, by simp [binOp, Op.intBits]; rfl, by simp only [Rep]⟩
  case andNot => exact ⟨_, by simp [binOp, Op.intBits]; rfl, by simp only [Rep]⟩
  case eql => exact ⟨.bool (a == b), by simp [binOp, Op.intCmp], by simp only [Rep]; rfl⟩
  case neq => exact ⟨.bool (a != b), by simp [binOp, Op.intCmp], by simp only [Rep]; rfl⟩
  case lss => exact ⟨.bool (decide (a < b)), by simp [binOp, Op.intCmp], by simp only [Rep]⟩
  case leq => exact ⟨.bool (decide (a ≤ b)), by simp [binOp, Op.intCmp], by simp only [Rep]⟩
  case gtr => exact ⟨.bool (decide (b < a)), by simp [binOp, Op.intCmp], by simp only [Rep]⟩
  case geq => exact ⟨.bool (decide (b ≤ a)), by simp [binOp, Op.intCmp], by simp only [Rep]⟩

theorem sound_shift {P : Program} {w : World} {op : BinOp} {k yk : IntKind} {a b : Int} {t : TypeId} {y : AV} {σ : List (Nat × Nat)} (h : aShift op k a b = some y) :
    ∃ r, (binOp op t (.int k a) (.int yk b)).run P w = .ok r w ∧ Rep σ y r := by
  obtain ⟨h1, h⟩ := need_some h
  have h1' : ¬ b < 0 := by have := of_decide_eq_true h1; omega
  cases op <;> simp only [Option.some.injEq, reduceCtorEq] at h
  all_goals
    subst h
    exact ⟨_, by simp [binOp, Op.shift, h1']; rfl, by simp only [Rep]⟩
end Go.Abs
