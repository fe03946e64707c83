/- More operations of the small interpreter: comparisons, conversions, literals, slices of slices; what each answers, and that it holds of the world. -/
import Derived.Test.YtobhhedggppneaaAbsC
import Derived.Laws.BytesString
namespace Go.Abs
open Go.RowKit (Below)

theorem Sim.congr {σ : List (Nat × Nat)} {H : Heap} {W0 w w' : World} (h : Sim σ H W0 w) (h1 : w'.heap = w.heap) (h2 : w'.os = w.os) (h3 : w'.tape = w.tape) (h4 : w'.output = w.output) : Sim σ H W0 w' :=
  ⟨⟨h2.trans h.below.os, h3.trans h.below.tape, h4.trans h.below.output, by rw [h1]; exact h.below.size, fun k hk => by rw [h1]; exact h.below.block k hk⟩, h.len,
    fun b a n hb => by rw [h1]; exact h.here b a n hb, h.inj, fun b o hb => by rw [h1]; exact h.obj b o hb⟩

theorem valOK_new' {P : Program} {σ : List (Nat × Nat)} {W0 w w' : World} {s : Sem Value} {H : Heap} {o : AO} {mk : Nat → AV} {outs : List (AV × Heap)} {ob : Obj} {n : Nat} {v : Value}
    (h : aNew H o mk = some outs) (hs : Sim σ H W0 w) (ho : RepO σ n o ob) (hr : s.run P w = .ok v w') (h1 : w'.heap = w.heap.push ob) (h2 : w'.os = w.os) (h3 : w'.tape = w.tape) (h4 : w'.output = w.output)
    (hv : ∀ σ' : List (Nat × Nat), σ'[H.next]? = some (w.heap.size, n) → Rep σ' (mk H.next) v) : ValOK P σ W0 s w outs := by
  unfold aNew at h
  obtain ⟨H', ha, h⟩ := Option.bind_eq_some_iff.1 h
  cases h
  obtain ⟨g1, g2⟩ := hs.alloc ha ho
  exact ⟨_, List.mem_singleton.2 rfl, _, v, _, hr, ⟨_, rfl⟩, g1.congr h1 h2 h3 h4, hv _ g2⟩

/-- Equality of what is no number and no string. -/
def aEq : TypeDesc → AV → AV → Option Bool
  | .bool, .bool a, .bool b => some (a == b)
  | .pointer _, .nilptr, .nilptr => some true
  | .pointer _, .nilptr, .ptr _ _ => some false
  | .pointer _, .ptr _ _, .nilptr => some false
  | .slice _, .nilslice, .nilslice => some true
  | .slice _, .nilslice, .slice _ _ _ _ _ => some false
  | .slice _, .slice _ _ _ _ _, .nilslice => some false
  | .map _ _, .nilmap, .nilmap => some true
  | .map _ _, .nilmap, .map _ => some false
  | .map _ _, .map _, .nilmap => some false
  | .func _ _ _, .nilfunc, .nilfunc => some true
  | .func _ _ _, .nilfunc, .func _ _ _ => some false
  | .func _ _ _, .func _ _ _, .nilfunc => some false
  | .interface _, .niliface, .iface _ _ => some false
  | .interface _, .iface _ _, .niliface => some false
  | _, _, _ => none

theorem eqIn {P : Program} {σ : List (Nat × Nat)} {w : World} {t : TypeId} {d : TypeDesc} {x y : AV} {v u : Value} {b : Bool} (hd : P.underlying t = some d)
    (h : aEq d x y = some b) (hx : Rep σ x v) (hy : Rep σ y u) (n : Nat) : (Op.equalIn (n + 1) t v u).run P w = .ok b w ∧
      (∀ op x' y', (eqGuard op t x' y' v u) = pure ()) ∧ binOp .eql t v u = (do pure (.bool (← Op.equal t v u))) ∧ binOp .neq t v u = (do pure (.bool (!(← Op.equal t v u)))) := by
  unfold aEq at h
  split at h <;> simp only [Option.some.injEq, reduceCtorEq] at h <;> subst h <;> simp only [Rep] at hx hy
  case h_1 => subst hx hy; exact ⟨by simp [Op.equalIn, run_underlying hd], fun op _ _ => by cases op <;> rfl, rfl, rfl⟩
  case h_2 => subst hx hy; exact ⟨by simp [Op.equalIn, run_underlying hd], fun op _ _ => by cases op <;> rfl, rfl, rfl⟩
  case h_3 => subst hx; obtain ⟨a, m, _, rfl⟩ := hy; exact ⟨by simp [Op.equalIn, run_underlying hd], fun op _ _ => by cases op <;> rfl, rfl, rfl⟩
  case h_4 => subst hy; obtain ⟨a, m, _, rfl⟩ := hx; exact ⟨by simp [Op.equalIn, run_underlying hd], fun op _ _ => by cases op <;> rfl, rfl, rfl⟩
  case h_5 => subst hx hy; exact ⟨by simp [Op.equalIn, run_underlying hd], fun op _ _ => by cases op <;> rfl, rfl, rfl⟩
  case h_6 => subst hx; obtain ⟨a, m, c, _, rfl, _⟩ := hy; exact ⟨by simp [Op.equalIn, run_underlying hd], fun op _ _ => by cases op <;> rfl, rfl, rfl⟩
  case h_7 => subst hy; obtain ⟨a, m, c, _, rfl, _⟩ := hx; exact ⟨by simp [Op.equalIn, run_underlying hd], fun op _ _ => by cases op <;> rfl, rfl, rfl⟩
  case h_8 => subst hx hy; exact ⟨by simp [Op.equalIn, run_underlying hd], fun op _ _ => by cases op <;> rfl, rfl, rfl⟩
  case h_9 => subst hx; obtain ⟨a, m, _, rfl⟩ := hy; exact ⟨by simp [Op.equalIn, run_underlying hd], fun op _ _ => by cases op <;> rfl, rfl, rfl⟩
  case h_10 => subst hy; obtain ⟨a, m, _, rfl⟩ := hx; exact ⟨by simp [Op.equalIn, run_underlying hd], fun op _ _ => by cases op <;> rfl, rfl, rfl⟩
  case h_11 => subst hx hy; exact ⟨by simp [Op.equalIn, run_underlying hd], fun op _ _ => by cases op <;> rfl, rfl, rfl⟩
  case h_12 => subst hx; obtain ⟨a, m, rfl, _⟩ := hy; exact ⟨by simp [Op.equalIn, run_underlying hd], fun op _ _ => by cases op <;> rfl, rfl, rfl⟩
  case h_13 => subst hy; obtain ⟨a, m, rfl, _⟩ := hx; exact ⟨by simp [Op.equalIn, run_underlying hd], fun op _ _ => by cases op <;> rfl, rfl, rfl⟩
  case h_14 => subst hx; obtain ⟨a, rfl, _⟩ := hy; exact ⟨by simp [Op.equalIn, run_underlying hd], fun op _ _ => by cases op <;> rfl, rfl, rfl⟩
  case h_15 => subst hy; obtain ⟨a, rfl, _⟩ := hx; exact ⟨by simp [Op.equalIn, run_underlying hd], fun op _ _ => by cases op <;> rfl, rfl, rfl⟩

theorem sound_eq {P : Program} {σ : List (Nat × Nat)} {w : World} {t : TypeId} {d : TypeDesc} {x y : AV} {v u : Value} {b : Bool} (hd : P.underlying t = some d)
    (h : aEq d x y = some b) (hx : Rep σ x v) (hy : Rep σ y u) : (Op.equal t v u).run P w = .ok b w ∧
      (∀ op x' y', (eqGuard op t x' y' v u) = pure ()) ∧ binOp .eql t v u = (do pure (.bool (← Op.equal t v u))) ∧ binOp .neq t v u = (do pure (.bool (!(← Op.equal t v u)))) :=
  eqIn hd h hx hy 9999

def eqKind : IntKind → IntKind → Bool
  | .i8, .i8 | .i16, .i16 | .i32, .i32 | .i64, .i64 | .u8, .u8 | .u16, .u16 | .u32, .u32 | .u64, .u64 => true
  | _, _ => false
theorem eqKind_eq {a b : IntKind} (h : eqKind a b = true) : a = b := by cases a <;> cases b <;> first | rfl | cases h

theorem wrap_byte {n : Nat} (h : n ≤ 1000000) : IntKind.i64.wrap (n : Int) = n := by
  have e : ((n : Int) % 2 ^ 64) = n := Int.emod_eq_of_lt (by omega) (by omega)
  simp only [IntKind.wrap, IntKind.bits, e]
  rw [if_neg (by simp; omega)]

/-- The remainder of a number of which just that is known. -/
def aRem (op : BinOp) (k k' : IntKind) (m r : Nat) (b : Int) : Option AV :=
  match op with
  | .rem => need (eqKind k k' && decide (b = (m : Int)) && !Nat.beq m 0) (some (.int k r))
  | _ => none

theorem sound_rem {P : Program} {σ : List (Nat × Nat)} {w : World} {op : BinOp} {t : TypeId} {k k' : IntKind} {m r n : Nat} {b : Int} {z : AV} (h : aRem op k k' m r b = some z) (hn : n % m = r) :
    ∃ v, (binOp op t (.int k n) (.int k' b)).run P w = .ok v w ∧ Rep σ z v := by
  cases op <;> simp only [aRem, reduceCtorEq] at h
  obtain ⟨h1, h2⟩ := need_some h
  cases h2
  simp only [Bool.and_eq_true, decide_eq_true_eq] at h1
  have hk := eqKind_eq h1.1.1
  subst hk
  have hb := h1.1.2
  subst hb
  have hm : ¬ ((m : Int) = 0) := by
    intro h0
    have h3 := h1.2
    have : m = 0 := by omega
    rw [this] at h3; cases h3
  have hm' : ¬ m = 0 := by omega
  have ht : (n : Int).tmod (m : Int) = (r : Int) := by
    rw [← hn, Int.tmod_eq_emod_of_nonneg (by omega)]
    simp
  exact ⟨.int k r, by simp [binOp, Op.intDiv, hm', ht], by simp [Rep]⟩

def aBin (P : Program) (op : BinOp) (t : TypeId) (x y : AV) : Option AV :=
  match x, y with
  | .int k a, .int k' b => cond (isShift op) (aShift op k a b) (need (eqKind k k') (aArith op k a b))
  | .cls k m r, .int k' b => aRem op k k' m r b
  | .anyInt k, .int k' _ | .int k _, .anyInt k' | .anyInt k, .anyInt k' => need (eqKind k k' && isCmp op) (some .anyBool)
  | .str a, .str b => match op with
    | .add => need (Nat.ble (a.length + b.length) 1000000) (some (.str (a ++ b)))
    | _ => (aCmp op (ltL a b) (eqL a b)).bind fun r => some (.bool r)
  | .anyStr, .str _ | .str _, .anyStr | .anyStr, .anyStr => need (isCmp op) (some .anyBool)
  | _, _ => match op with
    | .eql => (P.underlying t).bind fun d => (aEq d x y).bind fun b => some (.bool b)
    | .neq => (P.underlying t).bind fun d => (aEq d x y).bind fun b => some (.bool (!b))
    | _ => none

theorem cmp_any {P : Program} {σ : List (Nat × Nat)} {w : World} {op : BinOp} {t : TypeId} {k : IntKind} {a b : Int} (h : isCmp op = true) :
    ∃ r, (binOp op t (.int k a) (.int k b)).run P w = .ok r w ∧ Rep σ .anyBool r := by
  cases op <;> first | (cases h; done) | exact ⟨_, by simp [binOp, Op.intCmp]; rfl, by simp [Rep]⟩

theorem cmp_anyStr {P : Program} {σ : List (Nat × Nat)} {w : World} {op : BinOp} {t : TypeId} {a b : ByteArray} (h : isCmp op = true) :
    ∃ r, (binOp op t (.string a) (.string b)).run P w = .ok r w ∧ Rep σ .anyBool r := by
  cases op <;> first | (cases h; done) | exact ⟨_, rfl, by simp only [Rep]; exact ⟨_, rfl⟩⟩

theorem eqGuard_int {op : BinOp} {t : TypeId} {x y : Operand} {k : IntKind} {n : Int} {v : Value} : eqGuard op t x y (.int k n) v = pure () := by cases op <;> rfl
theorem eqGuard_str {op : BinOp} {t : TypeId} {x y : Operand} {s : ByteArray} {v : Value} : eqGuard op t x y (.string s) v = pure () := by cases op <;> rfl

theorem sound_bin {P : Program} {σ : List (Nat × Nat)} {w : World} {op : BinOp} {t : TypeId} {x y z : AV} {v u : Value} (x' y' : Operand)
    (h : aBin P op t x y = some z) (hx : Rep σ x v) (hy : Rep σ y u) : ∃ r, (do eqGuard op t x' y' v u; binOp op t v u : Sem Value).run P w = .ok r w ∧ Rep σ z r := by
  unfold aBin at h
  split at h
  · simp only [Rep] at hx hy; subst hx hy
    simp only [eqGuard_int, Sem.run_bind, Sem.run_pure, Result.andThen_ok]
    cases hs : isShift op with
    | true => rw [hs, cond_true] at h; exact sound_shift h
    | false =>
      rw [hs, cond_false] at h
      obtain ⟨h1, h2⟩ := need_some h
      have := eqKind_eq h1; subst this
      exact sound_arith h2
  · simp only [Rep] at hx hy; obtain ⟨n, rfl, hn, _⟩ := hx; subst hy
    simp only [eqGuard_int, Sem.run_bind, Sem.run_pure, Result.andThen_ok]
    exact sound_rem h hn
  · simp only [Rep] at hx hy; obtain ⟨n, rfl⟩ := hx; subst hy
    obtain ⟨h1, h⟩ := need_some h; cases h
    simp only [Bool.and_eq_true] at h1
    have := eqKind_eq h1.1; subst this
    simp only [eqGuard_int, Sem.run_bind, Sem.run_pure, Result.andThen_ok]
    exact cmp_any h1.2
  · simp only [Rep] at hx hy; obtain ⟨n, rfl⟩ := hy; subst hx
    obtain ⟨h1, h⟩ := need_some h; cases h
    simp only [Bool.and_eq_true] at h1
    have := eqKind_eq h1.1; subst this
    simp only [eqGuard_int, Sem.run_bind, Sem.run_pure, Result.andThen_ok]
    exact cmp_any h1.2
  · simp only [Rep] at hx hy; obtain ⟨n, rfl⟩ := hy; obtain ⟨m, rfl⟩ := hx
    obtain ⟨h1, h⟩ := need_some h; cases h
    simp only [Bool.and_eq_true] at h1
    have := eqKind_eq h1.1; subst this
    simp only [eqGuard_int, Sem.run_bind, Sem.run_pure, Result.andThen_ok]
    exact cmp_any h1.2
  · simp only [Rep] at hx hy; obtain ⟨a, rfl, rfl⟩ := hx; obtain ⟨b, rfl, rfl⟩ := hy
    simp only [eqGuard_str, Sem.run_bind, Sem.run_pure, Result.andThen_ok]
    split at h
    · obtain ⟨h1, h⟩ := need_some h; cases h
      simp only [List.length_map, Nat.ble_eq, Array.length_toList] at h1
      refine ⟨.string (a ++ b), ?_, ?_⟩
      · have h1' : a.size + b.size ≤ 1000000 := h1
        have : ¬ (9223372036854775807 < (a.size : Int) + (b.size : Int)) := by omega
        simp [binOp, Op.stringOp, this]
      · simp only [Rep]; exact ⟨_, rfl, by simp⟩
    · obtain ⟨r, hr, h⟩ := Option.bind_eq_some_iff.1 h
      cases h
      exact ⟨_, by have := sound_strCmp (P := P) (w := w) hr; simpa [binOp] using this, by simp [Rep]⟩
  · simp only [Rep] at hx hy; obtain ⟨n, rfl⟩ := hx; obtain ⟨b, rfl, rfl⟩ := hy
    obtain ⟨h1, h⟩ := need_some h; cases h
    simp only [eqGuard_str, Sem.run_bind, Sem.run_pure, Result.andThen_ok]
    exact cmp_anyStr h1
  · simp only [Rep] at hx hy; obtain ⟨n, rfl⟩ := hy; obtain ⟨b, rfl, rfl⟩ := hx
    obtain ⟨h1, h⟩ := need_some h; cases h
    simp only [eqGuard_str, Sem.run_bind, Sem.run_pure, Result.andThen_ok]
    exact cmp_anyStr h1
  · simp only [Rep] at hx hy; obtain ⟨n, rfl⟩ := hy; obtain ⟨b, rfl⟩ := hx
    obtain ⟨h1, h⟩ := need_some h; cases h
    simp only [eqGuard_str, Sem.run_bind, Sem.run_pure, Result.andThen_ok]
    exact cmp_anyStr h1
  · split at h
    · obtain ⟨d, hd, h⟩ := Option.bind_eq_some_iff.1 h
      obtain ⟨b, hb, h⟩ := Option.bind_eq_some_iff.1 h
      cases h
      obtain ⟨h1, h2, h3, h4⟩ := sound_eq (w := w) hd hb hx hy
      exact ⟨.bool b, by simp [h2, h3, h1], by simp [Rep]⟩
    · obtain ⟨d, hd, h⟩ := Option.bind_eq_some_iff.1 h
      obtain ⟨b, hb, h⟩ := Option.bind_eq_some_iff.1 h
      cases h
      obtain ⟨h1, h2, h3, h4⟩ := sound_eq (w := w) hd hb hx hy
      exact ⟨.bool (!b), by simp [h2, h4, h1], by simp [Rep]⟩
    · cases h

def aUn (op : UnOp) (x : AV) : Option AV :=
  match op, x with
  | .not, .bool b => some (.bool (!b))
  | .not, .anyBool => some .anyBool
  | .neg, .int k n => some (.int k (k.wrap (0 - n)))
  | .xor, .int k n => aArith .xor k (cond k.signed (-1) k.max) n
  | _, _ => none

theorem sound_un {P : Program} {σ : List (Nat × Nat)} {w : World} {op : UnOp} {x z : AV} {v : Value}
    (h : aUn op x = some z) (hx : Rep σ x v) : ∃ r, (Op.unary op v).run P w = .ok r w ∧ Rep σ z r := by
  unfold aUn at h
  split at h
  · cases h; simp only [Rep] at hx; subst hx; exact ⟨_, rfl, by simp [Rep]⟩
  · cases h; simp only [Rep] at hx; obtain ⟨b, rfl⟩ := hx; exact ⟨_, rfl, by simp [Rep]⟩
  · cases h; simp only [Rep] at hx; subst hx; exact ⟨_, rfl, by simp [Rep]⟩
  · simp only [Rep] at hx; subst hx
    rename_i k n
    obtain ⟨r, h1, h2⟩ := sound_arith (P := P) (w := w) (t := 0) (σ := σ) h
    refine ⟨r, ?_, h2⟩
    rw [← h1]
    cases k <;> simp [Op.unary, binOp, IntKind.signed]
  · cases h

theorem run_shape_cells {w : World} {a : Nat} {l : Array Value} {e : TypeId} {fz : Nat × Nat} (h : w.heap[a]? = some (.cells l e fz)) : w.shape? a = some (e, l.size) := by
  simp [World.shape?, h]

theorem freeze_heap {w : World} {a n : Nat} {l : Array Value} {e : TypeId} {sh : Bool} (h : w.heap[a]? = some (.cells l e (mark sh n))) (_ : l.size = n) :
    (w.freeze ⟨a, n, none⟩ 1).heap.size = w.heap.size ∧ (w.freeze ⟨a, n, none⟩ 1).heap[a]? = some (.cells l e (mark true n)) ∧ ∀ k, k ≠ a → (w.freeze ⟨a, n, none⟩ 1).heap[k]? = w.heap[k]? := by
  simp only [World.freeze, Nat.succ_ne_self, if_false]
  refine ⟨by simp, ?_, ?_⟩
  · simp only [Array.getElem?_modify, if_true, h, Option.map_some]
    cases sh <;> simp [mark]
  · intro k hk
    simp only [Array.getElem?_modify]
    rw [if_neg (Ne.symm hk)]

def byteOf : AV → Option Nat
  | .int .u8 (.ofNat n) => need (Nat.ble (n + 1) 256) (some n)
  | _ => none

/-- Conversions between numbers, between a string and bytes, and of bytes to bytes. -/
def aConv (P : Program) (src dst : TypeId) (x : AV) (h : Heap) : Option (List (AV × Heap)) :=
  (P.underlying src).bind fun ds => (P.underlying dst).bind fun dd =>
    match x with
    | .int _ n => match dd with
      | .int k => some [(.int k (k.wrap n), h)]
      | _ => none
    | .anyInt _ => match dd with
      | .int k => some [(.anyInt k, h)]
      | _ => none
    | .cls _ m r => match dd with
      | .int .i64 => some [(.cls .i64 m r, h)]
      | _ => none
    | .str s => match ds, dd with
      | .string, .string => some [(.str s, h)]
      | .string, .slice e => (P.underlying e).bind fun
        | .int .u8 => aNew h (.cells (s.map fun (b : Nat) => AV.int .u8 (b : Int)) true e true) fun b => .slice b 0 s.length none 1
        | _ => none
      | _, _ => none
    | .anyStr => match ds, dd with
      | .string, .string => some [(.anyStr, h)]
      | _, _ => none
    | .slice b off len cap esz => match ds, dd with
      | .slice _, .slice e => (P.underlying e).bind fun
        | .int .u8 => need (Nat.beq src dst) ((h.get b).bind fun
          | .cells c opn el _ => some [(.slice b off len cap esz, h.put b (some (.cells c opn el true)))]
          | _ => none)
        | _ => none
      | .slice e, .string => (P.underlying e).bind fun
        | .int .u8 => (aCells h b off len).bind fun cs => (cs.mapM byteOf).bind fun l => some [(.str l, h)]
        | _ => none
      | _, _ => none
    | .nilslice => match ds, dd with
      | .slice e, .string => (P.underlying e).bind fun
        | .int .u8 => some [(.str [], h)]
        | _ => none
      | _, _ => none
    | _ => none

theorem bytes_of {σ : List (Nat × Nat)} : ∀ (cs : List AV) (l : List Nat) (vs : List Value), cs.mapM byteOf = some l → RepL σ cs vs →
    vs = (l.map fun (n : Nat) => Value.int .u8 n) ∧ ∀ n ∈ l, n < 256
  | [], l, vs, h, hr => by
    simp only [List.mapM_nil, Option.pure_def, Option.some.injEq] at h
    subst h
    simp only [RepL] at hr
    subst hr
    simp
  | x :: cs, l, vs, h, hr => by
    simp only [List.mapM_cons, Option.bind_eq_bind, Option.pure_def] at h
    obtain ⟨n, hn, h⟩ := Option.bind_eq_some_iff.1 h
    obtain ⟨l', hl, h⟩ := Option.bind_eq_some_iff.1 h
    cases h
    simp only [RepL] at hr
    obtain ⟨y, ys, rfl, h2, h3⟩ := hr
    obtain ⟨e1, e2⟩ := bytes_of cs l' ys hl h3
    subst e1
    unfold byteOf at hn
    split at hn
    · obtain ⟨g1, g2⟩ := need_some hn
      cases g2
      simp only [Rep] at h2
      subst h2
      rw [Nat.ble_eq] at g1
      exact ⟨rfl, by intro m hm; rcases List.mem_cons.1 hm with rfl | hm; omega; exact e2 m hm⟩
    · cases hn

theorem foldl_push : ∀ (l : List Nat) (s : ByteArray), (∀ n ∈ l, n < 256) → ((l.map fun (n : Nat) => ((n : Nat) : Int)).foldl (fun (r : ByteArray) (n : Int) => r.push (UInt8.ofNat n.toNat)) s).data.toList.map (·.toNat) = s.data.toList.map (·.toNat) ++ l
  | [], s, _ => by simp
  | n :: l, s, h => by
    simp only [List.map_cons, List.foldl_cons]
    rw [foldl_push l _ (fun m hm => h m (List.mem_cons_of_mem _ hm))]
    have : n < 256 := h n (List.mem_cons_self ..)
    simp [ByteArray.push, Nat.mod_eq_of_lt this]

theorem sound_conv {P : Program} {σ : List (Nat × Nat)} {W0 w : World} {H : Heap} {src dst : TypeId} {x : AV} {v : Value} {outs : List (AV × Heap)}
    (h : aConv P src dst x H = some outs) (hs : Sim σ H W0 w) (hx : Rep σ x v) : ValOK P σ W0 (convert src dst v) w outs := by
  unfold aConv at h
  obtain ⟨ds, hds, h0⟩ := Option.bind_eq_some_iff.1 h
  clear h
  obtain ⟨dd, hdd, h⟩ := Option.bind_eq_some_iff.1 h0
  clear h0
  cases x <;> simp only [reduceCtorEq] at h
  case int k n =>
    split at h
    · rename_i k'
      cases h
      simp only [Rep] at hx; subst hx
      refine ValOK.one (v := .int k' (k'.wrap n)) ?_ hs (by simp [Rep])
      cases ds <;> simp [convert, run_underlying hds, run_underlying hdd, Conv.intToInt]
    · cases h
  case anyInt k =>
    split at h
    · rename_i k'
      cases h
      simp only [Rep] at hx; obtain ⟨n, rfl⟩ := hx
      refine ValOK.one (v := .int k' (k'.wrap n)) ?_ hs (by simp [Rep])
      cases ds <;> simp [convert, run_underlying hds, run_underlying hdd, Conv.intToInt]
    · cases h
  case cls k m r =>
    split at h
    · cases h
      simp only [Rep] at hx; obtain ⟨n, rfl, hn, hn2⟩ := hx
      have hw := wrap_byte (show n ≤ 1000000 by omega)
      refine ValOK.one (v := .int .i64 n) ?_ hs (by simp only [Rep]; exact ⟨n, rfl, hn, hn2⟩)
      cases ds <;> simp [convert, run_underlying hds, run_underlying hdd, Conv.intToInt, hw]
    · cases h
  case anyStr =>
    split at h
    · cases h
      simp only [Rep] at hx; obtain ⟨s, rfl⟩ := hx
      exact ValOK.one (v := .string s) (by simp [convert, run_underlying hds, run_underlying hdd]) hs (by simp [Rep])
    · cases h
  case str l =>
    simp only [Rep] at hx; obtain ⟨s, rfl, rfl⟩ := hx
    split at h
    · cases h
      exact ValOK.one (v := .string s) (by simp [convert, run_underlying hds, run_underlying hdd]) hs (by simp [Rep])
    · rename_i e
      obtain ⟨de, hde, h⟩ := Option.bind_eq_some_iff.1 h
      split at h
      · let cap := (Question.appendCap s.size 0 e).cut (w.tape w.drawn (.appendCap s.size 0 e))
        have hcap : s.size ≤ cap := Nat.le_add_right _ _
        let cs : Array Value := s.data.map (fun b => Value.int .u8 b.toNat) ++ Array.replicate (cap - s.size) (.int .u8 0)
        have hcs : cs.size = cap := by simp only [cs, Array.size_append, Array.size_map, Array.size_replicate]; show s.size + _ = _; omega
        have hpush : ({ w with heap := w.heap.push (.cells cs e), drawn := w.drawn + 1 } : World).heap[w.heap.size]? = some (.cells cs e (mark false cap)) := by simp [mark]
        obtain ⟨f1, f2, f3⟩ := freeze_heap hpush hcs
        refine valOK_new' (v := .slice (some ⟨w.heap.size, 0, none⟩) s.size cap) (n := cap) (ob := .cells cs e (mark true cap)) (w' := ({ w with heap := w.heap.push (.cells cs e), drawn := w.drawn + 1 } : World).freeze ⟨w.heap.size, cap, none⟩ 1) h hs ?_ ?_ ?_ ?_ ?_ ?_ ?_
        · refine ⟨cs, rfl, hcs, ?_, fun h => by cases h⟩
          intro i x hi
          simp only [List.getElem?_map, Option.map_eq_some_iff] at hi
          obtain ⟨b, ⟨c, hc, rfl⟩, rfl⟩ := hi
          refine ⟨.int .u8 c.toNat, ?_, by simp [Rep]⟩
          have hc' : s.data[i]? = some c := by simpa using hc
          have hlt : i < s.data.size := (Array.getElem?_eq_some_iff.1 hc').1
          simp only [cs, Array.getElem?_toList]
          rw [Array.getElem?_append_left (by simpa using hlt)]
          simp [hc']
        · have hsh := run_shape_cells hpush
          rw [hcs] at hsh
          simp only [convert, Sem.run_bind, run_underlying hds, run_underlying hdd, run_underlying hde, Result.andThen_ok, Conv.stringToBytes, run_choose, Question.forced, Bool.false_eq_true, if_false, newRow, run_newObj, Sem.run_pure, markStringish, run_shape]
          have hsh' : World.shape? { heap := w.heap.push (.cells cs e), tape := w.tape, drawn := w.drawn + 1, os := w.os, output := w.output } w.heap.size = some (e, cap) := hsh
          show Result.andThen (Sem.run P (match World.shape? { heap := w.heap.push (.cells cs e), tape := w.tape, drawn := w.drawn + 1, os := w.os, output := w.output } w.heap.size with | some (_, n) => freeze ⟨w.heap.size, n, none⟩ 1 | _ => pure ()) _) _ = _
          rw [hsh']
          simp only [run_freeze, Result.andThen_ok]
          rfl
        · apply Array.ext_getElem?
          intro k
          by_cases hk : k = w.heap.size
          · subst hk; rw [f2]; simp
          · rw [f3 k hk]; simp only [Array.getElem?_push]; rw [if_neg hk, if_neg hk]
        · simp [World.freeze]
        · simp [World.freeze]
        · simp [World.freeze]
        · intro σ' hσ
          simp only [Rep]
          exact ⟨_, _, _, hσ, by simp; rfl, by simp; exact hcap⟩
      · cases h
    · cases h
  case nilslice =>
    simp only [Rep] at hx; subst hx
    split at h
    · obtain ⟨de, hde, h⟩ := Option.bind_eq_some_iff.1 h
      split at h
      · cases h
        exact ValOK.one (v := .string .empty) (by simp [convert, run_underlying hds, run_underlying hdd, run_underlying hde, Conv.bytesToString]) hs (by simp only [Rep]; exact ⟨_, rfl, rfl⟩)
      · cases h
    · cases h
  case slice b off len cap esz =>
    simp only [Rep] at hx
    obtain ⟨a, n, c, hσ, rfl, hcap⟩ := hx
    split at h
    · obtain ⟨de, hde, h⟩ := Option.bind_eq_some_iff.1 h
      split at h
      · obtain ⟨h1, h2⟩ := need_some h
        clear h
        have hsd := Nat.eq_of_beq_eq_true h1
        subst hsd
        rw [hds] at hdd; cases hdd
        obtain ⟨o, ho, h3⟩ := Option.bind_eq_some_iff.1 h2
        clear h2
        split at h3
        · cases h3
          obtain ⟨a', m', ob, g1, g2, g3⟩ := hs.obj b _ ho
          rw [hσ] at g1; cases g1
          obtain ⟨l, rfl, h4, h5, h6⟩ := g3
          obtain ⟨f1, f2, f3⟩ := freeze_heap g2 h4
          have hsh := run_shape_cells g2
          refine ⟨_, List.mem_singleton.2 rfl, σ, .slice (some ⟨a, off, none⟩) len c, w.freeze ⟨a, n, none⟩ 1, ?_, List.prefix_refl _, ?_, ?_⟩
          · simp only [convert, Sem.run_bind, run_underlying hds, run_underlying hde, Result.andThen_ok, beq_self_eq_true, markStringish, run_shape]
            show Result.andThen (Sem.run P (match World.shape? w a with | some (_, n) => freeze ⟨a, n, none⟩ 1 | _ => pure ()) _) _ = _
            rw [hsh, h4]
            simp only [run_freeze, Result.andThen_ok]
            rfl
          · exact hs.turn ho hσ f1 f2 f3 (by simp [World.freeze]) (by simp [World.freeze]) (by simp [World.freeze]) (fun x hx => by cases hx; exact ⟨l, rfl, h4, h5, h6⟩)
          · simp only [Rep]; exact ⟨_, _, _, hσ, rfl, hcap⟩
        · cases h3
      · cases h
    · obtain ⟨de, hde, h⟩ := Option.bind_eq_some_iff.1 h
      split at h
      · obtain ⟨cs, hc, h⟩ := Option.bind_eq_some_iff.1 h
        obtain ⟨l, hl, h⟩ := Option.bind_eq_some_iff.1 h
        cases h
        obtain ⟨hlen, lv, e, fz, h1, h2, h3⟩ := aCells_rep hc hs hσ
        obtain ⟨vs, g1, g2, g3⟩ := cells_list h1 h3
        obtain ⟨e1, e2⟩ := bytes_of cs l vs hl g2
        have hload := run_loadCells_list (P := P) w ⟨a, off, none⟩ vs g3
        rw [g1, hlen, e1] at hload
        have := run_bytesToString (P := P) w ⟨a, off, none⟩ len c (l.map fun (n : Nat) => (n : Int)) (by rw [List.map_map]; exact hload)
        refine ValOK.one (by rw [run_convert_bytes_string w _ _ _ _ _ _ hds hde hdd, this]) hs ?_
        simp only [Rep]
        exact ⟨_, rfl, by rw [foldl_push l _ e2]; rfl⟩
      · cases h
    · cases h
end Go.Abs
