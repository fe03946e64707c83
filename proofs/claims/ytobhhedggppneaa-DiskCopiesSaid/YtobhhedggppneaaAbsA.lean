/- Abstract values, an abstract heap, and what they say of a world: the ground of a small interpreter whose answers are proved to hold of every run. -/
import Derived.Orders
import Derived.LoopN
import Derived.Below
import Derived.Laws.Entries
namespace Go.Abs
open Go.RowKit (Below)

/-- A trie over the binary digits of a number. -/
inductive Tr (α : Type) where
  | nil
  | node (l : Tr α) (v : Option α) (r : Tr α)

def Tr.get {α : Type} : Nat → Tr α → Nat → Option α
  | _, .nil, _ => none
  | 0, .node _ v _, _ => v
  | d + 1, .node l _ r, n => cond (Nat.beq (n % 2) 0) (Tr.get d l (n / 2)) (Tr.get d r (n / 2))

def Tr.set {α : Type} : Nat → Tr α → Nat → Option α → Tr α
  | 0, _, _, x => .node .nil x .nil
  | d + 1, .nil, n, x => cond (Nat.beq (n % 2) 0) (.node (Tr.set d .nil (n / 2) x) none .nil) (.node .nil none (Tr.set d .nil (n / 2) x))
  | d + 1, .node l v r, n, x => cond (Nat.beq (n % 2) 0) (.node (Tr.set d l (n / 2) x) v r) (.node l v (Tr.set d r (n / 2) x))

theorem ble_true {a b : Nat} (h : a ≤ b) : Nat.ble a b = true := by rw [Nat.ble_eq]; exact h
theorem ble_false {a b : Nat} (h : ¬ a ≤ b) : Nat.ble a b = false := by
  cases hh : Nat.ble a b with
  | false => rfl
  | true => rw [Nat.ble_eq] at hh; exact absurd hh h
theorem beq10 : Nat.beq 1 0 = false := rfl

theorem mod_two_pow (d n m : Nat) : n % 2 ^ (d + 1) = m % 2 ^ (d + 1) ↔ n % 2 = m % 2 ∧ (n / 2) % 2 ^ d = (m / 2) % 2 ^ d := by
  rw [Nat.pow_succ, Nat.mul_comm, Nat.mod_mul, Nat.mod_mul]
  omega

theorem Tr.get_nil {α : Type} (d n : Nat) : Tr.get d (.nil : Tr α) n = none := by cases d <;> rfl

theorem Tr.get_set {α : Type} : ∀ (d : Nat) (t : Tr α) (n m : Nat) (x : Option α),
    Tr.get d (Tr.set d t n x) m = if n % 2 ^ d = m % 2 ^ d then x else Tr.get d t m
  | 0, t, n, m, x => by simp [Tr.set, Tr.get, Nat.mod_one]
  | d + 1, .nil, n, m, x => by
    have ih := Tr.get_set d (.nil : Tr α) (n / 2) (m / 2) x
    rw [Tr.get_nil]
    simp only [Tr.set, mod_two_pow]
    rcases Nat.mod_two_eq_zero_or_one n with hn | hn <;> rcases Nat.mod_two_eq_zero_or_one m with hm | hm <;> simp [hn, hm, Tr.get, ih, Tr.get_nil, beq10]
  | d + 1, .node l v r, n, m, x => by
    have ih := Tr.get_set d l (n / 2) (m / 2) x
    have ih' := Tr.get_set d r (n / 2) (m / 2) x
    simp only [Tr.set, mod_two_pow]
    rcases Nat.mod_two_eq_zero_or_one n with hn | hn <;> rcases Nat.mod_two_eq_zero_or_one m with hm | hm <;> simp [hn, hm, Tr.get, ih, ih', beq10]

/-- What is known of a value. 'top': nothing. Blocks bear the interpreter's own numbers. -/
inductive AV where
  | top
  | bool (b : Bool)
  | int (k : IntKind) (n : Int)
  | str (s : List Nat)
  | nilptr
  | ptr (b off : Nat)
  | nilslice
  | slice (b off len : Nat) (cap : Option Nat) (esz : Nat)
  | nilmap
  | map (b : Nat)
  | nilfunc
  | func (fn : FuncId) (first captured : List AV)
  | agg (cs : List AV)
  | tuple (vs : List AV)
  | niliface
  | iface (t : TypeId) (v : AV)
  | anyBool
  | anyInt (k : IntKind)
  | anyStr
  | cls (k : IntKind) (m r : Nat)

mutual
def Rep (σ : List (Nat × Nat)) : AV → Value → Prop
  | .top, _ => True
  | .bool b, v => v = .bool b
  | .int k n, v => v = .int k n
  | .str l, v => ∃ s : ByteArray, v = .string s ∧ s.data.toList.map (·.toNat) = l
  | .nilptr, v => v = .pointer none
  | .ptr b off, v => ∃ a n, σ[b]? = some (a, n) ∧ v = .pointer (some ⟨a, off, none⟩)
  | .nilslice, v => v = .slice none 0 0
  | .slice b off len cap esz, v => ∃ a n c, σ[b]? = some (a, n) ∧ v = .slice (some ⟨a, off, none⟩) len c ∧
      match cap with
      | some c' => c = c'
      | none => off + c * esz = n ∧ len ≤ c
  | .nilmap, v => v = .map none
  | .map b, v => ∃ a n, σ[b]? = some (a, n) ∧ v = .map (some a)
  | .nilfunc, v => v = .nilFunc
  | .func fn fs cs, v => ∃ f c, v = .func (.func fn) f c ∧ RepL σ fs f.toList ∧ RepL σ cs c.toList
  | .agg cs, v => ∃ l, v = .agg l ∧ RepL σ cs l.toList
  | .tuple cs, v => ∃ l, v = .tuple l ∧ RepL σ cs l.toList
  | .niliface, v => v = .nilIface
  | .iface t x, v => ∃ y, v = .iface t y ∧ Rep σ x y
  | .anyBool, v => ∃ b, v = .bool b
  | .anyInt k, v => ∃ n, v = .int k n
  | .anyStr, v => ∃ s, v = .string s
  | .cls k m r, v => ∃ n : Nat, v = .int k n ∧ n % m = r ∧ n < 256
def RepL (σ : List (Nat × Nat)) : List AV → List Value → Prop
  | [], l => l = []
  | x :: xs, l => ∃ y ys, l = y :: ys ∧ Rep σ x y ∧ RepL σ xs ys
end

theorem getElem?_prefix {σ σ' : List (Nat × Nat)} (h : σ <+: σ') {b : Nat} {p : Nat × Nat} (hb : σ[b]? = some p) : σ'[b]? = some p := by
  obtain ⟨t, rfl⟩ := h
  have : b < σ.length := by
    rcases Nat.lt_or_ge b σ.length with h | h
    · exact h
    · simp [List.getElem?_eq_none h] at hb
  rw [List.getElem?_append_left this]; exact hb

mutual
theorem Rep.mono' {σ σ' : List (Nat × Nat)} (h : σ <+: σ') : ∀ (x : AV) (v : Value), Rep σ x v → Rep σ' x v
  | .top, _, _ => by simp only [Rep]
  | .bool _, _, hx => by simp only [Rep] at hx ⊢; exact hx
  | .int _ _, _, hx => by simp only [Rep] at hx ⊢; exact hx
  | .str _, _, hx => by simp only [Rep] at hx ⊢; exact hx
  | .nilptr, _, hx => by simp only [Rep] at hx ⊢; exact hx
  | .nilslice, _, hx => by simp only [Rep] at hx ⊢; exact hx
  | .nilmap, _, hx => by simp only [Rep] at hx ⊢; exact hx
  | .nilfunc, _, hx => by simp only [Rep] at hx ⊢; exact hx
  | .niliface, _, hx => by simp only [Rep] at hx ⊢; exact hx
  | .anyBool, _, hx => by simp only [Rep] at hx ⊢; exact hx
  | .anyInt _, _, hx => by simp only [Rep] at hx ⊢; exact hx
  | .anyStr, _, hx => by simp only [Rep] at hx ⊢; exact hx
  | .cls _ _ _, _, hx => by simp only [Rep] at hx ⊢; exact hx
  | .ptr _ _, _, hx => by simp only [Rep] at hx ⊢; obtain ⟨a, n, h1, h2⟩ := hx; exact ⟨a, n, getElem?_prefix h h1, h2⟩
  | .slice _ _ _ _ _, _, hx => by simp only [Rep] at hx ⊢; obtain ⟨a, n, c, h1, h2⟩ := hx; exact ⟨a, n, c, getElem?_prefix h h1, h2⟩
  | .map _, _, hx => by simp only [Rep] at hx ⊢; obtain ⟨a, n, h1, h2⟩ := hx; exact ⟨a, n, getElem?_prefix h h1, h2⟩
  | .func _ fs cs, _, hx => by simp only [Rep] at hx ⊢; obtain ⟨f, c, h1, h2, h3⟩ := hx; exact ⟨f, c, h1, RepL.mono' h fs _ h2, RepL.mono' h cs _ h3⟩
  | .agg cs, _, hx => by simp only [Rep] at hx ⊢; obtain ⟨l, h1, h2⟩ := hx; exact ⟨l, h1, RepL.mono' h cs _ h2⟩
  | .tuple cs, _, hx => by simp only [Rep] at hx ⊢; obtain ⟨l, h1, h2⟩ := hx; exact ⟨l, h1, RepL.mono' h cs _ h2⟩
  | .iface _ y, _, hx => by simp only [Rep] at hx ⊢; obtain ⟨u, h1, h2⟩ := hx; exact ⟨u, h1, Rep.mono' h y _ h2⟩
theorem RepL.mono' {σ σ' : List (Nat × Nat)} (h : σ <+: σ') : ∀ (xs : List AV) (vs : List Value), RepL σ xs vs → RepL σ' xs vs
  | [], _, hx => by simp only [RepL] at hx ⊢; exact hx
  | x :: xs, _, hx => by simp only [RepL] at hx ⊢; obtain ⟨y, ys, h1, h2, h3⟩ := hx; exact ⟨y, ys, h1, Rep.mono' h x _ h2, RepL.mono' h xs _ h3⟩
end
theorem Rep.mono {σ σ' : List (Nat × Nat)} (h : σ <+: σ') {x : AV} {v : Value} (hx : Rep σ x v) : Rep σ' x v := Rep.mono' h x v hx
theorem RepL.mono {σ σ' : List (Nat × Nat)} (h : σ <+: σ') {xs : List AV} {vs : List Value} (hx : RepL σ xs vs) : RepL σ' xs vs := RepL.mono' h xs vs hx

theorem RepL.length {σ : List (Nat × Nat)} : ∀ {xs : List AV} {vs : List Value}, RepL σ xs vs → xs.length = vs.length
  | [], _, h => by simp only [RepL] at h; subst h; rfl
  | _ :: _, _, h => by simp only [RepL] at h; obtain ⟨y, ys, rfl, _, h3⟩ := h; simp [h3.length]

theorem RepL.get {σ : List (Nat × Nat)} : ∀ {xs : List AV} {vs : List Value}, RepL σ xs vs → ∀ (i : Nat) (x : AV), xs[i]? = some x → ∃ v, vs[i]? = some v ∧ Rep σ x v
  | [], _, _, i, x, hi => by simp at hi
  | x :: xs, _, h, i, z, hi => by
    simp only [RepL] at h
    obtain ⟨y, ys, rfl, h2, h3⟩ := h
    cases i with
    | zero => simp at hi; subst hi; exact ⟨y, by simp, h2⟩
    | succ i => simpa using h3.get i z (by simpa using hi)

theorem RepL.of_get {σ : List (Nat × Nat)} : ∀ {xs : List AV} {vs : List Value}, xs.length = vs.length → (∀ (i : Nat) (x : AV), xs[i]? = some x → ∃ v, vs[i]? = some v ∧ Rep σ x v) → RepL σ xs vs
  | [], vs, hl, _ => by simp only [RepL]; exact List.length_eq_zero_iff.1 (by simpa using hl.symm)
  | x :: xs, vs, hl, h => by
    cases vs with
    | nil => simp at hl
    | cons y ys =>
      simp only [RepL]
      refine ⟨y, ys, rfl, ?_, RepL.of_get (by simpa using hl) (fun i z hi => by simpa using h (i + 1) z (by simpa using hi))⟩
      obtain ⟨v, h1, h2⟩ := h 0 x (by simp)
      simp at h1; subst h1; exact h2

theorem RepL.append {σ : List (Nat × Nat)} : ∀ {xs ys : List AV} {vs ws : List Value}, RepL σ xs vs → RepL σ ys ws → RepL σ (xs ++ ys) (vs ++ ws)
  | [], _, _, _, h, h' => by simp only [RepL] at h; subst h; exact h'
  | x :: xs, _, _, _, h, h' => by
    simp only [RepL] at h
    obtain ⟨y, ys, rfl, h2, h3⟩ := h
    simp only [List.cons_append, RepL]
    exact ⟨y, _, rfl, h2, h3.append h'⟩

/-- What is known of a block. -/
inductive AO where
  | cells (c : List AV) (opn : Bool) (elem : TypeId) (sh : Bool)
  | map (es : List (AV × AV × Nat)) (clock : Nat)
  | iter (m : Option Nat) (since : Nat) (seen : List Nat) (stepped : Nat)

def RepE (σ : List (Nat × Nat)) : List (AV × AV × Nat) → List MapEntry → Prop
  | [], l => l = []
  | x :: xs, l => ∃ y ys, l = y :: ys ∧ Rep σ x.1 y.key ∧ Rep σ x.2.1 y.val ∧ y.born = x.2.2 ∧ RepE σ xs ys

theorem RepE.mono {σ σ' : List (Nat × Nat)} (h : σ <+: σ') : ∀ {xs : List (AV × AV × Nat)} {vs : List MapEntry}, RepE σ xs vs → RepE σ' xs vs
  | [], _, hx => hx
  | _ :: _, _, hx => let ⟨y, ys, h1, h2, h3, h4, h5⟩ := hx; ⟨y, ys, h1, h2.mono h, h3.mono h, h4, RepE.mono h h5⟩

/-- What the known cells of a row are. -/
def Pre (σ : List (Nat × Nat)) (c : List AV) (l : List Value) : Prop := ∀ (i : Nat) (x : AV), c[i]? = some x → ∃ v, l[i]? = some v ∧ Rep σ x v

/-- A row from which a string may be made without a copy: the mark behind its end. -/
def mark (sh : Bool) (n : Nat) : Nat × Nat := cond sh (n, n + 1) (0, 0)

def RepO (σ : List (Nat × Nat)) (n : Nat) : AO → Obj → Prop
  | .cells c opn e sh, o => ∃ l, o = .cells l e (mark sh n) ∧ l.size = n ∧ Pre σ c l.toList ∧ (opn = false → c.length = n)
  | .map es clock, o => ∃ l, o = .map l clock ∧ RepE σ es l.toList
  | .iter none since seen st, o => o = .mapIter none since seen.toArray st
  | .iter (some b) since seen st, o => ∃ a n, σ[b]? = some (a, n) ∧ o = .mapIter (some a) since seen.toArray st

theorem Pre.mono {σ σ' : List (Nat × Nat)} (h : σ <+: σ') {c : List AV} {l : List Value} (hp : Pre σ c l) : Pre σ' c l :=
  fun i x hi => let ⟨v, h1, h2⟩ := hp i x hi; ⟨v, h1, h2.mono h⟩

theorem RepO.mono {σ σ' : List (Nat × Nat)} (h : σ <+: σ') {n : Nat} {x : AO} {o : Obj} (hx : RepO σ n x o) : RepO σ' n x o := by
  match x with
  | .cells c opn e fz => obtain ⟨l, h1, h2, h3, h4⟩ := hx; exact ⟨l, h1, h2, h3.mono h, h4⟩
  | .map es clock => obtain ⟨l, h1, h2⟩ := hx; exact ⟨l, h1, h2.mono h⟩
  | .iter none .. => exact hx
  | .iter (some b) .. => obtain ⟨a, n, h1, h2⟩ := hx; exact ⟨a, n, getElem?_prefix h h1, h2⟩

/-- The abstract heap: at most 2^14 blocks. -/
structure Heap where
  objs : Tr AO
  next : Nat

def Heap.get (h : Heap) (b : Nat) : Option AO := cond (Nat.ble 16384 b) none (h.objs.get 14 b)
def Heap.put (h : Heap) (b : Nat) (o : Option AO) : Heap := ⟨h.objs.set 14 b o, h.next⟩
def Heap.alloc (h : Heap) (o : AO) : Option Heap := cond (Nat.ble 16384 h.next) none (some ⟨h.objs.set 14 h.next (some o), h.next + 1⟩)
def Heap.empty : Heap := ⟨.nil, 0⟩

theorem Heap.get_lt {h : Heap} {b : Nat} {o : AO} (hb : h.get b = some o) : b < 16384 := by
  unfold Heap.get at hb
  rcases Nat.lt_or_ge b 16384 with h1 | h1
  · exact h1
  · rw [ble_true h1] at hb; cases hb

theorem Heap.get_put {h : Heap} {b c : Nat} {x : AO} {o : Option AO} (hb : h.get b = some x) : (h.put b o).get c = if b = c then o else h.get c := by
  have hlt := Heap.get_lt hb
  unfold Heap.get Heap.put
  by_cases hc : 16384 ≤ c
  · rw [ble_true hc, if_neg (by omega)]; rfl
  · rw [ble_false hc]
    simp only [cond_false, Tr.get_set, Nat.reducePow]
    rw [Nat.mod_eq_of_lt hlt, Nat.mod_eq_of_lt (by omega : c < 16384)]

theorem Heap.get_alloc {h h' : Heap} {c : Nat} {o : AO} (ha : h.alloc o = some h') : h'.next = h.next + 1 ∧ h'.get c = if h.next = c then some o else h.get c := by
  unfold Heap.alloc at ha
  by_cases hn : 16384 ≤ h.next
  · rw [ble_true hn] at ha; cases ha
  · rw [ble_false hn] at ha
    simp only [cond_false, Option.some.injEq] at ha
    subst ha
    refine ⟨rfl, ?_⟩
    unfold Heap.get
    by_cases hc : 16384 ≤ c
    · rw [ble_true hc, if_neg (by omega)]; rfl
    · rw [ble_false hc]
      simp only [cond_false, Tr.get_set, Nat.reducePow]
      rw [Nat.mod_eq_of_lt (by omega : h.next < 16384), Nat.mod_eq_of_lt (by omega : c < 16384)]

/-- The abstract heap speaks of the world w, which began as W0. -/
structure Sim (σ : List (Nat × Nat)) (H : Heap) (W0 w : World) : Prop where
  below : Below W0.heap.size W0 w
  len : σ.length = H.next
  here : ∀ (b a n : Nat), σ[b]? = some (a, n) → W0.heap.size ≤ a ∧ a < w.heap.size
  inj : ∀ (b b' a n n' : Nat) (o o' : AO), H.get b = some o → H.get b' = some o' → σ[b]? = some (a, n) → σ[b']? = some (a, n') → b = b'
  obj : ∀ (b : Nat) (o : AO), H.get b = some o → ∃ (a n : Nat) (ob : Obj), σ[b]? = some (a, n) ∧ w.heap[a]? = some ob ∧ RepO σ n o ob

theorem Sim.start (W : World) : Sim [] .empty W W where
  below := Below.refl _ _
  len := rfl
  here := by intro b a n h; simp at h
  inj := by intro b b' a n n' o o' h; simp [Heap.get, Heap.empty, Tr.get_nil] at h
  obj := by intro b o h; simp [Heap.get, Heap.empty, Tr.get_nil] at h

theorem Sim.drew {σ : List (Nat × Nat)} {H : Heap} {W0 w : World} (h : Sim σ H W0 w) (n : Nat) : Sim σ H W0 { w with drawn := n } :=
  ⟨⟨h.below.os, h.below.tape, h.below.output, h.below.size, h.below.block⟩, h.len, h.here, h.inj, h.obj⟩

/-- A new block. -/
theorem Sim.alloc {σ : List (Nat × Nat)} {H H' : Heap} {W0 w : World} (h : Sim σ H W0 w) {o : AO} {ob : Obj} {n : Nat} (ha : H.alloc o = some H') (ho : RepO σ n o ob) :
    Sim (σ ++ [(w.heap.size, n)]) H' W0 { w with heap := w.heap.push ob } ∧ (σ ++ [(w.heap.size, n)])[H.next]? = some (w.heap.size, n) := by
  have hg := fun c => Heap.get_alloc (c := c) ha
  have hlast : (σ ++ [(w.heap.size, n)])[H.next]? = some (w.heap.size, n) := by rw [← h.len]; simp
  have hpre : σ <+: σ ++ [(w.heap.size, n)] := ⟨_, rfl⟩
  have hold : ∀ b a n', (σ ++ [(w.heap.size, n)])[b]? = some (a, n') → (σ[b]? = some (a, n') ∧ b < H.next) ∨ (b = H.next ∧ a = w.heap.size ∧ n' = n) := by
    intro b a n' hb
    rcases Nat.lt_trichotomy b σ.length with h1 | h1 | h1
    · rw [List.getElem?_append_left h1] at hb; exact .inl ⟨hb, h.len ▸ h1⟩
    · subst h1; simp at hb; exact .inr ⟨h.len, hb.1.symm, hb.2.symm⟩
    · rw [List.getElem?_append_right (by omega)] at hb
      have : b - σ.length ≠ 0 := by omega
      obtain ⟨k, hk⟩ : ∃ k, b - σ.length = k + 1 := ⟨b - σ.length - 1, by omega⟩
      rw [hk] at hb; simp at hb
  refine ⟨⟨?_, ?_, ?_, ?_, ?_⟩, hlast⟩
  · exact (h.below.trans ⟨rfl, rfl, rfl, by simp, fun k hk => by
      have := h.below.size
      show (w.heap.push ob)[k]? = _
      rw [Array.getElem?_push, if_neg (by omega)]⟩)
  · simp [h.len, (hg 0).1]
  · intro b a n' hb
    simp only [Array.size_push]
    rcases hold b a n' hb with ⟨h1, _⟩ | ⟨_, h1, _⟩
    · have := h.here b a n' h1; omega
    · have := h.below.size; omega
  · intro b b' a n1 n2 o1 o2 h1 h2 h3 h4
    rw [(hg b).2] at h1; rw [(hg b').2] at h2
    rcases hold b a n1 h3 with ⟨h5, h6⟩ | ⟨h5, h6, _⟩ <;> rcases hold b' a n2 h4 with ⟨h7, h8⟩ | ⟨h7, h8, _⟩
    · rw [if_neg (by omega)] at h1 h2
      exact h.inj b b' a n1 n2 o1 o2 h1 h2 h5 h7
    · have := (h.here b a n1 h5).2; omega
    · have := (h.here b' a n2 h7).2; omega
    · omega
  · intro b o1 h1
    rw [(hg b).2] at h1
    by_cases hb : H.next = b
    · rw [if_pos hb] at h1; cases h1; subst hb
      exact ⟨w.heap.size, n, ob, hlast, by simp, ho.mono hpre⟩
    · rw [if_neg hb] at h1
      obtain ⟨a, n', ob', h2, h3, h4⟩ := h.obj b o1 h1
      refine ⟨a, n', ob', getElem?_prefix hpre h2, ?_, h4.mono hpre⟩
      have := (h.here b a n' h2).2
      show (w.heap.push ob)[a]? = _
      rw [Array.getElem?_push, if_neg (by omega)]; exact h3

/-- One block is turned, or nothing is said of it any more. -/
theorem Sim.turn {σ : List (Nat × Nat)} {H : Heap} {W0 w w' : World} (h : Sim σ H W0 w) {b a n : Nat} {o : AO} {o' : Option AO} {ob' : Obj} (hb : H.get b = some o) (hσ : σ[b]? = some (a, n))
    (hs : w'.heap.size = w.heap.size) (hw : w'.heap[a]? = some ob') (hk : ∀ k, k ≠ a → w'.heap[k]? = w.heap[k]?)
    (h1 : w'.os = w.os) (h2 : w'.tape = w.tape) (h3 : w'.output = w.output) (ho : ∀ x, o' = some x → RepO σ n x ob') : Sim σ (H.put b o') W0 w' := by
  have ha := h.here b a n hσ
  have hg := fun c => Heap.get_put (c := c) (o := o') hb
  refine ⟨h.below.trans ⟨h1, h2, h3, by omega, fun k hk' => hk k (by omega)⟩, h.len, ?_, ?_, ?_⟩
  · intro b a n hb; rw [hs]; exact h.here b a n hb
  · intro b1 b2 a1 n1 n2 o1 o2 g1 g2
    rw [hg] at g1 g2
    have e1 : ∃ x, H.get b1 = some x := by by_cases hc : b = b1; exact ⟨o, hc ▸ hb⟩; exact ⟨o1, by rw [if_neg hc] at g1; exact g1⟩
    have e2 : ∃ x, H.get b2 = some x := by by_cases hc : b = b2; exact ⟨o, hc ▸ hb⟩; exact ⟨o2, by rw [if_neg hc] at g2; exact g2⟩
    obtain ⟨x1, e1⟩ := e1; obtain ⟨x2, e2⟩ := e2
    exact h.inj b1 b2 a1 n1 n2 x1 x2 e1 e2
  · intro c x g
    rw [hg] at g
    by_cases hc : b = c
    · subst hc; rw [if_pos rfl] at g
      exact ⟨a, n, ob', hσ, hw, ho x g⟩
    · rw [if_neg hc] at g
      obtain ⟨a2, n2, ob2, g1, g2, g3⟩ := h.obj c x g
      refine ⟨a2, n2, ob2, g1, ?_, g3⟩
      rw [hk a2 (fun e => hc (by subst e; exact h.inj b c a2 n n2 o x hb g hσ g1))]
      exact g2
end Go.Abs
