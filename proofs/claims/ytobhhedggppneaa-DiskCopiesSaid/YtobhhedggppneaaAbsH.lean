/- The small interpreter: registers, operations in any order that is allowed, code, calls; and the proof that what it answers holds of every run. -/
import Derived.Test.YtobhhedggppneaaAbsG
import Derived.Laws.Externs
namespace Go.Abs
open Go.RowKit (Below)

/- Equality of what the interpreter knows. -/
theorem eqL_eq : ∀ {x y : List Nat}, eqL x y = true → x = y
  | [], [], _ => rfl
  | [], _ :: _, h => by cases h
  | _ :: _, [], h => by cases h
  | a :: x, b :: y, h => by
    simp only [eqL, Bool.and_eq_true] at h
    rw [Nat.eq_of_beq_eq_true h.1, eqL_eq h.2]

def eqON : Option Nat → Option Nat → Bool
  | none, none => true
  | some a, some b => Nat.beq a b
  | _, _ => false
theorem eqON_eq {x y : Option Nat} (h : eqON x y = true) : x = y := by
  cases x <;> cases y <;> first | rfl | (cases h; done) | (rw [Nat.eq_of_beq_eq_true h])

mutual
def AV.beq : AV → AV → Bool
  | .top, .top | .nilptr, .nilptr | .nilslice, .nilslice | .nilmap, .nilmap | .nilfunc, .nilfunc | .niliface, .niliface | .anyBool, .anyBool | .anyStr, .anyStr => true
  | .bool a, .bool b => a == b
  | .int k a, .int j b => eqKind k j && decide (a = b)
  | .str a, .str b => eqL a b
  | .ptr a o, .ptr b q => Nat.beq a b && Nat.beq o q
  | .slice a o l c e, .slice b q m d f => Nat.beq a b && Nat.beq o q && Nat.beq l m && eqON c d && Nat.beq e f
  | .map a, .map b => Nat.beq a b
  | .func f x y, .func g u v => Nat.beq f g && AV.beqL x u && AV.beqL y v
  | .agg x, .agg y => AV.beqL x y
  | .tuple x, .tuple y => AV.beqL x y
  | .iface t x, .iface u y => Nat.beq t u && AV.beq x y
  | .anyInt k, .anyInt j => eqKind k j
  | .cls k m r, .cls j n q => eqKind k j && Nat.beq m n && Nat.beq r q
  | _, _ => false
def AV.beqL : List AV → List AV → Bool
  | [], [] => true
  | x :: xs, y :: ys => AV.beq x y && AV.beqL xs ys
  | _, _ => false
end

mutual
theorem AV.beq_eq : ∀ (x y : AV), AV.beq x y = true → x = y
  | .top, y, h => by cases y <;> first | rfl | (simp [AV.beq] at h; done)
  | .nilptr, y, h => by cases y <;> first | rfl | (simp [AV.beq] at h; done)
  | .nilslice, y, h => by cases y <;> first | rfl | (simp [AV.beq] at h; done)
  | .nilmap, y, h => by cases y <;> first | rfl | (simp [AV.beq] at h; done)
  | .nilfunc, y, h => by cases y <;> first | rfl | (simp [AV.beq] at h; done)
  | .niliface, y, h => by cases y <;> first | rfl | (simp [AV.beq] at h; done)
  | .anyBool, y, h => by cases y <;> first | rfl | (simp [AV.beq] at h; done)
  | .anyStr, y, h => by cases y <;> first | rfl | (simp [AV.beq] at h; done)
  | .bool a, y, h => by cases y <;> first | (simp [AV.beq] at h; done) | (simp only [AV.beq, beq_iff_eq] at h; rw [h])
  | .int k a, y, h => by cases y <;> first | (simp [AV.beq] at h; done) | (simp only [AV.beq, Bool.and_eq_true, decide_eq_true_eq] at h; rw [eqKind_eq h.1, h.2])
  | .str a, y, h => by cases y <;> first | (simp [AV.beq] at h; done) | (simp only [AV.beq] at h; rw [eqL_eq h])
  | .ptr a o, y, h => by cases y <;> first | (simp [AV.beq] at h; done) | (simp only [AV.beq, Bool.and_eq_true] at h; rw [Nat.eq_of_beq_eq_true h.1, Nat.eq_of_beq_eq_true h.2])
  | .slice a o l c e, y, h => by
    cases y <;> first
      | (simp [AV.beq] at h; done)
      | (simp only [AV.beq, Bool.and_eq_true] at h; obtain ⟨⟨⟨⟨h1, h2⟩, h3⟩, h4⟩, h5⟩ := h
         rw [Nat.eq_of_beq_eq_true h1, Nat.eq_of_beq_eq_true h2, Nat.eq_of_beq_eq_true h3, eqON_eq h4, Nat.eq_of_beq_eq_true h5])
  | .map a, y, h => by cases y <;> first | (simp [AV.beq] at h; done) | (simp only [AV.beq] at h; rw [Nat.eq_of_beq_eq_true h])
  | .func f x1 x2, y, h => by
    cases y <;> first
      | (simp [AV.beq] at h; done)
      | (simp only [AV.beq, Bool.and_eq_true] at h; obtain ⟨⟨h1, h2⟩, h3⟩ := h
         rw [Nat.eq_of_beq_eq_true h1, AV.beqL_eq x1 _ h2, AV.beqL_eq x2 _ h3])
  | .agg x, y, h => by cases y <;> first | (simp [AV.beq] at h; done) | (simp only [AV.beq] at h; rw [AV.beqL_eq x _ h])
  | .tuple x, y, h => by cases y <;> first | (simp [AV.beq] at h; done) | (simp only [AV.beq] at h; rw [AV.beqL_eq x _ h])
  | .iface t x, y, h => by cases y <;> first | (simp [AV.beq] at h; done) | (simp only [AV.beq, Bool.and_eq_true] at h; rw [Nat.eq_of_beq_eq_true h.1, AV.beq_eq x _ h.2])
  | .anyInt k, y, h => by cases y <;> first | (simp [AV.beq] at h; done) | (simp only [AV.beq] at h; rw [eqKind_eq h])
  | .cls k m r, y, h => by
    cases y <;> first
      | (simp [AV.beq] at h; done)
      | (simp only [AV.beq, Bool.and_eq_true] at h; rw [eqKind_eq h.1.1, Nat.eq_of_beq_eq_true h.1.2, Nat.eq_of_beq_eq_true h.2])
theorem AV.beqL_eq : ∀ (x y : List AV), AV.beqL x y = true → x = y
  | [], [], _ => rfl
  | [], _ :: _, h => by simp [AV.beqL] at h
  | _ :: _, [], h => by simp [AV.beqL] at h
  | a :: x, b :: y, h => by
    simp only [AV.beqL, Bool.and_eq_true] at h
    rw [AV.beq_eq a b h.1, AV.beqL_eq x y h.2]
end

def eqEs : List (AV × AV × Nat) → List (AV × AV × Nat) → Bool
  | [], [] => true
  | a :: x, b :: y => AV.beq a.1 b.1 && AV.beq a.2.1 b.2.1 && Nat.beq a.2.2 b.2.2 && eqEs x y
  | _, _ => false
theorem eqEs_eq : ∀ {x y : List (AV × AV × Nat)}, eqEs x y = true → x = y
  | [], [], _ => rfl
  | [], _ :: _, h => by cases h
  | _ :: _, [], h => by cases h
  | (a1, a2, a3) :: x, (b1, b2, b3) :: y, h => by
    simp only [eqEs, Bool.and_eq_true] at h
    obtain ⟨⟨⟨h1, h2⟩, h3⟩, h4⟩ := h
    rw [AV.beq_eq _ _ h1, AV.beq_eq _ _ h2, Nat.eq_of_beq_eq_true h3, eqEs_eq h4]

def AO.beq : AO → AO → Bool
  | .cells c o e s, .cells d p f t => AV.beqL c d && o == p && Nat.beq e f && s == t
  | .map x c, .map y d => eqEs x y && Nat.beq c d
  | .iter m a s b, .iter n c t d => eqON m n && Nat.beq a c && eqL s t && Nat.beq b d
  | _, _ => false
theorem AO.beq_eq {x y : AO} (h : AO.beq x y = true) : x = y := by
  cases x <;> cases y <;> simp only [AO.beq, Bool.and_eq_true, Bool.false_eq_true, beq_iff_eq] at h
  · obtain ⟨⟨⟨h1, h2⟩, h3⟩, h4⟩ := h; rw [AV.beqL_eq _ _ h1, h2, Nat.eq_of_beq_eq_true h3, h4]
  · rw [eqEs_eq h.1, Nat.eq_of_beq_eq_true h.2]
  · obtain ⟨⟨⟨h1, h2⟩, h3⟩, h4⟩ := h; rw [eqON_eq h1, Nat.eq_of_beq_eq_true h2, eqL_eq h3, Nat.eq_of_beq_eq_true h4]

def eqO {α : Type} (f : α → α → Bool) : Option α → Option α → Bool
  | none, none => true
  | some a, some b => f a b
  | _, _ => false
def Tr.beq {α : Type} (f : α → α → Bool) : Tr α → Tr α → Bool
  | .nil, .nil => true
  | .node l v r, .node l' v' r' => Tr.beq f l l' && eqO f v v' && Tr.beq f r r'
  | _, _ => false
theorem Tr.beq_eq {α : Type} {f : α → α → Bool} (hf : ∀ x y, f x y = true → x = y) : ∀ (x y : Tr α), Tr.beq f x y = true → x = y
  | .nil, .nil, _ => rfl
  | .nil, .node .., h => by simp [Tr.beq] at h
  | .node .., .nil, h => by simp [Tr.beq] at h
  | .node l v r, .node l' v' r', h => by
    simp only [Tr.beq, Bool.and_eq_true] at h
    obtain ⟨⟨h1, h2⟩, h3⟩ := h
    rw [Tr.beq_eq hf l l' h1, Tr.beq_eq hf r r' h3]
    cases v <;> cases v' <;> first | rfl | (cases h2; done) | rw [hf _ _ h2]

/-- The registers of a call under way, and the heap. -/
structure St where
  tm : Tr AV
  n : Nat
  h : Heap

def St.beq (s t : St) : Bool := Nat.beq s.n t.n && Nat.beq s.h.next t.h.next && Tr.beq AV.beq s.tm t.tm && Tr.beq AO.beq s.h.objs t.h.objs
theorem St.beq_eq {s t : St} (h : St.beq s t = true) : s = t := by
  simp only [St.beq, Bool.and_eq_true] at h
  obtain ⟨⟨⟨h1, h2⟩, h3⟩, h4⟩ := h
  obtain ⟨tm, n, ⟨objs, next⟩⟩ := s
  obtain ⟨tm', n', ⟨objs', next'⟩⟩ := t
  simp only at h1 h2 h3 h4
  rw [Nat.eq_of_beq_eq_true h1, Nat.eq_of_beq_eq_true h2, Tr.beq_eq AV.beq_eq _ _ h3, Tr.beq_eq (fun _ _ => AO.beq_eq) _ _ h4]

/-- Each but once. -/
def once : List St → List St
  | [] => []
  | s :: rest => let r := once rest; cond (r.any (St.beq s)) r (s :: r)
theorem mem_once {s : St} : ∀ {l : List St}, s ∈ l → s ∈ once l
  | [], h => h
  | t :: rest, h => by
    simp only [once]
    cases hc : (once rest).any (St.beq t) with
    | true =>
      simp only [cond_true]
      rcases List.mem_cons.1 h with rfl | h
      · obtain ⟨u, hu, he⟩ := List.any_eq_true.1 hc
        rw [St.beq_eq he]; exact hu
      · exact mem_once h
    | false =>
      simp only [cond_false]
      rcases List.mem_cons.1 h with rfl | h
      · exact List.mem_cons_self ..
      · exact List.mem_cons_of_mem _ (mem_once h)

def St.get (s : St) (t : Nat) : AV := cond (Nat.ble 1024 t) .top ((s.tm.get 10 t).getD .top)
def St.put (s : St) (d : Option Tmp) (v : AV) : Option St :=
  match d with
  | none => some s
  | some d => cond (Nat.ble s.n d || Nat.ble 1024 d) none (some { s with tm := s.tm.set 10 d (some v) })

structure RepT (σ : List (Nat × Nat)) (s : St) (a : Act) : Prop where
  defers : a.defers = []
  size : a.tmps.size = s.n
  reg : ∀ t : Nat, Rep σ (s.get t) (a.tmps.getD t undef)

theorem RepT.mono {σ σ' : List (Nat × Nat)} (h : σ <+: σ') {s : St} {a : Act} (hr : RepT σ s a) : RepT σ' s a := ⟨hr.defers, hr.size, fun t => (hr.reg t).mono h⟩

theorem St.put_spec {σ : List (Nat × Nat)} {s s' : St} {d : Option Tmp} {v : AV} {x : Value} {a : Act} (h : s.put d v = some s') (hr : RepT σ s a) (hv : Rep σ v x) : RepT σ s' (a.put d x) ∧ s'.h = s.h := by
  cases d with
  | none => cases h; exact ⟨hr, rfl⟩
  | some d =>
    simp only [St.put] at h
    cases hc : (Nat.ble s.n d || Nat.ble 1024 d) with
    | true => rw [hc] at h; cases h
    | false =>
      rw [hc, cond_false] at h
      cases h
      simp only [Bool.or_eq_false_iff] at hc
      have h1 : d < s.n := Nat.lt_of_not_le fun hh => by rw [ble_true hh] at hc; cases hc.1
      have h2 : d < 1024 := Nat.lt_of_not_le fun hh => by rw [ble_true hh] at hc; cases hc.2
      refine ⟨⟨hr.defers, by simp [Act.put, hr.size], ?_⟩, rfl⟩
      intro t
      simp only [St.get, Act.put]
      by_cases ht : 1024 ≤ t
      · rw [ble_true ht]; simp [Rep]
      · rw [ble_false ht, cond_false, Tr.get_set, Nat.mod_eq_of_lt (show d < 2 ^ 10 from h2), Nat.mod_eq_of_lt (show t < 2 ^ 10 from Nat.lt_of_not_le ht)]
        by_cases htd : d = t
        · subst htd
          rw [if_pos rfl]
          have : (a.tmps.setIfInBounds d x).getD d undef = x := by
            simp [Array.getD_eq_getD_getElem?, Array.getElem?_setIfInBounds_self_of_lt (show d < a.tmps.size by rw [hr.size]; exact h1)]
          rw [this]; exact hv
        · rw [if_neg htd]
          have : (a.tmps.setIfInBounds d x).getD t undef = a.tmps.getD t undef := by
            simp [Array.getD_eq_getD_getElem?, Array.getElem?_setIfInBounds_ne htd]
          rw [this]
          have := hr.reg t
          simpa only [St.get, ble_false ht, cond_false] using this

def ev (s : St) : Operand → AV
  | .tmp t => s.get t
  | .const v => ofValue v
  | .global _ => .top
  | .func f => .func f [] []

theorem ev_rep {σ : List (Nat × Nat)} {s : St} {a : Act} (hr : RepT σ s a) (x : Operand) : Rep σ (ev s x) (a.eval x) := by
  cases x with
  | tmp t => exact hr.reg t
  | const v => exact ofValue_rep σ v
  | global g => simp [ev, Rep]
  | func f => simp only [ev, Rep, Act.eval]; exact ⟨_, _, rfl, by simp [RepL], by simp [RepL]⟩

/-- What an operation that is no call answers. -/
def aop (P : Program) (e : Operand → AV) (h : Heap) : Op → Option (List (AV × Heap))
  | .move x | .assign x => some [(e x, h)]
  | .pick c a b => match e c with
    | .bool r => some [(cond r (e a) (e b), h)]
    | .anyBool => some [(e a, h), (e b, h)]
    | _ => none
  | .alloc t => aAlloc P t h
  | .box t x => aBox t (e x) h
  | .build t parts => (aBuild P t (parts.toList.map fun p => (p.1, e p.2))).bind fun y => some [(y, h)]
  | .buildSlice t len parts => aBuildSlice P t len (parts.toList.map fun p => (p.1, e p.2)) h
  | .load t a => (aLoad P t (e a) h).bind fun y => some [(y, h)]
  | .store t a x => (aStore P t (e a) (e x) h).bind fun h' => some [(.top, h')]
  | .nilCheck x => match e x with
    | .ptr b o => some [(.ptr b o, h)]
    | .map b => some [(.map b, h)]
    | .slice b o l c z => some [(.slice b o l c z, h)]
    | .func f x y => some [(.func f x y, h)]
    | _ => none
  | .binOp op t x y _ => (aBin P op t (e x) (e y)).bind fun z => some [(z, h)]
  | .unOp op _ x => (aUn op (e x)).bind fun z => some [(z, h)]
  | .convert s d x => aConv P s d (e x) h
  | .makeInterface t x => (aIface P t (e x)).bind fun z => some [(z, h)]
  | .makeFunc fn f c => (aMakeFunc e fn f c).bind fun z => some [(z, h)]
  | .makeMap t r => aMakeMap P t (r.map e) h
  | .makeSlice t l c => aMakeSlice P t (e l) (e c) h
  | .slice t x lo hi mx => (aSlice P t (e x) (lo.map e) (hi.map e) (mx.map e)).bind fun z => some [(z, h)]
  | .fieldAddr s x f => (aField P s (e x) f).bind fun z => some [(z, h)]
  | .field t x f => (aFieldOf P t (e x) f).bind fun z => some [(z, h)]
  | .indexAddr t x i => (aIndexAt P t (e x) (e i)).bind fun z => some [(z, h)]
  | .index t x i => (aIndex P t (e x) (e i)).bind fun z => some [(z, h)]
  | .lookup t x i ok => (aLookup P t (e x) (e i) ok h).bind fun z => some [(z, h)]
  | .mapUpdate t m k x => (aUpdate P t (e m) (e k) (e x) h).bind fun h' => some [(.top, h')]
  | .insert t m k x => (aUpdate P t (e m) (e k) (e x) h).bind fun h' => some [(.top, h')]
  | .range t x => aRange P t (e x) h
  | .next i s => aNext (e i) s h
  | .entry i => (aEntry (e i) h).bind fun z => some [(z, h)]
  | .typeAssert x _ t ok => (aAssert P t ok (e x)).bind fun z => some [(z, h)]
  | .extract t i => (aExtract (e t) i).bind fun z => some [(z, h)]
  | _ => none

/-- The operation ends in a value, or in none, and the world goes on. -/
def OpOK (P : Program) (σ : List (Nat × Nat)) (W0 : World) (s : Sem Next) (w : World) (outs : List (AV × Heap)) : Prop :=
  ∃ out ∈ outs, ∃ σ' v w', (s.run P w = .ok (.value v) w' ∨ (s.run P w = .ok .skip w' ∧ v = undef)) ∧ σ <+: σ' ∧ Sim σ' out.2 W0 w' ∧ Rep σ' out.1 v

theorem OpOK.of_val {P : Program} {σ : List (Nat × Nat)} {W0 w : World} {s : Sem Value} {outs : List (AV × Heap)} (h : ValOK P σ W0 s w outs) : OpOK P σ W0 (do pure (.value (← s))) w outs := by
  obtain ⟨out, ho, σ', v, w', hr, h1, h2, h3⟩ := h
  exact ⟨out, ho, σ', v, w', .inl (by simp [hr]), h1, h2, h3⟩

theorem OpOK.of_one {P : Program} {σ : List (Nat × Nat)} {W0 w : World} {s : Sem Value} {x : Option AV} {H : Heap} {outs : List (AV × Heap)} (hx : (x.bind fun z => some [(z, H)]) = some outs) (hs : Sim σ H W0 w)
    (h : ∀ y, x = some y → ∃ r, s.run P w = .ok r w ∧ Rep σ y r) : OpOK P σ W0 (do pure (.value (← s))) w outs := by
  obtain ⟨y, hy, h1⟩ := Option.bind_eq_some_iff.1 hx
  cases h1
  obtain ⟨r, h2, h3⟩ := h y hy
  exact .of_val (.one h2 hs h3)

theorem OpOK.of_unit {P : Program} {σ : List (Nat × Nat)} {W0 w : World} {s : Sem Unit} {x : Option Heap} {outs : List (AV × Heap)} (hx : (x.bind fun h' => some [(AV.top, h')]) = some outs)
    (h : ∀ y, x = some y → ∃ w', s.run P w = .ok () w' ∧ Sim σ y W0 w') : OpOK P σ W0 (do s; pure .skip) w outs := by
  obtain ⟨y, hy, h1⟩ := Option.bind_eq_some_iff.1 hx
  cases h1
  obtain ⟨w', h2, h3⟩ := h y hy
  exact ⟨_, List.mem_singleton.2 rfl, σ, undef, w', .inr ⟨by simp [h2], rfl⟩, List.prefix_refl _, h3, by simp [Rep]⟩

theorem OpOK.val1 {P : Program} {σ : List (Nat × Nat)} {W0 w : World} {s : Sem Next} {H : Heap} {x : AV} {v : Value} (hr : s.run P w = .ok (.value v) w) (hs : Sim σ H W0 w) (hx : Rep σ x v) : OpOK P σ W0 s w [(x, H)] :=
  ⟨_, List.mem_singleton.2 rfl, σ, v, w, .inl hr, List.prefix_refl _, hs, hx⟩

theorem aop_sound {P : Program} {σ : List (Nat × Nat)} {W0 w : World} {H : Heap} {e : Operand → AV} {ρ : Operand → Value} {o : Oper} {outs : List (AV × Heap)}
    (h : aop P e H o.op = some outs) (hs : Sim σ H W0 w) (he : ∀ x, Rep σ (e x) (ρ x)) : OpOK P σ W0 (execOp ρ o) w outs := by
  unfold execOp
  cases ho : o.op <;> rw [ho] at h <;> simp only [aop, reduceCtorEq] at h ⊢
  case move x => cases h; exact .val1 rfl hs (he x)
  case assign x => cases h; exact .val1 rfl hs (he x)
  case pick c a b =>
    have hc := he c
    split at h
    · rename_i r heq
      rw [heq] at hc; simp only [Rep] at hc
      cases h
      refine .val1 (v := if r then ρ a else ρ b) (by simp [hc, asBool]) hs ?_
      cases r
      · exact he b
      · exact he a
    · rename_i heq
      rw [heq] at hc; simp only [Rep] at hc
      obtain ⟨r, hc⟩ := hc
      cases h
      cases r
      · exact ⟨(e b, H), by simp, σ, ρ b, w, .inl (by simp [hc, asBool]), List.prefix_refl _, hs, he b⟩
      · exact ⟨(e a, H), by simp, σ, ρ a, w, .inl (by simp [hc, asBool]), List.prefix_refl _, hs, he a⟩
    · cases h
  case alloc t => exact .of_val (sound_alloc h hs)
  case box t x => exact .of_val (sound_box h hs (he x))
  case build t parts => exact .of_one h hs fun y hy => sound_build hy he
  case buildSlice t len parts => exact .of_val (sound_buildSlice h hs he)
  case load t a => exact .of_one h hs fun y hy => sound_load hy hs (he a)
  case store t a x => exact .of_unit h fun y hy => sound_store hy hs (he a) (he x)
  case nilCheck x =>
    have hx := he x
    split at h
    · rename_i b o' heq
      rw [heq] at hx; have hx' := hx; simp only [Rep] at hx
      obtain ⟨a, n, hσ, hv⟩ := hx
      cases h
      exact .val1 (by rw [hv]; rfl) hs (hv ▸ hx')
    · rename_i b heq
      rw [heq] at hx; have hx' := hx; simp only [Rep] at hx
      obtain ⟨a, n, hσ, hv⟩ := hx
      cases h
      exact .val1 (by rw [hv]; rfl) hs (hv ▸ hx')
    · rename_i b o' l c z heq
      rw [heq] at hx; have hx' := hx; simp only [Rep] at hx
      obtain ⟨a, n, c', hσ, hv, _⟩ := hx
      cases h
      exact .val1 (by rw [hv]; rfl) hs (hv ▸ hx')
    · rename_i f x1 x2 heq
      rw [heq] at hx; have hx' := hx; simp only [Rep] at hx
      obtain ⟨a, n, hv, _⟩ := hx
      cases h
      exact .val1 (by rw [hv]; rfl) hs (hv ▸ hx')
    · cases h
  case binOp op t x y t2 => exact .of_one h hs fun z hz => sound_bin x y hz (he x) (he y)
  case unOp op t x => exact .of_one h hs fun z hz => sound_un hz (he x)
  case convert s d x => exact .of_val (sound_conv h hs (he x))
  case makeInterface t x => exact .of_one h hs fun z hz => sound_iface hz (he x)
  case makeFunc fn f c => exact .of_one h hs fun z hz => sound_makeFunc hz he
  case makeMap t r => exact .of_val (sound_makeMap h hs he)
  case makeSlice t l c => exact .of_val (sound_makeSlice h hs (he l) (he c))
  case slice t x lo hi mx => exact .of_one h hs fun z hz => sound_slice hz (he x) he
  case fieldAddr s x f => exact .of_one h hs fun z hz => let ⟨u, h1, h2⟩ := sound_field hz (he x); ⟨u, h1 w, h2⟩
  case field t x f => exact .of_one h hs fun z hz => sound_fieldOf hz (he x)
  case indexAddr t x i => exact .of_one h hs fun z hz => sound_indexAt hz (he x) (he i)
  case index t x i => exact .of_one h hs fun z hz => sound_index hz (he x) (he i)
  case lookup t x i ok => exact .of_one h hs fun z hz => sound_lookup hz hs (he x) (he i)
  case mapUpdate t m k x => exact .of_unit h fun y hy => sound_update hy hs (he m) (he k) (he x)
  case insert t m k x => exact .of_unit h fun y hy => sound_update hy hs (he m) (he k) (he x)
  case range t x => exact .of_val (sound_range h hs (he x))
  case next i s => exact .of_val (sound_next h hs (he i))
  case entry i => exact .of_one h hs fun z hz => sound_entry hz hs (he i)
  case typeAssert x t0 t ok => exact .of_one h hs fun z hz => sound_assert hz (he x)
  case extract t i => exact .of_one h hs fun z hz => sound_extract hz (he t)
end Go.Abs
