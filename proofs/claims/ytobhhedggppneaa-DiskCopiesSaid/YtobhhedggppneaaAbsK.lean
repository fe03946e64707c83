/- Sorted lists of keys, and a map as the library's contracts speak of it. -/
import Derived.Test.YtobhhedggppneaaAbsJ
import Derived.Sort.KeysCollected
import Derived.Sort.EncStr
import Derived.Maps.Own
namespace Go.Abs
open Go.RowKit Go.Maps Go.Sort Go.MapKept Go.WideElems

def insBy {α : Type} (lt : α → α → Bool) (x : α) : List α → List α
  | [] => [x]
  | y :: ys => cond (lt y x) (y :: insBy lt x ys) (x :: y :: ys)
def sortBy {α : Type} (lt : α → α → Bool) : List α → List α
  | [] => []
  | x :: xs => insBy lt x (sortBy lt xs)

theorem insBy_perm {α : Type} (lt : α → α → Bool) (x : α) : ∀ l : List α, (insBy lt x l).Perm (x :: l)
  | [] => List.Perm.refl _
  | y :: ys => by
    simp only [insBy]
    cases lt y x with
    | true => exact ((insBy_perm lt x ys).cons y).trans (List.Perm.swap x y ys)
    | false => exact List.Perm.refl _
theorem sortBy_perm {α : Type} (lt : α → α → Bool) : ∀ l : List α, (sortBy lt l).Perm l
  | [] => List.Perm.refl _
  | x :: xs => (insBy_perm lt x _).trans ((sortBy_perm lt xs).cons x)
theorem insBy_map {α β : Type} (f : α → β) (lt : β → β → Bool) (x : α) : ∀ l : List α, insBy lt (f x) (l.map f) = (insBy (fun a b => lt (f a) (f b)) x l).map f
  | [] => rfl
  | y :: ys => by
    simp only [List.map_cons, insBy]
    cases lt (f y) (f x) with
    | true => simp only [cond_true, List.map_cons, insBy_map f lt x ys]
    | false => rfl
theorem sortBy_map {α β : Type} (f : α → β) (lt : β → β → Bool) : ∀ l : List α, sortBy lt (l.map f) = (sortBy (fun a b => lt (f a) (f b)) l).map f
  | [] => rfl
  | x :: xs => by simp only [List.map_cons, sortBy, sortBy_map f lt xs, insBy_map]

def nats (l : List UInt8) : List Nat := l.map (·.toNat)

theorem lt_nats : ∀ (x y : List UInt8), ltL (nats x) (nats y) = decide (x < y)
  | [], [] => by simp [nats, ltL]
  | _ :: _, [] => by simp [nats, ltL]
  | [], _ :: _ => by simp [nats, ltL]
  | a :: x, b :: y => by
    have ih := lt_nats x y
    simp only [nats, List.map_cons, ltL] at ih ⊢
    rw [ih, Bool.eq_iff_iff]
    simp only [Bool.or_eq_true, Bool.and_eq_true, Nat.ble_eq, decide_eq_true_eq, List.cons_lt_cons_iff, UInt8.lt_iff_toNat_lt]
    constructor
    · rintro (h | ⟨h1, h2⟩)
      · exact .inl (by omega)
      · exact .inr ⟨UInt8.toNat_inj.1 (Nat.eq_of_beq_eq_true h1), h2⟩
    · rintro (h | ⟨h1, h2⟩)
      · exact .inl (by omega)
      · subst h1; exact .inr ⟨Nat.beq_refl _, h2⟩

/-- No later one is below an earlier one. -/
def risingB : List (List Nat) → Bool
  | [] => true
  | x :: xs => (xs.all fun y => !ltL y x) && risingB xs

theorem risingB_pairwise : ∀ (l : List (List UInt8)), risingB (l.map nats) = true → l.Pairwise fun a b => leB a b = true
  | [], _ => List.Pairwise.nil
  | x :: xs, h => by
    simp only [List.map_cons, risingB, Bool.and_eq_true] at h
    refine List.pairwise_cons.2 ⟨?_, risingB_pairwise xs h.2⟩
    intro y hy
    have h1 := List.all_eq_true.1 h.1 (nats y) (List.mem_map_of_mem hy)
    rw [lt_nats] at h1
    simpa [leB] using h1

/-- The keys of a map's entries, and what must be so for the library's contract. -/
def keysOf : List (AV × AV × Nat) → Option (List (List Nat))
  | [] => some []
  | (.str k, _, _) :: rest => (keysOf rest).bind fun l => some (k :: l)
  | _ => none
def freshN (n : Nat) (l : List (AV × AV × Nat)) : Bool := l.all fun e => !Nat.beq e.2.2 n
def bornOK (clock : Nat) : List (AV × AV × Nat) → Bool
  | [] => true
  | e :: rest => Nat.ble (e.2.2 + 1) clock && freshN e.2.2 rest && bornOK clock rest
def apartB : List (List Nat) → Bool
  | [] => true
  | x :: xs => (xs.all fun y => !eqL x y) && apartB xs
def shortB (l : List (List Nat)) : Bool := l.all fun k => Nat.ble k.length 1000000

theorem eqL_refl : ∀ x : List Nat, eqL x x = true
  | [] => rfl
  | a :: x => by simp [eqL, eqL_refl x]

structure KeysAre (l : List MapEntry) (kl : List (List UInt8)) : Prop where
  eq : l.map (·.key) = kl.map fun k => Value.string ⟨k.toArray⟩

theorem keysOf_rep {σ : List (Nat × Nat)} : ∀ {es : List (AV × AV × Nat)} {l : List MapEntry} {ks : List (List Nat)}, RepE σ es l → keysOf es = some ks → ∃ kl : List (List UInt8), kl.map nats = ks ∧ l.map (·.key) = kl.map fun k => Value.string ⟨k.toArray⟩
  | [], _, _, h, hk => by simp only [RepE] at h; subst h; cases hk; exact ⟨[], rfl, rfl⟩
  | (x, y, n) :: rest, _, ks, h, hk => by
    obtain ⟨e, es', rfl, h1, h2, h3, h4⟩ := h
    cases x <;> simp only [keysOf, reduceCtorEq] at hk
    obtain ⟨ks', hk', hk2⟩ := Option.bind_eq_some_iff.1 hk
    cases hk2
    obtain ⟨kl, g1, g2⟩ := keysOf_rep h4 hk'
    simp only [Rep] at h1
    obtain ⟨s, hs, rfl⟩ := h1
    exact ⟨s.data.toList :: kl, by simp [nats, g1], by simp [g2, hs]⟩

theorem bornOK_rep {σ : List (Nat × Nat)} {clock : Nat} : ∀ {es : List (AV × AV × Nat)} {l : List MapEntry}, RepE σ es l → bornOK clock es = true → (∀ x ∈ l, x.born < clock) ∧ (l.map (·.born)).Nodup
  | [], _, h, _ => by simp only [RepE] at h; subst h; simp
  | (x, y, n) :: rest, _, h, hb => by
    obtain ⟨e, es', rfl, h1, h2, h3, h4⟩ := h
    simp only [bornOK, Bool.and_eq_true, Nat.ble_eq] at hb
    obtain ⟨⟨hb1, hb2⟩, hb3⟩ := hb
    obtain ⟨g1, g2⟩ := bornOK_rep h4 hb3
    simp only at h3
    refine ⟨?_, ?_⟩
    · intro z hz
      rcases List.mem_cons.1 hz with rfl | hz
      · rw [h3]; exact hb1
      · exact g1 z hz
    · simp only [List.map_cons, List.nodup_cons]
      refine ⟨?_, g2⟩
      intro hm
      obtain ⟨z, hz, hzn⟩ := List.mem_map.1 hm
      have hall := h4.all fun m => !Nat.beq m n
      have : (es'.all fun e => !Nat.beq e.born n) = true := by rw [hall]; exact hb2
      have := List.all_eq_true.1 this z hz
      rw [hzn, h3, Nat.beq_refl] at this
      cases this

theorem apartB_rep : ∀ (kl : List (List UInt8)), apartB (kl.map nats) = true → kl.Pairwise (· ≠ ·)
  | [], _ => List.Pairwise.nil
  | x :: xs, h => by
    simp only [List.map_cons, apartB, Bool.and_eq_true] at h
    refine List.pairwise_cons.2 ⟨?_, apartB_rep xs h.2⟩
    rintro y hy rfl
    have := List.all_eq_true.1 h.1 (nats x) (List.mem_map_of_mem hy)
    rw [eqL_refl] at this
    cases this

theorem own_of {P : Program} {σ : List (Nat × Nat)} {W : World} {b clock : Nat} {t : TypeId} {es : List (AV × AV × Nat)} {l : Array MapEntry} {ks : List (List Nat)} (ht : P.underlying t = some .string) (hW : W.heap[b]? = some (.map l clock)) (hr : RepE σ es l.toList)
    (hk : keysOf es = some ks) (h1 : bornOK clock es = true) (h2 : apartB ks = true) (h3 : shortB ks = true) (h4 : es.length ≤ 1000000) :
    ∃ (kl : List (List UInt8)) (D0 : DataW Unit), kl.map nats = ks ∧ W.ownsMap P t (fun _ => some (DataW.nil, [])) b l.size D0 ∧ (strKeys D0).Perm kl ∧ Maps.size D0 = l.size := by
  obtain ⟨kl, g1, g2⟩ := keysOf_rep hr hk
  obtain ⟨g3, g4⟩ := bornOK_rep hr h1
  have hlen := hr.length
  have hlen2 : l.toList.length = kl.length := by have := congrArg List.length g2; simpa using this
  let R : Value → Option (DataW Unit × List MemPlace) := fun _ => some (DataW.nil, [])
  have hrd : ∀ (j : Nat) (x : MapEntry) (k : List UInt8), l.toList[j]? = some x → kl[j]? = some k → rd P t R x = some (.string k, .nil) := by
    intro j x k hx hk'
    have hkey : x.key = .string ⟨k.toArray⟩ := by
      have e := congrArg (fun q : List Value => q[j]?) g2
      simp only [List.getElem?_map, hx, hk', Option.map_some, Option.some.injEq] at e
      exact e
    have hsz : k.length ≤ maxLen := by
      have : nats k ∈ ks := by rw [← g1]; exact List.mem_map_of_mem (List.mem_of_getElem? hk')
      have := List.all_eq_true.1 h3 _ this
      rw [Nat.ble_eq] at this
      simp only [nats, List.length_map] at this
      unfold maxLen; omega
    have hsz' : (⟨k.toArray⟩ : ByteArray).size ≤ maxLen := hsz
    simp [rd, keyOf, mapKey, ht, hkey, R, hsz']
  have hget : ∀ (j : Nat) (x : MapEntry), l.toList[j]? = some x → ∃ k, kl[j]? = some k := by
    intro j x hx
    have : j < kl.length := by
      rw [← hlen2]
      rcases Nat.lt_or_ge j l.toList.length with q | q
      · exact q
      · rw [List.getElem?_eq_none q] at hx; cases hx
    exact ⟨kl[j], List.getElem?_eq_getElem this⟩
  have hrg : (l.toList.map (rg P t R)) = kl.map fun k => (Lit.string k, DataW.nil) := by
    apply List.ext_getElem?
    intro j
    simp only [List.getElem?_map]
    cases hx : l.toList[j]? with
    | none =>
      have : kl[j]? = none := by
        rw [List.getElem?_eq_none_iff] at hx ⊢; omega
      simp [this]
    | some x =>
      obtain ⟨k, hk'⟩ := hget j x hx
      simp [hk', rg, hrd j x k hx hk']
  refine ⟨kl, .map ((l.toList.map (rg P t R)).foldr DataW.insert []), g1, ⟨l, clock, hW, ⟨?_, ?_, ?_⟩, Nat.le_refl _, rfl⟩, ?_, ?_⟩
  · have : l.size ≤ 1000000 := by rw [← Array.length_toList, ← hlen]; exact h4
    unfold maxLen; omega
  · rw [stamped_iff]
    refine ⟨g3, g4, ?_⟩
    have hap := apartB_rep kl (by rw [g1]; exact h2)
    have : (l.toList.map (·.key)).Pairwise (· ≠ ·) := by
      rw [g2, List.pairwise_map]
      refine hap.imp ?_
      intro a b hab he
      apply hab
      simpa using he
    rwa [List.pairwise_map] at this
  · intro x hx
    obtain ⟨j, hj⟩ := List.mem_iff_getElem?.1 hx
    obtain ⟨k, hk'⟩ := hget j x hj
    exact ⟨_, hrd j x k hj hk'⟩
  · simp only [strKeys]
    have := (WideShapes.sorted_perm (l.toList.map (rg P t R))).map fun p => strOf p.1
    refine this.trans ?_
    rw [hrg, List.map_map]
    have e : (fun p : Lit × DataW Unit => strOf p.1) ∘ (fun k => (Lit.string k, DataW.nil)) = id := by funext k; rfl
    rw [e, List.map_id]
  · rw [Maps.size_eq, (WideShapes.sorted_perm _).length_eq]
    simp
end Go.Abs
