/- Nodes in a program: the reader's four parts. -/
import Derived.Test.YtajfcnaifegonaaMNdN
import Derived.Laws.EntriesVeiled
namespace Go.By
open Go Go.RowKit
theorem pMany_snoc {α : Type} {p : List Nat → Option (α × List Nat)} {x : α} {r' : List Nat} : ∀ {k : Nat} {l : List Nat} {xs : List α} {r : List Nat}, pMany p k l = some (xs, r) → p r = some (x, r') → pMany p (k + 1) l = some (xs ++ [x], r')
  | 0, l, xs, r, h, hp => by
    rw [pMany, Option.some.injEq, Prod.mk.injEq] at h
    obtain ⟨rfl, rfl⟩ := h
    rw [pMany, hp]
    rfl
  | k + 1, l, xs, r, h, hp => by
    rw [pMany] at h
    cases h1 : p l with
    | none => rw [h1] at h; cases h
    | some y =>
      obtain ⟨y, s⟩ := y
      rw [h1] at h
      dsimp only at h
      cases h2 : pMany p k s with
      | none => rw [h2] at h; cases h
      | some z =>
        obtain ⟨ys, t⟩ := z
        rw [h2] at h
        simp only [Option.some.injEq, Prod.mk.injEq] at h
        obtain ⟨rfl, rfl⟩ := h
        rw [pMany, h1]
        dsimp only
        rw [pMany_snoc h2 hp]
        rfl
theorem pMany_snoc_no {α : Type} {p : List Nat → Option (α × List Nat)} : ∀ {k : Nat} {l : List Nat} {xs : List α} {r : List Nat}, pMany p k l = some (xs, r) → p r = none → pMany p (k + 1) l = none
  | 0, l, xs, r, h, hp => by
    rw [pMany, Option.some.injEq, Prod.mk.injEq] at h
    obtain ⟨rfl, rfl⟩ := h
    rw [pMany, hp]
  | k + 1, l, xs, r, h, hp => by
    rw [pMany] at h
    cases h1 : p l with
    | none => rw [h1] at h; cases h
    | some y =>
      obtain ⟨y, s⟩ := y
      rw [h1] at h
      dsimp only at h
      cases h2 : pMany p k s with
      | none => rw [h2] at h; cases h
      | some z =>
        obtain ⟨ys, t⟩ := z
        rw [h2] at h
        simp only [Option.some.injEq, Prod.mk.injEq] at h
        obtain ⟨rfl, rfl⟩ := h
        rw [pMany, h1]
        dsimp only
        rw [pMany_snoc_no h2 hp]
theorem pMany_none_succ {α : Type} {p : List Nat → Option (α × List Nat)} : ∀ {k : Nat} {l : List Nat}, pMany p k l = none → pMany p (k + 1) l = none
  | 0, l, h => by cases h
  | k + 1, l, h => by
    rw [pMany] at h
    rw [pMany]
    cases h1 : p l with
    | none => rfl
    | some y =>
      obtain ⟨y, s⟩ := y
      rw [h1] at h
      dsimp only at h ⊢
      cases h2 : pMany p k s with
      | none => rw [pMany_none_succ h2]
      | some z =>
        rw [h2] at h
        cases h
end Go.By
namespace Go.Proofs.Ytajfcnaifegonaa.Sl.Nd
open Go Go.RowKit Go.By
structure OneTake {α : Type} (w0 : World) (b : Nat) (l : List Nat) (p : List Nat → Option (α × List Nat)) (f : FuncId) (S : World → Nat → List α → Prop) : Prop where
  enter : ∀ args w, (callFunc f args).run Try.prog w = .ok (.enter f args) w
  cell : ∀ w i xs, S w i xs → w.cell? ⟨b, 6, none⟩ = some (.func (.func f) #[.pointer (some ⟨b, 0, none⟩)] #[])
  below : ∀ w i xs, S w i xs → Below w0.heap.size w0 w
  take : ∀ w i xs, S w i xs → i ≤ l.length → xs.length ≤ 1000 → Calls Try.prog f #[.pointer (some ⟨b, 0, none⟩)] w fun e w' => ∃ x i' ok, e = .returned (.bool ok) ∧ S w' i' (xs ++ [x]) ∧ i' ≤ l.length ∧ ((ok = true ∧ p (l.drop i) = some (x, l.drop i')) ∨ (ok = false ∧ p (l.drop i) = none))
end Go.Proofs.Ytajfcnaifegonaa.Sl.Nd
/- Nodes in a program: what is taken. -/
namespace Go.Proofs.Ytajfcnaifegonaa.Sl.Nd
open Go Go.RowKit Go.By
end Go.Proofs.Ytajfcnaifegonaa.Sl.Nd
/- Nodes in a program: what is taken, and that it lies in blocks of its own. -/
namespace Go.Proofs.Ytajfcnaifegonaa.Sl.Nd
open Go Go.RowKit Go.By
end Go.Proofs.Ytajfcnaifegonaa.Sl.Nd
/- Nodes as rows of bytes: what the document's reader reads of them. Plain. -/
namespace Go.By
open Go
theorem numOf_oneW (c : Nat) : numOf [c] = c := by simp [numOf]
theorem rdTake_p (n : Nat) (l : List Nat) : rdTake n (some l) = match pTake n l with | some (a, r) => (a, some r) | none => ([], none) := by
  unfold rdTake pTake
  dsimp only
  by_cases h : n ≤ l.length
  · rw [if_pos h, if_pos h]
  · rw [if_neg h, if_neg h]
theorem rdText_p (l : List Nat) : rdText (some l) = match pText l with | some (a, r) => (a, some r) | none => ([], none) := by
  cases l with
  | nil => rfl
  | cons c r =>
    have h : rdTake 1 (some (c :: r)) = ([c], some r) := by unfold rdTake; simp
    unfold rdText
    rw [h]
    dsimp only
    rw [numOf_oneW, rdTake_p]
    rfl
def stIt (s : Option (List Nat)) : NIt × Option (List Nat) := (⟨(rdText s).1, (rdText (rdText s).2).1⟩, (rdText (rdText s).2).2)
def stKd (s : Option (List Nat)) : (List Nat × NKd) × Option (List Nat) :=
  (((rdText s).1, ⟨RowKit.wrap64 (numOf (rdTake 8 (rdText s).2).1 : Nat), numOf (rdTake 8 (rdTake 8 (rdText s).2).2).1⟩), (rdTake 8 (rdTake 8 (rdText s).2).2).2)
theorem stIt_p (l : List Nat) : (∀ it r, pIt l = some (it, r) → stIt (some l) = (it, some r)) ∧ (pIt l = none → (stIt (some l)).2 = none) := by
  unfold pIt stIt
  cases h1 : pText l with
  | none => exact ⟨fun _ _ h => (by cases h), fun _ => by rw [rdText_p, h1]; rfl⟩
  | some x =>
    obtain ⟨k, r⟩ := x
    have e1 : rdText (some l) = (k, some r) := by rw [rdText_p, h1]
    rw [e1]
    dsimp only
    cases h2 : pText r with
    | none => exact ⟨fun _ _ h => (by cases h), fun _ => by rw [rdText_p, h2]⟩
    | some y =>
      obtain ⟨v, r2⟩ := y
      have e2 : rdText (some r) = (v, some r2) := by rw [rdText_p, h2]
      rw [e2]
      exact ⟨fun it r h => by
        simp only [Option.some.injEq, Prod.mk.injEq] at h
        obtain ⟨rfl, rfl⟩ := h
        rfl, fun h => by cases h⟩
theorem stKd_p (l : List Nat) : (∀ x r, pKd l = some (x, r) → stKd (some l) = (x, some r)) ∧ (pKd l = none → (stKd (some l)).2 = none) := by
  unfold pKd stKd
  cases h1 : pText l with
  | none => exact ⟨fun _ _ h => (by cases h), fun _ => by rw [rdText_p, h1]; rfl⟩
  | some x =>
    obtain ⟨k, r⟩ := x
    have e1 : rdText (some l) = (k, some r) := by rw [rdText_p, h1]
    rw [e1]
    dsimp only
    cases h2 : pTake 8 r with
    | none => exact ⟨fun _ _ h => (by cases h), fun _ => by rw [rdTake_p, h2]; rfl⟩
    | some y =>
      obtain ⟨v, r2⟩ := y
      have e2 : rdTake 8 (some r) = (v, some r2) := by rw [rdTake_p, h2]
      rw [e2]
      dsimp only
      cases h3 : pTake 8 r2 with
      | none => exact ⟨fun _ _ h => (by cases h), fun _ => by rw [rdTake_p, h3]⟩
      | some z =>
        obtain ⟨u, r3⟩ := z
        have e3 : rdTake 8 (some r2) = (u, some r3) := by rw [rdTake_p, h3]
        rw [e3]
        exact ⟨fun it r h => by
          simp only [Option.some.injEq, Prod.mk.injEq] at h
          obtain ⟨rfl, rfl⟩ := h
          rfl, fun h => by cases h⟩
theorem pMany_none_le {α : Type} {p : List Nat → Option (α × List Nat)} {k : Nat} {l : List Nat} (h : pMany p k l = none) : ∀ {c : Nat}, k ≤ c → pMany p c l = none
  | 0, hc => by obtain rfl : k = 0 := by omega
                exact h
  | c + 1, hc => by
    by_cases hk : k ≤ c
    · exact pMany_none_succ (pMany_none_le h hk)
    · obtain rfl : k = c + 1 := by omega
      exact h
def Pst {α : Type} (p : List Nat → Option (α × List Nat)) (c : Nat) (l0 : List Nat) (i : Nat) (xs : List α) : Option (List Nat) → Prop
  | some r => pMany p i l0 = some (xs, r)
  | none => pMany p c l0 = none
theorem pst_zero {α : Type} (p : List Nat → Option (α × List Nat)) (c : Nat) (l0 : List Nat) : Pst p c l0 0 [] (some l0) := rfl
theorem pst_it {c i : Nat} {l0 r : List Nat} {xs : List NIt} (h : Pst pIt c l0 i xs (some r)) (hi : i < c) : Pst pIt c l0 (i + 1) (xs ++ [(stIt (some r)).1]) (stIt (some r)).2 := by
  obtain ⟨h1, h2⟩ := stIt_p r
  cases hp : pIt r with
  | none =>
    rw [h2 hp]
    exact pMany_none_le (pMany_snoc_no h hp) hi
  | some x =>
    obtain ⟨it, r'⟩ := x
    rw [h1 it r' hp]
    exact pMany_snoc h hp
theorem pst_kd {c i : Nat} {l0 r : List Nat} {xs : List (List Nat × NKd)} (h : Pst pKd c l0 i xs (some r)) (hi : i < c) : Pst pKd c l0 (i + 1) (xs ++ [(stKd (some r)).1]) (stKd (some r)).2 := by
  obtain ⟨h1, h2⟩ := stKd_p r
  cases hp : pKd r with
  | none =>
    rw [h2 hp]
    exact pMany_none_le (pMany_snoc_no h hp) hi
  | some x =>
    obtain ⟨it, r'⟩ := x
    rw [h1 it r' hp]
    exact pMany_snoc h hp
theorem ndTold_if (n : Nd) (r : List Nat) : ndTold n r = if r = [] ∧ mayNd n = true then some n else none := by
  cases r with
  | nil =>
    unfold ndTold
    by_cases h : mayNd n = true
    · rw [if_pos h, if_pos ⟨rfl, h⟩]
    · rw [if_neg h, if_neg (fun e => h e.2)]
  | cons c r =>
    rw [if_neg (fun e => by cases e.1)]
    rfl
theorem body_lf {c : Nat} {l0 r : List Nat} {xs : List NIt} (h : Pst pIt c l0 c xs (some r)) : ndBody true c l0 = if r = [] ∧ mayNd (lfOf xs) = true then some (lfOf xs) else none := by
  unfold ndBody
  rw [if_pos rfl, show pMany pIt c l0 = some (xs, r) from h]
  exact ndTold_if _ _
theorem body_in {c : Nat} {l0 r : List Nat} {xs : List (List Nat × NKd)} (h : Pst pKd c l0 c xs (some r)) : ndBody false c l0 = if r = [] ∧ mayNd (inOf xs) = true then some (inOf xs) else none := by
  unfold ndBody
  rw [if_neg (by decide), show pMany pKd c l0 = some (xs, r) from h]
  exact ndTold_if _ _
theorem body_lf_no {c i : Nat} {l0 : List Nat} {xs : List NIt} (h : Pst pIt c l0 i xs none) : ndBody true c l0 = none := by
  unfold ndBody
  rw [if_pos rfl, show pMany pIt c l0 = none from h]
theorem body_in_no {c i : Nat} {l0 : List Nat} {xs : List (List Nat × NKd)} (h : Pst pKd c l0 i xs none) : ndBody false c l0 = none := by
  unfold ndBody
  rw [if_neg (by decide), show pMany pKd c l0 = none from h]
theorem take_two (l : List Nat) :
    ((rdTake 1 (rdTake 1 (some l)).2).2 = none → takeNd l = none ∧ numOf (rdTake 1 (rdTake 1 (some l)).2).1 = 0) ∧
    (∀ r, (rdTake 1 (rdTake 1 (some l)).2).2 = some r → takeNd l = if numOf (rdTake 1 (some l)).1 = 76 then ndBody true (numOf (rdTake 1 (rdTake 1 (some l)).2).1) r else if numOf (rdTake 1 (some l)).1 = 78 then ndBody false (numOf (rdTake 1 (rdTake 1 (some l)).2).1) r else none) := by
  match l with
  | [] => exact ⟨fun _ => ⟨rfl, rfl⟩, fun r h => by cases h⟩
  | [k] =>
    have h : rdTake 1 (some [k]) = ([k], some []) := by unfold rdTake; simp
    rw [h]
    exact ⟨fun _ => ⟨rfl, rfl⟩, fun r h => by cases h⟩
  | k :: c :: r =>
    have h : rdTake 1 (some (k :: c :: r)) = ([k], some (c :: r)) := by unfold rdTake; simp
    have h2 : rdTake 1 (some (c :: r)) = ([c], some r) := by unfold rdTake; simp
    rw [h]
    dsimp only
    rw [h2]
    dsimp only
    rw [numOf_oneW, numOf_oneW]
    exact ⟨fun h => (by cases h), fun r' h => by obtain rfl := Option.some.inj h; rfl⟩
end Go.By
