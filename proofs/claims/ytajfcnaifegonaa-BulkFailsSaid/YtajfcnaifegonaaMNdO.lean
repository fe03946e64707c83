/- Arguments that are heads, answers, marks, opened. -/
import Derived.Test.YtajfcnaifegonaaMBodyR
import Derived.Test.YtajfcnaifegonaaMHdP
namespace Go.By
open Go Go.RowKit Go.ChangeShapes Go.WideShapes Go.ChangeAt Go.Deep
end Go.By
/- Nodes as rows of bytes: which may be, what is put, what is taken. Plain. -/
namespace Go.By
open Go
structure NIt where
  k : List Nat
  v : List Nat
deriving DecidableEq
structure NKd where
  off : Int
  ct : Nat
deriving DecidableEq
structure Nd where
  leaf : Bool
  its : List NIt
  ks : List (List Nat)
  kids : List NKd
deriving DecidableEq
def mayK (k : List Nat) : Bool := decide (1 ≤ k.length) && decide (k.length ≤ 40)
theorem mayK_iff (k : List Nat) : mayK k = true ↔ 1 ≤ k.length ∧ k.length ≤ 40 := by simp [mayK]
def risesN : List (List Nat) → Bool
  | [] => true
  | [_] => true
  | a :: b :: r => lessN a b && risesN (b :: r)
def mayIt (i : NIt) : Bool := mayK i.k && decide (i.v.length ≤ 120)
theorem mayIt_iff (i : NIt) : mayIt i = true ↔ mayK i.k = true ∧ i.v.length ≤ 120 := by simp [mayIt]
def mayKd (d : NKd) : Bool := decide (1 ≤ d.off) && (decide (1 ≤ d.ct) && decide (d.ct ≤ 1099511627776))
theorem mayKd_iff (d : NKd) : mayKd d = true ↔ 1 ≤ d.off ∧ 1 ≤ d.ct ∧ d.ct ≤ 1099511627776 := by simp [mayKd]
def mayLf (n : Nd) : Bool := decide (1 ≤ n.its.length ∧ n.its.length ≤ 8) && (n.its.all mayIt && (risesN (n.its.map (·.k)) && (decide (n.ks = []) && decide (n.kids = []))))
def mayIn (n : Nd) : Bool := decide (2 ≤ n.kids.length ∧ n.kids.length ≤ 8) && (decide (n.ks.length = n.kids.length) && (n.ks.all mayK && (risesN n.ks && (n.kids.all mayKd && decide (n.its = [])))))
def mayNd (n : Nd) : Bool := if n.leaf = true then mayLf n else mayIn n
theorem mayLf_iff (n : Nd) : mayLf n = true ↔ (1 ≤ n.its.length ∧ n.its.length ≤ 8) ∧ (∀ i ∈ n.its, mayIt i = true) ∧ risesN (n.its.map (·.k)) = true ∧ n.ks = [] ∧ n.kids = [] := by simp [mayLf]
theorem mayIn_iff (n : Nd) : mayIn n = true ↔ (2 ≤ n.kids.length ∧ n.kids.length ≤ 8) ∧ n.ks.length = n.kids.length ∧ (∀ k ∈ n.ks, mayK k = true) ∧ risesN n.ks = true ∧ (∀ d ∈ n.kids, mayKd d = true) ∧ n.its = [] := by simp [mayIn]
def itOf (i : NIt) : List Nat := txt i.k ++ txt i.v
def kdOf (x : List Nat × NKd) : List Nat := txt x.1 ++ (highOf x.2.off.toNat 8 ++ highOf x.2.ct 8)
def ndOf (n : Nd) : List Nat := if n.leaf = true then 76 :: n.its.length :: n.its.flatMap itOf else 78 :: n.kids.length :: (n.ks.zip n.kids).flatMap kdOf
def putNd (n : Nd) : List Nat := if mayNd n = true then ndOf n else []
def pTake (n : Nat) (l : List Nat) : Option (List Nat × List Nat) := if n ≤ l.length then some (l.take n, l.drop n) else none
def pText : List Nat → Option (List Nat × List Nat)
  | [] => none
  | c :: r => pTake c r
def pIt (l : List Nat) : Option (NIt × List Nat) :=
  match pText l with
  | none => none
  | some (k, r) => match pText r with
    | none => none
    | some (v, r) => some (⟨k, v⟩, r)
def pKd (l : List Nat) : Option ((List Nat × NKd) × List Nat) :=
  match pText l with
  | none => none
  | some (k, r) => match pTake 8 r with
    | none => none
    | some (a, r) => match pTake 8 r with
      | none => none
      | some (b, r) => some ((k, ⟨RowKit.wrap64 (numOf a : Nat), numOf b⟩), r)
def pMany {α : Type} (p : List Nat → Option (α × List Nat)) : Nat → List Nat → Option (List α × List Nat)
  | 0, l => some ([], l)
  | n + 1, l => match p l with
    | none => none
    | some (x, r) => match pMany p n r with
      | none => none
      | some (xs, r) => some (x :: xs, r)
theorem pTake_app {a b : List Nat} {n : Nat} (h : n = a.length) : pTake n (a ++ b) = some (a, b) := by
  subst h
  unfold pTake
  rw [if_pos (by rw [List.length_append]; omega), List.take_left, List.drop_left]
theorem pTake_some {n : Nat} {l a b : List Nat} (h : pTake n l = some (a, b)) : l = a ++ b ∧ a.length = n := by
  unfold pTake at h
  split at h
  · rename_i hn
    simp only [Option.some.injEq, Prod.mk.injEq] at h
    obtain ⟨rfl, rfl⟩ := h
    exact ⟨by rw [List.take_append_drop], by rw [List.length_take]; omega⟩
  · cases h
theorem pText_app (a b : List Nat) : pText (txt a ++ b) = some (a, b) := pTake_app rfl
theorem pText_some {l a b : List Nat} (h : pText l = some (a, b)) : l = txt a ++ b := by
  cases l with
  | nil => cases h
  | cons c r =>
    obtain ⟨h1, h2⟩ := pTake_some (n := c) (l := r) h
    rw [h1, txt, h2]; rfl
theorem pIt_app (i : NIt) (m : List Nat) : pIt (itOf i ++ m) = some (i, m) := by
  unfold pIt itOf
  rw [List.append_assoc, pText_app]
  dsimp only
  rw [pText_app]
theorem pIt_some {l r : List Nat} {i : NIt} (h : pIt l = some (i, r)) : l = itOf i ++ r := by
  unfold pIt at h
  cases h1 : pText l with
  | none => rw [h1] at h; cases h
  | some x =>
    obtain ⟨k, s⟩ := x
    rw [h1] at h
    dsimp only at h
    cases h2 : pText s with
    | none => rw [h2] at h; cases h
    | some y =>
      obtain ⟨v, t⟩ := y
      rw [h2] at h
      simp only [Option.some.injEq, Prod.mk.injEq] at h
      obtain ⟨rfl, rfl⟩ := h
      rw [pText_some h1, pText_some h2]
      simp [itOf]
def KdFine (x : List Nat × NKd) : Prop := 0 ≤ x.2.off ∧ x.2.off ≤ 9223372036854775807 ∧ x.2.ct < 18446744073709551616
theorem pKd_app {x : List Nat × NKd} (hx : KdFine x) (m : List Nat) : pKd (kdOf x ++ m) = some (x, m) := by
  obtain ⟨h0, h1, h2⟩ := hx
  unfold pKd kdOf
  rw [List.append_assoc, pText_app]
  dsimp only
  rw [List.append_assoc, pTake_app (highOf_length _ _).symm]
  dsimp only
  rw [pTake_app (highOf_length _ _).symm]
  dsimp only
  rw [numOf_high 8 _ (by omega), numOf_high 8 _ h2, wrap64_nat (by omega), Int.toNat_of_nonneg h0]
theorem pKd_some {l r : List Nat} {x : List Nat × NKd} (hl : ∀ c ∈ l, c < 256) (h : pKd l = some (x, r)) (h0 : 0 ≤ x.2.off) : l = kdOf x ++ r ∧ KdFine x := by
  unfold pKd at h
  cases h1 : pText l with
  | none => rw [h1] at h; cases h
  | some y =>
    obtain ⟨k, s⟩ := y
    rw [h1] at h
    dsimp only at h
    cases h2 : pTake 8 s with
    | none => rw [h2] at h; cases h
    | some y =>
      obtain ⟨a, t⟩ := y
      rw [h2] at h
      dsimp only at h
      cases h3 : pTake 8 t with
      | none => rw [h3] at h; cases h
      | some y =>
        obtain ⟨b, u⟩ := y
        rw [h3] at h
        simp only [Option.some.injEq, Prod.mk.injEq] at h
        obtain ⟨rfl, rfl⟩ := h
        have e1 := pText_some h1
        obtain ⟨e2, l2⟩ := pTake_some h2
        obtain ⟨e3, l3⟩ := pTake_some h3
        have sa : ∀ c ∈ a, c < 256 := fun c hc => hl c (by rw [e1, e2]; simp [hc])
        have sb : ∀ c ∈ b, c < 256 := fun c hc => hl c (by rw [e1, e2, e3]; simp [hc])
        have na := numOf_lt a sa
        have nb := numOf_lt b sb
        rw [l2] at na
        rw [l3] at nb
        have ha := high_numOf a sa
        have hb := high_numOf b sb
        rw [l2] at ha
        rw [l3] at hb
        have na' : numOf a < 18446744073709551616 := na
        have nb' : numOf b < 18446744073709551616 := nb
        dsimp only at h0
        have hw : RowKit.wrap64 (numOf a : Nat) = numOf a := by unfold RowKit.wrap64 at h0 ⊢; omega
        refine ⟨?_, h0, ?_, nb'⟩
        · rw [e1, e2, e3]
          unfold kdOf
          dsimp only
          rw [hw, Int.toNat_natCast, ha, hb]
          simp
        · show RowKit.wrap64 (numOf a : Nat) ≤ _
          unfold RowKit.wrap64 at h0 ⊢; omega
theorem pMany_app {α : Type} {p : List Nat → Option (α × List Nat)} {enc : α → List Nat} : ∀ {xs : List α}, (∀ x ∈ xs, ∀ m, p (enc x ++ m) = some (x, m)) → ∀ m, pMany p xs.length (xs.flatMap enc ++ m) = some (xs, m)
  | [], _, _ => rfl
  | x :: xs, h, m => by
    rw [List.flatMap_cons, List.append_assoc, List.length_cons, pMany, h x (by simp)]
    dsimp only
    rw [pMany_app (fun y hy => h y (by simp [hy])) m]
theorem pMany_some {α : Type} {p : List Nat → Option (α × List Nat)} {enc : α → List Nat} {Good : α → Prop} (hp : ∀ l x r, (∀ c ∈ l, c < 256) → p l = some (x, r) → Good x → l = enc x ++ r) :
    ∀ {n : Nat} {l : List Nat} {xs : List α} {r : List Nat}, (∀ c ∈ l, c < 256) → pMany p n l = some (xs, r) → (∀ x ∈ xs, Good x) → l = xs.flatMap enc ++ r ∧ xs.length = n
  | 0, l, xs, r, _, h, _ => by
    rw [pMany, Option.some.injEq, Prod.mk.injEq] at h
    obtain ⟨rfl, rfl⟩ := h
    exact ⟨rfl, rfl⟩
  | n + 1, l, xs, r, hl, h, hg => by
    rw [pMany] at h
    cases h1 : p l with
    | none => rw [h1] at h; cases h
    | some y =>
      obtain ⟨x, s⟩ := y
      rw [h1] at h
      dsimp only at h
      cases h2 : pMany p n s with
      | none => rw [h2] at h; cases h
      | some z =>
        obtain ⟨ys, t⟩ := z
        rw [h2] at h
        simp only [Option.some.injEq, Prod.mk.injEq] at h
        obtain ⟨rfl, rfl⟩ := h
        have e1 := hp l x s hl h1 (hg x (by simp))
        obtain ⟨e2, l2⟩ := pMany_some hp (l := s) (fun c hc => hl c (by rw [e1]; simp [hc])) h2 (fun y hy => hg y (by simp [hy]))
        exact ⟨by rw [e1, e2]; simp, by rw [List.length_cons, l2]⟩
theorem pMany_fine : ∀ {c : Nat} {r : List Nat} {xs : List (List Nat × NKd)} {s : List Nat}, (∀ c ∈ r, c < 256) → pMany pKd c r = some (xs, s) → (∀ x ∈ xs, 0 ≤ x.2.off) → ∀ x ∈ xs, x.2.off ≤ 9223372036854775807 ∧ x.2.ct < 18446744073709551616
  | 0, r, xs, s, _, h, _ => by
    rw [pMany, Option.some.injEq, Prod.mk.injEq] at h
    obtain ⟨rfl, _⟩ := h
    intro x hx; cases hx
  | c + 1, r, xs, s, hr, h, hg => by
    rw [pMany] at h
    cases h2 : pKd r with
    | none => rw [h2] at h; cases h
    | some y =>
      obtain ⟨x, s⟩ := y
      rw [h2] at h
      dsimp only at h
      cases h3 : pMany pKd c s with
      | none => rw [h3] at h; cases h
      | some z =>
        obtain ⟨ys, t⟩ := z
        rw [h3] at h
        simp only [Option.some.injEq, Prod.mk.injEq] at h
        obtain ⟨rfl, rfl⟩ := h
        obtain ⟨q1, q2⟩ := pKd_some hr h2 (hg x (by simp))
        intro y hy
        rcases List.mem_cons.1 hy with rfl | hy
        · exact q2.2
        · exact pMany_fine (fun c hc => hr c (by rw [q1]; simp [hc])) h3 (fun x hx => hg x (by simp [hx])) y hy
def lfOf (its : List NIt) : Nd := ⟨true, its, [], []⟩
def inOf (xs : List (List Nat × NKd)) : Nd := ⟨false, [], xs.map (·.1), xs.map (·.2)⟩
def ndTold (n : Nd) : List Nat → Option Nd
  | [] => if mayNd n = true then some n else none
  | _ :: _ => none
def ndBody (leaf : Bool) (c : Nat) (r : List Nat) : Option Nd :=
  if leaf = true then match pMany pIt c r with
    | none => none
    | some (its, s) => ndTold (lfOf its) s
  else match pMany pKd c r with
    | none => none
    | some (xs, s) => ndTold (inOf xs) s
def takeNd : List Nat → Option Nd
  | k :: c :: r => if k = 76 then ndBody true c r else if k = 78 then ndBody false c r else none
  | _ => none
theorem zip_map1 {α β : Type} : ∀ {a : List α} {b : List β}, a.length = b.length → (a.zip b).map (·.1) = a
  | [], [], _ => rfl
  | x :: a, y :: b, h => by rw [List.zip_cons_cons, List.map_cons, zip_map1 (by simpa using h)]
theorem zip_map2 {α β : Type} : ∀ {a : List α} {b : List β}, a.length = b.length → (a.zip b).map (·.2) = b
  | [], [], _ => rfl
  | x :: a, y :: b, h => by rw [List.zip_cons_cons, List.map_cons, zip_map2 (by simpa using h)]
theorem zip_maps {α β : Type} : ∀ (xs : List (α × β)), (xs.map (·.1)).zip (xs.map (·.2)) = xs
  | [] => rfl
  | x :: xs => by simp [zip_maps xs]
structure NdFine (n : Nd) : Prop where
  its : ∀ i ∈ n.its, (∀ c ∈ i.k, c < 256) ∧ ∀ c ∈ i.v, c < 256
  ks : ∀ k ∈ n.ks, ∀ c ∈ k, c < 256
  kids : ∀ d ∈ n.kids, d.off ≤ 9223372036854775807 ∧ d.ct < 18446744073709551616
theorem ndOf_lf {n : Nd} (hl : n.leaf = true) : ndOf n = 76 :: n.its.length :: n.its.flatMap itOf := by unfold ndOf; rw [if_pos hl]
theorem ndOf_in {n : Nd} (hl : n.leaf = false) : ndOf n = 78 :: n.kids.length :: (n.ks.zip n.kids).flatMap kdOf := by unfold ndOf; rw [hl]; rfl
theorem may_lf {n : Nd} (hl : n.leaf = true) (hm : mayNd n = true) : (1 ≤ n.its.length ∧ n.its.length ≤ 8) ∧ (∀ i ∈ n.its, mayIt i = true) ∧ risesN (n.its.map (·.k)) = true ∧ n.ks = [] ∧ n.kids = [] := by
  unfold mayNd at hm
  rw [if_pos hl] at hm
  exact (mayLf_iff n).1 hm
theorem may_in {n : Nd} (hl : n.leaf = false) (hm : mayNd n = true) : (2 ≤ n.kids.length ∧ n.kids.length ≤ 8) ∧ n.ks.length = n.kids.length ∧ (∀ k ∈ n.ks, mayK k = true) ∧ risesN n.ks = true ∧ (∀ d ∈ n.kids, mayKd d = true) ∧ n.its = [] := by
  unfold mayNd at hm
  rw [hl] at hm
  exact (mayIn_iff n).1 hm
theorem lfOf_its {n : Nd} (hl : n.leaf = true) (hm : mayNd n = true) : lfOf n.its = n := by
  obtain ⟨_, _, _, h1, h2⟩ := may_lf hl hm
  cases n
  simp only at hl h1 h2
  subst hl; subst h1; subst h2
  rfl
theorem inOf_zip {n : Nd} (hl : n.leaf = false) (hm : mayNd n = true) : inOf (n.ks.zip n.kids) = n := by
  obtain ⟨_, h1, _, _, _, h2⟩ := may_in hl hm
  cases n
  simp only at hl h1 h2
  subst hl; subst h2
  unfold inOf
  rw [zip_map1 h1, zip_map2 h1]
theorem takeNd_app {n : Nd} (hf : NdFine n) (hm : mayNd n = true) (m : List Nat) : takeNd (ndOf n ++ m) = ndTold n m := by
  cases hl : n.leaf with
  | true =>
    rw [ndOf_lf hl]
    rw [List.cons_append, List.cons_append]
    unfold takeNd
    dsimp only
    rw [if_pos rfl]
    unfold ndBody
    rw [if_pos rfl, pMany_app (fun x _ m => pIt_app x m)]
    dsimp only
    rw [lfOf_its hl hm]
  | false =>
    obtain ⟨h0, h1, _, _, h2, _⟩ := may_in hl hm
    rw [ndOf_in hl]
    rw [List.cons_append, List.cons_append]
    unfold takeNd
    dsimp only
    rw [if_neg (by decide), if_pos rfl]
    unfold ndBody
    have hlen : n.kids.length = (n.ks.zip n.kids).length := by rw [List.length_zip]; omega
    rw [hlen, if_neg (by decide), pMany_app (fun x hx m => pKd_app (by
      have hk : x.2 ∈ n.kids := (List.of_mem_zip (a := x.1) (b := x.2) hx).2
      obtain ⟨q1, q2, q3⟩ := (mayKd_iff _).1 (h2 _ hk)
      exact ⟨by omega, (hf.kids _ hk).1, by omega⟩) m)]
    dsimp only
    rw [inOf_zip hl hm]
theorem takeNd_put {n : Nd} (hf : NdFine n) (hm : mayNd n = true) : takeNd (ndOf n) = some n := by
  have := takeNd_app hf hm []
  rw [List.append_nil] at this
  rw [this]
  unfold ndTold
  rw [if_pos hm]
theorem ndTold_some {n x : Nd} {m : List Nat} (h : ndTold n m = some x) : m = [] ∧ mayNd n = true ∧ x = n := by
  cases m with
  | cons _ _ => cases h
  | nil =>
    unfold ndTold at h
    dsimp only at h
    split at h
    · rename_i hm
      exact ⟨rfl, hm, (Option.some.inj h).symm⟩
    · cases h
theorem takeNd_some {l : List Nat} {n : Nd} (hl : ∀ c ∈ l, c < 256) (h : takeNd l = some n) : l = ndOf n ∧ mayNd n = true ∧ NdFine n := by
  match l, hl, h with
  | [], _, h => cases h
  | [_], _, h => cases h
  | k :: c :: r, hl, h =>
    have hr : ∀ c ∈ r, c < 256 := fun c hc => hl c (by simp [hc])
    unfold takeNd at h
    dsimp only at h
    split at h
    · rename_i hk
      subst hk
      unfold ndBody at h
      rw [if_pos rfl] at h
      cases h1 : pMany pIt c r with
      | none => rw [h1] at h; cases h
      | some y =>
        obtain ⟨its, s⟩ := y
        rw [h1] at h
        dsimp only at h
        obtain ⟨rfl, hm, rfl⟩ := ndTold_some h
        obtain ⟨e1, l1⟩ := pMany_some (Good := fun _ => True) (fun l x r _ h _ => pIt_some h) hr h1 (fun _ _ => trivial)
        rw [List.append_nil] at e1
        refine ⟨?_, hm, ?_⟩
        · rw [ndOf_lf rfl]
          show _ = 76 :: its.length :: its.flatMap itOf
          rw [l1, e1]
        · refine ⟨fun i hi => ?_, fun _ h => (List.not_mem_nil h).elim, fun _ h => (List.not_mem_nil h).elim⟩
          have hi' : i ∈ its := hi
          have hmem : ∀ c ∈ itOf i, c < 256 := fun c hc => hr c (by rw [e1]; exact List.mem_flatMap.2 ⟨i, hi', hc⟩)
          exact ⟨fun c hc => hmem c (by simp [itOf, txt, hc]), fun c hc => hmem c (by simp [itOf, txt, hc])⟩
    · split at h
      · rename_i hk
        subst hk
        unfold ndBody at h
        rw [if_neg (by decide)] at h
        cases h1 : pMany pKd c r with
        | none => rw [h1] at h; cases h
        | some y =>
          obtain ⟨xs, s⟩ := y
          rw [h1] at h
          dsimp only at h
          obtain ⟨rfl, hm, rfl⟩ := ndTold_some h
          obtain ⟨_, _, _, _, hk, _⟩ := may_in (n := inOf xs) rfl hm
          have hg : ∀ x ∈ xs, 0 ≤ x.2.off := fun x hx => by
            have := ((mayKd_iff _).1 (hk x.2 (List.mem_map.2 ⟨x, hx, rfl⟩))).1
            omega
          obtain ⟨e1, l1⟩ := pMany_some (Good := fun x => 0 ≤ x.2.off) (fun l x r hl h h0 => (pKd_some hl h h0).1) hr h1 hg
          rw [List.append_nil] at e1
          have hfine := pMany_fine hr h1 hg
          refine ⟨?_, hm, ?_⟩
          · rw [ndOf_in rfl]
            show _ = 78 :: (xs.map (·.2)).length :: ((xs.map (·.1)).zip (xs.map (·.2))).flatMap kdOf
            rw [List.length_map, zip_maps, l1, e1]
          · refine ⟨fun _ h => (List.not_mem_nil h).elim, fun k hk c hc => ?_, fun d hd => ?_⟩
            · obtain ⟨x, hx, rfl⟩ := List.mem_map.1 hk
              exact hr c (by rw [e1]; exact List.mem_flatMap.2 ⟨x, hx, by simp [kdOf, txt, hc]⟩)
            · obtain ⟨x, hx, rfl⟩ := List.mem_map.1 hd
              exact hfine x hx
      · cases h
theorem flat_length {α : Type} {f : α → List Nat} {b : Nat} : ∀ {xs : List α}, (∀ x ∈ xs, (f x).length ≤ b) → (xs.flatMap f).length ≤ b * xs.length
  | [], _ => by simp
  | x :: xs, h => by
    rw [List.flatMap_cons, List.length_append, List.length_cons]
    have h1 := h x (by simp)
    have h2 := flat_length (f := f) (b := b) (xs := xs) (fun y hy => h y (by simp [hy]))
    rw [Nat.mul_add]
    omega
theorem ndOf_length {n : Nd} (hm : mayNd n = true) : 2 ≤ (ndOf n).length ∧ (ndOf n).length ≤ 1300 := by
  cases hl : n.leaf with
  | true =>
    obtain ⟨h0, h1, _⟩ := may_lf hl hm
    rw [ndOf_lf hl, List.length_cons, List.length_cons]
    have := flat_length (f := itOf) (b := 162) (xs := n.its) (fun x hx => by
      obtain ⟨q1, q2⟩ := (mayIt_iff _).1 (h1 x hx)
      have := ((mayK_iff _).1 q1).2
      simp [itOf, txt]; omega)
    omega
  | false =>
    obtain ⟨h0, h1, h2, _, _, _⟩ := may_in hl hm
    rw [ndOf_in hl, List.length_cons, List.length_cons]
    have := flat_length (f := kdOf) (b := 57) (xs := n.ks.zip n.kids) (fun x hx => by
      have hk : x.1 ∈ n.ks := (List.of_mem_zip (a := x.1) (b := x.2) hx).1
      have := ((mayK_iff _).1 (h2 _ hk)).2
      simp [kdOf, txt, highOf_length]; omega)
    rw [List.length_zip] at this
    omega
theorem txt_small {l : List Nat} (hl : ∀ c ∈ l, c < 256) (hn : l.length < 256) : ∀ c ∈ txt l, c < 256 := fun c hc => by
  rcases List.mem_cons.1 hc with rfl | hc
  · exact hn
  · exact hl c hc
theorem ndOf_small {n : Nd} (hf : NdFine n) (hm : mayNd n = true) : ∀ c ∈ ndOf n, c < 256 := by
  intro c hc
  cases hl : n.leaf with
  | true =>
    obtain ⟨h0, h1, _⟩ := may_lf hl hm
    rw [ndOf_lf hl] at hc
    rcases List.mem_cons.1 hc with rfl | hc
    · omega
    rcases List.mem_cons.1 hc with rfl | hc
    · omega
    obtain ⟨i, hi, hc⟩ := List.mem_flatMap.1 hc
    obtain ⟨q1, q2⟩ := (mayIt_iff _).1 (h1 i hi)
    have q3 := ((mayK_iff _).1 q1).2
    rcases List.mem_append.1 hc with hc | hc
    · exact txt_small (hf.its i hi).1 (by omega) c hc
    · exact txt_small (hf.its i hi).2 (by omega) c hc
  | false =>
    obtain ⟨h0, h1, h2, _, _, _⟩ := may_in hl hm
    rw [ndOf_in hl] at hc
    rcases List.mem_cons.1 hc with rfl | hc
    · omega
    rcases List.mem_cons.1 hc with rfl | hc
    · omega
    obtain ⟨x, hx, hc⟩ := List.mem_flatMap.1 hc
    have hk : x.1 ∈ n.ks := (List.of_mem_zip (a := x.1) (b := x.2) hx).1
    have q := ((mayK_iff _).1 (h2 _ hk)).2
    rcases List.mem_append.1 hc with hc | hc
    · exact txt_small (hf.ks _ hk) (by omega) c hc
    · rcases List.mem_append.1 hc with hc | hc
      · exact highOf_small _ _ c hc
      · exact highOf_small _ _ c hc
theorem putNd_small {n : Nd} (hf : NdFine n) : ∀ c ∈ putNd n, c < 256 := by
  unfold putNd
  split
  · rename_i h; exact ndOf_small hf h
  · intro c hc; cases hc
theorem putNd_length (n : Nd) : (putNd n).length ≤ 1300 := by
  unfold putNd
  split
  · rename_i h; exact (ndOf_length h).2
  · simp
end Go.By
/- Arguments that are nodes, opened. -/
namespace Go.By
open Go Go.RowKit Go.ChangeShapes Go.WideShapes Go.ChangeAt Go.Deep
def KBytes : Kind (List Nat) where
  width := 1
  is w cs l := ∃ v, cs = [v] ∧ Bytes w v l
  len h := by obtain ⟨v, rfl, _⟩ := h; rfl
  stays h hb := by obtain ⟨v, rfl, h⟩ := h; exact ⟨v, rfl, h.below hb⟩
def KItem : Kind NIt where
  width := 2
  is w cs i := ∃ a b, cs = [a, b] ∧ Bytes w a i.k ∧ Bytes w b i.v
  len h := by obtain ⟨a, b, rfl, _⟩ := h; rfl
  stays h hb := by obtain ⟨a, b, rfl, h1, h2⟩ := h; exact ⟨a, b, rfl, h1.below hb, h2.below hb⟩
def KRef : Kind NKd where
  width := 2
  is _ cs d := cs = [.int .i64 d.off, .int .u64 (d.ct : Nat)] ∧ d.off ≤ 9223372036854775807 ∧ d.ct < 18446744073709551616
  len h := by obtain ⟨rfl, _⟩ := h; rfl
  stays h _ := h
structure IsNd (w : World) (v : Value) (n : Nd) (pi : Option Addr) (ci : Nat) (pk : Option Addr) (ck : Nat) (pd : Option Addr) (cd : Nat) : Prop where
  val : v = .agg #[.bool n.leaf, .slice pi n.its.length ci, .slice pk n.ks.length ck, .slice pd n.kids.length cd]
  its : RowAt KItem w pi ci n.its
  ks : RowAt KBytes w pk ck n.ks
  kids : RowAt KRef w pd cd n.kids
theorem IsNd.below {w w' : World} {v : Value} {n : Nd} {pi pk pd : Option Addr} {ci ck cd : Nat} (h : IsNd w v n pi ci pk ck pd cd) (hb : Below w.heap.size w w') : IsNd w' v n pi ci pk ck pd cd :=
  ⟨h.val, h.its.below hb, h.ks.below hb, h.kids.below hb⟩
theorem IsNd.fine {w : World} {v : Value} {n : Nd} {pi pk pd : Option Addr} {ci ck cd : Nat} (h : IsNd w v n pi ci pk ck pd cd) : NdFine n := by
  refine ⟨fun i hi => ?_, fun k hk => ?_, fun d hd => ?_⟩
  · obtain ⟨j, hj, rfl⟩ := List.getElem_of_mem hi
    obtain ⟨_, _, _, _, _, a, b, _, h1, h2⟩ := h.its.at_ j hj
    exact ⟨h1.small, h2.small⟩
  · obtain ⟨j, hj, rfl⟩ := List.getElem_of_mem hk
    obtain ⟨_, _, _, _, _, v, _, h1⟩ := h.ks.at_ j hj
    exact h1.small
  · obtain ⟨j, hj, rfl⟩ := List.getElem_of_mem hd
    obtain ⟨_, _, _, _, _, _, h1⟩ := h.kids.at_ j hj
    exact h1
end Go.By
