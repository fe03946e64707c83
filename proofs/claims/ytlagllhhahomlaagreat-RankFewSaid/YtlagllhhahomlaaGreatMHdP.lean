/- Keys: names, numbers, their order. Plain. -/
import Derived.Test.YtlagllhhahomlaaGreatMSlA
import Derived.Lib.Bytes
namespace Go.By
open Go
def natsOf (s : ByteArray) : List Nat := s.toList.map UInt8.toNat
theorem natsOf_length (s : ByteArray) : (natsOf s).length = s.size := by
  unfold natsOf
  rw [List.length_map, Lib.toList_data]
  rfl
theorem strOf_toList (l : List Nat) : (strOf l).toList = l.map UInt8.ofNat := by
  unfold strOf
  rw [Lib.strOfNums_toList, Lib.bytesOf, List.map_map]
  rfl
theorem natsOf_strOf {l : List Nat} (h : ∀ c ∈ l, c < 256) : natsOf (strOf l) = l := by
  unfold natsOf
  rw [strOf_toList, List.map_map]
  conv => rhs; rw [← List.map_id l]
  apply List.map_congr_left
  intro c hc
  have := h c hc
  simp
  omega
theorem strOf_natsOf (s : ByteArray) : strOf (natsOf s) = s := by
  have h : (strOf (natsOf s)).toList = s.toList := by
    rw [strOf_toList]
    unfold natsOf
    rw [List.map_map]
    conv => rhs; rw [← List.map_id s.toList]
    apply List.map_congr_left
    intro x _
    simp
  rw [Lib.toList_data, Lib.toList_data] at h
  have h2 := Array.toList_inj.1 h
  cases s
  cases hs : strOf (natsOf _)
  simp_all
theorem natsOf_inj {s t : ByteArray} (h : natsOf s = natsOf t) : s = t := by
  rw [← strOf_natsOf s, ← strOf_natsOf t, h]
def lessN : List Nat → List Nat → Bool
  | _, [] => false
  | [], _ :: _ => true
  | a :: x, b :: y => decide (a < b) || (decide (a = b) && lessN x y)
theorem less_nats : ∀ (x y : List UInt8), Op.bytesLess x y = lessN (x.map UInt8.toNat) (y.map UInt8.toNat)
  | [], [] => rfl
  | _ :: _, [] => rfl
  | [], _ :: _ => rfl
  | a :: x, b :: y => by
    rw [Op.bytesLess, less_nats x y]
    show _ = (decide (a.toNat < b.toNat) || (decide (a.toNat = b.toNat) && lessN (x.map UInt8.toNat) (y.map UInt8.toNat)))
    have e1 : decide (a < b) = decide (a.toNat < b.toNat) := decide_eq_decide.2 UInt8.lt_iff_toNat_lt
    have e2 : (a == b) = decide (a.toNat = b.toNat) := by
      rw [Bool.eq_iff_iff, beq_iff_eq, decide_eq_true_eq]
      exact UInt8.toNat_inj.symm
    rw [e1, e2]
theorem eq_str (a b : ByteArray) : (a.toList == b.toList) = decide (natsOf a = natsOf b) := by
  rw [Bool.eq_iff_iff, beq_iff_eq, decide_eq_true_eq]
  constructor
  · intro h; unfold natsOf; rw [h]
  · intro h; rw [natsOf_inj h]
theorem lessN_irrefl : ∀ x : List Nat, lessN x x = false
  | [] => rfl
  | a :: x => by simp [lessN, lessN_irrefl x]
theorem lessN_append : ∀ (x y p q : List Nat), x.length = y.length → lessN (x ++ p) (y ++ q) = (lessN x y || (decide (x = y) && lessN p q))
  | [], [], p, q, _ => by simp [lessN]
  | a :: x, b :: y, p, q, h => by
    simp only [List.length_cons, Nat.succ.injEq] at h
    simp only [List.cons_append, lessN, lessN_append x y p q h, List.cons.injEq]
    by_cases h1 : a < b <;> by_cases h2 : a = b <;> simp [h1, h2]
  | [], _ :: _, _, _, h => by simp at h
  | _ :: _, [], _, _, h => by simp at h
theorem lessN_high : ∀ (k n m : Nat), n < 256 ^ k → m < 256 ^ k → lessN (highOf n k) (highOf m k) = decide (n < m)
  | 0, n, m, hn, hm => by
    simp at hn hm
    subst hn hm
    rfl
  | k + 1, n, m, hn, hm => by
    rw [Nat.pow_succ] at hn hm
    have h1 := lessN_high k (n / 256) (m / 256) (by omega) (by omega)
    rw [highOf, highOf, lessN_append _ _ _ _ (by rw [highOf_length, highOf_length]), h1]
    have hinj : highOf (n / 256) k = highOf (m / 256) k ↔ n / 256 = m / 256 := by
      constructor
      · intro h
        have a := numOf_high k (n / 256) (by omega)
        have b := numOf_high k (m / 256) (by omega)
        rw [← a, ← b, h]
      · intro h; rw [h]
    have h2 : lessN [n % 256] [m % 256] = decide (n % 256 < m % 256) := by simp [lessN]
    rw [h2, Bool.eq_iff_iff]
    simp only [Bool.or_eq_true, Bool.and_eq_true, decide_eq_true_eq, hinj]
    omega
theorem lessN_nil_right (x : List Nat) : lessN x [] = false := by cases x <;> rfl
end Go.By
/- Events as rows of bytes: what is put, how it is read on. Plain. -/
namespace Go.By
open Go
structure Ev where
  seq : Int
  ver : Int
  st : List Nat
  ty : List Nat
  da : List Nat
deriving DecidableEq
def txt (l : List Nat) : List Nat := l.length :: l
theorem txt_length (l : List Nat) : (txt l).length = l.length + 1 := rfl
structure EvFine (e : Ev) : Prop where
  seq : e.seq ≤ 9223372036854775807
  ver : e.ver ≤ 9223372036854775807
  st : ∀ c ∈ e.st, c < 256
  ty : ∀ c ∈ e.ty, c < 256
  da : ∀ c ∈ e.da, c < 256
structure EvRd where
  a : List Nat
  b : List Nat
  c : List Nat
  d : List Nat
  e : List Nat
  s : Option (List Nat)
theorem wrap64_nat {n : Nat} (h : n ≤ 9223372036854775807) : RowKit.wrap64 (n : Nat) = n := by unfold RowKit.wrap64; omega
end Go.By
/- Nodes as rows of bytes: which may be, what is put, what is taken. Plain. -/
namespace Go.By
open Go
structure NIt where
  k : List Nat
  v : List Nat
deriving DecidableEq
structure NKd where
  off : Int
  ct : Nat
deriving DecidableEq
structure Nd where
  leaf : Bool
  its : List NIt
  ks : List (List Nat)
  kids : List NKd
deriving DecidableEq
def mayK (k : List Nat) : Bool := decide (1 ≤ k.length) && decide (k.length ≤ 40)
theorem mayK_iff (k : List Nat) : mayK k = true ↔ 1 ≤ k.length ∧ k.length ≤ 40 := by simp [mayK]
def risesN : List (List Nat) → Bool
  | [] => true
  | [_] => true
  | a :: b :: r => lessN a b && risesN (b :: r)
def mayIt (i : NIt) : Bool := mayK i.k && decide (i.v.length ≤ 120)
theorem mayIt_iff (i : NIt) : mayIt i = true ↔ mayK i.k = true ∧ i.v.length ≤ 120 := by simp [mayIt]
def mayKd (d : NKd) : Bool := decide (1 ≤ d.off) && (decide (1 ≤ d.ct) && decide (d.ct ≤ 1099511627776))
theorem mayKd_iff (d : NKd) : mayKd d = true ↔ 1 ≤ d.off ∧ 1 ≤ d.ct ∧ d.ct ≤ 1099511627776 := by simp [mayKd]
def mayLf (n : Nd) : Bool := decide (1 ≤ n.its.length ∧ n.its.length ≤ 8) && (n.its.all mayIt && (risesN (n.its.map (·.k)) && (decide (n.ks = []) && decide (n.kids = []))))
def mayIn (n : Nd) : Bool := decide (2 ≤ n.kids.length ∧ n.kids.length ≤ 8) && (decide (n.ks.length = n.kids.length) && (n.ks.all mayK && (risesN n.ks && (n.kids.all mayKd && decide (n.its = [])))))
def mayNd (n : Nd) : Bool := if n.leaf = true then mayLf n else mayIn n
theorem mayLf_iff (n : Nd) : mayLf n = true ↔ (1 ≤ n.its.length ∧ n.its.length ≤ 8) ∧ (∀ i ∈ n.its, mayIt i = true) ∧ risesN (n.its.map (·.k)) = true ∧ n.ks = [] ∧ n.kids = [] := by simp [mayLf]
theorem mayIn_iff (n : Nd) : mayIn n = true ↔ (2 ≤ n.kids.length ∧ n.kids.length ≤ 8) ∧ n.ks.length = n.kids.length ∧ (∀ k ∈ n.ks, mayK k = true) ∧ risesN n.ks = true ∧ (∀ d ∈ n.kids, mayKd d = true) ∧ n.its = [] := by simp [mayIn]
def itOf (i : NIt) : List Nat := txt i.k ++ txt i.v
def kdOf (x : List Nat × NKd) : List Nat := txt x.1 ++ (highOf x.2.off.toNat 8 ++ highOf x.2.ct 8)
def ndOf (n : Nd) : List Nat := if n.leaf = true then 76 :: n.its.length :: n.its.flatMap itOf else 78 :: n.kids.length :: (n.ks.zip n.kids).flatMap kdOf
def putNd (n : Nd) : List Nat := if mayNd n = true then ndOf n else []
def pTake (n : Nat) (l : List Nat) : Option (List Nat × List Nat) := if n ≤ l.length then some (l.take n, l.drop n) else none
def pText : List Nat → Option (List Nat × List Nat)
  | [] => none
  | c :: r => pTake c r
def pIt (l : List Nat) : Option (NIt × List Nat) :=
  match pText l with
  | none => none
  | some (k, r) => match pText r with
    | none => none
    | some (v, r) => some (⟨k, v⟩, r)
def pKd (l : List Nat) : Option ((List Nat × NKd) × List Nat) :=
  match pText l with
  | none => none
  | some (k, r) => match pTake 8 r with
    | none => none
    | some (a, r) => match pTake 8 r with
      | none => none
      | some (b, r) => some ((k, ⟨RowKit.wrap64 (numOf a : Nat), numOf b⟩), r)
def pMany {α : Type} (p : List Nat → Option (α × List Nat)) : Nat → List Nat → Option (List α × List Nat)
  | 0, l => some ([], l)
  | n + 1, l => match p l with
    | none => none
    | some (x, r) => match pMany p n r with
      | none => none
      | some (xs, r) => some (x :: xs, r)
theorem pTake_app {a b : List Nat} {n : Nat} (h : n = a.length) : pTake n (a ++ b) = some (a, b) := by
  subst h
  unfold pTake
  rw [if_pos (by rw [List.length_append]; omega), List.take_left, List.drop_left]
theorem pTake_some {n : Nat} {l a b : List Nat} (h : pTake n l = some (a, b)) : l = a ++ b ∧ a.length = n := by
  unfold pTake at h
  split at h
  · rename_i hn
    simp only [Option.some.injEq, Prod.mk.injEq] at h
    obtain ⟨rfl, rfl⟩ := h
    exact ⟨by rw [List.take_append_drop], by rw [List.length_take]; omega⟩
  · cases h
theorem pText_app (a b : List Nat) : pText (txt a ++ b) = some (a, b) := pTake_app rfl
theorem pText_some {l a b : List Nat} (h : pText l = some (a, b)) : l = txt a ++ b := by
  cases l with
  | nil => cases h
  | cons c r =>
    obtain ⟨h1, h2⟩ := pTake_some (n := c) (l := r) h
    rw [h1, txt, h2]; rfl
theorem pIt_app (i : NIt) (m : List Nat) : pIt (itOf i ++ m) = some (i, m) := by
  unfold pIt itOf
  rw [List.append_assoc, pText_app]
  dsimp only
  rw [pText_app]
theorem pIt_some {l r : List Nat} {i : NIt} (h : pIt l = some (i, r)) : l = itOf i ++ r := by
  unfold pIt at h
  cases h1 : pText l with
  | none => rw [h1] at h; cases h
  | some x =>
    obtain ⟨k, s⟩ := x
    rw [h1] at h
    dsimp only at h
    cases h2 : pText s with
    | none => rw [h2] at h; cases h
    | some y =>
      obtain ⟨v, t⟩ := y
      rw [h2] at h
      simp only [Option.some.injEq, Prod.mk.injEq] at h
      obtain ⟨rfl, rfl⟩ := h
      rw [pText_some h1, pText_some h2]
      simp [itOf]
def KdFine (x : List Nat × NKd) : Prop := 0 ≤ x.2.off ∧ x.2.off ≤ 9223372036854775807 ∧ x.2.ct < 18446744073709551616
theorem pKd_app {x : List Nat × NKd} (hx : KdFine x) (m : List Nat) : pKd (kdOf x ++ m) = some (x, m) := by
  obtain ⟨h0, h1, h2⟩ := hx
  unfold pKd kdOf
  rw [List.append_assoc, pText_app]
  dsimp only
  rw [List.append_assoc, pTake_app (highOf_length _ _).symm]
  dsimp only
  rw [pTake_app (highOf_length _ _).symm]
  dsimp only
  rw [numOf_high 8 _ (by omega), numOf_high 8 _ h2, wrap64_nat (by omega), Int.toNat_of_nonneg h0]
theorem pKd_some {l r : List Nat} {x : List Nat × NKd} (hl : ∀ c ∈ l, c < 256) (h : pKd l = some (x, r)) (h0 : 0 ≤ x.2.off) : l = kdOf x ++ r ∧ KdFine x := by
  unfold pKd at h
  cases h1 : pText l with
  | none => rw [h1] at h; cases h
  | some y =>
    obtain ⟨k, s⟩ := y
    rw [h1] at h
    dsimp only at h
    cases h2 : pTake 8 s with
    | none => rw [h2] at h; cases h
    | some y =>
      obtain ⟨a, t⟩ := y
      rw [h2] at h
      dsimp only at h
      cases h3 : pTake 8 t with
      | none => rw [h3] at h; cases h
      | some y =>
        obtain ⟨b, u⟩ := y
        rw [h3] at h
        simp only [Option.some.injEq, Prod.mk.injEq] at h
        obtain ⟨rfl, rfl⟩ := h
        have e1 := pText_some h1
        obtain ⟨e2, l2⟩ := pTake_some h2
        obtain ⟨e3, l3⟩ := pTake_some h3
        have sa : ∀ c ∈ a, c < 256 := fun c hc => hl c (by rw [e1, e2]; simp [hc])
        have sb : ∀ c ∈ b, c < 256 := fun c hc => hl c (by rw [e1, e2, e3]; simp [hc])
        have na := numOf_lt a sa
        have nb := numOf_lt b sb
        rw [l2] at na
        rw [l3] at nb
        have ha := high_numOf a sa
        have hb := high_numOf b sb
        rw [l2] at ha
        rw [l3] at hb
        have na' : numOf a < 18446744073709551616 := na
        have nb' : numOf b < 18446744073709551616 := nb
        dsimp only at h0
        have hw : RowKit.wrap64 (numOf a : Nat) = numOf a := by unfold RowKit.wrap64 at h0 ⊢; omega
        refine ⟨?_, h0, ?_, nb'⟩
        · rw [e1, e2, e3]
          unfold kdOf
          dsimp only
          rw [hw, Int.toNat_natCast, ha, hb]
          simp
        · show RowKit.wrap64 (numOf a : Nat) ≤ _
          unfold RowKit.wrap64 at h0 ⊢; omega
theorem pMany_app {α : Type} {p : List Nat → Option (α × List Nat)} {enc : α → List Nat} : ∀ {xs : List α}, (∀ x ∈ xs, ∀ m, p (enc x ++ m) = some (x, m)) → ∀ m, pMany p xs.length (xs.flatMap enc ++ m) = some (xs, m)
  | [], _, _ => rfl
  | x :: xs, h, m => by
    rw [List.flatMap_cons, List.append_assoc, List.length_cons, pMany, h x (by simp)]
    dsimp only
    rw [pMany_app (fun y hy => h y (by simp [hy])) m]
theorem pMany_some {α : Type} {p : List Nat → Option (α × List Nat)} {enc : α → List Nat} {Good : α → Prop} (hp : ∀ l x r, (∀ c ∈ l, c < 256) → p l = some (x, r) → Good x → l = enc x ++ r) :
    ∀ {n : Nat} {l : List Nat} {xs : List α} {r : List Nat}, (∀ c ∈ l, c < 256) → pMany p n l = some (xs, r) → (∀ x ∈ xs, Good x) → l = xs.flatMap enc ++ r ∧ xs.length = n
  | 0, l, xs, r, _, h, _ => by
    rw [pMany, Option.some.injEq, Prod.mk.injEq] at h
    obtain ⟨rfl, rfl⟩ := h
    exact ⟨rfl, rfl⟩
  | n + 1, l, xs, r, hl, h, hg => by
    rw [pMany] at h
    cases h1 : p l with
    | none => rw [h1] at h; cases h
    | some y =>
      obtain ⟨x, s⟩ := y
      rw [h1] at h
      dsimp only at h
      cases h2 : pMany p n s with
      | none => rw [h2] at h; cases h
      | some z =>
        obtain ⟨ys, t⟩ := z
        rw [h2] at h
        simp only [Option.some.injEq, Prod.mk.injEq] at h
        obtain ⟨rfl, rfl⟩ := h
        have e1 := hp l x s hl h1 (hg x (by simp))
        obtain ⟨e2, l2⟩ := pMany_some hp (l := s) (fun c hc => hl c (by rw [e1]; simp [hc])) h2 (fun y hy => hg y (by simp [hy]))
        exact ⟨by rw [e1, e2]; simp, by rw [List.length_cons, l2]⟩
theorem pMany_fine : ∀ {c : Nat} {r : List Nat} {xs : List (List Nat × NKd)} {s : List Nat}, (∀ c ∈ r, c < 256) → pMany pKd c r = some (xs, s) → (∀ x ∈ xs, 0 ≤ x.2.off) → ∀ x ∈ xs, x.2.off ≤ 9223372036854775807 ∧ x.2.ct < 18446744073709551616
  | 0, r, xs, s, _, h, _ => by
    rw [pMany, Option.some.injEq, Prod.mk.injEq] at h
    obtain ⟨rfl, _⟩ := h
    intro x hx; cases hx
  | c + 1, r, xs, s, hr, h, hg => by
    rw [pMany] at h
    cases h2 : pKd r with
    | none => rw [h2] at h; cases h
    | some y =>
      obtain ⟨x, s⟩ := y
      rw [h2] at h
      dsimp only at h
      cases h3 : pMany pKd c s with
      | none => rw [h3] at h; cases h
      | some z =>
        obtain ⟨ys, t⟩ := z
        rw [h3] at h
        simp only [Option.some.injEq, Prod.mk.injEq] at h
        obtain ⟨rfl, rfl⟩ := h
        obtain ⟨q1, q2⟩ := pKd_some hr h2 (hg x (by simp))
        intro y hy
        rcases List.mem_cons.1 hy with rfl | hy
        · exact q2.2
        · exact pMany_fine (fun c hc => hr c (by rw [q1]; simp [hc])) h3 (fun x hx => hg x (by simp [hx])) y hy
def lfOf (its : List NIt) : Nd := ⟨true, its, [], []⟩
def inOf (xs : List (List Nat × NKd)) : Nd := ⟨false, [], xs.map (·.1), xs.map (·.2)⟩
def ndTold (n : Nd) : List Nat → Option Nd
  | [] => if mayNd n = true then some n else none
  | _ :: _ => none
def ndBody (leaf : Bool) (c : Nat) (r : List Nat) : Option Nd :=
  if leaf = true then match pMany pIt c r with
    | none => none
    | some (its, s) => ndTold (lfOf its) s
  else match pMany pKd c r with
    | none => none
    | some (xs, s) => ndTold (inOf xs) s
def takeNd : List Nat → Option Nd
  | k :: c :: r => if k = 76 then ndBody true c r else if k = 78 then ndBody false c r else none
  | _ => none
theorem zip_map1 {α β : Type} : ∀ {a : List α} {b : List β}, a.length = b.length → (a.zip b).map (·.1) = a
  | [], [], _ => rfl
  | x :: a, y :: b, h => by rw [List.zip_cons_cons, List.map_cons, zip_map1 (by simpa using h)]
theorem zip_map2 {α β : Type} : ∀ {a : List α} {b : List β}, a.length = b.length → (a.zip b).map (·.2) = b
  | [], [], _ => rfl
  | x :: a, y :: b, h => by rw [List.zip_cons_cons, List.map_cons, zip_map2 (by simpa using h)]
theorem zip_maps {α β : Type} : ∀ (xs : List (α × β)), (xs.map (·.1)).zip (xs.map (·.2)) = xs
  | [] => rfl
  | x :: xs => by simp [zip_maps xs]
structure NdFine (n : Nd) : Prop where
  its : ∀ i ∈ n.its, (∀ c ∈ i.k, c < 256) ∧ ∀ c ∈ i.v, c < 256
  ks : ∀ k ∈ n.ks, ∀ c ∈ k, c < 256
  kids : ∀ d ∈ n.kids, d.off ≤ 9223372036854775807 ∧ d.ct < 18446744073709551616
theorem ndOf_lf {n : Nd} (hl : n.leaf = true) : ndOf n = 76 :: n.its.length :: n.its.flatMap itOf := by unfold ndOf; rw [if_pos hl]
theorem ndOf_in {n : Nd} (hl : n.leaf = false) : ndOf n = 78 :: n.kids.length :: (n.ks.zip n.kids).flatMap kdOf := by unfold ndOf; rw [hl]; rfl
theorem may_lf {n : Nd} (hl : n.leaf = true) (hm : mayNd n = true) : (1 ≤ n.its.length ∧ n.its.length ≤ 8) ∧ (∀ i ∈ n.its, mayIt i = true) ∧ risesN (n.its.map (·.k)) = true ∧ n.ks = [] ∧ n.kids = [] := by
  unfold mayNd at hm
  rw [if_pos hl] at hm
  exact (mayLf_iff n).1 hm
theorem may_in {n : Nd} (hl : n.leaf = false) (hm : mayNd n = true) : (2 ≤ n.kids.length ∧ n.kids.length ≤ 8) ∧ n.ks.length = n.kids.length ∧ (∀ k ∈ n.ks, mayK k = true) ∧ risesN n.ks = true ∧ (∀ d ∈ n.kids, mayKd d = true) ∧ n.its = [] := by
  unfold mayNd at hm
  rw [hl] at hm
  exact (mayIn_iff n).1 hm
theorem lfOf_its {n : Nd} (hl : n.leaf = true) (hm : mayNd n = true) : lfOf n.its = n := by
  obtain ⟨_, _, _, h1, h2⟩ := may_lf hl hm
  cases n
  simp only at hl h1 h2
  subst hl; subst h1; subst h2
  rfl
theorem inOf_zip {n : Nd} (hl : n.leaf = false) (hm : mayNd n = true) : inOf (n.ks.zip n.kids) = n := by
  obtain ⟨_, h1, _, _, _, h2⟩ := may_in hl hm
  cases n
  simp only at hl h1 h2
  subst hl; subst h2
  unfold inOf
  rw [zip_map1 h1, zip_map2 h1]
theorem takeNd_app {n : Nd} (hf : NdFine n) (hm : mayNd n = true) (m : List Nat) : takeNd (ndOf n ++ m) = ndTold n m := by
  cases hl : n.leaf with
  | true =>
    rw [ndOf_lf hl]
    rw [List.cons_append, List.cons_append]
    unfold takeNd
    dsimp only
    rw [if_pos rfl]
    unfold ndBody
    rw [if_pos rfl, pMany_app (fun x _ m => pIt_app x m)]
    dsimp only
    rw [lfOf_its hl hm]
  | false =>
    obtain ⟨h0, h1, _, _, h2, _⟩ := may_in hl hm
    rw [ndOf_in hl]
    rw [List.cons_append, List.cons_append]
    unfold takeNd
    dsimp only
    rw [if_neg (by decide), if_pos rfl]
    unfold ndBody
    have hlen : n.kids.length = (n.ks.zip n.kids).length := by rw [List.length_zip]; omega
    rw [hlen, if_neg (by decide), pMany_app (fun x hx m => pKd_app (by
      have hk : x.2 ∈ n.kids := (List.of_mem_zip (a := x.1) (b := x.2) hx).2
      obtain ⟨q1, q2, q3⟩ := (mayKd_iff _).1 (h2 _ hk)
      exact ⟨by omega, (hf.kids _ hk).1, by omega⟩) m)]
    dsimp only
    rw [inOf_zip hl hm]
theorem takeNd_put {n : Nd} (hf : NdFine n) (hm : mayNd n = true) : takeNd (ndOf n) = some n := by
  have := takeNd_app hf hm []
  rw [List.append_nil] at this
  rw [this]
  unfold ndTold
  rw [if_pos hm]
theorem ndTold_some {n x : Nd} {m : List Nat} (h : ndTold n m = some x) : m = [] ∧ mayNd n = true ∧ x = n := by
  cases m with
  | cons _ _ => cases h
  | nil =>
    unfold ndTold at h
    dsimp only at h
    split at h
    · rename_i hm
      exact ⟨rfl, hm, (Option.some.inj h).symm⟩
    · cases h
theorem takeNd_some {l : List Nat} {n : Nd} (hl : ∀ c ∈ l, c < 256) (h : takeNd l = some n) : l = ndOf n ∧ mayNd n = true ∧ NdFine n := by
  match l, hl, h with
  | [], _, h => cases h
  | [_], _, h => cases h
  | k :: c :: r, hl, h =>
    have hr : ∀ c ∈ r, c < 256 := fun c hc => hl c (by simp [hc])
    unfold takeNd at h
    dsimp only at h
    split at h
    · rename_i hk
      subst hk
      unfold ndBody at h
      rw [if_pos rfl] at h
      cases h1 : pMany pIt c r with
      | none => rw [h1] at h; cases h
      | some y =>
        obtain ⟨its, s⟩ := y
        rw [h1] at h
        dsimp only at h
        obtain ⟨rfl, hm, rfl⟩ := ndTold_some h
        obtain ⟨e1, l1⟩ := pMany_some (Good := fun _ => True) (fun l x r _ h _ => pIt_some h) hr h1 (fun _ _ => trivial)
        rw [List.append_nil] at e1
        refine ⟨?_, hm, ?_⟩
        · rw [ndOf_lf rfl]
          show _ = 76 :: its.length :: its.flatMap itOf
          rw [l1, e1]
        · refine ⟨fun i hi => ?_, fun _ h => (List.not_mem_nil h).elim, fun _ h => (List.not_mem_nil h).elim⟩
          have hi' : i ∈ its := hi
          have hmem : ∀ c ∈ itOf i, c < 256 := fun c hc => hr c (by rw [e1]; exact List.mem_flatMap.2 ⟨i, hi', hc⟩)
          exact ⟨fun c hc => hmem c (by simp [itOf, txt, hc]), fun c hc => hmem c (by simp [itOf, txt, hc])⟩
    · split at h
      · rename_i hk
        subst hk
        unfold ndBody at h
        rw [if_neg (by decide)] at h
        cases h1 : pMany pKd c r with
        | none => rw [h1] at h; cases h
        | some y =>
          obtain ⟨xs, s⟩ := y
          rw [h1] at h
          dsimp only at h
          obtain ⟨rfl, hm, rfl⟩ := ndTold_some h
          obtain ⟨_, _, _, _, hk, _⟩ := may_in (n := inOf xs) rfl hm
          have hg : ∀ x ∈ xs, 0 ≤ x.2.off := fun x hx => by
            have := ((mayKd_iff _).1 (hk x.2 (List.mem_map.2 ⟨x, hx, rfl⟩))).1
            omega
          obtain ⟨e1, l1⟩ := pMany_some (Good := fun x => 0 ≤ x.2.off) (fun l x r hl h h0 => (pKd_some hl h h0).1) hr h1 hg
          rw [List.append_nil] at e1
          have hfine := pMany_fine hr h1 hg
          refine ⟨?_, hm, ?_⟩
          · rw [ndOf_in rfl]
            show _ = 78 :: (xs.map (·.2)).length :: ((xs.map (·.1)).zip (xs.map (·.2))).flatMap kdOf
            rw [List.length_map, zip_maps, l1, e1]
          · refine ⟨fun _ h => (List.not_mem_nil h).elim, fun k hk c hc => ?_, fun d hd => ?_⟩
            · obtain ⟨x, hx, rfl⟩ := List.mem_map.1 hk
              exact hr c (by rw [e1]; exact List.mem_flatMap.2 ⟨x, hx, by simp [kdOf, txt, hc]⟩)
            · obtain ⟨x, hx, rfl⟩ := List.mem_map.1 hd
              exact hfine x hx
      · cases h
theorem flat_length {α : Type} {f : α → List Nat} {b : Nat} : ∀ {xs : List α}, (∀ x ∈ xs, (f x).length ≤ b) → (xs.flatMap f).length ≤ b * xs.length
  | [], _ => by simp
  | x :: xs, h => by
    rw [List.flatMap_cons, List.length_append, List.length_cons]
    have h1 := h x (by simp)
    have h2 := flat_length (f := f) (b := b) (xs := xs) (fun y hy => h y (by simp [hy]))
    rw [Nat.mul_add]
    omega
theorem ndOf_length {n : Nd} (hm : mayNd n = true) : 2 ≤ (ndOf n).length ∧ (ndOf n).length ≤ 1300 := by
  cases hl : n.leaf with
  | true =>
    obtain ⟨h0, h1, _⟩ := may_lf hl hm
    rw [ndOf_lf hl, List.length_cons, List.length_cons]
    have := flat_length (f := itOf) (b := 162) (xs := n.its) (fun x hx => by
      obtain ⟨q1, q2⟩ := (mayIt_iff _).1 (h1 x hx)
      have := ((mayK_iff _).1 q1).2
      simp [itOf, txt]; omega)
    omega
  | false =>
    obtain ⟨h0, h1, h2, _, _, _⟩ := may_in hl hm
    rw [ndOf_in hl, List.length_cons, List.length_cons]
    have := flat_length (f := kdOf) (b := 57) (xs := n.ks.zip n.kids) (fun x hx => by
      have hk : x.1 ∈ n.ks := (List.of_mem_zip (a := x.1) (b := x.2) hx).1
      have := ((mayK_iff _).1 (h2 _ hk)).2
      simp [kdOf, txt, highOf_length]; omega)
    rw [List.length_zip] at this
    omega
theorem txt_small {l : List Nat} (hl : ∀ c ∈ l, c < 256) (hn : l.length < 256) : ∀ c ∈ txt l, c < 256 := fun c hc => by
  rcases List.mem_cons.1 hc with rfl | hc
  · exact hn
  · exact hl c hc
theorem ndOf_small {n : Nd} (hf : NdFine n) (hm : mayNd n = true) : ∀ c ∈ ndOf n, c < 256 := by
  intro c hc
  cases hl : n.leaf with
  | true =>
    obtain ⟨h0, h1, _⟩ := may_lf hl hm
    rw [ndOf_lf hl] at hc
    rcases List.mem_cons.1 hc with rfl | hc
    · omega
    rcases List.mem_cons.1 hc with rfl | hc
    · omega
    obtain ⟨i, hi, hc⟩ := List.mem_flatMap.1 hc
    obtain ⟨q1, q2⟩ := (mayIt_iff _).1 (h1 i hi)
    have q3 := ((mayK_iff _).1 q1).2
    rcases List.mem_append.1 hc with hc | hc
    · exact txt_small (hf.its i hi).1 (by omega) c hc
    · exact txt_small (hf.its i hi).2 (by omega) c hc
  | false =>
    obtain ⟨h0, h1, h2, _, _, _⟩ := may_in hl hm
    rw [ndOf_in hl] at hc
    rcases List.mem_cons.1 hc with rfl | hc
    · omega
    rcases List.mem_cons.1 hc with rfl | hc
    · omega
    obtain ⟨x, hx, hc⟩ := List.mem_flatMap.1 hc
    have hk : x.1 ∈ n.ks := (List.of_mem_zip (a := x.1) (b := x.2) hx).1
    have q := ((mayK_iff _).1 (h2 _ hk)).2
    rcases List.mem_append.1 hc with hc | hc
    · exact txt_small (hf.ks _ hk) (by omega) c hc
    · rcases List.mem_append.1 hc with hc | hc
      · exact highOf_small _ _ c hc
      · exact highOf_small _ _ c hc
theorem putNd_small {n : Nd} (hf : NdFine n) : ∀ c ∈ putNd n, c < 256 := by
  unfold putNd
  split
  · rename_i h; exact ndOf_small hf h
  · intro c hc; cases hc
theorem putNd_length (n : Nd) : (putNd n).length ≤ 1300 := by
  unfold putNd
  split
  · rename_i h; exact (ndOf_length h).2
  · simp
end Go.By
/- Trees in a file's bytes, plain: which are right, what lies under a key; seen from below, as the document reads them, and from above, as the program does. -/
namespace Go.By
open Go
theorem lessN_trans : ∀ {x y z : List Nat}, lessN x y = true → lessN y z = true → lessN x z = true
  | _, [], _, h, _ => by rw [lessN_nil_right] at h; cases h
  | _, _ :: _, [], _, h => by rw [lessN_nil_right] at h; cases h
  | [], _ :: _, _ :: _, _, _ => rfl
  | a :: x, b :: y, c :: z, h1, h2 => by
    simp only [lessN, Bool.or_eq_true, Bool.and_eq_true, decide_eq_true_eq] at h1 h2 ⊢
    rcases h1 with h1 | ⟨rfl, h1⟩
    · rcases h2 with h2 | ⟨rfl, h2⟩
      · exact .inl (by omega)
      · exact .inl h1
    · rcases h2 with h2 | ⟨rfl, h2⟩
      · exact .inl h2
      · exact .inr ⟨rfl, lessN_trans h1 h2⟩
theorem lessN_tri : ∀ (x y : List Nat), lessN x y = true ∨ x = y ∨ lessN y x = true
  | [], [] => .inr (.inl rfl)
  | [], _ :: _ => .inl rfl
  | _ :: _, [] => .inr (.inr rfl)
  | a :: x, b :: y => by
    simp only [lessN, Bool.or_eq_true, Bool.and_eq_true, decide_eq_true_eq, List.cons.injEq]
    rcases Nat.lt_trichotomy a b with h | h | h
    · exact .inl (.inl h)
    · rcases lessN_tri x y with h2 | h2 | h2
      · exact .inl (.inr ⟨h, h2⟩)
      · exact .inr (.inl ⟨h, h2⟩)
      · exact .inr (.inr (.inr ⟨h.symm, h2⟩))
    · exact .inr (.inr (.inl h))
theorem lessN_ne {x y : List Nat} (h : lessN x y = true) : x ≠ y := by
  rintro rfl
  rw [lessN_irrefl] at h; cases h
theorem lessN_asymm {x y : List Nat} (h : lessN x y = true) : lessN y x = false := by
  cases h2 : lessN y x with
  | false => rfl
  | true => have := lessN_trans h h2; rw [lessN_irrefl] at this; cases this
theorem lessN_le {x y z : List Nat} (h : lessN y x = false) (h2 : lessN y z = true) : lessN x z = true := by
  rcases lessN_tri x y with h3 | rfl | h3
  · exact lessN_trans h3 h2
  · exact h2
  · rw [h3] at h; cases h
abbrev BelowIt (i j : NIt) : Prop := lessN i.k j.k = true
def keysN (n : Nd) : List (List Nat) := if n.leaf = true then n.its.map (·.k) else n.ks
def sumK : List NKd → Nat
  | [] => 0
  | d :: r => d.ct + sumK r
def cntN (n : Nd) : Nat := if n.leaf = true then n.its.length else sumK n.kids
def nodeOf (l : List Nat) (ct : Nat) : Option Nd :=
  if isRec l = true ∧ atB l 4 = 2 then
    match takeNd (pc l 5 (bodyLen l)) with
    | none => none
    | some n => if cntN n = ct then some n else none
  else none
def nodeIn (K : List Nat) (off : Int) (ct : Nat) : Option Nd :=
  if off < 256 ∨ (K.length : Int) ≤ off then none else nodeOf (K.drop off.toNat) ct
def Has (K k : List Nat) : Prop := ∃ a b, K = a ++ (txt k ++ b)
theorem Has.app {K k : List Nat} (a b : List Nat) (h : Has K k) : Has (a ++ (K ++ b)) k := by
  obtain ⟨x, y, rfl⟩ := h
  exact ⟨a ++ x, y ++ b, by simp⟩
theorem has_its : ∀ {its : List NIt} {i : NIt}, i ∈ its → Has (its.flatMap itOf) i.k
  | j :: r, i, h => by
    rw [List.flatMap_cons]
    rcases List.mem_cons.1 h with rfl | h
    · exact ⟨[], txt i.v ++ r.flatMap itOf, by simp [itOf]⟩
    · have := (has_its h).app (itOf j) []
      simpa using this
theorem pc_split (l : List Nat) (i n : Nat) : ∃ a b, l = a ++ (pc l i n ++ b) := ⟨l.take i, (l.drop i).drop n, by unfold pc; rw [List.take_append_drop, List.take_append_drop]⟩
theorem nodeOf_some {l : List Nat} {ct : Nat} {n : Nd} (h : nodeOf l ct = some n) : mayNd n = true ∧ cntN n = ct ∧ takeNd (pc l 5 (bodyLen l)) = some n := by
  unfold nodeOf at h
  split at h
  · cases ht : takeNd (pc l 5 (bodyLen l)) with
    | none => rw [ht] at h; cases h
    | some m =>
      rw [ht] at h
      dsimp only at h
      split at h
      · rename_i hc
        cases h
        refine ⟨?_, hc, rfl⟩
        have told : ∀ {a : Nd} {s : List Nat}, ndTold a s = some n → mayNd n = true := fun {a s} h => by
          cases s with
          | nil =>
            have h' : (if mayNd a = true then some a else none) = some n := h
            split at h'
            · cases h'; assumption
            · cases h'
          | cons _ _ => cases h
        generalize pc l 5 (bodyLen l) = L at ht
        match L, ht with
        | [], ht => cases ht
        | [_], ht => cases ht
        | k :: c :: r, ht =>
          unfold takeNd at ht
          dsimp only at ht
          split at ht
          · unfold ndBody at ht
            rw [if_pos rfl] at ht
            cases hp : pMany pIt c r with
            | none => rw [hp] at ht; cases ht
            | some x => rw [hp] at ht; exact told ht
          · split at ht
            · unfold ndBody at ht
              rw [if_neg (by decide)] at ht
              cases hp : pMany pKd c r with
              | none => rw [hp] at ht; cases ht
              | some x => rw [hp] at ht; exact told ht
            · cases ht
      · cases h
  · cases h
theorem nodeIn_some {K : List Nat} {off : Int} {ct : Nat} {n : Nd} (h : nodeIn K off ct = some n) : 256 ≤ off ∧ off < K.length ∧ nodeOf (K.drop off.toNat) ct = some n := by
  unfold nodeIn at h
  split at h
  · cases h
  · exact ⟨by omega, by omega, h⟩
theorem nodeIn_its {K : List Nat} {off : Int} {ct : Nat} {n : Nd} (hK : ∀ c ∈ K, c < 256) (h : nodeIn K off ct = some n) {i : NIt} (hi : i ∈ n.its) (hl : n.leaf = true) : Has K i.k := by
  obtain ⟨_, _, h⟩ := nodeIn_some h
  obtain ⟨_, _, h⟩ := nodeOf_some h
  obtain ⟨a, b, e⟩ := pc_split (K.drop off.toNat) 5 (bodyLen (K.drop off.toNat))
  generalize pc (K.drop off.toNat) 5 (bodyLen (K.drop off.toNat)) = L at *
  have e2 := (List.take_append_drop off.toNat K).symm
  rw [e] at e2
  have hL : ∀ c ∈ L, c < 256 := fun c hc => hK c (by rw [e2]; simp [hc])
  obtain ⟨e3, _, _⟩ := takeNd_some hL h
  rw [ndOf_lf hl] at e3
  rw [e2, e3]
  have := ((has_its hi).app [76, n.its.length] [])
  have := this.app (K.take off.toNat ++ a) b
  simpa using this
/-! From below. -/
def okKid (k : List Nat) (l : List NIt) (h : Nat) (all : List NIt) (d : Nat) : Bool :=
  match l.head? with
  | none => false
  | some i => decide (i.k = k) && ((all.isEmpty || decide (h = d)) && (match all.getLast? with
    | none => true
    | some j => lessN j.k i.k))
def kidsT (rec : NKd → Option (List NIt × Nat)) : List (List Nat × NKd) → List NIt → Nat → Option (List NIt × Nat)
  | [], all, d => some (all, d + 1)
  | (k, kd) :: r, all, d => match rec kd with
    | none => none
    | some (l, h) => if okKid k l h all d = true then kidsT rec r (all ++ l) h else none
def docT (K : List Nat) : Nat → Int → Nat → Bool → Option (List NIt × Nat)
  | 0, _, _, _ => none
  | f + 1, off, ct, root => match nodeIn K off ct with
    | none => none
    | some n => if root = false ∧ (keysN n).length < 4 then none
      else if n.leaf = true then some (n.its, 1)
      else kidsT (fun d => docT K f d.off d.ct false) (n.ks.zip n.kids) [] 0
/-! From above. -/
def nxt (xs : List (List Nat × NKd)) (bound : List Nat) : List Nat := match xs with
  | [] => bound
  | x :: _ => x.1
def kidsC (rec : NKd → List Nat → List Nat → Option Nat) (bound : List Nat) : List (List Nat × NKd) → Nat → Option Nat
  | [], h => some (h + 1)
  | (k, kd) :: r, h => match rec kd k (nxt r bound) with
    | none => none
    | some x => if h ≠ 0 ∧ x ≠ h then none else kidsC rec bound r x
def isLow (k bound : List Nat) : Bool := bound.isEmpty || lessN k bound
def keeps (n : Nd) (root : Bool) (least bound : List Nat) : Bool :=
  root || (decide (4 ≤ (keysN n).length) && (decide ((keysN n).head? = some least) && isLow ((keysN n).getLast?.getD []) bound))
def chkT (K : List Nat) : Nat → Int → Nat → Bool → List Nat → List Nat → Option Nat
  | 0, _, _, _, _, _ => none
  | f + 1, off, ct, root, least, bound => match nodeIn K off ct with
    | none => none
    | some n => if keeps n root least bound = false then none
      else if n.leaf = true then some 1
      else kidsC (fun d k b => chkT K f d.off d.ct false k b) bound (n.ks.zip n.kids) 0
/-! What lies under a key. -/
/-! Facts. -/
theorem rises_pw : ∀ {ks : List (List Nat)}, risesN ks = true → ks.Pairwise (fun a b => lessN a b = true)
  | [], _ => .nil
  | [_], _ => List.pairwise_singleton _ _
  | a :: b :: r, h => by
    have h' : lessN a b = true ∧ risesN (b :: r) = true := by
      have : (lessN a b && risesN (b :: r)) = true := h
      simpa using this
    have ih := rises_pw h'.2
    rw [List.pairwise_cons]
    refine ⟨fun x hx => ?_, ih⟩
    rcases List.mem_cons.1 hx with rfl | hx
    · exact h'.1
    · exact lessN_trans h'.1 ((List.pairwise_cons.1 ih).1 x hx)
theorem rises_its {n : Nd} (hl : n.leaf = true) (hm : mayNd n = true) : n.its.Pairwise BelowIt := by
  have := rises_pw (may_lf hl hm).2.2.1
  rwa [List.pairwise_map] at this
structure Good (K : List Nat) (f : Nat) (ct : Nat) (root : Bool) (l : List NIt) (h : Nat) : Prop where
  some : l ≠ []
  rise : l.Pairwise BelowIt
  low : 1 ≤ h
  high : h ≤ f
  len : l.length = ct
  many : root = false → 4 ^ h ≤ l.length
  has : ∀ i ∈ l, Has K i.k
  may : ∀ i ∈ l, mayIt i = true
  fine : ∀ i ∈ l, (∀ c ∈ i.k, c < 256) ∧ ∀ c ∈ i.v, c < 256
theorem last_max {l : List NIt} (hp : l.Pairwise BelowIt) {j : NIt} (hj : l.getLast? = some j) {i : NIt} (hi : i ∈ l) : i = j ∨ lessN i.k j.k = true := by
  obtain ⟨m, rfl⟩ : ∃ m, l = m ++ [j] := by
    have hne : l ≠ [] := by rintro rfl; cases hj
    have := List.dropLast_concat_getLast hne
    rw [List.getLast?_eq_some_getLast hne] at hj
    cases hj
    exact ⟨_, this.symm⟩
  rcases List.mem_append.1 hi with h | h
  · exact .inr ((List.pairwise_append.1 hp).2.2 i h j (by simp))
  · exact .inl (by simpa using h)
theorem rise_app {a b : List NIt} (ha : a.Pairwise BelowIt) (hb : b.Pairwise BelowIt) (h : ∀ j, a.getLast? = some j → ∀ i, b.head? = some i → lessN j.k i.k = true) : (a ++ b).Pairwise BelowIt := by
  rw [List.pairwise_append]
  refine ⟨ha, hb, fun x hx y hy => ?_⟩
  have hne : a ≠ [] := by rintro rfl; cases hx
  have hlast := List.getLast?_eq_some_getLast hne
  cases b with
  | nil => cases hy
  | cons z r =>
    have h1 := h _ hlast z rfl
    have h2 : lessN x.k z.k = true := by
      rcases last_max ha hlast hx with rfl | h3
      · exact h1
      · exact lessN_trans h3 h1
    rcases List.mem_cons.1 hy with rfl | hy
    · exact h2
    · exact lessN_trans h2 ((List.pairwise_cons.1 hb).1 y hy)
theorem okKid_iff {k : List Nat} {l : List NIt} {h : Nat} {all : List NIt} {d : Nat} : okKid k l h all d = true ↔ ∃ i, l.head? = some i ∧ i.k = k ∧ (all = [] ∨ h = d) ∧ ∀ j, all.getLast? = some j → lessN j.k i.k = true := by
  unfold okKid
  cases hl : l.head? with
  | none => simp
  | some i =>
    cases ha : all.getLast? with
    | none => simp
    | some j => simp
structure Goods (K : List Nat) (f : Nat) (sum : Nat) (l : List NIt) : Prop where
  rise : l.Pairwise BelowIt
  len : l.length = sum
  has : ∀ i ∈ l, Has K i.k
  may : ∀ i ∈ l, mayIt i = true
  fine : ∀ i ∈ l, (∀ c ∈ i.k, c < 256) ∧ ∀ c ∈ i.v, c < 256
theorem kidsT_good {K : List Nat} {f : Nat} {rec : NKd → Option (List NIt × Nat)} (hr : ∀ d l h, rec d = some (l, h) → Good K f d.ct false l h) :
    ∀ (xs : List (List Nat × NKd)) (all : List NIt) (d sum : Nat) (l : List NIt) (H : Nat), Goods K f sum all → (all ≠ [] → 1 ≤ d ∧ d ≤ f) → (all ≠ [] ∨ xs ≠ []) → kidsT rec xs all d = some (l, H) →
      Goods K f (sum + sumK (xs.map (·.2))) l ∧ all.length + xs.length * 4 ^ (H - 1) ≤ l.length ∧ 2 ≤ H ∧ H ≤ f + 1 ∧ (all ≠ [] → H = d + 1) ∧ (∃ m, l = all ++ m) ∧ (∀ x ∈ xs, ∃ i ∈ l, i.k = x.1) ∧ (all = [] → ∀ x, xs.head? = some x → ∃ i, l.head? = some i ∧ i.k = x.1)
  | [], all, d, sum, l, H, hg, hd, hne, h => by
    cases h
    have h1 : all ≠ [] := by rcases hne with h | h; exact h; exact absurd rfl h
    obtain ⟨h2, h3⟩ := hd h1
    exact ⟨hg, by simp, by omega, by omega, fun _ => rfl, ⟨[], by simp⟩, fun x hx => (by cases hx), fun _ x hx => (by cases hx)⟩
  | (k, kd) :: r, all, d, sum, l, H, hg, hd, hne, h => by
    unfold kidsT at h
    cases hk : rec kd with
    | none => rw [hk] at h; cases h
    | some x =>
      obtain ⟨l1, h1⟩ := x
      rw [hk] at h
      dsimp only at h
      split at h
      · rename_i hok
        obtain ⟨i, e1, e2, e3, e4⟩ := okKid_iff.1 hok
        have g := hr kd l1 h1 hk
        have hg2 : Goods K f (sum + kd.ct) (all ++ l1) := ⟨rise_app hg.rise g.rise (fun j hj i' hi' => by rw [e1] at hi'; cases hi'; exact e4 j hj), by rw [List.length_append, hg.len, g.len],
          fun i hi => (List.mem_append.1 hi).elim (hg.has i) (g.has i), fun i hi => (List.mem_append.1 hi).elim (hg.may i) (g.may i), fun i hi => (List.mem_append.1 hi).elim (hg.fine i) (g.fine i)⟩
        have hne2 : all ++ l1 ≠ [] := by simp [g.some]
        obtain ⟨q1, q2, q3, q4, q5, ⟨m, q6⟩, q7, _⟩ := kidsT_good hr r (all ++ l1) h1 (sum + kd.ct) l H hg2 (fun _ => ⟨g.low, g.high⟩) (.inl hne2) h
        have q5 := q5 hne2
        refine ⟨by rw [List.map_cons, sumK, ← Nat.add_assoc]; exact q1, ?_, q3, q4, fun ha => ?_, ⟨l1 ++ m, by rw [q6, List.append_assoc]⟩, fun x hx => ?_, fun ha x hx => ?_⟩
        · have hm := g.many rfl
          have hh : H - 1 = h1 := by omega
          rw [List.length_append, hh] at q2
          rw [List.length_cons, hh, Nat.succ_mul]; omega
        · rcases e3 with e3 | e3
          · exact absurd e3 ha
          · omega
        · rcases List.mem_cons.1 hx with rfl | hx
          · refine ⟨i, ?_, e2⟩
            rw [q6]
            have : i ∈ l1 := List.mem_of_mem_head? e1
            simp [this]
          · exact q7 x hx
        · cases hx
          refine ⟨i, ?_, e2⟩
          rw [q6, ha, List.nil_append, List.head?_append, e1]; rfl
      · cases h
theorem sumK_zip {ks : List (List Nat)} {kids : List NKd} (h : ks.length = kids.length) : sumK ((ks.zip kids).map (·.2)) = sumK kids := by rw [zip_map2 h]
theorem goods_nil (K : List Nat) (f : Nat) : Goods K f 0 [] := ⟨.nil, rfl, fun i hi => (by cases hi), fun i hi => (by cases hi), fun i hi => (by cases hi)⟩
theorem nodeIn_fine {K : List Nat} {off : Int} {ct : Nat} {n : Nd} (hK : ∀ c ∈ K, c < 256) (h : nodeIn K off ct = some n) : NdFine n := by
  obtain ⟨_, _, h⟩ := nodeIn_some h
  obtain ⟨_, _, h⟩ := nodeOf_some h
  exact (takeNd_some (fun c hc => hK c (List.mem_of_mem_drop (pc_mem hc))) h).2.2
where
  pc_mem {l : List Nat} {i n c : Nat} (h : c ∈ pc l i n) : c ∈ l := List.mem_of_mem_drop (List.mem_of_mem_take h)
theorem docT_good {K : List Nat} (hK : ∀ c ∈ K, c < 256) : ∀ (f : Nat) (off : Int) (ct : Nat) (root : Bool) (l : List NIt) (h : Nat), docT K f off ct root = some (l, h) → Good K f ct root l h
  | 0, _, _, _, _, _, h => by cases h
  | f + 1, off, ct, root, l, h, e => by
    unfold docT at e
    cases hn : nodeIn K off ct with
    | none => rw [hn] at e; cases e
    | some n =>
      rw [hn] at e
      dsimp only at e
      obtain ⟨_, _, h3⟩ := nodeIn_some hn
      obtain ⟨hm, hc, _⟩ := nodeOf_some h3
      have hfine := nodeIn_fine hK hn
      split at e
      · cases e
      · rename_i hroot
        split at e
        · rename_i hl
          cases e
          have hc' : n.its.length = ct := by rw [← hc, cntN, if_pos hl]
          obtain ⟨q1, q2, _⟩ := may_lf hl hm
          have hlen : (keysN n).length = n.its.length := by unfold keysN; rw [if_pos hl, List.length_map]
          exact ⟨by intro h0; rw [h0] at q1; simp at q1, rises_its hl hm, Nat.le_refl _, by omega, hc', fun hr => by rw [hlen] at hroot; simp only [hr, true_and] at hroot; omega,
            fun i hi => nodeIn_its hK hn hi hl, q2, hfine.its⟩
        · rename_i hl
          have hl' : n.leaf = false := by simpa using hl
          obtain ⟨q1, q2, q3, q4, q5, q6⟩ := may_in hl' hm
          have hlen : (keysN n).length = n.kids.length := by unfold keysN; rw [if_neg hl]; exact q2
          have hz : (n.ks.zip n.kids).length = n.kids.length := by rw [List.length_zip]; omega
          have hne : n.ks.zip n.kids ≠ [] := by intro h0; rw [h0] at hz; simp at hz; omega
          obtain ⟨p1, p2, p3, p4, _, _, _, _⟩ := kidsT_good (K := K) (f := f) (fun d l h hd => docT_good hK f d.off d.ct false l h hd) _ [] 0 0 l h (goods_nil K f) (fun h => absurd rfl h) (.inr hne) e
          rw [sumK_zip q2] at p1
          have hc' : sumK n.kids = ct := by rw [← hc, cntN, if_neg hl]
          have p2' : n.kids.length * 4 ^ (h - 1) ≤ l.length := by rw [hz] at p2; simpa using p2
          have hpos : 0 < 4 ^ (h - 1) := Nat.pow_pos (by decide)
          have hle : 2 * 4 ^ (h - 1) ≤ n.kids.length * 4 ^ (h - 1) := Nat.mul_le_mul_right _ q1.1
          refine ⟨fun h0 => ?_, p1.rise, by omega, by omega, by rw [p1.len, hc']; omega, fun hr => ?_, p1.has, p1.may, p1.fine⟩
          · have h5 : l.length = 0 := by rw [h0]; rfl
            omega
          · rw [hlen] at hroot; simp only [hr, true_and] at hroot
            have : 4 * 4 ^ (h - 1) ≤ n.kids.length * 4 ^ (h - 1) := Nat.mul_le_mul_right _ (by omega)
            have e4 : 4 ^ h = 4 * 4 ^ (h - 1) := by
              rw [Nat.mul_comm, ← Nat.pow_succ]; congr 1; omega
            omega
end Go.By
/- Trees, plain: seen from above as from below; how deep; what lies under a key. -/
namespace Go.By
open Go
theorem kidsT_fuel {rec rec' : NKd → Option (List NIt × Nat)} : ∀ (xs : List (List Nat × NKd)) (all : List NIt) (d : Nat) (l : List NIt) (H : Nat), (∀ d l h, rec d = some (l, h) → h ≤ H - 1 → rec' d = some (l, h)) → (∀ d l h, rec d = some (l, h) → 1 ≤ h ∧ l ≠ []) → (all ≠ [] → 1 ≤ d) →
    kidsT rec xs all d = some (l, H) → kidsT rec' xs all d = some (l, H) ∧ (all ≠ [] → H = d + 1)
  | [], all, d, l, H, _, _, _, h => by cases h; exact ⟨rfl, fun _ => rfl⟩
  | (k, kd) :: r, all, d, l, H, hr, hl, hd, h => by
    unfold kidsT at h ⊢
    cases hk : rec kd with
    | none => rw [hk] at h; cases h
    | some x =>
      obtain ⟨l1, h1⟩ := x
      rw [hk] at h
      dsimp only at h
      split at h
      · rename_i hok
        obtain ⟨i, e1, e2, e3, e4⟩ := okKid_iff.1 hok
        obtain ⟨g1, g2⟩ := hl _ _ _ hk
        have hne : all ++ l1 ≠ [] := by simp [g2]
        obtain ⟨q1, q2⟩ := kidsT_fuel r (all ++ l1) h1 l H hr hl (fun _ => g1) h
        have q2 := q2 hne
        rw [hr kd l1 h1 hk (by omega)]
        dsimp only
        rw [if_pos hok]
        refine ⟨q1, fun ha => ?_⟩
        rcases e3 with e3 | e3
        · exact absurd e3 ha
        · omega
      · cases h
theorem docT_fuel {K : List Nat} (hK : ∀ c ∈ K, c < 256) : ∀ (f : Nat) (off : Int) (ct : Nat) (root : Bool) (l : List NIt) (h : Nat) (g : Nat), docT K f off ct root = some (l, h) → h ≤ g → docT K g off ct root = some (l, h)
  | 0, _, _, _, _, _, _, e, _ => by cases e
  | f + 1, off, ct, root, l, h, g, e, hg => by
    have hgood := docT_good hK _ _ _ _ _ _ e
    cases g with
    | zero => have := hgood.low; omega
    | succ g =>
      unfold docT at e ⊢
      cases hn : nodeIn K off ct with
      | none => rw [hn] at e; cases e
      | some n =>
        rw [hn] at e
        dsimp only at e ⊢
        split at e
        · cases e
        · rename_i hroot
          rw [if_neg hroot]
          split at e
          · rename_i hl
            rw [if_pos hl]; exact e
          · rename_i hl
            rw [if_neg hl]
            exact (kidsT_fuel _ _ _ _ _ (fun d l' h' hd hle => docT_fuel hK f d.off d.ct false l' h' g hd (by omega)) (fun d l' h' hd => ⟨(docT_good hK _ _ _ _ _ _ hd).low, (docT_good hK _ _ _ _ _ _ hd).some⟩) (fun h => absurd rfl h) e).1
/-! Both ways are one. -/
def ub (l : List NIt) (bound : List Nat) : Prop := bound = [] ∨ ∀ j, l.getLast? = some j → lessN j.k bound = true
theorem ub_app {a b : List NIt} {bound : List Nat} (hb : b ≠ []) : ub (a ++ b) bound ↔ ub b bound := by
  unfold ub
  rw [List.getLast?_append, List.getLast?_eq_some_getLast hb]
  rfl
structure Ways (rec : NKd → Option (List NIt × Nat)) (recC : NKd → List Nat → List Nat → Option Nat) : Prop where
  low : ∀ d l h, rec d = some (l, h) → 1 ≤ h ∧ l ≠ []
  iff : ∀ d k b h, recC d k b = some h ↔ ∃ l, rec d = some (l, h) ∧ (∃ i, l.head? = some i ∧ i.k = k) ∧ ub l b
theorem kids_ways {rec : NKd → Option (List NIt × Nat)} {recC : NKd → List Nat → List Nat → Option Nat} (hw : Ways rec recC) (bound : List Nat) :
    ∀ (xs : List (List Nat × NKd)) (all : List NIt) (d H : Nat), (all = [] ↔ d = 0) → (∀ x ∈ xs, x.1 ≠ []) → ((kidsC recC bound xs d = some H ∧ ub all (nxt xs bound)) ↔ ∃ l, kidsT rec xs all d = some (l, H) ∧ ub l bound)
  | [], all, d, H, _, _ => by
    unfold kidsC kidsT nxt
    constructor
    · rintro ⟨h, h2⟩; cases h; exact ⟨all, rfl, h2⟩
    · rintro ⟨l, h, h2⟩; cases h; exact ⟨rfl, h2⟩
  | (k, kd) :: r, all, d, H, had, hk => by
    have hkne : k ≠ [] := hk (k, kd) List.mem_cons_self
    unfold kidsC kidsT
    have e1 : nxt ((k, kd) :: r) bound = k := rfl
    rw [e1]
    cases hrec : rec kd with
    | none =>
      have : recC kd k (nxt r bound) = none := by
        cases hc : recC kd k (nxt r bound) with
        | none => rfl
        | some x =>
          obtain ⟨l, h, _⟩ := (hw.iff _ _ _ _).1 hc
          rw [hrec] at h; cases h
      rw [this]
      simp
    | some x =>
      obtain ⟨l1, h1⟩ := x
      obtain ⟨g1, g2⟩ := hw.low _ _ _ hrec
      have ih := kids_ways hw bound r (all ++ l1) h1 H ⟨fun h => absurd (List.append_eq_nil_iff.1 h).2 g2, fun h => by omega⟩ (fun x hx => hk x (List.mem_cons_of_mem _ hx))
      rw [ub_app g2] at ih
      dsimp only
      constructor
      · rintro ⟨h, hu⟩
        cases hc : recC kd k (nxt r bound) with
        | none => rw [hc] at h; cases h
        | some x =>
          rw [hc] at h
          dsimp only at h
          obtain ⟨l, e2, ⟨i, e3, e4⟩, e5⟩ := (hw.iff _ _ _ _).1 hc
          rw [hrec] at e2; cases e2
          split at h
          · cases h
          · rename_i hd
            have hok : okKid k l1 h1 all d = true := okKid_iff.2 ⟨i, e3, e4, by
              by_cases h0 : d = 0
              · exact .inl (had.2 h0)
              · exact .inr (by omega), fun j hj => by
              rcases hu with hu | hu
              · exact absurd hu hkne
              · rw [e4]; exact hu j hj⟩
            rw [if_pos hok]
            exact ih.1 ⟨h, e5⟩
      · rintro ⟨l, h, hu⟩
        split at h
        · rename_i hok
          obtain ⟨i, e1, e2, e3, e4⟩ := okKid_iff.1 hok
          obtain ⟨q1, q2⟩ := ih.2 ⟨l, h, hu⟩
          have hc : recC kd k (nxt r bound) = some h1 := (hw.iff _ _ _ _).2 ⟨l1, hrec, ⟨i, e1, e2⟩, q2⟩
          rw [hc]
          dsimp only
          rw [if_neg (by
            rintro ⟨h2, h3⟩
            rcases e3 with e3 | e3
            · exact h2 (had.1 e3)
            · exact h3 e3)]
          exact ⟨q1, .inr (fun j hj => by rw [← e2]; exact e4 j hj)⟩
        · cases h
theorem isLow_ub {k bound : List Nat} : isLow k bound = true ↔ (bound = [] ∨ lessN k bound = true) := by
  unfold isLow
  cases bound <;> simp
theorem keys_head {n : Nd} {least : List Nat} (hl : n.leaf = true) : (keysN n).head? = some least ↔ ∃ i, n.its.head? = some i ∧ i.k = least := by
  unfold keysN
  rw [if_pos hl, List.head?_map]
  cases n.its.head? <;> simp
theorem chkT_iff {K : List Nat} (hK : ∀ c ∈ K, c < 256) : ∀ (f : Nat) (off : Int) (ct : Nat) (root : Bool) (least bound : List Nat) (h : Nat), (root = true → bound = []) →
    (chkT K f off ct root least bound = some h ↔ ∃ l, docT K f off ct root = some (l, h) ∧ (root = true ∨ ∃ i, l.head? = some i ∧ i.k = least) ∧ ub l bound)
  | 0, _, _, _, _, _, _, _ => by
    unfold chkT docT; simp
  | f + 1, off, ct, root, least, bound, h, hrb => by
    unfold chkT docT
    cases hn : nodeIn K off ct with
    | none => simp
    | some n =>
      dsimp only
      obtain ⟨_, _, h3⟩ := nodeIn_some hn
      obtain ⟨hm, hc, _⟩ := nodeOf_some h3
      cases hl : n.leaf with
      | true =>
        have hks : keysN n = n.its.map (·.k) := by unfold keysN; rw [if_pos hl]
        obtain ⟨q1, _⟩ := may_lf hl hm
        rw [if_pos rfl, if_pos rfl]
        cases root with
        | true =>
          rw [if_neg (by simp [keeps]), if_neg (by simp)]
          rw [hrb rfl]
          constructor
          · intro e; cases e; exact ⟨_, rfl, .inl rfl, .inl rfl⟩
          · rintro ⟨l, e, _, _⟩; cases e; rfl
        | false =>
          have hlast : ∃ j, n.its.getLast? = some j := by
            have : n.its ≠ [] := by intro h0; rw [h0] at q1; simp at q1
            exact ⟨_, List.getLast?_eq_some_getLast this⟩
          obtain ⟨j, hj⟩ := hlast
          have hkl : (keysN n).getLast?.getD [] = j.k := by rw [hks, List.getLast?_map, hj]; rfl
          by_cases h4 : (keysN n).length < 4
          · rw [if_pos (show keeps n false least bound = false by unfold keeps; rw [decide_eq_false (by omega)]; rfl), if_pos ⟨rfl, h4⟩]
            simp
          · rw [if_neg (show ¬ (false = false ∧ (keysN n).length < 4) by simpa using h4)]
            have hkeep : keeps n false least bound = true ↔ (∃ i, n.its.head? = some i ∧ i.k = least) ∧ ub n.its bound := by
              unfold keeps
              rw [decide_eq_true (by omega : 4 ≤ (keysN n).length), hkl, Bool.false_or, Bool.true_and, Bool.and_eq_true, decide_eq_true_eq, keys_head hl, isLow_ub]
              unfold ub
              rw [hj]
              simp
            constructor
            · intro e
              split at e
              · cases e
              · rename_i hk
                have hk' : keeps n false least bound = true := by simpa using hk
                obtain ⟨a, b⟩ := hkeep.1 hk'
                cases e
                exact ⟨_, rfl, .inr a, b⟩
            · rintro ⟨l, e, a, b⟩
              cases e
              have hk' := hkeep.2 ⟨a.resolve_left (by decide), b⟩
              rw [if_neg (by rw [hk']; decide)]
      | false =>
        have hks : keysN n = n.ks := by unfold keysN; rw [if_neg (by rw [hl]; decide)]
        obtain ⟨q1, q2, q3, q4, q5, q6⟩ := may_in hl hm
        have hz : (n.ks.zip n.kids).length = n.kids.length := by rw [List.length_zip]; omega
        have hne : n.ks.zip n.kids ≠ [] := by intro h0; rw [h0] at hz; simp at hz; omega
        have hw : Ways (fun d => docT K f d.off d.ct false) (fun d k b => chkT K f d.off d.ct false k b) :=
          ⟨fun d l h hd => ⟨(docT_good hK _ _ _ _ _ _ hd).low, (docT_good hK _ _ _ _ _ _ hd).some⟩, fun d k b h => by
            have := chkT_iff hK f d.off d.ct false k b h (fun h => by cases h)
            simpa using this⟩
        have hkw := kids_ways hw bound (n.ks.zip n.kids) [] 0 h (by simp) (fun x hx => by
          have := ((mayK_iff _).1 (q3 x.1 (List.of_mem_zip (a := x.1) (b := x.2) hx).1)).1
          intro h0; rw [h0] at this; simp at this)
        have hub0 : ub [] (nxt (n.ks.zip n.kids) bound) := .inr (fun j hj => by cases hj)
        simp only [hub0, and_true] at hkw
        rw [if_neg (show ¬ (false = true) by decide), if_neg (show ¬ (false = true) by decide)]
        cases root with
        | true =>
          rw [if_neg (by simp [keeps]), if_neg (by simp)]
          simpa using hkw
        | false =>
          by_cases h4 : (keysN n).length < 4
          · rw [if_pos (show keeps n false least bound = false by unfold keeps; rw [decide_eq_false (by omega)]; rfl), if_pos ⟨rfl, h4⟩]
            simp
          · rw [if_neg (show ¬ (false = false ∧ (keysN n).length < 4) by simpa using h4)]
            have key : ∀ l, kidsT (fun d => docT K f d.off d.ct false) (n.ks.zip n.kids) [] 0 = some (l, h) → ub l bound → (keeps n false least bound = true ↔ ∃ i, l.head? = some i ∧ i.k = least) := by
              intro l hkl hu
              obtain ⟨p1, _, _, _, _, _, p7, p8⟩ := kidsT_good (K := K) (f := f) (fun d l h hd => docT_good hK f d.off d.ct false l h hd) _ [] 0 0 l h (goods_nil K f) (fun h => absurd rfl h) (.inr hne) hkl
              have hks0 : n.ks ≠ [] := by intro h0; rw [h0] at q2; simp at q2; omega
              obtain ⟨k0, kr, hk0⟩ := List.exists_cons_of_ne_nil hks0
              obtain ⟨d0, dr, hd0⟩ := List.exists_cons_of_ne_nil (show n.kids ≠ [] by intro h0; rw [h0] at q1; simp at q1)
              obtain ⟨i, hi, hik⟩ := p8 rfl (k0, d0) (by rw [hk0, hd0]; rfl)
              have hlastk := List.getLast?_eq_some_getLast hks0
              have hlow : isLow ((keysN n).getLast?.getD []) bound = true := by
                rw [isLow_ub]
                rcases hu with hu | hu
                · exact .inl hu
                · refine .inr ?_
                  rw [hks, hlastk, Option.getD_some]
                  have hmem : n.ks.getLast hks0 ∈ (n.ks.zip n.kids).map (·.1) := by rw [zip_map1 q2]; exact List.getLast_mem _
                  obtain ⟨x, hx, hxe⟩ := List.mem_map.1 hmem
                  obtain ⟨i2, hi2, hik2⟩ := p7 x hx
                  have hlne : l ≠ [] := by rintro rfl; cases hi
                  have hll := List.getLast?_eq_some_getLast hlne
                  have hlb := hu _ hll
                  rw [← hxe, ← hik2]
                  rcases last_max p1.rise hll hi2 with h5 | h5
                  · rw [h5]; exact hlb
                  · exact lessN_trans h5 hlb
              unfold keeps
              rw [decide_eq_true (by omega : 4 ≤ (keysN n).length), hlow, Bool.false_or, Bool.true_and, Bool.and_true, decide_eq_true_eq, hks, hk0]
              constructor
              · intro h; cases h; exact ⟨i, hi, hik⟩
              · rintro ⟨i2, hi2, e⟩
                rw [hi] at hi2; cases hi2
                show some k0 = some least
                rw [← e, hik]
            constructor
            · intro e
              split at e
              · cases e
              · rename_i hk
                have hk' : keeps n false least bound = true := by simpa using hk
                obtain ⟨l, e1, e2⟩ := hkw.1 e
                exact ⟨l, e1, .inr ((key l e1 e2).1 hk'), e2⟩
            · rintro ⟨l, e1, a, b⟩
              have hk' := (key l e1 b).2 (a.resolve_left (by decide))
              rw [if_neg (by rw [hk']; decide)]
              exact hkw.2 ⟨l, e1, b⟩
end Go.By
/- Trees, plain: what lies under a key, going down and in the whole row. -/
namespace Go.By
open Go
def pick : List (List Nat × NKd) → List Nat → Option NKd
  | [], _ => none
  | x :: r, key => if lessN key x.1 = true then none else match pick r key with
    | some d => some d
    | none => some x.2
/-! The document's Find. -/
end Go.By
/- Heads, ids' answers, marks and places as rows of bytes. Plain. -/
namespace Go.By
open Go
structure Hd where
  nx : Int
  fi : Int
  tb : Bool
deriving DecidableEq
structure Dn where
  fi : Int
  ct : Int
  ag : Bool
deriving DecidableEq
structure Mk where
  at_ : Int
  da : List Nat
deriving DecidableEq
end Go.By
