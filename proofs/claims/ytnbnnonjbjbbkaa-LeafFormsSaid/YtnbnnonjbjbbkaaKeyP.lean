/- Keys: names, numbers, their order. Plain. -/
import Derived.Test.YtnbnnonjbjbbkaaBig
import Derived.Lib.Bytes
namespace Go.By
open Go

/-- A string's bytes, as numbers. -/
def natsOf (s : ByteArray) : List Nat := s.toList.map UInt8.toNat
theorem natsOf_small (s : ByteArray) : ∀ c ∈ natsOf s, c < 256 := by
  intro c hc
  obtain ⟨x, _, rfl⟩ := List.mem_map.1 hc
  exact x.toNat_lt
theorem natsOf_length (s : ByteArray) : (natsOf s).length = s.size := by
  unfold natsOf
  rw [List.length_map, Lib.toList_data]
  rfl
theorem strOf_toList (l : List Nat) : (strOf l).toList = l.map UInt8.ofNat := by
  unfold strOf
  rw [Lib.strOfNums_toList, Lib.bytesOf, List.map_map]
  rfl
theorem natsOf_strOf {l : List Nat} (h : ∀ c ∈ l, c < 256) : natsOf (strOf l) = l := by
  unfold natsOf
  rw [strOf_toList, List.map_map]
  conv => rhs; rw [← List.map_id l]
  apply List.map_congr_left
  intro c hc
  have := h c hc
  simp
  omega
theorem strOf_natsOf (s : ByteArray) : strOf (natsOf s) = s := by
  have h : (strOf (natsOf s)).toList = s.toList := by
    rw [strOf_toList]
    unfold natsOf
    rw [List.map_map]
    conv => rhs; rw [← List.map_id s.toList]
    apply List.map_congr_left
    intro x _
    simp
  rw [Lib.toList_data, Lib.toList_data] at h
  have h2 := Array.toList_inj.1 h
  cases s
  cases hs : strOf (natsOf _)
  simp_all
theorem natsOf_inj {s t : ByteArray} (h : natsOf s = natsOf t) : s = t := by
  rw [← strOf_natsOf s, ← strOf_natsOf t, h]

/-- The order of rows of numbers. -/
def lessN : List Nat → List Nat → Bool
  | _, [] => false
  | [], _ :: _ => true
  | a :: x, b :: y => decide (a < b) || (decide (a = b) && lessN x y)
theorem less_nats : ∀ (x y : List UInt8), Op.bytesLess x y = lessN (x.map UInt8.toNat) (y.map UInt8.toNat)
  | [], [] => rfl
  | _ :: _, [] => rfl
  | [], _ :: _ => rfl
  | a :: x, b :: y => by
    rw [Op.bytesLess, less_nats x y]
    show _ = (decide (a.toNat < b.toNat) || (decide (a.toNat = b.toNat) && lessN (x.map UInt8.toNat) (y.map UInt8.toNat)))
    have e1 : decide (a < b) = decide (a.toNat < b.toNat) := decide_eq_decide.2 UInt8.lt_iff_toNat_lt
    have e2 : (a == b) = decide (a.toNat = b.toNat) := by
      rw [Bool.eq_iff_iff, beq_iff_eq, decide_eq_true_eq]
      exact UInt8.toNat_inj.symm
    rw [e1, e2]
theorem less_str (a b : ByteArray) : Op.bytesLess a.toList b.toList = lessN (natsOf a) (natsOf b) := less_nats _ _
theorem eq_str (a b : ByteArray) : (a.toList == b.toList) = decide (natsOf a = natsOf b) := by
  rw [Bool.eq_iff_iff, beq_iff_eq, decide_eq_true_eq]
  constructor
  · intro h; unfold natsOf; rw [h]
  · intro h; rw [natsOf_inj h]

theorem lessN_irrefl : ∀ x : List Nat, lessN x x = false
  | [] => rfl
  | a :: x => by simp [lessN, lessN_irrefl x]
/-- What stands in front of both. -/
theorem lessN_front : ∀ (p x y : List Nat), lessN (p ++ x) (p ++ y) = lessN x y
  | [], _, _ => rfl
  | a :: p, x, y => by simp [lessN, lessN_front p x y]
/-- Rows of one length: the first that differ tell. -/
theorem lessN_append : ∀ (x y p q : List Nat), x.length = y.length → lessN (x ++ p) (y ++ q) = (lessN x y || (decide (x = y) && lessN p q))
  | [], [], p, q, _ => by simp [lessN]
  | a :: x, b :: y, p, q, h => by
    simp only [List.length_cons, Nat.succ.injEq] at h
    simp only [List.cons_append, lessN, lessN_append x y p q h, List.cons.injEq]
    by_cases h1 : a < b <;> by_cases h2 : a = b <;> simp [h1, h2]
  | [], _ :: _, _, _, h => by simp at h
  | _ :: _, [], _, _, h => by simp at h
/-- Numbers, the highest byte first, rise as the numbers do. -/
theorem lessN_high : ∀ (k n m : Nat), n < 256 ^ k → m < 256 ^ k → lessN (highOf n k) (highOf m k) = decide (n < m)
  | 0, n, m, hn, hm => by
    simp at hn hm
    subst hn hm
    rfl
  | k + 1, n, m, hn, hm => by
    rw [Nat.pow_succ] at hn hm
    have h1 := lessN_high k (n / 256) (m / 256) (by omega) (by omega)
    rw [highOf, highOf, lessN_append _ _ _ _ (by rw [highOf_length, highOf_length]), h1]
    have hinj : highOf (n / 256) k = highOf (m / 256) k ↔ n / 256 = m / 256 := by
      constructor
      · intro h
        have a := numOf_high k (n / 256) (by omega)
        have b := numOf_high k (m / 256) (by omega)
        rw [← a, ← b, h]
      · intro h; rw [h]
    have h2 : lessN [n % 256] [m % 256] = decide (n % 256 < m % 256) := by simp [lessN]
    rw [h2, Bool.eq_iff_iff]
    simp only [Bool.or_eq_true, Bool.and_eq_true, decide_eq_true_eq, hinj]
    omega
theorem high_inj {k n m : Nat} (hn : n < 256 ^ k) (hm : m < 256 ^ k) : highOf n k = highOf m k ↔ n = m := by
  constructor
  · intro h
    rw [← numOf_high k n hn, ← numOf_high k m hm, h]
  · intro h; rw [h]

/-- May it be a name? -/
def mayNm (l : List Nat) : Bool := l.all (fun c => decide (33 ≤ c) && decide (c ≤ 126)) && (decide (1 ≤ l.length) && decide (l.length ≤ 16))
theorem mayNm_low {l : List Nat} (h : mayNm l = true) : ∀ c ∈ l, 33 ≤ c := by
  unfold mayNm at h
  rw [Bool.and_eq_true, List.all_eq_true] at h
  intro c hc
  have := h.1 c hc
  simp at this
  exact this.1
theorem mayNm_small {l : List Nat} (h : mayNm l = true) : ∀ c ∈ l, c < 256 := by
  unfold mayNm at h
  rw [Bool.and_eq_true, List.all_eq_true] at h
  intro c hc
  have := h.1 c hc
  simp at this
  omega
theorem mayNm_length {l : List Nat} (h : mayNm l = true) : 1 ≤ l.length ∧ l.length ≤ 16 := by
  unfold mayNm at h
  simp at h
  exact ⟨h.2.1, h.2.2⟩
/-- A name, a 0, a number. -/
def pairOf (l : List Nat) (n : Nat) : List Nat := l ++ (0 :: highOf n 8)
theorem pairOf_length (l : List Nat) (n : Nat) : (pairOf l n).length = l.length + 9 := by simp [pairOf, highOf_length]
theorem pairOf_small {l : List Nat} (h : ∀ c ∈ l, c < 256) (n : Nat) : ∀ c ∈ pairOf l n, c < 256 := by
  intro c hc
  unfold pairOf at hc
  rcases List.mem_append.1 hc with hc | hc
  · exact h c hc
  · rcases List.mem_cons.1 hc with rfl | hc
    · omega
    · exact highOf_small _ _ c hc
/-- Names end at the 0: no byte of theirs is as low. -/
theorem lessN_pair : ∀ (a b p q : List Nat), (∀ c ∈ a, 1 ≤ c) → (∀ c ∈ b, 1 ≤ c) → lessN (a ++ (0 :: p)) (b ++ (0 :: q)) = (lessN a b || (decide (a = b) && lessN p q))
  | [], [], p, q, _, _ => by simp [lessN]
  | [], b :: y, p, q, _, hb => by
    have := hb b (List.mem_cons_self ..)
    have h0 : (0 : Nat) < b := by omega
    simp [lessN, h0]
  | a :: x, [], p, q, ha, _ => by
    have := ha a (List.mem_cons_self ..)
    have h0 : ¬ a = 0 := by omega
    simp [lessN, h0]
  | a :: x, b :: y, p, q, ha, hb => by
    have ih := lessN_pair x y p q (fun c hc => ha c (List.mem_cons_of_mem _ hc)) (fun c hc => hb c (List.mem_cons_of_mem _ hc))
    simp only [List.cons_append, lessN, ih, List.cons.injEq]
    by_cases h1 : a < b <;> by_cases h2 : a = b <;> simp [h1, h2]
theorem pair_less {a b : List Nat} {n m : Nat} (ha : mayNm a = true) (hb : mayNm b = true) (hn : n < 18446744073709551616) (hm : m < 18446744073709551616) : lessN (pairOf a n) (pairOf b m) = (lessN a b || (decide (a = b) && decide (n < m))) := by
  unfold pairOf
  rw [lessN_pair a b _ _ (fun c hc => by have := mayNm_low ha c hc; omega) (fun c hc => by have := mayNm_low hb c hc; omega), lessN_high 8 n m (by omega) (by omega)]
theorem pair_inj {a b : List Nat} {n m : Nat} (hn : n < 18446744073709551616) (hm : m < 18446744073709551616) : pairOf a n = pairOf b m ↔ a = b ∧ n = m := by
  constructor
  · intro h
    have hl := congrArg List.length h
    rw [pairOf_length, pairOf_length] at hl
    have h2 := List.append_inj h (by omega)
    refine ⟨h2.1, ?_⟩
    simp only [List.cons.injEq, true_and] at h2
    exact (high_inj (by omega) (by omega)).1 h2.2
  · rintro ⟨rfl, rfl⟩; rfl

/-- What such a key was made of. -/
def isPair (k : List Nat) : Bool := decide (10 ≤ k.length) && (mayNm (k.take (k.length - 9)) && (decide (atB k (k.length - 9) = 0) && decide (numOf (k.drop (k.length - 8)) ≤ 9223372036854775807)))
theorem isPair_pair {l : List Nat} {n : Nat} (h : mayNm l = true) (hn : n ≤ 9223372036854775807) : isPair (pairOf l n) = true ∧ (pairOf l n).take ((pairOf l n).length - 9) = l ∧ numOf ((pairOf l n).drop ((pairOf l n).length - 8)) = n := by
  have h1 : (pairOf l n).take ((pairOf l n).length - 9) = l := by
    rw [pairOf_length, Nat.add_sub_cancel]
    unfold pairOf
    exact List.take_left
  have h2 : (pairOf l n).drop ((pairOf l n).length - 8) = highOf n 8 := by
    rw [pairOf_length, show l.length + 9 - 8 = l.length + 1 by omega]
    unfold pairOf
    rw [List.drop_append, List.drop_of_length_le (by omega), show l.length + 1 - l.length = 1 by omega]
    rfl
  have h3 : numOf (highOf n 8) = n := numOf_high 8 n (by omega)
  have h4 : atB (pairOf l n) ((pairOf l n).length - 9) = 0 := by
    rw [pairOf_length, Nat.add_sub_cancel]
    unfold pairOf atB
    rw [List.getD_eq_getElem?_getD, List.getElem?_append_right (Nat.le_refl _), Nat.sub_self]
    rfl
  refine ⟨?_, h1, by rw [h2, h3]⟩
  have hl := mayNm_length h
  unfold isPair
  rw [h1, h2, h3, h4, h, decide_eq_true (by rw [pairOf_length]; omega), decide_eq_true hn]
  rfl

/-- The least key above all that begin with k. -/
def afterL : List Nat → List Nat
  | [] => []
  | c :: k => if afterL k = [] then (if c < 255 then [c + 1] else []) else c :: afterL k
theorem afterL_nil : ∀ {k : List Nat}, (∀ c ∈ k, c < 256) → (afterL k = [] ↔ ∀ c ∈ k, c = 255)
  | [], _ => by simp [afterL]
  | c :: k, h => by
    have ih := afterL_nil (k := k) (fun x hx => h x (List.mem_cons_of_mem _ hx))
    have hc := h c (List.mem_cons_self ..)
    unfold afterL
    by_cases h1 : afterL k = []
    · rw [if_pos h1]
      by_cases h2 : c < 255
      · rw [if_pos h2]
        constructor
        · intro h; cases h
        · intro h; have := h c (List.mem_cons_self ..); omega
      · rw [if_neg h2]
        refine ⟨fun _ x hx => ?_, fun _ => rfl⟩
        rcases List.mem_cons.1 hx with rfl | hx
        · omega
        · exact ih.1 h1 x hx
    · rw [if_neg h1]
      refine ⟨fun h => (by cases h), fun h2 => absurd (ih.2 fun x hx => h2 x (List.mem_cons_of_mem _ hx)) h1⟩
theorem lessN_nil_right (x : List Nat) : lessN x [] = false := by cases x <;> rfl
theorem after_above : ∀ {k : List Nat}, afterL k ≠ [] → lessN k (afterL k) = true
  | [], h => absurd rfl h
  | c :: k, h => by
    unfold afterL at h ⊢
    by_cases h1 : afterL k = []
    · rw [if_pos h1] at h ⊢
      by_cases h2 : c < 255
      · rw [if_pos h2]; simp [lessN]
      · rw [if_neg h2] at h; exact absurd rfl h
    · rw [if_neg h1]
      simp [lessN, after_above h1]
/-- Between a key and the one after it: just what begins with it. -/
theorem after_between : ∀ {k : List Nat} (x : List Nat), (∀ c ∈ k, c < 256) → (∀ c ∈ x, c < 256) → afterL k ≠ [] → ((lessN x k = false ∧ lessN x (afterL k) = true) ↔ (k.length ≤ x.length ∧ x.take k.length = k))
  | [], _, _, _, h => absurd rfl h
  | c :: k, [], _, _, h => by
    simp [lessN]
  | c :: k, d :: x, hk, hx, h => by
    have hd := hx d (List.mem_cons_self ..)
    have hc := hk c (List.mem_cons_self ..)
    have hk' := fun y hy => hk y (List.mem_cons_of_mem c hy)
    have hx' := fun y hy => hx y (List.mem_cons_of_mem d hy)
    unfold afterL at h ⊢
    by_cases h1 : afterL k = []
    · have hall := (afterL_nil hk').1 h1
      rw [if_pos h1] at h ⊢
      by_cases h2 : c < 255
      · rw [if_pos h2]
        simp only [lessN, lessN_nil_right, Bool.and_false, Bool.or_false, decide_eq_true_eq, Bool.or_eq_false_iff, decide_eq_false_iff_not, Bool.and_eq_false_iff, List.length_cons, List.take_succ_cons, List.cons.injEq]
        have hmax : ∀ (x k : List Nat), (∀ c ∈ x, c < 256) → (∀ c ∈ k, c = 255) → (lessN x k = false ↔ k.length ≤ x.length ∧ x.take k.length = k) := by
          intro x k
          induction k generalizing x with
          | nil => intro _ _; simp [lessN_nil_right]
          | cons b k ih =>
            intro hx hk
            cases x with
            | nil => simp [lessN]
            | cons a x =>
              have ha := hx a (List.mem_cons_self ..)
              have hb := hk b (List.mem_cons_self ..)
              have := ih x (fun y hy => hx y (List.mem_cons_of_mem _ hy)) (fun y hy => hk y (List.mem_cons_of_mem _ hy))
              simp only [lessN, Bool.or_eq_false_iff, decide_eq_false_iff_not, Bool.and_eq_false_iff, List.length_cons, List.take_succ_cons, List.cons.injEq, Nat.add_le_add_iff_right]
              constructor
              · rintro ⟨h1, h2 | h2⟩
                · omega
                · have := this.1 h2
                  exact ⟨this.1, by omega, this.2⟩
              · rintro ⟨h1, h2, h3⟩
                exact ⟨by omega, .inr (this.2 ⟨h1, h3⟩)⟩
        have := hmax x k hx' hall
        constructor
        · rintro ⟨⟨g1, g2⟩, g3⟩
          rcases g2 with g2 | g2
          · omega
          · have := this.1 g2
            exact ⟨by omega, by omega, this.2⟩
        · rintro ⟨g1, g2, g3⟩
          exact ⟨⟨by omega, .inr (this.2 ⟨by omega, g3⟩)⟩, by omega⟩
      · rw [if_neg h2] at h; exact absurd rfl h
    · rw [if_neg h1] at h ⊢
      have ih := after_between x hk' hx' h1
      simp only [lessN, Bool.or_eq_true, Bool.and_eq_true, decide_eq_true_eq, Bool.or_eq_false_iff, decide_eq_false_iff_not, Bool.and_eq_false_iff, List.length_cons, List.take_succ_cons, List.cons.injEq, Nat.add_le_add_iff_right]
      constructor
      · rintro ⟨⟨g1, g2⟩, g3⟩
        have hdc : d = c := by
          rcases g3 with g3 | g3
          · omega
          · exact g3.1
        subst hdc
        rcases g2 with g2 | g2
        · exact absurd rfl g2
        · rcases g3 with g3 | g3
          · omega
          · have := ih.1 ⟨g2, g3.2⟩
            exact ⟨this.1, rfl, this.2⟩
      · rintro ⟨g1, rfl, g3⟩
        have := ih.2 ⟨g1, g3⟩
        exact ⟨⟨by omega, .inr this.1⟩, .inr ⟨rfl, this.2⟩⟩
end Go.By

