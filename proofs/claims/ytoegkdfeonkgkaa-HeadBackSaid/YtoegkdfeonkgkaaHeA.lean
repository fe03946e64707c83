/- Heads, as the program makes them: plain facts, and its numbers. -/
import Derived.Test.YtoegkdfeonkgkaaHdO
import Derived.Test.YtoegkdfeonkgkaaGenZ
namespace Go.Proofs.Ytoegkdfeonkgkaa
open Go Go.RowKit Go.By

theorem highOf_at (n : Nat) : ∀ (v k : Nat), k < n → (highOf v n)[k]? = some (v / 256 ^ (n - 1 - k) % 256) := by
  induction n with
  | zero => intro v k h; omega
  | succ n ih =>
    intro v k h
    rw [highOf]
    by_cases hk : k < n
    · rw [List.getElem?_append_left (by rw [highOf_length]; exact hk), ih _ _ hk, Nat.div_div_eq_div_mul, show n + 1 - 1 - k = (n - 1 - k) + 1 by omega, Nat.pow_succ, Nat.mul_comm]
    · obtain rfl : k = n := by omega
      rw [List.getElem?_append_right (by rw [highOf_length]; omega), highOf_length]
      simp
theorem highOf_take {v n k : Nat} (h : k < n) : (highOf v n).take (k + 1) = (highOf v n).take k ++ [v / 256 ^ (n - 1 - k) % 256] := by
  have hl : k < (highOf v n).length := by rw [highOf_length]; exact h
  rw [List.take_succ_eq_append_getElem hl]
  have := highOf_at n v k h
  rw [List.getElem?_eq_getElem hl] at this
  rw [Option.some.inj this]
theorem wrap_back {n : Nat} (h : n < 18446744073709551616) (h0 : 0 ≤ RowKit.wrap64 (n : Nat)) : (RowKit.wrap64 (n : Nat)).toNat = n := by
  unfold RowKit.wrap64 at *
  omega
theorem high_back {l : List Nat} (hs : ∀ c ∈ l, c < 256) (h8 : l.length = 8) (h0 : 0 ≤ RowKit.wrap64 (numOf l : Nat)) : highOf (RowKit.wrap64 (numOf l : Nat)).toNat 8 = l := by
  have h1 := numOf_lt l hs
  rw [h8] at h1
  have h2 : numOf l < 18446744073709551616 := h1
  rw [wrap_back h2 h0]
  have h3 := high_numOf l hs
  rw [h8] at h3
  exact h3
theorem drop_last1 {l : List Nat} {k : Nat} (h : l.length = k + 1) : l.drop k = [atB l k] := by
  rw [List.drop_eq_getElem_cons (by omega), atB_of (by omega), List.drop_of_length_le (by omega)]

/-- Which bytes are a head, as the program asks. -/
theorem takeHd_if {l : List Nat} (hs : ∀ c ∈ l, c < 256) : takeHd l = if l.length = 17 ∧ atB l 16 ≤ 1 ∧ mayHd (rdHd l) = true then some (rdHd l) else none := by
  unfold takeHd
  by_cases hl : l.length = 17
  · have h1 : l = l.take 8 ++ ((l.drop 8).take 8 ++ [atB l 16]) := by
      conv => lhs; rw [← List.take_append_drop 8 l, ← List.take_append_drop 8 (l.drop 8), List.drop_drop]
      rw [drop_last1 (k := 16) hl]
    have ha : (l.take 8).length = 8 := by rw [List.length_take]; omega
    have hb : ((l.drop 8).take 8).length = 8 := by rw [List.length_take, List.length_drop]; omega
    by_cases hm : mayHd (rdHd l) = true
    · obtain ⟨m0, m1⟩ := (mayHd_iff _).1 hm
      have m2 : 0 ≤ (rdHd l).nx := by omega
      have e1 := high_back (fun c hc => hs c (List.mem_of_mem_take hc)) ha m2
      have e2 := high_back (fun c hc => hs c (List.mem_of_mem_drop (List.mem_of_mem_take hc))) hb m0
      clear m2
      have hp : putHd (rdHd l) = l.take 8 ++ ((l.drop 8).take 8 ++ [tombOf (decide (atB l 16 = 1))]) := by
        unfold putHd
        rw [if_pos hm]
        unfold headOf rdHd
        rw [e1, e2]
      by_cases hf : atB l 16 ≤ 1
      · have ht : tombOf (decide (atB l 16 = 1)) = atB l 16 := by
          unfold tombOf
          by_cases h : atB l 16 = 1
          · simp [h]
          · simp [h]; omega
        rw [ht, ← h1] at hp
        rw [if_pos ⟨hl, hp⟩, if_pos ⟨hl, hf, hm⟩]
      · have hn : ¬ (l.length = 17 ∧ putHd (rdHd l) = l) := by
          rintro ⟨_, h⟩
          have h2 := (hp.symm.trans h).trans h1
          have h3 := List.append_cancel_left (List.append_cancel_left h2)
          have h4 : tombOf (decide (atB l 16 = 1)) ≤ 1 := by unfold tombOf; split <;> omega
          have h5 : tombOf (decide (atB l 16 = 1)) = atB l 16 := (List.cons.inj h3).1
          omega
        rw [if_neg hn, if_neg (fun h => hf h.2.1)]
    · have hn : ¬ (l.length = 17 ∧ putHd (rdHd l) = l) := by
        rintro ⟨_, h⟩
        unfold putHd at h
        rw [if_neg hm] at h
        rw [← h] at hl
        simp at hl
      rw [if_neg hn, if_neg (fun h => hm h.2.2)]
  · rw [if_neg (fun h => hl h.1), if_neg (fun h => hl h.1)]
/-- Which bytes are an id's answer, as the program asks. -/
theorem takeDn_if {l : List Nat} (hs : ∀ c ∈ l, c < 256) : takeDn l = if l.length = 10 ∧ mayDn (rdDn l) = true then some (rdDn l) else none := by
  unfold takeDn
  by_cases hl : l.length = 10
  · have ha : (l.take 8).length = 8 := by rw [List.length_take]; omega
    have hb : (l.drop 8).length = 2 := by rw [List.length_drop]; omega
    by_cases hm : mayDn (rdDn l) = true
    · obtain ⟨m0, m1, m2, m3⟩ := (mayDn_iff _).1 hm
      have e1 := high_back (fun c hc => hs c (List.mem_of_mem_take hc)) ha m0
      have e2 := high_numOf (l.drop 8) (fun c hc => hs c (List.mem_of_mem_drop hc))
      rw [hb] at e2
      have hp : putDn (rdDn l) = l := by
        unfold putDn
        rw [if_pos hm]
        unfold doneOf rdDn
        rw [e1, Int.toNat_natCast, e2, List.take_append_drop]
      rw [if_pos ⟨hl, hp⟩, if_pos ⟨hl, hm⟩]
    · have hn : ¬ (l.length = 10 ∧ putDn (rdDn l) = l) := by
        rintro ⟨_, h⟩
        unfold putDn at h
        rw [if_neg hm] at h
        rw [← h] at hl
        simp at hl
      rw [if_neg hn, if_neg (fun h => hm h.2)]
  · rw [if_neg (fun h => hl h.1), if_neg (fun h => hl h.1)]
theorem at_wrap {l : List Nat} (hs : ∀ c ∈ l, c < 256) (hl : 8 ≤ l.length) : atB l 0 ≤ 127 ↔ 0 ≤ RowKit.wrap64 (numOf (l.take 8) : Nat) := by
  rw [first_num hs hl]
  have := num8_lt hs
  unfold RowKit.wrap64
  omega
theorem takeMk_if {l : List Nat} (hs : ∀ c ∈ l, c < 256) : takeMk l = if 8 ≤ l.length ∧ l.length ≤ 108 ∧ mayMk (rdMk l) = true then some (rdMk l) else none := by
  unfold takeMk
  by_cases hl : 8 ≤ l.length ∧ l.length ≤ 108
  · have h := at_wrap hs hl.1
    have h2 : (mayMk (rdMk l) = true) ↔ 0 ≤ RowKit.wrap64 (numOf (l.take 8) : Nat) := by
      rw [mayMk_iff]
      constructor
      · exact fun h => h.1
      · exact fun h => ⟨h, by show (l.drop 8).length ≤ 100; rw [List.length_drop]; omega⟩
    by_cases h3 : atB l 0 ≤ 127
    · rw [if_pos ⟨hl.1, hl.2, h3⟩, if_pos ⟨hl.1, hl.2, h2.2 (h.1 h3)⟩]
    · rw [if_neg (fun k => h3 k.2.2), if_neg (fun k => h3 (h.2 (h2.1 k.2.2)))]
  · rw [if_neg (fun k => hl ⟨k.1, k.2.1⟩), if_neg (fun k => hl ⟨k.1, k.2.1⟩)]
theorem takeOf_if {l : List Nat} (hs : ∀ c ∈ l, c < 256) : takeOf l = if l.length = 8 ∧ 0 ≤ RowKit.wrap64 (numOf (l.take 8) : Nat) then some (RowKit.wrap64 (numOf (l.take 8) : Nat)) else none := by
  unfold takeOf
  by_cases hl : l.length = 8
  · have h := at_wrap hs (by omega)
    have e : l.take 8 = l := List.take_of_length_le (by omega)
    rw [e] at h
    rw [e]
    by_cases h3 : atB l 0 ≤ 127
    · rw [if_pos ⟨hl, h3⟩, if_pos ⟨hl, h.1 h3⟩]
    · rw [if_neg (fun k => h3 k.2), if_neg (fun k => h3 (h.2 k.2))]
  · rw [if_neg (fun h => hl h.1), if_neg (fun h => hl h.1)]

theorem wrap_eq (x : Int) : IntKind.i64.wrap x = RowKit.wrap64 x := by unfold RowKit.wrap64; rw [IntKind.wrap_i64]
theorem or_byteI (n c : Nat) (hn : n < 72057594037927936) (hc : c < 256) : bits .or .i64 (RowKit.wrap64 ((n * 256 : Nat) : Int)) (c : Int) = RowKit.wrap64 ((n * 256 + c : Nat) : Int) := by
  have h := Nat.two_pow_add_eq_or_of_lt (i := 8) (b := c) hc n
  have h3 : n * 256 ||| c = n * 256 + c := by rw [show n * 256 = 2 ^ 8 * n by omega, ← h]
  have e1 : BitVec.ofInt IntKind.i64.bits (RowKit.wrap64 ((n * 256 : Nat) : Int)) = BitVec.ofNat 64 (n * 256) := by
    apply BitVec.eq_of_toNat_eq
    refine (BitVec.toNat_ofInt ..).trans ?_
    refine Eq.trans ?_ (BitVec.toNat_ofNat ..).symm
    show ((RowKit.wrap64 ((n * 256 : Nat) : Int)) % ((2 ^ 64 : Nat) : Int)).toNat = n * 256 % 2 ^ 64
    unfold RowKit.wrap64
    omega
  unfold bits
  rw [e1, BitVec.ofInt_natCast]
  show IntKind.i64.wrap (((BitVec.ofNat 64 (n * 256) ||| BitVec.ofNat 64 c).toNat : Nat) : Int) = _
  rw [BitVec.toNat_or, BitVec.toNat_ofNat, BitVec.toNat_ofNat, Nat.mod_eq_of_lt (by omega), Nat.mod_eq_of_lt (by omega), h3]
  exact wrap_eq _
end Go.Proofs.Ytoegkdfeonkgkaa

