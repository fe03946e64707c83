/- Keys: streams, types, numbers, letters. -/
import Derived.Test.YtfebdgnojacoiaaKeyC
namespace Go.Proofs.Ytfebdgnojacoiaa
open Go Go.RowKit Go.By

/-- What tells a key. -/
def Tells (w : World) (l : List Nat) (e : Ending) (w' : World) : Prop := ∃ v', e = .returned v' ∧ OwnM w' w.heap.size v' l ∧ Below w.heap.size w w'

theorem ownM_base {w : World} {B B' : Nat} {v : Value} {l : List Nat} (h : OwnM w B v l) (hb : B' ≤ B) : OwnM w B' v l := by
  rcases h with h | ⟨g, cap, rfl, h1, h2⟩
  · exact .inl h
  · exact .inr ⟨g, cap, rfl, Nat.le_trans hb h1, h2⟩

theorem namePart_short {s : ByteArray} {m : List Nat} (h : namePart s = some m) : m.length ≤ 100 := by
  unfold namePart at h
  by_cases hm : mayNm (natsOf s) = true
  · rw [if_pos hm] at h
    cases h
    have := mayNm_length hm
    omega
  · rw [if_neg hm] at h; cases h
theorem numPart_short {n : Int} {m : List Nat} (h : numPart n = some m) : m.length ≤ 100 := by
  unfold numPart at h
  by_cases hm : 0 ≤ n
  · rw [if_pos hm] at h
    cases h
    rw [highOf_length]; omega
  · rw [if_neg hm] at h; cases h

theorem pair_out (s : ByteArray) (n : Int) : keyOut [namePart s, some [0], numPart n] [] = pairK (natsOf s) n := by
  unfold pairK namePart numPart
  cases hm : mayNm (natsOf s) with
  | false => simp [keyOut]
  | true =>
    by_cases h : 0 ≤ n
    · simp [keyOut, h, pairOf]
    · simp [keyOut, h]
theorem let_out (c : Nat) (s : ByteArray) : keyOut [some [c], namePart s] [] = letK c (natsOf s) := by
  unfold letK namePart
  cases hm : mayNm (natsOf s) with
  | false => simp [keyOut]
  | true => simp [keyOut]
theorem seq_out (n : Int) : keyOut [numPart n] [] = seqK n := by
  unfold seqK numPart
  by_cases h : 0 ≤ n
  · simp [keyOut, h]
  · simp [keyOut, h]

set_option maxRecDepth 100000 in
theorem numbered_any (s : ByteArray) (n : Int) (w : World) (hs : s.size ≤ maxLen) (hn1 : n < 9223372036854775808) :
    Calls Try.prog 29 #[.string s, .int .i64 n] w (Tells w (pairK (natsOf s) n)) := by
  have H := key_any 0 s n [38, 39, 32] [namePart s, some [0], numPart n] rfl (by simp)
    (fun i m h => by
      match i, h with
      | 0, h => exact namePart_short (Option.some.inj h)
      | 1, h => cases h; simp
      | 2, h => exact numPart_short (Option.some.inj h)
      | k + 3, h => simp at h)
    (fun i f m h1 h2 => by
      match i, h1, h2 with
      | 0, h1, h2 => cases h1; cases h2; exact part_name 0 s n hs
      | 1, h1, h2 => cases h1; cases h2; exact part_nought 0 s n
      | 2, h1, h2 => cases h1; cases h2; exact part_number 0 s n hn1
      | k + 3, h1, _ => simp at h1)
    w.heap.size (w.alloc (.cells #[.func (.func 38) #[] #[], .func (.func 39) #[] #[], .func (.func 32) #[] #[]] 42))
    (fun i f h => by
      match i, h with
      | 0, h => cases h; exact cell_new ..
      | 1, h => cases h; exact cell_new ..
      | 2, h => cases h; exact cell_new ..
      | k + 3, h => simp at h) (by simp)
  rw [pair_out] at H
  have hb := (Below.refl w.heap.size w).alloc (Nat.le_refl _) (.cells #[.func (.func 38) #[] #[], .func (.func 39) #[] #[], .func (.func 32) #[] #[]] 42)
  have HB := Lib.hid hb
  have HH := Lib.hid H
  clear hn1 hb H
  go_enter Try.func29, Try.ntmps29
  go_wp2_with fail
  refine HH.out.mono ?_
  rintro e w' ⟨v', rfl, ho, hb⟩
  have HO : Hid (OwnM w' w.heap.size v' (pairK (natsOf s) n)) := ownM_base ho (by simp)
  have HB2 : Hid (Below w.heap.size w w') := HB.out.trans (hb.mono (by simp))
  clear ho hb
  go_wp2
  go_ret
  exact ⟨_, rfl, HO.out, HB2.out⟩

set_option maxRecDepth 100000 in
theorem lettered_any (c : Nat) (hc : c < 256) (s : ByteArray) (w : World) (hs : s.size ≤ maxLen) :
    Calls Try.prog 34 #[.int .u8 c, .string s] w (Tells w (letK c (natsOf s))) := by
  have H := key_any c s 0 [40, 38] [some [c], namePart s] rfl (by simp)
    (fun i m h => by
      match i, h with
      | 0, h => cases h; simp
      | 1, h => exact namePart_short (Option.some.inj h)
      | k + 2, h => simp at h)
    (fun i f m h1 h2 => by
      match i, h1, h2 with
      | 0, h1, h2 => cases h1; cases h2; exact part_letter c hc s 0
      | 1, h1, h2 => cases h1; cases h2; exact part_name c s 0 hs
      | k + 2, h1, _ => simp at h1)
    w.heap.size (w.alloc (.cells #[.func (.func 40) #[] #[], .func (.func 38) #[] #[]] 42))
    (fun i f h => by
      match i, h with
      | 0, h => cases h; exact cell_new ..
      | 1, h => cases h; exact cell_new ..
      | k + 2, h => simp at h) (by simp)
  rw [let_out] at H
  have hb := (Below.refl w.heap.size w).alloc (Nat.le_refl _) (.cells #[.func (.func 40) #[] #[], .func (.func 38) #[] #[]] 42)
  have HB := Lib.hid hb
  have HH := Lib.hid H
  clear hb H
  go_enter Try.func34, Try.ntmps34
  go_wp2_with fail
  refine HH.out.mono ?_
  rintro e w' ⟨v', rfl, ho, hb⟩
  have HO : Hid (OwnM w' w.heap.size v' (letK c (natsOf s))) := ownM_base ho (by simp)
  have HB2 : Hid (Below w.heap.size w w') := HB.out.trans (hb.mono (by simp))
  clear ho hb
  go_wp2
  go_ret
  exact ⟨_, rfl, HO.out, HB2.out⟩

set_option maxRecDepth 100000 in
theorem seq_any (n : Int) (w : World) (hn1 : n < 9223372036854775808) : Calls Try.prog 18 #[.int .i64 n] w (Tells w (seqK n)) := by
  have H := key_any 0 ⟨#[]⟩ n [32] [numPart n] rfl (by simp)
    (fun i m h => by
      match i, h with
      | 0, h => exact numPart_short (Option.some.inj h)
      | k + 1, h => simp at h)
    (fun i f m h1 h2 => by
      match i, h1, h2 with
      | 0, h1, h2 => cases h1; cases h2; exact part_number 0 _ n hn1
      | k + 1, h1, _ => simp at h1)
    w.heap.size (w.alloc (.cells #[.func (.func 32) #[] #[]] 42))
    (fun i f h => by
      match i, h with
      | 0, h => cases h; exact cell_new ..
      | k + 1, h => simp at h) (by simp)
  rw [seq_out] at H
  have hb := (Below.refl w.heap.size w).alloc (Nat.le_refl _) (.cells #[.func (.func 32) #[] #[]] 42)
  have HB := Lib.hid hb
  have HH := Lib.hid H
  clear hn1 hb H
  go_enter Try.func18, Try.ntmps18
  go_wp2_with fail
  refine HH.out.mono ?_
  rintro e w' ⟨v', rfl, ho, hb⟩
  have HO : Hid (OwnM w' w.heap.size v' (seqK n)) := ownM_base ho (by simp)
  have HB2 : Hid (Below w.heap.size w w') := HB.out.trans (hb.mono (by simp))
  clear ho hb
  go_wp2
  go_ret
  exact ⟨_, rfl, HO.out, HB2.out⟩

set_option maxRecDepth 100000 in
theorem stream_any (s : ByteArray) (n : Int) (w : World) (hs : s.size ≤ maxLen) (hn1 : n < 9223372036854775808) :
    Calls Try.prog 14 #[.string s, .int .i64 n] w (Tells w (pairK (natsOf s) n)) := by
  have HH := Lib.hid (numbered_any s n w hs hn1)
  clear hn1
  go_enter Try.func14, Try.ntmps14
  go_wp2_with fail
  refine HH.out.mono ?_
  rintro e w' ⟨v', rfl, ho, hb⟩
  go_wp2
  go_ret
  exact ⟨_, rfl, ho, hb⟩

set_option maxRecDepth 100000 in
theorem type_any (s : ByteArray) (n : Int) (w : World) (hs : s.size ≤ maxLen) (hn1 : n < 9223372036854775808) :
    Calls Try.prog 16 #[.string s, .int .i64 n] w (Tells w (pairK (natsOf s) n)) := by
  have HH := Lib.hid (numbered_any s n w hs hn1)
  clear hn1
  go_enter Try.func16, Try.ntmps16
  go_wp2_with fail
  refine HH.out.mono ?_
  rintro e w' ⟨v', rfl, ho, hb⟩
  go_wp2
  go_ret
  exact ⟨_, rfl, ho, hb⟩

set_option maxRecDepth 100000 in
theorem head_any (s : ByteArray) (w : World) (hs : s.size ≤ maxLen) : Calls Try.prog 20 #[.string s] w (Tells w (letK 104 (natsOf s))) := by
  have HH := Lib.hid (lettered_any 104 (by omega) s w hs)
  go_enter Try.func20, Try.ntmps20
  go_wp2_with fail
  refine HH.out.mono ?_
  rintro e w' ⟨v', rfl, ho, hb⟩
  go_wp2
  go_ret
  exact ⟨_, rfl, ho, hb⟩

set_option maxRecDepth 100000 in
theorem id_any (s : ByteArray) (w : World) (hs : s.size ≤ maxLen) : Calls Try.prog 22 #[.string s] w (Tells w (letK 105 (natsOf s))) := by
  have HH := Lib.hid (lettered_any 105 (by omega) s w hs)
  go_enter Try.func22, Try.ntmps22
  go_wp2_with fail
  refine HH.out.mono ?_
  rintro e w' ⟨v', rfl, ho, hb⟩
  go_wp2
  go_ret
  exact ⟨_, rfl, ho, hb⟩

set_option maxRecDepth 100000 in
theorem snap_any (s : ByteArray) (w : World) (hs : s.size ≤ maxLen) : Calls Try.prog 23 #[.string s] w (Tells w (letK 115 (natsOf s))) := by
  have HH := Lib.hid (lettered_any 115 (by omega) s w hs)
  go_enter Try.func23, Try.ntmps23
  go_wp2_with fail
  refine HH.out.mono ?_
  rintro e w' ⟨v', rfl, ho, hb⟩
  go_wp2
  go_ret
  exact ⟨_, rfl, ho, hb⟩

set_option maxRecDepth 100000 in
theorem point_any (s : ByteArray) (w : World) (hs : s.size ≤ maxLen) : Calls Try.prog 24 #[.string s] w (Tells w (letK 112 (natsOf s))) := by
  have HH := Lib.hid (lettered_any 112 (by omega) s w hs)
  go_enter Try.func24, Try.ntmps24
  go_wp2_with fail
  refine HH.out.mono ?_
  rintro e w' ⟨v', rfl, ho, hb⟩
  go_wp2
  go_ret
  exact ⟨_, rfl, ho, hb⟩
end Go.Proofs.Ytfebdgnojacoiaa

