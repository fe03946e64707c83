/- Heads in a program: what Put tells. -/
import Derived.Test.YtoegkdfeonkgkaaHeE
namespace Go.Proofs.Ytoegkdfeonkgkaa
open Go Go.RowKit Go.By


set_option maxRecDepth 100000 in
theorem putHead_any (n f : Int) (tb : Bool) (w : World) (hn : n ≤ 9223372036854775807) :
    Calls Try.prog 15 #[.agg #[.int .i64 n, .int .i64 f, .bool tb]] w fun z w' => ∃ v', z = .returned v' ∧ w'.ownsRow w.heap.size 5 1 v' (putHd ⟨n, f, tb⟩).length (cellsOf (putHd ⟨n, f, tb⟩)) ∧ Below w.heap.size w w' := by
  obtain ⟨W, hW⟩ : ∃ W, W = (w.alloc (.cells #[.int .i64 n, .int .i64 f, .bool tb] 23)).alloc (.cells #[.func (.func 41) #[] #[], .func (.func 42) #[] #[], .func (.func 43) #[] #[]] 73) := ⟨_, rfl⟩
  have hwz : (w.alloc (.cells #[.int .i64 n, .int .i64 f, .bool tb] 23)).heap.size = (w.heap.size + 1) := by simp
  have hb : Below w.heap.size w W := by rw [hW]; exact ((Below.refl _ _).alloc (Nat.le_refl _) _).alloc (by simp) _
  have hr : W.heap[(w.heap.size + 1)]? = some (.cells #[.func (.func 41) #[] #[], .func (.func 42) #[] #[], .func (.func 43) #[] #[]] 73 (0, 0)) := by
    rw [hW, ← hwz]; exact heap_alloc_new ..
  have H := put_head (.int .i64 n) (.int .i64 f) (.bool tb) 24 (mayHd ⟨n, f, tb⟩) [41, 42, 43] [highOf n.toNat 8, highOf f.toNat 8, [tombOf tb]] (w.heap.size + 1) W (may_head n f tb) rfl (by simp)
    (fun hq i m h => by
      match i, h with
      | 0, h => cases h; simp [highOf_length]
      | 1, h => cases h; simp [highOf_length]
      | 2, h => cases h; simp
      | k + 3, h => simp at h)
    (fun hq i f m h1 h2 => by
      match i, h1, h2 with
      | 0, h1, h2 => cases h1; cases h2; have h9 := (mayHd_iff _).1 hq; have hx := hd_next n.toNat f tb W (by omega); rw [Int.toNat_of_nonneg (by have : 0 ≤ f := h9.1; have : f ≤ n := h9.2; omega)] at hx; exact hx
      | 1, h1, h2 => cases h1; cases h2; have h9 := (mayHd_iff _).1 hq; have hx := hd_first n f.toNat tb W (by have : f ≤ n := h9.2; omega); rw [Int.toNat_of_nonneg h9.1] at hx; exact hx
      | 2, h1, h2 => cases h1; cases h2; exact hd_tomb n f tb W
      | k + 3, h1, _ => simp at h1)
    (fun i f h => by
      match i, h with
      | 0, h => cases h; exact cells_of hr 0
      | 1, h => cases h; exact cells_of hr 1
      | 2, h => cases h; exact cells_of hr 2
      | k + 3, h => simp at h) (Array.getElem?_eq_some_iff.1 hr).1
  have E : (if mayHd ⟨n, f, tb⟩ = true then List.flatten [highOf n.toNat 8, highOf f.toNat 8, [tombOf tb]] else []) = putHd ⟨n, f, tb⟩ := by simp [putHd, headOf]
  rw [E] at H
  have HH := Lib.hid H; have HB := Lib.hid hb; have HW := Lib.hid hW
  clear H E hr hb hW hn
  go_enter Try.func15, Try.ntmps15
  go_wp2_with fail
  rw [← HW.out]
  refine HH.out.mono ?_
  rintro e w1 ⟨v1, rfl, ho, hb1⟩
  have HO := Lib.hid (owns_base ho HB.out.size)
  have HB1 := Lib.hid (HB.out.trans (hb1.mono HB.out.size))
  clear ho hb1
  go_wp2
  go_ret
  exact ⟨_, rfl, HO.out, HB1.out⟩

set_option maxRecDepth 100000 in
theorem putDone_any (f c : Int) (ag : Bool) (w : World) (hf : f ≤ 9223372036854775807) :
    Calls Try.prog 17 #[.agg #[.int .i64 f, .int .i64 c, .bool ag]] w fun z w' => ∃ v', z = .returned v' ∧ w'.ownsRow w.heap.size 5 1 v' (putDn ⟨f, c, ag⟩).length (cellsOf (putDn ⟨f, c, ag⟩)) ∧ Below w.heap.size w w' := by
  obtain ⟨W, hW⟩ : ∃ W, W = (w.alloc (.cells #[.int .i64 f, .int .i64 c, .bool ag] 25)).alloc (.cells #[.func (.func 46) #[] #[], .func (.func 47) #[] #[]] 77) := ⟨_, rfl⟩
  have hwz : (w.alloc (.cells #[.int .i64 f, .int .i64 c, .bool ag] 25)).heap.size = (w.heap.size + 1) := by simp
  have hb : Below w.heap.size w W := by rw [hW]; exact ((Below.refl _ _).alloc (Nat.le_refl _) _).alloc (by simp) _
  have hr : W.heap[(w.heap.size + 1)]? = some (.cells #[.func (.func 46) #[] #[], .func (.func 47) #[] #[]] 77 (0, 0)) := by
    rw [hW, ← hwz]; exact heap_alloc_new ..
  have H := put_done (.int .i64 f) (.int .i64 c) (.bool ag) 30 (mayDn ⟨f, c, ag⟩) [46, 47] [highOf f.toNat 8, highOf c.toNat 2] (w.heap.size + 1) W (may_done f c ag) rfl (by simp)
    (fun hq i m h => by
      match i, h with
      | 0, h => cases h; simp [highOf_length]
      | 1, h => cases h; simp [highOf_length]
      | k + 2, h => simp at h)
    (fun hq i f m h1 h2 => by
      match i, h1, h2 with
      | 0, h1, h2 => cases h1; cases h2; have h9 := (mayDn_iff _).1 hq; have hx := dn_first f.toNat c ag W (by omega); rw [Int.toNat_of_nonneg h9.1] at hx; exact hx
      | 1, h1, h2 => cases h1; cases h2; have h9 := (mayDn_iff _).1 hq; have hx := dn_count f c.toNat ag W (by have : c ≤ 65535 := h9.2.2.1; omega); rw [Int.toNat_of_nonneg (by have : 1 ≤ c := h9.2.1; omega)] at hx; exact hx
      | k + 2, h1, _ => simp at h1)
    (fun i f h => by
      match i, h with
      | 0, h => cases h; exact cells_of hr 0
      | 1, h => cases h; exact cells_of hr 1
      | k + 2, h => simp at h) (Array.getElem?_eq_some_iff.1 hr).1
  have E : (if mayDn ⟨f, c, ag⟩ = true then List.flatten [highOf f.toNat 8, highOf c.toNat 2] else []) = putDn ⟨f, c, ag⟩ := by simp [putDn, doneOf]
  rw [E] at H
  have HH := Lib.hid H; have HB := Lib.hid hb; have HW := Lib.hid hW
  clear H E hr hb hW hf
  go_enter Try.func17, Try.ntmps17
  go_wp2_with fail
  rw [← HW.out]
  refine HH.out.mono ?_
  rintro e w1 ⟨v1, rfl, ho, hb1⟩
  have HO := Lib.hid (owns_base ho HB.out.size)
  have HB1 := Lib.hid (HB.out.trans (hb1.mono HB.out.size))
  clear ho hb1
  go_wp2
  go_ret
  exact ⟨_, rfl, HO.out, HB1.out⟩

set_option maxRecDepth 100000 in
theorem putOff_any (n : Int) (w : World) (hn : n ≤ 9223372036854775807) :
    Calls Try.prog 21 #[.int .i64 n] w fun z w' => ∃ v', z = .returned v' ∧ w'.ownsRow w.heap.size 5 1 v' (putOf n).length (cellsOf (putOf n)) ∧ Below w.heap.size w w' := by
  obtain ⟨W, hW⟩ : ∃ W, W = w.alloc (.cells #[.func (.func 52) #[] #[]] 81) := ⟨_, rfl⟩
  have hwz : w.heap.size = w.heap.size := by rfl
  have hb : Below w.heap.size w W := by rw [hW]; exact (Below.refl _ _).alloc (Nat.le_refl _) _
  have hr : W.heap[w.heap.size]? = some (.cells #[.func (.func 52) #[] #[]] 81 (0, 0)) := by
    rw [hW, ← hwz]; exact heap_alloc_new ..
  have H := put_place (.int .i64 n) 38 (decide (0 ≤ n)) [52] [highOf n.toNat 8] w.heap.size W (may_place n) rfl (by simp)
    (fun hq i m h => by
      match i, h with
      | 0, h => cases h; simp [highOf_length]
      | k + 1, h => simp at h)
    (fun hq i f m h1 h2 => by
      match i, h1, h2 with
      | 0, h1, h2 => cases h1; cases h2; have h9 := of_decide_eq_true hq; have hx := pl_off n.toNat W (by omega); rw [Int.toNat_of_nonneg h9] at hx; exact hx
      | k + 1, h1, _ => simp at h1)
    (fun i f h => by
      match i, h with
      | 0, h => cases h; exact cells_of hr 0
      | k + 1, h => simp at h) (Array.getElem?_eq_some_iff.1 hr).1
  have E : (if decide (0 ≤ n) = true then List.flatten [highOf n.toNat 8] else []) = putOf n := by simp [putOf]
  rw [E] at H
  have HH := Lib.hid H; have HB := Lib.hid hb; have HW := Lib.hid hW
  clear H E hr hb hW hn
  go_enter Try.func21, Try.ntmps21
  go_wp2_with fail
  rw [← HW.out]
  refine HH.out.mono ?_
  rintro e w1 ⟨v1, rfl, ho, hb1⟩
  have HO := Lib.hid (owns_base ho HB.out.size)
  have HB1 := Lib.hid (HB.out.trans (hb1.mono HB.out.size))
  clear ho hb1
  go_wp2
  go_ret
  exact ⟨_, rfl, HO.out, HB1.out⟩

set_option maxRecDepth 100000 in
theorem putMark_any (t : Int) (p : Option Addr) (cap : Nat) (m : List Nat) (w : World) (hv : Bytes w (.slice p m.length cap) m) (ht : t ≤ 9223372036854775807) :
    Calls Try.prog 19 #[.agg #[.int .i64 t, .slice p m.length cap]] w fun z w' => ∃ v', z = .returned v' ∧ w'.ownsRow w.heap.size 5 1 v' (putMk ⟨t, m⟩).length (cellsOf (putMk ⟨t, m⟩)) ∧ Below w.heap.size w w' := by
  obtain ⟨W, hW⟩ : ∃ W, W = (w.alloc (.cells #[.int .i64 t, .slice p m.length cap] 28)).alloc (.cells #[.func (.func 49) #[] #[], .func (.func 50) #[] #[]] 79) := ⟨_, rfl⟩
  have hwz : (w.alloc (.cells #[.int .i64 t, .slice p m.length cap] 28)).heap.size = (w.heap.size + 1) := by simp
  have hb : Below w.heap.size w W := by rw [hW]; exact ((Below.refl _ _).alloc (Nat.le_refl _) _).alloc (by simp) _
  have hr : W.heap[(w.heap.size + 1)]? = some (.cells #[.func (.func 49) #[] #[], .func (.func 50) #[] #[]] 79 (0, 0)) := by
    rw [hW, ← hwz]; exact heap_alloc_new ..
  have H := put_mark (.int .i64 t) (.slice p m.length cap) 34 (mayMk ⟨t, m⟩) [49, 50] [highOf t.toNat 8, m] (w.heap.size + 1) W (may_mark t p cap m) rfl (by simp)
    (fun hq i m h => by
      match i, h with
      | 0, h => cases h; simp [highOf_length]
      | 1, h => cases h; exact ((mayMk_iff _).1 hq).2
      | k + 2, h => simp at h)
    (fun hq i f m h1 h2 => by
      match i, h1, h2 with
      | 0, h1, h2 => cases h1; cases h2; have h9 := (mayMk_iff _).1 hq; have hx := mk_at t.toNat p m.length cap W (by omega); rw [Int.toNat_of_nonneg h9.1] at hx; exact hx
      | 1, h1, h2 => cases h1; cases h2; have h9 := (mayMk_iff _).1 hq; exact mk_data t p cap m W (hv.below (by rw [hW]; exact ((Below.refl _ _).alloc (Nat.le_refl _) _).alloc (by simp) _)) h9.2
      | k + 2, h1, _ => simp at h1)
    (fun i f h => by
      match i, h with
      | 0, h => cases h; exact cells_of hr 0
      | 1, h => cases h; exact cells_of hr 1
      | k + 2, h => simp at h) (Array.getElem?_eq_some_iff.1 hr).1
  have E : (if mayMk ⟨t, m⟩ = true then List.flatten [highOf t.toNat 8, m] else []) = putMk ⟨t, m⟩ := by simp [putMk, markOf]
  rw [E] at H
  have HH := Lib.hid H; have HB := Lib.hid hb; have HW := Lib.hid hW
  clear H E hr hb hW hv ht
  go_enter Try.func19, Try.ntmps19
  go_wp2_with fail
  rw [← HW.out]
  refine HH.out.mono ?_
  rintro e w1 ⟨v1, rfl, ho, hb1⟩
  have HO := Lib.hid (owns_base ho HB.out.size)
  have HB1 := Lib.hid (HB.out.trans (hb1.mono HB.out.size))
  clear ho hb1
  go_wp2
  go_ret
  exact ⟨_, rfl, HO.out, HB1.out⟩
end Go.Proofs.Ytoegkdfeonkgkaa

