/- Heads in a program: their parts, taken. -/
import Derived.Test.YtoegkdfeonkgkaaHeG
namespace Go.Proofs.Ytoegkdfeonkgkaa
open Go Go.RowKit Go.By


set_option maxRecDepth 100000 in
theorem hd_tNext (w0 : World) (A : Nat) (x y : Int) (t : Bool) (l : List Nat) (hA : w0.heap.size ≤ A) : TakePart w0 A 25 (decide (8 ≤ l.length)) l (l.drop 8) (fun W => W.heap[A]? = some (.cells #[.int .i64 x, .int .i64 y, .bool t] 45 (0, 0))) (fun W => W.heap[A]? = some (.cells #[.int .i64 (RowKit.wrap64 (numOf (l.take 8) : Nat)), .int .i64 y, .bool t] 45 (0, 0))) :=
  ⟨fun args w => by kernel_rfl, fun v w hv hb hS => by
    have hlt : A < w.heap.size := (Array.getElem?_eq_some_iff.1 hS).1
    have HC := Lib.hid (takeNumber_any v l 8 (by omega) w0 w hv hb)
    have HS := Lib.hid hS; have HLT := Lib.hid hlt
    clear hv hb hS hlt
    by_cases h8 : 8 ≤ l.length
    · rw [decide_eq_true h8]
      have H8 := Lib.hid h8
      clear h8
      go_enter Try.func25, Try.ntmps25
      go_wp2_with fail
      refine HC.out.mono ?_
      rintro e w1 ⟨hb1, hif⟩
      rw [if_pos H8.out] at hif
      obtain ⟨v1, rfl, hq⟩ := hif
      have hA1 := (hb1.block A HLT.out).trans HS.out
      have c0 := cells_of hA1 0
      have q0 := free_of hA1 0
      have c1 := cells_of hA1 1
      have q1 := free_of hA1 1
      have c2 := cells_of hA1 2
      have q2 := free_of hA1 2
      have HX := Lib.hid (set_heap hA1 0 (.int .i64 (RowKit.wrap64 (numOf (l.take 8) : Nat))))
      have HO := Lib.hid ((Only.of_below (A := A) hb1).trans (Only.set A 0 w1 (.int .i64 (RowKit.wrap64 (numOf (l.take 8) : Nat)))))
      have HQ := Lib.hid hq
      clear hA1 hb1 hq
      generalize hx : (RowKit.wrap64 (numOf (l.take 8) : Nat)) = x9 at *
      have HXX := Lib.hid hx
      clear hx
      go_wp2
      go_ret2
      exact ⟨_, rfl, HO.out, fun _ => ⟨HQ.out, by rw [HXX.out]; exact HX.out⟩⟩
    · rw [decide_eq_false h8]
      have H8 := Lib.hid h8
      clear h8
      go_enter Try.func25, Try.ntmps25
      go_wp2_with fail
      refine HC.out.mono ?_
      rintro e w1 ⟨hb1, hif⟩
      rw [if_neg H8.out] at hif
      obtain rfl := hif
      have hA1 := (hb1.block A HLT.out).trans HS.out
      have c0 := cells_of hA1 0
      have q0 := free_of hA1 0
      have c1 := cells_of hA1 1
      have q1 := free_of hA1 1
      have c2 := cells_of hA1 2
      have q2 := free_of hA1 2
      have HO := Lib.hid ((Only.of_below (A := A) hb1).trans (Only.set A 0 w1 (.int .i64 0)))
      clear hA1 hb1
      go_wp2
      go_ret2
      exact ⟨_, rfl, HO.out, fun h => absurd h (by decide)⟩⟩

set_option maxRecDepth 100000 in
theorem hd_tFirst (w0 : World) (A : Nat) (x y : Int) (t : Bool) (l : List Nat) (hA : w0.heap.size ≤ A) : TakePart w0 A 26 (decide (8 ≤ l.length)) l (l.drop 8) (fun W => W.heap[A]? = some (.cells #[.int .i64 x, .int .i64 y, .bool t] 45 (0, 0))) (fun W => W.heap[A]? = some (.cells #[.int .i64 x, .int .i64 (RowKit.wrap64 (numOf (l.take 8) : Nat)), .bool t] 45 (0, 0))) :=
  ⟨fun args w => by kernel_rfl, fun v w hv hb hS => by
    have hlt : A < w.heap.size := (Array.getElem?_eq_some_iff.1 hS).1
    have HC := Lib.hid (takeNumber_any v l 8 (by omega) w0 w hv hb)
    have HS := Lib.hid hS; have HLT := Lib.hid hlt
    clear hv hb hS hlt
    by_cases h8 : 8 ≤ l.length
    · rw [decide_eq_true h8]
      have H8 := Lib.hid h8
      clear h8
      go_enter Try.func26, Try.ntmps26
      go_wp2_with fail
      refine HC.out.mono ?_
      rintro e w1 ⟨hb1, hif⟩
      rw [if_pos H8.out] at hif
      obtain ⟨v1, rfl, hq⟩ := hif
      have hA1 := (hb1.block A HLT.out).trans HS.out
      have c0 := cells_of hA1 0
      have q0 := free_of hA1 0
      have c1 := cells_of hA1 1
      have q1 := free_of hA1 1
      have c2 := cells_of hA1 2
      have q2 := free_of hA1 2
      have HX := Lib.hid (set_heap hA1 1 (.int .i64 (RowKit.wrap64 (numOf (l.take 8) : Nat))))
      have HO := Lib.hid ((Only.of_below (A := A) hb1).trans (Only.set A 1 w1 (.int .i64 (RowKit.wrap64 (numOf (l.take 8) : Nat)))))
      have HQ := Lib.hid hq
      clear hA1 hb1 hq
      generalize hx : (RowKit.wrap64 (numOf (l.take 8) : Nat)) = x9 at *
      have HXX := Lib.hid hx
      clear hx
      go_wp2
      go_ret2
      exact ⟨_, rfl, HO.out, fun _ => ⟨HQ.out, by rw [HXX.out]; exact HX.out⟩⟩
    · rw [decide_eq_false h8]
      have H8 := Lib.hid h8
      clear h8
      go_enter Try.func26, Try.ntmps26
      go_wp2_with fail
      refine HC.out.mono ?_
      rintro e w1 ⟨hb1, hif⟩
      rw [if_neg H8.out] at hif
      obtain rfl := hif
      have hA1 := (hb1.block A HLT.out).trans HS.out
      have c0 := cells_of hA1 0
      have q0 := free_of hA1 0
      have c1 := cells_of hA1 1
      have q1 := free_of hA1 1
      have c2 := cells_of hA1 2
      have q2 := free_of hA1 2
      have HO := Lib.hid ((Only.of_below (A := A) hb1).trans (Only.set A 1 w1 (.int .i64 0)))
      clear hA1 hb1
      go_wp2
      go_ret2
      exact ⟨_, rfl, HO.out, fun h => absurd h (by decide)⟩⟩

set_option maxRecDepth 100000 in
theorem dn_tFirst (w0 : World) (A : Nat) (x y : Int) (t : Bool) (l : List Nat) (hA : w0.heap.size ≤ A) : TakePart w0 A 31 (decide (8 ≤ l.length)) l (l.drop 8) (fun W => W.heap[A]? = some (.cells #[.int .i64 x, .int .i64 y, .bool t] 54 (0, 0))) (fun W => W.heap[A]? = some (.cells #[.int .i64 (RowKit.wrap64 (numOf (l.take 8) : Nat)), .int .i64 y, .bool t] 54 (0, 0))) :=
  ⟨fun args w => by kernel_rfl, fun v w hv hb hS => by
    have hlt : A < w.heap.size := (Array.getElem?_eq_some_iff.1 hS).1
    have HC := Lib.hid (takeNumber_any v l 8 (by omega) w0 w hv hb)
    have HS := Lib.hid hS; have HLT := Lib.hid hlt
    clear hv hb hS hlt
    by_cases h8 : 8 ≤ l.length
    · rw [decide_eq_true h8]
      have H8 := Lib.hid h8
      clear h8
      go_enter Try.func31, Try.ntmps31
      go_wp2_with fail
      refine HC.out.mono ?_
      rintro e w1 ⟨hb1, hif⟩
      rw [if_pos H8.out] at hif
      obtain ⟨v1, rfl, hq⟩ := hif
      have hA1 := (hb1.block A HLT.out).trans HS.out
      have c0 := cells_of hA1 0
      have q0 := free_of hA1 0
      have c1 := cells_of hA1 1
      have q1 := free_of hA1 1
      have c2 := cells_of hA1 2
      have q2 := free_of hA1 2
      have HX := Lib.hid (set_heap hA1 0 (.int .i64 (RowKit.wrap64 (numOf (l.take 8) : Nat))))
      have HO := Lib.hid ((Only.of_below (A := A) hb1).trans (Only.set A 0 w1 (.int .i64 (RowKit.wrap64 (numOf (l.take 8) : Nat)))))
      have HQ := Lib.hid hq
      clear hA1 hb1 hq
      generalize hx : (RowKit.wrap64 (numOf (l.take 8) : Nat)) = x9 at *
      have HXX := Lib.hid hx
      clear hx
      go_wp2
      go_ret2
      exact ⟨_, rfl, HO.out, fun _ => ⟨HQ.out, by rw [HXX.out]; exact HX.out⟩⟩
    · rw [decide_eq_false h8]
      have H8 := Lib.hid h8
      clear h8
      go_enter Try.func31, Try.ntmps31
      go_wp2_with fail
      refine HC.out.mono ?_
      rintro e w1 ⟨hb1, hif⟩
      rw [if_neg H8.out] at hif
      obtain rfl := hif
      have hA1 := (hb1.block A HLT.out).trans HS.out
      have c0 := cells_of hA1 0
      have q0 := free_of hA1 0
      have c1 := cells_of hA1 1
      have q1 := free_of hA1 1
      have c2 := cells_of hA1 2
      have q2 := free_of hA1 2
      have HO := Lib.hid ((Only.of_below (A := A) hb1).trans (Only.set A 0 w1 (.int .i64 0)))
      clear hA1 hb1
      go_wp2
      go_ret2
      exact ⟨_, rfl, HO.out, fun h => absurd h (by decide)⟩⟩

set_option maxRecDepth 100000 in
theorem dn_tCount (w0 : World) (A : Nat) (x y : Int) (t : Bool) (l : List Nat) (hA : w0.heap.size ≤ A) : TakePart w0 A 32 (decide (2 ≤ l.length)) l (l.drop 2) (fun W => W.heap[A]? = some (.cells #[.int .i64 x, .int .i64 y, .bool t] 54 (0, 0))) (fun W => W.heap[A]? = some (.cells #[.int .i64 x, .int .i64 (RowKit.wrap64 (numOf (l.take 2) : Nat)), .bool t] 54 (0, 0))) :=
  ⟨fun args w => by kernel_rfl, fun v w hv hb hS => by
    have hlt : A < w.heap.size := (Array.getElem?_eq_some_iff.1 hS).1
    have HC := Lib.hid (takeNumber_any v l 2 (by omega) w0 w hv hb)
    have HS := Lib.hid hS; have HLT := Lib.hid hlt
    clear hv hb hS hlt
    by_cases h8 : 2 ≤ l.length
    · rw [decide_eq_true h8]
      have H8 := Lib.hid h8
      clear h8
      go_enter Try.func32, Try.ntmps32
      go_wp2_with fail
      refine HC.out.mono ?_
      rintro e w1 ⟨hb1, hif⟩
      rw [if_pos H8.out] at hif
      obtain ⟨v1, rfl, hq⟩ := hif
      have hA1 := (hb1.block A HLT.out).trans HS.out
      have c0 := cells_of hA1 0
      have q0 := free_of hA1 0
      have c1 := cells_of hA1 1
      have q1 := free_of hA1 1
      have c2 := cells_of hA1 2
      have q2 := free_of hA1 2
      have HX := Lib.hid (set_heap hA1 1 (.int .i64 (RowKit.wrap64 (numOf (l.take 2) : Nat))))
      have HO := Lib.hid ((Only.of_below (A := A) hb1).trans (Only.set A 1 w1 (.int .i64 (RowKit.wrap64 (numOf (l.take 2) : Nat)))))
      have HQ := Lib.hid hq
      clear hA1 hb1 hq
      generalize hx : (RowKit.wrap64 (numOf (l.take 2) : Nat)) = x9 at *
      have HXX := Lib.hid hx
      clear hx
      go_wp2
      go_ret2
      exact ⟨_, rfl, HO.out, fun _ => ⟨HQ.out, by rw [HXX.out]; exact HX.out⟩⟩
    · rw [decide_eq_false h8]
      have H8 := Lib.hid h8
      clear h8
      go_enter Try.func32, Try.ntmps32
      go_wp2_with fail
      refine HC.out.mono ?_
      rintro e w1 ⟨hb1, hif⟩
      rw [if_neg H8.out] at hif
      obtain rfl := hif
      have hA1 := (hb1.block A HLT.out).trans HS.out
      have c0 := cells_of hA1 0
      have q0 := free_of hA1 0
      have c1 := cells_of hA1 1
      have q1 := free_of hA1 1
      have c2 := cells_of hA1 2
      have q2 := free_of hA1 2
      have HO := Lib.hid ((Only.of_below (A := A) hb1).trans (Only.set A 1 w1 (.int .i64 0)))
      clear hA1 hb1
      go_wp2
      go_ret2
      exact ⟨_, rfl, HO.out, fun h => absurd h (by decide)⟩⟩

set_option maxRecDepth 100000 in
theorem mk_tAt (w0 : World) (A : Nat) (x : Int) (p9 : Option Addr) (k9 g9 : Nat) (l : List Nat) (hA : w0.heap.size ≤ A) : TakePart w0 A 35 (decide (8 ≤ l.length)) l (l.drop 8) (fun W => W.heap[A]? = some (.cells #[.int .i64 x, .slice p9 k9 g9] 60 (0, 0))) (fun W => W.heap[A]? = some (.cells #[.int .i64 (RowKit.wrap64 (numOf (l.take 8) : Nat)), .slice p9 k9 g9] 60 (0, 0))) :=
  ⟨fun args w => by kernel_rfl, fun v w hv hb hS => by
    have hlt : A < w.heap.size := (Array.getElem?_eq_some_iff.1 hS).1
    have HC := Lib.hid (takeNumber_any v l 8 (by omega) w0 w hv hb)
    have HS := Lib.hid hS; have HLT := Lib.hid hlt
    clear hv hb hS hlt
    by_cases h8 : 8 ≤ l.length
    · rw [decide_eq_true h8]
      have H8 := Lib.hid h8
      clear h8
      go_enter Try.func35, Try.ntmps35
      go_wp2_with fail
      refine HC.out.mono ?_
      rintro e w1 ⟨hb1, hif⟩
      rw [if_pos H8.out] at hif
      obtain ⟨v1, rfl, hq⟩ := hif
      have hA1 := (hb1.block A HLT.out).trans HS.out
      have c0 := cells_of hA1 0
      have q0 := free_of hA1 0
      have c1 := cells_of hA1 1
      have q1 := free_of hA1 1
      have HX := Lib.hid (set_heap hA1 0 (.int .i64 (RowKit.wrap64 (numOf (l.take 8) : Nat))))
      have HO := Lib.hid ((Only.of_below (A := A) hb1).trans (Only.set A 0 w1 (.int .i64 (RowKit.wrap64 (numOf (l.take 8) : Nat)))))
      have HQ := Lib.hid hq
      clear hA1 hb1 hq
      generalize hx : (RowKit.wrap64 (numOf (l.take 8) : Nat)) = x9 at *
      have HXX := Lib.hid hx
      clear hx
      go_wp2
      go_ret2
      exact ⟨_, rfl, HO.out, fun _ => ⟨HQ.out, by rw [HXX.out]; exact HX.out⟩⟩
    · rw [decide_eq_false h8]
      have H8 := Lib.hid h8
      clear h8
      go_enter Try.func35, Try.ntmps35
      go_wp2_with fail
      refine HC.out.mono ?_
      rintro e w1 ⟨hb1, hif⟩
      rw [if_neg H8.out] at hif
      obtain rfl := hif
      have hA1 := (hb1.block A HLT.out).trans HS.out
      have c0 := cells_of hA1 0
      have q0 := free_of hA1 0
      have c1 := cells_of hA1 1
      have q1 := free_of hA1 1
      have HO := Lib.hid ((Only.of_below (A := A) hb1).trans (Only.set A 0 w1 (.int .i64 0)))
      clear hA1 hb1
      go_wp2
      go_ret2
      exact ⟨_, rfl, HO.out, fun h => absurd h (by decide)⟩⟩

set_option maxRecDepth 100000 in
theorem pl_tOff (w0 : World) (A : Nat) (x : Int) (l : List Nat) (hA : w0.heap.size ≤ A) : TakePart w0 A 39 (decide (8 ≤ l.length)) l (l.drop 8) (fun W => W.heap[A]? = some (.cells #[.int .i64 x] 66 (0, 0))) (fun W => W.heap[A]? = some (.cells #[.int .i64 (RowKit.wrap64 (numOf (l.take 8) : Nat))] 66 (0, 0))) :=
  ⟨fun args w => by kernel_rfl, fun v w hv hb hS => by
    have hlt : A < w.heap.size := (Array.getElem?_eq_some_iff.1 hS).1
    have HC := Lib.hid (takeNumber_any v l 8 (by omega) w0 w hv hb)
    have HS := Lib.hid hS; have HLT := Lib.hid hlt
    clear hv hb hS hlt
    by_cases h8 : 8 ≤ l.length
    · rw [decide_eq_true h8]
      have H8 := Lib.hid h8
      clear h8
      go_enter Try.func39, Try.ntmps39
      go_wp2_with fail
      refine HC.out.mono ?_
      rintro e w1 ⟨hb1, hif⟩
      rw [if_pos H8.out] at hif
      obtain ⟨v1, rfl, hq⟩ := hif
      have hA1 := (hb1.block A HLT.out).trans HS.out
      have c0 := cells_of hA1 0
      have q0 := free_of hA1 0
      have HX := Lib.hid (set_heap hA1 0 (.int .i64 (RowKit.wrap64 (numOf (l.take 8) : Nat))))
      have HO := Lib.hid ((Only.of_below (A := A) hb1).trans (Only.set A 0 w1 (.int .i64 (RowKit.wrap64 (numOf (l.take 8) : Nat)))))
      have HQ := Lib.hid hq
      clear hA1 hb1 hq
      generalize hx : (RowKit.wrap64 (numOf (l.take 8) : Nat)) = x9 at *
      have HXX := Lib.hid hx
      clear hx
      go_wp2
      go_ret2
      exact ⟨_, rfl, HO.out, fun _ => ⟨HQ.out, by rw [HXX.out]; exact HX.out⟩⟩
    · rw [decide_eq_false h8]
      have H8 := Lib.hid h8
      clear h8
      go_enter Try.func39, Try.ntmps39
      go_wp2_with fail
      refine HC.out.mono ?_
      rintro e w1 ⟨hb1, hif⟩
      rw [if_neg H8.out] at hif
      obtain rfl := hif
      have hA1 := (hb1.block A HLT.out).trans HS.out
      have c0 := cells_of hA1 0
      have q0 := free_of hA1 0
      have HO := Lib.hid ((Only.of_below (A := A) hb1).trans (Only.set A 0 w1 (.int .i64 0)))
      clear hA1 hb1
      go_wp2
      go_ret2
      exact ⟨_, rfl, HO.out, fun h => absurd h (by decide)⟩⟩
theorem num_one {l : List Nat} (h : 1 ≤ l.length) : numOf (l.take 1) = atB l 0 := by
  cases l with
  | nil => simp at h
  | cons a l => simp [numOf, atB]

set_option maxRecDepth 100000 in
theorem hd_tTomb (w0 : World) (A : Nat) (x y : Int) (t : Bool) (l : List Nat) (hs : ∀ c ∈ l, c < 256) (hA : w0.heap.size ≤ A) : TakePart w0 A 27 (decide (1 ≤ l.length ∧ atB l 0 ≤ 1)) l (l.drop 1) (fun W => W.heap[A]? = some (.cells #[.int .i64 x, .int .i64 y, .bool t] 45 (0, 0))) (fun W => W.heap[A]? = some (.cells #[.int .i64 x, .int .i64 y, .bool (decide (atB l 0 = 1))] 45 (0, 0))) :=
  ⟨fun args w => by kernel_rfl, fun v w hv hb hS => by
    have hlt : A < w.heap.size := (Array.getElem?_eq_some_iff.1 hS).1
    have HC := Lib.hid (takeNumber_any v l 1 (by omega) w0 w hv hb)
    have HS := Lib.hid hS; have HLT := Lib.hid hlt
    clear hv hb hS hlt
    by_cases h8 : 1 ≤ l.length
    · have hy : RowKit.wrap64 ((numOf (l.take 1) : Nat) : Int) = ((atB l 0 : Nat) : Int) := by
        rw [num_one h8]
        have : atB l 0 < 256 := by rw [atB_of (show 0 < l.length by omega)]; exact hs _ (List.getElem_mem ..)
        exact wrap64_nat (by omega)
      have hd : decide (1 ≤ l.length ∧ atB l 0 ≤ 1) = decide (((atB l 0 : Nat) : Int) ≤ 1) := by
        by_cases h : atB l 0 ≤ 1
        · rw [decide_eq_true ⟨h8, h⟩, decide_eq_true (by omega)]
        · rw [decide_eq_false (fun k => h k.2), decide_eq_false (by omega)]
      have he : decide (atB l 0 = 1) = (((atB l 0 : Nat) : Int) == 1) := by
        by_cases h : atB l 0 = 1
        · rw [decide_eq_true h, h]; rfl
        · rw [decide_eq_false h]
          exact (beq_eq_false_iff_ne.2 (by omega)).symm
      rw [hd, he]
      have H8 := Lib.hid h8; have HY := Lib.hid hy
      clear h8 hd he hy
      generalize ((atB l 0 : Nat) : Int) = y9 at *
      obtain ⟨b1, hb1⟩ : ∃ b, b = decide (y9 ≤ 1) := ⟨_, rfl⟩
      obtain ⟨b2, hb2⟩ : ∃ b, b = (y9 == 1) := ⟨_, rfl⟩
      have E1 := Lib.hid hb1
      have E2 := Lib.hid hb2
      rw [← hb1, ← hb2]
      clear hb1 hb2
      go_enter Try.func27, Try.ntmps27
      go_wp2_with fail
      refine HC.out.mono ?_
      rintro e w1 ⟨hb1, hif⟩
      rw [if_pos H8.out, HY.out] at hif
      obtain ⟨v1, rfl, hq⟩ := hif
      have hA1 := (hb1.block A HLT.out).trans HS.out
      have c0 := cells_of hA1 0
      have q0 := free_of hA1 0
      have c1 := cells_of hA1 1
      have q1 := free_of hA1 1
      have c2 := cells_of hA1 2
      have q2 := free_of hA1 2
      have HX := Lib.hid (set_heap hA1 2 (.bool b2))
      have HO := Lib.hid ((Only.of_below (A := A) hb1).trans (Only.set A 2 w1 (.bool b2)))
      have HQ := Lib.hid hq
      have e1 : decide (y9 ≤ 1) = b1 := E1.out.symm
      have e2 : (y9 == 1) = b2 := E2.out.symm
      clear hA1 hb1 hq
      go_wp2
      go_ret2
      exact ⟨_, rfl, HO.out, fun _ => ⟨HQ.out, HX.out⟩⟩
    · rw [decide_eq_false (fun h => h8 h.1)]
      have H8 := Lib.hid h8
      clear h8
      go_enter Try.func27, Try.ntmps27
      go_wp2_with fail
      refine HC.out.mono ?_
      rintro e w1 ⟨hb1, hif⟩
      rw [if_neg H8.out] at hif
      obtain rfl := hif
      have hA1 := (hb1.block A HLT.out).trans HS.out
      have c0 := cells_of hA1 0
      have q0 := free_of hA1 0
      have c1 := cells_of hA1 1
      have q1 := free_of hA1 1
      have c2 := cells_of hA1 2
      have q2 := free_of hA1 2
      have HO := Lib.hid ((Only.of_below (A := A) hb1).trans (Only.set A 2 w1 (.bool false)))
      clear hA1 hb1
      go_wp2
      go_ret2
      exact ⟨_, rfl, HO.out, fun h => absurd h (by decide)⟩⟩

/-- Bytes stay where only a block turned that holds none. -/
theorem Only.bytes {A : Nat} {w w' : World} {cs : Array Value} {t : TypeId} {fr : Nat × Nat} {u : Value} {m : List Nat} (h : Only A w w') (hA : w.heap[A]? = some (.cells cs t fr)) (hno : ∀ (i : Nat) (n : Int), cs[i]? ≠ some (.int .u8 n)) (hu : Bytes w u m) : Bytes w' u m := by
  refine ⟨?_, hu.small, hu.short⟩
  rcases hu.out with h1 | h1 | ⟨b', off, cap', h1, h2, hc⟩
  · exact .inl h1
  · exact .inr (.inl h1)
  · refine .inr (.inr ⟨b', off, cap', h1, h2, fun i hi => ?_⟩)
    have hci := hc i hi
    have hne : b' ≠ A := by
      rintro rfl
      rw [cells_of hA] at hci
      exact hno _ _ hci
    rw [World.cell?_of_block (w := w) (h.block b' (block_lt_of_cell hci) hne)]
    exact hci

set_option maxRecDepth 100000 in
theorem mk_tData (w0 : World) (A : Nat) (x : Int) (l : List Nat) (hA : w0.heap.size ≤ A) : TakePart w0 A 36 (decide (l.length ≤ 100)) l [] (fun W => W.heap[A]? = some (.cells #[.int .i64 x, .slice none 0 0] 60 (0, 0))) (fun W => ∃ p g, W.heap[A]? = some (.cells #[.int .i64 x, .slice p l.length g] 60 (0, 0)) ∧ Bytes W (.slice p l.length g) l) :=
  ⟨fun args w => by kernel_rfl, fun v w hv hb hS => by
    have hlt : A < w.heap.size := (Array.getElem?_eq_some_iff.1 hS).1
    obtain ⟨p, cap, rfl, _⟩ := hv.any
    have hm := hv.short
    unfold maxLen at hm
    by_cases h8 : l.length ≤ 100
    · rw [decide_eq_true h8]
      have h8i : (l.length : Int) ≤ 100 := by omega
      obtain ⟨v1, w1, hrun, hown1, hgrow1⟩ := run_append_bytes (P := Try.prog) 26 byT w.heap.size (.slice none 0 0) 0 [] (World.ownsRow_nil w _ _ _) (.slice p l.length cap) l (hv.below hb) (by omega) (Nat.le_refl _)
      have hb1 : Below w.heap.size w w1 := (Below.refl _ _).grown hgrow1 (Nat.le_refl _) (by simp [Value.ownBlock])
      have ho1 : w1.ownsRow w.heap.size 5 1 v1 l.length (cellsOf l) := by simpa using hown1
      have hy1 := owns_bytes ho1 hv.small (by unfold maxLen; omega)
      obtain ⟨p1, g1, rfl⟩ := shape_of ho1
      have hA1 := (hb1.block A hlt).trans hS
      have c0 := cells_of hA1 0
      have q0 := free_of hA1 0
      have c1 := cells_of hA1 1
      have q1 := free_of hA1 1
      have HX := Lib.hid (set_heap hA1 1 (.slice p1 l.length g1))
      have hset := Only.set A 1 w1 (.slice p1 l.length g1)
      have HO := Lib.hid ((Only.of_below (A := A) hb1).trans hset)
      have HY : Hid (Bytes (w1.setCell ⟨A, 1, none⟩ (.slice p1 l.length g1)) (.slice p1 l.length g1) l) := hset.bytes hA1 (by
        intro i n h
        match i, h with
        | 0, h => simp at h
        | 1, h => simp at h
        | k + 2, h => simp at h) hy1
      have HR := Lib.hid hrun
      have HN := Lib.hid (Bytes.nil w0)
      clear hv hb hS hlt h8 hA1 hset hy1 ho1 hb1 hgrow1 hown1 hrun
      go_enter Try.func36, Try.ntmps36
      go_wp2_with first
        | (at_builtin; refine Lib.wpList_append_run _ rfl (.const (.slice none 0 0)) (.tmp 10) 26 26 rfl _ _ rfl rfl _ w1 HR.out ?_)
      go_ret2
      exact ⟨_, rfl, HO.out, fun _ => ⟨HN.out, _, _, HX.out, HY.out⟩⟩
    · rw [decide_eq_false h8]
      have h8i : ¬ ((l.length : Int) ≤ 100) := by omega
      clear hv hb hS hlt h8
      go_enter Try.func36, Try.ntmps36
      go_wp2
      go_ret2
      exact ⟨⟨_, rfl⟩, Only.refl _ _⟩⟩
end Go.Proofs.Ytoegkdfeonkgkaa

