/- Roots in a program: it has begun. -/
import Derived.Test.YtkhpblclpcgjnaaRtI
import Derived.Test.YtkhpblclpcgjnaaRtD
namespace Go.By
open Go Go.RowKit
def rt1 : Rt := ⟨4, 7, [⟨0, 0⟩, ⟨0, 0⟩, ⟨300, 2⟩, ⟨0, 0⟩, ⟨0, 0⟩]⟩
theorem come_rt1 : RtCome rt1 := RtCome.of (by decide) (by decide) rfl (fun d hd => by
  simp only [rt1, List.mem_cons, List.not_mem_nil, or_false] at hd
  rcases hd with rfl | rfl | rfl | rfl | rfl <;> exact ⟨by decide, by decide, by decide⟩)
theorem putRt_length {r : Rt} (h5 : r.ts.length = 5) (hm : mayRt r = true) : (putRt r).length = 88 := by
  unfold putRt
  rw [if_pos hm, rootOf_length, h5]
theorem takeRt_puts {r : Rt} (hr : RtCome r) (hm : mayRt r = true) : takeRt r.gen (putRt r) = some r := by
  unfold putRt
  rw [if_pos hm]
  exact takeRt_put hr.fine hm
theorem takeRt_none {gen : Nat} {l : List Nat} (h : l.length ≠ 88) : takeRt gen l = none := by
  unfold takeRt
  exact if_neg (fun hh => h hh.1)
end Go.By
namespace Go.Proofs.Ytkhpblclpcgjnaa
open Go Go.RowKit Go.By

set_option maxRecDepth 100000 in
set_option maxHeartbeats 2000000 in
theorem begun_any (w : World) : Calls Try.prog 6 #[] w fun e w' => e = .returned (.bool true) ∧ Below w.heap.size w w' := by
  obtain ⟨W1, hW1⟩ : ∃ W, W = w.alloc (.cells #[.int .u64 4, .int .i64 7, .int .i64 0, .int .u64 0, .int .i64 0, .int .u64 0, .int .i64 0, .int .u64 0, .int .i64 0, .int .u64 0, .int .i64 0, .int .u64 0] 27) := ⟨_, rfl⟩
  obtain ⟨G, hG⟩ : ∃ G, G = w.heap.size := ⟨_, rfl⟩
  have h1 : W1.heap[G]? = some (.cells #[.int .u64 4, .int .i64 7, .int .i64 0, .int .u64 0, .int .i64 0, .int .u64 0, .int .i64 0, .int .u64 0, .int .i64 0, .int .u64 0, .int .i64 0, .int .u64 0] 27 (0, 0)) := by rw [hW1, hG]; exact heap_alloc_new w _
  have hb1 : Below w.heap.size w W1 := by rw [hW1]; exact (Below.refl _ _).alloc (Nat.le_refl _) _
  obtain ⟨W2, hW2⟩ : ∃ W, W = (W1.setCell ⟨G, 6, none⟩ (.int .i64 300)).setCell ⟨G, 7, none⟩ (.int .u64 2) := ⟨_, rfl⟩
  have h2 : W2.heap[G]? = some (.cells #[.int .u64 4, .int .i64 7, .int .i64 0, .int .u64 0, .int .i64 0, .int .u64 0, .int .i64 300, .int .u64 2, .int .i64 0, .int .u64 0, .int .i64 0, .int .u64 0] 27 (0, 0)) := by rw [hW2]; exact heap_setCell_same _ G 7 _ _ _ (heap_setCell_same W1 G 6 _ _ _ h1)
  have hb2 : Below w.heap.size w W2 := by
    rw [hW2]
    exact Below.setCell (p := ⟨G, 7, none⟩) (Below.setCell (p := ⟨G, 6, none⟩) hb1 (Nat.le_of_eq hG.symm) _) (Nat.le_of_eq hG.symm) _
  have HW1 := Lib.hid hW1; have HW2 := Lib.hid hW2; have HB2 := Lib.hid hb2; have H2 := Lib.hid h2; have HG := Lib.hid hG
  have a0 := cells_of h1 0
  have a1 := cells_of h1 1
  have a2 := cells_of h1 2
  have a3 := cells_of h1 3
  have a4 := cells_of h1 4
  have a5 := cells_of h1 5
  have a6 := cells_of h1 6
  have a7 := cells_of h1 7
  have a8 := cells_of h1 8
  have a9 := cells_of h1 9
  have a10 := cells_of h1 10
  have a11 := cells_of h1 11
  have qa6 := free_of h1 6
  have qa7 := free_of h1 7
  simp only [List.getElem?_toArray, List.getElem?_cons_zero, List.getElem?_cons_succ] at a0 a1 a2 a3 a4 a5 a6 a7 a8 a9 a10 a11
  clear hW1 hb1 hW2 hb2 h1 h2
  go_enter Try.func6, Try.ntmps6
  go_upto_region 2 with fail
  rw [← HW1.out, ← hG]
  clear HW1 hG
  go_upto_region 3 with fail
  rw [← HW2.out]
  clear HW2 a0 a1 a2 a3 a4 a5 a6 a7 a8 a9 a10 a11 qa6 qa7
  have c0 := cells_of H2.out 0
  have c1 := cells_of H2.out 1
  have c2 := cells_of H2.out 2
  have c3 := cells_of H2.out 3
  have c4 := cells_of H2.out 4
  have c5 := cells_of H2.out 5
  have c6 := cells_of H2.out 6
  have c7 := cells_of H2.out 7
  have c8 := cells_of H2.out 8
  have c9 := cells_of H2.out 9
  have c10 := cells_of H2.out 10
  have c11 := cells_of H2.out 11
  simp only [List.getElem?_toArray, List.getElem?_cons_zero, List.getElem?_cons_succ] at c0 c1 c2 c3 c4 c5 c6 c7 c8 c9 c10 c11
  go_wp2_with fail
  have HP : Calls Try.prog 9 #[.agg #[.int .u64 4, .int .i64 7, .int .i64 0, .int .u64 0, .int .i64 0, .int .u64 0, .int .i64 300, .int .u64 2, .int .i64 0, .int .u64 0, .int .i64 0, .int .u64 0]] W2 (Rows W2 (putRt rt1)) := put_any W2 rt1 come_rt1
  refine HP.mono ?_
  clear HP c0 c1 c2 c3 c4 c5 c6 c7 c8 c9 c10 c11
  rintro z w3 ⟨v3, rfl, ho3, hb3⟩
  obtain ⟨p3, c3, rfl⟩ := shape_of ho3
  have hy3 := owns_bytes ho3 (putRt_small _) (by rw [putRt_length rfl rfl]; decide)
  have HT := Lib.hid (take_any _ _ 4 w3 hy3 (by decide))
  have e4 : rtAns 4 (putRt rt1) = .tuple #[.agg #[.int .u64 4, .int .i64 7, .int .i64 0, .int .u64 0, .int .i64 0, .int .u64 0, .int .i64 300, .int .u64 2, .int .i64 0, .int .u64 0, .int .i64 0, .int .u64 0], .int .i64 0] := rtAns_yes (takeRt_puts come_rt1 rfl)
  rw [putRt_length rfl rfl, e4] at HT
  rw [putRt_length rfl rfl]
  have HB3 := Lib.hid (HB2.out.trans (hb3.mono HB2.out.size)); have H3 := Lib.hid ((hb3.block G (Array.getElem?_eq_some_iff.1 H2.out).1).trans H2.out)
  clear ho3 hb3 hy3 e4 HB2 H2
  go_wp2_with fail
  refine HT.out.mono ?_
  rintro z w4 ⟨rfl, hb4⟩
  obtain ⟨W5, hW5⟩ : ∃ W, W = w4.alloc (.cells #[.int .u64 4, .int .i64 7, .int .i64 0, .int .u64 0, .int .i64 0, .int .u64 0, .int .i64 300, .int .u64 2, .int .i64 0, .int .u64 0, .int .i64 0, .int .u64 0] 27) := ⟨_, rfl⟩
  have hb45 : Below w4.heap.size w4 W5 := by rw [hW5]; exact (Below.refl _ _).alloc (Nat.le_refl _) _
  have hb35 := hb4.trans (hb45.mono hb4.size)
  obtain ⟨G5, hG5⟩ : ∃ g, g = w4.heap.size := ⟨_, rfl⟩
  have H5 : Hid (W5.heap[G5]? = some (.cells #[.int .u64 4, .int .i64 7, .int .i64 0, .int .u64 0, .int .i64 0, .int .u64 0, .int .i64 300, .int .u64 2, .int .i64 0, .int .u64 0, .int .i64 0, .int .u64 0] 27 (0, 0))) := by unfold Hid; rw [hW5, hG5]; exact heap_alloc_new w4 _
  have HB5 := Lib.hid (HB3.out.trans (hb35.mono HB3.out.size)); have H25 := Lib.hid ((hb35.block G (Array.getElem?_eq_some_iff.1 H3.out).1).trans H3.out)
  have HW5 := Lib.hid hW5
  have HT5 := Lib.hid (take_any (.slice none 0 0) [] 4 W5 (Bytes.nil _) (by decide))
  rw [show rtAns 4 [] = .tuple #[.agg #[.int .u64 0, .int .i64 0, .int .i64 0, .int .u64 0, .int .i64 0, .int .u64 0, .int .i64 0, .int .u64 0, .int .i64 0, .int .u64 0, .int .i64 0, .int .u64 0], .int .i64 2] from rtAns_no (takeRt_none (by decide))] at HT5
  clear hb4 hb45 hb35 hW5 HB3 H3 HT
  go_upto_region 5 with fail
  rw [← HW5.out, ← hG5]
  clear HW5 hG5
  go_wp2_with fail
  refine HT5.out.mono ?_
  rintro z w6 ⟨rfl, hb6⟩
  obtain ⟨W7, hW7⟩ : ∃ W, W = w6.alloc (.cells #[.int .u64 0, .int .i64 0, .int .i64 0, .int .u64 0, .int .i64 0, .int .u64 0, .int .i64 0, .int .u64 0, .int .i64 0, .int .u64 0, .int .i64 0, .int .u64 0] 27) := ⟨_, rfl⟩
  have hb67 : Below w6.heap.size w6 W7 := by rw [hW7]; exact (Below.refl _ _).alloc (Nat.le_refl _) _
  have hb57 := hb6.trans (hb67.mono hb6.size)
  have HB7 := Lib.hid (HB5.out.trans (hb57.mono HB5.out.size))
  have h27 := (hb57.block G (Array.getElem?_eq_some_iff.1 H25.out).1).trans H25.out
  have h57 := (hb57.block G5 (Array.getElem?_eq_some_iff.1 H5.out).1).trans H5.out
  have HW7 := Lib.hid hW7
  have d0 := cells_of h27 0
  have d1 := cells_of h27 1
  have d2 := cells_of h27 2
  have d3 := cells_of h27 3
  have d4 := cells_of h27 4
  have d5 := cells_of h27 5
  have d6 := cells_of h27 6
  have d7 := cells_of h27 7
  have d8 := cells_of h27 8
  have d9 := cells_of h27 9
  have d10 := cells_of h27 10
  have d11 := cells_of h27 11
  have e0 := cells_of h57 0
  have e1 := cells_of h57 1
  have e2 := cells_of h57 2
  have e3 := cells_of h57 3
  have e4 := cells_of h57 4
  have e5 := cells_of h57 5
  have e6 := cells_of h57 6
  have e7 := cells_of h57 7
  have e8 := cells_of h57 8
  have e9 := cells_of h57 9
  have e10 := cells_of h57 10
  have e11 := cells_of h57 11
  simp only [List.getElem?_toArray, List.getElem?_cons_zero, List.getElem?_cons_succ] at d0 d1 d2 d3 d4 d5 d6 d7 d8 d9 d10 d11 e0 e1 e2 e3 e4 e5 e6 e7 e8 e9 e10 e11
  have HEQ : ∀ w0 : World, (binOp .eql 27 (.agg #[.int .u64 4, .int .i64 7, .int .i64 0, .int .u64 0, .int .i64 0, .int .u64 0, .int .i64 300, .int .u64 2, .int .i64 0, .int .u64 0, .int .i64 0, .int .u64 0]) (.agg #[.int .u64 4, .int .i64 7, .int .i64 0, .int .u64 0, .int .i64 0, .int .u64 0, .int .i64 300, .int .u64 2, .int .i64 0, .int .u64 0, .int .i64 0, .int .u64 0])).run Try.prog w0 = .ok (.bool true) w0 := fun w0 => by
    have h := rt_eql w0 rt1 rt1 come_rt1 come_rt1
    rw [decide_eq_true rfl] at h
    exact h
  clear hb6 hb67 hb57 hW7 h27 h57 HB5 H5 H25 HT5
  go_upto_region 6 with fail
  rw [← HW7.out]
  clear HW7
  go_wp2
  go_ret
  exact ⟨rfl, HB7.out⟩
end Go.Proofs.Ytkhpblclpcgjnaa

