/- The law RootBack: whatever the root and the 88 bytes, every call of it returns true, and all that was there before the call is as it was. No condition. -/
import Derived.Test.YtkhpblclpcgjnaaRows
import Derived.Test.YtkhpblclpcgjnaaRtE
import Derived.Test.YtkhpblclpcgjnaaLaw
import Derived.Test.YtkhpblclpcgjnaaReg
import Derived.Deep.Cut
import Derived.ChangeMaps5
namespace Go.By
open Go Go.RowKit
theorem bytes_block {w : World} {G n : Nat} {t : TypeId} {fr : Nat × Nat} {l : List Nat} (h : w.heap[G]? = some (.cells (cellsOf l).toArray t fr)) (hn : n = l.length) (hs : ∀ c ∈ l, c < 256) (hm : l.length ≤ maxLen) : Bytes w (.slice (some ⟨G, 0, none⟩) n n) l where
  out := .inr <| .inr ⟨G, 0, l.length, by rw [hn], Nat.le_refl _, fun i hi => by
    rw [Nat.zero_add, cell_of_row w G i _ _ _ h, List.getElem?_toArray]; exact cellsOf_get hi⟩
  small := hs
  short := hm
theorem take_ways {l : List Nat} (hl : ∀ c ∈ l, c < 256) : takeRt 9 l = none ∨ ∃ nx a b c d e, takeRt 9 l = some ⟨9, nx, [a, b, c, d, e]⟩ ∧ RtCome ⟨9, nx, [a, b, c, d, e]⟩ ∧ putRt ⟨9, nx, [a, b, c, d, e]⟩ = l := by
  cases h : takeRt 9 l with
  | none => exact .inl rfl
  | some r =>
    obtain ⟨e1, hm, _, hg⟩ := takeRt_some hl h
    have hr : RtCome r := by
      unfold takeRt at h
      split at h
      · cases h; exact rdRt_come hl (by decide)
      · cases h
    obtain ⟨a, b, c, d, e, ht⟩ := five_of hr.five
    obtain ⟨g, nx, ts⟩ := r
    dsimp only at ht hg
    subst ht hg
    refine .inr ⟨nx, a, b, c, d, e, rfl, hr, ?_⟩
    unfold putRt
    rw [if_pos hm]
    exact e1.symm
end Go.By
namespace Go.Proofs.Ytkhpblclpcgjnaa
open Go Go.ChangeShapes Go.WideShapes Go.ChangeAt Go.RowKit Go.By Go.Deep

set_option maxRecDepth 100000 in
set_option maxHeartbeats 4000000 in
theorem rootBack_any {w : World} (r : Rt) (l : List Nat) (hr : RtCome r) (h88 : l.length = 88) (hl : ∀ c ∈ l, c < 256) :
    Calls Try.prog 4 #[.agg (rtCells r).toArray, .agg (cellsOf l).toArray] w fun z w' => z = .returned (.bool true) ∧ Below w.heap.size w w' := by
  obtain ⟨a, b, c, d, e, ht⟩ := five_of hr.five
  obtain ⟨g, nx, ts⟩ := r
  dsimp only at ht
  subst ht
  have HR := Lib.hid hr; have HTE := Lib.hid (take_ways hl); have HSM := Lib.hid hl; have HPL : Hid (l.length ≤ maxLen) := by unfold Hid; rw [h88]; decide
  obtain ⟨G2, hG2⟩ : ∃ G, G = w.heap.size := ⟨_, rfl⟩
  obtain ⟨G3, hG3⟩ : ∃ G, G = w.heap.size + 1 := ⟨_, rfl⟩
  obtain ⟨CS, hCS⟩ : ∃ c, c = (cellsOf l).toArray := ⟨_, rfl⟩
  obtain ⟨W, hW⟩ : ∃ W, W = (w.alloc (.cells #[.int .u64 (g : Nat), .int .i64 nx, .int .i64 a.off, .int .u64 (a.ct : Nat), .int .i64 b.off, .int .u64 (b.ct : Nat), .int .i64 c.off, .int .u64 (c.ct : Nat), .int .i64 d.off, .int .u64 (d.ct : Nat), .int .i64 e.off, .int .u64 (e.ct : Nat)] 27)).alloc (.cells CS 35) := ⟨_, rfl⟩
  have h2 : W.heap[G2]? = some (.cells #[.int .u64 (g : Nat), .int .i64 nx, .int .i64 a.off, .int .u64 (a.ct : Nat), .int .i64 b.off, .int .u64 (b.ct : Nat), .int .i64 c.off, .int .u64 (c.ct : Nat), .int .i64 d.off, .int .u64 (d.ct : Nat), .int .i64 e.off, .int .u64 (e.ct : Nat)] 27 (0, 0)) := by
    rw [hW, hG2]
    exact (((Below.refl _ (w.alloc (.cells #[.int .u64 (g : Nat), .int .i64 nx, .int .i64 a.off, .int .u64 (a.ct : Nat), .int .i64 b.off, .int .u64 (b.ct : Nat), .int .i64 c.off, .int .u64 (c.ct : Nat), .int .i64 d.off, .int .u64 (d.ct : Nat), .int .i64 e.off, .int .u64 (e.ct : Nat)] 27))).alloc (Nat.le_refl _) (.cells CS 35)).block _ (by simp)).trans (heap_alloc_new w _)
  have h3 : W.heap[G3]? = some (.cells (cellsOf l).toArray 35 (0, 0)) := by
    rw [hW, hG3, ← hCS]
    have h := heap_alloc_new (w.alloc (.cells #[.int .u64 (g : Nat), .int .i64 nx, .int .i64 a.off, .int .u64 (a.ct : Nat), .int .i64 b.off, .int .u64 (b.ct : Nat), .int .i64 c.off, .int .u64 (c.ct : Nat), .int .i64 d.off, .int .u64 (d.ct : Nat), .int .i64 e.off, .int .u64 (e.ct : Nat)] 27)) (.cells CS 35)
    rw [World.size_alloc] at h
    exact h
  have hb : Below w.heap.size w W := by rw [hW]; exact ((Below.refl _ _).alloc (Nat.le_refl _) _).alloc (by simp) _
  have HW := Lib.hid hW; have HB := Lib.hid hb; have H2 := Lib.hid h2; have HL := Lib.hid (bytes_block h3 h88.symm hl HPL.out)
  rw [← hCS]
  clear hr hW hb h2 h3 hl hCS h88
  change Calls _ _ #[.agg #[.int .u64 (g : Nat), .int .i64 nx, .int .i64 a.off, .int .u64 (a.ct : Nat), .int .i64 b.off, .int .u64 (b.ct : Nat), .int .i64 c.off, .int .u64 (c.ct : Nat), .int .i64 d.off, .int .u64 (d.ct : Nat), .int .i64 e.off, .int .u64 (e.ct : Nat)], _] _ _
  go_enter Try.func4, Try.ntmps4
  go_upto_region 1 with fail
  rw [← HW.out, ← hG2]
  rw [show G2 + 1 = G3 by rw [hG3, hG2]]
  clear HW hG2 hG3
  go_wp2_with fail
  refine (begun_any W).mono ?_
  rintro z w1 ⟨rfl, hb1⟩
  have HL1 := Lib.hid (HL.out.below hb1); have HB1 := Lib.hid (HB.out.trans (hb1.mono HB.out.size))
  have HR1 := Lib.hid ((hb1.block G2 (Array.getElem?_eq_some_iff.1 H2.out).1).trans H2.out)
  clear hb1 HL HB H2
  have a0 := cells_of HR1.out 0
  have a1 := cells_of HR1.out 1
  have a2 := cells_of HR1.out 2
  have a3 := cells_of HR1.out 3
  have a4 := cells_of HR1.out 4
  have a5 := cells_of HR1.out 5
  have a6 := cells_of HR1.out 6
  have a7 := cells_of HR1.out 7
  have a8 := cells_of HR1.out 8
  have a9 := cells_of HR1.out 9
  have a10 := cells_of HR1.out 10
  have a11 := cells_of HR1.out 11
  simp only [List.getElem?_toArray, List.getElem?_cons_zero, List.getElem?_cons_succ] at a0 a1 a2 a3 a4 a5 a6 a7 a8 a9 a10 a11
  have HP : Hid (Calls Try.prog 9 #[.agg #[.int .u64 (g : Nat), .int .i64 nx, .int .i64 a.off, .int .u64 (a.ct : Nat), .int .i64 b.off, .int .u64 (b.ct : Nat), .int .i64 c.off, .int .u64 (c.ct : Nat), .int .i64 d.off, .int .u64 (d.ct : Nat), .int .i64 e.off, .int .u64 (e.ct : Nat)]] w1 (Rows w1 (putRt ⟨g, nx, [a, b, c, d, e]⟩))) := put_any w1 ⟨g, nx, [a, b, c, d, e]⟩ HR.out
  by_cases hm : mayRt ⟨g, nx, [a, b, c, d, e]⟩ = true
  · have hpl := putRt_length HR.out.five hm
    go_wp2_with fail
    refine HP.out.mono ?_
    clear HP a0 a1 a2 a3 a4 a5 a6 a7 a8 a9 a10 a11
    rintro z w3 ⟨v3, rfl, ho3, hb3⟩
    obtain ⟨p3, c3, rfl⟩ := shape_of ho3
    have hy3 := owns_bytes ho3 (putRt_small _) (by rw [hpl]; decide)
    have hT := take_any _ _ g w3 hy3 HR.out.gen
    have e4 : rtAns g (putRt ⟨g, nx, [a, b, c, d, e]⟩) = .tuple #[.agg #[.int .u64 (g : Nat), .int .i64 nx, .int .i64 a.off, .int .u64 (a.ct : Nat), .int .i64 b.off, .int .u64 (b.ct : Nat), .int .i64 c.off, .int .u64 (c.ct : Nat), .int .i64 d.off, .int .u64 (d.ct : Nat), .int .i64 e.off, .int .u64 (e.ct : Nat)], .int .i64 0] := rtAns_yes (takeRt_puts HR.out hm)
    rw [hpl, e4] at hT
    have HT := Lib.hid hT
    rw [hpl]
    have HL3 := Lib.hid (HL1.out.below hb3); have HB3 := Lib.hid (HB1.out.trans (hb3.mono HB1.out.size)); have HR3 := Lib.hid ((hb3.block G2 (Array.getElem?_eq_some_iff.1 HR1.out).1).trans HR1.out)
    clear ho3 hb3 hy3 e4 hT HL1 HB1 HR1 hpl hm
    have a0 := cells_of HR3.out 0
    have a1 := cells_of HR3.out 1
    have a2 := cells_of HR3.out 2
    have a3 := cells_of HR3.out 3
    have a4 := cells_of HR3.out 4
    have a5 := cells_of HR3.out 5
    have a6 := cells_of HR3.out 6
    have a7 := cells_of HR3.out 7
    have a8 := cells_of HR3.out 8
    have a9 := cells_of HR3.out 9
    have a10 := cells_of HR3.out 10
    have a11 := cells_of HR3.out 11
    simp only [List.getElem?_toArray, List.getElem?_cons_zero, List.getElem?_cons_succ] at a0 a1 a2 a3 a4 a5 a6 a7 a8 a9 a10 a11
    go_wp2_with fail
    refine HT.out.mono ?_
    clear a0 a1 a2 a3 a4 a5 a6 a7 a8 a9 a10 a11
    rintro z w4 ⟨rfl, hb4⟩
    obtain ⟨W5, hW5⟩ : ∃ W, W = w4.alloc (.cells #[.int .u64 (g : Nat), .int .i64 nx, .int .i64 a.off, .int .u64 (a.ct : Nat), .int .i64 b.off, .int .u64 (b.ct : Nat), .int .i64 c.off, .int .u64 (c.ct : Nat), .int .i64 d.off, .int .u64 (d.ct : Nat), .int .i64 e.off, .int .u64 (e.ct : Nat)] 27) := ⟨_, rfl⟩
    have hb45 : Below w4.heap.size w4 W5 := by rw [hW5]; exact (Below.refl _ _).alloc (Nat.le_refl _) _
    have hb35 := hb4.trans (hb45.mono hb4.size)
    obtain ⟨G5, hG5⟩ : ∃ g, g = w4.heap.size := ⟨_, rfl⟩
    have h5 : W5.heap[G5]? = some (.cells #[.int .u64 (g : Nat), .int .i64 nx, .int .i64 a.off, .int .u64 (a.ct : Nat), .int .i64 b.off, .int .u64 (b.ct : Nat), .int .i64 c.off, .int .u64 (c.ct : Nat), .int .i64 d.off, .int .u64 (d.ct : Nat), .int .i64 e.off, .int .u64 (e.ct : Nat)] 27 (0, 0)) := by rw [hW5, hG5]; exact heap_alloc_new w4 _
    have HL5 := Lib.hid (HL3.out.below hb35); have HB5 := Lib.hid (HB3.out.trans (hb35.mono HB3.out.size))
    have hr5 := (hb35.block G2 (Array.getElem?_eq_some_iff.1 HR3.out).1).trans HR3.out
    have HW5 := Lib.hid hW5
    have a0 := cells_of h5 0
    have a1 := cells_of h5 1
    have a2 := cells_of h5 2
    have a3 := cells_of h5 3
    have a4 := cells_of h5 4
    have a5 := cells_of h5 5
    have a6 := cells_of h5 6
    have a7 := cells_of h5 7
    have a8 := cells_of h5 8
    have a9 := cells_of h5 9
    have a10 := cells_of h5 10
    have a11 := cells_of h5 11
    have b0 := cells_of hr5 0
    have b1 := cells_of hr5 1
    have b2 := cells_of hr5 2
    have b3 := cells_of hr5 3
    have b4 := cells_of hr5 4
    have b5 := cells_of hr5 5
    have b6 := cells_of hr5 6
    have b7 := cells_of hr5 7
    have b8 := cells_of hr5 8
    have b9 := cells_of hr5 9
    have b10 := cells_of hr5 10
    have b11 := cells_of hr5 11
    simp only [List.getElem?_toArray, List.getElem?_cons_zero, List.getElem?_cons_succ] at a0 a1 a2 a3 a4 a5 a6 a7 a8 a9 a10 a11 b0 b1 b2 b3 b4 b5 b6 b7 b8 b9 b10 b11
    have HNE : ∀ w0 : World, (binOp .neq 27 (.agg #[.int .u64 (g : Nat), .int .i64 nx, .int .i64 a.off, .int .u64 (a.ct : Nat), .int .i64 b.off, .int .u64 (b.ct : Nat), .int .i64 c.off, .int .u64 (c.ct : Nat), .int .i64 d.off, .int .u64 (d.ct : Nat), .int .i64 e.off, .int .u64 (e.ct : Nat)]) (.agg #[.int .u64 (g : Nat), .int .i64 nx, .int .i64 a.off, .int .u64 (a.ct : Nat), .int .i64 b.off, .int .u64 (b.ct : Nat), .int .i64 c.off, .int .u64 (c.ct : Nat), .int .i64 d.off, .int .u64 (d.ct : Nat), .int .i64 e.off, .int .u64 (e.ct : Nat)])).run Try.prog w0 = .ok (.bool false) w0 := fun w0 => by
      have h := rt_neq w0 ⟨g, nx, [a, b, c, d, e]⟩ ⟨g, nx, [a, b, c, d, e]⟩ HR.out HR.out
      rw [decide_eq_true rfl] at h
      exact h
    clear hb4 hb45 hb35 hW5 h5 hr5 HT HL3 HB3 HR3
    go_upto_region 6 with fail
    rw [← HW5.out, ← hG5]
    clear HW5 hG5
    go_upto_region 8 with fail
    clear HNE a0 a1 a2 a3 a4 a5 a6 a7 a8 a9 a10 a11 b0 b1 b2 b3 b4 b5 b6 b7 b8 b9 b10 b11
    rcases HTE.out with E | ⟨nx', a', b', c', d', e', E, hq, hpq⟩
    · have HT : Hid (Calls Try.prog 7 #[.int .u64 9, .slice (some ⟨G3, 0, none⟩) 88 88] W5 fun z w' => z = .returned (.tuple #[.agg #[.int .u64 0, .int .i64 0, .int .i64 0, .int .u64 0, .int .i64 0, .int .u64 0, .int .i64 0, .int .u64 0, .int .i64 0, .int .u64 0, .int .i64 0, .int .u64 0], .int .i64 2]) ∧ Below W5.heap.size W5 w') := by
        have h := take_any _ l 9 W5 HL5.out (by decide)
        rw [rtAns_no E] at h
        exact h
      go_wp2_with fail
      refine HT.out.mono ?_
      rintro z w7 ⟨rfl, hb7⟩
      obtain ⟨W8, hW8⟩ : ∃ W, W = w7.alloc (.cells #[.int .u64 0, .int .i64 0, .int .i64 0, .int .u64 0, .int .i64 0, .int .u64 0, .int .i64 0, .int .u64 0, .int .i64 0, .int .u64 0, .int .i64 0, .int .u64 0] 27) := ⟨_, rfl⟩
      have hb78 : Below w7.heap.size w7 W8 := by rw [hW8]; exact (Below.refl _ _).alloc (Nat.le_refl _) _
      have hb68 := hb7.trans (hb78.mono hb7.size)
      obtain ⟨G8, hG8⟩ : ∃ g, g = w7.heap.size := ⟨_, rfl⟩
      have H8 : Hid (W8.heap[G8]? = some (.cells #[.int .u64 0, .int .i64 0, .int .i64 0, .int .u64 0, .int .i64 0, .int .u64 0, .int .i64 0, .int .u64 0, .int .i64 0, .int .u64 0, .int .i64 0, .int .u64 0] 27 (0, 0))) := by unfold Hid; rw [hW8, hG8]; exact heap_alloc_new w7 _
      have HO8 := Lib.hid (HB5.out.trans (hb68.mono HB5.out.size)); have HB8 := Lib.hid (HL5.out.below hb68)
      have HW8 := Lib.hid hW8
      have HEQ : Hid (∀ w0 : World, (binOp .eql 27 (.agg #[.int .u64 0, .int .i64 0, .int .i64 0, .int .u64 0, .int .i64 0, .int .u64 0, .int .i64 0, .int .u64 0, .int .i64 0, .int .u64 0, .int .i64 0, .int .u64 0]) (.agg #[.int .u64 0, .int .i64 0, .int .i64 0, .int .u64 0, .int .i64 0, .int .u64 0, .int .i64 0, .int .u64 0, .int .i64 0, .int .u64 0, .int .i64 0, .int .u64 0])).run Try.prog w0 = .ok (.bool true) w0) := fun w0 => by
        have h := rt_eql w0 rt0 rt0 come_rt0 come_rt0
        rw [decide_eq_true rfl] at h
        exact h
      clear hb7 hb78 hb68 hW8 HT
      go_upto_region 9 with fail
      rw [← HW8.out, ← hG8]
      clear HW8 hG8
      refine wp_region_left (by kernel_rfl)
        [.is (.int .i64 2),
         .is (.bool true),
         .is (.bool true),
         .is (.agg #[.int .u64 0, .int .i64 0, .int .i64 0, .int .u64 0, .int .i64 0, .int .u64 0, .int .i64 0, .int .u64 0, .int .i64 0, .int .u64 0, .int .i64 0, .int .u64 0]),
         .is (.agg #[.int .u64 0, .int .i64 0, .int .i64 0, .int .u64 0, .int .i64 0, .int .u64 0, .int .i64 0, .int .u64 0, .int .i64 0, .int .u64 0, .int .i64 0, .int .u64 0]),
         .is (.bool true),
         .is (.bool true),
         .is (.bool true),
         .is undef,
         .is undef,
         .is undef,
         .is undef,
         .is undef,
         .is undef,
         .is undef,
         .is undef,
         .is undef,
         .is undef,
         .is undef,
         .is undef,
         .is undef,
         .is undef,
         .is undef,
         .is (.bool true),
         .is (.bool true)]
        [[], [0], [1], [2], [2], [2, 3, 4], [2, 5], [6], [7], [7, 8], [7, 9], [10], [10, 11], [10, 12], [7, 10, 13], [7, 14], [15], [15, 16], [15, 17], [15], [15, 19], [15, 18, 20], [7, 15, 21], [7, 22], [23]] (by kernel_rfl) (by rfl) ?_ ?_
      · refine LeftOps.cons ?_ (LeftOps.cons ?_ (LeftOps.cons ?_ (LeftOps.cons ?_ (LeftOps.cons ?_ (LeftOps.cons ?_ (LeftOps.cons ?_ (LeftOps.cons ?_ (LeftOps.cons ?_ (LeftOps.cons ?_ (LeftOps.cons ?_ (LeftOps.cons ?_ (LeftOps.cons ?_ (LeftOps.cons ?_ (LeftOps.cons ?_ (LeftOps.cons ?_ (LeftOps.cons ?_ (LeftOps.cons ?_ (LeftOps.cons ?_ (LeftOps.cons ?_ (LeftOps.cons ?_ (LeftOps.cons ?_ (LeftOps.cons ?_ (LeftOps.cons ?_ (LeftOps.cons ?_ (LeftOps.nil)))))))))))))))))))))))))
        · intro wz hwz
          refine withLeft_nil ?_
          refine lft_run rfl rfl ?_
          exact lft_move rfl (by first | rfl | assumption)
        · intro wz hwz
          refine withLeft_is rfl rfl ?_
          refine withLeft_nil ?_
          simp only [Act.put, List.setIfInBounds_toArray, List.set_cons_zero, List.set_cons_succ]
          refine lft_run rfl rfl ?_
          unfold LftRun
          go_wp2
          exact ⟨rfl, rfl, rfl, Below.refl _ _⟩
        · intro wz hwz
          refine withLeft_is rfl rfl ?_
          refine withLeft_nil ?_
          simp only [Act.put, List.setIfInBounds_toArray, List.set_cons_zero, List.set_cons_succ]
          refine lft_run rfl rfl ?_
          exact lft_move rfl (by first | rfl | assumption)
        · intro wz hwz
          refine withLeft_is rfl rfl ?_
          refine withLeft_nil ?_
          simp only [Act.put, List.setIfInBounds_toArray, List.set_cons_zero, List.set_cons_succ]
          refine lft_want rfl rfl rfl rfl ?_
          unfold LftRun
          have hgz := (hwz.block G8 (Array.getElem?_eq_some_iff.1 H8.out).1).trans H8.out
          have d0 := cells_of hgz 0
          have d1 := cells_of hgz 1
          have d2 := cells_of hgz 2
          have d3 := cells_of hgz 3
          have d4 := cells_of hgz 4
          have d5 := cells_of hgz 5
          have d6 := cells_of hgz 6
          have d7 := cells_of hgz 7
          have d8 := cells_of hgz 8
          have d9 := cells_of hgz 9
          have d10 := cells_of hgz 10
          have d11 := cells_of hgz 11
          simp only [List.getElem?_toArray, List.getElem?_cons_zero, List.getElem?_cons_succ] at d0 d1 d2 d3 d4 d5 d6 d7 d8 d9 d10 d11
          clear hgz
          go_wp2
          exact ⟨rfl, rfl, rfl, Below.refl _ _⟩
        · intro wz hwz
          refine withLeft_is rfl rfl ?_
          refine withLeft_nil ?_
          simp only [Act.put, List.setIfInBounds_toArray, List.set_cons_zero, List.set_cons_succ]
          refine lft_want rfl rfl rfl rfl ?_
          unfold LftRun
          go_wp2
          exact ⟨rfl, rfl, rfl, Below.refl _ _⟩
        · intro wz hwz
          refine withLeft_is rfl rfl ?_
          refine withLeft_is rfl rfl ?_
          refine withLeft_is rfl rfl ?_
          refine withLeft_nil ?_
          simp only [Act.put, List.setIfInBounds_toArray, List.set_cons_zero, List.set_cons_succ]
          refine lft_want rfl rfl rfl rfl ?_
          unfold LftRun
          have heq := HEQ.out
          go_wp2
          exact ⟨rfl, rfl, rfl, Below.refl _ _⟩
        · intro wz hwz
          refine withLeft_is rfl rfl ?_
          refine withLeft_is rfl rfl ?_
          refine withLeft_nil ?_
          simp only [Act.put, List.setIfInBounds_toArray, List.set_cons_zero, List.set_cons_succ]
          refine lft_run rfl rfl ?_
          exact lft_pick rfl rfl rfl
        · intro wz hwz
          refine withLeft_is rfl rfl ?_
          refine withLeft_nil ?_
          simp only [Act.put, List.setIfInBounds_toArray, List.set_cons_zero, List.set_cons_succ]
          refine lft_run rfl rfl ?_
          exact lft_move rfl (by first | rfl | assumption)
        · intro wz hwz
          refine withLeft_is rfl rfl ?_
          refine withLeft_nil ?_
          simp only [Act.put, List.setIfInBounds_toArray, List.set_cons_zero, List.set_cons_succ]
          exact lft_skip rfl rfl rfl rfl (by first | (simp; done) | (intro hun; cases hun; done) | (intro hun; unfold undef at hun; cases hun)) rfl rfl
        · intro wz hwz
          refine withLeft_is rfl rfl ?_
          refine withLeft_is rfl rfl ?_
          refine withLeft_nil ?_
          simp only [Act.put, List.setIfInBounds_toArray, List.set_cons_zero, List.set_cons_succ]
          exact lft_skip rfl rfl rfl rfl (by first | (simp; done) | (intro hun; cases hun; done) | (intro hun; unfold undef at hun; cases hun)) rfl rfl
        · intro wz hwz
          refine withLeft_is rfl rfl ?_
          refine withLeft_is rfl rfl ?_
          refine withLeft_nil ?_
          simp only [Act.put, List.setIfInBounds_toArray, List.set_cons_zero, List.set_cons_succ]
          exact lft_skip rfl rfl rfl rfl (by first | (simp; done) | (intro hun; cases hun; done) | (intro hun; unfold undef at hun; cases hun)) rfl rfl
        · intro wz hwz
          refine withLeft_is rfl rfl ?_
          refine withLeft_nil ?_
          simp only [Act.put, List.setIfInBounds_toArray, List.set_cons_zero, List.set_cons_succ]
          exact lft_skip rfl rfl rfl rfl (by first | (simp; done) | (intro hun; cases hun; done) | (intro hun; unfold undef at hun; cases hun)) rfl rfl
        · intro wz hwz
          refine withLeft_is rfl rfl ?_
          refine withLeft_is rfl rfl ?_
          refine withLeft_nil ?_
          simp only [Act.put, List.setIfInBounds_toArray, List.set_cons_zero, List.set_cons_succ]
          exact lft_skip rfl rfl rfl rfl (by first | (simp; done) | (intro hun; cases hun; done) | (intro hun; unfold undef at hun; cases hun)) rfl rfl
        · intro wz hwz
          refine withLeft_is rfl rfl ?_
          refine withLeft_is rfl rfl ?_
          refine withLeft_nil ?_
          simp only [Act.put, List.setIfInBounds_toArray, List.set_cons_zero, List.set_cons_succ]
          exact lft_skip rfl rfl rfl rfl (by first | (simp; done) | (intro hun; cases hun; done) | (intro hun; unfold undef at hun; cases hun)) rfl rfl
        · intro wz hwz
          refine withLeft_is rfl rfl ?_
          refine withLeft_is rfl rfl ?_
          refine withLeft_is rfl rfl ?_
          refine withLeft_nil ?_
          simp only [Act.put, List.setIfInBounds_toArray, List.set_cons_zero, List.set_cons_succ]
          exact lft_skip rfl rfl rfl rfl (by first | (simp; done) | (intro hun; cases hun; done) | (intro hun; unfold undef at hun; cases hun)) rfl rfl
        · intro wz hwz
          refine withLeft_is rfl rfl ?_
          refine withLeft_is rfl rfl ?_
          refine withLeft_nil ?_
          simp only [Act.put, List.setIfInBounds_toArray, List.set_cons_zero, List.set_cons_succ]
          exact lft_skip rfl rfl rfl rfl (by first | (simp; done) | (intro hun; cases hun; done) | (intro hun; unfold undef at hun; cases hun)) rfl rfl
        · intro wz hwz
          refine withLeft_is rfl rfl ?_
          refine withLeft_nil ?_
          simp only [Act.put, List.setIfInBounds_toArray, List.set_cons_zero, List.set_cons_succ]
          exact lft_skip rfl rfl rfl rfl (by first | (simp; done) | (intro hun; cases hun; done) | (intro hun; unfold undef at hun; cases hun)) rfl rfl
        · intro wz hwz
          refine withLeft_is rfl rfl ?_
          refine withLeft_is rfl rfl ?_
          refine withLeft_nil ?_
          simp only [Act.put, List.setIfInBounds_toArray, List.set_cons_zero, List.set_cons_succ]
          exact lft_skip rfl rfl rfl rfl (by first | (simp; done) | (intro hun; cases hun; done) | (intro hun; unfold undef at hun; cases hun)) rfl rfl
        · intro wz hwz
          refine withLeft_is rfl rfl ?_
          refine withLeft_is rfl rfl ?_
          refine withLeft_nil ?_
          simp only [Act.put, List.setIfInBounds_toArray, List.set_cons_zero, List.set_cons_succ]
          exact lft_skip rfl rfl rfl rfl (by first | (simp; done) | (intro hun; cases hun; done) | (intro hun; unfold undef at hun; cases hun)) rfl rfl
        · intro wz hwz
          refine withLeft_is rfl rfl ?_
          refine withLeft_nil ?_
          simp only [Act.put, List.setIfInBounds_toArray, List.set_cons_zero, List.set_cons_succ]
          exact lft_skip rfl rfl rfl rfl (by first | (simp; done) | (intro hun; cases hun; done) | (intro hun; unfold undef at hun; cases hun)) rfl rfl
        · intro wz hwz
          refine withLeft_is rfl rfl ?_
          refine withLeft_is rfl rfl ?_
          refine withLeft_nil ?_
          simp only [Act.put, List.setIfInBounds_toArray, List.set_cons_zero, List.set_cons_succ]
          exact lft_skip rfl rfl rfl rfl (by first | (simp; done) | (intro hun; cases hun; done) | (intro hun; unfold undef at hun; cases hun)) rfl rfl
        · intro wz hwz
          refine withLeft_is rfl rfl ?_
          refine withLeft_is rfl rfl ?_
          refine withLeft_is rfl rfl ?_
          refine withLeft_nil ?_
          simp only [Act.put, List.setIfInBounds_toArray, List.set_cons_zero, List.set_cons_succ]
          exact lft_skip rfl rfl rfl rfl (by first | (simp; done) | (intro hun; cases hun; done) | (intro hun; unfold undef at hun; cases hun)) rfl rfl
        · intro wz hwz
          refine withLeft_is rfl rfl ?_
          refine withLeft_is rfl rfl ?_
          refine withLeft_is rfl rfl ?_
          refine withLeft_nil ?_
          simp only [Act.put, List.setIfInBounds_toArray, List.set_cons_zero, List.set_cons_succ]
          exact lft_skip rfl rfl rfl rfl (by first | (simp; done) | (intro hun; cases hun; done) | (intro hun; unfold undef at hun; cases hun)) rfl rfl
        · intro wz hwz
          refine withLeft_is rfl rfl ?_
          refine withLeft_is rfl rfl ?_
          refine withLeft_nil ?_
          simp only [Act.put, List.setIfInBounds_toArray, List.set_cons_zero, List.set_cons_succ]
          refine lft_run rfl rfl ?_
          exact lft_pick rfl rfl rfl
        · intro wz hwz
          refine withLeft_is rfl rfl ?_
          refine withLeft_nil ?_
          simp only [Act.put, List.setIfInBounds_toArray, List.set_cons_zero, List.set_cons_succ]
          refine lft_run rfl rfl ?_
          exact lft_assign rfl (by first | rfl | assumption)
      intro wz hwz
      refine LeftEnd.is (LeftEnd.is (LeftEnd.is (LeftEnd.is (LeftEnd.is (LeftEnd.is (LeftEnd.is (LeftEnd.is (LeftEnd.is (LeftEnd.is (LeftEnd.is (LeftEnd.is (LeftEnd.is (LeftEnd.is (LeftEnd.is (LeftEnd.is (LeftEnd.is (LeftEnd.is (LeftEnd.is (LeftEnd.is (LeftEnd.is (LeftEnd.is (LeftEnd.is (LeftEnd.is (LeftEnd.is (LeftEnd.nil ?_)))))))))))))))))))))))))
      simp only [Act.put, List.setIfInBounds_toArray, List.set_cons_zero, List.set_cons_succ]
      go_wp2
      go_ret
      exact ⟨rfl, HO8.out.trans (hwz.mono HO8.out.size)⟩
    · have HQ := Lib.hid hq; have HPQ := Lib.hid hpq
      clear hq hpq
      have HT : Hid (Calls Try.prog 7 #[.int .u64 9, .slice (some ⟨G3, 0, none⟩) 88 88] W5 fun z w' => z = .returned (.tuple #[.agg #[.int .u64 9, .int .i64 nx', .int .i64 a'.off, .int .u64 (a'.ct : Nat), .int .i64 b'.off, .int .u64 (b'.ct : Nat), .int .i64 c'.off, .int .u64 (c'.ct : Nat), .int .i64 d'.off, .int .u64 (d'.ct : Nat), .int .i64 e'.off, .int .u64 (e'.ct : Nat)], .int .i64 0]) ∧ Below W5.heap.size W5 w') := by
        have h := take_any _ l 9 W5 HL5.out (by decide)
        rw [rtAns_yes E] at h
        exact h
      go_wp2_with fail
      refine HT.out.mono ?_
      rintro z w7 ⟨rfl, hb7⟩
      obtain ⟨W8, hW8⟩ : ∃ W, W = w7.alloc (.cells #[.int .u64 9, .int .i64 nx', .int .i64 a'.off, .int .u64 (a'.ct : Nat), .int .i64 b'.off, .int .u64 (b'.ct : Nat), .int .i64 c'.off, .int .u64 (c'.ct : Nat), .int .i64 d'.off, .int .u64 (d'.ct : Nat), .int .i64 e'.off, .int .u64 (e'.ct : Nat)] 27) := ⟨_, rfl⟩
      have hb78 : Below w7.heap.size w7 W8 := by rw [hW8]; exact (Below.refl _ _).alloc (Nat.le_refl _) _
      have hb68 := hb7.trans (hb78.mono hb7.size)
      obtain ⟨G8, hG8⟩ : ∃ g, g = w7.heap.size := ⟨_, rfl⟩
      have H8 : Hid (W8.heap[G8]? = some (.cells #[.int .u64 9, .int .i64 nx', .int .i64 a'.off, .int .u64 (a'.ct : Nat), .int .i64 b'.off, .int .u64 (b'.ct : Nat), .int .i64 c'.off, .int .u64 (c'.ct : Nat), .int .i64 d'.off, .int .u64 (d'.ct : Nat), .int .i64 e'.off, .int .u64 (e'.ct : Nat)] 27 (0, 0))) := by unfold Hid; rw [hW8, hG8]; exact heap_alloc_new w7 _
      have HO8 := Lib.hid (HB5.out.trans (hb68.mono HB5.out.size)); have HB8 := Lib.hid (HL5.out.below hb68)
      have HW8 := Lib.hid hW8
      clear hb7 hb78 hb68 hW8 HT
      go_upto_region 9 with fail
      rw [← HW8.out, ← hG8]
      clear HW8 hG8
      refine wp_region_left (by kernel_rfl)
        [.is (.int .i64 0),
         .is (.bool false),
         .is (.bool false),
         .is undef,
         .is undef,
         .is undef,
         .is (.bool false),
         .is (.bool false),
         .is (.int .i64 0),
         .is (.bool true),
         .is (.bool true),
         .is (.pointer (some ⟨G8, 0, none⟩)),
         .is (.int .u64 9),
         .is (.bool true),
         .is (.bool true),
         .is (.bool true),
         .is (.agg #[.int .u64 9, .int .i64 nx', .int .i64 a'.off, .int .u64 (a'.ct : Nat), .int .i64 b'.off, .int .u64 (b'.ct : Nat), .int .i64 c'.off, .int .u64 (c'.ct : Nat), .int .i64 d'.off, .int .u64 (d'.ct : Nat), .int .i64 e'.off, .int .u64 (e'.ct : Nat)]),
         .bytes l,
         .is (.string (strOf l)),
         .is (.slice (some ⟨G3, 0, none⟩) 88 88),
         .is (.string (strOf l)),
         .is (.bool true),
         .is (.bool true),
         .is (.bool true),
         .is (.bool true)]
        [[], [0], [1], [2], [2], [2, 3, 4], [2, 5], [6], [7], [7, 8], [7, 9], [10], [10, 11], [10, 12], [7, 10, 13], [7, 14], [15], [15, 16], [15, 17], [15], [15, 19], [15, 18, 20], [7, 15, 21], [7, 22], [23]] (by kernel_rfl) (by rfl) ?_ ?_
      · refine LeftOps.cons ?_ (LeftOps.cons ?_ (LeftOps.cons ?_ (LeftOps.cons ?_ (LeftOps.cons ?_ (LeftOps.cons ?_ (LeftOps.cons ?_ (LeftOps.cons ?_ (LeftOps.cons ?_ (LeftOps.cons ?_ (LeftOps.cons ?_ (LeftOps.cons ?_ (LeftOps.cons ?_ (LeftOps.cons ?_ (LeftOps.cons ?_ (LeftOps.cons ?_ (LeftOps.cons ?_ (LeftOps.cons ?_ (LeftOps.cons ?_ (LeftOps.cons ?_ (LeftOps.cons ?_ (LeftOps.cons ?_ (LeftOps.cons ?_ (LeftOps.cons ?_ (LeftOps.cons ?_ (LeftOps.nil)))))))))))))))))))))))))
        · intro wz hwz
          refine withLeft_nil ?_
          refine lft_run rfl rfl ?_
          exact lft_move rfl (by first | rfl | assumption)
        · intro wz hwz
          refine withLeft_is rfl rfl ?_
          refine withLeft_nil ?_
          simp only [Act.put, List.setIfInBounds_toArray, List.set_cons_zero, List.set_cons_succ]
          refine lft_run rfl rfl ?_
          unfold LftRun
          go_wp2
          exact ⟨rfl, rfl, rfl, Below.refl _ _⟩
        · intro wz hwz
          refine withLeft_is rfl rfl ?_
          refine withLeft_nil ?_
          simp only [Act.put, List.setIfInBounds_toArray, List.set_cons_zero, List.set_cons_succ]
          refine lft_run rfl rfl ?_
          exact lft_move rfl (by first | rfl | assumption)
        · intro wz hwz
          refine withLeft_is rfl rfl ?_
          refine withLeft_nil ?_
          simp only [Act.put, List.setIfInBounds_toArray, List.set_cons_zero, List.set_cons_succ]
          exact lft_skip rfl rfl rfl rfl (by first | (simp; done) | (intro hun; cases hun; done) | (intro hun; unfold undef at hun; cases hun)) rfl rfl
        · intro wz hwz
          refine withLeft_is rfl rfl ?_
          refine withLeft_nil ?_
          simp only [Act.put, List.setIfInBounds_toArray, List.set_cons_zero, List.set_cons_succ]
          exact lft_skip rfl rfl rfl rfl (by first | (simp; done) | (intro hun; cases hun; done) | (intro hun; unfold undef at hun; cases hun)) rfl rfl
        · intro wz hwz
          refine withLeft_is rfl rfl ?_
          refine withLeft_is rfl rfl ?_
          refine withLeft_is rfl rfl ?_
          refine withLeft_nil ?_
          simp only [Act.put, List.setIfInBounds_toArray, List.set_cons_zero, List.set_cons_succ]
          exact lft_skip rfl rfl rfl rfl (by first | (simp; done) | (intro hun; cases hun; done) | (intro hun; unfold undef at hun; cases hun)) rfl rfl
        · intro wz hwz
          refine withLeft_is rfl rfl ?_
          refine withLeft_is rfl rfl ?_
          refine withLeft_nil ?_
          simp only [Act.put, List.setIfInBounds_toArray, List.set_cons_zero, List.set_cons_succ]
          refine lft_run rfl rfl ?_
          exact lft_pick rfl rfl rfl
        · intro wz hwz
          refine withLeft_is rfl rfl ?_
          refine withLeft_nil ?_
          simp only [Act.put, List.setIfInBounds_toArray, List.set_cons_zero, List.set_cons_succ]
          refine lft_run rfl rfl ?_
          exact lft_move rfl (by first | rfl | assumption)
        · intro wz hwz
          refine withLeft_is rfl rfl ?_
          refine withLeft_nil ?_
          simp only [Act.put, List.setIfInBounds_toArray, List.set_cons_zero, List.set_cons_succ]
          refine lft_want rfl rfl rfl rfl ?_
          exact lft_move rfl (by first | rfl | assumption)
        · intro wz hwz
          refine withLeft_is rfl rfl ?_
          refine withLeft_is rfl rfl ?_
          refine withLeft_nil ?_
          simp only [Act.put, List.setIfInBounds_toArray, List.set_cons_zero, List.set_cons_succ]
          refine lft_want rfl rfl rfl rfl ?_
          unfold LftRun
          go_wp2
          exact ⟨rfl, rfl, rfl, Below.refl _ _⟩
        · intro wz hwz
          refine withLeft_is rfl rfl ?_
          refine withLeft_is rfl rfl ?_
          refine withLeft_nil ?_
          simp only [Act.put, List.setIfInBounds_toArray, List.set_cons_zero, List.set_cons_succ]
          refine lft_want rfl rfl rfl rfl ?_
          exact lft_move rfl (by first | rfl | assumption)
        · intro wz hwz
          refine withLeft_is rfl rfl ?_
          refine withLeft_nil ?_
          simp only [Act.put, List.setIfInBounds_toArray, List.set_cons_zero, List.set_cons_succ]
          refine lft_want rfl rfl rfl rfl ?_
          unfold LftRun
          go_wp2
          exact ⟨rfl, rfl, rfl, Below.refl _ _⟩
        · intro wz hwz
          refine withLeft_is rfl rfl ?_
          refine withLeft_is rfl rfl ?_
          refine withLeft_nil ?_
          simp only [Act.put, List.setIfInBounds_toArray, List.set_cons_zero, List.set_cons_succ]
          refine lft_want rfl rfl rfl rfl ?_
          unfold LftRun
          have hgz := (hwz.block G8 (Array.getElem?_eq_some_iff.1 H8.out).1).trans H8.out
          have d0 := cells_of hgz 0
          have d1 := cells_of hgz 1
          have d2 := cells_of hgz 2
          have d3 := cells_of hgz 3
          have d4 := cells_of hgz 4
          have d5 := cells_of hgz 5
          have d6 := cells_of hgz 6
          have d7 := cells_of hgz 7
          have d8 := cells_of hgz 8
          have d9 := cells_of hgz 9
          have d10 := cells_of hgz 10
          have d11 := cells_of hgz 11
          simp only [List.getElem?_toArray, List.getElem?_cons_zero, List.getElem?_cons_succ] at d0 d1 d2 d3 d4 d5 d6 d7 d8 d9 d10 d11
          clear hgz
          go_wp2
          exact ⟨rfl, rfl, rfl, Below.refl _ _⟩
        · intro wz hwz
          refine withLeft_is rfl rfl ?_
          refine withLeft_is rfl rfl ?_
          refine withLeft_nil ?_
          simp only [Act.put, List.setIfInBounds_toArray, List.set_cons_zero, List.set_cons_succ]
          refine lft_want rfl rfl rfl rfl ?_
          unfold LftRun
          go_wp2
          exact ⟨rfl, rfl, rfl, Below.refl _ _⟩
        · intro wz hwz
          refine withLeft_is rfl rfl ?_
          refine withLeft_is rfl rfl ?_
          refine withLeft_is rfl rfl ?_
          refine withLeft_nil ?_
          simp only [Act.put, List.setIfInBounds_toArray, List.set_cons_zero, List.set_cons_succ]
          refine lft_want rfl rfl rfl rfl ?_
          exact lft_pick rfl rfl rfl
        · intro wz hwz
          refine withLeft_is rfl rfl ?_
          refine withLeft_is rfl rfl ?_
          refine withLeft_nil ?_
          simp only [Act.put, List.setIfInBounds_toArray, List.set_cons_zero, List.set_cons_succ]
          refine lft_want rfl rfl rfl rfl ?_
          exact lft_move rfl (by first | rfl | assumption)
        · intro wz hwz
          refine withLeft_is rfl rfl ?_
          refine withLeft_nil ?_
          simp only [Act.put, List.setIfInBounds_toArray, List.set_cons_zero, List.set_cons_succ]
          refine lft_want rfl rfl rfl rfl ?_
          unfold LftRun
          have hgz := (hwz.block G8 (Array.getElem?_eq_some_iff.1 H8.out).1).trans H8.out
          have d0 := cells_of hgz 0
          have d1 := cells_of hgz 1
          have d2 := cells_of hgz 2
          have d3 := cells_of hgz 3
          have d4 := cells_of hgz 4
          have d5 := cells_of hgz 5
          have d6 := cells_of hgz 6
          have d7 := cells_of hgz 7
          have d8 := cells_of hgz 8
          have d9 := cells_of hgz 9
          have d10 := cells_of hgz 10
          have d11 := cells_of hgz 11
          simp only [List.getElem?_toArray, List.getElem?_cons_zero, List.getElem?_cons_succ] at d0 d1 d2 d3 d4 d5 d6 d7 d8 d9 d10 d11
          clear hgz
          go_wp2
          exact ⟨rfl, rfl, rfl, Below.refl _ _⟩
        · intro wz hwz
          refine withLeft_is rfl rfl ?_
          refine withLeft_is rfl rfl ?_
          refine withLeft_nil ?_
          simp only [Act.put, List.setIfInBounds_toArray, List.set_cons_zero, List.set_cons_succ]
          refine lft_want rfl rfl rfl rfl ?_
          unfold LftRun
          have hcl : Calls _ _ #[.agg #[.int .u64 9, .int .i64 nx', .int .i64 a'.off, .int .u64 (a'.ct : Nat), .int .i64 b'.off, .int .u64 (b'.ct : Nat), .int .i64 c'.off, .int .u64 (c'.ct : Nat), .int .i64 d'.off, .int .u64 (d'.ct : Nat), .int .i64 e'.off, .int .u64 (e'.ct : Nat)]] wz (Rows wz (putRt ⟨9, nx', [a', b', c', d', e']⟩)) := put_any wz ⟨9, nx', [a', b', c', d', e']⟩ HQ.out
          rw [HPQ.out] at hcl
          go_wp2_with fail
          refine hcl.mono ?_
          rintro e wq ⟨vq, rfl, hoq, hbq⟩
          have hyq := Bytes.of_owns hoq HSM.out HPL.out
          clear hoq hcl
          go_wp2
          exact ⟨rfl, hyq, rfl, hbq⟩
        · intro wz hwz
          refine withLeft_is rfl rfl ?_
          refine withLeft_bytes rfl rfl ?_
          intro vv hvv
          obtain ⟨pv, cv, rfl, _⟩ := hvv.any
          have hcvv := hvv.toString (P := Try.prog) byT (d := 9) (by kernel_rfl)
          refine withLeft_nil ?_
          simp only [Act.put, List.setIfInBounds_toArray, List.set_cons_zero, List.set_cons_succ]
          refine lft_want rfl rfl rfl rfl ?_
          unfold LftRun
          go_wp2
          exact ⟨rfl, rfl, rfl, Below.refl _ _⟩
        · intro wz hwz
          refine withLeft_is rfl rfl ?_
          refine withLeft_nil ?_
          simp only [Act.put, List.setIfInBounds_toArray, List.set_cons_zero, List.set_cons_succ]
          refine lft_want rfl rfl rfl rfl ?_
          unfold LftRun
          go_wp2
          exact ⟨rfl, rfl, rfl, Below.refl _ _⟩
        · intro wz hwz
          refine withLeft_is rfl rfl ?_
          refine withLeft_is rfl rfl ?_
          refine withLeft_nil ?_
          simp only [Act.put, List.setIfInBounds_toArray, List.set_cons_zero, List.set_cons_succ]
          refine lft_want rfl rfl rfl rfl ?_
          have hcl := (HB8.out.below hwz).toString (P := Try.prog) byT (d := 9) (by kernel_rfl)
          unfold LftRun
          go_wp2
          exact ⟨rfl, rfl, rfl, Below.refl _ _⟩
        · intro wz hwz
          refine withLeft_is rfl rfl ?_
          refine withLeft_is rfl rfl ?_
          refine withLeft_is rfl rfl ?_
          refine withLeft_nil ?_
          simp only [Act.put, List.setIfInBounds_toArray, List.set_cons_zero, List.set_cons_succ]
          refine lft_want rfl rfl rfl rfl ?_
          unfold LftRun
          go_wp2
          exact ⟨rfl, rfl, rfl, Below.refl _ _⟩
        · intro wz hwz
          refine withLeft_is rfl rfl ?_
          refine withLeft_is rfl rfl ?_
          refine withLeft_is rfl rfl ?_
          refine withLeft_nil ?_
          simp only [Act.put, List.setIfInBounds_toArray, List.set_cons_zero, List.set_cons_succ]
          refine lft_want rfl rfl rfl rfl ?_
          exact lft_pick rfl rfl rfl
        · intro wz hwz
          refine withLeft_is rfl rfl ?_
          refine withLeft_is rfl rfl ?_
          refine withLeft_nil ?_
          simp only [Act.put, List.setIfInBounds_toArray, List.set_cons_zero, List.set_cons_succ]
          refine lft_run rfl rfl ?_
          exact lft_pick rfl rfl rfl
        · intro wz hwz
          refine withLeft_is rfl rfl ?_
          refine withLeft_nil ?_
          simp only [Act.put, List.setIfInBounds_toArray, List.set_cons_zero, List.set_cons_succ]
          refine lft_run rfl rfl ?_
          exact lft_assign rfl (by first | rfl | assumption)
      intro wz hwz
      refine LeftEnd.is (LeftEnd.is (LeftEnd.is (LeftEnd.is (LeftEnd.is (LeftEnd.is (LeftEnd.is (LeftEnd.is (LeftEnd.is (LeftEnd.is (LeftEnd.is (LeftEnd.is (LeftEnd.is (LeftEnd.is (LeftEnd.is (LeftEnd.is (LeftEnd.is (LeftEnd.bytes (fun _ _ => LeftEnd.is (LeftEnd.is (LeftEnd.is (LeftEnd.is (LeftEnd.is (LeftEnd.is (LeftEnd.is (LeftEnd.nil ?_)))))))))))))))))))))))))
      simp only [Act.put, List.setIfInBounds_toArray, List.set_cons_zero, List.set_cons_succ]
      go_wp2
      go_ret
      exact ⟨rfl, HO8.out.trans (hwz.mono HO8.out.size)⟩
  · have hpn : putRt ⟨g, nx, [a, b, c, d, e]⟩ = [] := by unfold putRt; rw [if_neg hm]
    go_wp2_with fail
    refine HP.out.mono ?_
    clear HP a0 a1 a2 a3 a4 a5 a6 a7 a8 a9 a10 a11
    rintro z w3 ⟨v3, rfl, ho3, hb3⟩
    obtain ⟨p3, c3, rfl⟩ := shape_of ho3
    rw [hpn]
    dsimp only [List.length_nil]
    have HL3 := Lib.hid (HL1.out.below hb3); have HB3 := Lib.hid (HB1.out.trans (hb3.mono HB1.out.size))
    clear ho3 hb3 hpn hm HL1 HB1 HR1
    go_upto_region 8 with fail
    rcases HTE.out with E | ⟨nx', a', b', c', d', e', E, hq, hpq⟩
    · have HT : Hid (Calls Try.prog 7 #[.int .u64 9, .slice (some ⟨G3, 0, none⟩) 88 88] w3 fun z w' => z = .returned (.tuple #[.agg #[.int .u64 0, .int .i64 0, .int .i64 0, .int .u64 0, .int .i64 0, .int .u64 0, .int .i64 0, .int .u64 0, .int .i64 0, .int .u64 0, .int .i64 0, .int .u64 0], .int .i64 2]) ∧ Below w3.heap.size w3 w') := by
        have h := take_any _ l 9 w3 HL3.out (by decide)
        rw [rtAns_no E] at h
        exact h
      go_wp2_with fail
      refine HT.out.mono ?_
      rintro z w7 ⟨rfl, hb7⟩
      obtain ⟨W8, hW8⟩ : ∃ W, W = w7.alloc (.cells #[.int .u64 0, .int .i64 0, .int .i64 0, .int .u64 0, .int .i64 0, .int .u64 0, .int .i64 0, .int .u64 0, .int .i64 0, .int .u64 0, .int .i64 0, .int .u64 0] 27) := ⟨_, rfl⟩
      have hb78 : Below w7.heap.size w7 W8 := by rw [hW8]; exact (Below.refl _ _).alloc (Nat.le_refl _) _
      have hb68 := hb7.trans (hb78.mono hb7.size)
      obtain ⟨G8, hG8⟩ : ∃ g, g = w7.heap.size := ⟨_, rfl⟩
      have H8 : Hid (W8.heap[G8]? = some (.cells #[.int .u64 0, .int .i64 0, .int .i64 0, .int .u64 0, .int .i64 0, .int .u64 0, .int .i64 0, .int .u64 0, .int .i64 0, .int .u64 0, .int .i64 0, .int .u64 0] 27 (0, 0))) := by unfold Hid; rw [hW8, hG8]; exact heap_alloc_new w7 _
      have HO8 := Lib.hid (HB3.out.trans (hb68.mono HB3.out.size)); have HB8 := Lib.hid (HL3.out.below hb68)
      have HW8 := Lib.hid hW8
      have HEQ : Hid (∀ w0 : World, (binOp .eql 27 (.agg #[.int .u64 0, .int .i64 0, .int .i64 0, .int .u64 0, .int .i64 0, .int .u64 0, .int .i64 0, .int .u64 0, .int .i64 0, .int .u64 0, .int .i64 0, .int .u64 0]) (.agg #[.int .u64 0, .int .i64 0, .int .i64 0, .int .u64 0, .int .i64 0, .int .u64 0, .int .i64 0, .int .u64 0, .int .i64 0, .int .u64 0, .int .i64 0, .int .u64 0])).run Try.prog w0 = .ok (.bool true) w0) := fun w0 => by
        have h := rt_eql w0 rt0 rt0 come_rt0 come_rt0
        rw [decide_eq_true rfl] at h
        exact h
      clear hb7 hb78 hb68 hW8 HT
      go_upto_region 9 with fail
      rw [← HW8.out, ← hG8]
      clear HW8 hG8
      refine wp_region_left (by kernel_rfl)
        [.is (.int .i64 2),
         .is (.bool true),
         .is (.bool true),
         .is (.agg #[.int .u64 0, .int .i64 0, .int .i64 0, .int .u64 0, .int .i64 0, .int .u64 0, .int .i64 0, .int .u64 0, .int .i64 0, .int .u64 0, .int .i64 0, .int .u64 0]),
         .is (.agg #[.int .u64 0, .int .i64 0, .int .i64 0, .int .u64 0, .int .i64 0, .int .u64 0, .int .i64 0, .int .u64 0, .int .i64 0, .int .u64 0, .int .i64 0, .int .u64 0]),
         .is (.bool true),
         .is (.bool true),
         .is (.bool true),
         .is undef,
         .is undef,
         .is undef,
         .is undef,
         .is undef,
         .is undef,
         .is undef,
         .is undef,
         .is undef,
         .is undef,
         .is undef,
         .is undef,
         .is undef,
         .is undef,
         .is undef,
         .is (.bool true),
         .is (.bool true)]
        [[], [0], [1], [2], [2], [2, 3, 4], [2, 5], [6], [7], [7, 8], [7, 9], [10], [10, 11], [10, 12], [7, 10, 13], [7, 14], [15], [15, 16], [15, 17], [15], [15, 19], [15, 18, 20], [7, 15, 21], [7, 22], [23]] (by kernel_rfl) (by rfl) ?_ ?_
      · refine LeftOps.cons ?_ (LeftOps.cons ?_ (LeftOps.cons ?_ (LeftOps.cons ?_ (LeftOps.cons ?_ (LeftOps.cons ?_ (LeftOps.cons ?_ (LeftOps.cons ?_ (LeftOps.cons ?_ (LeftOps.cons ?_ (LeftOps.cons ?_ (LeftOps.cons ?_ (LeftOps.cons ?_ (LeftOps.cons ?_ (LeftOps.cons ?_ (LeftOps.cons ?_ (LeftOps.cons ?_ (LeftOps.cons ?_ (LeftOps.cons ?_ (LeftOps.cons ?_ (LeftOps.cons ?_ (LeftOps.cons ?_ (LeftOps.cons ?_ (LeftOps.cons ?_ (LeftOps.cons ?_ (LeftOps.nil)))))))))))))))))))))))))
        · intro wz hwz
          refine withLeft_nil ?_
          refine lft_run rfl rfl ?_
          exact lft_move rfl (by first | rfl | assumption)
        · intro wz hwz
          refine withLeft_is rfl rfl ?_
          refine withLeft_nil ?_
          simp only [Act.put, List.setIfInBounds_toArray, List.set_cons_zero, List.set_cons_succ]
          refine lft_run rfl rfl ?_
          unfold LftRun
          go_wp2
          exact ⟨rfl, rfl, rfl, Below.refl _ _⟩
        · intro wz hwz
          refine withLeft_is rfl rfl ?_
          refine withLeft_nil ?_
          simp only [Act.put, List.setIfInBounds_toArray, List.set_cons_zero, List.set_cons_succ]
          refine lft_run rfl rfl ?_
          exact lft_move rfl (by first | rfl | assumption)
        · intro wz hwz
          refine withLeft_is rfl rfl ?_
          refine withLeft_nil ?_
          simp only [Act.put, List.setIfInBounds_toArray, List.set_cons_zero, List.set_cons_succ]
          refine lft_want rfl rfl rfl rfl ?_
          unfold LftRun
          have hgz := (hwz.block G8 (Array.getElem?_eq_some_iff.1 H8.out).1).trans H8.out
          have d0 := cells_of hgz 0
          have d1 := cells_of hgz 1
          have d2 := cells_of hgz 2
          have d3 := cells_of hgz 3
          have d4 := cells_of hgz 4
          have d5 := cells_of hgz 5
          have d6 := cells_of hgz 6
          have d7 := cells_of hgz 7
          have d8 := cells_of hgz 8
          have d9 := cells_of hgz 9
          have d10 := cells_of hgz 10
          have d11 := cells_of hgz 11
          simp only [List.getElem?_toArray, List.getElem?_cons_zero, List.getElem?_cons_succ] at d0 d1 d2 d3 d4 d5 d6 d7 d8 d9 d10 d11
          clear hgz
          go_wp2
          exact ⟨rfl, rfl, rfl, Below.refl _ _⟩
        · intro wz hwz
          refine withLeft_is rfl rfl ?_
          refine withLeft_nil ?_
          simp only [Act.put, List.setIfInBounds_toArray, List.set_cons_zero, List.set_cons_succ]
          refine lft_want rfl rfl rfl rfl ?_
          unfold LftRun
          go_wp2
          exact ⟨rfl, rfl, rfl, Below.refl _ _⟩
        · intro wz hwz
          refine withLeft_is rfl rfl ?_
          refine withLeft_is rfl rfl ?_
          refine withLeft_is rfl rfl ?_
          refine withLeft_nil ?_
          simp only [Act.put, List.setIfInBounds_toArray, List.set_cons_zero, List.set_cons_succ]
          refine lft_want rfl rfl rfl rfl ?_
          unfold LftRun
          have heq := HEQ.out
          go_wp2
          exact ⟨rfl, rfl, rfl, Below.refl _ _⟩
        · intro wz hwz
          refine withLeft_is rfl rfl ?_
          refine withLeft_is rfl rfl ?_
          refine withLeft_nil ?_
          simp only [Act.put, List.setIfInBounds_toArray, List.set_cons_zero, List.set_cons_succ]
          refine lft_run rfl rfl ?_
          exact lft_pick rfl rfl rfl
        · intro wz hwz
          refine withLeft_is rfl rfl ?_
          refine withLeft_nil ?_
          simp only [Act.put, List.setIfInBounds_toArray, List.set_cons_zero, List.set_cons_succ]
          refine lft_run rfl rfl ?_
          exact lft_move rfl (by first | rfl | assumption)
        · intro wz hwz
          refine withLeft_is rfl rfl ?_
          refine withLeft_nil ?_
          simp only [Act.put, List.setIfInBounds_toArray, List.set_cons_zero, List.set_cons_succ]
          exact lft_skip rfl rfl rfl rfl (by first | (simp; done) | (intro hun; cases hun; done) | (intro hun; unfold undef at hun; cases hun)) rfl rfl
        · intro wz hwz
          refine withLeft_is rfl rfl ?_
          refine withLeft_is rfl rfl ?_
          refine withLeft_nil ?_
          simp only [Act.put, List.setIfInBounds_toArray, List.set_cons_zero, List.set_cons_succ]
          exact lft_skip rfl rfl rfl rfl (by first | (simp; done) | (intro hun; cases hun; done) | (intro hun; unfold undef at hun; cases hun)) rfl rfl
        · intro wz hwz
          refine withLeft_is rfl rfl ?_
          refine withLeft_is rfl rfl ?_
          refine withLeft_nil ?_
          simp only [Act.put, List.setIfInBounds_toArray, List.set_cons_zero, List.set_cons_succ]
          exact lft_skip rfl rfl rfl rfl (by first | (simp; done) | (intro hun; cases hun; done) | (intro hun; unfold undef at hun; cases hun)) rfl rfl
        · intro wz hwz
          refine withLeft_is rfl rfl ?_
          refine withLeft_nil ?_
          simp only [Act.put, List.setIfInBounds_toArray, List.set_cons_zero, List.set_cons_succ]
          exact lft_skip rfl rfl rfl rfl (by first | (simp; done) | (intro hun; cases hun; done) | (intro hun; unfold undef at hun; cases hun)) rfl rfl
        · intro wz hwz
          refine withLeft_is rfl rfl ?_
          refine withLeft_is rfl rfl ?_
          refine withLeft_nil ?_
          simp only [Act.put, List.setIfInBounds_toArray, List.set_cons_zero, List.set_cons_succ]
          exact lft_skip rfl rfl rfl rfl (by first | (simp; done) | (intro hun; cases hun; done) | (intro hun; unfold undef at hun; cases hun)) rfl rfl
        · intro wz hwz
          refine withLeft_is rfl rfl ?_
          refine withLeft_is rfl rfl ?_
          refine withLeft_nil ?_
          simp only [Act.put, List.setIfInBounds_toArray, List.set_cons_zero, List.set_cons_succ]
          exact lft_skip rfl rfl rfl rfl (by first | (simp; done) | (intro hun; cases hun; done) | (intro hun; unfold undef at hun; cases hun)) rfl rfl
        · intro wz hwz
          refine withLeft_is rfl rfl ?_
          refine withLeft_is rfl rfl ?_
          refine withLeft_is rfl rfl ?_
          refine withLeft_nil ?_
          simp only [Act.put, List.setIfInBounds_toArray, List.set_cons_zero, List.set_cons_succ]
          exact lft_skip rfl rfl rfl rfl (by first | (simp; done) | (intro hun; cases hun; done) | (intro hun; unfold undef at hun; cases hun)) rfl rfl
        · intro wz hwz
          refine withLeft_is rfl rfl ?_
          refine withLeft_is rfl rfl ?_
          refine withLeft_nil ?_
          simp only [Act.put, List.setIfInBounds_toArray, List.set_cons_zero, List.set_cons_succ]
          exact lft_skip rfl rfl rfl rfl (by first | (simp; done) | (intro hun; cases hun; done) | (intro hun; unfold undef at hun; cases hun)) rfl rfl
        · intro wz hwz
          refine withLeft_is rfl rfl ?_
          refine withLeft_nil ?_
          simp only [Act.put, List.setIfInBounds_toArray, List.set_cons_zero, List.set_cons_succ]
          exact lft_skip rfl rfl rfl rfl (by first | (simp; done) | (intro hun; cases hun; done) | (intro hun; unfold undef at hun; cases hun)) rfl rfl
        · intro wz hwz
          refine withLeft_is rfl rfl ?_
          refine withLeft_is rfl rfl ?_
          refine withLeft_nil ?_
          simp only [Act.put, List.setIfInBounds_toArray, List.set_cons_zero, List.set_cons_succ]
          exact lft_skip rfl rfl rfl rfl (by first | (simp; done) | (intro hun; cases hun; done) | (intro hun; unfold undef at hun; cases hun)) rfl rfl
        · intro wz hwz
          refine withLeft_is rfl rfl ?_
          refine withLeft_is rfl rfl ?_
          refine withLeft_nil ?_
          simp only [Act.put, List.setIfInBounds_toArray, List.set_cons_zero, List.set_cons_succ]
          exact lft_skip rfl rfl rfl rfl (by first | (simp; done) | (intro hun; cases hun; done) | (intro hun; unfold undef at hun; cases hun)) rfl rfl
        · intro wz hwz
          refine withLeft_is rfl rfl ?_
          refine withLeft_nil ?_
          simp only [Act.put, List.setIfInBounds_toArray, List.set_cons_zero, List.set_cons_succ]
          exact lft_skip rfl rfl rfl rfl (by first | (simp; done) | (intro hun; cases hun; done) | (intro hun; unfold undef at hun; cases hun)) rfl rfl
        · intro wz hwz
          refine withLeft_is rfl rfl ?_
          refine withLeft_is rfl rfl ?_
          refine withLeft_nil ?_
          simp only [Act.put, List.setIfInBounds_toArray, List.set_cons_zero, List.set_cons_succ]
          exact lft_skip rfl rfl rfl rfl (by first | (simp; done) | (intro hun; cases hun; done) | (intro hun; unfold undef at hun; cases hun)) rfl rfl
        · intro wz hwz
          refine withLeft_is rfl rfl ?_
          refine withLeft_is rfl rfl ?_
          refine withLeft_is rfl rfl ?_
          refine withLeft_nil ?_
          simp only [Act.put, List.setIfInBounds_toArray, List.set_cons_zero, List.set_cons_succ]
          exact lft_skip rfl rfl rfl rfl (by first | (simp; done) | (intro hun; cases hun; done) | (intro hun; unfold undef at hun; cases hun)) rfl rfl
        · intro wz hwz
          refine withLeft_is rfl rfl ?_
          refine withLeft_is rfl rfl ?_
          refine withLeft_is rfl rfl ?_
          refine withLeft_nil ?_
          simp only [Act.put, List.setIfInBounds_toArray, List.set_cons_zero, List.set_cons_succ]
          exact lft_skip rfl rfl rfl rfl (by first | (simp; done) | (intro hun; cases hun; done) | (intro hun; unfold undef at hun; cases hun)) rfl rfl
        · intro wz hwz
          refine withLeft_is rfl rfl ?_
          refine withLeft_is rfl rfl ?_
          refine withLeft_nil ?_
          simp only [Act.put, List.setIfInBounds_toArray, List.set_cons_zero, List.set_cons_succ]
          refine lft_run rfl rfl ?_
          exact lft_pick rfl rfl rfl
        · intro wz hwz
          refine withLeft_is rfl rfl ?_
          refine withLeft_nil ?_
          simp only [Act.put, List.setIfInBounds_toArray, List.set_cons_zero, List.set_cons_succ]
          refine lft_run rfl rfl ?_
          exact lft_assign rfl (by first | rfl | assumption)
      intro wz hwz
      refine LeftEnd.is (LeftEnd.is (LeftEnd.is (LeftEnd.is (LeftEnd.is (LeftEnd.is (LeftEnd.is (LeftEnd.is (LeftEnd.is (LeftEnd.is (LeftEnd.is (LeftEnd.is (LeftEnd.is (LeftEnd.is (LeftEnd.is (LeftEnd.is (LeftEnd.is (LeftEnd.is (LeftEnd.is (LeftEnd.is (LeftEnd.is (LeftEnd.is (LeftEnd.is (LeftEnd.is (LeftEnd.is (LeftEnd.nil ?_)))))))))))))))))))))))))
      simp only [Act.put, List.setIfInBounds_toArray, List.set_cons_zero, List.set_cons_succ]
      go_wp2
      go_ret
      exact ⟨rfl, HO8.out.trans (hwz.mono HO8.out.size)⟩
    · have HQ := Lib.hid hq; have HPQ := Lib.hid hpq
      clear hq hpq
      have HT : Hid (Calls Try.prog 7 #[.int .u64 9, .slice (some ⟨G3, 0, none⟩) 88 88] w3 fun z w' => z = .returned (.tuple #[.agg #[.int .u64 9, .int .i64 nx', .int .i64 a'.off, .int .u64 (a'.ct : Nat), .int .i64 b'.off, .int .u64 (b'.ct : Nat), .int .i64 c'.off, .int .u64 (c'.ct : Nat), .int .i64 d'.off, .int .u64 (d'.ct : Nat), .int .i64 e'.off, .int .u64 (e'.ct : Nat)], .int .i64 0]) ∧ Below w3.heap.size w3 w') := by
        have h := take_any _ l 9 w3 HL3.out (by decide)
        rw [rtAns_yes E] at h
        exact h
      go_wp2_with fail
      refine HT.out.mono ?_
      rintro z w7 ⟨rfl, hb7⟩
      obtain ⟨W8, hW8⟩ : ∃ W, W = w7.alloc (.cells #[.int .u64 9, .int .i64 nx', .int .i64 a'.off, .int .u64 (a'.ct : Nat), .int .i64 b'.off, .int .u64 (b'.ct : Nat), .int .i64 c'.off, .int .u64 (c'.ct : Nat), .int .i64 d'.off, .int .u64 (d'.ct : Nat), .int .i64 e'.off, .int .u64 (e'.ct : Nat)] 27) := ⟨_, rfl⟩
      have hb78 : Below w7.heap.size w7 W8 := by rw [hW8]; exact (Below.refl _ _).alloc (Nat.le_refl _) _
      have hb68 := hb7.trans (hb78.mono hb7.size)
      obtain ⟨G8, hG8⟩ : ∃ g, g = w7.heap.size := ⟨_, rfl⟩
      have H8 : Hid (W8.heap[G8]? = some (.cells #[.int .u64 9, .int .i64 nx', .int .i64 a'.off, .int .u64 (a'.ct : Nat), .int .i64 b'.off, .int .u64 (b'.ct : Nat), .int .i64 c'.off, .int .u64 (c'.ct : Nat), .int .i64 d'.off, .int .u64 (d'.ct : Nat), .int .i64 e'.off, .int .u64 (e'.ct : Nat)] 27 (0, 0))) := by unfold Hid; rw [hW8, hG8]; exact heap_alloc_new w7 _
      have HO8 := Lib.hid (HB3.out.trans (hb68.mono HB3.out.size)); have HB8 := Lib.hid (HL3.out.below hb68)
      have HW8 := Lib.hid hW8
      clear hb7 hb78 hb68 hW8 HT
      go_upto_region 9 with fail
      rw [← HW8.out, ← hG8]
      clear HW8 hG8
      refine wp_region_left (by kernel_rfl)
        [.is (.int .i64 0),
         .is (.bool false),
         .is (.bool false),
         .is undef,
         .is undef,
         .is undef,
         .is (.bool false),
         .is (.bool false),
         .is (.int .i64 0),
         .is (.bool true),
         .is (.bool true),
         .is (.pointer (some ⟨G8, 0, none⟩)),
         .is (.int .u64 9),
         .is (.bool true),
         .is (.bool true),
         .is (.bool true),
         .is (.agg #[.int .u64 9, .int .i64 nx', .int .i64 a'.off, .int .u64 (a'.ct : Nat), .int .i64 b'.off, .int .u64 (b'.ct : Nat), .int .i64 c'.off, .int .u64 (c'.ct : Nat), .int .i64 d'.off, .int .u64 (d'.ct : Nat), .int .i64 e'.off, .int .u64 (e'.ct : Nat)]),
         .bytes l,
         .is (.string (strOf l)),
         .is (.slice (some ⟨G3, 0, none⟩) 88 88),
         .is (.string (strOf l)),
         .is (.bool true),
         .is (.bool true),
         .is (.bool true),
         .is (.bool true)]
        [[], [0], [1], [2], [2], [2, 3, 4], [2, 5], [6], [7], [7, 8], [7, 9], [10], [10, 11], [10, 12], [7, 10, 13], [7, 14], [15], [15, 16], [15, 17], [15], [15, 19], [15, 18, 20], [7, 15, 21], [7, 22], [23]] (by kernel_rfl) (by rfl) ?_ ?_
      · refine LeftOps.cons ?_ (LeftOps.cons ?_ (LeftOps.cons ?_ (LeftOps.cons ?_ (LeftOps.cons ?_ (LeftOps.cons ?_ (LeftOps.cons ?_ (LeftOps.cons ?_ (LeftOps.cons ?_ (LeftOps.cons ?_ (LeftOps.cons ?_ (LeftOps.cons ?_ (LeftOps.cons ?_ (LeftOps.cons ?_ (LeftOps.cons ?_ (LeftOps.cons ?_ (LeftOps.cons ?_ (LeftOps.cons ?_ (LeftOps.cons ?_ (LeftOps.cons ?_ (LeftOps.cons ?_ (LeftOps.cons ?_ (LeftOps.cons ?_ (LeftOps.cons ?_ (LeftOps.cons ?_ (LeftOps.nil)))))))))))))))))))))))))
        · intro wz hwz
          refine withLeft_nil ?_
          refine lft_run rfl rfl ?_
          exact lft_move rfl (by first | rfl | assumption)
        · intro wz hwz
          refine withLeft_is rfl rfl ?_
          refine withLeft_nil ?_
          simp only [Act.put, List.setIfInBounds_toArray, List.set_cons_zero, List.set_cons_succ]
          refine lft_run rfl rfl ?_
          unfold LftRun
          go_wp2
          exact ⟨rfl, rfl, rfl, Below.refl _ _⟩
        · intro wz hwz
          refine withLeft_is rfl rfl ?_
          refine withLeft_nil ?_
          simp only [Act.put, List.setIfInBounds_toArray, List.set_cons_zero, List.set_cons_succ]
          refine lft_run rfl rfl ?_
          exact lft_move rfl (by first | rfl | assumption)
        · intro wz hwz
          refine withLeft_is rfl rfl ?_
          refine withLeft_nil ?_
          simp only [Act.put, List.setIfInBounds_toArray, List.set_cons_zero, List.set_cons_succ]
          exact lft_skip rfl rfl rfl rfl (by first | (simp; done) | (intro hun; cases hun; done) | (intro hun; unfold undef at hun; cases hun)) rfl rfl
        · intro wz hwz
          refine withLeft_is rfl rfl ?_
          refine withLeft_nil ?_
          simp only [Act.put, List.setIfInBounds_toArray, List.set_cons_zero, List.set_cons_succ]
          exact lft_skip rfl rfl rfl rfl (by first | (simp; done) | (intro hun; cases hun; done) | (intro hun; unfold undef at hun; cases hun)) rfl rfl
        · intro wz hwz
          refine withLeft_is rfl rfl ?_
          refine withLeft_is rfl rfl ?_
          refine withLeft_is rfl rfl ?_
          refine withLeft_nil ?_
          simp only [Act.put, List.setIfInBounds_toArray, List.set_cons_zero, List.set_cons_succ]
          exact lft_skip rfl rfl rfl rfl (by first | (simp; done) | (intro hun; cases hun; done) | (intro hun; unfold undef at hun; cases hun)) rfl rfl
        · intro wz hwz
          refine withLeft_is rfl rfl ?_
          refine withLeft_is rfl rfl ?_
          refine withLeft_nil ?_
          simp only [Act.put, List.setIfInBounds_toArray, List.set_cons_zero, List.set_cons_succ]
          refine lft_run rfl rfl ?_
          exact lft_pick rfl rfl rfl
        · intro wz hwz
          refine withLeft_is rfl rfl ?_
          refine withLeft_nil ?_
          simp only [Act.put, List.setIfInBounds_toArray, List.set_cons_zero, List.set_cons_succ]
          refine lft_run rfl rfl ?_
          exact lft_move rfl (by first | rfl | assumption)
        · intro wz hwz
          refine withLeft_is rfl rfl ?_
          refine withLeft_nil ?_
          simp only [Act.put, List.setIfInBounds_toArray, List.set_cons_zero, List.set_cons_succ]
          refine lft_want rfl rfl rfl rfl ?_
          exact lft_move rfl (by first | rfl | assumption)
        · intro wz hwz
          refine withLeft_is rfl rfl ?_
          refine withLeft_is rfl rfl ?_
          refine withLeft_nil ?_
          simp only [Act.put, List.setIfInBounds_toArray, List.set_cons_zero, List.set_cons_succ]
          refine lft_want rfl rfl rfl rfl ?_
          unfold LftRun
          go_wp2
          exact ⟨rfl, rfl, rfl, Below.refl _ _⟩
        · intro wz hwz
          refine withLeft_is rfl rfl ?_
          refine withLeft_is rfl rfl ?_
          refine withLeft_nil ?_
          simp only [Act.put, List.setIfInBounds_toArray, List.set_cons_zero, List.set_cons_succ]
          refine lft_want rfl rfl rfl rfl ?_
          exact lft_move rfl (by first | rfl | assumption)
        · intro wz hwz
          refine withLeft_is rfl rfl ?_
          refine withLeft_nil ?_
          simp only [Act.put, List.setIfInBounds_toArray, List.set_cons_zero, List.set_cons_succ]
          refine lft_want rfl rfl rfl rfl ?_
          unfold LftRun
          go_wp2
          exact ⟨rfl, rfl, rfl, Below.refl _ _⟩
        · intro wz hwz
          refine withLeft_is rfl rfl ?_
          refine withLeft_is rfl rfl ?_
          refine withLeft_nil ?_
          simp only [Act.put, List.setIfInBounds_toArray, List.set_cons_zero, List.set_cons_succ]
          refine lft_want rfl rfl rfl rfl ?_
          unfold LftRun
          have hgz := (hwz.block G8 (Array.getElem?_eq_some_iff.1 H8.out).1).trans H8.out
          have d0 := cells_of hgz 0
          have d1 := cells_of hgz 1
          have d2 := cells_of hgz 2
          have d3 := cells_of hgz 3
          have d4 := cells_of hgz 4
          have d5 := cells_of hgz 5
          have d6 := cells_of hgz 6
          have d7 := cells_of hgz 7
          have d8 := cells_of hgz 8
          have d9 := cells_of hgz 9
          have d10 := cells_of hgz 10
          have d11 := cells_of hgz 11
          simp only [List.getElem?_toArray, List.getElem?_cons_zero, List.getElem?_cons_succ] at d0 d1 d2 d3 d4 d5 d6 d7 d8 d9 d10 d11
          clear hgz
          go_wp2
          exact ⟨rfl, rfl, rfl, Below.refl _ _⟩
        · intro wz hwz
          refine withLeft_is rfl rfl ?_
          refine withLeft_is rfl rfl ?_
          refine withLeft_nil ?_
          simp only [Act.put, List.setIfInBounds_toArray, List.set_cons_zero, List.set_cons_succ]
          refine lft_want rfl rfl rfl rfl ?_
          unfold LftRun
          go_wp2
          exact ⟨rfl, rfl, rfl, Below.refl _ _⟩
        · intro wz hwz
          refine withLeft_is rfl rfl ?_
          refine withLeft_is rfl rfl ?_
          refine withLeft_is rfl rfl ?_
          refine withLeft_nil ?_
          simp only [Act.put, List.setIfInBounds_toArray, List.set_cons_zero, List.set_cons_succ]
          refine lft_want rfl rfl rfl rfl ?_
          exact lft_pick rfl rfl rfl
        · intro wz hwz
          refine withLeft_is rfl rfl ?_
          refine withLeft_is rfl rfl ?_
          refine withLeft_nil ?_
          simp only [Act.put, List.setIfInBounds_toArray, List.set_cons_zero, List.set_cons_succ]
          refine lft_want rfl rfl rfl rfl ?_
          exact lft_move rfl (by first | rfl | assumption)
        · intro wz hwz
          refine withLeft_is rfl rfl ?_
          refine withLeft_nil ?_
          simp only [Act.put, List.setIfInBounds_toArray, List.set_cons_zero, List.set_cons_succ]
          refine lft_want rfl rfl rfl rfl ?_
          unfold LftRun
          have hgz := (hwz.block G8 (Array.getElem?_eq_some_iff.1 H8.out).1).trans H8.out
          have d0 := cells_of hgz 0
          have d1 := cells_of hgz 1
          have d2 := cells_of hgz 2
          have d3 := cells_of hgz 3
          have d4 := cells_of hgz 4
          have d5 := cells_of hgz 5
          have d6 := cells_of hgz 6
          have d7 := cells_of hgz 7
          have d8 := cells_of hgz 8
          have d9 := cells_of hgz 9
          have d10 := cells_of hgz 10
          have d11 := cells_of hgz 11
          simp only [List.getElem?_toArray, List.getElem?_cons_zero, List.getElem?_cons_succ] at d0 d1 d2 d3 d4 d5 d6 d7 d8 d9 d10 d11
          clear hgz
          go_wp2
          exact ⟨rfl, rfl, rfl, Below.refl _ _⟩
        · intro wz hwz
          refine withLeft_is rfl rfl ?_
          refine withLeft_is rfl rfl ?_
          refine withLeft_nil ?_
          simp only [Act.put, List.setIfInBounds_toArray, List.set_cons_zero, List.set_cons_succ]
          refine lft_want rfl rfl rfl rfl ?_
          unfold LftRun
          have hcl : Calls _ _ #[.agg #[.int .u64 9, .int .i64 nx', .int .i64 a'.off, .int .u64 (a'.ct : Nat), .int .i64 b'.off, .int .u64 (b'.ct : Nat), .int .i64 c'.off, .int .u64 (c'.ct : Nat), .int .i64 d'.off, .int .u64 (d'.ct : Nat), .int .i64 e'.off, .int .u64 (e'.ct : Nat)]] wz (Rows wz (putRt ⟨9, nx', [a', b', c', d', e']⟩)) := put_any wz ⟨9, nx', [a', b', c', d', e']⟩ HQ.out
          rw [HPQ.out] at hcl
          go_wp2_with fail
          refine hcl.mono ?_
          rintro e wq ⟨vq, rfl, hoq, hbq⟩
          have hyq := Bytes.of_owns hoq HSM.out HPL.out
          clear hoq hcl
          go_wp2
          exact ⟨rfl, hyq, rfl, hbq⟩
        · intro wz hwz
          refine withLeft_is rfl rfl ?_
          refine withLeft_bytes rfl rfl ?_
          intro vv hvv
          obtain ⟨pv, cv, rfl, _⟩ := hvv.any
          have hcvv := hvv.toString (P := Try.prog) byT (d := 9) (by kernel_rfl)
          refine withLeft_nil ?_
          simp only [Act.put, List.setIfInBounds_toArray, List.set_cons_zero, List.set_cons_succ]
          refine lft_want rfl rfl rfl rfl ?_
          unfold LftRun
          go_wp2
          exact ⟨rfl, rfl, rfl, Below.refl _ _⟩
        · intro wz hwz
          refine withLeft_is rfl rfl ?_
          refine withLeft_nil ?_
          simp only [Act.put, List.setIfInBounds_toArray, List.set_cons_zero, List.set_cons_succ]
          refine lft_want rfl rfl rfl rfl ?_
          unfold LftRun
          go_wp2
          exact ⟨rfl, rfl, rfl, Below.refl _ _⟩
        · intro wz hwz
          refine withLeft_is rfl rfl ?_
          refine withLeft_is rfl rfl ?_
          refine withLeft_nil ?_
          simp only [Act.put, List.setIfInBounds_toArray, List.set_cons_zero, List.set_cons_succ]
          refine lft_want rfl rfl rfl rfl ?_
          have hcl := (HB8.out.below hwz).toString (P := Try.prog) byT (d := 9) (by kernel_rfl)
          unfold LftRun
          go_wp2
          exact ⟨rfl, rfl, rfl, Below.refl _ _⟩
        · intro wz hwz
          refine withLeft_is rfl rfl ?_
          refine withLeft_is rfl rfl ?_
          refine withLeft_is rfl rfl ?_
          refine withLeft_nil ?_
          simp only [Act.put, List.setIfInBounds_toArray, List.set_cons_zero, List.set_cons_succ]
          refine lft_want rfl rfl rfl rfl ?_
          unfold LftRun
          go_wp2
          exact ⟨rfl, rfl, rfl, Below.refl _ _⟩
        · intro wz hwz
          refine withLeft_is rfl rfl ?_
          refine withLeft_is rfl rfl ?_
          refine withLeft_is rfl rfl ?_
          refine withLeft_nil ?_
          simp only [Act.put, List.setIfInBounds_toArray, List.set_cons_zero, List.set_cons_succ]
          refine lft_want rfl rfl rfl rfl ?_
          exact lft_pick rfl rfl rfl
        · intro wz hwz
          refine withLeft_is rfl rfl ?_
          refine withLeft_is rfl rfl ?_
          refine withLeft_nil ?_
          simp only [Act.put, List.setIfInBounds_toArray, List.set_cons_zero, List.set_cons_succ]
          refine lft_run rfl rfl ?_
          exact lft_pick rfl rfl rfl
        · intro wz hwz
          refine withLeft_is rfl rfl ?_
          refine withLeft_nil ?_
          simp only [Act.put, List.setIfInBounds_toArray, List.set_cons_zero, List.set_cons_succ]
          refine lft_run rfl rfl ?_
          exact lft_assign rfl (by first | rfl | assumption)
      intro wz hwz
      refine LeftEnd.is (LeftEnd.is (LeftEnd.is (LeftEnd.is (LeftEnd.is (LeftEnd.is (LeftEnd.is (LeftEnd.is (LeftEnd.is (LeftEnd.is (LeftEnd.is (LeftEnd.is (LeftEnd.is (LeftEnd.is (LeftEnd.is (LeftEnd.is (LeftEnd.is (LeftEnd.bytes (fun _ _ => LeftEnd.is (LeftEnd.is (LeftEnd.is (LeftEnd.is (LeftEnd.is (LeftEnd.is (LeftEnd.is (LeftEnd.nil ?_)))))))))))))))))))))))))
      simp only [Act.put, List.setIfInBounds_toArray, List.set_cons_zero, List.set_cons_succ]
      go_wp2
      go_ret
      exact ⟨rfl, HO8.out.trans (hwz.mono HO8.out.size)⟩
set_option maxRecDepth 1000000 in
theorem root_parts : ∃ f0 f1 f2 : Field, Try.prog.underlying 27 = some (.struct #[f0, f1, f2]) ∧ (f0.offset = 0 ∧ f1.offset = 1 ∧ f2.offset = 2) ∧ (f0.type = 22 ∧ f1.type = 2 ∧ f2.type = 25) :=
  ⟨_, _, _, rfl, ⟨rfl, rfl, rfl⟩, ⟨rfl, rfl, rfl⟩⟩
set_option maxRecDepth 1000000 in
theorem ref_parts : ∃ f0 f1 : Field, Try.prog.underlying 24 = some (.struct #[f0, f1]) ∧ (f0.offset = 0 ∧ f1.offset = 1) ∧ (f0.type = 2 ∧ f1.type = 22) :=
  ⟨_, _, rfl, ⟨rfl, rfl⟩, ⟨rfl, rfl⟩⟩

set_option maxRecDepth 100000 in
theorem rootBack_lifted (os : Os) (started : os.Started) (H : Type) (enc : TypeId × Value → H) :
    ReturnsInHanded {} Try.checked os 4 .any (Rows.rootBackSpec.pre6 enc Try.prog Try.f4 Rows.rootBackRow.domain false) (Rows.rootBackSpec.post enc Try.prog Try.f4 false true false false) := by
  refine returnsInHanded_of_change (C := Try.checked) own_none started (by kernel_rfl) Try.func4
    (ChangeSpec.witness6 (enc := enc) (C := Try.checked) false ⟨#[], #[.agg #[.int .u64 0, .int .i64 0, .int .i64 0, .int .u64 0, .int .i64 0, .int .u64 0, .int .i64 0, .int .u64 0, .int .i64 0, .int .u64 0, .int .i64 0, .int .u64 0], .agg #[.int .u8 0, .int .u8 0, .int .u8 0, .int .u8 0, .int .u8 0, .int .u8 0, .int .u8 0, .int .u8 0, .int .u8 0, .int .u8 0, .int .u8 0, .int .u8 0, .int .u8 0, .int .u8 0, .int .u8 0, .int .u8 0, .int .u8 0, .int .u8 0, .int .u8 0, .int .u8 0, .int .u8 0, .int .u8 0, .int .u8 0, .int .u8 0, .int .u8 0, .int .u8 0, .int .u8 0, .int .u8 0, .int .u8 0, .int .u8 0, .int .u8 0, .int .u8 0, .int .u8 0, .int .u8 0, .int .u8 0, .int .u8 0, .int .u8 0, .int .u8 0, .int .u8 0, .int .u8 0, .int .u8 0, .int .u8 0, .int .u8 0, .int .u8 0, .int .u8 0, .int .u8 0, .int .u8 0, .int .u8 0, .int .u8 0, .int .u8 0, .int .u8 0, .int .u8 0, .int .u8 0, .int .u8 0, .int .u8 0, .int .u8 0, .int .u8 0, .int .u8 0, .int .u8 0, .int .u8 0, .int .u8 0, .int .u8 0, .int .u8 0, .int .u8 0, .int .u8 0, .int .u8 0, .int .u8 0, .int .u8 0, .int .u8 0, .int .u8 0, .int .u8 0, .int .u8 0, .int .u8 0, .int .u8 0, .int .u8 0, .int .u8 0, .int .u8 0, .int .u8 0, .int .u8 0, .int .u8 0, .int .u8 0, .int .u8 0, .int .u8 0, .int .u8 0, .int .u8 0, .int .u8 0, .int .u8 0, .int .u8 0]], []⟩ 8 (by kernel_rfl) (by kernel_rfl) (by kernel_rfl) (by kernel_rfl)) ?_
  intro W base args ds gs before hval0 hW hcnd _
  have hval : ∀ (j : Nat) t v, Try.f4.params[j]? = some t → args[j]? = some v → Value.okWide Try.prog W .any base t v := hval0
  have hW' := hW
  obtain ⟨p, q, hA0, hV, rfl, hfz, hnd⟩ := hW
  have hA : DataW.TrodAll enc Try.prog W 0 (fun _ => true) true Try.f4.params.toList args.toList ds p := hA0
  have hp : Try.f4.params = #[27, 35] := by kernel_rfl
  rw [hp] at hA hval
  obtain ⟨v0, vs0, d0, ds0, p0, q0, ha0, rfl, rfl, h0, hA⟩ := trodAll_cons hA
  obtain ⟨v1, vs1, d1, ds1, p1, q1, rfl, rfl, rfl, h1, hA⟩ := trodAll_cons hA
  obtain ⟨rfl, rfl, rfl⟩ := trodAll_nil hA
  obtain rfl : args = #[v0, v1] := by cases args; simp_all
  obtain ⟨rfl, rfl⟩ := trodVars_none hV
  obtain ⟨_, _, _, hu0, ho0, hf0⟩ := root_parts
  obtain ⟨_, _, hu1, ho1, hf1⟩ := ref_parts
  obtain ⟨r, rfl, hr⟩ := open_root (P := Try.prog) hu0 (by kernel_rfl) ho0 hf0 ⟨by kernel_rfl, by kernel_rfl, by kernel_rfl, by kernel_rfl, by kernel_rfl⟩ (by kernel_rfl) (by kernel_rfl) (by kernel_rfl) hu1 (by kernel_rfl) ho1 hf1 (by kernel_rfl) (by kernel_rfl) (hval 0 27 v0 rfl rfl) h0
  have hu2 : Try.prog.underlying 35 = some (.array 88 5) := by kernel_rfl
  obtain ⟨l, rfl, h88, hl⟩ := open_arr (P := Try.prog) hu2 (by kernel_rfl) (by kernel_rfl) (by kernel_rfl) (hval 1 35 v1 rfl rfl) h1
  refine (rootBack_any r l hr h88 hl).mono fun e W' ⟨he, hb⟩ => ?_
  subst he
  exact ⟨_, rfl, law_post (tb := 4) laidOut (by rw [hp]; intro t ht; simp at ht; rcases ht with rfl | rfl <;> exact ⟨by kernel_rfl, by decide +kernel⟩) rfl rfl (by kernel_rfl) (by kernel_rfl) hW' hb⟩

theorem rootBack_holds : Rows.RootBackSaid :=
  OpenClaim.holds_of_wide 4 Try.f4 rfl rfl rfl rfl rfl rfl rfl ⟨rfl, rfl, rfl, rfl, rfl⟩ rfl rfl rfl rfl rfl (by kernel_rfl) Try.func4 (by kernel_rfl)
    (of_decide_eq_true (by kernel_rfl)) (by unfold Func.isWrapper; rw [if_neg (by decide +kernel)]; exact ⟨rfl, rfl⟩)
    (fun os started H enc _ => rootBack_lifted os started H enc)
end Go.Proofs.Ytkhpblclpcgjnaa

