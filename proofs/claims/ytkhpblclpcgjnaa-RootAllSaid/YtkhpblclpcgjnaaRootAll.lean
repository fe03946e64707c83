/- The law RootAll: whatever the root, the number and the bytes, every call of it returns true, and all that was there before the call is as it was. No condition. -/
import Derived.Test.YtkhpblclpcgjnaaRows
import Derived.Test.YtkhpblclpcgjnaaRtE
import Derived.Test.YtkhpblclpcgjnaaLaw
import Derived.Test.YtkhpblclpcgjnaaReg
import Derived.Deep.Cut
import Derived.ChangeMaps5
namespace Go.By
open Go Go.RowKit
theorem putRt_max {r : Rt} (h : RtCome r) : (putRt r).length ≤ maxLen := by
  unfold putRt
  split
  · rw [rootOf_length, h.five]; decide
  · decide
theorem rtAns_come {gen : Nat} {l : List Nat} (hl : ∀ c ∈ l, c < 256) (hg : gen < 18446744073709551616) : ∃ (q : Rt) (c : Int), RtCome q ∧ rtAns gen l = .tuple #[.agg (rtCells q).toArray, .int .i64 c] := by
  cases h : takeRt gen l with
  | none => exact ⟨rt0, 2, come_rt0, rtAns_no h⟩
  | some r =>
    refine ⟨r, 0, ?_, rtAns_yes h⟩
    unfold takeRt at h
    split at h
    · cases h; exact rdRt_come hl hg
    · cases h
end Go.By
namespace Go.Proofs.Ytkhpblclpcgjnaa
open Go Go.ChangeShapes Go.WideShapes Go.ChangeAt Go.RowKit Go.By Go.Deep

set_option maxRecDepth 100000 in
set_option maxHeartbeats 4000000 in
theorem rootAll_any {w : World} (r : Rt) (gen : Nat) (v : Value) (l : List Nat) (hr : RtCome r) (hg : gen < 18446744073709551616) (hv : Bytes w v l) :
    Calls Try.prog 3 #[.agg (rtCells r).toArray, .int .u64 gen, v] w fun z w' => z = .returned (.bool true) ∧ Below w.heap.size w w' := by
  obtain ⟨p, cap, rfl, _⟩ := hv.any
  obtain ⟨a, b, c, d, e, ht⟩ := five_of hr.five
  obtain ⟨g, nx, ts⟩ := r
  dsimp only at ht
  subst ht
  obtain ⟨q, x, hq, hans⟩ := rtAns_come (gen := gen) hv.small hg
  obtain ⟨a', b', c', d', e', ht⟩ := five_of hq.five
  obtain ⟨g', nx', ts⟩ := q
  dsimp only at ht
  subst ht
  have hans2 : rtAns gen l = .tuple #[.agg #[.int .u64 (g' : Nat), .int .i64 nx', .int .i64 a'.off, .int .u64 (a'.ct : Nat), .int .i64 b'.off, .int .u64 (b'.ct : Nat), .int .i64 c'.off, .int .u64 (c'.ct : Nat), .int .i64 d'.off, .int .u64 (d'.ct : Nat), .int .i64 e'.off, .int .u64 (e'.ct : Nat)], .int .i64 x] := hans
  clear hans
  have HR := Lib.hid hr; have HQ := Lib.hid hq; have HPL := Lib.hid (putRt_max hr)
  obtain ⟨G, hG⟩ : ∃ G, G = w.heap.size := ⟨_, rfl⟩
  obtain ⟨W, hW⟩ : ∃ W, W = w.alloc (.cells #[.int .u64 (g : Nat), .int .i64 nx, .int .i64 a.off, .int .u64 (a.ct : Nat), .int .i64 b.off, .int .u64 (b.ct : Nat), .int .i64 c.off, .int .u64 (c.ct : Nat), .int .i64 d.off, .int .u64 (d.ct : Nat), .int .i64 e.off, .int .u64 (e.ct : Nat)] 27) := ⟨_, rfl⟩
  have h1 : W.heap[G]? = some (.cells #[.int .u64 (g : Nat), .int .i64 nx, .int .i64 a.off, .int .u64 (a.ct : Nat), .int .i64 b.off, .int .u64 (b.ct : Nat), .int .i64 c.off, .int .u64 (c.ct : Nat), .int .i64 d.off, .int .u64 (d.ct : Nat), .int .i64 e.off, .int .u64 (e.ct : Nat)] 27 (0, 0)) := by rw [hW, hG]; exact heap_alloc_new w _
  have hb : Below w.heap.size w W := by rw [hW]; exact (Below.refl _ _).alloc (Nat.le_refl _) _
  have HW := Lib.hid hW; have HB := Lib.hid hb; have H1 := Lib.hid h1; have HV := Lib.hid (hv.below hb)
  obtain ⟨LN, hLN⟩ : ∃ n, n = l.length := ⟨_, rfl⟩
  have HANS := Lib.hid hans2
  have HG := Lib.hid hg
  rw [← hLN] at HV ⊢
  clear hr hq hW hb h1 hv hans2 hLN hg
  change Calls _ _ #[.agg #[.int .u64 (g : Nat), .int .i64 nx, .int .i64 a.off, .int .u64 (a.ct : Nat), .int .i64 b.off, .int .u64 (b.ct : Nat), .int .i64 c.off, .int .u64 (c.ct : Nat), .int .i64 d.off, .int .u64 (d.ct : Nat), .int .i64 e.off, .int .u64 (e.ct : Nat)], _, _] _ _
  go_enter Try.func3, Try.ntmps3
  go_upto_region 1 with fail
  rw [← HW.out, ← hG]
  clear HW hG
  go_wp2_with fail
  refine (begun_any W).mono ?_
  rintro z w1 ⟨rfl, hb1⟩
  have HV1 := Lib.hid (HV.out.below hb1); have HB1 := Lib.hid (HB.out.trans (hb1.mono HB.out.size))
  have HR1 := Lib.hid ((hb1.block G (Array.getElem?_eq_some_iff.1 H1.out).1).trans H1.out)
  clear hb1 HV HB H1
  by_cases h100 : 100 < (LN : Int)
  · go_wp2
    go_ret
    exact ⟨rfl, HB1.out⟩
  · have HT := Lib.hid (take_any _ l gen w1 HV1.out HG.out)
    rw [HANS.out] at HT
    go_wp2_with fail
    refine HT.out.mono ?_
    rintro z w2 ⟨rfl, hb2⟩
    obtain ⟨W3, hW3⟩ : ∃ W, W = w2.alloc (.cells #[.int .u64 (g' : Nat), .int .i64 nx', .int .i64 a'.off, .int .u64 (a'.ct : Nat), .int .i64 b'.off, .int .u64 (b'.ct : Nat), .int .i64 c'.off, .int .u64 (c'.ct : Nat), .int .i64 d'.off, .int .u64 (d'.ct : Nat), .int .i64 e'.off, .int .u64 (e'.ct : Nat)] 27) := ⟨_, rfl⟩
    have hb23 : Below w2.heap.size w2 W3 := by rw [hW3]; exact (Below.refl _ _).alloc (Nat.le_refl _) _
    have hb13 := hb2.trans (hb23.mono hb2.size)
    obtain ⟨G7, hG7⟩ : ∃ g, g = w2.heap.size := ⟨_, rfl⟩
    have H7 : Hid (W3.heap[G7]? = some (.cells #[.int .u64 (g' : Nat), .int .i64 nx', .int .i64 a'.off, .int .u64 (a'.ct : Nat), .int .i64 b'.off, .int .u64 (b'.ct : Nat), .int .i64 c'.off, .int .u64 (c'.ct : Nat), .int .i64 d'.off, .int .u64 (d'.ct : Nat), .int .i64 e'.off, .int .u64 (e'.ct : Nat)] 27 (0, 0))) := by unfold Hid; rw [hW3, hG7]; exact heap_alloc_new w2 _
    have HV3 := Lib.hid (HV1.out.below hb13); have HB3 := Lib.hid (HB1.out.trans (hb13.mono HB1.out.size))
    have HR3 := Lib.hid ((hb13.block G (Array.getElem?_eq_some_iff.1 HR1.out).1).trans HR1.out)
    have HW3 := Lib.hid hW3
    clear hb2 hb23 hb13 hW3 HT HV1 HB1 HR1
    have HT := Lib.hid (refTakeRoot_any _ l gen W3 HV3.out HG.out)
    rw [HANS.out] at HT
    go_upto_region 6 with fail
    rw [← HW3.out, ← hG7]
    clear HW3 hG7
    go_wp2_with fail
    refine HT.out.mono ?_
    rintro z w4 ⟨rfl, hb4⟩
    obtain ⟨W5, hW5⟩ : ∃ W, W = w4.alloc (.cells #[.int .u64 (g' : Nat), .int .i64 nx', .int .i64 a'.off, .int .u64 (a'.ct : Nat), .int .i64 b'.off, .int .u64 (b'.ct : Nat), .int .i64 c'.off, .int .u64 (c'.ct : Nat), .int .i64 d'.off, .int .u64 (d'.ct : Nat), .int .i64 e'.off, .int .u64 (e'.ct : Nat)] 27) := ⟨_, rfl⟩
    have hb45 : Below w4.heap.size w4 W5 := by rw [hW5]; exact (Below.refl _ _).alloc (Nat.le_refl _) _
    have hb35 := hb4.trans (hb45.mono hb4.size)
    obtain ⟨G9, hG9⟩ : ∃ g, g = w4.heap.size := ⟨_, rfl⟩
    have H9 : Hid (W5.heap[G9]? = some (.cells #[.int .u64 (g' : Nat), .int .i64 nx', .int .i64 a'.off, .int .u64 (a'.ct : Nat), .int .i64 b'.off, .int .u64 (b'.ct : Nat), .int .i64 c'.off, .int .u64 (c'.ct : Nat), .int .i64 d'.off, .int .u64 (d'.ct : Nat), .int .i64 e'.off, .int .u64 (e'.ct : Nat)] 27 (0, 0))) := by unfold Hid; rw [hW5, hG9]; exact heap_alloc_new w4 _
    have HB5 := Lib.hid (HB3.out.trans (hb35.mono HB3.out.size))
    have HR4 := Lib.hid ((hb35.block G (Array.getElem?_eq_some_iff.1 HR3.out).1).trans HR3.out)
    have H74 := Lib.hid ((hb35.block G7 (Array.getElem?_eq_some_iff.1 H7.out).1).trans H7.out)
    have HW5 := Lib.hid hW5
    have HEQ : Hid (∀ w0 : World, (binOp .eql 27 (.agg #[.int .u64 (g' : Nat), .int .i64 nx', .int .i64 a'.off, .int .u64 (a'.ct : Nat), .int .i64 b'.off, .int .u64 (b'.ct : Nat), .int .i64 c'.off, .int .u64 (c'.ct : Nat), .int .i64 d'.off, .int .u64 (d'.ct : Nat), .int .i64 e'.off, .int .u64 (e'.ct : Nat)]) (.agg #[.int .u64 (g' : Nat), .int .i64 nx', .int .i64 a'.off, .int .u64 (a'.ct : Nat), .int .i64 b'.off, .int .u64 (b'.ct : Nat), .int .i64 c'.off, .int .u64 (c'.ct : Nat), .int .i64 d'.off, .int .u64 (d'.ct : Nat), .int .i64 e'.off, .int .u64 (e'.ct : Nat)])).run Try.prog w0 = .ok (.bool true) w0) := fun w0 => by
      have h := rt_eql w0 ⟨g', nx', [a', b', c', d', e']⟩ ⟨g', nx', [a', b', c', d', e']⟩ HQ.out HQ.out
      rw [decide_eq_true rfl] at h
      exact h
    clear hb4 hb45 hb35 hW5 HT HV3 HB3 HR3 H7 HANS
    go_upto_region 7 with fail
    rw [← HW5.out, ← hG9]
    clear HW5 hG9
    refine wp_region_left (by kernel_rfl)
      [.is (.agg #[.int .u64 (g : Nat), .int .i64 nx, .int .i64 a.off, .int .u64 (a.ct : Nat), .int .i64 b.off, .int .u64 (b.ct : Nat), .int .i64 c.off, .int .u64 (c.ct : Nat), .int .i64 d.off, .int .u64 (d.ct : Nat), .int .i64 e.off, .int .u64 (e.ct : Nat)]),
       .bytes (putRt ⟨g, nx, [a, b, c, d, e]⟩),
       .is (.string (strOf (putRt ⟨g, nx, [a, b, c, d, e]⟩))),
       .is (.agg #[.int .u64 (g : Nat), .int .i64 nx, .int .i64 a.off, .int .u64 (a.ct : Nat), .int .i64 b.off, .int .u64 (b.ct : Nat), .int .i64 c.off, .int .u64 (c.ct : Nat), .int .i64 d.off, .int .u64 (d.ct : Nat), .int .i64 e.off, .int .u64 (e.ct : Nat)]),
       .bytes (putRt ⟨g, nx, [a, b, c, d, e]⟩),
       .is (.string (strOf (putRt ⟨g, nx, [a, b, c, d, e]⟩))),
       .is (.bool true),
       .is (.bool true),
       .is (.agg #[.int .u64 (g' : Nat), .int .i64 nx', .int .i64 a'.off, .int .u64 (a'.ct : Nat), .int .i64 b'.off, .int .u64 (b'.ct : Nat), .int .i64 c'.off, .int .u64 (c'.ct : Nat), .int .i64 d'.off, .int .u64 (d'.ct : Nat), .int .i64 e'.off, .int .u64 (e'.ct : Nat)]),
       .is (.agg #[.int .u64 (g' : Nat), .int .i64 nx', .int .i64 a'.off, .int .u64 (a'.ct : Nat), .int .i64 b'.off, .int .u64 (b'.ct : Nat), .int .i64 c'.off, .int .u64 (c'.ct : Nat), .int .i64 d'.off, .int .u64 (d'.ct : Nat), .int .i64 e'.off, .int .u64 (e'.ct : Nat)]),
       .is (.bool true),
       .is (.bool true),
       .is (.bool true),
       .is (.int .i64 x),
       .is (.int .i64 x),
       .is (.bool true),
       .is (.bool true),
       .is (.bool true)]
      [[], [0], [1], [], [3], [4], [2, 5], [6], [7], [7], [7, 8, 9], [7, 10], [11], [12], [12], [12, 13, 14], [12, 15], [16]] (by kernel_rfl) (by rfl) ?_ ?_
    · refine LeftOps.cons ?_ (LeftOps.cons ?_ (LeftOps.cons ?_ (LeftOps.cons ?_ (LeftOps.cons ?_ (LeftOps.cons ?_ (LeftOps.cons ?_ (LeftOps.cons ?_ (LeftOps.cons ?_ (LeftOps.cons ?_ (LeftOps.cons ?_ (LeftOps.cons ?_ (LeftOps.cons ?_ (LeftOps.cons ?_ (LeftOps.cons ?_ (LeftOps.cons ?_ (LeftOps.cons ?_ (LeftOps.cons ?_ (LeftOps.nil))))))))))))))))))
      · intro wz hwz
        refine withLeft_nil ?_
        refine lft_run rfl rfl ?_
        unfold LftRun
        have hgz := (hwz.block G (Array.getElem?_eq_some_iff.1 HR4.out).1).trans HR4.out
        have d0 := cells_of hgz 0
        have d1 := cells_of hgz 1
        have d2 := cells_of hgz 2
        have d3 := cells_of hgz 3
        have d4 := cells_of hgz 4
        have d5 := cells_of hgz 5
        have d6 := cells_of hgz 6
        have d7 := cells_of hgz 7
        have d8 := cells_of hgz 8
        have d9 := cells_of hgz 9
        have d10 := cells_of hgz 10
        have d11 := cells_of hgz 11
        simp only [List.getElem?_toArray, List.getElem?_cons_zero, List.getElem?_cons_succ] at d0 d1 d2 d3 d4 d5 d6 d7 d8 d9 d10 d11
        clear hgz
        go_wp2
        exact ⟨rfl, rfl, rfl, Below.refl _ _⟩
      · intro wz hwz
        refine withLeft_is rfl rfl ?_
        refine withLeft_nil ?_
        simp only [Act.put, List.setIfInBounds_toArray, List.set_cons_zero, List.set_cons_succ]
        refine lft_run rfl rfl ?_
        unfold LftRun
        have hcl : Calls _ _ #[.agg #[.int .u64 (g : Nat), .int .i64 nx, .int .i64 a.off, .int .u64 (a.ct : Nat), .int .i64 b.off, .int .u64 (b.ct : Nat), .int .i64 c.off, .int .u64 (c.ct : Nat), .int .i64 d.off, .int .u64 (d.ct : Nat), .int .i64 e.off, .int .u64 (e.ct : Nat)]] wz (Rows wz (putRt ⟨g, nx, [a, b, c, d, e]⟩)) := put_any wz ⟨g, nx, [a, b, c, d, e]⟩ HR.out
        go_wp2_with fail
        refine hcl.mono ?_
        rintro e wq ⟨vq, rfl, hoq, hbq⟩
        have hyq := Bytes.of_owns hoq (putRt_small _) HPL.out
        clear hoq hcl
        go_wp2
        exact ⟨rfl, hyq, rfl, hbq⟩
      · intro wz hwz
        refine withLeft_bytes rfl rfl ?_
        intro vv hvv
        obtain ⟨pv, cv, rfl, _⟩ := hvv.any
        have hcvv := hvv.toString (P := Try.prog) byT (d := 9) (by kernel_rfl)
        refine withLeft_nil ?_
        simp only [Act.put, List.setIfInBounds_toArray, List.set_cons_zero, List.set_cons_succ]
        refine lft_run rfl rfl ?_
        unfold LftRun
        go_wp2
        exact ⟨rfl, rfl, rfl, Below.refl _ _⟩
      · intro wz hwz
        refine withLeft_nil ?_
        refine lft_run rfl rfl ?_
        unfold LftRun
        have hgz := (hwz.block G (Array.getElem?_eq_some_iff.1 HR4.out).1).trans HR4.out
        have d0 := cells_of hgz 0
        have d1 := cells_of hgz 1
        have d2 := cells_of hgz 2
        have d3 := cells_of hgz 3
        have d4 := cells_of hgz 4
        have d5 := cells_of hgz 5
        have d6 := cells_of hgz 6
        have d7 := cells_of hgz 7
        have d8 := cells_of hgz 8
        have d9 := cells_of hgz 9
        have d10 := cells_of hgz 10
        have d11 := cells_of hgz 11
        simp only [List.getElem?_toArray, List.getElem?_cons_zero, List.getElem?_cons_succ] at d0 d1 d2 d3 d4 d5 d6 d7 d8 d9 d10 d11
        clear hgz
        go_wp2
        exact ⟨rfl, rfl, rfl, Below.refl _ _⟩
      · intro wz hwz
        refine withLeft_is rfl rfl ?_
        refine withLeft_nil ?_
        simp only [Act.put, List.setIfInBounds_toArray, List.set_cons_zero, List.set_cons_succ]
        refine lft_run rfl rfl ?_
        unfold LftRun
        have hcl : Calls _ _ #[.agg #[.int .u64 (g : Nat), .int .i64 nx, .int .i64 a.off, .int .u64 (a.ct : Nat), .int .i64 b.off, .int .u64 (b.ct : Nat), .int .i64 c.off, .int .u64 (c.ct : Nat), .int .i64 d.off, .int .u64 (d.ct : Nat), .int .i64 e.off, .int .u64 (e.ct : Nat)]] wz (Rows wz (putRt ⟨g, nx, [a, b, c, d, e]⟩)) := refPutRoot_any wz ⟨g, nx, [a, b, c, d, e]⟩ HR.out
        go_wp2_with fail
        refine hcl.mono ?_
        rintro e wq ⟨vq, rfl, hoq, hbq⟩
        have hyq := Bytes.of_owns hoq (putRt_small _) HPL.out
        clear hoq hcl
        go_wp2
        exact ⟨rfl, hyq, rfl, hbq⟩
      · intro wz hwz
        refine withLeft_bytes rfl rfl ?_
        intro vv hvv
        obtain ⟨pv, cv, rfl, _⟩ := hvv.any
        have hcvv := hvv.toString (P := Try.prog) byT (d := 9) (by kernel_rfl)
        refine withLeft_nil ?_
        simp only [Act.put, List.setIfInBounds_toArray, List.set_cons_zero, List.set_cons_succ]
        refine lft_run rfl rfl ?_
        unfold LftRun
        go_wp2
        exact ⟨rfl, rfl, rfl, Below.refl _ _⟩
      · intro wz hwz
        refine withLeft_is rfl rfl ?_
        refine withLeft_is rfl rfl ?_
        refine withLeft_nil ?_
        simp only [Act.put, List.setIfInBounds_toArray, List.set_cons_zero, List.set_cons_succ]
        refine lft_run rfl rfl ?_
        unfold LftRun
        go_wp2
        exact ⟨rfl, rfl, rfl, Below.refl _ _⟩
      · intro wz hwz
        refine withLeft_is rfl rfl ?_
        refine withLeft_nil ?_
        simp only [Act.put, List.setIfInBounds_toArray, List.set_cons_zero, List.set_cons_succ]
        refine lft_run rfl rfl ?_
        exact lft_move rfl (by first | rfl | assumption)
      · intro wz hwz
        refine withLeft_is rfl rfl ?_
        refine withLeft_nil ?_
        simp only [Act.put, List.setIfInBounds_toArray, List.set_cons_zero, List.set_cons_succ]
        refine lft_want rfl rfl rfl rfl ?_
        unfold LftRun
        have hgz := (hwz.block G7 (Array.getElem?_eq_some_iff.1 H74.out).1).trans H74.out
        have d0 := cells_of hgz 0
        have d1 := cells_of hgz 1
        have d2 := cells_of hgz 2
        have d3 := cells_of hgz 3
        have d4 := cells_of hgz 4
        have d5 := cells_of hgz 5
        have d6 := cells_of hgz 6
        have d7 := cells_of hgz 7
        have d8 := cells_of hgz 8
        have d9 := cells_of hgz 9
        have d10 := cells_of hgz 10
        have d11 := cells_of hgz 11
        simp only [List.getElem?_toArray, List.getElem?_cons_zero, List.getElem?_cons_succ] at d0 d1 d2 d3 d4 d5 d6 d7 d8 d9 d10 d11
        clear hgz
        go_wp2
        exact ⟨rfl, rfl, rfl, Below.refl _ _⟩
      · intro wz hwz
        refine withLeft_is rfl rfl ?_
        refine withLeft_nil ?_
        simp only [Act.put, List.setIfInBounds_toArray, List.set_cons_zero, List.set_cons_succ]
        refine lft_want rfl rfl rfl rfl ?_
        unfold LftRun
        have hgz := (hwz.block G9 (Array.getElem?_eq_some_iff.1 H9.out).1).trans H9.out
        have d0 := cells_of hgz 0
        have d1 := cells_of hgz 1
        have d2 := cells_of hgz 2
        have d3 := cells_of hgz 3
        have d4 := cells_of hgz 4
        have d5 := cells_of hgz 5
        have d6 := cells_of hgz 6
        have d7 := cells_of hgz 7
        have d8 := cells_of hgz 8
        have d9 := cells_of hgz 9
        have d10 := cells_of hgz 10
        have d11 := cells_of hgz 11
        simp only [List.getElem?_toArray, List.getElem?_cons_zero, List.getElem?_cons_succ] at d0 d1 d2 d3 d4 d5 d6 d7 d8 d9 d10 d11
        clear hgz
        go_wp2
        exact ⟨rfl, rfl, rfl, Below.refl _ _⟩
      · intro wz hwz
        refine withLeft_is rfl rfl ?_
        refine withLeft_is rfl rfl ?_
        refine withLeft_is rfl rfl ?_
        refine withLeft_nil ?_
        simp only [Act.put, List.setIfInBounds_toArray, List.set_cons_zero, List.set_cons_succ]
        refine lft_want rfl rfl rfl rfl ?_
        unfold LftRun
        have heq := HEQ.out
        go_wp2
        exact ⟨rfl, rfl, rfl, Below.refl _ _⟩
      · intro wz hwz
        refine withLeft_is rfl rfl ?_
        refine withLeft_is rfl rfl ?_
        refine withLeft_nil ?_
        simp only [Act.put, List.setIfInBounds_toArray, List.set_cons_zero, List.set_cons_succ]
        refine lft_run rfl rfl ?_
        exact lft_pick rfl rfl rfl
      · intro wz hwz
        refine withLeft_is rfl rfl ?_
        refine withLeft_nil ?_
        simp only [Act.put, List.setIfInBounds_toArray, List.set_cons_zero, List.set_cons_succ]
        refine lft_run rfl rfl ?_
        exact lft_move rfl (by first | rfl | assumption)
      · intro wz hwz
        refine withLeft_is rfl rfl ?_
        refine withLeft_nil ?_
        simp only [Act.put, List.setIfInBounds_toArray, List.set_cons_zero, List.set_cons_succ]
        refine lft_want rfl rfl rfl rfl ?_
        exact lft_move rfl (by first | rfl | assumption)
      · intro wz hwz
        refine withLeft_is rfl rfl ?_
        refine withLeft_nil ?_
        simp only [Act.put, List.setIfInBounds_toArray, List.set_cons_zero, List.set_cons_succ]
        refine lft_want rfl rfl rfl rfl ?_
        exact lft_move rfl (by first | rfl | assumption)
      · intro wz hwz
        refine withLeft_is rfl rfl ?_
        refine withLeft_is rfl rfl ?_
        refine withLeft_is rfl rfl ?_
        refine withLeft_nil ?_
        simp only [Act.put, List.setIfInBounds_toArray, List.set_cons_zero, List.set_cons_succ]
        refine lft_want rfl rfl rfl rfl ?_
        unfold LftRun
        go_wp2
        exact ⟨rfl, rfl, rfl, Below.refl _ _⟩
      · intro wz hwz
        refine withLeft_is rfl rfl ?_
        refine withLeft_is rfl rfl ?_
        refine withLeft_nil ?_
        simp only [Act.put, List.setIfInBounds_toArray, List.set_cons_zero, List.set_cons_succ]
        refine lft_run rfl rfl ?_
        exact lft_pick rfl rfl rfl
      · intro wz hwz
        refine withLeft_is rfl rfl ?_
        refine withLeft_nil ?_
        simp only [Act.put, List.setIfInBounds_toArray, List.set_cons_zero, List.set_cons_succ]
        refine lft_run rfl rfl ?_
        exact lft_assign rfl (by first | rfl | assumption)
    intro wz hwz
    refine LeftEnd.is (LeftEnd.bytes (fun _ _ => LeftEnd.is (LeftEnd.is (LeftEnd.bytes (fun _ _ => LeftEnd.is (LeftEnd.is (LeftEnd.is (LeftEnd.is (LeftEnd.is (LeftEnd.is (LeftEnd.is (LeftEnd.is (LeftEnd.is (LeftEnd.is (LeftEnd.is (LeftEnd.is (LeftEnd.is (LeftEnd.nil ?_))))))))))))))))))
    simp only [Act.put, List.setIfInBounds_toArray, List.set_cons_zero, List.set_cons_succ]
    go_wp2
    go_ret
    exact ⟨rfl, HB5.out.trans (hwz.mono HB5.out.size)⟩
set_option maxRecDepth 1000000 in
theorem root_parts : ∃ f0 f1 f2 : Field, Try.prog.underlying 27 = some (.struct #[f0, f1, f2]) ∧ (f0.offset = 0 ∧ f1.offset = 1 ∧ f2.offset = 2) ∧ (f0.type = 22 ∧ f1.type = 2 ∧ f2.type = 25) :=
  ⟨_, _, _, rfl, ⟨rfl, rfl, rfl⟩, ⟨rfl, rfl, rfl⟩⟩
set_option maxRecDepth 1000000 in
theorem ref_parts : ∃ f0 f1 : Field, Try.prog.underlying 24 = some (.struct #[f0, f1]) ∧ (f0.offset = 0 ∧ f1.offset = 1) ∧ (f0.type = 2 ∧ f1.type = 22) :=
  ⟨_, _, rfl, ⟨rfl, rfl⟩, ⟨rfl, rfl⟩⟩

set_option maxRecDepth 100000 in
theorem rootAll_lifted (os : Os) (started : os.Started) (H : Type) (enc : TypeId × Value → H) :
    ReturnsInHanded {} Try.checked os 3 .any (Rows.rootAllSpec.pre6 enc Try.prog Try.f3 Rows.rootAllRow.domain false) (Rows.rootAllSpec.post enc Try.prog Try.f3 false true false false) := by
  refine returnsInHanded_of_change (C := Try.checked) own_none started (by kernel_rfl) Try.func3
    (ChangeSpec.witness6 (enc := enc) (C := Try.checked) false ⟨#[], #[.agg #[.int .u64 0, .int .i64 0, .int .i64 0, .int .u64 0, .int .i64 0, .int .u64 0, .int .i64 0, .int .u64 0, .int .i64 0, .int .u64 0, .int .i64 0, .int .u64 0], .int .u64 0, .slice none 0 0], []⟩ 8 (by kernel_rfl) (by kernel_rfl) (by kernel_rfl) (by kernel_rfl)) ?_
  intro W base args ds gs before hval0 hW hcnd _
  have hval : ∀ (j : Nat) t v, Try.f3.params[j]? = some t → args[j]? = some v → Value.okWide Try.prog W .any base t v := hval0
  have hW' := hW
  obtain ⟨p, q, hA0, hV, rfl, hfz, hnd⟩ := hW
  have hA : DataW.TrodAll enc Try.prog W 0 (fun _ => true) true Try.f3.params.toList args.toList ds p := hA0
  have hp : Try.f3.params = #[27, 22, 28] := by kernel_rfl
  rw [hp] at hA hval
  obtain ⟨v0, vs0, d0, ds0, p0, q0, ha0, rfl, rfl, h0, hA⟩ := trodAll_cons hA
  obtain ⟨v1, vs1, d1, ds1, p1, q1, rfl, rfl, rfl, h1, hA⟩ := trodAll_cons hA
  obtain ⟨v2, vs2, d2, ds2, p2, q2, rfl, rfl, rfl, h2, hA⟩ := trodAll_cons hA
  obtain ⟨rfl, rfl, rfl⟩ := trodAll_nil hA
  obtain rfl : args = #[v0, v1, v2] := by cases args; simp_all
  obtain ⟨rfl, rfl⟩ := trodVars_none hV
  obtain ⟨_, _, _, hu0, ho0, hf0⟩ := root_parts
  obtain ⟨_, _, hu1, ho1, hf1⟩ := ref_parts
  obtain ⟨r, rfl, hr⟩ := open_root (P := Try.prog) hu0 (by kernel_rfl) ho0 hf0 ⟨by kernel_rfl, by kernel_rfl, by kernel_rfl, by kernel_rfl, by kernel_rfl⟩ (by kernel_rfl) (by kernel_rfl) (by kernel_rfl) hu1 (by kernel_rfl) ho1 hf1 (by kernel_rfl) (by kernel_rfl) (hval 0 27 v0 rfl rfl) h0
  obtain ⟨gen, rfl, _, _, wg⟩ := open_int (P := Try.prog) (t := 22) (k := .u64) (by kernel_rfl) (hval 1 22 v1 rfl rfl) h1
  obtain ⟨l, hl⟩ := open_bytes byT (by kernel_rfl) (hval 2 28 v2 rfl rfl) h2
  obtain ⟨gn, rfl, hg⟩ := u64_top wg
  refine (rootAll_any r gn v2 l hr hg hl).mono fun e W' ⟨he, hb⟩ => ?_
  subst he
  exact ⟨_, rfl, law_post (tb := 4) laidOut (by rw [hp]; intro t ht; simp at ht; rcases ht with rfl | rfl | rfl <;> exact ⟨by kernel_rfl, by decide +kernel⟩) rfl rfl (by kernel_rfl) (by kernel_rfl) hW' hb⟩

theorem rootAll_holds : Rows.RootAllSaid :=
  OpenClaim.holds_of_wide 3 Try.f3 rfl rfl rfl rfl rfl rfl rfl ⟨rfl, rfl, rfl, rfl, rfl⟩ rfl rfl rfl rfl rfl (by kernel_rfl) Try.func3 (by kernel_rfl)
    (of_decide_eq_true (by kernel_rfl)) (by unfold Func.isWrapper; rw [if_neg (by decide +kernel)]; exact ⟨rfl, rfl⟩)
    (fun os started H enc _ => rootAll_lifted os started H enc)
end Go.Proofs.Ytkhpblclpcgjnaa

