/- Roots in a program: Put and Take as the laws meet them. -/
import Derived.Test.YtkhpblclpcgjnaaRtJ
import Derived.Test.YtkhpblclpcgjnaaRtL
namespace Go.Proofs.Ytkhpblclpcgjnaa
open Go Go.RowKit Go.By

theorem take_ret {tmps : Array Value} {w : World} {A : Nat} {cs : Array Value} {x : Value} (hp : tmps.getD 4 undef = .pointer (some ⟨A, 0, none⟩)) (hx : tmps.getD 5 undef = x) (hg : w.heap[A]? = some (.cells cs 27 (0, 0))) (hc : cs.size = 12) :
    (results Try.f7 tmps).run Try.prog w = .ok (.tuple #[.agg cs, x]) w := by
  have hi : (Try.prog.info? 27).map (·.size) = some cs.size := by rw [hc]; kernel_rfl
  have hq : (Try.prog.underlying 27).map (fun d => match d with | .struct _ | .array _ _ => true | _ => false) = some true := by kernel_rfl
  obtain ⟨d, hu, hd⟩ := Option.map_eq_some_iff.1 hq
  rw [results_cell_tmp (p := 4) (u := 5) (ty := 27) (by kernel_rfl), hp, hx]
  have := run_loadVar_row (P := Try.prog) w A 27 27 cs (0, 0) d hg hu (by cases d <;> simp_all) hi
  simp [asAddr, this, Result.andThen]

set_option maxRecDepth 100000 in
set_option maxHeartbeats 2000000 in
theorem take_any (v : Value) (l : List Nat) (gen : Nat) (w : World) (hv : Bytes w v l) (hg : gen < 18446744073709551616) :
    Calls Try.prog 7 #[.int .u64 gen, v] w fun z w' => z = .returned (rtAns gen l) ∧ Below w.heap.size w w' := by
  obtain ⟨p, cap, rfl, _⟩ := hv.any
  obtain ⟨w1, hw1⟩ : ∃ W, W = w.alloc (.cells #[.int .u64 0, .int .i64 0, .int .i64 0, .int .u64 0, .int .i64 0, .int .u64 0, .int .i64 0, .int .u64 0, .int .i64 0, .int .u64 0, .int .i64 0, .int .u64 0] 27) := ⟨_, rfl⟩
  have hz1 : w1.heap.size = w.heap.size + 1 := by rw [hw1]; simp
  have ha1 : w1.heap[w.heap.size]? = some (.cells (rtCells rt0).toArray 27 (0, 0)) := by rw [hw1]; exact heap_alloc_new w _
  have hb1 : Below w.heap.size w w1 := by rw [hw1]; exact (Below.refl _ _).alloc (Nat.le_refl _) _
  obtain ⟨A, hA⟩ : ∃ A, A = w.heap.size := ⟨_, rfl⟩
  have HW1 := Lib.hid hw1; have HA1 := Lib.hid ha1; have HB1 := Lib.hid hb1; have HAA := Lib.hid hA; have HZ1 := Lib.hid hz1
  by_cases h88 : l.length = 88
  · have hne : ((l.length : Int) != 88) = false := by rw [h88]; rfl
    have HV := Lib.hid hv; have H88 := Lib.hid h88
    obtain ⟨w2, hw2⟩ : ∃ W, W = w1.alloc (.cells #[.int .u64 (gen : Nat), .int .i64 0, .int .i64 0, .int .u64 0, .int .i64 0, .int .u64 0, .int .i64 0, .int .u64 0, .int .i64 0, .int .u64 0, .int .i64 0, .int .u64 0] 38) := ⟨_, rfl⟩
    rw [h88] at hne ⊢
    have hb2 : Below w1.heap.size w1 w2 := by rw [hw2]; exact (Below.refl _ _).alloc (Nat.le_refl _) _
    have hr2 : RootIs w1.heap.size ⟨gen, 0, nul5 0⟩ w2 := by unfold RootIs; rw [hw2]; exact heap_alloc_new w1 _
    obtain ⟨W3, hW3⟩ : ∃ W, W = w2.alloc (.cells #[.func (.func 12) #[] #[], .func (.func 13) #[] #[]] 41) := ⟨_, rfl⟩
    have hz2 : w2.heap.size = w1.heap.size + 1 := by rw [hw2]; simp
    have hb3 : Below w2.heap.size w2 W3 := by rw [hW3]; exact (Below.refl _ _).alloc (Nat.le_refl _) _
    have hr3 : RootIs w1.heap.size ⟨gen, 0, nul5 0⟩ W3 := (hb3.block w1.heap.size (by omega)).trans hr2
    have ht3 : W3.heap[w2.heap.size]? = some (.cells #[.func (.func 12) #[] #[], .func (.func 13) #[] #[]] 41 (0, 0)) := by rw [hW3]; exact heap_alloc_new w2 _
    have hw3 : Below w.heap.size w W3 := (hb1.trans (hb2.mono hb1.size)).trans (hb3.mono (by have := hb1.size; have := hb2.size; omega))
    have HT := Lib.hid (root_taken w w1.heap.size l h88 gen w2.heap.size (.slice p l.length cap) W3 hv hw3 hb1.size hr3 ht3 (by omega))
    have hRA : Hid (w.heap.size ≠ w1.heap.size) := by unfold Hid; omega
    have HA3 : Hid (W3.heap[w.heap.size]? = some (.cells (rtCells rt0).toArray 27 (0, 0))) := (hb3.block w.heap.size (by omega)).trans ((hb2.block w.heap.size (by omega)).trans ha1)
    have HW2 := Lib.hid hw2; have HW3 := Lib.hid hW3; have HB3 := Lib.hid hw3; have HZ2 := Lib.hid hz2
    rw [h88] at HT
    have HYES : Hid (mayRt (rdRt gen l) = true → rtAns gen l = .tuple #[.agg (rtCells (rdRt gen l)).toArray, .int .i64 0]) := fun hm => rtAns_yes (by unfold takeRt; rw [if_pos ⟨h88, hm⟩])
    have HNO : Hid (mayRt (rdRt gen l) = false → rtAns gen l = .tuple #[.agg (rtCells rt0).toArray, .int .i64 2]) := fun hm => rtAns_no (by unfold takeRt; rw [if_neg (fun h => by rw [hm] at h; cases h.2)])
    have HFIVE : Hid ((rdRt gen l).ts.length = 5) := rdRefs_length _ _
    have HLE : Hid (w.heap.size ≤ w1.heap.size) := hb1.size
    generalize rtAns gen l = ANS at *
    obtain ⟨r, hr⟩ : ∃ r, r = rdRt gen l := ⟨_, rfl⟩
    rw [← hr] at HT HYES HNO HFIVE
    clear hw1 hz1 ha1 hb1 hv h88 hA hb2 hr2 hz2 hb3 hr3 ht3 hw3 hw2 hW3 hr
    go_enter Try.func7, Try.ntmps7
    go_upto_region 1 with fail
    rw [← HW1.out]
    go_upto_region 4 with fail
    rw [← HW2.out]
    go_wp2_with fail
    rw [← HW3.out]
    refine HT.out.mono ?_
    rintro e w4 ⟨⟨v4, rfl⟩, hon4, hr4⟩
    have ha4 : w4.heap[w.heap.size]? = some (.cells (rtCells rt0).toArray 27 (0, 0)) := hon4.keeps HA3.out hRA.out
    have HB4 : Hid (Below w.heap.size w w4) := hon4.below HB3.out HLE.out
    have HM := Lib.hid (may_root r HFIVE.out w4)
    clear HT hon4
    obtain ⟨g, nx, ts⟩ := r
    obtain ⟨a, b, c, d, e, ht⟩ := five_of HFIVE.out
    dsimp only at ht
    subst ht
    unfold RootIs at hr4
    have HR4 := Lib.hid hr4; have HA4 := Lib.hid ha4
    have b0 := cells_of hr4 0
    have b1 := cells_of hr4 1
    have b2 := cells_of hr4 2
    have b3 := cells_of hr4 3
    have b4 := cells_of hr4 4
    have b5 := cells_of hr4 5
    have b6 := cells_of hr4 6
    have b7 := cells_of hr4 7
    have b8 := cells_of hr4 8
    have b9 := cells_of hr4 9
    have b10 := cells_of hr4 10
    have b11 := cells_of hr4 11
    simp only [rtCells, rfCells, List.flatMap_cons, List.flatMap_nil, List.cons_append, List.nil_append, List.append_nil, List.getElem?_toArray, List.getElem?_cons_zero, List.getElem?_cons_succ] at HM HR4 HYES b0 b1 b2 b3 b4 b5 b6 b7 b8 b9 b10 b11
    generalize hq : mayRt ⟨g, nx, [a, b, c, d, e]⟩ = q at *
    have hrl : w1.heap.size < w4.heap.size := (Array.getElem?_eq_some_iff.1 hr4).1
    have HAL : Hid (w.heap.size < w4.heap.size) := (Array.getElem?_eq_some_iff.1 ha4).1
    have HRL := Lib.hid hrl
    clear hr4 ha4 hrl hq
    go_wp2_with fail
    refine HM.out.mono ?_
    rintro e5 w5 ⟨rfl, hb5⟩
    have ha5 : w5.heap[w.heap.size]? = some (.cells (rtCells rt0).toArray 27 (0, 0)) := (hb5.block _ HAL.out).trans HA4.out
    have hr5 := (hb5.block _ HRL.out).trans HR4.out
    have hB5 : Below w.heap.size w w5 := HB4.out.trans (hb5.mono (Nat.le_of_lt HAL.out))
    clear HM hb5 b0 b1 b2 b3 b4 b5 b6 b7 b8 b9 b10 b11
    have x0 := cells_of ha5 0; have z0 := free_of ha5 0
    have x1 := cells_of ha5 1; have z1 := free_of ha5 1
    have x2 := cells_of ha5 2; have z2 := free_of ha5 2
    have x3 := cells_of ha5 3; have z3 := free_of ha5 3
    have x4 := cells_of ha5 4; have z4 := free_of ha5 4
    have x5 := cells_of ha5 5; have z5 := free_of ha5 5
    have x6 := cells_of ha5 6; have z6 := free_of ha5 6
    have x7 := cells_of ha5 7; have z7 := free_of ha5 7
    have x8 := cells_of ha5 8; have z8 := free_of ha5 8
    have x9 := cells_of ha5 9; have z9 := free_of ha5 9
    have x10 := cells_of ha5 10; have z10 := free_of ha5 10
    have x11 := cells_of ha5 11; have z11 := free_of ha5 11
    simp only [rtCells, rt0, rfCells, List.flatMap_cons, List.flatMap_nil, List.cons_append, List.nil_append, List.append_nil, List.getElem?_toArray, List.getElem?_cons_zero, List.getElem?_cons_succ] at x0 x1 x2 x3 x4 x5 x6 x7 x8 x9 x10 x11
    cases q with
    | false =>
      have E := HNO.out rfl
      have HX := Lib.hid (setAll_at (i := 0) (xs := [.int .u64 0, .int .i64 0, .int .i64 0, .int .u64 0, .int .i64 0, .int .u64 0, .int .i64 0, .int .u64 0, .int .i64 0, .int .u64 0, .int .i64 0, .int .u64 0]) ha5 rfl)
      have HBX := Lib.hid (setAll_below (xs := [.int .u64 0, .int .i64 0, .int .i64 0, .int .u64 0, .int .i64 0, .int .u64 0, .int .i64 0, .int .u64 0, .int .i64 0, .int .u64 0, .int .i64 0, .int .u64 0]) (i := 0) (Nat.le_refl _) hB5)
      simp only [setAll, List.take_zero, List.nil_append, Nat.zero_add, Nat.reduceAdd] at HX HBX
      have HE := Lib.hid E
      clear E ha5 hr5 hB5
      go_wp2
      refine bodyPost_ret (take_ret rfl rfl HX.out rfl) rfl ?_
      exact ⟨by rw [HE.out]; rfl, HBX.out⟩
    | true =>
      have E := HYES.out rfl
      have HX := Lib.hid (setAll_at (i := 0) (xs := [.int .u64 (g : Nat), .int .i64 nx, .int .i64 a.off, .int .u64 (a.ct : Nat), .int .i64 b.off, .int .u64 (b.ct : Nat), .int .i64 c.off, .int .u64 (c.ct : Nat), .int .i64 d.off, .int .u64 (d.ct : Nat), .int .i64 e.off, .int .u64 (e.ct : Nat)]) ha5 rfl)
      have HBX := Lib.hid (setAll_below (xs := [.int .u64 (g : Nat), .int .i64 nx, .int .i64 a.off, .int .u64 (a.ct : Nat), .int .i64 b.off, .int .u64 (b.ct : Nat), .int .i64 c.off, .int .u64 (c.ct : Nat), .int .i64 d.off, .int .u64 (d.ct : Nat), .int .i64 e.off, .int .u64 (e.ct : Nat)]) (i := 0) (Nat.le_refl _) hB5)
      simp only [setAll, List.take_zero, List.nil_append, Nat.zero_add, Nat.reduceAdd] at HX HBX
      have y0 := cells_of hr5 0
      have y1 := cells_of hr5 1
      have y2 := cells_of hr5 2
      have y3 := cells_of hr5 3
      have y4 := cells_of hr5 4
      have y5 := cells_of hr5 5
      have y6 := cells_of hr5 6
      have y7 := cells_of hr5 7
      have y8 := cells_of hr5 8
      have y9 := cells_of hr5 9
      have y10 := cells_of hr5 10
      have y11 := cells_of hr5 11
      simp only [List.flatMap_cons, List.flatMap_nil, List.cons_append, List.nil_append, List.append_nil, List.getElem?_toArray, List.getElem?_cons_zero, List.getElem?_cons_succ] at y0 y1 y2 y3 y4 y5 y6 y7 y8 y9 y10 y11
      have HE := Lib.hid E
      clear E ha5 hr5 hB5
      go_wp2
      refine bodyPost_ret (take_ret rfl rfl HX.out rfl) rfl ?_
      exact ⟨by rw [HE.out]; rfl, HBX.out⟩
  · have hne : ((l.length : Int) != 88) = true := by rw [bne_iff_ne]; omega
    have E : Hid (rtAns gen l = .tuple #[.agg (rtCells rt0).toArray, .int .i64 2]) := rtAns_no (by unfold takeRt; rw [if_neg (fun h => h88 h.1)])
    have HX := Lib.hid (setAll_at (i := 0) (xs := [.int .u64 0, .int .i64 0, .int .i64 0, .int .u64 0, .int .i64 0, .int .u64 0, .int .i64 0, .int .u64 0, .int .i64 0, .int .u64 0, .int .i64 0, .int .u64 0]) ha1 rfl)
    have HBX := Lib.hid (setAll_below (xs := [.int .u64 0, .int .i64 0, .int .i64 0, .int .u64 0, .int .i64 0, .int .u64 0, .int .i64 0, .int .u64 0, .int .i64 0, .int .u64 0, .int .i64 0, .int .u64 0]) (i := 0) (Nat.le_refl _) hb1)
    have a0 := cells_of ha1 0; have q0 := free_of ha1 0
    have a1 := cells_of ha1 1; have q1 := free_of ha1 1
    have a2 := cells_of ha1 2; have q2 := free_of ha1 2
    have a3 := cells_of ha1 3; have q3 := free_of ha1 3
    have a4 := cells_of ha1 4; have q4 := free_of ha1 4
    have a5 := cells_of ha1 5; have q5 := free_of ha1 5
    have a6 := cells_of ha1 6; have q6 := free_of ha1 6
    have a7 := cells_of ha1 7; have q7 := free_of ha1 7
    have a8 := cells_of ha1 8; have q8 := free_of ha1 8
    have a9 := cells_of ha1 9; have q9 := free_of ha1 9
    have a10 := cells_of ha1 10; have q10 := free_of ha1 10
    have a11 := cells_of ha1 11; have q11 := free_of ha1 11
    simp only [setAll, List.take_zero, List.nil_append, Nat.zero_add, Nat.reduceAdd] at HX HBX
    simp only [rtCells, rt0, rfCells, List.flatMap_cons, List.flatMap_nil, List.cons_append, List.nil_append, List.append_nil, List.getElem?_toArray, List.getElem?_cons_zero, List.getElem?_cons_succ] at a0 a1 a2 a3 a4 a5 a6 a7 a8 a9 a10 a11
    clear hw1 ha1 hb1 hv h88 hz1
    generalize l.length = LN at *
    go_enter Try.func7, Try.ntmps7
    go_upto_region 1 with fail
    rw [← HW1.out]
    clear HW1 HAA HA1
    go_wp2
    refine bodyPost_ret (take_ret rfl rfl HX.out rfl) rfl ?_
    exact ⟨by rw [E.out]; rfl, HBX.out⟩
end Go.Proofs.Ytkhpblclpcgjnaa

