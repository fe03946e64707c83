/- The law RootForms: every call of it returns true, and all that was there before the call is as it was. No condition. -/
import Derived.Test.YtkhpblclpcgjnaaRows
import Derived.Test.YtkhpblclpcgjnaaRtE
import Derived.Test.YtkhpblclpcgjnaaLaw
import Derived.Test.YtkhpblclpcgjnaaReg
import Derived.Deep.Cut
import Derived.ChangeMaps5
namespace Go.By
open Go Go.RowKit
def fineB (d : NKd) : Bool := decide (-9223372036854775808 ≤ d.off) && decide (d.off ≤ 9223372036854775807) && decide (d.ct < 18446744073709551616)
theorem come_bad {r : Rt} (h0 : r.gen < 18446744073709551616) (h1 : -9223372036854775808 ≤ r.nx ∧ r.nx ≤ 9223372036854775807) (h5 : r.ts.length = 5) (h : r.ts.all fineB = true) : RtCome r :=
  RtCome.of h0 h1 h5 (fun d hd => by
    have h2 := List.all_eq_true.1 h d hd
    simp only [fineB, Bool.and_eq_true, decide_eq_true_eq] at h2
    exact ⟨h2.1.1, h2.1.2, h2.2⟩)
end Go.By
namespace Go.Proofs.Ytkhpblclpcgjnaa
open Go Go.ChangeShapes Go.WideShapes Go.ChangeAt Go.RowKit Go.By Go.Deep

/-- So many bytes of nought. -/
def nul0 (n : Nat) : List Nat := List.replicate n 0
theorem nul0_length (n : Nat) : (nul0 n).length = n := by simp [nul0]
theorem made_roots (w : World) : (Instr.makeSlice 37 (.int .i64 5) (.int .i64 5)).run Try.prog w = .ok (.slice (some ⟨w.heap.size, 0, none⟩) 5 5) (w.alloc (.cells #[.int .u64 0, .int .i64 0, .int .i64 0, .int .u64 0, .int .i64 0, .int .u64 0, .int .i64 0, .int .u64 0, .int .i64 0, .int .u64 0, .int .i64 0, .int .u64 0, .int .u64 0, .int .i64 0, .int .i64 0, .int .u64 0, .int .i64 0, .int .u64 0, .int .i64 0, .int .u64 0, .int .i64 0, .int .u64 0, .int .i64 0, .int .u64 0, .int .u64 0, .int .i64 0, .int .i64 0, .int .u64 0, .int .i64 0, .int .u64 0, .int .i64 0, .int .u64 0, .int .i64 0, .int .u64 0, .int .i64 0, .int .u64 0, .int .u64 0, .int .i64 0, .int .i64 0, .int .u64 0, .int .i64 0, .int .u64 0, .int .i64 0, .int .u64 0, .int .i64 0, .int .u64 0, .int .i64 0, .int .u64 0, .int .u64 0, .int .i64 0, .int .i64 0, .int .u64 0, .int .i64 0, .int .u64 0, .int .i64 0, .int .u64 0, .int .i64 0, .int .u64 0, .int .i64 0, .int .u64 0] 27)) := by
  have hi : (Try.prog.info? 27).map (fun i => (i.zero, i.size, i.bytes)) = some (some (.agg #[.int .u64 0, .int .i64 0, .int .i64 0, .int .u64 0, .int .i64 0, .int .u64 0, .int .i64 0, .int .u64 0, .int .i64 0, .int .u64 0, .int .i64 0, .int .u64 0]), 12, 96) := by kernel_rfl
  obtain ⟨i, hi1, hi2⟩ := Option.map_eq_some_iff.1 hi
  simp only [Prod.mk.injEq] at hi2
  have h := run_make (P := Try.prog) (w := w) 37 27 i (.agg #[.int .u64 0, .int .i64 0, .int .i64 0, .int .u64 0, .int .i64 0, .int .u64 0, .int .i64 0, .int .u64 0, .int .i64 0, .int .u64 0, .int .i64 0, .int .u64 0]) (by kernel_rfl) hi1 hi2.1 .i64 .i64 5 5 (by omega) (by omega) (by rw [hi2.2.2]; omega) (by omega)
  have e : madeCells (Value.agg #[.int .u64 0, .int .i64 0, .int .i64 0, .int .u64 0, .int .i64 0, .int .u64 0, .int .i64 0, .int .u64 0, .int .i64 0, .int .u64 0, .int .i64 0, .int .u64 0]).cells ((5 : Int).toNat * 12) = #[.int .u64 0, .int .i64 0, .int .i64 0, .int .u64 0, .int .i64 0, .int .u64 0, .int .i64 0, .int .u64 0, .int .i64 0, .int .u64 0, .int .i64 0, .int .u64 0, .int .u64 0, .int .i64 0, .int .i64 0, .int .u64 0, .int .i64 0, .int .u64 0, .int .i64 0, .int .u64 0, .int .i64 0, .int .u64 0, .int .i64 0, .int .u64 0, .int .u64 0, .int .i64 0, .int .i64 0, .int .u64 0, .int .i64 0, .int .u64 0, .int .i64 0, .int .u64 0, .int .i64 0, .int .u64 0, .int .i64 0, .int .u64 0, .int .u64 0, .int .i64 0, .int .i64 0, .int .u64 0, .int .i64 0, .int .u64 0, .int .i64 0, .int .u64 0, .int .i64 0, .int .u64 0, .int .i64 0, .int .u64 0, .int .u64 0, .int .i64 0, .int .i64 0, .int .u64 0, .int .i64 0, .int .u64 0, .int .i64 0, .int .u64 0, .int .i64 0, .int .u64 0, .int .i64 0, .int .u64 0] := by kernel_rfl
  rw [h, hi2.2.1, e]
  rfl

set_option maxRecDepth 100000 in
set_option maxHeartbeats 4000000 in
theorem rootForms_any {w : World} :
    Calls Try.prog 5 #[] w fun z w' => z = .returned (.bool true) ∧ Below w.heap.size w w' := by
  go_enter Try.func5, Try.ntmps5
  go_wp2_with fail
  refine (begun_any w).mono ?_
  rintro z w1 ⟨rfl, hb1⟩
  have HB1 := Lib.hid hb1
  clear hb1
  have hmk := made_roots w1
  obtain ⟨W0, hW0⟩ : ∃ W, W = w1.alloc (.cells #[.int .u64 0, .int .i64 0, .int .i64 0, .int .u64 0, .int .i64 0, .int .u64 0, .int .i64 0, .int .u64 0, .int .i64 0, .int .u64 0, .int .i64 0, .int .u64 0, .int .u64 0, .int .i64 0, .int .i64 0, .int .u64 0, .int .i64 0, .int .u64 0, .int .i64 0, .int .u64 0, .int .i64 0, .int .u64 0, .int .i64 0, .int .u64 0, .int .u64 0, .int .i64 0, .int .i64 0, .int .u64 0, .int .i64 0, .int .u64 0, .int .i64 0, .int .u64 0, .int .i64 0, .int .u64 0, .int .i64 0, .int .u64 0, .int .u64 0, .int .i64 0, .int .i64 0, .int .u64 0, .int .i64 0, .int .u64 0, .int .i64 0, .int .u64 0, .int .i64 0, .int .u64 0, .int .i64 0, .int .u64 0, .int .u64 0, .int .i64 0, .int .i64 0, .int .u64 0, .int .i64 0, .int .u64 0, .int .i64 0, .int .u64 0, .int .i64 0, .int .u64 0, .int .i64 0, .int .u64 0] 27) := ⟨_, rfl⟩
  obtain ⟨G, hG⟩ : ∃ G, G = w1.heap.size := ⟨_, rfl⟩
  have h0 : W0.heap[G]? = some (.cells #[.int .u64 0, .int .i64 0, .int .i64 0, .int .u64 0, .int .i64 0, .int .u64 0, .int .i64 0, .int .u64 0, .int .i64 0, .int .u64 0, .int .i64 0, .int .u64 0, .int .u64 0, .int .i64 0, .int .i64 0, .int .u64 0, .int .i64 0, .int .u64 0, .int .i64 0, .int .u64 0, .int .i64 0, .int .u64 0, .int .i64 0, .int .u64 0, .int .u64 0, .int .i64 0, .int .i64 0, .int .u64 0, .int .i64 0, .int .u64 0, .int .i64 0, .int .u64 0, .int .i64 0, .int .u64 0, .int .i64 0, .int .u64 0, .int .u64 0, .int .i64 0, .int .i64 0, .int .u64 0, .int .i64 0, .int .u64 0, .int .i64 0, .int .u64 0, .int .i64 0, .int .u64 0, .int .i64 0, .int .u64 0, .int .u64 0, .int .i64 0, .int .i64 0, .int .u64 0, .int .i64 0, .int .u64 0, .int .i64 0, .int .u64 0, .int .i64 0, .int .u64 0, .int .i64 0, .int .u64 0] 27 (0, 0)) := by rw [hW0, hG]; exact heap_alloc_new w1 _
  have hb01 : Below w1.heap.size w1 W0 := by rw [hW0]; exact (Below.refl _ _).alloc (Nat.le_refl _) _
  have hb0 : Below w.heap.size w W0 := HB1.out.trans (hb01.mono HB1.out.size)
  obtain ⟨WF, hWF⟩ : ∃ W, W = ((((((W0.setCell ⟨G, 1, none⟩ (.int .i64 (-1))).setCell ⟨G, 14, none⟩ (.int .i64 (-1))).setCell ⟨G, 34, none⟩ (.int .i64 300)).setCell ⟨G, 43, none⟩ (.int .u64 1)).setCell ⟨G, 52, none⟩ (.int .i64 (-5))).setCell ⟨G, 53, none⟩ (.int .u64 3)) := ⟨_, rfl⟩
  obtain ⟨BADS, hBADS⟩ : ∃ b : Array Value, b = #[.int .u64 0, .int .i64 (-1), .int .i64 0, .int .u64 0, .int .i64 0, .int .u64 0, .int .i64 0, .int .u64 0, .int .i64 0, .int .u64 0, .int .i64 0, .int .u64 0, .int .u64 0, .int .i64 0, .int .i64 (-1), .int .u64 0, .int .i64 0, .int .u64 0, .int .i64 0, .int .u64 0, .int .i64 0, .int .u64 0, .int .i64 0, .int .u64 0, .int .u64 0, .int .i64 0, .int .i64 0, .int .u64 0, .int .i64 0, .int .u64 0, .int .i64 0, .int .u64 0, .int .i64 0, .int .u64 0, .int .i64 300, .int .u64 0, .int .u64 0, .int .i64 0, .int .i64 0, .int .u64 0, .int .i64 0, .int .u64 0, .int .i64 0, .int .u64 1, .int .i64 0, .int .u64 0, .int .i64 0, .int .u64 0, .int .u64 0, .int .i64 0, .int .i64 0, .int .u64 0, .int .i64 (-5), .int .u64 3, .int .i64 0, .int .u64 0, .int .i64 0, .int .u64 0, .int .i64 0, .int .u64 0] := ⟨_, rfl⟩
  have hF : WF.heap[G]? = some (.cells BADS 27 (0, 0)) := by
    rw [hWF, hBADS]
    exact (heap_setCell_same _ G 53 _ _ (.int .u64 3) (heap_setCell_same _ G 52 _ _ (.int .i64 (-5)) (heap_setCell_same _ G 43 _ _ (.int .u64 1) (heap_setCell_same _ G 34 _ _ (.int .i64 300) (heap_setCell_same _ G 14 _ _ (.int .i64 (-1)) (heap_setCell_same _ G 1 _ _ (.int .i64 (-1)) h0))))))
  have hbF : Below w.heap.size w WF := by rw [hWF]; exact (Below.setCell (p := ⟨G, 53, none⟩) (Below.setCell (p := ⟨G, 52, none⟩) (Below.setCell (p := ⟨G, 43, none⟩) (Below.setCell (p := ⟨G, 34, none⟩) (Below.setCell (p := ⟨G, 14, none⟩) (Below.setCell (p := ⟨G, 1, none⟩) hb0 (Nat.le_trans HB1.out.size (Nat.le_of_eq hG.symm)) _) (Nat.le_trans HB1.out.size (Nat.le_of_eq hG.symm)) _) (Nat.le_trans HB1.out.size (Nat.le_of_eq hG.symm)) _) (Nat.le_trans HB1.out.size (Nat.le_of_eq hG.symm)) _) (Nat.le_trans HB1.out.size (Nat.le_of_eq hG.symm)) _) (Nat.le_trans HB1.out.size (Nat.le_of_eq hG.symm)) _)
  rw [← hW0, ← hG] at hmk
  have q1 := free_of h0 1; have r1 := cells_of h0 1
  have q14 := free_of h0 14; have r14 := cells_of h0 14
  have q34 := free_of h0 34; have r34 := cells_of h0 34
  have q43 := free_of h0 43; have r43 := cells_of h0 43
  have q52 := free_of h0 52; have r52 := cells_of h0 52
  have q53 := free_of h0 53; have r53 := cells_of h0 53
  simp only [List.getElem?_toArray, List.getElem?_cons_zero, List.getElem?_cons_succ] at r1 r14 r34 r43 r52 r53
  have HWF := Lib.hid hWF; have HF := Lib.hid hF; have HBF := Lib.hid hbF
  have HBAD := Lib.hid hBADS
  clear hW0 hb01 hb0 hWF hF hbF h0 hBADS HB1 hG
  go_upto_region 9 with fail
  rw [← HWF.out]
  clear HWF hmk q1 r1 q14 r14 q34 r34 q43 r43 q52 r52 q53 r53
  go_wp2_with fail
  go_loopw [2] (fun i wr => ∃ n : Nat, n ≤ 5 ∧ i = .int .i64 n ∧ wr.heap[G]? = some (.cells BADS 27 (0, 0)) ∧ Below w.heap.size w wr) (fun i _ => 5 - (intOf i).toNat)
  case atStart => exact ⟨0, by omega, rfl, HF.out, HBF.out⟩
  case round =>
    obtain ⟨n, hn, rfl, hgr, hbr⟩ := hrel
    have HBR := Lib.hid hbr
    clear HF HBF hbr
    rw [HBAD.out] at hgr
    have HGB := Lib.hid hgr
    clear hgr
    match n, hn with
    | 0, _ =>
      have a0 := cells_of HGB.out 0
      have a1 := cells_of HGB.out 1
      have a2 := cells_of HGB.out 2
      have a3 := cells_of HGB.out 3
      have a4 := cells_of HGB.out 4
      have a5 := cells_of HGB.out 5
      have a6 := cells_of HGB.out 6
      have a7 := cells_of HGB.out 7
      have a8 := cells_of HGB.out 8
      have a9 := cells_of HGB.out 9
      have a10 := cells_of HGB.out 10
      have a11 := cells_of HGB.out 11
      simp only [List.getElem?_toArray, List.getElem?_cons_zero, List.getElem?_cons_succ] at a0 a1 a2 a3 a4 a5 a6 a7 a8 a9 a10 a11
      have HP : Calls Try.prog 9 #[.agg #[.int .u64 0, .int .i64 (-1), .int .i64 0, .int .u64 0, .int .i64 0, .int .u64 0, .int .i64 0, .int .u64 0, .int .i64 0, .int .u64 0, .int .i64 0, .int .u64 0]] wr (Rows wr (putRt ⟨0, -1, [⟨0, 0⟩, ⟨0, 0⟩, ⟨0, 0⟩, ⟨0, 0⟩, ⟨0, 0⟩]⟩)) := put_any wr ⟨0, -1, [⟨0, 0⟩, ⟨0, 0⟩, ⟨0, 0⟩, ⟨0, 0⟩, ⟨0, 0⟩]⟩ (come_bad (by decide) (by decide) rfl (by decide))
      rw [show putRt ⟨0, -1, [⟨0, 0⟩, ⟨0, 0⟩, ⟨0, 0⟩, ⟨0, 0⟩, ⟨0, 0⟩]⟩ = [] by decide +kernel] at HP
      go_wp2_with fail
      refine HP.mono ?_
      clear HP
      rintro z w3 ⟨v3, rfl, ho3, hb3⟩
      obtain ⟨p3, c3, rfl⟩ := shape_of ho3
      dsimp only [List.length_nil]
      have HN : Hid (∃ n : Nat, n ≤ 5 ∧ Value.int .i64 1 = .int .i64 n ∧ w3.heap[G]? = some (.cells BADS 27 (0, 0)) ∧ Below w.heap.size w w3) := ⟨1, by decide, rfl, (hb3.block G (Array.getElem?_eq_some_iff.1 HGB.out).1).trans (HGB.out.trans (by rw [HBAD.out])), HBR.out.trans (hb3.mono HBR.out.size)⟩
      clear ho3 hb3 a0 a1 a2 a3 a4 a5 a6 a7 a8 a9 a10 a11
      go_wp2
      go_roundw
      case rel => exact HN.out
      case measure => simp [intOf]
    | 1, _ =>
      have a0 := cells_of HGB.out 12
      have a1 := cells_of HGB.out 13
      have a2 := cells_of HGB.out 14
      have a3 := cells_of HGB.out 15
      have a4 := cells_of HGB.out 16
      have a5 := cells_of HGB.out 17
      have a6 := cells_of HGB.out 18
      have a7 := cells_of HGB.out 19
      have a8 := cells_of HGB.out 20
      have a9 := cells_of HGB.out 21
      have a10 := cells_of HGB.out 22
      have a11 := cells_of HGB.out 23
      simp only [List.getElem?_toArray, List.getElem?_cons_zero, List.getElem?_cons_succ] at a0 a1 a2 a3 a4 a5 a6 a7 a8 a9 a10 a11
      have HP : Calls Try.prog 9 #[.agg #[.int .u64 0, .int .i64 0, .int .i64 (-1), .int .u64 0, .int .i64 0, .int .u64 0, .int .i64 0, .int .u64 0, .int .i64 0, .int .u64 0, .int .i64 0, .int .u64 0]] wr (Rows wr (putRt ⟨0, 0, [⟨-1, 0⟩, ⟨0, 0⟩, ⟨0, 0⟩, ⟨0, 0⟩, ⟨0, 0⟩]⟩)) := put_any wr ⟨0, 0, [⟨-1, 0⟩, ⟨0, 0⟩, ⟨0, 0⟩, ⟨0, 0⟩, ⟨0, 0⟩]⟩ (come_bad (by decide) (by decide) rfl (by decide))
      rw [show putRt ⟨0, 0, [⟨-1, 0⟩, ⟨0, 0⟩, ⟨0, 0⟩, ⟨0, 0⟩, ⟨0, 0⟩]⟩ = [] by decide +kernel] at HP
      go_wp2_with fail
      refine HP.mono ?_
      clear HP
      rintro z w3 ⟨v3, rfl, ho3, hb3⟩
      obtain ⟨p3, c3, rfl⟩ := shape_of ho3
      dsimp only [List.length_nil]
      have HN : Hid (∃ n : Nat, n ≤ 5 ∧ Value.int .i64 2 = .int .i64 n ∧ w3.heap[G]? = some (.cells BADS 27 (0, 0)) ∧ Below w.heap.size w w3) := ⟨2, by decide, rfl, (hb3.block G (Array.getElem?_eq_some_iff.1 HGB.out).1).trans (HGB.out.trans (by rw [HBAD.out])), HBR.out.trans (hb3.mono HBR.out.size)⟩
      clear ho3 hb3 a0 a1 a2 a3 a4 a5 a6 a7 a8 a9 a10 a11
      go_wp2
      go_roundw
      case rel => exact HN.out
      case measure => simp [intOf]
    | 2, _ =>
      have a0 := cells_of HGB.out 24
      have a1 := cells_of HGB.out 25
      have a2 := cells_of HGB.out 26
      have a3 := cells_of HGB.out 27
      have a4 := cells_of HGB.out 28
      have a5 := cells_of HGB.out 29
      have a6 := cells_of HGB.out 30
      have a7 := cells_of HGB.out 31
      have a8 := cells_of HGB.out 32
      have a9 := cells_of HGB.out 33
      have a10 := cells_of HGB.out 34
      have a11 := cells_of HGB.out 35
      simp only [List.getElem?_toArray, List.getElem?_cons_zero, List.getElem?_cons_succ] at a0 a1 a2 a3 a4 a5 a6 a7 a8 a9 a10 a11
      have HP : Calls Try.prog 9 #[.agg #[.int .u64 0, .int .i64 0, .int .i64 0, .int .u64 0, .int .i64 0, .int .u64 0, .int .i64 0, .int .u64 0, .int .i64 0, .int .u64 0, .int .i64 300, .int .u64 0]] wr (Rows wr (putRt ⟨0, 0, [⟨0, 0⟩, ⟨0, 0⟩, ⟨0, 0⟩, ⟨0, 0⟩, ⟨300, 0⟩]⟩)) := put_any wr ⟨0, 0, [⟨0, 0⟩, ⟨0, 0⟩, ⟨0, 0⟩, ⟨0, 0⟩, ⟨300, 0⟩]⟩ (come_bad (by decide) (by decide) rfl (by decide))
      rw [show putRt ⟨0, 0, [⟨0, 0⟩, ⟨0, 0⟩, ⟨0, 0⟩, ⟨0, 0⟩, ⟨300, 0⟩]⟩ = [] by decide +kernel] at HP
      go_wp2_with fail
      refine HP.mono ?_
      clear HP
      rintro z w3 ⟨v3, rfl, ho3, hb3⟩
      obtain ⟨p3, c3, rfl⟩ := shape_of ho3
      dsimp only [List.length_nil]
      have HN : Hid (∃ n : Nat, n ≤ 5 ∧ Value.int .i64 3 = .int .i64 n ∧ w3.heap[G]? = some (.cells BADS 27 (0, 0)) ∧ Below w.heap.size w w3) := ⟨3, by decide, rfl, (hb3.block G (Array.getElem?_eq_some_iff.1 HGB.out).1).trans (HGB.out.trans (by rw [HBAD.out])), HBR.out.trans (hb3.mono HBR.out.size)⟩
      clear ho3 hb3 a0 a1 a2 a3 a4 a5 a6 a7 a8 a9 a10 a11
      go_wp2
      go_roundw
      case rel => exact HN.out
      case measure => simp [intOf]
    | 3, _ =>
      have a0 := cells_of HGB.out 36
      have a1 := cells_of HGB.out 37
      have a2 := cells_of HGB.out 38
      have a3 := cells_of HGB.out 39
      have a4 := cells_of HGB.out 40
      have a5 := cells_of HGB.out 41
      have a6 := cells_of HGB.out 42
      have a7 := cells_of HGB.out 43
      have a8 := cells_of HGB.out 44
      have a9 := cells_of HGB.out 45
      have a10 := cells_of HGB.out 46
      have a11 := cells_of HGB.out 47
      simp only [List.getElem?_toArray, List.getElem?_cons_zero, List.getElem?_cons_succ] at a0 a1 a2 a3 a4 a5 a6 a7 a8 a9 a10 a11
      have HP : Calls Try.prog 9 #[.agg #[.int .u64 0, .int .i64 0, .int .i64 0, .int .u64 0, .int .i64 0, .int .u64 0, .int .i64 0, .int .u64 1, .int .i64 0, .int .u64 0, .int .i64 0, .int .u64 0]] wr (Rows wr (putRt ⟨0, 0, [⟨0, 0⟩, ⟨0, 0⟩, ⟨0, 1⟩, ⟨0, 0⟩, ⟨0, 0⟩]⟩)) := put_any wr ⟨0, 0, [⟨0, 0⟩, ⟨0, 0⟩, ⟨0, 1⟩, ⟨0, 0⟩, ⟨0, 0⟩]⟩ (come_bad (by decide) (by decide) rfl (by decide))
      rw [show putRt ⟨0, 0, [⟨0, 0⟩, ⟨0, 0⟩, ⟨0, 1⟩, ⟨0, 0⟩, ⟨0, 0⟩]⟩ = [] by decide +kernel] at HP
      go_wp2_with fail
      refine HP.mono ?_
      clear HP
      rintro z w3 ⟨v3, rfl, ho3, hb3⟩
      obtain ⟨p3, c3, rfl⟩ := shape_of ho3
      dsimp only [List.length_nil]
      have HN : Hid (∃ n : Nat, n ≤ 5 ∧ Value.int .i64 4 = .int .i64 n ∧ w3.heap[G]? = some (.cells BADS 27 (0, 0)) ∧ Below w.heap.size w w3) := ⟨4, by decide, rfl, (hb3.block G (Array.getElem?_eq_some_iff.1 HGB.out).1).trans (HGB.out.trans (by rw [HBAD.out])), HBR.out.trans (hb3.mono HBR.out.size)⟩
      clear ho3 hb3 a0 a1 a2 a3 a4 a5 a6 a7 a8 a9 a10 a11
      go_wp2
      go_roundw
      case rel => exact HN.out
      case measure => simp [intOf]
    | 4, _ =>
      have a0 := cells_of HGB.out 48
      have a1 := cells_of HGB.out 49
      have a2 := cells_of HGB.out 50
      have a3 := cells_of HGB.out 51
      have a4 := cells_of HGB.out 52
      have a5 := cells_of HGB.out 53
      have a6 := cells_of HGB.out 54
      have a7 := cells_of HGB.out 55
      have a8 := cells_of HGB.out 56
      have a9 := cells_of HGB.out 57
      have a10 := cells_of HGB.out 58
      have a11 := cells_of HGB.out 59
      simp only [List.getElem?_toArray, List.getElem?_cons_zero, List.getElem?_cons_succ] at a0 a1 a2 a3 a4 a5 a6 a7 a8 a9 a10 a11
      have HP : Calls Try.prog 9 #[.agg #[.int .u64 0, .int .i64 0, .int .i64 0, .int .u64 0, .int .i64 (-5), .int .u64 3, .int .i64 0, .int .u64 0, .int .i64 0, .int .u64 0, .int .i64 0, .int .u64 0]] wr (Rows wr (putRt ⟨0, 0, [⟨0, 0⟩, ⟨-5, 3⟩, ⟨0, 0⟩, ⟨0, 0⟩, ⟨0, 0⟩]⟩)) := put_any wr ⟨0, 0, [⟨0, 0⟩, ⟨-5, 3⟩, ⟨0, 0⟩, ⟨0, 0⟩, ⟨0, 0⟩]⟩ (come_bad (by decide) (by decide) rfl (by decide))
      rw [show putRt ⟨0, 0, [⟨0, 0⟩, ⟨-5, 3⟩, ⟨0, 0⟩, ⟨0, 0⟩, ⟨0, 0⟩]⟩ = [] by decide +kernel] at HP
      go_wp2_with fail
      refine HP.mono ?_
      clear HP
      rintro z w3 ⟨v3, rfl, ho3, hb3⟩
      obtain ⟨p3, c3, rfl⟩ := shape_of ho3
      dsimp only [List.length_nil]
      have HN : Hid (∃ n : Nat, n ≤ 5 ∧ Value.int .i64 5 = .int .i64 n ∧ w3.heap[G]? = some (.cells BADS 27 (0, 0)) ∧ Below w.heap.size w w3) := ⟨5, by decide, rfl, (hb3.block G (Array.getElem?_eq_some_iff.1 HGB.out).1).trans (HGB.out.trans (by rw [HBAD.out])), HBR.out.trans (hb3.mono HBR.out.size)⟩
      clear ho3 hb3 a0 a1 a2 a3 a4 a5 a6 a7 a8 a9 a10 a11
      go_wp2
      go_roundw
      case rel => exact HN.out
      case measure => simp [intOf]
    | 5, _ =>
      clear HGB
      clear HBAD
      go_wp2
      go_loopw [3] (fun i wr => ∃ n : Nat, n ≤ 100 ∧ i = .int .i64 n ∧ Below w.heap.size w wr) (fun i _ => 100 - (intOf i).toNat)
      case atStart => exact ⟨0, by omega, rfl, HBR.out⟩
      case round =>
        obtain ⟨n, hn, rfl, hbr⟩ := hrel
        clear HBR
        have HB := Lib.hid hbr
        clear hbr
        rename_i wq
        by_cases hlt : n < 100
        · obtain ⟨w2, hw2⟩ : ∃ W, W = wr.alloc (.cells (zeros n) 5) := ⟨_, rfl⟩
          have hmk := made_run n n n n rfl rfl (Nat.le_refl _) (by omega) wr
          have hy2 : Bytes (wr.alloc (.cells (zeros n) 5)) (.slice (some ⟨wr.heap.size, 0, none⟩) n n) (nul0 n) := zeros_bytes wr n (by unfold maxLen; omega)
          rw [← hw2] at hmk hy2
          have hb2 : Below wr.heap.size wr w2 := by rw [hw2]; exact (Below.refl _ _).alloc (Nat.le_refl _) _
          have HB2 : Hid (Below w.heap.size w w2) := HB.out.trans (hb2.mono HB.out.size)
          obtain ⟨G2, hG2⟩ : ∃ G, G = wr.heap.size := ⟨_, rfl⟩
          rw [← hG2] at hmk hy2
          have HY2 := Lib.hid hy2; have HLT := Lib.hid hlt
          clear hw2 hb2 hy2 HB hG2
          by_cases h88 : n = 88
          · subst h88
            replace hmk : (Instr.makeSlice 28 (.int .i64 88) (.int .i64 88)).run Try.prog wr = .ok (.slice (some ⟨G2, 0, none⟩) 88 88) w2 := hmk
            have hT := take_any _ (nul0 88) 3 w2 HY2.out (by decide)
            rw [show rtAns 3 (nul0 88) = .tuple #[.agg #[.int .u64 3, .int .i64 0, .int .i64 0, .int .u64 0, .int .i64 0, .int .u64 0, .int .i64 0, .int .u64 0, .int .i64 0, .int .u64 0, .int .i64 0, .int .u64 0], .int .i64 0] from rtAns_yes (r := ⟨3, 0, [⟨0, 0⟩, ⟨0, 0⟩, ⟨0, 0⟩, ⟨0, 0⟩, ⟨0, 0⟩]⟩) (by decide +kernel)] at hT
            have HT := Lib.hid hT
            clear hT HY2
            go_wp2_with fail
            clear hmk
            refine HT.out.mono ?_
            rintro z w4 ⟨rfl, hb4⟩
            obtain ⟨W5, hW5⟩ : ∃ W, W = w4.alloc (.cells #[.int .u64 3, .int .i64 0, .int .i64 0, .int .u64 0, .int .i64 0, .int .u64 0, .int .i64 0, .int .u64 0, .int .i64 0, .int .u64 0, .int .i64 0, .int .u64 0] 27) := ⟨_, rfl⟩
            have hb45 : Below w4.heap.size w4 W5 := by rw [hW5]; exact (Below.refl _ _).alloc (Nat.le_refl _) _
            have hb25 := hb4.trans (hb45.mono hb4.size)
            obtain ⟨G5, hG5⟩ : ∃ g, g = w4.heap.size := ⟨_, rfl⟩
            have h5 : W5.heap[G5]? = some (.cells #[.int .u64 3, .int .i64 0, .int .i64 0, .int .u64 0, .int .i64 0, .int .u64 0, .int .i64 0, .int .u64 0, .int .i64 0, .int .u64 0, .int .i64 0, .int .u64 0] 27 (0, 0)) := by rw [hW5, hG5]; exact heap_alloc_new w4 _
            have HB5 := Lib.hid (HB2.out.trans (hb25.mono HB2.out.size))
            have HW5 := Lib.hid hW5
            have a0 := cells_of h5 0
            have a1 := cells_of h5 1
            have a2 := cells_of h5 2
            have a3 := cells_of h5 3
            have a4 := cells_of h5 4
            have a5 := cells_of h5 5
            have a6 := cells_of h5 6
            have a7 := cells_of h5 7
            have a8 := cells_of h5 8
            have a9 := cells_of h5 9
            have a10 := cells_of h5 10
            have a11 := cells_of h5 11
            simp only [List.getElem?_toArray, List.getElem?_cons_zero, List.getElem?_cons_succ] at a0 a1 a2 a3 a4 a5 a6 a7 a8 a9 a10 a11
            have HNE : ∀ w0 : World, (binOp .neq 27 (.agg #[.int .u64 3, .int .i64 0, .int .i64 0, .int .u64 0, .int .i64 0, .int .u64 0, .int .i64 0, .int .u64 0, .int .i64 0, .int .u64 0, .int .i64 0, .int .u64 0]) (.agg #[.int .u64 3, .int .i64 0, .int .i64 0, .int .u64 0, .int .i64 0, .int .u64 0, .int .i64 0, .int .u64 0, .int .i64 0, .int .u64 0, .int .i64 0, .int .u64 0])).run Try.prog w0 = .ok (.bool false) w0 := fun w0 => by
              have h := rt_neq w0 ⟨3, 0, [⟨0, 0⟩, ⟨0, 0⟩, ⟨0, 0⟩, ⟨0, 0⟩, ⟨0, 0⟩]⟩ ⟨3, 0, [⟨0, 0⟩, ⟨0, 0⟩, ⟨0, 0⟩, ⟨0, 0⟩, ⟨0, 0⟩]⟩ (come_bad (by decide) (by decide) rfl (by decide)) (come_bad (by decide) (by decide) rfl (by decide))
              rw [decide_eq_true rfl] at h
              exact h
            clear hb4 hb45 hb25 hW5 h5 HT HB2
            have HN : Hid (∃ m : Nat, m ≤ 100 ∧ Value.int .i64 ((88 : Nat) + 1) = .int .i64 m ∧ Below w.heap.size w W5) := ⟨88 + 1, HLT.out, rfl, HB5.out⟩
            go_upto_region 18 with fail
            rw [← HW5.out, ← hG5]
            clear HW5 hG5
            go_wp2
            go_roundw
            case rel => exact ⟨_, _, _, _, _, _, _, _, _, _, _, _, _, _, _, _, _, _, _, _, _, _, _, _, _, _, _, _, _, _, _, _, _, _, _, _, _, HN.out, rfl⟩
            case measure => simp [intOf]
          · have he : ((n : Int) == 88) = false := by simp; omega
            have HNN : Hid ((nul0 n).length ≠ 88) := by unfold Hid; rw [nul0_length]; exact h88
            clear h88
            have hT := take_any _ (nul0 n) 3 w2 HY2.out (by decide)
            rw [show rtAns 3 (nul0 n) = .tuple #[.agg #[.int .u64 0, .int .i64 0, .int .i64 0, .int .u64 0, .int .i64 0, .int .u64 0, .int .i64 0, .int .u64 0, .int .i64 0, .int .u64 0, .int .i64 0, .int .u64 0], .int .i64 2] from rtAns_no (takeRt_none HNN.out)] at hT
            have HT := Lib.hid hT
            clear hT HY2
            go_wp2_with fail
            clear hmk
            refine HT.out.mono ?_
            rintro z w4 ⟨rfl, hb4⟩
            obtain ⟨W5, hW5⟩ : ∃ W, W = w4.alloc (.cells #[.int .u64 0, .int .i64 0, .int .i64 0, .int .u64 0, .int .i64 0, .int .u64 0, .int .i64 0, .int .u64 0, .int .i64 0, .int .u64 0, .int .i64 0, .int .u64 0] 27) := ⟨_, rfl⟩
            have hb45 : Below w4.heap.size w4 W5 := by rw [hW5]; exact (Below.refl _ _).alloc (Nat.le_refl _) _
            have hb25 := hb4.trans (hb45.mono hb4.size)
            obtain ⟨G5, hG5⟩ : ∃ g, g = w4.heap.size := ⟨_, rfl⟩
            have h5 : W5.heap[G5]? = some (.cells #[.int .u64 0, .int .i64 0, .int .i64 0, .int .u64 0, .int .i64 0, .int .u64 0, .int .i64 0, .int .u64 0, .int .i64 0, .int .u64 0, .int .i64 0, .int .u64 0] 27 (0, 0)) := by rw [hW5, hG5]; exact heap_alloc_new w4 _
            have HB5 := Lib.hid (HB2.out.trans (hb25.mono HB2.out.size))
            have HW5 := Lib.hid hW5
            have a0 := cells_of h5 0
            have a1 := cells_of h5 1
            have a2 := cells_of h5 2
            have a3 := cells_of h5 3
            have a4 := cells_of h5 4
            have a5 := cells_of h5 5
            have a6 := cells_of h5 6
            have a7 := cells_of h5 7
            have a8 := cells_of h5 8
            have a9 := cells_of h5 9
            have a10 := cells_of h5 10
            have a11 := cells_of h5 11
            simp only [List.getElem?_toArray, List.getElem?_cons_zero, List.getElem?_cons_succ] at a0 a1 a2 a3 a4 a5 a6 a7 a8 a9 a10 a11
            have HNE : ∀ w0 : World, (binOp .neq 27 (.agg #[.int .u64 0, .int .i64 0, .int .i64 0, .int .u64 0, .int .i64 0, .int .u64 0, .int .i64 0, .int .u64 0, .int .i64 0, .int .u64 0, .int .i64 0, .int .u64 0]) (.agg #[.int .u64 0, .int .i64 0, .int .i64 0, .int .u64 0, .int .i64 0, .int .u64 0, .int .i64 0, .int .u64 0, .int .i64 0, .int .u64 0, .int .i64 0, .int .u64 0])).run Try.prog w0 = .ok (.bool false) w0 := fun w0 => by
              have h := rt_neq w0 rt0 rt0 come_rt0 come_rt0
              rw [decide_eq_true rfl] at h
              exact h
            clear hb4 hb45 hb25 hW5 h5 HT HB2
            have HN : Hid (∃ m : Nat, m ≤ 100 ∧ Value.int .i64 (n + 1) = .int .i64 m ∧ Below w.heap.size w W5) := ⟨n + 1, HLT.out, rfl, HB5.out⟩
            go_upto_region 18 with fail
            rw [← HW5.out, ← hG5]
            clear HW5 hG5
            go_wp2
            go_roundw
            case rel => exact ⟨_, _, _, _, _, _, _, _, _, _, _, _, _, _, _, _, _, _, _, _, _, _, _, _, _, _, _, _, _, _, _, _, _, _, _, _, _, HN.out, rfl⟩
            case measure => simp [intOf]; have := HLT.out; omega
        · obtain rfl : n = 100 := by omega
          clear hn hlt
          obtain ⟨W0, hW0⟩ : ∃ W, W = wr.alloc (.cells #[.int .u64 0, .int .i64 9223372036854775807, .int .i64 0, .int .u64 0, .int .i64 0, .int .u64 0, .int .i64 0, .int .u64 0, .int .i64 0, .int .u64 0, .int .i64 0, .int .u64 0] 27) := ⟨_, rfl⟩
          obtain ⟨G, hG⟩ : ∃ G, G = wr.heap.size := ⟨_, rfl⟩
          have h0 : W0.heap[G]? = some (.cells #[.int .u64 0, .int .i64 9223372036854775807, .int .i64 0, .int .u64 0, .int .i64 0, .int .u64 0, .int .i64 0, .int .u64 0, .int .i64 0, .int .u64 0, .int .i64 0, .int .u64 0] 27 (0, 0)) := by rw [hW0, hG]; exact heap_alloc_new wr _
          have hb01 : Below wr.heap.size wr W0 := by rw [hW0]; exact (Below.refl _ _).alloc (Nat.le_refl _) _
          have hb0 : Below w.heap.size w W0 := HB.out.trans (hb01.mono HB.out.size)
          obtain ⟨WF, hWF⟩ : ∃ W, W = (W0.setCell ⟨G, 10, none⟩ (.int .i64 258)).setCell ⟨G, 11, none⟩ (.int .u64 18446744073709551615) := ⟨_, rfl⟩
          have hF : WF.heap[G]? = some (.cells #[.int .u64 0, .int .i64 9223372036854775807, .int .i64 0, .int .u64 0, .int .i64 0, .int .u64 0, .int .i64 0, .int .u64 0, .int .i64 0, .int .u64 0, .int .i64 258, .int .u64 18446744073709551615] 27 (0, 0)) := by rw [hWF]; exact heap_setCell_same _ G 11 _ _ _ (heap_setCell_same W0 G 10 _ _ _ h0)
          have hgw := Nat.le_trans HB.out.size (Nat.le_of_eq hG.symm)
          have hbF : Below w.heap.size w WF := by rw [hWF]; exact Below.setCell (p := ⟨G, 11, none⟩) (Below.setCell (p := ⟨G, 10, none⟩) hb0 hgw _) hgw _
          have q10 := free_of h0 10; have q11 := free_of h0 11; have r10 := cells_of h0 10; have r11 := cells_of h0 11
          simp only [List.getElem?_toArray, List.getElem?_cons_zero, List.getElem?_cons_succ] at r10 r11
          have HWF := Lib.hid hWF; have HF := Lib.hid hF; have HBF := Lib.hid hbF; have HW0 := Lib.hid hW0
          clear hW0 hb01 hb0 hWF hF hbF h0 hgw
          go_upto_region 21 with fail
          rw [← HW0.out, ← hG]
          clear HW0 hG HB
          go_upto_region 22 with fail
          rw [← HWF.out]
          clear HWF q10 q11 r10 r11
          have a0 := cells_of HF.out 0
          have a1 := cells_of HF.out 1
          have a2 := cells_of HF.out 2
          have a3 := cells_of HF.out 3
          have a4 := cells_of HF.out 4
          have a5 := cells_of HF.out 5
          have a6 := cells_of HF.out 6
          have a7 := cells_of HF.out 7
          have a8 := cells_of HF.out 8
          have a9 := cells_of HF.out 9
          have a10 := cells_of HF.out 10
          have a11 := cells_of HF.out 11
          simp only [List.getElem?_toArray, List.getElem?_cons_zero, List.getElem?_cons_succ] at a0 a1 a2 a3 a4 a5 a6 a7 a8 a9 a10 a11
          have HP : Calls Try.prog 9 #[.agg #[.int .u64 0, .int .i64 9223372036854775807, .int .i64 0, .int .u64 0, .int .i64 0, .int .u64 0, .int .i64 0, .int .u64 0, .int .i64 0, .int .u64 0, .int .i64 258, .int .u64 18446744073709551615]] WF (Rows WF (putRt ⟨0, 9223372036854775807, [⟨0, 0⟩, ⟨0, 0⟩, ⟨0, 0⟩, ⟨0, 0⟩, ⟨258, 18446744073709551615⟩]⟩)) := put_any WF ⟨0, 9223372036854775807, [⟨0, 0⟩, ⟨0, 0⟩, ⟨0, 0⟩, ⟨0, 0⟩, ⟨258, 18446744073709551615⟩]⟩ (come_bad (by decide) (by decide) rfl (by decide))
          rw [show putRt ⟨0, 9223372036854775807, [⟨0, 0⟩, ⟨0, 0⟩, ⟨0, 0⟩, ⟨0, 0⟩, ⟨258, 18446744073709551615⟩]⟩ = [127, 255, 255, 255, 255, 255, 255, 255, 0, 0, 0, 0, 0, 0, 0, 0, 0, 0, 0, 0, 0, 0, 0, 0, 0, 0, 0, 0, 0, 0, 0, 0, 0, 0, 0, 0, 0, 0, 0, 0, 0, 0, 0, 0, 0, 0, 0, 0, 0, 0, 0, 0, 0, 0, 0, 0, 0, 0, 0, 0, 0, 0, 0, 0, 0, 0, 0, 0, 0, 0, 0, 0, 0, 0, 0, 0, 0, 0, 1, 2, 255, 255, 255, 255, 255, 255, 255, 255] by decide +kernel] at HP
          go_wp2_with fail
          refine HP.mono ?_
          clear HP a0 a1 a2 a3 a4 a5 a6 a7 a8 a9 a10 a11
          rintro z w7 ⟨v7, rfl, ho7, hb7⟩
          obtain ⟨p7, c7, rfl⟩ := shape_of ho7
          have hy7 := owns_bytes ho7 (by decide) (by decide)
          obtain ⟨bb, oo, rfl, hc0⟩ := hy7.spot 0 (by decide)
          obtain ⟨q, cq, hfr, hyq⟩ := from_run (i := 72) (n := 16) hy7 (by decide)
          rw [show pc [127, 255, 255, 255, 255, 255, 255, 255, 0, 0, 0, 0, 0, 0, 0, 0, 0, 0, 0, 0, 0, 0, 0, 0, 0, 0, 0, 0, 0, 0, 0, 0, 0, 0, 0, 0, 0, 0, 0, 0, 0, 0, 0, 0, 0, 0, 0, 0, 0, 0, 0, 0, 0, 0, 0, 0, 0, 0, 0, 0, 0, 0, 0, 0, 0, 0, 0, 0, 0, 0, 0, 0, 0, 0, 0, 0, 0, 0, 1, 2, 255, 255, 255, 255, 255, 255, 255, 255] 72 16 = [0, 0, 0, 0, 0, 0, 1, 2, 255, 255, 255, 255, 255, 255, 255, 255] by decide +kernel] at hyq
          have hcap : 88 ≤ c7 := hy7.room.2
          have hfr1 : (Instr.slice 28 (.slice (some ⟨bb, oo, none⟩) 88 c7) (some (.int .i64 (72 : Int))) none none).run Try.prog w7 = .ok (.slice q 16 cq) w7 := hfr w7
          rw [run_slice_l (P := Try.prog) w7 28 (some ⟨bb, oo, none⟩) 88 c7 (by kernel_rfl) .i64 (72 : Int) (by omega) (by omega)] at hfr1
          have hn72 : ¬ c7 = 72 := by omega
          have hn73 : ¬ c7 - 72 = 0 := by omega
          rw [bytT_size w7] at hfr1
          simp [Result.andThen, sliced, hn72, hn73, Addr.add] at hfr1
          obtain ⟨rfl, rfl⟩ := hfr1
          clear hfr
          have hsq := hyq.toString (P := Try.prog) byT (d := 9) (by kernel_rfl)
          rw [show strOf [0, 0, 0, 0, 0, 0, 1, 2, 255, 255, 255, 255, 255, 255, 255, 255] = ⟨#[0, 0, 0, 0, 0, 0, 1, 2, 255, 255, 255, 255, 255, 255, 255, 255]⟩ from rfl] at hsq
          rw [show ([127, 255, 255, 255, 255, 255, 255, 255, 0, 0, 0, 0, 0, 0, 0, 0, 0, 0, 0, 0, 0, 0, 0, 0, 0, 0, 0, 0, 0, 0, 0, 0, 0, 0, 0, 0, 0, 0, 0, 0, 0, 0, 0, 0, 0, 0, 0, 0, 0, 0, 0, 0, 0, 0, 0, 0, 0, 0, 0, 0, 0, 0, 0, 0, 0, 0, 0, 0, 0, 0, 0, 0, 0, 0, 0, 0, 0, 0, 1, 2, 255, 255, 255, 255, 255, 255, 255, 255] : List Nat).length = 88 from rfl]
          have hc1 : w7.cell? ⟨bb, oo, none⟩ = some (.int .u8 127) := hc0
          have HB7 := Lib.hid (HBF.out.trans (hb7.mono HBF.out.size))
          clear ho7 hb7 hy7 hyq hc0 HF HBF
          go_wp2
          go_ret
          exact ⟨rfl, HB7.out⟩

set_option maxRecDepth 100000 in
theorem rootForms_lifted (os : Os) (started : os.Started) (H : Type) (enc : TypeId × Value → H) :
    ReturnsInHanded {} Try.checked os 5 .any (Rows.rootFormsSpec.pre6 enc Try.prog Try.f5 Rows.rootFormsRow.domain false) (Rows.rootFormsSpec.post enc Try.prog Try.f5 false true false false) := by
  refine returnsInHanded_of_change (C := Try.checked) own_none started (by kernel_rfl) Try.func5
    (ChangeSpec.witness6 (enc := enc) (C := Try.checked) false ⟨#[], #[], []⟩ 8 (by kernel_rfl) (by kernel_rfl) (by kernel_rfl) (by kernel_rfl)) ?_
  intro W base args ds gs before hval0 hW hcnd _
  have hW' := hW
  obtain ⟨p, q, hA0, hV, rfl, hfz, hnd⟩ := hW
  have hA : DataW.TrodAll enc Try.prog W 0 (fun _ => true) true Try.f5.params.toList args.toList ds p := hA0
  have hp : Try.f5.params = #[] := by kernel_rfl
  rw [hp] at hA
  obtain ⟨rfl, rfl, rfl⟩ := trodAll_none hA
  obtain ⟨rfl, rfl⟩ := trodVars_none hV
  refine (rootForms_any (w := W)).mono fun e W' ⟨he, hb⟩ => ?_
  subst he
  exact ⟨_, rfl, law_post (tb := 4) laidOut (by rw [hp]; intro t ht; simp at ht) rfl rfl (by kernel_rfl) (by kernel_rfl) hW' hb⟩

theorem rootForms_holds : Rows.RootFormsSaid :=
  OpenClaim.holds_of_wide 5 Try.f5 rfl rfl rfl rfl rfl rfl rfl ⟨rfl, rfl, rfl, rfl, rfl⟩ rfl rfl rfl rfl rfl (by kernel_rfl) Try.func5 (by kernel_rfl)
    (of_decide_eq_true (by kernel_rfl)) (by unfold Func.isWrapper; rw [if_neg (by decide +kernel)]; exact ⟨rfl, rfl⟩)
    (fun os started H enc _ => rootForms_lifted os started H enc)
end Go.Proofs.Ytkhpblclpcgjnaa

