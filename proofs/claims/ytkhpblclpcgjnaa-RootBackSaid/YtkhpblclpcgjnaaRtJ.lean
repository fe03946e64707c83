/- Roots in a program: Put as the laws meet it. -/
import Derived.Test.YtkhpblclpcgjnaaRtH
namespace Go.Proofs.Ytkhpblclpcgjnaa
open Go Go.RowKit Go.By

set_option maxRecDepth 100000 in
set_option maxHeartbeats 2000000 in
theorem put_any (w : World) (r : Rt) (hr : RtCome r) :
    Calls Try.prog 9 #[.agg (rtCells r).toArray] w (Rows w (putRt r)) := by
  obtain ⟨W, hW⟩ : ∃ W, W = w.alloc (.cells (rtCells r).toArray 27) := ⟨_, rfl⟩
  have hb : Below w.heap.size w W := by rw [hW]; exact (Below.refl _ _).alloc (Nat.le_refl _) _
  have hcW : W.heap[w.heap.size]? = some (.cells (rtCells r).toArray 27 (0, 0)) := by rw [hW]; exact heap_alloc_new w _
  have HM := Lib.hid (may_root r hr.five W)
  have HFIVE := Lib.hid hr.five; have HNX := Lib.hid hr.nx; have HTS := Lib.hid hr.ts
  have HLAID : Hid (mayRt r = true → ∀ (v : Value) (base : Nat) (w : World) (rb : Nat), w.ownsRow base 5 1 v 0 [] → base ≤ w.heap.size →
      w.heap[rb]? = some (.cells #[.func (.func 17) #[] #[], .func (.func 18) #[] #[]] 45 (0, 0)) → v.ownBlock ≠ some rb →
      Calls Try.prog 16 #[.agg (rtCells r).toArray, v, .slice (some ⟨rb, 0, none⟩) 2 2] w (RowsG w base v (putRt r))) := fun hm v base w rb hv hb hr1 hne => by
    obtain ⟨h0, h1⟩ := (mayRt_iff r).1 hm
    have := root_laid r hr.five h0 hr.nx.2 (fun d hd => ⟨((mayRf_iff d).1 (h1 d hd)).1, (hr.ts d hd).2.1, (hr.ts d hd).2.2⟩) v base w hv hb rb hr1 hne
    unfold putRt
    rw [if_pos hm]
    exact this
  have HNO : Hid (mayRt r = false → putRt r = []) := fun h => by unfold putRt; rw [h]; rfl
  generalize hP : putRt r = P at *
  clear hP
  generalize hq : mayRt r = q at *
  clear hq
  obtain ⟨g, nx, ts⟩ := r
  obtain ⟨a, b, c, d, e, ht⟩ := five_of hr.five
  dsimp only at ht
  subst ht
  have HB := Lib.hid hb; have HW := Lib.hid hW; have HCW := Lib.hid hcW
  have HL : Hid (w.heap.size < W.heap.size) := (Array.getElem?_eq_some_iff.1 hcW).1
  have a0 := cells_of hcW 0
  have a1 := cells_of hcW 1
  have a2 := cells_of hcW 2
  have a3 := cells_of hcW 3
  have a4 := cells_of hcW 4
  have a5 := cells_of hcW 5
  have a6 := cells_of hcW 6
  have a7 := cells_of hcW 7
  have a8 := cells_of hcW 8
  have a9 := cells_of hcW 9
  have a10 := cells_of hcW 10
  have a11 := cells_of hcW 11
  clear hb hcW hW hr
  obtain ⟨Z, hZ, hmk⟩ : (∃ Z : Array Value, Z.size = 88 ∧ ∀ w, (Instr.makeSlice 28 (.int .i64 0) (.int .i64 88)).run Try.prog w = .ok (.slice (some ⟨w.heap.size, 0, none⟩) 0 88) (w.alloc (.cells Z 5))) := ⟨zeros 88, zeros_size 88, fun w => made_run 0 88 0 88 rfl rfl (by omega) (by omega) w⟩
  have HZ := Lib.hid hZ
  clear hZ
  simp only [rtCells, rfCells, List.flatMap_cons, List.flatMap_nil, List.cons_append, List.nil_append, List.append_nil, List.getElem?_toArray, List.getElem?_cons_zero, List.getElem?_cons_succ] at HM HW HCW HLAID a0 a1 a2 a3 a4 a5 a6 a7 a8 a9 a10 a11 ⊢
  go_enter Try.func9, Try.ntmps9
  go_upto_region 1 with fail
  rw [← HW.out]
  clear HW
  go_wp2_with fail
  refine HM.out.mono ?_
  rintro e1 w1 ⟨rfl, hb1⟩
  have hc1 := (hb1.block w.heap.size HL.out).trans HCW.out
  have HB1 : Hid (Below w.heap.size w w1) := HB.out.trans (hb1.mono HB.out.size)
  have HLE : Hid (W.heap.size ≤ w1.heap.size) := hb1.size
  clear hb1 HM a0 a1 a2 a3 a4 a5 a6 a7 a8 a9 a10 a11
  have b0 := cells_of hc1 0
  have b1 := cells_of hc1 1
  have b2 := cells_of hc1 2
  have b3 := cells_of hc1 3
  have b4 := cells_of hc1 4
  have b5 := cells_of hc1 5
  have b6 := cells_of hc1 6
  have b7 := cells_of hc1 7
  have b8 := cells_of hc1 8
  have b9 := cells_of hc1 9
  have b10 := cells_of hc1 10
  have b11 := cells_of hc1 11
  simp only [List.getElem?_toArray, List.getElem?_cons_zero, List.getElem?_cons_succ] at b0 b1 b2 b3 b4 b5 b6 b7 b8 b9 b10 b11
  clear hc1
  have hlt1 : w.heap.size < w1.heap.size := Nat.lt_of_lt_of_le HL.out HLE.out
  cases q with
  | false =>
    have HE : Hid (P = []) := HNO.out rfl
    go_wp2
    go_ret
    exact ⟨_, rfl, by rw [HE.out]; exact World.ownsRow_nil _ _ _ _, HB1.out⟩
  | true =>
    have HA0 : Hid (w.heap.size ≤ w1.heap.size) := HB1.out.size
    obtain ⟨WA, hWA⟩ : ∃ x, x = (w1.alloc (.cells Z 5)).alloc (.cells #[.func (.func 17) #[] #[], .func (.func 18) #[] #[]] 45) := ⟨_, rfl⟩
    obtain ⟨WC, hWC⟩ : ∃ x, x = (w1.alloc (.cells #[.func (.func 17) #[] #[], .func (.func 18) #[] #[]] 45)).alloc (.cells Z 5) := ⟨_, rfl⟩
    have hzA : WA.heap.size = w1.heap.size + 2 := by rw [hWA]; simp
    have hzC : WC.heap.size = w1.heap.size + 2 := by rw [hWC]; simp
    have hoA : WA.ownsRow w.heap.size 5 1 (.slice (some ⟨w1.heap.size, 0, none⟩) 0 88) 0 [] := by rw [hWA]; exact (World.ownsRow_made w1 Z 88 HA0.out (by decide) (by rw [HZ.out])).alloc _
    have hoC : WC.ownsRow w.heap.size 5 1 (.slice (some ⟨w1.heap.size + 1, 0, none⟩) 0 88) 0 [] := by
      rw [hWC]
      have := World.ownsRow_made (base := w.heap.size) (e := 5) (size := 1) (w1.alloc (.cells #[.func (.func 17) #[] #[], .func (.func 18) #[] #[]] 45)) Z 88 (by simp; have := HA0.out; omega) (by decide) (by rw [HZ.out])
      simpa using this
    have hrA : WA.heap[w1.heap.size + 1]? = some (.cells #[.func (.func 17) #[] #[], .func (.func 18) #[] #[]] 45 (0, 0)) := by
      rw [hWA]
      have := heap_alloc_new (w1.alloc (.cells Z 5)) (.cells #[.func (.func 17) #[] #[], .func (.func 18) #[] #[]] 45)
      simpa using this
    have hrC : WC.heap[w1.heap.size]? = some (.cells #[.func (.func 17) #[] #[], .func (.func 18) #[] #[]] 45 (0, 0)) := by
      rw [hWC]; exact (Below.heap_alloc _ _ _ (by simp)).trans (heap_alloc_new w1 _)
    have hbA : Below w.heap.size w WA := by rw [hWA]; exact (HB1.out.alloc HA0.out _).alloc (by simp; have := HA0.out; omega) _
    have hbC : Below w.heap.size w WC := by rw [hWC]; exact (HB1.out.alloc HA0.out _).alloc (by simp; have := HA0.out; omega) _
    have HSA : Hid (w.heap.size ≤ WA.drew.heap.size) := by show w.heap.size ≤ WA.heap.size; rw [hzA]; have := HA0.out; omega
    have HSC : Hid (w.heap.size ≤ WC.drew.heap.size) := by show w.heap.size ≤ WC.heap.size; rw [hzC]; have := HA0.out; omega
    have HA := Lib.hid (HLAID.out rfl (.slice (some ⟨w1.heap.size, 0, none⟩) 0 88) w.heap.size WA.drew (w1.heap.size + 1) hoA HSA.out hrA (by simp [Value.ownBlock]))
    have HC := Lib.hid (HLAID.out rfl (.slice (some ⟨w1.heap.size + 1, 0, none⟩) 0 88) w.heap.size WC.drew w1.heap.size hoC HSC.out hrC (by simp [Value.ownBlock]))
    have HBA := Lib.hid hbA.drew; have HBC := Lib.hid hbC.drew
    have HWA := Lib.hid hWA; have HWC := Lib.hid hWC
    clear hWA hWC hzA hzC hoA hoC hrA hrC hbA hbC
    clear HLAID
    go_wp2
    go_region_law (first
      | (go_simp; go_at_call 16; rw [← HWA.out]; (with_reducible refine HA.out.mono ?_); rintro e2 w2 ⟨v2, rfl, ho2, hg2⟩; have HO2 := Lib.hid ho2; have HB2 : Hid (Below w.heap.size w w2) := hg2.below HBA.out HSA.out (fun k hk => by simp [Value.ownBlock] at hk; have := HA0.out; omega); clear ho2 hg2)
      | (go_simp; go_at_call 16; rw [← HWC.out]; (with_reducible refine HC.out.mono ?_); rintro e2 w2 ⟨v2, rfl, ho2, hg2⟩; have HO2 := Lib.hid ho2; have HB2 : Hid (Below w.heap.size w w2) := hg2.below HBC.out HSC.out (fun k hk => by simp [Value.ownBlock] at hk; have := HA0.out; omega); clear ho2 hg2))
    all_goals
      go_wp2
      go_ret
      exact ⟨_, rfl, HO2.out, HB2.out⟩
end Go.Proofs.Ytkhpblclpcgjnaa

