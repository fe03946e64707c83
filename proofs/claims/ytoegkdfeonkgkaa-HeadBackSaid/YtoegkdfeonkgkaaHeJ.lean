/- Heads in a program: what Take tells. -/
import Derived.Test.YtoegkdfeonkgkaaHeH
import Derived.Test.YtoegkdfeonkgkaaHeF
namespace Go.Proofs.Ytoegkdfeonkgkaa
open Go Go.RowKit Go.By

theorem atB_drop (l : List Nat) (k i : Nat) : atB (l.drop k) i = atB l (k + i) := by
  unfold atB
  rw [List.getD_eq_getElem?_getD, List.getD_eq_getElem?_getD, List.getElem?_drop]

def hdOk (l : List Nat) : Nat → Bool
  | 0 => decide (8 ≤ l.length)
  | 1 => decide (8 ≤ (l.drop 8).length)
  | _ => decide (1 ≤ ((l.drop 8).drop 8).length ∧ atB ((l.drop 8).drop 8) 0 ≤ 1)
def hdRest (l : List Nat) : Nat → List Nat
  | 0 => l
  | 1 => l.drop 8
  | 2 => (l.drop 8).drop 8
  | _ => ((l.drop 8).drop 8).drop 1
def hdS (A : Nat) (l : List Nat) : Nat → World → Prop
  | 0, W => W.heap[A]? = some (.cells #[.int .i64 0, .int .i64 0, .bool false] 45 (0, 0))
  | 1, W => W.heap[A]? = some (.cells #[.int .i64 (RowKit.wrap64 (numOf (l.take 8) : Nat)), .int .i64 0, .bool false] 45 (0, 0))
  | 2, W => W.heap[A]? = some (.cells #[.int .i64 (RowKit.wrap64 (numOf (l.take 8) : Nat)), .int .i64 (RowKit.wrap64 (numOf ((l.drop 8).take 8) : Nat)), .bool false] 45 (0, 0))
  | _, W => W.heap[A]? = some (.cells #[.int .i64 (RowKit.wrap64 (numOf (l.take 8) : Nat)), .int .i64 (RowKit.wrap64 (numOf ((l.drop 8).take 8) : Nat)), .bool (decide (atB ((l.drop 8).drop 8) 0 = 1))] 45 (0, 0))

theorem takeHdRow (v : Value) (l : List Nat) (rb : Nat) (w : World) (hv : Bytes w v l) (hr : w.heap[rb]? = some (.cells #[.func (.func 25) #[] #[], .func (.func 26) #[] #[], .func (.func 27) #[] #[]] 49 (0, 0))) :
    Calls Try.prog 23 #[v, .func (.func 24) #[] #[], .slice (some ⟨rb, 0, none⟩) 3 3] w fun z w' => z = .returned (hdV l) ∧ Below w.heap.size w w' := by
  have hs := hv.small
  have hif := takeHd_if hs
  have e16 : atB ((l.drop 8).drop 8) 0 = atB l 16 := by rw [atB_drop, atB_drop]
  refine (take_head v l 24 (mayHd (rdHd l)) (decide (l.length = 17 ∧ atB l 16 ≤ 1 ∧ mayHd (rdHd l) = true))
    [25, 26, 27] (hdOk l) (hdRest l) (hdS (w.heap.size + 1) l)
    (fun x0 x1 x2 _ => x0 = (rdHd l).nx ∧ x1 = (rdHd l).fi ∧ x2 = (rdHd l).tb) rb w hv (by decide) rfl
    (fun W _ h => h) ?_ ?_ ?_ ?_ ?_ ?_ (fun args w => by kernel_rfl) ?_ (Array.getElem?_eq_some_iff.1 hr).1).mono ?_
  · intro i f h
    match i, h with
    | 0, h => cases h; exact hd_tNext w _ 0 0 false l (by omega)
    | 1, h => cases h; exact hd_tFirst w _ _ 0 false (l.drop 8) (by omega)
    | 2, h => cases h; exact hd_tTomb w _ _ _ false ((l.drop 8).drop 8) (fun c hc => hs c (List.mem_of_mem_drop (List.mem_of_mem_drop hc))) (by omega)
    | k + 3, h => simp at h
  · intro W hS hok
    refine ⟨_, _, _, hS, fun _ => ?_, rfl, rfl, ?_⟩
    · have h1 := may_head (RowKit.wrap64 (numOf (l.take 8) : Nat)) (RowKit.wrap64 (numOf ((l.drop 8).take 8) : Nat)) (decide (atB ((l.drop 8).drop 8) 0 = 1))
      have h2 : mayHd ⟨RowKit.wrap64 (numOf (l.take 8) : Nat), RowKit.wrap64 (numOf ((l.drop 8).take 8) : Nat), decide (atB ((l.drop 8).drop 8) 0 = 1)⟩ = mayHd (rdHd l) := by rw [e16]; rfl
      rw [h2] at h1
      exact h1
    · rw [e16]; rfl
  · intro x0 x1 x2 W W' h _ _
    exact h
  · intro j hj h
    rw [decide_eq_false]
    rintro ⟨h17, h1, _⟩
    match j, hj, h with
    | 0, _, h => have := of_decide_eq_false h; omega
    | 1, _, h => have := of_decide_eq_false h; rw [List.length_drop] at this; omega
    | 2, _, h =>
      refine of_decide_eq_false h ⟨by rw [List.length_drop, List.length_drop]; omega, ?_⟩
      rw [e16]; exact h1
  · intro h
    rw [decide_eq_false]
    rintro ⟨h17, _, _⟩
    refine h ?_
    show ((l.drop 8).drop 8).drop 1 = []
    rw [List.drop_drop, List.drop_drop, List.drop_of_length_le (by omega)]
  · intro hok hnil
    have k2 := of_decide_eq_true (hok 2 (by decide))
    have k3 : (((l.drop 8).drop 8).drop 1).length = 0 := by
      have h3 : hdRest l 3 = [] := hnil
      show (hdRest l 3).length = 0
      rw [h3]; rfl
    rw [e16] at k2
    simp only [List.length_drop] at k2 k3
    have hl : l.length = 17 := by omega
    cases hq : mayHd (rdHd l) with
    | true => exact decide_eq_true ⟨hl, k2.2, rfl⟩
    | false => exact decide_eq_false (fun h => by simp at h)
  · intro i f h
    match i, h with
    | 0, h => cases h; exact cells_of hr 0
    | 1, h => cases h; exact cells_of hr 1
    | 2, h => cases h; exact cells_of hr 2
    | k + 3, h => simp at h
  · rintro z w' ⟨hb, h⟩
    refine ⟨?_, hb⟩
    rcases h with ⟨hg, x0, x1, x2, hz, h0, h1, h2⟩ | ⟨hg, hz⟩
    · have hc := of_decide_eq_true hg
      rw [if_pos hc] at hif
      rw [hz, hdV_yes hif, h0, h1, h2]
    · have hc := of_decide_eq_false hg
      rw [if_neg hc] at hif
      rw [hz, hdV_no hif]

theorem head_told {tmps : Array Value} {w : World} {A : Nat} {cs : Array Value} {x : Value} (hp : tmps.getD 2 undef = .pointer (some ⟨A, 0, none⟩)) (hx : tmps.getD 3 undef = x) (hg : w.heap[A]? = some (.cells cs 23 (0, 0))) (hc : cs.size = 3) :
    (results Try.f7 tmps).run Try.prog w = .ok (.tuple #[.agg cs, x]) w := by
  have hi : (Try.prog.info? 23).map (·.size) = some cs.size := by rw [hc]; kernel_rfl
  have hq : (Try.prog.underlying 23).map (fun d => match d with | .struct _ | .array _ _ => true | _ => false) = some true := by kernel_rfl
  obtain ⟨d, hu, hd⟩ := Option.map_eq_some_iff.1 hq
  rw [results_cell_tmp (p := 2) (u := 3) (ty := 23) (by kernel_rfl), hp, hx]
  have := run_loadVar_row (P := Try.prog) w A 23 23 cs (0, 0) d hg hu (by cases d <;> simp_all) hi
  simp [asAddr, this, Result.andThen]

set_option maxRecDepth 100000 in
theorem takeHead_any (v : Value) (l : List Nat) (w : World) (hv : Bytes w v l) :
    Calls Try.prog 7 #[v] w fun z w' => z = .returned (hdV l) ∧ Below w.heap.size w w' := by
  obtain ⟨p, cap, rfl, _⟩ := hv.any
  obtain ⟨w1, hw1⟩ : ∃ W, W = (w.alloc (.cells #[.int .i64 0, .int .i64 0, .bool false] 23)).alloc (.cells #[.func (.func 25) #[] #[], .func (.func 26) #[] #[], .func (.func 27) #[] #[]] 49) := ⟨_, rfl⟩
  have hz1 : w1.heap.size = w.heap.size + 2 := by rw [hw1]; simp
  have hb1 : Below w.heap.size w w1 := by rw [hw1]; exact ((Below.refl _ _).alloc (Nat.le_refl _) _).alloc (by simp) _
  have ha1 : w1.heap[w.heap.size]? = some (.cells #[.int .i64 0, .int .i64 0, .bool false] 23 (0, 0)) := by rw [hw1]; exact (Below.heap_alloc _ _ _ (by simp)).trans (heap_alloc_new w _)
  have hr1 : w1.heap[w.heap.size + 1]? = some (.cells #[.func (.func 25) #[] #[], .func (.func 26) #[] #[], .func (.func 27) #[] #[]] 49 (0, 0)) := by rw [hw1]; simpa using heap_alloc_new (w.alloc (.cells #[.int .i64 0, .int .i64 0, .bool false] 23)) _
  have HC := Lib.hid (takeHdRow _ l _ w1 (hv.below hb1) hr1)
  have HB := Lib.hid hb1; have HA := Lib.hid ha1; have HW := Lib.hid hw1; have HZ := Lib.hid hz1
  clear hv hb1 ha1 hw1 hz1 hr1
  go_enter Try.func7, Try.ntmps7
  go_wp2_with fail
  rw [← HW.out]
  refine HC.out.mono ?_
  rintro e w2 ⟨rfl, hb2⟩
  have hA2 := (hb2.block w.heap.size (by have := HZ.out; omega)).trans HA.out
  have hV : hdV l = .tuple #[.agg #[.int .i64 (hdH l).nx, .int .i64 (hdH l).fi, .bool (hdH l).tb], .int .i64 (hdC l)] := rfl
  rw [hV]
  have HVV := Lib.hid hV
  have hlt2 : w.heap.size < w2.heap.size := by have := hb2.size; have := HZ.out; omega
  generalize (hdH l).nx = x0 at *
  generalize (hdH l).fi = x1 at *
  generalize (hdH l).tb = x2 at *
  generalize (hdC l) = x3 at *
  have a0 := cells_of hA2 0; have a1 := cells_of hA2 1; have a2 := cells_of hA2 2
  have q0 := free_of hA2 0; have q1 := free_of hA2 1; have q2 := free_of hA2 2
  have hA3 := three_set hA2 (.int .i64 x0) (.int .i64 x1) (.bool x2)
  have hb3 := three_below (A := w.heap.size) (HB.out.trans (hb2.mono HB.out.size)) (Nat.le_refl _) (.int .i64 x0) (.int .i64 x1) (.bool x2)
  have hlt3 := (Array.getElem?_eq_some_iff.1 hA3).1
  have HX := Lib.hid ((Below.heap_alloc _ (.cells #[.int .i64 x0, .int .i64 x1, .bool x2] 45) _ hlt3).trans hA3)
  have HBX := Lib.hid (hb3.alloc (Nat.le_of_lt hlt3) (.cells #[.int .i64 x0, .int .i64 x1, .bool x2] 45))
  clear hb2 hA2 hV hb3 hA3 hlt3
  go_wp2
  exact bodyPost_ret (head_told rfl rfl HX.out rfl) rfl ⟨by rw [HVV.out]; rfl, HBX.out⟩
end Go.Proofs.Ytoegkdfeonkgkaa

