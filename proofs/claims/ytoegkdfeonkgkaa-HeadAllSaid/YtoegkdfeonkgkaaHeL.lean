/- Heads in a program: what TakeOff and TakeMark tell. -/
import Derived.Test.YtoegkdfeonkgkaaHeJ
namespace Go.Proofs.Ytoegkdfeonkgkaa
open Go Go.RowKit Go.By

def ofOk (l : List Nat) : Nat → Bool := fun _ => decide (8 ≤ l.length)
def ofRest (l : List Nat) : Nat → List Nat
  | 0 => l
  | _ => l.drop 8
def ofS (A : Nat) (l : List Nat) : Nat → World → Prop
  | 0, W => W.heap[A]? = some (.cells #[.int .i64 0] 66 (0, 0))
  | _, W => W.heap[A]? = some (.cells #[.int .i64 (RowKit.wrap64 (numOf (l.take 8) : Nat))] 66 (0, 0))

theorem takeOfRow (v : Value) (l : List Nat) (rb : Nat) (w : World) (hv : Bytes w v l) (hr : w.heap[rb]? = some (.cells #[.func (.func 39) #[] #[]] 70 (0, 0))) :
    Calls Try.prog 37 #[v, .func (.func 38) #[] #[], .slice (some ⟨rb, 0, none⟩) 1 1] w fun z w' => z = .returned (ofV l) ∧ Below w.heap.size w w' := by
  have hs := hv.small
  have hif := takeOf_if hs
  refine (take_place v l 38 (decide (0 ≤ RowKit.wrap64 (numOf (l.take 8) : Nat))) (decide (l.length = 8 ∧ 0 ≤ RowKit.wrap64 (numOf (l.take 8) : Nat)))
    [39] (ofOk l) (ofRest l) (ofS w.heap.size l)
    (fun x0 _ => x0 = RowKit.wrap64 (numOf (l.take 8) : Nat)) rb w hv (by decide) rfl
    (fun W _ h => h) ?_ ?_ ?_ ?_ ?_ ?_ (fun args w => by kernel_rfl) ?_ (Array.getElem?_eq_some_iff.1 hr).1).mono ?_
  · intro i f h
    match i, h with
    | 0, h => cases h; exact pl_tOff w _ 0 l (by omega)
    | k + 1, h => simp at h
  · intro W hS hok
    exact ⟨_, hS, fun _ => may_place _, rfl⟩
  · intro x0 W W' h _
    exact h
  · intro j hj h
    rw [decide_eq_false]
    rintro ⟨h17, _⟩
    have := of_decide_eq_false h
    omega
  · intro h
    rw [decide_eq_false]
    rintro ⟨h17, _⟩
    refine h ?_
    show l.drop 8 = []
    rw [List.drop_of_length_le (by omega)]
  · intro hok hnil
    have k2 := of_decide_eq_true (hok 0 (by decide))
    have k3 : (l.drop 8).length = 0 := by
      have h3 : ofRest l 1 = [] := hnil
      show (ofRest l 1).length = 0
      rw [h3]; rfl
    rw [List.length_drop] at k3
    have hl : l.length = 8 := by omega
    by_cases hq : 0 ≤ RowKit.wrap64 (numOf (l.take 8) : Nat)
    · rw [decide_eq_true hq]
      exact decide_eq_true ⟨hl, hq⟩
    · rw [decide_eq_false hq]
      exact decide_eq_false (fun h => hq h.2)
  · intro i f h
    match i, h with
    | 0, h => cases h; exact cells_of hr 0
    | k + 1, h => simp at h
  · rintro z w' ⟨hb, h⟩
    refine ⟨?_, hb⟩
    rcases h with ⟨hg, x0, hz, h0⟩ | ⟨hg, hz⟩
    · have hc := of_decide_eq_true hg
      rw [if_pos hc] at hif
      rw [hz, ofV_yes hif, h0]
    · have hc := of_decide_eq_false hg
      rw [if_neg hc] at hif
      rw [hz, ofV_no hif]

set_option maxRecDepth 100000 in
theorem takeOff_any (v : Value) (l : List Nat) (w : World) (hv : Bytes w v l) :
    Calls Try.prog 13 #[v] w fun z w' => z = .returned (ofV l) ∧ Below w.heap.size w w' := by
  obtain ⟨p, cap, rfl, _⟩ := hv.any
  obtain ⟨w1, hw1⟩ : ∃ W, W = w.alloc (.cells #[.func (.func 39) #[] #[]] 70) := ⟨_, rfl⟩
  have hb1 : Below w.heap.size w w1 := by rw [hw1]; exact (Below.refl _ _).alloc (Nat.le_refl _) _
  have hr1 : w1.heap[w.heap.size]? = some (.cells #[.func (.func 39) #[] #[]] 70 (0, 0)) := by rw [hw1]; exact heap_alloc_new w _
  have HC := Lib.hid (takeOfRow _ l _ w1 (hv.below hb1) hr1)
  have HB := Lib.hid hb1; have HW := Lib.hid hw1
  clear hv hb1 hw1 hr1
  go_enter Try.func13, Try.ntmps13
  go_wp2_with fail
  rw [← HW.out]
  refine HC.out.mono ?_
  rintro e w2 ⟨rfl, hb2⟩
  have hV : ofV l = .tuple #[.int .i64 (ofN l), .int .i64 (ofC l)] := rfl
  rw [hV]
  have HVV := Lib.hid hV
  have HB2 := Lib.hid (HB.out.trans (hb2.mono HB.out.size))
  generalize ofN l = x0 at *
  generalize ofC l = x1 at *
  clear hb2 hV
  go_wp2
  go_ret2
  exact ⟨by rw [HVV.out]; rfl, HB2.out⟩

def mkOk (l : List Nat) : Nat → Bool
  | 0 => decide (8 ≤ l.length)
  | _ => decide ((l.drop 8).length ≤ 100)
def mkRest (l : List Nat) : Nat → List Nat
  | 0 => l
  | 1 => l.drop 8
  | _ => []
def mkS (A : Nat) (l : List Nat) : Nat → World → Prop
  | 0, W => W.heap[A]? = some (.cells #[.int .i64 0, .slice none 0 0] 60 (0, 0))
  | 1, W => W.heap[A]? = some (.cells #[.int .i64 (RowKit.wrap64 (numOf (l.take 8) : Nat)), .slice none 0 0] 60 (0, 0))
  | _, W => ∃ p g, W.heap[A]? = some (.cells #[.int .i64 (RowKit.wrap64 (numOf (l.take 8) : Nat)), .slice p (l.drop 8).length g] 60 (0, 0)) ∧ Bytes W (.slice p (l.drop 8).length g) (l.drop 8)

theorem no_byte2 (x : Int) (p : Option Addr) (k g : Nat) (i : Nat) (n : Int) : (#[.int .i64 x, .slice p k g] : Array Value)[i]? ≠ some (.int .u8 n) := by
  intro h
  match i, h with
  | 0, h => simp at h
  | 1, h => simp at h
  | k + 2, h => simp at h

theorem takeMkRow (v : Value) (l : List Nat) (rb : Nat) (w : World) (hv : Bytes w v l) (hr : w.heap[rb]? = some (.cells #[.func (.func 35) #[] #[], .func (.func 36) #[] #[]] 64 (0, 0))) :
    Calls Try.prog 33 #[v, .func (.func 34) #[] #[], .slice (some ⟨rb, 0, none⟩) 2 2] w (TellsMk w l) := by
  have hs := hv.small
  have hif := takeMk_if hs
  refine (take_mark v l 34 (mayMk (rdMk l)) (decide (8 ≤ l.length ∧ l.length ≤ 108 ∧ mayMk (rdMk l) = true))
    [35, 36] (mkOk l) (mkRest l) (mkS (w.heap.size + 1) l)
    (fun x0 p9 k9 g9 W => x0 = RowKit.wrap64 (numOf (l.take 8) : Nat) ∧ Bytes W (.slice p9 k9 g9) (l.drop 8)) rb w hv (by decide) rfl
    (fun W _ h => h) ?_ ?_ ?_ ?_ ?_ ?_ (fun args w => by kernel_rfl) ?_ (Array.getElem?_eq_some_iff.1 hr).1).mono ?_
  · intro i f h
    match i, h with
    | 0, h => cases h; exact mk_tAt w _ 0 none 0 0 l (by omega)
    | 1, h => cases h; exact mk_tData w _ _ (l.drop 8) (by omega)
    | k + 2, h => simp at h
  · rintro W ⟨p, g, hS, hB⟩ hok
    exact ⟨_, _, _, _, hS, fun _ => may_mark _ _ _ _, rfl, hB⟩
  · rintro x0 p9 k9 g9 W W' ⟨h0, h1⟩ hz ho
    exact ⟨h0, ho.bytes hz (no_byte2 _ _ _ _) h1⟩
  · intro j hj h
    rw [decide_eq_false]
    rintro ⟨h8, h108, _⟩
    match j, hj, h with
    | 0, _, h => have := of_decide_eq_false h; omega
    | 1, _, h => have := of_decide_eq_false h; rw [List.length_drop] at this; omega
  · intro h
    exact absurd rfl h
  · intro hok _
    have k1 := of_decide_eq_true (hok 0 (by decide))
    have k2 := of_decide_eq_true (hok 1 (by decide))
    rw [List.length_drop] at k2
    cases hq : mayMk (rdMk l) with
    | true => exact decide_eq_true ⟨k1, by omega, rfl⟩
    | false => exact decide_eq_false (fun h => by simp at h)
  · intro i f h
    match i, h with
    | 0, h => cases h; exact cells_of hr 0
    | 1, h => cases h; exact cells_of hr 1
    | k + 2, h => simp at h
  · rintro z w' ⟨hb, h⟩
    refine ⟨?_, hb⟩
    rcases h with ⟨hg, x0, p9, k9, g9, hz, h0, h1⟩ | ⟨hg, hz⟩
    · have hc := of_decide_eq_true hg
      rw [if_pos hc] at hif
      obtain ⟨e1, e2⟩ := mk_yes hif
      refine ⟨_, ?_, by rw [e1]; exact h1⟩
      rw [hz, e1, e2, h0]; rfl
    · have hc := of_decide_eq_false hg
      rw [if_neg hc] at hif
      obtain ⟨e1, e2⟩ := mk_no hif
      refine ⟨_, ?_, by rw [e1]; exact Bytes.nil w'⟩
      rw [hz, e1, e2]

theorem mark_told {tmps : Array Value} {w : World} {A : Nat} {cs : Array Value} {x : Value} (hp : tmps.getD 2 undef = .pointer (some ⟨A, 0, none⟩)) (hx : tmps.getD 3 undef = x) (hg : w.heap[A]? = some (.cells cs 28 (0, 0))) (hc : cs.size = 2) :
    (results Try.f11 tmps).run Try.prog w = .ok (.tuple #[.agg cs, x]) w := by
  have hi : (Try.prog.info? 28).map (·.size) = some cs.size := by rw [hc]; kernel_rfl
  have hq : (Try.prog.underlying 28).map (fun d => match d with | .struct _ | .array _ _ => true | _ => false) = some true := by kernel_rfl
  obtain ⟨d, hu, hd⟩ := Option.map_eq_some_iff.1 hq
  rw [results_cell_tmp (p := 2) (u := 3) (ty := 28) (by kernel_rfl), hp, hx]
  have := run_loadVar_row (P := Try.prog) w A 28 28 cs (0, 0) d hg hu (by cases d <;> simp_all) hi
  simp [asAddr, this, Result.andThen]

set_option maxRecDepth 100000 in
theorem takeMark_any (v : Value) (l : List Nat) (w : World) (hv : Bytes w v l) :
    Calls Try.prog 11 #[v] w (TellsMk w l) := by
  obtain ⟨p, cap, rfl, _⟩ := hv.any
  obtain ⟨w1, hw1⟩ : ∃ W, W = (w.alloc (.cells #[.int .i64 0, .slice none 0 0] 28)).alloc (.cells #[.func (.func 35) #[] #[], .func (.func 36) #[] #[]] 64) := ⟨_, rfl⟩
  have hz1 : w1.heap.size = w.heap.size + 2 := by rw [hw1]; simp
  have hb1 : Below w.heap.size w w1 := by rw [hw1]; exact ((Below.refl _ _).alloc (Nat.le_refl _) _).alloc (by simp) _
  have ha1 : w1.heap[w.heap.size]? = some (.cells #[.int .i64 0, .slice none 0 0] 28 (0, 0)) := by rw [hw1]; exact (Below.heap_alloc _ _ _ (by simp)).trans (heap_alloc_new w _)
  have hr1 : w1.heap[w.heap.size + 1]? = some (.cells #[.func (.func 35) #[] #[], .func (.func 36) #[] #[]] 64 (0, 0)) := by rw [hw1]; simpa using heap_alloc_new (w.alloc (.cells #[.int .i64 0, .slice none 0 0] 28)) _
  have HC := Lib.hid (takeMkRow _ l _ w1 (hv.below hb1) hr1)
  have HB := Lib.hid hb1; have HA := Lib.hid ha1; have HW := Lib.hid hw1; have HZ := Lib.hid hz1
  clear hv hb1 ha1 hw1 hz1 hr1
  go_enter Try.func11, Try.ntmps11
  go_wp2_with fail
  rw [← HW.out]
  refine HC.out.mono ?_
  rintro e w2 ⟨⟨u, rfl, hu⟩, hb2⟩
  have hA2 := (hb2.block w.heap.size (by have := HZ.out; omega)).trans HA.out
  have hlt2 : w.heap.size < w2.heap.size := by have := hb2.size; have := HZ.out; omega
  obtain ⟨pu, cu, rfl, _⟩ := hu.any
  obtain ⟨x0, hx0⟩ : ∃ x, x = (mkM l).at_ := ⟨_, rfl⟩
  obtain ⟨x3, hx3⟩ : ∃ x, x = mkC l := ⟨_, rfl⟩
  obtain ⟨m, hm⟩ : ∃ x, x = (mkM l).da := ⟨_, rfl⟩
  rw [← hm] at hu
  rw [← hx0, ← hx3, ← hm]
  have HX0 := Lib.hid hx0; have HX3 := Lib.hid hx3; have HM := Lib.hid hm
  have a0 := cells_of hA2 0; have a1 := cells_of hA2 1
  have q0 := free_of hA2 0; have q1 := free_of hA2 1
  have hA3 := two_set hA2 (.int .i64 x0) (.slice pu m.length cu)
  have hb3 := two_below (A := w.heap.size) (HB.out.trans (hb2.mono HB.out.size)) (Nat.le_refl _) (.int .i64 x0) (.slice pu m.length cu)
  have hlt3 := (Array.getElem?_eq_some_iff.1 hA3).1
  have hu3 := ((Only.set w.heap.size 0 w2 (.int .i64 x0)).trans (Only.set w.heap.size 1 _ (.slice pu m.length cu))).bytes hA2 (no_byte2 _ _ _ _) hu
  have HX := Lib.hid ((Below.heap_alloc _ (.cells #[.int .i64 x0, .slice pu m.length cu] 60) _ hlt3).trans hA3)
  have HBX := Lib.hid (hb3.alloc (Nat.le_of_lt hlt3) (.cells #[.int .i64 x0, .slice pu m.length cu] 60))
  have HU := Lib.hid (hu3.below ((Below.refl _ _).alloc (Nat.le_refl _) (.cells #[.int .i64 x0, .slice pu m.length cu] 60)))
  clear hb2 hA2 hb3 hA3 hlt3 hu hu3 hx0 hx3 hm
  go_wp2
  exact bodyPost_ret (mark_told rfl rfl HX.out rfl) rfl ⟨⟨_, by rw [← HX0.out, ← HX3.out]; rfl, by rw [← HM.out]; exact HU.out⟩, HBX.out⟩
end Go.Proofs.Ytoegkdfeonkgkaa

