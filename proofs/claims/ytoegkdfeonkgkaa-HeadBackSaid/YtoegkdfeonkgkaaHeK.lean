/- Heads in a program: what TakeDone tells. -/
import Derived.Test.YtoegkdfeonkgkaaHeJ
namespace Go.Proofs.Ytoegkdfeonkgkaa
open Go Go.RowKit Go.By

theorem done_ct {l : List Nat} (hs : ∀ c ∈ l, c < 256) (hl : l.length = 10) : RowKit.wrap64 (numOf ((l.drop 8).take 2) : Nat) = (numOf (l.drop 8) : Nat) := by
  have hd : (l.drop 8).length = 2 := by rw [List.length_drop]; omega
  rw [List.take_of_length_le (by omega)]
  have h := numOf_lt (l.drop 8) (fun c hc => hs c (List.mem_of_mem_drop hc))
  rw [hd] at h
  exact wrap64_nat (by have : (256 : Nat) ^ 2 = 65536 := rfl; omega)

def dnOk (l : List Nat) : Nat → Bool
  | 0 => decide (8 ≤ l.length)
  | _ => decide (2 ≤ (l.drop 8).length)
def dnRest (l : List Nat) : Nat → List Nat
  | 0 => l
  | 1 => l.drop 8
  | _ => (l.drop 8).drop 2
def dnS (A : Nat) (l : List Nat) : Nat → World → Prop
  | 0, W => W.heap[A]? = some (.cells #[.int .i64 0, .int .i64 0, .bool false] 54 (0, 0))
  | 1, W => W.heap[A]? = some (.cells #[.int .i64 (RowKit.wrap64 (numOf (l.take 8) : Nat)), .int .i64 0, .bool false] 54 (0, 0))
  | _, W => W.heap[A]? = some (.cells #[.int .i64 (RowKit.wrap64 (numOf (l.take 8) : Nat)), .int .i64 (RowKit.wrap64 (numOf ((l.drop 8).take 2) : Nat)), .bool false] 54 (0, 0))

theorem takeDnRow (v : Value) (l : List Nat) (rb : Nat) (w : World) (hv : Bytes w v l) (hr : w.heap[rb]? = some (.cells #[.func (.func 31) #[] #[], .func (.func 32) #[] #[]] 58 (0, 0))) :
    Calls Try.prog 29 #[v, .func (.func 30) #[] #[], .slice (some ⟨rb, 0, none⟩) 2 2] w fun z w' => z = .returned (dnV l) ∧ Below w.heap.size w w' := by
  have hs := hv.small
  have hif := takeDn_if hs
  refine (take_done v l 30 (mayDn ⟨RowKit.wrap64 (numOf (l.take 8) : Nat), RowKit.wrap64 (numOf ((l.drop 8).take 2) : Nat), false⟩) (decide (l.length = 10 ∧ mayDn (rdDn l) = true))
    [31, 32] (dnOk l) (dnRest l) (dnS (w.heap.size + 1) l)
    (fun x0 x1 x2 _ => (l.length = 10 → x0 = (rdDn l).fi ∧ x1 = (rdDn l).ct ∧ x2 = (rdDn l).ag)) rb w hv (by decide) rfl
    (fun W _ h => h) ?_ ?_ ?_ ?_ ?_ ?_ (fun args w => by kernel_rfl) ?_ (Array.getElem?_eq_some_iff.1 hr).1).mono ?_
  · intro i f h
    match i, h with
    | 0, h => cases h; exact dn_tFirst w _ 0 0 false l (by omega)
    | 1, h => cases h; exact dn_tCount w _ _ 0 false (l.drop 8) (by omega)
    | k + 2, h => simp at h
  · intro W hS hok
    exact ⟨_, _, _, hS, fun _ => may_done _ _ _, fun hl => ⟨rfl, done_ct hs hl, rfl⟩⟩
  · intro x0 x1 x2 W W' h _ _
    exact h
  · intro j hj h
    rw [decide_eq_false]
    rintro ⟨h17, _⟩
    match j, hj, h with
    | 0, _, h => have := of_decide_eq_false h; omega
    | 1, _, h => have := of_decide_eq_false h; rw [List.length_drop] at this; omega
  · intro h
    rw [decide_eq_false]
    rintro ⟨h17, _⟩
    refine h ?_
    show (l.drop 8).drop 2 = []
    rw [List.drop_drop, List.drop_of_length_le (by omega)]
  · intro hok hnil
    have k2 := of_decide_eq_true (hok 1 (by decide))
    have k3 : ((l.drop 8).drop 2).length = 0 := by
      have h3 : dnRest l 2 = [] := hnil
      show (dnRest l 2).length = 0
      rw [h3]; rfl
    simp only [List.length_drop] at k2 k3
    have hl : l.length = 10 := by omega
    have e : (⟨RowKit.wrap64 (numOf (l.take 8) : Nat), RowKit.wrap64 (numOf ((l.drop 8).take 2) : Nat), false⟩ : Dn) = rdDn l := by
      rw [done_ct hs hl]; rfl
    rw [e]
    cases hq : mayDn (rdDn l) with
    | true => exact decide_eq_true ⟨hl, rfl⟩
    | false => exact decide_eq_false (fun h => by simp at h)
  · intro i f h
    match i, h with
    | 0, h => cases h; exact cells_of hr 0
    | 1, h => cases h; exact cells_of hr 1
    | k + 2, h => simp at h
  · rintro z w' ⟨hb, h⟩
    refine ⟨?_, hb⟩
    rcases h with ⟨hg, x0, x1, x2, hz, h0⟩ | ⟨hg, hz⟩
    · have hc := of_decide_eq_true hg
      obtain ⟨h0, h1, h2⟩ := h0 hc.1
      rw [if_pos hc] at hif
      rw [hz, dnV_yes hif, h0, h1, h2]
    · have hc := of_decide_eq_false hg
      rw [if_neg hc] at hif
      rw [hz, dnV_no hif]

theorem done_told {tmps : Array Value} {w : World} {A : Nat} {cs : Array Value} {x : Value} (hp : tmps.getD 2 undef = .pointer (some ⟨A, 0, none⟩)) (hx : tmps.getD 3 undef = x) (hg : w.heap[A]? = some (.cells cs 25 (0, 0))) (hc : cs.size = 3) :
    (results Try.f9 tmps).run Try.prog w = .ok (.tuple #[.agg cs, x]) w := by
  have hi : (Try.prog.info? 25).map (·.size) = some cs.size := by rw [hc]; kernel_rfl
  have hq : (Try.prog.underlying 25).map (fun d => match d with | .struct _ | .array _ _ => true | _ => false) = some true := by kernel_rfl
  obtain ⟨d, hu, hd⟩ := Option.map_eq_some_iff.1 hq
  rw [results_cell_tmp (p := 2) (u := 3) (ty := 25) (by kernel_rfl), hp, hx]
  have := run_loadVar_row (P := Try.prog) w A 25 25 cs (0, 0) d hg hu (by cases d <;> simp_all) hi
  simp [asAddr, this, Result.andThen]

set_option maxRecDepth 100000 in
theorem takeDone_any (v : Value) (l : List Nat) (w : World) (hv : Bytes w v l) :
    Calls Try.prog 9 #[v] w fun z w' => z = .returned (dnV l) ∧ Below w.heap.size w w' := by
  obtain ⟨p, cap, rfl, _⟩ := hv.any
  obtain ⟨w1, hw1⟩ : ∃ W, W = (w.alloc (.cells #[.int .i64 0, .int .i64 0, .bool false] 25)).alloc (.cells #[.func (.func 31) #[] #[], .func (.func 32) #[] #[]] 58) := ⟨_, rfl⟩
  have hz1 : w1.heap.size = w.heap.size + 2 := by rw [hw1]; simp
  have hb1 : Below w.heap.size w w1 := by rw [hw1]; exact ((Below.refl _ _).alloc (Nat.le_refl _) _).alloc (by simp) _
  have ha1 : w1.heap[w.heap.size]? = some (.cells #[.int .i64 0, .int .i64 0, .bool false] 25 (0, 0)) := by rw [hw1]; exact (Below.heap_alloc _ _ _ (by simp)).trans (heap_alloc_new w _)
  have hr1 : w1.heap[w.heap.size + 1]? = some (.cells #[.func (.func 31) #[] #[], .func (.func 32) #[] #[]] 58 (0, 0)) := by rw [hw1]; simpa using heap_alloc_new (w.alloc (.cells #[.int .i64 0, .int .i64 0, .bool false] 25)) _
  have HC := Lib.hid (takeDnRow _ l _ w1 (hv.below hb1) hr1)
  have HB := Lib.hid hb1; have HA := Lib.hid ha1; have HW := Lib.hid hw1; have HZ := Lib.hid hz1
  clear hv hb1 ha1 hw1 hz1 hr1
  go_enter Try.func9, Try.ntmps9
  go_wp2_with fail
  rw [← HW.out]
  refine HC.out.mono ?_
  rintro e w2 ⟨rfl, hb2⟩
  have hA2 := (hb2.block w.heap.size (by have := HZ.out; omega)).trans HA.out
  have hV : dnV l = .tuple #[.agg #[.int .i64 (dnD l).fi, .int .i64 (dnD l).ct, .bool (dnD l).ag], .int .i64 (dnC l)] := rfl
  rw [hV]
  have HVV := Lib.hid hV
  have hlt2 : w.heap.size < w2.heap.size := by have := hb2.size; have := HZ.out; omega
  generalize (dnD l).fi = x0 at *
  generalize (dnD l).ct = x1 at *
  generalize (dnD l).ag = x2 at *
  generalize (dnC l) = x3 at *
  have a0 := cells_of hA2 0; have a1 := cells_of hA2 1; have a2 := cells_of hA2 2
  have q0 := free_of hA2 0; have q1 := free_of hA2 1; have q2 := free_of hA2 2
  have hA3 := three_set hA2 (.int .i64 x0) (.int .i64 x1) (.bool x2)
  have hb3 := three_below (A := w.heap.size) (HB.out.trans (hb2.mono HB.out.size)) (Nat.le_refl _) (.int .i64 x0) (.int .i64 x1) (.bool x2)
  have hlt3 := (Array.getElem?_eq_some_iff.1 hA3).1
  have HX := Lib.hid ((Below.heap_alloc _ (.cells #[.int .i64 x0, .int .i64 x1, .bool x2] 54) _ hlt3).trans hA3)
  have HBX := Lib.hid (hb3.alloc (Nat.le_of_lt hlt3) (.cells #[.int .i64 x0, .int .i64 x1, .bool x2] 54))
  clear hb2 hA2 hV hb3 hA3 hlt3
  go_wp2
  exact bodyPost_ret (done_told rfl rfl HX.out rfl) rfl ⟨by rw [HVV.out]; rfl, HBX.out⟩
end Go.Proofs.Ytoegkdfeonkgkaa

