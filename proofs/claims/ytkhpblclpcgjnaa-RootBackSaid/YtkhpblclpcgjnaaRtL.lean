/- Roots in a program: the developers' parts, as they are taken. -/
import Derived.Test.YtkhpblclpcgjnaaRtK
namespace Go.Proofs.Ytkhpblclpcgjnaa
open Go Go.RowKit Go.By

def TreeIs (A : Nat) (o : Int) (c : Nat) (w : World) : Prop := w.heap[A]? = some (.cells #[.int .i64 o, .int .u64 c] 50 (0, 0))

set_option maxRecDepth 100000 in
theorem tk_off (w0 : World) (A : Nat) (l : List Nat) (h8 : 8 ≤ l.length) (o : Int) (c : Nat) : TkPart w0 A 22 l (l.drop 8) (TreeIs A o c) (TreeIs A (numS l) c) := by
  refine ⟨fun args w => by kernel_rfl, fun v w hv hb hA => ?_⟩
  have HN := Lib.hid (takeNumber_any w0 v l w hv hb h8)
  obtain ⟨p, cap, rfl, _⟩ := hv.any
  have HA := Lib.hid hA
  have HW : Hid (IntKind.i64.wrap (numOf (l.take 8) : Nat) = numS l) := by unfold Hid numS RowKit.wrap64; rw [IntKind.wrap_i64]
  generalize numOf (l.take 8) = x at *
  generalize numS l = y at *
  generalize l.length = LN at *
  clear hv hb hA h8
  go_enter Try.func22, Try.ntmps22
  go_wp2_with fail
  refine HN.out.mono ?_
  rintro e w1 ⟨v1, rfl, hby, hbl⟩
  have hA1 : w1.heap[A]? = some (.cells #[.int .i64 o, .int .u64 c] 50 (0, 0)) := (hbl.block A (Array.getElem?_eq_some_iff.1 HA.out).1).trans HA.out
  have c0 := cells_of hA1 0
  have f0 := free_of hA1 0
  have HA2 : Hid ((w1.setCell ⟨A, 0, none⟩ (.int .i64 y)).heap[A]? = some (.cells #[.int .i64 y, .int .u64 c] 50 (0, 0))) := heap_setCell_same w1 A 0 _ _ (.int .i64 y) hA1
  have HON : Hid (Only A w (w1.setCell ⟨A, 0, none⟩ (.int .i64 y))) := (Only.of_below hbl).setCell 0 _
  have HBY := Lib.hid hby
  have hw := HW.out
  clear hA1 hbl HN hby HW
  go_wp2
  go_ret
  exact ⟨_, rfl, HBY.out, HON.out, HA2.out⟩

set_option maxRecDepth 100000 in
theorem tk_count (w0 : World) (A : Nat) (l : List Nat) (h8 : 8 ≤ l.length) (o : Int) (c : Nat) : TkPart w0 A 23 l (l.drop 8) (TreeIs A o c) (TreeIs A o (numOf (l.take 8))) := by
  refine ⟨fun args w => by kernel_rfl, fun v w hv hb hA => ?_⟩
  have HN := Lib.hid (takeNumber_any w0 v l w hv hb h8)
  obtain ⟨p, cap, rfl, _⟩ := hv.any
  have HA := Lib.hid hA
  generalize numOf (l.take 8) = x at *
  generalize l.length = LN at *
  clear hv hb hA h8
  go_enter Try.func23, Try.ntmps23
  go_wp2_with fail
  refine HN.out.mono ?_
  rintro e w1 ⟨v1, rfl, hby, hbl⟩
  have hA1 : w1.heap[A]? = some (.cells #[.int .i64 o, .int .u64 c] 50 (0, 0)) := (hbl.block A (Array.getElem?_eq_some_iff.1 HA.out).1).trans HA.out
  have c1 := cells_of hA1 1
  have f1 := free_of hA1 1
  have HA2 : Hid ((w1.setCell ⟨A, 1, none⟩ (.int .u64 x)).heap[A]? = some (.cells #[.int .i64 o, .int .u64 x] 50 (0, 0))) := heap_setCell_same w1 A 1 _ _ (.int .u64 x) hA1
  have HON : Hid (Only A w (w1.setCell ⟨A, 1, none⟩ (.int .u64 x))) := (Only.of_below hbl).setCell 1 _
  have HBY := Lib.hid hby
  clear hA1 hbl HN hby
  go_wp2
  go_ret
  exact ⟨_, rfl, HBY.out, HON.out, HA2.out⟩

/-- A tree, by its row of parts. -/
theorem tree_taken (w0 : World) (A : Nat) (m : List Nat) (h16 : 16 ≤ m.length) (rb : Nat) (v : Value) (w : World) (hv : Bytes w0 v m) (hb : Below w0.heap.size w0 w) (hA : w0.heap.size ≤ A) (hAt : TreeIs A 0 0 w)
    (hr : w.heap[rb]? = some (.cells #[.func (.func 22) #[] #[], .func (.func 23) #[] #[]] 53 (0, 0))) (hne : rb ≠ A) :
    Calls Try.prog 21 #[.pointer (some ⟨A, 0, none⟩), v, .slice (some ⟨rb, 0, none⟩) 2 2] w fun e w' => ∃ v', e = .returned v' ∧ Bytes w0 v' (m.drop 16) ∧ Only A w w' ∧ TreeIs A (rdRef m).off (rdRef m).ct w' := by
  have H := tk_along_tree w0 A [22, 23] (fun i => m.drop (8 * i)) (fun i => match i with | 0 => TreeIs A 0 0 | 1 => TreeIs A (numS m) 0 | _ => TreeIs A (rdRef m).off (rdRef m).ct) rb v w hv hb hA (by decide) hAt
    (fun i f h => by
      match i, h with
      | 0, h => cases h; exact tk_off w0 A m (by omega) 0 0
      | 1, h =>
        cases h
        have := tk_count w0 A (m.drop 8) (by rw [List.length_drop]; omega) (numS m) 0
        rw [List.drop_drop] at this
        exact this
      | k + 2, h => simp at h)
    (fun i f h => by
      match i, h with
      | 0, h => cases h; exact cells_of hr 0
      | 1, h => cases h; exact cells_of hr 1
      | k + 2, h => simp at h) (Array.getElem?_eq_some_iff.1 hr).1 hne 2 rfl
  exact H

def RootIs (R : Nat) (r : Rt) (w : World) : Prop := w.heap[R]? = some (.cells (rtCells r).toArray 38 (0, 0))
/-- How far the trees have been taken. -/
def TreesTk (w0 w : World) (R g : Nat) (nx : Int) (m : List Nat) (x i : Value) (W : World) : Prop :=
  ∃ k : Nat, k ≤ 5 ∧ i = .int .i64 k ∧ Bytes w0 x (m.drop (16 * k)) ∧ Only R w W ∧ RootIs R ⟨g, nx, stepTs m k⟩ W

set_option maxRecDepth 100000 in
set_option maxHeartbeats 2000000 in
theorem tk_trees (w0 : World) (R : Nat) (hR : w0.heap.size ≤ R) (m : List Nat) (h80 : 80 ≤ m.length) (g : Nat) (nx : Int) : TkPart w0 R 13 m (m.drop 80) (RootIs R ⟨g, nx, nul5 0⟩) (RootIs R ⟨g, nx, rdRefs 5 m⟩) := by
  refine ⟨fun args w => by kernel_rfl, fun v w hv hb hA => ?_⟩
  have HREL : Hid (TreesTk w0 w R g nx m v (.int .i64 (0 : Nat)) w) := ⟨0, by omega, rfl, hv, Only.refl _ _, hA⟩
  obtain ⟨p0, cap0, rfl, _⟩ := hv.any
  have HB := Lib.hid hb; have H80 := Lib.hid h80; have HR := Lib.hid hR
  have HRL : Hid (R < w.heap.size) := (Array.getElem?_eq_some_iff.1 hA).1
  obtain ⟨LM, hLM⟩ : ∃ n, n = m.length := ⟨_, rfl⟩
  rw [← hLM] at HREL ⊢
  clear hv hb hA h80 hR hLM
  go_enter Try.func13, Try.ntmps13
  go_wp2
  go_loopw [1, 7] (fun x i W => TreesTk w0 w R g nx m x i W) (fun _ i _ => 5 - (intOf i).toNat)
  case atStart => exact HREL.out
  case round =>
    clear HREL
    obtain ⟨k, hk, rfl, hby, hon, hroot⟩ := hrel
    obtain ⟨p, cap, rfl, _⟩ := hby.any
    by_cases hlt : k < 5
    · have h16 : 16 ≤ (m.drop (16 * k)).length := by rw [List.length_drop]; have := H80.out; omega
      have hsz := hon.size
      have hrl : R < wr.heap.size := Nat.lt_of_lt_of_le HRL.out hsz
      obtain ⟨W1, hW1⟩ : ∃ W, W = (wr.alloc (.cells #[.int .i64 0, .int .u64 0] 50)).alloc (.cells #[.func (.func 22) #[] #[], .func (.func 23) #[] #[]] 53) := ⟨_, rfl⟩
      have hb1 : Below wr.heap.size wr W1 := by rw [hW1]; exact ((Below.refl _ _).alloc (Nat.le_refl _) _).alloc (by simp) _
      have ht1 : TreeIs wr.heap.size 0 0 W1 := by
        unfold TreeIs
        rw [hW1]; exact (Below.heap_alloc _ _ _ (by simp)).trans (heap_alloc_new wr _)
      have hr1 : W1.heap[wr.heap.size + 1]? = some (.cells #[.func (.func 22) #[] #[], .func (.func 23) #[] #[]] 53 (0, 0)) := by
        rw [hW1]
        have := heap_alloc_new (wr.alloc (.cells #[.int .i64 0, .int .u64 0] 50)) (.cells #[.func (.func 22) #[] #[], .func (.func 23) #[] #[]] 53)
        simpa using this
      have hwr := hon.below HB.out HR.out
      have HT := Lib.hid (tree_taken w0 wr.heap.size (m.drop (16 * k)) h16 (wr.heap.size + 1) (.slice p (m.drop (16 * k)).length cap) W1 hby (hwr.trans (hb1.mono hwr.size)) hwr.size ht1 hr1 (by omega))
      have hro1 : RootIs R ⟨g, nx, stepTs m k⟩ W1 := (hb1.block R hrl).trans hroot
      have HON1 : Hid (Only R w W1) := hon.trans (Only.of_below hb1)
      have HW1 := Lib.hid hW1; have HLT := Lib.hid hlt; have HRO1 := Lib.hid hro1
      have HNE : Hid (R ≠ wr.heap.size) := by unfold Hid; omega
      have HSZ := Lib.hid hsz
      clear hby hon hroot h16 hsz hb1 ht1 hr1 hwr hro1 hW1 hrl hlt hk
      generalize (m.drop (16 * k)).length = LK at *
      have hk5 : (k : Int) < 5 := by have := HLT.out; omega
      go_wp2_with fail
      rw [← HW1.out]
      refine HT.out.mono ?_
      rintro e w2 ⟨v2, rfl, hby2, hon2, ht2⟩
      have hro2 : w2.heap[R]? = some (.cells (rtCells ⟨g, nx, stepTs m k⟩).toArray 38 (0, 0)) := hon2.keeps HRO1.out HNE.out
      have hlen : k < (stepTs m k).length := by rw [stepTs_five m (Nat.le_of_lt HLT.out)]; exact HLT.out
      obtain ⟨s0, s1⟩ := rtCells_off (r := ⟨g, nx, stepTs m k⟩) hlen
      have d0 := cells_of hro2 (2 + k * 2)
      rw [List.getElem?_toArray, s0] at d0
      have d1 := cells_of hro2 (2 + k * 2 + 1)
      rw [List.getElem?_toArray, s1] at d1
      have f0 := free_of hro2 (2 + k * 2)
      have f1 := free_of hro2 (2 + k * 2 + 1)
      have t0 := cells_of ht2 0
      have t1 := cells_of ht2 1
      have hgn : ((w2.drew.setCell ⟨R, 2 + k * 2, none⟩ (.int .i64 (rdRef (m.drop (16 * k))).off)).setCell ⟨R, 2 + k * 2 + 1, none⟩ (.int .u64 ((rdRef (m.drop (16 * k))).ct : Nat))).heap[R]? = some (.cells (rtCells ⟨g, nx, stepTs m (k + 1)⟩).toArray 38 (0, 0)) := by
        have h1 := heap_setCell_same (w2.drew.setCell ⟨R, 2 + k * 2, none⟩ (.int .i64 (rdRef (m.drop (16 * k))).off)) R (2 + k * 2 + 1) _ _ (.int .u64 ((rdRef (m.drop (16 * k))).ct : Nat)) (heap_setCell_same w2.drew R (2 + k * 2) _ _ (.int .i64 (rdRef (m.drop (16 * k))).off) hro2)
        rw [h1, set_two (r := ⟨g, nx, stepTs m k⟩) (stepTs_five m (Nat.le_of_lt HLT.out)) HLT.out, ← stepTs_next m HLT.out]
      have HNX : Hid (TreesTk w0 w R g nx m v2 (.int .i64 (k + 1 : Nat)) ((w2.drew.setCell ⟨R, 2 + k * 2, none⟩ (.int .i64 (rdRef (m.drop (16 * k))).off)).setCell ⟨R, 2 + k * 2 + 1, none⟩ (.int .u64 ((rdRef (m.drop (16 * k))).ct : Nat)))) :=
        ⟨k + 1, HLT.out, rfl, by rw [List.drop_drop] at hby2; rw [show 16 * (k + 1) = 16 * k + 16 by omega]; exact hby2, ((HON1.out.then2 hon2 HSZ.out).drew.setCell _ _).setCell _ _, hgn⟩
      generalize (rdRef (m.drop (16 * k))).off = z2 at *
      generalize (rdRef (m.drop (16 * k))).ct = z3 at *
      generalize (stepTs m k)[k].off = z0 at *
      generalize (stepTs m k)[k].ct = z1 at *
      clear hby2 hon2 ht2 hro2 hlen s0 s1 hgn HT
      go_wp2
      go_region
      go_wp2
      go_roundw
      case rel => exact HNX.out
      case measure => simp [intOf]; have := HLT.out; omega
    · obtain rfl : k = 5 := by omega
      rw [stepTs_all] at hroot
      have HEND : Hid (Bytes w0 (.slice p (m.drop (16 * 5)).length cap) (m.drop 80) ∧ Only R w wr ∧ RootIs R ⟨g, nx, rdRefs 5 m⟩ wr) := ⟨hby, hon, hroot⟩
      clear hby hon hroot hk hlt
      generalize (m.drop (16 * 5)).length = LK at *
      go_wp2
      go_ret
      exact ⟨_, rfl, HEND.out⟩

set_option maxRecDepth 100000 in
set_option maxHeartbeats 2000000 in
theorem tk_next (w0 : World) (R : Nat) (l : List Nat) (h8 : 8 ≤ l.length) (g : Nat) : TkPart w0 R 12 l (l.drop 8) (RootIs R ⟨g, 0, nul5 0⟩) (RootIs R ⟨g, numS l, nul5 0⟩) := by
  refine ⟨fun args w => by kernel_rfl, fun v w hv hb hA => ?_⟩
  have HN := Lib.hid (takeNumber_any w0 v l w hv hb h8)
  obtain ⟨p, cap, rfl, _⟩ := hv.any
  have HA := Lib.hid hA
  have HW : Hid (IntKind.i64.wrap (numOf (l.take 8) : Nat) = numS l) := by unfold Hid numS RowKit.wrap64; rw [IntKind.wrap_i64]
  generalize numOf (l.take 8) = x at *
  generalize numS l = y at *
  generalize l.length = LN at *
  clear hv hb hA h8
  go_enter Try.func12, Try.ntmps12
  go_wp2_with fail
  refine HN.out.mono ?_
  rintro e w1 ⟨v1, rfl, hby, hbl⟩
  have hA1 : w1.heap[R]? = some (.cells (rtCells ⟨g, 0, nul5 0⟩).toArray 38 (0, 0)) := (hbl.block R (Array.getElem?_eq_some_iff.1 HA.out).1).trans HA.out
  have c0 : w1.cell? ⟨R, 1, none⟩ = some (.int .i64 0) := cells_of hA1 1
  have f0 := free_of hA1 1
  have HA2 : Hid ((w1.setCell ⟨R, 1, none⟩ (.int .i64 y)).heap[R]? = some (.cells (rtCells ⟨g, y, nul5 0⟩).toArray 38 (0, 0))) := heap_setCell_same w1 R 1 _ _ (.int .i64 y) hA1
  have HON : Hid (Only R w (w1.setCell ⟨R, 1, none⟩ (.int .i64 y))) := (Only.of_below hbl).setCell 1 _
  have HBY := Lib.hid hby
  have hw := HW.out
  clear hA1 hbl HN hby HW
  go_wp2
  go_ret
  exact ⟨_, rfl, HBY.out, HON.out, HA2.out⟩

/-- A root, by its row of parts. -/
theorem root_taken (w0 : World) (R : Nat) (l : List Nat) (h88 : l.length = 88) (g : Nat) (rb : Nat) (v : Value) (w : World) (hv : Bytes w0 v l) (hb : Below w0.heap.size w0 w) (hR : w0.heap.size ≤ R) (hAt : RootIs R ⟨g, 0, nul5 0⟩ w)
    (hr : w.heap[rb]? = some (.cells #[.func (.func 12) #[] #[], .func (.func 13) #[] #[]] 41 (0, 0))) (hne : rb ≠ R) :
    Calls Try.prog 11 #[.pointer (some ⟨R, 0, none⟩), v, .slice (some ⟨rb, 0, none⟩) 2 2] w fun e w' => (∃ v', e = .returned v') ∧ Only R w w' ∧ RootIs R (rdRt g l) w' := by
  have H := tk_along_root w0 R [12, 13] (fun i => match i with | 0 => l | 1 => l.drop 8 | _ => (l.drop 8).drop 80) (fun i => match i with | 0 => RootIs R ⟨g, 0, nul5 0⟩ | 1 => RootIs R ⟨g, numS l, nul5 0⟩ | _ => RootIs R (rdRt g l)) rb v w hv hb hR (by decide) hAt
    (fun i f h => by
      match i, h with
      | 0, h => cases h; exact tk_next w0 R l (by omega) g
      | 1, h => cases h; exact tk_trees w0 R hR (l.drop 8) (by rw [List.length_drop]; omega) g (numS l)
      | k + 2, h => simp at h)
    (fun i f h => by
      match i, h with
      | 0, h => cases h; exact cells_of hr 0
      | 1, h => cases h; exact cells_of hr 1
      | k + 2, h => simp at h) (Array.getElem?_eq_some_iff.1 hr).1 hne 2 rfl
  refine H.mono ?_
  rintro e w' ⟨v', h1, _, h2, h3⟩
  exact ⟨⟨v', h1⟩, h2, h3⟩
end Go.Proofs.Ytkhpblclpcgjnaa

