/- The law KeyApart: whatever the two names, every call of it returns true, and all that was there before the call is as it was. No condition. -/
import Derived.Test.YtfebdgnojacoiaaRows
import Derived.Test.YtfebdgnojacoiaaLaw
import Derived.Test.YtfebdgnojacoiaaKeyAfP
import Derived.Test.YtfebdgnojacoiaaKeyOA
import Derived.ChangeMaps5
namespace Go.Proofs.Ytfebdgnojacoiaa
open Go Go.ChangeShapes Go.WideShapes Go.ChangeAt Go.RowKit Go.By

def ltOf : Nat → Nat
  | 0 => 104
  | 1 => 105
  | 2 => 115
  | _ => 112
/-- The four keys of a name. -/
def fourOf (a : ByteArray) (i : Nat) : ByteArray := strOf (letK (ltOf i) (natsOf a))
/-- A row of four strings. -/
def FourAt (f : Nat → ByteArray) (v : Value) (w : World) : Prop := ∃ b, v = .slice (some ⟨b, 0, none⟩) 4 4 ∧ w.heap[b]? = some (.cells #[.string (f 0), .string (f 1), .string (f 2), .string (f 3)] 9 (0, 0))
theorem FourAt.below {f : Nat → ByteArray} {v : Value} {w w' : World} (h : FourAt f v w) (hb : Below w.heap.size w w') : FourAt f v w' := by
  obtain ⟨b, rfl, hc⟩ := h
  exact ⟨b, rfl, (hb.block b (Array.getElem?_eq_some_iff.1 hc).1).trans hc⟩
def _root_.Go.By.Lft.four (f : Nat → ByteArray) : Lft := .ex (fun v w => FourAt f v w) (fun _ _ _ h hb => FourAt.below h hb)

theorem four_size {a : ByteArray} (hma : mayNm (natsOf a) = true) (i : Nat) : (fourOf a i).size = a.size + 1 := by
  unfold fourOf letK
  rw [strOf_size, if_pos hma, List.length_cons, natsOf_length]
theorem ltOf_small (i : Nat) : ltOf i < 256 := by
  unfold ltOf
  split <;> omega
theorem four_eq {a b : ByteArray} (hma : mayNm (natsOf a) = true) (hmb : mayNm (natsOf b) = true) {i k : Nat} (hi : i < 4) (hk : k < 4) : ((fourOf a i).toList == (fourOf b k).toList) = (decide (i = k) && (a.toList == b.toList)) := by
  unfold fourOf
  rw [str_same (letK_small (ltOf_small i)) (letK_small (ltOf_small k)), eq_str]
  unfold letK
  rw [if_pos hma, if_pos hmb, Bool.eq_iff_iff]
  simp only [decide_eq_true_eq, List.cons.injEq, Bool.and_eq_true]
  have : ltOf i = ltOf k ↔ i = k := by
    constructor
    · intro h
      match i, k, hi, hk with
      | 0, 0, _, _ => rfl
      | 1, 1, _, _ => rfl
      | 2, 2, _, _ => rfl
      | 3, 3, _, _ => rfl
      | 0, 1, _, _ => cases h
      | 0, 2, _, _ => cases h
      | 0, 3, _, _ => cases h
      | 1, 0, _, _ => cases h
      | 1, 2, _, _ => cases h
      | 1, 3, _, _ => cases h
      | 2, 0, _, _ => cases h
      | 2, 1, _, _ => cases h
      | 2, 3, _, _ => cases h
      | 3, 0, _, _ => cases h
      | 3, 1, _, _ => cases h
      | 3, 2, _, _ => cases h
    · rintro rfl; rfl
  rw [this]
theorem four_cell {f : Nat → ByteArray} {j : Nat} (hj : j < 4) : (#[Value.string (f 0), .string (f 1), .string (f 2), .string (f 3)] : Array Value)[j]? = some (.string (f j)) := by
  match j, hj with
  | 0, _ => rfl
  | 1, _ => rfl
  | 2, _ => rfl
  | 3, _ => rfl
theorem pkV_pair {a : ByteArray} {n : Int} (hma : mayNm (natsOf a) = true) (h0 : 0 ≤ n) (hn : n ≤ 9223372036854775807) : pkV (pairK (natsOf a) n) = .tuple #[.string a, .int .i64 n, .bool true] := by
  rw [pairK_yes hma h0]
  obtain ⟨h1, h2, h3⟩ := isPair_pair (l := natsOf a) (n := n.toNat) hma (by omega)
  rw [pkV_yes h1, h2, h3, strOf_natsOf, Int.toNat_of_nonneg h0]

set_option maxRecDepth 100000 in
set_option maxHeartbeats 8000000 in
theorem apart_same (a b : ByteArray) (w : World) (ha : a.size ≤ maxLen) (hb : b.size ≤ maxLen) (hma : mayNm (natsOf a) = true) (hmb : mayNm (natsOf b) = true) (hAB : (a.toList == b.toList) = true) :
    Calls Try.prog 6 #[.string a, .string b] w fun e w' => e = .returned (.bool true) ∧ Below w.heap.size w w' := by
  have HBG := Lib.hid (begun_any w)
  have HMA := Lib.hid (fun w => refMay_any a w ha)
  have HMB := Lib.hid (fun w => refMay_any b w hb)
  have HHA := Lib.hid ha; have HHB := Lib.hid hb
  have HSA := Lib.hid hma; have HSB := Lib.hid hmb
  have HAB := Lib.hid hAB
  have hsz := fun i => four_size hma i
  have ha16 := mayNm_length hma
  rw [natsOf_length] at ha16
  have hsm : a.size ≤ 16 := ha16.2
  clear ha hb ha16
  go_enter Try.func6, Try.ntmps6
  go_wp2_with fail
  refine HBG.out.mono ?_
  rintro e w1 ⟨rfl, hb1⟩
  have HB1 := Lib.hid hb1
  clear hb1
  go_wp2_with fail
  refine (HMA.out w1).mono ?_
  rintro e w2 ⟨rfl, rfl⟩
  rw [hma]
  go_wp2_with fail
  refine (HMB.out w1).mono ?_
  rintro e w2 ⟨rfl, rfl⟩
  rw [hmb]
  go_wp2_with fail
  rename_i Kc hKc
  refine wp_region_left (by kernel_rfl)
    [.is (.string a),
     .bytes (letK 104 (natsOf a)),
     .is (.string (strOf (letK 104 (natsOf a)))),
     .is (.string a),
     .bytes (letK 105 (natsOf a)),
     .is (.string (strOf (letK 105 (natsOf a)))),
     .is (.string a),
     .bytes (letK 115 (natsOf a)),
     .is (.string (strOf (letK 115 (natsOf a)))),
     .is (.string a),
     .bytes (letK 112 (natsOf a)),
     .is (.string (strOf (letK 112 (natsOf a)))),
     .four (fourOf a),
     .four (fourOf a)]
    [[], [0], [1], [], [3], [4], [], [6], [7], [], [9], [10], [2, 5, 8, 11], [12]] (by kernel_rfl) (by rfl) ?_ ?_
  · refine LeftOps.cons ?_ (LeftOps.cons ?_ (LeftOps.cons ?_ (LeftOps.cons ?_ (LeftOps.cons ?_ (LeftOps.cons ?_ (LeftOps.cons ?_ (LeftOps.cons ?_ (LeftOps.cons ?_ (LeftOps.cons ?_ (LeftOps.cons ?_ (LeftOps.cons ?_ (LeftOps.cons ?_ (LeftOps.cons ?_ (LeftOps.nil))))))))))))))
    · intro w5 hw5
      clear hKc
      refine withLeft_nil ?_
      refine lft_run rfl rfl ?_
      exact lft_move rfl (by first | rfl | assumption)
    · intro w5 hw5
      clear hKc
      refine withLeft_is rfl rfl ?_
      refine withLeft_nil ?_
      simp only [Act.put, List.setIfInBounds_toArray, List.set_cons_zero, List.set_cons_succ]
      refine lft_run rfl rfl ?_
      unfold LftRun
      go_wp2_with fail
      refine (head_any a w5 HHA.out).mono ?_
      rintro e wq ⟨vq, rfl, hoq, hbq⟩
      have hyq := hoq.bytes (letK_small (by omega))
      clear hoq
      go_wp2
      exact ⟨rfl, hyq, rfl, hbq⟩
    · intro w5 hw5
      clear hKc
      refine withLeft_bytes rfl rfl ?_
      intro vv hvv
      obtain ⟨pv, cv, rfl, _⟩ := hvv.any
      have hcvv := hvv.toString (P := Try.prog) byT (d := 9) (by kernel_rfl)
      refine withLeft_nil ?_
      simp only [Act.put, List.setIfInBounds_toArray, List.set_cons_zero, List.set_cons_succ]
      refine lft_run rfl rfl ?_
      unfold LftRun
      go_wp2
      exact ⟨rfl, rfl, rfl, Below.refl _ _⟩
    · intro w5 hw5
      clear hKc
      refine withLeft_nil ?_
      refine lft_run rfl rfl ?_
      exact lft_move rfl (by first | rfl | assumption)
    · intro w5 hw5
      clear hKc
      refine withLeft_is rfl rfl ?_
      refine withLeft_nil ?_
      simp only [Act.put, List.setIfInBounds_toArray, List.set_cons_zero, List.set_cons_succ]
      refine lft_run rfl rfl ?_
      unfold LftRun
      go_wp2_with fail
      refine (id_any a w5 HHA.out).mono ?_
      rintro e wq ⟨vq, rfl, hoq, hbq⟩
      have hyq := hoq.bytes (letK_small (by omega))
      clear hoq
      go_wp2
      exact ⟨rfl, hyq, rfl, hbq⟩
    · intro w5 hw5
      clear hKc
      refine withLeft_bytes rfl rfl ?_
      intro vv hvv
      obtain ⟨pv, cv, rfl, _⟩ := hvv.any
      have hcvv := hvv.toString (P := Try.prog) byT (d := 9) (by kernel_rfl)
      refine withLeft_nil ?_
      simp only [Act.put, List.setIfInBounds_toArray, List.set_cons_zero, List.set_cons_succ]
      refine lft_run rfl rfl ?_
      unfold LftRun
      go_wp2
      exact ⟨rfl, rfl, rfl, Below.refl _ _⟩
    · intro w5 hw5
      clear hKc
      refine withLeft_nil ?_
      refine lft_run rfl rfl ?_
      exact lft_move rfl (by first | rfl | assumption)
    · intro w5 hw5
      clear hKc
      refine withLeft_is rfl rfl ?_
      refine withLeft_nil ?_
      simp only [Act.put, List.setIfInBounds_toArray, List.set_cons_zero, List.set_cons_succ]
      refine lft_run rfl rfl ?_
      unfold LftRun
      go_wp2_with fail
      refine (snap_any a w5 HHA.out).mono ?_
      rintro e wq ⟨vq, rfl, hoq, hbq⟩
      have hyq := hoq.bytes (letK_small (by omega))
      clear hoq
      go_wp2
      exact ⟨rfl, hyq, rfl, hbq⟩
    · intro w5 hw5
      clear hKc
      refine withLeft_bytes rfl rfl ?_
      intro vv hvv
      obtain ⟨pv, cv, rfl, _⟩ := hvv.any
      have hcvv := hvv.toString (P := Try.prog) byT (d := 9) (by kernel_rfl)
      refine withLeft_nil ?_
      simp only [Act.put, List.setIfInBounds_toArray, List.set_cons_zero, List.set_cons_succ]
      refine lft_run rfl rfl ?_
      unfold LftRun
      go_wp2
      exact ⟨rfl, rfl, rfl, Below.refl _ _⟩
    · intro w5 hw5
      clear hKc
      refine withLeft_nil ?_
      refine lft_run rfl rfl ?_
      exact lft_move rfl (by first | rfl | assumption)
    · intro w5 hw5
      clear hKc
      refine withLeft_is rfl rfl ?_
      refine withLeft_nil ?_
      simp only [Act.put, List.setIfInBounds_toArray, List.set_cons_zero, List.set_cons_succ]
      refine lft_run rfl rfl ?_
      unfold LftRun
      go_wp2_with fail
      refine (point_any a w5 HHA.out).mono ?_
      rintro e wq ⟨vq, rfl, hoq, hbq⟩
      have hyq := hoq.bytes (letK_small (by omega))
      clear hoq
      go_wp2
      exact ⟨rfl, hyq, rfl, hbq⟩
    · intro w5 hw5
      clear hKc
      refine withLeft_bytes rfl rfl ?_
      intro vv hvv
      obtain ⟨pv, cv, rfl, _⟩ := hvv.any
      have hcvv := hvv.toString (P := Try.prog) byT (d := 9) (by kernel_rfl)
      refine withLeft_nil ?_
      simp only [Act.put, List.setIfInBounds_toArray, List.set_cons_zero, List.set_cons_succ]
      refine lft_run rfl rfl ?_
      unfold LftRun
      go_wp2
      exact ⟨rfl, rfl, rfl, Below.refl _ _⟩
    · intro w5 hw5
      clear hKc
      refine withLeft_is rfl rfl ?_
      refine withLeft_is rfl rfl ?_
      refine withLeft_is rfl rfl ?_
      refine withLeft_is rfl rfl ?_
      refine withLeft_nil ?_
      simp only [Act.put, List.setIfInBounds_toArray, List.set_cons_zero, List.set_cons_succ]
      refine lft_run rfl rfl ?_
      unfold LftRun
      go_wp2
      exact ⟨rfl, ⟨_, rfl, heap_alloc_new _ _⟩, rfl, (Below.refl _ _).alloc (Nat.le_refl _) _⟩
    · intro w5 hw5
      clear hKc
      refine withLeft_ex rfl rfl ?_
      intro vv hvv
      refine withLeft_nil ?_
      simp only [Act.put, List.setIfInBounds_toArray, List.set_cons_zero, List.set_cons_succ]
      refine lft_run rfl rfl ?_
      exact lft_assign rfl hvv
  intro w5 hw5
  refine LeftEnd.is (LeftEnd.bytes (fun _ _ => LeftEnd.is (LeftEnd.is (LeftEnd.bytes (fun _ _ => LeftEnd.is (LeftEnd.is (LeftEnd.bytes (fun _ _ => LeftEnd.is (LeftEnd.is (LeftEnd.bytes (fun _ _ => LeftEnd.is (LeftEnd.ex (fun _ _ => LeftEnd.ex (fun x5 hx5 => LeftEnd.nil ?_))))))))))))))
  simp only [Act.put, List.setIfInBounds_toArray, List.set_cons_zero, List.set_cons_succ]
  have HB5 : Hid (Below w.heap.size w w5) := HB1.out.trans (hw5.mono HB1.out.size)
  have HX5 : Hid (FourAt (fourOf a) x5 w5) := hx5
  clear hw5 hx5
  refine hKc _ _ ?_
  clear hKc Kc
  go_wp2_with fail
  rename_i Kc hKc
  refine wp_region_left (by kernel_rfl)
    [.is (.string b),
     .bytes (letK 104 (natsOf b)),
     .is (.string (strOf (letK 104 (natsOf b)))),
     .is (.string b),
     .bytes (letK 105 (natsOf b)),
     .is (.string (strOf (letK 105 (natsOf b)))),
     .is (.string b),
     .bytes (letK 115 (natsOf b)),
     .is (.string (strOf (letK 115 (natsOf b)))),
     .is (.string b),
     .bytes (letK 112 (natsOf b)),
     .is (.string (strOf (letK 112 (natsOf b)))),
     .four (fourOf b),
     .four (fourOf b)]
    [[], [0], [1], [], [3], [4], [], [6], [7], [], [9], [10], [2, 5, 8, 11], [12]] (by kernel_rfl) (by rfl) ?_ ?_
  · refine LeftOps.cons ?_ (LeftOps.cons ?_ (LeftOps.cons ?_ (LeftOps.cons ?_ (LeftOps.cons ?_ (LeftOps.cons ?_ (LeftOps.cons ?_ (LeftOps.cons ?_ (LeftOps.cons ?_ (LeftOps.cons ?_ (LeftOps.cons ?_ (LeftOps.cons ?_ (LeftOps.cons ?_ (LeftOps.cons ?_ (LeftOps.nil))))))))))))))
    · intro w6 hw6
      clear hKc
      refine withLeft_nil ?_
      refine lft_run rfl rfl ?_
      exact lft_move rfl (by first | rfl | assumption)
    · intro w6 hw6
      clear hKc
      refine withLeft_is rfl rfl ?_
      refine withLeft_nil ?_
      simp only [Act.put, List.setIfInBounds_toArray, List.set_cons_zero, List.set_cons_succ]
      refine lft_run rfl rfl ?_
      unfold LftRun
      go_wp2_with fail
      refine (head_any b w6 HHB.out).mono ?_
      rintro e wq ⟨vq, rfl, hoq, hbq⟩
      have hyq := hoq.bytes (letK_small (by omega))
      clear hoq
      go_wp2
      exact ⟨rfl, hyq, rfl, hbq⟩
    · intro w6 hw6
      clear hKc
      refine withLeft_bytes rfl rfl ?_
      intro vv hvv
      obtain ⟨pv, cv, rfl, _⟩ := hvv.any
      have hcvv := hvv.toString (P := Try.prog) byT (d := 9) (by kernel_rfl)
      refine withLeft_nil ?_
      simp only [Act.put, List.setIfInBounds_toArray, List.set_cons_zero, List.set_cons_succ]
      refine lft_run rfl rfl ?_
      unfold LftRun
      go_wp2
      exact ⟨rfl, rfl, rfl, Below.refl _ _⟩
    · intro w6 hw6
      clear hKc
      refine withLeft_nil ?_
      refine lft_run rfl rfl ?_
      exact lft_move rfl (by first | rfl | assumption)
    · intro w6 hw6
      clear hKc
      refine withLeft_is rfl rfl ?_
      refine withLeft_nil ?_
      simp only [Act.put, List.setIfInBounds_toArray, List.set_cons_zero, List.set_cons_succ]
      refine lft_run rfl rfl ?_
      unfold LftRun
      go_wp2_with fail
      refine (id_any b w6 HHB.out).mono ?_
      rintro e wq ⟨vq, rfl, hoq, hbq⟩
      have hyq := hoq.bytes (letK_small (by omega))
      clear hoq
      go_wp2
      exact ⟨rfl, hyq, rfl, hbq⟩
    · intro w6 hw6
      clear hKc
      refine withLeft_bytes rfl rfl ?_
      intro vv hvv
      obtain ⟨pv, cv, rfl, _⟩ := hvv.any
      have hcvv := hvv.toString (P := Try.prog) byT (d := 9) (by kernel_rfl)
      refine withLeft_nil ?_
      simp only [Act.put, List.setIfInBounds_toArray, List.set_cons_zero, List.set_cons_succ]
      refine lft_run rfl rfl ?_
      unfold LftRun
      go_wp2
      exact ⟨rfl, rfl, rfl, Below.refl _ _⟩
    · intro w6 hw6
      clear hKc
      refine withLeft_nil ?_
      refine lft_run rfl rfl ?_
      exact lft_move rfl (by first | rfl | assumption)
    · intro w6 hw6
      clear hKc
      refine withLeft_is rfl rfl ?_
      refine withLeft_nil ?_
      simp only [Act.put, List.setIfInBounds_toArray, List.set_cons_zero, List.set_cons_succ]
      refine lft_run rfl rfl ?_
      unfold LftRun
      go_wp2_with fail
      refine (snap_any b w6 HHB.out).mono ?_
      rintro e wq ⟨vq, rfl, hoq, hbq⟩
      have hyq := hoq.bytes (letK_small (by omega))
      clear hoq
      go_wp2
      exact ⟨rfl, hyq, rfl, hbq⟩
    · intro w6 hw6
      clear hKc
      refine withLeft_bytes rfl rfl ?_
      intro vv hvv
      obtain ⟨pv, cv, rfl, _⟩ := hvv.any
      have hcvv := hvv.toString (P := Try.prog) byT (d := 9) (by kernel_rfl)
      refine withLeft_nil ?_
      simp only [Act.put, List.setIfInBounds_toArray, List.set_cons_zero, List.set_cons_succ]
      refine lft_run rfl rfl ?_
      unfold LftRun
      go_wp2
      exact ⟨rfl, rfl, rfl, Below.refl _ _⟩
    · intro w6 hw6
      clear hKc
      refine withLeft_nil ?_
      refine lft_run rfl rfl ?_
      exact lft_move rfl (by first | rfl | assumption)
    · intro w6 hw6
      clear hKc
      refine withLeft_is rfl rfl ?_
      refine withLeft_nil ?_
      simp only [Act.put, List.setIfInBounds_toArray, List.set_cons_zero, List.set_cons_succ]
      refine lft_run rfl rfl ?_
      unfold LftRun
      go_wp2_with fail
      refine (point_any b w6 HHB.out).mono ?_
      rintro e wq ⟨vq, rfl, hoq, hbq⟩
      have hyq := hoq.bytes (letK_small (by omega))
      clear hoq
      go_wp2
      exact ⟨rfl, hyq, rfl, hbq⟩
    · intro w6 hw6
      clear hKc
      refine withLeft_bytes rfl rfl ?_
      intro vv hvv
      obtain ⟨pv, cv, rfl, _⟩ := hvv.any
      have hcvv := hvv.toString (P := Try.prog) byT (d := 9) (by kernel_rfl)
      refine withLeft_nil ?_
      simp only [Act.put, List.setIfInBounds_toArray, List.set_cons_zero, List.set_cons_succ]
      refine lft_run rfl rfl ?_
      unfold LftRun
      go_wp2
      exact ⟨rfl, rfl, rfl, Below.refl _ _⟩
    · intro w6 hw6
      clear hKc
      refine withLeft_is rfl rfl ?_
      refine withLeft_is rfl rfl ?_
      refine withLeft_is rfl rfl ?_
      refine withLeft_is rfl rfl ?_
      refine withLeft_nil ?_
      simp only [Act.put, List.setIfInBounds_toArray, List.set_cons_zero, List.set_cons_succ]
      refine lft_run rfl rfl ?_
      unfold LftRun
      go_wp2
      exact ⟨rfl, ⟨_, rfl, heap_alloc_new _ _⟩, rfl, (Below.refl _ _).alloc (Nat.le_refl _) _⟩
    · intro w6 hw6
      clear hKc
      refine withLeft_ex rfl rfl ?_
      intro vv hvv
      refine withLeft_nil ?_
      simp only [Act.put, List.setIfInBounds_toArray, List.set_cons_zero, List.set_cons_succ]
      refine lft_run rfl rfl ?_
      exact lft_assign rfl hvv
  intro w6 hw6
  refine LeftEnd.is (LeftEnd.bytes (fun _ _ => LeftEnd.is (LeftEnd.is (LeftEnd.bytes (fun _ _ => LeftEnd.is (LeftEnd.is (LeftEnd.bytes (fun _ _ => LeftEnd.is (LeftEnd.is (LeftEnd.bytes (fun _ _ => LeftEnd.is (LeftEnd.ex (fun _ _ => LeftEnd.ex (fun x6 hx6 => LeftEnd.nil ?_))))))))))))))
  simp only [Act.put, List.setIfInBounds_toArray, List.set_cons_zero, List.set_cons_succ]
  have HB6 : Hid (Below w.heap.size w w6) := HB5.out.trans (hw6.mono HB5.out.size)
  obtain ⟨b5, rfl, hc5⟩ := HX5.out.below hw6
  obtain ⟨b6, rfl, hc6⟩ := (show FourAt (fourOf b) x6 w6 from hx6)
  have HC5 := Lib.hid (fun i => cells_of hc5 i); have HC6 := Lib.hid (fun i => cells_of hc6 i)
  clear hw6 hx6 hc5 hc6
  refine hKc _ _ ?_
  clear hKc Kc
  go_wp2
  go_loopw [7] (fun i wr => ∃ n : Nat, n ≤ 4 ∧ i = .int .i64 n ∧ Below w.heap.size w wr ∧ (∀ j, j < 4 → wr.cell? ⟨b5, j, none⟩ = some (.string (fourOf a j))) ∧ ∀ j, j < 4 → wr.cell? ⟨b6, j, none⟩ = some (.string (fourOf b j))) (fun i _ => 4 - (intOf i).toNat)
  case atStart => exact ⟨0, by omega, rfl, HB6.out, fun j hj => (HC5.out j).trans (four_cell hj), fun j hj => (HC6.out j).trans (four_cell hj)⟩
  case round =>
    obtain ⟨n, hn, rfl, hbr, h5, h6⟩ := hrel
    clear HC5 HC6
    have HB := Lib.hid hbr; have H5 := Lib.hid h5; have H6 := Lib.hid h6
    clear hbr h5 h6
    by_cases hn4 : n < 4
    · go_wp2
      go_loopw [8] (fun i wr => ∃ m : Nat, m ≤ 4 ∧ i = .int .i64 m ∧ Below w.heap.size w wr ∧ (∀ j, j < 4 → wr.cell? ⟨b5, j, none⟩ = some (.string (fourOf a j))) ∧ ∀ j, j < 4 → wr.cell? ⟨b6, j, none⟩ = some (.string (fourOf b j))) (fun i _ => 4 - (intOf i).toNat)
      case atStart => exact ⟨0, by omega, rfl, HB.out, H5.out, H6.out⟩
      case round =>
        obtain ⟨m, hm, rfl, hbr, h5, h6⟩ := hrel
        clear HB H5 H6
        by_cases hm4 : m < 4
        · have hcell5 := h5 n hn4
          have hcell6 := h6 m hm4
          have hE := four_eq HSA.out HSB.out hn4 hm4
          have HB := Lib.hid hbr; have H5 := Lib.hid h5; have H6 := Lib.hid h6
          have HM4 := Lib.hid hm4
          have hszn := hsz n
          clear hbr h5 h6
          rw [HAB.out] at hE
          by_cases hnm : n = m
          · subst hnm
            rw [decide_eq_true rfl, Bool.true_and] at hE
            have hab := HAB.out
            go_wp2
            go_quiet (fail)
            go_wp2
            go_roundw
            case rel => exact ⟨n + 1, by have := HM4.out; omega, by go_num, HB.out.trans (below_drewN _ _), H5.out, H6.out⟩
            case measure => have := HM4.out; simp [intOf]; omega
          · rw [decide_eq_false hnm, Bool.false_and] at hE
            have hne : ((n : Int) == (m : Int)) = false := by rw [beq_eq_false_iff_ne]; omega
            go_wp2
            go_quiet (fail)
            go_wp2
            go_roundw
            case rel => exact ⟨m + 1, by have := HM4.out; omega, by go_num, HB.out.trans (below_drewN _ _), H5.out, H6.out⟩
            case measure => have := HM4.out; simp [intOf]; omega
        · obtain rfl : m = 4 := by omega
          have HB := Lib.hid hbr; have H5 := Lib.hid h5; have H6 := Lib.hid h6
          clear hbr h5 h6
          go_wp2
          go_roundw
          case rel => exact ⟨n + 1, by omega, by go_num, HB.out, H5.out, H6.out⟩
          case measure => simp [intOf]; omega
    · obtain rfl : n = 4 := by omega
      clear H5 H6 hn hn4
      go_wp2_with fail
      refine (stream_any a 7 _ HHA.out (by omega)).mono ?_
      rintro e w7 ⟨v7, rfl, ho7, hb7⟩
      have HT7 := Lib.hid (takeStream_any _ _ _ (ho7.bytes pairK_small))
      have HB7 : Hid (Below w.heap.size w w7) := HB.out.trans (hb7.mono HB.out.size)
      clear ho7 hb7
      go_wp2_with fail
      refine HT7.out.mono ?_
      rintro e w8 ⟨rfl, hb8⟩
      have HB8 : Hid (Below w.heap.size w w8) := HB7.out.trans (hb8.mono HB7.out.size)
      rw [pkV_pair HSA.out (by omega) (by omega)]
      clear hb8
      go_wp2_with fail
      refine (type_any b 9 _ HHB.out (by omega)).mono ?_
      rintro e w9 ⟨v9, rfl, ho9, hb9⟩
      have HT9 := Lib.hid (takeType_any _ _ _ (ho9.bytes pairK_small))
      have HB9 : Hid (Below w.heap.size w w9) := HB8.out.trans (hb9.mono HB8.out.size)
      clear ho9 hb9
      go_wp2_with fail
      refine HT9.out.mono ?_
      rintro e w10 ⟨rfl, hb10⟩
      have HB10 : Hid (Below w.heap.size w w10) := HB9.out.trans (hb10.mono HB9.out.size)
      rw [pkV_pair HSB.out (by omega) (by omega)]
      clear hb10
      go_wp2
      go_ret
      exact ⟨rfl, HB10.out⟩

set_option maxRecDepth 100000 in
set_option maxHeartbeats 8000000 in
theorem apart_other (a b : ByteArray) (w : World) (ha : a.size ≤ maxLen) (hb : b.size ≤ maxLen) (hma : mayNm (natsOf a) = true) (hmb : mayNm (natsOf b) = true) (hAB : (a.toList == b.toList) = false) :
    Calls Try.prog 6 #[.string a, .string b] w fun e w' => e = .returned (.bool true) ∧ Below w.heap.size w w' := by
  have HBG := Lib.hid (begun_any w)
  have HMA := Lib.hid (fun w => refMay_any a w ha)
  have HMB := Lib.hid (fun w => refMay_any b w hb)
  have HHA := Lib.hid ha; have HHB := Lib.hid hb
  have HSA := Lib.hid hma; have HSB := Lib.hid hmb
  have HAB := Lib.hid hAB
  have hsz := fun i => four_size hma i
  have ha16 := mayNm_length hma
  rw [natsOf_length] at ha16
  have hsm : a.size ≤ 16 := ha16.2
  clear ha hb ha16
  go_enter Try.func6, Try.ntmps6
  go_wp2_with fail
  refine HBG.out.mono ?_
  rintro e w1 ⟨rfl, hb1⟩
  have HB1 := Lib.hid hb1
  clear hb1
  go_wp2_with fail
  refine (HMA.out w1).mono ?_
  rintro e w2 ⟨rfl, rfl⟩
  rw [hma]
  go_wp2_with fail
  refine (HMB.out w1).mono ?_
  rintro e w2 ⟨rfl, rfl⟩
  rw [hmb]
  go_wp2_with fail
  rename_i Kc hKc
  refine wp_region_left (by kernel_rfl)
    [.is (.string a),
     .bytes (letK 104 (natsOf a)),
     .is (.string (strOf (letK 104 (natsOf a)))),
     .is (.string a),
     .bytes (letK 105 (natsOf a)),
     .is (.string (strOf (letK 105 (natsOf a)))),
     .is (.string a),
     .bytes (letK 115 (natsOf a)),
     .is (.string (strOf (letK 115 (natsOf a)))),
     .is (.string a),
     .bytes (letK 112 (natsOf a)),
     .is (.string (strOf (letK 112 (natsOf a)))),
     .four (fourOf a),
     .four (fourOf a)]
    [[], [0], [1], [], [3], [4], [], [6], [7], [], [9], [10], [2, 5, 8, 11], [12]] (by kernel_rfl) (by rfl) ?_ ?_
  · refine LeftOps.cons ?_ (LeftOps.cons ?_ (LeftOps.cons ?_ (LeftOps.cons ?_ (LeftOps.cons ?_ (LeftOps.cons ?_ (LeftOps.cons ?_ (LeftOps.cons ?_ (LeftOps.cons ?_ (LeftOps.cons ?_ (LeftOps.cons ?_ (LeftOps.cons ?_ (LeftOps.cons ?_ (LeftOps.cons ?_ (LeftOps.nil))))))))))))))
    · intro w5 hw5
      clear hKc
      refine withLeft_nil ?_
      refine lft_run rfl rfl ?_
      exact lft_move rfl (by first | rfl | assumption)
    · intro w5 hw5
      clear hKc
      refine withLeft_is rfl rfl ?_
      refine withLeft_nil ?_
      simp only [Act.put, List.setIfInBounds_toArray, List.set_cons_zero, List.set_cons_succ]
      refine lft_run rfl rfl ?_
      unfold LftRun
      go_wp2_with fail
      refine (head_any a w5 HHA.out).mono ?_
      rintro e wq ⟨vq, rfl, hoq, hbq⟩
      have hyq := hoq.bytes (letK_small (by omega))
      clear hoq
      go_wp2
      exact ⟨rfl, hyq, rfl, hbq⟩
    · intro w5 hw5
      clear hKc
      refine withLeft_bytes rfl rfl ?_
      intro vv hvv
      obtain ⟨pv, cv, rfl, _⟩ := hvv.any
      have hcvv := hvv.toString (P := Try.prog) byT (d := 9) (by kernel_rfl)
      refine withLeft_nil ?_
      simp only [Act.put, List.setIfInBounds_toArray, List.set_cons_zero, List.set_cons_succ]
      refine lft_run rfl rfl ?_
      unfold LftRun
      go_wp2
      exact ⟨rfl, rfl, rfl, Below.refl _ _⟩
    · intro w5 hw5
      clear hKc
      refine withLeft_nil ?_
      refine lft_run rfl rfl ?_
      exact lft_move rfl (by first | rfl | assumption)
    · intro w5 hw5
      clear hKc
      refine withLeft_is rfl rfl ?_
      refine withLeft_nil ?_
      simp only [Act.put, List.setIfInBounds_toArray, List.set_cons_zero, List.set_cons_succ]
      refine lft_run rfl rfl ?_
      unfold LftRun
      go_wp2_with fail
      refine (id_any a w5 HHA.out).mono ?_
      rintro e wq ⟨vq, rfl, hoq, hbq⟩
      have hyq := hoq.bytes (letK_small (by omega))
      clear hoq
      go_wp2
      exact ⟨rfl, hyq, rfl, hbq⟩
    · intro w5 hw5
      clear hKc
      refine withLeft_bytes rfl rfl ?_
      intro vv hvv
      obtain ⟨pv, cv, rfl, _⟩ := hvv.any
      have hcvv := hvv.toString (P := Try.prog) byT (d := 9) (by kernel_rfl)
      refine withLeft_nil ?_
      simp only [Act.put, List.setIfInBounds_toArray, List.set_cons_zero, List.set_cons_succ]
      refine lft_run rfl rfl ?_
      unfold LftRun
      go_wp2
      exact ⟨rfl, rfl, rfl, Below.refl _ _⟩
    · intro w5 hw5
      clear hKc
      refine withLeft_nil ?_
      refine lft_run rfl rfl ?_
      exact lft_move rfl (by first | rfl | assumption)
    · intro w5 hw5
      clear hKc
      refine withLeft_is rfl rfl ?_
      refine withLeft_nil ?_
      simp only [Act.put, List.setIfInBounds_toArray, List.set_cons_zero, List.set_cons_succ]
      refine lft_run rfl rfl ?_
      unfold LftRun
      go_wp2_with fail
      refine (snap_any a w5 HHA.out).mono ?_
      rintro e wq ⟨vq, rfl, hoq, hbq⟩
      have hyq := hoq.bytes (letK_small (by omega))
      clear hoq
      go_wp2
      exact ⟨rfl, hyq, rfl, hbq⟩
    · intro w5 hw5
      clear hKc
      refine withLeft_bytes rfl rfl ?_
      intro vv hvv
      obtain ⟨pv, cv, rfl, _⟩ := hvv.any
      have hcvv := hvv.toString (P := Try.prog) byT (d := 9) (by kernel_rfl)
      refine withLeft_nil ?_
      simp only [Act.put, List.setIfInBounds_toArray, List.set_cons_zero, List.set_cons_succ]
      refine lft_run rfl rfl ?_
      unfold LftRun
      go_wp2
      exact ⟨rfl, rfl, rfl, Below.refl _ _⟩
    · intro w5 hw5
      clear hKc
      refine withLeft_nil ?_
      refine lft_run rfl rfl ?_
      exact lft_move rfl (by first | rfl | assumption)
    · intro w5 hw5
      clear hKc
      refine withLeft_is rfl rfl ?_
      refine withLeft_nil ?_
      simp only [Act.put, List.setIfInBounds_toArray, List.set_cons_zero, List.set_cons_succ]
      refine lft_run rfl rfl ?_
      unfold LftRun
      go_wp2_with fail
      refine (point_any a w5 HHA.out).mono ?_
      rintro e wq ⟨vq, rfl, hoq, hbq⟩
      have hyq := hoq.bytes (letK_small (by omega))
      clear hoq
      go_wp2
      exact ⟨rfl, hyq, rfl, hbq⟩
    · intro w5 hw5
      clear hKc
      refine withLeft_bytes rfl rfl ?_
      intro vv hvv
      obtain ⟨pv, cv, rfl, _⟩ := hvv.any
      have hcvv := hvv.toString (P := Try.prog) byT (d := 9) (by kernel_rfl)
      refine withLeft_nil ?_
      simp only [Act.put, List.setIfInBounds_toArray, List.set_cons_zero, List.set_cons_succ]
      refine lft_run rfl rfl ?_
      unfold LftRun
      go_wp2
      exact ⟨rfl, rfl, rfl, Below.refl _ _⟩
    · intro w5 hw5
      clear hKc
      refine withLeft_is rfl rfl ?_
      refine withLeft_is rfl rfl ?_
      refine withLeft_is rfl rfl ?_
      refine withLeft_is rfl rfl ?_
      refine withLeft_nil ?_
      simp only [Act.put, List.setIfInBounds_toArray, List.set_cons_zero, List.set_cons_succ]
      refine lft_run rfl rfl ?_
      unfold LftRun
      go_wp2
      exact ⟨rfl, ⟨_, rfl, heap_alloc_new _ _⟩, rfl, (Below.refl _ _).alloc (Nat.le_refl _) _⟩
    · intro w5 hw5
      clear hKc
      refine withLeft_ex rfl rfl ?_
      intro vv hvv
      refine withLeft_nil ?_
      simp only [Act.put, List.setIfInBounds_toArray, List.set_cons_zero, List.set_cons_succ]
      refine lft_run rfl rfl ?_
      exact lft_assign rfl hvv
  intro w5 hw5
  refine LeftEnd.is (LeftEnd.bytes (fun _ _ => LeftEnd.is (LeftEnd.is (LeftEnd.bytes (fun _ _ => LeftEnd.is (LeftEnd.is (LeftEnd.bytes (fun _ _ => LeftEnd.is (LeftEnd.is (LeftEnd.bytes (fun _ _ => LeftEnd.is (LeftEnd.ex (fun _ _ => LeftEnd.ex (fun x5 hx5 => LeftEnd.nil ?_))))))))))))))
  simp only [Act.put, List.setIfInBounds_toArray, List.set_cons_zero, List.set_cons_succ]
  have HB5 : Hid (Below w.heap.size w w5) := HB1.out.trans (hw5.mono HB1.out.size)
  have HX5 : Hid (FourAt (fourOf a) x5 w5) := hx5
  clear hw5 hx5
  refine hKc _ _ ?_
  clear hKc Kc
  go_wp2_with fail
  rename_i Kc hKc
  refine wp_region_left (by kernel_rfl)
    [.is (.string b),
     .bytes (letK 104 (natsOf b)),
     .is (.string (strOf (letK 104 (natsOf b)))),
     .is (.string b),
     .bytes (letK 105 (natsOf b)),
     .is (.string (strOf (letK 105 (natsOf b)))),
     .is (.string b),
     .bytes (letK 115 (natsOf b)),
     .is (.string (strOf (letK 115 (natsOf b)))),
     .is (.string b),
     .bytes (letK 112 (natsOf b)),
     .is (.string (strOf (letK 112 (natsOf b)))),
     .four (fourOf b),
     .four (fourOf b)]
    [[], [0], [1], [], [3], [4], [], [6], [7], [], [9], [10], [2, 5, 8, 11], [12]] (by kernel_rfl) (by rfl) ?_ ?_
  · refine LeftOps.cons ?_ (LeftOps.cons ?_ (LeftOps.cons ?_ (LeftOps.cons ?_ (LeftOps.cons ?_ (LeftOps.cons ?_ (LeftOps.cons ?_ (LeftOps.cons ?_ (LeftOps.cons ?_ (LeftOps.cons ?_ (LeftOps.cons ?_ (LeftOps.cons ?_ (LeftOps.cons ?_ (LeftOps.cons ?_ (LeftOps.nil))))))))))))))
    · intro w6 hw6
      clear hKc
      refine withLeft_nil ?_
      refine lft_run rfl rfl ?_
      exact lft_move rfl (by first | rfl | assumption)
    · intro w6 hw6
      clear hKc
      refine withLeft_is rfl rfl ?_
      refine withLeft_nil ?_
      simp only [Act.put, List.setIfInBounds_toArray, List.set_cons_zero, List.set_cons_succ]
      refine lft_run rfl rfl ?_
      unfold LftRun
      go_wp2_with fail
      refine (head_any b w6 HHB.out).mono ?_
      rintro e wq ⟨vq, rfl, hoq, hbq⟩
      have hyq := hoq.bytes (letK_small (by omega))
      clear hoq
      go_wp2
      exact ⟨rfl, hyq, rfl, hbq⟩
    · intro w6 hw6
      clear hKc
      refine withLeft_bytes rfl rfl ?_
      intro vv hvv
      obtain ⟨pv, cv, rfl, _⟩ := hvv.any
      have hcvv := hvv.toString (P := Try.prog) byT (d := 9) (by kernel_rfl)
      refine withLeft_nil ?_
      simp only [Act.put, List.setIfInBounds_toArray, List.set_cons_zero, List.set_cons_succ]
      refine lft_run rfl rfl ?_
      unfold LftRun
      go_wp2
      exact ⟨rfl, rfl, rfl, Below.refl _ _⟩
    · intro w6 hw6
      clear hKc
      refine withLeft_nil ?_
      refine lft_run rfl rfl ?_
      exact lft_move rfl (by first | rfl | assumption)
    · intro w6 hw6
      clear hKc
      refine withLeft_is rfl rfl ?_
      refine withLeft_nil ?_
      simp only [Act.put, List.setIfInBounds_toArray, List.set_cons_zero, List.set_cons_succ]
      refine lft_run rfl rfl ?_
      unfold LftRun
      go_wp2_with fail
      refine (id_any b w6 HHB.out).mono ?_
      rintro e wq ⟨vq, rfl, hoq, hbq⟩
      have hyq := hoq.bytes (letK_small (by omega))
      clear hoq
      go_wp2
      exact ⟨rfl, hyq, rfl, hbq⟩
    · intro w6 hw6
      clear hKc
      refine withLeft_bytes rfl rfl ?_
      intro vv hvv
      obtain ⟨pv, cv, rfl, _⟩ := hvv.any
      have hcvv := hvv.toString (P := Try.prog) byT (d := 9) (by kernel_rfl)
      refine withLeft_nil ?_
      simp only [Act.put, List.setIfInBounds_toArray, List.set_cons_zero, List.set_cons_succ]
      refine lft_run rfl rfl ?_
      unfold LftRun
      go_wp2
      exact ⟨rfl, rfl, rfl, Below.refl _ _⟩
    · intro w6 hw6
      clear hKc
      refine withLeft_nil ?_
      refine lft_run rfl rfl ?_
      exact lft_move rfl (by first | rfl | assumption)
    · intro w6 hw6
      clear hKc
      refine withLeft_is rfl rfl ?_
      refine withLeft_nil ?_
      simp only [Act.put, List.setIfInBounds_toArray, List.set_cons_zero, List.set_cons_succ]
      refine lft_run rfl rfl ?_
      unfold LftRun
      go_wp2_with fail
      refine (snap_any b w6 HHB.out).mono ?_
      rintro e wq ⟨vq, rfl, hoq, hbq⟩
      have hyq := hoq.bytes (letK_small (by omega))
      clear hoq
      go_wp2
      exact ⟨rfl, hyq, rfl, hbq⟩
    · intro w6 hw6
      clear hKc
      refine withLeft_bytes rfl rfl ?_
      intro vv hvv
      obtain ⟨pv, cv, rfl, _⟩ := hvv.any
      have hcvv := hvv.toString (P := Try.prog) byT (d := 9) (by kernel_rfl)
      refine withLeft_nil ?_
      simp only [Act.put, List.setIfInBounds_toArray, List.set_cons_zero, List.set_cons_succ]
      refine lft_run rfl rfl ?_
      unfold LftRun
      go_wp2
      exact ⟨rfl, rfl, rfl, Below.refl _ _⟩
    · intro w6 hw6
      clear hKc
      refine withLeft_nil ?_
      refine lft_run rfl rfl ?_
      exact lft_move rfl (by first | rfl | assumption)
    · intro w6 hw6
      clear hKc
      refine withLeft_is rfl rfl ?_
      refine withLeft_nil ?_
      simp only [Act.put, List.setIfInBounds_toArray, List.set_cons_zero, List.set_cons_succ]
      refine lft_run rfl rfl ?_
      unfold LftRun
      go_wp2_with fail
      refine (point_any b w6 HHB.out).mono ?_
      rintro e wq ⟨vq, rfl, hoq, hbq⟩
      have hyq := hoq.bytes (letK_small (by omega))
      clear hoq
      go_wp2
      exact ⟨rfl, hyq, rfl, hbq⟩
    · intro w6 hw6
      clear hKc
      refine withLeft_bytes rfl rfl ?_
      intro vv hvv
      obtain ⟨pv, cv, rfl, _⟩ := hvv.any
      have hcvv := hvv.toString (P := Try.prog) byT (d := 9) (by kernel_rfl)
      refine withLeft_nil ?_
      simp only [Act.put, List.setIfInBounds_toArray, List.set_cons_zero, List.set_cons_succ]
      refine lft_run rfl rfl ?_
      unfold LftRun
      go_wp2
      exact ⟨rfl, rfl, rfl, Below.refl _ _⟩
    · intro w6 hw6
      clear hKc
      refine withLeft_is rfl rfl ?_
      refine withLeft_is rfl rfl ?_
      refine withLeft_is rfl rfl ?_
      refine withLeft_is rfl rfl ?_
      refine withLeft_nil ?_
      simp only [Act.put, List.setIfInBounds_toArray, List.set_cons_zero, List.set_cons_succ]
      refine lft_run rfl rfl ?_
      unfold LftRun
      go_wp2
      exact ⟨rfl, ⟨_, rfl, heap_alloc_new _ _⟩, rfl, (Below.refl _ _).alloc (Nat.le_refl _) _⟩
    · intro w6 hw6
      clear hKc
      refine withLeft_ex rfl rfl ?_
      intro vv hvv
      refine withLeft_nil ?_
      simp only [Act.put, List.setIfInBounds_toArray, List.set_cons_zero, List.set_cons_succ]
      refine lft_run rfl rfl ?_
      exact lft_assign rfl hvv
  intro w6 hw6
  refine LeftEnd.is (LeftEnd.bytes (fun _ _ => LeftEnd.is (LeftEnd.is (LeftEnd.bytes (fun _ _ => LeftEnd.is (LeftEnd.is (LeftEnd.bytes (fun _ _ => LeftEnd.is (LeftEnd.is (LeftEnd.bytes (fun _ _ => LeftEnd.is (LeftEnd.ex (fun _ _ => LeftEnd.ex (fun x6 hx6 => LeftEnd.nil ?_))))))))))))))
  simp only [Act.put, List.setIfInBounds_toArray, List.set_cons_zero, List.set_cons_succ]
  have HB6 : Hid (Below w.heap.size w w6) := HB5.out.trans (hw6.mono HB5.out.size)
  obtain ⟨b5, rfl, hc5⟩ := HX5.out.below hw6
  obtain ⟨b6, rfl, hc6⟩ := (show FourAt (fourOf b) x6 w6 from hx6)
  have HC5 := Lib.hid (fun i => cells_of hc5 i); have HC6 := Lib.hid (fun i => cells_of hc6 i)
  clear hw6 hx6 hc5 hc6
  refine hKc _ _ ?_
  clear hKc Kc
  go_wp2
  go_loopw [7] (fun i wr => ∃ n : Nat, n ≤ 4 ∧ i = .int .i64 n ∧ Below w.heap.size w wr ∧ (∀ j, j < 4 → wr.cell? ⟨b5, j, none⟩ = some (.string (fourOf a j))) ∧ ∀ j, j < 4 → wr.cell? ⟨b6, j, none⟩ = some (.string (fourOf b j))) (fun i _ => 4 - (intOf i).toNat)
  case atStart => exact ⟨0, by omega, rfl, HB6.out, fun j hj => (HC5.out j).trans (four_cell hj), fun j hj => (HC6.out j).trans (four_cell hj)⟩
  case round =>
    obtain ⟨n, hn, rfl, hbr, h5, h6⟩ := hrel
    clear HC5 HC6
    have HB := Lib.hid hbr; have H5 := Lib.hid h5; have H6 := Lib.hid h6
    clear hbr h5 h6
    by_cases hn4 : n < 4
    · go_wp2
      go_loopw [8] (fun i wr => ∃ m : Nat, m ≤ 4 ∧ i = .int .i64 m ∧ Below w.heap.size w wr ∧ (∀ j, j < 4 → wr.cell? ⟨b5, j, none⟩ = some (.string (fourOf a j))) ∧ ∀ j, j < 4 → wr.cell? ⟨b6, j, none⟩ = some (.string (fourOf b j))) (fun i _ => 4 - (intOf i).toNat)
      case atStart => exact ⟨0, by omega, rfl, HB.out, H5.out, H6.out⟩
      case round =>
        obtain ⟨m, hm, rfl, hbr, h5, h6⟩ := hrel
        clear HB H5 H6
        by_cases hm4 : m < 4
        · have hcell5 := h5 n hn4
          have hcell6 := h6 m hm4
          have hE := four_eq HSA.out HSB.out hn4 hm4
          have HB := Lib.hid hbr; have H5 := Lib.hid h5; have H6 := Lib.hid h6
          have HM4 := Lib.hid hm4
          have hszn := hsz n
          clear hbr h5 h6
          rw [HAB.out] at hE
          by_cases hnm : n = m
          · subst hnm
            rw [decide_eq_true rfl, Bool.true_and] at hE
            have hab := HAB.out
            go_wp2
            go_quiet (fail)
            go_wp2
            go_roundw
            case rel => exact ⟨n + 1, by have := HM4.out; omega, by go_num, HB.out.trans (below_drewN _ _), H5.out, H6.out⟩
            case measure => have := HM4.out; simp [intOf]; omega
          · rw [decide_eq_false hnm, Bool.false_and] at hE
            have hne : ((n : Int) == (m : Int)) = false := by rw [beq_eq_false_iff_ne]; omega
            go_wp2
            go_quiet (fail)
            go_wp2
            go_roundw
            case rel => exact ⟨m + 1, by have := HM4.out; omega, by go_num, HB.out.trans (below_drewN _ _), H5.out, H6.out⟩
            case measure => have := HM4.out; simp [intOf]; omega
        · obtain rfl : m = 4 := by omega
          have HB := Lib.hid hbr; have H5 := Lib.hid h5; have H6 := Lib.hid h6
          clear hbr h5 h6
          go_wp2
          go_roundw
          case rel => exact ⟨n + 1, by omega, by go_num, HB.out, H5.out, H6.out⟩
          case measure => simp [intOf]; omega
    · obtain rfl : n = 4 := by omega
      clear H5 H6 hn hn4
      go_wp2_with fail
      refine (stream_any a 7 _ HHA.out (by omega)).mono ?_
      rintro e w7 ⟨v7, rfl, ho7, hb7⟩
      have HT7 := Lib.hid (takeStream_any _ _ _ (ho7.bytes pairK_small))
      have HB7 : Hid (Below w.heap.size w w7) := HB.out.trans (hb7.mono HB.out.size)
      clear ho7 hb7
      go_wp2_with fail
      refine HT7.out.mono ?_
      rintro e w8 ⟨rfl, hb8⟩
      have HB8 : Hid (Below w.heap.size w w8) := HB7.out.trans (hb8.mono HB7.out.size)
      rw [pkV_pair HSA.out (by omega) (by omega)]
      clear hb8
      go_wp2_with fail
      refine (type_any b 9 _ HHB.out (by omega)).mono ?_
      rintro e w9 ⟨v9, rfl, ho9, hb9⟩
      have HT9 := Lib.hid (takeType_any _ _ _ (ho9.bytes pairK_small))
      have HB9 : Hid (Below w.heap.size w w9) := HB8.out.trans (hb9.mono HB8.out.size)
      clear ho9 hb9
      go_wp2_with fail
      refine HT9.out.mono ?_
      rintro e w10 ⟨rfl, hb10⟩
      have HB10 : Hid (Below w.heap.size w w10) := HB9.out.trans (hb10.mono HB9.out.size)
      rw [pkV_pair HSB.out (by omega) (by omega)]
      clear hb10
      go_wp2
      go_ret
      exact ⟨rfl, HB10.out⟩

set_option maxRecDepth 100000 in
set_option maxHeartbeats 1600000 in
/-- What may not be asked: it is true of itself. -/
theorem apart_no (a b : ByteArray) (w : World) (ha : a.size ≤ maxLen) (hb : b.size ≤ maxLen) (h : ¬ (mayNm (natsOf a) = true ∧ mayNm (natsOf b) = true)) :
    Calls Try.prog 6 #[.string a, .string b] w fun e w' => e = .returned (.bool true) ∧ Below w.heap.size w w' := by
  have HBG := Lib.hid (begun_any w)
  have HMA := Lib.hid (fun w => refMay_any a w ha)
  have HMB := Lib.hid (fun w => refMay_any b w hb)
  have H := Lib.hid h
  clear h ha hb
  go_enter Try.func6, Try.ntmps6
  go_wp2_with fail
  refine HBG.out.mono ?_
  rintro e w1 ⟨rfl, hb1⟩
  have HB1 := Lib.hid hb1
  clear hb1
  go_wp2_with fail
  refine (HMA.out w1).mono ?_
  rintro e w2 ⟨rfl, rfl⟩
  cases hma : mayNm (natsOf a) with
  | false =>
    go_wp2
    go_ret
    exact ⟨rfl, HB1.out⟩
  | true =>
    go_wp2_with fail
    refine (HMB.out w1).mono ?_
    rintro e w2 ⟨rfl, rfl⟩
    cases hmb : mayNm (natsOf b) with
    | false =>
      go_wp2
      go_ret
      exact ⟨rfl, HB1.out⟩
    | true => exact absurd ⟨hma, hmb⟩ H.out

theorem apart_any (a b : ByteArray) (w : World) (ha : a.size ≤ maxLen) (hb : b.size ≤ maxLen) :
    Calls Try.prog 6 #[.string a, .string b] w fun e w' => e = .returned (.bool true) ∧ Below w.heap.size w w' := by
  by_cases h : mayNm (natsOf a) = true ∧ mayNm (natsOf b) = true
  · cases hB : a.toList == b.toList with
    | true => exact apart_same a b w ha hb h.1 h.2 hB
    | false => exact apart_other a b w ha hb h.1 h.2 hB
  · exact apart_no a b w ha hb h

set_option maxRecDepth 100000 in
theorem keyApart_lifted (os : Os) (started : os.Started) (H : Type) (enc : TypeId × Value → H) :
    ReturnsInHanded {} Try.checked os 6 .any (Rows.keyApartSpec.pre6 enc Try.prog Try.f6 Rows.keyApartRow.domain false) (Rows.keyApartSpec.post enc Try.prog Try.f6 false true false false) := by
  refine returnsInHanded_of_change (C := Try.checked) own_none started (by kernel_rfl) Try.func6
    (ChangeSpec.witness6 (enc := enc) (C := Try.checked) false ⟨#[], #[.string ⟨#[]⟩, .string ⟨#[]⟩], []⟩ 8 (by kernel_rfl) (by kernel_rfl) (by kernel_rfl) (by kernel_rfl)) ?_
  intro W base args ds gs before hval0 hW hcnd _
  have hval : ∀ (j : Nat) t v, Try.f6.params[j]? = some t → args[j]? = some v → Value.okWide Try.prog W .any base t v := hval0
  have hW' := hW
  obtain ⟨p, q, hA0, hV, rfl, hfz, hnd⟩ := hW
  have hA : DataW.TrodAll enc Try.prog W 0 (fun _ => true) true Try.f6.params.toList args.toList ds p := hA0
  have hp : Try.f6.params = #[9, 9] := by kernel_rfl
  rw [hp] at hA hval
  obtain ⟨v0, vs0, d0, ds0, p0, q0, ha0, rfl, rfl, h0, hA⟩ := trodAll_cons hA
  obtain ⟨v1, vs1, d1, ds1, p1, q1, rfl, rfl, rfl, h1, hA⟩ := trodAll_cons hA
  obtain ⟨rfl, rfl, rfl⟩ := trodAll_nil hA
  obtain rfl : args = #[v0, v1] := by cases args; simp_all
  obtain ⟨rfl, rfl⟩ := trodVars_none hV
  obtain ⟨a, rfl, _, _, wa⟩ := Go.ChangeMaps.open_string (P := Try.prog) (t := 9) (by kernel_rfl) (hval 0 9 v0 rfl rfl) h0
  obtain ⟨b, rfl, _, _, wb⟩ := Go.ChangeMaps.open_string (P := Try.prog) (t := 9) (by kernel_rfl) (hval 1 9 v1 rfl rfl) h1
  refine (apart_any a b W wa wb).mono fun e W' ⟨he, hb⟩ => ?_
  subst he
  exact ⟨_, rfl, law_post (tb := 4) laidOut (by rw [hp]; intro t ht; simp at ht; subst ht; exact ⟨by kernel_rfl, by decide +kernel⟩) rfl rfl (by kernel_rfl) (by kernel_rfl) hW' hb⟩

theorem keyApart_holds : Rows.KeyApartSaid :=
  OpenClaim.holds_of_wide 6 Try.f6 rfl rfl rfl rfl rfl rfl rfl ⟨rfl, rfl, rfl, rfl, rfl⟩ rfl rfl rfl rfl rfl (by kernel_rfl) Try.func6 (by kernel_rfl)
    (of_decide_eq_true (by kernel_rfl)) (by unfold Func.isWrapper; rw [if_neg (by decide +kernel)]; exact ⟨rfl, rfl⟩)
    (fun os started H enc _ => keyApart_lifted os started H enc)
end Go.Proofs.Ytfebdgnojacoiaa

