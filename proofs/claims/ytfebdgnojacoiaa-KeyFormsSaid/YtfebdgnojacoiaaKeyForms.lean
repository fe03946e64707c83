/- The law KeyForms: every call of it returns true, and all that was there before the call is as it was. No condition. -/
import Derived.Test.YtfebdgnojacoiaaRows
import Derived.Test.YtfebdgnojacoiaaLaw
import Derived.Test.YtfebdgnojacoiaaKeyOA
import Derived.Test.YtfebdgnojacoiaaKeyAfP
namespace Go.Proofs.Ytfebdgnojacoiaa
open Go Go.ChangeShapes Go.WideShapes Go.ChangeAt Go.RowKit Go.By

/-- No names; no keys. -/
def badOf : Nat → ByteArray
  | 0 => ⟨#[]⟩
  | 1 => ⟨#[97, 32, 98]⟩
  | 2 => ⟨#[97, 0]⟩
  | 3 => ⟨#[127]⟩
  | 4 => ⟨#[115, 101, 118, 101, 110, 116, 101, 101, 110, 45, 98, 121, 116, 101, 115, 45, 120]⟩
  | _ => ⟨#[195, 164]⟩
def nonOf : Nat → ByteArray
  | 0 => ⟨#[]⟩
  | 1 => ⟨#[0, 0, 0, 0, 0, 0, 0, 0, 0]⟩
  | 2 => ⟨#[97, 0, 128, 0, 0, 0, 0, 0, 0, 0]⟩
  | 3 => ⟨#[97, 1, 0, 0, 0, 0, 0, 0, 0, 0]⟩
  | _ => ⟨#[97, 0, 0, 0, 0, 0, 0, 0, 0]⟩
theorem bad_cell {j : Nat} (hj : j < 6) : (#[.string ⟨#[]⟩, .string ⟨#[97, 32, 98]⟩, .string ⟨#[97, 0]⟩, .string ⟨#[127]⟩, .string ⟨#[115, 101, 118, 101, 110, 116, 101, 101, 110, 45, 98, 121, 116, 101, 115, 45, 120]⟩, .string ⟨#[195, 164]⟩] : Array Value)[j]? = some (.string (badOf j)) := by
  match j, hj with
  | 0, _ => rfl
  | 1, _ => rfl
  | 2, _ => rfl
  | 3, _ => rfl
  | 4, _ => rfl
  | 5, _ => rfl
theorem non_cell {j : Nat} (hj : j < 5) : (#[.string ⟨#[]⟩, .string ⟨#[0, 0, 0, 0, 0, 0, 0, 0, 0]⟩, .string ⟨#[97, 0, 128, 0, 0, 0, 0, 0, 0, 0]⟩, .string ⟨#[97, 1, 0, 0, 0, 0, 0, 0, 0, 0]⟩, .string ⟨#[97, 0, 0, 0, 0, 0, 0, 0, 0]⟩] : Array Value)[j]? = some (.string (nonOf j)) := by
  match j, hj with
  | 0, _ => rfl
  | 1, _ => rfl
  | 2, _ => rfl
  | 3, _ => rfl
  | 4, _ => rfl
theorem bad_may {j : Nat} (hj : j < 6) : mayNm (natsOf (badOf j)) = false := by
  match j, hj with
  | 0, _ => rw [natsOf_data]; decide
  | 1, _ => rw [natsOf_data]; decide
  | 2, _ => rw [natsOf_data]; decide
  | 3, _ => rw [natsOf_data]; decide
  | 4, _ => rw [natsOf_data]; decide
  | 5, _ => rw [natsOf_data]; decide
theorem bad_size {j : Nat} (hj : j < 6) : (badOf j).size ≤ maxLen := by
  match j, hj with
  | 0, _ => decide
  | 1, _ => decide
  | 2, _ => decide
  | 3, _ => decide
  | 4, _ => decide
  | 5, _ => decide
theorem non_pair {j : Nat} (hj : j < 5) : isPair (natsOf (nonOf j)) = false := by
  match j, hj with
  | 0, _ => rw [natsOf_data]; decide
  | 1, _ => rw [natsOf_data]; decide
  | 2, _ => rw [natsOf_data]; decide
  | 3, _ => rw [natsOf_data]; decide
  | 4, _ => rw [natsOf_data]; decide
theorem non_size {j : Nat} (hj : j < 5) : (nonOf j).size ≤ 10 := by
  match j, hj with
  | 0, _ => decide
  | 1, _ => decide
  | 2, _ => decide
  | 3, _ => decide
  | 4, _ => decide

theorem pairK_no {l : List Nat} {n : Int} (h : mayNm l = false) : pairK l n = [] := by
  unfold pairK
  rw [if_neg (by rw [h]; simp)]
theorem letK_no {l : List Nat} {c : Nat} (h : mayNm l = false) : letK c l = [] := by
  unfold letK
  rw [if_neg (by rw [h]; simp)]

set_option maxRecDepth 100000 in
set_option maxHeartbeats 8000000 in
theorem forms_any (w : World) : Calls Try.prog 7 #[] w fun e w' => e = .returned (.bool true) ∧ Below w.heap.size w w' := by
  have hcc := fun (w : World) (C : Array Value) (n c : Nat) => Lib.run_convert_bytes_const (P := Try.prog) w 22 5 C n c byT.slice byT.elem
  have HCC := Lib.hid hcc
  clear hcc
  go_enter Try.func7, Try.ntmps7
  go_wp2_with fail
  refine (begun_any w).mono ?_
  rintro e w1 ⟨rfl, hb1⟩
  have HB1 := Lib.hid hb1
  clear hb1
  go_wp2
  have hc0 := fun j (hj : j < 6) => (cell_new w1 #[.string ⟨#[]⟩, .string ⟨#[97, 32, 98]⟩, .string ⟨#[97, 0]⟩, .string ⟨#[127]⟩, .string ⟨#[115, 101, 118, 101, 110, 116, 101, 101, 110, 45, 98, 121, 116, 101, 115, 45, 120]⟩, .string ⟨#[195, 164]⟩] 9 (0, 0) j).trans (bad_cell hj)
  have hB2 := HB1.out.alloc HB1.out.size (.cells #[.string ⟨#[]⟩, .string ⟨#[97, 32, 98]⟩, .string ⟨#[97, 0]⟩, .string ⟨#[127]⟩, .string ⟨#[115, 101, 118, 101, 110, 116, 101, 101, 110, 45, 98, 121, 116, 101, 115, 45, 120]⟩, .string ⟨#[195, 164]⟩] 9)
  obtain ⟨rb, hrb⟩ : ∃ rb, rb = w1.heap.size := ⟨_, rfl⟩
  rw [← hrb] at hc0 ⊢
  have HC0 := Lib.hid hc0; have HB2 := Lib.hid hB2
  clear hc0 hB2 hrb
  go_loopw [2] (fun i wr => ∃ n : Nat, n ≤ 6 ∧ i = .int .i64 n ∧ Below w.heap.size w wr ∧ ∀ j, j < 6 → wr.cell? ⟨rb, j, none⟩ = some (.string (badOf j))) (fun i _ => 6 - (intOf i).toNat)
  case atStart => exact ⟨0, by omega, rfl, HB2.out, HC0.out⟩
  case round =>
    obtain ⟨n, hn, rfl, hbr, hcr⟩ := hrel
    clear HB2 HC0 HB1
    have HB := Lib.hid hbr; have HC := Lib.hid hcr
    clear hbr hcr
    by_cases hn6 : n < 6
    · have HCN := Lib.hid (HC.out n hn6)
      have hbm := bad_may hn6; have hbs := bad_size hn6
      have HMAY : Hid (∀ w, Calls Try.prog 12 #[.string (badOf n)] w fun e w' => e = .returned (.bool false) ∧ w = w') := fun w => by
        have := mayName_any (badOf n) w hbs
        rw [hbm] at this
        exact this
      have HSTR : Hid (∀ w, Calls Try.prog 14 #[.string (badOf n), .int .i64 1] w (Tells w [])) := fun w => by rw [← pairK_no (n := 1) hbm]; exact stream_any _ 1 w hbs (by omega)
      have HTYP : Hid (∀ w, Calls Try.prog 16 #[.string (badOf n), .int .i64 1] w (Tells w [])) := fun w => by rw [← pairK_no (n := 1) hbm]; exact type_any _ 1 w hbs (by omega)
      have HHEA : Hid (∀ w, Calls Try.prog 20 #[.string (badOf n)] w (Tells w [])) := fun w => by rw [← letK_no (c := 104) hbm]; exact head_any _ w hbs
      have HIDD : Hid (∀ w, Calls Try.prog 22 #[.string (badOf n)] w (Tells w [])) := fun w => by rw [← letK_no (c := 105) hbm]; exact id_any _ w hbs
      have HSNA : Hid (∀ w, Calls Try.prog 23 #[.string (badOf n)] w (Tells w [])) := fun w => by rw [← letK_no (c := 115) hbm]; exact snap_any _ w hbs
      have HPOI : Hid (∀ w, Calls Try.prog 24 #[.string (badOf n)] w (Tells w [])) := fun w => by rw [← letK_no (c := 112) hbm]; exact point_any _ w hbs
      clear hbm hbs
      go_wp2
      rename_i Kc hKc
      refine wp_region_left (by kernel_rfl)
        [.is (.slice (some ⟨rb, 0, none⟩) 6 6),
         .is (.int .i64 n),
         .is (.pointer (some ⟨rb, n, none⟩)),
         .is (.string (badOf n)),
         .is (.bool false),
         .is (.bool false),
         .is (.slice (some ⟨rb, 0, none⟩) 6 6),
         .is (.int .i64 n),
         .is (.pointer (some ⟨rb, n, none⟩)),
         .is (.string (badOf n)),
         .bytes [],
         .is (.int .i64 0),
         .is (.slice (some ⟨rb, 0, none⟩) 6 6),
         .is (.int .i64 n),
         .is (.pointer (some ⟨rb, n, none⟩)),
         .is (.string (badOf n)),
         .bytes [],
         .is (.int .i64 0),
         .is (.int .i64 0),
         .is (.slice (some ⟨rb, 0, none⟩) 6 6),
         .is (.int .i64 n),
         .is (.pointer (some ⟨rb, n, none⟩)),
         .is (.string (badOf n)),
         .bytes [],
         .is (.int .i64 0),
         .is (.int .i64 0),
         .is (.slice (some ⟨rb, 0, none⟩) 6 6),
         .is (.int .i64 n),
         .is (.pointer (some ⟨rb, n, none⟩)),
         .is (.string (badOf n)),
         .bytes [],
         .is (.int .i64 0),
         .is (.int .i64 0),
         .is (.slice (some ⟨rb, 0, none⟩) 6 6),
         .is (.int .i64 n),
         .is (.pointer (some ⟨rb, n, none⟩)),
         .is (.string (badOf n)),
         .bytes [],
         .is (.int .i64 0),
         .is (.int .i64 0),
         .is (.slice (some ⟨rb, 0, none⟩) 6 6),
         .is (.int .i64 n),
         .is (.pointer (some ⟨rb, n, none⟩)),
         .is (.string (badOf n)),
         .bytes [],
         .is (.int .i64 0),
         .is (.int .i64 0),
         .is (.bool false),
         .is (.bool false)]
        [[], [], [0, 1], [2], [3], [4], [5], [5], [5, 6, 7], [5, 8], [5, 9], [5, 10], [5], [5], [5, 12, 13], [5, 14], [5, 15], [5, 16], [5, 11, 17], [5], [5], [5, 19, 20], [5, 21], [5, 22], [5, 23], [5, 18, 24], [5], [5], [5, 26, 27], [5, 28], [5, 29], [5, 30], [5, 25, 31], [5], [5], [5, 33, 34], [5, 35], [5, 36], [5, 37], [5, 32, 38], [5], [5], [5, 40, 41], [5, 42], [5, 43], [5, 44], [5, 39, 45], [5, 46], [5, 47]] (by kernel_rfl) (by rfl) ?_ ?_
      · refine LeftOps.cons ?_ (LeftOps.cons ?_ (LeftOps.cons ?_ (LeftOps.cons ?_ (LeftOps.cons ?_ (LeftOps.cons ?_ (LeftOps.cons ?_ (LeftOps.cons ?_ (LeftOps.cons ?_ (LeftOps.cons ?_ (LeftOps.cons ?_ (LeftOps.cons ?_ (LeftOps.cons ?_ (LeftOps.cons ?_ (LeftOps.cons ?_ (LeftOps.cons ?_ (LeftOps.cons ?_ (LeftOps.cons ?_ (LeftOps.cons ?_ (LeftOps.cons ?_ (LeftOps.cons ?_ (LeftOps.cons ?_ (LeftOps.cons ?_ (LeftOps.cons ?_ (LeftOps.cons ?_ (LeftOps.cons ?_ (LeftOps.cons ?_ (LeftOps.cons ?_ (LeftOps.cons ?_ (LeftOps.cons ?_ (LeftOps.cons ?_ (LeftOps.cons ?_ (LeftOps.cons ?_ (LeftOps.cons ?_ (LeftOps.cons ?_ (LeftOps.cons ?_ (LeftOps.cons ?_ (LeftOps.cons ?_ (LeftOps.cons ?_ (LeftOps.cons ?_ (LeftOps.cons ?_ (LeftOps.cons ?_ (LeftOps.cons ?_ (LeftOps.cons ?_ (LeftOps.cons ?_ (LeftOps.cons ?_ (LeftOps.cons ?_ (LeftOps.cons ?_ (LeftOps.cons ?_ (LeftOps.nil)))))))))))))))))))))))))))))))))))))))))))))))))
        · intro w7 hw7
          clear hKc
          refine withLeft_nil ?_
          refine lft_run rfl rfl ?_
          exact lft_move rfl (by first | rfl | assumption)
        · intro w7 hw7
          clear hKc
          refine withLeft_nil ?_
          refine lft_run rfl rfl ?_
          exact lft_move rfl (by first | rfl | assumption)
        · intro w7 hw7
          clear hKc
          refine withLeft_is rfl rfl ?_
          refine withLeft_is rfl rfl ?_
          refine withLeft_nil ?_
          simp only [Act.put, List.setIfInBounds_toArray, List.set_cons_zero, List.set_cons_succ]
          refine lft_run rfl rfl ?_
          unfold LftRun
          go_wp2
          exact ⟨rfl, rfl, rfl, Below.refl _ _⟩
        · intro w7 hw7
          clear hKc
          refine withLeft_is rfl rfl ?_
          refine withLeft_nil ?_
          simp only [Act.put, List.setIfInBounds_toArray, List.set_cons_zero, List.set_cons_succ]
          refine lft_run rfl rfl ?_
          have hcz := (hw7.cell (p := ⟨rb, n, none⟩) (block_lt_of_cell HCN.out)).trans HCN.out
          unfold LftRun
          go_wp2
          exact ⟨rfl, rfl, rfl, Below.refl _ _⟩
        · intro w7 hw7
          clear hKc
          refine withLeft_is rfl rfl ?_
          refine withLeft_nil ?_
          simp only [Act.put, List.setIfInBounds_toArray, List.set_cons_zero, List.set_cons_succ]
          refine lft_run rfl rfl ?_
          unfold LftRun
          go_wp2_with fail
          refine (HMAY.out w7).mono ?_
          rintro e wq ⟨rfl, rfl⟩
          go_wp2
          exact ⟨rfl, rfl, rfl, Below.refl _ _⟩
        · intro w7 hw7
          clear hKc
          refine withLeft_is rfl rfl ?_
          refine withLeft_nil ?_
          simp only [Act.put, List.setIfInBounds_toArray, List.set_cons_zero, List.set_cons_succ]
          refine lft_run rfl rfl ?_
          exact lft_move rfl (by first | rfl | assumption)
        · intro w7 hw7
          clear hKc
          refine withLeft_is rfl rfl ?_
          refine withLeft_nil ?_
          simp only [Act.put, List.setIfInBounds_toArray, List.set_cons_zero, List.set_cons_succ]
          refine lft_want rfl rfl rfl rfl ?_
          exact lft_move rfl (by first | rfl | assumption)
        · intro w7 hw7
          clear hKc
          refine withLeft_is rfl rfl ?_
          refine withLeft_nil ?_
          simp only [Act.put, List.setIfInBounds_toArray, List.set_cons_zero, List.set_cons_succ]
          refine lft_want rfl rfl rfl rfl ?_
          exact lft_move rfl (by first | rfl | assumption)
        · intro w7 hw7
          clear hKc
          refine withLeft_is rfl rfl ?_
          refine withLeft_is rfl rfl ?_
          refine withLeft_is rfl rfl ?_
          refine withLeft_nil ?_
          simp only [Act.put, List.setIfInBounds_toArray, List.set_cons_zero, List.set_cons_succ]
          refine lft_want rfl rfl rfl rfl ?_
          unfold LftRun
          go_wp2
          exact ⟨rfl, rfl, rfl, Below.refl _ _⟩
        · intro w7 hw7
          clear hKc
          refine withLeft_is rfl rfl ?_
          refine withLeft_is rfl rfl ?_
          refine withLeft_nil ?_
          simp only [Act.put, List.setIfInBounds_toArray, List.set_cons_zero, List.set_cons_succ]
          refine lft_want rfl rfl rfl rfl ?_
          have hcz := (hw7.cell (p := ⟨rb, n, none⟩) (block_lt_of_cell HCN.out)).trans HCN.out
          unfold LftRun
          go_wp2
          exact ⟨rfl, rfl, rfl, Below.refl _ _⟩
        · intro w7 hw7
          clear hKc
          refine withLeft_is rfl rfl ?_
          refine withLeft_is rfl rfl ?_
          refine withLeft_nil ?_
          simp only [Act.put, List.setIfInBounds_toArray, List.set_cons_zero, List.set_cons_succ]
          refine lft_want rfl rfl rfl rfl ?_
          unfold LftRun
          go_wp2_with fail
          refine (HSTR.out w7).mono ?_
          rintro e wq ⟨vq, rfl, hoq, hbq⟩
          have hyq := hoq.bytes (by simp)
          clear hoq
          go_wp2
          exact ⟨rfl, hyq, rfl, hbq⟩
        · intro w7 hw7
          clear hKc
          refine withLeft_is rfl rfl ?_
          refine withLeft_bytes rfl rfl ?_
          intro vv hvv
          obtain ⟨pv, cv, rfl, _⟩ := hvv.any
          refine withLeft_nil ?_
          simp only [Act.put, List.setIfInBounds_toArray, List.set_cons_zero, List.set_cons_succ]
          refine lft_want rfl rfl rfl rfl ?_
          unfold LftRun
          go_wp2
          exact ⟨rfl, rfl, rfl, Below.refl _ _⟩
        · intro w7 hw7
          clear hKc
          refine withLeft_is rfl rfl ?_
          refine withLeft_nil ?_
          simp only [Act.put, List.setIfInBounds_toArray, List.set_cons_zero, List.set_cons_succ]
          refine lft_want rfl rfl rfl rfl ?_
          exact lft_move rfl (by first | rfl | assumption)
        · intro w7 hw7
          clear hKc
          refine withLeft_is rfl rfl ?_
          refine withLeft_nil ?_
          simp only [Act.put, List.setIfInBounds_toArray, List.set_cons_zero, List.set_cons_succ]
          refine lft_want rfl rfl rfl rfl ?_
          exact lft_move rfl (by first | rfl | assumption)
        · intro w7 hw7
          clear hKc
          refine withLeft_is rfl rfl ?_
          refine withLeft_is rfl rfl ?_
          refine withLeft_is rfl rfl ?_
          refine withLeft_nil ?_
          simp only [Act.put, List.setIfInBounds_toArray, List.set_cons_zero, List.set_cons_succ]
          refine lft_want rfl rfl rfl rfl ?_
          unfold LftRun
          go_wp2
          exact ⟨rfl, rfl, rfl, Below.refl _ _⟩
        · intro w7 hw7
          clear hKc
          refine withLeft_is rfl rfl ?_
          refine withLeft_is rfl rfl ?_
          refine withLeft_nil ?_
          simp only [Act.put, List.setIfInBounds_toArray, List.set_cons_zero, List.set_cons_succ]
          refine lft_want rfl rfl rfl rfl ?_
          have hcz := (hw7.cell (p := ⟨rb, n, none⟩) (block_lt_of_cell HCN.out)).trans HCN.out
          unfold LftRun
          go_wp2
          exact ⟨rfl, rfl, rfl, Below.refl _ _⟩
        · intro w7 hw7
          clear hKc
          refine withLeft_is rfl rfl ?_
          refine withLeft_is rfl rfl ?_
          refine withLeft_nil ?_
          simp only [Act.put, List.setIfInBounds_toArray, List.set_cons_zero, List.set_cons_succ]
          refine lft_want rfl rfl rfl rfl ?_
          unfold LftRun
          go_wp2_with fail
          refine (HTYP.out w7).mono ?_
          rintro e wq ⟨vq, rfl, hoq, hbq⟩
          have hyq := hoq.bytes (by simp)
          clear hoq
          go_wp2
          exact ⟨rfl, hyq, rfl, hbq⟩
        · intro w7 hw7
          clear hKc
          refine withLeft_is rfl rfl ?_
          refine withLeft_bytes rfl rfl ?_
          intro vv hvv
          obtain ⟨pv, cv, rfl, _⟩ := hvv.any
          refine withLeft_nil ?_
          simp only [Act.put, List.setIfInBounds_toArray, List.set_cons_zero, List.set_cons_succ]
          refine lft_want rfl rfl rfl rfl ?_
          unfold LftRun
          go_wp2
          exact ⟨rfl, rfl, rfl, Below.refl _ _⟩
        · intro w7 hw7
          clear hKc
          refine withLeft_is rfl rfl ?_
          refine withLeft_is rfl rfl ?_
          refine withLeft_is rfl rfl ?_
          refine withLeft_nil ?_
          simp only [Act.put, List.setIfInBounds_toArray, List.set_cons_zero, List.set_cons_succ]
          refine lft_want rfl rfl rfl rfl ?_
          unfold LftRun
          go_wp2
          exact ⟨rfl, rfl, rfl, Below.refl _ _⟩
        · intro w7 hw7
          clear hKc
          refine withLeft_is rfl rfl ?_
          refine withLeft_nil ?_
          simp only [Act.put, List.setIfInBounds_toArray, List.set_cons_zero, List.set_cons_succ]
          refine lft_want rfl rfl rfl rfl ?_
          exact lft_move rfl (by first | rfl | assumption)
        · intro w7 hw7
          clear hKc
          refine withLeft_is rfl rfl ?_
          refine withLeft_nil ?_
          simp only [Act.put, List.setIfInBounds_toArray, List.set_cons_zero, List.set_cons_succ]
          refine lft_want rfl rfl rfl rfl ?_
          exact lft_move rfl (by first | rfl | assumption)
        · intro w7 hw7
          clear hKc
          refine withLeft_is rfl rfl ?_
          refine withLeft_is rfl rfl ?_
          refine withLeft_is rfl rfl ?_
          refine withLeft_nil ?_
          simp only [Act.put, List.setIfInBounds_toArray, List.set_cons_zero, List.set_cons_succ]
          refine lft_want rfl rfl rfl rfl ?_
          unfold LftRun
          go_wp2
          exact ⟨rfl, rfl, rfl, Below.refl _ _⟩
        · intro w7 hw7
          clear hKc
          refine withLeft_is rfl rfl ?_
          refine withLeft_is rfl rfl ?_
          refine withLeft_nil ?_
          simp only [Act.put, List.setIfInBounds_toArray, List.set_cons_zero, List.set_cons_succ]
          refine lft_want rfl rfl rfl rfl ?_
          have hcz := (hw7.cell (p := ⟨rb, n, none⟩) (block_lt_of_cell HCN.out)).trans HCN.out
          unfold LftRun
          go_wp2
          exact ⟨rfl, rfl, rfl, Below.refl _ _⟩
        · intro w7 hw7
          clear hKc
          refine withLeft_is rfl rfl ?_
          refine withLeft_is rfl rfl ?_
          refine withLeft_nil ?_
          simp only [Act.put, List.setIfInBounds_toArray, List.set_cons_zero, List.set_cons_succ]
          refine lft_want rfl rfl rfl rfl ?_
          unfold LftRun
          go_wp2_with fail
          refine (HHEA.out w7).mono ?_
          rintro e wq ⟨vq, rfl, hoq, hbq⟩
          have hyq := hoq.bytes (by simp)
          clear hoq
          go_wp2
          exact ⟨rfl, hyq, rfl, hbq⟩
        · intro w7 hw7
          clear hKc
          refine withLeft_is rfl rfl ?_
          refine withLeft_bytes rfl rfl ?_
          intro vv hvv
          obtain ⟨pv, cv, rfl, _⟩ := hvv.any
          refine withLeft_nil ?_
          simp only [Act.put, List.setIfInBounds_toArray, List.set_cons_zero, List.set_cons_succ]
          refine lft_want rfl rfl rfl rfl ?_
          unfold LftRun
          go_wp2
          exact ⟨rfl, rfl, rfl, Below.refl _ _⟩
        · intro w7 hw7
          clear hKc
          refine withLeft_is rfl rfl ?_
          refine withLeft_is rfl rfl ?_
          refine withLeft_is rfl rfl ?_
          refine withLeft_nil ?_
          simp only [Act.put, List.setIfInBounds_toArray, List.set_cons_zero, List.set_cons_succ]
          refine lft_want rfl rfl rfl rfl ?_
          unfold LftRun
          go_wp2
          exact ⟨rfl, rfl, rfl, Below.refl _ _⟩
        · intro w7 hw7
          clear hKc
          refine withLeft_is rfl rfl ?_
          refine withLeft_nil ?_
          simp only [Act.put, List.setIfInBounds_toArray, List.set_cons_zero, List.set_cons_succ]
          refine lft_want rfl rfl rfl rfl ?_
          exact lft_move rfl (by first | rfl | assumption)
        · intro w7 hw7
          clear hKc
          refine withLeft_is rfl rfl ?_
          refine withLeft_nil ?_
          simp only [Act.put, List.setIfInBounds_toArray, List.set_cons_zero, List.set_cons_succ]
          refine lft_want rfl rfl rfl rfl ?_
          exact lft_move rfl (by first | rfl | assumption)
        · intro w7 hw7
          clear hKc
          refine withLeft_is rfl rfl ?_
          refine withLeft_is rfl rfl ?_
          refine withLeft_is rfl rfl ?_
          refine withLeft_nil ?_
          simp only [Act.put, List.setIfInBounds_toArray, List.set_cons_zero, List.set_cons_succ]
          refine lft_want rfl rfl rfl rfl ?_
          unfold LftRun
          go_wp2
          exact ⟨rfl, rfl, rfl, Below.refl _ _⟩
        · intro w7 hw7
          clear hKc
          refine withLeft_is rfl rfl ?_
          refine withLeft_is rfl rfl ?_
          refine withLeft_nil ?_
          simp only [Act.put, List.setIfInBounds_toArray, List.set_cons_zero, List.set_cons_succ]
          refine lft_want rfl rfl rfl rfl ?_
          have hcz := (hw7.cell (p := ⟨rb, n, none⟩) (block_lt_of_cell HCN.out)).trans HCN.out
          unfold LftRun
          go_wp2
          exact ⟨rfl, rfl, rfl, Below.refl _ _⟩
        · intro w7 hw7
          clear hKc
          refine withLeft_is rfl rfl ?_
          refine withLeft_is rfl rfl ?_
          refine withLeft_nil ?_
          simp only [Act.put, List.setIfInBounds_toArray, List.set_cons_zero, List.set_cons_succ]
          refine lft_want rfl rfl rfl rfl ?_
          unfold LftRun
          go_wp2_with fail
          refine (HIDD.out w7).mono ?_
          rintro e wq ⟨vq, rfl, hoq, hbq⟩
          have hyq := hoq.bytes (by simp)
          clear hoq
          go_wp2
          exact ⟨rfl, hyq, rfl, hbq⟩
        · intro w7 hw7
          clear hKc
          refine withLeft_is rfl rfl ?_
          refine withLeft_bytes rfl rfl ?_
          intro vv hvv
          obtain ⟨pv, cv, rfl, _⟩ := hvv.any
          refine withLeft_nil ?_
          simp only [Act.put, List.setIfInBounds_toArray, List.set_cons_zero, List.set_cons_succ]
          refine lft_want rfl rfl rfl rfl ?_
          unfold LftRun
          go_wp2
          exact ⟨rfl, rfl, rfl, Below.refl _ _⟩
        · intro w7 hw7
          clear hKc
          refine withLeft_is rfl rfl ?_
          refine withLeft_is rfl rfl ?_
          refine withLeft_is rfl rfl ?_
          refine withLeft_nil ?_
          simp only [Act.put, List.setIfInBounds_toArray, List.set_cons_zero, List.set_cons_succ]
          refine lft_want rfl rfl rfl rfl ?_
          unfold LftRun
          go_wp2
          exact ⟨rfl, rfl, rfl, Below.refl _ _⟩
        · intro w7 hw7
          clear hKc
          refine withLeft_is rfl rfl ?_
          refine withLeft_nil ?_
          simp only [Act.put, List.setIfInBounds_toArray, List.set_cons_zero, List.set_cons_succ]
          refine lft_want rfl rfl rfl rfl ?_
          exact lft_move rfl (by first | rfl | assumption)
        · intro w7 hw7
          clear hKc
          refine withLeft_is rfl rfl ?_
          refine withLeft_nil ?_
          simp only [Act.put, List.setIfInBounds_toArray, List.set_cons_zero, List.set_cons_succ]
          refine lft_want rfl rfl rfl rfl ?_
          exact lft_move rfl (by first | rfl | assumption)
        · intro w7 hw7
          clear hKc
          refine withLeft_is rfl rfl ?_
          refine withLeft_is rfl rfl ?_
          refine withLeft_is rfl rfl ?_
          refine withLeft_nil ?_
          simp only [Act.put, List.setIfInBounds_toArray, List.set_cons_zero, List.set_cons_succ]
          refine lft_want rfl rfl rfl rfl ?_
          unfold LftRun
          go_wp2
          exact ⟨rfl, rfl, rfl, Below.refl _ _⟩
        · intro w7 hw7
          clear hKc
          refine withLeft_is rfl rfl ?_
          refine withLeft_is rfl rfl ?_
          refine withLeft_nil ?_
          simp only [Act.put, List.setIfInBounds_toArray, List.set_cons_zero, List.set_cons_succ]
          refine lft_want rfl rfl rfl rfl ?_
          have hcz := (hw7.cell (p := ⟨rb, n, none⟩) (block_lt_of_cell HCN.out)).trans HCN.out
          unfold LftRun
          go_wp2
          exact ⟨rfl, rfl, rfl, Below.refl _ _⟩
        · intro w7 hw7
          clear hKc
          refine withLeft_is rfl rfl ?_
          refine withLeft_is rfl rfl ?_
          refine withLeft_nil ?_
          simp only [Act.put, List.setIfInBounds_toArray, List.set_cons_zero, List.set_cons_succ]
          refine lft_want rfl rfl rfl rfl ?_
          unfold LftRun
          go_wp2_with fail
          refine (HSNA.out w7).mono ?_
          rintro e wq ⟨vq, rfl, hoq, hbq⟩
          have hyq := hoq.bytes (by simp)
          clear hoq
          go_wp2
          exact ⟨rfl, hyq, rfl, hbq⟩
        · intro w7 hw7
          clear hKc
          refine withLeft_is rfl rfl ?_
          refine withLeft_bytes rfl rfl ?_
          intro vv hvv
          obtain ⟨pv, cv, rfl, _⟩ := hvv.any
          refine withLeft_nil ?_
          simp only [Act.put, List.setIfInBounds_toArray, List.set_cons_zero, List.set_cons_succ]
          refine lft_want rfl rfl rfl rfl ?_
          unfold LftRun
          go_wp2
          exact ⟨rfl, rfl, rfl, Below.refl _ _⟩
        · intro w7 hw7
          clear hKc
          refine withLeft_is rfl rfl ?_
          refine withLeft_is rfl rfl ?_
          refine withLeft_is rfl rfl ?_
          refine withLeft_nil ?_
          simp only [Act.put, List.setIfInBounds_toArray, List.set_cons_zero, List.set_cons_succ]
          refine lft_want rfl rfl rfl rfl ?_
          unfold LftRun
          go_wp2
          exact ⟨rfl, rfl, rfl, Below.refl _ _⟩
        · intro w7 hw7
          clear hKc
          refine withLeft_is rfl rfl ?_
          refine withLeft_nil ?_
          simp only [Act.put, List.setIfInBounds_toArray, List.set_cons_zero, List.set_cons_succ]
          refine lft_want rfl rfl rfl rfl ?_
          exact lft_move rfl (by first | rfl | assumption)
        · intro w7 hw7
          clear hKc
          refine withLeft_is rfl rfl ?_
          refine withLeft_nil ?_
          simp only [Act.put, List.setIfInBounds_toArray, List.set_cons_zero, List.set_cons_succ]
          refine lft_want rfl rfl rfl rfl ?_
          exact lft_move rfl (by first | rfl | assumption)
        · intro w7 hw7
          clear hKc
          refine withLeft_is rfl rfl ?_
          refine withLeft_is rfl rfl ?_
          refine withLeft_is rfl rfl ?_
          refine withLeft_nil ?_
          simp only [Act.put, List.setIfInBounds_toArray, List.set_cons_zero, List.set_cons_succ]
          refine lft_want rfl rfl rfl rfl ?_
          unfold LftRun
          go_wp2
          exact ⟨rfl, rfl, rfl, Below.refl _ _⟩
        · intro w7 hw7
          clear hKc
          refine withLeft_is rfl rfl ?_
          refine withLeft_is rfl rfl ?_
          refine withLeft_nil ?_
          simp only [Act.put, List.setIfInBounds_toArray, List.set_cons_zero, List.set_cons_succ]
          refine lft_want rfl rfl rfl rfl ?_
          have hcz := (hw7.cell (p := ⟨rb, n, none⟩) (block_lt_of_cell HCN.out)).trans HCN.out
          unfold LftRun
          go_wp2
          exact ⟨rfl, rfl, rfl, Below.refl _ _⟩
        · intro w7 hw7
          clear hKc
          refine withLeft_is rfl rfl ?_
          refine withLeft_is rfl rfl ?_
          refine withLeft_nil ?_
          simp only [Act.put, List.setIfInBounds_toArray, List.set_cons_zero, List.set_cons_succ]
          refine lft_want rfl rfl rfl rfl ?_
          unfold LftRun
          go_wp2_with fail
          refine (HPOI.out w7).mono ?_
          rintro e wq ⟨vq, rfl, hoq, hbq⟩
          have hyq := hoq.bytes (by simp)
          clear hoq
          go_wp2
          exact ⟨rfl, hyq, rfl, hbq⟩
        · intro w7 hw7
          clear hKc
          refine withLeft_is rfl rfl ?_
          refine withLeft_bytes rfl rfl ?_
          intro vv hvv
          obtain ⟨pv, cv, rfl, _⟩ := hvv.any
          refine withLeft_nil ?_
          simp only [Act.put, List.setIfInBounds_toArray, List.set_cons_zero, List.set_cons_succ]
          refine lft_want rfl rfl rfl rfl ?_
          unfold LftRun
          go_wp2
          exact ⟨rfl, rfl, rfl, Below.refl _ _⟩
        · intro w7 hw7
          clear hKc
          refine withLeft_is rfl rfl ?_
          refine withLeft_is rfl rfl ?_
          refine withLeft_is rfl rfl ?_
          refine withLeft_nil ?_
          simp only [Act.put, List.setIfInBounds_toArray, List.set_cons_zero, List.set_cons_succ]
          refine lft_want rfl rfl rfl rfl ?_
          unfold LftRun
          go_wp2
          exact ⟨rfl, rfl, rfl, Below.refl _ _⟩
        · intro w7 hw7
          clear hKc
          refine withLeft_is rfl rfl ?_
          refine withLeft_is rfl rfl ?_
          refine withLeft_nil ?_
          simp only [Act.put, List.setIfInBounds_toArray, List.set_cons_zero, List.set_cons_succ]
          refine lft_want rfl rfl rfl rfl ?_
          unfold LftRun
          go_wp2
          exact ⟨rfl, rfl, rfl, Below.refl _ _⟩
        · intro w7 hw7
          clear hKc
          refine withLeft_is rfl rfl ?_
          refine withLeft_is rfl rfl ?_
          refine withLeft_nil ?_
          simp only [Act.put, List.setIfInBounds_toArray, List.set_cons_zero, List.set_cons_succ]
          refine lft_run rfl rfl ?_
          exact lft_pick rfl rfl rfl
      intro w7 hw7
      refine LeftEnd.is (LeftEnd.is (LeftEnd.is (LeftEnd.is (LeftEnd.is (LeftEnd.is (LeftEnd.is (LeftEnd.is (LeftEnd.is (LeftEnd.is (LeftEnd.bytes (fun _ _ => LeftEnd.is (LeftEnd.is (LeftEnd.is (LeftEnd.is (LeftEnd.is (LeftEnd.bytes (fun _ _ => LeftEnd.is (LeftEnd.is (LeftEnd.is (LeftEnd.is (LeftEnd.is (LeftEnd.is (LeftEnd.bytes (fun _ _ => LeftEnd.is (LeftEnd.is (LeftEnd.is (LeftEnd.is (LeftEnd.is (LeftEnd.is (LeftEnd.bytes (fun _ _ => LeftEnd.is (LeftEnd.is (LeftEnd.is (LeftEnd.is (LeftEnd.is (LeftEnd.is (LeftEnd.bytes (fun _ _ => LeftEnd.is (LeftEnd.is (LeftEnd.is (LeftEnd.is (LeftEnd.is (LeftEnd.is (LeftEnd.bytes (fun _ _ => LeftEnd.is (LeftEnd.is (LeftEnd.is (LeftEnd.is (LeftEnd.nil ?_)))))))))))))))))))))))))))))))))))))))))))))))))
      simp only [Act.put, List.setIfInBounds_toArray, List.set_cons_zero, List.set_cons_succ]
      have HB7 : Hid (Below w.heap.size w w7) := HB.out.trans (hw7.mono HB.out.size)
      have HC7 : Hid (∀ j, j < 6 → w7.cell? ⟨rb, j, none⟩ = some (.string (badOf j))) := fun j hj => (hw7.cell (p := ⟨rb, j, none⟩) (block_lt_of_cell (HC.out j hj))).trans (HC.out j hj)
      clear hw7
      refine hKc _ _ ?_
      clear hKc Kc
      go_wp2
      go_roundw
      case rel => exact ⟨n + 1, by omega, by go_num, HB7.out, HC7.out⟩
      case measure => simp [intOf]; omega
    · obtain rfl : n = 6 := by omega
      clear hn hn6 HC
      go_wp2
      have hc0 := fun j (hj : j < 5) => (cell_new wr #[.string ⟨#[]⟩, .string ⟨#[0, 0, 0, 0, 0, 0, 0, 0, 0]⟩, .string ⟨#[97, 0, 128, 0, 0, 0, 0, 0, 0, 0]⟩, .string ⟨#[97, 1, 0, 0, 0, 0, 0, 0, 0, 0]⟩, .string ⟨#[97, 0, 0, 0, 0, 0, 0, 0, 0]⟩] 9 (0, 0) j).trans (non_cell hj)
      have hB2 := HB.out.alloc HB.out.size (.cells #[.string ⟨#[]⟩, .string ⟨#[0, 0, 0, 0, 0, 0, 0, 0, 0]⟩, .string ⟨#[97, 0, 128, 0, 0, 0, 0, 0, 0, 0]⟩, .string ⟨#[97, 1, 0, 0, 0, 0, 0, 0, 0, 0]⟩, .string ⟨#[97, 0, 0, 0, 0, 0, 0, 0, 0]⟩] 9)
      obtain ⟨rn, hrn⟩ : ∃ rn, rn = wr.heap.size := ⟨_, rfl⟩
      rw [← hrn] at hc0 ⊢
      have HC0 := Lib.hid hc0; have HB2 := Lib.hid hB2
      clear hc0 hB2 hrn HB
      go_loopw [4] (fun i wr => ∃ n : Nat, n ≤ 5 ∧ i = .int .i64 n ∧ Below w.heap.size w wr ∧ ∀ j, j < 5 → wr.cell? ⟨rn, j, none⟩ = some (.string (nonOf j))) (fun i _ => 5 - (intOf i).toNat)
      case atStart => exact ⟨0, by omega, rfl, HB2.out, HC0.out⟩
      case round =>
        obtain ⟨n, hn, rfl, hbr, hcr⟩ := hrel
        clear HB2 HC0
        have HB := Lib.hid hbr; have HC := Lib.hid hcr
        clear hbr hcr
        by_cases hn5 : n < 5
        · have hcn := HC.out n hn5
          have hsz := non_size hn5
          have HPV : Hid (pkV (natsOf (nonOf n)) = .tuple #[.string ⟨#[]⟩, .int .i64 0, .bool false]) := pkV_no (non_pair hn5)
          have hcv := fun (w : World) => Lib.run_convert_string_bytes (P := Try.prog) w 9 22 5 (nonOf n) (u := .string) (by kernel_rfl) byT.slice byT.elem
          have HCV := Lib.hid (fun w => OwnM.conv w 5 (nonOf n) (Nat.le_trans hsz (by decide)))
          clear hsz
          go_wp2_with fail
          refine (takeStream_any _ _ _ ((HCV.out wr).1.bytes (natsOf_small _))).mono ?_
          rintro e w2 ⟨rfl, hb2⟩
          have hba : Below wr.heap.size wr w2 := (HCV.out wr).2.trans (hb2.mono (HCV.out wr).2.size)
          have HB2 : Hid (Below w.heap.size w w2) := HB.out.trans (hba.mono HB.out.size)
          have hc2 : ∀ j, j < 5 → w2.cell? ⟨rn, j, none⟩ = some (.string (nonOf j)) := fun j hj => (hba.cell (p := ⟨rn, j, none⟩) (block_lt_of_cell (HC.out j hj))).trans (HC.out j hj)
          have HC2 := Lib.hid hc2
          have hcn2 := hc2 n hn5
          rw [HPV.out]
          clear hb2 hba hcn hc2 HC HB
          go_wp2_with fail
          refine (takeType_any _ _ _ ((HCV.out w2).1.bytes (natsOf_small _))).mono ?_
          rintro e w3 ⟨rfl, hb3⟩
          have hba : Below w2.heap.size w2 w3 := (HCV.out w2).2.trans (hb3.mono (HCV.out w2).2.size)
          have HB3 : Hid (Below w.heap.size w w3) := HB2.out.trans (hba.mono HB2.out.size)
          have HC3 : Hid (∀ j, j < 5 → w3.cell? ⟨rn, j, none⟩ = some (.string (nonOf j))) := fun j hj => (hba.cell (p := ⟨rn, j, none⟩) (block_lt_of_cell (HC2.out j hj))).trans (HC2.out j hj)
          rw [HPV.out]
          clear hb3 hba hcn2 HC2 HB2 hcv HCV
          go_wp2
          go_roundw
          case rel =>
            (repeat apply Exists.intro)
            exact ⟨⟨n + 1, by omega, by go_num, HB3.out, HC3.out⟩, rfl⟩
          case measure => simp [intOf]; omega
        · obtain rfl : n = 5 := by omega
          clear hn hn5 HC
          go_wp2_with fail
          refine (mayName_any ⟨#[33, 126]⟩ wr (by decide)).mono ?_
          rintro e w2 ⟨rfl, rfl⟩
          rw [show mayNm (natsOf ⟨#[33, 126]⟩) = true by rw [natsOf_data]; decide]
          go_wp2_with fail
          refine (Tells.lit 0 rfl (m := []) (seq_any (-1) wr (by omega)) (by decide) (by decide)).mono ?_
          rintro e w3 ⟨p3, c3, rfl, _, _, hb3⟩
          have HB3 : Hid (Below w.heap.size w w3) := HB.out.trans (hb3.mono HB.out.size)
          clear hb3 HB
          go_wp2_with fail
          refine (Tells.lit 0 rfl (m := []) (stream_any ⟨#[97]⟩ (-1) w3 (by decide) (by omega)) (by rw [natsOf_data]; decide) (by decide)).mono ?_
          rintro e w4 ⟨p4, c4, rfl, _, _, hb4⟩
          have HB4 : Hid (Below w.heap.size w w4) := HB3.out.trans (hb4.mono HB3.out.size)
          clear hb4 HB3
          go_wp2_with fail
          refine (Tells.lit 11 rfl (m := [97, 98, 0, 0, 0, 0, 0, 0, 0, 1, 2]) (stream_any ⟨#[97, 98]⟩ 258 w4 (by decide) (by omega)) (by rw [natsOf_data]; decide) (by decide)).mono ?_
          rintro e w5 ⟨p5, c5, rfl, _, hs5, hb5⟩
          have HB5 : Hid (Below w.heap.size w w5) := HB4.out.trans (hb5.mono HB4.out.size)
          rw [show strOf [97, 98, 0, 0, 0, 0, 0, 0, 0, 1, 2] = ⟨#[97, 98, 0, 0, 0, 0, 0, 0, 0, 1, 2]⟩ from rfl] at hs5
          have hcc := HCC.out
          clear hb5 HB4
          go_wp2_with fail
          clear hs5
          refine (Tells.lit 1 rfl (m := [98]) (after_any _ [97, 255, 255] _ (Bytes.lit _ rfl rfl (by decide) (by decide)) (by decide)) (by decide) (by decide)).mono ?_
          rintro e w6 ⟨p6, c6, rfl, _, hs6, hb6⟩
          have hz5 := fun o => HB5.out.alloc HB5.out.size o
          have HB6 : Hid (Below w.heap.size w w6) := (hz5 _).trans (hb6.mono (hz5 _).size)
          rw [show strOf [98] = ⟨#[98]⟩ from rfl] at hs6
          clear hb6 HB5 hz5
          go_wp2_with fail
          clear hs6
          refine (Tells.lit 0 rfl (m := []) (after_any _ [255] _ (Bytes.lit _ rfl rfl (by decide) (by decide)) (by decide)) (by decide) (by decide)).mono ?_
          rintro e w7 ⟨p7, c7, rfl, _, _, hb7⟩
          have hz6 := fun o => HB6.out.alloc HB6.out.size o
          have HB7 : Hid (Below w.heap.size w w7) := (hz6 _).trans (hb7.mono (hz6 _).size)
          clear hb7 HB6 hz6 hcc
          go_wp2_with fail
          refine (Tells.lit 0 rfl (m := []) (after_any _ [] w7 (Bytes.nil _) (by decide)) (by decide) (by decide)).mono ?_
          rintro e w8 ⟨p8, c8, rfl, _, _, hb8⟩
          have HB8 : Hid (Below w.heap.size w w8) := HB7.out.trans (hb8.mono HB7.out.size)
          clear hb8 HB7
          go_wp2
          go_ret
          exact ⟨rfl, HB8.out⟩

set_option maxRecDepth 100000 in
theorem forms_lifted (os : Os) (started : os.Started) (H : Type) (enc : TypeId × Value → H) :
    ReturnsInHanded {} Try.checked os 7 .any (Rows.keyFormsSpec.pre6 enc Try.prog Try.f7 Rows.keyFormsRow.domain false) (Rows.keyFormsSpec.post enc Try.prog Try.f7 false true false false) := by
  refine returnsInHanded_of_change (C := Try.checked) own_none started (by kernel_rfl) Try.func7
    (ChangeSpec.witness6 (enc := enc) (C := Try.checked) false ⟨#[], #[], []⟩ 8 (by kernel_rfl) (by kernel_rfl) (by kernel_rfl) (by kernel_rfl)) ?_
  intro W base args ds gs before hval0 hW hcnd _
  have hW' := hW
  obtain ⟨p, q, hA0, hV, rfl, hfz, hnd⟩ := hW
  have hA : DataW.TrodAll enc Try.prog W 0 (fun _ => true) true Try.f7.params.toList args.toList ds p := hA0
  have hp : Try.f7.params = #[] := by kernel_rfl
  rw [hp] at hA
  obtain ⟨rfl, rfl, rfl⟩ := trodAll_none hA
  obtain ⟨rfl, rfl⟩ := trodVars_none hV
  refine (forms_any W).mono fun e W' ⟨he, hb⟩ => ?_
  subst he
  exact ⟨_, rfl, law_post (tb := 4) laidOut (by rw [hp]; intro t ht; simp at ht) rfl rfl (by kernel_rfl) (by kernel_rfl) hW' hb⟩

theorem keyForms_holds : Rows.KeyFormsSaid :=
  OpenClaim.holds_of_wide 7 Try.f7 rfl rfl rfl rfl rfl rfl rfl ⟨rfl, rfl, rfl, rfl, rfl⟩ rfl rfl rfl rfl rfl (by kernel_rfl) Try.func7 (by kernel_rfl)
    (of_decide_eq_true (by kernel_rfl)) (by unfold Func.isWrapper; rw [if_neg (by decide +kernel)]; exact ⟨rfl, rfl⟩)
    (fun os started H enc _ => forms_lifted os started H enc)
end Go.Proofs.Ytfebdgnojacoiaa

