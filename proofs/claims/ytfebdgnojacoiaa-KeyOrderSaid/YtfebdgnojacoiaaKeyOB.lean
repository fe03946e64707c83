/- The law KeyOrder, one case: less. -/
import Derived.Test.YtfebdgnojacoiaaKeyOA
namespace Go.Proofs.Ytfebdgnojacoiaa
open Go Go.RowKit Go.By

set_option maxRecDepth 100000 in
set_option maxHeartbeats 4000000 in
theorem order_less (a b : ByteArray) (n m : Int) (w : World) (ha : a.size ≤ maxLen) (hb : b.size ≤ maxLen) (hn : n ≤ 9223372036854775807) (hm : m ≤ 9223372036854775807)
    (hma : mayNm (natsOf a) = true) (hmb : mayNm (natsOf b) = true) (hn0 : 0 ≤ n) (hm0 : 0 ≤ m) (hA : Op.bytesLess a.toList b.toList = true) (hB : (a.toList == b.toList) = false) :
    Calls Try.prog 4 #[.string a, .string b, .int .i64 n, .int .i64 m] w fun e w' => e = .returned (.bool true) ∧ Below w.heap.size w w' := by
  have HBG := Lib.hid (begun_any w)
  have HMA := Lib.hid (fun w => refMay_any a w ha)
  have HMB := Lib.hid (fun w => refMay_any b w hb)
  have hx := order_pair hma hmb hn0 hm0 hn hm
  have hxe := order_pair_eq hma hmb hn0 hm0 hn hm
  have hse := order_seq hn0 hm0 hn hm
  have hsz := order_size hma hn0
  have ha16 := mayNm_length hma
  rw [natsOf_length] at ha16
  have ha16' : (a.size : Int) ≤ 16 := by omega
  have h40 : decide ((a.size : Int) + 9 ≤ 40) = true := decide_eq_true (by omega)
  have hC : True := trivial
  rw [hA, hB] at hx
  rw [hB] at hxe
  simp only [Bool.true_or, Bool.false_and] at hx hxe
  have HHA := Lib.hid ha; have HHB := Lib.hid hb; have HHN := Lib.hid hn; have HHM := Lib.hid hm
  clear ha16 ha hb hn hm
  go_enter Try.func4, Try.ntmps4
  go_wp2_with fail
  refine HBG.out.mono ?_
  rintro e w1 ⟨rfl, hb1⟩
  have HB1 := Lib.hid hb1
  clear hb1
  go_wp2_with fail
  refine (HMA.out w1).mono ?_
  rintro e w2 ⟨rfl, rfl⟩
  rw [hma]
  go_wp2_with fail
  refine (HMB.out w1).mono ?_
  rintro e w2 ⟨rfl, rfl⟩
  rw [hmb]
  go_wp2_with fail
  rename_i Kc hKc
  refine wp_region_left (by kernel_rfl)
    [.is (.string a),
     .is (.int .i64 n),
     .bytes (pairK (natsOf a) n),
     .is (.string (strOf (pairK (natsOf a) n))),
     .is (.string b),
     .is (.int .i64 m),
     .bytes (pairK (natsOf b) m),
     .is (.string (strOf (pairK (natsOf b) m))),
     .is (.string (strOf (pairK (natsOf a) n))),
     .is (.string (strOf (pairK (natsOf b) m)))]
    [[], [], [0, 1], [2], [], [], [4, 5], [6], [3], [7]] (by kernel_rfl) (by rfl) ?_ ?_
  · refine LeftOps.cons ?_ (LeftOps.cons ?_ (LeftOps.cons ?_ (LeftOps.cons ?_ (LeftOps.cons ?_ (LeftOps.cons ?_ (LeftOps.cons ?_ (LeftOps.cons ?_ (LeftOps.cons ?_ (LeftOps.cons ?_ (LeftOps.nil))))))))))
    · intro w5 hw5
      clear hKc
      refine withLeft_nil ?_
      refine lft_run rfl rfl ?_
      exact lft_move rfl (by first | rfl | assumption)
    · intro w5 hw5
      clear hKc
      refine withLeft_nil ?_
      refine lft_run rfl rfl ?_
      exact lft_move rfl (by first | rfl | assumption)
    · intro w5 hw5
      clear hKc
      refine withLeft_is rfl rfl ?_
      refine withLeft_is rfl rfl ?_
      refine withLeft_nil ?_
      simp only [Act.put, List.setIfInBounds_toArray, List.set_cons_zero, List.set_cons_succ]
      refine lft_run rfl rfl ?_
      unfold LftRun
      go_wp2_with fail
      refine (stream_any a n w5 HHA.out (by have := HHN.out; omega)).mono ?_
      rintro e wq ⟨vq, rfl, hoq, hbq⟩
      have hyq := hoq.bytes pairK_small
      clear hoq
      go_wp2
      exact ⟨rfl, hyq, rfl, hbq⟩
    · intro w5 hw5
      clear hKc
      refine withLeft_bytes rfl rfl ?_
      intro vv hvv
      obtain ⟨pv, cv, rfl, _⟩ := hvv.any
      have hcvv := hvv.toString (P := Try.prog) byT (d := 9) (by kernel_rfl)
      refine withLeft_nil ?_
      simp only [Act.put, List.setIfInBounds_toArray, List.set_cons_zero, List.set_cons_succ]
      refine lft_run rfl rfl ?_
      unfold LftRun
      go_wp2
      exact ⟨rfl, rfl, rfl, Below.refl _ _⟩
    · intro w5 hw5
      clear hKc
      refine withLeft_nil ?_
      refine lft_run rfl rfl ?_
      exact lft_move rfl (by first | rfl | assumption)
    · intro w5 hw5
      clear hKc
      refine withLeft_nil ?_
      refine lft_run rfl rfl ?_
      exact lft_move rfl (by first | rfl | assumption)
    · intro w5 hw5
      clear hKc
      refine withLeft_is rfl rfl ?_
      refine withLeft_is rfl rfl ?_
      refine withLeft_nil ?_
      simp only [Act.put, List.setIfInBounds_toArray, List.set_cons_zero, List.set_cons_succ]
      refine lft_run rfl rfl ?_
      unfold LftRun
      go_wp2_with fail
      refine (stream_any b m w5 HHB.out (by have := HHM.out; omega)).mono ?_
      rintro e wq ⟨vq, rfl, hoq, hbq⟩
      have hyq := hoq.bytes pairK_small
      clear hoq
      go_wp2
      exact ⟨rfl, hyq, rfl, hbq⟩
    · intro w5 hw5
      clear hKc
      refine withLeft_bytes rfl rfl ?_
      intro vv hvv
      obtain ⟨pv, cv, rfl, _⟩ := hvv.any
      have hcvv := hvv.toString (P := Try.prog) byT (d := 9) (by kernel_rfl)
      refine withLeft_nil ?_
      simp only [Act.put, List.setIfInBounds_toArray, List.set_cons_zero, List.set_cons_succ]
      refine lft_run rfl rfl ?_
      unfold LftRun
      go_wp2
      exact ⟨rfl, rfl, rfl, Below.refl _ _⟩
    · intro w5 hw5
      clear hKc
      refine withLeft_is rfl rfl ?_
      refine withLeft_nil ?_
      simp only [Act.put, List.setIfInBounds_toArray, List.set_cons_zero, List.set_cons_succ]
      refine lft_run rfl rfl ?_
      exact lft_assign rfl (by first | rfl | assumption)
    · intro w5 hw5
      clear hKc
      refine withLeft_is rfl rfl ?_
      refine withLeft_nil ?_
      simp only [Act.put, List.setIfInBounds_toArray, List.set_cons_zero, List.set_cons_succ]
      refine lft_run rfl rfl ?_
      exact lft_assign rfl (by first | rfl | assumption)
  intro w5 hw5
  refine LeftEnd.is (LeftEnd.is (LeftEnd.bytes (fun _ _ => LeftEnd.is (LeftEnd.is (LeftEnd.is (LeftEnd.bytes (fun _ _ => LeftEnd.is (LeftEnd.is (LeftEnd.is (LeftEnd.nil ?_))))))))))
  simp only [Act.put, List.setIfInBounds_toArray, List.set_cons_zero, List.set_cons_succ]
  have HB5 : Hid (Below w.heap.size w w5) := HB1.out.trans (hw5.mono HB1.out.size)
  clear hw5
  refine hKc _ _ ?_
  clear hKc Kc
  go_wp2_with fail
  rename_i Kc hKc
  refine wp_region_left (by kernel_rfl)
    [.is (.string a),
     .is (.int .i64 n),
     .bytes (pairK (natsOf a) n),
     .is (.string (strOf (pairK (natsOf a) n))),
     .is (.string b),
     .is (.int .i64 m),
     .bytes (pairK (natsOf b) m),
     .is (.string (strOf (pairK (natsOf b) m))),
     .is (.string (strOf (pairK (natsOf a) n))),
     .is (.string (strOf (pairK (natsOf b) m)))]
    [[], [], [0, 1], [2], [], [], [4, 5], [6], [3], [7]] (by kernel_rfl) (by rfl) ?_ ?_
  · refine LeftOps.cons ?_ (LeftOps.cons ?_ (LeftOps.cons ?_ (LeftOps.cons ?_ (LeftOps.cons ?_ (LeftOps.cons ?_ (LeftOps.cons ?_ (LeftOps.cons ?_ (LeftOps.cons ?_ (LeftOps.cons ?_ (LeftOps.nil))))))))))
    · intro w6 hw6
      clear hKc
      refine withLeft_nil ?_
      refine lft_run rfl rfl ?_
      exact lft_move rfl (by first | rfl | assumption)
    · intro w6 hw6
      clear hKc
      refine withLeft_nil ?_
      refine lft_run rfl rfl ?_
      exact lft_move rfl (by first | rfl | assumption)
    · intro w6 hw6
      clear hKc
      refine withLeft_is rfl rfl ?_
      refine withLeft_is rfl rfl ?_
      refine withLeft_nil ?_
      simp only [Act.put, List.setIfInBounds_toArray, List.set_cons_zero, List.set_cons_succ]
      refine lft_run rfl rfl ?_
      unfold LftRun
      go_wp2_with fail
      refine (type_any a n w6 HHA.out (by have := HHN.out; omega)).mono ?_
      rintro e wq ⟨vq, rfl, hoq, hbq⟩
      have hyq := hoq.bytes pairK_small
      clear hoq
      go_wp2
      exact ⟨rfl, hyq, rfl, hbq⟩
    · intro w6 hw6
      clear hKc
      refine withLeft_bytes rfl rfl ?_
      intro vv hvv
      obtain ⟨pv, cv, rfl, _⟩ := hvv.any
      have hcvv := hvv.toString (P := Try.prog) byT (d := 9) (by kernel_rfl)
      refine withLeft_nil ?_
      simp only [Act.put, List.setIfInBounds_toArray, List.set_cons_zero, List.set_cons_succ]
      refine lft_run rfl rfl ?_
      unfold LftRun
      go_wp2
      exact ⟨rfl, rfl, rfl, Below.refl _ _⟩
    · intro w6 hw6
      clear hKc
      refine withLeft_nil ?_
      refine lft_run rfl rfl ?_
      exact lft_move rfl (by first | rfl | assumption)
    · intro w6 hw6
      clear hKc
      refine withLeft_nil ?_
      refine lft_run rfl rfl ?_
      exact lft_move rfl (by first | rfl | assumption)
    · intro w6 hw6
      clear hKc
      refine withLeft_is rfl rfl ?_
      refine withLeft_is rfl rfl ?_
      refine withLeft_nil ?_
      simp only [Act.put, List.setIfInBounds_toArray, List.set_cons_zero, List.set_cons_succ]
      refine lft_run rfl rfl ?_
      unfold LftRun
      go_wp2_with fail
      refine (type_any b m w6 HHB.out (by have := HHM.out; omega)).mono ?_
      rintro e wq ⟨vq, rfl, hoq, hbq⟩
      have hyq := hoq.bytes pairK_small
      clear hoq
      go_wp2
      exact ⟨rfl, hyq, rfl, hbq⟩
    · intro w6 hw6
      clear hKc
      refine withLeft_bytes rfl rfl ?_
      intro vv hvv
      obtain ⟨pv, cv, rfl, _⟩ := hvv.any
      have hcvv := hvv.toString (P := Try.prog) byT (d := 9) (by kernel_rfl)
      refine withLeft_nil ?_
      simp only [Act.put, List.setIfInBounds_toArray, List.set_cons_zero, List.set_cons_succ]
      refine lft_run rfl rfl ?_
      unfold LftRun
      go_wp2
      exact ⟨rfl, rfl, rfl, Below.refl _ _⟩
    · intro w6 hw6
      clear hKc
      refine withLeft_is rfl rfl ?_
      refine withLeft_nil ?_
      simp only [Act.put, List.setIfInBounds_toArray, List.set_cons_zero, List.set_cons_succ]
      refine lft_run rfl rfl ?_
      exact lft_assign rfl (by first | rfl | assumption)
    · intro w6 hw6
      clear hKc
      refine withLeft_is rfl rfl ?_
      refine withLeft_nil ?_
      simp only [Act.put, List.setIfInBounds_toArray, List.set_cons_zero, List.set_cons_succ]
      refine lft_run rfl rfl ?_
      exact lft_assign rfl (by first | rfl | assumption)
  intro w6 hw6
  refine LeftEnd.is (LeftEnd.is (LeftEnd.bytes (fun _ _ => LeftEnd.is (LeftEnd.is (LeftEnd.is (LeftEnd.bytes (fun _ _ => LeftEnd.is (LeftEnd.is (LeftEnd.is (LeftEnd.nil ?_))))))))))
  simp only [Act.put, List.setIfInBounds_toArray, List.set_cons_zero, List.set_cons_succ]
  have HB6 : Hid (Below w.heap.size w w6) := HB5.out.trans (hw6.mono HB5.out.size)
  clear hw6
  refine hKc _ _ ?_
  clear hKc Kc
  go_wp2_with fail
  rename_i Kc hKc
  refine wp_region_left (by kernel_rfl)
    [.is (.string (strOf (pairK (natsOf a) n))),
     .is (.string (strOf (pairK (natsOf b) m))),
     .is (.bool true),
     .is (.bool true),
     .is (.bool true),
     .is (.bool true),
     .is (.string (strOf (pairK (natsOf a) n))),
     .is (.string (strOf (pairK (natsOf b) m))),
     .is (.bool true),
     .is (.bool true),
     .is (.bool true),
     .is (.bool true),
     .is (.bool true),
     .is (.int .i64 n),
     .bytes (seqK n),
     .is (.string (strOf (seqK n))),
     .is (.int .i64 m),
     .bytes (seqK m),
     .is (.string (strOf (seqK m))),
     .is (.bool (decide (n < m))),
     .is (.int .i64 n),
     .is (.int .i64 m),
     .is (.bool (decide (n < m))),
     .is (.bool true),
     .is (.bool true),
     .is (.bool true),
     .is (.string (strOf (pairK (natsOf a) n))),
     .is (.string (strOf (pairK (natsOf b) m))),
     .is (.bool false),
     .is (.string a),
     .is (.string b),
     .is (.bool false),
     .is (.bool false),
     .is undef,
     .is undef,
     .is undef,
     .is (.bool false),
     .is (.bool true),
     .is (.bool true),
     .is (.bool true),
     .is (.string (strOf (pairK (natsOf a) n))),
     .is (.int .i64 (a.size + 9)),
     .is (.bool true),
     .is (.bool true),
     .is (.bool true),
     .is (.string (strOf (pairK (natsOf a) n))),
     .is (.int .i64 (a.size + 9)),
     .is (.string a),
     .is (.int .i64 a.size),
     .is (.int .i64 (a.size + 9)),
     .is (.bool true),
     .is (.bool true),
     .is (.bool true)]
    [[], [], [0, 1], [], [2, 3], [4], [5], [5], [5, 6, 7], [5], [5, 8, 9], [5, 10], [11], [12], [12, 13], [12, 14], [12], [12, 16], [12, 17], [12, 15, 18], [12], [12], [12, 20, 21], [12, 19, 22], [12, 23], [24], [25], [25], [25, 26, 27], [25], [25], [25, 29, 30], [25, 31], [32], [32], [32, 33, 34], [25, 32, 35], [25, 28, 36], [25, 37], [38], [39], [39, 40], [39, 41], [39, 42], [43], [44], [44, 45], [44], [44, 47], [44, 48], [44, 46, 49], [44, 50], [51]] (by kernel_rfl) (by rfl) ?_ ?_
  · refine LeftOps.cons ?_ (LeftOps.cons ?_ (LeftOps.cons ?_ (LeftOps.cons ?_ (LeftOps.cons ?_ (LeftOps.cons ?_ (LeftOps.cons ?_ (LeftOps.cons ?_ (LeftOps.cons ?_ (LeftOps.cons ?_ (LeftOps.cons ?_ (LeftOps.cons ?_ (LeftOps.cons ?_ (LeftOps.cons ?_ (LeftOps.cons ?_ (LeftOps.cons ?_ (LeftOps.cons ?_ (LeftOps.cons ?_ (LeftOps.cons ?_ (LeftOps.cons ?_ (LeftOps.cons ?_ (LeftOps.cons ?_ (LeftOps.cons ?_ (LeftOps.cons ?_ (LeftOps.cons ?_ (LeftOps.cons ?_ (LeftOps.cons ?_ (LeftOps.cons ?_ (LeftOps.cons ?_ (LeftOps.cons ?_ (LeftOps.cons ?_ (LeftOps.cons ?_ (LeftOps.cons ?_ (LeftOps.cons ?_ (LeftOps.cons ?_ (LeftOps.cons ?_ (LeftOps.cons ?_ (LeftOps.cons ?_ (LeftOps.cons ?_ (LeftOps.cons ?_ (LeftOps.cons ?_ (LeftOps.cons ?_ (LeftOps.cons ?_ (LeftOps.cons ?_ (LeftOps.cons ?_ (LeftOps.cons ?_ (LeftOps.cons ?_ (LeftOps.cons ?_ (LeftOps.cons ?_ (LeftOps.cons ?_ (LeftOps.cons ?_ (LeftOps.cons ?_ (LeftOps.cons ?_ (LeftOps.nil)))))))))))))))))))))))))))))))))))))))))))))))))))))
    · intro w8 hw8
      clear hKc
      refine withLeft_nil ?_
      refine lft_run rfl rfl ?_
      exact lft_move rfl (by first | rfl | assumption)
    · intro w8 hw8
      clear hKc
      refine withLeft_nil ?_
      refine lft_run rfl rfl ?_
      exact lft_move rfl (by first | rfl | assumption)
    · intro w8 hw8
      clear hKc
      refine withLeft_is rfl rfl ?_
      refine withLeft_is rfl rfl ?_
      refine withLeft_nil ?_
      simp only [Act.put, List.setIfInBounds_toArray, List.set_cons_zero, List.set_cons_succ]
      refine lft_run rfl rfl ?_
      unfold LftRun
      go_wp2
      exact ⟨rfl, rfl, rfl, Below.refl _ _⟩
    · intro w8 hw8
      clear hKc
      refine withLeft_nil ?_
      refine lft_run rfl rfl ?_
      exact lft_move rfl (by first | rfl | assumption)
    · intro w8 hw8
      clear hKc
      refine withLeft_is rfl rfl ?_
      refine withLeft_is rfl rfl ?_
      refine withLeft_nil ?_
      simp only [Act.put, List.setIfInBounds_toArray, List.set_cons_zero, List.set_cons_succ]
      refine lft_run rfl rfl ?_
      unfold LftRun
      go_wp2
      exact ⟨rfl, rfl, rfl, Below.refl _ _⟩
    · intro w8 hw8
      clear hKc
      refine withLeft_is rfl rfl ?_
      refine withLeft_nil ?_
      simp only [Act.put, List.setIfInBounds_toArray, List.set_cons_zero, List.set_cons_succ]
      refine lft_run rfl rfl ?_
      exact lft_move rfl (by first | rfl | assumption)
    · intro w8 hw8
      clear hKc
      refine withLeft_is rfl rfl ?_
      refine withLeft_nil ?_
      simp only [Act.put, List.setIfInBounds_toArray, List.set_cons_zero, List.set_cons_succ]
      refine lft_want rfl rfl rfl rfl ?_
      exact lft_move rfl (by first | rfl | assumption)
    · intro w8 hw8
      clear hKc
      refine withLeft_is rfl rfl ?_
      refine withLeft_nil ?_
      simp only [Act.put, List.setIfInBounds_toArray, List.set_cons_zero, List.set_cons_succ]
      refine lft_want rfl rfl rfl rfl ?_
      exact lft_move rfl (by first | rfl | assumption)
    · intro w8 hw8
      clear hKc
      refine withLeft_is rfl rfl ?_
      refine withLeft_is rfl rfl ?_
      refine withLeft_is rfl rfl ?_
      refine withLeft_nil ?_
      simp only [Act.put, List.setIfInBounds_toArray, List.set_cons_zero, List.set_cons_succ]
      refine lft_want rfl rfl rfl rfl ?_
      unfold LftRun
      go_wp2
      exact ⟨rfl, rfl, rfl, Below.refl _ _⟩
    · intro w8 hw8
      clear hKc
      refine withLeft_is rfl rfl ?_
      refine withLeft_nil ?_
      simp only [Act.put, List.setIfInBounds_toArray, List.set_cons_zero, List.set_cons_succ]
      refine lft_want rfl rfl rfl rfl ?_
      exact lft_move rfl (by first | rfl | assumption)
    · intro w8 hw8
      clear hKc
      refine withLeft_is rfl rfl ?_
      refine withLeft_is rfl rfl ?_
      refine withLeft_is rfl rfl ?_
      refine withLeft_nil ?_
      simp only [Act.put, List.setIfInBounds_toArray, List.set_cons_zero, List.set_cons_succ]
      refine lft_want rfl rfl rfl rfl ?_
      unfold LftRun
      go_wp2
      exact ⟨rfl, rfl, rfl, Below.refl _ _⟩
    · intro w8 hw8
      clear hKc
      refine withLeft_is rfl rfl ?_
      refine withLeft_is rfl rfl ?_
      refine withLeft_nil ?_
      simp only [Act.put, List.setIfInBounds_toArray, List.set_cons_zero, List.set_cons_succ]
      refine lft_run rfl rfl ?_
      exact lft_pick rfl rfl rfl
    · intro w8 hw8
      clear hKc
      refine withLeft_is rfl rfl ?_
      refine withLeft_nil ?_
      simp only [Act.put, List.setIfInBounds_toArray, List.set_cons_zero, List.set_cons_succ]
      refine lft_run rfl rfl ?_
      exact lft_move rfl (by first | rfl | assumption)
    · intro w8 hw8
      clear hKc
      refine withLeft_is rfl rfl ?_
      refine withLeft_nil ?_
      simp only [Act.put, List.setIfInBounds_toArray, List.set_cons_zero, List.set_cons_succ]
      refine lft_want rfl rfl rfl rfl ?_
      exact lft_move rfl (by first | rfl | assumption)
    · intro w8 hw8
      clear hKc
      refine withLeft_is rfl rfl ?_
      refine withLeft_is rfl rfl ?_
      refine withLeft_nil ?_
      simp only [Act.put, List.setIfInBounds_toArray, List.set_cons_zero, List.set_cons_succ]
      refine lft_want rfl rfl rfl rfl ?_
      unfold LftRun
      go_wp2_with fail
      refine (seq_any n w8 (by have := HHN.out; omega)).mono ?_
      rintro e wq ⟨vq, rfl, hoq, hbq⟩
      have hyq := hoq.bytes seqK_small
      clear hoq
      go_wp2
      exact ⟨rfl, hyq, rfl, hbq⟩
    · intro w8 hw8
      clear hKc
      refine withLeft_is rfl rfl ?_
      refine withLeft_bytes rfl rfl ?_
      intro vv hvv
      obtain ⟨pv, cv, rfl, _⟩ := hvv.any
      have hcvv := hvv.toString (P := Try.prog) byT (d := 9) (by kernel_rfl)
      refine withLeft_nil ?_
      simp only [Act.put, List.setIfInBounds_toArray, List.set_cons_zero, List.set_cons_succ]
      refine lft_want rfl rfl rfl rfl ?_
      unfold LftRun
      go_wp2
      exact ⟨rfl, rfl, rfl, Below.refl _ _⟩
    · intro w8 hw8
      clear hKc
      refine withLeft_is rfl rfl ?_
      refine withLeft_nil ?_
      simp only [Act.put, List.setIfInBounds_toArray, List.set_cons_zero, List.set_cons_succ]
      refine lft_want rfl rfl rfl rfl ?_
      exact lft_move rfl (by first | rfl | assumption)
    · intro w8 hw8
      clear hKc
      refine withLeft_is rfl rfl ?_
      refine withLeft_is rfl rfl ?_
      refine withLeft_nil ?_
      simp only [Act.put, List.setIfInBounds_toArray, List.set_cons_zero, List.set_cons_succ]
      refine lft_want rfl rfl rfl rfl ?_
      unfold LftRun
      go_wp2_with fail
      refine (seq_any m w8 (by have := HHM.out; omega)).mono ?_
      rintro e wq ⟨vq, rfl, hoq, hbq⟩
      have hyq := hoq.bytes seqK_small
      clear hoq
      go_wp2
      exact ⟨rfl, hyq, rfl, hbq⟩
    · intro w8 hw8
      clear hKc
      refine withLeft_is rfl rfl ?_
      refine withLeft_bytes rfl rfl ?_
      intro vv hvv
      obtain ⟨pv, cv, rfl, _⟩ := hvv.any
      have hcvv := hvv.toString (P := Try.prog) byT (d := 9) (by kernel_rfl)
      refine withLeft_nil ?_
      simp only [Act.put, List.setIfInBounds_toArray, List.set_cons_zero, List.set_cons_succ]
      refine lft_want rfl rfl rfl rfl ?_
      unfold LftRun
      go_wp2
      exact ⟨rfl, rfl, rfl, Below.refl _ _⟩
    · intro w8 hw8
      clear hKc
      refine withLeft_is rfl rfl ?_
      refine withLeft_is rfl rfl ?_
      refine withLeft_is rfl rfl ?_
      refine withLeft_nil ?_
      simp only [Act.put, List.setIfInBounds_toArray, List.set_cons_zero, List.set_cons_succ]
      refine lft_want rfl rfl rfl rfl ?_
      unfold LftRun
      go_wp2
      exact ⟨rfl, rfl, rfl, Below.refl _ _⟩
    · intro w8 hw8
      clear hKc
      refine withLeft_is rfl rfl ?_
      refine withLeft_nil ?_
      simp only [Act.put, List.setIfInBounds_toArray, List.set_cons_zero, List.set_cons_succ]
      refine lft_want rfl rfl rfl rfl ?_
      exact lft_move rfl (by first | rfl | assumption)
    · intro w8 hw8
      clear hKc
      refine withLeft_is rfl rfl ?_
      refine withLeft_nil ?_
      simp only [Act.put, List.setIfInBounds_toArray, List.set_cons_zero, List.set_cons_succ]
      refine lft_want rfl rfl rfl rfl ?_
      exact lft_move rfl (by first | rfl | assumption)
    · intro w8 hw8
      clear hKc
      refine withLeft_is rfl rfl ?_
      refine withLeft_is rfl rfl ?_
      refine withLeft_is rfl rfl ?_
      refine withLeft_nil ?_
      simp only [Act.put, List.setIfInBounds_toArray, List.set_cons_zero, List.set_cons_succ]
      refine lft_want rfl rfl rfl rfl ?_
      unfold LftRun
      go_wp2
      exact ⟨rfl, rfl, rfl, Below.refl _ _⟩
    · intro w8 hw8
      clear hKc
      refine withLeft_is rfl rfl ?_
      refine withLeft_is rfl rfl ?_
      refine withLeft_is rfl rfl ?_
      refine withLeft_nil ?_
      simp only [Act.put, List.setIfInBounds_toArray, List.set_cons_zero, List.set_cons_succ]
      refine lft_want rfl rfl rfl rfl ?_
      unfold LftRun
      go_wp2
      exact ⟨rfl, rfl, rfl, Below.refl _ _⟩
    · intro w8 hw8
      clear hKc
      refine withLeft_is rfl rfl ?_
      refine withLeft_is rfl rfl ?_
      refine withLeft_nil ?_
      simp only [Act.put, List.setIfInBounds_toArray, List.set_cons_zero, List.set_cons_succ]
      refine lft_run rfl rfl ?_
      exact lft_pick rfl rfl rfl
    · intro w8 hw8
      clear hKc
      refine withLeft_is rfl rfl ?_
      refine withLeft_nil ?_
      simp only [Act.put, List.setIfInBounds_toArray, List.set_cons_zero, List.set_cons_succ]
      refine lft_run rfl rfl ?_
      exact lft_move rfl (by first | rfl | assumption)
    · intro w8 hw8
      clear hKc
      refine withLeft_is rfl rfl ?_
      refine withLeft_nil ?_
      simp only [Act.put, List.setIfInBounds_toArray, List.set_cons_zero, List.set_cons_succ]
      refine lft_want rfl rfl rfl rfl ?_
      exact lft_move rfl (by first | rfl | assumption)
    · intro w8 hw8
      clear hKc
      refine withLeft_is rfl rfl ?_
      refine withLeft_nil ?_
      simp only [Act.put, List.setIfInBounds_toArray, List.set_cons_zero, List.set_cons_succ]
      refine lft_want rfl rfl rfl rfl ?_
      exact lft_move rfl (by first | rfl | assumption)
    · intro w8 hw8
      clear hKc
      refine withLeft_is rfl rfl ?_
      refine withLeft_is rfl rfl ?_
      refine withLeft_is rfl rfl ?_
      refine withLeft_nil ?_
      simp only [Act.put, List.setIfInBounds_toArray, List.set_cons_zero, List.set_cons_succ]
      refine lft_want rfl rfl rfl rfl ?_
      unfold LftRun
      go_wp2
      exact ⟨rfl, rfl, rfl, Below.refl _ _⟩
    · intro w8 hw8
      clear hKc
      refine withLeft_is rfl rfl ?_
      refine withLeft_nil ?_
      simp only [Act.put, List.setIfInBounds_toArray, List.set_cons_zero, List.set_cons_succ]
      refine lft_want rfl rfl rfl rfl ?_
      exact lft_move rfl (by first | rfl | assumption)
    · intro w8 hw8
      clear hKc
      refine withLeft_is rfl rfl ?_
      refine withLeft_nil ?_
      simp only [Act.put, List.setIfInBounds_toArray, List.set_cons_zero, List.set_cons_succ]
      refine lft_want rfl rfl rfl rfl ?_
      exact lft_move rfl (by first | rfl | assumption)
    · intro w8 hw8
      clear hKc
      refine withLeft_is rfl rfl ?_
      refine withLeft_is rfl rfl ?_
      refine withLeft_is rfl rfl ?_
      refine withLeft_nil ?_
      simp only [Act.put, List.setIfInBounds_toArray, List.set_cons_zero, List.set_cons_succ]
      refine lft_want rfl rfl rfl rfl ?_
      unfold LftRun
      go_wp2
      exact ⟨rfl, rfl, rfl, Below.refl _ _⟩
    · intro w8 hw8
      clear hKc
      refine withLeft_is rfl rfl ?_
      refine withLeft_is rfl rfl ?_
      refine withLeft_nil ?_
      simp only [Act.put, List.setIfInBounds_toArray, List.set_cons_zero, List.set_cons_succ]
      refine lft_want rfl rfl rfl rfl ?_
      exact lft_move rfl (by first | rfl | assumption)
    · intro w8 hw8
      clear hKc
      refine withLeft_is rfl rfl ?_
      refine withLeft_nil ?_
      simp only [Act.put, List.setIfInBounds_toArray, List.set_cons_zero, List.set_cons_succ]
      exact lft_skip rfl rfl rfl rfl (by simp) rfl rfl
    · intro w8 hw8
      clear hKc
      refine withLeft_is rfl rfl ?_
      refine withLeft_nil ?_
      simp only [Act.put, List.setIfInBounds_toArray, List.set_cons_zero, List.set_cons_succ]
      exact lft_skip rfl rfl rfl rfl (by simp) rfl rfl
    · intro w8 hw8
      clear hKc
      refine withLeft_is rfl rfl ?_
      refine withLeft_is rfl rfl ?_
      refine withLeft_is rfl rfl ?_
      refine withLeft_nil ?_
      simp only [Act.put, List.setIfInBounds_toArray, List.set_cons_zero, List.set_cons_succ]
      exact lft_skip rfl rfl rfl rfl (by simp) rfl rfl
    · intro w8 hw8
      clear hKc
      refine withLeft_is rfl rfl ?_
      refine withLeft_is rfl rfl ?_
      refine withLeft_is rfl rfl ?_
      refine withLeft_nil ?_
      simp only [Act.put, List.setIfInBounds_toArray, List.set_cons_zero, List.set_cons_succ]
      refine lft_want rfl rfl rfl rfl ?_
      exact lft_pick rfl rfl rfl
    · intro w8 hw8
      clear hKc
      refine withLeft_is rfl rfl ?_
      refine withLeft_is rfl rfl ?_
      refine withLeft_is rfl rfl ?_
      refine withLeft_nil ?_
      simp only [Act.put, List.setIfInBounds_toArray, List.set_cons_zero, List.set_cons_succ]
      refine lft_want rfl rfl rfl rfl ?_
      unfold LftRun
      go_wp2
      exact ⟨rfl, rfl, rfl, Below.refl _ _⟩
    · intro w8 hw8
      clear hKc
      refine withLeft_is rfl rfl ?_
      refine withLeft_is rfl rfl ?_
      refine withLeft_nil ?_
      simp only [Act.put, List.setIfInBounds_toArray, List.set_cons_zero, List.set_cons_succ]
      refine lft_run rfl rfl ?_
      exact lft_pick rfl rfl rfl
    · intro w8 hw8
      clear hKc
      refine withLeft_is rfl rfl ?_
      refine withLeft_nil ?_
      simp only [Act.put, List.setIfInBounds_toArray, List.set_cons_zero, List.set_cons_succ]
      refine lft_run rfl rfl ?_
      exact lft_move rfl (by first | rfl | assumption)
    · intro w8 hw8
      clear hKc
      refine withLeft_is rfl rfl ?_
      refine withLeft_nil ?_
      simp only [Act.put, List.setIfInBounds_toArray, List.set_cons_zero, List.set_cons_succ]
      refine lft_want rfl rfl rfl rfl ?_
      exact lft_move rfl (by first | rfl | assumption)
    · intro w8 hw8
      clear hKc
      refine withLeft_is rfl rfl ?_
      refine withLeft_is rfl rfl ?_
      refine withLeft_nil ?_
      simp only [Act.put, List.setIfInBounds_toArray, List.set_cons_zero, List.set_cons_succ]
      refine lft_want rfl rfl rfl rfl ?_
      unfold LftRun
      go_wp2
      exact ⟨rfl, rfl, rfl, Below.refl _ _⟩
    · intro w8 hw8
      clear hKc
      refine withLeft_is rfl rfl ?_
      refine withLeft_is rfl rfl ?_
      refine withLeft_nil ?_
      simp only [Act.put, List.setIfInBounds_toArray, List.set_cons_zero, List.set_cons_succ]
      refine lft_want rfl rfl rfl rfl ?_
      unfold LftRun
      go_wp2
      exact ⟨rfl, rfl, rfl, Below.refl _ _⟩
    · intro w8 hw8
      clear hKc
      refine withLeft_is rfl rfl ?_
      refine withLeft_is rfl rfl ?_
      refine withLeft_nil ?_
      simp only [Act.put, List.setIfInBounds_toArray, List.set_cons_zero, List.set_cons_succ]
      refine lft_run rfl rfl ?_
      exact lft_pick rfl rfl rfl
    · intro w8 hw8
      clear hKc
      refine withLeft_is rfl rfl ?_
      refine withLeft_nil ?_
      simp only [Act.put, List.setIfInBounds_toArray, List.set_cons_zero, List.set_cons_succ]
      refine lft_run rfl rfl ?_
      exact lft_move rfl (by first | rfl | assumption)
    · intro w8 hw8
      clear hKc
      refine withLeft_is rfl rfl ?_
      refine withLeft_nil ?_
      simp only [Act.put, List.setIfInBounds_toArray, List.set_cons_zero, List.set_cons_succ]
      refine lft_want rfl rfl rfl rfl ?_
      exact lft_move rfl (by first | rfl | assumption)
    · intro w8 hw8
      clear hKc
      refine withLeft_is rfl rfl ?_
      refine withLeft_is rfl rfl ?_
      refine withLeft_nil ?_
      simp only [Act.put, List.setIfInBounds_toArray, List.set_cons_zero, List.set_cons_succ]
      refine lft_want rfl rfl rfl rfl ?_
      unfold LftRun
      go_wp2
      exact ⟨rfl, rfl, rfl, Below.refl _ _⟩
    · intro w8 hw8
      clear hKc
      refine withLeft_is rfl rfl ?_
      refine withLeft_nil ?_
      simp only [Act.put, List.setIfInBounds_toArray, List.set_cons_zero, List.set_cons_succ]
      refine lft_want rfl rfl rfl rfl ?_
      exact lft_move rfl (by first | rfl | assumption)
    · intro w8 hw8
      clear hKc
      refine withLeft_is rfl rfl ?_
      refine withLeft_is rfl rfl ?_
      refine withLeft_nil ?_
      simp only [Act.put, List.setIfInBounds_toArray, List.set_cons_zero, List.set_cons_succ]
      refine lft_want rfl rfl rfl rfl ?_
      unfold LftRun
      go_wp2
      exact ⟨rfl, rfl, rfl, Below.refl _ _⟩
    · intro w8 hw8
      clear hKc
      refine withLeft_is rfl rfl ?_
      refine withLeft_is rfl rfl ?_
      refine withLeft_nil ?_
      simp only [Act.put, List.setIfInBounds_toArray, List.set_cons_zero, List.set_cons_succ]
      refine lft_want rfl rfl rfl rfl ?_
      unfold LftRun
      go_wp2
      exact ⟨rfl, rfl, rfl, Below.refl _ _⟩
    · intro w8 hw8
      clear hKc
      refine withLeft_is rfl rfl ?_
      refine withLeft_is rfl rfl ?_
      refine withLeft_is rfl rfl ?_
      refine withLeft_nil ?_
      simp only [Act.put, List.setIfInBounds_toArray, List.set_cons_zero, List.set_cons_succ]
      refine lft_want rfl rfl rfl rfl ?_
      unfold LftRun
      go_wp2
      exact ⟨rfl, rfl, rfl, Below.refl _ _⟩
    · intro w8 hw8
      clear hKc
      refine withLeft_is rfl rfl ?_
      refine withLeft_is rfl rfl ?_
      refine withLeft_nil ?_
      simp only [Act.put, List.setIfInBounds_toArray, List.set_cons_zero, List.set_cons_succ]
      refine lft_run rfl rfl ?_
      exact lft_pick rfl rfl rfl
    · intro w8 hw8
      clear hKc
      refine withLeft_is rfl rfl ?_
      refine withLeft_nil ?_
      simp only [Act.put, List.setIfInBounds_toArray, List.set_cons_zero, List.set_cons_succ]
      refine lft_run rfl rfl ?_
      exact lft_assign rfl (by first | rfl | assumption)
  intro w8 hw8
  refine LeftEnd.is (LeftEnd.is (LeftEnd.is (LeftEnd.is (LeftEnd.is (LeftEnd.is (LeftEnd.is (LeftEnd.is (LeftEnd.is (LeftEnd.is (LeftEnd.is (LeftEnd.is (LeftEnd.is (LeftEnd.is (LeftEnd.bytes (fun _ _ => LeftEnd.is (LeftEnd.is (LeftEnd.bytes (fun _ _ => LeftEnd.is (LeftEnd.is (LeftEnd.is (LeftEnd.is (LeftEnd.is (LeftEnd.is (LeftEnd.is (LeftEnd.is (LeftEnd.is (LeftEnd.is (LeftEnd.is (LeftEnd.is (LeftEnd.is (LeftEnd.is (LeftEnd.is (LeftEnd.is (LeftEnd.is (LeftEnd.is (LeftEnd.is (LeftEnd.is (LeftEnd.is (LeftEnd.is (LeftEnd.is (LeftEnd.is (LeftEnd.is (LeftEnd.is (LeftEnd.is (LeftEnd.is (LeftEnd.is (LeftEnd.is (LeftEnd.is (LeftEnd.is (LeftEnd.is (LeftEnd.is (LeftEnd.is (LeftEnd.nil ?_)))))))))))))))))))))))))))))))))))))))))))))))))))))
  simp only [Act.put, List.setIfInBounds_toArray, List.set_cons_zero, List.set_cons_succ]
  have HB8 : Hid (Below w.heap.size w w8) := HB6.out.trans (hw8.mono HB6.out.size)
  clear hw8
  refine hKc _ _ ?_
  clear hKc Kc
  go_wp2
  go_ret
  exact ⟨rfl, HB8.out⟩
end Go.Proofs.Ytfebdgnojacoiaa

