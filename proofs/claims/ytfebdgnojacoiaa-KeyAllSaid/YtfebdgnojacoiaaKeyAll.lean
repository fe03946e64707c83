/- The law KeyAll: whatever the name, the number and the bytes, every call of it returns true, and all that was there before the call is as it was. No condition. -/
import Derived.Test.YtfebdgnojacoiaaRows
import Derived.Test.YtfebdgnojacoiaaLaw
import Derived.Test.YtfebdgnojacoiaaKeyAfP
import Derived.Test.YtfebdgnojacoiaaKeyOA
import Derived.ChangeMaps5
namespace Go.Proofs.Ytfebdgnojacoiaa
open Go Go.ChangeShapes Go.WideShapes Go.ChangeAt Go.RowKit Go.By

set_option maxRecDepth 100000 in
set_option maxHeartbeats 8000000 in
theorem keyAll_any (s : ByteArray) (n : Int) (v : Value) (k : List Nat) (w : World) (hs : s.size ≤ maxLen) (hn : n ≤ 9223372036854775807) (hv : Bytes w v k) :
    Calls Try.prog 3 #[.string s, .int .i64 n, v] w fun e w' => e = .returned (.bool true) ∧ Below w.heap.size w w' := by
  obtain ⟨p, cap, hveq⟩ : ∃ p cap, v = .slice p k.length cap := let ⟨p, cap, h, _⟩ := hv.any; ⟨p, cap, h⟩
  subst hveq
  have hm1 := hv.short
  unfold maxLen at hm1
  have HV := Lib.hid hv
  have HBG := Lib.hid (begun_any w)
  have HHS := Lib.hid hs; have HHN := Lib.hid hn
  have hs' := hs
  unfold maxLen at hs'
  clear hv hs hn
  go_enter Try.func3, Try.ntmps3
  go_wp2_with fail
  refine HBG.out.mono ?_
  rintro e w1 ⟨rfl, hb1⟩
  have HB1 := Lib.hid hb1
  have HV1 := Lib.hid (HV.out.below hb1)
  clear hb1
  by_cases h1 : 40 < (s.size : Int)
  · go_wp2
    go_ret
    exact ⟨rfl, HB1.out⟩
  by_cases h2 : 40 < (k.length : Int)
  · go_wp2
    go_ret
    exact ⟨rfl, HB1.out⟩
  have HHK : Hid (k.length ≤ 1000000) := by unfold Hid; omega
  go_wp2_with fail
  refine (takeStream_any _ k w1 HV1.out).mono ?_
  rintro e w2 ⟨rfl, hb2⟩
  have HB2 : Hid (Below w.heap.size w w2) := HB1.out.trans (hb2.mono HB1.out.size)
  have HV2 := Lib.hid (HV1.out.below hb2)
  rw [show pkV k = .tuple #[.string (pkName k), .int .i64 (pkNum k : Nat), .bool (isPair k)] from rfl]
  clear hb2
  go_wp2_with fail
  refine (refTake_any _ k w2 HV2.out).mono ?_
  rintro e w3 ⟨rfl, hb3⟩
  have HB3 : Hid (Below w.heap.size w w3) := HB2.out.trans (hb3.mono HB2.out.size)
  have HV3 := Lib.hid (HV2.out.below hb3)
  clear hb3
  go_wp2_with fail
  refine (takeType_any _ k w3 HV3.out).mono ?_
  rintro e w4 ⟨rfl, hb4⟩
  have HB4 : Hid (Below w.heap.size w w4) := HB3.out.trans (hb4.mono HB3.out.size)
  have HV4 := Lib.hid (HV3.out.below hb4)
  rw [show pkV k = .tuple #[.string (pkName k), .int .i64 (pkNum k : Nat), .bool (isPair k)] from rfl]
  clear hb4
  go_wp2_with fail
  rename_i Kc hKc
  refine wp_region_left (by kernel_rfl)
    [.is (.string s),
     .is (.bool (mayNm (natsOf s))),
     .is (.string s),
     .is (.bool (mayNm (natsOf s))),
     .is (.bool false),
     .is (.bool false),
     .is (.string s),
     .is (.int .i64 n),
     .bytes (pairK (natsOf s) n),
     .is (.string (strOf (pairK (natsOf s) n))),
     .is (.string s),
     .is (.int .i64 n),
     .bytes (pairK (natsOf s) n),
     .is (.string (strOf (pairK (natsOf s) n))),
     .is (.bool false),
     .is (.bool false),
     .is (.bool false),
     .is (.string s),
     .is (.int .i64 n),
     .bytes (pairK (natsOf s) n),
     .is (.string (strOf (pairK (natsOf s) n))),
     .is (.string s),
     .is (.int .i64 n),
     .bytes (pairK (natsOf s) n),
     .is (.string (strOf (pairK (natsOf s) n))),
     .is (.bool false),
     .is (.bool false),
     .is (.bool false),
     .is (.int .i64 n),
     .bytes (seqK n),
     .is (.string (strOf (seqK n))),
     .is (.int .i64 n),
     .bytes (seqK n),
     .is (.string (strOf (seqK n))),
     .is (.bool false),
     .is (.bool false)]
    [[], [0], [], [2], [1, 3], [4], [5], [5], [5, 6, 7], [5, 8], [5], [5], [5, 10, 11], [5, 12], [5, 9, 13], [5, 14], [15], [16], [16], [16, 17, 18], [16, 19], [16], [16], [16, 21, 22], [16, 23], [16, 20, 24], [16, 25], [26], [27], [27, 28], [27, 29], [27], [27, 31], [27, 32], [27, 30, 33], [27, 34]] (by kernel_rfl) (by rfl) ?_ ?_
  · refine LeftOps.cons ?_ (LeftOps.cons ?_ (LeftOps.cons ?_ (LeftOps.cons ?_ (LeftOps.cons ?_ (LeftOps.cons ?_ (LeftOps.cons ?_ (LeftOps.cons ?_ (LeftOps.cons ?_ (LeftOps.cons ?_ (LeftOps.cons ?_ (LeftOps.cons ?_ (LeftOps.cons ?_ (LeftOps.cons ?_ (LeftOps.cons ?_ (LeftOps.cons ?_ (LeftOps.cons ?_ (LeftOps.cons ?_ (LeftOps.cons ?_ (LeftOps.cons ?_ (LeftOps.cons ?_ (LeftOps.cons ?_ (LeftOps.cons ?_ (LeftOps.cons ?_ (LeftOps.cons ?_ (LeftOps.cons ?_ (LeftOps.cons ?_ (LeftOps.cons ?_ (LeftOps.cons ?_ (LeftOps.cons ?_ (LeftOps.cons ?_ (LeftOps.cons ?_ (LeftOps.cons ?_ (LeftOps.cons ?_ (LeftOps.cons ?_ (LeftOps.cons ?_ (LeftOps.nil))))))))))))))))))))))))))))))))))))
    · intro w8 hw8
      clear hKc
      refine withLeft_nil ?_
      refine lft_run rfl rfl ?_
      exact lft_move rfl (by first | rfl | assumption)
    · intro w8 hw8
      clear hKc
      refine withLeft_is rfl rfl ?_
      refine withLeft_nil ?_
      simp only [Act.put, List.setIfInBounds_toArray, List.set_cons_zero, List.set_cons_succ]
      refine lft_run rfl rfl ?_
      unfold LftRun
      go_wp2_with fail
      refine (mayName_any s w8 HHS.out).mono ?_
      rintro e wq ⟨rfl, rfl⟩
      go_wp2
      exact ⟨rfl, rfl, rfl, Below.refl _ _⟩
    · intro w8 hw8
      clear hKc
      refine withLeft_nil ?_
      refine lft_run rfl rfl ?_
      exact lft_move rfl (by first | rfl | assumption)
    · intro w8 hw8
      clear hKc
      refine withLeft_is rfl rfl ?_
      refine withLeft_nil ?_
      simp only [Act.put, List.setIfInBounds_toArray, List.set_cons_zero, List.set_cons_succ]
      refine lft_run rfl rfl ?_
      unfold LftRun
      go_wp2_with fail
      refine (refMay_any s w8 HHS.out).mono ?_
      rintro e wq ⟨rfl, rfl⟩
      go_wp2
      exact ⟨rfl, rfl, rfl, Below.refl _ _⟩
    · intro w8 hw8
      clear hKc
      refine withLeft_is rfl rfl ?_
      refine withLeft_is rfl rfl ?_
      refine withLeft_nil ?_
      simp only [Act.put, List.setIfInBounds_toArray, List.set_cons_zero, List.set_cons_succ]
      refine lft_run rfl rfl ?_
      unfold LftRun
      go_wp2
      exact ⟨rfl, rfl, rfl, Below.refl _ _⟩
    · intro w8 hw8
      clear hKc
      refine withLeft_is rfl rfl ?_
      refine withLeft_nil ?_
      simp only [Act.put, List.setIfInBounds_toArray, List.set_cons_zero, List.set_cons_succ]
      refine lft_run rfl rfl ?_
      exact lft_move rfl (by first | rfl | assumption)
    · intro w8 hw8
      clear hKc
      refine withLeft_is rfl rfl ?_
      refine withLeft_nil ?_
      simp only [Act.put, List.setIfInBounds_toArray, List.set_cons_zero, List.set_cons_succ]
      refine lft_want rfl rfl rfl rfl ?_
      exact lft_move rfl (by first | rfl | assumption)
    · intro w8 hw8
      clear hKc
      refine withLeft_is rfl rfl ?_
      refine withLeft_nil ?_
      simp only [Act.put, List.setIfInBounds_toArray, List.set_cons_zero, List.set_cons_succ]
      refine lft_want rfl rfl rfl rfl ?_
      exact lft_move rfl (by first | rfl | assumption)
    · intro w8 hw8
      clear hKc
      refine withLeft_is rfl rfl ?_
      refine withLeft_is rfl rfl ?_
      refine withLeft_is rfl rfl ?_
      refine withLeft_nil ?_
      simp only [Act.put, List.setIfInBounds_toArray, List.set_cons_zero, List.set_cons_succ]
      refine lft_want rfl rfl rfl rfl ?_
      unfold LftRun
      go_wp2_with fail
      refine (stream_any s n w8 HHS.out (by have := HHN.out; omega)).mono ?_
      rintro e wq ⟨vq, rfl, hoq, hbq⟩
      have hyq := hoq.bytes pairK_small
      clear hoq
      go_wp2
      exact ⟨rfl, hyq, rfl, hbq⟩
    · intro w8 hw8
      clear hKc
      refine withLeft_is rfl rfl ?_
      refine withLeft_bytes rfl rfl ?_
      intro vv hvv
      obtain ⟨pv, cv, rfl, _⟩ := hvv.any
      have hcvv := hvv.toString (P := Try.prog) byT (d := 9) (by kernel_rfl)
      refine withLeft_nil ?_
      simp only [Act.put, List.setIfInBounds_toArray, List.set_cons_zero, List.set_cons_succ]
      refine lft_want rfl rfl rfl rfl ?_
      unfold LftRun
      go_wp2
      exact ⟨rfl, rfl, rfl, Below.refl _ _⟩
    · intro w8 hw8
      clear hKc
      refine withLeft_is rfl rfl ?_
      refine withLeft_nil ?_
      simp only [Act.put, List.setIfInBounds_toArray, List.set_cons_zero, List.set_cons_succ]
      refine lft_want rfl rfl rfl rfl ?_
      exact lft_move rfl (by first | rfl | assumption)
    · intro w8 hw8
      clear hKc
      refine withLeft_is rfl rfl ?_
      refine withLeft_nil ?_
      simp only [Act.put, List.setIfInBounds_toArray, List.set_cons_zero, List.set_cons_succ]
      refine lft_want rfl rfl rfl rfl ?_
      exact lft_move rfl (by first | rfl | assumption)
    · intro w8 hw8
      clear hKc
      refine withLeft_is rfl rfl ?_
      refine withLeft_is rfl rfl ?_
      refine withLeft_is rfl rfl ?_
      refine withLeft_nil ?_
      simp only [Act.put, List.setIfInBounds_toArray, List.set_cons_zero, List.set_cons_succ]
      refine lft_want rfl rfl rfl rfl ?_
      unfold LftRun
      go_wp2_with fail
      refine (refStream_any s n w8 HHS.out (by have := HHN.out; omega)).mono ?_
      rintro e wq ⟨vq, rfl, hoq, hbq⟩
      have hyq := hoq.bytes pairK_small
      clear hoq
      go_wp2
      exact ⟨rfl, hyq, rfl, hbq⟩
    · intro w8 hw8
      clear hKc
      refine withLeft_is rfl rfl ?_
      refine withLeft_bytes rfl rfl ?_
      intro vv hvv
      obtain ⟨pv, cv, rfl, _⟩ := hvv.any
      have hcvv := hvv.toString (P := Try.prog) byT (d := 9) (by kernel_rfl)
      refine withLeft_nil ?_
      simp only [Act.put, List.setIfInBounds_toArray, List.set_cons_zero, List.set_cons_succ]
      refine lft_want rfl rfl rfl rfl ?_
      unfold LftRun
      go_wp2
      exact ⟨rfl, rfl, rfl, Below.refl _ _⟩
    · intro w8 hw8
      clear hKc
      refine withLeft_is rfl rfl ?_
      refine withLeft_is rfl rfl ?_
      refine withLeft_is rfl rfl ?_
      refine withLeft_nil ?_
      simp only [Act.put, List.setIfInBounds_toArray, List.set_cons_zero, List.set_cons_succ]
      refine lft_want rfl rfl rfl rfl ?_
      unfold LftRun
      go_wp2
      exact ⟨rfl, rfl, rfl, Below.refl _ _⟩
    · intro w8 hw8
      clear hKc
      refine withLeft_is rfl rfl ?_
      refine withLeft_is rfl rfl ?_
      refine withLeft_nil ?_
      simp only [Act.put, List.setIfInBounds_toArray, List.set_cons_zero, List.set_cons_succ]
      refine lft_run rfl rfl ?_
      exact lft_pick rfl rfl rfl
    · intro w8 hw8
      clear hKc
      refine withLeft_is rfl rfl ?_
      refine withLeft_nil ?_
      simp only [Act.put, List.setIfInBounds_toArray, List.set_cons_zero, List.set_cons_succ]
      refine lft_run rfl rfl ?_
      exact lft_move rfl (by first | rfl | assumption)
    · intro w8 hw8
      clear hKc
      refine withLeft_is rfl rfl ?_
      refine withLeft_nil ?_
      simp only [Act.put, List.setIfInBounds_toArray, List.set_cons_zero, List.set_cons_succ]
      refine lft_want rfl rfl rfl rfl ?_
      exact lft_move rfl (by first | rfl | assumption)
    · intro w8 hw8
      clear hKc
      refine withLeft_is rfl rfl ?_
      refine withLeft_nil ?_
      simp only [Act.put, List.setIfInBounds_toArray, List.set_cons_zero, List.set_cons_succ]
      refine lft_want rfl rfl rfl rfl ?_
      exact lft_move rfl (by first | rfl | assumption)
    · intro w8 hw8
      clear hKc
      refine withLeft_is rfl rfl ?_
      refine withLeft_is rfl rfl ?_
      refine withLeft_is rfl rfl ?_
      refine withLeft_nil ?_
      simp only [Act.put, List.setIfInBounds_toArray, List.set_cons_zero, List.set_cons_succ]
      refine lft_want rfl rfl rfl rfl ?_
      unfold LftRun
      go_wp2_with fail
      refine (type_any s n w8 HHS.out (by have := HHN.out; omega)).mono ?_
      rintro e wq ⟨vq, rfl, hoq, hbq⟩
      have hyq := hoq.bytes pairK_small
      clear hoq
      go_wp2
      exact ⟨rfl, hyq, rfl, hbq⟩
    · intro w8 hw8
      clear hKc
      refine withLeft_is rfl rfl ?_
      refine withLeft_bytes rfl rfl ?_
      intro vv hvv
      obtain ⟨pv, cv, rfl, _⟩ := hvv.any
      have hcvv := hvv.toString (P := Try.prog) byT (d := 9) (by kernel_rfl)
      refine withLeft_nil ?_
      simp only [Act.put, List.setIfInBounds_toArray, List.set_cons_zero, List.set_cons_succ]
      refine lft_want rfl rfl rfl rfl ?_
      unfold LftRun
      go_wp2
      exact ⟨rfl, rfl, rfl, Below.refl _ _⟩
    · intro w8 hw8
      clear hKc
      refine withLeft_is rfl rfl ?_
      refine withLeft_nil ?_
      simp only [Act.put, List.setIfInBounds_toArray, List.set_cons_zero, List.set_cons_succ]
      refine lft_want rfl rfl rfl rfl ?_
      exact lft_move rfl (by first | rfl | assumption)
    · intro w8 hw8
      clear hKc
      refine withLeft_is rfl rfl ?_
      refine withLeft_nil ?_
      simp only [Act.put, List.setIfInBounds_toArray, List.set_cons_zero, List.set_cons_succ]
      refine lft_want rfl rfl rfl rfl ?_
      exact lft_move rfl (by first | rfl | assumption)
    · intro w8 hw8
      clear hKc
      refine withLeft_is rfl rfl ?_
      refine withLeft_is rfl rfl ?_
      refine withLeft_is rfl rfl ?_
      refine withLeft_nil ?_
      simp only [Act.put, List.setIfInBounds_toArray, List.set_cons_zero, List.set_cons_succ]
      refine lft_want rfl rfl rfl rfl ?_
      unfold LftRun
      go_wp2_with fail
      refine (refType_any s n w8 HHS.out (by have := HHN.out; omega)).mono ?_
      rintro e wq ⟨vq, rfl, hoq, hbq⟩
      have hyq := hoq.bytes pairK_small
      clear hoq
      go_wp2
      exact ⟨rfl, hyq, rfl, hbq⟩
    · intro w8 hw8
      clear hKc
      refine withLeft_is rfl rfl ?_
      refine withLeft_bytes rfl rfl ?_
      intro vv hvv
      obtain ⟨pv, cv, rfl, _⟩ := hvv.any
      have hcvv := hvv.toString (P := Try.prog) byT (d := 9) (by kernel_rfl)
      refine withLeft_nil ?_
      simp only [Act.put, List.setIfInBounds_toArray, List.set_cons_zero, List.set_cons_succ]
      refine lft_want rfl rfl rfl rfl ?_
      unfold LftRun
      go_wp2
      exact ⟨rfl, rfl, rfl, Below.refl _ _⟩
    · intro w8 hw8
      clear hKc
      refine withLeft_is rfl rfl ?_
      refine withLeft_is rfl rfl ?_
      refine withLeft_is rfl rfl ?_
      refine withLeft_nil ?_
      simp only [Act.put, List.setIfInBounds_toArray, List.set_cons_zero, List.set_cons_succ]
      refine lft_want rfl rfl rfl rfl ?_
      unfold LftRun
      go_wp2
      exact ⟨rfl, rfl, rfl, Below.refl _ _⟩
    · intro w8 hw8
      clear hKc
      refine withLeft_is rfl rfl ?_
      refine withLeft_is rfl rfl ?_
      refine withLeft_nil ?_
      simp only [Act.put, List.setIfInBounds_toArray, List.set_cons_zero, List.set_cons_succ]
      refine lft_run rfl rfl ?_
      exact lft_pick rfl rfl rfl
    · intro w8 hw8
      clear hKc
      refine withLeft_is rfl rfl ?_
      refine withLeft_nil ?_
      simp only [Act.put, List.setIfInBounds_toArray, List.set_cons_zero, List.set_cons_succ]
      refine lft_run rfl rfl ?_
      exact lft_move rfl (by first | rfl | assumption)
    · intro w8 hw8
      clear hKc
      refine withLeft_is rfl rfl ?_
      refine withLeft_nil ?_
      simp only [Act.put, List.setIfInBounds_toArray, List.set_cons_zero, List.set_cons_succ]
      refine lft_want rfl rfl rfl rfl ?_
      exact lft_move rfl (by first | rfl | assumption)
    · intro w8 hw8
      clear hKc
      refine withLeft_is rfl rfl ?_
      refine withLeft_is rfl rfl ?_
      refine withLeft_nil ?_
      simp only [Act.put, List.setIfInBounds_toArray, List.set_cons_zero, List.set_cons_succ]
      refine lft_want rfl rfl rfl rfl ?_
      unfold LftRun
      go_wp2_with fail
      refine (seq_any n w8 (by have := HHN.out; omega)).mono ?_
      rintro e wq ⟨vq, rfl, hoq, hbq⟩
      have hyq := hoq.bytes seqK_small
      clear hoq
      go_wp2
      exact ⟨rfl, hyq, rfl, hbq⟩
    · intro w8 hw8
      clear hKc
      refine withLeft_is rfl rfl ?_
      refine withLeft_bytes rfl rfl ?_
      intro vv hvv
      obtain ⟨pv, cv, rfl, _⟩ := hvv.any
      have hcvv := hvv.toString (P := Try.prog) byT (d := 9) (by kernel_rfl)
      refine withLeft_nil ?_
      simp only [Act.put, List.setIfInBounds_toArray, List.set_cons_zero, List.set_cons_succ]
      refine lft_want rfl rfl rfl rfl ?_
      unfold LftRun
      go_wp2
      exact ⟨rfl, rfl, rfl, Below.refl _ _⟩
    · intro w8 hw8
      clear hKc
      refine withLeft_is rfl rfl ?_
      refine withLeft_nil ?_
      simp only [Act.put, List.setIfInBounds_toArray, List.set_cons_zero, List.set_cons_succ]
      refine lft_want rfl rfl rfl rfl ?_
      exact lft_move rfl (by first | rfl | assumption)
    · intro w8 hw8
      clear hKc
      refine withLeft_is rfl rfl ?_
      refine withLeft_is rfl rfl ?_
      refine withLeft_nil ?_
      simp only [Act.put, List.setIfInBounds_toArray, List.set_cons_zero, List.set_cons_succ]
      refine lft_want rfl rfl rfl rfl ?_
      unfold LftRun
      go_wp2_with fail
      refine (refSeq_any n w8 (by have := HHN.out; omega)).mono ?_
      rintro e wq ⟨vq, rfl, hoq, hbq⟩
      have hyq := hoq.bytes seqK_small
      clear hoq
      go_wp2
      exact ⟨rfl, hyq, rfl, hbq⟩
    · intro w8 hw8
      clear hKc
      refine withLeft_is rfl rfl ?_
      refine withLeft_bytes rfl rfl ?_
      intro vv hvv
      obtain ⟨pv, cv, rfl, _⟩ := hvv.any
      have hcvv := hvv.toString (P := Try.prog) byT (d := 9) (by kernel_rfl)
      refine withLeft_nil ?_
      simp only [Act.put, List.setIfInBounds_toArray, List.set_cons_zero, List.set_cons_succ]
      refine lft_want rfl rfl rfl rfl ?_
      unfold LftRun
      go_wp2
      exact ⟨rfl, rfl, rfl, Below.refl _ _⟩
    · intro w8 hw8
      clear hKc
      refine withLeft_is rfl rfl ?_
      refine withLeft_is rfl rfl ?_
      refine withLeft_is rfl rfl ?_
      refine withLeft_nil ?_
      simp only [Act.put, List.setIfInBounds_toArray, List.set_cons_zero, List.set_cons_succ]
      refine lft_want rfl rfl rfl rfl ?_
      unfold LftRun
      go_wp2
      exact ⟨rfl, rfl, rfl, Below.refl _ _⟩
    · intro w8 hw8
      clear hKc
      refine withLeft_is rfl rfl ?_
      refine withLeft_is rfl rfl ?_
      refine withLeft_nil ?_
      simp only [Act.put, List.setIfInBounds_toArray, List.set_cons_zero, List.set_cons_succ]
      refine lft_run rfl rfl ?_
      exact lft_pick rfl rfl rfl
  intro w8 hw8
  refine LeftEnd.is (LeftEnd.is (LeftEnd.is (LeftEnd.is (LeftEnd.is (LeftEnd.is (LeftEnd.is (LeftEnd.is (LeftEnd.bytes (fun _ _ => LeftEnd.is (LeftEnd.is (LeftEnd.is (LeftEnd.bytes (fun _ _ => LeftEnd.is (LeftEnd.is (LeftEnd.is (LeftEnd.is (LeftEnd.is (LeftEnd.is (LeftEnd.bytes (fun _ _ => LeftEnd.is (LeftEnd.is (LeftEnd.is (LeftEnd.bytes (fun _ _ => LeftEnd.is (LeftEnd.is (LeftEnd.is (LeftEnd.is (LeftEnd.is (LeftEnd.bytes (fun _ _ => LeftEnd.is (LeftEnd.is (LeftEnd.bytes (fun _ _ => LeftEnd.is (LeftEnd.is (LeftEnd.is (LeftEnd.nil ?_))))))))))))))))))))))))))))))))))))
  simp only [Act.put, List.setIfInBounds_toArray, List.set_cons_zero, List.set_cons_succ]
  have HB9 : Hid (Below w.heap.size w w8) := HB4.out.trans (hw8.mono HB4.out.size)
  have HK9 := Lib.hid (HV4.out.below hw8)
  clear hw8
  refine hKc _ _ ?_
  clear hKc Kc
  go_wp2_with fail
  rename_i Kc hKc
  refine wp_region_left (by kernel_rfl)
    [.is (.string s),
     .bytes (letK 104 (natsOf s)),
     .is (.string (strOf (letK 104 (natsOf s)))),
     .is (.string s),
     .bytes (letK 104 (natsOf s)),
     .is (.string (strOf (letK 104 (natsOf s)))),
     .is (.bool true),
     .is (.bool true),
     .is (.string s),
     .bytes (letK 105 (natsOf s)),
     .is (.string (strOf (letK 105 (natsOf s)))),
     .is (.string s),
     .bytes (letK 105 (natsOf s)),
     .is (.string (strOf (letK 105 (natsOf s)))),
     .is (.bool true),
     .is (.bool true),
     .is (.bool true),
     .is (.string s),
     .bytes (letK 115 (natsOf s)),
     .is (.string (strOf (letK 115 (natsOf s)))),
     .is (.string s),
     .bytes (letK 115 (natsOf s)),
     .is (.string (strOf (letK 115 (natsOf s)))),
     .is (.bool true),
     .is (.bool true),
     .is (.bool true),
     .is (.string s),
     .bytes (letK 112 (natsOf s)),
     .is (.string (strOf (letK 112 (natsOf s)))),
     .is (.string s),
     .bytes (letK 112 (natsOf s)),
     .is (.string (strOf (letK 112 (natsOf s)))),
     .is (.bool true),
     .is (.bool true),
     .is (.bool true),
     .is (.string (pkName k)),
     .is (.string (pkName k)),
     .is (.bool true),
     .is (.bool true),
     .is (.bool true),
     .is (.int .i64 (pkNum k : Nat)),
     .is (.int .i64 (pkNum k : Nat)),
     .is (.bool true),
     .is (.bool true),
     .is (.bool true),
     .is (.bool (isPair k)),
     .is (.bool (isPair k)),
     .is (.bool true),
     .is (.bool true),
     .is (.bool true),
     .is (.string (pkName k)),
     .is (.string (pkName k)),
     .is (.bool true),
     .is (.bool true),
     .is (.bool true),
     .is (.int .i64 (pkNum k : Nat)),
     .is (.int .i64 (pkNum k : Nat)),
     .is (.bool true),
     .is (.bool true),
     .is (.bool true),
     .is (.bool (isPair k)),
     .is (.bool (isPair k)),
     .is (.bool true),
     .is (.bool true),
     .is (.bool true),
     .is (.slice p k.length cap),
     .bytes (afterL k),
     .is (.string (strOf (afterL k))),
     .is (.slice p k.length cap),
     .bytes (afterL k),
     .is (.string (strOf (afterL k))),
     .is (.bool true),
     .is (.bool true),
     .is (.bool true)]
    [[], [0], [1], [], [3], [4], [2, 5], [6], [7], [7, 8], [7, 9], [7], [7, 11], [7, 12], [7, 10, 13], [7, 14], [15], [16], [16, 17], [16, 18], [16], [16, 20], [16, 21], [16, 19, 22], [16, 23], [24], [25], [25, 26], [25, 27], [25], [25, 29], [25, 30], [25, 28, 31], [25, 32], [33], [34], [34], [34, 35, 36], [34, 37], [38], [39], [39], [39, 40, 41], [39, 42], [43], [44], [44], [44, 45, 46], [44, 47], [48], [49], [49], [49, 50, 51], [49, 52], [53], [54], [54], [54, 55, 56], [54, 57], [58], [59], [59], [59, 60, 61], [59, 62], [63], [64], [64, 65], [64, 66], [64], [64, 68], [64, 69], [64, 67, 70], [64, 71], [72]] (by kernel_rfl) (by rfl) ?_ ?_
  · refine LeftOps.cons ?_ (LeftOps.cons ?_ (LeftOps.cons ?_ (LeftOps.cons ?_ (LeftOps.cons ?_ (LeftOps.cons ?_ (LeftOps.cons ?_ (LeftOps.cons ?_ (LeftOps.cons ?_ (LeftOps.cons ?_ (LeftOps.cons ?_ (LeftOps.cons ?_ (LeftOps.cons ?_ (LeftOps.cons ?_ (LeftOps.cons ?_ (LeftOps.cons ?_ (LeftOps.cons ?_ (LeftOps.cons ?_ (LeftOps.cons ?_ (LeftOps.cons ?_ (LeftOps.cons ?_ (LeftOps.cons ?_ (LeftOps.cons ?_ (LeftOps.cons ?_ (LeftOps.cons ?_ (LeftOps.cons ?_ (LeftOps.cons ?_ (LeftOps.cons ?_ (LeftOps.cons ?_ (LeftOps.cons ?_ (LeftOps.cons ?_ (LeftOps.cons ?_ (LeftOps.cons ?_ (LeftOps.cons ?_ (LeftOps.cons ?_ (LeftOps.cons ?_ (LeftOps.cons ?_ (LeftOps.cons ?_ (LeftOps.cons ?_ (LeftOps.cons ?_ (LeftOps.cons ?_ (LeftOps.cons ?_ (LeftOps.cons ?_ (LeftOps.cons ?_ (LeftOps.cons ?_ (LeftOps.cons ?_ (LeftOps.cons ?_ (LeftOps.cons ?_ (LeftOps.cons ?_ (LeftOps.cons ?_ (LeftOps.cons ?_ (LeftOps.cons ?_ (LeftOps.cons ?_ (LeftOps.cons ?_ (LeftOps.cons ?_ (LeftOps.cons ?_ (LeftOps.cons ?_ (LeftOps.cons ?_ (LeftOps.cons ?_ (LeftOps.cons ?_ (LeftOps.cons ?_ (LeftOps.cons ?_ (LeftOps.cons ?_ (LeftOps.cons ?_ (LeftOps.cons ?_ (LeftOps.cons ?_ (LeftOps.cons ?_ (LeftOps.cons ?_ (LeftOps.cons ?_ (LeftOps.cons ?_ (LeftOps.cons ?_ (LeftOps.cons ?_ (LeftOps.cons ?_ (LeftOps.cons ?_ (LeftOps.nil))))))))))))))))))))))))))))))))))))))))))))))))))))))))))))))))))))))))))
    · intro wz hwz
      clear hKc
      refine withLeft_nil ?_
      refine lft_run rfl rfl ?_
      exact lft_move rfl (by first | rfl | assumption)
    · intro wz hwz
      clear hKc
      refine withLeft_is rfl rfl ?_
      refine withLeft_nil ?_
      simp only [Act.put, List.setIfInBounds_toArray, List.set_cons_zero, List.set_cons_succ]
      refine lft_run rfl rfl ?_
      unfold LftRun
      go_wp2_with fail
      refine (head_any s wz HHS.out).mono ?_
      rintro e wq ⟨vq, rfl, hoq, hbq⟩
      have hyq := hoq.bytes (letK_small (by omega))
      clear hoq
      go_wp2
      exact ⟨rfl, hyq, rfl, hbq⟩
    · intro wz hwz
      clear hKc
      refine withLeft_bytes rfl rfl ?_
      intro vv hvv
      obtain ⟨pv, cv, rfl, _⟩ := hvv.any
      have hcvv := hvv.toString (P := Try.prog) byT (d := 9) (by kernel_rfl)
      refine withLeft_nil ?_
      simp only [Act.put, List.setIfInBounds_toArray, List.set_cons_zero, List.set_cons_succ]
      refine lft_run rfl rfl ?_
      unfold LftRun
      go_wp2
      exact ⟨rfl, rfl, rfl, Below.refl _ _⟩
    · intro wz hwz
      clear hKc
      refine withLeft_nil ?_
      refine lft_run rfl rfl ?_
      exact lft_move rfl (by first | rfl | assumption)
    · intro wz hwz
      clear hKc
      refine withLeft_is rfl rfl ?_
      refine withLeft_nil ?_
      simp only [Act.put, List.setIfInBounds_toArray, List.set_cons_zero, List.set_cons_succ]
      refine lft_run rfl rfl ?_
      unfold LftRun
      go_wp2_with fail
      refine (refLet_any 104 (by omega) s wz HHS.out).mono ?_
      rintro e wq ⟨vq, rfl, hoq, hbq⟩
      have hyq := hoq.bytes (letK_small (by omega))
      clear hoq
      go_wp2
      exact ⟨rfl, hyq, rfl, hbq⟩
    · intro wz hwz
      clear hKc
      refine withLeft_bytes rfl rfl ?_
      intro vv hvv
      obtain ⟨pv, cv, rfl, _⟩ := hvv.any
      have hcvv := hvv.toString (P := Try.prog) byT (d := 9) (by kernel_rfl)
      refine withLeft_nil ?_
      simp only [Act.put, List.setIfInBounds_toArray, List.set_cons_zero, List.set_cons_succ]
      refine lft_run rfl rfl ?_
      unfold LftRun
      go_wp2
      exact ⟨rfl, rfl, rfl, Below.refl _ _⟩
    · intro wz hwz
      clear hKc
      refine withLeft_is rfl rfl ?_
      refine withLeft_is rfl rfl ?_
      refine withLeft_nil ?_
      simp only [Act.put, List.setIfInBounds_toArray, List.set_cons_zero, List.set_cons_succ]
      refine lft_run rfl rfl ?_
      unfold LftRun
      go_wp2
      exact ⟨rfl, rfl, rfl, Below.refl _ _⟩
    · intro wz hwz
      clear hKc
      refine withLeft_is rfl rfl ?_
      refine withLeft_nil ?_
      simp only [Act.put, List.setIfInBounds_toArray, List.set_cons_zero, List.set_cons_succ]
      refine lft_run rfl rfl ?_
      exact lft_move rfl (by first | rfl | assumption)
    · intro wz hwz
      clear hKc
      refine withLeft_is rfl rfl ?_
      refine withLeft_nil ?_
      simp only [Act.put, List.setIfInBounds_toArray, List.set_cons_zero, List.set_cons_succ]
      refine lft_want rfl rfl rfl rfl ?_
      exact lft_move rfl (by first | rfl | assumption)
    · intro wz hwz
      clear hKc
      refine withLeft_is rfl rfl ?_
      refine withLeft_is rfl rfl ?_
      refine withLeft_nil ?_
      simp only [Act.put, List.setIfInBounds_toArray, List.set_cons_zero, List.set_cons_succ]
      refine lft_want rfl rfl rfl rfl ?_
      unfold LftRun
      go_wp2_with fail
      refine (id_any s wz HHS.out).mono ?_
      rintro e wq ⟨vq, rfl, hoq, hbq⟩
      have hyq := hoq.bytes (letK_small (by omega))
      clear hoq
      go_wp2
      exact ⟨rfl, hyq, rfl, hbq⟩
    · intro wz hwz
      clear hKc
      refine withLeft_is rfl rfl ?_
      refine withLeft_bytes rfl rfl ?_
      intro vv hvv
      obtain ⟨pv, cv, rfl, _⟩ := hvv.any
      have hcvv := hvv.toString (P := Try.prog) byT (d := 9) (by kernel_rfl)
      refine withLeft_nil ?_
      simp only [Act.put, List.setIfInBounds_toArray, List.set_cons_zero, List.set_cons_succ]
      refine lft_want rfl rfl rfl rfl ?_
      unfold LftRun
      go_wp2
      exact ⟨rfl, rfl, rfl, Below.refl _ _⟩
    · intro wz hwz
      clear hKc
      refine withLeft_is rfl rfl ?_
      refine withLeft_nil ?_
      simp only [Act.put, List.setIfInBounds_toArray, List.set_cons_zero, List.set_cons_succ]
      refine lft_want rfl rfl rfl rfl ?_
      exact lft_move rfl (by first | rfl | assumption)
    · intro wz hwz
      clear hKc
      refine withLeft_is rfl rfl ?_
      refine withLeft_is rfl rfl ?_
      refine withLeft_nil ?_
      simp only [Act.put, List.setIfInBounds_toArray, List.set_cons_zero, List.set_cons_succ]
      refine lft_want rfl rfl rfl rfl ?_
      unfold LftRun
      go_wp2_with fail
      refine (refLet_any 105 (by omega) s wz HHS.out).mono ?_
      rintro e wq ⟨vq, rfl, hoq, hbq⟩
      have hyq := hoq.bytes (letK_small (by omega))
      clear hoq
      go_wp2
      exact ⟨rfl, hyq, rfl, hbq⟩
    · intro wz hwz
      clear hKc
      refine withLeft_is rfl rfl ?_
      refine withLeft_bytes rfl rfl ?_
      intro vv hvv
      obtain ⟨pv, cv, rfl, _⟩ := hvv.any
      have hcvv := hvv.toString (P := Try.prog) byT (d := 9) (by kernel_rfl)
      refine withLeft_nil ?_
      simp only [Act.put, List.setIfInBounds_toArray, List.set_cons_zero, List.set_cons_succ]
      refine lft_want rfl rfl rfl rfl ?_
      unfold LftRun
      go_wp2
      exact ⟨rfl, rfl, rfl, Below.refl _ _⟩
    · intro wz hwz
      clear hKc
      refine withLeft_is rfl rfl ?_
      refine withLeft_is rfl rfl ?_
      refine withLeft_is rfl rfl ?_
      refine withLeft_nil ?_
      simp only [Act.put, List.setIfInBounds_toArray, List.set_cons_zero, List.set_cons_succ]
      refine lft_want rfl rfl rfl rfl ?_
      unfold LftRun
      go_wp2
      exact ⟨rfl, rfl, rfl, Below.refl _ _⟩
    · intro wz hwz
      clear hKc
      refine withLeft_is rfl rfl ?_
      refine withLeft_is rfl rfl ?_
      refine withLeft_nil ?_
      simp only [Act.put, List.setIfInBounds_toArray, List.set_cons_zero, List.set_cons_succ]
      refine lft_run rfl rfl ?_
      exact lft_pick rfl rfl rfl
    · intro wz hwz
      clear hKc
      refine withLeft_is rfl rfl ?_
      refine withLeft_nil ?_
      simp only [Act.put, List.setIfInBounds_toArray, List.set_cons_zero, List.set_cons_succ]
      refine lft_run rfl rfl ?_
      exact lft_move rfl (by first | rfl | assumption)
    · intro wz hwz
      clear hKc
      refine withLeft_is rfl rfl ?_
      refine withLeft_nil ?_
      simp only [Act.put, List.setIfInBounds_toArray, List.set_cons_zero, List.set_cons_succ]
      refine lft_want rfl rfl rfl rfl ?_
      exact lft_move rfl (by first | rfl | assumption)
    · intro wz hwz
      clear hKc
      refine withLeft_is rfl rfl ?_
      refine withLeft_is rfl rfl ?_
      refine withLeft_nil ?_
      simp only [Act.put, List.setIfInBounds_toArray, List.set_cons_zero, List.set_cons_succ]
      refine lft_want rfl rfl rfl rfl ?_
      unfold LftRun
      go_wp2_with fail
      refine (snap_any s wz HHS.out).mono ?_
      rintro e wq ⟨vq, rfl, hoq, hbq⟩
      have hyq := hoq.bytes (letK_small (by omega))
      clear hoq
      go_wp2
      exact ⟨rfl, hyq, rfl, hbq⟩
    · intro wz hwz
      clear hKc
      refine withLeft_is rfl rfl ?_
      refine withLeft_bytes rfl rfl ?_
      intro vv hvv
      obtain ⟨pv, cv, rfl, _⟩ := hvv.any
      have hcvv := hvv.toString (P := Try.prog) byT (d := 9) (by kernel_rfl)
      refine withLeft_nil ?_
      simp only [Act.put, List.setIfInBounds_toArray, List.set_cons_zero, List.set_cons_succ]
      refine lft_want rfl rfl rfl rfl ?_
      unfold LftRun
      go_wp2
      exact ⟨rfl, rfl, rfl, Below.refl _ _⟩
    · intro wz hwz
      clear hKc
      refine withLeft_is rfl rfl ?_
      refine withLeft_nil ?_
      simp only [Act.put, List.setIfInBounds_toArray, List.set_cons_zero, List.set_cons_succ]
      refine lft_want rfl rfl rfl rfl ?_
      exact lft_move rfl (by first | rfl | assumption)
    · intro wz hwz
      clear hKc
      refine withLeft_is rfl rfl ?_
      refine withLeft_is rfl rfl ?_
      refine withLeft_nil ?_
      simp only [Act.put, List.setIfInBounds_toArray, List.set_cons_zero, List.set_cons_succ]
      refine lft_want rfl rfl rfl rfl ?_
      unfold LftRun
      go_wp2_with fail
      refine (refLet_any 115 (by omega) s wz HHS.out).mono ?_
      rintro e wq ⟨vq, rfl, hoq, hbq⟩
      have hyq := hoq.bytes (letK_small (by omega))
      clear hoq
      go_wp2
      exact ⟨rfl, hyq, rfl, hbq⟩
    · intro wz hwz
      clear hKc
      refine withLeft_is rfl rfl ?_
      refine withLeft_bytes rfl rfl ?_
      intro vv hvv
      obtain ⟨pv, cv, rfl, _⟩ := hvv.any
      have hcvv := hvv.toString (P := Try.prog) byT (d := 9) (by kernel_rfl)
      refine withLeft_nil ?_
      simp only [Act.put, List.setIfInBounds_toArray, List.set_cons_zero, List.set_cons_succ]
      refine lft_want rfl rfl rfl rfl ?_
      unfold LftRun
      go_wp2
      exact ⟨rfl, rfl, rfl, Below.refl _ _⟩
    · intro wz hwz
      clear hKc
      refine withLeft_is rfl rfl ?_
      refine withLeft_is rfl rfl ?_
      refine withLeft_is rfl rfl ?_
      refine withLeft_nil ?_
      simp only [Act.put, List.setIfInBounds_toArray, List.set_cons_zero, List.set_cons_succ]
      refine lft_want rfl rfl rfl rfl ?_
      unfold LftRun
      go_wp2
      exact ⟨rfl, rfl, rfl, Below.refl _ _⟩
    · intro wz hwz
      clear hKc
      refine withLeft_is rfl rfl ?_
      refine withLeft_is rfl rfl ?_
      refine withLeft_nil ?_
      simp only [Act.put, List.setIfInBounds_toArray, List.set_cons_zero, List.set_cons_succ]
      refine lft_run rfl rfl ?_
      exact lft_pick rfl rfl rfl
    · intro wz hwz
      clear hKc
      refine withLeft_is rfl rfl ?_
      refine withLeft_nil ?_
      simp only [Act.put, List.setIfInBounds_toArray, List.set_cons_zero, List.set_cons_succ]
      refine lft_run rfl rfl ?_
      exact lft_move rfl (by first | rfl | assumption)
    · intro wz hwz
      clear hKc
      refine withLeft_is rfl rfl ?_
      refine withLeft_nil ?_
      simp only [Act.put, List.setIfInBounds_toArray, List.set_cons_zero, List.set_cons_succ]
      refine lft_want rfl rfl rfl rfl ?_
      exact lft_move rfl (by first | rfl | assumption)
    · intro wz hwz
      clear hKc
      refine withLeft_is rfl rfl ?_
      refine withLeft_is rfl rfl ?_
      refine withLeft_nil ?_
      simp only [Act.put, List.setIfInBounds_toArray, List.set_cons_zero, List.set_cons_succ]
      refine lft_want rfl rfl rfl rfl ?_
      unfold LftRun
      go_wp2_with fail
      refine (point_any s wz HHS.out).mono ?_
      rintro e wq ⟨vq, rfl, hoq, hbq⟩
      have hyq := hoq.bytes (letK_small (by omega))
      clear hoq
      go_wp2
      exact ⟨rfl, hyq, rfl, hbq⟩
    · intro wz hwz
      clear hKc
      refine withLeft_is rfl rfl ?_
      refine withLeft_bytes rfl rfl ?_
      intro vv hvv
      obtain ⟨pv, cv, rfl, _⟩ := hvv.any
      have hcvv := hvv.toString (P := Try.prog) byT (d := 9) (by kernel_rfl)
      refine withLeft_nil ?_
      simp only [Act.put, List.setIfInBounds_toArray, List.set_cons_zero, List.set_cons_succ]
      refine lft_want rfl rfl rfl rfl ?_
      unfold LftRun
      go_wp2
      exact ⟨rfl, rfl, rfl, Below.refl _ _⟩
    · intro wz hwz
      clear hKc
      refine withLeft_is rfl rfl ?_
      refine withLeft_nil ?_
      simp only [Act.put, List.setIfInBounds_toArray, List.set_cons_zero, List.set_cons_succ]
      refine lft_want rfl rfl rfl rfl ?_
      exact lft_move rfl (by first | rfl | assumption)
    · intro wz hwz
      clear hKc
      refine withLeft_is rfl rfl ?_
      refine withLeft_is rfl rfl ?_
      refine withLeft_nil ?_
      simp only [Act.put, List.setIfInBounds_toArray, List.set_cons_zero, List.set_cons_succ]
      refine lft_want rfl rfl rfl rfl ?_
      unfold LftRun
      go_wp2_with fail
      refine (refLet_any 112 (by omega) s wz HHS.out).mono ?_
      rintro e wq ⟨vq, rfl, hoq, hbq⟩
      have hyq := hoq.bytes (letK_small (by omega))
      clear hoq
      go_wp2
      exact ⟨rfl, hyq, rfl, hbq⟩
    · intro wz hwz
      clear hKc
      refine withLeft_is rfl rfl ?_
      refine withLeft_bytes rfl rfl ?_
      intro vv hvv
      obtain ⟨pv, cv, rfl, _⟩ := hvv.any
      have hcvv := hvv.toString (P := Try.prog) byT (d := 9) (by kernel_rfl)
      refine withLeft_nil ?_
      simp only [Act.put, List.setIfInBounds_toArray, List.set_cons_zero, List.set_cons_succ]
      refine lft_want rfl rfl rfl rfl ?_
      unfold LftRun
      go_wp2
      exact ⟨rfl, rfl, rfl, Below.refl _ _⟩
    · intro wz hwz
      clear hKc
      refine withLeft_is rfl rfl ?_
      refine withLeft_is rfl rfl ?_
      refine withLeft_is rfl rfl ?_
      refine withLeft_nil ?_
      simp only [Act.put, List.setIfInBounds_toArray, List.set_cons_zero, List.set_cons_succ]
      refine lft_want rfl rfl rfl rfl ?_
      unfold LftRun
      go_wp2
      exact ⟨rfl, rfl, rfl, Below.refl _ _⟩
    · intro wz hwz
      clear hKc
      refine withLeft_is rfl rfl ?_
      refine withLeft_is rfl rfl ?_
      refine withLeft_nil ?_
      simp only [Act.put, List.setIfInBounds_toArray, List.set_cons_zero, List.set_cons_succ]
      refine lft_run rfl rfl ?_
      exact lft_pick rfl rfl rfl
    · intro wz hwz
      clear hKc
      refine withLeft_is rfl rfl ?_
      refine withLeft_nil ?_
      simp only [Act.put, List.setIfInBounds_toArray, List.set_cons_zero, List.set_cons_succ]
      refine lft_run rfl rfl ?_
      exact lft_move rfl (by first | rfl | assumption)
    · intro wz hwz
      clear hKc
      refine withLeft_is rfl rfl ?_
      refine withLeft_nil ?_
      simp only [Act.put, List.setIfInBounds_toArray, List.set_cons_zero, List.set_cons_succ]
      refine lft_want rfl rfl rfl rfl ?_
      exact lft_move rfl (by first | rfl | assumption)
    · intro wz hwz
      clear hKc
      refine withLeft_is rfl rfl ?_
      refine withLeft_nil ?_
      simp only [Act.put, List.setIfInBounds_toArray, List.set_cons_zero, List.set_cons_succ]
      refine lft_want rfl rfl rfl rfl ?_
      exact lft_move rfl (by first | rfl | assumption)
    · intro wz hwz
      clear hKc
      refine withLeft_is rfl rfl ?_
      refine withLeft_is rfl rfl ?_
      refine withLeft_is rfl rfl ?_
      refine withLeft_nil ?_
      simp only [Act.put, List.setIfInBounds_toArray, List.set_cons_zero, List.set_cons_succ]
      refine lft_want rfl rfl rfl rfl ?_
      unfold LftRun
      go_wp2
      exact ⟨rfl, rfl, rfl, Below.refl _ _⟩
    · intro wz hwz
      clear hKc
      refine withLeft_is rfl rfl ?_
      refine withLeft_is rfl rfl ?_
      refine withLeft_nil ?_
      simp only [Act.put, List.setIfInBounds_toArray, List.set_cons_zero, List.set_cons_succ]
      refine lft_run rfl rfl ?_
      exact lft_pick rfl rfl rfl
    · intro wz hwz
      clear hKc
      refine withLeft_is rfl rfl ?_
      refine withLeft_nil ?_
      simp only [Act.put, List.setIfInBounds_toArray, List.set_cons_zero, List.set_cons_succ]
      refine lft_run rfl rfl ?_
      exact lft_move rfl (by first | rfl | assumption)
    · intro wz hwz
      clear hKc
      refine withLeft_is rfl rfl ?_
      refine withLeft_nil ?_
      simp only [Act.put, List.setIfInBounds_toArray, List.set_cons_zero, List.set_cons_succ]
      refine lft_want rfl rfl rfl rfl ?_
      exact lft_move rfl (by first | rfl | assumption)
    · intro wz hwz
      clear hKc
      refine withLeft_is rfl rfl ?_
      refine withLeft_nil ?_
      simp only [Act.put, List.setIfInBounds_toArray, List.set_cons_zero, List.set_cons_succ]
      refine lft_want rfl rfl rfl rfl ?_
      exact lft_move rfl (by first | rfl | assumption)
    · intro wz hwz
      clear hKc
      refine withLeft_is rfl rfl ?_
      refine withLeft_is rfl rfl ?_
      refine withLeft_is rfl rfl ?_
      refine withLeft_nil ?_
      simp only [Act.put, List.setIfInBounds_toArray, List.set_cons_zero, List.set_cons_succ]
      refine lft_want rfl rfl rfl rfl ?_
      unfold LftRun
      go_wp2
      exact ⟨rfl, rfl, rfl, Below.refl _ _⟩
    · intro wz hwz
      clear hKc
      refine withLeft_is rfl rfl ?_
      refine withLeft_is rfl rfl ?_
      refine withLeft_nil ?_
      simp only [Act.put, List.setIfInBounds_toArray, List.set_cons_zero, List.set_cons_succ]
      refine lft_run rfl rfl ?_
      exact lft_pick rfl rfl rfl
    · intro wz hwz
      clear hKc
      refine withLeft_is rfl rfl ?_
      refine withLeft_nil ?_
      simp only [Act.put, List.setIfInBounds_toArray, List.set_cons_zero, List.set_cons_succ]
      refine lft_run rfl rfl ?_
      exact lft_move rfl (by first | rfl | assumption)
    · intro wz hwz
      clear hKc
      refine withLeft_is rfl rfl ?_
      refine withLeft_nil ?_
      simp only [Act.put, List.setIfInBounds_toArray, List.set_cons_zero, List.set_cons_succ]
      refine lft_want rfl rfl rfl rfl ?_
      exact lft_move rfl (by first | rfl | assumption)
    · intro wz hwz
      clear hKc
      refine withLeft_is rfl rfl ?_
      refine withLeft_nil ?_
      simp only [Act.put, List.setIfInBounds_toArray, List.set_cons_zero, List.set_cons_succ]
      refine lft_want rfl rfl rfl rfl ?_
      exact lft_move rfl (by first | rfl | assumption)
    · intro wz hwz
      clear hKc
      refine withLeft_is rfl rfl ?_
      refine withLeft_is rfl rfl ?_
      refine withLeft_is rfl rfl ?_
      refine withLeft_nil ?_
      simp only [Act.put, List.setIfInBounds_toArray, List.set_cons_zero, List.set_cons_succ]
      refine lft_want rfl rfl rfl rfl ?_
      unfold LftRun
      go_wp2
      exact ⟨rfl, rfl, rfl, Below.refl _ _⟩
    · intro wz hwz
      clear hKc
      refine withLeft_is rfl rfl ?_
      refine withLeft_is rfl rfl ?_
      refine withLeft_nil ?_
      simp only [Act.put, List.setIfInBounds_toArray, List.set_cons_zero, List.set_cons_succ]
      refine lft_run rfl rfl ?_
      exact lft_pick rfl rfl rfl
    · intro wz hwz
      clear hKc
      refine withLeft_is rfl rfl ?_
      refine withLeft_nil ?_
      simp only [Act.put, List.setIfInBounds_toArray, List.set_cons_zero, List.set_cons_succ]
      refine lft_run rfl rfl ?_
      exact lft_move rfl (by first | rfl | assumption)
    · intro wz hwz
      clear hKc
      refine withLeft_is rfl rfl ?_
      refine withLeft_nil ?_
      simp only [Act.put, List.setIfInBounds_toArray, List.set_cons_zero, List.set_cons_succ]
      refine lft_want rfl rfl rfl rfl ?_
      exact lft_move rfl (by first | rfl | assumption)
    · intro wz hwz
      clear hKc
      refine withLeft_is rfl rfl ?_
      refine withLeft_nil ?_
      simp only [Act.put, List.setIfInBounds_toArray, List.set_cons_zero, List.set_cons_succ]
      refine lft_want rfl rfl rfl rfl ?_
      exact lft_move rfl (by first | rfl | assumption)
    · intro wz hwz
      clear hKc
      refine withLeft_is rfl rfl ?_
      refine withLeft_is rfl rfl ?_
      refine withLeft_is rfl rfl ?_
      refine withLeft_nil ?_
      simp only [Act.put, List.setIfInBounds_toArray, List.set_cons_zero, List.set_cons_succ]
      refine lft_want rfl rfl rfl rfl ?_
      unfold LftRun
      go_wp2
      exact ⟨rfl, rfl, rfl, Below.refl _ _⟩
    · intro wz hwz
      clear hKc
      refine withLeft_is rfl rfl ?_
      refine withLeft_is rfl rfl ?_
      refine withLeft_nil ?_
      simp only [Act.put, List.setIfInBounds_toArray, List.set_cons_zero, List.set_cons_succ]
      refine lft_run rfl rfl ?_
      exact lft_pick rfl rfl rfl
    · intro wz hwz
      clear hKc
      refine withLeft_is rfl rfl ?_
      refine withLeft_nil ?_
      simp only [Act.put, List.setIfInBounds_toArray, List.set_cons_zero, List.set_cons_succ]
      refine lft_run rfl rfl ?_
      exact lft_move rfl (by first | rfl | assumption)
    · intro wz hwz
      clear hKc
      refine withLeft_is rfl rfl ?_
      refine withLeft_nil ?_
      simp only [Act.put, List.setIfInBounds_toArray, List.set_cons_zero, List.set_cons_succ]
      refine lft_want rfl rfl rfl rfl ?_
      exact lft_move rfl (by first | rfl | assumption)
    · intro wz hwz
      clear hKc
      refine withLeft_is rfl rfl ?_
      refine withLeft_nil ?_
      simp only [Act.put, List.setIfInBounds_toArray, List.set_cons_zero, List.set_cons_succ]
      refine lft_want rfl rfl rfl rfl ?_
      exact lft_move rfl (by first | rfl | assumption)
    · intro wz hwz
      clear hKc
      refine withLeft_is rfl rfl ?_
      refine withLeft_is rfl rfl ?_
      refine withLeft_is rfl rfl ?_
      refine withLeft_nil ?_
      simp only [Act.put, List.setIfInBounds_toArray, List.set_cons_zero, List.set_cons_succ]
      refine lft_want rfl rfl rfl rfl ?_
      unfold LftRun
      go_wp2
      exact ⟨rfl, rfl, rfl, Below.refl _ _⟩
    · intro wz hwz
      clear hKc
      refine withLeft_is rfl rfl ?_
      refine withLeft_is rfl rfl ?_
      refine withLeft_nil ?_
      simp only [Act.put, List.setIfInBounds_toArray, List.set_cons_zero, List.set_cons_succ]
      refine lft_run rfl rfl ?_
      exact lft_pick rfl rfl rfl
    · intro wz hwz
      clear hKc
      refine withLeft_is rfl rfl ?_
      refine withLeft_nil ?_
      simp only [Act.put, List.setIfInBounds_toArray, List.set_cons_zero, List.set_cons_succ]
      refine lft_run rfl rfl ?_
      exact lft_move rfl (by first | rfl | assumption)
    · intro wz hwz
      clear hKc
      refine withLeft_is rfl rfl ?_
      refine withLeft_nil ?_
      simp only [Act.put, List.setIfInBounds_toArray, List.set_cons_zero, List.set_cons_succ]
      refine lft_want rfl rfl rfl rfl ?_
      exact lft_move rfl (by first | rfl | assumption)
    · intro wz hwz
      clear hKc
      refine withLeft_is rfl rfl ?_
      refine withLeft_nil ?_
      simp only [Act.put, List.setIfInBounds_toArray, List.set_cons_zero, List.set_cons_succ]
      refine lft_want rfl rfl rfl rfl ?_
      exact lft_move rfl (by first | rfl | assumption)
    · intro wz hwz
      clear hKc
      refine withLeft_is rfl rfl ?_
      refine withLeft_is rfl rfl ?_
      refine withLeft_is rfl rfl ?_
      refine withLeft_nil ?_
      simp only [Act.put, List.setIfInBounds_toArray, List.set_cons_zero, List.set_cons_succ]
      refine lft_want rfl rfl rfl rfl ?_
      unfold LftRun
      go_wp2
      exact ⟨rfl, rfl, rfl, Below.refl _ _⟩
    · intro wz hwz
      clear hKc
      refine withLeft_is rfl rfl ?_
      refine withLeft_is rfl rfl ?_
      refine withLeft_nil ?_
      simp only [Act.put, List.setIfInBounds_toArray, List.set_cons_zero, List.set_cons_succ]
      refine lft_run rfl rfl ?_
      exact lft_pick rfl rfl rfl
    · intro wz hwz
      clear hKc
      refine withLeft_is rfl rfl ?_
      refine withLeft_nil ?_
      simp only [Act.put, List.setIfInBounds_toArray, List.set_cons_zero, List.set_cons_succ]
      refine lft_run rfl rfl ?_
      exact lft_move rfl (by first | rfl | assumption)
    · intro wz hwz
      clear hKc
      refine withLeft_is rfl rfl ?_
      refine withLeft_nil ?_
      simp only [Act.put, List.setIfInBounds_toArray, List.set_cons_zero, List.set_cons_succ]
      refine lft_want rfl rfl rfl rfl ?_
      exact lft_move rfl (by first | rfl | assumption)
    · intro wz hwz
      clear hKc
      refine withLeft_is rfl rfl ?_
      refine withLeft_is rfl rfl ?_
      refine withLeft_nil ?_
      simp only [Act.put, List.setIfInBounds_toArray, List.set_cons_zero, List.set_cons_succ]
      refine lft_want rfl rfl rfl rfl ?_
      unfold LftRun
      go_wp2_with fail
      refine (after_any _ k wz (HK9.out.below hwz) HHK.out).mono ?_
      rintro e wq ⟨vq, rfl, hoq, hbq⟩
      have hyq := hoq.bytes (afterL_small HK9.out.small)
      clear hoq
      go_wp2
      exact ⟨rfl, hyq, rfl, hbq⟩
    · intro wz hwz
      clear hKc
      refine withLeft_is rfl rfl ?_
      refine withLeft_bytes rfl rfl ?_
      intro vv hvv
      obtain ⟨pv, cv, rfl, _⟩ := hvv.any
      have hcvv := hvv.toString (P := Try.prog) byT (d := 9) (by kernel_rfl)
      refine withLeft_nil ?_
      simp only [Act.put, List.setIfInBounds_toArray, List.set_cons_zero, List.set_cons_succ]
      refine lft_want rfl rfl rfl rfl ?_
      unfold LftRun
      go_wp2
      exact ⟨rfl, rfl, rfl, Below.refl _ _⟩
    · intro wz hwz
      clear hKc
      refine withLeft_is rfl rfl ?_
      refine withLeft_nil ?_
      simp only [Act.put, List.setIfInBounds_toArray, List.set_cons_zero, List.set_cons_succ]
      refine lft_want rfl rfl rfl rfl ?_
      exact lft_move rfl (by first | rfl | assumption)
    · intro wz hwz
      clear hKc
      refine withLeft_is rfl rfl ?_
      refine withLeft_is rfl rfl ?_
      refine withLeft_nil ?_
      simp only [Act.put, List.setIfInBounds_toArray, List.set_cons_zero, List.set_cons_succ]
      refine lft_want rfl rfl rfl rfl ?_
      unfold LftRun
      go_wp2_with fail
      refine (refAfter_any _ k wz (HK9.out.below hwz) HHK.out).mono ?_
      rintro e wq ⟨vq, rfl, hoq, hbq⟩
      have hyq := hoq.bytes (afterL_small HK9.out.small)
      clear hoq
      go_wp2
      exact ⟨rfl, hyq, rfl, hbq⟩
    · intro wz hwz
      clear hKc
      refine withLeft_is rfl rfl ?_
      refine withLeft_bytes rfl rfl ?_
      intro vv hvv
      obtain ⟨pv, cv, rfl, _⟩ := hvv.any
      have hcvv := hvv.toString (P := Try.prog) byT (d := 9) (by kernel_rfl)
      refine withLeft_nil ?_
      simp only [Act.put, List.setIfInBounds_toArray, List.set_cons_zero, List.set_cons_succ]
      refine lft_want rfl rfl rfl rfl ?_
      unfold LftRun
      go_wp2
      exact ⟨rfl, rfl, rfl, Below.refl _ _⟩
    · intro wz hwz
      clear hKc
      refine withLeft_is rfl rfl ?_
      refine withLeft_is rfl rfl ?_
      refine withLeft_is rfl rfl ?_
      refine withLeft_nil ?_
      simp only [Act.put, List.setIfInBounds_toArray, List.set_cons_zero, List.set_cons_succ]
      refine lft_want rfl rfl rfl rfl ?_
      unfold LftRun
      go_wp2
      exact ⟨rfl, rfl, rfl, Below.refl _ _⟩
    · intro wz hwz
      clear hKc
      refine withLeft_is rfl rfl ?_
      refine withLeft_is rfl rfl ?_
      refine withLeft_nil ?_
      simp only [Act.put, List.setIfInBounds_toArray, List.set_cons_zero, List.set_cons_succ]
      refine lft_run rfl rfl ?_
      exact lft_pick rfl rfl rfl
    · intro wz hwz
      clear hKc
      refine withLeft_is rfl rfl ?_
      refine withLeft_nil ?_
      simp only [Act.put, List.setIfInBounds_toArray, List.set_cons_zero, List.set_cons_succ]
      refine lft_run rfl rfl ?_
      exact lft_assign rfl (by first | rfl | assumption)
  intro wz hwz
  refine LeftEnd.is (LeftEnd.bytes (fun _ _ => LeftEnd.is (LeftEnd.is (LeftEnd.bytes (fun _ _ => LeftEnd.is (LeftEnd.is (LeftEnd.is (LeftEnd.is (LeftEnd.bytes (fun _ _ => LeftEnd.is (LeftEnd.is (LeftEnd.bytes (fun _ _ => LeftEnd.is (LeftEnd.is (LeftEnd.is (LeftEnd.is (LeftEnd.is (LeftEnd.bytes (fun _ _ => LeftEnd.is (LeftEnd.is (LeftEnd.bytes (fun _ _ => LeftEnd.is (LeftEnd.is (LeftEnd.is (LeftEnd.is (LeftEnd.is (LeftEnd.bytes (fun _ _ => LeftEnd.is (LeftEnd.is (LeftEnd.bytes (fun _ _ => LeftEnd.is (LeftEnd.is (LeftEnd.is (LeftEnd.is (LeftEnd.is (LeftEnd.is (LeftEnd.is (LeftEnd.is (LeftEnd.is (LeftEnd.is (LeftEnd.is (LeftEnd.is (LeftEnd.is (LeftEnd.is (LeftEnd.is (LeftEnd.is (LeftEnd.is (LeftEnd.is (LeftEnd.is (LeftEnd.is (LeftEnd.is (LeftEnd.is (LeftEnd.is (LeftEnd.is (LeftEnd.is (LeftEnd.is (LeftEnd.is (LeftEnd.is (LeftEnd.is (LeftEnd.is (LeftEnd.is (LeftEnd.is (LeftEnd.is (LeftEnd.is (LeftEnd.is (LeftEnd.bytes (fun _ _ => LeftEnd.is (LeftEnd.is (LeftEnd.bytes (fun _ _ => LeftEnd.is (LeftEnd.is (LeftEnd.is (LeftEnd.is (LeftEnd.nil ?_))))))))))))))))))))))))))))))))))))))))))))))))))))))))))))))))))))))))))
  simp only [Act.put, List.setIfInBounds_toArray, List.set_cons_zero, List.set_cons_succ]
  have HB10 : Hid (Below w.heap.size w wz) := HB9.out.trans (hwz.mono HB9.out.size)
  clear hwz
  refine hKc _ _ ?_
  clear hKc Kc
  go_wp2
  go_ret
  exact ⟨rfl, HB10.out⟩

set_option maxRecDepth 100000 in
theorem keyAll_lifted (os : Os) (started : os.Started) (H : Type) (enc : TypeId × Value → H) :
    ReturnsInHanded {} Try.checked os 3 .any (Rows.keyAllSpec.pre6 enc Try.prog Try.f3 Rows.keyAllRow.domain false) (Rows.keyAllSpec.post enc Try.prog Try.f3 false true false false) := by
  refine returnsInHanded_of_change (C := Try.checked) own_none started (by kernel_rfl) Try.func3
    (ChangeSpec.witness6 (enc := enc) (C := Try.checked) false ⟨#[], #[.string ⟨#[]⟩, .int .i64 0, .slice none 0 0], []⟩ 8 (by kernel_rfl) (by kernel_rfl) (by kernel_rfl) (by kernel_rfl)) ?_
  intro W base args ds gs before hval0 hW hcnd _
  have hval : ∀ (j : Nat) t v, Try.f3.params[j]? = some t → args[j]? = some v → Value.okWide Try.prog W .any base t v := hval0
  have hW' := hW
  obtain ⟨p, q, hA0, hV, rfl, hfz, hnd⟩ := hW
  have hA : DataW.TrodAll enc Try.prog W 0 (fun _ => true) true Try.f3.params.toList args.toList ds p := hA0
  have hp : Try.f3.params = #[9, 2, 22] := by kernel_rfl
  rw [hp] at hA hval
  obtain ⟨v0, vs0, d0, ds0, p0, q0, ha0, rfl, rfl, h0, hA⟩ := trodAll_cons hA
  obtain ⟨v1, vs1, d1, ds1, p1, q1, rfl, rfl, rfl, h1, hA⟩ := trodAll_cons hA
  obtain ⟨v2, vs2, d2, ds2, p2, q2, rfl, rfl, rfl, h2, hA⟩ := trodAll_cons hA
  obtain ⟨rfl, rfl, rfl⟩ := trodAll_nil hA
  obtain rfl : args = #[v0, v1, v2] := by cases args; simp_all
  obtain ⟨rfl, rfl⟩ := trodVars_none hV
  obtain ⟨a, rfl, _, _, wa⟩ := Go.ChangeMaps.open_string (P := Try.prog) (t := 9) (by kernel_rfl) (hval 0 9 v0 rfl rfl) h0
  obtain ⟨n, rfl, _, _, wn⟩ := open_int (P := Try.prog) (t := 2) (k := .i64) (by kernel_rfl) (hval 1 2 v1 rfl rfl) h1
  obtain ⟨l, hl⟩ := open_bytes byT (by kernel_rfl) (hval 2 22 v2 rfl rfl) h2
  refine (keyAll_any a n v2 l W wa (i64_of_wf wn) hl).mono fun e W' ⟨he, hb⟩ => ?_
  subst he
  exact ⟨_, rfl, law_post (tb := 4) laidOut (by rw [hp]; intro t ht; simp at ht; rcases ht with rfl | rfl | rfl <;> exact ⟨by kernel_rfl, by decide +kernel⟩) rfl rfl (by kernel_rfl) (by kernel_rfl) hW' hb⟩

theorem keyAll_holds : Rows.KeyAllSaid :=
  OpenClaim.holds_of_wide 3 Try.f3 rfl rfl rfl rfl rfl rfl rfl ⟨rfl, rfl, rfl, rfl, rfl⟩ rfl rfl rfl rfl rfl (by kernel_rfl) Try.func3 (by kernel_rfl)
    (of_decide_eq_true (by kernel_rfl)) (by unfold Func.isWrapper; rw [if_neg (by decide +kernel)]; exact ⟨rfl, rfl⟩)
    (fun os started H enc _ => keyAll_lifted os started H enc)
end Go.Proofs.Ytfebdgnojacoiaa

