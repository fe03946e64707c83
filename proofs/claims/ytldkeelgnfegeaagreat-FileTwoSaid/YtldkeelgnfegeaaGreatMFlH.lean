/- file has begun. -/
import Derived.Test.YtldkeelgnfegeaaGreatMFlI
import Derived.Test.YtldkeelgnfegeaaGreatMFlG
import Derived.Test.YtldkeelgnfegeaaGreatLoan
import Derived.Test.YtldkeelgnfegeaaGreatLaw
import Derived.Lib.SlBytesConst

namespace Go.Proofs.YtldkeelgnfegeaaGreat
open Go Go.RowKit Go.By

set_option maxRecDepth 100000 in
theorem begun_any (w : World) : Calls Tryz.prog 6 #[] w fun e w' => e = .returned (.bool true) ∧ Below w.heap.size w w' := by
  have hcv := fun (w : World) (C : Array Value) (n c : Nat) => Lib.run_convert_bytes_const (P := Tryz.prog) w 23 5 C n c byT.slice byT.elem
  go_enter Tryz.func6, Tryz.ntmps6
  go_wp2_with fail
  refine (new_any 10000 w).mono ?_
  rintro e w1 ⟨rfl, hd1, hb1⟩
  have HD1 := Lib.hid (Dsk.new hd1 hb1)
  clear hd1 hb1
  go_wp2_with fail
  refine (new_file tT tT_may (by decide +kernel) 10000 (by omega) HD1.out).mono ?_
  rintro e w2 ⟨g, own2, hg, rfl, hst2, hd2, hf2⟩
  rw [noughts_K3] at hd2
  have HD2 := Lib.hid hd2; have HF2 := Lib.hid hf2
  clear hg hst2 hd2 hf2 HD1
  go_wp2_with fail
  have hb0 := (Below.refl w2.heap.size w2).alloc (Nat.le_refl _) (.cells #[.int .u8 120] 5 (1, 2))
  refine (one_append (A := zero128) (B := zero128) (C := []) (b := [120]) (k := 1) (HD2.out.stay hb0) (HF2.out.stay hb0) tT_may (by decide +kernel) (by omega) zero128_length zero128_length (by decide) (by decide) (by decide) (by omega) (Bytes.lit [120] rfl rfl (by decide) (by decide)) (by decide)).mono ?_
  rintro e w3 ⟨rfl, own3, hm3, hd3, hf3⟩
  have HD3 := Lib.hid hd3; have HF3 := Lib.hid hf3
  clear hm3 hd3 hf3 HD2 HF2 hb0
  go_wp2_with fail
  refine (one_read (k := 1) (b := [120]) (m := []) (off := 256) HD3.out HF3.out tT_may (by decide +kernel) (by omega) (by decide) (by rw [K3_length zero128_length zero128_length, List.nil_append, recOf_length]; decide) (by rw [List.nil_append, recOf_length]; decide) (by decide) (by omega) (by omega) (by decide) (by decide) (by rw [show 256 = 256 + 0 from rfl, K3_drop zero128_length zero128_length]; simp)).mono ?_
  rintro e w4 ⟨p4, c4, rfl, hy4, hfr4, hst4, hd4, hf4⟩
  have HO4 : Hid (∀ j, (Value.slice p4 1 c4).ownBlock = some j → own3 j = none) := fun j hj => HD3.out.new_none (hfr4 j hj)
  have HD4 := Lib.hid hd4; have HF4 := Lib.hid hf4; have HY4 := Lib.hid hy4
  clear hst4 hd4 hf4 hy4 hfr4 HD3 HF3
  go_wp2_with fail
  have hb0 := (Below.refl w4.heap.size w4).alloc (Nat.le_refl _) (.cells #[.int .u8 114] 5 (1, 2))
  refine (one_hold (A := zero128) (B := zero128) (C := [] ++ recOf 1 [120]) (b := [114]) (k := 3) (HD4.out.stay hb0) (HF4.out.stay hb0) tT_may (by decide +kernel) (by omega) zero128_length zero128_length (by decide) (by rw [List.nil_append, recOf_length]; decide) (by decide) (by omega) (Bytes.lit [114] rfl rfl (by decide) (by decide)) (by decide)).mono ?_
  rintro e w5 ⟨rfl, own5, hst5, hd5, hf5⟩
  rw [if_neg (by decide), if_neg (by decide)] at hd5
  have hy40 : Bytes _ (.slice p4 1 c4) [120] := HY4.out.below hb0
  have HY5 : Hid (Bytes w5 (.slice p4 1 c4) [120]) := bytes_steps hy40 hst5 HO4.out
  have HO5 : Hid (∀ j, (Value.slice p4 1 c4).ownBlock = some j → own5 j = none) := free_steps hy40 (by decide) hst5 HO4.out
  have HD5 := Lib.hid hd5; have HF5 := Lib.hid hf5
  clear hst5 hd5 hf5 hb0 hy40 HD4 HF4 HY4 HO4
  go_wp2_with fail
  have hbt : btGen zero128 (slotOf 3 [114]) = 3 ∧ btBody zero128 (slotOf 3 [114]) = [114] ∧ btErr zero128 (slotOf 3 [114]) = 0 := by
    have h := bt_second (a := zero128) (b := slotOf 3 [114]) (isSlot_slot (by decide) (by decide)) (.inl isSlot_zero)
    rw [gen_slot (by decide), body_slot] at h
    exact h
  refine (one_held (k := 3) (b := [114]) HD5.out HF5.out tT_may (by decide +kernel) (by omega) zero128_length (slotOf_length (by decide)) (by decide) (by rw [List.nil_append, recOf_length]; decide) (by decide) hbt.1 hbt.2.1 hbt.2.2).mono ?_
  rintro e w6 ⟨p6, c6, rfl, hy6, hst6, hd6, hf6⟩
  have HD6 := Lib.hid hd6; have HF6 := Lib.hid hf6; have HY6 := Lib.hid hy6
  have HY61 : Hid (Bytes w6 (.slice p4 1 c4) [120]) := bytes_steps HY5.out hst6 HO5.out
  clear hst6 hd6 hf6 hy6 hbt HD5 HF5 HY5 HO5
  go_wp2_with fail
  refine (open_any HD6.out ⟨#[117]⟩).mono ?_
  rintro e w7 ⟨hd7, hb7, hc⟩
  have he7 : e = .returned (.tuple #[.pointer none, .int .i64 3]) := by
    rcases hc with ⟨_, h⟩ | ⟨n, h, _⟩ | ⟨n, h, _⟩
    · exact h
    · exact absurd h (by intro h; cases h)
    · exact absurd h (by intro h; cases h)
  subst he7
  have HD7 := Lib.hid hd7; have HF7 := Lib.hid (HF6.out.stay hb7)
  have c1 := (HY61.out.below hb7).toString byT (P := Tryz.prog) (d := 9) (by kernel_rfl)
  have c2 := (HY6.out.below hb7).toString byT (P := Tryz.prog) (d := 9) (by kernel_rfl)
  rw [show strOf [120] = ⟨#[120]⟩ from rfl] at c1
  rw [show strOf [114] = ⟨#[114]⟩ from rfl, show [114].length = 1 from rfl] at c2
  have hlen : 256 + ([] ++ recOf 1 [120]).length = 266 := by rw [List.nil_append, recOf_length]; rfl
  have hEA := fun (S : Sk) (E : Nat) (h : endAt S tT E = 256 + ([] ++ recOf 1 [120]).length) => h.trans hlen
  have HE := Lib.hid (end_any HD7.out HF7.out)
  rw [hEA _ _ (by rw [oneF_end (by rw [K3_length zero128_length (slotOf_length (by decide))]), K3_length zero128_length (slotOf_length (by decide))])] at HE
  rw [show ((266 : Nat) : Int) = 266 from rfl] at HE
  have hre : Redone (K3 zero128 zero128 []) [] [.cut 256] := by rw [← noughts_K3]; exact Redone.new
  have hr2 := (hre.append zero128_length zero128_length 1 [120]).hold zero128_length zero128_length 3 (b := [114]) (by decide)
  rw [if_neg (by decide), if_neg (by decide)] at hr2
  have HSY : Hid (∀ m, _) := fun m => one_sync (HD7.out.stay (Sl.below_drewN w7 m)) (HF7.out.stay (Sl.below_drewN w7 m)) tT_may (by decide +kernel) (by omega) (by decide) (by rw [K3_length zero128_length (slotOf_length (by decide)), hlen]; decide) (by decide) hr2
  have hnm : ∀ m, Calls Tryz.prog 18 #[.pointer (some ⟨g, 0, none⟩)] (w7.drewN m) fun e w' => e = .returned (.string ⟨#[116]⟩) ∧ w7.drewN m = w' := fun m => name_any (HF7.out.stay (Sl.below_drewN w7 m))
  have HNM := Lib.hid hnm
  clear hnm
  clear hd7 hb7 hc HD6 HF6 HY6 HY61 hre hr2 hEA hlen
  go_wp2_with fail
  refine HE.out.mono ?_
  rintro e w8 ⟨rfl, m, rfl⟩
  go_wp2_with fail
  refine (HNM.out m).mono ?_
  rintro e w9 ⟨rfl, rfl⟩
  go_wp2_with fail
  refine (HSY.out m).mono ?_
  rintro e w10 ⟨rfl, own10, _, hd10, _⟩
  have HB := Lib.hid hd10.below
  clear hd10 HSY HNM HE HD7 HF7
  go_wp2
  go_ret
  exact ⟨rfl, HB.out⟩
end Go.Proofs.YtldkeelgnfegeaaGreat
