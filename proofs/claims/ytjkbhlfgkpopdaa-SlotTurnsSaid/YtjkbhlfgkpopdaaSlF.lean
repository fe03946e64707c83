/- slot: a slot is put. -/
import Derived.Test.YtjkbhlfgkpopdaaSlE
namespace Go.Proofs.Ytjkbhlfgkpopdaa
open Go Go.RowKit Go.By

theorem filled_new (w : World) : Filled w (w.alloc (.cells (zeros 128) 5)) fill0 := ⟨heap_alloc_new w _, (Below.refl _ _).alloc (Nat.le_refl _) _⟩

set_option maxRecDepth 100000 in
theorem put_any (g : Nat) (v : Value) (l : List Nat) (w : World) (hg : g < 18446744073709551616) (hv : Bytes w v l) (hl : l.length ≤ 113) :
    Calls Try.prog 8 #[.int .u64 g, v] w fun e w' => e = .returned (.tuple #[.slice (some ⟨w.heap.size, 0, none⟩) 128 128, .int .i64 0]) ∧ Filled w w' (slotOf g l) := by
  obtain ⟨p, cap, rfl, _⟩ := hv.any
  have HV := Lib.hid hv; clear hv
  have hmk := madeSec_run 128 128 rfl (by omega)
  go_enter Try.func8, Try.ntmps8
  go_wp2_with fail
  clear hmk
  have HF0 := Lib.hid (filled_new w)
  generalize w.alloc (.cells (zeros 128) 5) = w1 at *
  refine (letters_any w.heap.size 0 128 w1 (by omega)).mono ?_
  rintro e w2 ⟨rfl, rfl⟩
  obtain ⟨w2, hrun, hF1⟩ := run_fill_string 23 9 3 byT.slice [80, 68] 0 128 2 ⟨#[80, 68]⟩ rfl rfl HF0.out (by rw [fill0_length]; decide)
  have HF1 : Hid (Filled w w2 fill1) := hF1
  clear hF1 HF0
  go_wp2_with fail
  clear hrun
  refine (gen_any w.heap.size 0 128 w2 (by omega)).mono ?_
  rintro e w3 ⟨rfl, rfl⟩
  go_wp2_with fail
  refine (putNumber_any w w2 fill1 2 8 126 g HF1.out (by rw [fill1_length]; omega) (by omega) hg).mono ?_
  rintro e w3 ⟨rfl, hF2⟩
  have HF2 : Hid (Filled w w3 (fill2 g)) := hF2
  clear hF2 HF1
  go_wp2_with fail
  refine (size_any w.heap.size 0 128 w3 (by omega)).mono ?_
  rintro e w4 ⟨rfl, rfl⟩
  have hw64 := wrap_u64_in (l.length : Int) (by omega) (by omega)
  go_wp2_with fail
  refine (putNumber_any w w3 (fill2 g) 10 1 118 l.length HF2.out (by rw [fill2_length]; omega) (by omega) (by omega)).mono ?_
  rintro e w4 ⟨rfl, hF3⟩
  have HF3 : Hid (Filled w w4 (fill3 g l)) := hF3
  clear hF3 HF2 hw64
  have hbody := body_any w.heap.size 0 128 (fill3 g l) w4 (HF3.out.sec (fill3_length g l) (fill_small g hl HV.out.small).1) (by rw [fill_size g hl]; exact hl)
  rw [fill_size g hl] at hbody
  have HBODY := Lib.hid hbody; clear hbody
  go_wp2_with fail
  refine HBODY.out.mono ?_
  rintro e w5 ⟨rfl, rfl⟩
  obtain ⟨w5, hrun, hF4⟩ := run_fill 23 23 3 byT.slice 11 117 l.length (.slice p l.length cap) rfl HF3.out (HV.out.below HF3.out.2) (by rw [fill3_length]; omega)
  have HF4 : Hid (Filled w w5 (fill4 g l)) := hF4
  clear hF4 HF3 HBODY
  go_wp2_with fail
  clear hrun
  refine (sumPart_any w.heap.size 0 128 w5 (by omega)).mono ?_
  rintro e w6 ⟨rfl, rfl⟩
  have hsec := HF4.out.sec (fill4_length g hl) (fill_small g hl HV.out.small).2
  have hah := ahead_any w.heap.size 0 128 (fill4 g l) w5 hsec.2 hsec.1
  rw [fill_head g hl] at hah
  have HAH := Lib.hid hah
  have HCS : Hid (Crc.sum (slotHead g l) < 18446744073709551616) := by
    have := Crc.sum_lt _ (slotHead_small (g := g) hl HV.out.small)
    unfold Hid; omega
  clear hsec hah
  go_wp2_with fail
  refine HAH.out.mono ?_
  rintro e w6 ⟨rfl, hb6⟩
  have hF6 : Filled w w6 (fill4 g l) := ⟨(hb6.block _ (Array.getElem?_eq_some_iff.1 HF4.out.1).1).trans HF4.out.1, HF4.out.2.trans (hb6.mono (by have := (Array.getElem?_eq_some_iff.1 HF4.out.1).1; omega))⟩
  have HF6 := Lib.hid hF6
  clear hF6 hb6 HAH HF4
  go_wp2_with fail
  refine (putNumber_any w w6 (fill4 g l) 124 4 4 _ HF6.out (by rw [fill4_length g hl]; omega) (by omega) HCS.out).mono ?_
  rintro e w7 ⟨rfl, hF7⟩
  have hF8 : Filled w w7 (slotOf g l) := by rw [← fill_five g hl]; exact hF7
  have HF8 := Lib.hid hF8
  clear hF7 hF8 HF6
  go_wp2
  go_ret2
  exact ⟨rfl, HF8.out⟩
end Go.Proofs.Ytjkbhlfgkpopdaa
