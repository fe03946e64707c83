/- The law RecForms: every call of it returns true, and all that was there before the call is as it was. No condition. -/
import Derived.Test.YtjpcddgclimmgaaRows
import Derived.Test.YtjpcddgclimmgaaRecH
namespace Go.Proofs.Ytjpcddgclimmgaa
open Go.ChangeShapes Go.WideShapes Go.ChangeAt Go.RowKit Go.By Go

theorem zeros_bytes (w : World) (n : Nat) (hn : n ≤ maxLen) : Bytes (w.alloc (.cells (zeros n) 5)) (.slice (some ⟨w.heap.size, 0, none⟩) n n) (List.replicate n 0) :=
  Bytes.lit (List.replicate n 0) rfl (by simp) (by intro c hc; have := List.eq_of_mem_replicate hc; omega) (by simpa using hn)
theorem zeros_small (n : Nat) : ∀ c ∈ List.replicate n 0, c < 256 := by intro c hc; have := List.eq_of_mem_replicate hc; omega

set_option maxRecDepth 100000 in
theorem put_great (w : World) (v : Value) (l : List Nat) (hv : Bytes w v l) (hl : 4096 < l.length) :
    Calls Try.prog 8 #[.int .u8 2, v] w fun e w' => e = .returned (.tuple #[.slice none 0 0, .int .i64 4]) ∧ w = w' := put_long 2 v l w hv hl

set_option maxRecDepth 100000 in
set_option maxHeartbeats 1600000 in
theorem forms_any (w : World) :
    Calls Try.prog 5 #[] w fun e w' => e = .returned (.bool true) ∧ Below w.heap.size w w' := by
  have hm1 := made_run 4097 4097 4097 4097 rfl rfl (Nat.le_refl _) (by omega)
  have hm2 := made_run 4096 4096 4096 4096 rfl rfl (Nat.le_refl _) (by omega)
  obtain ⟨Z1, hZ1⟩ : ∃ Z, Z = zeros 4097 := ⟨_, rfl⟩
  obtain ⟨Z2, hZ2⟩ : ∃ Z, Z = zeros 4096 := ⟨_, rfl⟩
  obtain ⟨L1, hL1⟩ : ∃ L, L = List.replicate 4097 0 := ⟨_, rfl⟩
  obtain ⟨L2, hL2⟩ : ∃ L, L = List.replicate 4096 0 := ⟨_, rfl⟩
  have hb1 : ∀ w : World, Bytes (w.alloc (.cells Z1 5)) (.slice (some ⟨w.heap.size, 0, none⟩) 4097 4097) L1 := fun w => by rw [hZ1, hL1]; exact zeros_bytes w 4097 (by unfold maxLen; omega)
  have hb2 : ∀ w : World, Bytes (w.alloc (.cells Z2 5)) (.slice (some ⟨w.heap.size, 0, none⟩) 4096 4096) L2 := fun w => by rw [hZ2, hL2]; exact zeros_bytes w 4096 (by unfold maxLen; omega)
  have hl1 : L1.length = 4097 := by rw [hL1]; exact List.length_replicate
  have hl2 : L2.length = 4096 := by rw [hL2]; exact List.length_replicate
  have hs2 : ∀ c ∈ L2, c < 256 := by rw [hL2]; exact zeros_small 4096
  rw [← hZ1] at hm1
  rw [← hZ2] at hm2
  have HM1 := Lib.hid hm1; have HM2 := Lib.hid hm2; have HY1 := Lib.hid hb1; have HY2 := Lib.hid hb2; have HL1 := Lib.hid hl1; have HL2 := Lib.hid hl2; have HS2 := Lib.hid hs2
  clear hm1 hm2 hZ1 hZ2 hL1 hL2 hb1 hb2 hl1 hl2 hs2
  have hup := upto_runI
  go_enter Try.func5, Try.ntmps5
  clear hup
  go_wp2_with fail
  refine (begun_any w).mono ?_
  rintro e w1 ⟨rfl, hb⟩
  have HB1 := Lib.hid hb; clear hb
  go_wp2_with fail
  refine (put_lit 1 1 (.slice none 0 0) [] 9 w1 rfl rfl (by omega) (Bytes.nil _) (by decide)).mono ?_
  rintro e w2 ⟨p2, c2, rfl, hy2, hb2⟩
  have HR := Lib.hid hy2
  have HB2 : Hid (Below w.heap.size w w2) := HB1.out.trans (hb2.mono HB1.out.size)
  have hup := upto_runI p2 9 c2 5 5 rfl (by have := hy2.room; omega)
  have c1 := (Bytes.upto (l := recOf 1 []) (n := 5) (by rw [recOf_length]; exact hy2) (by rw [recOf_length]; decide)).toString byT (P := Try.prog) (d := 9) (by kernel_rfl)
  have e5 : (recOf 1 []).take 5 = [0, 0, 0, 0, 1] := by
    have := Go.By.take_rec 1 [] []
    rw [List.append_nil] at this
    exact this.trans (by decide)
  rw [e5, show strOf [0, 0, 0, 0, 1] = ⟨#[0, 0, 0, 0, 1]⟩ from rfl] at c1
  clear hy2 hb2 HB1 e5
  have hm1 := HM1.out
  go_wp2_with fail
  clear hup c1 hm1
  refine (put_great _ _ L1 (HY1.out w2) (by have := HL1.out; omega)).mono ?_
  rintro e w3 ⟨rfl, rfl⟩
  have HB3 := Lib.hid (HB2.out.alloc HB2.out.size (.cells Z1 5))
  have HR3 := Lib.hid (HR.out.below ((Below.refl _ _).alloc (Nat.le_refl _) (.cells Z1 5)))
  generalize w2.alloc (.cells Z1 5) = w3 at *
  have hm2 := HM2.out
  go_wp2_with fail
  clear hm2
  refine (put_lit 2 2 _ L2 4105 _ rfl (by rw [HL2.out]) (by omega) (HY2.out w3) (by have := HL2.out; omega)).mono ?_
  rintro e w4 ⟨p4, c4, rfl, hy4, hb4⟩
  have hba := HB3.out.alloc HB3.out.size (.cells Z2 5)
  have HB4 : Hid (Below w.heap.size w w4) := hba.trans (hb4.mono hba.size)
  have HR4 := Lib.hid ((HR3.out.below ((Below.refl _ _).alloc (Nat.le_refl _) (.cells Z2 5))).below hb4)
  have HY4 := Lib.hid hy4
  clear hy4 hb4 hba
  go_wp2_with fail
  refine (take_lit 2 4105 2 4096 L2 [] (recOf 2 L2) _ w4 rfl HL2.out (by rw [HL2.out]; rfl) (List.append_nil _).symm (by omega) (by have := HL2.out; omega) (by decide) HS2.out HY4.out).mono ?_
  rintro e w5 ⟨p5, c5, rfl, hy5, hb5⟩
  have HB5 : Hid (Below w.heap.size w w5) := HB4.out.trans (hb5.mono HB4.out.size)
  have HR5 := Lib.hid (HR4.out.below hb5)
  clear hy5 hb5 HB4 HB3 HB2 HR HR3 HR4 HY4 HM1 HM2 HY1 HY2 HL1 HL2 HS2
  go_wp2
  go_loopw [11] (fun i wr => ∃ k : Nat, k ≤ 9 ∧ i = .int .i64 k ∧ Below w5.heap.size w5 wr) (fun i _ => 9 - (intOf i).toNat)
  case atStart => exact ⟨0, by omega, rfl, Below.refl _ _⟩
  case round =>
    obtain ⟨k, hk, rfl, hbr⟩ := hrel
    have HBR := Lib.hid hbr; clear hbr
    by_cases hlt : k < 9
    · have hup := upto_run p2 9 c2 k (by have := HR5.out.room; omega)
      have hcut : isRec ((recOf 1 []).take k) = false := isRec_cut (by decide) (by simpa using hlt)
      have hyk : Bytes wr (.slice p2 k c2) ((recOf 1 []).take k) := Bytes.upto (l := recOf 1 []) (n := k) (by rw [recOf_length]; exact HR5.out.below HBR.out) (by rw [recOf_length]; simp; omega)
      have HN := Lib.hid (take_none _ _ wr (by rw [List.length_take]; omega) hcut hyk)
      clear hcut hyk
      go_wp2_with fail
      refine HN.out.mono ?_
      rintro e w6 ⟨rfl, hb6⟩
      have HB6 : Hid (Below w5.heap.size w5 w6) := HBR.out.trans (hb6.mono HBR.out.size)
      clear hb6 hup
      go_wp2
      go_roundw
      case rel => exact ⟨k + 1, by omega, by go_num, HB6.out⟩
      case measure => simp [intOf]; omega
    · go_wp2
      go_ret
      exact ⟨rfl, HB5.out.trans (HBR.out.mono HB5.out.size)⟩

set_option maxRecDepth 100000 in
theorem forms_lifted (os : Os) (started : os.Started) (H : Type) (enc : TypeId × Value → H) :
    ReturnsInHanded {} Try.checked os 5 .any (Rows.recFormsSpec.pre6 enc Try.prog Try.f5 Rows.recFormsRow.domain false) (Rows.recFormsSpec.post enc Try.prog Try.f5 false true false false) := by
  refine returnsInHanded_of_change (C := Try.checked) own_none started (by kernel_rfl) Try.func5
    (ChangeSpec.witness6 (enc := enc) (C := Try.checked) false ⟨#[], #[], []⟩ 8 (by kernel_rfl) (by kernel_rfl) (by kernel_rfl) (by kernel_rfl)) ?_
  intro W base args ds gs before hval0 hW hcnd _
  have hW' := hW
  obtain ⟨p, q, hA0, hV, rfl, hfz, hnd⟩ := hW
  have hA : DataW.TrodAll enc Try.prog W 0 (fun _ => true) true Try.f5.params.toList args.toList ds p := hA0
  have hp : Try.f5.params = #[] := by kernel_rfl
  rw [hp] at hA
  obtain ⟨rfl, rfl, rfl⟩ := trodAll_none hA
  obtain ⟨rfl, rfl⟩ := trodVars_none hV
  refine (forms_any W).mono fun e W' ⟨he, hb⟩ => ?_
  subst he
  exact ⟨_, rfl, law_post (tb := 4) laidOut (by rw [hp]; intro t ht; simp at ht) rfl rfl (by kernel_rfl) (by kernel_rfl) hW' hb⟩

theorem recForms_holds : Rows.RecFormsSaid :=
  OpenClaim.holds_of_wide 5 Try.f5 rfl rfl rfl rfl rfl rfl rfl ⟨rfl, rfl, rfl, rfl, rfl⟩ rfl rfl rfl rfl rfl (by kernel_rfl) Try.func5 (by kernel_rfl)
    (of_decide_eq_true (by kernel_rfl)) (by unfold Func.isWrapper; rw [if_neg (by decide +kernel)]; exact ⟨rfl, rfl⟩)
    (fun os started H enc _ => forms_lifted os started H enc)
end Go.Proofs.Ytjpcddgclimmgaa
