/- The law RecAll: whatever the kind, the bytes and the choice, every call of it returns true, and all that was there before the call is as it was. No condition. -/
import Derived.Test.YtjpcddgclimmgaaRows
import Derived.Test.YtjpcddgclimmgaaRecH
namespace Go.Proofs.Ytjpcddgclimmgaa
open Go.ChangeShapes Go.WideShapes Go.ChangeAt Go.RowKit Go.By Go

theorem zeros_bytes (w : World) (n : Nat) (hn : n ≤ maxLen) : Bytes (w.alloc (.cells (zeros n) 5)) (.slice (some ⟨w.heap.size, 0, none⟩) n n) (List.replicate n 0) :=
  Bytes.lit (List.replicate n 0) rfl (by simp) (by intro c hc; have := List.eq_of_mem_replicate hc; omega) (by simpa using hn)

set_option maxRecDepth 100000 in
set_option maxHeartbeats 1600000 in
theorem all_any (k : Nat) (v u : Value) (l b : List Nat) (long : Bool) (w : World) (hk : k < 256) (hv : Bytes w v l) (hu : Bytes w u b) :
    Calls Try.prog 3 #[.int .u8 k, v, u, .bool long] w fun e w' => e = .returned (.bool true) ∧ Below w.heap.size w w' := by
  obtain ⟨p, cap, hveq⟩ : ∃ p cap, v = .slice p l.length cap := let ⟨p, cap, h, _⟩ := hv.any; ⟨p, cap, h⟩
  obtain ⟨q, cup, hueq⟩ : ∃ p cap, u = .slice p b.length cap := let ⟨p, cap, h, _⟩ := hu.any; ⟨p, cap, h⟩
  subst hveq hueq
  have hm := hv.short
  have hm2 := hu.short
  unfold maxLen at hm hm2
  have HV := Lib.hid hv; clear hv
  have HU := Lib.hid hu; clear hu
  have HK := Lib.hid hk; clear hk
  by_cases hl : l.length ≤ 200
  · by_cases hb : b.length ≤ 200
    · have hl' : (l.length : Int) ≤ 200 := by omega
      have hb' : (b.length : Int) ≤ 200 := by omega
      have h3996 : IntKind.i64.wrap (3996 + (l.length : Int)) = 3996 + (l.length : Int) := IntWalk.i64_in _ (by omega)
      have hmk := made_run (3996 + l.length) (3996 + l.length) (3996 + (l.length : Int)) (3996 + (l.length : Int)) (by omega) (by omega) (Nat.le_refl _) (by omega)
      have HL := Lib.hid hl
      have HLB := Lib.hid hb
      clear hm hm2 hl hb h3996
      cases long
      · clear hmk
        go_enter Try.func3, Try.ntmps3
        go_wp2_with (go_at_call 6; refine (begun_any _).mono ?_; rintro e w1 ⟨rfl, hb1⟩)
        have HB1 := Lib.hid hb1; clear hb1
        go_wp2_with fail
        refine (loaned_any _ l w1 (HV.out.below HB1.out) (by have := HL.out; omega)).mono ?_
        rintro e w2 ⟨v2, rfl, hl2, hb2⟩
        have HL2 := Lib.hid hl2
        have HBX : Hid (Below w.heap.size w w2) := HB1.out.trans (hb2.mono HB1.out.size)
        have HBV := Lib.hid ((HV.out.below HB1.out).below hb2)
        have HLN : Hid (l.length ≤ 5000) := by have := HL.out; unfold Hid; omega
        clear hl2 hb2 HB1
        go_wp2_with fail
        refine (loaned_any _ b w2 (HU.out.below HBX.out) (by have := HLB.out; omega)).mono ?_
        rintro e w3 ⟨v3, rfl, hl3, hb3⟩
        have HL3 := Lib.hid hl3
        have HBV3 := Lib.hid (HBV.out.below hb3)
        have HL23 := Lib.hid (HL2.out.below hb3)
        have HB3 : Hid (Below w.heap.size w w3) := HBX.out.trans (hb3.mono HBX.out.size)
        clear hl3 hb3 HBX HL2
        go_wp2_with fail
        refine (put_all k v2 _ w3 HK.out (HL23.out.bytes HBV.out.small HBV.out.short)).mono ?_
        rintro e w4 ⟨p4, c4, rfl, hy4, hb4⟩
        have HB4 : Hid (Below w.heap.size w w4) := HB3.out.trans (hb4.mono HB3.out.size)
        have HBV4 := Lib.hid (HBV3.out.below hb4)
        have HL24 := Lib.hid (HL23.out.below hb4)
        have HL34 := Lib.hid (HL3.out.below hb4)
        have HY4 := Lib.hid hy4
        clear hy4 hb4 HB3 HBV3 HL23 HL3
        go_wp2_with fail
        refine (refPut_all k _ _ w4 HK.out HBV4.out).mono ?_
        rintro e w5 ⟨p5, c5, rfl, hy5, hb5⟩
        have HB5 : Hid (Below w.heap.size w w5) := HB4.out.trans (hb5.mono HB4.out.size)
        have HBV5 := Lib.hid (HBV4.out.below hb5)
        have HL25 := Lib.hid (HL24.out.below hb5)
        have HL35 := Lib.hid (HL34.out.below hb5)
        have HY45 := Lib.hid (HY4.out.below hb5)
        have HY5 := Lib.hid hy5
        clear hy5 hb5 HB4 HBV4 HL24 HL34 HY4
        go_wp2_with fail
        refine (take_all v3 b w5 (HL35.out.bytes HU.out.small HU.out.short) (by have := HLB.out; omega)).mono ?_
        rintro e w6 ⟨p6, c6, rfl, hy6, hb6'⟩
        have hb6 : Below w5.heap.size w5 w6 := hb6'
        have HB6 : Hid (Below w.heap.size w w6) := HB5.out.trans (hb6.mono HB5.out.size)
        have HBV6 := Lib.hid (HBV5.out.below hb6)
        have HL26 := Lib.hid (HL25.out.below hb6)
        have HL36 := Lib.hid (HL35.out.below hb6)
        have HY46 := Lib.hid (HY45.out.below hb6)
        have HY56 := Lib.hid (HY5.out.below hb6)
        have HY6 := Lib.hid hy6
        clear hy6 hb6 hb6' HB5 HBV5 HL25 HL35 HY45 HY5
        go_wp2_with fail
        refine (refTake_all _ b w6 (HU.out.below HB6.out) (by have := HLB.out; omega)).mono ?_
        rintro e w7 ⟨p7, c7, rfl, hy7, hb7'⟩
        have hb7 : Below w6.heap.size w6 w7 := hb7'
        have HB7 : Hid (Below w.heap.size w w7) := HB6.out.trans (hb7.mono HB6.out.size)
        have HBV7 := Lib.hid (HBV6.out.below hb7)
        have HL27 := Lib.hid (HL26.out.below hb7)
        have HL37 := Lib.hid (HL36.out.below hb7)
        have s1 := (HY46.out.below hb7).toString byT (P := Try.prog) (d := 9) (by kernel_rfl)
        have s2 := (HY56.out.below hb7).toString byT (P := Try.prog) (d := 9) (by kernel_rfl)
        have s3 := (HY6.out.below hb7).toString byT (P := Try.prog) (d := 9) (by kernel_rfl)
        have s4 := hy7.toString byT (P := Try.prog) (d := 9) (by kernel_rfl)
        clear hy7 hb7 hb7' HB6 HBV6 HL26 HL36 HY46 HY56 HY6
        go_wp2_with fail
        refine (kept_any _ v2 _ _ w7 HL27.out HBV7.out (by have := HLN.out; omega)).mono ?_
        rintro e w8 ⟨rfl, rfl⟩
        go_wp2_with fail
        refine (kept_any _ v3 _ b w7 HL37.out (HU.out.below HB7.out) (by have := HLB.out; omega)).mono ?_
        rintro e w8 ⟨rfl, rfl⟩
        clear s1 s2 s3 s4
        go_wp2
        go_ret
        exact ⟨rfl, HB7.out⟩
      · go_enter Try.func3, Try.ntmps3
        go_wp2_with (go_at_call 6; refine (begun_any _).mono ?_; rintro e w1 ⟨rfl, hb1⟩)
        have HB1 := Lib.hid hb1; clear hb1
        go_wp2_with fail
        refine (loaned_any _ (List.replicate (3996 + l.length) 0) _ (zeros_bytes w1 (3996 + l.length) (by have := HL.out; unfold maxLen; omega)) (by have := HL.out; simp; omega)).mono ?_
        rintro e w2 ⟨v2, rfl, hl2, hb2⟩
        have HL2 := Lib.hid hl2
        have hba : Below w.heap.size w (w1.alloc (.cells (zeros (3996 + l.length)) 5)) := HB1.out.alloc HB1.out.size _
        have HBX : Hid (Below w.heap.size w w2) := hba.trans (hb2.mono hba.size)
        have HBV := Lib.hid ((zeros_bytes w1 (3996 + l.length) (by have := HL.out; unfold maxLen; omega)).below hb2)
        have HLN : Hid ((List.replicate (3996 + l.length) 0).length ≤ 5000) := by have := HL.out; unfold Hid; simp; omega
        clear hl2 hb2 HB1 hba hmk
        generalize List.replicate (3996 + l.length) 0 = L at *
        go_wp2_with fail
        refine (loaned_any _ b w2 (HU.out.below HBX.out) (by have := HLB.out; omega)).mono ?_
        rintro e w3 ⟨v3, rfl, hl3, hb3⟩
        have HL3 := Lib.hid hl3
        have HBV3 := Lib.hid (HBV.out.below hb3)
        have HL23 := Lib.hid (HL2.out.below hb3)
        have HB3 : Hid (Below w.heap.size w w3) := HBX.out.trans (hb3.mono HBX.out.size)
        clear hl3 hb3 HBX HL2
        go_wp2_with fail
        refine (put_all k v2 _ w3 HK.out (HL23.out.bytes HBV.out.small HBV.out.short)).mono ?_
        rintro e w4 ⟨p4, c4, rfl, hy4, hb4⟩
        have HB4 : Hid (Below w.heap.size w w4) := HB3.out.trans (hb4.mono HB3.out.size)
        have HBV4 := Lib.hid (HBV3.out.below hb4)
        have HL24 := Lib.hid (HL23.out.below hb4)
        have HL34 := Lib.hid (HL3.out.below hb4)
        have HY4 := Lib.hid hy4
        clear hy4 hb4 HB3 HBV3 HL23 HL3
        go_wp2_with fail
        refine (refPut_all k _ _ w4 HK.out HBV4.out).mono ?_
        rintro e w5 ⟨p5, c5, rfl, hy5, hb5⟩
        have HB5 : Hid (Below w.heap.size w w5) := HB4.out.trans (hb5.mono HB4.out.size)
        have HBV5 := Lib.hid (HBV4.out.below hb5)
        have HL25 := Lib.hid (HL24.out.below hb5)
        have HL35 := Lib.hid (HL34.out.below hb5)
        have HY45 := Lib.hid (HY4.out.below hb5)
        have HY5 := Lib.hid hy5
        clear hy5 hb5 HB4 HBV4 HL24 HL34 HY4
        go_wp2_with fail
        refine (take_all v3 b w5 (HL35.out.bytes HU.out.small HU.out.short) (by have := HLB.out; omega)).mono ?_
        rintro e w6 ⟨p6, c6, rfl, hy6, hb6'⟩
        have hb6 : Below w5.heap.size w5 w6 := hb6'
        have HB6 : Hid (Below w.heap.size w w6) := HB5.out.trans (hb6.mono HB5.out.size)
        have HBV6 := Lib.hid (HBV5.out.below hb6)
        have HL26 := Lib.hid (HL25.out.below hb6)
        have HL36 := Lib.hid (HL35.out.below hb6)
        have HY46 := Lib.hid (HY45.out.below hb6)
        have HY56 := Lib.hid (HY5.out.below hb6)
        have HY6 := Lib.hid hy6
        clear hy6 hb6 hb6' HB5 HBV5 HL25 HL35 HY45 HY5
        go_wp2_with fail
        refine (refTake_all _ b w6 (HU.out.below HB6.out) (by have := HLB.out; omega)).mono ?_
        rintro e w7 ⟨p7, c7, rfl, hy7, hb7'⟩
        have hb7 : Below w6.heap.size w6 w7 := hb7'
        have HB7 : Hid (Below w.heap.size w w7) := HB6.out.trans (hb7.mono HB6.out.size)
        have HBV7 := Lib.hid (HBV6.out.below hb7)
        have HL27 := Lib.hid (HL26.out.below hb7)
        have HL37 := Lib.hid (HL36.out.below hb7)
        have s1 := (HY46.out.below hb7).toString byT (P := Try.prog) (d := 9) (by kernel_rfl)
        have s2 := (HY56.out.below hb7).toString byT (P := Try.prog) (d := 9) (by kernel_rfl)
        have s3 := (HY6.out.below hb7).toString byT (P := Try.prog) (d := 9) (by kernel_rfl)
        have s4 := hy7.toString byT (P := Try.prog) (d := 9) (by kernel_rfl)
        clear hy7 hb7 hb7' HB6 HBV6 HL26 HL36 HY46 HY56 HY6
        go_wp2_with fail
        refine (kept_any _ v2 _ _ w7 HL27.out HBV7.out (by have := HLN.out; omega)).mono ?_
        rintro e w8 ⟨rfl, rfl⟩
        go_wp2_with fail
        refine (kept_any _ v3 _ b w7 HL37.out (HU.out.below HB7.out) (by have := HLB.out; omega)).mono ?_
        rintro e w8 ⟨rfl, rfl⟩
        clear s1 s2 s3 s4
        go_wp2
        go_ret
        exact ⟨rfl, HB7.out⟩
    · have hl' : (l.length : Int) ≤ 200 := by omega
      have hb' : ¬ (b.length : Int) ≤ 200 := by omega
      clear hl hb
      go_enter Try.func3, Try.ntmps3
      go_wp2_with (go_at_call 6; refine (begun_any _).mono ?_; rintro e w1 ⟨rfl, hb1⟩)
      have HB1 := Lib.hid hb1; clear hb1
      go_wp2
      go_ret
      exact ⟨rfl, HB1.out⟩
  · have hl' : ¬ (l.length : Int) ≤ 200 := by omega
    clear hl
    go_enter Try.func3, Try.ntmps3
    go_wp2_with (go_at_call 6; refine (begun_any _).mono ?_; rintro e w1 ⟨rfl, hb1⟩)
    have HB1 := Lib.hid hb1; clear hb1
    go_wp2
    go_ret
    exact ⟨rfl, HB1.out⟩

set_option maxRecDepth 100000 in
theorem all_lifted (os : Os) (started : os.Started) (H : Type) (enc : TypeId × Value → H) :
    ReturnsInHanded {} Try.checked os 3 .any (Rows.recAllSpec.pre6 enc Try.prog Try.f3 Rows.recAllRow.domain false) (Rows.recAllSpec.post enc Try.prog Try.f3 false true false false) := by
  refine returnsInHanded_of_change (C := Try.checked) own_none started (by kernel_rfl) Try.func3
    (ChangeSpec.witness6 (enc := enc) (C := Try.checked) false ⟨#[], #[.int .u8 0, .slice none 0 0, .slice none 0 0, .bool false], []⟩ 8 (by kernel_rfl) (by kernel_rfl) (by kernel_rfl) (by kernel_rfl)) ?_
  intro W base args ds gs before hval0 hW hcnd _
  have hval : ∀ (j : Nat) t v, Try.f3.params[j]? = some t → args[j]? = some v → Value.okWide Try.prog W .any base t v := hval0
  have hW' := hW
  obtain ⟨p, q, hA0, hV, rfl, hfz, hnd⟩ := hW
  have hA : DataW.TrodAll enc Try.prog W 0 (fun _ => true) true Try.f3.params.toList args.toList ds p := hA0
  have hp : Try.f3.params = #[5, 22, 22, 4] := by kernel_rfl
  rw [hp] at hA hval
  obtain ⟨v0, v1, v2, v3, d0, d1, d2, d3, p0, p1, p2, p3, rfl, rfl, rfl, h0, h1, h2, h3⟩ := trodAll_four hA
  obtain ⟨rfl, rfl⟩ := trodVars_none hV
  obtain ⟨a, rfl, _, _, wa⟩ := open_int (P := Try.prog) (t := 5) (k := .u8) (by kernel_rfl) (hval 0 5 v0 rfl rfl) h0
  obtain ⟨a, rfl, ha⟩ := u8_of_wf wa
  obtain ⟨l, hl⟩ := open_bytes byT (by kernel_rfl) (hval 1 22 v1 rfl rfl) h1
  obtain ⟨b, hb⟩ := open_bytes byT (by kernel_rfl) (hval 2 22 v2 rfl rfl) h2
  obtain ⟨t, rfl, _⟩ := open_bool (P := Try.prog) (t := 4) (by kernel_rfl) (hval 3 4 v3 rfl rfl) h3
  refine (all_any a v1 v2 l b t W ha hl hb).mono fun e W' ⟨he, hb⟩ => ?_
  subst he
  exact ⟨_, rfl, law_post (tb := 4) laidOut (by rw [hp]; intro t ht; simp at ht; rcases ht with rfl | rfl | rfl <;> exact ⟨by kernel_rfl, by decide +kernel⟩) rfl rfl (by kernel_rfl) (by kernel_rfl) hW' hb⟩

theorem recAll_holds : Rows.RecAllSaid :=
  OpenClaim.holds_of_wide 3 Try.f3 rfl rfl rfl rfl rfl rfl rfl ⟨rfl, rfl, rfl, rfl, rfl⟩ rfl rfl rfl rfl rfl (by kernel_rfl) Try.func3 (by kernel_rfl)
    (of_decide_eq_true (by kernel_rfl)) (by unfold Func.isWrapper; rw [if_neg (by decide +kernel)]; exact ⟨rfl, rfl⟩)
    (fun os started H enc _ => all_lifted os started H enc)
end Go.Proofs.Ytjpcddgclimmgaa
