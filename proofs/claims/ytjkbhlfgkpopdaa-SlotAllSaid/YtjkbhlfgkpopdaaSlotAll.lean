/- The law SlotAll: whatever the generation and the bytes, every call of it returns true, and all that was there before the call is as it was. No condition. -/
import Derived.Test.YtjkbhlfgkpopdaaRows
import Derived.Test.YtjkbhlfgkpopdaaSlI
namespace Go.Proofs.Ytjkbhlfgkpopdaa
open Go.ChangeShapes Go.WideShapes Go.ChangeAt Go.RowKit Go.By Go

set_option maxRecDepth 100000 in
set_option maxHeartbeats 1600000 in
theorem all_any (g : Nat) (v u t : Value) (l b d : List Nat) (w : World) (hg : g < 18446744073709551616) (hv : Bytes w v l) (hu : Bytes w u b) (ht : Bytes w t d) :
    Calls Try.prog 3 #[.int .u64 g, v, u, t] w fun e w' => e = .returned (.bool true) ∧ Below w.heap.size w w' := by
  obtain ⟨p, cap, hveq⟩ : ∃ p cap, v = .slice p l.length cap := let ⟨p, cap, h, _⟩ := hv.any; ⟨p, cap, h⟩
  obtain ⟨q, cup, hueq⟩ : ∃ p cap, u = .slice p b.length cap := let ⟨p, cap, h, _⟩ := hu.any; ⟨p, cap, h⟩
  obtain ⟨r, crp, hteq⟩ : ∃ p cap, t = .slice p d.length cap := let ⟨p, cap, h, _⟩ := ht.any; ⟨p, cap, h⟩
  subst hveq hueq hteq
  have hm := hv.short
  have hm2 := hu.short
  have hm3 := ht.short
  unfold maxLen at hm hm2 hm3
  have HV := Lib.hid hv; clear hv
  have HU := Lib.hid hu; clear hu
  have HT := Lib.hid ht; clear ht
  by_cases hl : l.length ≤ 150
  · by_cases hb : b.length ≤ 150
    · by_cases hd : d.length ≤ 150
      · have hl' : (l.length : Int) ≤ 150 := by omega
        have hb' : (b.length : Int) ≤ 150 := by omega
        have hd' : (d.length : Int) ≤ 150 := by omega
        have HL := Lib.hid hl
        have HLB := Lib.hid hb
        have HLD := Lib.hid hd
        clear hm hm2 hm3 hl hb hd
        go_enter Try.func3, Try.ntmps3
        go_wp2_with (go_at_call 6; refine (begun_any _).mono ?_; rintro e w1 ⟨rfl, hb1⟩)
        have HB1 := Lib.hid hb1; clear hb1
        go_wp2_with fail
        refine (loaned_any _ l w1 (HV.out.below HB1.out) (by have := HL.out; omega)).mono ?_
        rintro e w2 ⟨v2, rfl, hl2, hb2⟩
        have HL2 := Lib.hid hl2
        have HB2 : Hid (Below w.heap.size w w2) := HB1.out.trans (hb2.mono HB1.out.size)
        clear hl2 hb2 HB1
        go_wp2_with fail
        refine (loaned_any _ b w2 (HU.out.below HB2.out) (by have := HLB.out; omega)).mono ?_
        rintro e w3 ⟨v3, rfl, hl3, hb3⟩
        have HL3 := Lib.hid hl3
        have HL23 := Lib.hid (HL2.out.below hb3)
        have HB3 : Hid (Below w.heap.size w w3) := HB2.out.trans (hb3.mono HB2.out.size)
        clear hl3 hb3 HB2 HL2
        go_wp2_with fail
        refine (loaned_any _ d w3 (HT.out.below HB3.out) (by have := HLD.out; omega)).mono ?_
        rintro e w4 ⟨v4, rfl, hl4, hb4⟩
        have HL4 := Lib.hid hl4
        have HL24 := Lib.hid (HL23.out.below hb4)
        have HL34 := Lib.hid (HL3.out.below hb4)
        have HB4 : Hid (Below w.heap.size w w4) := HB3.out.trans (hb4.mono HB3.out.size)
        clear hl4 hb4 HB3 HL23 HL3
        go_wp2_with fail
        refine (put_all g v2 l w4 hg (HL24.out.bytes HV.out.small HV.out.short)).mono ?_
        rintro e w5 ⟨p5, c5, rfl, hy5, hb5⟩
        have HB5 : Hid (Below w.heap.size w w5) := HB4.out.trans (hb5.mono HB4.out.size)
        have HL25 := Lib.hid (HL24.out.below hb5)
        have HL35 := Lib.hid (HL34.out.below hb5)
        have HL45 := Lib.hid (HL4.out.below hb5)
        have HY5 := Lib.hid hy5
        clear hy5 hb5 HB4 HL24 HL34 HL4
        go_wp2_with fail
        refine (refPut_all g _ l w5 hg (HV.out.below HB5.out)).mono ?_
        rintro e w6 ⟨p6, c6, rfl, hy6, hb6⟩
        have HB6 : Hid (Below w.heap.size w w6) := HB5.out.trans (hb6.mono HB5.out.size)
        have HL26 := Lib.hid (HL25.out.below hb6)
        have HL36 := Lib.hid (HL35.out.below hb6)
        have HL46 := Lib.hid (HL45.out.below hb6)
        have HY56 := Lib.hid (HY5.out.below hb6)
        have HY6 := Lib.hid hy6
        clear hy6 hb6 HB5 HL25 HL35 HL45 HY5
        go_wp2_with fail
        refine (take_all v3 b w6 (HL36.out.bytes HU.out.small HU.out.short) (by have := HLB.out; omega)).mono ?_
        rintro e w7 ⟨p7, c7, rfl, hy7, hb7⟩
        have HB7 : Hid (Below w.heap.size w w7) := HB6.out.trans (hb7.mono HB6.out.size)
        have HL27 := Lib.hid (HL26.out.below hb7)
        have HL37 := Lib.hid (HL36.out.below hb7)
        have HL47 := Lib.hid (HL46.out.below hb7)
        have HY57 := Lib.hid (HY56.out.below hb7)
        have HY67 := Lib.hid (HY6.out.below hb7)
        have HY7 := Lib.hid hy7
        clear hy7 hb7 HB6 HL26 HL36 HL46 HY56 HY6
        go_wp2_with fail
        refine (refTake_any _ b w7 (HU.out.below HB7.out) (by have := HLB.out; omega)).mono ?_
        rintro e w8 ⟨p8, c8, rfl, hy8, hb8⟩
        have HB8 : Hid (Below w.heap.size w w8) := HB7.out.trans (hb8.mono HB7.out.size)
        have HL28 := Lib.hid (HL27.out.below hb8)
        have HL38 := Lib.hid (HL37.out.below hb8)
        have HL48 := Lib.hid (HL47.out.below hb8)
        have HY58 := Lib.hid (HY57.out.below hb8)
        have HY68 := Lib.hid (HY67.out.below hb8)
        have HY78 := Lib.hid (HY7.out.below hb8)
        have HY8 := Lib.hid hy8
        clear hy8 hb8 HB7 HL27 HL37 HL47 HY57 HY67 HY7
        go_wp2_with fail
        refine (better_all v3 v4 b d w8 (HL38.out.bytes HU.out.small HU.out.short) (HL48.out.bytes HT.out.small HT.out.short) (by have := HLB.out; omega) (by have := HLD.out; omega)).mono ?_
        rintro e w9 ⟨p9, c9, rfl, hy9, hb9⟩
        have HB9 : Hid (Below w.heap.size w w9) := HB8.out.trans (hb9.mono HB8.out.size)
        have HL29 := Lib.hid (HL28.out.below hb9)
        have HL39 := Lib.hid (HL38.out.below hb9)
        have HL49 := Lib.hid (HL48.out.below hb9)
        have HY59 := Lib.hid (HY58.out.below hb9)
        have HY69 := Lib.hid (HY68.out.below hb9)
        have HY79 := Lib.hid (HY78.out.below hb9)
        have HY89 := Lib.hid (HY8.out.below hb9)
        have HY9 := Lib.hid hy9
        clear hy9 hb9 HB8 HL28 HL38 HL48 HY58 HY68 HY78 HY8
        go_wp2_with fail
        refine (refBetter_any _ _ b d w9 (HU.out.below HB9.out) (HT.out.below HB9.out) (by have := HLB.out; omega) (by have := HLD.out; omega)).mono ?_
        rintro e w10 ⟨p10, c10, rfl, hy10, hb10⟩
        have HB10 : Hid (Below w.heap.size w w10) := HB9.out.trans (hb10.mono HB9.out.size)
        have HL210 := Lib.hid (HL29.out.below hb10)
        have HL310 := Lib.hid (HL39.out.below hb10)
        have HL410 := Lib.hid (HL49.out.below hb10)
        have s1 := (HY59.out.below hb10).toString byT (P := Try.prog) (d := 9) (by kernel_rfl)
        have s2 := (HY69.out.below hb10).toString byT (P := Try.prog) (d := 9) (by kernel_rfl)
        have s3 := (HY79.out.below hb10).toString byT (P := Try.prog) (d := 9) (by kernel_rfl)
        have s4 := (HY89.out.below hb10).toString byT (P := Try.prog) (d := 9) (by kernel_rfl)
        have s5 := (HY9.out.below hb10).toString byT (P := Try.prog) (d := 9) (by kernel_rfl)
        have s6 := hy10.toString byT (P := Try.prog) (d := 9) (by kernel_rfl)
        clear hy10 hb10 HB9 HL29 HL39 HL49 HY59 HY69 HY79 HY89 HY9
        generalize spErr l = x1 at *
        generalize stErr b = x2 at *
        generalize stGen b = x3 at *
        generalize btErr b d = x4 at *
        generalize btGen b d = x5 at *
        generalize btWhich b d = x6 at *
        go_wp2_with fail
        refine (kept_any _ v2 _ l w10 HL210.out (HV.out.below HB10.out) (by have := HL.out; omega)).mono ?_
        rintro e w11 ⟨rfl, rfl⟩
        clear s1 s2 s3 s4 s5 s6
        go_wp2_with fail
        refine (kept_any _ v3 _ b w10 HL310.out (HU.out.below HB10.out) (by have := HLB.out; omega)).mono ?_
        rintro e w11 ⟨rfl, rfl⟩
        go_wp2_with fail
        refine (kept_any _ v4 _ d w10 HL410.out (HT.out.below HB10.out) (by have := HLD.out; omega)).mono ?_
        rintro e w11 ⟨rfl, rfl⟩
        go_wp2
        go_ret
        exact ⟨rfl, HB10.out⟩
      · have hl' : (l.length : Int) ≤ 150 := by omega
        have hb' : (b.length : Int) ≤ 150 := by omega
        have hd' : ¬ (d.length : Int) ≤ 150 := by omega
        clear hl hb hd
        go_enter Try.func3, Try.ntmps3
        go_wp2_with (go_at_call 6; refine (begun_any _).mono ?_; rintro e w1 ⟨rfl, hb1⟩)
        have HB1 := Lib.hid hb1; clear hb1
        go_wp2
        go_ret
        exact ⟨rfl, HB1.out⟩
    · have hl' : (l.length : Int) ≤ 150 := by omega
      have hb' : ¬ (b.length : Int) ≤ 150 := by omega
      clear hl hb
      go_enter Try.func3, Try.ntmps3
      go_wp2_with (go_at_call 6; refine (begun_any _).mono ?_; rintro e w1 ⟨rfl, hb1⟩)
      have HB1 := Lib.hid hb1; clear hb1
      go_wp2
      go_ret
      exact ⟨rfl, HB1.out⟩
  · have hl' : ¬ (l.length : Int) ≤ 150 := by omega
    clear hl
    go_enter Try.func3, Try.ntmps3
    go_wp2_with (go_at_call 6; refine (begun_any _).mono ?_; rintro e w1 ⟨rfl, hb1⟩)
    have HB1 := Lib.hid hb1; clear hb1
    go_wp2
    go_ret
    exact ⟨rfl, HB1.out⟩

theorem u64_of_wf {a : Int} (h : (Lit.int .u64 a).wf = true) : ∃ n : Nat, a = n ∧ n < 18446744073709551616 := by
  have h' : 0 ≤ a ∧ a ≤ 18446744073709551615 := by simpa [Lit.wf, IntKind.min, IntKind.max, IntKind.signed, IntKind.bits] using h
  exact ⟨a.toNat, by omega, by omega⟩

set_option maxRecDepth 100000 in
theorem all_lifted (os : Os) (started : os.Started) (H : Type) (enc : TypeId × Value → H) :
    ReturnsInHanded {} Try.checked os 3 .any (Rows.slotAllSpec.pre6 enc Try.prog Try.f3 Rows.slotAllRow.domain false) (Rows.slotAllSpec.post enc Try.prog Try.f3 false true false false) := by
  refine returnsInHanded_of_change (C := Try.checked) own_none started (by kernel_rfl) Try.func3
    (ChangeSpec.witness6 (enc := enc) (C := Try.checked) false ⟨#[], #[.int .u64 0, .slice none 0 0, .slice none 0 0, .slice none 0 0], []⟩ 8 (by kernel_rfl) (by kernel_rfl) (by kernel_rfl) (by kernel_rfl)) ?_
  intro W base args ds gs before hval0 hW hcnd _
  have hval : ∀ (j : Nat) t v, Try.f3.params[j]? = some t → args[j]? = some v → Value.okWide Try.prog W .any base t v := hval0
  have hW' := hW
  obtain ⟨p, q, hA0, hV, rfl, hfz, hnd⟩ := hW
  have hA : DataW.TrodAll enc Try.prog W 0 (fun _ => true) true Try.f3.params.toList args.toList ds p := hA0
  have hp : Try.f3.params = #[22, 23, 23, 23] := by kernel_rfl
  rw [hp] at hA hval
  obtain ⟨v0, v1, v2, v3, d0, d1, d2, d3, p0, p1, p2, p3, rfl, rfl, rfl, h0, h1, h2, h3⟩ := trodAll_four hA
  obtain ⟨rfl, rfl⟩ := trodVars_none hV
  obtain ⟨a, rfl, _, _, wa⟩ := open_int (P := Try.prog) (t := 22) (k := .u64) (by kernel_rfl) (hval 0 22 v0 rfl rfl) h0
  obtain ⟨a, rfl, ha⟩ := u64_of_wf wa
  obtain ⟨l, hl⟩ := open_bytes byT (by kernel_rfl) (hval 1 23 v1 rfl rfl) h1
  obtain ⟨b, hb⟩ := open_bytes byT (by kernel_rfl) (hval 2 23 v2 rfl rfl) h2
  obtain ⟨d, hd⟩ := open_bytes byT (by kernel_rfl) (hval 3 23 v3 rfl rfl) h3
  refine (all_any a v1 v2 v3 l b d W ha hl hb hd).mono fun e W' ⟨he, hb⟩ => ?_
  subst he
  exact ⟨_, rfl, law_post (tb := 4) laidOut (by rw [hp]; intro t ht; simp at ht; rcases ht with rfl | rfl <;> exact ⟨by kernel_rfl, by decide +kernel⟩) rfl rfl (by kernel_rfl) (by kernel_rfl) hW' hb⟩

theorem slotAll_holds : Rows.SlotAllSaid :=
  OpenClaim.holds_of_wide 3 Try.f3 rfl rfl rfl rfl rfl rfl rfl ⟨rfl, rfl, rfl, rfl, rfl⟩ rfl rfl rfl rfl rfl (by kernel_rfl) Try.func3 (by kernel_rfl)
    (of_decide_eq_true (by kernel_rfl)) (by unfold Func.isWrapper; rw [if_neg (by decide +kernel)]; exact ⟨rfl, rfl⟩)
    (fun os started H enc _ => all_lifted os started H enc)
end Go.Proofs.Ytjkbhlfgkpopdaa
