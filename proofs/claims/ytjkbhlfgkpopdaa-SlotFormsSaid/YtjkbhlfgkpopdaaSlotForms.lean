/- The law SlotForms: every call of it returns true, and all that was there before the call is as it was. No condition. -/
import Derived.Test.YtjkbhlfgkpopdaaRows
import Derived.Test.YtjkbhlfgkpopdaaSlI
namespace Go.Proofs.Ytjkbhlfgkpopdaa
open Go.ChangeShapes Go.WideShapes Go.ChangeAt Go.RowKit Go.By Go

theorem zeros_small (n : Nat) : ∀ c ∈ List.replicate n 0, c < 256 := by intro c hc; have := List.eq_of_mem_replicate hc; omega
/-- A copy of a slot of which a byte is turned. -/
theorem take_turned (g : Nat) (b : List Nat) (j y : Nat) (sv : Value) (w : World) (hb : b.length ≤ 113) (hs : ∀ c ∈ b, c < 256) (hj : j < 128) (hy : y < 256) (hy0 : y ≠ 0) (hsv : Bytes w sv ((slotOf g b).set j (atB (slotOf g b) j ^^^ y))) :
    Calls Try.prog 10 #[sv] w fun e w' => ∃ p c, e = .returned (.tuple #[.int .u64 0, .slice p 0 c, .int .i64 2]) ∧ Below w.heap.size w w' :=
  take_none _ sv w (by rw [List.length_set, slotOf_length hb]; omega) (by rw [isSlot_turned hb hs hj hy, decide_eq_false hy0]) hsv
theorem turned_small {g : Nat} {b : List Nat} {j y : Nat} (hb : b.length ≤ 113) (hs : ∀ c ∈ b, c < 256) (hj : j < 128) (hy : y < 256) : ∀ c ∈ (slotOf g b).set j (atB (slotOf g b) j ^^^ y), c < 256 := by
  intro c hc
  rcases List.mem_or_eq_of_mem_set hc with hc | rfl
  · exact slotOf_small hb hs c hc
  · refine Nat.xor_lt_two_pow (n := 8) ?_ hy
    rw [atB_of (by rw [slotOf_length hb]; exact hj)]
    exact slotOf_small hb hs _ (List.getElem_mem _)
theorem put_great (w : World) (v : Value) (l : List Nat) (hv : Bytes w v l) (hl : 113 < l.length) :
    Calls Try.prog 8 #[.int .u64 7, v] w fun e w' => e = .returned (.tuple #[.slice none 0 0, .int .i64 4]) ∧ w = w' := put_long 7 v l w hv hl

set_option maxRecDepth 100000 in
set_option maxHeartbeats 1600000 in
theorem forms_any (w : World) :
    Calls Try.prog 5 #[] w fun e w' => e = .returned (.bool true) ∧ Below w.heap.size w w' := by
  have hm1 := made_run 113 113 113 113 rfl rfl (Nat.le_refl _) (by omega)
  have hm2 := made_run 114 114 114 114 rfl rfl (Nat.le_refl _) (by omega)
  obtain ⟨Z1, hZ1⟩ : ∃ Z, Z = zeros 113 := ⟨_, rfl⟩
  obtain ⟨Z2, hZ2⟩ : ∃ Z, Z = zeros 114 := ⟨_, rfl⟩
  obtain ⟨L1, hL1⟩ : ∃ L, L = List.replicate 113 0 := ⟨_, rfl⟩
  obtain ⟨L2, hL2⟩ : ∃ L, L = List.replicate 114 0 := ⟨_, rfl⟩
  have hb1 : ∀ w : World, Bytes (w.alloc (.cells Z1 5)) (.slice (some ⟨w.heap.size, 0, none⟩) 113 113) L1 := fun w => by rw [hZ1, hL1]; exact zeros_bytes w 113 (by unfold maxLen; omega)
  have hb2 : ∀ w : World, Bytes (w.alloc (.cells Z2 5)) (.slice (some ⟨w.heap.size, 0, none⟩) 114 114) L2 := fun w => by rw [hZ2, hL2]; exact zeros_bytes w 114 (by unfold maxLen; omega)
  have hl1 : L1.length = 113 := by rw [hL1]; exact List.length_replicate
  have hl2 : L2.length = 114 := by rw [hL2]; exact List.length_replicate
  have hs1 : ∀ c ∈ L1, c < 256 := by rw [hL1]; exact zeros_small 113
  rw [← hZ1] at hm1
  rw [← hZ2] at hm2
  have HM1 := Lib.hid hm1; have HM2 := Lib.hid hm2; have HY1 := Lib.hid hb1; have HY2 := Lib.hid hb2; have HL1 := Lib.hid hl1; have HL2 := Lib.hid hl2; have HS1 := Lib.hid hs1
  clear hm1 hm2 hZ1 hZ2 hL1 hL2 hb1 hb2 hl1 hl2 hs1
  go_enter Try.func5, Try.ntmps5
  go_wp2_with fail
  refine (begun_any w).mono ?_
  rintro e w1 ⟨rfl, hb⟩
  have HB1 := Lib.hid hb; clear hb
  have hm1 := HM1.out
  go_wp2_with fail
  clear hm1
  refine (put_lit 7 7 _ L1 _ rfl (by omega) (HY1.out w1) (by have := HL1.out; omega)).mono ?_
  rintro e w2 ⟨p2, c2, rfl, hy2, hb2⟩
  have hba := HB1.out.alloc HB1.out.size (.cells Z1 5)
  have HB2 : Hid (Below w.heap.size w w2) := hba.trans (hb2.mono hba.size)
  have HR2 := Lib.hid hy2
  clear hy2 hb2 hba HB1
  have hm2 := HM2.out
  go_wp2_with fail
  clear hm2
  refine (put_great _ _ L2 (HY2.out w2) (by have := HL2.out; omega)).mono ?_
  rintro e w3 ⟨rfl, rfl⟩
  have HB3 := Lib.hid (HB2.out.alloc HB2.out.size (.cells Z2 5))
  have HR3 := Lib.hid (HR2.out.below ((Below.refl _ _).alloc (Nat.le_refl _) (.cells Z2 5)))
  clear HR2 HB2 HM1 HM2 HY1 HY2 HL2
  generalize w2.alloc (.cells Z2 5) = w3 at *
  go_wp2_with fail
  refine (put_lit 7 7 (.slice none 0 0) [] w3 rfl (by omega) (Bytes.nil _) (by decide)).mono ?_
  rintro e w4 ⟨p4, c4, rfl, hy4, hb4⟩
  have HB4 : Hid (Below w.heap.size w w4) := HB3.out.trans (hb4.mono HB3.out.size)
  have HA4 := Lib.hid (HR3.out.below hb4)
  have HR4 := Lib.hid hy4
  have h128 : (slotOf 7 []).length = 128 := slotOf_length (by decide)
  have hcap := hy4.room.2
  have hup := upto_runI p4 128 c4 11 11 rfl (by omega)
  have c1 := (Bytes.upto (l := slotOf 7 []) (n := 11) (by rw [h128]; exact hy4) (by rw [h128]; omega)).toString byT (P := Try.prog) (d := 9) (by kernel_rfl)
  have e11 : (slotOf 7 []).take 11 = [80, 68, 0, 0, 0, 0, 0, 0, 0, 7, 0] := by
    rw [slotOf_parts, List.length_nil, show highOf 7 8 = [0, 0, 0, 0, 0, 0, 0, 7] from by decide]
    rfl
  rw [e11, show strOf [80, 68, 0, 0, 0, 0, 0, 0, 0, 7, 0] = ⟨#[80, 68, 0, 0, 0, 0, 0, 0, 0, 7, 0]⟩ from rfl] at c1
  have H128 := Lib.hid h128
  clear hy4 hb4 HB3 HR3 e11 h128 hcap
  go_wp2
  clear hup c1
  go_loopw [7] (fun i wr => ∃ k : Nat, k ≤ 128 ∧ i = .int .i64 k ∧ Below w4.heap.size w4 wr) (fun i _ => 128 - (intOf i).toNat)
  case atStart => exact ⟨0, by omega, rfl, Below.refl _ _⟩
  case round =>
    obtain ⟨k, hk, rfl, hbr⟩ := hrel
    have HBR := Lib.hid hbr; clear hbr
    by_cases hlt : k < 128
    · have hk0 : (k : Int) < 128 := by omega
      have hz6 := HBR.out.size
      go_wp2_with (at_builtin; refine wpList_append_bytes rfl (.tmp 70) (.tmp 71) byT rfl wr.heap.size (.slice (some ⟨wr.heap.size, 0, none⟩) 0 0) 0 [] rfl (World.ownsRow_made wr #[] 0 (Nat.le_refl _) (by decide) rfl) (.slice p4 128 c4) (slotOf 7 []) rfl ((HR4.out.below HBR.out).below ((Below.refl _ _).alloc (Nat.le_refl _) _)) (by rw [H128.out]; omega) (by simp) ?_; intro v7 w7 hown7 hgrow7 _
                   rw [Nat.zero_add, List.nil_append, H128.out] at hown7
                   obtain ⟨g, c7, rfl, hc7, hm7, hg7, hcells, hfree⟩ := own_open hown7 (by omega)
                   have hcj := hcells k (by rw [H128.out]; exact hlt)
                   have hfj := hfree k
                   have hb67 : Below wr.heap.size wr w7 := ((Below.refl _ _).alloc (Nat.le_refl _) _).grown hgrow7 (by simp) (by simp [Value.ownBlock])
                   have HB67 := Lib.hid hb67
                   have HST := Lib.hid (hown7.stored k (.int .u8 (atB (slotOf 7 []) k ^^^ 1 : Nat)))
                   have e8 : bits .xor .u8 ((atB (slotOf 7 []) k : Nat) : Int) 1 = ((atB (slotOf 7 []) k ^^^ 1 : Nat) : Int) := bits_xor8 (atB (slotOf 7 []) k) 1 (by rw [atB_of (by rw [H128.out]; exact hlt)]; exact slotOf_small (by decide) (by decide) _ (List.getElem_mem _)) (by omega)
                   have HG7 := Lib.hid hg7
                   clear hown7 hgrow7 hcells hfree hb67 hm7 hc7 hg7)
      have hb67 := HB67.out
      have ho8 : (w7.setCell ⟨g, k, none⟩ (.int .u8 (atB (slotOf 7 []) k ^^^ 1 : Nat))).ownsRow wr.heap.size 5 1 (.slice (some ⟨g, 0, none⟩) 128 c7) 128 (cellsOf ((slotOf 7 []).set k (atB (slotOf 7 []) k ^^^ 1))) := by
        have := HST.out.1
        rw [cellsOf_set] at this
        exact this
      have hy8 := Bytes.of_owns ho8 (turned_small (by decide) (by decide) hlt (by omega)) (by rw [List.length_set, H128.out]; decide)
      have HC := Lib.hid (take_turned 7 [] k 1 _ _ (by decide) (by decide) hlt (by omega) (by omega) hy8)
      have HB8 : Hid (Below w4.heap.size w4 (w7.setCell ⟨g, k, none⟩ (.int .u8 (atB (slotOf 7 []) k ^^^ 1 : Nat)))) := (HBR.out.trans (hb67.mono hz6)).setCell (by show w4.heap.size ≤ g; have := HG7.out; omega) _
      clear ho8 hy8 hb67 hcj hfj HST
      generalize w7.setCell ⟨g, k, none⟩ (.int .u8 (atB (slotOf 7 []) k ^^^ 1 : Nat)) = w8 at *
      refine HC.out.mono ?_
      rintro e w9 ⟨p9, c9, rfl, hb9⟩
      have HB9 : Hid (Below w4.heap.size w4 w9) := HB8.out.trans (hb9.mono HB8.out.size)
      clear hb9 e8 HC HB8
      go_wp2
      go_roundw
      case rel => exact ⟨k + 1, by omega, by go_num, HB9.out⟩
      case measure => simp [intOf]; omega
    · have hk1 : (128 : Int) ≤ k := by omega
      obtain rfl : k = 128 := by omega
      clear hk hlt hk1
      have HBW : Hid (Below w.heap.size w wr) := HB4.out.trans (HBR.out.mono HB4.out.size)
      have HA := Lib.hid (HA4.out.below HBR.out)
      have HB := Lib.hid (HR4.out.below HBR.out)
      have la : (slotOf 7 L1).length ≤ 17592186044416 := by rw [slotOf_length (by have := HL1.out; omega)]; omega
      have lb : (slotOf 7 []).length ≤ 17592186044416 := by rw [H128.out]; omega
      have HLA := Lib.hid la
      have HLB := Lib.hid lb
      clear la lb HA4 HR4 HB4 HBR
      go_wp2_with fail
      obtain ⟨b1, b2, b3, b4⟩ := bt_no (bt_slots (g := 7) (h := 7) (b := []) (c := L1) (by decide) (by have := HL1.out; omega) (by decide) HS1.out (by omega) (by omega))
      obtain ⟨s1, s2, s3⟩ := st_slot (g := 7) (b := []) (by decide) (by decide) (by omega)
      refine (better_lit _ _ (slotOf 7 []) (slotOf 7 L1) wr 0 7 0 [] 0 HB.out HA.out HLB.out HLA.out (by rw [b1]; rfl) (by rw [b2, s2]; rfl) (by rw [b4, s1]; rfl) (by rw [b3, s3]) rfl).mono ?_
      rintro e w5 ⟨p5, c5, rfl, _, hb5⟩
      have HBW5 : Hid (Below w.heap.size w w5) := HBW.out.trans (hb5.mono HBW.out.size)
      have HA5 := Lib.hid (HA.out.below hb5)
      have HB5 := Lib.hid (HB.out.below hb5)
      clear hb5 HBW HA HB b1 b2 b3 b4
      go_wp2_with fail
      obtain ⟨b1, b2, b3, b4⟩ := bt_no (bt_slots (g := 7) (h := 7) (b := L1) (c := []) (by have := HL1.out; omega) (by decide) HS1.out (by decide) (by omega) (by omega))
      obtain ⟨t1, t2, t3⟩ := st_slot (g := 7) (b := L1) (by have := HL1.out; omega) HS1.out (by omega)
      refine (better_lit _ _ (slotOf 7 L1) (slotOf 7 []) w5 0 7 0 L1 113 HA5.out HB5.out HLA.out HLB.out (by rw [b1]; rfl) (by rw [b2, t2]; rfl) (by rw [b4, t1]; rfl) (by rw [b3, t3]) HL1.out).mono ?_
      rintro e w6 ⟨p6, c6, rfl, _, hb6⟩
      have HBW6 : Hid (Below w.heap.size w w6) := HBW5.out.trans (hb6.mono HBW5.out.size)
      have HB6 := Lib.hid (HB5.out.below hb6)
      clear hb6 HBW5 HA5 HB5 b1 b2 b3 b4 t1 t2 t3
      go_wp2_with fail
      have hwin : btWins [] (slotOf 7 []) = true := by
        unfold btWins
        rw [isSlot_slot (by decide) (by decide), isSlot_nil]; rfl
      obtain ⟨b1, b2, b3, b4⟩ := bt_yes hwin
      refine (better_lit _ _ [] (slotOf 7 []) w6 1 7 0 [] 0 (Bytes.nil _) HB6.out (by decide) HLB.out (by rw [b1]; rfl) (by rw [b2, s2]; rfl) (by rw [b4]; rfl) (by rw [b3, s3]) rfl).mono ?_
      rintro e w7 ⟨p7, c7, rfl, _, hb7⟩
      have HBW7 : Hid (Below w.heap.size w w7) := HBW6.out.trans (hb7.mono HBW6.out.size)
      clear hb7 HBW6 HB6 hwin b1 b2 b3 b4 s1 s2 s3
      go_wp2
      go_ret
      exact ⟨rfl, HBW7.out⟩

set_option maxRecDepth 100000 in
theorem forms_lifted (os : Os) (started : os.Started) (H : Type) (enc : TypeId × Value → H) :
    ReturnsInHanded {} Try.checked os 5 .any (Rows.slotFormsSpec.pre6 enc Try.prog Try.f5 Rows.slotFormsRow.domain false) (Rows.slotFormsSpec.post enc Try.prog Try.f5 false true false false) := by
  refine returnsInHanded_of_change (C := Try.checked) own_none started (by kernel_rfl) Try.func5
    (ChangeSpec.witness6 (enc := enc) (C := Try.checked) false ⟨#[], #[], []⟩ 8 (by kernel_rfl) (by kernel_rfl) (by kernel_rfl) (by kernel_rfl)) ?_
  intro W base args ds gs before hval0 hW hcnd _
  have hW' := hW
  obtain ⟨p, q, hA0, hV, rfl, hfz, hnd⟩ := hW
  have hA : DataW.TrodAll enc Try.prog W 0 (fun _ => true) true Try.f5.params.toList args.toList ds p := hA0
  have hp : Try.f5.params = #[] := by kernel_rfl
  rw [hp] at hA
  obtain ⟨rfl, rfl, rfl⟩ := trodAll_none hA
  obtain ⟨rfl, rfl⟩ := trodVars_none hV
  refine (forms_any W).mono fun e W' ⟨he, hb⟩ => ?_
  subst he
  exact ⟨_, rfl, law_post (tb := 4) laidOut (by rw [hp]; intro t ht; simp at ht) rfl rfl (by kernel_rfl) (by kernel_rfl) hW' hb⟩

theorem slotForms_holds : Rows.SlotFormsSaid :=
  OpenClaim.holds_of_wide 5 Try.f5 rfl rfl rfl rfl rfl rfl rfl ⟨rfl, rfl, rfl, rfl, rfl⟩ rfl rfl rfl rfl rfl (by kernel_rfl) Try.func5 (by kernel_rfl)
    (of_decide_eq_true (by kernel_rfl)) (by unfold Func.isWrapper; rw [if_neg (by decide +kernel)]; exact ⟨rfl, rfl⟩)
    (fun os started H enc _ => forms_lifted os started H enc)
end Go.Proofs.Ytjkbhlfgkpopdaa
