/- The law SumTurned: whatever the bytes and the numbers, every call of it returns true, and all that was there before the call is as it was. No condition. -/
import Derived.Test.YthfgegcbigcckaaRows
import Derived.Test.YthfgegcbigcckaaBegun
import Derived.Test.YthfgegcbigcckaaTurn
import Derived.WalkLawsBesides
namespace Go.Proofs.Ythfgegcbigcckaa
open Go.ChangeShapes Go.WideShapes Go.ChangeAt Go.RowKit Go.By

def byteOf (b : Nat) (i : Nat) : Nat := b / 2 ^ (8 * i) % 256
theorem byteOf_lt (b i : Nat) : byteOf b i < 256 := Nat.mod_lt _ (by omega)

/-- The loop's relation. -/
def TRel (B : Nat) (l : List Nat) (k b : Nat) (g cap : Nat) (w0 : World) (t i : Value) (w : World) : Prop :=
  ∃ j : Nat, j ≤ 4 ∧ k + j ≤ l.length ∧ i = .int .i64 j ∧ t = .bool (any (byteOf b) j) ∧ w.ownsRow B 5 1 (.slice (some ⟨g, 0, none⟩) l.length cap) l.length (cellsOf (turn l (hole k j (byteOf b)))) ∧ Below B w0 w

set_option maxRecDepth 100000 in
theorem turned_any (v : Value) (l : List Nat) (a b : Nat) (w : World) (hv : Bytes w v l) (ha : a < 65536) (_hb : b < 4294967296) :
    Calls Try.prog 4 #[v, .int .u16 a, .int .u32 b] w fun e w' => e = .returned (.bool true) ∧ Below w.heap.size w w' := by
  obtain ⟨p, cp, hveq⟩ : ∃ p cap, v = .slice p l.length cap := let ⟨p, cap, h, _⟩ := hv.any; ⟨p, cap, h⟩
  subst hveq
  have hm := hv.short
  unfold maxLen at hm
  have HV := Lib.hid hv; clear hv
  by_cases h0 : l.length < 1
  · go_enter Try.func4, Try.ntmps4
    go_wp2_with (go_at_call 7; refine (begun_any _).mono ?_; rintro e w1 ⟨rfl, hb1⟩)
    have HB1 := Lib.hid hb1; clear hb1
    go_wp2
    go_ret
    exact ⟨rfl, HB1.out⟩
  by_cases h150 : 150 < l.length
  · have d0 : decide ((l.length : Int) < 1) = false := by simp; omega
    go_enter Try.func4, Try.ntmps4
    go_wp2_with (go_at_call 7; refine (begun_any _).mono ?_; rintro e w1 ⟨rfl, hb1⟩)
    have HB1 := Lib.hid hb1; clear hb1
    go_wp2
    go_ret
    exact ⟨rfl, HB1.out⟩
  have d0 : decide ((l.length : Int) < 1) = false := by simp; omega
  have d1 : decide (150 < (l.length : Int)) = false := by simp; omega
  have n1 : 1 ≤ (l.length : Int) := by omega
  have n2 : (l.length : Int) ≤ 150 := by omega
  obtain ⟨k, hk⟩ : ∃ k, k = a % l.length := ⟨_, rfl⟩
  have hkl : k < l.length := by rw [hk]; exact Nat.mod_lt _ (by omega)
  have hka : (a : Int) % (l.length : Int) = (k : Int) := by rw [hk]; rfl
  obtain ⟨q, hq⟩ : ∃ q, q = a % (8 * l.length) := ⟨_, rfl⟩
  have hql : q < 8 * l.length := by rw [hq]; exact Nat.mod_lt _ (by omega)
  have hqa : (a : Int) % (8 * (l.length : Int)) = (q : Int) := by rw [hq]; rfl
  clear hk hq
  clear h0 h150
  go_enter Try.func4, Try.ntmps4
  go_wp2_with fail
  refine (begun_any _).mono ?_
  rintro e w1 ⟨rfl, hb1⟩
  have HB1 := Lib.hid hb1; clear hb1
  go_wp2_with (at_builtin; refine wpList_append_bytes rfl (.tmp 24) (.tmp 25) byT rfl w1.heap.size (.slice (some ⟨w1.heap.size, 0, none⟩) 0 0) 0 [] rfl (World.ownsRow_made w1 #[] 0 (Nat.le_refl _) (by decide) rfl) _ l rfl (HV.out.below (HB1.out.trans ((Below.refl _ _).alloc HB1.out.size _))) (by omega) (by simp) ?_; intro v2 w2 hown hgrow hnil)
  obtain ⟨g, cap, rfl, hcap⟩ : ∃ g cap, v2 = .slice (some ⟨g, 0, none⟩) l.length cap ∧ l.length ≤ cap := by
    rcases hown.2 with ⟨h, _⟩ | ⟨g, cap, _, h, _, _, h4, _⟩
    · rw [h] at hnil; simp at hnil
    · exact ⟨g, cap, by simpa using h, by omega⟩
  have hB2 : Below w1.heap.size w1 w2 := ((Below.refl _ _).alloc (Nat.le_refl _) _).grown hgrow (by simp) (by simp [Value.ownBlock])
  rw [Nat.zero_add, List.nil_append] at hown
  have HO := Lib.hid hown
  have HB2 := Lib.hid hB2
  clear hown hgrow hnil hB2
  go_wp2
  rw [hka]
  have HKA := Lib.hid hka; clear hka
  go_loopw [9, 10] (fun t i wr => TRel w1.heap.size l k b g cap w1 t i wr) (fun _ i _ => 4 - (intOf i).toNat)
  case atStart =>
    refine ⟨0, by omega, by omega, rfl, rfl, ?_, HB2.out⟩
    rw [turn_zero]; exact HO.out
  case round =>
    obtain ⟨j, hj, hjl, rfl, rfl, hown, hB⟩ := hrel
    clear HO HB2
    by_cases hgo : j < 4 ∧ k + j < l.length
    · obtain ⟨hj4, hkj⟩ := hgo
      have gx := hown.cellAt (k + j) (by omega)
      rw [cellsOf_get (by rw [turn_length]; exact hkj), turn_before l k j _ hkj] at gx
      have gf := hown.frozenAt (k + j)
      have hst := hown.stored (k + j) (.int .u8 (atB l (k + j) ^^^ byteOf b j : Nat))
      rw [cellsOf_set, turn_set l k j _ hkj] at hst
      have hB3 := hB.grown hst.2 hB.size (by simp; exact (hown.lt g rfl).1)
      have HS := Lib.hid hst.1
      have HB3 := Lib.hid hB3
      have hs0 : (0 : Int) ≤ 8 * (j : Int) := by omega
      have hs1 : 8 * (j : Int) ≤ 24 := by omega
      have hkj' : (k : Int) + (j : Int) < l.length := by omega
      have d4 : decide ((j : Int) < 4) = true := by simp; omega
      have e0 : (b : Int) / 2 ^ (8 * j) % 256 = ((byteOf b j : Nat) : Int) := by
        unfold byteOf; simp
      have e1 := bits_xor8 _ _ (HV.out.at_lt hkj) (byteOf_lt b j)
      have hne : (((byteOf b j : Nat) : Int) != 0) = (byteOf b j != 0) := by
        rw [Bool.eq_iff_iff]; simp
      have HNE := Lib.hid hne
      have ht : any (byteOf b) (j + 1) = (any (byteOf b) j || (byteOf b j != 0)) := rfl
      have HT := Lib.hid ht
      clear hst hB3 hown hB hne ht
      go_wp2
      · have h : any (byteOf b) j = true := by assumption
        go_roundw
        case rel => exact ⟨j + 1, by omega, by omega, by go_num, by rw [HT.out, h]; rfl, HS.out, HB3.out⟩
        case measure => simp [intOf]; omega
      · have h : any (byteOf b) j = false := by simpa using (by assumption : ¬ any (byteOf b) j = true)
        go_roundw
        case rel => exact ⟨j + 1, by omega, by omega, by go_num, by rw [HT.out, h, HNE.out]; rfl, HS.out, HB3.out⟩
        case measure => simp [intOf]; omega
    · have hB0 : Below w.heap.size w wr := HB1.out.trans (hB.mono HB1.out.size)
      have bc : Bytes wr (.slice (some ⟨g, 0, none⟩) l.length cap) (turn l (hole k j (byteOf b))) :=
        .of_owns hown (turn_small HV.out.small (hole_lt (byteOf_lt b))) (by rw [turn_length]; unfold maxLen; omega)
      have BC := Lib.hid bc
      have HB0 := Lib.hid hB0
      have hne := sum_turn_bne l k j (byteOf b) hjl hj (byteOf_lt b)
      have HNE := Lib.hid hne
      have HJ := Lib.hid hj
      have HJL := Lib.hid hjl
      clear hown hB hB0 bc hne
      obtain ⟨m, hm8⟩ : ∃ m, m = q / 8 := ⟨_, rfl⟩
      obtain ⟨r, hr8⟩ : ∃ r, r = q % 8 := ⟨_, rfl⟩
      have hml : m < l.length := by omega
      have hr : r < 8 := by omega
      have hmi : (q : Int) / 8 = (m : Int) := by rw [hm8]; rfl
      have hri : (q : Int) % 8 = (r : Int) := by rw [hr8]; rfl
      have hml' : (m : Int) < l.length := by omega
      have hr2 : 2 ^ r < 256 := by
        have : 2 ^ r ≤ 2 ^ 7 := Nat.pow_le_pow_right (by omega) (by omega)
        omega
      clear hm8 hr8 hql
      have hend : 4 ≤ (j : Int) ∨ ((j : Int) < 4 ∧ (l.length : Int) ≤ (k : Int) + (j : Int)) := by omega
      clear hgo
      rcases hend with hend | ⟨hend, hend'⟩
      all_goals
        go_wp2_with (at_builtin; refine wpList_append_bytes rfl (.tmp 63) (.tmp 64) byT rfl wr.heap.size (.slice (some ⟨wr.heap.size, 0, none⟩) 0 0) 0 [] rfl (World.ownsRow_made wr #[] 0 (Nat.le_refl _) (by decide) rfl) _ l rfl (HV.out.below (HB0.out.trans ((Below.refl _ _).alloc HB0.out.size _))) (by omega) (by simp) ?_; intro v3 w3 hown hgrow hnil)
        obtain ⟨g2, cap2, rfl, hcap2⟩ : ∃ g cap, v3 = .slice (some ⟨g, 0, none⟩) l.length cap ∧ l.length ≤ cap := by
          rcases hown.2 with ⟨h, _⟩ | ⟨g, cap, _, h, _, _, h4, _⟩
          · rw [h] at hnil; simp at hnil
          · exact ⟨g, cap, by simpa using h, by omega⟩
        have hB3 : Below wr.heap.size wr w3 := ((Below.refl _ _).alloc (Nat.le_refl _) _).grown hgrow (by simp) (by simp [Value.ownBlock])
        rw [Nat.zero_add, List.nil_append] at hown
        have gx := hown.cellAt m (by omega)
        rw [cellsOf_get hml] at gx
        have gf := hown.frozenAt m
        have hst := hown.stored m (.int .u8 (atB l m ^^^ 2 ^ r : Nat))
        have ht := turn_set l m 0 (fun _ => 2 ^ r) (by omega)
        rw [turn_zero, Nat.add_zero, Nat.zero_add] at ht
        rw [cellsOf_set, ht] at hst
        have hB4 := hB3.grown hst.2 hB3.size (by simp; exact (hown.lt g2 rfl).1)
        have HS := Lib.hid hst.1
        have HB4 := Lib.hid hB4
        have e1 : bits .xor .u8 (atB l m : Int) (2 ^ r % 256) = ((atB l m ^^^ 2 ^ r : Nat) : Int) := by
          rw [← bits_xor8 _ _ (HV.out.at_lt hml) hr2]
          congr 1
          have : ((2 ^ r : Nat) : Int) = (2 : Int) ^ r := by simp
          have h0 : (0 : Int) ≤ ((2 ^ r : Nat) : Int) := Int.natCast_nonneg _
          rw [this] at h0
          omega
        have hne2 := sum_turn_bne l m 1 (fun _ => 2 ^ r) (by omega) (by omega) (fun _ => hr2)
        rw [show any (fun _ => 2 ^ r) 1 = true by simp [any]] at hne2
        have bd := Bytes.of_owns hst.1 (turn_small HV.out.small (hole_lt (fun _ => hr2))) (by rw [turn_length]; unfold maxLen; omega)
        have BD := Lib.hid (bd.below (Below.drew (Below.refl _ _))); clear bd
        have HNE2 := Lib.hid hne2; clear hne2
        clear hst hB4 hB3 hown hgrow hnil ht
        have HR2 := Lib.hid hr2; clear hr2
        go_wp2
        try rw [hqa]
        go_region
        clear e1 gx gf
        go_wp2_with fail
        refine (sum_any _ (turn l (hole k j (byteOf b))) _ (BC.out.below HB4.out.drew)).mono ?_
        rintro e w4 ⟨rfl, hb4⟩
        have HB04 : Hid (Below wr.heap.size wr w4) := HB4.out.drew.trans (hb4.mono HB4.out.drew.size)
        have BD4 : Hid (Bytes w4 _ _) := Bytes.below (BD.out) (hb4)
        clear hb4
        go_wp2_with fail
        refine (sum_any _ l _ (HV.out.below (HB0.out.trans (HB04.out.mono HB0.out.size)))).mono ?_
        rintro e w5 ⟨rfl, hb5⟩
        have HB05 : Hid (Below wr.heap.size wr w5) := HB04.out.trans (hb5.mono HB04.out.size)
        have BD5 : Hid (Bytes w5 _ _) := BD4.out.below hb5
        clear hb5
        have hne := HNE.out
        go_wp2_with fail
        refine (sum_any _ (turn l (hole m 1 (fun _ => 2 ^ r))) _ BD5.out).mono ?_
        rintro e w6 ⟨rfl, hb6⟩
        have HB06 : Hid (Below wr.heap.size wr w6) := HB05.out.trans (hb6.mono HB05.out.size)
        clear hb6
        go_wp2_with fail
        refine (sum_any _ l _ (HV.out.below (HB0.out.trans (HB06.out.mono HB0.out.size)))).mono ?_
        rintro e w7 ⟨rfl, hb7⟩
        have HB07 : Hid (Below w.heap.size w w7) := HB0.out.trans ((HB06.out.trans (hb7.mono HB06.out.size)).mono HB0.out.size)
        clear hb7
        have hne2 := HNE2.out
        go_wp2
        go_ret
        exact ⟨rfl, HB07.out⟩

theorem u16_of_wf {a : Int} (h : (Lit.int .u16 a).wf = true) : ∃ n : Nat, a = n ∧ n < 65536 := by
  have h' : 0 ≤ a ∧ a ≤ 65535 := by simpa [Lit.wf, IntKind.min, IntKind.max, IntKind.signed, IntKind.bits] using h
  exact ⟨a.toNat, by omega, by omega⟩
theorem u32_of_wf {a : Int} (h : (Lit.int .u32 a).wf = true) : ∃ n : Nat, a = n ∧ n < 4294967296 := by
  have h' : 0 ≤ a ∧ a ≤ 4294967295 := by simpa [Lit.wf, IntKind.min, IntKind.max, IntKind.signed, IntKind.bits] using h
  exact ⟨a.toNat, by omega, by omega⟩

set_option maxRecDepth 100000 in
theorem turned_lifted (os : Os) (started : os.Started) (H : Type) (enc : TypeId × Value → H) :
    ReturnsInHanded {} Try.checked os 4 .any (Rows.sumTurnedSpec.pre6 enc Try.prog Try.f4 Rows.sumTurnedRow.domain false) (Rows.sumTurnedSpec.post enc Try.prog Try.f4 false true false false) := by
  refine returnsInHanded_of_change (C := Try.checked) own_none started (by kernel_rfl) Try.func4
    (ChangeSpec.witness6 (enc := enc) (C := Try.checked) false ⟨#[], #[.slice none 0 0, .int .u16 0, .int .u32 0], []⟩ 8 (by kernel_rfl) (by kernel_rfl) (by kernel_rfl) (by kernel_rfl)) ?_
  intro W base args ds gs before hval0 hW hcnd _
  have hval : ∀ (j : Nat) t v, Try.f4.params[j]? = some t → args[j]? = some v → Value.okWide Try.prog W .any base t v := hval0
  have hW' := hW
  obtain ⟨p, q, hA0, hV, rfl, hfz, hnd⟩ := hW
  have hA : DataW.TrodAll enc Try.prog W 0 (fun _ => true) true Try.f4.params.toList args.toList ds p := hA0
  have hp : Try.f4.params = #[22, 29, 25] := by kernel_rfl
  rw [hp] at hA hval
  obtain ⟨v0, v1, v2, d0, d1, d2, p0, p1, p2, rfl, rfl, rfl, h0, h1, h2⟩ := trodAll_three hA
  obtain ⟨rfl, rfl⟩ := trodVars_none hV
  obtain ⟨l, hl⟩ := open_bytes byT (by kernel_rfl) (hval 0 22 v0 rfl rfl) h0
  obtain ⟨a, rfl, _, _, wa⟩ := open_int (P := Try.prog) (t := 29) (k := .u16) (by kernel_rfl) (hval 1 29 v1 rfl rfl) h1
  obtain ⟨b, rfl, _, _, wb⟩ := open_int (P := Try.prog) (t := 25) (k := .u32) (by kernel_rfl) (hval 2 25 v2 rfl rfl) h2
  obtain ⟨a, rfl, ha⟩ := u16_of_wf wa
  obtain ⟨b, rfl, hb⟩ := u32_of_wf wb
  refine (turned_any v0 l a b W hl ha hb).mono fun e W' ⟨he, hb⟩ => ?_
  subst he
  exact ⟨_, rfl, law_post (tb := 4) laidOut (by rw [hp]; intro t ht; simp at ht; rcases ht with rfl | rfl | rfl <;> exact ⟨by kernel_rfl, by decide +kernel⟩) rfl rfl (by kernel_rfl) (by kernel_rfl) hW' hb⟩

theorem sumTurned_holds : Rows.SumTurnedSaid :=
  OpenClaim.holds_of_wide 4 Try.f4 rfl rfl rfl rfl rfl rfl rfl ⟨rfl, rfl, rfl, rfl, rfl⟩ rfl rfl rfl rfl rfl (by kernel_rfl) Try.func4 (by kernel_rfl)
    (of_decide_eq_true (by kernel_rfl)) (by unfold Func.isWrapper; rw [if_neg (by decide +kernel)]; exact ⟨rfl, rfl⟩)
    (fun os started H enc _ => turned_lifted os started H enc)
end Go.Proofs.Ythfgegcbigcckaa
