/- The law SumAll: whatever bytes there are, every call of it returns true, and all that was there before the call is as it was. No condition. -/
import Derived.Test.YthfgegcbigcckaaRows
import Derived.Test.YthfgegcbigcckaaBegun
import Derived.Test.YthfgegcbigcckaaKept
import Derived.Test.YthfgegcbigcckaaLaw
namespace Go.Proofs.Ythfgegcbigcckaa
open Go.ChangeShapes Go.WideShapes Go.ChangeAt Go.RowKit Go.By

theorem Lent.below {B : Nat} {w w' : World} {v : Value} {l : List Nat} (h : Lent B w v l) (hb : Below w.heap.size w w') : Lent B w' v l := by
  obtain ⟨g, cap, rfl, hown⟩ := h
  exact ⟨g, cap, rfl, hown.kept (row := none) ⟨hb.os, hb.tape, hb.output, hb.size, fun k hk _ => hb.block k hk⟩ (.inr (by simp [Value.ownBlock]))⟩

set_option maxRecDepth 100000 in
theorem all_any (v : Value) (l : List Nat) (w : World) (hv : Bytes w v l) :
    Calls Try.prog 3 #[v] w fun e w' => e = .returned (.bool true) ∧ Below w.heap.size w w' := by
  obtain ⟨p, cap, hveq⟩ : ∃ p cap, v = .slice p l.length cap := let ⟨p, cap, h, _⟩ := hv.any; ⟨p, cap, h⟩
  subst hveq
  have hm := hv.short
  unfold maxLen at hm
  have HV := Lib.hid hv; clear hv
  by_cases hlen : l.length ≤ 150
  · go_enter Try.func3, Try.ntmps3
    go_wp2_with (go_at_call 7; refine (begun_any _).mono ?_; rintro e w1 ⟨rfl, hb1⟩)
    have HB1 := Lib.hid hb1; clear hb1
    go_wp2_with fail
    refine (loaned_any _ l w1 (HV.out.below HB1.out) (by omega)).mono ?_
    rintro e w2 ⟨v2, rfl, hl2, hb2⟩
    have HL2 := Lib.hid hl2; clear hl2
    have HB2 := Lib.hid hb2; clear hb2
    have HB12 : Hid (Below w.heap.size w w2) := HB1.out.trans (HB2.out.mono HB1.out.size)
    go_wp2_with fail
    refine (sum_any v2 l w2 (HL2.out.bytes HV.out.small HV.out.short)).mono ?_
    rintro e w3 ⟨rfl, hb3⟩
    have HB3 := Lib.hid hb3; clear hb3
    have HB13 : Hid (Below w.heap.size w w3) := HB12.out.trans (HB3.out.mono HB12.out.size)
    go_wp2_with fail
    refine (ref_any _ l w3 (HV.out.below HB13.out)).mono ?_
    rintro e w4 ⟨rfl, rfl⟩
    go_wp2_with fail
    refine (kept_any w1.heap.size v2 _ l w3 (HL2.out.below HB3.out) (HV.out.below HB13.out) (by omega)).mono ?_
    rintro e w4 ⟨rfl, rfl⟩
    go_wp2
    go_ret
    exact ⟨rfl, HB13.out⟩
  · go_enter Try.func3, Try.ntmps3
    go_wp2_with (go_at_call 7; refine (begun_any _).mono ?_; rintro e w1 ⟨rfl, hb1⟩)
    have HB1 := Lib.hid hb1; clear hb1
    go_wp2
    go_ret
    exact ⟨rfl, HB1.out⟩


set_option maxRecDepth 100000 in
theorem all_lifted (os : Os) (started : os.Started) (H : Type) (enc : TypeId × Value → H) :
    ReturnsInHanded {} Try.checked os 3 .any (Rows.sumAllSpec.pre6 enc Try.prog Try.f3 Rows.sumAllRow.domain false) (Rows.sumAllSpec.post enc Try.prog Try.f3 false true false false) := by
  refine returnsInHanded_of_change (C := Try.checked) own_none started (by kernel_rfl) Try.func3
    (ChangeSpec.witness6 (enc := enc) (C := Try.checked) false ⟨#[], #[.slice none 0 0], []⟩ 8 (by kernel_rfl) (by kernel_rfl) (by kernel_rfl) (by kernel_rfl)) ?_
  intro W base args ds gs before hval0 hW hcnd _
  have hval : ∀ (j : Nat) t v, Try.f3.params[j]? = some t → args[j]? = some v → Value.okWide Try.prog W .any base t v := hval0
  have hW' := hW
  obtain ⟨p, q, hA0, hV, rfl, hfz, hnd⟩ := hW
  have hA : DataW.TrodAll enc Try.prog W 0 (fun _ => true) true Try.f3.params.toList args.toList ds p := hA0
  have hp : Try.f3.params = #[22] := by kernel_rfl
  rw [hp] at hA hval
  obtain ⟨v0, d0, rfl, rfl, h0⟩ := trodAll_one hA
  obtain ⟨rfl, rfl⟩ := trodVars_none hV
  obtain ⟨l, hl⟩ := open_bytes byT (by kernel_rfl) (hval 0 22 v0 rfl rfl) h0
  refine (all_any v0 l W hl).mono fun e W' ⟨he, hb⟩ => ?_
  subst he
  exact ⟨_, rfl, law_post (tb := 4) laidOut (by rw [hp]; intro t ht; simp at ht; subst ht; exact ⟨by kernel_rfl, by decide +kernel⟩) rfl rfl (by kernel_rfl) (by kernel_rfl) hW' hb⟩

theorem sumAll_holds : Rows.SumAllSaid :=
  OpenClaim.holds_of_wide 3 Try.f3 rfl rfl rfl rfl rfl rfl rfl ⟨rfl, rfl, rfl, rfl, rfl⟩ rfl rfl rfl rfl rfl (by kernel_rfl) Try.func3 (by kernel_rfl)
    (of_decide_eq_true (by kernel_rfl)) (by unfold Func.isWrapper; rw [if_neg (by decide +kernel)]; exact ⟨rfl, rfl⟩)
    (fun os started H enc _ => all_lifted os started H enc)
end Go.Proofs.Ythfgegcbigcckaa
