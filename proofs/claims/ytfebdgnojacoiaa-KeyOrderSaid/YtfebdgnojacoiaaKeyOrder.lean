/- The law KeyOrder: whatever the two names and the two numbers, every call of it returns true, and all that was there before the call is as it was. No condition. -/
import Derived.Test.YtfebdgnojacoiaaRows
import Derived.Test.YtfebdgnojacoiaaLaw
import Derived.Test.YtfebdgnojacoiaaKeyOB
import Derived.Test.YtfebdgnojacoiaaKeyOC
import Derived.Test.YtfebdgnojacoiaaKeyOD
import Derived.Test.YtfebdgnojacoiaaKeyOE
import Derived.Test.YtfebdgnojacoiaaKeyOF
import Derived.ChangeMaps5
namespace Go.Proofs.Ytfebdgnojacoiaa
open Go Go.ChangeShapes Go.WideShapes Go.ChangeAt Go.RowKit Go.By

set_option maxRecDepth 100000 in
set_option maxHeartbeats 1600000 in
/-- What may not be asked: it is true of itself. -/
theorem order_no (a b : ByteArray) (n m : Int) (w : World) (ha : a.size ≤ maxLen) (hb : b.size ≤ maxLen) (h : ¬ (mayNm (natsOf a) = true ∧ mayNm (natsOf b) = true ∧ 0 ≤ n ∧ 0 ≤ m)) :
    Calls Try.prog 4 #[.string a, .string b, .int .i64 n, .int .i64 m] w fun e w' => e = .returned (.bool true) ∧ Below w.heap.size w w' := by
  have HBG := Lib.hid (begun_any w)
  have HMA := Lib.hid (fun w => refMay_any a w ha)
  have HMB := Lib.hid (fun w => refMay_any b w hb)
  have H := Lib.hid h
  clear h ha hb
  go_enter Try.func4, Try.ntmps4
  go_wp2_with fail
  refine HBG.out.mono ?_
  rintro e w1 ⟨rfl, hb1⟩
  have HB1 := Lib.hid hb1
  clear hb1
  go_wp2_with fail
  refine (HMA.out w1).mono ?_
  rintro e w2 ⟨rfl, rfl⟩
  cases hma : mayNm (natsOf a) with
  | false =>
    go_wp2
    go_ret
    exact ⟨rfl, HB1.out⟩
  | true =>
    go_wp2_with fail
    refine (HMB.out w1).mono ?_
    rintro e w2 ⟨rfl, rfl⟩
    cases hmb : mayNm (natsOf b) with
    | false =>
      go_wp2
      go_ret
      exact ⟨rfl, HB1.out⟩
    | true =>
      by_cases hn0 : 0 ≤ n
      · by_cases hm0 : 0 ≤ m
        · exact absurd ⟨hma, hmb, hn0, hm0⟩ H.out
        · go_wp2
          go_ret
          exact ⟨rfl, HB1.out⟩
      · go_wp2
        go_ret
        exact ⟨rfl, HB1.out⟩

theorem order_any (a b : ByteArray) (n m : Int) (w : World) (ha : a.size ≤ maxLen) (hb : b.size ≤ maxLen) (hn : n ≤ 9223372036854775807) (hm : m ≤ 9223372036854775807) :
    Calls Try.prog 4 #[.string a, .string b, .int .i64 n, .int .i64 m] w fun e w' => e = .returned (.bool true) ∧ Below w.heap.size w w' := by
  by_cases h : mayNm (natsOf a) = true ∧ mayNm (natsOf b) = true ∧ 0 ≤ n ∧ 0 ≤ m
  · obtain ⟨hma, hmb, hn0, hm0⟩ := h
    cases hA : Op.bytesLess a.toList b.toList with
    | true =>
      cases hB : a.toList == b.toList with
      | false => exact order_less a b n m w ha hb hn hm hma hmb hn0 hm0 hA hB
      | true =>
        rw [eq_str, decide_eq_true_eq] at hB
        rw [less_str, hB, lessN_irrefl] at hA
        cases hA
    | false =>
      cases hB : a.toList == b.toList with
      | false => exact order_more a b n m w ha hb hn hm hma hmb hn0 hm0 hA hB
      | true =>
        rcases Int.lt_trichotomy n m with hC | hC | hC
        · exact order_lt a b n m w ha hb hn hm hma hmb hn0 hm0 hA hB hC
        · exact order_eq a b n m w ha hb hn hm hma hmb hn0 hm0 hA hB hC
        · exact order_gt a b n m w ha hb hn hm hma hmb hn0 hm0 hA hB hC
  · exact order_no a b n m w ha hb h

set_option maxRecDepth 100000 in
theorem order_lifted (os : Os) (started : os.Started) (H : Type) (enc : TypeId × Value → H) :
    ReturnsInHanded {} Try.checked os 4 .any (Rows.keyOrderSpec.pre6 enc Try.prog Try.f4 Rows.keyOrderRow.domain false) (Rows.keyOrderSpec.post enc Try.prog Try.f4 false true false false) := by
  refine returnsInHanded_of_change (C := Try.checked) own_none started (by kernel_rfl) Try.func4
    (ChangeSpec.witness6 (enc := enc) (C := Try.checked) false ⟨#[], #[.string ⟨#[]⟩, .string ⟨#[]⟩, .int .i64 0, .int .i64 0], []⟩ 8 (by kernel_rfl) (by kernel_rfl) (by kernel_rfl) (by kernel_rfl)) ?_
  intro W base args ds gs before hval0 hW hcnd _
  have hval : ∀ (j : Nat) t v, Try.f4.params[j]? = some t → args[j]? = some v → Value.okWide Try.prog W .any base t v := hval0
  have hW' := hW
  obtain ⟨p, q, hA0, hV, rfl, hfz, hnd⟩ := hW
  have hA : DataW.TrodAll enc Try.prog W 0 (fun _ => true) true Try.f4.params.toList args.toList ds p := hA0
  have hp : Try.f4.params = #[9, 9, 2, 2] := by kernel_rfl
  rw [hp] at hA hval
  obtain ⟨v0, vs0, d0, ds0, p0, q0, ha0, rfl, rfl, h0, hA⟩ := trodAll_cons hA
  obtain ⟨v1, vs1, d1, ds1, p1, q1, rfl, rfl, rfl, h1, hA⟩ := trodAll_cons hA
  obtain ⟨v2, vs2, d2, ds2, p2, q2, rfl, rfl, rfl, h2, hA⟩ := trodAll_cons hA
  obtain ⟨v3, vs3, d3, ds3, p3, q3, rfl, rfl, rfl, h3, hA⟩ := trodAll_cons hA
  obtain ⟨rfl, rfl, rfl⟩ := trodAll_nil hA
  obtain rfl : args = #[v0, v1, v2, v3] := by cases args; simp_all
  obtain ⟨rfl, rfl⟩ := trodVars_none hV
  obtain ⟨a, rfl, _, _, wa⟩ := Go.ChangeMaps.open_string (P := Try.prog) (t := 9) (by kernel_rfl) (hval 0 9 v0 rfl rfl) h0
  obtain ⟨b, rfl, _, _, wb⟩ := Go.ChangeMaps.open_string (P := Try.prog) (t := 9) (by kernel_rfl) (hval 1 9 v1 rfl rfl) h1
  obtain ⟨n, rfl, _, _, wn⟩ := open_int (P := Try.prog) (t := 2) (k := .i64) (by kernel_rfl) (hval 2 2 v2 rfl rfl) h2
  obtain ⟨m, rfl, _, _, wm⟩ := open_int (P := Try.prog) (t := 2) (k := .i64) (by kernel_rfl) (hval 3 2 v3 rfl rfl) h3
  refine (order_any a b n m W wa wb (i64_of_wf wn) (i64_of_wf wm)).mono fun e W' ⟨he, hb⟩ => ?_
  subst he
  exact ⟨_, rfl, law_post (tb := 4) laidOut (by rw [hp]; intro t ht; simp at ht; rcases ht with rfl | rfl <;> exact ⟨by kernel_rfl, by decide +kernel⟩) rfl rfl (by kernel_rfl) (by kernel_rfl) hW' hb⟩

theorem keyOrder_holds : Rows.KeyOrderSaid :=
  OpenClaim.holds_of_wide 4 Try.f4 rfl rfl rfl rfl rfl rfl rfl ⟨rfl, rfl, rfl, rfl, rfl⟩ rfl rfl rfl rfl rfl (by kernel_rfl) Try.func4 (by kernel_rfl)
    (of_decide_eq_true (by kernel_rfl)) (by unfold Func.isWrapper; rw [if_neg (by decide +kernel)]; exact ⟨rfl, rfl⟩)
    (fun os started H enc _ => order_lifted os started H enc)
end Go.Proofs.Ytfebdgnojacoiaa

