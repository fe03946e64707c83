/- The law KeyAfter: whatever the two rows of bytes, every call of it returns true, and all that was there before the call is as it was. No condition. -/
import Derived.Test.YtfebdgnojacoiaaRows
import Derived.Test.YtfebdgnojacoiaaLaw
import Derived.Test.YtfebdgnojacoiaaKeyAfP
namespace Go.Proofs.Ytfebdgnojacoiaa
open Go Go.ChangeShapes Go.WideShapes Go.ChangeAt Go.RowKit Go.By

set_option maxRecDepth 100000 in
set_option maxHeartbeats 1600000 in
theorem keyAfter_any (v u : Value) (k x : List Nat) (w : World) (hv : Bytes w v k) (hu : Bytes w u x) :
    Calls Try.prog 5 #[v, u] w fun e w' => e = .returned (.bool true) ∧ Below w.heap.size w w' := by
  obtain ⟨p, cap, rfl, _⟩ := hv.any
  obtain ⟨q, cup, rfl, _⟩ := hu.any
  have hm1 := hv.short
  have hm2 := hu.short
  unfold maxLen at hm1 hm2
  have HV := Lib.hid hv; have HU := Lib.hid hu
  have HBG := Lib.hid (begun_any w)
  have hhe := strOf_empty (afterL k)
  have HHE := Lib.hid hhe
  clear hv hu hhe
  go_enter Try.func5, Try.ntmps5
  go_wp2_with fail
  refine HBG.out.mono ?_
  rintro e w1 ⟨rfl, hb1⟩
  have HB1 := Lib.hid hb1
  have HV1 := Lib.hid (HV.out.below hb1); have HU1 := Lib.hid (HU.out.below hb1)
  clear hb1
  by_cases h1 : 20 < (k.length : Int)
  · go_wp2
    go_ret
    exact ⟨rfl, HB1.out⟩
  · by_cases h2 : 20 < (x.length : Int)
    · go_wp2
      go_ret
      exact ⟨rfl, HB1.out⟩
    · go_wp2_with fail
      refine (after_any _ k w1 HV1.out (by omega)).mono ?_
      rintro e w2 ⟨v2, rfl, ho2, hb2⟩
      have HB2 : Hid (Below w.heap.size w w2) := HB1.out.trans (hb2.mono HB1.out.size)
      have HV2 := Lib.hid (HV1.out.below hb2); have HU2 := Lib.hid (HU1.out.below hb2)
      obtain ⟨pa, ca, rfl⟩ := ho2.shape
      have hca := (ho2.bytes (afterL_small HV.out.small)).toString (P := Try.prog) byT (d := 9) (by kernel_rfl)
      clear ho2 hb2
      have hck := fun n => (bytes_drewN HV2.out n).toString (P := Try.prog) byT (d := 9) (by kernel_rfl)
      by_cases hle : (k.length : Int) ≤ x.length
      · have hup := fun w => upto_runI q x.length cup k.length (k.length : Int) rfl (by have := HU.out.room.2; omega) w
        have hcx := fun n => (bytes_drewN (HU2.out.upto (n := k.length) (by omega)) n).toString (P := Try.prog) byT (d := 9) (by kernel_rfl)
        have hsm := str_same (l := x.take k.length) (m := k) (fun c hc => HU.out.small c (List.mem_of_mem_take hc)) HV.out.small
        by_cases hpre : x.take k.length = k
        · rw [decide_eq_true hpre] at hsm
          go_wp2
          go_quiet (fail)
          clear hup hcx hck hsm
          have HBW : Hid (Below w.heap.size w (w2.drewN nq)) := HB2.out.trans (below_drewN _ _)
          have HVW := Lib.hid (bytes_drewN HV2.out nq); have HUW := Lib.hid (bytes_drewN HU2.out nq)
          have hckW := HVW.out.toString (P := Try.prog) byT (d := 9) (by kernel_rfl)
          have hcxW := HUW.out.toString (P := Try.prog) byT (d := 9) (by kernel_rfl)
          generalize w2.drewN nq = W at *
          by_cases h0 : afterL k = []
          · have hhe : (strOf (afterL k)).toList.isEmpty = true := by rw [HHE.out, decide_eq_true h0]
            have HALL := Lib.hid ((afterL_nil HV.out.small).1 h0)
            clear h0
            go_wp2
            go_loop [7] (fun i => ∃ n : Nat, n ≤ k.length ∧ i = .int .i64 n) (fun i => k.length - (intOf i).toNat)
            case atStart => exact ⟨0, by omega, rfl⟩
            case round =>
              obtain ⟨n, hn, rfl⟩ := hrel
              by_cases hlt : n < k.length
              · obtain ⟨b1, o1, rfl, hcell⟩ := HVW.out.spot n hlt
                have h255 : atB k n = 255 := by
                  rw [atB_of hlt]; exact HALL.out _ (List.getElem_mem hlt)
                rw [h255] at hcell
                go_wp2
                go_round
                case rel => exact ⟨n + 1, by omega, by go_num⟩
                case measure => simp [intOf]; omega
              · go_wp2
                go_ret
                exact ⟨rfl, HBW.out⟩
          · have hhe : (strOf (afterL k)).toList.isEmpty = false := by rw [HHE.out, decide_eq_false h0]
            obtain ⟨hxk, hxa, hka, hbo⟩ := after_facts HV.out.small HU.out.small h0
            rw [decide_eq_true ⟨by omega, hpre⟩] at hbo
            have hge := run_geq (strOf x) (strOf k)
            have hgt := run_gtr (strOf (afterL k)) (strOf k)
            rw [hka] at hgt
            clear h0 hka
            cases hA : lessN x k <;> cases hC : lessN x (afterL k) <;> rw [hA, hC] at hbo <;> rw [hA] at hxk <;> rw [hC] at hxa <;> rw [hxk] at hge <;> simp only [Bool.not_true, Bool.not_false, Bool.true_and, Bool.false_and, reduceCtorEq] at hbo
            all_goals
              go_wp2
              go_ret
              exact ⟨rfl, HBW.out⟩
        · rw [decide_eq_false hpre] at hsm
          go_wp2
          go_quiet (fail)
          clear hup hcx hck hsm
          have HBW : Hid (Below w.heap.size w (w2.drewN nq)) := HB2.out.trans (below_drewN _ _)
          have HVW := Lib.hid (bytes_drewN HV2.out nq); have HUW := Lib.hid (bytes_drewN HU2.out nq)
          have hckW := HVW.out.toString (P := Try.prog) byT (d := 9) (by kernel_rfl)
          have hcxW := HUW.out.toString (P := Try.prog) byT (d := 9) (by kernel_rfl)
          generalize w2.drewN nq = W at *
          by_cases h0 : afterL k = []
          · have hhe : (strOf (afterL k)).toList.isEmpty = true := by rw [HHE.out, decide_eq_true h0]
            have HALL := Lib.hid ((afterL_nil HV.out.small).1 h0)
            clear h0
            go_wp2
            go_loop [7] (fun i => ∃ n : Nat, n ≤ k.length ∧ i = .int .i64 n) (fun i => k.length - (intOf i).toNat)
            case atStart => exact ⟨0, by omega, rfl⟩
            case round =>
              obtain ⟨n, hn, rfl⟩ := hrel
              by_cases hlt : n < k.length
              · obtain ⟨b1, o1, rfl, hcell⟩ := HVW.out.spot n hlt
                have h255 : atB k n = 255 := by
                  rw [atB_of hlt]; exact HALL.out _ (List.getElem_mem hlt)
                rw [h255] at hcell
                go_wp2
                go_round
                case rel => exact ⟨n + 1, by omega, by go_num⟩
                case measure => simp [intOf]; omega
              · go_wp2
                go_ret
                exact ⟨rfl, HBW.out⟩
          · have hhe : (strOf (afterL k)).toList.isEmpty = false := by rw [HHE.out, decide_eq_false h0]
            obtain ⟨hxk, hxa, hka, hbo⟩ := after_facts HV.out.small HU.out.small h0
            rw [decide_eq_false (fun h => hpre h.2)] at hbo
            have hge := run_geq (strOf x) (strOf k)
            have hgt := run_gtr (strOf (afterL k)) (strOf k)
            rw [hka] at hgt
            clear h0 hka
            cases hA : lessN x k <;> cases hC : lessN x (afterL k) <;> rw [hA, hC] at hbo <;> rw [hA] at hxk <;> rw [hC] at hxa <;> rw [hxk] at hge <;> simp only [Bool.not_true, Bool.not_false, Bool.true_and, Bool.false_and, reduceCtorEq] at hbo
            all_goals
              go_wp2
              go_ret
              exact ⟨rfl, HBW.out⟩
      · have hgt' : x.length < k.length := by omega
        have hd : decide (k.length ≤ x.length) = false := decide_eq_false (by omega)
        clear hle
        go_wp2
        go_quiet (fail)
        clear hck
        have HBW : Hid (Below w.heap.size w (w2.drewN nq)) := HB2.out.trans (below_drewN _ _)
        have HVW := Lib.hid (bytes_drewN HV2.out nq); have HUW := Lib.hid (bytes_drewN HU2.out nq)
        have hckW := HVW.out.toString (P := Try.prog) byT (d := 9) (by kernel_rfl)
        have hcxW := HUW.out.toString (P := Try.prog) byT (d := 9) (by kernel_rfl)
        generalize w2.drewN nq = W at *
        by_cases h0 : afterL k = []
        · have hhe : (strOf (afterL k)).toList.isEmpty = true := by rw [HHE.out, decide_eq_true h0]
          have HALL := Lib.hid ((afterL_nil HV.out.small).1 h0)
          clear h0
          go_wp2
          go_loop [7] (fun i => ∃ n : Nat, n ≤ k.length ∧ i = .int .i64 n) (fun i => k.length - (intOf i).toNat)
          case atStart => exact ⟨0, by omega, rfl⟩
          case round =>
            obtain ⟨n, hn, rfl⟩ := hrel
            by_cases hlt : n < k.length
            · obtain ⟨b1, o1, rfl, hcell⟩ := HVW.out.spot n hlt
              have h255 : atB k n = 255 := by
                rw [atB_of hlt]; exact HALL.out _ (List.getElem_mem hlt)
              rw [h255] at hcell
              go_wp2
              go_round
              case rel => exact ⟨n + 1, by omega, by go_num⟩
              case measure => simp [intOf]; omega
            · go_wp2
              go_ret
              exact ⟨rfl, HBW.out⟩
        · have hhe : (strOf (afterL k)).toList.isEmpty = false := by rw [HHE.out, decide_eq_false h0]
          obtain ⟨hxk, hxa, hka, hbo⟩ := after_facts HV.out.small HU.out.small h0
          rw [decide_eq_false (fun h => by omega)] at hbo
          have hge := run_geq (strOf x) (strOf k)
          have hgt := run_gtr (strOf (afterL k)) (strOf k)
          rw [hka] at hgt
          clear h0 hka
          cases hA : lessN x k <;> cases hC : lessN x (afterL k) <;> rw [hA, hC] at hbo <;> rw [hA] at hxk <;> rw [hC] at hxa <;> rw [hxk] at hge <;> simp only [Bool.not_true, Bool.not_false, Bool.true_and, Bool.false_and, reduceCtorEq] at hbo
          all_goals
            go_wp2
            go_ret
            exact ⟨rfl, HBW.out⟩

set_option maxRecDepth 100000 in
theorem keyAfter_lifted (os : Os) (started : os.Started) (H : Type) (enc : TypeId × Value → H) :
    ReturnsInHanded {} Try.checked os 5 .any (Rows.keyAfterSpec.pre6 enc Try.prog Try.f5 Rows.keyAfterRow.domain false) (Rows.keyAfterSpec.post enc Try.prog Try.f5 false true false false) := by
  refine returnsInHanded_of_change (C := Try.checked) own_none started (by kernel_rfl) Try.func5
    (ChangeSpec.witness6 (enc := enc) (C := Try.checked) false ⟨#[], #[.slice none 0 0, .slice none 0 0], []⟩ 8 (by kernel_rfl) (by kernel_rfl) (by kernel_rfl) (by kernel_rfl)) ?_
  intro W base args ds gs before hval0 hW hcnd _
  have hval : ∀ (j : Nat) t v, Try.f5.params[j]? = some t → args[j]? = some v → Value.okWide Try.prog W .any base t v := hval0
  have hW' := hW
  obtain ⟨p, q, hA0, hV, rfl, hfz, hnd⟩ := hW
  have hA : DataW.TrodAll enc Try.prog W 0 (fun _ => true) true Try.f5.params.toList args.toList ds p := hA0
  have hp : Try.f5.params = #[22, 22] := by kernel_rfl
  rw [hp] at hA hval
  obtain ⟨v0, vs0, d0, ds0, p0, q0, ha0, rfl, rfl, h0, hA⟩ := trodAll_cons hA
  obtain ⟨v1, vs1, d1, ds1, p1, q1, rfl, rfl, rfl, h1, hA⟩ := trodAll_cons hA
  obtain ⟨rfl, rfl, rfl⟩ := trodAll_nil hA
  obtain rfl : args = #[v0, v1] := by cases args; simp_all
  obtain ⟨rfl, rfl⟩ := trodVars_none hV
  obtain ⟨l, hl⟩ := open_bytes byT (by kernel_rfl) (hval 0 22 v0 rfl rfl) h0
  obtain ⟨m, hm⟩ := open_bytes byT (by kernel_rfl) (hval 1 22 v1 rfl rfl) h1
  refine (keyAfter_any v0 v1 l m W hl hm).mono fun e W' ⟨he, hb⟩ => ?_
  subst he
  exact ⟨_, rfl, law_post (tb := 4) laidOut (by rw [hp]; intro t ht; simp at ht; rcases ht with rfl | rfl <;> exact ⟨by kernel_rfl, by decide +kernel⟩) rfl rfl (by kernel_rfl) (by kernel_rfl) hW' hb⟩

theorem keyAfter_holds : Rows.KeyAfterSaid :=
  OpenClaim.holds_of_wide 5 Try.f5 rfl rfl rfl rfl rfl rfl rfl ⟨rfl, rfl, rfl, rfl, rfl⟩ rfl rfl rfl rfl rfl (by kernel_rfl) Try.func5 (by kernel_rfl)
    (of_decide_eq_true (by kernel_rfl)) (by unfold Func.isWrapper; rw [if_neg (by decide +kernel)]; exact ⟨rfl, rfl⟩)
    (fun os started H enc _ => keyAfter_lifted os started H enc)
end Go.Proofs.Ytfebdgnojacoiaa

