/- How a row is grouped: all of it, none too great, none too small but a single one, as even as may be, as few as may be: for every number. -/
import Derived.Test.YtnbnnonjbjbbkaaLfH
import Derived.Test.YtnbnnonjbjbbkaaRows
namespace Go.By
open Go Go.RowKit
theorem gsum_le {n j : Nat} (h : 1 ≤ n) (hj : j ≤ gk n) : gsum n j ≤ n := by
  have h1 := gsum_all h
  have h2 : gsum n j ≤ gsum n (gk n) := by
    unfold gsum
    have := Nat.mul_le_mul_right (gq n) hj
    omega
  omega
theorem g_pos {n : Nat} (h : 1 ≤ n) (i : Nat) : 1 ≤ grpAt n i := by
  have := gq_pos h
  unfold grpAt
  omega
theorem g_least {n : Nat} (h : 1 ≤ n) (h1 : 1 < gk n) (i : Nat) : 4 ≤ grpAt n i := by
  have := gq_least h h1
  unfold grpAt
  omega
end Go.By
namespace Go.Proofs.Ytnbnnonjbjbbkaa
open Go Go.ChangeShapes Go.WideShapes Go.ChangeAt Go.RowKit Go.By

def GlRel (w : World) (m : Nat) (s i : Value) (W : World) : Prop := ∃ k : Nat, k ≤ gk m ∧ i = .int .i64 k ∧ s = .int .i64 (gsum m k : Nat) ∧ Below w.heap.size w W

set_option maxRecDepth 100000 in
set_option maxHeartbeats 1000000 in
theorem groups_law (m : Nat) (h1 : 1 ≤ m) (h2 : m ≤ 5000) (w : World) : Calls Try.prog 3 #[.int .i64 (m : Nat)] w fun e w' => e = .returned (.bool true) ∧ Below w.heap.size w w' := by
  have hm9 : (m : Int) ≤ 5000 := by omega
  have hm1 : (1 : Int) ≤ m := by omega
  have HG : Hid (∀ W, Calls Try.prog 6 #[.int .i64 (m : Nat)] W (IntsTold W (groupsOf m))) := fun W => groups_any m W h1 (by omega)
  have hgl := gk_le h1
  have hG1 := gk_pos h1
  have hfew := g_few h1
  have hall := gsum_all h1
  have HAT : Hid (∀ k, k < gk m → (groupsOf m)[k]? = some (grpAt m k)) := fun k hk => by
    have hl : k < (groupsOf m).length := by rw [groupsOf_length]; exact hk
    rw [List.getElem?_eq_getElem hl, groupsOf_at hl]
  have HS : Hid (∀ k, k ≤ gk m → gsum m k ≤ m) := fun k hk => gsum_le h1 hk
  have HX : Hid (∀ k, 1 ≤ grpAt m k ∧ grpAt m k ≤ 8 ∧ (1 < gk m → 4 ≤ grpAt m k) ∧ grpAt m 0 - grpAt m k ≤ 1 ∧ grpAt m k ≤ grpAt m 0 ∧ grpAt m (k + 1) ≤ grpAt m k) := fun k => ⟨g_pos h1 k, g_most h1 k, fun hh => g_least h1 hh k, g_even.1, g_even.2, g_falls⟩
  have HL : Hid ((groupsOf m).length = gk m) := groupsOf_length m
  clear h1 h2
  go_enter Try.func3, Try.ntmps3
  go_wp2_with fail
  refine (begun_any w).mono ?_
  rintro e w1 ⟨rfl, hb1⟩
  have HB1 := Lib.hid hb1
  clear hb1
  go_wp2_with fail
  refine (HG.out w1).mono ?_
  rintro e w2 ⟨p, c, rfl, ho, hb2⟩
  rw [HL.out] at ho ⊢
  have HB2 : Hid (Below w.heap.size w w2) := HB1.out.trans (hb2.mono HB1.out.size)
  obtain ⟨p', c', hv, hc1, hc2, hat⟩ := owns_at ho (by decide)
  obtain ⟨rfl, rfl⟩ : p = p' ∧ c = c' := by simpa using hv
  have HC : Hid (∀ k, k < gk m → ∃ g, p = some ⟨g, 0, none⟩ ∧ w2.cell? ⟨g, k, none⟩ = some (.int .i64 (grpAt m k : Nat))) := fun k hk => by
    have := hat k (.int .i64 (grpAt m k : Nat)) (by unfold intsC; rw [List.getElem?_map, HAT.out k hk]; rfl)
    simpa using this
  have hall' : gsum m (gk m) = m := hall
  have H0 : Hid (GlRel w2 m (.int .i64 0) (.int .i64 0) w2) := ⟨0, Nat.zero_le _, rfl, by unfold gsum; simp, Below.refl _ _⟩
  have hGc : ((gk m : Nat) : Int) ≤ 5000 := by omega
  have hGI : (1 : Int) ≤ (gk m : Nat) := by omega
  have HALL := Lib.hid hall
  have HNX : Hid (∀ k, gsum m (k + 1) = gsum m k + grpAt m k) := fun k => gsum_succ m k
  have HREL : Hid (∀ s i W, GlRel w2 m s i W → ∃ k : Nat, k ≤ gk m ∧ i = .int .i64 k ∧ s = .int .i64 (gsum m k : Nat) ∧ Below w2.heap.size w2 W) := fun _ _ _ h => h
  have HMK : Hid (∀ k W, k ≤ gk m → Below w2.heap.size w2 W → GlRel w2 m (.int .i64 (gsum m k : Nat)) (.int .i64 (k : Nat)) W) := fun k W h1 h2 => ⟨k, h1, rfl, rfl, h2⟩
  have hmul : (8 : Int) * (((gk m : Nat) : Int) - 1) < m := by omega
  clear ho hb2 hv hc1 hc2 hat hall hall' hfew hgl HAT HG HL hG1
  generalize gk m = G at *
  go_wp2
  go_loopw [4, 5] (fun s i W => GlRel w2 m s i W) (fun _ i _ => G - (intOf i).toNat)
  case atStart => exact H0.out
  case round =>
    clear H0
    obtain ⟨k, hk, rfl, rfl, hb⟩ := HREL.out _ _ _ hrel
    clear hrel
    by_cases hlt : k < G
    · obtain ⟨g, rfl, hck⟩ := HC.out k hlt
      obtain ⟨g', hg', hc0⟩ := HC.out 0 (by omega)
      obtain rfl : g = g' := by simpa using hg'
      obtain ⟨x1, x2, x3, x4, x5, -⟩ := HX.out k
      have hcell := (hb.cell (p := ⟨g, k, none⟩) (block_lt_of_cell hck)).trans hck
      have hcell0 := (hb.cell (p := ⟨g, 0, none⟩) (block_lt_of_cell hc0)).trans hc0
      have hsk := HS.out k hk
      have hnx := HNX.out k
      have HR : Hid (∀ W, Below wr.heap.size wr W → GlRel w2 m (.int .i64 (gsum m k + grpAt m k : Nat)) (.int .i64 (k + 1 : Nat)) W) := fun W hW => by
        rw [← hnx]
        exact HMK.out (k + 1) W hlt (hb.trans (hW.mono hb.size))
      have d1 : decide (((grpAt m k : Nat) : Int) < 1) = false := by simp; omega
      have d2 : decide ((8 : Int) < ((grpAt m k : Nat) : Int)) = false := by simp; omega
      have HLT := Lib.hid hlt
      generalize gsum m k = S at *
      have hS9 : (S : Int) ≤ 5000 := by omega
      generalize hX : grpAt m k = X at *
      have hX9 : (X : Int) ≤ 8 := by omega
      by_cases hG1 : 1 < G
      · have d3 : decide ((1 : Int) < (G : Int)) = true := by simp; omega
        have d4 : decide ((X : Int) < 4) = false := by simp; omega
        by_cases hk0 : k = 0
        · subst hk0
          clear hb HNX hnx hlt hck hc0 x1 x2 x3 x4 x5 hsk
          go_wp2
          go_quiet (fail)
          have HR2 := Lib.hid (HR.out _ (below_drewN wr nq))
          clear HR
          go_wp2
          go_roundw
          case rel => exact HR2.out
          case measure => simp [intOf]; have := HLT.out; omega
        · obtain ⟨j, hj⟩ : ∃ j, k = j + 1 := ⟨k - 1, by omega⟩
          obtain ⟨g2, hg2, hc2⟩ := HC.out j (by omega)
          obtain rfl : g = g2 := by simpa using hg2
          have hcell2 := (hb.cell (p := ⟨g, j, none⟩) (block_lt_of_cell hc2)).trans hc2
          obtain ⟨y1, y2, -, -, -, x6⟩ := HX.out j
          rw [← hj, hX] at x6
          generalize grpAt m j = Y at *
          generalize grpAt m 0 = Z at *
          have d5 : decide (0 < k) = true := by simp; omega
          have hkG : (k : Int) < G := by omega
          have d6 : decide ((Y : Int) < (X : Int)) = false := by simp; omega
          have d6' : decide (Y < X) = false := by simp; omega
          have d7 : decide ((1 : Int) < (Z : Int) - (X : Int)) = false := by simp; omega
          have e1 : (k : Int) - 1 = j := by omega
          have hj0 : (0 : Int) ≤ j := by omega
          have hjG : (j : Int) < G := by omega
          have hZ9 : (Z : Int) ≤ 9 := by omega
          clear hb HNX hnx hlt hck hc0 x1 x2 x3 x4 x5 x6 y1 y2 hsk hc2 hj hk0 hX hk
          go_wp2
          go_quiet (fail)
          have HR2 := Lib.hid (HR.out _ (below_drewN wr nq))
          clear HR
          go_wp2
          go_roundw
          case rel => exact HR2.out
          case measure => simp [intOf]; have := HLT.out; omega
      · have d3 : decide ((1 : Int) < (G : Int)) = false := by simp; omega
        obtain rfl : k = 0 := by omega
        clear hb HNX hnx hlt hck hc0 x1 x2 x3 x4 x5 hsk
        go_wp2
        go_quiet (fail)
        have HR2 := Lib.hid (HR.out _ (below_drewN wr nq))
        clear HR
        go_wp2
        go_roundw
        case rel => exact HR2.out
        case measure => simp [intOf]; have := HLT.out; omega
    · obtain rfl : k = G := by omega
      have HB := Lib.hid (HB2.out.trans (hb.mono HB2.out.size))
      rw [HALL.out]
      clear hb hlt
      go_wp2
      go_ret
      exact ⟨rfl, HB.out⟩

set_option maxRecDepth 100000 in
theorem groups_less (n : Int) (h : n < 0) (w : World) : Calls Try.prog 3 #[.int .i64 n] w fun e w' => e = .returned (.bool true) ∧ Below w.heap.size w w' := by
  have hm5 : ¬ 5000 < n := by omega
  have hmx : ¬ 0 ≤ n := by omega
  have hm1 : n < 1 := by omega
  go_enter Try.func3, Try.ntmps3
  go_wp2_with fail
  refine (begun_any w).mono ?_
  rintro e w1 ⟨rfl, hb1⟩
  have HB1 := Lib.hid hb1
  clear hb1
  go_wp2_with fail
  refine (groups_none n w1 (.inl (by omega))).mono ?_
  rintro e w2 ⟨rfl, rfl⟩
  go_wp2
  go_loopw [4, 5] (fun s i W => s = .int .i64 0 ∧ i = .int .i64 0 ∧ W = w2) (fun _ _ _ => 0)
  case atStart => exact ⟨rfl, rfl, rfl⟩
  case round =>
    obtain ⟨rfl, rfl, rfl⟩ := hrel
    go_wp2
    go_ret
    exact ⟨rfl, HB1.out⟩

set_option maxRecDepth 100000 in
theorem groups_nil (w : World) : Calls Try.prog 3 #[.int .i64 0] w fun e w' => e = .returned (.bool true) ∧ Below w.heap.size w w' := by
  go_enter Try.func3, Try.ntmps3
  go_wp2_with fail
  refine (begun_any w).mono ?_
  rintro e w1 ⟨rfl, hb1⟩
  have HB1 := Lib.hid hb1
  clear hb1
  go_wp2_with fail
  refine (groups_none 0 w1 (.inl (by decide))).mono ?_
  rintro e w2 ⟨rfl, rfl⟩
  go_wp2
  go_loopw [4, 5] (fun s i W => s = .int .i64 0 ∧ i = .int .i64 0 ∧ W = w2) (fun _ _ _ => 0)
  case atStart => exact ⟨rfl, rfl, rfl⟩
  case round =>
    obtain ⟨rfl, rfl, rfl⟩ := hrel
    go_wp2
    go_ret
    exact ⟨rfl, HB1.out⟩

set_option maxRecDepth 100000 in
theorem groups_more (n : Int) (h : 5000 < n) (w : World) : Calls Try.prog 3 #[.int .i64 n] w fun e w' => e = .returned (.bool true) ∧ Below w.heap.size w w' := by
  go_enter Try.func3, Try.ntmps3
  go_wp2_with fail
  refine (begun_any w).mono ?_
  rintro e w1 ⟨rfl, hb1⟩
  have HB1 := Lib.hid hb1
  clear hb1
  go_wp2
  go_ret
  exact ⟨rfl, HB1.out⟩

theorem leafGroups_any (n : Int) (w : World) : Calls Try.prog 3 #[.int .i64 n] w fun e w' => e = .returned (.bool true) ∧ Below w.heap.size w w' := by
  by_cases h1 : n < 1
  · by_cases h0 : n < 0
    · exact groups_less n h0 w
    · obtain rfl : n = 0 := by omega
      exact groups_nil w
  · by_cases h2 : 5000 < n
    · exact groups_more n h2 w
    · obtain ⟨m, rfl⟩ : ∃ m : Nat, n = m := ⟨n.toNat, by omega⟩
      exact groups_law m (by omega) (by omega) w

set_option maxRecDepth 100000 in
theorem leafGroups_lifted (os : Os) (started : os.Started) (H : Type) (enc : TypeId × Value → H) :
    ReturnsInHanded {} Try.checked os 3 .any (Rows.leafGroupsSpec.pre6 enc Try.prog Try.f3 Rows.leafGroupsRow.domain false) (Rows.leafGroupsSpec.post enc Try.prog Try.f3 false true false false) := by
  refine returnsInHanded_of_change (C := Try.checked) own_none started (by kernel_rfl) Try.func3
    (ChangeSpec.witness6 (enc := enc) (C := Try.checked) false ⟨#[], #[.int .i64 0], []⟩ 8 (by kernel_rfl) (by kernel_rfl) (by kernel_rfl) (by kernel_rfl)) ?_
  intro W base args ds gs before hval0 hW hcnd _
  have hval : ∀ (j : Nat) t v, Try.f3.params[j]? = some t → args[j]? = some v → Value.okWide Try.prog W .any base t v := hval0
  have hW' := hW
  obtain ⟨p, q, hA0, hV, rfl, hfz, hnd⟩ := hW
  have hA : DataW.TrodAll enc Try.prog W 0 (fun _ => true) true Try.f3.params.toList args.toList ds p := hA0
  have hp : Try.f3.params = #[3] := by kernel_rfl
  rw [hp] at hA hval
  obtain ⟨v0, d0, rfl, rfl, h0⟩ := trodAll_one hA
  obtain ⟨rfl, rfl⟩ := trodVars_none hV
  obtain ⟨a, rfl, _, _, wa⟩ := open_int (P := Try.prog) (t := 3) (k := .i64) (by kernel_rfl) (hval 0 3 v0 rfl rfl) h0
  refine (leafGroups_any a W).mono fun e W' ⟨he, hb⟩ => ?_
  subst he
  exact ⟨_, rfl, law_post (tb := 4) laidOut (by rw [hp]; intro t ht; simp at ht; subst ht; exact ⟨by kernel_rfl, by decide +kernel⟩) rfl rfl (by kernel_rfl) (by kernel_rfl) hW' hb⟩

theorem leafGroups_holds : Rows.LeafGroupsSaid :=
  OpenClaim.holds_of_wide 3 Try.f3 rfl rfl rfl rfl rfl rfl rfl ⟨rfl, rfl, rfl, rfl, rfl⟩ rfl rfl rfl rfl rfl (by kernel_rfl) Try.func3 (by kernel_rfl)
    (of_decide_eq_true (by kernel_rfl)) (by unfold Func.isWrapper; rw [if_neg (by decide +kernel)]; exact ⟨rfl, rfl⟩)
    (fun os started H enc _ => leafGroups_lifted os started H enc)
end Go.Proofs.Ytnbnnonjbjbbkaa

