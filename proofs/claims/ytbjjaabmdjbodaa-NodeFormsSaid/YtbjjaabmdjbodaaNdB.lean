/- Nodes in a program: rows that may be. -/
import Derived.Test.YtbjjaabmdjbodaaNdA
namespace Go.Proofs.Ytbjjaabmdjbodaa
open Go Go.RowKit Go.By

def MayItsRel (w : World) (its : List NIt) (last i : Value) (wr : World) : Prop :=
  ∃ (k : Nat) (L : List Nat), k ≤ its.length ∧ i = .int .i64 k ∧ Bytes w last L ∧ itsFrom [] its = itsFrom L (its.drop k) ∧ Below w.heap.size w wr
theorem itsFrom_at {L : List Nat} {its : List NIt} {k : Nat} (h : k < its.length) : itsFrom L (its.drop k) = ((follows L its[k].k && decide (its[k].v.length ≤ 120)) && itsFrom its[k].k (its.drop (k + 1))) := by
  rw [List.drop_eq_getElem_cons h, itsFrom]

set_option maxRecDepth 100000 in
theorem mayItems_any (p : Option Addr) (cap : Nat) (its : List NIt) (w : World) (h : RowAt KItem w p cap its) :
    Calls Try.prog 30 #[.slice p its.length cap] w fun e w' => e = .returned (.bool (itsFrom [] its)) ∧ Below w.heap.size w w' := by
  have h0 : MayItsRel w its (.slice none 0 0) (.int .i64 (0 : Nat)) w := ⟨0, [], by omega, rfl, Bytes.nil w, rfl, Below.refl _ _⟩
  have H0 := Lib.hid h0; have HR := Lib.hid h
  obtain ⟨N, hN⟩ : ∃ N, N = its.length := ⟨_, rfl⟩
  have hN9 : (N : Int) ≤ 9223372036854775807 := by have := h.le; have := h.most; unfold maxLen at this; omega
  have HN := Lib.hid hN
  rw [← hN]
  clear h0 h hN
  go_enter Try.func30, Try.ntmps30
  go_wp2
  go_loopw [3, 8] (fun x i W => MayItsRel w its x i W) (fun _ i _ => N - (intOf i).toNat)
  case atStart => exact H0.out
  case round =>
    clear H0
    obtain ⟨k, L, hk, rfl, hL, hE, hB⟩ := hrel
    by_cases hlt : k < N
    · have hkl : k < its.length := by rw [← HN.out]; exact hlt
      obtain ⟨lb, lo, rfl, hat⟩ := HR.out.some (by omega)
      obtain ⟨cs, hc, a, b, rfl, ha, hb⟩ := hat k hkl
      obtain ⟨c0, c1⟩ := (hc.below hB).two
      simp only [KItem] at c0 c1
      have hE2 := hE
      rw [itsFrom_at hkl] at hE2
      generalize hit : its[k] = it at *
      obtain ⟨qa, ca, rfl, _⟩ := ha.any
      obtain ⟨qb, cb, rfl, _⟩ := hb.any
      have HA := Lib.hid ha; have HLL := Lib.hid hL; have HB := Lib.hid hB; have HE := Lib.hid hE2; have HK := Lib.hid hlt
      have HF := Lib.hid (fun (W : World) (hW : Below w.heap.size w W) => mayFollow_any u3 (.slice qa it.k.length ca) L it.k W (hL.below hW) (ha.below hW))
      clear ha hL hB hE hE2 hc hat hb hk hkl hit
      go_wp2_with fail
      refine (HF.out _ (HB.out.alloc HB.out.size _)).mono ?_
      rintro e w1 ⟨rfl, rfl⟩
      cases hf : follows L it.k with
      | false =>
        have E : Hid (itsFrom [] its = false) := by unfold Hid; rw [HE.out, hf]; rfl
        go_wp2
        go_ret
        exact ⟨by rw [E.out]; rfl, HB.out.alloc HB.out.size _⟩
      | true =>
        by_cases hv : (it.v.length : Int) ≤ 120
        · have E : Hid (itsFrom [] its = itsFrom it.k (its.drop (k + 1))) := by unfold Hid; rw [HE.out, hf, decide_eq_true (show it.v.length ≤ 120 by omega)]; rfl
          have HNX : Hid (MayItsRel w its (.slice qa it.k.length ca) (.int .i64 (k + 1 : Nat)) (wr.alloc (.cells #[.slice qa it.k.length ca, .slice qb it.v.length cb] 38))) :=
            ⟨k + 1, it.k, by have := HN.out; have := HK.out; omega, rfl, HA.out, E.out, HB.out.alloc HB.out.size _⟩
          generalize it.k.length = LK at *
          generalize it.v.length = LV at *
          go_wp2
          go_roundw
          case rel => exact HNX.out
          case measure => simp [intOf]; have := HK.out; omega
        · have E : Hid (itsFrom [] its = false) := by unfold Hid; rw [HE.out, hf, decide_eq_false (show ¬ it.v.length ≤ 120 by omega)]; rfl
          generalize it.k.length = LK at *
          generalize it.v.length = LV at *
          go_wp2
          go_ret
          exact ⟨by rw [E.out]; rfl, HB.out.alloc HB.out.size _⟩
    · have E : Hid (itsFrom [] its = true) := by unfold Hid; rw [hE, List.drop_of_length_le (by rw [← HN.out]; omega)]; rfl
      have HB := Lib.hid hB
      clear hE hL hB
      obtain rfl : k = N := by have := HN.out; omega
      go_wp2
      go_ret
      exact ⟨by rw [E.out]; rfl, HB.out⟩

def MayKsRel (w : World) (ks : List (List Nat)) (last i : Value) (wr : World) : Prop :=
  ∃ (k : Nat) (L : List Nat), k ≤ ks.length ∧ i = .int .i64 k ∧ Bytes w last L ∧ risesFrom [] ks = risesFrom L (ks.drop k) ∧ Below w.heap.size w wr
theorem risesFrom_at {L : List Nat} {ks : List (List Nat)} {k : Nat} (h : k < ks.length) : risesFrom L (ks.drop k) = (follows L ks[k] && risesFrom ks[k] (ks.drop (k + 1))) := by
  rw [List.drop_eq_getElem_cons h, risesFrom]

set_option maxRecDepth 100000 in
theorem mayKeys_any (p : Option Addr) (cap : Nat) (ks : List (List Nat)) (w : World) (h : RowAt KBytes w p cap ks) :
    Calls Try.prog 31 #[.slice p ks.length cap] w fun e w' => e = .returned (.bool (risesFrom [] ks)) ∧ Below w.heap.size w w' := by
  have h0 : MayKsRel w ks (.slice none 0 0) (.int .i64 (0 : Nat)) w := ⟨0, [], by omega, rfl, Bytes.nil w, rfl, Below.refl _ _⟩
  have H0 := Lib.hid h0; have HR := Lib.hid h
  obtain ⟨N, hN⟩ : ∃ N, N = ks.length := ⟨_, rfl⟩
  have hN9 : (N : Int) ≤ 9223372036854775807 := by have := h.le; have := h.most; unfold maxLen at this; omega
  have HN := Lib.hid hN
  rw [← hN]
  clear h0 h hN
  go_enter Try.func31, Try.ntmps31
  go_wp2
  go_loopw [3, 8] (fun x i W => MayKsRel w ks x i W) (fun _ i _ => N - (intOf i).toNat)
  case atStart => exact H0.out
  case round =>
    clear H0
    obtain ⟨k, L, hk, rfl, hL, hE, hB⟩ := hrel
    by_cases hlt : k < N
    · have hkl : k < ks.length := by rw [← HN.out]; exact hlt
      obtain ⟨lb, lo, rfl, hat⟩ := HR.out.some (by omega)
      obtain ⟨cs, hc, a, rfl, ha⟩ := hat k hkl
      have c0 := (hc.below hB).one
      simp only [KBytes, Nat.mul_one] at c0
      have hE2 := hE
      rw [risesFrom_at hkl] at hE2
      generalize hit : ks[k] = it at *
      obtain ⟨qa, ca, rfl, _⟩ := ha.any
      have HA := Lib.hid ha; have HLL := Lib.hid hL; have HB := Lib.hid hB; have HE := Lib.hid hE2; have HK := Lib.hid hlt
      have HF := Lib.hid (fun (W : World) (hW : Below w.heap.size w W) => mayFollow_any u3 (.slice qa it.length ca) L it W (hL.below hW) (ha.below hW))
      clear ha hL hB hE hE2 hc hat hk hkl hit
      go_wp2_with fail
      refine (HF.out _ HB.out).mono ?_
      rintro e w1 ⟨rfl, rfl⟩
      cases hf : follows L it with
      | false =>
        have E : Hid (risesFrom [] ks = false) := by unfold Hid; rw [HE.out, hf]; rfl
        go_wp2
        go_ret
        exact ⟨by rw [E.out]; rfl, HB.out⟩
      | true =>
        have E : Hid (risesFrom [] ks = risesFrom it (ks.drop (k + 1))) := by unfold Hid; rw [HE.out, hf]; rfl
        have HNX : Hid (MayKsRel w ks (.slice qa it.length ca) (.int .i64 (k + 1 : Nat)) w1) :=
          ⟨k + 1, it, by have := HN.out; have := HK.out; omega, rfl, HA.out, E.out, HB.out⟩
        generalize it.length = LK at *
        go_wp2
        go_roundw
        case rel => exact HNX.out
        case measure => simp [intOf]; have := HK.out; omega
    · have E : Hid (risesFrom [] ks = true) := by unfold Hid; rw [hE, List.drop_of_length_le (by rw [← HN.out]; omega)]; rfl
      have HB := Lib.hid hB
      clear hE hL hB
      obtain rfl : k = N := by have := HN.out; omega
      go_wp2
      go_ret
      exact ⟨by rw [E.out]; rfl, HB.out⟩

def MayKdsRel (w : World) (kids : List NKd) (i : Value) (wr : World) : Prop :=
  ∃ (k : Nat), k ≤ kids.length ∧ i = .int .i64 k ∧ kids.all mayKd = (kids.drop k).all mayKd ∧ Below w.heap.size w wr

set_option maxRecDepth 100000 in
theorem mayKids_any (p : Option Addr) (cap : Nat) (kids : List NKd) (w : World) (h : RowAt KRef w p cap kids) :
    Calls Try.prog 32 #[.slice p kids.length cap] w fun e w' => e = .returned (.bool (kids.all mayKd)) ∧ Below w.heap.size w w' := by
  have h0 : MayKdsRel w kids (.int .i64 (0 : Nat)) w := ⟨0, by omega, rfl, rfl, Below.refl _ _⟩
  have H0 := Lib.hid h0; have HR := Lib.hid h
  obtain ⟨N, hN⟩ : ∃ N, N = kids.length := ⟨_, rfl⟩
  have hN9 : (N : Int) ≤ 9223372036854775807 := by have := h.le; have := h.most; unfold maxLen at this; omega
  have HN := Lib.hid hN
  rw [← hN]
  clear h0 h hN
  go_enter Try.func32, Try.ntmps32
  go_wp2
  go_loopw [7] (fun i W => MayKdsRel w kids i W) (fun i _ => N - (intOf i).toNat)
  case atStart => exact H0.out
  case round =>
    clear H0
    obtain ⟨k, hk, rfl, hE, hB⟩ := hrel
    by_cases hlt : k < N
    · have hkl : k < kids.length := by rw [← HN.out]; exact hlt
      obtain ⟨lb, lo, rfl, hat⟩ := HR.out.some (by omega)
      obtain ⟨cs, hc, rfl, hoff, hct⟩ := hat k hkl
      obtain ⟨c0, c1⟩ := (hc.below hB).two
      simp only [KRef] at c0 c1
      have hE2 := hE
      rw [List.drop_eq_getElem_cons hkl, List.all_cons] at hE2
      generalize hit : kids[k] = it at *
      obtain ⟨off, ct⟩ := it
      simp only at c0 c1 hoff hct
      have HB := Lib.hid hB; have HE := Lib.hid hE2; have HK := Lib.hid hlt
      have HB1 : Hid (Below w.heap.size w (wr.alloc (.cells #[.int .i64 off, .int .u64 (ct : Nat)] 41))) := HB.out.alloc HB.out.size _
      clear hB hE hE2 hc hat hk hkl hit
      by_cases h1 : 1 ≤ off
      · by_cases h2 : (1 : Int) ≤ ct
        · by_cases h3 : (ct : Int) ≤ 1099511627776
          · have E : Hid (kids.all mayKd = (kids.drop (k + 1)).all mayKd) := by unfold Hid; rw [HE.out, mayKd, decide_eq_true h1, decide_eq_true (show 1 ≤ ct by omega), decide_eq_true (show ct ≤ 1099511627776 by omega)]; rfl
            have HNX : Hid (MayKdsRel w kids (.int .i64 (k + 1 : Nat)) (wr.alloc (.cells #[.int .i64 off, .int .u64 (ct : Nat)] 41))) :=
              ⟨k + 1, by have := HN.out; have := HK.out; omega, rfl, E.out, HB1.out⟩
            go_wp2
            go_roundw
            case rel => exact HNX.out
            case measure => simp [intOf]; have := HK.out; omega
          · have E : Hid (kids.all mayKd = false) := by unfold Hid; rw [HE.out, mayKd, decide_eq_false (show ¬ ct ≤ 1099511627776 by omega)]; simp
            go_wp2
            go_ret
            exact ⟨by rw [E.out]; rfl, HB1.out⟩
        · have E : Hid (kids.all mayKd = false) := by unfold Hid; rw [HE.out, mayKd, decide_eq_false (show ¬ 1 ≤ ct by omega)]; simp
          go_wp2
          go_ret
          exact ⟨by rw [E.out]; rfl, HB1.out⟩
      · have E : Hid (kids.all mayKd = false) := by unfold Hid; rw [HE.out, mayKd, decide_eq_false h1]; rfl
        go_wp2
        go_ret
        exact ⟨by rw [E.out]; rfl, HB1.out⟩
    · have E : Hid (kids.all mayKd = true) := by unfold Hid; rw [hE, List.drop_of_length_le (by rw [← HN.out]; omega)]; rfl
      have HB := Lib.hid hB
      clear hE hB
      obtain rfl : k = N := by have := HN.out; omega
      go_wp2
      go_ret
      exact ⟨by rw [E.out]; rfl, HB.out⟩
end Go.Proofs.Ytbjjaabmdjbodaa

