/- The document's keys: names, pairs, letters, what is after. -/
import Derived.Test.YtfebdgnojacoiaaRefN
import Derived.Test.YtfebdgnojacoiaaKeyP
import Derived.Test.YtfebdgnojacoiaaConvB
namespace Go.Proofs.Ytfebdgnojacoiaa
open Go Go.RowKit Go.By

theorem nats_at {s : ByteArray} {k : Nat} (h : k < s.size) : (s[k]'h).toNat = atB (natsOf s) k := by
  have h2 : k < (natsOf s).length := by rw [natsOf_length]; exact h
  rw [atB_of h2]
  have h3 : k < s.toList.length := by rw [Lib.toList_data]; exact h
  have e : (natsOf s)[k] = (s.toList[k]).toNat := List.getElem_map ..
  rw [e]
  congr 1
  have e2 : s[k] = s.data.toList[k]'(by exact h) := rfl
  rw [e2]
  congr 1
  exact (Lib.toList_data s).symm

/-- Of the first k bytes: all may stand in a name. -/
def goodTo (l : List Nat) (k : Nat) : Prop := ∀ i < k, 33 ≤ atB l i ∧ atB l i ≤ 126
theorem mayNm_of_good {l : List Nat} (h : goodTo l l.length) : mayNm l = (decide (1 ≤ l.length) && decide (l.length ≤ 16)) := by
  unfold mayNm
  rw [(List.all_eq_true).2, Bool.true_and]
  intro c hc
  obtain ⟨i, hi, rfl⟩ := List.getElem_of_mem hc
  have := h i hi
  rw [atB_of hi] at this
  simp [this]
theorem mayNm_of_bad {l : List Nat} {k : Nat} (hk : k < l.length) (h : atB l k < 33 ∨ 126 < atB l k) : mayNm l = false := by
  rw [Bool.eq_false_iff]
  intro h2
  unfold mayNm at h2
  rw [Bool.and_eq_true, List.all_eq_true] at h2
  have := h2.1 _ (List.getElem_mem hk)
  rw [atB_of hk] at h
  simp at this
  omega

set_option maxRecDepth 100000 in
theorem refMay_any (s : ByteArray) (w : World) (hs : s.size ≤ maxLen) : Calls Try.prog 13 #[.string s] w fun e w' => e = .returned (.bool (mayNm (natsOf s))) ∧ w = w' := by
  unfold maxLen at hs
  go_enter Try.func13, Try.ntmps13
  go_wp2
  go_loop [3] (fun i => ∃ k : Nat, k ≤ s.size ∧ i = .int .i64 k ∧ goodTo (natsOf s) k) (fun i => s.size - (intOf i).toNat)
  case atStart => exact ⟨0, by omega, rfl, fun i hi => absurd hi (by omega)⟩
  case round =>
    obtain ⟨k, hk, rfl, hg⟩ := hrel
    have HG := Lib.hid hg; clear hg
    by_cases hlt : k < s.size
    · have hat := nats_at hlt
      have hln : k < (natsOf s).length := by rw [natsOf_length]; exact hlt
      by_cases h1 : 33 ≤ ((atB (natsOf s) k : Nat) : Int)
      · by_cases h2 : ((atB (natsOf s) k : Nat) : Int) ≤ 126
        · go_wp2
          go_round
          case rel =>
            refine ⟨k + 1, by omega, by go_num, fun i hi => ?_⟩
            by_cases he : i = k
            · subst he; omega
            · exact HG.out i (by omega)
          case measure => simp [intOf]; omega
        · have E := Lib.hid (mayNm_of_bad hln (.inr (by omega)))
          go_wp2
          go_ret
          exact ⟨by rw [E.out]; rfl, rfl⟩
      · have E := Lib.hid (mayNm_of_bad hln (.inl (by omega)))
        go_wp2
        go_ret
        exact ⟨by rw [E.out]; rfl, rfl⟩
    · have hk2 : k = s.size := by omega
      have hl : (natsOf s).length = s.size := natsOf_length s
      have E := Lib.hid (mayNm_of_good (l := natsOf s) (by rw [hl, ← hk2]; exact HG.out))
      by_cases h1 : 1 ≤ (s.size : Int)
      · by_cases h2 : (s.size : Int) ≤ 16
        · go_wp2
          go_ret
          exact ⟨by rw [E.out, hl]; simp; omega, rfl⟩
        · go_wp2
          go_ret
          exact ⟨by rw [E.out, hl]; simp; omega, rfl⟩
      · go_wp2
        go_ret
        exact ⟨by rw [E.out, hl]; simp; omega, rfl⟩

/-- A name, a 0, a number: or nothing. -/
def pairK (l : List Nat) (n : Int) : List Nat := if mayNm l = true ∧ 0 ≤ n then pairOf l n.toNat else []

set_option maxRecDepth 100000 in
theorem refPair_any (s : ByteArray) (n : Int) (w : World) (hs : s.size ≤ maxLen) (hn1 : n < 9223372036854775808) :
    Calls Try.prog 30 #[.string s, .int .i64 n] w fun e w' => ∃ v', e = .returned v' ∧ OwnM w' w.heap.size v' (pairK (natsOf s) n) ∧ Below w.heap.size w w' := by
  go_enter Try.func30, Try.ntmps30
  go_wp2_with fail
  refine (refMay_any s w hs).mono ?_
  rintro e w' ⟨rfl, rfl⟩
  cases hm : mayNm (natsOf s) with
  | false =>
    have E : Hid (pairK (natsOf s) n = []) := by unfold Hid pairK; rw [if_neg (by rw [hm]; simp)]
    go_wp2
    go_ret
    exact ⟨_, rfl, by rw [E.out]; exact .inl ⟨rfl, rfl⟩, Below.refl _ _⟩
  | true =>
    by_cases h0 : n < 0
    · have E : Hid (pairK (natsOf s) n = []) := by unfold Hid pairK; rw [if_neg (by omega)]
      go_wp2
      go_ret
      exact ⟨_, rfl, by rw [E.out]; exact .inl ⟨rfl, rfl⟩, Below.refl _ _⟩
    · obtain ⟨k, rfl⟩ : ∃ k : Nat, n = k := ⟨n.toNat, by omega⟩
      have E : Hid (pairK (natsOf s) k = natsOf s ++ [0] ++ highOf k 8) := by unfold Hid pairK; rw [if_pos ⟨hm, by omega⟩]; unfold pairOf; simp
      have hl := mayNm_length hm
      rw [natsOf_length] at hl
      have hcv := fun (w : World) => Lib.run_convert_string_bytes (P := Try.prog) w 9 22 5 s (u := .string) (by kernel_rfl) byT.slice byT.elem
      obtain ⟨hM, hbM⟩ := OwnM.conv w 5 s hs
      have hz := Lib.bytesWorld_size w 5 s
      obtain ⟨v1, w1, hrun1, hM1, hg1⟩ := run_append_M (P := Try.prog) 22 byT (hM.below ((Below.refl _ _).alloc (Nat.le_refl _) (.cells #[.int .u8 (0 : Int)] 5))) (Bytes.one (n := 0) (x := 0) rfl (by omega)) (by simp) (by rw [natsOf_length]; simp; omega) (by simp; omega)
      have hb1 : Below w.heap.size w w1 := (hbM.alloc (by omega) _).grown hg1 (by simp; omega) (by simp [Value.ownBlock])
      have hz1 := hb1.size
      have HM1 := Lib.hid hM1; have HB1 := Lib.hid hb1; have HR1 := Lib.hid hrun1
      have hk : (k : Int) ≤ 9223372036854775807 := by omega
      have HZ1 := Lib.hid hz1; have HZ := Lib.hid hz
      clear hM1 hb1 hM hbM hg1 hrun1 hn1 hz1 hz
      go_wp2_with first
        | (at_builtin; refine Lib.wpList_append_run _ rfl (.tmp 13) (.tmp 14) 22 22 rfl _ _ rfl rfl v1 w1 HR1.out ?_)
        | fail
      refine (high_any k 8 w1 (by omega) (by omega)).mono ?_
      rintro e w2 ⟨v2, rfl, ho2, hb2⟩
      have hy2 : Bytes w2 v2 (highOf k 8) := Bytes.of_owns ho2 (highOf_small _ _) (by rw [highOf_length]; decide)
      have hz2 := HB1.out.size
      obtain ⟨v3, w3, hrun3, hM3, hg3⟩ := run_append_M (P := Try.prog) 22 byT (HM1.out.below hb2) hy2 (by rw [highOf_length]; omega) (by rw [List.length_append, natsOf_length, highOf_length]; simp; omega) (by have := hb2.size; omega)
      have hb3 : Below w.heap.size w w3 := (HB1.out.trans (hb2.mono hz2)).grown hg3 (by have := hb2.size; omega) (fun j hj => (HM1.out.lt j hj).1)
      have HR3 := Lib.hid hrun3; have HM3 := Lib.hid hM3; have HB3 := Lib.hid hb3
      clear HR1 HM1 HB1 hrun3 hM3 hb3 hg3 ho2 hb2 hy2 hz2 hcv
      go_wp2_with (at_builtin; refine Lib.wpList_append_run _ rfl (.tmp 15) (.tmp 18) 22 22 rfl _ _ rfl rfl v3 w3 HR3.out ?_)
      go_ret
      exact ⟨_, rfl, by rw [E.out]; exact HM3.out, HB3.out⟩
end Go.Proofs.Ytfebdgnojacoiaa

