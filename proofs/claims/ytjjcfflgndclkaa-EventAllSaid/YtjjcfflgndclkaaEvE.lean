/- Events in a program: which may be, which are the same. -/
import Derived.Test.YtjjcfflgndclkaaEvA
namespace Go.Proofs.Ytjjcfflgndclkaa
open Go Go.RowKit Go.By

set_option maxRecDepth 100000 in
theorem mayName_any (s : ByteArray) (w : World) (hs : s.size ≤ maxLen) : Calls Try.prog 26 #[.string s] w fun e w' => e = .returned (.bool (mayNm (natsOf s))) ∧ w = w' := by
  unfold maxLen at hs
  have hl : (natsOf s).length = s.size := natsOf_length s
  by_cases h1 : 1 ≤ (s.size : Int)
  · by_cases h2 : (s.size : Int) ≤ 16
    · have hsz : s.size ≤ 16 := by omega
      have E := Lib.hid (fun h => mayNm_of_good (l := natsOf s) h)
      have HLL := Lib.hid hl; clear hl
      go_enter Try.func26, Try.ntmps26
      go_wp2
      go_loop [14] (fun i => ∃ k : Nat, k ≤ s.size ∧ i = .int .i64 k ∧ goodTo (natsOf s) k) (fun i => s.size - (intOf i).toNat)
      case atStart => exact ⟨0, by omega, rfl, fun i hi => absurd hi (by omega)⟩
      case round =>
        obtain ⟨k, hk, rfl, hg⟩ := hrel
        have HG := Lib.hid hg; clear hg
        by_cases hlt : k < s.size
        · have hat := nats_at hlt
          have hln : k < (natsOf s).length := by rw [natsOf_length]; exact hlt
          by_cases h3 : 33 ≤ ((atB (natsOf s) k : Nat) : Int)
          · by_cases h4 : ((atB (natsOf s) k : Nat) : Int) ≤ 126
            · go_wp2
              go_round
              case rel =>
                refine ⟨k + 1, by omega, by go_num, fun i hi => ?_⟩
                by_cases he : i = k
                · subst he; omega
                · exact HG.out i (by omega)
              case measure => simp [intOf]; omega
            · have E := Lib.hid (mayNm_of_bad hln (.inr (by omega)))
              go_wp2
              go_ret
              exact ⟨by rw [E.out]; rfl, rfl⟩
          · have E := Lib.hid (mayNm_of_bad hln (.inl (by omega)))
            go_wp2
            go_ret
            exact ⟨by rw [E.out]; rfl, rfl⟩
        · have hk2 : k = s.size := by omega
          have E2 : Hid (mayNm (natsOf s) = true) := by
            unfold Hid
            rw [E.out (by rw [HLL.out, ← hk2]; exact HG.out), HLL.out]
            simp; omega
          go_wp2
          go_ret
          exact ⟨by rw [E2.out]; rfl, rfl⟩
    · have E : Hid (mayNm (natsOf s) = false) := by
        unfold Hid
        rw [Bool.eq_false_iff]
        intro h
        have := mayNm_length h
        omega
      clear hl
      go_enter Try.func26, Try.ntmps26
      go_wp2
      go_ret
      exact ⟨by rw [E.out]; rfl, rfl⟩
  · have E : Hid (mayNm (natsOf s) = false) := by
      unfold Hid
      rw [Bool.eq_false_iff]
      intro h
      have := mayNm_length h
      omega
    clear hl
    go_enter Try.func26, Try.ntmps26
    go_wp2
    go_ret
    exact ⟨by rw [E.out]; rfl, rfl⟩

set_option maxRecDepth 100000 in
theorem may_any {w : World} {x : Value} {e : Ev} {q r : Int} {s t : ByteArray} {v : Value} (h : IsEv w x e q r s t v) :
    Calls Try.prog 10 #[x] w fun z w' => z = .returned (.bool (mayEv e)) ∧ Below w.heap.size w w' := by
  have hx := h.val
  have hm := h.may
  have hs := h.s63
  have ht := h.t63
  obtain ⟨p, cap, rfl, _⟩ := h.da.any
  unfold evVal at hx
  subst hx
  have hb := (Below.refl w.heap.size w).alloc (Nat.le_refl _) (.cells #[.int .i64 q, .string s, .int .i64 r, .string t, .slice p e.da.length cap] 24)
  have HB := Lib.hid hb
  have HS := Lib.hid hs; have HT := Lib.hid ht; have HM := Lib.hid hm
  generalize e.da.length = L at *
  clear h hb hs ht hm
  by_cases h1 : 0 ≤ q
  · by_cases h2 : 0 ≤ r
    · go_enter Try.func10, Try.ntmps10
      go_wp2_with fail
      refine (mayName_any s _ HS.out).mono ?_
      rintro z w' ⟨rfl, rfl⟩
      cases h3 : mayNm (natsOf s) with
      | false =>
        have E : Hid (mayEv e = false) := by unfold Hid; rw [HM.out, h3]; simp
        go_wp2
        go_ret
        exact ⟨by rw [E.out]; rfl, HB.out⟩
      | true =>
        go_wp2_with fail
        refine (mayName_any t _ HT.out).mono ?_
        rintro z w' ⟨rfl, rfl⟩
        cases h4 : mayNm (natsOf t) with
        | false =>
          have E : Hid (mayEv e = false) := by unfold Hid; rw [HM.out, h4]; simp
          go_wp2
          go_ret
          exact ⟨by rw [E.out]; rfl, HB.out⟩
        | true =>
          have E : Hid (mayEv e = decide (L ≤ 100)) := by unfold Hid; rw [HM.out, h3, h4, decide_eq_true h1, decide_eq_true h2]; rfl
          have E2 : Hid (decide ((L : Int) ≤ 100) = decide (L ≤ 100)) := by unfold Hid; exact decide_eq_decide.2 (by omega)
          go_wp2
          go_ret
          refine ⟨?_, HB.out⟩
          rw [E.out, ← E2.out]
          rfl
    · have E : Hid (mayEv e = false) := by unfold Hid; rw [HM.out, decide_eq_false h2]; simp
      go_enter Try.func10, Try.ntmps10
      go_wp2
      go_ret
      exact ⟨by rw [E.out]; rfl, HB.out⟩
  · have E : Hid (mayEv e = false) := by unfold Hid; rw [HM.out, decide_eq_false h1]; simp
    go_enter Try.func10, Try.ntmps10
    go_wp2
    go_ret
    exact ⟨by rw [E.out]; rfl, HB.out⟩

set_option maxRecDepth 100000 in
theorem equal_any (v u : Value) (l m : List Nat) (w : World) (hv : Bytes w v l) (hu : Bytes w u m) :
    Calls Try.prog 33 #[v, u] w fun e w' => e = .returned (.bool (decide (l = m))) ∧ w' = w := by
  have h1 := hv.toString (P := Try.prog) byT (d := 9) (by kernel_rfl)
  have h2 := hu.toString (P := Try.prog) byT (d := 9) (by kernel_rfl)
  have E : Hid (((strOf l).toList == (strOf m).toList) = decide (l = m)) := by
    unfold Hid
    rw [eq_str, natsOf_strOf hv.small, natsOf_strOf hu.small]
  clear hv hu
  go_enter Try.func33, Try.ntmps33
  go_wp2
  go_ret
  exact ⟨by rw [← E.out]; rfl, rfl⟩

set_option maxRecDepth 100000 in
theorem same_any {w : World} {x y : Value} {e f : Ev} {q r q' r' : Int} {s t s' t' : ByteArray} {v u : Value} (h : IsEv w x e q r s t v) (k : IsEv w y f q' r' s' t' u) :
    Calls Try.prog 15 #[x, y] w fun z w' => z = .returned (.bool (decide (e = f))) ∧ Below w.heap.size w w' := by
  have hx := h.val
  have hy := k.val
  have hsi := same_iff h k
  have HD := Lib.hid h.da; have HE := Lib.hid k.da
  obtain ⟨p, cap, rfl, _⟩ := h.da.any
  obtain ⟨p', cap', rfl, _⟩ := k.da.any
  unfold evVal at hx hy
  subst hx hy
  have hb := fun o o' => ((Below.refl w.heap.size w).alloc (Nat.le_refl _) o).alloc (by simp) o'
  have HB := Lib.hid hb
  have HC := Lib.hid (fun o o' => equal_any _ _ _ _ _ (HD.out.below (hb o o')) (HE.out.below (hb o o')))
  have HSI : Hid (decide (e = f) = ((q == q') && ((r == r') && ((s.toList == s'.toList) && ((t.toList == t'.toList) && decide (e.da = f.da)))))) := by
    unfold Hid
    rw [hsi, eq_str (strOf e.da), natsOf_strOf HD.out.small, natsOf_strOf HE.out.small]
  generalize hdd : decide (e.da = f.da) = DD at *
  clear h k hb hsi hdd
  go_enter Try.func15, Try.ntmps15
  cases h1 : (q == q') <;> cases h2 : (r == r') <;> cases h3 : (s.toList == s'.toList) <;> cases h4 : (t.toList == t'.toList)
  all_goals
    have E : Hid (decide (e = f) = _) := HSI.out
    rw [h1, h2, h3, h4] at E
    simp only [Bool.false_and, Bool.true_and] at E
    have E' := Lib.hid E.out
    clear E
    first
      | (go_wp2
         go_ret
         exact ⟨by rw [E'.out]; rfl, HB.out _ _⟩)
      | (go_wp2_with fail
         refine (HC.out _ _).mono ?_
         rintro z w' ⟨rfl, rfl⟩
         go_wp2
         go_ret
         exact ⟨by rw [E'.out]; rfl, HB.out _ _⟩)
end Go.Proofs.Ytjjcfflgndclkaa

