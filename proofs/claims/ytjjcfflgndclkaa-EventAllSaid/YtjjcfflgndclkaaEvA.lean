/- Events in a program: the document's May and Same. -/
import Derived.Test.YtjjcfflgndclkaaRefL
import Derived.Test.YtjjcfflgndclkaaEvP
namespace Go.Proofs.Ytjjcfflgndclkaa
open Go Go.RowKit Go.By

def evVal (q r : Int) (s t : ByteArray) (v : Value) : Value := .agg #[.int .i64 q, .string s, .int .i64 r, .string t, v]
/-- A value that is this event. -/
structure IsEv (w : World) (x : Value) (e : Ev) (q r : Int) (s t : ByteArray) (v : Value) : Prop where
  val : x = evVal q r s t v
  ev : e = ⟨q, r, natsOf s, natsOf t, e.da⟩
  da : Bytes w v e.da
  q63 : q ≤ 9223372036854775807
  r63 : r ≤ 9223372036854775807
  s63 : s.size ≤ maxLen
  t63 : t.size ≤ maxLen
theorem IsEv.fine {w : World} {x : Value} {e : Ev} {q r : Int} {s t : ByteArray} {v : Value} (h : IsEv w x e q r s t v) : EvFine e := by
  obtain ⟨_, he, hd, hq, hr, _, _⟩ := h
  rw [he]
  exact ⟨hq, hr, natsOf_small s, natsOf_small t, hd.small⟩
theorem IsEv.below {w w' : World} {x : Value} {e : Ev} {q r : Int} {s t : ByteArray} {v : Value} (h : IsEv w x e q r s t v) (hb : Below w.heap.size w w') : IsEv w' x e q r s t v :=
  ⟨h.val, h.ev, h.da.below hb, h.q63, h.r63, h.s63, h.t63⟩
theorem IsEv.may {w : World} {x : Value} {e : Ev} {q r : Int} {s t : ByteArray} {v : Value} (h : IsEv w x e q r s t v) :
    mayEv e = (decide (0 ≤ q) && (decide (0 ≤ r) && (mayNm (natsOf s) && (mayNm (natsOf t) && decide (e.da.length ≤ 100))))) := by
  rw [h.ev]; rfl

set_option maxRecDepth 100000 in
theorem refMayEv_any {w : World} {x : Value} {e : Ev} {q r : Int} {s t : ByteArray} {v : Value} (h : IsEv w x e q r s t v) :
    Calls Try.prog 11 #[x] w fun z w' => z = .returned (.bool (mayEv e)) ∧ Below w.heap.size w w' := by
  have hx := h.val
  have hm := h.may
  have hs := h.s63
  have ht := h.t63
  obtain ⟨p, cap, rfl, _⟩ := h.da.any
  unfold evVal at hx
  subst hx
  have hb := (Below.refl w.heap.size w).alloc (Nat.le_refl _) (.cells #[.int .i64 q, .string s, .int .i64 r, .string t, .slice p e.da.length cap] 24)
  have HB := Lib.hid hb
  have HS := Lib.hid hs; have HT := Lib.hid ht; have HM := Lib.hid hm
  generalize e.da.length = L at *
  clear h hb hs ht hm
  by_cases h1 : 0 ≤ q
  · by_cases h2 : 0 ≤ r
    · go_enter Try.func11, Try.ntmps11
      go_wp2_with fail
      refine (refMay_any s _ HS.out).mono ?_
      rintro z w' ⟨rfl, rfl⟩
      cases h3 : mayNm (natsOf s) with
      | false =>
        have E : Hid (mayEv e = false) := by unfold Hid; rw [HM.out, h3]; simp
        go_wp2
        go_ret
        exact ⟨by rw [E.out]; rfl, HB.out⟩
      | true =>
        go_wp2_with fail
        refine (refMay_any t _ HT.out).mono ?_
        rintro z w' ⟨rfl, rfl⟩
        cases h4 : mayNm (natsOf t) with
        | false =>
          have E : Hid (mayEv e = false) := by unfold Hid; rw [HM.out, h4]; simp
          go_wp2
          go_ret
          exact ⟨by rw [E.out]; rfl, HB.out⟩
        | true =>
          have E : Hid (mayEv e = decide (L ≤ 100)) := by unfold Hid; rw [HM.out, h3, h4, decide_eq_true h1, decide_eq_true h2]; rfl
          have E2 : Hid (decide ((L : Int) ≤ 100) = decide (L ≤ 100)) := by unfold Hid; exact decide_eq_decide.2 (by omega)
          go_wp2
          go_ret
          refine ⟨?_, HB.out⟩
          rw [E.out, ← E2.out]
          rfl
    · have E : Hid (mayEv e = false) := by unfold Hid; rw [HM.out, decide_eq_false h2]; simp
      go_enter Try.func11, Try.ntmps11
      go_wp2
      go_ret
      exact ⟨by rw [E.out]; rfl, HB.out⟩
  · have E : Hid (mayEv e = false) := by unfold Hid; rw [HM.out, decide_eq_false h1]; simp
    go_enter Try.func11, Try.ntmps11
    go_wp2
    go_ret
    exact ⟨by rw [E.out]; rfl, HB.out⟩

/-- Are two events the same? -/
theorem same_iff {w w' : World} {x y : Value} {e f : Ev} {q r q' r' : Int} {s t s' t' : ByteArray} {v u : Value} (h : IsEv w x e q r s t v) (k : IsEv w' y f q' r' s' t' u) :
    decide (e = f) = ((q == q') && ((r == r') && ((s.toList == s'.toList) && ((t.toList == t'.toList) && ((strOf e.da).toList == (strOf f.da).toList))))) := by
  rw [eq_str, eq_str, eq_str, natsOf_strOf h.da.small, natsOf_strOf k.da.small, Bool.eq_iff_iff]
  simp only [decide_eq_true_eq, Bool.and_eq_true, beq_iff_eq]
  have he := h.ev
  have hf := k.ev
  constructor
  · intro hef
    rw [he, hf] at hef
    simp only [Ev.mk.injEq] at hef
    obtain ⟨h1, h2, h3, h4, h5⟩ := hef
    exact ⟨h1, h2, h3, h4, h5⟩
  · rintro ⟨h1, h2, h3, h4, h5⟩
    rw [he, hf, h1, h2, h3, h4, h5]

set_option maxRecDepth 100000 in
theorem refSame_any {w : World} {x y : Value} {e f : Ev} {q r q' r' : Int} {s t s' t' : ByteArray} {v u : Value} (h : IsEv w x e q r s t v) (k : IsEv w y f q' r' s' t' u) :
    Calls Try.prog 14 #[x, y] w fun z w' => z = .returned (.bool (decide (e = f))) ∧ Below w.heap.size w w' := by
  have hx := h.val
  have hy := k.val
  have hsi := same_iff h k
  have HD := Lib.hid h.da; have HE := Lib.hid k.da
  obtain ⟨p, cap, rfl, _⟩ := h.da.any
  obtain ⟨p', cap', rfl, _⟩ := k.da.any
  unfold evVal at hx hy
  subst hx hy
  have hb := fun o o' => ((Below.refl w.heap.size w).alloc (Nat.le_refl _) o).alloc (by simp) o'
  have HB := Lib.hid hb
  have hc1 := fun o o' => (HD.out.below (hb o o')).toString (P := Try.prog) byT (d := 9) (by kernel_rfl)
  have hc2 := fun o o' => (HE.out.below (hb o o')).toString (P := Try.prog) byT (d := 9) (by kernel_rfl)
  have HSI := Lib.hid hsi
  generalize strOf e.da = D1 at *
  generalize strOf f.da = D2 at *
  clear h k hb hsi
  go_enter Try.func14, Try.ntmps14
  cases h1 : (q == q') <;> cases h2 : (r == r') <;> cases h3 : (s.toList == s'.toList) <;> cases h4 : (t.toList == t'.toList)
  all_goals
    have E : Hid (decide (e = f) = _) := HSI.out
    rw [h1, h2, h3, h4] at E
    simp only [Bool.false_and, Bool.true_and] at E
    have E' := Lib.hid E.out
    clear E
    go_wp2
    go_ret
    exact ⟨by rw [E'.out]; rfl, HB.out _ _⟩
end Go.Proofs.Ytjjcfflgndclkaa

