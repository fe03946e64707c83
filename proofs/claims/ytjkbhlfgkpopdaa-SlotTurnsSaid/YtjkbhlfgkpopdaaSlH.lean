/- slot: which of two is better. -/
import Derived.Test.YtjkbhlfgkpopdaaSlG
namespace Go.Proofs.Ytjkbhlfgkpopdaa
open Go Go.RowKit Go.By

/-- What Better tells. -/
def Bettered (w0 : World) (a b : List Nat) (e : Ending) (w' : World) : Prop :=
  ∃ p c, e = .returned (.tuple #[.int .i64 (btWhich a b : Nat), .int .u64 (btGen a b : Nat), .slice p (btBody a b).length c, .int .i64 (btErr a b : Nat)]) ∧ Bytes w' (.slice p (btBody a b).length c) (btBody a b) ∧ Below w0.heap.size w0 w'
theorem bt_yes {a b : List Nat} (h : btWins a b = true) : btWhich a b = 1 ∧ btGen a b = stGen b ∧ btBody a b = stBody b ∧ btErr a b = 0 := by
  unfold btWhich btGen btBody btErr
  rw [h]; exact ⟨rfl, rfl, rfl, rfl⟩
theorem bt_no {a b : List Nat} (h : btWins a b = false) : btWhich a b = 0 ∧ btGen a b = stGen a ∧ btBody a b = stBody a ∧ btErr a b = stErr a := by
  unfold btWhich btGen btBody btErr
  rw [h]; exact ⟨rfl, rfl, rfl, rfl⟩
theorem stErr_ok (l : List Nat) : (((stErr l : Nat) : Int) == 0) = isSlot l := by
  unfold stErr
  cases isSlot l <;> rfl
theorem better_yes {w0 w' : World} {a b : List Nat} {p : Option Addr} {c : Nat} (h : btWins a b = true) (hy : Bytes w' (.slice p (stBody b).length c) (stBody b)) (hb : Below w0.heap.size w0 w') : Bettered w0 a b (.returned (.tuple #[.int .i64 1, .int .u64 (stGen b : Nat), .slice p (stBody b).length c, .int .i64 0])) w' := by
  obtain ⟨e1, e2, e3, e4⟩ := bt_yes h
  refine ⟨p, c, ?_, ?_, hb⟩
  · rw [e1, e2, e3, e4]; rfl
  · rw [e3]; exact hy
theorem better_no {w0 w' : World} {a b : List Nat} {p : Option Addr} {c : Nat} (h : btWins a b = false) (hy : Bytes w' (.slice p (stBody a).length c) (stBody a)) (hb : Below w0.heap.size w0 w') : Bettered w0 a b (.returned (.tuple #[.int .i64 0, .int .u64 (stGen a : Nat), .slice p (stBody a).length c, .int .i64 (stErr a : Nat)])) w' := by
  obtain ⟨e1, e2, e3, e4⟩ := bt_no h
  refine ⟨p, c, ?_, ?_, hb⟩
  · rw [e1, e2, e3, e4]; rfl
  · rw [e3]; exact hy

set_option maxRecDepth 100000 in
theorem better_all (u v : Value) (a b : List Nat) (w : World) (hu : Bytes w u a) (hv : Bytes w v b) (ha : a.length ≤ 17592186044416) (hb : b.length ≤ 17592186044416) :
    Calls Try.prog 12 #[u, v] w fun e w' => Bettered w a b e w' := by
  have HA := Lib.hid (take_all u a w hu ha)
  have HV := Lib.hid hv
  have HBL := Lib.hid hb
  obtain ⟨p, cap, hu'⟩ : ∃ p cap, u = .slice p a.length cap := let ⟨p, cap, h, _⟩ := hu.any; ⟨p, cap, h⟩
  obtain ⟨q, cup, hv'⟩ : ∃ p cap, v = .slice p b.length cap := let ⟨p, cap, h, _⟩ := hv.any; ⟨p, cap, h⟩
  subst hu' hv'
  clear hu hv ha hb
  have hg : isSlot a = true → stGen a = slotGen a := fun h => (st_some h).2.1
  have hg2 : isSlot b = true → stGen b = slotGen b := fun h => (st_some h).2.1
  have hE0 : isSlot a = true → stErr a = 0 := fun h => (st_some h).1
  have hE2 : isSlot a = false → stErr a = 2 := fun h => (st_none h).1
  have hF0 : isSlot b = true → stErr b = 0 := fun h => (st_some h).1
  have hF2 : isSlot b = false → stErr b = 2 := fun h => (st_none h).1
  cases hib : isSlot b
  · have HW : Hid (btWins a b = false) := by unfold Hid btWins; rw [hib]; rfl
    have f2 := hF2 hib
    clear hg hg2 hib hE0 hE2 hF0 hF2
    go_enter Try.func12, Try.ntmps12
    go_wp2_with fail
    refine HA.out.mono ?_
    rintro e w1 ⟨p1, c1, rfl, hy1, hb1⟩
    have HY1 := Lib.hid hy1
    have HB1 := Lib.hid hb1
    have HB2 := Lib.hid (take_all _ b w1 (HV.out.below hb1) HBL.out)
    clear hy1 hb1 HA
    go_wp2_with fail
    refine HB2.out.mono ?_
    rintro e w2 ⟨p2, c2, rfl, hy2, hb2⟩
    have HT := Lib.hid (better_no HW.out (HY1.out.below hb2) (HB1.out.trans (hb2.mono HB1.out.size)))
    clear hy2 hb2
    go_wp2
    exact bodyPost_ret (v := .tuple #[.int .i64 0, .int .u64 (stGen a : Nat), .slice p1 (stBody a).length c1, .int .i64 (stErr a : Nat)]) (by simp [results, go_sem]) rfl HT.out
  · have f0 := hF0 hib
    cases hia : isSlot a
    · have HW : Hid (btWins a b = true) := by unfold Hid btWins; rw [hib, hia]; rfl
      have e2 := hE2 hia
      clear hg hg2 hib hia hE0 hE2 hF0 hF2
      go_enter Try.func12, Try.ntmps12
      go_wp2_with fail
      refine HA.out.mono ?_
      rintro e w1 ⟨p1, c1, rfl, hy1, hb1⟩
      have HB1 := Lib.hid hb1
      have HB2 := Lib.hid (take_all _ b w1 (HV.out.below hb1) HBL.out)
      clear hy1 hb1 HA
      go_wp2_with fail
      refine HB2.out.mono ?_
      rintro e w2 ⟨p2, c2, rfl, hy2, hb2⟩
      have HT := Lib.hid (better_yes HW.out hy2 (HB1.out.trans (hb2.mono HB1.out.size)))
      clear hy2 hb2
      go_wp2
      exact bodyPost_ret (v := .tuple #[.int .i64 1, .int .u64 (stGen b : Nat), .slice p2 (stBody b).length c2, .int .i64 0]) (by simp [results, go_sem]) rfl HT.out
    · have e0 := hE0 hia
      have hga := hg hia
      have hgb := hg2 hib
      by_cases hlt : stGen a < stGen b
      · have HW : Hid (btWins a b = true) := by unfold Hid btWins; rw [hib, hia, ← hga, ← hgb, decide_eq_true hlt]; rfl
        have hlt' : ((stGen a : Nat) : Int) < ((stGen b : Nat) : Int) := by omega
        clear hg hg2 hib hia hE0 hE2 hF0 hF2 hga hgb hlt
        go_enter Try.func12, Try.ntmps12
        go_wp2_with fail
        refine HA.out.mono ?_
        rintro e w1 ⟨p1, c1, rfl, hy1, hb1⟩
        have HB1 := Lib.hid hb1
        have HB2 := Lib.hid (take_all _ b w1 (HV.out.below hb1) HBL.out)
        clear hy1 hb1 HA
        go_wp2_with fail
        refine HB2.out.mono ?_
        rintro e w2 ⟨p2, c2, rfl, hy2, hb2⟩
        have HT := Lib.hid (better_yes HW.out hy2 (HB1.out.trans (hb2.mono HB1.out.size)))
        clear hy2 hb2
        go_wp2
        exact bodyPost_ret (v := .tuple #[.int .i64 1, .int .u64 (stGen b : Nat), .slice p2 (stBody b).length c2, .int .i64 0]) (by simp [results, go_sem]) rfl HT.out
      · have HW : Hid (btWins a b = false) := by unfold Hid btWins; rw [hib, hia, ← hga, ← hgb, decide_eq_false hlt]; rfl
        have hlt' : ¬ ((stGen a : Nat) : Int) < ((stGen b : Nat) : Int) := by omega
        have hge : ((stGen b : Nat) : Int) ≤ ((stGen a : Nat) : Int) := by omega
        clear hg hg2 hib hia hE0 hE2 hF0 hF2 hga hgb hlt
        go_enter Try.func12, Try.ntmps12
        go_wp2_with fail
        refine HA.out.mono ?_
        rintro e w1 ⟨p1, c1, rfl, hy1, hb1⟩
        have HY1 := Lib.hid hy1
        have HB1 := Lib.hid hb1
        have HB2 := Lib.hid (take_all _ b w1 (HV.out.below hb1) HBL.out)
        clear hy1 hb1 HA
        go_wp2_with fail
        refine HB2.out.mono ?_
        rintro e w2 ⟨p2, c2, rfl, hy2, hb2⟩
        have HT := Lib.hid (better_no HW.out (HY1.out.below hb2) (HB1.out.trans (hb2.mono HB1.out.size)))
        rw [e0] at HT
        clear hy2 hb2
        go_wp2
        exact bodyPost_ret (v := .tuple #[.int .i64 0, .int .u64 (stGen a : Nat), .slice p1 (stBody a).length c1, .int .i64 0]) (by simp [results, go_sem]) rfl HT.out
end Go.Proofs.Ytjkbhlfgkpopdaa
