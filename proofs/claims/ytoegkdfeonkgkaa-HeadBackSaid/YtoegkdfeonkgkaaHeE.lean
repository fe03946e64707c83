/- Heads in a program: what may be; what Put tells. -/
import Derived.Test.YtoegkdfeonkgkaaHeD
namespace Go.Proofs.Ytoegkdfeonkgkaa
open Go Go.RowKit Go.By

set_option maxRecDepth 100000 in
theorem hd_tomb (x f : Int) (tb : Bool) (w0 : World) : PutPart w0 43 (.agg #[.int .i64 x, .int .i64 f, .bool tb]) [tombOf tb] :=
  ⟨fun args w => by kernel_rfl, fun v l base w hv hl h0 hb hb0 => by
    obtain ⟨p, cap, rfl⟩ := shape_of hv
    have HC := Lib.hid (putNumber_any (tombOf tb) 1 (by unfold tombOf; split <;> omega) (by omega) _ l base (w.alloc (.cells #[.int .i64 x, .int .i64 f, .bool tb] 45)) (hv.alloc _) hl (by simp; omega))
    have HB : Hid (Below base w (w.alloc (.cells #[.int .i64 x, .int .i64 f, .bool tb] 45))) := (Below.refl _ _).alloc hb _
    have HT : Hid (highOf (tombOf tb) 1 = [tombOf tb]) := by cases tb <;> rfl
    clear hv hl h0 hb0
    cases tb with
    | true =>
      go_enter Try.func43, Try.ntmps43
      go_wp2_with fail
      refine HC.out.mono ?_
      rintro e w1 ⟨v1, rfl, ho, hb2⟩
      rw [HT.out] at ho
      have HO := Lib.hid ho; have HB2 := Lib.hid (HB.out.trans hb2)
      clear ho hb2
      go_wp2
      go_ret
      exact ⟨_, rfl, HO.out, HB2.out⟩
    | false =>
      go_enter Try.func43, Try.ntmps43
      go_wp2_with fail
      refine HC.out.mono ?_
      rintro e w1 ⟨v1, rfl, ho, hb2⟩
      rw [HT.out] at ho
      have HO := Lib.hid ho; have HB2 := Lib.hid (HB.out.trans hb2)
      clear ho hb2
      go_wp2
      go_ret
      exact ⟨_, rfl, HO.out, HB2.out⟩⟩

set_option maxRecDepth 100000 in
theorem mk_data (t : Int) (p0 : Option Addr) (c0 : Nat) (m : List Nat) (w0 : World) (hm : Bytes w0 (.slice p0 m.length c0) m) (h1 : m.length ≤ 100) : PutPart w0 50 (.agg #[.int .i64 t, .slice p0 m.length c0]) m :=
  ⟨fun args w => by kernel_rfl, fun v l base w hv hl h0 hb hb0 => by
    obtain ⟨p, cap, rfl⟩ := shape_of hv
    obtain ⟨v1, w1, hrun, hown1, hgrow1⟩ := run_append_bytes (P := Try.prog) 26 byT base (.slice p l.length cap) l.length (cellsOf l) (hv.alloc (.cells #[.int .i64 t, .slice p0 m.length c0] 60)) (.slice p0 m.length c0) m ((hm.below hb0).below ((Below.refl w.heap.size w).alloc (Nat.le_refl _) _)) (by omega) (by simp; omega)
    have hb1 : Below base w w1 := ((Below.refl _ _).alloc hb _).grown hgrow1 (by simp; omega) (fun j hj => (hv.lt j hj).1)
    have ho1 : w1.ownsRow base 5 1 v1 (l ++ m).length (cellsOf (l ++ m)) := by
      rw [List.length_append, cellsOf_append]; exact hown1
    have HR1 := Lib.hid hrun; have HO := Lib.hid ho1; have HB := Lib.hid hb1
    clear hrun hown1 hgrow1 ho1 hb1 hv hm hb0
    go_enter Try.func50, Try.ntmps50
    go_wp2_with first
      | (at_builtin; refine Lib.wpList_append_run _ rfl (.tmp 5) (.tmp 7) 26 26 rfl _ _ rfl rfl v1 w1 HR1.out ?_)
    go_ret
    exact ⟨_, rfl, HO.out, HB.out⟩⟩

set_option maxRecDepth 100000 in
theorem may_head (n f : Int) (tb : Bool) : MayPart 24 (.agg #[.int .i64 n, .int .i64 f, .bool tb]) (mayHd ⟨n, f, tb⟩) :=
  ⟨fun args w => by kernel_rfl, fun w => by
    have HB : Hid (Below w.heap.size w (w.alloc (.cells #[.int .i64 n, .int .i64 f, .bool tb] 45))) := (Below.refl _ _).alloc (Nat.le_refl _) _
    by_cases h1 : 0 ≤ f
    · by_cases h2 : f ≤ n
      · have E : Hid (mayHd ⟨n, f, tb⟩ = true) := by unfold Hid; simp [mayHd, h1, h2]
        rw [E.out]
        clear E
        go_enter Try.func24, Try.ntmps24
        go_wp2
        go_ret
        exact ⟨rfl, HB.out⟩
      · have E : Hid (mayHd ⟨n, f, tb⟩ = false) := by unfold Hid; simp [mayHd, h1, h2]
        rw [E.out]
        clear E
        go_enter Try.func24, Try.ntmps24
        go_wp2
        go_ret
        exact ⟨rfl, HB.out⟩
    · have E : Hid (mayHd ⟨n, f, tb⟩ = false) := by unfold Hid; simp [mayHd, h1]
      rw [E.out]
      clear E
      go_enter Try.func24, Try.ntmps24
      go_wp2
      go_ret
      exact ⟨rfl, HB.out⟩⟩

set_option maxRecDepth 100000 in
theorem may_done (f c : Int) (ag : Bool) : MayPart 30 (.agg #[.int .i64 f, .int .i64 c, .bool ag]) (mayDn ⟨f, c, ag⟩) :=
  ⟨fun args w => by kernel_rfl, fun w => by
    have HB : Hid (Below w.heap.size w (w.alloc (.cells #[.int .i64 f, .int .i64 c, .bool ag] 54))) := (Below.refl _ _).alloc (Nat.le_refl _) _
    by_cases h1 : 0 ≤ f
    · by_cases h2 : 1 ≤ c
      · by_cases h3 : c ≤ 65535
        · have E : Hid (mayDn ⟨f, c, ag⟩ = !ag) := by unfold Hid; simp [mayDn, h1, h2, h3]
          rw [E.out]
          clear E
          go_enter Try.func30, Try.ntmps30
          go_wp2
          go_ret
          exact ⟨rfl, HB.out⟩
        · have E : Hid (mayDn ⟨f, c, ag⟩ = false) := by unfold Hid; simp [mayDn, h1, h2, h3]
          rw [E.out]
          clear E
          go_enter Try.func30, Try.ntmps30
          go_wp2
          go_ret
          exact ⟨rfl, HB.out⟩
      · have E : Hid (mayDn ⟨f, c, ag⟩ = false) := by unfold Hid; simp [mayDn, h1, h2]
        rw [E.out]
        clear E
        go_enter Try.func30, Try.ntmps30
        go_wp2
        go_ret
        exact ⟨rfl, HB.out⟩
    · have E : Hid (mayDn ⟨f, c, ag⟩ = false) := by unfold Hid; simp [mayDn, h1]
      rw [E.out]
      clear E
      go_enter Try.func30, Try.ntmps30
      go_wp2
      go_ret
      exact ⟨rfl, HB.out⟩⟩

set_option maxRecDepth 100000 in
theorem may_mark (t : Int) (p : Option Addr) (cap : Nat) (m : List Nat) : MayPart 34 (.agg #[.int .i64 t, .slice p m.length cap]) (mayMk ⟨t, m⟩) :=
  ⟨fun args w => by kernel_rfl, fun w => by
    have HB : Hid (Below w.heap.size w (w.alloc (.cells #[.int .i64 t, .slice p m.length cap] 60))) := (Below.refl _ _).alloc (Nat.le_refl _) _
    by_cases h1 : 0 ≤ t
    · by_cases h2 : (m.length : Int) ≤ 100
      · have E : Hid (mayMk ⟨t, m⟩ = true) := by unfold Hid; simp [mayMk, h1]; omega
        rw [E.out]
        clear E
        go_enter Try.func34, Try.ntmps34
        go_wp2
        go_ret
        exact ⟨rfl, HB.out⟩
      · have E : Hid (mayMk ⟨t, m⟩ = false) := by unfold Hid; simp [mayMk, h1]; omega
        rw [E.out]
        clear E
        go_enter Try.func34, Try.ntmps34
        go_wp2
        go_ret
        exact ⟨rfl, HB.out⟩
    · have E : Hid (mayMk ⟨t, m⟩ = false) := by unfold Hid; simp [mayMk, h1]
      rw [E.out]
      clear E
      go_enter Try.func34, Try.ntmps34
      go_wp2
      go_ret
      exact ⟨rfl, HB.out⟩⟩

set_option maxRecDepth 100000 in
theorem may_place (n : Int) : MayPart 38 (.int .i64 n) (decide (0 ≤ n)) :=
  ⟨fun args w => by kernel_rfl, fun w => by
    have HB : Hid (Below w.heap.size w w) := Below.refl _ _
    by_cases h1 : 0 ≤ n
    · have E : Hid (decide (0 ≤ n) = true) := by unfold Hid; simp [h1]
      rw [E.out]
      clear E
      go_enter Try.func38, Try.ntmps38
      go_wp2
      go_ret
      exact ⟨rfl, HB.out⟩
    · have E : Hid (decide (0 ≤ n) = false) := by unfold Hid; simp [h1]
      rw [E.out]
      clear E
      go_enter Try.func38, Try.ntmps38
      go_wp2
      go_ret
      exact ⟨rfl, HB.out⟩⟩
end Go.Proofs.Ytoegkdfeonkgkaa

