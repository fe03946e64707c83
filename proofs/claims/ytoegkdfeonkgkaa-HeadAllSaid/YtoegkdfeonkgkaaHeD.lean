/- Heads in a program: their parts, put; what Put tells. -/
import Derived.Test.YtoegkdfeonkgkaaHeC
namespace Go.Proofs.Ytoegkdfeonkgkaa
open Go Go.RowKit Go.By


set_option maxRecDepth 100000 in
theorem hd_next (n : Nat) (f : Int) (tb : Bool) (w0 : World) (hn : n < 9223372036854775808) : PutPart w0 41 (.agg #[.int .i64 (n : Nat), .int .i64 f, .bool tb]) (highOf n 8) :=
  ⟨fun args w => by kernel_rfl, fun v l base w hv hl h0 hb hb0 => by
    obtain ⟨p, cap, rfl⟩ := shape_of hv
    have HC := Lib.hid (putNumber_any n 8 (by omega) (by omega) _ l base (w.alloc (.cells #[.int .i64 (n : Nat), .int .i64 f, .bool tb] 45)) (hv.alloc _) hl (by simp; omega))
    have HB : Hid (Below base w (w.alloc (.cells #[.int .i64 (n : Nat), .int .i64 f, .bool tb] 45))) := (Below.refl _ _).alloc hb _
    clear hv hl h0 hb0 
    go_enter Try.func41, Try.ntmps41
    go_wp2_with fail
    refine HC.out.mono ?_
    rintro e w1 ⟨v1, rfl, ho, hb2⟩
    have HO := Lib.hid ho; have HB2 := Lib.hid (HB.out.trans hb2)
    clear ho hb2
    go_wp2
    go_ret
    exact ⟨_, rfl, HO.out, HB2.out⟩⟩

set_option maxRecDepth 100000 in
theorem hd_first (x : Int) (n : Nat) (tb : Bool) (w0 : World) (hn : n < 9223372036854775808) : PutPart w0 42 (.agg #[.int .i64 x, .int .i64 (n : Nat), .bool tb]) (highOf n 8) :=
  ⟨fun args w => by kernel_rfl, fun v l base w hv hl h0 hb hb0 => by
    obtain ⟨p, cap, rfl⟩ := shape_of hv
    have HC := Lib.hid (putNumber_any n 8 (by omega) (by omega) _ l base (w.alloc (.cells #[.int .i64 x, .int .i64 (n : Nat), .bool tb] 45)) (hv.alloc _) hl (by simp; omega))
    have HB : Hid (Below base w (w.alloc (.cells #[.int .i64 x, .int .i64 (n : Nat), .bool tb] 45))) := (Below.refl _ _).alloc hb _
    clear hv hl h0 hb0 
    go_enter Try.func42, Try.ntmps42
    go_wp2_with fail
    refine HC.out.mono ?_
    rintro e w1 ⟨v1, rfl, ho, hb2⟩
    have HO := Lib.hid ho; have HB2 := Lib.hid (HB.out.trans hb2)
    clear ho hb2
    go_wp2
    go_ret
    exact ⟨_, rfl, HO.out, HB2.out⟩⟩

set_option maxRecDepth 100000 in
theorem dn_first (n : Nat) (c : Int) (tb : Bool) (w0 : World) (hn : n < 9223372036854775808) : PutPart w0 46 (.agg #[.int .i64 (n : Nat), .int .i64 c, .bool tb]) (highOf n 8) :=
  ⟨fun args w => by kernel_rfl, fun v l base w hv hl h0 hb hb0 => by
    obtain ⟨p, cap, rfl⟩ := shape_of hv
    have HC := Lib.hid (putNumber_any n 8 (by omega) (by omega) _ l base (w.alloc (.cells #[.int .i64 (n : Nat), .int .i64 c, .bool tb] 54)) (hv.alloc _) hl (by simp; omega))
    have HB : Hid (Below base w (w.alloc (.cells #[.int .i64 (n : Nat), .int .i64 c, .bool tb] 54))) := (Below.refl _ _).alloc hb _
    clear hv hl h0 hb0 
    go_enter Try.func46, Try.ntmps46
    go_wp2_with fail
    refine HC.out.mono ?_
    rintro e w1 ⟨v1, rfl, ho, hb2⟩
    have HO := Lib.hid ho; have HB2 := Lib.hid (HB.out.trans hb2)
    clear ho hb2
    go_wp2
    go_ret
    exact ⟨_, rfl, HO.out, HB2.out⟩⟩

set_option maxRecDepth 100000 in
theorem dn_count (x : Int) (n : Nat) (tb : Bool) (w0 : World) (hn : n < 9223372036854775808) : PutPart w0 47 (.agg #[.int .i64 x, .int .i64 (n : Nat), .bool tb]) (highOf n 2) :=
  ⟨fun args w => by kernel_rfl, fun v l base w hv hl h0 hb hb0 => by
    obtain ⟨p, cap, rfl⟩ := shape_of hv
    have HC := Lib.hid (putNumber_any n 2 (by omega) (by omega) _ l base (w.alloc (.cells #[.int .i64 x, .int .i64 (n : Nat), .bool tb] 54)) (hv.alloc _) hl (by simp; omega))
    have HB : Hid (Below base w (w.alloc (.cells #[.int .i64 x, .int .i64 (n : Nat), .bool tb] 54))) := (Below.refl _ _).alloc hb _
    clear hv hl h0 hb0 
    go_enter Try.func47, Try.ntmps47
    go_wp2_with fail
    refine HC.out.mono ?_
    rintro e w1 ⟨v1, rfl, ho, hb2⟩
    have HO := Lib.hid ho; have HB2 := Lib.hid (HB.out.trans hb2)
    clear ho hb2
    go_wp2
    go_ret
    exact ⟨_, rfl, HO.out, HB2.out⟩⟩

set_option maxRecDepth 100000 in
theorem mk_at (n : Nat) (p0 : Option Addr) (k0 c0 : Nat) (w0 : World) (hn : n < 9223372036854775808) : PutPart w0 49 (.agg #[.int .i64 (n : Nat), .slice p0 k0 c0]) (highOf n 8) :=
  ⟨fun args w => by kernel_rfl, fun v l base w hv hl h0 hb hb0 => by
    obtain ⟨p, cap, rfl⟩ := shape_of hv
    have HC := Lib.hid (putNumber_any n 8 (by omega) (by omega) _ l base (w.alloc (.cells #[.int .i64 (n : Nat), .slice p0 k0 c0] 60)) (hv.alloc _) hl (by simp; omega))
    have HB : Hid (Below base w (w.alloc (.cells #[.int .i64 (n : Nat), .slice p0 k0 c0] 60))) := (Below.refl _ _).alloc hb _
    clear hv hl h0 hb0 
    go_enter Try.func49, Try.ntmps49
    go_wp2_with fail
    refine HC.out.mono ?_
    rintro e w1 ⟨v1, rfl, ho, hb2⟩
    have HO := Lib.hid ho; have HB2 := Lib.hid (HB.out.trans hb2)
    clear ho hb2
    go_wp2
    go_ret
    exact ⟨_, rfl, HO.out, HB2.out⟩⟩

set_option maxRecDepth 100000 in
theorem pl_off (n : Nat) (w0 : World) (hn : n < 9223372036854775808) : PutPart w0 52 (.int .i64 (n : Nat)) (highOf n 8) :=
  ⟨fun args w => by kernel_rfl, fun v l base w hv hl h0 hb hb0 => by
    obtain ⟨p, cap, rfl⟩ := shape_of hv
    have HC := Lib.hid (putNumber_any n 8 (by omega) (by omega) _ l base w hv hl (by omega))
    have HB : Hid (Below base w w) := Below.refl _ _
    clear hv hl h0 hb0 
    go_enter Try.func52, Try.ntmps52
    go_wp2_with fail
    refine HC.out.mono ?_
    rintro e w1 ⟨v1, rfl, ho, hb2⟩
    have HO := Lib.hid ho; have HB2 := Lib.hid (HB.out.trans hb2)
    clear ho hb2
    go_wp2
    go_ret
    exact ⟨_, rfl, HO.out, HB2.out⟩⟩
end Go.Proofs.Ytoegkdfeonkgkaa

