/- sum has begun. -/
import Derived.Test.YthfgegcbigcckaaSumE
import Derived.Test.YthfgegcbigcckaaLoan
import Derived.Test.YthfgegcbigcckaaLaw
import Derived.Lib.SlBytesConst
namespace Go.Proofs.Ythfgegcbigcckaa
open Go.RowKit Go.By

theorem sum_lit (v : Value) (l : List Nat) (n : Int) (w : World) (hv : Bytes w v l) (hn : ((Crc.sum l : Nat) : Int) = n) :
    Calls Try.prog 9 #[v] w fun e w' => e = .returned (.int .u32 n) ∧ Below w.heap.size w w' := by
  rw [← hn]; exact sum_any v l w hv

set_option maxRecDepth 100000 in
theorem begun_any (w : World) : Calls Try.prog 7 #[] w fun e w' => e = .returned (.bool true) ∧ Below w.heap.size w w' := by
  have hcv := fun (w : World) (C : Array Value) (n c : Nat) => Lib.run_convert_bytes_const (P := Try.prog) w 22 5 C n c byT.slice byT.elem
  go_enter Try.func7, Try.ntmps7
  go_wp2_with fail
  refine (sum_lit _ [] 0 w (Bytes.nil w) (by decide +kernel)).mono ?_
  rintro e w1 ⟨rfl, hb⟩
  have HB := Lib.hid hb; clear hb
  go_wp2_with fail
  refine (sum_lit (.slice (some ⟨w1.heap.size, 0, none⟩) 9 9) [49, 50, 51, 52, 53, 54, 55, 56, 57] 3808858755 _ (Bytes.lit _ rfl rfl (by decide) (by decide)) (by decide +kernel)).mono ?_
  rintro e w2 ⟨rfl, hb2⟩
  have HB2 := Lib.hid hb2; clear hb2
  go_wp2
  go_ret
  exact ⟨rfl, HB.out.trans (((Below.refl _ _).alloc HB.out.size _).trans (HB2.out.mono (by have := HB.out.size; simp; omega)))⟩

theorem own_none : ownKnob Try.prog.godebug = none := by kernel_rfl
theorem laidOut : laidOutB Try.prog = true := by kernel_rfl
end Go.Proofs.Ythfgegcbigcckaa
