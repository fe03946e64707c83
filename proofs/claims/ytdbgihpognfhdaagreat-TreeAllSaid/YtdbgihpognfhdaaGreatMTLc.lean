/- Trees in a program: tree has begun. -/
import Derived.Test.YtdbgihpognfhdaaGreatMTLb
import Derived.Test.YtdbgihpognfhdaaGreatMTrS
import Derived.Test.YtdbgihpognfhdaaGreatMTrX
import Derived.Test.YtdbgihpognfhdaaGreatMFlG
import Derived.Test.YtdbgihpognfhdaaGreatMSlA
import Derived.Lib.SlBytesConst
namespace Go.By
open Go Go.RowKit
def bgNd : Nd := ⟨true, [⟨[97], [98]⟩], [], []⟩
def bgB : List Nat := [76, 1, 1, 97, 1, 98]
theorem bg_put : putNd bgNd = bgB := by decide +kernel
end Go.By
namespace Go.Proofs.YtdbgihpognfhdaaGreat.Sl.Nd
open Go Go.RowKit Go.By
theorem bg_chk : chkAll (fsT 10000 ([] ++ recOf 2 bgB) ([.cut 256] ++ [.write 256 (recOf 2 bgB)])).K 256 1 = some 1 := by decide +kernel
theorem bg_get : getAll (fsT 10000 ([] ++ recOf 2 bgB) ([.cut 256] ++ [.write 256 (recOf 2 bgB)])).K 256 1 [97] = some (some [98]) := by decide +kernel
theorem bg_bad : chkAll (fsT 10000 ([] ++ recOf 2 bgB) ([.cut 256] ++ [.write 256 (recOf 2 bgB)])).K 1 1 = none := by decide +kernel
set_option maxRecDepth 100000 in
set_option maxHeartbeats 2000000 in
theorem begun12_any (w : World) : Calls Tryz.prog 8 #[] w fun e w' => e = .returned (.bool true) ∧ Below w.heap.size w w' := by
  have hcv := fun (w : World) (C : Array Value) (n c : Nat) => Lib.run_convert_bytes_const (P := Tryz.prog) w 26 5 C n c byT.slice byT.elem
  go_enter Tryz.func8, Tryz.ntmps8
  go_wp2_with fail
  refine (new_any 10000 w).mono ?_
  rintro e w1 ⟨rfl, hd1, hb1⟩
  have HD1 := Lib.hid (Dsk.new hd1 hb1)
  clear hd1 hb1
  go_wp2_with fail
  refine (new_file tT tT_may (by decide +kernel) 10000 (by omega) HD1.out).mono ?_
  rintro e w2 ⟨g, own2, hg, rfl, hst2, hd2, hf2⟩
  have HT2 := Lib.hid (made_tf hd2 hf2)
  clear hg hst2 hd2 hf2 HD1
  obtain ⟨W, hW⟩ : ∃ W, W = allocs w2 [.cells #[.int .u8 97] 5 (1, 2), .cells #[.int .u8 98] 5 (1, 2), .cells #[.slice (some ⟨w2.heap.size, 0, none⟩) 1 1, .slice (some ⟨w2.heap.size + 1, 0, none⟩) 1 1] 49] := ⟨_, rfl⟩
  have hb : Below w2.heap.size w2 W := by rw [hW]; exact allocs_below _ _
  have b0 : Bytes W (.slice (some ⟨w2.heap.size, 0, none⟩) 1 1) [97] := bytes_at [97] (by rw [hW]; exact allocs_at (i := 0) rfl) rfl rfl (by decide) (by decide)
  have b1 : Bytes W (.slice (some ⟨w2.heap.size + 1, 0, none⟩) 1 1) [98] := bytes_at [98] (by rw [hW]; exact allocs_at (i := 1) rfl) rfl rfl (by decide) (by decide)
  have hI : IsNd W (.agg #[.bool true, .slice (some ⟨w2.heap.size + 1 + 1, 0, none⟩) 1 1, .slice none 0 0, .slice none 0 0]) bgNd (some ⟨w2.heap.size + 1 + 1, 0, none⟩) 1 none 0 none 0 :=
    ⟨rfl, RowAt.lit (css := [[.slice (some ⟨w2.heap.size, 0, none⟩) 1 1, .slice (some ⟨w2.heap.size + 1, 0, none⟩) 1 1]]) (by rw [hW]; exact allocs_at (i := 2) rfl) rfl (.cons (KItem.mk b0 b1) .nil) rfl (by decide), RowAt.nil, RowAt.nil⟩
  have HPUT : Hid (∀ W', W' = W → Calls Tryz.prog 11 #[.agg #[.bool true, .slice (some ⟨w2.heap.size + 1 + 1, 0, none⟩) 1 1, .slice none 0 0, .slice none 0 0]] W' (PnTold W bgNd)) := fun W' e => by subst e; exact refPut_any hI (fun _ => by show 0 + 0 ≤ _; omega)
  have HW := Lib.hid hW
  have HTW := Lib.hid (HT2.out.stay hb)
  have hcv2 := Go.Joins.run_convert_bytes_const_at (P := Tryz.prog) (w2.alloc (.cells #[.int .u8 97] 5 (1, 2))) 26 5 #[.int .u8 98] 1 1 (w2.heap.size + 1) (World.size_alloc ..).symm byT.slice byT.elem
  clear hW hb b0 b1 hI
  go_wp2_with fail
  clear hcv2
  refine (HPUT.out _ (by rw [HW.out]; rfl)).mono ?_
  rintro z w3 ⟨v3, rfl, ho3, hb3⟩
  rw [bg_put] at ho3
  have hy3 := ho3.bytes (by decide)
  obtain ⟨p3, c3, rfl⟩ := ho3.shape
  rw [show bgB.length = 6 from rfl] at hy3 ⊢
  have HT3 := Lib.hid (HTW.out.stay hb3)
  have HAP := Lib.hid (app_tf (C := []) (k := 2) HT3.out (by decide) (by decide) (by decide) (by decide) hy3 (by decide))
  clear ho3 hb3 hy3 HPUT HW HTW HT2
  go_wp2_with fail
  refine HAP.out.mono ?_
  rintro e w4 ⟨rfl, own4, hm4, ht4⟩
  have HT4 := Lib.hid ht4
  clear hm4 ht4 HAP HT3
  rw [show (256 + ([] : List Nat).length) = 256 from rfl] at HT4 ⊢
  obtain ⟨W5, hW5⟩ : ∃ W5, W5 = allocs w4 [.cells #[.int .i64 256, .int .u64 1] 25, .cells #[.int .u8 97] 5 (1, 2)] := ⟨_, rfl⟩
  have hb5 : Below w4.heap.size w4 W5 := by rw [hW5]; exact allocs_below _ _
  have g5 : W5.heap[w4.heap.size]? = some (.cells #[.int .i64 256, .int .u64 1] 25 (0, 0)) := by rw [hW5]; exact allocs_at (i := 0) rfl
  have k5 : Bytes W5 (.slice (some ⟨w4.heap.size + 1, 0, none⟩) 1 1) [97] := bytes_at [97] (by rw [hW5]; exact allocs_at (i := 1) rfl) rfl rfl (by decide) (by decide)
  have HT5 := Lib.hid (HT4.out.stay hb5)
  have hnn : ∀ k, w4.heap.size ≤ k → own4 k = none := fun k hk => HT4.out.disk.new_none hk
  have HNN := Lib.hid hnn
  have hok := fsT_ok (R := 10000) (C := [] ++ recOf 2 bgB) (os := [.cut 256] ++ [.write 256 (recOf 2 bgB)]) (by decide) (by decide) (by decide)
  have hget := get_any HT5.out hok (by decide) 256 1 (.slice (some ⟨w4.heap.size + 1, 0, none⟩) 1 1) [97] (fun W' hW' => bytes_steps k5 hW' (fun k hk => hnn k (by cases hk; exact Nat.le_succ _)))
  rw [bg_get] at hget
  have HGET := Lib.hid hget
  have HOK := Lib.hid hok
  have HG5 := Lib.hid g5
  have HW5 := Lib.hid hW5
  have hcv3 := Go.Joins.run_convert_bytes_const_at (P := Tryz.prog) (w4.alloc (.cells #[.int .i64 256, .int .u64 1] 25)) 26 5 #[.int .u8 97] 1 1 (w4.heap.size + 1) (World.size_alloc ..).symm byT.slice byT.elem
  clear hW5 hb5 g5 k5 hnn hget hok hcv
  go_wp2_with fail
  clear hcv3
  rw [show (w4.alloc (.cells #[.int .i64 256, .int .u64 1] 25)).alloc (.cells #[.int .u8 97] 5 (1, 2)) = W5 from by rw [HW5.out]; rfl]
  refine HGET.out.mono ?_
  rintro e w6 ⟨o6, h61, h62, hst6, ht6, p6, c6, rfl, hlast⟩
  have HT6 := Lib.hid ht6
  have hg6 := (hst6.block _ (Array.getElem?_eq_some_iff.1 HG5.out).1 (.inl (HNN.out _ (Nat.le_refl _)))).trans HG5.out
  have r0 := cells_of hg6 0
  have r1 := cells_of hg6 1
  simp only [List.getElem?_toArray, List.getElem?_cons_zero, List.getElem?_cons_succ] at r0 r1
  have HLA := Lib.hid hlast
  have HO6 : Hid (o6 < 1000) := by unfold Hid; omega
  have hchk := check_any HT6.out HOK.out (by have := HO6.out; omega) 256 1
  rw [bg_chk] at hchk
  have HCHK := Lib.hid hchk
  clear hst6 ht6 hlast hg6 hchk h61 h62 HGET HT5 HG5 HW5
  rw [show [98].length = 1 from rfl] at HLA ⊢
  go_wp2_with fail
  refine HCHK.out.mono ?_
  rintro e w7 ⟨o7, h71, h72, hst7, ht7, rfl⟩
  have HT7 := Lib.hid ht7
  have HLA7 : Hid (∀ W', Steps own4 own4 w7 W' → Bytes W' (.slice p6 1 c6) [98]) := fun W' hW' => HLA.out W' (hst7.trans hW')
  have hchk := check_any HT7.out HOK.out (by have := HO6.out; omega) 1 1
  rw [bg_bad] at hchk
  have HCHK := Lib.hid hchk
  clear hst7 ht7 hchk h71 h72 r0 r1 HLA
  rw [show ((some 1 : Option Nat).getD 0) = 1 from rfl, show noOf (some 1 : Option Nat).isNone = 0 from rfl]
  go_wp2_with fail
  refine HCHK.out.mono ?_
  rintro e w8 ⟨o8, h81, h82, hst8, ht8, rfl⟩
  have HBW : Hid (Below w.heap.size w w8) := ht8.disk.below
  have c1 := (HLA7.out w8 hst8).toString byT (P := Tryz.prog) (d := 9) (by kernel_rfl)
  rw [show strOf [98] = ⟨#[98]⟩ from rfl] at c1
  clear hst8 ht8 h81 h82 HLA7 HCHK
  rw [show ((none : Option Nat).getD 0) = 0 from rfl, show noOf (none : Option Nat).isNone = 2 from rfl]
  go_wp2
  go_ret
  exact ⟨rfl, HBW.out⟩
end Go.Proofs.YtdbgihpognfhdaaGreat.Sl.Nd
