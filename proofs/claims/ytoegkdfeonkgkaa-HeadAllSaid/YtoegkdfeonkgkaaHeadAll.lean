/- The law HeadAll: whatever the head, the answer, the mark, the place and the bytes, every call of it returns true, and all that was there before the call is as it was. No condition. -/
import Derived.Test.YtoegkdfeonkgkaaRows
import Derived.Test.YtoegkdfeonkgkaaHdI
import Derived.Test.YtoegkdfeonkgkaaReg
import Derived.Test.YtoegkdfeonkgkaaHdO
import Derived.ChangeMaps5
namespace Go.Proofs.Ytoegkdfeonkgkaa
open Go Go.ChangeShapes Go.WideShapes Go.ChangeAt Go.RowKit Go.By

set_option maxRecDepth 100000 in
set_option maxHeartbeats 8000000 in
theorem headAll_any {w : World} (n f : Int) (tb : Bool) (df dc : Int) (ag : Bool) (t : Int) (u : Value) (md : List Nat) (off : Int) (v : Value) (b : List Nat) (hn : n ≤ 9223372036854775807) (hdf : df ≤ 9223372036854775807) (ht : t ≤ 9223372036854775807) (hoff : off ≤ 9223372036854775807) (hu : Bytes w u md) (hv : Bytes w v b) :
    Calls Try.prog 3 #[.agg #[.int .i64 n, .int .i64 f, .bool tb], .agg #[.int .i64 df, .int .i64 dc, .bool ag], .agg #[.int .i64 t, u], .int .i64 off, v] w fun z w' => z = .returned (.bool true) ∧ Below w.heap.size w w' := by
  obtain ⟨pm, cm, rfl, _⟩ := hu.any
  obtain ⟨pb, cb, hveq⟩ : ∃ p cap, v = .slice p b.length cap := let ⟨p, cap, h, _⟩ := hv.any; ⟨p, cap, h⟩
  subst hveq
  have hdm := hu.short
  have hdb := hv.short
  unfold maxLen at hdm hdb
  obtain ⟨LM, hLM⟩ : ∃ L, L = md.length := ⟨_, rfl⟩
  obtain ⟨LB, hLB⟩ : ∃ L, L = b.length := ⟨_, rfl⟩
  rw [← hLM] at hu hdm ⊢
  rw [← hLB] at hv hdb ⊢
  have HLM := Lib.hid hLM; have HLB := Lib.hid hLB
  have HN := Lib.hid hn; have HDF := Lib.hid hdf; have HT := Lib.hid ht; have HOFF := Lib.hid hoff
  obtain ⟨W, hW⟩ : ∃ W, W = ((w.alloc (.cells #[.int .i64 n, .int .i64 f, .bool tb] 23)).alloc (.cells #[.int .i64 df, .int .i64 dc, .bool ag] 25)).alloc (.cells #[.int .i64 t, .slice pm LM cm] 28) := ⟨_, rfl⟩
  have hb : Below w.heap.size w W := by rw [hW]; exact (((Below.refl w.heap.size w).alloc (Nat.le_refl _) _).alloc (by simp) _).alloc (by simp; omega) _
  have hX5 : BlkAt W w.heap.size #[.int .i64 n, .int .i64 f, .bool tb] 23 := by
    rw [hW]
    exact ((BlkAt.new w _ _).below ((Below.refl _ _).alloc (Nat.le_refl _) _)).below ((Below.refl _ _).alloc (Nat.le_refl _) _)
  have hX6 : BlkAt W (w.heap.size + 1) #[.int .i64 df, .int .i64 dc, .bool ag] 25 := by
    rw [hW]
    have := (BlkAt.new (w.alloc (.cells #[.int .i64 n, .int .i64 f, .bool tb] 23)) #[.int .i64 df, .int .i64 dc, .bool ag] 25).below ((Below.refl _ _).alloc (Nat.le_refl _) (.cells #[.int .i64 t, .slice pm LM cm] 28))
    rw [World.size_alloc] at this
    exact this
  have hX7 : BlkAt W (w.heap.size + 2) #[.int .i64 t, .slice pm LM cm] 28 := by
    rw [hW]
    have := BlkAt.new ((w.alloc (.cells #[.int .i64 n, .int .i64 f, .bool tb] 23)).alloc (.cells #[.int .i64 df, .int .i64 dc, .bool ag] 25)) #[.int .i64 t, .slice pm LM cm] 28
    rw [World.size_alloc, World.size_alloc] at this
    exact this
  have HV0 := Lib.hid (hv.below hb); have HU0 := Lib.hid (hu.below hb); have HB0 := Lib.hid hb
  have HX50 := Lib.hid hX5; have HX60 := Lib.hid hX6; have HX70 := Lib.hid hX7; have HW := Lib.hid hW
  clear hv hu hb hX5 hX6 hX7 hW hn hdf ht hoff hLM hLB
  go_enter Try.func3, Try.ntmps3
  go_wp2_with fail
  rw [← HW.out]
  clear HW
  refine (begun_any W).mono ?_
  rintro z w1 ⟨rfl, hb1⟩
  have HV1 := Lib.hid (HV0.out.below hb1); have HU1 := Lib.hid (HU0.out.below hb1); have HX51 := Lib.hid (HX50.out.below hb1); have HX61 := Lib.hid (HX60.out.below hb1); have HX71 := Lib.hid (HX70.out.below hb1)
  have HB1 : Hid (Below w.heap.size w w1) := HB0.out.trans (hb1.mono HB0.out.size)
  clear hb1 HV0 HU0 HX50 HX60 HX70 HB0
  obtain ⟨m0, m1⟩ := HX71.out.two
  by_cases h1 : 120 < (LM : Int)
  · go_wp2
    go_ret
    exact ⟨rfl, HB1.out⟩
  by_cases h2 : 120 < (LB : Int)
  · go_wp2
    go_ret
    exact ⟨rfl, HB1.out⟩
  clear hdm hdb
  go_wp2_with fail
  clear h1 h2 m0 m1
  refine (takeHead_any _ b w1 HV1.out).mono ?_
  rintro z v2 ⟨rfl, hb2⟩
  rw [show hdV b = .tuple #[.agg #[.int .i64 (hdH b).nx, .int .i64 (hdH b).fi, .bool (hdH b).tb], .int .i64 (hdC b)] from rfl]
  generalize qHN1 : (hdH b).nx = HN1 at *
  have QHN1 := Lib.hid qHN1
  clear qHN1
  generalize qHF1 : (hdH b).fi = HF1 at *
  have QHF1 := Lib.hid qHF1
  clear qHF1
  generalize qHT1 : (hdH b).tb = HT1 at *
  have QHT1 := Lib.hid qHT1
  clear qHT1
  generalize qHC1 : hdC b = HC1 at *
  have QHC1 := Lib.hid qHC1
  clear qHC1
  obtain ⟨w2, hw2⟩ : ∃ W, W = v2.alloc (.cells #[.int .i64 HN1, .int .i64 HF1, .bool HT1] 23) := ⟨_, rfl⟩
  have hc2 : Below v2.heap.size v2 w2 := by rw [hw2]; exact (Below.refl _ _).alloc (Nat.le_refl _) _
  have hd2 := hb2.trans (hc2.mono hb2.size)
  have HR112 : Hid (BlkAt w2 v2.heap.size #[.int .i64 HN1, .int .i64 HF1, .bool HT1] 23) := by unfold Hid; rw [hw2]; exact BlkAt.new ..
  have HV2 := Lib.hid (HV1.out.below hd2); have HU2 := Lib.hid (HU1.out.below hd2); have HX52 := Lib.hid (HX51.out.below hd2); have HX62 := Lib.hid (HX61.out.below hd2); have HX72 := Lib.hid (HX71.out.below hd2)
  have HB2 : Hid (Below w.heap.size w w2) := HB1.out.trans (hd2.mono HB1.out.size)
  have HW2 := Lib.hid hw2
  clear hb2 hc2 hd2 hw2 HV1 HU1 HX51 HX61 HX71 HB1
  go_wp2_with fail
  rw [← HW2.out]
  clear HW2
  refine (refTakeHead_any _ b w2 HV2.out).mono ?_
  rintro z v3 ⟨rfl, hb3⟩
  rw [show hdV b = .tuple #[.agg #[.int .i64 (hdH b).nx, .int .i64 (hdH b).fi, .bool (hdH b).tb], .int .i64 (hdC b)] from rfl]
  rw [QHN1.out, QHF1.out, QHT1.out, QHC1.out]
  obtain ⟨w3, hw3⟩ : ∃ W, W = v3.alloc (.cells #[.int .i64 HN1, .int .i64 HF1, .bool HT1] 23) := ⟨_, rfl⟩
  have hc3 : Below v3.heap.size v3 w3 := by rw [hw3]; exact (Below.refl _ _).alloc (Nat.le_refl _) _
  have hd3 := hb3.trans (hc3.mono hb3.size)
  have HR133 : Hid (BlkAt w3 v3.heap.size #[.int .i64 HN1, .int .i64 HF1, .bool HT1] 23) := by unfold Hid; rw [hw3]; exact BlkAt.new ..
  have HV3 := Lib.hid (HV2.out.below hd3); have HU3 := Lib.hid (HU2.out.below hd3); have HX53 := Lib.hid (HX52.out.below hd3); have HX63 := Lib.hid (HX62.out.below hd3); have HX73 := Lib.hid (HX72.out.below hd3); have HR113 := Lib.hid (HR112.out.below hd3)
  have HB3 : Hid (Below w.heap.size w w3) := HB2.out.trans (hd3.mono HB2.out.size)
  have HW3 := Lib.hid hw3
  clear hb3 hc3 hd3 hw3 HV2 HU2 HX52 HX62 HX72 HR112 HB2
  go_wp2_with fail
  rw [← HW3.out]
  clear HW3
  refine (takeDone_any _ b w3 HV3.out).mono ?_
  rintro z v4 ⟨rfl, hb4⟩
  rw [show dnV b = .tuple #[.agg #[.int .i64 (dnD b).fi, .int .i64 (dnD b).ct, .bool (dnD b).ag], .int .i64 (dnC b)] from rfl]
  generalize qDF1 : (dnD b).fi = DF1 at *
  have QDF1 := Lib.hid qDF1
  clear qDF1
  generalize qDC1 : (dnD b).ct = DC1 at *
  have QDC1 := Lib.hid qDC1
  clear qDC1
  generalize qDA1 : (dnD b).ag = DA1 at *
  have QDA1 := Lib.hid qDA1
  clear qDA1
  generalize qDE1 : dnC b = DE1 at *
  have QDE1 := Lib.hid qDE1
  clear qDE1
  obtain ⟨w4, hw4⟩ : ∃ W, W = v4.alloc (.cells #[.int .i64 DF1, .int .i64 DC1, .bool DA1] 25) := ⟨_, rfl⟩
  have hc4 : Below v4.heap.size v4 w4 := by rw [hw4]; exact (Below.refl _ _).alloc (Nat.le_refl _) _
  have hd4 := hb4.trans (hc4.mono hb4.size)
  have HR154 : Hid (BlkAt w4 v4.heap.size #[.int .i64 DF1, .int .i64 DC1, .bool DA1] 25) := by unfold Hid; rw [hw4]; exact BlkAt.new ..
  have HV4 := Lib.hid (HV3.out.below hd4); have HU4 := Lib.hid (HU3.out.below hd4); have HX54 := Lib.hid (HX53.out.below hd4); have HX64 := Lib.hid (HX63.out.below hd4); have HX74 := Lib.hid (HX73.out.below hd4); have HR114 := Lib.hid (HR113.out.below hd4); have HR134 := Lib.hid (HR133.out.below hd4)
  have HB4 : Hid (Below w.heap.size w w4) := HB3.out.trans (hd4.mono HB3.out.size)
  have HW4 := Lib.hid hw4
  clear hb4 hc4 hd4 hw4 HV3 HU3 HX53 HX63 HX73 HR113 HR133 HB3
  go_wp2_with fail
  rw [← HW4.out]
  clear HW4
  refine (refTakeDone_any _ b w4 HV4.out).mono ?_
  rintro z v5 ⟨rfl, hb5⟩
  rw [show dnV b = .tuple #[.agg #[.int .i64 (dnD b).fi, .int .i64 (dnD b).ct, .bool (dnD b).ag], .int .i64 (dnC b)] from rfl]
  rw [QDF1.out, QDC1.out, QDA1.out, QDE1.out]
  obtain ⟨w5, hw5⟩ : ∃ W, W = v5.alloc (.cells #[.int .i64 DF1, .int .i64 DC1, .bool DA1] 25) := ⟨_, rfl⟩
  have hc5 : Below v5.heap.size v5 w5 := by rw [hw5]; exact (Below.refl _ _).alloc (Nat.le_refl _) _
  have hd5 := hb5.trans (hc5.mono hb5.size)
  have HR175 : Hid (BlkAt w5 v5.heap.size #[.int .i64 DF1, .int .i64 DC1, .bool DA1] 25) := by unfold Hid; rw [hw5]; exact BlkAt.new ..
  have HV5 := Lib.hid (HV4.out.below hd5); have HU5 := Lib.hid (HU4.out.below hd5); have HX55 := Lib.hid (HX54.out.below hd5); have HX65 := Lib.hid (HX64.out.below hd5); have HX75 := Lib.hid (HX74.out.below hd5); have HR115 := Lib.hid (HR114.out.below hd5); have HR135 := Lib.hid (HR134.out.below hd5); have HR155 := Lib.hid (HR154.out.below hd5)
  have HB5 : Hid (Below w.heap.size w w5) := HB4.out.trans (hd5.mono HB4.out.size)
  have HW5 := Lib.hid hw5
  clear hb5 hc5 hd5 hw5 HV4 HU4 HX54 HX64 HX74 HR114 HR134 HR154 HB4
  go_wp2_with fail
  rw [← HW5.out]
  clear HW5
  refine (takeMark_any _ b w5 HV5.out).mono ?_
  rintro z v6 ⟨⟨u6, rfl, hu6⟩, hb6⟩
  obtain ⟨pu6, cu6, rfl, _⟩ := hu6.any
  generalize hMA : (mkM b).at_ = MA at *
  generalize hML : (mkM b).da.length = ML at *
  generalize hMC : mkC b = MC at *
  have HMA := Lib.hid hMA; have HML := Lib.hid hML; have HMC := Lib.hid hMC
  clear hMA hML hMC
  obtain ⟨w6, hw6⟩ : ∃ W, W = v6.alloc (.cells #[.int .i64 MA, .slice pu6 ML cu6] 28) := ⟨_, rfl⟩
  have hc6 : Below v6.heap.size v6 w6 := by rw [hw6]; exact (Below.refl _ _).alloc (Nat.le_refl _) _
  have hd6 := hb6.trans (hc6.mono hb6.size)
  have HR196 : Hid (BlkAt w6 v6.heap.size #[.int .i64 MA, .slice pu6 ML cu6] 28) := by unfold Hid; rw [hw6]; exact BlkAt.new ..
  have HV6 := Lib.hid (HV5.out.below hd6); have HU6 := Lib.hid (HU5.out.below hd6); have HX56 := Lib.hid (HX55.out.below hd6); have HX66 := Lib.hid (HX65.out.below hd6); have HX76 := Lib.hid (HX75.out.below hd6); have HR116 := Lib.hid (HR115.out.below hd6); have HR136 := Lib.hid (HR135.out.below hd6); have HR156 := Lib.hid (HR155.out.below hd6); have HR176 := Lib.hid (HR175.out.below hd6)
  have HB6 : Hid (Below w.heap.size w w6) := HB5.out.trans (hd6.mono HB5.out.size)
  have HUR196 := Lib.hid (hu6.below hc6)
  have HW6 := Lib.hid hw6
  clear hb6 hc6 hd6 hw6 hu6 HV5 HU5 HX55 HX65 HX75 HR115 HR135 HR155 HR175 HB5
  go_wp2_with fail
  rw [← HW6.out]
  clear HW6
  refine (refTakeMark_any _ b w6 HV6.out).mono ?_
  rintro z v7 ⟨⟨u7, rfl, hu7⟩, hb7⟩
  obtain ⟨pu7, cu7, rfl, _⟩ := hu7.any
  rw [HMA.out, HMC.out, HML.out]
  rw [HML.out] at hu7
  obtain ⟨w7, hw7⟩ : ∃ W, W = v7.alloc (.cells #[.int .i64 MA, .slice pu7 ML cu7] 28) := ⟨_, rfl⟩
  have hc7 : Below v7.heap.size v7 w7 := by rw [hw7]; exact (Below.refl _ _).alloc (Nat.le_refl _) _
  have hd7 := hb7.trans (hc7.mono hb7.size)
  have HR217 : Hid (BlkAt w7 v7.heap.size #[.int .i64 MA, .slice pu7 ML cu7] 28) := by unfold Hid; rw [hw7]; exact BlkAt.new ..
  have HV7 := Lib.hid (HV6.out.below hd7); have HU7 := Lib.hid (HU6.out.below hd7); have HX57 := Lib.hid (HX56.out.below hd7); have HX67 := Lib.hid (HX66.out.below hd7); have HX77 := Lib.hid (HX76.out.below hd7); have HR117 := Lib.hid (HR116.out.below hd7); have HR137 := Lib.hid (HR136.out.below hd7); have HR157 := Lib.hid (HR156.out.below hd7); have HR177 := Lib.hid (HR176.out.below hd7); have HR197 := Lib.hid (HR196.out.below hd7); have HUR197 := Lib.hid (HUR196.out.below hd7)
  have HB7 : Hid (Below w.heap.size w w7) := HB6.out.trans (hd7.mono HB6.out.size)
  have HUR217 := Lib.hid (hu7.below hc7)
  have HW7 := Lib.hid hw7
  clear hb7 hc7 hd7 hw7 hu7 HV6 HU6 HX56 HX66 HX76 HR116 HR136 HR156 HR176 HR196 HUR196 HB6
  go_wp2_with fail
  rw [← HW7.out]
  clear HW7
  refine (takeOff_any _ b w7 HV7.out).mono ?_
  rintro z v8 ⟨rfl, hb8⟩
  rw [show ofV b = .tuple #[.int .i64 (ofN b), .int .i64 (ofC b)] from rfl]
  generalize qON1 : ofN b = ON1 at *
  have QON1 := Lib.hid qON1
  clear qON1
  generalize qOC1 : ofC b = OC1 at *
  have QOC1 := Lib.hid qOC1
  clear qOC1
  have HV8 := Lib.hid (HV7.out.below hb8); have HU8 := Lib.hid (HU7.out.below hb8); have HX58 := Lib.hid (HX57.out.below hb8); have HX68 := Lib.hid (HX67.out.below hb8); have HX78 := Lib.hid (HX77.out.below hb8); have HR118 := Lib.hid (HR117.out.below hb8); have HR138 := Lib.hid (HR137.out.below hb8); have HR158 := Lib.hid (HR157.out.below hb8); have HR178 := Lib.hid (HR177.out.below hb8); have HR198 := Lib.hid (HR197.out.below hb8); have HUR198 := Lib.hid (HUR197.out.below hb8); have HR218 := Lib.hid (HR217.out.below hb8); have HUR218 := Lib.hid (HUR217.out.below hb8)
  have HB8 : Hid (Below w.heap.size w v8) := HB7.out.trans (hb8.mono HB7.out.size)
  clear hb8 HV7 HU7 HX57 HX67 HX77 HR117 HR137 HR157 HR177 HR197 HUR197 HR217 HUR217 HB7
  go_wp2_with fail
  refine (refTakeOff_any _ b v8 HV8.out).mono ?_
  rintro z v9 ⟨rfl, hb9⟩
  rw [show ofV b = .tuple #[.int .i64 (ofN b), .int .i64 (ofC b)] from rfl]
  rw [QON1.out, QOC1.out]
  have HV9 := Lib.hid (HV8.out.below hb9); have HU9 := Lib.hid (HU8.out.below hb9); have HX59 := Lib.hid (HX58.out.below hb9); have HX69 := Lib.hid (HX68.out.below hb9); have HX79 := Lib.hid (HX78.out.below hb9); have HR119 := Lib.hid (HR118.out.below hb9); have HR139 := Lib.hid (HR138.out.below hb9); have HR159 := Lib.hid (HR158.out.below hb9); have HR179 := Lib.hid (HR178.out.below hb9); have HR199 := Lib.hid (HR198.out.below hb9); have HUR199 := Lib.hid (HUR198.out.below hb9); have HR219 := Lib.hid (HR218.out.below hb9); have HUR219 := Lib.hid (HUR218.out.below hb9)
  have HB9 : Hid (Below w.heap.size w v9) := HB8.out.trans (hb9.mono HB8.out.size)
  clear hb9 HV8 HU8 HX58 HX68 HX78 HR118 HR138 HR158 HR178 HR198 HUR198 HR218 HUR218 HB8
  go_wp2_with fail
  rename_i Kc hKc
  obtain ⟨G5, hG5⟩ : ∃ G, G = w.heap.size := ⟨_, rfl⟩
  obtain ⟨G6, hG6⟩ : ∃ G, G = w.heap.size + 1 := ⟨_, rfl⟩
  obtain ⟨G7, hG7⟩ : ∃ G, G = w.heap.size + 2 := ⟨_, rfl⟩
  rw [← hG7, ← hG6, ← hG5]
  have HY5 : Hid (BlkAt v9 G5 #[.int .i64 n, .int .i64 f, .bool tb] 23) := by unfold Hid; rw [hG5]; exact HX59.out
  have HY6 : Hid (BlkAt v9 G6 #[.int .i64 df, .int .i64 dc, .bool ag] 25) := by unfold Hid; rw [hG6]; exact HX69.out
  have HY7 : Hid (BlkAt v9 G7 #[.int .i64 t, .slice pm LM cm] 28) := by unfold Hid; rw [hG7]; exact HX79.out
  clear hG5 hG6 hG7
  have HPM : Hid (∀ wz, Bytes wz (.slice pm LM cm) md → Calls Try.prog 19 #[.agg #[.int .i64 t, .slice pm LM cm]] wz fun z w' => ∃ v', z = .returned v' ∧ w'.ownsRow wz.heap.size 5 1 v' (putMk ⟨t, md⟩).length (cellsOf (putMk ⟨t, md⟩)) ∧ Below wz.heap.size wz w') := fun wz h => by
    have := putMark_any t pm cm md wz (by rw [← HLM.out]; exact h) HT.out
    rw [← HLM.out] at this
    exact this
  refine wp_region_left (by kernel_rfl)
    [.is (.agg #[.int .i64 n, .int .i64 f, .bool tb]),
     .bytes (putHd ⟨n, f, tb⟩),
     .is (.string (strOf (putHd ⟨n, f, tb⟩))),
     .is (.agg #[.int .i64 n, .int .i64 f, .bool tb]),
     .bytes (putHd ⟨n, f, tb⟩),
     .is (.string (strOf (putHd ⟨n, f, tb⟩))),
     .is (.bool false),
     .is (.bool false),
     .is (.agg #[.int .i64 df, .int .i64 dc, .bool ag]),
     .bytes (putDn ⟨df, dc, ag⟩),
     .is (.string (strOf (putDn ⟨df, dc, ag⟩))),
     .is (.agg #[.int .i64 df, .int .i64 dc, .bool ag]),
     .bytes (putDn ⟨df, dc, ag⟩),
     .is (.string (strOf (putDn ⟨df, dc, ag⟩))),
     .is (.bool false),
     .is (.bool false),
     .is (.bool false),
     .is (.agg #[.int .i64 t, .slice pm LM cm]),
     .bytes (putMk ⟨t, md⟩),
     .is (.string (strOf (putMk ⟨t, md⟩))),
     .is (.agg #[.int .i64 t, .slice pm LM cm]),
     .bytes (putMk ⟨t, md⟩),
     .is (.string (strOf (putMk ⟨t, md⟩))),
     .is (.bool false),
     .is (.bool false),
     .is (.bool false),
     .is (.int .i64 off),
     .bytes (putOf off),
     .is (.string (strOf (putOf off))),
     .is (.int .i64 off),
     .bytes (putOf off),
     .is (.string (strOf (putOf off))),
     .is (.bool false),
     .is (.bool false)]
    [[], [0], [1], [], [3], [4], [2, 5], [6], [7], [7, 8], [7, 9], [7], [7, 11], [7, 12], [7, 10, 13], [7, 14], [15], [16], [16, 17], [16, 18], [16], [16, 20], [16, 21], [16, 19, 22], [16, 23], [24], [25], [25, 26], [25, 27], [25], [25, 29], [25, 30], [25, 28, 31], [25, 32]] (by kernel_rfl) (by rfl) ?_ ?_
  · refine LeftOps.cons ?_ (LeftOps.cons ?_ (LeftOps.cons ?_ (LeftOps.cons ?_ (LeftOps.cons ?_ (LeftOps.cons ?_ (LeftOps.cons ?_ (LeftOps.cons ?_ (LeftOps.cons ?_ (LeftOps.cons ?_ (LeftOps.cons ?_ (LeftOps.cons ?_ (LeftOps.cons ?_ (LeftOps.cons ?_ (LeftOps.cons ?_ (LeftOps.cons ?_ (LeftOps.cons ?_ (LeftOps.cons ?_ (LeftOps.cons ?_ (LeftOps.cons ?_ (LeftOps.cons ?_ (LeftOps.cons ?_ (LeftOps.cons ?_ (LeftOps.cons ?_ (LeftOps.cons ?_ (LeftOps.cons ?_ (LeftOps.cons ?_ (LeftOps.cons ?_ (LeftOps.cons ?_ (LeftOps.cons ?_ (LeftOps.cons ?_ (LeftOps.cons ?_ (LeftOps.cons ?_ (LeftOps.cons ?_ (LeftOps.nil))))))))))))))))))))))))))))))))))
    · intro wz hwz
      clear hKc
      refine withLeft_nil ?_
      refine lft_run rfl rfl ?_
      unfold LftRun
      obtain ⟨c0, c1, c2⟩ := (HY5.out.below hwz).three
      go_wp2
      exact ⟨rfl, rfl, rfl, Below.refl _ _⟩
    · intro wz hwz
      clear hKc
      refine withLeft_is rfl rfl ?_
      refine withLeft_nil ?_
      simp only [Act.put, List.setIfInBounds_toArray, List.set_cons_zero, List.set_cons_succ]
      refine lft_run rfl rfl ?_
      unfold LftRun
      go_wp2_with fail
      refine (putHead_any n f tb wz HN.out).mono ?_
      rintro e wq ⟨vq, rfl, hoq, hbq⟩
      have hyq := owns_bytes hoq (putHd_small _) (by have := putHd_length ⟨n, f, tb⟩; unfold maxLen; omega)
      clear hoq
      go_wp2
      exact ⟨rfl, hyq, rfl, hbq⟩
    · intro wz hwz
      clear hKc
      refine withLeft_bytes rfl rfl ?_
      intro vv hvv
      obtain ⟨pv, cv, rfl, _⟩ := hvv.any
      have hcvv := hvv.toString (P := Try.prog) byT (d := 9) (by kernel_rfl)
      refine withLeft_nil ?_
      simp only [Act.put, List.setIfInBounds_toArray, List.set_cons_zero, List.set_cons_succ]
      refine lft_run rfl rfl ?_
      unfold LftRun
      go_wp2
      exact ⟨rfl, rfl, rfl, Below.refl _ _⟩
    · intro wz hwz
      clear hKc
      refine withLeft_nil ?_
      refine lft_run rfl rfl ?_
      unfold LftRun
      obtain ⟨c0, c1, c2⟩ := (HY5.out.below hwz).three
      go_wp2
      exact ⟨rfl, rfl, rfl, Below.refl _ _⟩
    · intro wz hwz
      clear hKc
      refine withLeft_is rfl rfl ?_
      refine withLeft_nil ?_
      simp only [Act.put, List.setIfInBounds_toArray, List.set_cons_zero, List.set_cons_succ]
      refine lft_run rfl rfl ?_
      unfold LftRun
      go_wp2_with fail
      refine (refPutHead_any n f tb wz HN.out).mono ?_
      rintro e wq ⟨vq, rfl, hoq, hbq⟩
      have hyq := owns_bytes hoq (putHd_small _) (by have := putHd_length ⟨n, f, tb⟩; unfold maxLen; omega)
      clear hoq
      go_wp2
      exact ⟨rfl, hyq, rfl, hbq⟩
    · intro wz hwz
      clear hKc
      refine withLeft_bytes rfl rfl ?_
      intro vv hvv
      obtain ⟨pv, cv, rfl, _⟩ := hvv.any
      have hcvv := hvv.toString (P := Try.prog) byT (d := 9) (by kernel_rfl)
      refine withLeft_nil ?_
      simp only [Act.put, List.setIfInBounds_toArray, List.set_cons_zero, List.set_cons_succ]
      refine lft_run rfl rfl ?_
      unfold LftRun
      go_wp2
      exact ⟨rfl, rfl, rfl, Below.refl _ _⟩
    · intro wz hwz
      clear hKc
      refine withLeft_is rfl rfl ?_
      refine withLeft_is rfl rfl ?_
      refine withLeft_nil ?_
      simp only [Act.put, List.setIfInBounds_toArray, List.set_cons_zero, List.set_cons_succ]
      refine lft_run rfl rfl ?_
      unfold LftRun
      go_wp2
      exact ⟨rfl, rfl, rfl, Below.refl _ _⟩
    · intro wz hwz
      clear hKc
      refine withLeft_is rfl rfl ?_
      refine withLeft_nil ?_
      simp only [Act.put, List.setIfInBounds_toArray, List.set_cons_zero, List.set_cons_succ]
      refine lft_run rfl rfl ?_
      exact lft_move rfl (by first | rfl | assumption)
    · intro wz hwz
      clear hKc
      refine withLeft_is rfl rfl ?_
      refine withLeft_nil ?_
      simp only [Act.put, List.setIfInBounds_toArray, List.set_cons_zero, List.set_cons_succ]
      refine lft_want rfl rfl rfl rfl ?_
      unfold LftRun
      obtain ⟨c0, c1, c2⟩ := (HY6.out.below hwz).three
      go_wp2
      exact ⟨rfl, rfl, rfl, Below.refl _ _⟩
    · intro wz hwz
      clear hKc
      refine withLeft_is rfl rfl ?_
      refine withLeft_is rfl rfl ?_
      refine withLeft_nil ?_
      simp only [Act.put, List.setIfInBounds_toArray, List.set_cons_zero, List.set_cons_succ]
      refine lft_want rfl rfl rfl rfl ?_
      unfold LftRun
      go_wp2_with fail
      refine (putDone_any df dc ag wz HDF.out).mono ?_
      rintro e wq ⟨vq, rfl, hoq, hbq⟩
      have hyq := owns_bytes hoq (putDn_small _) (by have := putDn_length ⟨df, dc, ag⟩; unfold maxLen; omega)
      clear hoq
      go_wp2
      exact ⟨rfl, hyq, rfl, hbq⟩
    · intro wz hwz
      clear hKc
      refine withLeft_is rfl rfl ?_
      refine withLeft_bytes rfl rfl ?_
      intro vv hvv
      obtain ⟨pv, cv, rfl, _⟩ := hvv.any
      have hcvv := hvv.toString (P := Try.prog) byT (d := 9) (by kernel_rfl)
      refine withLeft_nil ?_
      simp only [Act.put, List.setIfInBounds_toArray, List.set_cons_zero, List.set_cons_succ]
      refine lft_want rfl rfl rfl rfl ?_
      unfold LftRun
      go_wp2
      exact ⟨rfl, rfl, rfl, Below.refl _ _⟩
    · intro wz hwz
      clear hKc
      refine withLeft_is rfl rfl ?_
      refine withLeft_nil ?_
      simp only [Act.put, List.setIfInBounds_toArray, List.set_cons_zero, List.set_cons_succ]
      refine lft_want rfl rfl rfl rfl ?_
      unfold LftRun
      obtain ⟨c0, c1, c2⟩ := (HY6.out.below hwz).three
      go_wp2
      exact ⟨rfl, rfl, rfl, Below.refl _ _⟩
    · intro wz hwz
      clear hKc
      refine withLeft_is rfl rfl ?_
      refine withLeft_is rfl rfl ?_
      refine withLeft_nil ?_
      simp only [Act.put, List.setIfInBounds_toArray, List.set_cons_zero, List.set_cons_succ]
      refine lft_want rfl rfl rfl rfl ?_
      unfold LftRun
      go_wp2_with fail
      refine (refPutDone_any df dc ag wz HDF.out).mono ?_
      rintro e wq ⟨vq, rfl, hoq, hbq⟩
      have hyq := owns_bytes hoq (putDn_small _) (by have := putDn_length ⟨df, dc, ag⟩; unfold maxLen; omega)
      clear hoq
      go_wp2
      exact ⟨rfl, hyq, rfl, hbq⟩
    · intro wz hwz
      clear hKc
      refine withLeft_is rfl rfl ?_
      refine withLeft_bytes rfl rfl ?_
      intro vv hvv
      obtain ⟨pv, cv, rfl, _⟩ := hvv.any
      have hcvv := hvv.toString (P := Try.prog) byT (d := 9) (by kernel_rfl)
      refine withLeft_nil ?_
      simp only [Act.put, List.setIfInBounds_toArray, List.set_cons_zero, List.set_cons_succ]
      refine lft_want rfl rfl rfl rfl ?_
      unfold LftRun
      go_wp2
      exact ⟨rfl, rfl, rfl, Below.refl _ _⟩
    · intro wz hwz
      clear hKc
      refine withLeft_is rfl rfl ?_
      refine withLeft_is rfl rfl ?_
      refine withLeft_is rfl rfl ?_
      refine withLeft_nil ?_
      simp only [Act.put, List.setIfInBounds_toArray, List.set_cons_zero, List.set_cons_succ]
      refine lft_want rfl rfl rfl rfl ?_
      unfold LftRun
      go_wp2
      exact ⟨rfl, rfl, rfl, Below.refl _ _⟩
    · intro wz hwz
      clear hKc
      refine withLeft_is rfl rfl ?_
      refine withLeft_is rfl rfl ?_
      refine withLeft_nil ?_
      simp only [Act.put, List.setIfInBounds_toArray, List.set_cons_zero, List.set_cons_succ]
      refine lft_run rfl rfl ?_
      exact lft_pick rfl rfl rfl
    · intro wz hwz
      clear hKc
      refine withLeft_is rfl rfl ?_
      refine withLeft_nil ?_
      simp only [Act.put, List.setIfInBounds_toArray, List.set_cons_zero, List.set_cons_succ]
      refine lft_run rfl rfl ?_
      exact lft_move rfl (by first | rfl | assumption)
    · intro wz hwz
      clear hKc
      refine withLeft_is rfl rfl ?_
      refine withLeft_nil ?_
      simp only [Act.put, List.setIfInBounds_toArray, List.set_cons_zero, List.set_cons_succ]
      refine lft_want rfl rfl rfl rfl ?_
      unfold LftRun
      obtain ⟨c0, c1⟩ := (HY7.out.below hwz).two
      go_wp2
      exact ⟨rfl, rfl, rfl, Below.refl _ _⟩
    · intro wz hwz
      clear hKc
      refine withLeft_is rfl rfl ?_
      refine withLeft_is rfl rfl ?_
      refine withLeft_nil ?_
      simp only [Act.put, List.setIfInBounds_toArray, List.set_cons_zero, List.set_cons_succ]
      refine lft_want rfl rfl rfl rfl ?_
      unfold LftRun
      go_wp2_with fail
      refine (HPM.out wz (HU9.out.below hwz)).mono ?_
      rintro e wq ⟨vq, rfl, hoq, hbq⟩
      have hyq := owns_bytes hoq (putMk_small HU9.out.small) (by have := putMk_length ⟨t, md⟩; unfold maxLen; omega)
      clear hoq
      go_wp2
      exact ⟨rfl, hyq, rfl, hbq⟩
    · intro wz hwz
      clear hKc
      refine withLeft_is rfl rfl ?_
      refine withLeft_bytes rfl rfl ?_
      intro vv hvv
      obtain ⟨pv, cv, rfl, _⟩ := hvv.any
      have hcvv := hvv.toString (P := Try.prog) byT (d := 9) (by kernel_rfl)
      refine withLeft_nil ?_
      simp only [Act.put, List.setIfInBounds_toArray, List.set_cons_zero, List.set_cons_succ]
      refine lft_want rfl rfl rfl rfl ?_
      unfold LftRun
      go_wp2
      exact ⟨rfl, rfl, rfl, Below.refl _ _⟩
    · intro wz hwz
      clear hKc
      refine withLeft_is rfl rfl ?_
      refine withLeft_nil ?_
      simp only [Act.put, List.setIfInBounds_toArray, List.set_cons_zero, List.set_cons_succ]
      refine lft_want rfl rfl rfl rfl ?_
      unfold LftRun
      obtain ⟨c0, c1⟩ := (HY7.out.below hwz).two
      go_wp2
      exact ⟨rfl, rfl, rfl, Below.refl _ _⟩
    · intro wz hwz
      clear hKc
      refine withLeft_is rfl rfl ?_
      refine withLeft_is rfl rfl ?_
      refine withLeft_nil ?_
      simp only [Act.put, List.setIfInBounds_toArray, List.set_cons_zero, List.set_cons_succ]
      refine lft_want rfl rfl rfl rfl ?_
      unfold LftRun
      go_wp2_with fail
      refine (refPutMark_any t _ md wz (HU9.out.below hwz) HT.out).mono ?_
      rintro e wq ⟨vq, rfl, hoq, hbq⟩
      have hyq := owns_bytes hoq (putMk_small HU9.out.small) (by have := putMk_length ⟨t, md⟩; unfold maxLen; omega)
      clear hoq
      go_wp2
      exact ⟨rfl, hyq, rfl, hbq⟩
    · intro wz hwz
      clear hKc
      refine withLeft_is rfl rfl ?_
      refine withLeft_bytes rfl rfl ?_
      intro vv hvv
      obtain ⟨pv, cv, rfl, _⟩ := hvv.any
      have hcvv := hvv.toString (P := Try.prog) byT (d := 9) (by kernel_rfl)
      refine withLeft_nil ?_
      simp only [Act.put, List.setIfInBounds_toArray, List.set_cons_zero, List.set_cons_succ]
      refine lft_want rfl rfl rfl rfl ?_
      unfold LftRun
      go_wp2
      exact ⟨rfl, rfl, rfl, Below.refl _ _⟩
    · intro wz hwz
      clear hKc
      refine withLeft_is rfl rfl ?_
      refine withLeft_is rfl rfl ?_
      refine withLeft_is rfl rfl ?_
      refine withLeft_nil ?_
      simp only [Act.put, List.setIfInBounds_toArray, List.set_cons_zero, List.set_cons_succ]
      refine lft_want rfl rfl rfl rfl ?_
      unfold LftRun
      go_wp2
      exact ⟨rfl, rfl, rfl, Below.refl _ _⟩
    · intro wz hwz
      clear hKc
      refine withLeft_is rfl rfl ?_
      refine withLeft_is rfl rfl ?_
      refine withLeft_nil ?_
      simp only [Act.put, List.setIfInBounds_toArray, List.set_cons_zero, List.set_cons_succ]
      refine lft_run rfl rfl ?_
      exact lft_pick rfl rfl rfl
    · intro wz hwz
      clear hKc
      refine withLeft_is rfl rfl ?_
      refine withLeft_nil ?_
      simp only [Act.put, List.setIfInBounds_toArray, List.set_cons_zero, List.set_cons_succ]
      refine lft_run rfl rfl ?_
      exact lft_move rfl (by first | rfl | assumption)
    · intro wz hwz
      clear hKc
      refine withLeft_is rfl rfl ?_
      refine withLeft_nil ?_
      simp only [Act.put, List.setIfInBounds_toArray, List.set_cons_zero, List.set_cons_succ]
      refine lft_want rfl rfl rfl rfl ?_
      exact lft_move rfl (by first | rfl | assumption)
    · intro wz hwz
      clear hKc
      refine withLeft_is rfl rfl ?_
      refine withLeft_is rfl rfl ?_
      refine withLeft_nil ?_
      simp only [Act.put, List.setIfInBounds_toArray, List.set_cons_zero, List.set_cons_succ]
      refine lft_want rfl rfl rfl rfl ?_
      unfold LftRun
      go_wp2_with fail
      refine (putOff_any off wz HOFF.out).mono ?_
      rintro e wq ⟨vq, rfl, hoq, hbq⟩
      have hyq := owns_bytes hoq (putOf_small _) (by have := putOf_length off; unfold maxLen; omega)
      clear hoq
      go_wp2
      exact ⟨rfl, hyq, rfl, hbq⟩
    · intro wz hwz
      clear hKc
      refine withLeft_is rfl rfl ?_
      refine withLeft_bytes rfl rfl ?_
      intro vv hvv
      obtain ⟨pv, cv, rfl, _⟩ := hvv.any
      have hcvv := hvv.toString (P := Try.prog) byT (d := 9) (by kernel_rfl)
      refine withLeft_nil ?_
      simp only [Act.put, List.setIfInBounds_toArray, List.set_cons_zero, List.set_cons_succ]
      refine lft_want rfl rfl rfl rfl ?_
      unfold LftRun
      go_wp2
      exact ⟨rfl, rfl, rfl, Below.refl _ _⟩
    · intro wz hwz
      clear hKc
      refine withLeft_is rfl rfl ?_
      refine withLeft_nil ?_
      simp only [Act.put, List.setIfInBounds_toArray, List.set_cons_zero, List.set_cons_succ]
      refine lft_want rfl rfl rfl rfl ?_
      exact lft_move rfl (by first | rfl | assumption)
    · intro wz hwz
      clear hKc
      refine withLeft_is rfl rfl ?_
      refine withLeft_is rfl rfl ?_
      refine withLeft_nil ?_
      simp only [Act.put, List.setIfInBounds_toArray, List.set_cons_zero, List.set_cons_succ]
      refine lft_want rfl rfl rfl rfl ?_
      unfold LftRun
      go_wp2_with fail
      refine (refPutOff_any off wz HOFF.out).mono ?_
      rintro e wq ⟨vq, rfl, hoq, hbq⟩
      have hyq := owns_bytes hoq (putOf_small _) (by have := putOf_length off; unfold maxLen; omega)
      clear hoq
      go_wp2
      exact ⟨rfl, hyq, rfl, hbq⟩
    · intro wz hwz
      clear hKc
      refine withLeft_is rfl rfl ?_
      refine withLeft_bytes rfl rfl ?_
      intro vv hvv
      obtain ⟨pv, cv, rfl, _⟩ := hvv.any
      have hcvv := hvv.toString (P := Try.prog) byT (d := 9) (by kernel_rfl)
      refine withLeft_nil ?_
      simp only [Act.put, List.setIfInBounds_toArray, List.set_cons_zero, List.set_cons_succ]
      refine lft_want rfl rfl rfl rfl ?_
      unfold LftRun
      go_wp2
      exact ⟨rfl, rfl, rfl, Below.refl _ _⟩
    · intro wz hwz
      clear hKc
      refine withLeft_is rfl rfl ?_
      refine withLeft_is rfl rfl ?_
      refine withLeft_is rfl rfl ?_
      refine withLeft_nil ?_
      simp only [Act.put, List.setIfInBounds_toArray, List.set_cons_zero, List.set_cons_succ]
      refine lft_want rfl rfl rfl rfl ?_
      unfold LftRun
      go_wp2
      exact ⟨rfl, rfl, rfl, Below.refl _ _⟩
    · intro wz hwz
      clear hKc
      refine withLeft_is rfl rfl ?_
      refine withLeft_is rfl rfl ?_
      refine withLeft_nil ?_
      simp only [Act.put, List.setIfInBounds_toArray, List.set_cons_zero, List.set_cons_succ]
      refine lft_run rfl rfl ?_
      exact lft_pick rfl rfl rfl
  intro wz hwz
  refine LeftEnd.is (LeftEnd.bytes (fun _ _ => LeftEnd.is (LeftEnd.is (LeftEnd.bytes (fun _ _ => LeftEnd.is (LeftEnd.is (LeftEnd.is (LeftEnd.is (LeftEnd.bytes (fun _ _ => LeftEnd.is (LeftEnd.is (LeftEnd.bytes (fun _ _ => LeftEnd.is (LeftEnd.is (LeftEnd.is (LeftEnd.is (LeftEnd.is (LeftEnd.bytes (fun _ _ => LeftEnd.is (LeftEnd.is (LeftEnd.bytes (fun _ _ => LeftEnd.is (LeftEnd.is (LeftEnd.is (LeftEnd.is (LeftEnd.is (LeftEnd.bytes (fun _ _ => LeftEnd.is (LeftEnd.is (LeftEnd.bytes (fun _ _ => LeftEnd.is (LeftEnd.is (LeftEnd.is (LeftEnd.nil ?_))))))))))))))))))))))))))))))))))
  simp only [Act.put, List.setIfInBounds_toArray, List.set_cons_zero, List.set_cons_succ]
  have HBZ : Hid (Below w.heap.size w wz) := HB9.out.trans (hwz.mono HB9.out.size)
  obtain ⟨a0, a1, a2⟩ := (HR119.out.below hwz).three
  obtain ⟨b0, b1, b2⟩ := (HR139.out.below hwz).three
  obtain ⟨d0, d1, d2⟩ := (HR159.out.below hwz).three
  obtain ⟨e0, e1, e2⟩ := (HR179.out.below hwz).three
  obtain ⟨m0, m1⟩ := (HR199.out.below hwz).two
  obtain ⟨q0, q1⟩ := (HR219.out.below hwz).two
  have hct1 := (HUR199.out.below hwz).toString (P := Try.prog) byT (d := 9) (by kernel_rfl)
  have hct2 := (HUR219.out.below hwz).toString (P := Try.prog) byT (d := 9) (by kernel_rfl)
  clear hwz
  refine hKc _ _ ?_
  clear hKc Kc
  generalize strOf (mkM b).da = MD at *
  go_wp2
  go_ret
  exact ⟨rfl, HBZ.out⟩

set_option maxRecDepth 1000000 in
theorem head_parts : ∃ f0 f1 f2 : Field, Try.prog.underlying 23 = some (.struct #[f0, f1, f2]) ∧ (f0.offset = 0 ∧ f1.offset = 1 ∧ f2.offset = 2) ∧ (f0.type = 2 ∧ f1.type = 2 ∧ f2.type = 4) :=
  ⟨_, _, _, rfl, ⟨rfl, rfl, rfl⟩, ⟨rfl, rfl, rfl⟩⟩
set_option maxRecDepth 1000000 in
theorem done_parts : ∃ f0 f1 f2 : Field, Try.prog.underlying 25 = some (.struct #[f0, f1, f2]) ∧ (f0.offset = 0 ∧ f1.offset = 1 ∧ f2.offset = 2) ∧ (f0.type = 2 ∧ f1.type = 3 ∧ f2.type = 4) :=
  ⟨_, _, _, rfl, ⟨rfl, rfl, rfl⟩, ⟨rfl, rfl, rfl⟩⟩
set_option maxRecDepth 1000000 in
theorem mark_parts : ∃ f0 f1 : Field, Try.prog.underlying 28 = some (.struct #[f0, f1]) ∧ (f0.offset = 0 ∧ f1.offset = 1) ∧ (f0.type = 2 ∧ f1.type = 26) :=
  ⟨_, _, rfl, ⟨rfl, rfl⟩, ⟨rfl, rfl⟩⟩

set_option maxRecDepth 100000 in
theorem headAll_lifted (os : Os) (started : os.Started) (H : Type) (enc : TypeId × Value → H) :
    ReturnsInHanded {} Try.checked os 3 .any (Rows.headAllSpec.pre6 enc Try.prog Try.f3 Rows.headAllRow.domain false) (Rows.headAllSpec.post enc Try.prog Try.f3 false true false false) := by
  refine returnsInHanded_of_change (C := Try.checked) own_none started (by kernel_rfl) Try.func3
    (ChangeSpec.witness6 (enc := enc) (C := Try.checked) false ⟨#[], #[.agg #[.int .i64 0, .int .i64 0, .bool false], .agg #[.int .i64 0, .int .i64 0, .bool false], .agg #[.int .i64 0, .slice none 0 0], .int .i64 0, .slice none 0 0], []⟩ 8 (by kernel_rfl) (by kernel_rfl) (by kernel_rfl) (by kernel_rfl)) ?_
  intro W base args ds gs before hval0 hW hcnd _
  have hval : ∀ (j : Nat) t v, Try.f3.params[j]? = some t → args[j]? = some v → Value.okWide Try.prog W .any base t v := hval0
  have hW' := hW
  obtain ⟨p, q, hA0, hV, rfl, hfz, hnd⟩ := hW
  have hA : DataW.TrodAll enc Try.prog W 0 (fun _ => true) true Try.f3.params.toList args.toList ds p := hA0
  have hp : Try.f3.params = #[23, 25, 28, 2, 26] := by kernel_rfl
  rw [hp] at hA hval
  obtain ⟨v0, vs0, d0, ds0, p0, q0, ha0, rfl, rfl, h0, hA⟩ := trodAll_cons hA
  obtain ⟨v1, vs1, d1, ds1, p1, q1, rfl, rfl, rfl, h1, hA⟩ := trodAll_cons hA
  obtain ⟨v2, vs2, d2, ds2, p2, q2, rfl, rfl, rfl, h2, hA⟩ := trodAll_cons hA
  obtain ⟨v3, vs3, d3, ds3, p3, q3, rfl, rfl, rfl, h3, hA⟩ := trodAll_cons hA
  obtain ⟨v4, vs4, d4, ds4, p4, q4, rfl, rfl, rfl, h4, hA⟩ := trodAll_cons hA
  obtain ⟨rfl, rfl, rfl⟩ := trodAll_nil hA
  obtain rfl : args = #[v0, v1, v2, v3, v4] := by cases args; simp_all
  obtain ⟨rfl, rfl⟩ := trodVars_none hV
  obtain ⟨_, _, _, hu0, ho0, hf0⟩ := head_parts
  obtain ⟨_, _, _, hu1, ho1, hf1⟩ := done_parts
  obtain ⟨_, _, hu2, ho2, hf2⟩ := mark_parts
  obtain ⟨n, f, tb, rfl, hn, _⟩ := open_iib (P := Try.prog) hu0 (by kernel_rfl) ho0 hf0 ⟨by kernel_rfl, by kernel_rfl, by kernel_rfl⟩ (by kernel_rfl) (by kernel_rfl) (by kernel_rfl) (hval 0 23 v0 rfl rfl) h0
  obtain ⟨df, dc, ag, rfl, hdf, _⟩ := open_iib (P := Try.prog) hu1 (by kernel_rfl) ho1 hf1 ⟨by kernel_rfl, by kernel_rfl, by kernel_rfl⟩ (by kernel_rfl) (by kernel_rfl) (by kernel_rfl) (hval 1 25 v1 rfl rfl) h1
  obtain ⟨t, u, md, rfl, ht, hu⟩ := open_ib (P := Try.prog) hu2 (by kernel_rfl) ho2 hf2 ⟨by kernel_rfl, by kernel_rfl, by kernel_rfl⟩ (by kernel_rfl) byT (hval 2 28 v2 rfl rfl) h2
  obtain ⟨off, rfl, _, _, wo⟩ := open_int (P := Try.prog) (t := 2) (k := .i64) (by kernel_rfl) (hval 3 2 v3 rfl rfl) h3
  obtain ⟨l, hl⟩ := open_bytes byT (by kernel_rfl) (hval 4 26 v4 rfl rfl) h4
  refine (headAll_any n f tb df dc ag t u md off v4 l hn hdf ht (i64_top wo) hu hl).mono fun e W' ⟨he, hb⟩ => ?_
  subst he
  exact ⟨_, rfl, law_post (tb := 4) laidOut (by rw [hp]; intro t ht; simp at ht; rcases ht with rfl | rfl | rfl | rfl | rfl <;> exact ⟨by kernel_rfl, by decide +kernel⟩) rfl rfl (by kernel_rfl) (by kernel_rfl) hW' hb⟩

theorem headAll_holds : Rows.HeadAllSaid :=
  OpenClaim.holds_of_wide 3 Try.f3 rfl rfl rfl rfl rfl rfl rfl ⟨rfl, rfl, rfl, rfl, rfl⟩ rfl rfl rfl rfl rfl (by kernel_rfl) Try.func3 (by kernel_rfl)
    (of_decide_eq_true (by kernel_rfl)) (by unfold Func.isWrapper; rw [if_neg (by decide +kernel)]; exact ⟨rfl, rfl⟩)
    (fun os started H enc _ => headAll_lifted os started H enc)
end Go.Proofs.Ytoegkdfeonkgkaa

